/-
  seats.Share answers sharesL and schk, whatever is handed in that a machine can hold; nothing that was there is written.
-/
import Derived.Test.YtedllchlhdjanaaCSParts
namespace Go.Proofs.Ytedllchlhdjanaa
open Go.RowKit Fm
set_option linter.unusedVariables false

set_option maxHeartbeats 400000 in
set_option maxRecDepth 100000 in
theorem sshareE_nil (way : Int) (a : Option Addr) (m c : Nat) (P : List Int) (h : Int) (w : World) (hL : LstS w a m c P) (hk : schk way P h ≠ 0) :
    Calls Try.prog 9 #[.int .i64 way, .slice a m c, .int .i64 h] w (ErrNil (schk way P h) w) := by
  have HC := Lib.hid (scheck_any a m c P h w hL)
  by_cases hlo : way < 1
  · have e : schk way P h = 1 := by unfold schk; rw [if_pos (.inl hlo)]
    rw [e]
    clear HC hL hk e
    go_enter Try.func9, Try.ntmps9
    go_wp2
    go_ret2
    exact ⟨rfl, Below.refl _ w⟩
  · by_cases hhi : 3 < way
    · have e : schk way P h = 1 := by unfold schk; rw [if_pos (.inr hhi)]
      rw [e]
      clear HC hL hk e
      go_enter Try.func9, Try.ntmps9
      go_wp2
      go_ret2
      exact ⟨rfl, Below.refl _ w⟩
    · have e : schk way P h = pchk P h := by unfold schk; rw [if_neg (by omega)]
      rw [e] at hk ⊢
      have hne : (pchk P h != 0) = true := by simpa using hk
      clear hk hL e
      generalize pchk P h = r at *
      go_enter Try.func9, Try.ntmps9
      go_wp2_with fail
      refine HC.out.mono ?_
      rintro e w1 ⟨rfl, rfl⟩
      clear HC
      go_wp2
      go_ret2
      exact ⟨rfl, Below.refl _ w⟩
theorem sShareE : SShareE := fun way a m c P h w hL hk => (sshareE_nil way a m c P h w hL hk).mono fun _ _ h => h.out

set_option maxHeartbeats 1000000 in
set_option maxRecDepth 100000 in
theorem sshare_own (way : Int) (a : Option Addr) (m c : Nat) (P : List Int) (h : Nat) (w : World) (hL : LstS w a m c P) (hk : schk way P h = 0) :
    Calls Try.prog 9 #[.int .i64 way, .slice a m c, .int .i64 h] w (OwnOut (sharesL way P h) w) := by
  have hw : 1 ≤ way ∧ way ≤ 3 := by
    by_cases q : way < 1 ∨ 3 < way
    · unfold schk at hk; rw [if_pos q] at hk; cases hk
    · omega
  have hp : pchk P h = 0 := by unfold schk at hk; rwa [if_neg (by omega)] at hk
  obtain ⟨p, _, hh⟩ := pchk_ok hp
  have HC := Lib.hid (scheck_any a m c P h w hL)
  rw [hp] at HC
  obtain ⟨hr, _, _⟩ := hL
  have hn := hr.1
  unfold OwnOut
  rw [shares_len, hn]
  obtain ⟨hw1, hw3⟩ := hw
  by_cases e1 : way = 1
  · subst e1
    have Q := Lib.hid (byQ_any p hn 1 (by omega) h (by omega) a c w hr)
    have e : natL m (seatT 1 m (xs P) h) = sharesL 1 P h := by unfold natL sharesL shareN; rw [hn]; rfl
    rw [e] at Q
    clear e hr hn hk hp p
    generalize sharesL 1 P h = res at *
    go_enter Try.func9, Try.ntmps9
    go_wp2_with fail
    refine HC.out.mono ?_
    rintro e w1 ⟨rfl, rfl⟩
    clear HC
    go_wp2_with fail
    refine Q.out.mono ?_
    rintro e w1 ⟨v, rfl, own, hb⟩
    clear Q
    go_wp2
    go_ret2
    exact ⟨v, rfl, own, hb⟩
  · by_cases e2 : way = 2
    · subst e2
      have Q := Lib.hid (byQ_any p hn 2 (by omega) h (by omega) a c w hr)
      have e : natL m (seatT 2 m (xs P) h) = sharesL 2 P h := by unfold natL sharesL shareN; rw [hn]; rfl
      rw [e] at Q
      clear e hr hn hk hp p e1
      generalize sharesL 2 P h = res at *
      go_enter Try.func9, Try.ntmps9
      go_wp2_with fail
      refine HC.out.mono ?_
      rintro e w1 ⟨rfl, rfl⟩
      clear HC
      go_wp2_with fail
      refine Q.out.mono ?_
      rintro e w1 ⟨v, rfl, own, hb⟩
      clear Q
      go_wp2
      go_ret2
      exact ⟨v, rfl, own, hb⟩
    · obtain rfl : way = 3 := by omega
      have Q := Lib.hid (byP_any p hn h (by omega) a c w hr)
      have e : natL m (partS m (xs P) h) = sharesL 3 P h := by unfold natL sharesL shareN; rw [hn]; rfl
      rw [e] at Q
      clear e hr hn hk hp p e1 e2
      generalize sharesL 3 P h = res at *
      go_enter Try.func9, Try.ntmps9
      go_wp2_with fail
      refine HC.out.mono ?_
      rintro e w1 ⟨rfl, rfl⟩
      clear HC
      go_wp2_with fail
      refine Q.out.mono ?_
      rintro e w1 ⟨v, rfl, own, hb⟩
      clear Q
      go_wp2
      go_ret2
      exact ⟨v, rfl, own, hb⟩
theorem sShare : SShare := fun way a m c P h w hL hk => (sshare_own way a m c P h w hL hk).mono fun _ _ h => h.ints
end Go.Proofs.Ytedllchlhdjanaa

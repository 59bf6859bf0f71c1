/-
  plumekeep.OrderOf: what it returns; nothing that was there is written.
-/
import Derived.Test.YthcaipnlgbnfkaaCSides
import Derived.Test.YthcaipnlgbnfkaaCWithin
import Derived.Test.YthcaipnlgbnfkaaCDelete
import Derived.WalkKit
import Derived.KernelRfl
import Derived.Laws.NewBlocks
namespace Go.Proofs.Ythcaipnlgbnfkaa
open Go.RowKit Fm
set_option linter.unusedVariables false

set_option maxHeartbeats 1000000 in
set_option maxRecDepth 100000 in
theorem orderOf_any (n : Nat) (a : Option Addr) (m c : Nat) (l : List Int) (w : World) (B : Nat) (hB : B ≤ w.heap.size) (hr : Rd w B a m l) (h1 : 1 ≤ n) (h6 : n ≤ 6) (hwf : ∀ x ∈ l, -9223372036854775808 ≤ x ∧ x ≤ 9223372036854775807) :
    Calls Try.prog 33 #[.int .i64 n, .slice a m c] w fun e w' => ∃ v, e = .returned v ∧ w'.ownsRow w.heap.size 3 1 v n (I (ordOf n l)) ∧ Below w.heap.size w w' := by
  have HR := Lib.hid hr
  have HW := Lib.hid hwf
  clear hr hwf
  go_enter Try.func33, Try.ntmps33
  go_wp2_with fail
  refine (sides_any n w (by omega)).mono ?_
  rintro e w1 ⟨v, rfl, hown, hb⟩
  obtain ⟨gl, cl, rfl, hg1, hg2, _⟩ := own_form hown h1
  have hz1 := hb.size
  go_wp2_with fail
  go_loopw [5, 6, 12] (fun s5 s6 i wr => ∃ k cl : Nat, k ≤ n ∧ i = .int .i64 k ∧ s5 = .slice (some ⟨gl, 0, none⟩) (n - k) cl ∧ wr.ownsRow w.heap.size 3 1 (.slice (some ⟨gl, 0, none⟩) (n - k) cl) (n - k) (I (ordTo n l k).2) ∧
      wr.ownsRow w.heap.size 3 1 s6 k (I (ordTo n l k).1) ∧ s6.ownBlock ≠ some gl ∧ Below w.heap.size w wr) (fun _ _ i _ => n - (intOf i).toNat)
  case atStart => exact ⟨0, cl, Nat.zero_le _, rfl, rfl, hown, World.ownsRow_nil _ _ _ _, by simp [Value.ownBlock], hb⟩
  case round =>
    obtain ⟨k, cl, hk, rfl, rfl, hl1, ho1, hne, hbel⟩ := hrel
    have hz := hbel.size
    have HNE := Lib.hid hne
    clear hown hb hne
    by_cases hlt : k < n
    · have hlen := ordTo_len2 n l k hk
      have hpk := pickK_lt (l := l) (left := (ordTo n l k).2) (i := k) (by omega)
      have HP : Hid ((ordTo n l (k + 1)).1 = (ordTo n l k).1 ++ [(ordTo n l k).2.getD (pickK l (ordTo n l k).2 k) 0]) := rfl
      have HQ : Hid ((ordTo n l (k + 1)).2 = (ordTo n l k).2.eraseIdx (pickK l (ordTo n l k).2 k)) := rfl
      have HK : Hid (pickK l (ordTo n l k).2 k = if k < l.length then ((l.getD k 0) % (((n - k : Nat)) : Int)).toNat else 0) := by unfold pickK; rw [hlen]; exact rfl
      rw [hlen] at hpk
      clear hlen
      generalize (ordTo n l k).1 = outs at *
      generalize (ordTo n l k).2 = lefts at *
      generalize pickK l lefts k = kk at *
      have hcl : wr.cell? ⟨gl, kk, none⟩ = some (.int .i64 (lefts.getD kk 0)) := by
        obtain ⟨g', c', hv, _, _, _, _, hc⟩ := own_form hl1 (by omega)
        injection hv with hv1
        injection hv1 with hv1
        injection hv1 with hv1
        subst hv1
        exact hc kk hpk
      have hgl : gl < wr.heap.size := (hl1.lt gl rfl).2
      have hll := (HR.out).1
      have HLL := Lib.hid hll
      clear hll
      by_cases hkm : k < m
      · obtain ⟨b, o, rfl, hbB, hca⟩ := HR.out.at_ hkm
        have hcx : wr.cell? ⟨b, o + k, none⟩ = some (.int .i64 (l.getD k 0)) := (hbel.cell (by show b < _; omega)).trans hca
        clear hca
        have hwx := HW.out (l.getD k 0) (getD_mem l k (by rw [HLL.out]; exact hkm))
        have hkk : l.getD k 0 % ((n - k : Nat) : Int) = (kk : Int) := by
          have := HK.out
          rw [HLL.out, if_pos hkm] at this
          have h0 := Int.emod_nonneg (l.getD k 0) (show ((n - k : Nat) : Int) ≠ 0 by omega)
          omega
        have HKK := Lib.hid hkk
        clear hkk
        generalize l.getD k 0 = x at *
        go_wp2_with fail
        refine (within_any x ((n - k : Nat) : Int) wr hwx.1 hwx.2 (by omega) (by omega)).mono ?_
        rintro e w' ⟨rfl, rfl⟩
        rw [HKK.out]
        go_wp2_with (at_builtin; refine push1 rfl _ _ rfl wr w.heap.size _ k outs (lefts.getD kk 0) rfl rfl (by exact ho1) hz (by omega) ?_)
        intro g cap w1 hown1 hgr hg3 hg4
        have hb1 : Below w.heap.size w w1 := hbel.grown hgr hz (own_not ho1)
        have hl2 := hl1.kept hgr (.inr (Ne.symm HNE.out))
        have hng : g ≠ gl := by
          rcases hg3 with hg3 | hg3
          · intro e; subst e; exact HNE.out hg3
          · omega
        have hz3 := hb1.size
        clear hgr hg3 ho1 hbel hl1 hcl hcx
        go_wp2_with fail
        refine (delete_own w.heap.size gl (n - k) cl kk lefts w1 hl2 hpk).mono ?_
        rintro e w2 ⟨rfl, hl3, hgr2⟩
        have hb2 : Below w.heap.size w w2 := hb1.grown hgr2 hz3 (fun j hj => by injection hj with hj; omega)
        have ho2 := hown1.kept hgr2 (.inr (by simpa [Value.ownBlock] using hng))
        have e1 : n - k - 1 = n - (k + 1) := by omega
        rw [e1] at hl3 ⊢
        clear hgr2 hown1 hl2 hb1
        go_wp2
        go_roundw
        case rel => exact ⟨k + 1, cl, by omega, by go_num, rfl, by rw [HQ.out]; exact hl3, by rw [HP.out]; exact ho2, by simpa [Value.ownBlock] using hng, hb2⟩
        case measure => simp [intOf]; omega
      · have hk0 : kk = 0 := by
          have := HK.out
          rw [HLL.out, if_neg hkm] at this
          exact this
        subst hk0
        have hcl0 : wr.cell? ⟨gl, 0, none⟩ = some (.int .i64 (lefts.getD 0 0)) := hcl
        generalize lefts.getD 0 0 = y at *
        go_wp2_with (at_builtin; refine push1 rfl _ _ rfl wr w.heap.size _ k outs y rfl rfl (by exact ho1) hz (by omega) ?_)
        intro g cap w1 hown1 hgr hg3 hg4
        have hb1 : Below w.heap.size w w1 := hbel.grown hgr hz (own_not ho1)
        have hl2 := hl1.kept hgr (.inr (Ne.symm HNE.out))
        have hng : g ≠ gl := by
          rcases hg3 with hg3 | hg3
          · intro e; subst e; exact HNE.out hg3
          · omega
        have hz3 := hb1.size
        clear hgr hg3 ho1 hbel hl1 hcl hcl0
        go_wp2_with fail
        refine (delete_own w.heap.size gl (n - k) cl 0 lefts w1 hl2 hpk).mono ?_
        rintro e w2 ⟨rfl, hl3, hgr2⟩
        have hb2 : Below w.heap.size w w2 := hb1.grown hgr2 hz3 (fun j hj => by injection hj with hj; omega)
        have ho2 := hown1.kept hgr2 (.inr (by simpa [Value.ownBlock] using hng))
        have e1 : n - k - 1 = n - (k + 1) := by omega
        rw [e1] at hl3 ⊢
        clear hgr2 hown1 hl2 hb1
        go_wp2
        go_roundw
        case rel => exact ⟨k + 1, cl, by omega, by go_num, rfl, by rw [HQ.out]; exact hl3, by rw [HP.out]; exact ho2, by simpa [Value.ownBlock] using hng, hb2⟩
        case measure => simp [intOf]; omega
    · obtain rfl : k = n := by omega
      go_wp2
      go_ret
      exact ⟨_, rfl, ho1, hbel⟩
end Go.Proofs.Ythcaipnlgbnfkaa

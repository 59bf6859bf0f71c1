/-
  A stable sort by exchanges, rotations and merges, seen as functions on places: numbers alone, no Go text.
-/
namespace Fm
set_option linter.unusedVariables false

/-- A strict total order. -/
structure STO (lt : Nat → Nat → Prop) : Prop where
  asym : ∀ a b, lt a b → ¬ lt b a
  tr : ∀ a b c, lt a b → lt b c → lt a c
  tot : ∀ a b, a ≠ b → lt a b ∨ lt b a
def Srt (lt : Nat → Nat → Prop) (a b : Nat) (d : Nat → Nat) : Prop := ∀ i j, a ≤ i → i < j → j < b → lt (d i) (d j)
/-- d' has in [a, b) what d has there, and is d elsewhere. -/
structure Mix (a b : Nat) (d d' : Nat → Nat) : Prop where
  out : ∀ k, ¬ (a ≤ k ∧ k < b) → d' k = d k
  from_ : ∀ k, a ≤ k → k < b → ∃ j, a ≤ j ∧ j < b ∧ d' k = d j
  to_ : ∀ k, a ≤ k → k < b → ∃ j, a ≤ j ∧ j < b ∧ d' j = d k
section
variable {a b c m s e i j n : Nat} {d d' d'' : Nat → Nat} {lt : Nat → Nat → Prop}
theorem Mix.refl (a b : Nat) (d : Nat → Nat) : Mix a b d d := ⟨fun _ _ => rfl, fun k h1 h2 => ⟨k, h1, h2, rfl⟩, fun k h1 h2 => ⟨k, h1, h2, rfl⟩⟩
theorem Mix.trans (h : Mix a b d d') (h' : Mix a b d' d'') : Mix a b d d'' := by
  refine ⟨fun k hk => (h'.out k hk).trans (h.out k hk), fun k h1 h2 => ?_, fun k h1 h2 => ?_⟩
  · obtain ⟨j, q1, q2, q3⟩ := h'.from_ k h1 h2
    obtain ⟨l, r1, r2, r3⟩ := h.from_ j q1 q2
    exact ⟨l, r1, r2, q3.trans r3⟩
  · obtain ⟨j, q1, q2, q3⟩ := h.to_ k h1 h2
    obtain ⟨l, r1, r2, r3⟩ := h'.to_ j q1 q2
    exact ⟨l, r1, r2, r3.trans q3⟩
theorem Mix.mono {a' b' : Nat} (h : Mix a b d d') (ha : a' ≤ a) (hb : b ≤ b') : Mix a' b' d d' := by
  refine ⟨fun k hk => h.out k (by omega), fun k h1 h2 => ?_, fun k h1 h2 => ?_⟩
  · by_cases q : a ≤ k ∧ k < b
    · obtain ⟨j, q1, q2, q3⟩ := h.from_ k q.1 q.2
      exact ⟨j, by omega, by omega, q3⟩
    · exact ⟨k, h1, h2, h.out k q⟩
  · by_cases q : a ≤ k ∧ k < b
    · obtain ⟨j, q1, q2, q3⟩ := h.to_ k q.1 q.2
      exact ⟨j, by omega, by omega, q3⟩
    · exact ⟨k, h1, h2, h.out k q⟩

def swp1 (d : Nat → Nat) (i j k : Nat) : Nat := if k = i then d j else if k = j then d i else d k
/-- [a, a+n) and [b, b+n) exchanged. -/
def swF (d : Nat → Nat) (a b n k : Nat) : Nat := if a ≤ k ∧ k < a + n then d (b + (k - a)) else if b ≤ k ∧ k < b + n then d (a + (k - b)) else d k
/-- [a, m) and [m, b) in the other order. -/
def rotF (d : Nat → Nat) (a m b k : Nat) : Nat := if a ≤ k ∧ k < a + (b - m) then d (k + (m - a)) else if a + (b - m) ≤ k ∧ k < b then d (k - (b - m)) else d k
theorem swF_zero (d : Nat → Nat) (a b : Nat) : swF d a b 0 = d := by
  funext k; unfold swF; rw [if_neg (by omega), if_neg (by omega)]
theorem swF_succ (d : Nat → Nat) (h : a + n < b) : swp1 (swF d a b n) (a + n) (b + n) = swF d a b (n + 1) := by
  funext k
  simp only [swp1, swF]
  repeat' split
  all_goals first | (exfalso; omega) | rfl | (congr 1; omega)
theorem rot_same (d : Nat → Nat) (h : a = m ∨ m = b) (ha : a ≤ m) (hb : m ≤ b) : rotF d a m b = d := by
  funext k
  simp only [rotF]
  repeat' split
  all_goals first | (exfalso; omega) | rfl | (congr 1; omega)
theorem rot_gt (d : Nat → Nat) (h : j < i) (hi : i ≤ m) : rotF (swF d (m - i) m j) (m - (i - j)) m (m + j) = rotF d (m - i) m (m + j) := by
  funext k
  simp only [rotF, swF]
  repeat' split
  all_goals first | (exfalso; omega) | rfl | (congr 1; omega)
theorem rot_lt (d : Nat → Nat) (h : i < j) (hi : i ≤ m) : rotF (swF d (m - i) (m + j - i) i) (m - i) m (m + (j - i)) = rotF d (m - i) m (m + j) := by
  funext k
  simp only [rotF, swF]
  repeat' split
  all_goals first | (exfalso; omega) | rfl | (congr 1; omega)
theorem rot_eq (d : Nat → Nat) (hi : i ≤ m) : swF d (m - i) m i = rotF d (m - i) m (m + i) := by
  funext k
  simp only [rotF, swF]
  repeat' split
  all_goals first | (exfalso; omega) | rfl | (congr 1; omega)
theorem rot_up (d : Nat → Nat) (h : a ≤ c) : swp1 (rotF d a (a + 1) (c + 1)) c (c + 1) = rotF d a (a + 1) (c + 2) := by
  funext k
  simp only [swp1, rotF]
  repeat' split
  all_goals first | (exfalso; omega) | rfl | (congr 1; omega)
theorem rot_down (d : Nat → Nat) (h : c + 1 ≤ m) : swp1 (rotF d (c + 1) m (m + 1)) (c + 1) c = rotF d c m (m + 1) := by
  funext k
  simp only [swp1, rotF]
  repeat' split
  all_goals first | (exfalso; omega) | rfl | (congr 1; omega)
theorem mix_rot (d : Nat → Nat) (h1 : a ≤ m) (h2 : m ≤ b) : Mix a b d (rotF d a m b) := by
  refine ⟨fun k hk => ?_, fun k q1 q2 => ?_, fun k q1 q2 => ?_⟩
  · unfold rotF; rw [if_neg (by omega), if_neg (by omega)]
  · unfold rotF
    by_cases q : k < a + (b - m)
    · rw [if_pos (by omega)]; exact ⟨_, by omega, by omega, rfl⟩
    · rw [if_neg (by omega), if_pos (by omega)]; exact ⟨_, by omega, by omega, rfl⟩
  · by_cases q : k < m
    · refine ⟨k + (b - m), by omega, by omega, ?_⟩
      unfold rotF
      rw [if_neg (by omega), if_pos (by omega)]
      congr 1; omega
    · refine ⟨k - (m - a), by omega, by omega, ?_⟩
      unfold rotF
      rw [if_pos (by omega)]
      congr 1; omega

/-- What lies before x0 and what lies behind y0. -/
theorem far_lt (o : STO lt) {a m a' m' x x0 y0 y : Nat} (h1 : Srt lt a m d) (h2 : Srt lt a' m' d) (hx : a ≤ x) (hx0 : x ≤ x0) (hm : x0 < m) (hy0 : a' ≤ y0) (hy : y0 ≤ y) (hm' : y < m') (h : lt (d x0) (d y0)) : lt (d x) (d y) := by
  have q1 : lt (d x) (d y0) := by
    by_cases e : x = x0
    · rw [e]; exact h
    · exact o.tr _ _ _ (h1 x x0 hx (by omega) hm) h
  by_cases e : y0 = y
  · rw [← e]; exact q1
  · exact o.tr _ _ _ q1 (h2 y0 y hy0 (by omega) hm')
/-- The four parts behind the rotation, where they came from. -/
theorem rot_at (d : Nat → Nat) (h1 : s ≤ m) (h2 : m ≤ e) (k : Nat) :
    (k < s → rotF d s m e k = d k) ∧ (s ≤ k → k < s + (e - m) → rotF d s m e k = d (k + (m - s))) ∧ (s + (e - m) ≤ k → k < e → rotF d s m e k = d (k - (e - m))) ∧ (e ≤ k → rotF d s m e k = d k) := by
  unfold rotF
  refine ⟨fun h => ?_, fun h q => ?_, fun h q => ?_, fun h => ?_⟩
  · rw [if_neg (by omega), if_neg (by omega)]
  · rw [if_pos (by omega)]
  · rw [if_neg (by omega), if_pos (by omega)]
  · rw [if_neg (by omega), if_neg (by omega)]
/-- One sorted row out of a rotation. -/
theorem rot_srt (o : STO lt) (h1 : Srt lt a m d) (h2 : Srt lt m b d) (has : a ≤ s) (hsm : s ≤ m) (hme : m ≤ e) (heb : e ≤ b)
    (q1 : a < s → m < e → lt (d (s - 1)) (d m)) (q2 : m < e → s < m → lt (d (e - 1)) (d s)) (q3 : s < m → e < b → lt (d (m - 1)) (d e)) (q4 : a < s → e < b → lt (d (s - 1)) (d e)) : Srt lt a b (rotF d s m e) := by
  intro x y hx hxy hy
  obtain ⟨x1, x2, x3, x4⟩ := rot_at d hsm hme x
  obtain ⟨y1, y2, y3, y4⟩ := rot_at d hsm hme y
  by_cases c1 : x < s
  · rw [x1 c1]
    by_cases d1 : y < s
    · rw [y1 d1]; exact h1 x y hx hxy (by omega)
    · by_cases d2 : y < s + (e - m)
      · rw [y2 (by omega) d2]
        exact far_lt o h1 h2 hx (show x ≤ s - 1 by omega) (by omega) (Nat.le_refl m) (by omega) (by omega) (q1 (by omega) (by omega))
      · by_cases d3 : y < e
        · rw [y3 (by omega) d3]; exact h1 _ _ hx (by omega) (by omega)
        · rw [y4 (by omega)]
          exact far_lt o h1 h2 hx (show x ≤ s - 1 by omega) (by omega) (show m ≤ e by omega) (by omega) (by omega) (q4 (by omega) (by omega))
  · by_cases c2 : x < s + (e - m)
    · rw [x2 (by omega) c2]
      by_cases d2 : y < s + (e - m)
      · rw [y2 (by omega) d2]; exact h2 _ _ (by omega) (by omega) (by omega)
      · by_cases d3 : y < e
        · rw [y3 (by omega) d3]
          exact far_lt o h2 h1 (by omega) (show x + (m - s) ≤ e - 1 by omega) (by omega) (show a ≤ s by omega) (by omega) (by omega) (q2 (by omega) (by omega))
        · rw [y4 (by omega)]; exact h2 _ _ (by omega) (by omega) (by omega)
    · by_cases c3 : x < e
      · rw [x3 (by omega) c3]
        by_cases d3 : y < e
        · rw [y3 (by omega) d3]; exact h1 _ _ (by omega) (by omega) (by omega)
        · rw [y4 (by omega)]
          exact far_lt o h1 h2 (by omega) (show x - (e - m) ≤ m - 1 by omega) (by omega) (show m ≤ e by omega) (by omega) (by omega) (q3 (by omega) (by omega))
      · rw [x4 (by omega), y4 (by omega)]
        exact h2 _ _ (by omega) (by omega) (by omega)
/-- The middle of a merge: two halves, all of the first before all of the second. -/
theorem rot_half (o : STO lt) (h1 : Srt lt a m d) (h2 : Srt lt m b d) (has : a ≤ s) (hsm : s ≤ m) (hme : m ≤ e) (heb : e ≤ b)
    (q2 : m < e → s < m → lt (d (e - 1)) (d s)) (q4 : a < s → e < b → lt (d (s - 1)) (d e)) :
    ∀ x y, a ≤ x → x < s + (e - m) → s + (e - m) ≤ y → y < b → lt (rotF d s m e x) (rotF d s m e y) := by
  intro x y hx hx2 hy hy2
  obtain ⟨x1, x2, x3, x4⟩ := rot_at d hsm hme x
  obtain ⟨y1, y2, y3, y4⟩ := rot_at d hsm hme y
  by_cases c1 : x < s
  · rw [x1 c1]
    by_cases d3 : y < e
    · rw [y3 (by omega) d3]; exact h1 _ _ hx (by omega) (by omega)
    · rw [y4 (by omega)]
      exact far_lt o h1 h2 hx (show x ≤ s - 1 by omega) (by omega) (show m ≤ e by omega) (by omega) (by omega) (q4 (by omega) (by omega))
  · rw [x2 (by omega) hx2]
    by_cases d3 : y < e
    · rw [y3 (by omega) d3]
      exact far_lt o h2 h1 (by omega) (show x + (m - s) ≤ e - 1 by omega) (by omega) (show a ≤ s by omega) (by omega) (by omega) (q2 (by omega) (by omega))
    · rw [y4 (by omega)]; exact h2 _ _ (by omega) (by omega) (by omega)
theorem rot_parts (h1 : Srt lt a m d) (h2 : Srt lt m b d) (has : a ≤ s) (hsm : s ≤ m) (hme : m ≤ e) (heb : e ≤ b) :
    Srt lt a s (rotF d s m e) ∧ Srt lt s (s + (e - m)) (rotF d s m e) ∧ Srt lt (s + (e - m)) e (rotF d s m e) ∧ Srt lt e b (rotF d s m e) := by
  refine ⟨fun x y hx hxy hy => ?_, fun x y hx hxy hy => ?_, fun x y hx hxy hy => ?_, fun x y hx hxy hy => ?_⟩ <;>
    obtain ⟨x1, x2, x3, x4⟩ := rot_at d hsm hme x <;> obtain ⟨y1, y2, y3, y4⟩ := rot_at d hsm hme y
  · rw [x1 (by omega), y1 (by omega)]; exact h1 _ _ (by omega) (by omega) (by omega)
  · rw [x2 (by omega) (by omega), y2 (by omega) (by omega)]; exact h2 _ _ (by omega) (by omega) (by omega)
  · rw [x3 (by omega) (by omega), y3 (by omega) (by omega)]; exact h1 _ _ (by omega) (by omega) (by omega)
  · rw [x4 (by omega), y4 (by omega)]; exact h2 _ _ (by omega) (by omega) (by omega)
/-- Each of [a, m) is a smaller number than each of [m, b). -/
def Crs (a m b : Nat) (d : Nat → Nat) : Prop := ∀ i j, a ≤ i → i < m → m ≤ j → j < b → d i < d j
theorem rot_crs (h : Crs a m b d) (has : a ≤ s) (hsm : s ≤ m) (hme : m ≤ e) (heb : e ≤ b) : Crs a s (s + (e - m)) (rotF d s m e) ∧ Crs (s + (e - m)) e b (rotF d s m e) := by
  refine ⟨fun x y hx hx2 hy hy2 => ?_, fun x y hx hx2 hy hy2 => ?_⟩ <;>
    obtain ⟨x1, x2, x3, x4⟩ := rot_at d hsm hme x <;> obtain ⟨y1, y2, y3, y4⟩ := rot_at d hsm hme y
  · rw [x1 (by omega), y2 (by omega) (by omega)]; exact h _ _ (by omega) (by omega) (by omega) (by omega)
  · rw [x3 (by omega) (by omega), y4 (by omega)]; exact h _ _ (by omega) (by omega) (by omega) (by omega)
theorem Mix.srt_out {x y : Nat} (h : Mix a b d d') (hs : Srt lt x y d) (hd : y ≤ a ∨ b ≤ x) : Srt lt x y d' := fun i j h1 h2 h3 => by
  rw [h.out i (by omega), h.out j (by omega)]; exact hs i j h1 h2 h3
theorem Mix.crs_out {x y z : Nat} (h : Mix a b d d') (hs : Crs x y z d) (hd : z ≤ a ∨ b ≤ x) (hxy : x ≤ y) (hyz : y ≤ z) : Crs x y z d' := fun i j h1 h2 h3 h4 => by
  rw [h.out i (by omega), h.out j (by omega)]; exact hs i j h1 h2 h3 h4
/-- Two sorted halves, all of the first before all of the second. -/
theorem halves (o : STO lt) {mid : Nat} (ham : a ≤ mid) (hmb : mid ≤ b) (hlt : ∀ x y, a ≤ x → x < mid → mid ≤ y → y < b → lt (d x) (d y)) (m1 : Mix a mid d d') (s1 : Srt lt a mid d') (m2 : Mix mid b d' d'') (s2 : Srt lt mid b d'') : Srt lt a b d'' := by
  intro x y hx hxy hy
  by_cases c1 : y < mid
  · rw [m2.out x (by omega), m2.out y (by omega)]; exact s1 x y hx hxy c1
  · by_cases c2 : mid ≤ x
    · exact s2 x y c2 hxy hy
    · rw [m2.out x (by omega)]
      obtain ⟨x', p1, p2, p3⟩ := m1.from_ x hx (by omega)
      obtain ⟨y', r1, r2, r3⟩ := m2.from_ y (by omega) hy
      rw [p3, r3, m1.out y' (by omega)]
      exact hlt x' y' p1 p2 r1 r2

/-- The end of a merge. -/
theorem sym_fin (o : STO lt) {mid : Nat} {d2 d3 : Nat → Nat} (h1 : Srt lt a m d) (h2 : Srt lt m b d) (has : a ≤ s) (hsm : s ≤ m) (hme : m ≤ e) (heb : e ≤ b) (hmid : s + (e - m) = mid)
    (q2 : m < e → s < m → lt (d (e - 1)) (d s)) (q4 : a < s → e < b → lt (d (s - 1)) (d e)) (m1 : Mix a mid (rotF d s m e) d2) (s1 : Srt lt a mid d2) (m2 : Mix mid b d2 d3) (s2 : Srt lt mid b d3) : Mix a b d d3 ∧ Srt lt a b d3 := by
  subst hmid
  refine ⟨?_, halves o (by omega) (by omega) (rot_half o h1 h2 has hsm hme heb q2 q4) m1 s1 m2 s2⟩
  exact (((mix_rot d hsm hme).mono has heb).trans (m1.mono (Nat.le_refl _) (by omega))).trans (m2.mono (by omega) (Nat.le_refl _))

/-- [a, b) sorted, and just the numbers a .. b - 1. -/
structure Seg (lt : Nat → Nat → Prop) (a b : Nat) (d : Nat → Nat) : Prop where
  srt : Srt lt a b d
  in_ : ∀ k, a ≤ k → k < b → a ≤ d k ∧ d k < b
  on : ∀ k, a ≤ k → k < b → ∃ j, a ≤ j ∧ j < b ∧ d j = k
theorem Seg.out_ {x y : Nat} (h : Seg lt x y d) (hm : Mix a b d d') (hd : y ≤ a ∨ b ≤ x) : Seg lt x y d' := by
  refine ⟨hm.srt_out h.srt hd, fun k h1 h2 => ?_, fun k h1 h2 => ?_⟩
  · rw [hm.out k (by omega)]; exact h.in_ k h1 h2
  · obtain ⟨j, q1, q2, q3⟩ := h.on k h1 h2
    exact ⟨j, q1, q2, by rw [hm.out j (by omega)]; exact q3⟩
theorem Seg.crs (h1 : Seg lt a m d) (h2 : Seg lt m b d) : Crs a m b d := fun i j q1 q2 q3 q4 => by
  have := h1.in_ i q1 q2; have := h2.in_ j q3 q4; omega
theorem Seg.join (h1 : Seg lt a m d) (h2 : Seg lt m b d) (ham : a ≤ m) (hmb : m ≤ b) (hm : Mix a b d d') (hs : Srt lt a b d') : Seg lt a b d' := by
  refine ⟨hs, fun k q1 q2 => ?_, fun k q1 q2 => ?_⟩
  · obtain ⟨j, r1, r2, r3⟩ := hm.from_ k q1 q2
    rw [r3]
    by_cases c : j < m
    · have := h1.in_ j r1 c; omega
    · have := h2.in_ j (by omega) r2; omega
  · have : ∃ j, a ≤ j ∧ j < b ∧ d j = k := by
      by_cases c : k < m
      · obtain ⟨j, r1, r2, r3⟩ := h1.on k q1 c
        exact ⟨j, r1, by omega, r3⟩
      · obtain ⟨j, r1, r2, r3⟩ := h2.on k (by omega) q2
        exact ⟨j, by omega, r2, r3⟩
    obtain ⟨j, r1, r2, r3⟩ := this
    obtain ⟨l, p1, p2, p3⟩ := hm.to_ j r1 r2
    exact ⟨l, p1, p2, p3.trans r3⟩
/-- Out of a part where d is the places themselves. -/
theorem Seg.of_mix (hid : ∀ k, a ≤ k → k < b → d k = k) (hm : Mix a b d d') (hs : Srt lt a b d') : Seg lt a b d' := by
  refine ⟨hs, fun k q1 q2 => ?_, fun k q1 q2 => ?_⟩
  · obtain ⟨j, r1, r2, r3⟩ := hm.from_ k q1 q2
    rw [r3, hid j r1 r2]; exact ⟨r1, r2⟩
  · obtain ⟨j, r1, r2, r3⟩ := hm.to_ k q1 q2
    exact ⟨j, r1, r2, by rw [r3, hid k q1 q2]⟩
/-- The next in a sorted row: who has not come yet and is before all others that have not. -/
theorem Seg.next (o : STO lt) (h : Seg lt 0 n d) {t e : Nat} (ht : t < n) (he : e < n) (h1 : ∀ u, u < t → d u ≠ e) (h2 : ∀ f, f < n → (∀ u, u < t → d u ≠ f) → f ≠ e → lt e f) : d t = e := by
  by_cases q : d t = e
  · exact q
  · exfalso
    have hne : ∀ u, u < t → d u ≠ d t := fun u hu hh => by
      have := h.srt u t (by omega) hu ht
      rw [hh] at this
      exact o.asym _ _ this this
    have r1 := h2 (d t) (h.in_ t (by omega) ht).2 hne q
    obtain ⟨u, _, hu, hue⟩ := h.on e (by omega) he
    have hut : t < u := by
      by_cases c : u < t
      · exact absurd hue (h1 u c)
      · by_cases c2 : u = t
        · subst c2; exact absurd hue q
        · omega
    have r2 := h.srt t u (by omega) hut hu
    rw [hue] at r2
    exact o.asym _ _ r1 r2
end
end Fm

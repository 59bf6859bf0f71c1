/-
  A table whose entries are negated, as the machine negates them: lists alone, no Go text.
-/
import Derived.Test.YtimjepakdldacaaEquilMath
import Derived.Test.YtimjepakdldacaaPureA
namespace Go.Proofs.Ytimjepakdldacaa
open Go.RowKit Fm
set_option linter.unusedVariables false

def negW (x : Int) : Int := wrap64 (-x)
def negT (L : List (List Int)) : List (List Int) := L.map fun r => r.map negW
theorem negW_eq {x : Int} (h1 : -1000 ≤ x) (h2 : x ≤ 1000) : negW x = -x := by
  unfold negW wrap64
  omega
theorem neg_pay {r k : Nat} {M : List (List Int)} (p : Pay r k M) : Pay r k (negT M) where
  len := by simp [negT, p.len]
  r1 := p.r1
  r6 := p.r6
  k1 := p.k1
  k6 := p.k6
  rows l hl := by
    unfold negT at hl
    rw [List.mem_map] at hl
    obtain ⟨q, hq, rfl⟩ := hl
    rw [List.length_map, p.rows q hq]
  bd l hl x hx := by
    unfold negT at hl
    rw [List.mem_map] at hl
    obtain ⟨q, hq, rfl⟩ := hl
    rw [List.mem_map] at hx
    obtain ⟨y, hy, rfl⟩ := hx
    have := p.bd q hq y hy
    rw [negW_eq this.1 this.2]
    omega
theorem neg_ent {r k : Nat} {M : List (List Int)} (p : Pay r k M) {x y : Nat} (hx : x < r) (hy : y < k) : ent (negT M) x y = -ent M x y := by
  have hl := p.row hx
  have hb := p.ent x y
  unfold ent negT
  rw [List.getD_eq_getElem?_getD (i := x), List.getElem?_map, List.getElem?_eq_getElem (by rw [p.len]; exact hx)]
  have e : M[x]'(by rw [p.len]; exact hx) = M.getD x [] := by rw [List.getD_eq_getElem?_getD, List.getElem?_eq_getElem (by rw [p.len]; exact hx)]; rfl
  show ((M[x]'(by rw [p.len]; exact hx)).map negW).getD y 0 = _
  rw [e, List.getD_eq_getElem?_getD, List.getElem?_map, List.getElem?_eq_getElem (by rw [hl]; exact hy)]
  have e2 : (M.getD x [])[y]'(by rw [hl]; exact hy) = ent M x y := by unfold ent; rw [List.getD_eq_getElem?_getD (i := y), List.getElem?_eq_getElem (by rw [hl]; exact hy)]; rfl
  show negW ((M.getD x [])[y]'(by rw [hl]; exact hy)) = -ent M x y
  rw [e2, negW_eq hb.1 hb.2]
theorem neg_rmax {r k : Nat} {M : List (List Int)} (p : Pay r k M) {x : Nat} (hx : x < r) : rmax (negT M) x = -rmin M x := by
  have pn := neg_pay p
  obtain ⟨y, hy, e⟩ := rmax_at pn hx
  obtain ⟨z, hz, e2⟩ := rmin_at p hx
  have h1 := rmin_le p hx hy
  have h2 := rmax_ge pn hx hz
  rw [neg_ent p hx hy] at e
  rw [neg_ent p hx hz] at h2
  omega
theorem neg_pts {r k : Nat} {M : List (List Int)} (p : Pay r k M) : eqA M (negT M) k r = ptA M k r := by
  rw [← selA_pt]
  refine selA_congr r (fun x y hx hy => ?_)
  unfold isEq isPt
  rw [neg_rmax p hx, neg_ent p hx hy, Bool.and_comm]
  congr 1
  rw [decide_eq_decide]
  omega
theorem negT_take {L : List (List Int)} {x : Nat} (hx : x < L.length) : negT (L.take x) ++ [(L.getD x []).map negW] = negT (L.take (x + 1)) := by
  unfold negT
  rw [List.take_add_one, List.map_append, List.getD_eq_getElem?_getD, List.getElem?_eq_getElem hx]
  rfl
end Go.Proofs.Ytimjepakdldacaa

/-
  The document's lengths, in plain numbers: its symbols and weights are those of the counts with a second one used.
-/
import Derived.Test.YtfdoppeijgianaaLens
namespace Go.Proofs.Ytfdoppeijgianaa
set_option linter.unusedVariables false
set_option linter.unusedSimpArgs false

/-- Just one is used, and not the first. -/
theorem one_back (zs : List Nat) (h2 : 2 ≤ zs.length) (s c : Nat) (hs : 0 < s) (hu : usedL 0 zs = [s]) (hw : wsOf zs = [c]) : usedL 0 (pairedL zs) = [0, s] ∧ wsOf (pairedL zs) = [1, c] := by
  unfold pairedL
  rw [hu]
  simp only [List.length_cons, List.length_nil, Nat.zero_add, beq_self_eq_true, cond_true]
  match zs, h2 with
  | 0 :: r, _ =>
    simp only [usedL, Nat.zero_add] at hu
    simp only [wsOf] at hw
    simp [idx0, usedL, wsOf, hu, hw]
  | (z + 1) :: r, _ =>
    simp only [usedL] at hu
    simp at hu; omega
/-- Just the first is used. -/
theorem one_first (zs : List Nat) (h2 : 2 ≤ zs.length) (c : Nat) (hu : usedL 0 zs = [0]) (hw : wsOf zs = [c]) : usedL 0 (pairedL zs) = [0, 1] ∧ wsOf (pairedL zs) = [c, 1] := by
  unfold pairedL
  rw [hu]
  simp only [List.length_cons, List.length_nil, Nat.zero_add, beq_self_eq_true, cond_true]
  match zs, h2 with
  | 0 :: r, _ =>
    simp only [usedL, Nat.zero_add] at hu
    have := usedL_lt r 1 0 (by rw [hu]; simp)
    omega
  | (z + 1) :: 0 :: r, _ =>
    simp only [usedL, wsOf, Nat.zero_add, List.cons.injEq, true_and] at hu hw
    have hu' : usedL 2 r = [] := hu
    obtain ⟨rfl, hw⟩ := hw
    simp [idx0, usedL, wsOf, hu', hw]
  | (z + 1) :: (y + 1) :: r, _ => simp [usedL] at hu
theorem not_one (zs : List Nat) (h : ¬ (usedL 0 zs).length = 1) : pairedL zs = zs := by
  unfold pairedL
  rw [show ((usedL 0 zs).length == 1) = false by simpa using h]; rfl
theorem spread_setk : ∀ (ys : List Nat) (i : Nat) (ds : List Nat) (k d : Nat) (hk : k < ds.length) (hu : k < (usedL i ys).length), (spread ys ds).set ((usedL i ys)[k] - i) d = spread ys (ds.set k d)
  | [], _, _, _, _, _, hu => by simp [usedL] at hu
  | 0 :: r, i, ds, k, d, hk, hu => by
    have := spread_setk r (i + 1) ds k d hk hu
    have h2 := (usedL_lt r (i + 1) _ (List.getElem_mem (show k < (usedL (i + 1) r).length from hu))).1
    simp only [usedL, spread]
    rw [show (usedL (i + 1) r)[k] - i = (usedL (i + 1) r)[k] - (i + 1) + 1 by omega, List.set_cons_succ, this]
  | (c + 1) :: r, i, x :: ds, 0, d, hk, hu => by simp [usedL, spread]
  | (c + 1) :: r, i, x :: ds, k + 1, d, hk, hu => by
    have h' : k < (usedL (i + 1) r).length := by simpa [usedL] using hu
    have := spread_setk r (i + 1) ds k d (by simpa using hk) h'
    have h2 := (usedL_lt r (i + 1) _ (List.getElem_mem h')).1
    simp only [usedL, spread, List.getElem_cons_succ, List.set_cons_succ]
    rw [show (usedL (i + 1) r)[k] - i = (usedL (i + 1) r)[k] - (i + 1) + 1 by omega, List.set_cons_succ, this]
theorem spread_zero : ∀ (ys : List Nat) (m : Nat), spread ys (List.replicate m 0) = List.replicate ys.length 0
  | [], _ => rfl
  | 0 :: r, m => by simp [spread, spread_zero r, List.replicate_succ]
  | (c + 1) :: r, 0 => by simpa [spread, List.replicate_succ] using spread_nil r
  | (c + 1) :: r, m + 1 => by simp [spread, spread_zero r, List.replicate_succ]
theorem spread_max : ∀ (ys ds : List Nat), ds.length = (wsOf ys).length → maxL (spread ys ds) = maxL ds
  | [], ds, h => by rw [List.length_eq_zero_iff.1 h]; rfl
  | 0 :: r, ds, h => by simp only [spread, maxL, spread_max r ds h]; omega
  | (c + 1) :: r, d :: ds, h => by simp only [spread, maxL]; rw [spread_max r ds (by simpa [wsOf] using h)]
  | (c + 1) :: r, [], h => by simp [wsOf] at h
/-- The first t are new. -/
def mixL (ds A : List Nat) (t : Nat) : List Nat := ds.take t ++ A.drop t
theorem mixL_set (ds A : List Nat) (t : Nat) (h : t < ds.length) (hA : A.length = ds.length) : (mixL ds A t).set t ds[t] = mixL ds A (t + 1) := by
  unfold mixL
  have hl : (ds.take t).length = t := by rw [List.length_take]; omega
  rw [List.set_append_right _ _ (by omega), hl, Nat.sub_self, List.drop_eq_getElem_cons (by omega), List.set_cons_zero, List.take_succ_eq_append_getElem h, List.append_assoc]
  rfl
theorem mixL_length (ds A : List Nat) (t : Nat) (h : t ≤ ds.length) (hA : A.length = ds.length) : (mixL ds A t).length = ds.length := by
  unfold mixL; simp; omega
theorem len_one {l : List Nat} (h : l.length = 1) : ∃ x, l = [x] := by
  match l, h with
  | [x], _ => exact ⟨x, rfl⟩

end Go.Proofs.Ytfdoppeijgianaa

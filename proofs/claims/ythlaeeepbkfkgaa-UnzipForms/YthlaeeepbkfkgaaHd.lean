/-
  A head in plain bytes: told, and read again (no program in sight).
-/
import Derived.Test.YthlaeeepbkfkgaaWnum
namespace Go.Proofs.Ythlaeeepbkfkgaa
open Go.RowKit
set_option linter.unusedVariables false
set_option linter.unusedSimpArgs false

/-- May a head be? -/
def headB (ys : List Int) (st nd : Int) : Bool := mayB ys && (decide (1 ≤ st ∧ st ≤ 1048576) && decide (0 ≤ nd ∧ nd < 4))
/-- A vector's bytes; a head's bytes. -/
def vecS (ys : List Int) : List Nat := ys.flatMap (fun y => le 4 y.toNat)
def putL (ys : List Int) (st nd : Int) (g : Bool) : List Nat := (le 2 20592 ++ le 2 22) ++ vecS ys ++ (le 4 st.toNat ++ le 1 nd.toNat ++ le 1 g.toNat)
/-- What Put answers. -/
def pErr (ys : List Int) (st nd : Int) : Int := bif headB ys st nd then 0 else 1200
def putT (ys : List Int) (st nd : Int) (g : Bool) : ByteArray := textOf (bif headB ys st nd then putL ys st nd g else [])
/-- The number of k bytes from o on. -/
def nAt (L : List Nat) (o k : Nat) : Nat := num ((L.drop o).take k)
def vecL (L : List Nat) : List Int := [(nAt L 4 4 : Int), (nAt L 8 4 : Int), (nAt L 12 4 : Int), (nAt L 16 4 : Int)]
def stL (L : List Nat) : Int := (nAt L 20 4 : Int)
def ndL (L : List Nat) : Int := (nAt L 24 1 : Int)
def gnL (L : List Nat) : Bool := decide (nAt L 25 1 ≠ 0)
/-- Is it a head's? What Get answers. -/
def gOk (L : List Nat) : Bool := headB (vecL L) (stL L) (ndL L) && decide (putL (vecL L) (stL L) (ndL L) (gnL L) = L)
def gErr (L : List Nat) : Int := bif gOk L then 0 else 1200
def gVec (L : List Nat) : List Int := bif gOk L then vecL L else []
def gSt (L : List Nat) : Int := bif gOk L then stL L else 0
def gNd (L : List Nat) : Int := bif gOk L then ndL L else 0
def gGn (L : List Nat) : Bool := gOk L && gnL L

theorem headB_may {ys : List Int} {st nd : Int} (h : headB ys st nd = true) : mayB ys = true := by
  simp only [headB, Bool.and_eq_true] at h; exact h.1
theorem headB_st {ys : List Int} {st nd : Int} (h : headB ys st nd = true) : (1 ≤ st ∧ st ≤ 1048576) ∧ (0 ≤ nd ∧ nd < 4) := by
  simp only [headB, Bool.and_eq_true, decide_eq_true_eq] at h; exact h.2
theorem headB_of {ys : List Int} {st nd : Int} (h : mayB ys = true) (h1 : 1 ≤ st ∧ st ≤ 1048576) (h2 : 0 ≤ nd ∧ nd < 4) : headB ys st nd = true := by
  simp only [headB, Bool.and_eq_true, decide_eq_true_eq]; exact ⟨h, h1, h2⟩
theorem four_of {ys : List Int} (h : ys.length = 4) : ∃ a b c d, ys = [a, b, c, d] := by
  match ys, h with
  | [a, b, c, d], _ => exact ⟨a, b, c, d, rfl⟩
theorem vecS_len (ys : List Int) : (vecS ys).length = 4 * ys.length := by
  induction ys with
  | nil => rfl
  | cons y r ih => simp only [vecS, List.flatMap_cons, List.length_append, le_len, List.length_cons] at ih ⊢; omega
theorem vecS_snoc (ys : List Int) (y : Int) : vecS (ys ++ [y]) = vecS ys ++ le 4 y.toNat := by simp [vecS]
theorem putL_len {ys : List Int} (h : ys.length = 4) (st nd : Int) (g : Bool) : (putL ys st nd g).length = 26 := by
  simp only [putL, List.length_append, le_len, vecS_len, h]
theorem putL_lt (ys : List Int) (st nd : Int) (g : Bool) : ∀ y ∈ putL ys st nd g, y < 256 := by
  intro y hy
  simp only [putL, vecS, List.mem_append, List.mem_flatMap] at hy
  rcases hy with ((h | h) | ⟨_, _, h⟩) | ((h | h) | h) <;> exact le_lt _ _ y h
theorem putL_four (a b c d st nd : Int) (g : Bool) : putL [a, b, c, d] st nd g = [112, 80, 22, 0,
    a.toNat % 256, a.toNat / 256 % 256, a.toNat / 65536 % 256, a.toNat / 16777216 % 256,
    b.toNat % 256, b.toNat / 256 % 256, b.toNat / 65536 % 256, b.toNat / 16777216 % 256,
    c.toNat % 256, c.toNat / 256 % 256, c.toNat / 65536 % 256, c.toNat / 16777216 % 256,
    d.toNat % 256, d.toNat / 256 % 256, d.toNat / 65536 % 256, d.toNat / 16777216 % 256,
    st.toNat % 256, st.toNat / 256 % 256, st.toNat / 65536 % 256, st.toNat / 16777216 % 256,
    nd.toNat % 256, g.toNat % 256] := by
  simp [putL, vecS, le_four, le_two, le_one]
theorem num_four (n : Nat) (h : n < 4294967296) : n % 256 + 256 * (n / 256 % 256 + 256 * (n / 65536 % 256 + 256 * (n / 16777216 % 256 + 256 * 0))) = n := by omega
/-- What was told is read. -/
theorem put_read {ys : List Int} {st nd : Int} (g : Bool) (h : headB ys st nd = true) :
    vecL (putL ys st nd g) = ys ∧ stL (putL ys st nd g) = st ∧ ndL (putL ys st nd g) = nd ∧ gnL (putL ys st nd g) = g ∧ nAt (putL ys st nd g) 25 1 = g.toNat := by
  have hm := headB_may h
  obtain ⟨hs, hn⟩ := headB_st h
  obtain ⟨a, b, c, d, rfl⟩ := four_of (mayB_len hm)
  have ha := mayB_cnt hm 0
  have hb := mayB_cnt hm 1
  have hc := mayB_cnt hm 2
  have hd := mayB_cnt hm 3
  simp only [at_, List.getD, List.getElem?_cons_zero, List.getElem?_cons_succ, Option.getD_some] at ha hb hc hd
  rw [putL_four]
  refine ⟨?_, ?_, ?_, ?_, ?_⟩
  · simp only [vecL, nAt, List.drop_succ_cons, List.drop_zero, List.take_succ_cons, List.take_zero, num]
    rw [num_four _ (by omega), num_four _ (by omega), num_four _ (by omega), num_four _ (by omega), Int.toNat_of_nonneg ha.1, Int.toNat_of_nonneg hb.1, Int.toNat_of_nonneg hc.1, Int.toNat_of_nonneg hd.1]
  · simp only [stL, nAt, List.drop_succ_cons, List.drop_zero, List.take_succ_cons, List.take_zero, num]
    rw [num_four _ (by omega)]; omega
  · simp only [ndL, nAt, List.drop_succ_cons, List.drop_zero, List.take_succ_cons, List.take_zero, num]
    omega
  · simp only [gnL, nAt, List.drop_succ_cons, List.drop_zero, List.take_succ_cons, List.take_zero, num]
    cases g <;> simp
  · simp only [nAt, List.drop_succ_cons, List.drop_zero, List.take_succ_cons, List.take_zero, num]
    cases g <;> simp
theorem put_gOk {ys : List Int} {st nd : Int} (g : Bool) (h : headB ys st nd = true) : gOk (putL ys st nd g) = true := by
  obtain ⟨h1, h2, h3, h4, _⟩ := put_read g h
  unfold gOk
  rw [h1, h2, h3, h4, h]; simp
theorem gOk_len {L : List Nat} (h : gOk L = true) : L.length = 26 := by
  simp only [gOk, Bool.and_eq_true, decide_eq_true_eq] at h
  have := putL_len (mayB_len (headB_may h.1)) (stL L) (ndL L) (gnL L)
  rw [h.2] at this; exact this
theorem gOk_head {L : List Nat} (h : gOk L = true) : headB (vecL L) (stL L) (ndL L) = true ∧ putL (vecL L) (stL L) (ndL L) (gnL L) = L := by
  simpa only [gOk, Bool.and_eq_true, decide_eq_true_eq] using h
/-- The document's own question. -/
def dOk (L : List Nat) : Bool := decide (L.length = 26) && (headB (vecL L) (stL L) (ndL L) && decide (putL (vecL L) (stL L) (ndL L) (decide (nAt L 25 1 = 1)) = L))
theorem dOk_eq (L : List Nat) : dOk L = gOk L := by
  rw [Bool.eq_iff_iff]
  constructor
  · intro h
    simp only [dOk, Bool.and_eq_true, decide_eq_true_eq] at h
    obtain ⟨_, hh, hp⟩ := h
    obtain ⟨_, _, _, h4, _⟩ := put_read (decide (nAt L 25 1 = 1)) hh
    rw [hp] at h4
    simp only [gOk, Bool.and_eq_true, decide_eq_true_eq]
    exact ⟨hh, by rw [h4]; exact hp⟩
  · intro h
    have hl := gOk_len h
    obtain ⟨hh, hp⟩ := gOk_head h
    obtain ⟨_, _, _, _, h5⟩ := put_read (gnL L) hh
    rw [hp] at h5
    have hg : decide (nAt L 25 1 = 1) = gnL L := by rw [h5]; cases gnL L <;> rfl
    simp only [dOk, Bool.and_eq_true, decide_eq_true_eq]
    exact ⟨hl, hh, by rw [hg]; exact hp⟩
theorem dOk_gn {L : List Nat} (h : gOk L = true) : decide (nAt L 25 1 = 1) = gnL L := by
  obtain ⟨hh, hp⟩ := gOk_head h
  obtain ⟨_, _, _, _, h5⟩ := put_read (gnL L) hh
  rw [hp] at h5
  rw [h5]; cases gnL L <;> rfl
theorem putT_size (ys : List Int) (st nd : Int) (g : Bool) : (putT ys st nd g).size ≤ 26 := by
  unfold putT
  rw [textOf_size]
  cases h : headB ys st nd
  · simp
  · simp only [cond_true]
    rw [putL_len (mayB_len (headB_may h))]; exact Nat.le_refl _
theorem putT_bytes (ys : List Int) (st nd : Int) (g : Bool) : bytesOf (putT ys st nd g) = bif headB ys st nd then putL ys st nd g else [] := by
  unfold putT
  rw [bytesOf_text]
  cases headB ys st nd
  · simp
  · exact putL_lt _ _ _ _

end Go.Proofs.Ythlaeeepbkfkgaa

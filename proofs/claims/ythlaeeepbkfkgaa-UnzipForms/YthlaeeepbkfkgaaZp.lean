/-
  An archive in plain bytes (no program in sight).
-/
import Derived.Test.YthlaeeepbkfkgaaHd
import Derived.Test.YthlaeeepbkfkgaaNMay
namespace Go.Proofs.Ythlaeeepbkfkgaa
open Go.RowKit
set_option linter.unusedVariables false
set_option linter.unusedSimpArgs false

/-- An entry and its vector's counts. -/
abbrev It := Ent × List Int
/-- Is a text not behind another one? -/
def leT (a b : ByteArray) : Bool := Op.bytesLess a.toList b.toList || (a.toList == b.toList)
def bareB (e : Ent) : Bool := decide (e.mt = 0) && (decide (e.pk = ⟨#[]⟩) && (decide (e.sz = 0) && decide (e.cr = 0)))
def packB (e : Ent) : Bool := decide (e.mt = 0 ∧ (e.pk.size : Int) = e.sz) || decide (e.mt = 8 ∧ e.pk.size ≤ 300)
def textB (e : Ent) : Bool := decide (0 ≤ e.cr ∧ e.cr ≤ 4294967295) && (decide (0 ≤ e.sz ∧ e.sz ≤ 300) && packB e)
/-- May an entry be written? -/
def heldB (x : It) : Bool := headB x.2 x.1.st x.1.nd && (Nm.nameB x.1.nm && (bif x.1.gn then bareB x.1 else textB x.1))
def risesB : ByteArray → List It → Bool
  | _, [] => true
  | p, x :: r => (!leT x.1.nm p && heldB x) && risesB x.1.nm r
/-- May a folder be written? -/
def writeB (es : List It) : Bool := decide (es.length ≤ 6) && risesB ⟨#[]⟩ es

/-- Its bytes, part by part. -/
def headL (x : It) : List Nat := putL x.2 x.1.st x.1.nd x.1.gn
def commonL (e : Ent) : List Nat := le 2 20 ++ (le 2 0 ++ (le 2 e.mt.toNat ++ (le 2 0 ++ (le 2 0 ++ (le 4 e.cr.toNat ++ (le 4 e.pk.size ++ (le 4 e.sz.toNat ++ (le 2 e.nm.size ++ le 2 26))))))))
def calledL (x : It) : List Nat := bytesOf x.1.nm ++ headL x
def firstL (x : It) : List Nat := [80, 75, 3, 4] ++ (commonL x.1 ++ (calledL x ++ bytesOf x.1.pk))
def secondL (x : It) (at0 : Nat) : List Nat := [80, 75, 1, 2] ++ (le 2 20 ++ (commonL x.1 ++ (le 2 0 ++ (le 2 0 ++ (le 2 0 ++ (le 4 0 ++ (le 4 at0 ++ calledL x)))))))
def firsts : List It → List Nat
  | [] => []
  | x :: r => firstL x ++ firsts r
def seconds : Nat → List It → List Nat
  | _, [] => []
  | k, x :: r => secondL x k ++ seconds (k + (firstL x).length) r
def endL (n s f : Nat) : List Nat := [80, 75, 5, 6] ++ (le 2 0 ++ (le 2 0 ++ (le 2 n ++ (le 2 n ++ (le 4 s ++ (le 4 f ++ le 2 0))))))
def zipL (es : List It) : List Nat := firsts es ++ (seconds 0 es ++ endL es.length (seconds 0 es).length (firsts es).length)
/-- What Put and Size answer. -/
def zipT (es : List It) : ByteArray := textOf (bif writeB es then zipL es else [])
def zErr (es : List It) : Int := bif writeB es then 0 else 1300
def zSize (es : List It) : Nat := bif writeB es then (zipL es).length else 0

theorem heldB_head {x : It} (h : heldB x = true) : headB x.2 x.1.st x.1.nd = true := by
  simp only [heldB, Bool.and_eq_true] at h; exact h.1
theorem heldB_name {x : It} (h : heldB x = true) : Nm.nameB x.1.nm = true := by
  simp only [heldB, Bool.and_eq_true] at h; exact h.2.1
theorem nameB_size {s : ByteArray} (h : Nm.nameB s = true) : 1 ≤ s.size ∧ s.size ≤ 8 := by
  simp only [Nm.nameB, Bool.and_eq_true, decide_eq_true_eq] at h; exact h.1.1.1
/-- The numbers of an entry that may be written. -/
theorem heldB_nums {x : It} (h : heldB x = true) : (x.1.mt = 0 ∨ x.1.mt = 8) ∧ (0 ≤ x.1.sz ∧ x.1.sz ≤ 300) ∧ (0 ≤ x.1.cr ∧ x.1.cr ≤ 4294967295) ∧ x.1.pk.size ≤ 300 ∧ (1 ≤ x.1.nm.size ∧ x.1.nm.size ≤ 8) := by
  have hn := nameB_size (heldB_name h)
  simp only [heldB, Bool.and_eq_true] at h
  obtain ⟨_, _, h⟩ := h
  cases hg : x.1.gn
  · rw [hg, cond_false] at h
    simp only [textB, packB, Bool.and_eq_true, Bool.or_eq_true, decide_eq_true_eq] at h
    obtain ⟨h1, h2, h3⟩ := h
    rcases h3 with ⟨h3, h4⟩ | ⟨h3, h4⟩
    · exact ⟨.inl h3, h2, h1, by omega, hn⟩
    · exact ⟨.inr h3, h2, h1, h4, hn⟩
  · rw [hg, cond_true] at h
    simp only [bareB, Bool.and_eq_true, decide_eq_true_eq] at h
    obtain ⟨h1, h2, h3, h4⟩ := h
    exact ⟨.inl h1, by omega, by omega, by rw [h2]; exact Nat.zero_le _, hn⟩
theorem headL_len {x : It} (h : heldB x = true) : (headL x).length = 26 := putL_len (mayB_len (headB_may (heldB_head h))) _ _ _
theorem commonL_len (e : Ent) : (commonL e).length = 26 := by simp only [commonL, List.length_append, le_len]
theorem firstL_len {x : It} (h : heldB x = true) : (firstL x).length = 56 + x.1.nm.size + x.1.pk.size := by
  simp only [firstL, calledL, List.length_append, commonL_len, headL_len h, bytesOf_length, List.length_cons, List.length_nil]; omega
theorem secondL_len {x : It} (h : heldB x = true) (k : Nat) : (secondL x k).length = 72 + x.1.nm.size := by
  simp only [secondL, calledL, List.length_append, commonL_len, headL_len h, bytesOf_length, le_len, List.length_cons, List.length_nil]; omega
theorem endL_len (n s f : Nat) : (endL n s f).length = 22 := by simp only [endL, List.length_append, le_len, List.length_cons, List.length_nil]
theorem risesB_held {p : ByteArray} {es : List It} (h : risesB p es = true) : ∀ x ∈ es, heldB x = true := by
  induction es generalizing p with
  | nil => simp
  | cons x r ih =>
    simp only [risesB, Bool.and_eq_true] at h
    intro y hy
    rcases List.mem_cons.1 hy with rfl | hy
    · exact h.1.2
    · exact ih h.2 y hy
theorem writeB_held {es : List It} (h : writeB es = true) : ∀ x ∈ es, heldB x = true := by
  simp only [writeB, Bool.and_eq_true] at h; exact risesB_held h.2
theorem writeB_len {es : List It} (h : writeB es = true) : es.length ≤ 6 := by
  simp only [writeB, Bool.and_eq_true, decide_eq_true_eq] at h; exact h.1
def nmsum (es : List It) : Nat := (es.map (fun x => x.1.nm.size)).sum
def pksum (es : List It) : Nat := (es.map (fun x => x.1.pk.size)).sum
theorem firsts_len {es : List It} (h : ∀ x ∈ es, heldB x = true) : (firsts es).length = 56 * es.length + nmsum es + pksum es := by
  induction es with
  | nil => rfl
  | cons x r ih =>
    simp only [firsts, List.length_append, firstL_len (h x List.mem_cons_self), ih (fun y hy => h y (List.mem_cons_of_mem _ hy)), nmsum, pksum, List.map_cons, List.sum_cons, List.length_cons]; omega
theorem seconds_len {es : List It} (k : Nat) (h : ∀ x ∈ es, heldB x = true) : (seconds k es).length = 72 * es.length + nmsum es := by
  induction es generalizing k with
  | nil => rfl
  | cons x r ih =>
    simp only [seconds, List.length_append, secondL_len (h x List.mem_cons_self), ih _ (fun y hy => h y (List.mem_cons_of_mem _ hy)), nmsum, List.map_cons, List.sum_cons, List.length_cons]; omega
theorem sums_le {es : List It} (h : ∀ x ∈ es, heldB x = true) : nmsum es ≤ 8 * es.length ∧ pksum es ≤ 300 * es.length := by
  induction es with
  | nil => simp [nmsum, pksum]
  | cons x r ih =>
    have := ih (fun y hy => h y (List.mem_cons_of_mem _ hy))
    obtain ⟨_, _, _, h1, h2⟩ := heldB_nums (h x List.mem_cons_self)
    simp only [nmsum, pksum, List.map_cons, List.sum_cons, List.length_cons] at this ⊢; omega
theorem zipL_len {es : List It} (h : ∀ x ∈ es, heldB x = true) : (zipL es).length = 22 + 128 * es.length + 2 * nmsum es + pksum es := by
  simp only [zipL, List.length_append, endL_len, firsts_len h, seconds_len 0 h]; omega
theorem zipL_le {es : List It} (h : writeB es = true) : (zipL es).length ≤ 4096 := by
  have h1 := writeB_held h
  have h2 := sums_le h1
  have h3 := writeB_len h
  rw [zipL_len h1]; omega
theorem firsts_le {es : List It} (h : ∀ x ∈ es, heldB x = true) : (firsts es).length ≤ 364 * es.length := by
  have := sums_le h; rw [firsts_len h]; omega
theorem seconds_le {es : List It} (k : Nat) (h : ∀ x ∈ es, heldB x = true) : (seconds k es).length ≤ 80 * es.length := by
  have := sums_le h; rw [seconds_len k h]; omega
theorem firsts_append (a b : List It) : firsts (a ++ b) = firsts a ++ firsts b := by
  induction a with
  | nil => rfl
  | cons x r ih => simp only [List.cons_append, firsts, ih, List.append_assoc]
theorem seconds_append (k : Nat) (a b : List It) : seconds k (a ++ b) = seconds k a ++ seconds (k + (firsts a).length) b := by
  induction a generalizing k with
  | nil => simp [seconds, firsts]
  | cons x r ih => simp only [List.cons_append, seconds, ih, List.append_assoc, firsts, List.length_append, Nat.add_assoc]
theorem firsts_take {es : List It} (i : Nat) (h : i < es.length) : firsts (es.take (i + 1)) = firsts (es.take i) ++ firstL es[i] := by
  rw [List.take_succ_eq_append_getElem h, firsts_append]; simp [firsts]
theorem seconds_take {es : List It} (i : Nat) (h : i < es.length) : seconds 0 (es.take (i + 1)) = seconds 0 (es.take i) ++ secondL es[i] (firsts (es.take i)).length := by
  rw [List.take_succ_eq_append_getElem h, seconds_append]; simp [seconds]
theorem lt_app {l m : List Nat} (h1 : ∀ y ∈ l, y < 256) (h2 : ∀ y ∈ m, y < 256) : ∀ y ∈ l ++ m, y < 256 := by
  intro y hy; rcases List.mem_append.1 hy with h | h
  · exact h1 y h
  · exact h2 y h
theorem commonL_lt (e : Ent) : ∀ y ∈ commonL e, y < 256 := by
  unfold commonL
  repeat (first | exact le_lt _ _ | refine lt_app (le_lt _ _) ?_)
theorem calledL_lt (x : It) : ∀ y ∈ calledL x, y < 256 := lt_app (bytesOf_lt _) (putL_lt _ _ _ _)
theorem firstL_lt (x : It) : ∀ y ∈ firstL x, y < 256 := lt_app (by decide) (lt_app (commonL_lt _) (lt_app (calledL_lt _) (bytesOf_lt _)))
theorem secondL_lt (x : It) (k : Nat) : ∀ y ∈ secondL x k, y < 256 := by
  unfold secondL
  refine lt_app (by decide) (lt_app (le_lt _ _) (lt_app (commonL_lt _) ?_))
  repeat (first | exact calledL_lt _ | refine lt_app (le_lt _ _) ?_)
theorem firsts_lt (es : List It) : ∀ y ∈ firsts es, y < 256 := by
  induction es with
  | nil => simp [firsts]
  | cons x r ih => exact lt_app (firstL_lt x) ih
theorem seconds_lt (k : Nat) (es : List It) : ∀ y ∈ seconds k es, y < 256 := by
  induction es generalizing k with
  | nil => simp [seconds]
  | cons x r ih => exact lt_app (secondL_lt x k) (ih _)
theorem endL_lt (n s f : Nat) : ∀ y ∈ endL n s f, y < 256 := by
  unfold endL
  refine lt_app (by decide) ?_
  repeat (first | exact le_lt _ _ | refine lt_app (le_lt _ _) ?_)
theorem zipL_lt (es : List It) : ∀ y ∈ zipL es, y < 256 := lt_app (firsts_lt _) (lt_app (seconds_lt _ _) (endL_lt _ _ _))
/-- No text is below the empty one. -/
theorem leT_nil (a : ByteArray) : leT a ⟨#[]⟩ = decide (a.size = 0) := by
  unfold leT
  rw [toList_data, toList_data]
  obtain ⟨⟨l⟩⟩ := a
  cases l with
  | nil => simp [Op.bytesLess]; rfl
  | cons x r =>
    have : ¬ (ByteArray.mk ⟨x :: r⟩).size = 0 := by show ¬ (x :: r).length = 0; simp
    rw [decide_eq_false this]
    simp [Op.bytesLess]

end Go.Proofs.Ythlaeeepbkfkgaa

/-
  Where an archive's parts stand (no program in sight).
-/
import Derived.Test.YtgbkipadbdochaaRnu
import Derived.Test.YtgbkipadbdochaaFsz
namespace Go.Proofs.Ytgbkipadbdochaa
open Go.RowKit
set_option linter.unusedVariables false
set_option linter.unusedSimpArgs false

theorem mid_cut (P M Q : List Nat) (u v : Nat) (hv : v ≤ M.length) : ((P ++ (M ++ Q)).take (P.length + v)).drop (P.length + u) = (M.take v).drop u := by
  rw [List.take_append, List.take_of_length_le (by omega), show P.length + v - P.length = v by omega, List.take_append_of_le_length hv, List.drop_append, List.drop_eq_nil_of_le (by omega), show P.length + u - P.length = u by omega]
  rfl
theorem cut_at (L P M Q : List Nat) (h : L = P ++ (M ++ Q)) (A u v : Nat) (hA : A = P.length) (hv : v ≤ M.length) : (textOf L).extract (A + u) (A + v) = textOf ((M.take v).drop u) := by
  subst h hA
  rw [extract_text, mid_cut P M Q u v hv]
/-- The beginning of a part. -/
theorem cut_in (X Y Z W : List Nat) : ((X ++ (Y ++ Z)).take (X.length + Y.length)).drop X.length = Y := by
  rw [List.take_append, List.take_of_length_le (by omega), show X.length + Y.length - X.length = Y.length by omega, List.take_append_of_le_length (Nat.le_refl _), List.take_length, List.drop_left]
theorem zip_first {es : List It} (i : Nat) (h : i < es.length) : ∃ Q, zipL es = firsts (es.take i) ++ (firstL es[i] ++ Q) := by
  refine ⟨firsts (es.drop (i + 1)) ++ (seconds 0 es ++ endL es.length (seconds 0 es).length (firsts es).length), ?_⟩
  have e : firsts es = firsts (es.take i) ++ (firstL es[i] ++ firsts (es.drop (i + 1))) := by
    conv => lhs; rw [← List.take_append_drop i es]
    rw [firsts_append, List.drop_eq_getElem_cons h]; rfl
  rw [zipL]
  generalize endL es.length (seconds 0 es).length (firsts es).length = E
  rw [e]
  simp only [List.append_assoc]
theorem zip_second {es : List It} (i : Nat) (h : i < es.length) : ∃ Q, zipL es = (firsts es ++ seconds 0 (es.take i)) ++ (secondL es[i] (firsts (es.take i)).length ++ Q) := by
  refine ⟨seconds (0 + (firsts (es.take i)).length + (firstL es[i]).length) (es.drop (i + 1)) ++ endL es.length (seconds 0 es).length (firsts es).length, ?_⟩
  have e : seconds 0 es = seconds 0 (es.take i) ++ (secondL es[i] (firsts (es.take i)).length ++ seconds (0 + (firsts (es.take i)).length + (firstL es[i]).length) (es.drop (i + 1))) := by
    conv => lhs; rw [← List.take_append_drop i es]
    rw [seconds_append, List.drop_eq_getElem_cons h, seconds, Nat.zero_add]
  rw [zipL]
  generalize endL es.length (seconds 0 es).length (firsts es).length = E
  rw [e]
  simp only [List.append_assoc]
theorem zip_end (es : List It) : zipL es = (firsts es ++ seconds 0 es) ++ (endL es.length (seconds 0 es).length (firsts es).length ++ []) := by
  rw [zipL, List.append_nil, List.append_assoc]
theorem take_drop_len {X Y : List Nat} {n u v : Nat} (Z : List Nat) (hu : u = X.length) (hv : v = X.length + Y.length) : ((X ++ (Y ++ Z)).take v).drop u = Y := by
  subst hu hv; exact cut_in X Y Z []
/-- The pieces of a first part. -/
theorem first_pieces {x : It} (h : heldB x = true) :
    ((firstL x).take 4).drop 0 = [80, 75, 3, 4] ∧ ((firstL x).take 30).drop 4 = commonL x.1 ∧ ((firstL x).take (30 + x.1.nm.size)).drop 30 = bytesOf x.1.nm ∧ ((firstL x).take (56 + x.1.nm.size)).drop 30 = calledL x ∧ ((firstL x).take (56 + x.1.nm.size + x.1.pk.size)).drop (56 + x.1.nm.size) = bytesOf x.1.pk := by
  have hc := commonL_len x.1
  have hh := headL_len h
  have hn : (bytesOf x.1.nm).length = x.1.nm.size := bytesOf_length _
  have hp : (bytesOf x.1.pk).length = x.1.pk.size := bytesOf_length _
  have hcl : (calledL x).length = 26 + x.1.nm.size := by rw [calledL, List.length_append, hh, hn]; omega
  refine ⟨rfl, ?_, ?_, ?_, ?_⟩
  · exact take_drop_len (X := [80, 75, 3, 4]) (n := 0) _ rfl (by rw [hc]; rfl)
  · have e : firstL x = ([80, 75, 3, 4] ++ commonL x.1) ++ (bytesOf x.1.nm ++ (headL x ++ bytesOf x.1.pk)) := by simp only [firstL, calledL, List.append_assoc]
    rw [e]
    exact take_drop_len (n := 0) _ (by rw [List.length_append, hc]; rfl) (by rw [List.length_append, hc, hn]; simp)
  · have e : firstL x = ([80, 75, 3, 4] ++ commonL x.1) ++ (calledL x ++ bytesOf x.1.pk) := by simp only [firstL, List.append_assoc]
    rw [e]
    exact take_drop_len (n := 0) _ (by rw [List.length_append, hc]; rfl) (by rw [List.length_append, hc, hcl]; simp only [List.length_cons, List.length_nil]; omega)
  · have e : firstL x = ([80, 75, 3, 4] ++ commonL x.1 ++ calledL x) ++ (bytesOf x.1.pk ++ []) := by simp only [firstL, List.append_assoc, List.append_nil]
    rw [e]
    exact take_drop_len (n := 0) _ (by rw [List.length_append, List.length_append, hc, hcl]; simp only [List.length_cons, List.length_nil]; omega) (by rw [List.length_append, List.length_append, hc, hcl, hp]; simp only [List.length_cons, List.length_nil]; omega)
theorem second_pieces {x : It} (h : heldB x = true) (k : Nat) :
    ((secondL x k).take 4).drop 0 = [80, 75, 1, 2] ∧ ((secondL x k).take 32).drop 6 = commonL x.1 ∧ ((secondL x k).take 46).drop 42 = le 4 k ∧ ((secondL x k).take (72 + x.1.nm.size)).drop 46 = calledL x := by
  have hc := commonL_len x.1
  have hh := headL_len h
  have hn : (bytesOf x.1.nm).length = x.1.nm.size := bytesOf_length _
  have hcl : (calledL x).length = 26 + x.1.nm.size := by rw [calledL, List.length_append, hh, hn]; omega
  refine ⟨rfl, ?_, ?_, ?_⟩
  · have e : secondL x k = ([80, 75, 1, 2] ++ le 2 20) ++ (commonL x.1 ++ (le 2 0 ++ (le 2 0 ++ (le 2 0 ++ (le 4 0 ++ (le 4 k ++ calledL x)))))) := by simp only [secondL, List.append_assoc]
    rw [e]
    exact take_drop_len (n := 0) _ (by rw [List.length_append, le_len]; rfl) (by rw [List.length_append, le_len, hc]; rfl)
  · have e : secondL x k = ([80, 75, 1, 2] ++ le 2 20 ++ commonL x.1 ++ le 2 0 ++ le 2 0 ++ le 2 0 ++ le 4 0) ++ (le 4 k ++ calledL x) := by simp only [secondL, List.append_assoc]
    rw [e]
    exact take_drop_len (n := 0) _ (by simp [le_len, hc]) (by simp [le_len, hc])
  · have e : secondL x k = ([80, 75, 1, 2] ++ le 2 20 ++ commonL x.1 ++ le 2 0 ++ le 2 0 ++ le 2 0 ++ le 4 0 ++ le 4 k) ++ (calledL x ++ []) := by simp only [secondL, List.append_assoc, List.append_nil]
    rw [e]
    exact take_drop_len (n := 0) _ (by simp [le_len, hc]) (by simp [le_len, hc, hcl]; omega)
theorem end_pieces (n s f : Nat) : ((endL n s f).take 20).drop 16 = le 4 f ∧ ((endL n s f).take 10).drop 8 = le 2 n ∧ ((endL n s f).take 12).drop 10 = le 2 n ∧ ((endL n s f).take 16).drop 12 = le 4 s := by
  refine ⟨?_, ?_, ?_, ?_⟩
  · have e : endL n s f = ([80, 75, 5, 6] ++ le 2 0 ++ le 2 0 ++ le 2 n ++ le 2 n ++ le 4 s) ++ (le 4 f ++ le 2 0) := by simp only [endL, List.append_assoc]
    rw [e]; exact take_drop_len (n := 0) _ (by simp [le_len]) (by simp [le_len])
  · have e : endL n s f = ([80, 75, 5, 6] ++ le 2 0 ++ le 2 0) ++ (le 2 n ++ (le 2 n ++ (le 4 s ++ (le 4 f ++ le 2 0)))) := by simp only [endL, List.append_assoc]
    rw [e]; exact take_drop_len (n := 0) _ (by simp [le_len]) (by simp [le_len])
  · have e : endL n s f = ([80, 75, 5, 6] ++ le 2 0 ++ le 2 0 ++ le 2 n) ++ (le 2 n ++ (le 4 s ++ (le 4 f ++ le 2 0))) := by simp only [endL, List.append_assoc]
    rw [e]; exact take_drop_len (n := 0) _ (by simp [le_len]) (by simp [le_len])
  · have e : endL n s f = ([80, 75, 5, 6] ++ le 2 0 ++ le 2 0 ++ le 2 n ++ le 2 n) ++ (le 4 s ++ (le 4 f ++ le 2 0)) := by simp only [endL, List.append_assoc]
    rw [e]; exact take_drop_len (n := 0) _ (by simp [le_len]) (by simp [le_len])
theorem num_le4 (n : Nat) (h : n < 4294967296) : num (bytesOf (textOf (le 4 n))) = n := by
  rw [bytesOf_text _ (le_lt _ _), le_four]; simp only [num]; omega
theorem num_le2 (n : Nat) (h : n < 65536) : num (bytesOf (textOf (le 2 n))) = n := by
  rw [bytesOf_text _ (le_lt _ _), le_two]; simp only [num]; omega
theorem rnum_le4 (n : Nat) (h : n < 4294967296) (w : World) : Calls Try.prog 11 #[.string (textOf (le 4 n))] w fun e w' => e = .returned (.int .i64 (n : Int)) ∧ w' = w := by
  have := rnum_ok (textOf (le 4 n)) w (by rw [textOf_size, le_len]; decide)
  rw [num_le4 n h] at this; exact this
theorem rnum_le2 (n : Nat) (h : n < 65536) (w : World) : Calls Try.prog 11 #[.string (textOf (le 2 n))] w fun e w' => e = .returned (.int .i64 (n : Int)) ∧ w' = w := by
  have := rnum_ok (textOf (le 2 n)) w (by rw [textOf_size, le_len]; decide)
  rw [num_le2 n h] at this; exact this

end Go.Proofs.Ytgbkipadbdochaa

/-
  Vectors in plain numbers: orders and joins (no program in sight).
-/
import Derived.Test.YtchleklncbgakaaAwk
namespace Go.Proofs.Ytchleklncbgakaa
open Go.RowKit
set_option linter.unusedVariables false
set_option linter.unusedSimpArgs false

theorem lt4 (ys zs : List Int) : ltTo 4 ys zs = true ↔ (at_ ys 0 < at_ zs 0 ∨ at_ ys 1 < at_ zs 1 ∨ at_ ys 2 < at_ zs 2 ∨ at_ ys 3 < at_ zs 3) := by
  simp [ltTo, show List.range 4 = [0, 1, 2, 3] from rfl]
theorem lt4_not (ys zs : List Int) : ltTo 4 ys zs = false ↔ (at_ zs 0 ≤ at_ ys 0 ∧ at_ zs 1 ≤ at_ ys 1 ∧ at_ zs 2 ≤ at_ ys 2 ∧ at_ zs 3 ≤ at_ ys 3) := by
  have := lt4 ys zs
  cases h : ltTo 4 ys zs
  · rw [h] at this
    simp only [Bool.false_eq_true, false_iff] at this
    refine ⟨fun _ => ?_, fun _ => rfl⟩
    omega
  · rw [h] at this
    simp only [true_iff] at this
    refine ⟨fun h => (by cases h), fun _ => ?_⟩
    omega
theorem ext4 {ys zs : List Int} (hy : ys.length = 4) (hz : zs.length = 4) (h0 : at_ ys 0 = at_ zs 0) (h1 : at_ ys 1 = at_ zs 1) (h2 : at_ ys 2 = at_ zs 2) (h3 : at_ ys 3 = at_ zs 3) : ys = zs :=
  at_ext (by rw [hy, hz]) (fun i hi => by
    have : i = 0 ∨ i = 1 ∨ i = 2 ∨ i = 3 := by omega
    rcases this with rfl | rfl | rfl | rfl <;> assumption)
theorem joinL_may {ys zs : List Int} (hy : mayB ys = true) (hz : mayB zs = true) : mayB (joinL ys zs) = true :=
  mayB_of (joinL_len ys zs) (fun i hi => by
    rw [joinL_at _ _ _ (by rw [joinL_len] at hi; exact hi)]
    have a := mayB_cnt hy i
    have b := mayB_cnt hz i
    omega)
theorem join4 (ys zs : List Int) : at_ (joinL ys zs) 0 = max (at_ ys 0) (at_ zs 0) ∧ at_ (joinL ys zs) 1 = max (at_ ys 1) (at_ zs 1) ∧ at_ (joinL ys zs) 2 = max (at_ ys 2) (at_ zs 2) ∧ at_ (joinL ys zs) 3 = max (at_ ys 3) (at_ zs 3) :=
  ⟨joinL_at _ _ _ (by decide), joinL_at _ _ _ (by decide), joinL_at _ _ _ (by decide), joinL_at _ _ _ (by decide)⟩
theorem join_comm (ys zs : List Int) : joinL ys zs = joinL zs ys :=
  at_ext (by rw [joinL_len, joinL_len]) (fun i hi => by
    rw [joinL_len] at hi
    rw [joinL_at _ _ _ hi, joinL_at _ _ _ hi]; exact Int.max_comm _ _)
theorem join_assoc (xs ys zs : List Int) : joinL (joinL xs ys) zs = joinL xs (joinL ys zs) :=
  at_ext (by rw [joinL_len, joinL_len]) (fun i hi => by
    rw [joinL_len] at hi
    rw [joinL_at _ _ _ hi, joinL_at _ _ _ hi, joinL_at _ _ _ hi, joinL_at _ _ _ hi]
    generalize at_ xs i = x
    generalize at_ ys i = y
    generalize at_ zs i = z
    omega)
theorem join_idem (xs : List Int) (h : xs.length = 4) : joinL xs xs = xs := by
  have a := join4 xs xs
  exact ext4 (joinL_len _ _) h (by omega) (by omega) (by omega) (by omega)
/-- A join is the same as its part, or more. -/
theorem join_above (xs ys : List Int) : ordL (joinL xs ys) xs = 0 ∨ ordL (joinL xs ys) xs = 2 := by
  have a := join4 xs ys
  have h : ltTo 4 (joinL xs ys) xs = false := (lt4_not _ _).2 (by omega)
  unfold ordL
  rw [h]
  cases ltTo 4 xs (joinL xs ys)
  · exact .inl rfl
  · exact .inr rfl
/-- A step is more. -/
theorem step_above (xs : List Int) (n : Nat) (hl : xs.length = 4) (hn : n < 4) : ordL (stepL xs n) xs = 2 := by
  have s : ∀ j, at_ (stepL xs n) j = if n = j then at_ xs n + 1 else at_ xs j := fun j => by
    unfold stepL
    rw [at_set]
    by_cases e : n = j
    · rw [if_pos ⟨e, by omega⟩, if_pos e]
    · rw [if_neg (fun h => e h.1), if_neg e]
  have s0 := s 0
  have s1 := s 1
  have s2 := s 2
  have s3 := s 3
  have hc : n = 0 ∨ n = 1 ∨ n = 2 ∨ n = 3 := by omega
  have h1 : ltTo 4 (stepL xs n) xs = false := (lt4_not _ _).2 (by rcases hc with rfl | rfl | rfl | rfl <;> simp at s0 s1 s2 s3 <;> omega)
  have h2 : ltTo 4 xs (stepL xs n) = true := (lt4 _ _).2 (by rcases hc with rfl | rfl | rfl | rfl <;> simp at s0 s1 s2 s3 <;> omega)
  unfold ordL
  rw [h1, h2]; rfl
/-- Below or the same, just where the join is the other. -/
theorem below_join (xs ys : List Int) (hl : ys.length = 4) : decide (joinL xs ys = ys) = !ltTo 4 ys xs := by
  have a := join4 xs ys
  cases h : ltTo 4 ys xs
  · have := (lt4_not _ _).1 h
    exact decide_eq_true (ext4 (joinL_len _ _) hl (by omega) (by omega) (by omega) (by omega))
  · have := (lt4 _ _).1 h
    refine decide_eq_false (fun e => ?_)
    rw [e] at a
    omega
theorem eq_ord (xs ys : List Int) (h : xs.length = 4) (h' : ys.length = 4) : decide (xs = ys) = (!ltTo 4 xs ys && !ltTo 4 ys xs) := by
  cases h1 : ltTo 4 xs ys
  · cases h2 : ltTo 4 ys xs
    · have a := (lt4_not _ _).1 h1
      have b := (lt4_not _ _).1 h2
      exact decide_eq_true (ext4 h h' (by omega) (by omega) (by omega) (by omega))
    · have b := (lt4 _ _).1 h2
      exact decide_eq_false (fun e => by subst e; omega)
  · have b := (lt4 _ _).1 h1
    exact decide_eq_false (fun e => by subst e; omega)
/-- Less, and not more than a third: less than the third. -/
theorem ord_trans (xs ys zs : List Int) (h1 : ltTo 4 ys xs = false) (h2 : ltTo 4 xs ys = true) (h3 : ltTo 4 zs ys = false) : ltTo 4 zs xs = false ∧ ltTo 4 xs zs = true := by
  have a := (lt4_not _ _).1 h1
  have b := (lt4 _ _).1 h2
  have c := (lt4_not _ _).1 h3
  exact ⟨(lt4_not _ _).2 (by omega), (lt4 _ _).2 (by omega)⟩

end Go.Proofs.Ytchleklncbgakaa

/-
  What symbols of lengths and distances are like, in plain numbers: for TableBack.
-/
import Derived.Test.YthkbbnghclfhjaaAwake
namespace Go.Proofs.Ythkbbnghclfhjaa
open Go.RowKit
set_option linter.unusedVariables false
set_option linter.unusedSimpArgs false

theorem lastLe_mono (f : Nat → Nat × Nat) {n n' : Nat} (h : n ≤ n') : ∀ m, lastLe f n m ≤ lastLe f n' m
  | 0 => Nat.le_refl _
  | m + 1 => by
    have ih := lastLe_mono f h m
    have hl := lastLe_le f n m
    unfold lastLe
    by_cases h1 : (f (m + 1)).1 ≤ n
    · rw [if_pos h1, if_pos (by omega)]; exact Nat.le_refl _
    · rw [if_neg h1]
      split
      · omega
      · exact ih
/-- A table with steps: where a row ends the next one begins. -/
theorem lastLe_step (f : Nat → Nat × Nat) (M : Nat) (hs : ∀ i, i < M → (f (i + 1)).1 = (f i).1 + 2 ^ (f i).2) {n n' : Nat} (h0 : (f 0).1 ≤ n) (h1 : n ≤ n') (h2 : n' ≤ n + 1) :
    lastLe f n M ≤ lastLe f n' M ∧ lastLe f n' M ≤ lastLe f n M + 1 := by
  refine ⟨lastLe_mono f h1 M, ?_⟩
  have hl := lastLe_le f n M
  have hl' := lastLe_le f n' M
  have hlow := lastLe_low f n' (by omega) M
  by_cases e : lastLe f n M < M
  · have hn := lastLe_next f n M e
    generalize lastLe f n M = i at *
    generalize lastLe f n' M = j at *
    rcases Nat.lt_or_ge (i + 1) j with hc | hc
    · exfalso
      have up : ∀ d, i + 1 + d ≤ M → (f (i + 1)).1 + d ≤ (f (i + 1 + d)).1 := by
        intro d
        induction d with
        | zero => intro _; exact Nat.le_refl _
        | succ d ih =>
          intro hd
          have h3 := hs (i + 1 + d) (by omega)
          have h4 := ih (by omega)
          have h5 : 0 < 2 ^ (f (i + 1 + d)).2 := Nat.pow_pos (by decide)
          rw [show i + 1 + (d + 1) = i + 1 + d + 1 by omega]
          omega
      have := up (j - (i + 1)) (by omega)
      rw [show i + 1 + (j - (i + 1)) = j by omega] at this
      omega
    · exact hc
  · omega

def factL (x : Nat) : Bool :=
  let i := lastLe lenF x 28
  let j := lastLe lenF (min (x + 1) 258) 28
  decide ((lenF i).1 ≤ x ∧ x < (lenF i).1 + 2 ^ (lenF i).2 ∧ i ≤ j ∧ j ≤ i + 1)
theorem factL_all : ∀ x : Fin 256, factL (x.val + 3) = true := by decide +kernel
theorem len_facts (x : Nat) (h1 : 3 ≤ x) (h2 : x ≤ 258) : ∃ s l b e s2 b2 e2 : Nat, symL (x : Int) = ((s : Int), (b : Int), (e : Int)) ∧ ofL (s : Int) = ((l : Int), (b : Int)) ∧ inLS (s : Int) = true ∧ x = l + e ∧ e < 2 ^ b ∧ b ≤ 5 ∧ s ≤ 285 ∧
    symL (min ((x : Int) + 1) 258) = ((s2 : Int), (b2 : Int), (e2 : Int)) ∧ s ≤ s2 ∧ s2 ≤ s + 1 := by
  have hf := factL_all ⟨x - 3, by omega⟩
  simp only [show x - 3 + 3 = x by omega] at hf
  unfold factL at hf
  simp only [decide_eq_true_eq] at hf
  have hi := lastLe_le lenF x 28
  have hj := lastLe_le lenF (min (x + 1) 258) 28
  have hlo := lastLe_low lenF (min (x + 1) 258) (show (3 : Nat) ≤ _ by omega) 28
  have e1 : symL (x : Int) = symF lenF 28 257 x := by unfold symL; rw [show inL (x : Int) = true from decide_eq_true (by omega), if_pos rfl]; rfl
  have e2 : symL (min ((x : Int) + 1) 258) = symF lenF 28 257 (min (x + 1) 258) := by
    rw [show (min ((x : Int) + 1) 258) = ((min (x + 1) 258 : Nat) : Int) by omega]
    unfold symL; rw [show inL ((min (x + 1) 258 : Nat) : Int) = true from decide_eq_true (by omega), if_pos rfl]; rfl
  rw [e1, e2]
  unfold symF
  generalize lastLe lenF x 28 = i at *
  generalize hjj : lastLe lenF (min (x + 1) 258) 28 = j at *
  have hb := lenF_le i hi
  have e3 : inLS ((257 + i : Nat) : Int) = true := decide_eq_true (by omega)
  refine ⟨257 + i, (lenF i).1, (lenF i).2, x - (lenF i).1, 257 + j, (lenF j).2, min (x + 1) 258 - (lenF j).1, ?_, ?_, e3, by omega, by omega, hb.2, by omega, ?_, by omega, by omega⟩
  · refine Prod.ext ?_ (Prod.ext rfl ?_)
    · show ((257 : Nat) : Int) + (i : Int) = ((257 + i : Nat) : Int); omega
    · show (x : Int) - _ = ((x - (lenF i).1 : Nat) : Int); omega
  · unfold ofL; rw [e3, if_pos rfl, show (((257 + i : Nat) : Int) - 257).toNat = i by omega]
  · refine Prod.ext ?_ (Prod.ext rfl ?_)
    · show ((257 : Nat) : Int) + (j : Int) = ((257 + j : Nat) : Int); omega
    · show ((min (x + 1) 258 : Nat) : Int) - _ = ((min (x + 1) 258 - (lenF j).1 : Nat) : Int); omega

theorem dist_facts (x : Nat) (h1 : 1 ≤ x) (h2 : x ≤ 32768) : ∃ s l b e s2 b2 e2 : Nat, symD (x : Int) = ((s : Int), (b : Int), (e : Int)) ∧ ofD (s : Int) = ((l : Int), (b : Int)) ∧ inDS (s : Int) = true ∧ x = l + e ∧ e < 2 ^ b ∧ b ≤ 13 ∧ s ≤ 29 ∧
    symD (min ((x : Int) + 1) 32768) = ((s2 : Int), (b2 : Int), (e2 : Int)) ∧ s ≤ s2 ∧ s2 ≤ s + 1 := by
  have hi := lastLe_le dstF x 29
  have hj := lastLe_le dstF (min (x + 1) 32768) 29
  have hlx := lastLe_low dstF x (show (1 : Nat) ≤ _ by omega) 29
  have hlo := lastLe_low dstF (min (x + 1) 32768) (show (1 : Nat) ≤ _ by omega) 29
  have hst := lastLe_step dstF 29 (fun i _ => dstF_step i) (n := x) (n' := min (x + 1) 32768) (show (1 : Nat) ≤ _ by omega) (by omega) (by omega)
  have hup : x < (dstF (lastLe dstF x 29)).1 + 2 ^ (dstF (lastLe dstF x 29)).2 := by
    by_cases e : lastLe dstF x 29 < 29
    · have := lastLe_next dstF x 29 e
      rwa [dstF_step] at this
    · have e2 : lastLe dstF x 29 = 29 := by omega
      rw [e2]
      have : (dstF 29).1 + 2 ^ (dstF 29).2 = 32769 := by decide +kernel
      omega
  have e1 : symD (x : Int) = symF dstF 29 0 x := by unfold symD; rw [show inD (x : Int) = true from decide_eq_true (by omega), if_pos rfl]; rfl
  have e2 : symD (min ((x : Int) + 1) 32768) = symF dstF 29 0 (min (x + 1) 32768) := by
    rw [show (min ((x : Int) + 1) 32768) = ((min (x + 1) 32768 : Nat) : Int) by omega]
    unfold symD; rw [show inD ((min (x + 1) 32768 : Nat) : Int) = true from decide_eq_true (by omega), if_pos rfl]; rfl
  rw [e1, e2]
  unfold symF
  generalize lastLe dstF x 29 = i at *
  generalize lastLe dstF (min (x + 1) 32768) 29 = j at *
  have hb := dstF_le i hi
  have e3 : inDS ((i : Nat) : Int) = true := decide_eq_true (by omega)
  refine ⟨i, (dstF i).1, (dstF i).2, x - (dstF i).1, j, (dstF j).2, min (x + 1) 32768 - (dstF j).1, ?_, ?_, e3, by omega, by omega, hb.2, by omega, ?_, by omega, by omega⟩
  · refine Prod.ext ?_ (Prod.ext rfl ?_)
    · show _ = ((i : Nat) : Int); simp
    · show (x : Int) - _ = ((x - (dstF i).1 : Nat) : Int); omega
  · unfold ofD; rw [e3, if_pos rfl]; rfl
  · refine Prod.ext ?_ (Prod.ext rfl ?_)
    · show _ = ((j : Nat) : Int); simp
    · show ((min (x + 1) 32768 : Nat) : Int) - _ = ((min (x + 1) 32768 - (dstF j).1 : Nat) : Int); omega

end Go.Proofs.Ythkbbnghclfhjaa

/-
  The symbols of lengths and distances in plain numbers (no program in sight).
-/
import Derived.Test.YtdbfbijalhknnaaPlain
namespace Go.Proofs.Ytdbfbijalhknnaa.Tb
open Go.RowKit
set_option linter.unusedVariables false
set_option linter.unusedSimpArgs false

/-- The extra bits of row i, where as many as 'a' are alike. -/
def btR (a i : Nat) : Nat := i / a - 1
/-- Where row i begins. -/
def lsR (l a : Nat) : Nat → Nat
  | 0 => l
  | i + 1 => lsR l a i + 2 ^ btR a i
def rowF (l a i : Nat) : Nat × Nat := (lsR l a i, btR a i)
def lenF (i : Nat) : Nat × Nat := if i = 28 then (258, 0) else rowF 3 4 i
def dstF (i : Nat) : Nat × Nat := rowF 1 2 i
theorem btR_le (a i : Nat) (ha : 2 ≤ a) (hi : i ≤ 30) : btR a i ≤ 14 := by
  unfold btR
  have : i / a ≤ i / 2 := Nat.div_le_div_left ha (by decide)
  omega
theorem pow_small (b : Nat) (h : b ≤ 14) : 2 ^ b ≤ 16384 := Nat.pow_le_pow_right (by decide) h
theorem lsR_le (l a : Nat) (ha : 2 ≤ a) : ∀ i, i ≤ 30 → lsR l a i ≤ l + i * 16384
  | 0, _ => by simp [lsR]
  | i + 1, h => by
    have h1 := lsR_le l a ha i (by omega)
    have h2 := pow_small _ (btR_le a i ha (by omega))
    simp only [lsR]; omega

/-- The last one of the rows up to m that begins no later than at n. -/
def lastLe (f : Nat → Nat × Nat) (n : Nat) : Nat → Nat
  | 0 => 0
  | m + 1 => if (f (m + 1)).1 ≤ n then m + 1 else lastLe f n m
theorem lastLe_le (f : Nat → Nat × Nat) (n : Nat) : ∀ m, lastLe f n m ≤ m
  | 0 => Nat.le_refl _
  | m + 1 => by unfold lastLe; split; exact Nat.le_refl _; exact Nat.le_succ_of_le (lastLe_le f n m)
theorem lastLe_low (f : Nat → Nat × Nat) (n : Nat) (h0 : (f 0).1 ≤ n) : ∀ m, (f (lastLe f n m)).1 ≤ n
  | 0 => h0
  | m + 1 => by unfold lastLe; split; assumption; exact lastLe_low f n h0 m
theorem lastLe_next (f : Nat → Nat × Nat) (n : Nat) : ∀ m, lastLe f n m < m → n < (f (lastLe f n m + 1)).1
  | 0, h => by simp [lastLe] at h
  | m + 1, h => by
    unfold lastLe at h ⊢
    split at h
    · omega
    · rename_i hc
      rw [if_neg hc]
      by_cases e : lastLe f n m < m
      · exact lastLe_next f n m e
      · have := lastLe_le f n m
        have e2 : lastLe f n m = m := by omega
        rw [e2]; omega
theorem lastLe_stay {f : Nat → Nat × Nat} {n m : Nat} (h : ¬ (f (m + 1)).1 ≤ n) : lastLe f n (m + 1) = lastLe f n m := by rw [lastLe, if_neg h]
theorem lastLe_here {f : Nat → Nat × Nat} {n m : Nat} (h : (f m).1 ≤ n) : lastLe f n m = m := by
  cases m with
  | zero => rfl
  | succ m => rw [lastLe, if_pos h]
theorem lastLe_congr {f g : Nat → Nat × Nat} {n : Nat} : ∀ m, (∀ i, i ≤ m → f i = g i) → lastLe f n m = lastLe g n m
  | 0, _ => rfl
  | m + 1, h => by rw [lastLe, lastLe, h (m + 1) (Nat.le_refl _), lastLe_congr m (fun i hi => h i (by omega))]

/-- What a call tells of a number: symbol, extra bits, their value. -/
abbrev Sy := Int × Int × Int
def symF (f : Nat → Nat × Nat) (m first : Nat) (n : Nat) : Sy := ((first : Int) + (lastLe f n m : Int), ((f (lastLe f n m)).2 : Int), (n : Int) - ((f (lastLe f n m)).1 : Int))
def inL (k : Int) : Bool := decide (3 ≤ k ∧ k ≤ 258)
def inD (k : Int) : Bool := decide (1 ≤ k ∧ k ≤ 32768)
def inLS (k : Int) : Bool := decide (257 ≤ k ∧ k ≤ 285)
def inDS (k : Int) : Bool := decide (0 ≤ k ∧ k ≤ 29)
def symL (k : Int) : Sy := if inL k then symF lenF 28 257 k.toNat else (0, 0, 0)
def symD (k : Int) : Sy := if inD k then symF dstF 29 0 k.toNat else (0, 0, 0)
def errB (b : Bool) : Int := if b then 0 else 600
def ofL (k : Int) : Int × Int := if inLS k then (((lenF (k - 257).toNat).1 : Int), ((lenF (k - 257).toNat).2 : Int)) else (0, 0)
def ofD (k : Int) : Int × Int := if inDS k then (((dstF k.toNat).1 : Int), ((dstF k.toNat).2 : Int)) else (0, 0)

/-! ### The document's forms -/
def lenG (i : Nat) : Nat × Nat := if i = 28 then (258, 0) else if i < 8 then (i + 3, 0) else (3 + (4 + (i - 4) % 4) * 2 ^ ((i - 4) / 4), (i - 4) / 4)
def dstG (i : Nat) : Nat × Nat := if i < 4 then (i + 1, 0) else (1 + (2 + i % 2) * 2 ^ ((i - 2) / 2), (i - 2) / 2)
theorem lenG_all : ∀ i : Fin 29, lenG i.val = lenF i.val := by decide +kernel
theorem dstG_all : ∀ i : Fin 30, dstG i.val = dstF i.val := by decide +kernel
theorem lenG_eq (i : Nat) (h : i ≤ 28) : lenG i = lenF i := lenG_all ⟨i, by omega⟩
theorem dstG_eq (i : Nat) (h : i ≤ 29) : dstG i = dstF i := dstG_all ⟨i, by omega⟩
theorem lenF_small : ∀ i : Fin 29, (lenF i.val).1 ≤ 258 ∧ (lenF i.val).2 ≤ 5 := by decide +kernel
theorem dstF_small : ∀ i : Fin 30, (dstF i.val).1 ≤ 24577 ∧ (dstF i.val).2 ≤ 13 := by decide +kernel
theorem lenF_le (i : Nat) (h : i ≤ 28) : (lenF i).1 ≤ 258 ∧ (lenF i).2 ≤ 5 := lenF_small ⟨i, by omega⟩
theorem dstF_le (i : Nat) (h : i ≤ 29) : (dstF i).1 ≤ 24577 ∧ (dstF i).2 ≤ 13 := dstF_small ⟨i, by omega⟩
theorem lenF_step : ∀ i : Fin 27, (lenF (i.val + 1)).1 = (lenF i.val).1 + 2 ^ (lenF i.val).2 := by decide +kernel
theorem dstF_step (i : Nat) : (dstF (i + 1)).1 = (dstF i).1 + 2 ^ (dstF i).2 := rfl

end Go.Proofs.Ytdbfbijalhknnaa.Tb

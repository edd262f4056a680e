/-
  The statement that no code is a beginning of another one: what it rests on, and its walk.
-/
import Derived.Test.YtfchkgmepmmnoaaSeq
import Derived.Deep.RegionHeld3
namespace Go.Proofs.Ytfchkgmepmmnoaa
open Go.RowKit
set_option linter.unusedVariables false
set_option linter.unusedSimpArgs false

theorem codeV_pos (ys : List Int) (i c : Nat) (h : at_ ys i = (c : Int)) (hc : 0 < c) : codeV ys i = fstC (cn ys) c + cnt (ys.take i) c := by
  unfold codeV
  rw [h, decide_eq_true (by omega), cond_true, show ((c : Int)).toNat = c by omega]
theorem codeV_lt (ys : List Int) (i c : Nat) (hi : i < ys.length) (h : at_ ys i = (c : Int)) (hc : 0 < c) : codeV ys i < fstC (cn ys) c + cn ys c := by
  rw [codeV_pos ys i c h hc]
  have h1 := cnt_take_lt ys i hi c (by rw [← at_eq i hi]; exact h)
  have h2 : cn ys c = cnt ys c := by unfold cn; rw [if_neg (by omega)]
  omega
theorem codeV_bound (ys : List Int) (i c : Nat) (hf : fits ys = true) (hi : i < ys.length) (h : at_ ys i = (c : Int)) : codeV ys i < 2 ^ c := by
  obtain ⟨hm, hr⟩ := fits_true hf
  have hc15 : c ≤ 15 := by have := (may_at hm i hi).2; rw [← at_eq i hi, h] at this; omega
  by_cases hc : 0 < c
  · have h1 := codeV_lt ys i c hi h hc
    have h2 := fstC_next (cn ys) c hc15
    have h3 := sumTo_mono (cn ys) (show c + 1 ≤ 16 by omega)
    have h4 : 2 ^ c * 2 ^ (15 - c) = 32768 := by rw [← Nat.pow_add, show c + (15 - c) = 15 by omega]
    have h5 : (fstC (cn ys) c + cn ys c) * 2 ^ (15 - c) ≤ 2 ^ c * 2 ^ (15 - c) := by rw [h2, h4]; unfold room at hr; omega
    have := Nat.le_of_mul_le_mul_right h5 (Nat.two_pow_pos _)
    omega
  · obtain rfl : c = 0 := by omega
    unfold codeV
    rw [h]; simp
theorem codeV_rise (ys : List Int) (j i c : Nat) (hi : i < ys.length) (hj : at_ ys j = (c : Int)) (h : at_ ys i = (c : Int)) (hc : 0 < c) (hji : j < i) : codeV ys j < codeV ys i := by
  rw [codeV_pos ys j c hj hc, codeV_pos ys i c h hc]
  have hjl : j < ys.length := by omega
  have h1 : cnt (ys.take (j + 1)) c ≤ cnt (ys.take i) c := cnt_take_mono ys hji c
  rw [take_snoc ys j hjl, cnt_snoc, if_pos (by rw [← at_eq j hjl]; exact hj)] at h1
  omega
theorem codeV_apart (ys : List Int) (i j c e : Nat) (hi : i < ys.length) (hj : j < ys.length) (h : at_ ys i = (c : Int)) (hc : 0 < c) (h' : at_ ys j = ((c + e : Nat) : Int)) (hij : j ≠ i) : codeV ys j / 2 ^ e ≠ codeV ys i := by
  have h1 := codeV_lt ys i c hi h hc
  cases e with
  | zero =>
    rw [Nat.pow_zero, Nat.div_one]
    rcases Nat.lt_or_gt_of_ne hij with hlt | hgt
    · have := codeV_rise ys j i c hi h' h hc hlt; omega
    · have := codeV_rise ys i j c hj h h' hc hgt; omega
  | succ d =>
    have h2 := codeV_pos ys j (c + (d + 1)) h' (by omega)
    have h3 := fstC_behind (cn ys) c d
    rw [show c + d + 1 = c + (d + 1) by omega] at h3
    have h4 : fstC (cn ys) c + cn ys c ≤ codeV ys j / 2 ^ (d + 1) := by
      rw [Nat.le_div_iff_mul_le (Nat.two_pow_pos _), h2]; omega
    omega
theorem code_found (ys : List Int) (i c : Nat) (hf : fits ys = true) (hi : i < ys.length) (h : at_ ys i = (c : Int)) (hc : 0 < c) : foundL ys (c : Int) (codeV ys i : Int) = some i := by
  unfold foundL
  rw [hf, cond_true]
  exact (findL_some ys _ _ i (fits_true hf).1).2 ⟨hi, by omega, h, rfl⟩

theorem pow_facts (c v : Nat) (hc : c ≤ 15) (hv : v < 2 ^ c) : ∃ P : Nat, wrap64 ((2 : Int) ^ c) = (P : Int) ∧ IntKind.i64.wrap ((2 : Int) ^ c) = (P : Int) ∧ (v : Int) < (P : Int) := by
  have hpb : 2 ^ c ≤ 2 ^ 15 := Nat.pow_le_pow_right (by omega) hc
  have hPz : (2 : Int) ^ c = ((2 ^ c : Nat) : Int) := by push_cast; rfl
  refine ⟨2 ^ c, ?_, ?_, by omega⟩
  · rw [hPz]; exact wrap64_small _ (by omega) (by omega)
  · rw [hPz]; exact wrap_i64_small _ (by omega) (by omega)

end Go.Proofs.Ytfchkgmepmmnoaa

/-
  Lengths, what room they take, their codes: plain numbers, no program in sight.
-/
import Derived.Test.YtdbfbijalhknnaaPlain
namespace Go.Proofs.Ytdbfbijalhknnaa.Hf
set_option linter.unusedVariables false
set_option linter.unusedSimpArgs false

/-- How many of the numbers are b. -/
def cnt (ys : List Int) (b : Nat) : Nat := ys.countP (fun y => y == (b : Int))
/-- How many codes there are of a length; of 0 none. -/
def cn (ys : List Int) (i : Nat) : Nat := if i = 0 then 0 else cnt ys i
def fine (y : Int) : Bool := decide (0 ≤ y) && decide (y ≤ 15)
def may (ys : List Int) : Bool := (decide (1 ≤ ys.length) && decide (ys.length ≤ 288)) && ys.all fine
/-- The room that the lengths below n take. -/
def sumTo (f : Nat → Nat) : Nat → Nat
  | 0 => 0
  | n + 1 => sumTo f n + f n * 2 ^ (15 - n)
def room (ys : List Int) : Nat := sumTo (cn ys) 16
/-- The first code of each length. -/
def fstC (f : Nat → Nat) : Nat → Nat
  | 0 => 0
  | n + 1 => (fstC f n + f n) * 2
def errF (ys : List Int) : Int := cond (may ys) (cond (decide (32768 < room ys)) 301 0) 300
def errC (ys : List Int) : Int := cond (may ys) (cond (decide (32768 < room ys)) 301 (cond (decide (room ys < 32768)) 302 0)) 300
def at_ (ys : List Int) (i : Nat) : Int := ys.getD i 0
/-- The code's value of symbol i. -/
def codeV (ys : List Int) (i : Nat) : Nat := cond (decide (0 < at_ ys i)) (fstC (cn ys) (at_ ys i).toNat + cnt (ys.take i) (at_ ys i).toNat) 0
/-- Ahead of which as many as k have the length too. -/
def nthL (b : Int) : List Int → Nat → Nat → Option Nat
  | [], _, _ => none
  | y :: r, k, i => if y = b then (if k = 0 then some i else nthL b r (k - 1) (i + 1)) else nthL b r k (i + 1)
def findL (ys : List Int) (b v : Int) : Option Nat :=
  cond (decide (1 ≤ b) && decide (b ≤ 15)) (cond (decide ((fstC (cn ys) b.toNat : Int) ≤ v)) (nthL b ys (v - fstC (cn ys) b.toNat).toNat 0) none) none

theorem cnt_le (ys : List Int) (b : Nat) : cnt ys b ≤ ys.length := List.countP_le_length
theorem cn_le (ys : List Int) (b : Nat) : cn ys b ≤ ys.length := by unfold cn; split; omega; exact cnt_le ys b
theorem cnt_snoc (ys : List Int) (y : Int) (b : Nat) : cnt (ys ++ [y]) b = cnt ys b + (if y = (b : Int) then 1 else 0) := by
  unfold cnt; rw [List.countP_append]; simp
theorem take_snoc (ys : List Int) (j : Nat) (h : j < ys.length) : ys.take (j + 1) = ys.take j ++ [ys[j]] := by
  rw [List.take_add_one, List.getElem?_eq_getElem h]; rfl

theorem sumTo_le (f : Nat → Nat) (m : Nat) (hf : ∀ i, f i ≤ m) (n : Nat) (hn : n ≤ 16) : sumTo f n ≤ m * 32768 * n := by
  induction n with
  | zero => simp [sumTo]
  | succ n ih =>
    have h1 := ih (by omega)
    have h2 : f n * 2 ^ (15 - n) ≤ m * 32768 := Nat.mul_le_mul (hf n) (by
      have : 2 ^ (15 - n) ≤ 2 ^ 15 := Nat.pow_le_pow_right (by omega) (by omega)
      simpa using this)
    rw [sumTo, Nat.mul_add]; omega
theorem fstC_le (f : Nat → Nat) (m : Nat) (hf : ∀ i, f i ≤ m) (n : Nat) : fstC f n + 2 * m ≤ m * 2 ^ (n + 1) := by
  induction n with
  | zero => simp [fstC]; omega
  | succ n ih =>
    have := hf n
    rw [fstC, Nat.pow_succ]
    have e : m * (2 ^ (n + 1) * 2) = 2 * (m * 2 ^ (n + 1)) := by rw [← Nat.mul_assoc]; omega
    rw [e]; omega
theorem fstC_small (ys : List Int) (h : ys.length ≤ 288) (n : Nat) (hn : n ≤ 15) : fstC (cn ys) n ≤ 18874368 := by
  have h1 := fstC_le (cn ys) 288 (fun i => Nat.le_trans (cn_le ys i) h) n
  have h2 : 2 ^ (n + 1) ≤ 2 ^ 16 := Nat.pow_le_pow_right (by omega) (by omega)
  have h3 : 288 * 2 ^ (n + 1) ≤ 288 * 2 ^ 16 := Nat.mul_le_mul_left _ h2
  omega
/-- What is below the first code of a length is the room that the shorter ones take. -/
theorem fstC_sum (f : Nat → Nat) (n : Nat) (hn : n ≤ 15) : fstC f n * 2 ^ (15 - n) = sumTo f n := by
  induction n with
  | zero => simp [fstC, sumTo]
  | succ n ih =>
    have h := ih (by omega)
    have e : 2 ^ (15 - n) = 2 * 2 ^ (15 - (n + 1)) := by rw [show 15 - n = (15 - (n + 1)) + 1 by omega, Nat.pow_succ]; omega
    rw [sumTo, ← h, fstC, e, ← Nat.add_mul, Nat.mul_assoc]
theorem fstC_next (f : Nat → Nat) (n : Nat) (hn : n ≤ 15) : (fstC f n + f n) * 2 ^ (15 - n) = sumTo f (n + 1) := by
  rw [Nat.add_mul, fstC_sum f n hn, sumTo]
theorem sumTo_mono (f : Nat → Nat) {a b : Nat} (h : a ≤ b) : sumTo f a ≤ sumTo f b := by
  induction b with
  | zero => have : a = 0 := by omega
            subst this; exact Nat.le_refl _
  | succ b ih =>
    by_cases e : a = b + 1
    · subst e; exact Nat.le_refl _
    · have := ih (by omega); rw [sumTo]; omega
/-- A longer length's first code lies behind all shorter ones. -/
theorem fstC_behind (f : Nat → Nat) (n d : Nat) : (fstC f n + f n) * 2 ^ (d + 1) ≤ fstC f (n + d + 1) := by
  induction d with
  | zero => simp [fstC]
  | succ d ih =>
    rw [show n + (d + 1) + 1 = (n + d + 1) + 1 by omega, fstC, Nat.pow_succ, ← Nat.mul_assoc]
    exact Nat.mul_le_mul_right 2 (by omega)

theorem may_len {ys : List Int} (h : may ys = true) : 1 ≤ ys.length ∧ ys.length ≤ 288 := by
  simp only [may, Bool.and_eq_true, decide_eq_true_eq] at h; exact h.1
theorem may_at {ys : List Int} (h : may ys = true) (i : Nat) (hi : i < ys.length) : 0 ≤ ys[i] ∧ ys[i] ≤ 15 := by
  simp only [may, Bool.and_eq_true, List.all_eq_true, fine, decide_eq_true_eq] at h; exact h.2 _ (List.getElem_mem hi)
theorem at_eq {ys : List Int} (i : Nat) (hi : i < ys.length) : at_ ys i = ys[i] := by simp [at_, List.getD, List.getElem?_eq_getElem hi]
theorem errF_zero {ys : List Int} (h : errF ys = 0) : may ys = true ∧ room ys ≤ 32768 := by
  unfold errF at h
  cases hm : may ys <;> simp [hm] at h
  by_cases hr : 32768 < room ys <;> simp [hr] at h
  exact ⟨rfl, by omega⟩
theorem errC_zero {ys : List Int} (h : errC ys = 0) : may ys = true ∧ room ys = 32768 := by
  unfold errC at h
  cases hm : may ys <;> simp [hm] at h
  by_cases hr : 32768 < room ys <;> simp [hr] at h
  by_cases hs : room ys < 32768 <;> simp [hs] at h
  exact ⟨rfl, by omega⟩
theorem cnt_take_lt (ys : List Int) (i : Nat) (hi : i < ys.length) (b : Nat) (h : ys[i] = (b : Int)) : cnt (ys.take i) b < cnt ys b := by
  have e : ys = ys.take (i + 1) ++ ys.drop (i + 1) := (List.take_append_drop _ _).symm
  have h1 : cnt ys b = cnt (ys.take (i + 1)) b + cnt (ys.drop (i + 1)) b := by
    conv => lhs; rw [e]
    unfold cnt; rw [List.countP_append]
  rw [h1, take_snoc ys i hi, cnt_snoc, if_pos h]; omega
theorem cnt_take_mono (ys : List Int) {i j : Nat} (h : i ≤ j) (b : Nat) : cnt (ys.take i) b ≤ cnt (ys.take j) b := by
  have e : ys.take i = (ys.take j).take i := by rw [List.take_take]; congr 1; omega
  rw [e]
  conv => rhs; rw [← List.take_append_drop i (ys.take j)]
  unfold cnt; rw [List.countP_append]; omega

/-- The search behind the first j finds the rank's own. -/
theorem nthL_some (b : Int) (ys : List Int) : ∀ (k i s : Nat), nthL b ys k i = some s ↔ ∃ j, j < ys.length ∧ s = i + j ∧ at_ ys j = b ∧ (ys.take j).countP (fun y => y == b) = k := by
  induction ys with
  | nil => intro k i s; simp [nthL]
  | cons y r ih =>
    intro k i s
    rw [nthL]
    by_cases hy : y = b
    · subst hy
      rw [if_pos rfl]
      cases k with
      | zero =>
        simp only [↓reduceIte, Option.some.injEq]
        constructor
        · rintro rfl; exact ⟨0, by simp, by omega, by simp [at_], by simp⟩
        · rintro ⟨j, hj, rfl, ha, hc⟩
          cases j with
          | zero => rfl
          | succ j => simp [List.take_succ_cons] at hc
      | succ k =>
        rw [if_neg (by omega), ih, Nat.add_sub_cancel]
        constructor
        · rintro ⟨j, hj, rfl, ha, hc⟩
          exact ⟨j + 1, by simp; omega, by omega, by simpa [at_] using ha, by simp [List.take_succ_cons, hc]⟩
        · rintro ⟨j, hj, rfl, ha, hc⟩
          cases j with
          | zero => simp at hc
          | succ j => exact ⟨j, by simp at hj; omega, by omega, by simpa [at_] using ha, by simpa [List.take_succ_cons] using hc⟩
    · rw [if_neg hy, ih]
      constructor
      · rintro ⟨j, hj, rfl, ha, hc⟩
        exact ⟨j + 1, by simp; omega, by omega, by simpa [at_] using ha, by simp [List.take_succ_cons, hc, hy]⟩
      · rintro ⟨j, hj, rfl, ha, hc⟩
        cases j with
        | zero => simp [at_] at ha; exact absurd ha hy
        | succ j => exact ⟨j, by simp at hj; omega, by omega, by simpa [at_] using ha, by simpa [List.take_succ_cons, hy] using hc⟩

/-- Whose Code it is, if it is one's. -/
theorem findL_some (ys : List Int) (b v : Int) (s : Nat) (hm : may ys = true) :
    findL ys b v = some s ↔ s < ys.length ∧ 0 < at_ ys s ∧ at_ ys s = b ∧ (codeV ys s : Int) = v := by
  unfold findL
  by_cases h1 : 1 ≤ b ∧ b ≤ 15
  · obtain ⟨c, rfl⟩ : ∃ c : Nat, b = (c : Int) := ⟨b.toNat, by omega⟩
    have e1 : (decide (1 ≤ (c : Int)) && decide ((c : Int) ≤ 15)) = true := by simp; omega
    rw [e1, cond_true]
    have e0 : ((c : Int)).toNat = c := by omega
    rw [e0]
    by_cases h2 : (fstC (cn ys) c : Int) ≤ v
    · rw [decide_eq_true h2, cond_true, nthL_some]
      constructor
      · rintro ⟨j, hj, rfl, ha, hc⟩
        rw [Nat.zero_add]
        refine ⟨hj, by omega, ha, ?_⟩
        unfold codeV
        rw [ha, decide_eq_true (by omega), cond_true, e0]
        unfold cnt
        rw [hc]; omega
      · rintro ⟨hs, h0, ha, hv⟩
        refine ⟨s, hs, by omega, ha, ?_⟩
        unfold codeV at hv
        rw [ha, decide_eq_true (by omega), cond_true, e0] at hv
        show cnt (ys.take s) c = _
        omega
    · rw [decide_eq_false h2, cond_false]
      constructor
      · intro h; simp at h
      · rintro ⟨hs, h0, ha, hv⟩
        unfold codeV at hv
        rw [ha, decide_eq_true (by omega), cond_true, e0] at hv
        omega
  · have e1 : (decide (1 ≤ b) && decide (b ≤ 15)) = false := by
      rw [Bool.and_eq_false_iff, decide_eq_false_iff_not, decide_eq_false_iff_not]; omega
    rw [e1, cond_false]
    constructor
    · intro h; simp at h
    · rintro ⟨hs, h0, ha, hv⟩
      have := may_at hm s hs
      rw [at_eq s hs] at ha h0
      omega

end Go.Proofs.Ytdbfbijalhknnaa.Hf

/-
  Lengths, what room they take, their codes: plain numbers, no program in sight. Arrays of sixteen numbers in a block of their own, and rows of numbers that a slice shows. What room counts take, and each length's first code. How many codes there are of each length, if the lengths may be and there is room for them. The calls Check and Find, and what a number of an error is.
-/
import Derived.Test.YtebjooebdehlnaaGreatRows
import Derived.Test.YtebjooebdehlnaaGreatG02
import Derived.WalkKit
import Derived.WalkSpells
import Derived.WalkLawsBesides
import Derived.Deep.MidRow
import Derived.Laws.ResultCell
import Derived.BigRegion
namespace Go.Proofs.YtebjooebdehlnaaGreat.Hf
set_option linter.unusedVariables false
set_option linter.unusedSimpArgs false

/-- How many of the numbers are b. -/
def cnt (ys : List Int) (b : Nat) : Nat := ys.countP (fun y => y == (b : Int))
/-- How many codes there are of a length; of 0 none. -/
def cn (ys : List Int) (i : Nat) : Nat := if i = 0 then 0 else cnt ys i
def fine (y : Int) : Bool := decide (0 ≤ y) && decide (y ≤ 15)
def may (ys : List Int) : Bool := (decide (1 ≤ ys.length) && decide (ys.length ≤ 288)) && ys.all fine
/-- The room that the lengths below n take. -/
def sumTo (f : Nat → Nat) : Nat → Nat
  | 0 => 0
  | n + 1 => sumTo f n + f n * 2 ^ (15 - n)
def room (ys : List Int) : Nat := sumTo (cn ys) 16
/-- The first code of each length. -/
def fstC (f : Nat → Nat) : Nat → Nat
  | 0 => 0
  | n + 1 => (fstC f n + f n) * 2
def errF (ys : List Int) : Int := cond (may ys) (cond (decide (32768 < room ys)) 301 0) 300
def errC (ys : List Int) : Int := cond (may ys) (cond (decide (32768 < room ys)) 301 (cond (decide (room ys < 32768)) 302 0)) 300
def at_ (ys : List Int) (i : Nat) : Int := ys.getD i 0
/-- The code's value of symbol i. -/
def codeV (ys : List Int) (i : Nat) : Nat := cond (decide (0 < at_ ys i)) (fstC (cn ys) (at_ ys i).toNat + cnt (ys.take i) (at_ ys i).toNat) 0
/-- Ahead of which as many as k have the length too. -/
def nthL (b : Int) : List Int → Nat → Nat → Option Nat
  | [], _, _ => none
  | y :: r, k, i => if y = b then (if k = 0 then some i else nthL b r (k - 1) (i + 1)) else nthL b r k (i + 1)
def findL (ys : List Int) (b v : Int) : Option Nat :=
  cond (decide (1 ≤ b) && decide (b ≤ 15)) (cond (decide ((fstC (cn ys) b.toNat : Int) ≤ v)) (nthL b ys (v - fstC (cn ys) b.toNat).toNat 0) none) none

theorem cnt_le (ys : List Int) (b : Nat) : cnt ys b ≤ ys.length := List.countP_le_length
theorem cn_le (ys : List Int) (b : Nat) : cn ys b ≤ ys.length := by unfold cn; split; omega; exact cnt_le ys b
theorem cnt_snoc (ys : List Int) (y : Int) (b : Nat) : cnt (ys ++ [y]) b = cnt ys b + (if y = (b : Int) then 1 else 0) := by
  unfold cnt; rw [List.countP_append]; simp
theorem take_snoc (ys : List Int) (j : Nat) (h : j < ys.length) : ys.take (j + 1) = ys.take j ++ [ys[j]] := by
  rw [List.take_add_one, List.getElem?_eq_getElem h]; rfl

theorem sumTo_le (f : Nat → Nat) (m : Nat) (hf : ∀ i, f i ≤ m) (n : Nat) (hn : n ≤ 16) : sumTo f n ≤ m * 32768 * n := by
  induction n with
  | zero => simp [sumTo]
  | succ n ih =>
    have h1 := ih (by omega)
    have h2 : f n * 2 ^ (15 - n) ≤ m * 32768 := Nat.mul_le_mul (hf n) (by
      have : 2 ^ (15 - n) ≤ 2 ^ 15 := Nat.pow_le_pow_right (by omega) (by omega)
      simpa using this)
    rw [sumTo, Nat.mul_add]; omega
theorem fstC_le (f : Nat → Nat) (m : Nat) (hf : ∀ i, f i ≤ m) (n : Nat) : fstC f n + 2 * m ≤ m * 2 ^ (n + 1) := by
  induction n with
  | zero => simp [fstC]; omega
  | succ n ih =>
    have := hf n
    rw [fstC, Nat.pow_succ]
    have e : m * (2 ^ (n + 1) * 2) = 2 * (m * 2 ^ (n + 1)) := by rw [← Nat.mul_assoc]; omega
    rw [e]; omega
theorem fstC_small (ys : List Int) (h : ys.length ≤ 288) (n : Nat) (hn : n ≤ 15) : fstC (cn ys) n ≤ 18874368 := by
  have h1 := fstC_le (cn ys) 288 (fun i => Nat.le_trans (cn_le ys i) h) n
  have h2 : 2 ^ (n + 1) ≤ 2 ^ 16 := Nat.pow_le_pow_right (by omega) (by omega)
  have h3 : 288 * 2 ^ (n + 1) ≤ 288 * 2 ^ 16 := Nat.mul_le_mul_left _ h2
  omega
/-- What is below the first code of a length is the room that the shorter ones take. -/
theorem fstC_sum (f : Nat → Nat) (n : Nat) (hn : n ≤ 15) : fstC f n * 2 ^ (15 - n) = sumTo f n := by
  induction n with
  | zero => simp [fstC, sumTo]
  | succ n ih =>
    have h := ih (by omega)
    have e : 2 ^ (15 - n) = 2 * 2 ^ (15 - (n + 1)) := by rw [show 15 - n = (15 - (n + 1)) + 1 by omega, Nat.pow_succ]; omega
    rw [sumTo, ← h, fstC, e, ← Nat.add_mul, Nat.mul_assoc]
theorem fstC_next (f : Nat → Nat) (n : Nat) (hn : n ≤ 15) : (fstC f n + f n) * 2 ^ (15 - n) = sumTo f (n + 1) := by
  rw [Nat.add_mul, fstC_sum f n hn, sumTo]
theorem sumTo_mono (f : Nat → Nat) {a b : Nat} (h : a ≤ b) : sumTo f a ≤ sumTo f b := by
  induction b with
  | zero => have : a = 0 := by omega
            subst this; exact Nat.le_refl _
  | succ b ih =>
    by_cases e : a = b + 1
    · subst e; exact Nat.le_refl _
    · have := ih (by omega); rw [sumTo]; omega
/-- A longer length's first code lies behind all shorter ones. -/
theorem fstC_behind (f : Nat → Nat) (n d : Nat) : (fstC f n + f n) * 2 ^ (d + 1) ≤ fstC f (n + d + 1) := by
  induction d with
  | zero => simp [fstC]
  | succ d ih =>
    rw [show n + (d + 1) + 1 = (n + d + 1) + 1 by omega, fstC, Nat.pow_succ, ← Nat.mul_assoc]
    exact Nat.mul_le_mul_right 2 (by omega)

theorem may_len {ys : List Int} (h : may ys = true) : 1 ≤ ys.length ∧ ys.length ≤ 288 := by
  simp only [may, Bool.and_eq_true, decide_eq_true_eq] at h; exact h.1
theorem may_at {ys : List Int} (h : may ys = true) (i : Nat) (hi : i < ys.length) : 0 ≤ ys[i] ∧ ys[i] ≤ 15 := by
  simp only [may, Bool.and_eq_true, List.all_eq_true, fine, decide_eq_true_eq] at h; exact h.2 _ (List.getElem_mem hi)
theorem at_eq {ys : List Int} (i : Nat) (hi : i < ys.length) : at_ ys i = ys[i] := by simp [at_, List.getD, List.getElem?_eq_getElem hi]
theorem errF_zero {ys : List Int} (h : errF ys = 0) : may ys = true ∧ room ys ≤ 32768 := by
  unfold errF at h
  cases hm : may ys <;> simp [hm] at h
  by_cases hr : 32768 < room ys <;> simp [hr] at h
  exact ⟨rfl, by omega⟩
theorem errC_zero {ys : List Int} (h : errC ys = 0) : may ys = true ∧ room ys = 32768 := by
  unfold errC at h
  cases hm : may ys <;> simp [hm] at h
  by_cases hr : 32768 < room ys <;> simp [hr] at h
  by_cases hs : room ys < 32768 <;> simp [hs] at h
  exact ⟨rfl, by omega⟩
theorem cnt_take_lt (ys : List Int) (i : Nat) (hi : i < ys.length) (b : Nat) (h : ys[i] = (b : Int)) : cnt (ys.take i) b < cnt ys b := by
  have e : ys = ys.take (i + 1) ++ ys.drop (i + 1) := (List.take_append_drop _ _).symm
  have h1 : cnt ys b = cnt (ys.take (i + 1)) b + cnt (ys.drop (i + 1)) b := by
    conv => lhs; rw [e]
    unfold cnt; rw [List.countP_append]
  rw [h1, take_snoc ys i hi, cnt_snoc, if_pos h]; omega
theorem cnt_take_mono (ys : List Int) {i j : Nat} (h : i ≤ j) (b : Nat) : cnt (ys.take i) b ≤ cnt (ys.take j) b := by
  have e : ys.take i = (ys.take j).take i := by rw [List.take_take]; congr 1; omega
  rw [e]
  conv => rhs; rw [← List.take_append_drop i (ys.take j)]
  unfold cnt; rw [List.countP_append]; omega

/-- The search behind the first j finds the rank's own. -/
theorem nthL_some (b : Int) (ys : List Int) : ∀ (k i s : Nat), nthL b ys k i = some s ↔ ∃ j, j < ys.length ∧ s = i + j ∧ at_ ys j = b ∧ (ys.take j).countP (fun y => y == b) = k := by
  induction ys with
  | nil => intro k i s; simp [nthL]
  | cons y r ih =>
    intro k i s
    rw [nthL]
    by_cases hy : y = b
    · subst hy
      rw [if_pos rfl]
      cases k with
      | zero =>
        simp only [↓reduceIte, Option.some.injEq]
        constructor
        · rintro rfl; exact ⟨0, by simp, by omega, by simp [at_], by simp⟩
        · rintro ⟨j, hj, rfl, ha, hc⟩
          cases j with
          | zero => rfl
          | succ j => simp [List.take_succ_cons] at hc
      | succ k =>
        rw [if_neg (by omega), ih, Nat.add_sub_cancel]
        constructor
        · rintro ⟨j, hj, rfl, ha, hc⟩
          exact ⟨j + 1, by simp; omega, by omega, by simpa [at_] using ha, by simp [List.take_succ_cons, hc]⟩
        · rintro ⟨j, hj, rfl, ha, hc⟩
          cases j with
          | zero => simp at hc
          | succ j => exact ⟨j, by simp at hj; omega, by omega, by simpa [at_] using ha, by simpa [List.take_succ_cons] using hc⟩
    · rw [if_neg hy, ih]
      constructor
      · rintro ⟨j, hj, rfl, ha, hc⟩
        exact ⟨j + 1, by simp; omega, by omega, by simpa [at_] using ha, by simp [List.take_succ_cons, hc, hy]⟩
      · rintro ⟨j, hj, rfl, ha, hc⟩
        cases j with
        | zero => simp [at_] at ha; exact absurd ha hy
        | succ j => exact ⟨j, by simp at hj; omega, by omega, by simpa [at_] using ha, by simpa [List.take_succ_cons, hy] using hc⟩

/-- Whose Code it is, if it is one's. -/
theorem findL_some (ys : List Int) (b v : Int) (s : Nat) (hm : may ys = true) :
    findL ys b v = some s ↔ s < ys.length ∧ 0 < at_ ys s ∧ at_ ys s = b ∧ (codeV ys s : Int) = v := by
  unfold findL
  by_cases h1 : 1 ≤ b ∧ b ≤ 15
  · obtain ⟨c, rfl⟩ : ∃ c : Nat, b = (c : Int) := ⟨b.toNat, by omega⟩
    have e1 : (decide (1 ≤ (c : Int)) && decide ((c : Int) ≤ 15)) = true := by simp; omega
    rw [e1, cond_true]
    have e0 : ((c : Int)).toNat = c := by omega
    rw [e0]
    by_cases h2 : (fstC (cn ys) c : Int) ≤ v
    · rw [decide_eq_true h2, cond_true, nthL_some]
      constructor
      · rintro ⟨j, hj, rfl, ha, hc⟩
        rw [Nat.zero_add]
        refine ⟨hj, by omega, ha, ?_⟩
        unfold codeV
        rw [ha, decide_eq_true (by omega), cond_true, e0]
        unfold cnt
        rw [hc]; omega
      · rintro ⟨hs, h0, ha, hv⟩
        refine ⟨s, hs, by omega, ha, ?_⟩
        unfold codeV at hv
        rw [ha, decide_eq_true (by omega), cond_true, e0] at hv
        show cnt (ys.take s) c = _
        omega
    · rw [decide_eq_false h2, cond_false]
      constructor
      · intro h; simp at h
      · rintro ⟨hs, h0, ha, hv⟩
        unfold codeV at hv
        rw [ha, decide_eq_true (by omega), cond_true, e0] at hv
        omega
  · have e1 : (decide (1 ≤ b) && decide (b ≤ 15)) = false := by
      rw [Bool.and_eq_false_iff, decide_eq_false_iff_not, decide_eq_false_iff_not]; omega
    rw [e1, cond_false]
    constructor
    · intro h; simp at h
    · rintro ⟨hs, h0, ha, hv⟩
      have := may_at hm s hs
      rw [at_eq s hs] at ha h0
      omega

end Go.Proofs.YtebjooebdehlnaaGreat.Hf

namespace Go.Proofs.YtebjooebdehlnaaGreat.Hf
open Go.RowKit
set_option linter.unusedVariables false
set_option linter.unusedSimpArgs false

def arrL (f : Nat → Nat) : List Value := (List.range 16).map (fun i => .int .i64 (f i : Int))
def upd (f : Nat → Nat) (n v : Nat) : Nat → Nat := fun i => if i = n then v else f i
theorem arrL_length (f : Nat → Nat) : (arrL f).length = 16 := by simp [arrL]
theorem arrL_get (f : Nat → Nat) (i : Nat) (h : i < 16) : (arrL f)[i]? = some (.int .i64 (f i : Int)) := by
  simp [arrL, List.getElem?_range h]
theorem arrL_congr {f g : Nat → Nat} (h : ∀ i, i < 16 → f i = g i) : arrL f = arrL g := by
  unfold arrL
  exact List.map_congr_left (fun i hi => by rw [h i (by simpa using hi)])
theorem arrL_one (f : Nat → Nat) : (arrL f).toArray.all (·.oneCell') = true :=
  all_oneCell_toArray (fun v hv => by
    simp only [arrL, List.mem_map] at hv
    obtain ⟨i, _, rfl⟩ := hv
    rfl)

/-- Block b is an array that holds f. -/
def Arr (w : World) (b : Nat) (f : Nat → Nat) : Prop := w.heap[b]? = some (.cells (arrL f).toArray 158 (0, 0))
theorem Arr.lt {w : World} {b : Nat} {f : Nat → Nat} (h : Arr w b f) : b < w.heap.size := lt_of_heap h
theorem Arr.cell {w : World} {b : Nat} {f : Nat → Nat} (h : Arr w b f) (i : Nat) (hi : i < 16) : w.cell? ⟨b, i, none⟩ = some (.int .i64 (f i : Int)) :=
  cell_of_heap h (by rw [List.getElem?_toArray]; exact arrL_get f i hi)
theorem Arr.free {w : World} {b : Nat} {f : Nat → Nat} (h : Arr w b f) (i : Nat) : w.frozen? ⟨b, i, none⟩ = false := frozen_of_heap h
theorem Arr.congr {w : World} {b : Nat} {f g : Nat → Nat} (h : Arr w b f) (e : ∀ i, i < 16 → f i = g i) : Arr w b g := by unfold Arr at *; rw [← arrL_congr e]; exact h
theorem Arr.set {w : World} {b : Nat} {f : Nat → Nat} (h : Arr w b f) (n v : Nat) (hn : n < 16) : Arr (w.setCell ⟨b, n, none⟩ (.int .i64 (v : Int))) b (upd f n v) := by
  unfold Arr
  rw [heap_setCell_same h]
  congr 2
  apply Array.ext_getElem?
  intro i
  rw [Array.getElem?_setIfInBounds]
  by_cases hi : i < 16
  · rw [List.getElem?_toArray, List.getElem?_toArray, arrL_get _ i hi, arrL_get _ i hi]
    simp only [List.size_toArray, arrL_length, hn, upd]
    by_cases e : n = i
    · subst e; simp
    · rw [if_neg e, if_neg (fun k => e k.symm)]
  · rw [if_neg (by omega), List.getElem?_toArray, List.getElem?_toArray, List.getElem?_eq_none (by rw [arrL_length]; omega), List.getElem?_eq_none (by rw [arrL_length]; omega)]
theorem Arr.kept {S : Nat → Prop} {w w' : World} {b : Nat} {f : Nat → Nat} (h : Arr w b f) (hk : Keeps S w w') (hb : ¬ S b) : Arr w' b f := (hk.block b h.lt hb).trans h
theorem Arr.range {w : World} {b : Nat} {f : Nat → Nat} (h : Arr w b f) : w.rangeAt b 0 (arrL f) := fun j v hv => by
  rw [Nat.zero_add]; exact cell_of_heap h (by rw [List.getElem?_toArray]; exact hv)
theorem Arr.there {w : World} {b : Nat} {f : Nat → Nat} (h : Arr w b f) : w.there b 0 16 := fun j hj => by
  rw [Nat.zero_add, h.cell j hj]; exact ⟨rfl, h.free j⟩
theorem size51 : (Tryz.prog.info? 158).map (·.size) = some 16 := by kernel_rfl
theorem Arr.loadVar {w : World} {b : Nat} {f : Nat → Nat} (h : Arr w b f) : (loadVar 158 ⟨b, 0, none⟩).run Tryz.prog w = .ok (.agg (arrL f).toArray) w :=
  run_loadVar_mid w b 0 158 (arrL f) _ h.range Tryz.underlying158 rfl (by rw [arrL_length]; exact size51)
theorem Arr.loadAt {w : World} {b : Nat} {f : Nat → Nat} (h : Arr w b f) : (Instr.loadAt 158 (.pointer (some ⟨b, 0, none⟩))).run Tryz.prog w = .ok (.agg (arrL f).toArray) w :=
  run_loadAt_mid w b 0 158 (arrL f) _ h.range Tryz.underlying158 rfl (by rw [arrL_length]; exact size51)
/-- A whole array into a block. -/
def put16 (w : World) (b : Nat) (g : Nat → Nat) : World := w.setCells b 0 (arrL g)
theorem Arr.storeAt {w : World} {b : Nat} {f : Nat → Nat} (h : Arr w b f) (g : Nat → Nat) : (Instr.storeAt 158 (.pointer (some ⟨b, 0, none⟩)) (.agg (arrL g).toArray)).run Tryz.prog w = .ok () (put16 w b g) := by
  have := run_storeAt_mid (P := Tryz.prog) w b 0 158 (arrL g).toArray (by simpa [arrL_length] using h.there) (by simpa [arrL_length] using size51) (arrL_one g)
  simpa [put16] using this
theorem keeps_setCells {S : Nat → Prop} {a : World} (b : Nat) (hb : b < a.heap.size → S b) : ∀ (vs : List Value) (o : Nat) (w : World), Keeps S a w → Keeps S a (w.setCells b o vs)
  | [], _, _, h => h
  | v :: r, o, w, h => by rw [World.setCells]; exact keeps_setCells b hb r (o + 1) _ (h.setCell hb v)
theorem put16_keeps {S : Nat → Prop} {a w : World} (h : Keeps S a w) (b : Nat) (hb : b < a.heap.size → S b) (g : Nat → Nat) : Keeps S a (put16 w b g) := keeps_setCells b hb _ _ _ h

/-- What is known of a slice of ints. -/
def Row (w : World) (a : Option Addr) (ys : List Int) : Prop :=
  ys = [] ∨ ∃ b off, a = some ⟨b, off, none⟩ ∧ b < w.heap.size ∧ ∀ i (h : i < ys.length), w.cell? ⟨b, off + i, none⟩ = some (.int .i64 ys[i])
theorem Row.kept {S : Nat → Prop} {w w' : World} {a : Option Addr} {ys : List Int} (h : Row w a ys) (hk : Keeps S w w') (hb : ∀ x, a = some x → ¬ S x.block) : Row w' a ys := by
  rcases h with h | ⟨b, off, rfl, h1, h2⟩
  · exact .inl h
  · refine .inr ⟨b, off, rfl, Nat.lt_of_lt_of_le h1 hk.size, fun i hi => ?_⟩
    rw [World.cell?_of_block (hk.block b h1 (hb _ rfl))]; exact h2 i hi
theorem Row.keptF {w w' : World} {a : Option Addr} {ys : List Int} (h : Row w a ys) (hk : Keeps (fun _ => False) w w') : Row w' a ys := h.kept hk (fun _ _ h => h)
theorem Row.spot {w : World} {a : Option Addr} {ys : List Int} (h : Row w a ys) (hn : 0 < ys.length) :
    ∃ b off, a = some ⟨b, off, none⟩ ∧ b < w.heap.size ∧ ∀ i (h : i < ys.length), w.cell? ⟨b, off + i, none⟩ = some (.int .i64 ys[i]) := by
  rcases h with h | h
  · subst h; simp at hn
  · exact h

/-! ### The operations on whole arrays, as a walk meets them -/
theorem zero16 : (zeroValue 158).run Tryz.prog = fun w => .ok (.agg (arrL (fun _ => 0)).toArray) w := by
  funext w; rw [Tryz.zeroValue158]; rfl
theorem Arr.alloc (w : World) (f : Nat → Nat) : Arr (w.alloc (.cells (arrL f).toArray 158)) w.heap.size f := heap_alloc_new _ _

theorem wpList_alloc16 {ops : Array Oper} {rest : List Oper} {op : Oper} {a : Act} {w : World} {Q : Exit → Act → World → Prop} (hgd : op.guard = none) (ho : op.op = .alloc 158)
    (h : ∀ b w1, Arr w1 b (fun _ => 0) → Keeps (fun _ => False) w w1 → w.heap.size ≤ b → wpList Tryz.prog ops Q rest (a.put op.dst (.pointer (some ⟨b, 0, none⟩))) w1) : wpList Tryz.prog ops Q (op :: rest) a w :=
  wpList_plain hgd fun _ hK => by
    unfold Oper.wp execOp
    have hz := congrFun zero16 w
    simp only [ho, Instr.alloc, Sem.run_bind, hz, Result.andThen_ok]
    simp only [newVar, Sem.run_bind, Sem.run_pure, Result.andThen_ok]
    exact hK _ _ (h w.heap.size _ (Arr.alloc w _) ((Keeps.refl _ w).alloc _) (Nat.le_refl _))
theorem wpList_box16 {ops : Array Oper} {rest : List Oper} {op : Oper} {a : Act} {w : World} {Q : Exit → Act → World → Prop} (hgd : op.guard = none) (x : Operand) (ho : op.op = .box 158 x) (f : Nat → Nat) (hx : a.eval x = .agg (arrL f).toArray)
    (h : ∀ b w1, Arr w1 b f → Keeps (fun _ => False) w w1 → w.heap.size ≤ b → wpList Tryz.prog ops Q rest (a.put op.dst (.pointer (some ⟨b, 0, none⟩))) w1) : wpList Tryz.prog ops Q (op :: rest) a w :=
  wpList_plain hgd fun _ hK => by
    unfold Oper.wp execOp
    simp only [ho, hx, Instr.box, Sem.run_bind, newVar, Sem.run_pure, Result.andThen_ok]
    exact hK _ _ (h w.heap.size _ (Arr.alloc w _) ((Keeps.refl _ w).alloc _) (Nat.le_refl _))
theorem wpList_load16 {ops : Array Oper} {rest : List Oper} {op : Oper} {a : Act} {w : World} {Q : Exit → Act → World → Prop} (hgd : op.guard = none) (x : Operand) (ho : op.op = .load 158 x) (b : Nat) (hx : a.eval x = .pointer (some ⟨b, 0, none⟩)) (f : Nat → Nat) (hA : Arr w b f)
    (h : wpList Tryz.prog ops Q rest (a.put op.dst (.agg (arrL f).toArray)) w) : wpList Tryz.prog ops Q (op :: rest) a w :=
  wpList_load_mid hgd 158 x ho b 0 hx (arrL f) _ hA.range Tryz.underlying158 rfl (by rw [arrL_length]; exact size51) h
/-- The same where a guard stands ahead of it and lets it by. -/
theorem wpList_load16w {ops : Array Oper} {rest : List Oper} {op : Oper} {a : Act} {w : World} {Q : Exit → Act → World → Prop} (x : Operand) (ho : op.op = .load 158 x) (b : Nat) (hx : a.eval x = .pointer (some ⟨b, 0, none⟩)) (hw : Region.wanted op (yielded ops a.tmps) = true) (f : Nat → Nat) (hA : Arr w b f)
    (h : wpList Tryz.prog ops Q rest (a.put op.dst (.agg (arrL f).toArray)) w) : wpList Tryz.prog ops Q (op :: rest) a w :=
  wpList_step fun K hK => by
    rw [if_pos hw]
    exact wp_load_mid 158 x ho b 0 hx (arrL f) _ hA.range Tryz.underlying158 rfl (by rw [arrL_length]; exact size51) (hK _ _ h)
theorem setCells_row (b : Nat) (t : TypeId) : ∀ (vs : List Value) (o : Nat) (w : World) (cs : Array Value), w.heap[b]? = some (.cells cs t (0, 0)) → ∃ cs', (w.setCells b o vs).heap[b]? = some (.cells cs' t (0, 0)) ∧ cs'.size = cs.size ∧ (∀ i, i < o → cs'[i]? = cs[i]?) ∧ ∀ i, i < vs.length → o + i < cs.size → cs'[o + i]? = vs[i]? := by
  intro vs
  induction vs with
  | nil => intro o w cs hc; exact ⟨cs, hc, rfl, fun _ _ => rfl, fun i hi => by simp at hi⟩
  | cons v r ih =>
    intro o w cs hc
    obtain ⟨cs', h1, h2, h3, h4⟩ := ih (o + 1) (w.setCell ⟨b, o, none⟩ v) _ (heap_setCell_same hc v)
    refine ⟨cs', by rw [World.setCells]; exact h1, by rw [h2]; simp, fun i hi => ?_, fun i hi hlt => ?_⟩
    · rw [h3 i (by omega), Array.getElem?_setIfInBounds, if_neg (by omega)]
    · cases i with
      | zero => rw [Nat.add_zero, h3 o (by omega), Array.getElem?_setIfInBounds]; simp; omega
      | succ i =>
        have := h4 i (by simpa using hi) (by simp; omega)
        rw [show o + (i + 1) = o + 1 + i by omega, this]; simp
theorem arr_ext (g : Nat → Nat) (cs : Array Value) (hz : cs.size = 16) (h : ∀ i, i < 16 → cs[i]? = (arrL g)[i]?) : cs = (arrL g).toArray := by
  apply Array.ext_getElem?
  intro i
  by_cases hi : i < 16
  · rw [h i hi, List.getElem?_toArray]
  · rw [Array.getElem?_eq_none (by omega), List.getElem?_toArray, List.getElem?_eq_none (by rw [arrL_length]; omega)]
theorem Arr.put {w : World} {b : Nat} {f : Nat → Nat} (h : Arr w b f) (g : Nat → Nat) : Arr (put16 w b g) b g := by
  have key := setCells_row b 158 (arrL g) 0 w _ h
  obtain ⟨cs', h1, h2, h3, h4⟩ := key
  have hl := arrL_length f
  have hg := arrL_length g
  generalize hA : arrL f = A at *
  generalize hB : arrL g = B at *
  have hz : cs'.size = 16 := by rw [h2, List.size_toArray, hl]
  have e : cs' = B.toArray := by
    rw [← hB]; refine arr_ext g cs' hz (fun i hi => ?_)
    have := h4 i (by omega) (by rw [List.size_toArray, hl]; omega)
    rw [Nat.zero_add] at this
    rw [this, hB]
  unfold Arr put16
  rw [hB, h1, e]
theorem wpList_store16 {ops : Array Oper} {rest : List Oper} {op : Oper} {a : Act} {w : World} {Q : Exit → Act → World → Prop} (hgd : op.guard = none) (x y : Operand) (ho : op.op = .store 158 x y) (b : Nat) (g : Nat → Nat) (hx : a.eval x = .pointer (some ⟨b, 0, none⟩)) (hy : a.eval y = .agg (arrL g).toArray) (f : Nat → Nat) (hA : Arr w b f)
    (h : ∀ w1, Arr w1 b g → Keeps (fun k => k = b) w w1 → wpList Tryz.prog ops Q rest (a.put op.dst undef) w1) : wpList Tryz.prog ops Q (op :: rest) a w :=
  wpList_store_mid hgd 158 x y ho b 0 (arrL g).toArray hx hy (by simpa [arrL_length] using hA.there) (by simpa [arrL_length] using size51) (arrL_one g) (h (put16 w b g) (hA.put g) (put16_keeps (S := fun k => k = b) (Keeps.refl _ w) b (fun _ => rfl) g))

theorem arr_index (f : Nat → Nat) (i : Nat) (h : i < 16) (w : World) : (Instr.index 158 (.agg (arrL f).toArray) (.int .i64 (i : Int))).run Tryz.prog w = .ok (.int .i64 (f i : Int)) w := by
  have hg := arrL_get f i h
  have hi : (0 : Int) ≤ i ∧ (i : Int) < 16 := by omega
  generalize arrL f = A at *
  simp [Instr.index, asIntOf, Sem.run_bind, Tryz.runUnderlying158, Tryz.sizeOf3, Tryz.isAgg3, part, hi, hg]
  omega

theorem results_cell {fn : Func} {p : Tmp} {ty : TypeId} (h : fn.results = #[.cell p ty]) (tmps : Array Value) (P : Program) (w : World) :
    (results fn tmps).run P w = ((asAddr (tmps.getD p undef)).run P w).andThen fun a w₁ => (Go.loadVar ty a).run P w₁ := by
  simp only [results, h]
  simp [Sem.run_bind, Result.andThen]

end Go.Proofs.YtebjooebdehlnaaGreat.Hf

namespace Go.Proofs.YtebjooebdehlnaaGreat.Hf
open Go.RowKit
set_option linter.unusedVariables false
set_option linter.unusedSimpArgs false

theorem wrap64_small (n : Int) (h0 : 0 ≤ n) (h1 : n < 4611686018427387904) : wrap64 n = n := by
  unfold wrap64; omega
theorem shl_ok (a : Nat) (k : Nat) (ha : a ≤ 288) (hk : k ≤ 15) : IntKind.i64.wrap ((a : Int) * 2 ^ k) = ((a * 2 ^ k : Nat) : Int) := by
  have h : a * 2 ^ k ≤ 288 * 2 ^ 15 := Nat.mul_le_mul ha (Nat.pow_le_pow_right (by omega) hk)
  have e : (a : Int) * 2 ^ k = ((a * 2 ^ k : Nat) : Int) := by push_cast; rfl
  rw [e]; exact wrap_i64_small _ (by omega) (by omega)

set_option maxHeartbeats 2000000 in
set_option maxRecDepth 1000000 in
theorem room_ok (f : Nat → Nat) (w : World) (hf : ∀ i, f i ≤ 288) :
    Calls Tryz.prog 147 #[.agg (arrL f).toArray] w fun e w' => e = .returned (.int .i64 (sumTo f 16 : Nat)) ∧ Keeps (fun _ => False) w w' := by
  have HF : Hid (∀ i, f i ≤ 288) := hf
  clear hf
  go_enter Tryz.func147, Tryz.ntmps147
  go_wp2_with (first
    | (refine wpList_box16 rfl _ rfl f rfl ?_; intro b w1 hA hK hb; have HK : Hid (Keeps (fun _ => False) w w1) := hK; clear hK)
    | (refine wpList_load16 rfl _ rfl _ rfl f ?hA ?_; case hA => assumption))
  go_loopw [3, 7] (fun s3 s7 w' => ∃ i : Nat, i ≤ 16 ∧ s3 = .int .i64 (sumTo f i : Nat) ∧ s7 = .int .i64 (i : Nat) ∧ w' = w1) (fun s3 s7 w' => (16 - intOf s7).toNat)
  case atStart => exact ⟨0, by omega, rfl, rfl, rfl⟩
  case round =>
    obtain ⟨i, hi, rfl, rfl, rfl⟩ := hrel
    by_cases h16 : i < 16
    · have hiz : (i : Int) < 16 := by omega
      have hga := arr_index f i h16
      have hw15 : IntKind.i64.wrap (15 - (i : Int)) = ((15 - i : Nat) : Int) := by rw [wrap_i64_small _ (by omega) (by omega)]; omega
      have hnn : ¬ (((15 - i : Nat) : Int) < 0) := by omega
      have hsh := shl_ok (f i) (15 - i) (HF.out i) (by omega)
      go_wp2
      go_roundw
      case rel =>
        have hb1 := sumTo_le f 288 HF.out (i + 1) (by omega)
        have e : wrap64 ((sumTo f i : Int) + (f i : Int) * 2 ^ (15 - i)) = ((sumTo f (i + 1) : Nat) : Int) := by
          have e1 : (sumTo f i : Int) + (f i : Int) * 2 ^ (15 - i) = ((sumTo f (i + 1) : Nat) : Int) := by rw [sumTo]; push_cast; rfl
          rw [e1]; exact wrap64_small _ (by omega) (by omega)
        exact ⟨i + 1, by omega, by rw [e], by push_cast; rfl, trivial⟩
      case measure => simp [intOf]; omega
    · obtain rfl : i = 16 := by omega
      go_wp2
      go_ret
      exact ⟨rfl, HK.out⟩

def fstTo (f : Nat → Nat) (m : Nat) : Nat → Nat := fun i => if i ≤ m then fstC f i else 0
theorem fstTo_upd (f : Nat → Nat) (m : Nat) : ∀ i, i < 16 → upd (fstTo f m) (m + 1) (fstC f (m + 1)) i = fstTo f (m + 1) i := by
  intro i _
  unfold upd fstTo
  by_cases h : i = m + 1
  · subst h; simp
  · rw [if_neg h]
    by_cases h1 : i ≤ m
    · rw [if_pos h1, if_pos (by omega)]
    · rw [if_neg h1, if_neg (by omega)]

set_option maxHeartbeats 2000000 in
set_option maxRecDepth 1000000 in
theorem firsts_ok (f : Nat → Nat) (w : World) (hf : ∀ i, f i ≤ 288) :
    Calls Tryz.prog 118 #[.agg (arrL f).toArray] w fun e w' => e = .returned (.agg (arrL (fstC f)).toArray) ∧ Keeps (fun _ => False) w w' := by
  have HF : Hid (∀ i, f i ≤ 288) := hf
  clear hf
  go_enter Tryz.func118, Tryz.ntmps118
  go_wp2_with (first
    | (refine wpList_box16 rfl _ rfl f rfl ?_; intro b1 w1 hA1 hK1 hb1)
    | (refine wpList_alloc16 rfl rfl ?_; (fail_if_success (clear hA2)); intro b2 w2 hA2 hK2 hb2)
    | (refine wpList_alloc16 rfl rfl ?_; intro b3 w3 hA3 hK3 hb3))
  have l1 := hA1.lt
  have l2 := hA2.lt
  have l3 := hA3.lt
  have HE : Hid (b1 ≠ b2 ∧ b1 ≠ b3 ∧ b2 ≠ b3 ∧ w.heap.size ≤ b1 ∧ w.heap.size ≤ b2 ∧ w.heap.size ≤ b3) := by
    have e1 := hK1.size; have e2 := hK2.size; have e3 := hK3.size
    show _ ∧ _; omega
  have HW : Hid (Arr w3 b1 f ∧ Arr w3 b2 (fun _ => 0) ∧ Arr w3 b3 (fstTo f 0) ∧ Keeps (fun _ => False) w w3) :=
    ⟨(hA1.kept hK2 (fun h => h)).kept hK3 (fun h => h), hA2.kept hK3 (fun h => h), hA3.congr (fun i _ => by unfold fstTo; split; rename_i h; obtain rfl : i = 0 := by omega
                                                                                                            · rfl
                                                                                                            · rfl), (hK1.trans hK2 (fun _ _ h => h)).trans hK3 (fun _ _ h => h)⟩
  clear hA1 hA2 hA3 hK1 hK2 hK3 hb1 hb2 hb3 l1 l2 l3
  go_loopw [4] (fun s4 w' => ∃ m : Nat, m ≤ 15 ∧ s4 = .int .i64 ((m + 1 : Nat) : Int) ∧ Hid (Arr w' b1 f ∧ Arr w' b2 (fun _ => 0) ∧ Arr w' b3 (fstTo f m) ∧ Keeps (fun _ => False) w w')) (fun s4 w' => (16 - intOf s4).toNat)
  case atStart => exact ⟨0, by omega, rfl, HW⟩
  case round =>
    obtain ⟨m, hm, rfl, HW⟩ := hrel
    by_cases h15 : m < 15
    · have hiz : ((m + 1 : Nat) : Int) ≤ 15 := by omega
      have hw1 : IntKind.i64.wrap (((m + 1 : Nat) : Int) - 1) = (m : Int) := by rw [wrap_i64_small _ (by omega) (by omega)]; omega
      have hc1 := HW.out.2.2.1.cell m (by omega)
      have hc2 := HW.out.1.cell m (by omega)
      have hc3 := HW.out.2.2.1.cell (m + 1) (by omega)
      have hz3 := HW.out.2.2.1.free (m + 1)
      go_wp2
      go_region
      have hs := fstC_le f 288 HF.out (m + 1)
      have hp : 2 ^ (m + 1 + 1) ≤ 2 ^ 16 := Nat.pow_le_pow_right (by omega) (by omega)
      have hp2 : 288 * 2 ^ (m + 1 + 1) ≤ 288 * 2 ^ 16 := Nat.mul_le_mul_left _ hp
      have e0 : fstTo f m m = fstC f m := by simp [fstTo]
      have es : fstC f (m + 1) = (fstC f m + f m) * 2 := rfl
      have hv : wrap64 (wrap64 ((fstTo f m m : Int) + (f m : Int)) * 2) = ((fstC f (m + 1) : Nat) : Int) := by
        rw [e0, wrap64_small ((fstC f m : Int) + (f m : Int)) (by omega) (by omega), wrap64_small _ (by omega) (by omega)]; omega
      rw [hv]
      have HW' : Hid (Arr (wr.setCell ⟨b3, m + 1, none⟩ (.int .i64 ((fstC f (m + 1) : Nat) : Int))).drew b1 f ∧ Arr (wr.setCell ⟨b3, m + 1, none⟩ (.int .i64 ((fstC f (m + 1) : Nat) : Int))).drew b2 (fun _ => 0) ∧ Arr (wr.setCell ⟨b3, m + 1, none⟩ (.int .i64 ((fstC f (m + 1) : Nat) : Int))).drew b3 (fstTo f (m + 1)) ∧ Keeps (fun _ => False) w (wr.setCell ⟨b3, m + 1, none⟩ (.int .i64 ((fstC f (m + 1) : Nat) : Int))).drew) := by
        obtain ⟨g1, g2, g3, g4⟩ := HW.out
        obtain ⟨n1, n2, n3, n4, n5, n6⟩ := HE.out
        have kk : Keeps (fun k => k = b3) wr (wr.setCell ⟨b3, m + 1, none⟩ (.int .i64 ((fstC f (m + 1) : Nat) : Int))).drew := (Keeps.setCell (S := fun k => k = b3) (Keeps.refl _ wr) (p := ⟨b3, m + 1, none⟩) (fun _ => rfl) _).drew
        exact ⟨g1.kept kk n2, g2.kept kk n3, (Arr.congr (g3.set (m + 1) (fstC f (m + 1)) (by omega)) (fstTo_upd f m)), g4.trans kk (fun i hi h => by subst h; exact absurd hi (by omega))⟩
      generalize (wr.setCell ⟨b3, m + 1, none⟩ (.int .i64 ((fstC f (m + 1) : Nat) : Int))).drew = wn at *
      clear HW hc1 hc2 hc3 hz3 hs hp hp2 e0 es hv
      go_wp2
      go_roundw
      case rel => exact ⟨m + 1, by omega, by push_cast; rfl, HW'⟩
      case measure => simp [intOf]; omega
    · obtain rfl : m = 15 := by omega
      obtain ⟨g1, g2, g3, g4⟩ := HW.out
      have g5 : Arr wr b3 (fstC f) := g3.congr (fun i hi => by unfold fstTo; rw [if_pos (by omega)])
      clear HW g3
      have HK : Hid (Keeps (fun _ => False) w wr) := g4
      clear g4
      go_wp2_with (first
        | (refine wpList_load16 rfl _ rfl _ rfl (fstC f) ?hA ?_; case hA => assumption)
        | (refine wpList_store16 rfl _ _ rfl _ (fstC f) rfl rfl (fun _ => 0) ?hA ?_; (case hA => assumption); intro w4 hA4 hK4))
      (try simp only [Exit.inBlock, Exit.then])
      refine bodyPost_ret (v := .agg (arrL (fstC f)).toArray) ?_ rfl ⟨rfl, ?_⟩
      · rw [results_cell rfl]
        exact hA4.loadVar
      · exact HK.out.trans hK4 (fun i hi h => by have := HE.out; subst h; exact absurd hi (by omega))

end Go.Proofs.YtebjooebdehlnaaGreat.Hf

namespace Go.Proofs.YtebjooebdehlnaaGreat.Hf
open Go.RowKit
set_option linter.unusedVariables false
set_option linter.unusedSimpArgs false

theorem cn_nil : ∀ i, i < 16 → (0 : Nat) = cn ([] : List Int) i := by intro i _; simp [cn, cnt]
theorem cn_zero (ys : List Int) : ∀ i, i < 16 → cn ys i = cn (ys ++ [0]) i := by
  intro i _
  unfold cn
  by_cases h : i = 0
  · rw [if_pos h, if_pos h]
  · rw [if_neg h, if_neg h, cnt_snoc, if_neg (by omega)]; rfl
theorem cn_pos (ys : List Int) (n : Nat) (hn : 0 < n) : ∀ i, i < 16 → upd (cn ys) n (cn ys n + 1) i = cn (ys ++ [(n : Int)]) i := by
  intro i _
  unfold upd
  by_cases h : i = n
  · subst h; rw [if_pos rfl]; unfold cn; rw [if_neg (by omega), if_neg (by omega), cnt_snoc, if_pos rfl]
  · rw [if_neg h]; unfold cn
    by_cases h0 : i = 0
    · rw [if_pos h0, if_pos h0]
    · rw [if_neg h0, if_neg h0, cnt_snoc, if_neg (by omega)]; rfl
def cArr (t : Bool) (ys : List Int) : Nat → Nat := cond t (cn ys) (fun _ => 0)
theorem may_bad {ys : List Int} (i : Nat) (hi : i < ys.length) (h : ys[i] < 0 ∨ 15 < ys[i]) : may ys = false := by
  cases hm : may ys
  · rfl
  · have := may_at hm i hi; omega

set_option maxHeartbeats 4000000 in
set_option maxRecDepth 1000000 in
theorem count_ok (a : Option Addr) (ys : List Int) (cap : Nat) (w : World) (hR : Row w a ys) (hl : ys.length ≤ 9223372036854775807) :
    Calls Tryz.prog 146 #[.slice a ys.length cap] w fun e w' => e = .returned (.tuple #[.agg (arrL (cArr (may ys) ys)).toArray, .int .i64 (cond (may ys) 0 300)]) ∧ Keeps (fun _ => False) w w' := by
  by_cases hn : 1 ≤ ys.length ∧ ys.length ≤ 288
  · obtain ⟨b, off, rfl, hb, hc⟩ := hR.spot (by omega)
    obtain ⟨n, hn'⟩ : ∃ n, ys.length = n := ⟨_, rfl⟩
    have HC : Hid (∀ i (h : i < ys.length), w.cell? ⟨b, off + i, none⟩ = some (.int .i64 ys[i])) := hc
    have HN : Hid (ys.length = n) := hn'
    rw [hn'] at hn ⊢
    clear hR hl hc hn'
    have hn1 : ¬ ((n : Int) < 1) := by omega
    have hn2 : ¬ (288 < (n : Int)) := by omega
    go_enter Tryz.func146, Tryz.ntmps146
    go_wp2_with (first
      | (refine wpList_alloc16 rfl rfl ?_; (fail_if_success (clear hA1)); intro b1 w1 hA1 hK1 hb1)
      | (refine wpList_alloc16 rfl rfl ?_; intro b2 w2 hA2 hK2 hb2))
    have HE : Hid (b1 ≠ b2 ∧ w.heap.size ≤ b1 ∧ w.heap.size ≤ b2) := by
      have e1 := hK1.size; have e2 := hK2.size; have l1 := hA1.lt; have l2 := hA2.lt
      show _ ∧ _; omega
    have HW : Hid (Arr w2 b1 (fun _ => 0) ∧ Arr w2 b2 (cn (ys.take 0)) ∧ Keeps (fun _ => False) w w2) :=
      ⟨hA1.kept hK2 (fun h => h), hA2.congr cn_nil, hK1.trans hK2 (fun _ _ h => h)⟩
    clear hA1 hA2 hK1 hK2 hb1 hb2
    go_loopw [18] (fun s18 w' => ∃ i : Nat, i ≤ n ∧ s18 = .int .i64 (i : Int) ∧ Hid (Arr w' b1 (fun _ => 0) ∧ Arr w' b2 (cn (ys.take i)) ∧ Keeps (fun _ => False) w w') ∧ Hid ((ys.take i).all fine = true)) (fun s18 w' => ((n : Int) - intOf s18).toNat)
    case atStart => exact ⟨0, by omega, rfl, HW, rfl⟩
    case round =>
      clear HW
      obtain ⟨i, hi, rfl, HW, HF⟩ := hrel
      by_cases hin : i < n
      · have hiz : (i : Int) < (n : Int) := by omega
        have hil : i < ys.length := by rw [HN.out]; exact hin
        obtain ⟨y, hy⟩ : ∃ y, ys[i] = y := ⟨_, rfl⟩
        have hcell : wr.cell? ⟨b, off + i, none⟩ = some (.int .i64 y) := by
          rw [World.cell?_of_block (HW.out.2.2.block b hb (fun h => h)), HC.out i hil, hy]
        have HY : Hid (ys[i] = y) := hy
        clear hy
        by_cases hbad : y < 0 ∨ 15 < y
        · have hmb : may ys = false := may_bad i hil (by rw [HY.out]; exact hbad)
          have HM : Hid (may ys = false) := hmb
          have hA := HW.out.1
          have hK : Hid (Keeps (fun _ => False) w wr) := HW.out.2.2
          clear hmb HW
          rcases hbad with hbad | hbad
          all_goals (try (have hge : ¬ y < 0 := by omega))
          all_goals
            go_wp2_with (first
              | (refine wpList_store16 rfl _ _ rfl _ (fun _ => 0) rfl rfl (fun _ => 0) ?hA ?_; (case hA => assumption); intro w4 hA4 hK4))
          all_goals (try simp only [Exit.inBlock, Exit.then])
          all_goals refine bodyPost_ret (v := .tuple #[.agg (arrL (fun _ => 0)).toArray, .int .i64 300]) ?_ rfl ⟨by rw [HM.out]; rfl, hK.out.trans hK4 (fun i hi h => by have := HE.out; subst h; exact absurd hi (by omega))⟩
          all_goals
            rw [results_cell_tmp rfl]
            simp [asAddr, Result.andThen, hA4.loadVar]
        · have hy0 : ¬ y < 0 := by omega
          have hy15 : ¬ 15 < y := by omega
          have HF' : Hid ((ys.take (i + 1)).all fine = true) := by
            show _ = _
            rw [take_snoc ys i hil, List.all_append, HF.out, HY.out]
            simp [fine]; omega
          obtain ⟨c, rfl⟩ : ∃ c : Nat, y = (c : Int) := ⟨y.toNat, by omega⟩
          by_cases hp : 0 < c
          · have hpz : 0 < (c : Int) := by omega
            have hc16 : (c : Int) < 16 := by omega
            have hcb := HW.out.2.1.cell c (by omega)
            have hcf := HW.out.2.1.free c
            have hle := cn_le (ys.take i) c
            have hlt : (ys.take i).length ≤ 288 := by rw [List.length_take]; omega
            obtain ⟨q, hq⟩ : ∃ q, cn (ys.take i) c = q := ⟨_, rfl⟩
            rw [hq] at hcb hle
            have hwq : wrap64 ((q : Int) + 1) = ((q + 1 : Nat) : Int) := by rw [wrap64_small _ (by omega) (by omega)]; push_cast; rfl
            have hwq' : IntKind.i64.wrap ((q : Int) + 1) = ((q + 1 : Nat) : Int) := by rw [wrap_i64_small _ (by omega) (by omega)]; push_cast; rfl
            have HQ : Hid (cn (ys.take i) c = q) := hq
            clear hq hle hlt
            go_wp2
            go_roundw
            case rel =>
              refine ⟨i + 1, by omega, by push_cast; rfl, ?_, HF'⟩
              obtain ⟨g1, g2, g3⟩ := HW.out
              obtain ⟨n1, n2, n3⟩ := HE.out
              have kk : Keeps (fun k => k = b2) wr (wr.setCell ⟨b2, c, none⟩ (.int .i64 ((q : Int) + 1))) := Keeps.setCell (S := fun k => k = b2) (Keeps.refl _ wr) (p := ⟨b2, c, none⟩) (fun _ => rfl) _
              refine ⟨g1.kept kk n1, ?_, g3.trans kk (fun i hi h => by subst h; exact absurd hi (by omega))⟩
              rw [take_snoc ys i hil, HY.out]
              have := (g2.set c (q + 1) (by omega)).congr (by rw [← HQ.out]; exact cn_pos (ys.take i) c hp)
              exact this
            case measure => simp [intOf]; omega
          · obtain rfl : c = 0 := by omega
            go_wp2
            go_roundw
            case rel =>
              refine ⟨i + 1, by omega, by push_cast; rfl, ?_, HF'⟩
              obtain ⟨g1, g2, g3⟩ := HW.out
              refine ⟨g1, ?_, g3⟩
              rw [take_snoc ys i hil, HY.out]
              exact g2.congr (cn_zero (ys.take i))
            case measure => simp [intOf]; omega
      · obtain rfl : i = n := by omega
        have hmt : may ys = true := by
          have := HF.out
          rw [List.take_of_length_le (by rw [HN.out]; omega)] at this
          unfold may; rw [this, HN.out]; simp; omega
        have HM : Hid (may ys = true) := hmt
        have hA := HW.out.1
        have hA2 : Arr wr b2 (cn ys) := by
          have := HW.out.2.1
          rw [List.take_of_length_le (by rw [HN.out]; omega)] at this
          exact this
        have hK : Hid (Keeps (fun _ => False) w wr) := HW.out.2.2
        clear hmt HW HF
        go_wp2_with (first
          | (refine wpList_load16 rfl _ rfl _ rfl (cn ys) ?hA ?_; (case hA => assumption))
          | (refine wpList_store16 rfl _ _ rfl _ (cn ys) rfl rfl (fun _ => 0) ?hA ?_; (case hA => assumption); intro w4 hA4 hK4))
        (try simp only [Exit.inBlock, Exit.then])
        refine bodyPost_ret (v := .tuple #[.agg (arrL (cn ys)).toArray, .int .i64 0]) ?_ rfl ⟨by rw [HM.out]; rfl, hK.out.trans hK4 (fun i hi h => by have := HE.out; subst h; exact absurd hi (by omega))⟩
        rw [results_cell_tmp rfl]
        simp [asAddr, Result.andThen, hA4.loadVar]
  · have hmb : may ys = false := by
      cases hm : may ys
      · rfl
      · exact absurd (may_len hm) hn
    have HM : Hid (may ys = false) := hmb
    clear hmb
    obtain ⟨n, hn'⟩ : ∃ n, ys.length = n := ⟨_, rfl⟩
    rw [hn'] at hn hl ⊢
    clear hn'
    have hcs : (n : Int) < 1 ∨ (¬ (n : Int) < 1 ∧ 288 < (n : Int)) := by omega
    rcases hcs with hcs | ⟨hcs1, hcs2⟩
    all_goals
      go_enter Tryz.func146, Tryz.ntmps146
      go_wp2_with (first
        | (refine wpList_alloc16 rfl rfl ?_; (fail_if_success (clear hA1)); intro b1 w1 hA1 hK1 hb1)
        | (refine wpList_alloc16 rfl rfl ?_; intro b2 w2 hA2 hK2 hb2; have hA3 := hA1.kept hK2 (fun h => h))
        | (refine wpList_store16 rfl _ _ rfl _ (fun _ => 0) rfl rfl (fun _ => 0) ?hA ?_; (case hA => assumption); intro w4 hA4 hK4))
      (try simp only [Exit.inBlock, Exit.then])
      refine bodyPost_ret (v := .tuple #[.agg (arrL (fun _ => 0)).toArray, .int .i64 300]) ?_ rfl ⟨by rw [HM.out]; rfl, (hK1.trans hK2 (fun _ _ h => h)).trans hK4 (fun i hi h => by subst h; exact absurd hi (by omega))⟩
      rw [results_cell_tmp rfl]
      simp [asAddr, Result.andThen, hA4.loadVar]

theorem cArr_le (t : Bool) (ys : List Int) (h : t = true → ys.length ≤ 288) : ∀ i, cArr t ys i ≤ 288 := by
  intro i
  cases t
  · exact Nat.zero_le _
  · exact Nat.le_trans (cn_le ys i) (h rfl)

def fits (ys : List Int) : Bool := may ys && decide (room ys ≤ 32768)
theorem fits_true {ys : List Int} (h : fits ys = true) : may ys = true ∧ room ys ≤ 32768 := by
  simp only [fits, Bool.and_eq_true, decide_eq_true_eq] at h; exact h
theorem errF_fits {ys : List Int} : errF ys = 0 ↔ fits ys = true := by
  unfold errF fits
  cases may ys <;> simp
  by_cases h : 32768 < room ys <;> simp [h] <;> omega

set_option maxHeartbeats 4000000 in
set_option maxRecDepth 1000000 in
theorem fitting_ok (a : Option Addr) (ys : List Int) (cap : Nat) (w : World) (hR : Row w a ys) (hl : ys.length ≤ 9223372036854775807) :
    Calls Tryz.prog 117 #[.slice a ys.length cap] w fun e w' => e = .returned (.tuple #[.agg (arrL (cArr (fits ys) ys)).toArray, .int .i64 (errF ys)]) ∧ Keeps (fun _ => False) w w' := by
  have HR : Hid (Row w a ys) := hR
  clear hR
  generalize hL : ys.length = L at *
  have HL : Hid (ys.length = L) := hL
  clear hL
  have HC : Hid (∀ w', Keeps (fun _ => False) w w' → Calls Tryz.prog 146 #[.slice a L cap] w' fun e w'' => e = .returned (.tuple #[.agg (arrL (cArr (may ys) ys)).toArray, .int .i64 (cond (may ys) 0 300)]) ∧ Keeps (fun _ => False) w' w'') := fun w' hk => by
    have := count_ok a ys cap w' (HR.out.keptF hk) (by rw [HL.out]; exact hl)
    rw [HL.out] at this; exact this
  obtain ⟨t, ht⟩ : ∃ t, may ys = t := ⟨_, rfl⟩
  obtain ⟨o, ho⟩ : ∃ o, (32768 < room ys) = o := ⟨_, rfl⟩
  have HT : Hid (may ys = t ∧ ((32768 < room ys) = o)) := ⟨ht, ho⟩
  rw [ht] at HC
  cases t
  · have HFf : Hid (fits ys = false ∧ errF ys = 300) := by refine ⟨?_, ?_⟩ <;> simp [fits, errF, ht]
    clear ht ho HT
    go_enter Tryz.func117, Tryz.ntmps117
    go_wp2_with (first
      | (refine wpList_alloc16 rfl rfl ?_; (fail_if_success (clear hA1)); intro b1 w1 hA1 hK1 hb1; have HK1 : Hid (Keeps (fun _ => False) w w1) := hK1; clear hK1)
      | (go_at_call 146; refine (HC.out _ HK1.out).mono ?_; rintro e w2 ⟨rfl, hK2⟩; have hA2 := hA1.kept hK2 (fun h => h); have HK2 : Hid (Keeps (fun _ => False) w w2) := HK1.out.trans hK2 (fun _ _ h => h); clear hA1 hK2)
      | (refine wpList_alloc16 rfl rfl ?_; intro b3 w3 hA3 hK3 hb3; have hb4 := hA2.lt; have hA2' := hA2.kept hK3 (fun h => h); have HK3 : Hid (Keeps (fun _ => False) w w3) := HK2.out.trans hK3 (fun _ _ h => h); have HS : Hid (w.heap.size ≤ b3) := (by have := HK2.out.size; show _ ≤ _; omega); clear hK3 hA2)
      | (refine wpList_store16 rfl _ _ rfl b3 (cArr false ys) rfl rfl (fun _ => 0) ?hA ?_; (case hA => assumption); intro w4 hA4 hK4; have hA5 := hA2'.kept hK4 (by omega); have HK4 : Hid (Keeps (fun _ => False) w w4) := HK3.out.trans hK4 (fun i hi h => by have := HS.out; subst h; exact absurd hi (by omega)); clear hK4)
      | (refine wpList_load16 rfl _ rfl _ rfl (cArr false ys) ?hA ?_; (case hA => assumption))
      | (refine wpList_store16 rfl _ _ rfl b1 (cArr false ys) rfl rfl (fun _ => 0) ?hA ?_; (case hA => assumption); intro w5 hA6 hK5))
    (try simp only [Exit.inBlock, Exit.then])
    refine bodyPost_ret (v := .tuple #[.agg (arrL (cArr false ys)).toArray, .int .i64 300]) ?_ rfl ⟨by rw [HFf.out.1, HFf.out.2], HK4.out.trans hK5 (fun i hi h => by subst h; exact absurd hi (by omega))⟩
    rw [results_cell_tmp rfl]
    simp [asAddr, Result.andThen, hA6.loadVar]
  · have hle : ∀ i, cArr true ys i ≤ 288 := cArr_le true ys (fun _ => (may_len ht).2)
    have HCr : Hid (∀ w', Calls Tryz.prog 147 #[.agg (arrL (cArr true ys)).toArray] w' fun e w'' => e = .returned (.int .i64 (room ys : Nat)) ∧ Keeps (fun _ => False) w' w'') := fun w' => room_ok (cArr true ys) w' hle
    clear hle
    have HFg : Hid ((32768 < room ys → fits ys = false ∧ errF ys = 301) ∧ (¬ 32768 < room ys → fits ys = true ∧ errF ys = 0)) := by
      refine ⟨fun h => ?_, fun h => ?_⟩
      · simp [fits, errF, ht, h]
      · simp [fits, errF, ht, h]; omega
    generalize room ys = r at *
    by_cases hr : 32768 < r
    · have hrz : 32768 < (r : Int) := by omega
      have HFf : Hid (fits ys = false ∧ errF ys = 301) := HFg.out.1 hr
      clear ht ho HT HFg
      go_enter Tryz.func117, Tryz.ntmps117
      go_wp2_with (first
        | (refine wpList_alloc16 rfl rfl ?_; (fail_if_success (clear hA1)); intro b1 w1 hA1 hK1 hb1; have HK1 : Hid (Keeps (fun _ => False) w w1) := hK1; clear hK1)
        | (go_at_call 146; refine (HC.out _ HK1.out).mono ?_; rintro e w2 ⟨rfl, hK2⟩; have hA2 := hA1.kept hK2 (fun h => h); have HK2 : Hid (Keeps (fun _ => False) w w2) := HK1.out.trans hK2 (fun _ _ h => h); clear hA1 hK2)
        | (refine wpList_alloc16 rfl rfl ?_; intro b3 w3 hA3 hK3 hb3; have hb4 := hA2.lt; have hA2' := hA2.kept hK3 (fun h => h); have HK3 : Hid (Keeps (fun _ => False) w w3) := HK2.out.trans hK3 (fun _ _ h => h); have HS : Hid (w.heap.size ≤ b3) := (by have := HK2.out.size; show _ ≤ _; omega); clear hK3 hA2)
        | (refine wpList_store16 rfl _ _ rfl b3 (cArr true ys) rfl rfl (fun _ => 0) ?hA ?_; (case hA => assumption); intro w4 hA4 hK4; have hA5 := hA2'.kept hK4 (by omega); have HK4 : Hid (Keeps (fun _ => False) w w4) := HK3.out.trans hK4 (fun i hi h => by have := HS.out; subst h; exact absurd hi (by omega)); clear hK4)
        | (refine wpList_load16w _ rfl _ rfl rfl (cArr true ys) ?hA ?_; (case hA => assumption))
        | (go_at_call 147; refine (HCr.out _).mono ?_; rintro e w5 ⟨rfl, hK5⟩; have hA7 := hA5.kept hK5 (fun h => h); have hA8 := hA4.kept hK5 (fun h => h); have HK5 : Hid (Keeps (fun _ => False) w w5) := HK4.out.trans hK5 (fun _ _ h => h); clear hA4 hA5 hK5)
        | (refine wpList_store16 rfl _ _ rfl b1 (fun _ => 0) rfl rfl (fun _ => 0) ?hA ?_; (case hA => assumption); intro w6 hA9 hK6))
      (try simp only [Exit.inBlock, Exit.then])
      refine bodyPost_ret (v := .tuple #[.agg (arrL (fun _ => 0)).toArray, .int .i64 301]) ?_ rfl ⟨by rw [HFf.out.1, HFf.out.2] <;> rfl, HK5.out.trans hK6 (fun i hi h => by subst h; exact absurd hi (by omega))⟩
      rw [results_cell_tmp rfl]
      simp [asAddr, Result.andThen, hA9.loadVar]
    · have hrz : ¬ 32768 < (r : Int) := by omega
      have HFf : Hid (fits ys = true ∧ errF ys = 0) := HFg.out.2 hr
      clear ht ho HT HFg
      go_enter Tryz.func117, Tryz.ntmps117
      go_wp2_with (first
        | (refine wpList_alloc16 rfl rfl ?_; (fail_if_success (clear hA1)); intro b1 w1 hA1 hK1 hb1; have HK1 : Hid (Keeps (fun _ => False) w w1) := hK1; clear hK1)
        | (go_at_call 146; refine (HC.out _ HK1.out).mono ?_; rintro e w2 ⟨rfl, hK2⟩; have hA2 := hA1.kept hK2 (fun h => h); have HK2 : Hid (Keeps (fun _ => False) w w2) := HK1.out.trans hK2 (fun _ _ h => h); clear hA1 hK2)
        | (refine wpList_alloc16 rfl rfl ?_; intro b3 w3 hA3 hK3 hb3; have hb4 := hA2.lt; have hA2' := hA2.kept hK3 (fun h => h); have HK3 : Hid (Keeps (fun _ => False) w w3) := HK2.out.trans hK3 (fun _ _ h => h); have HS : Hid (w.heap.size ≤ b3) := (by have := HK2.out.size; show _ ≤ _; omega); clear hK3 hA2)
        | (refine wpList_store16 rfl _ _ rfl b3 (cArr true ys) rfl rfl (fun _ => 0) ?hA ?_; (case hA => assumption); intro w4 hA4 hK4; have hA5 := hA2'.kept hK4 (by omega); have HK4 : Hid (Keeps (fun _ => False) w w4) := HK3.out.trans hK4 (fun i hi h => by have := HS.out; subst h; exact absurd hi (by omega)); clear hK4)
        | (refine wpList_load16 rfl _ rfl _ rfl (cArr true ys) ?hA ?_; (case hA => assumption))
        | (refine wpList_load16w _ rfl _ rfl rfl (cArr true ys) ?hA ?_; (case hA => assumption))
        | (go_at_call 147; refine (HCr.out _).mono ?_; rintro e w5 ⟨rfl, hK5⟩; have hA7 := hA5.kept hK5 (fun h => h); have hA8 := hA4.kept hK5 (fun h => h); have HK5 : Hid (Keeps (fun _ => False) w w5) := HK4.out.trans hK5 (fun _ _ h => h); clear hA4 hA5 hK5)
        | (refine wpList_store16 rfl _ _ rfl b1 (cArr true ys) rfl rfl (fun _ => 0) ?hA ?_; (case hA => assumption); intro w6 hA9 hK6))
      (try simp only [Exit.inBlock, Exit.then])
      refine bodyPost_ret (v := .tuple #[.agg (arrL (cArr true ys)).toArray, .int .i64 0]) ?_ rfl ⟨by rw [HFf.out.1, HFf.out.2] <;> rfl, HK5.out.trans hK6 (fun i hi h => by subst h; exact absurd hi (by omega))⟩
      rw [results_cell_tmp rfl]
      simp [asAddr, Result.andThen, hA9.loadVar]

end Go.Proofs.YtebjooebdehlnaaGreat.Hf

namespace Go.Proofs.YtebjooebdehlnaaGreat.Hf
open Go.RowKit
set_option linter.unusedVariables false
set_option linter.unusedSimpArgs false

theorem num_any (n : Int) (w : World) : Calls Tryz.prog 14 #[.int .i64 n] w fun e w' => e = .returned (.int .i64 n) ∧ w' = w := by
  go_enter Tryz.func14, Tryz.ntmps14
  go_wp2
  go_ret
  exact ⟨rfl, rfl⟩

theorem nthL_drop (b : Int) (ys : List Int) (i k : Nat) (h : i < ys.length) : nthL b (ys.drop i) k i = if ys[i] = b then (if k = 0 then some i else nthL b (ys.drop (i + 1)) (k - 1) (i + 1)) else nthL b (ys.drop (i + 1)) k (i + 1) := by
  rw [List.drop_eq_getElem_cons h, nthL]

set_option maxHeartbeats 4000000 in
set_option maxRecDepth 1000000 in
theorem check_ok (a : Option Addr) (ys : List Int) (cap : Nat) (w : World) (hR : Row w a ys) (hl : ys.length ≤ 9223372036854775807) :
    Calls Tryz.prog 173 #[.slice a ys.length cap] w fun e w' => e = .returned (.int .i64 (errC ys)) ∧ Keeps (fun _ => False) w w' := by
  have HC : Hid (Calls Tryz.prog 146 #[.slice a ys.length cap] w fun e w'' => e = .returned (.tuple #[.agg (arrL (cArr (may ys) ys)).toArray, .int .i64 (cond (may ys) 0 300)]) ∧ Keeps (fun _ => False) w w'') := count_ok a ys cap w hR hl
  clear hR
  generalize ys.length = L at *
  cases ht : may ys
  · rw [ht] at HC
    have HE : Hid (errC ys = 300) := by show _ = _; simp [errC, ht]
    clear ht
    go_enter Tryz.func173, Tryz.ntmps173
    go_wp2_with (first
      | (go_at_call 146; refine HC.out.mono ?_; rintro e w2 ⟨rfl, hK2⟩; have HK2 : Hid (Keeps (fun _ => False) w w2) := hK2; clear hK2)
      | (refine wpList_alloc16 rfl rfl ?_; intro b3 w3 hA3 hK3 hb3; have HK3 : Hid (Keeps (fun _ => False) w w3) := HK2.out.trans hK3 (fun _ _ h => h); have HS : Hid (w.heap.size ≤ b3) := (by have := HK2.out.size; show _ ≤ _; omega); clear hK3)
      | (refine wpList_store16 rfl _ _ rfl b3 (cArr false ys) rfl rfl (fun _ => 0) ?hA ?_; (case hA => assumption); intro w4 hA4 hK4; have HK4 : Hid (Keeps (fun _ => False) w w4) := HK3.out.trans hK4 (fun i hi h => by have := HS.out; subst h; exact absurd hi (by omega)); clear hK4))
    go_ret
    exact ⟨by rw [HE.out]; rfl, HK4.out⟩
  · rw [ht] at HC
    have hle : ∀ i, cArr true ys i ≤ 288 := cArr_le true ys (fun _ => (may_len ht).2)
    have HCr : Hid (∀ w', Calls Tryz.prog 147 #[.agg (arrL (cArr true ys)).toArray] w' fun e w'' => e = .returned (.int .i64 (room ys : Nat)) ∧ Keeps (fun _ => False) w' w'') := fun w' => room_ok (cArr true ys) w' hle
    have HE : Hid (errC ys = cond (decide (32768 < room ys)) 301 (cond (decide (room ys < 32768)) 302 0)) := by show _ = _; simp [errC, ht]
    clear hle ht
    generalize room ys = r at *
    have hcs : (32768 < (r : Int)) ∨ (¬ (32768 < (r : Int)) ∧ (r : Int) < 32768) ∨ (¬ (32768 < (r : Int)) ∧ ¬ (r : Int) < 32768) := by omega
    rcases hcs with h1 | ⟨h1, h2⟩ | ⟨h1, h2⟩
    · go_enter Tryz.func173, Tryz.ntmps173
      go_wp2_with (first
        | (go_at_call 146; refine HC.out.mono ?_; rintro e w2 ⟨rfl, hK2⟩; have HK2 : Hid (Keeps (fun _ => False) w w2) := hK2; clear hK2)
        | (refine wpList_alloc16 rfl rfl ?_; intro b3 w3 hA3 hK3 hb3; have HK3 : Hid (Keeps (fun _ => False) w w3) := HK2.out.trans hK3 (fun _ _ h => h); have HS : Hid (w.heap.size ≤ b3) := (by have := HK2.out.size; show _ ≤ _; omega); clear hK3)
        | (refine wpList_store16 rfl _ _ rfl b3 (cArr true ys) rfl rfl (fun _ => 0) ?hA ?_; (case hA => assumption); intro w4 hA4 hK4; have HK4 : Hid (Keeps (fun _ => False) w w4) := HK3.out.trans hK4 (fun i hi h => by have := HS.out; subst h; exact absurd hi (by omega)); clear hK4)
        | (refine wpList_load16 rfl _ rfl _ rfl (cArr true ys) ?hA ?_; (case hA => assumption))
        | (go_at_call 147; (fail_if_success (clear HK5)); refine (HCr.out _).mono ?_; rintro e w5 ⟨rfl, hK5⟩; have hA7 := hA4.kept hK5 (fun h => h); have HK5 : Hid (Keeps (fun _ => False) w w5) := HK4.out.trans hK5 (fun _ _ h => h); clear hK5)
        | (go_at_call 147; refine (HCr.out _).mono ?_; rintro e w6 ⟨rfl, hK6⟩; have HK6 : Hid (Keeps (fun _ => False) w w6) := HK5.out.trans hK6 (fun _ _ h => h); clear hK6))
      go_ret
      exact ⟨by rw [HE.out, decide_eq_true (show 32768 < r by omega)]; rfl, HK5.out⟩
    · go_enter Tryz.func173, Tryz.ntmps173
      go_wp2_with (first
        | (go_at_call 146; refine HC.out.mono ?_; rintro e w2 ⟨rfl, hK2⟩; have HK2 : Hid (Keeps (fun _ => False) w w2) := hK2; clear hK2)
        | (refine wpList_alloc16 rfl rfl ?_; intro b3 w3 hA3 hK3 hb3; have HK3 : Hid (Keeps (fun _ => False) w w3) := HK2.out.trans hK3 (fun _ _ h => h); have HS : Hid (w.heap.size ≤ b3) := (by have := HK2.out.size; show _ ≤ _; omega); clear hK3)
        | (refine wpList_store16 rfl _ _ rfl b3 (cArr true ys) rfl rfl (fun _ => 0) ?hA ?_; (case hA => assumption); intro w4 hA4 hK4; have HK4 : Hid (Keeps (fun _ => False) w w4) := HK3.out.trans hK4 (fun i hi h => by have := HS.out; subst h; exact absurd hi (by omega)); clear hK4)
        | (refine wpList_load16 rfl _ rfl _ rfl (cArr true ys) ?hA ?_; (case hA => assumption))
        | (go_at_call 147; (fail_if_success (clear HK5)); refine (HCr.out _).mono ?_; rintro e w5 ⟨rfl, hK5⟩; have hA7 := hA4.kept hK5 (fun h => h); have HK5 : Hid (Keeps (fun _ => False) w w5) := HK4.out.trans hK5 (fun _ _ h => h); clear hK5)
        | (go_at_call 147; refine (HCr.out _).mono ?_; rintro e w6 ⟨rfl, hK6⟩; have HK6 : Hid (Keeps (fun _ => False) w w6) := HK5.out.trans hK6 (fun _ _ h => h); clear hK6))
      go_ret
      exact ⟨by rw [HE.out, decide_eq_false (show ¬ 32768 < r by omega), decide_eq_true (show r < 32768 by omega)]; rfl, HK6.out⟩
    · go_enter Tryz.func173, Tryz.ntmps173
      go_wp2_with (first
        | (go_at_call 146; refine HC.out.mono ?_; rintro e w2 ⟨rfl, hK2⟩; have HK2 : Hid (Keeps (fun _ => False) w w2) := hK2; clear hK2)
        | (refine wpList_alloc16 rfl rfl ?_; intro b3 w3 hA3 hK3 hb3; have HK3 : Hid (Keeps (fun _ => False) w w3) := HK2.out.trans hK3 (fun _ _ h => h); have HS : Hid (w.heap.size ≤ b3) := (by have := HK2.out.size; show _ ≤ _; omega); clear hK3)
        | (refine wpList_store16 rfl _ _ rfl b3 (cArr true ys) rfl rfl (fun _ => 0) ?hA ?_; (case hA => assumption); intro w4 hA4 hK4; have HK4 : Hid (Keeps (fun _ => False) w w4) := HK3.out.trans hK4 (fun i hi h => by have := HS.out; subst h; exact absurd hi (by omega)); clear hK4)
        | (refine wpList_load16 rfl _ rfl _ rfl (cArr true ys) ?hA ?_; (case hA => assumption))
        | (go_at_call 147; (fail_if_success (clear HK5)); refine (HCr.out _).mono ?_; rintro e w5 ⟨rfl, hK5⟩; have hA7 := hA4.kept hK5 (fun h => h); have HK5 : Hid (Keeps (fun _ => False) w w5) := HK4.out.trans hK5 (fun _ _ h => h); clear hK5)
        | (go_at_call 147; refine (HCr.out _).mono ?_; rintro e w6 ⟨rfl, hK6⟩; have HK6 : Hid (Keeps (fun _ => False) w w6) := HK5.out.trans hK6 (fun _ _ h => h); clear hK6))
      go_ret
      exact ⟨by rw [HE.out, decide_eq_false (show ¬ 32768 < r by omega), decide_eq_false (show ¬ r < 32768 by omega)]; rfl, HK6.out⟩

/-- What Find answers. -/
def foundL (ys : List Int) (b v : Int) : Option Nat := cond (fits ys) (findL ys b v) none

end Go.Proofs.YtebjooebdehlnaaGreat.Hf

/-
  Vectors in plain numbers, and what the program's May, Order, Join and Step answer.
-/
import Derived.Test.YthlaeeepbkfkgaaLend
namespace Go.Proofs.Ythlaeeepbkfkgaa
open Go.RowKit
set_option linter.unusedVariables false
set_option linter.unusedSimpArgs false

/-- A count that may be; a vector that may be. -/
def cntB (y : Int) : Bool := decide (0 ≤ y ∧ y ≤ 1048576)
def mayB (ys : List Int) : Bool := decide (ys.length = 4) && ys.all cntB
/-- Is one of the first n counts below the other's? -/
def ltTo (n : Nat) (ys zs : List Int) : Bool := (List.range n).any (fun j => decide (at_ ys j < at_ zs j))
theorem ltTo_succ (n : Nat) (ys zs : List Int) : ltTo (n + 1) ys zs = (ltTo n ys zs || decide (at_ ys n < at_ zs n)) := by
  simp [ltTo, List.range_succ]
/-- How one stands to another: the same 0, less 1, more 2, apart 3. -/
def ordN (below above : Bool) : Int := bif below && above then 3 else bif below then 1 else bif above then 2 else 0
def ordL (ys zs : List Int) : Int := ordN (ltTo 4 ys zs) (ltTo 4 zs ys)
def joinL (ys zs : List Int) : List Int := (List.range 4).map (fun j => max (at_ ys j) (at_ zs j))
def stepL (ys : List Int) (n : Nat) : List Int := ys.set n (at_ ys n + 1)
/-- What the calls answer. -/
def bothB (ys zs : List Int) : Bool := mayB ys && mayB zs
def vErr (ys zs : List Int) : Int := bif bothB ys zs then 0 else 1100
def ordV (ys zs : List Int) : Int := bif bothB ys zs then ordL ys zs else 0
def joinV (ys zs : List Int) : List Int := bif bothB ys zs then joinL ys zs else []
def nodeB (ys : List Int) (n : Int) : Bool := mayB ys && decide (0 ≤ n ∧ n < 4)
def fullB (ys : List Int) (n : Int) : Bool := decide (at_ ys n.toNat = 1048576)
def sErr (ys : List Int) (n : Int) : Int := bif nodeB ys n then (bif fullB ys n then 1101 else 0) else 1100
def stepV (ys : List Int) (n : Int) : List Int := bif nodeB ys n && !fullB ys n then stepL ys n.toNat else []

theorem mayB_len {ys : List Int} (h : mayB ys = true) : ys.length = 4 := by
  simp only [mayB, Bool.and_eq_true, decide_eq_true_eq] at h; exact h.1
theorem mayB_cnt {ys : List Int} (h : mayB ys = true) (i : Nat) : 0 ≤ at_ ys i ∧ at_ ys i ≤ 1048576 := by
  have hl := mayB_len h
  simp only [mayB, Bool.and_eq_true, List.all_eq_true] at h
  by_cases hi : i < ys.length
  · have := h.2 ys[i] (List.getElem_mem _)
    rw [at_eq i hi]
    simpa [cntB] using this
  · simp [at_, List.getD, List.getElem?_eq_none (Nat.le_of_not_lt hi)]
theorem mayB_of {ys : List Int} (hl : ys.length = 4) (h : ∀ i, i < ys.length → 0 ≤ at_ ys i ∧ at_ ys i ≤ 1048576) : mayB ys = true := by
  simp only [mayB, Bool.and_eq_true, decide_eq_true_eq, List.all_eq_true]
  refine ⟨hl, fun y hy => ?_⟩
  obtain ⟨i, hi, rfl⟩ := List.getElem_of_mem hy
  have := h i hi
  rw [at_eq i hi] at this
  simpa [cntB] using this
theorem mayB_bad {ys : List Int} (i : Nat) (hi : i < ys.length) (h : at_ ys i < 0 ∨ 1048576 < at_ ys i) : mayB ys = false := by
  cases e : mayB ys
  · rfl
  · have := mayB_cnt e i; omega
theorem mayB_out {ys : List Int} (hl : ¬ ys.length = 4) : mayB ys = false := by
  simp [mayB, hl]
theorem joinL_len (ys zs : List Int) : (joinL ys zs).length = 4 := by simp [joinL]
theorem joinL_at (ys zs : List Int) (i : Nat) (hi : i < 4) : at_ (joinL ys zs) i = max (at_ ys i) (at_ zs i) := by
  unfold joinL
  rw [at_, List.getD, List.getElem?_map, List.getElem?_range hi]; rfl
theorem stepL_len (ys : List Int) (n : Nat) : (stepL ys n).length = ys.length := by simp [stepL]
theorem joinV_len (ys zs : List Int) : (joinV ys zs).length ≤ 4 := by
  unfold joinV; cases bothB ys zs <;> simp [joinL_len]
theorem stepV_len (ys : List Int) (n : Int) : (stepV ys n).length ≤ 4 := by
  unfold stepV
  cases h : nodeB ys n
  · simp
  · have : ys.length = 4 := by
      simp only [nodeB, Bool.and_eq_true] at h; exact mayB_len h.1
    cases fullB ys n <;> simp [stepL_len, this]

set_option maxHeartbeats 4000000 in
set_option maxRecDepth 1000000 in
theorem may_ok (a : Option Addr) (ys : List Int) (cap : Nat) (w : World) (hR : Row w a ys) (hn : ys.length ≤ 1125899906842624) :
    Calls Try.prog 70 #[.slice a ys.length cap] w fun e w' => e = .returned (.bool (mayB ys)) ∧ w' = w := by
  by_cases hl : ys.length = 4
  · obtain ⟨b, off, rfl, hb, hc⟩ := hR.at (by omega)
    have HC : Hid (∀ i, i < 4 → w.cell? ⟨b, off + i, none⟩ = some (.int .i64 (at_ ys i))) := fun i hi => hc w (Keeps.refl _ _) i (by omega)
    have HL : Hid (ys.length = 4) := hl
    clear hc hR hb hn
    rw [hl]
    clear hl
    go_enter Try.func70, Try.ntmps70
    go_wp2
    go_loopw [4, 10] (fun _ s w' => w' = w ∧ ∃ i : Nat, i ≤ 4 ∧ s = .int .i64 (i : Int) ∧ Hid (∀ j, j < i → 0 ≤ at_ ys j ∧ at_ ys j ≤ 1048576)) (fun _ s _ => 4 - (intOf s).toNat)
    case atStart => exact ⟨rfl, 0, by omega, rfl, fun j hj => absurd hj (Nat.not_lt_zero _)⟩
    case round =>
      obtain ⟨rfl, i, hi, rfl, HQ⟩ := hrel
      by_cases hin : i < 4
      · have hiz : (i : Int) < 4 := by omega
        have c1 := HC.out i hin
        have HB : Hid (at_ ys i < 0 ∨ 1048576 < at_ ys i → mayB ys = false) := mayB_bad i (by rw [HL.out]; exact hin)
        have HG : Hid (0 ≤ at_ ys i ∧ at_ ys i ≤ 1048576 → ∀ j, j < i + 1 → 0 ≤ at_ ys j ∧ at_ ys j ≤ 1048576) := by
          refine (fun he j hj => ?_ : 0 ≤ at_ ys i ∧ at_ ys i ≤ 1048576 → ∀ j, j < i + 1 → 0 ≤ at_ ys j ∧ at_ ys j ≤ 1048576)
          by_cases e : j = i
          · subst e; exact he
          · exact HQ.out j (by omega)
        generalize at_ ys i = y at *
        have hy : y < 0 ∨ (0 ≤ y ∧ y ≤ 1048576) ∨ 1048576 < y := by omega
        rcases hy with hy | ⟨hy, hy'⟩ | hy
        · go_wp2
          go_ret
          exact ⟨by rw [HB.out (.inl hy)]; rfl, rfl⟩
        · have d1 : decide (y < 0) = false := decide_eq_false (by omega)
          have d2 : decide (1048576 < y) = false := decide_eq_false (by omega)
          go_wp2
          go_roundw
          case rel => exact ⟨trivial, i + 1, by omega, by push_cast; rfl, HG.out ⟨hy, hy'⟩⟩
          case measure => simp [intOf]; omega
        · have d1 : decide (y < 0) = false := decide_eq_false (by omega)
          go_wp2
          go_ret
          exact ⟨by rw [HB.out (.inr hy)]; rfl, rfl⟩
      · obtain rfl : i = 4 := by omega
        go_wp2
        go_ret
        exact ⟨by rw [mayB_of HL.out (fun j hj => HQ.out j (by rw [HL.out] at hj; exact hj))]; rfl, rfl⟩
  · rw [mayB_out hl]
    generalize ys.length = n at *
    have hb1 : ((n : Int) != 4) = true := by simp; omega
    have hb2 : ¬ ((n : Int) = 4) := by omega
    clear hR
    go_enter Try.func70, Try.ntmps70
    go_wp2
    go_ret
    exact ⟨rfl, rfl⟩

end Go.Proofs.Ythlaeeepbkfkgaa

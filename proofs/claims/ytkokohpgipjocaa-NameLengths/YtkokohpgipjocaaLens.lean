/-
  Names of one to eight bytes are names, longer ones are not: NameLengths.
-/
import Derived.Test.YtkokohpgipjocaaNames
namespace Go.Proofs.Ytkokohpgipjocaa
open Go.RowKit
set_option linter.unusedVariables false
set_option linter.unusedSimpArgs false

/-- The letters, and the dots, that the law cuts. -/
def abc : ByteArray := ⟨#[97, 98, 99, 100, 101, 102, 103, 104, 105, 106, 107, 108, 109, 110, 111, 112, 113, 114, 115, 116]⟩
def dots : ByteArray := ⟨#[46, 46, 46, 46, 46, 46, 46, 46, 46, 46, 46, 46, 46, 46, 46, 46, 46, 46, 46, 46]⟩
theorem name_abc : ∀ m : Fin 20, nameB (abc.extract 0 m) = decide (1 ≤ m.val ∧ m.val ≤ 8) := by decide +kernel
theorem name_dots : ∀ m : Fin 20, nameB (dots.extract 0 m) = decide (3 ≤ m.val ∧ m.val ≤ 8) := by decide +kernel
theorem u64_mod (a : Int) : ∃ m : Nat, m < 20 ∧ (IntKind.u64.wrap a) % 20 = (m : Int) ∧ (IntKind.u64.wrap a).tmod 20 = (m : Int) ∧ (a % 18446744073709551616) % 20 = (m : Int) ∧ (a % 18446744073709551616).tmod 20 = (m : Int) := by
  have e : IntKind.u64.wrap a = a % 18446744073709551616 := by simp [IntKind.wrap, IntKind.bits, IntKind.signed]
  refine ⟨((a % 18446744073709551616) % 20).toNat, by omega, by rw [e]; omega, ?_, by omega, ?_⟩
  · rw [e, Int.tmod_eq_emod_of_nonneg (by omega)]; omega
  · rw [Int.tmod_eq_emod_of_nonneg (by omega)]; omega

set_option maxHeartbeats 1600000 in
theorem lens_walk (k : Int) (w : World) :
    Calls Try.prog 5 #[.int .i64 k] w fun e w' => e = .returned (.bool true) ∧ Below w.heap.size w w' := by
  obtain ⟨m, hm, e1, e2, e3, e4⟩ := u64_mod k
  have HM : Hid (m < 20) := hm
  have hi : (m : Int) ≤ 20 := by omega
  have hj : (0 : Int) ≤ (m : Int) := by omega
  have hw : wrap64 (m : Int) = (m : Int) := by simp only [wrap64]; omega
  have G1 : Hid (nameB (abc.extract 0 m) = decide (1 ≤ m ∧ m ≤ 8)) := name_abc ⟨m, hm⟩
  have G2 : Hid (nameB (dots.extract 0 m) = decide (3 ≤ m ∧ m ≤ 8)) := name_dots ⟨m, hm⟩
  clear hm
  go_enter Try.func5, Try.ntmps5
  go_wp2_with fail
  refine (awake_ok w).mono ?_
  rintro e w' ⟨rfl, hw⟩
  obtain rfl := hw.symm; clear hw
  go_wp2_with (first | (go_at_call 9; refine (num_any _ _).mono ?_; rintro e w' ⟨rfl, hw⟩; obtain rfl := hw.symm; clear hw))
  refine (may_ok (abc.extract 0 m) w (by rw [ByteArray.size_extract]; have := HM.out; omega)).mono ?_
  rintro e w' ⟨rfl, hw⟩
  obtain rfl := hw.symm; clear hw
  rw [G1.out]
  have hc : m = 0 ∨ (1 ≤ m ∧ m ≤ 2) ∨ (3 ≤ m ∧ m ≤ 8) ∨ 8 < m := by omega
  rcases hc with h | ⟨h, h'⟩ | ⟨h, h'⟩ | h
  · subst h
    go_wp2_with fail
    refine (may_ok ByteArray.empty w (by decide)).mono ?_
    rintro e w' ⟨rfl, hw⟩
    obtain rfl := hw.symm; clear hw
    rw [show nameB ByteArray.empty = false by decide +kernel]
    go_wp2
    go_ret
    exact ⟨rfl, Below.refl _ _⟩
  · rw [decide_eq_true (by omega)]
    rw [decide_eq_false (by omega : ¬ (3 ≤ m ∧ m ≤ 8))] at G2
    have f1 : 1 ≤ (m : Int) := by omega
    have f2 : (m : Int) < 3 := by omega
    have f3 : (m : Int) ≤ 8 := by omega
    clear h
    try clear h'
    go_wp2_with fail
    refine (may_ok (dots.extract 0 m) w (by rw [ByteArray.size_extract]; have := HM.out; omega)).mono ?_
    rintro e w' ⟨rfl, hw⟩
    obtain rfl := hw.symm; clear hw
    rw [G2.out]
    go_wp2
    go_ret
    exact ⟨rfl, Below.refl _ _⟩
  · rw [decide_eq_true (by omega)]
    rw [decide_eq_true (by omega : (3 ≤ m ∧ m ≤ 8))] at G2
    have f1 : 1 ≤ (m : Int) := by omega
    have f2 : 3 ≤ (m : Int) := by omega
    have f3 : (m : Int) ≤ 8 := by omega
    clear h
    try clear h'
    go_wp2_with fail
    refine (may_ok (dots.extract 0 m) w (by rw [ByteArray.size_extract]; have := HM.out; omega)).mono ?_
    rintro e w' ⟨rfl, hw⟩
    obtain rfl := hw.symm; clear hw
    rw [G2.out]
    go_wp2
    go_ret
    exact ⟨rfl, Below.refl _ _⟩
  · rw [decide_eq_false (by omega)]
    rw [decide_eq_false (by omega : ¬ (3 ≤ m ∧ m ≤ 8))] at G2
    have f1 : 1 ≤ (m : Int) := by omega
    have f2 : 3 ≤ (m : Int) := by omega
    have f3 : 8 < (m : Int) := by omega
    have f4 : decide ((m : Int) ≤ 8) = false := decide_eq_false (by omega)
    clear h
    try clear h'
    go_wp2_with fail
    refine (may_ok (dots.extract 0 m) w (by rw [ByteArray.size_extract]; have := HM.out; omega)).mono ?_
    rintro e w' ⟨rfl, hw⟩
    obtain rfl := hw.symm; clear hw
    rw [G2.out]
    go_wp2
    go_ret
    exact ⟨rfl, Below.refl _ _⟩

end Go.Proofs.Ytkokohpgipjocaa

/-
  Names of one byte, and names that a byte is put to: NameBytes.
-/
import Derived.Test.YtkokohpgipjocaaNames
namespace Go.Proofs.Ytkokohpgipjocaa
open Go.RowKit
set_option linter.unusedVariables false
set_option linter.unusedSimpArgs false

/-- Bytes that are a name by themselves. -/
def oneB (n : Nat) : Bool := decide (97 ≤ n ∧ n ≤ 122) || decide (48 ≤ n ∧ n ≤ 57) || decide (n = 45) || decide (n = 95)
/-- One byte as a text. -/
def oneS (n : Nat) : ByteArray := ⟨#[UInt8.ofNat n]⟩

theorem bytesOf_append (a b : ByteArray) : bytesOf (a ++ b) = bytesOf a ++ bytesOf b := by
  unfold bytesOf; rw [ByteArray.data_append, Array.toList_append, List.map_append]
theorem one_bytes (n : Nat) (h : n < 256) : bytesOf (oneS n) = [n] := by
  simp [bytesOf, oneS]; omega

theorem name_one : ∀ n : Fin 256, nameB (oneS n) = oneB n := by decide +kernel
theorem name_a1 : ∀ n : Fin 256, nameB (⟨#[97]⟩ ++ oneS n) = letB n := by decide +kernel
theorem name_1a : ∀ n : Fin 256, nameB (oneS n ++ ⟨#[97]⟩) = letB n := by decide +kernel
theorem name_a1a : ∀ n : Fin 256, nameB (⟨#[97]⟩ ++ oneS n ++ ⟨#[97]⟩) = letB n := by decide +kernel
theorem name_rest (r : ByteArray) (n : Nat) (h : n < 256) (hb : letB n = false) : nameB (r ++ oneS n) = false := by
  unfold nameB
  rw [bytesOf_append, one_bytes n h, List.all_append]
  simp [hb]

theorem byte_i64 (a : Int) : ∃ n : Nat, n < 256 ∧ IntKind.u8.wrap a = (n : Int) ∧ a % 256 = (n : Int) := by
  refine ⟨(a % 256).toNat, by omega, ?_, by omega⟩
  simp [IntKind.wrap, IntKind.bits, IntKind.signed]; omega

theorem conv_one (n : Nat) (w : World) (hn : n < 256) : (convert 24 9 (.slice (some ⟨w.heap.size, 0, none⟩) 1 1)).run Try.prog (w.alloc (.cells #[.int .u8 (n : Int)] 5)) = .ok (.string (oneS n)) (w.alloc (.cells #[.int .u8 (n : Int)] 5)) := by
  have := run_convert_bytes_back (P := Try.prog) (w.alloc (.cells #[.int .u8 (n : Int)] 5)) 24 9 5 ⟨w.heap.size, 0, none⟩ 1 [UInt8.ofNat n] Try.underlying24 Try.underlying5 Try.underlying9 ?_
  · exact this
  · intro j hj
    have : j = 0 := by simpa using hj
    subst this
    rw [addr_add]
    simp only [World.cell?]
    rw [heap_alloc_new]
    simp
    omega

set_option maxHeartbeats 1600000 in
theorem bytes_c0 (b : Int) (r : ByteArray) (w : World) (hr : r.size ≤ 562949953421312) (n : Nat) (h : n < 45) (e1 : IntKind.u8.wrap b = (n : Int)) (e2 : b % 256 = (n : Int)) :
    Calls Try.prog 4 #[.int .i64 b, .string r] w fun e w' => e = .returned (.bool true) ∧ Below w.heap.size w w' := by
  have f1 : (n : Int) < 97 := by omega
  have f2 : (n : Int) ≤ 122 := by omega
  have f3 : (n : Int) < 48 := by omega
  have f4 : (n : Int) ≤ 57 := by omega
  have f8 : decide ((n : Int) ≤ 122) = true := decide_eq_true (by omega)
  have f9 : decide ((n : Int) ≤ 57) = true := decide_eq_true (by omega)
  have f5 : ((n : Int) == 45) = false := by simp; omega
  have f6 : ((n : Int) == 95) = false := by simp; omega
  have f7 : ((n : Int) != 46) = true := by simp; omega
  have hn : n < 256 := by omega
  have hcv := conv_one n w hn
  have hadd : r.size + (oneS n).size ≤ 9223372036854775807 := (by show r.size + 1 ≤ _; omega)
  have HZ : Hid ((r ++ oneS n).size ≤ 1125899906842624) := (by rw [ByteArray.size_append]; show r.size + 1 ≤ _; omega : (r ++ oneS n).size ≤ 1125899906842624)
  have G1 : Hid (nameB (oneS n) = false) := (name_one ⟨n, hn⟩).trans (by unfold oneB; simp; omega)
  have G2 : Hid (nameB (⟨#[97]⟩ ++ oneS n) = false) := (name_a1 ⟨n, hn⟩).trans (by unfold letB; simp; omega)
  have G3 : Hid (nameB (oneS n ++ ⟨#[97]⟩) = false) := (name_1a ⟨n, hn⟩).trans (by unfold letB; simp; omega)
  have G4 : Hid (nameB (r ++ oneS n) = false) := name_rest r n hn (by unfold letB; simp; omega)
  clear h hn hr
  go_enter Try.func4, Try.ntmps4
  go_wp2_with fail
  refine (awake_ok w).mono ?_
  rintro e w' ⟨rfl, hw⟩
  obtain rfl := hw.symm; clear hw
  go_wp2_with fail
  refine (may_ok _ _ (show 1 ≤ _ by decide)).mono ?_
  rintro e w' ⟨rfl, hw⟩
  obtain rfl := hw.symm; clear hw
  rw [G1.out]
  go_wp2_with (first | (go_at_call 9; refine (num_any _ _).mono ?_; rintro e w' ⟨rfl, hw⟩; obtain rfl := hw.symm; clear hw))
  refine (may_ok _ _ (by rw [ByteArray.size_append]; show 1 + 1 ≤ _; decide)).mono ?_
  rintro e w' ⟨rfl, hw⟩
  obtain rfl := hw.symm; clear hw
  rw [G2.out]
  go_wp2_with fail
  refine (may_ok _ _ (by rw [ByteArray.size_append]; show 1 + 1 ≤ _; decide)).mono ?_
  rintro e w' ⟨rfl, hw⟩
  obtain rfl := hw.symm; clear hw
  rw [G3.out]
  go_wp2_with fail
  refine (may_ok _ _ HZ.out).mono ?_
  rintro e w' ⟨rfl, hw⟩
  obtain rfl := hw.symm; clear hw
  rw [G4.out]
  go_wp2
  go_ret
  exact ⟨rfl, (Below.refl _ _).alloc (Nat.le_refl _) _⟩

set_option maxHeartbeats 1600000 in
theorem bytes_c1 (b : Int) (r : ByteArray) (w : World) (hr : r.size ≤ 562949953421312) (n : Nat) (h : n = 45) (e1 : IntKind.u8.wrap b = (n : Int)) (e2 : b % 256 = (n : Int)) :
    Calls Try.prog 4 #[.int .i64 b, .string r] w fun e w' => e = .returned (.bool true) ∧ Below w.heap.size w w' := by
  have f1 : (n : Int) < 97 := by omega
  have f2 : (n : Int) ≤ 122 := by omega
  have f3 : (n : Int) < 48 := by omega
  have f4 : (n : Int) ≤ 57 := by omega
  have f8 : decide ((n : Int) ≤ 122) = true := decide_eq_true (by omega)
  have f9 : decide ((n : Int) ≤ 57) = true := decide_eq_true (by omega)
  have f5 : ((n : Int) == 45) = true := by simp; omega
  have f6 : ((n : Int) == 95) = false := by simp; omega
  have f7 : ((n : Int) != 46) = true := by simp; omega
  have hn : n < 256 := by omega
  have hcv := conv_one n w hn
  have hadd : r.size + (oneS n).size ≤ 9223372036854775807 := (by show r.size + 1 ≤ _; omega)
  have HZ : Hid ((r ++ oneS n).size ≤ 1125899906842624) := (by rw [ByteArray.size_append]; show r.size + 1 ≤ _; omega : (r ++ oneS n).size ≤ 1125899906842624)
  have G1 : Hid (nameB (oneS n) = true) := (name_one ⟨n, hn⟩).trans (by unfold oneB; simp; omega)
  have G2 : Hid (nameB (⟨#[97]⟩ ++ oneS n) = true) := (name_a1 ⟨n, hn⟩).trans (by unfold letB; simp; omega)
  have G3 : Hid (nameB (⟨#[97]⟩ ++ oneS n ++ ⟨#[97]⟩) = true) := (name_a1a ⟨n, hn⟩).trans (by unfold letB; simp; omega)
  clear h hn hr
  go_enter Try.func4, Try.ntmps4
  go_wp2_with fail
  refine (awake_ok w).mono ?_
  rintro e w' ⟨rfl, hw⟩
  obtain rfl := hw.symm; clear hw
  go_wp2_with fail
  refine (may_ok _ _ (show 1 ≤ _ by decide)).mono ?_
  rintro e w' ⟨rfl, hw⟩
  obtain rfl := hw.symm; clear hw
  rw [G1.out]
  go_wp2_with (first | (go_at_call 9; refine (num_any _ _).mono ?_; rintro e w' ⟨rfl, hw⟩; obtain rfl := hw.symm; clear hw))
  refine (may_ok _ _ (by rw [ByteArray.size_append]; show 1 + 1 ≤ _; decide)).mono ?_
  rintro e w' ⟨rfl, hw⟩
  obtain rfl := hw.symm; clear hw
  rw [G2.out]
  go_wp2_with fail
  refine (may_ok _ _ (by rw [ByteArray.size_append, ByteArray.size_append]; show 1 + 1 + 1 ≤ _; decide)).mono ?_
  rintro e w' ⟨rfl, hw⟩
  obtain rfl := hw.symm; clear hw
  rw [G3.out]
  go_wp2
  go_ret
  exact ⟨rfl, (Below.refl _ _).alloc (Nat.le_refl _) _⟩

set_option maxHeartbeats 1600000 in
theorem bytes_c2 (b : Int) (r : ByteArray) (w : World) (hr : r.size ≤ 562949953421312) (n : Nat) (h : n = 46) (e1 : IntKind.u8.wrap b = (n : Int)) (e2 : b % 256 = (n : Int)) :
    Calls Try.prog 4 #[.int .i64 b, .string r] w fun e w' => e = .returned (.bool true) ∧ Below w.heap.size w w' := by
  have f1 : (n : Int) < 97 := by omega
  have f2 : (n : Int) ≤ 122 := by omega
  have f3 : (n : Int) < 48 := by omega
  have f4 : (n : Int) ≤ 57 := by omega
  have f8 : decide ((n : Int) ≤ 122) = true := decide_eq_true (by omega)
  have f9 : decide ((n : Int) ≤ 57) = true := decide_eq_true (by omega)
  have f5 : ((n : Int) == 45) = false := by simp; omega
  have f6 : ((n : Int) == 95) = false := by simp; omega
  have f7 : ((n : Int) != 46) = false := by simp; omega
  have hn : n < 256 := by omega
  have hcv := conv_one n w hn
  have hadd : r.size + (oneS n).size ≤ 9223372036854775807 := (by show r.size + 1 ≤ _; omega)
  have HZ : Hid ((r ++ oneS n).size ≤ 1125899906842624) := (by rw [ByteArray.size_append]; show r.size + 1 ≤ _; omega : (r ++ oneS n).size ≤ 1125899906842624)
  have G1 : Hid (nameB (oneS n) = false) := (name_one ⟨n, hn⟩).trans (by unfold oneB; simp; omega)
  have G2 : Hid (nameB (⟨#[97]⟩ ++ oneS n) = true) := (name_a1 ⟨n, hn⟩).trans (by unfold letB; simp; omega)
  have G3 : Hid (nameB (⟨#[97]⟩ ++ oneS n ++ ⟨#[97]⟩) = true) := (name_a1a ⟨n, hn⟩).trans (by unfold letB; simp; omega)
  clear h hn hr
  go_enter Try.func4, Try.ntmps4
  go_wp2_with fail
  refine (awake_ok w).mono ?_
  rintro e w' ⟨rfl, hw⟩
  obtain rfl := hw.symm; clear hw
  go_wp2_with fail
  refine (may_ok _ _ (show 1 ≤ _ by decide)).mono ?_
  rintro e w' ⟨rfl, hw⟩
  obtain rfl := hw.symm; clear hw
  rw [G1.out]
  go_wp2_with (first | (go_at_call 9; refine (num_any _ _).mono ?_; rintro e w' ⟨rfl, hw⟩; obtain rfl := hw.symm; clear hw))
  refine (may_ok _ _ (by rw [ByteArray.size_append]; show 1 + 1 ≤ _; decide)).mono ?_
  rintro e w' ⟨rfl, hw⟩
  obtain rfl := hw.symm; clear hw
  rw [G2.out]
  go_wp2_with fail
  refine (may_ok _ _ (by rw [ByteArray.size_append, ByteArray.size_append]; show 1 + 1 + 1 ≤ _; decide)).mono ?_
  rintro e w' ⟨rfl, hw⟩
  obtain rfl := hw.symm; clear hw
  rw [G3.out]
  go_wp2
  go_ret
  exact ⟨rfl, (Below.refl _ _).alloc (Nat.le_refl _) _⟩

set_option maxHeartbeats 1600000 in
theorem bytes_c3 (b : Int) (r : ByteArray) (w : World) (hr : r.size ≤ 562949953421312) (n : Nat) (h : n = 47) (e1 : IntKind.u8.wrap b = (n : Int)) (e2 : b % 256 = (n : Int)) :
    Calls Try.prog 4 #[.int .i64 b, .string r] w fun e w' => e = .returned (.bool true) ∧ Below w.heap.size w w' := by
  have f1 : (n : Int) < 97 := by omega
  have f2 : (n : Int) ≤ 122 := by omega
  have f3 : (n : Int) < 48 := by omega
  have f4 : (n : Int) ≤ 57 := by omega
  have f8 : decide ((n : Int) ≤ 122) = true := decide_eq_true (by omega)
  have f9 : decide ((n : Int) ≤ 57) = true := decide_eq_true (by omega)
  have f5 : ((n : Int) == 45) = false := by simp; omega
  have f6 : ((n : Int) == 95) = false := by simp; omega
  have f7 : ((n : Int) != 46) = true := by simp; omega
  have hn : n < 256 := by omega
  have hcv := conv_one n w hn
  have hadd : r.size + (oneS n).size ≤ 9223372036854775807 := (by show r.size + 1 ≤ _; omega)
  have HZ : Hid ((r ++ oneS n).size ≤ 1125899906842624) := (by rw [ByteArray.size_append]; show r.size + 1 ≤ _; omega : (r ++ oneS n).size ≤ 1125899906842624)
  have G1 : Hid (nameB (oneS n) = false) := (name_one ⟨n, hn⟩).trans (by unfold oneB; simp; omega)
  have G2 : Hid (nameB (⟨#[97]⟩ ++ oneS n) = false) := (name_a1 ⟨n, hn⟩).trans (by unfold letB; simp; omega)
  have G3 : Hid (nameB (oneS n ++ ⟨#[97]⟩) = false) := (name_1a ⟨n, hn⟩).trans (by unfold letB; simp; omega)
  have G4 : Hid (nameB (r ++ oneS n) = false) := name_rest r n hn (by unfold letB; simp; omega)
  clear h hn hr
  go_enter Try.func4, Try.ntmps4
  go_wp2_with fail
  refine (awake_ok w).mono ?_
  rintro e w' ⟨rfl, hw⟩
  obtain rfl := hw.symm; clear hw
  go_wp2_with fail
  refine (may_ok _ _ (show 1 ≤ _ by decide)).mono ?_
  rintro e w' ⟨rfl, hw⟩
  obtain rfl := hw.symm; clear hw
  rw [G1.out]
  go_wp2_with (first | (go_at_call 9; refine (num_any _ _).mono ?_; rintro e w' ⟨rfl, hw⟩; obtain rfl := hw.symm; clear hw))
  refine (may_ok _ _ (by rw [ByteArray.size_append]; show 1 + 1 ≤ _; decide)).mono ?_
  rintro e w' ⟨rfl, hw⟩
  obtain rfl := hw.symm; clear hw
  rw [G2.out]
  go_wp2_with fail
  refine (may_ok _ _ (by rw [ByteArray.size_append]; show 1 + 1 ≤ _; decide)).mono ?_
  rintro e w' ⟨rfl, hw⟩
  obtain rfl := hw.symm; clear hw
  rw [G3.out]
  go_wp2_with fail
  refine (may_ok _ _ HZ.out).mono ?_
  rintro e w' ⟨rfl, hw⟩
  obtain rfl := hw.symm; clear hw
  rw [G4.out]
  go_wp2
  go_ret
  exact ⟨rfl, (Below.refl _ _).alloc (Nat.le_refl _) _⟩

set_option maxHeartbeats 1600000 in
theorem bytes_c4 (b : Int) (r : ByteArray) (w : World) (hr : r.size ≤ 562949953421312) (n : Nat) (h : 48 ≤ n ∧ n ≤ 57) (e1 : IntKind.u8.wrap b = (n : Int)) (e2 : b % 256 = (n : Int)) :
    Calls Try.prog 4 #[.int .i64 b, .string r] w fun e w' => e = .returned (.bool true) ∧ Below w.heap.size w w' := by
  have f1 : (n : Int) < 97 := by omega
  have f2 : (n : Int) ≤ 122 := by omega
  have f3 : 48 ≤ (n : Int) := by omega
  have f4 : (n : Int) ≤ 57 := by omega
  have f8 : decide ((n : Int) ≤ 122) = true := decide_eq_true (by omega)
  have f9 : decide ((n : Int) ≤ 57) = true := decide_eq_true (by omega)
  have f5 : ((n : Int) == 45) = false := by simp; omega
  have f6 : ((n : Int) == 95) = false := by simp; omega
  have f7 : ((n : Int) != 46) = true := by simp; omega
  have hn : n < 256 := by omega
  have hcv := conv_one n w hn
  have hadd : r.size + (oneS n).size ≤ 9223372036854775807 := (by show r.size + 1 ≤ _; omega)
  have HZ : Hid ((r ++ oneS n).size ≤ 1125899906842624) := (by rw [ByteArray.size_append]; show r.size + 1 ≤ _; omega : (r ++ oneS n).size ≤ 1125899906842624)
  have G1 : Hid (nameB (oneS n) = true) := (name_one ⟨n, hn⟩).trans (by unfold oneB; simp; omega)
  have G2 : Hid (nameB (⟨#[97]⟩ ++ oneS n) = true) := (name_a1 ⟨n, hn⟩).trans (by unfold letB; simp; omega)
  have G3 : Hid (nameB (⟨#[97]⟩ ++ oneS n ++ ⟨#[97]⟩) = true) := (name_a1a ⟨n, hn⟩).trans (by unfold letB; simp; omega)
  clear h hn hr
  go_enter Try.func4, Try.ntmps4
  go_wp2_with fail
  refine (awake_ok w).mono ?_
  rintro e w' ⟨rfl, hw⟩
  obtain rfl := hw.symm; clear hw
  go_wp2_with fail
  refine (may_ok _ _ (show 1 ≤ _ by decide)).mono ?_
  rintro e w' ⟨rfl, hw⟩
  obtain rfl := hw.symm; clear hw
  rw [G1.out]
  go_wp2_with (first | (go_at_call 9; refine (num_any _ _).mono ?_; rintro e w' ⟨rfl, hw⟩; obtain rfl := hw.symm; clear hw))
  refine (may_ok _ _ (by rw [ByteArray.size_append]; show 1 + 1 ≤ _; decide)).mono ?_
  rintro e w' ⟨rfl, hw⟩
  obtain rfl := hw.symm; clear hw
  rw [G2.out]
  go_wp2_with fail
  refine (may_ok _ _ (by rw [ByteArray.size_append, ByteArray.size_append]; show 1 + 1 + 1 ≤ _; decide)).mono ?_
  rintro e w' ⟨rfl, hw⟩
  obtain rfl := hw.symm; clear hw
  rw [G3.out]
  go_wp2
  go_ret
  exact ⟨rfl, (Below.refl _ _).alloc (Nat.le_refl _) _⟩

set_option maxHeartbeats 1600000 in
theorem bytes_c5 (b : Int) (r : ByteArray) (w : World) (hr : r.size ≤ 562949953421312) (n : Nat) (h : 58 ≤ n ∧ n < 95) (e1 : IntKind.u8.wrap b = (n : Int)) (e2 : b % 256 = (n : Int)) :
    Calls Try.prog 4 #[.int .i64 b, .string r] w fun e w' => e = .returned (.bool true) ∧ Below w.heap.size w w' := by
  have f1 : (n : Int) < 97 := by omega
  have f2 : (n : Int) ≤ 122 := by omega
  have f3 : 48 ≤ (n : Int) := by omega
  have f4 : 57 < (n : Int) := by omega
  have f8 : decide ((n : Int) ≤ 122) = true := decide_eq_true (by omega)
  have f9 : decide ((n : Int) ≤ 57) = false := decide_eq_false (by omega)
  have f5 : ((n : Int) == 45) = false := by simp; omega
  have f6 : ((n : Int) == 95) = false := by simp; omega
  have f7 : ((n : Int) != 46) = true := by simp; omega
  have hn : n < 256 := by omega
  have hcv := conv_one n w hn
  have hadd : r.size + (oneS n).size ≤ 9223372036854775807 := (by show r.size + 1 ≤ _; omega)
  have HZ : Hid ((r ++ oneS n).size ≤ 1125899906842624) := (by rw [ByteArray.size_append]; show r.size + 1 ≤ _; omega : (r ++ oneS n).size ≤ 1125899906842624)
  have G1 : Hid (nameB (oneS n) = false) := (name_one ⟨n, hn⟩).trans (by unfold oneB; simp; omega)
  have G2 : Hid (nameB (⟨#[97]⟩ ++ oneS n) = false) := (name_a1 ⟨n, hn⟩).trans (by unfold letB; simp; omega)
  have G3 : Hid (nameB (oneS n ++ ⟨#[97]⟩) = false) := (name_1a ⟨n, hn⟩).trans (by unfold letB; simp; omega)
  have G4 : Hid (nameB (r ++ oneS n) = false) := name_rest r n hn (by unfold letB; simp; omega)
  clear h hn hr
  go_enter Try.func4, Try.ntmps4
  go_wp2_with fail
  refine (awake_ok w).mono ?_
  rintro e w' ⟨rfl, hw⟩
  obtain rfl := hw.symm; clear hw
  go_wp2_with fail
  refine (may_ok _ _ (show 1 ≤ _ by decide)).mono ?_
  rintro e w' ⟨rfl, hw⟩
  obtain rfl := hw.symm; clear hw
  rw [G1.out]
  go_wp2_with (first | (go_at_call 9; refine (num_any _ _).mono ?_; rintro e w' ⟨rfl, hw⟩; obtain rfl := hw.symm; clear hw))
  refine (may_ok _ _ (by rw [ByteArray.size_append]; show 1 + 1 ≤ _; decide)).mono ?_
  rintro e w' ⟨rfl, hw⟩
  obtain rfl := hw.symm; clear hw
  rw [G2.out]
  go_wp2_with fail
  refine (may_ok _ _ (by rw [ByteArray.size_append]; show 1 + 1 ≤ _; decide)).mono ?_
  rintro e w' ⟨rfl, hw⟩
  obtain rfl := hw.symm; clear hw
  rw [G3.out]
  go_wp2_with fail
  refine (may_ok _ _ HZ.out).mono ?_
  rintro e w' ⟨rfl, hw⟩
  obtain rfl := hw.symm; clear hw
  rw [G4.out]
  go_wp2
  go_ret
  exact ⟨rfl, (Below.refl _ _).alloc (Nat.le_refl _) _⟩

set_option maxHeartbeats 1600000 in
theorem bytes_c6 (b : Int) (r : ByteArray) (w : World) (hr : r.size ≤ 562949953421312) (n : Nat) (h : n = 95) (e1 : IntKind.u8.wrap b = (n : Int)) (e2 : b % 256 = (n : Int)) :
    Calls Try.prog 4 #[.int .i64 b, .string r] w fun e w' => e = .returned (.bool true) ∧ Below w.heap.size w w' := by
  have f1 : (n : Int) < 97 := by omega
  have f2 : (n : Int) ≤ 122 := by omega
  have f3 : 48 ≤ (n : Int) := by omega
  have f4 : 57 < (n : Int) := by omega
  have f8 : decide ((n : Int) ≤ 122) = true := decide_eq_true (by omega)
  have f9 : decide ((n : Int) ≤ 57) = false := decide_eq_false (by omega)
  have f5 : ((n : Int) == 45) = false := by simp; omega
  have f6 : ((n : Int) == 95) = true := by simp; omega
  have f7 : ((n : Int) != 46) = true := by simp; omega
  have hn : n < 256 := by omega
  have hcv := conv_one n w hn
  have hadd : r.size + (oneS n).size ≤ 9223372036854775807 := (by show r.size + 1 ≤ _; omega)
  have HZ : Hid ((r ++ oneS n).size ≤ 1125899906842624) := (by rw [ByteArray.size_append]; show r.size + 1 ≤ _; omega : (r ++ oneS n).size ≤ 1125899906842624)
  have G1 : Hid (nameB (oneS n) = true) := (name_one ⟨n, hn⟩).trans (by unfold oneB; simp; omega)
  have G2 : Hid (nameB (⟨#[97]⟩ ++ oneS n) = true) := (name_a1 ⟨n, hn⟩).trans (by unfold letB; simp; omega)
  have G3 : Hid (nameB (⟨#[97]⟩ ++ oneS n ++ ⟨#[97]⟩) = true) := (name_a1a ⟨n, hn⟩).trans (by unfold letB; simp; omega)
  clear h hn hr
  go_enter Try.func4, Try.ntmps4
  go_wp2_with fail
  refine (awake_ok w).mono ?_
  rintro e w' ⟨rfl, hw⟩
  obtain rfl := hw.symm; clear hw
  go_wp2_with fail
  refine (may_ok _ _ (show 1 ≤ _ by decide)).mono ?_
  rintro e w' ⟨rfl, hw⟩
  obtain rfl := hw.symm; clear hw
  rw [G1.out]
  go_wp2_with (first | (go_at_call 9; refine (num_any _ _).mono ?_; rintro e w' ⟨rfl, hw⟩; obtain rfl := hw.symm; clear hw))
  refine (may_ok _ _ (by rw [ByteArray.size_append]; show 1 + 1 ≤ _; decide)).mono ?_
  rintro e w' ⟨rfl, hw⟩
  obtain rfl := hw.symm; clear hw
  rw [G2.out]
  go_wp2_with fail
  refine (may_ok _ _ (by rw [ByteArray.size_append, ByteArray.size_append]; show 1 + 1 + 1 ≤ _; decide)).mono ?_
  rintro e w' ⟨rfl, hw⟩
  obtain rfl := hw.symm; clear hw
  rw [G3.out]
  go_wp2
  go_ret
  exact ⟨rfl, (Below.refl _ _).alloc (Nat.le_refl _) _⟩

set_option maxHeartbeats 1600000 in
theorem bytes_c7 (b : Int) (r : ByteArray) (w : World) (hr : r.size ≤ 562949953421312) (n : Nat) (h : n = 96) (e1 : IntKind.u8.wrap b = (n : Int)) (e2 : b % 256 = (n : Int)) :
    Calls Try.prog 4 #[.int .i64 b, .string r] w fun e w' => e = .returned (.bool true) ∧ Below w.heap.size w w' := by
  have f1 : (n : Int) < 97 := by omega
  have f2 : (n : Int) ≤ 122 := by omega
  have f3 : 48 ≤ (n : Int) := by omega
  have f4 : 57 < (n : Int) := by omega
  have f8 : decide ((n : Int) ≤ 122) = true := decide_eq_true (by omega)
  have f9 : decide ((n : Int) ≤ 57) = false := decide_eq_false (by omega)
  have f5 : ((n : Int) == 45) = false := by simp; omega
  have f6 : ((n : Int) == 95) = false := by simp; omega
  have f7 : ((n : Int) != 46) = true := by simp; omega
  have hn : n < 256 := by omega
  have hcv := conv_one n w hn
  have hadd : r.size + (oneS n).size ≤ 9223372036854775807 := (by show r.size + 1 ≤ _; omega)
  have HZ : Hid ((r ++ oneS n).size ≤ 1125899906842624) := (by rw [ByteArray.size_append]; show r.size + 1 ≤ _; omega : (r ++ oneS n).size ≤ 1125899906842624)
  have G1 : Hid (nameB (oneS n) = false) := (name_one ⟨n, hn⟩).trans (by unfold oneB; simp; omega)
  have G2 : Hid (nameB (⟨#[97]⟩ ++ oneS n) = false) := (name_a1 ⟨n, hn⟩).trans (by unfold letB; simp; omega)
  have G3 : Hid (nameB (oneS n ++ ⟨#[97]⟩) = false) := (name_1a ⟨n, hn⟩).trans (by unfold letB; simp; omega)
  have G4 : Hid (nameB (r ++ oneS n) = false) := name_rest r n hn (by unfold letB; simp; omega)
  clear h hn hr
  go_enter Try.func4, Try.ntmps4
  go_wp2_with fail
  refine (awake_ok w).mono ?_
  rintro e w' ⟨rfl, hw⟩
  obtain rfl := hw.symm; clear hw
  go_wp2_with fail
  refine (may_ok _ _ (show 1 ≤ _ by decide)).mono ?_
  rintro e w' ⟨rfl, hw⟩
  obtain rfl := hw.symm; clear hw
  rw [G1.out]
  go_wp2_with (first | (go_at_call 9; refine (num_any _ _).mono ?_; rintro e w' ⟨rfl, hw⟩; obtain rfl := hw.symm; clear hw))
  refine (may_ok _ _ (by rw [ByteArray.size_append]; show 1 + 1 ≤ _; decide)).mono ?_
  rintro e w' ⟨rfl, hw⟩
  obtain rfl := hw.symm; clear hw
  rw [G2.out]
  go_wp2_with fail
  refine (may_ok _ _ (by rw [ByteArray.size_append]; show 1 + 1 ≤ _; decide)).mono ?_
  rintro e w' ⟨rfl, hw⟩
  obtain rfl := hw.symm; clear hw
  rw [G3.out]
  go_wp2_with fail
  refine (may_ok _ _ HZ.out).mono ?_
  rintro e w' ⟨rfl, hw⟩
  obtain rfl := hw.symm; clear hw
  rw [G4.out]
  go_wp2
  go_ret
  exact ⟨rfl, (Below.refl _ _).alloc (Nat.le_refl _) _⟩

set_option maxHeartbeats 1600000 in
theorem bytes_c8 (b : Int) (r : ByteArray) (w : World) (hr : r.size ≤ 562949953421312) (n : Nat) (h : 97 ≤ n ∧ n ≤ 122) (e1 : IntKind.u8.wrap b = (n : Int)) (e2 : b % 256 = (n : Int)) :
    Calls Try.prog 4 #[.int .i64 b, .string r] w fun e w' => e = .returned (.bool true) ∧ Below w.heap.size w w' := by
  have f1 : 97 ≤ (n : Int) := by omega
  have f2 : (n : Int) ≤ 122 := by omega
  have f3 : 48 ≤ (n : Int) := by omega
  have f4 : 57 < (n : Int) := by omega
  have f8 : decide ((n : Int) ≤ 122) = true := decide_eq_true (by omega)
  have f9 : decide ((n : Int) ≤ 57) = false := decide_eq_false (by omega)
  have f5 : ((n : Int) == 45) = false := by simp; omega
  have f6 : ((n : Int) == 95) = false := by simp; omega
  have f7 : ((n : Int) != 46) = true := by simp; omega
  have hn : n < 256 := by omega
  have hcv := conv_one n w hn
  have hadd : r.size + (oneS n).size ≤ 9223372036854775807 := (by show r.size + 1 ≤ _; omega)
  have HZ : Hid ((r ++ oneS n).size ≤ 1125899906842624) := (by rw [ByteArray.size_append]; show r.size + 1 ≤ _; omega : (r ++ oneS n).size ≤ 1125899906842624)
  have G1 : Hid (nameB (oneS n) = true) := (name_one ⟨n, hn⟩).trans (by unfold oneB; simp; omega)
  have G2 : Hid (nameB (⟨#[97]⟩ ++ oneS n) = true) := (name_a1 ⟨n, hn⟩).trans (by unfold letB; simp; omega)
  have G3 : Hid (nameB (⟨#[97]⟩ ++ oneS n ++ ⟨#[97]⟩) = true) := (name_a1a ⟨n, hn⟩).trans (by unfold letB; simp; omega)
  clear h hn hr
  go_enter Try.func4, Try.ntmps4
  go_wp2_with fail
  refine (awake_ok w).mono ?_
  rintro e w' ⟨rfl, hw⟩
  obtain rfl := hw.symm; clear hw
  go_wp2_with fail
  refine (may_ok _ _ (show 1 ≤ _ by decide)).mono ?_
  rintro e w' ⟨rfl, hw⟩
  obtain rfl := hw.symm; clear hw
  rw [G1.out]
  go_wp2_with (first | (go_at_call 9; refine (num_any _ _).mono ?_; rintro e w' ⟨rfl, hw⟩; obtain rfl := hw.symm; clear hw))
  refine (may_ok _ _ (by rw [ByteArray.size_append]; show 1 + 1 ≤ _; decide)).mono ?_
  rintro e w' ⟨rfl, hw⟩
  obtain rfl := hw.symm; clear hw
  rw [G2.out]
  go_wp2_with fail
  refine (may_ok _ _ (by rw [ByteArray.size_append, ByteArray.size_append]; show 1 + 1 + 1 ≤ _; decide)).mono ?_
  rintro e w' ⟨rfl, hw⟩
  obtain rfl := hw.symm; clear hw
  rw [G3.out]
  go_wp2
  go_ret
  exact ⟨rfl, (Below.refl _ _).alloc (Nat.le_refl _) _⟩

set_option maxHeartbeats 1600000 in
theorem bytes_c9 (b : Int) (r : ByteArray) (w : World) (hr : r.size ≤ 562949953421312) (n : Nat) (h : 122 < n ∧ n < 256) (e1 : IntKind.u8.wrap b = (n : Int)) (e2 : b % 256 = (n : Int)) :
    Calls Try.prog 4 #[.int .i64 b, .string r] w fun e w' => e = .returned (.bool true) ∧ Below w.heap.size w w' := by
  have f1 : 97 ≤ (n : Int) := by omega
  have f2 : 122 < (n : Int) := by omega
  have f3 : 48 ≤ (n : Int) := by omega
  have f4 : 57 < (n : Int) := by omega
  have f8 : decide ((n : Int) ≤ 122) = false := decide_eq_false (by omega)
  have f9 : decide ((n : Int) ≤ 57) = false := decide_eq_false (by omega)
  have f5 : ((n : Int) == 45) = false := by simp; omega
  have f6 : ((n : Int) == 95) = false := by simp; omega
  have f7 : ((n : Int) != 46) = true := by simp; omega
  have hn : n < 256 := by omega
  have hcv := conv_one n w hn
  have hadd : r.size + (oneS n).size ≤ 9223372036854775807 := (by show r.size + 1 ≤ _; omega)
  have HZ : Hid ((r ++ oneS n).size ≤ 1125899906842624) := (by rw [ByteArray.size_append]; show r.size + 1 ≤ _; omega : (r ++ oneS n).size ≤ 1125899906842624)
  have G1 : Hid (nameB (oneS n) = false) := (name_one ⟨n, hn⟩).trans (by unfold oneB; simp; omega)
  have G2 : Hid (nameB (⟨#[97]⟩ ++ oneS n) = false) := (name_a1 ⟨n, hn⟩).trans (by unfold letB; simp; omega)
  have G3 : Hid (nameB (oneS n ++ ⟨#[97]⟩) = false) := (name_1a ⟨n, hn⟩).trans (by unfold letB; simp; omega)
  have G4 : Hid (nameB (r ++ oneS n) = false) := name_rest r n hn (by unfold letB; simp; omega)
  clear h hn hr
  go_enter Try.func4, Try.ntmps4
  go_wp2_with fail
  refine (awake_ok w).mono ?_
  rintro e w' ⟨rfl, hw⟩
  obtain rfl := hw.symm; clear hw
  go_wp2_with fail
  refine (may_ok _ _ (show 1 ≤ _ by decide)).mono ?_
  rintro e w' ⟨rfl, hw⟩
  obtain rfl := hw.symm; clear hw
  rw [G1.out]
  go_wp2_with (first | (go_at_call 9; refine (num_any _ _).mono ?_; rintro e w' ⟨rfl, hw⟩; obtain rfl := hw.symm; clear hw))
  refine (may_ok _ _ (by rw [ByteArray.size_append]; show 1 + 1 ≤ _; decide)).mono ?_
  rintro e w' ⟨rfl, hw⟩
  obtain rfl := hw.symm; clear hw
  rw [G2.out]
  go_wp2_with fail
  refine (may_ok _ _ (by rw [ByteArray.size_append]; show 1 + 1 ≤ _; decide)).mono ?_
  rintro e w' ⟨rfl, hw⟩
  obtain rfl := hw.symm; clear hw
  rw [G3.out]
  go_wp2_with fail
  refine (may_ok _ _ HZ.out).mono ?_
  rintro e w' ⟨rfl, hw⟩
  obtain rfl := hw.symm; clear hw
  rw [G4.out]
  go_wp2
  go_ret
  exact ⟨rfl, (Below.refl _ _).alloc (Nat.le_refl _) _⟩

theorem bytes_walk (b : Int) (r : ByteArray) (w : World) (hr : r.size ≤ 562949953421312) :
    Calls Try.prog 4 #[.int .i64 b, .string r] w fun e w' => e = .returned (.bool true) ∧ Below w.heap.size w w' := by
  obtain ⟨n, hn, e1, e2⟩ := byte_i64 b
  have hc : (n < 45) ∨ (n = 45) ∨ (n = 46) ∨ (n = 47) ∨ (48 ≤ n ∧ n ≤ 57) ∨ (58 ≤ n ∧ n < 95) ∨ (n = 95) ∨ (n = 96) ∨ (97 ≤ n ∧ n ≤ 122) ∨ (122 < n ∧ n < 256) := by omega
  rcases hc with h | h | h | h | h | h | h | h | h | h
  · exact bytes_c0 b r w hr n h e1 e2
  · exact bytes_c1 b r w hr n h e1 e2
  · exact bytes_c2 b r w hr n h e1 e2
  · exact bytes_c3 b r w hr n h e1 e2
  · exact bytes_c4 b r w hr n h e1 e2
  · exact bytes_c5 b r w hr n h e1 e2
  · exact bytes_c6 b r w hr n h e1 e2
  · exact bytes_c7 b r w hr n h e1 e2
  · exact bytes_c8 b r w hr n h e1 e2
  · exact bytes_c9 b r w hr n h e1 e2

end Go.Proofs.Ytkokohpgipjocaa

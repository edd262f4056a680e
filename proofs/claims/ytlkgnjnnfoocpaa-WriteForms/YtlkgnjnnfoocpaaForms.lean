/-
  WriteForms returns true for every input.
-/
import Derived.Test.YtlkgnjnnfoocpaaAwake
namespace Go.Proofs.Ytlkgnjnnfoocpaa
open Go.RowKit
set_option linter.unusedVariables false
set_option linter.unusedSimpArgs false

set_option maxHeartbeats 2000000 in
set_option maxRecDepth 100000 in
theorem forms_walk (a0 a1 : Int) (w : World) :
    Calls Try.prog 5 #[.int .i64 a0, .int .i64 a1] w fun e w' => e = .returned (.bool true) ∧ Keeps (fun _ => False) w w' := by
  obtain ⟨d, hd, hd2⟩ : ∃ d : Nat, bits .and .i64 a1 1023 = (d : Int) ∧ d ≤ 1023 := by
    have h := i64_and_mask a1 10 (by decide)
    refine ⟨(a1 % 1024).toNat, ?_, by omega⟩
    rw [show ((2 ^ 10 - 1 : Nat) : Int) = 1023 from rfl, show ((2 ^ 10 : Nat) : Int) = 1024 from rfl] at h
    rw [h]; omega
  have hd2' : (d : Int) ≤ 1023 := by omega
  obtain ⟨m, hm, hm2⟩ : ∃ m : Nat, (IntKind.u64.wrap a0).tmod 17 = (m : Int) ∧ (m : Int) ≤ 16 := by
    rw [IntKind.wrap_u64, tmod_of_emod]
    exact ⟨(a0 % 18446744073709551616 % 17).toNat, by omega, by omega⟩
  obtain ⟨t, ht, HT⟩ : ∃ t : Nat, bits .and .i64 25185 (wrap64 (wrap64 (2 ^ m) - 1)) = (t : Int) ∧ Hid (val (readBits (bytesOf ⟨#[97, 98]⟩) 0 m) = t) := by
    refine ⟨val (readBits (bytesOf ⟨#[97, 98]⟩) 0 m), ?_, rfl⟩
    rw [mask_form 25185 m (by omega)]
    have key : ∀ m : Nat, m < 17 → (25185 : Int) % ((2 ^ m : Nat) : Int) = ((val (readBits (bytesOf ⟨#[97, 98]⟩) 0 m) : Nat) : Int) := by decide
    exact key m (by omega)
  go_enter Try.func5, Try.ntmps5
  go_wp2_with fail
  refine (awake_ok _).mono ?_
  rintro e wa ⟨rfl, hka⟩
  have HKA : Hid (Keeps (fun _ => False) w wa) := hka
  clear hka
  go_wp2_with fail
  refine (new_ok _).mono ?_
  rintro e w1 ⟨rfl, hw1, hk1⟩
  have HW1 : Hid (Wr 59 w1 wa.heap.size none []) := hw1
  have HK1 : Hid (Keeps (fun _ => False) w w1) := keep_none HKA.out hk1
  have hwb : w.heap.size ≤ wa.heap.size := HKA.out.size
  clear hw1 hk1 HKA
  generalize wa.heap.size = b at *
  go_wp2_with fail
  refine (put_okI b none [] 1 1 w1 HW1 (by decide) (by decide) (by decide) (by decide) (by decide)).mono ?_
  rintro e w2 ⟨rfl, o2, hw2, ho2, hk2⟩
  have HW2 : Hid (Wr 59 w2 b o2 [true]) := hw2
  have HK2 : Hid (Keeps (fun _ => False) w w2) := keep_wr HK1.out HW1.out hwb hk2
  clear hw2 ho2 hk2 HW1 HK1
  go_wp2_with fail
  refine (put_bad b o2 [true] 0 (-(1 + (d : Int))) w2 HW2.out (by decide) (by intro h; omega)).mono ?_
  rintro e w' ⟨rfl, hw⟩
  obtain rfl := hw.symm
  clear hw
  go_wp2_with fail
  refine (num_any _ _).mono ?_
  rintro e w' ⟨rfl, hw⟩
  obtain rfl := hw.symm
  clear hw
  go_wp2_with fail
  refine (put_bad b o2 [true] 0 (16 + (1 + (d : Int))) w2 HW2.out (by decide) (by intro h; omega)).mono ?_
  rintro e w' ⟨rfl, hw⟩
  obtain rfl := hw.symm
  clear hw
  go_wp2_with fail
  refine (num_any _ _).mono ?_
  rintro e w' ⟨rfl, hw⟩
  obtain rfl := hw.symm
  clear hw
  go_wp2_with fail
  refine (put_bad b o2 [true] (-(1 + (d : Int))) 8 w2 HW2.out (by decide) (by intro h; omega)).mono ?_
  rintro e w' ⟨rfl, hw⟩
  obtain rfl := hw.symm
  clear hw
  go_wp2_with fail
  refine (num_any _ _).mono ?_
  rintro e w' ⟨rfl, hw⟩
  obtain rfl := hw.symm
  clear hw
  go_wp2_with fail
  refine (put_bad b o2 [true] 256 8 w2 HW2.out (by decide) (by decide)).mono ?_
  rintro e w' ⟨rfl, hw⟩
  obtain rfl := hw.symm
  clear hw
  go_wp2_with fail
  refine (num_any _ _).mono ?_
  rintro e w' ⟨rfl, hw⟩
  obtain rfl := hw.symm
  clear hw
  go_wp2_with fail
  refine (put_bad b o2 [true] 1 0 w2 HW2.out (by decide) (by decide)).mono ?_
  rintro e w' ⟨rfl, hw⟩
  obtain rfl := hw.symm
  clear hw
  go_wp2_with fail
  refine (num_any _ _).mono ?_
  rintro e w' ⟨rfl, hw⟩
  obtain rfl := hw.symm
  clear hw
  go_wp2_with fail
  refine (code_bad b o2 [true] 0 0 w2 HW2.out (by decide) (by decide)).mono ?_
  rintro e w3 ⟨rfl, hw⟩
  have HW3 : Hid (Wr 59 w3 b o2 [true]) := by show Wr 59 w3 b o2 [true]; rw [hw]; exact HW2.out.alloc _
  have HK3 : Hid (Keeps (fun _ => False) w w3) := by show Keeps (fun _ => False) w w3; rw [hw]; exact HK2.out.alloc _
  clear hw HW2 HK2
  go_wp2_with fail
  refine (num_any _ _).mono ?_
  rintro e w' ⟨rfl, hw⟩
  obtain rfl := hw.symm
  clear hw
  go_wp2_with fail
  refine (code_bad b o2 [true] 0 (15 + (1 + (d : Int))) w3 HW3.out (by decide) (by intro h; omega)).mono ?_
  rintro e w4 ⟨rfl, hw⟩
  have HW4 : Hid (Wr 59 w4 b o2 [true]) := by show Wr 59 w4 b o2 [true]; rw [hw]; exact HW3.out.alloc _
  have HK4 : Hid (Keeps (fun _ => False) w w4) := by show Keeps (fun _ => False) w w4; rw [hw]; exact HK3.out.alloc _
  clear hw HW3 HK3
  go_wp2_with fail
  refine (num_any _ _).mono ?_
  rintro e w' ⟨rfl, hw⟩
  obtain rfl := hw.symm
  clear hw
  go_wp2_with fail
  refine (code_bad b o2 [true] 4 2 w4 HW4.out (by decide) (by decide)).mono ?_
  rintro e w5 ⟨rfl, hw⟩
  have HW5 : Hid (Wr 59 w5 b o2 [true]) := by show Wr 59 w5 b o2 [true]; rw [hw]; exact HW4.out.alloc _
  have HK5 : Hid (Keeps (fun _ => False) w w5) := by show Keeps (fun _ => False) w w5; rw [hw]; exact HK4.out.alloc _
  clear hw HW4 HK4
  go_wp2_with fail
  refine (num_any _ _).mono ?_
  rintro e w' ⟨rfl, hw⟩
  obtain rfl := hw.symm
  clear hw
  go_wp2_with fail
  refine (code_bad b o2 [true] (-(1 + (d : Int))) 2 w5 HW5.out (by decide) (by intro h; omega)).mono ?_
  rintro e w6 ⟨rfl, hw⟩
  have HW6 : Hid (Wr 59 w6 b o2 [true]) := by show Wr 59 w6 b o2 [true]; rw [hw]; exact HW5.out.alloc _
  have HK6 : Hid (Keeps (fun _ => False) w w6) := by show Keeps (fun _ => False) w w6; rw [hw]; exact HK5.out.alloc _
  clear hw HW5 HK5
  go_wp2_with fail
  refine (num_any _ _).mono ?_
  rintro e w' ⟨rfl, hw⟩
  obtain rfl := hw.symm
  clear hw
  go_wp2_with fail
  refine (code_bad b o2 [true] 0 (-(1 + (d : Int))) w6 HW6.out (by decide) (by intro h; omega)).mono ?_
  rintro e w7 ⟨rfl, hw⟩
  have HW7 : Hid (Wr 59 w7 b o2 [true]) := by show Wr 59 w7 b o2 [true]; rw [hw]; exact HW6.out.alloc _
  have HK7 : Hid (Keeps (fun _ => False) w w7) := by show Keeps (fun _ => False) w w7; rw [hw]; exact HK6.out.alloc _
  clear hw HW6 HK6
  go_wp2_with fail
  refine (num_any _ _).mono ?_
  rintro e w' ⟨rfl, hw⟩
  obtain rfl := hw.symm
  clear hw
  go_wp2_with fail
  have HC : Hid (∀ j, j < 10 → (w7.alloc (.cells #[.int .i64 100, .int .i64 100, .int .i64 100, .int .i64 100, .int .i64 100, .int .i64 100, .int .i64 100, .int .i64 100, .int .i64 100, .int .i64 100] 3)).cell? ⟨w7.heap.size, j, none⟩ = some (.int .i64 100)) := by
    intro j hj
    refine cell_of_heap (heap_alloc_new w7 _) ?_
    match j, hj with
    | 0, _ => rfl
    | 1, _ => rfl
    | 2, _ => rfl
    | 3, _ => rfl
    | 4, _ => rfl
    | 5, _ => rfl
    | 6, _ => rfl
    | 7, _ => rfl
    | 8, _ => rfl
    | 9, _ => rfl
  go_loop [8] (fun i => ∃ j : Nat, j ≤ 10 ∧ i = .int .i64 j) (fun i => 10 - (intOf i).toNat)
  case atStart => exact ⟨0, by omega, rfl⟩
  case round =>
    obtain ⟨j, hj, rfl⟩ := hrel
    by_cases hlt : j < 10
    · have hcj := HC.out j hlt
      have hji : (j : Int) < 10 := by omega
      go_wp2
      go_round
      case rel => exact ⟨j + 1, by omega, by go_num⟩
      case measure => simp [intOf]; omega
    · have hji : ¬ (j : Int) < 10 := by omega
      have HW8 : Hid (Wr 59 (w7.alloc (.cells #[.int .i64 100, .int .i64 100, .int .i64 100, .int .i64 100, .int .i64 100, .int .i64 100, .int .i64 100, .int .i64 100, .int .i64 100, .int .i64 100] 3)) b o2 [true]) := HW7.out.alloc _
      have HK8 : Hid (Keeps (fun _ => False) w (w7.alloc (.cells #[.int .i64 100, .int .i64 100, .int .i64 100, .int .i64 100, .int .i64 100, .int .i64 100, .int .i64 100, .int .i64 100, .int .i64 100, .int .i64 100] 3))) := HK7.out.alloc _
      clear HC HW7 HK7
      go_wp2_with fail
      generalize w7.alloc (.cells #[.int .i64 100, .int .i64 100, .int .i64 100, .int .i64 100, .int .i64 100, .int .i64 100, .int .i64 100, .int .i64 100, .int .i64 100, .int .i64 100] 3) = w8 at *
      refine (of_ok ⟨#[97, 98]⟩ w8).mono ?_
      rintro e w9 ⟨rfl, hr9, hk9⟩
      have hbr : b < w8.heap.size := HW8.out.lt
      have HO : Hid (∀ k, o2 = some k → k < w8.heap.size) := fun k hk => (HW8.out.own k hk).2
      have HR9 : Hid (Rd 64 w9 w8.heap.size ⟨#[97, 98]⟩ 0) := hr9
      have HW9 : Hid (Wr 59 w9 b o2 [true]) := HW8.out.kept hk9 (fun h => h) (fun _ _ h => h)
      have HK9 : Hid (Keeps (fun _ => False) w w9) := keep_none HK8.out hk9
      clear hr9 hk9 HW8 HK8
      generalize w8.heap.size = rb at *
      go_wp2_with fail
      refine (get_out rb (-(1 + (d : Int))) w9 (by omega)).mono ?_
      rintro e w' ⟨rfl, hw⟩
      obtain rfl := hw.symm
      clear hw
      go_wp2_with fail
      refine (get_out rb (16 + (1 + (d : Int))) w9 (by omega)).mono ?_
      rintro e w' ⟨rfl, hw⟩
      obtain rfl := hw.symm
      clear hw
      go_wp2_with fail
      refine (get_ok rb 0 m ⟨#[97, 98]⟩ w9 hm2 (by decide) (by have : (ByteArray.mk #[97, 98]).size = 2 := rfl; omega) HR9).mono ?_
      rintro e w10 ⟨rfl, hr10, hk10⟩
      rw [HT.out]
      have HW10 : Hid (Wr 59 w10 b o2 [true]) := HW9.out.kept hk10 (by omega) (fun k hk => by have := HO.out k hk; omega)
      have HK10 : Hid (Keeps (fun _ => False) w w10) := keep_rd HK9.out (by omega) hk10
      clear hr10 hk10 HR9 HW9 HK9
      have hlen := len_ok b o2 [true] w10 HW10.out
      have htx := text_ok b o2 [true] w10 HW10.out
      rw [show textOf (pack [true]) = ⟨#[1]⟩ by decide] at htx
      have HLEN : Hid (Calls Try.prog 16 #[.pointer (some ⟨b, 0, none⟩)] w10 fun e w' => e = .returned (.int .i64 1) ∧ w' = w10) := hlen
      have HTX : Hid (Calls Try.prog 18 #[.pointer (some ⟨b, 0, none⟩)] w10 fun e w' => e = .returned (.string ⟨#[1]⟩) ∧ w' = w10) := htx
      clear hlen htx HT
      go_wp2_with (first | (go_at_call 9; refine (num_any _ _).mono ?_; rintro e w' ⟨rfl, hw⟩; obtain rfl := hw.symm; clear hw) | (go_at_call 16; refine HLEN.out.mono ?_; rintro e w' ⟨rfl, hw⟩; obtain rfl := hw.symm; clear hw) | (go_at_call 18; refine HTX.out.mono ?_; rintro e w' ⟨rfl, hw⟩; obtain rfl := hw.symm; clear hw))
      go_ret
      exact ⟨rfl, HK10.out⟩

theorem forms_below (a0 a1 : Int) (w : World) (h0 : (Lit.int .i64 a0).wf = true) (h1 : (Lit.int .i64 a1).wf = true) :
    Calls Try.prog 5 #[.int .i64 a0, .int .i64 a1] w fun e w' => e = .returned (.bool true) ∧ Below w.heap.size w w' := by
  refine (forms_walk a0 a1 w).mono ?_
  rintro e w' ⟨rfl, hk⟩
  exact ⟨rfl, hk.below _ (Nat.le_refl _) (fun _ h => h.elim)⟩

end Go.Proofs.Ytlkgnjnnfoocpaa

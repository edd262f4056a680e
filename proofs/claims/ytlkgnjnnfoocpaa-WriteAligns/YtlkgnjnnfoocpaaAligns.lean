/-
  WriteAligns returns true for every input.
-/
import Derived.Test.YtlkgnjnnfoocpaaAwake
namespace Go.Proofs.Ytlkgnjnnfoocpaa
open Go.RowKit
set_option linter.unusedVariables false
set_option linter.unusedSimpArgs false

set_option maxHeartbeats 1000000 in
set_option maxRecDepth 100000 in
theorem aligns_walk (a0 a1 : Int) (w : World) :
    Calls Try.prog 7 #[.int .i64 a0, .int .i64 a1] w fun e w' => e = .returned (.bool true) ∧ Keeps (fun _ => False) w w' := by
  obtain ⟨k, hk, hk16⟩ : ∃ k : Nat, bits .and .i64 a0 15 = (k : Int) ∧ k < 16 := by
    have h := i64_and_mask a0 4 (by decide)
    refine ⟨(a0 % 16).toNat, ?_, by omega⟩
    rw [show ((2 ^ 4 - 1 : Nat) : Int) = 15 from rfl, show ((2 ^ 4 : Nat) : Int) = 16 from rfl] at h
    rw [h]; omega
  have hk' : (k : Int) ≤ 15 := by omega
  obtain ⟨v, hv, hv2⟩ := mask_nat a1 k (by omega)
  have HV2 : Hid (v < 2 ^ k) := hv2
  clear hv2
  go_enter Try.func7, Try.ntmps7
  go_wp2_with fail
  refine (awake_ok _).mono ?_
  rintro e wa ⟨rfl, hka⟩
  have HKA : Hid (Keeps (fun _ => False) w wa) := hka
  clear hka
  go_wp2_with fail
  refine (new_ok _).mono ?_
  rintro e w1 ⟨rfl, hw1, hk1⟩
  have HW1 : Hid (Wr 59 w1 wa.heap.size none []) := hw1
  have HK1 : Hid (Keeps (fun _ => False) w w1) := keep_none HKA.out hk1
  have hwb : w.heap.size ≤ wa.heap.size := HKA.out.size
  clear hw1 hk1 HKA
  go_wp2_with fail
  refine (put_ok wa.heap.size none [] v k w1 (by omega) HV2.out (by simp; omega) HW1).mono ?_
  rintro e w2 ⟨rfl, o2, hw2, ho2, hk2⟩
  have HW2 : Hid (Wr 59 w2 wa.heap.size o2 (bitsOf v k)) := hw2
  have HK2 : Hid (Keeps (fun _ => False) w w2) := keep_wr HK1.out HW1.out hwb hk2
  clear hw2 ho2 hk2 HW1 HK1
  go_wp2_with fail
  refine (walign_ok _ o2 _ w2 (by rw [bitsOf_length]; omega) HW2.out).mono ?_
  rintro e w3 ⟨rfl, o3, hw3, ho3, hk3⟩
  have HW3 : Hid (Wr 59 w3 wa.heap.size o3 (alignOf (bitsOf v k))) := hw3
  have HK3 : Hid (Keeps (fun _ => False) w w3) := keep_wr HK2.out HW2.out hwb hk3
  clear hw3 ho3 hk3 HW2 HK2
  obtain ⟨A, hA⟩ : ∃ A, Hid (A = alignOf (bitsOf v k)) := ⟨_, rfl⟩
  have HAL : Hid (A.length = (k + 7) / 8 * 8) := by show A.length = _; rw [hA.out, alignOf_length, bitsOf_length]
  rw [← hA.out] at HW3
  go_wp2_with fail
  refine (walign_ok _ o3 A w3 (by rw [HAL.out]; omega) HW3.out).mono ?_
  rintro e w4 ⟨rfl, o4, hw4, ho4, hk4⟩
  have HW4 : Hid (Wr 59 w4 wa.heap.size o4 A) := by
    have e : alignOf A = A := by
      unfold alignOf
      rw [HAL.out, show (((k + 7) / 8 * 8 + 7) / 8 * 8 - (k + 7) / 8 * 8) = 0 by omega]; simp
    rw [e] at hw4; exact hw4
  have HK4 : Hid (Keeps (fun _ => False) w w4) := keep_wr HK3.out HW3.out hwb hk4
  clear hw4 ho4 hk4 HW3 HK3
  go_wp2_with fail
  refine (put_okI _ o4 A 165 8 w4 HW4 (by decide) (by decide) (by decide) (by decide) (by rw [HAL.out]; omega)).mono ?_
  rintro e w5 ⟨rfl, o5, hw5, ho5, hk5⟩
  have HW5 : Hid (Wr 59 w5 wa.heap.size o5 (A ++ bitsOf 165 8)) := hw5
  have HK5 : Hid (Keeps (fun _ => False) w w5) := keep_wr HK4.out HW4.out hwb hk5
  clear hw5 ho5 hk5 HW4 HK4
  go_wp2_with fail
  refine (text_ok _ o5 _ w5 HW5.out).mono ?_
  rintro e w' ⟨rfl, hw⟩
  obtain rfl := hw.symm
  clear hw
  obtain ⟨s, HS⟩ : ∃ s, Hid (s = textOf (pack (A ++ bitsOf 165 8))) := ⟨_, rfl⟩
  rw [← HS.out]
  have hsz : s.size = (k + 7) / 8 + 1 := by
    rw [HS.out, textOf_size, pack_length, List.length_append, bitsOf_length, HAL.out]; omega
  have HB : Hid (bytesOf s = pack (A ++ bitsOf 165 8)) := by
    show bytesOf s = _
    rw [HS.out, bytesOf_text _ (pack_lt _)]
  have HR1 : Hid (val (readBits (bytesOf s) 0 k) = v) := by
    show val (readBits (bytesOf s) 0 k) = v
    have h := readBits_pack [] (bitsOf v k) (List.replicate (((bitsOf v k).length + 7) / 8 * 8 - (bitsOf v k).length) false ++ bitsOf 165 8)
    rw [bitsOf_length, List.length_nil, List.nil_append] at h
    rw [HB.out, hA.out]
    unfold alignOf
    rw [List.append_assoc, bitsOf_length, h, val_bitsOf v k HV2.out]
  have HR2 : Hid (val (readBits (bytesOf s) ((k + 7) / 8 * 8) 8) = 165) := by
    show val (readBits (bytesOf s) ((k + 7) / 8 * 8) 8) = 165
    have h := readBits_pack A (bitsOf 165 8) []
    rw [List.append_nil, HAL.out, bitsOf_length] at h
    rw [HB.out, h]
    decide
  clear HS HB hA HAL HW5
  go_wp2_with fail
  refine (of_ok s w5).mono ?_
  rintro e w6 ⟨rfl, hr6, hk6⟩
  have hrb : w.heap.size ≤ w5.heap.size := HK5.out.size
  have HR6 : Hid (Rd 64 w6 w5.heap.size s 0) := hr6
  have HK6 : Hid (Keeps (fun _ => False) w w6) := keep_none HK5.out hk6
  clear hr6 hk6 HK5
  generalize w5.heap.size = rb at *
  have HSZ : Hid (s.size = (k + 7) / 8 + 1) := hsz
  have hszi : (s.size : Int) = ((k : Int) + 7) / 8 + 1 := by omega
  clear hsz
  go_wp2_with fail
  refine (get_ok rb 0 k s w6 (by omega) (by omega) (by omega) HR6).mono ?_
  rintro e w7 ⟨rfl, hr7, hk7⟩
  rw [HR1.out]
  have HR7 : Hid (Rd 64 w7 rb s k) := by rw [Nat.zero_add] at hr7; exact hr7
  have HK7 : Hid (Keeps (fun _ => False) w w7) := keep_rd HK6.out (by omega) hk7
  clear hr7 hk7 HR6 HK6 HR1
  go_wp2_with fail
  refine (ralign_ok rb k s w7 (by omega) (by omega) HR7.out).mono ?_
  rintro e w8 ⟨rfl, hr8, hk8⟩
  have HR8 : Hid (Rd 64 w8 rb s ((k + 7) / 8 * 8)) := hr8
  have HK8 : Hid (Keeps (fun _ => False) w w8) := keep_rd HK7.out (by omega) hk8
  clear hr8 hk8 HR7 HK7
  go_wp2_with fail
  refine (ralign_ok rb ((k + 7) / 8 * 8) s w8 (by omega) (by omega) HR8.out).mono ?_
  rintro e w9 ⟨rfl, hr9, hk9⟩
  have HR9 : Hid (Rd 64 w9 rb s ((k + 7) / 8 * 8)) := by rw [show ((k + 7) / 8 * 8 + 7) / 8 * 8 = (k + 7) / 8 * 8 by omega] at hr9; exact hr9
  have HK9 : Hid (Keeps (fun _ => False) w w9) := keep_rd HK8.out (by omega) hk9
  clear hr9 hk9 HR8 HK8
  go_wp2_with fail
  refine (get_okI rb ((k + 7) / 8 * 8) 8 s w9 HR9 (by decide) (by decide) (by omega) (by have := HSZ.out; simp only [Int.reduceToNat]; omega)).mono ?_
  rintro e w10 ⟨rfl, hr10, hk10⟩
  rw [show Int.toNat 8 = 8 from rfl, HR2.out]
  have HR10 : Hid (Rd 64 w10 rb s ((k + 7) / 8 * 8 + 8)) := hr10
  have HK10 : Hid (Keeps (fun _ => False) w w10) := keep_rd HK9.out (by omega) hk10
  clear hr10 hk10 HR9 HK9 HR2
  go_wp2_with fail
  refine (get_end rb ((k + 7) / 8 * 8 + 8) 1 s w10 (by decide) (by decide) (by omega) (by omega) (by omega) HR10.out).mono ?_
  rintro e w11 ⟨rfl, hr11, hk11⟩
  have HK11 : Hid (Keeps (fun _ => False) w w11) := keep_rd HK10.out (by omega) hk11
  clear hr11 hk11 HR10 HK10
  go_wp2_with (first | (go_at_call 9; refine (num_any _ _).mono ?_; rintro e w' ⟨rfl, hw⟩; obtain rfl := hw.symm; clear hw))
  go_ret
  exact ⟨rfl, HK11.out⟩

theorem aligns_below (a0 a1 : Int) (w : World) (h0 : (Lit.int .i64 a0).wf = true) (h1 : (Lit.int .i64 a1).wf = true) :
    Calls Try.prog 7 #[.int .i64 a0, .int .i64 a1] w fun e w' => e = .returned (.bool true) ∧ Below w.heap.size w w' := by
  refine (aligns_walk a0 a1 w).mono ?_
  rintro e w' ⟨rfl, hk⟩
  exact ⟨rfl, hk.below _ (Nat.le_refl _) (fun _ h => h.elim)⟩

end Go.Proofs.Ytlkgnjnnfoocpaa

/-
  What room counts take, and each length's first code.
-/
import Derived.Test.YtdbfbijalhknnaaHArr
import Derived.BigRegion
namespace Go.Proofs.Ytdbfbijalhknnaa.Hf
open Go.RowKit
set_option linter.unusedVariables false
set_option linter.unusedSimpArgs false

theorem wrap64_small (n : Int) (h0 : 0 ≤ n) (h1 : n < 4611686018427387904) : wrap64 n = n := by
  unfold wrap64; omega
theorem shl_ok (a : Nat) (k : Nat) (ha : a ≤ 288) (hk : k ≤ 15) : IntKind.i64.wrap ((a : Int) * 2 ^ k) = ((a * 2 ^ k : Nat) : Int) := by
  have h : a * 2 ^ k ≤ 288 * 2 ^ 15 := Nat.mul_le_mul ha (Nat.pow_le_pow_right (by omega) hk)
  have e : (a : Int) * 2 ^ k = ((a * 2 ^ k : Nat) : Int) := by push_cast; rfl
  rw [e]; exact wrap_i64_small _ (by omega) (by omega)

set_option maxHeartbeats 2000000 in
set_option maxRecDepth 1000000 in
theorem room_ok (f : Nat → Nat) (w : World) (hf : ∀ i, f i ≤ 288) :
    Calls Try.prog 102 #[.agg (arrL f).toArray] w fun e w' => e = .returned (.int .i64 (sumTo f 16 : Nat)) ∧ Keeps (fun _ => False) w w' := by
  have HF : Hid (∀ i, f i ≤ 288) := hf
  clear hf
  go_enter Try.func102, Try.ntmps102
  go_wp2_with (first
    | (refine wpList_box16 rfl _ rfl f rfl ?_; intro b w1 hA hK hb; have HK : Hid (Keeps (fun _ => False) w w1) := hK; clear hK)
    | (refine wpList_load16 rfl _ rfl _ rfl f ?hA ?_; case hA => assumption))
  go_loopw [3, 7] (fun s3 s7 w' => ∃ i : Nat, i ≤ 16 ∧ s3 = .int .i64 (sumTo f i : Nat) ∧ s7 = .int .i64 (i : Nat) ∧ w' = w1) (fun s3 s7 w' => (16 - intOf s7).toNat)
  case atStart => exact ⟨0, by omega, rfl, rfl, rfl⟩
  case round =>
    obtain ⟨i, hi, rfl, rfl, rfl⟩ := hrel
    by_cases h16 : i < 16
    · have hiz : (i : Int) < 16 := by omega
      have hga := arr_index f i h16
      have hw15 : IntKind.i64.wrap (15 - (i : Int)) = ((15 - i : Nat) : Int) := by rw [wrap_i64_small _ (by omega) (by omega)]; omega
      have hnn : ¬ (((15 - i : Nat) : Int) < 0) := by omega
      have hsh := shl_ok (f i) (15 - i) (HF.out i) (by omega)
      go_wp2
      go_roundw
      case rel =>
        have hb1 := sumTo_le f 288 HF.out (i + 1) (by omega)
        have e : wrap64 ((sumTo f i : Int) + (f i : Int) * 2 ^ (15 - i)) = ((sumTo f (i + 1) : Nat) : Int) := by
          have e1 : (sumTo f i : Int) + (f i : Int) * 2 ^ (15 - i) = ((sumTo f (i + 1) : Nat) : Int) := by rw [sumTo]; push_cast; rfl
          rw [e1]; exact wrap64_small _ (by omega) (by omega)
        exact ⟨i + 1, by omega, by rw [e], by push_cast; rfl, trivial⟩
      case measure => simp [intOf]; omega
    · obtain rfl : i = 16 := by omega
      go_wp2
      go_ret
      exact ⟨rfl, HK.out⟩

def fstTo (f : Nat → Nat) (m : Nat) : Nat → Nat := fun i => if i ≤ m then fstC f i else 0
theorem fstTo_upd (f : Nat → Nat) (m : Nat) : ∀ i, i < 16 → upd (fstTo f m) (m + 1) (fstC f (m + 1)) i = fstTo f (m + 1) i := by
  intro i _
  unfold upd fstTo
  by_cases h : i = m + 1
  · subst h; simp
  · rw [if_neg h]
    by_cases h1 : i ≤ m
    · rw [if_pos h1, if_pos (by omega)]
    · rw [if_neg h1, if_neg (by omega)]

set_option maxHeartbeats 2000000 in
set_option maxRecDepth 1000000 in
theorem firsts_ok (f : Nat → Nat) (w : World) (hf : ∀ i, f i ≤ 288) :
    Calls Try.prog 98 #[.agg (arrL f).toArray] w fun e w' => e = .returned (.agg (arrL (fstC f)).toArray) ∧ Keeps (fun _ => False) w w' := by
  have HF : Hid (∀ i, f i ≤ 288) := hf
  clear hf
  go_enter Try.func98, Try.ntmps98
  go_wp2_with (first
    | (refine wpList_box16 rfl _ rfl f rfl ?_; intro b1 w1 hA1 hK1 hb1)
    | (refine wpList_alloc16 rfl rfl ?_; (fail_if_success (clear hA2)); intro b2 w2 hA2 hK2 hb2)
    | (refine wpList_alloc16 rfl rfl ?_; intro b3 w3 hA3 hK3 hb3))
  have l1 := hA1.lt
  have l2 := hA2.lt
  have l3 := hA3.lt
  have HE : Hid (b1 ≠ b2 ∧ b1 ≠ b3 ∧ b2 ≠ b3 ∧ w.heap.size ≤ b1 ∧ w.heap.size ≤ b2 ∧ w.heap.size ≤ b3) := by
    have e1 := hK1.size; have e2 := hK2.size; have e3 := hK3.size
    show _ ∧ _; omega
  have HW : Hid (Arr w3 b1 f ∧ Arr w3 b2 (fun _ => 0) ∧ Arr w3 b3 (fstTo f 0) ∧ Keeps (fun _ => False) w w3) :=
    ⟨(hA1.kept hK2 (fun h => h)).kept hK3 (fun h => h), hA2.kept hK3 (fun h => h), hA3.congr (fun i _ => by unfold fstTo; split; rename_i h; obtain rfl : i = 0 := by omega
                                                                                                            · rfl
                                                                                                            · rfl), (hK1.trans hK2 (fun _ _ h => h)).trans hK3 (fun _ _ h => h)⟩
  clear hA1 hA2 hA3 hK1 hK2 hK3 hb1 hb2 hb3 l1 l2 l3
  go_loopw [4] (fun s4 w' => ∃ m : Nat, m ≤ 15 ∧ s4 = .int .i64 ((m + 1 : Nat) : Int) ∧ Hid (Arr w' b1 f ∧ Arr w' b2 (fun _ => 0) ∧ Arr w' b3 (fstTo f m) ∧ Keeps (fun _ => False) w w')) (fun s4 w' => (16 - intOf s4).toNat)
  case atStart => exact ⟨0, by omega, rfl, HW⟩
  case round =>
    obtain ⟨m, hm, rfl, HW⟩ := hrel
    by_cases h15 : m < 15
    · have hiz : ((m + 1 : Nat) : Int) ≤ 15 := by omega
      have hw1 : IntKind.i64.wrap (((m + 1 : Nat) : Int) - 1) = (m : Int) := by rw [wrap_i64_small _ (by omega) (by omega)]; omega
      have hc1 := HW.out.2.2.1.cell m (by omega)
      have hc2 := HW.out.1.cell m (by omega)
      have hc3 := HW.out.2.2.1.cell (m + 1) (by omega)
      have hz3 := HW.out.2.2.1.free (m + 1)
      go_wp2
      go_region
      have hs := fstC_le f 288 HF.out (m + 1)
      have hp : 2 ^ (m + 1 + 1) ≤ 2 ^ 16 := Nat.pow_le_pow_right (by omega) (by omega)
      have hp2 : 288 * 2 ^ (m + 1 + 1) ≤ 288 * 2 ^ 16 := Nat.mul_le_mul_left _ hp
      have e0 : fstTo f m m = fstC f m := by simp [fstTo]
      have es : fstC f (m + 1) = (fstC f m + f m) * 2 := rfl
      have hv : wrap64 (wrap64 ((fstTo f m m : Int) + (f m : Int)) * 2) = ((fstC f (m + 1) : Nat) : Int) := by
        rw [e0, wrap64_small ((fstC f m : Int) + (f m : Int)) (by omega) (by omega), wrap64_small _ (by omega) (by omega)]; omega
      rw [hv]
      have HW' : Hid (Arr (wr.setCell ⟨b3, m + 1, none⟩ (.int .i64 ((fstC f (m + 1) : Nat) : Int))).drew b1 f ∧ Arr (wr.setCell ⟨b3, m + 1, none⟩ (.int .i64 ((fstC f (m + 1) : Nat) : Int))).drew b2 (fun _ => 0) ∧ Arr (wr.setCell ⟨b3, m + 1, none⟩ (.int .i64 ((fstC f (m + 1) : Nat) : Int))).drew b3 (fstTo f (m + 1)) ∧ Keeps (fun _ => False) w (wr.setCell ⟨b3, m + 1, none⟩ (.int .i64 ((fstC f (m + 1) : Nat) : Int))).drew) := by
        obtain ⟨g1, g2, g3, g4⟩ := HW.out
        obtain ⟨n1, n2, n3, n4, n5, n6⟩ := HE.out
        have kk : Keeps (fun k => k = b3) wr (wr.setCell ⟨b3, m + 1, none⟩ (.int .i64 ((fstC f (m + 1) : Nat) : Int))).drew := (Keeps.setCell (S := fun k => k = b3) (Keeps.refl _ wr) (p := ⟨b3, m + 1, none⟩) (fun _ => rfl) _).drew
        exact ⟨g1.kept kk n2, g2.kept kk n3, (Arr.congr (g3.set (m + 1) (fstC f (m + 1)) (by omega)) (fstTo_upd f m)), g4.trans kk (fun i hi h => by subst h; exact absurd hi (by omega))⟩
      generalize (wr.setCell ⟨b3, m + 1, none⟩ (.int .i64 ((fstC f (m + 1) : Nat) : Int))).drew = wn at *
      clear HW hc1 hc2 hc3 hz3 hs hp hp2 e0 es hv
      go_wp2
      go_roundw
      case rel => exact ⟨m + 1, by omega, by push_cast; rfl, HW'⟩
      case measure => simp [intOf]; omega
    · obtain rfl : m = 15 := by omega
      obtain ⟨g1, g2, g3, g4⟩ := HW.out
      have g5 : Arr wr b3 (fstC f) := g3.congr (fun i hi => by unfold fstTo; rw [if_pos (by omega)])
      clear HW g3
      have HK : Hid (Keeps (fun _ => False) w wr) := g4
      clear g4
      go_wp2_with (first
        | (refine wpList_load16 rfl _ rfl _ rfl (fstC f) ?hA ?_; case hA => assumption)
        | (refine wpList_store16 rfl _ _ rfl _ (fstC f) rfl rfl (fun _ => 0) ?hA ?_; (case hA => assumption); intro w4 hA4 hK4))
      (try simp only [Exit.inBlock, Exit.then])
      refine bodyPost_ret (v := .agg (arrL (fstC f)).toArray) ?_ rfl ⟨rfl, ?_⟩
      · rw [results_cell rfl]
        exact hA4.loadVar
      · exact HK.out.trans hK4 (fun i hi h => by have := HE.out; subst h; exact absurd hi (by omega))

end Go.Proofs.Ytdbfbijalhknnaa.Hf

/-
  ZipForms: a way of the walk.
-/
import Derived.Test.YtgbkipadbdochaaFfo
namespace Go.Proofs.Ytgbkipadbdochaa
open Go.RowKit
set_option linter.unusedVariables false
set_option linter.unusedSimpArgs false

theorem nine_end {w w4 : World} {k g1 g2 : Nat} {c1 c2 : Int} {y : Nat} (H4 : Made w w4 k g1 g2 c1 c2) (hy : y ≤ 1023) : ∀ w5 Z, Z.size = 301 + y → Keeps (fun _ => False) (w4.setCell ⟨k + 1, 7, none⟩ (.int .i64 (300 + (1 + (y : Int))))) w5 → w5.cell? ⟨k + 1, 6, none⟩ = some (.string ⟨#[104, 105]⟩) ∧ w5.frozen? ⟨k + 1, 6, none⟩ = false ∧ (FrmEnd (w5.setCell ⟨k + 1, 6, none⟩ (.string Z)) (some ⟨k + 1, 0, none⟩) 3 3 ∧ (w5.setCell ⟨k + 1, 6, none⟩ (.string Z)).cell? ⟨k + 2, 0, none⟩ = some (.slice (some ⟨k + 1, 0, none⟩) 3 3) ∧ Keeps (fun _ => False) w (w5.setCell ⟨k + 1, 6, none⟩ (.string Z)) ∧ k + 2 < (w5.setCell ⟨k + 1, 6, none⟩ (.string Z)).heap.size) := by
  intro w5 Z hZ h5
  obtain ⟨h1, h2, r1, r2, r3, hc1, hc2, h8, h9, q1, q2⟩ := H4
  have e7 : (entV [xa g1 c1, xb g2 c2, xc k]).toArray.setIfInBounds 7 (.int .i64 (300 + (1 + (y : Int)))) = (entV [(⟨⟨#[97]⟩, false, some ⟨g1, 0, none⟩, 4, 4, 1, 0, 0, ⟨#[104, 105]⟩, (300 + (1 + (y : Int))), c1⟩, [1, 0, 0, 0]), xb g2 c2, xc k]).toArray := rfl
  have e6 : (entV [(⟨⟨#[97]⟩, false, some ⟨g1, 0, none⟩, 4, 4, 1, 0, 0, ⟨#[104, 105]⟩, (300 + (1 + (y : Int))), c1⟩, [1, 0, 0, 0]), xb g2 c2, xc k]).toArray.setIfInBounds 6 (.string Z) = (entV [(⟨⟨#[97]⟩, false, some ⟨g1, 0, none⟩, 4, 4, 1, 0, 0, Z, (300 + (1 + (y : Int))), c1⟩, [1, 0, 0, 0]), xb g2 c2, xc k]).toArray := rfl
  have p6 : (entV [(⟨⟨#[97]⟩, false, some ⟨g1, 0, none⟩, 4, 4, 1, 0, 0, ⟨#[104, 105]⟩, (300 + (1 + (y : Int))), c1⟩, [1, 0, 0, 0]), xb g2 c2, xc k]).toArray[6]? = some (.string ⟨#[104, 105]⟩) := rfl
  have hw : writeB [(⟨⟨#[97]⟩, false, some ⟨g1, 0, none⟩, 4, 4, 1, 0, 0, Z, (300 + (1 + (y : Int))), c1⟩, [1, 0, 0, 0]), xb g2 c2, xc k] = false := bad_one _ _ (by simp [heldB, textB]; intros; omega)
  generalize (entV [xa g1 c1, xb g2 c2, xc k]).toArray = A at *
  generalize (entV [(⟨⟨#[97]⟩, false, some ⟨g1, 0, none⟩, 4, 4, 1, 0, 0, ⟨#[104, 105]⟩, (300 + (1 + (y : Int))), c1⟩, [1, 0, 0, 0]), xb g2 c2, xc k]).toArray = A1 at *
  have hs : Keeps (fun b => b = k + 1) w4 (w4.setCell ⟨k + 1, 7, none⟩ (.int .i64 (300 + (1 + (y : Int))))) := (Keeps.refl (fun b => b = k + 1) w4).setCell (p := ⟨k + 1, 7, none⟩) (fun _ => rfl) _
  have h1' : (w4.setCell ⟨k + 1, 7, none⟩ (.int .i64 (300 + (1 + (y : Int))))).heap[k + 1]? = some (.cells (A.setIfInBounds 7 (.int .i64 (300 + (1 + (y : Int))))) 34 (0, 0)) := heap_setCell_same h1 _
  rw [e7] at h1'
  have h2' : (w4.setCell ⟨k + 1, 7, none⟩ (.int .i64 (300 + (1 + (y : Int))))).heap[k + 2]? = some (.cells #[.slice (some ⟨k + 1, 0, none⟩) 3 3] 24 (0, 0)) := (hs.block (k + 2) (lt_of_heap h2) (by omega)).trans h2
  have g1' := (h5.block _ (lt_of_heap h1') (fun h => h)).trans h1'
  have g2' := (h5.block _ (lt_of_heap h2') (fun h => h)).trans h2'
  have hs5 : Keeps (fun b => b = k + 1) w4 w5 := hs.trans h5 (fun _ _ h => h.elim)
  have hs6 : Keeps (fun b => b = k + 1) w5 (w5.setCell ⟨k + 1, 6, none⟩ (.string Z)) := (Keeps.refl (fun b => b = k + 1) w5).setCell (p := ⟨k + 1, 6, none⟩) (fun _ => rfl) _
  have hs46 : Keeps (fun b => b = k + 1) w4 (w5.setCell ⟨k + 1, 6, none⟩ (.string Z)) := hs5.trans hs6 (fun _ _ h => h)
  have i1 : (w5.setCell ⟨k + 1, 6, none⟩ (.string Z)).heap[k + 1]? = some (.cells (A1.setIfInBounds 6 (.string Z)) 34 (0, 0)) := heap_setCell_same g1' _
  rw [e6] at i1
  have i2 := (hs6.block (k + 2) (lt_of_heap g2') (by omega)).trans g2'
  refine ⟨cell_of_heap g1' p6, frozen_of_heap g1', frm_end (es := [(⟨⟨#[97]⟩, false, some ⟨g1, 0, none⟩, 4, 4, 1, 0, 0, Z, (300 + (1 + (y : Int))), c1⟩, [1, 0, 0, 0]), xb g2 c2, xc k]) 3 (Fol.heap i1 ?_) ?_ hw, cell_of_heap i2 rfl, h8.trans hs46 (fun i hi h => by omega), lt_of_heap i2⟩
  · intro q hq
    simp only [List.mem_cons, List.not_mem_nil, or_false] at hq
    rcases hq with rfl | rfl | rfl
    · exact ⟨rfl, r1.kept hs46 (fun v hv h => by simp only [Option.some.injEq] at hv; subst hv; simp only at h; omega)⟩
    · exact ⟨rfl, r2.kept hs46 (fun v hv h => by simp only [Option.some.injEq] at hv; subst hv; simp only at h; omega)⟩
    · exact ⟨rfl, r3.kept hs46 (fun v hv h => by simp only [Option.some.injEq] at hv; subst hv; simp only at h; omega)⟩
  · intro q hq
    simp only [List.mem_cons, List.not_mem_nil, or_false] at hq
    rcases hq with rfl | rfl | rfl <;> exact fit_small _ _ _ _ _ _ _ _ _ _ _ _ (by decide) (by first | decide | (rw [hZ]; omega)) (by decide)

set_option maxHeartbeats 8000000 in
set_option maxRecDepth 1000000 in
theorem forms_9 (x0 x : Int) (y : Nat) (w : World) (hy : y ≤ 1023) (hx : bits .and .i64 x 1023 = (y : Int)) (hr : (IntKind.u64.wrap x0).tmod 17 = 9) :
    Calls Try.prog 4 #[.int .i64 x0, .int .i64 x] w fun r w' => r = .returned (.bool true) ∧ Keeps (fun _ => False) w w' := by
  have HS1 : Hid (∀ w', Calls Try.prog 12 #[.string ⟨#[97]⟩, .int .i64 0, .int .i64 1, .string ⟨#[104, 105]⟩] w' fun r w'' => ∃ g c, r = .returned (.agg #[.string (smE 97 104 105 g 1 0 c).nm, .bool (smE 97 104 105 g 1 0 c).gn, .slice (smE 97 104 105 g 1 0 c).va (smE 97 104 105 g 1 0 c).vn (smE 97 104 105 g 1 0 c).vc, .int .i64 (smE 97 104 105 g 1 0 c).st, .int .i64 (smE 97 104 105 g 1 0 c).nd, .int .i64 (smE 97 104 105 g 1 0 c).mt, .string (smE 97 104 105 g 1 0 c).pk, .int .i64 (smE 97 104 105 g 1 0 c).sz, .int .i64 (smE 97 104 105 g 1 0 c).cr]) ∧ (0 ≤ c ∧ c ≤ 4294967295) ∧ Own w'' g 4 [1, 0, 0, 0] ∧ Keeps (fun _ => False) w' w'' ∧ w'.heap.size ≤ g) := fun w' => sm_ok 97 104 105 0 1 w' (by decide)
  have HS2 : Hid (∀ w', Calls Try.prog 12 #[.string ⟨#[98]⟩, .int .i64 1, .int .i64 2, .string ⟨#[104, 111]⟩] w' fun r w'' => ∃ g c, r = .returned (.agg #[.string (smE 98 104 111 g 2 1 c).nm, .bool (smE 98 104 111 g 2 1 c).gn, .slice (smE 98 104 111 g 2 1 c).va (smE 98 104 111 g 2 1 c).vn (smE 98 104 111 g 2 1 c).vc, .int .i64 (smE 98 104 111 g 2 1 c).st, .int .i64 (smE 98 104 111 g 2 1 c).nd, .int .i64 (smE 98 104 111 g 2 1 c).mt, .string (smE 98 104 111 g 2 1 c).pk, .int .i64 (smE 98 104 111 g 2 1 c).sz, .int .i64 (smE 98 104 111 g 2 1 c).cr]) ∧ (0 ≤ c ∧ c ≤ 4294967295) ∧ Own w'' g 4 [0, 2, 0, 0] ∧ Keeps (fun _ => False) w' w'' ∧ w'.heap.size ≤ g) := fun w' => sm_ok 98 104 111 1 2 w' (by decide)
  have HX : Hid (bits .and .i64 x 1023 = (y : Int)) := hx
  have hyz : (y : Int) ≤ 1023 := by omega
  go_enter Try.func4, Try.ntmps4
  go_wp2_with (first
    | (go_at_call 7; refine (awake_ok _).mono ?_; rintro r w1 ⟨rfl, h⟩; have A1 : Hid (Keeps (fun _ => False) w w1) := h; clear h)
    | (go_at_call 12; (fail_if_success (clear M1)); refine (HS1.out w1).mono ?_; rintro r w2 ⟨g1, c1, rfl, hc, hO, hK, hg⟩; have A2 : Hid (Keeps (fun _ => False) w w2 ∧ Own w2 g1 4 [1, 0, 0, 0] ∧ (0 ≤ c1 ∧ c1 ≤ 4294967295)) := ⟨A1.out.tr hK, hO, hc⟩; have M1 : Hid True := trivial; clear hc hO hK hg)
    | (go_at_call 12; refine (HS2.out w2).mono ?_; rintro r w3 ⟨g2, c2, rfl, hc, hO, hK, hg⟩; have A3 : Hid (Keeps (fun _ => False) w w3 ∧ Own w3 g1 4 [1, 0, 0, 0] ∧ Own w3 g2 4 [0, 2, 0, 0] ∧ (0 ≤ c1 ∧ c1 ≤ 4294967295) ∧ (0 ≤ c2 ∧ c2 ≤ 4294967295)) := ⟨A2.out.1.tr hK, A2.out.2.1.kept hK (fun h => h), hO, A2.out.2.2, hc⟩; clear hc hO hK hg))
  have HM : Hid (∀ w4, Keeps (fun _ => False) _ w4 → Made w w4 w3.heap.size g1 g2 c1 c2) := made_of A3.out.1 A3.out.2.1 A3.out.2.2.1 A3.out.2.2.2.1 A3.out.2.2.2.2
  refine (Made.may (HM.out _ (Keeps.refl _ _))).mono ?_
  rintro r w4 ⟨rfl, h⟩
  have H4 : Hid (Made w w4 w3.heap.size g1 g2 c1 c2) := HM.out _ h
  clear h HM A1 A2 A3 M1 HS1 HS2
  generalize w3.heap.size = k at *
  have t0 : w4.cell? ⟨k + 1, 7, none⟩ = some (.int .i64 2) := cell_of_heap H4.out.1 rfl
  have f0 : w4.frozen? ⟨k + 1, 7, none⟩ = false := frozen_of_heap H4.out.1
  have v0 : w4.cell? ⟨k + 2, 0, none⟩ = some (.slice (some ⟨k + 1, 0, none⟩) 3 3) := cell_of_heap H4.out.2.1 rfl
  have HS5 : Hid (∀ w5 Z, Z.size = 301 + y → Keeps (fun _ => False) (w4.setCell ⟨k + 1, 7, none⟩ (.int .i64 (300 + (1 + (y : Int))))) w5 → w5.cell? ⟨k + 1, 6, none⟩ = some (.string ⟨#[104, 105]⟩) ∧ w5.frozen? ⟨k + 1, 6, none⟩ = false ∧ (FrmEnd (w5.setCell ⟨k + 1, 6, none⟩ (.string Z)) (some ⟨k + 1, 0, none⟩) 3 3 ∧ (w5.setCell ⟨k + 1, 6, none⟩ (.string Z)).cell? ⟨k + 2, 0, none⟩ = some (.slice (some ⟨k + 1, 0, none⟩) 3 3) ∧ Keeps (fun _ => False) w (w5.setCell ⟨k + 1, 6, none⟩ (.string Z)) ∧ k + 2 < (w5.setCell ⟨k + 1, 6, none⟩ (.string Z)).heap.size)) := nine_end H4.out hy
  clear H4
  have hx' := HX.out
  go_wp2_with (first
    | (refine wpList_bytes9 rfl _ _ rfl (300 + (1 + (y : Int))) (301 + y) (by push_cast; omega) rfl rfl (by omega) ?_; intro g w5 hc hK hg; have hcv := zeros_text9 w5 g (301 + y) hc; have hZ := zeros_size9 (301 + y); generalize (⟨(List.replicate (301 + y) (0 : UInt8)).toArray⟩ : ByteArray) = Z at hcv hZ; obtain ⟨t5, f5, hE⟩ := HS5.out w5 Z hZ hK; have u5 := hE.2.1; have HE : Hid (FrmEnd (w5.setCell ⟨k + 1, 6, none⟩ (.string Z)) (some ⟨k + 1, 0, none⟩) 3 3) := hE.1; have HK : Hid (Keeps (fun _ => False) w (w5.setCell ⟨k + 1, 6, none⟩ (.string Z))) := hE.2.2.1; have HV : Hid (∀ w', Keeps (fun _ => False) (w5.setCell ⟨k + 1, 6, none⟩ (.string Z)) w' → w'.cell? ⟨k + 2, 0, none⟩ = some (.slice (some ⟨k + 1, 0, none⟩) 3 3)) := (fun w' hk => by rw [World.cell?_of_block (hk.block (k + 2) hE.2.2.2 (fun h => h))]; exact hE.2.1); clear hc hK hg hE hZ)
    | (go_at_call 8; refine (HE.out _ (Keeps.refl _ _)).1.mono ?_; rintro r w6 ⟨rfl, h⟩; have K6 : Hid (Keeps (fun _ => False) (w5.setCell ⟨k + 1, 6, none⟩ (.string Z)) w6) := h; have c6 := HV.out w6 h; clear h)
    | (go_at_call 13; refine (HE.out w6 K6.out).2.1.mono ?_; rintro r w7 ⟨rfl, h⟩; have K7 : Hid (Keeps (fun _ => False) (w5.setCell ⟨k + 1, 6, none⟩ (.string Z)) w7) := K6.out.tr h; have c7 := HV.out w7 K7.out; clear h)
    | (go_at_call 10; refine (HE.out w7 K7.out).2.2.mono ?_; rintro r w8 ⟨rfl, h⟩; have K8 : Hid (Keeps (fun _ => False) (w5.setCell ⟨k + 1, 6, none⟩ (.string Z)) w8) := K7.out.tr h; clear h)
    | (go_at_call 9; refine (num_any _ _).mono ?_; rintro r w' ⟨rfl, hw⟩; obtain rfl := hw.symm; clear hw))
  go_ret
  exact ⟨by first | rfl | simp_all, HK.out.tr K8.out⟩

end Go.Proofs.Ytgbkipadbdochaa

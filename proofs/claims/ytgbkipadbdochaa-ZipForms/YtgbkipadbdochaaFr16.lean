/-
  ZipForms: a way of the walk.
-/
import Derived.Test.YtgbkipadbdochaaFfo
namespace Go.Proofs.Ytgbkipadbdochaa
open Go.RowKit
set_option linter.unusedVariables false
set_option linter.unusedSimpArgs false

set_option maxHeartbeats 8000000 in
set_option maxRecDepth 1000000 in
theorem forms_16 (x0 x : Int) (y : Nat) (w : World) (hy : y ≤ 1023) (hx : bits .and .i64 x 1023 = (y : Int)) (hr : (IntKind.u64.wrap x0).tmod 17 = 16) :
    Calls Try.prog 4 #[.int .i64 x0, .int .i64 x] w fun r w' => r = .returned (.bool true) ∧ Keeps (fun _ => False) w w' := by
  have HS1 : Hid (∀ w', Calls Try.prog 12 #[.string ⟨#[97]⟩, .int .i64 0, .int .i64 1, .string ⟨#[104, 105]⟩] w' fun r w'' => ∃ g c, r = .returned (.agg #[.string (smE 97 104 105 g 1 0 c).nm, .bool (smE 97 104 105 g 1 0 c).gn, .slice (smE 97 104 105 g 1 0 c).va (smE 97 104 105 g 1 0 c).vn (smE 97 104 105 g 1 0 c).vc, .int .i64 (smE 97 104 105 g 1 0 c).st, .int .i64 (smE 97 104 105 g 1 0 c).nd, .int .i64 (smE 97 104 105 g 1 0 c).mt, .string (smE 97 104 105 g 1 0 c).pk, .int .i64 (smE 97 104 105 g 1 0 c).sz, .int .i64 (smE 97 104 105 g 1 0 c).cr]) ∧ (0 ≤ c ∧ c ≤ 4294967295) ∧ Own w'' g 4 [1, 0, 0, 0] ∧ Keeps (fun _ => False) w' w'' ∧ w'.heap.size ≤ g) := fun w' => sm_ok 97 104 105 0 1 w' (by decide)
  have HS2 : Hid (∀ w', Calls Try.prog 12 #[.string ⟨#[98]⟩, .int .i64 1, .int .i64 2, .string ⟨#[104, 111]⟩] w' fun r w'' => ∃ g c, r = .returned (.agg #[.string (smE 98 104 111 g 2 1 c).nm, .bool (smE 98 104 111 g 2 1 c).gn, .slice (smE 98 104 111 g 2 1 c).va (smE 98 104 111 g 2 1 c).vn (smE 98 104 111 g 2 1 c).vc, .int .i64 (smE 98 104 111 g 2 1 c).st, .int .i64 (smE 98 104 111 g 2 1 c).nd, .int .i64 (smE 98 104 111 g 2 1 c).mt, .string (smE 98 104 111 g 2 1 c).pk, .int .i64 (smE 98 104 111 g 2 1 c).sz, .int .i64 (smE 98 104 111 g 2 1 c).cr]) ∧ (0 ≤ c ∧ c ≤ 4294967295) ∧ Own w'' g 4 [0, 2, 0, 0] ∧ Keeps (fun _ => False) w' w'' ∧ w'.heap.size ≤ g) := fun w' => sm_ok 98 104 111 1 2 w' (by decide)
  have HX : Hid (bits .and .i64 x 1023 = (y : Int)) := hx
  have hyz : (y : Int) ≤ 1023 := by omega
  go_enter Try.func4, Try.ntmps4
  go_wp2_with (first
    | (go_at_call 7; refine (awake_ok _).mono ?_; rintro r w1 ⟨rfl, h⟩; have A1 : Hid (Keeps (fun _ => False) w w1) := h; clear h)
    | (go_at_call 12; (fail_if_success (clear M1)); refine (HS1.out w1).mono ?_; rintro r w2 ⟨g1, c1, rfl, hc, hO, hK, hg⟩; have A2 : Hid (Keeps (fun _ => False) w w2 ∧ Own w2 g1 4 [1, 0, 0, 0] ∧ (0 ≤ c1 ∧ c1 ≤ 4294967295)) := ⟨A1.out.tr hK, hO, hc⟩; have M1 : Hid True := trivial; clear hc hO hK hg)
    | (go_at_call 12; refine (HS2.out w2).mono ?_; rintro r w3 ⟨g2, c2, rfl, hc, hO, hK, hg⟩; have A3 : Hid (Keeps (fun _ => False) w w3 ∧ Own w3 g1 4 [1, 0, 0, 0] ∧ Own w3 g2 4 [0, 2, 0, 0] ∧ (0 ≤ c1 ∧ c1 ≤ 4294967295) ∧ (0 ≤ c2 ∧ c2 ≤ 4294967295)) := ⟨A2.out.1.tr hK, A2.out.2.1.kept hK (fun h => h), hO, A2.out.2.2, hc⟩; clear hc hO hK hg))
  have HM : Hid (∀ w4, Keeps (fun _ => False) _ w4 → Made w w4 w3.heap.size g1 g2 c1 c2) := made_of A3.out.1 A3.out.2.1 A3.out.2.2.1 A3.out.2.2.2.1 A3.out.2.2.2.2
  refine (Made.may (HM.out _ (Keeps.refl _ _))).mono ?_
  rintro r w4 ⟨rfl, h⟩
  have H4 : Hid (Made w w4 w3.heap.size g1 g2 c1 c2) := HM.out _ h
  clear h HM A1 A2 A3 M1 HS1 HS2
  generalize w3.heap.size = k at *
  have v0 : w4.cell? ⟨k + 2, 0, none⟩ = some (.slice (some ⟨k + 1, 0, none⟩) 3 3) := cell_of_heap H4.out.2.1 rfl
  have HW4 : Hid (w4.heap[k + 2]? = some (.cells #[.slice (some ⟨k + 1, 0, none⟩) 3 3] 24 (0, 0)) ∧ Keeps (fun _ => False) w w4 ∧ w.heap.size ≤ k) := ⟨H4.out.2.1, H4.out.2.2.2.2.2.2.2.1, H4.out.2.2.2.2.2.2.2.2.1⟩
  clear H4
  have hx' := HX.out
  go_wp2_with (first
    | (refine wpList_ents7 rfl _ _ rfl rfl rfl ?_; intro g w5 hK hg; have hh5 := (hK.block (k + 2) (lt_of_heap HW4.out.1) (fun h => h)).trans HW4.out.1; have v5 : w5.cell? ⟨k + 2, 0, none⟩ = some (.slice (some ⟨k + 1, 0, none⟩) 3 3) := cell_of_heap hh5 rfl; have f5 : w5.frozen? ⟨k + 2, 0, none⟩ = false := frozen_of_heap hh5; have u5 : (w5.setCell ⟨k + 2, 0, none⟩ (.slice (some ⟨g, 0, none⟩) 7 7)).cell? ⟨k + 2, 0, none⟩ = some (.slice (some ⟨g, 0, none⟩) 7 7) := cell_of_heap (heap_setCell_same hh5 _) rfl; have HV : Hid (∀ w', Keeps (fun _ => False) (w5.setCell ⟨k + 2, 0, none⟩ (.slice (some ⟨g, 0, none⟩) 7 7)) w' → w'.cell? ⟨k + 2, 0, none⟩ = some (.slice (some ⟨g, 0, none⟩) 7 7)) := (fun w' hk => by rw [World.cell?_of_block (hk.block (k + 2) (lt_of_heap (heap_setCell_same hh5 _)) (fun h => h))]; exact cell_of_heap (heap_setCell_same hh5 _) rfl); have HK : Hid (Keeps (fun _ => False) w (w5.setCell ⟨k + 2, 0, none⟩ (.slice (some ⟨g, 0, none⟩) 7 7))) := (HW4.out.2.1.tr hK).trans ((Keeps.refl (fun b => b = k + 2) w5).setCell (p := ⟨k + 2, 0, none⟩) (fun _ => rfl) _) (fun i hi h => by have := HW4.out.2.2; omega); clear hK hg hh5)
    | (go_at_call 8; refine (end_seven _ _ _ (Keeps.refl _ _)).1.mono ?_; rintro r w6 ⟨rfl, h⟩; have K6 : Hid (Keeps (fun _ => False) w w6) := HK.out.tr h; have H6 : Hid (Keeps (fun _ => False) (w5.setCell ⟨k + 2, 0, none⟩ (.slice (some ⟨g, 0, none⟩) 7 7)) w6) := h; have c6 := HV.out w6 h; clear h)
    | (go_at_call 13; refine (end_seven _ _ _ (Keeps.refl _ _)).2.1.mono ?_; rintro r w7 ⟨rfl, h⟩; have K7 : Hid (Keeps (fun _ => False) w w7) := K6.out.tr h; have c7 := HV.out w7 (H6.out.tr h); clear h)
    | (go_at_call 10; refine (end_seven _ _ _ (Keeps.refl _ _)).2.2.mono ?_; rintro r w8 ⟨rfl, h⟩; have K8 : Hid (Keeps (fun _ => False) w w8) := K7.out.tr h; clear h)
    | (go_at_call 9; refine (num_any _ _).mono ?_; rintro r w' ⟨rfl, hw⟩; obtain rfl := hw.symm; clear hw))
  go_ret
  exact ⟨by first | rfl | simp_all, K8.out⟩

end Go.Proofs.Ytgbkipadbdochaa

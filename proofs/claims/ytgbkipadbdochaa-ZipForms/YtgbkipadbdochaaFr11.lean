/-
  ZipForms: a way of the walk.
-/
import Derived.Test.YtgbkipadbdochaaFfo
namespace Go.Proofs.Ytgbkipadbdochaa
open Go.RowKit
set_option linter.unusedVariables false
set_option linter.unusedSimpArgs false

set_option maxHeartbeats 8000000 in
set_option maxRecDepth 1000000 in
theorem forms_11 (x0 x : Int) (y : Nat) (w : World) (hy : y ≤ 1023) (hx : bits .and .i64 x 1023 = (y : Int)) (hr : (IntKind.u64.wrap x0).tmod 17 = 11) :
    Calls Try.prog 4 #[.int .i64 x0, .int .i64 x] w fun r w' => r = .returned (.bool true) ∧ Keeps (fun _ => False) w w' := by
  have HS1 : Hid (∀ w', Calls Try.prog 12 #[.string ⟨#[97]⟩, .int .i64 0, .int .i64 1, .string ⟨#[104, 105]⟩] w' fun r w'' => ∃ g c, r = .returned (.agg #[.string (smE 97 104 105 g 1 0 c).nm, .bool (smE 97 104 105 g 1 0 c).gn, .slice (smE 97 104 105 g 1 0 c).va (smE 97 104 105 g 1 0 c).vn (smE 97 104 105 g 1 0 c).vc, .int .i64 (smE 97 104 105 g 1 0 c).st, .int .i64 (smE 97 104 105 g 1 0 c).nd, .int .i64 (smE 97 104 105 g 1 0 c).mt, .string (smE 97 104 105 g 1 0 c).pk, .int .i64 (smE 97 104 105 g 1 0 c).sz, .int .i64 (smE 97 104 105 g 1 0 c).cr]) ∧ (0 ≤ c ∧ c ≤ 4294967295) ∧ Own w'' g 4 [1, 0, 0, 0] ∧ Keeps (fun _ => False) w' w'' ∧ w'.heap.size ≤ g) := fun w' => sm_ok 97 104 105 0 1 w' (by decide)
  have HS2 : Hid (∀ w', Calls Try.prog 12 #[.string ⟨#[98]⟩, .int .i64 1, .int .i64 2, .string ⟨#[104, 111]⟩] w' fun r w'' => ∃ g c, r = .returned (.agg #[.string (smE 98 104 111 g 2 1 c).nm, .bool (smE 98 104 111 g 2 1 c).gn, .slice (smE 98 104 111 g 2 1 c).va (smE 98 104 111 g 2 1 c).vn (smE 98 104 111 g 2 1 c).vc, .int .i64 (smE 98 104 111 g 2 1 c).st, .int .i64 (smE 98 104 111 g 2 1 c).nd, .int .i64 (smE 98 104 111 g 2 1 c).mt, .string (smE 98 104 111 g 2 1 c).pk, .int .i64 (smE 98 104 111 g 2 1 c).sz, .int .i64 (smE 98 104 111 g 2 1 c).cr]) ∧ (0 ≤ c ∧ c ≤ 4294967295) ∧ Own w'' g 4 [0, 2, 0, 0] ∧ Keeps (fun _ => False) w' w'' ∧ w'.heap.size ≤ g) := fun w' => sm_ok 98 104 111 1 2 w' (by decide)
  have HX : Hid (bits .and .i64 x 1023 = (y : Int)) := hx
  have hyz : (y : Int) ≤ 1023 := by omega
  go_enter Try.func4, Try.ntmps4
  go_wp2_with (first
    | (go_at_call 7; refine (awake_ok _).mono ?_; rintro r w1 ⟨rfl, h⟩; have A1 : Hid (Keeps (fun _ => False) w w1) := h; clear h)
    | (go_at_call 12; (fail_if_success (clear M1)); refine (HS1.out w1).mono ?_; rintro r w2 ⟨g1, c1, rfl, hc, hO, hK, hg⟩; have A2 : Hid (Keeps (fun _ => False) w w2 ∧ Own w2 g1 4 [1, 0, 0, 0] ∧ (0 ≤ c1 ∧ c1 ≤ 4294967295)) := ⟨A1.out.tr hK, hO, hc⟩; have M1 : Hid True := trivial; clear hc hO hK hg)
    | (go_at_call 12; refine (HS2.out w2).mono ?_; rintro r w3 ⟨g2, c2, rfl, hc, hO, hK, hg⟩; have A3 : Hid (Keeps (fun _ => False) w w3 ∧ Own w3 g1 4 [1, 0, 0, 0] ∧ Own w3 g2 4 [0, 2, 0, 0] ∧ (0 ≤ c1 ∧ c1 ≤ 4294967295) ∧ (0 ≤ c2 ∧ c2 ≤ 4294967295)) := ⟨A2.out.1.tr hK, A2.out.2.1.kept hK (fun h => h), hO, A2.out.2.2, hc⟩; clear hc hO hK hg))
  have HM : Hid (∀ w4, Keeps (fun _ => False) _ w4 → Made w w4 w3.heap.size g1 g2 c1 c2) := made_of A3.out.1 A3.out.2.1 A3.out.2.2.1 A3.out.2.2.2.1 A3.out.2.2.2.2
  refine (Made.may (HM.out _ (Keeps.refl _ _))).mono ?_
  rintro r w4 ⟨rfl, h⟩
  have H4 : Hid (Made w w4 w3.heap.size g1 g2 c1 c2) := HM.out _ h
  clear h HM A1 A2 A3 M1 HS1 HS2
  generalize w3.heap.size = k at *
  have HT : Hid (FrmEnd (w4.setCell ⟨k + 1, 8, none⟩ (.int .i64 (4294967295 + (1 + (y : Int))))) (some ⟨k + 1, 0, none⟩) 3 3 ∧ (w4.setCell ⟨k + 1, 8, none⟩ (.int .i64 (4294967295 + (1 + (y : Int))))).cell? ⟨k + 2, 0, none⟩ = some (.slice (some ⟨k + 1, 0, none⟩) 3 3) ∧ Keeps (fun _ => False) w (w4.setCell ⟨k + 1, 8, none⟩ (.int .i64 (4294967295 + (1 + (y : Int))))) ∧ k + 2 < (w4.setCell ⟨k + 1, 8, none⟩ (.int .i64 (4294967295 + (1 + (y : Int))))).heap.size) :=
    H4.out.turn 8 (.int .i64 (4294967295 + (1 + (y : Int)))) ((⟨⟨#[97]⟩, false, some ⟨g1, 0, none⟩, 4, 4, 1, 0, 0, ⟨#[104, 105]⟩, 2, (4294967295 + (1 + (y : Int)))⟩, [1, 0, 0, 0])) (xb g2 c2) (xc k) rfl ⟨rfl, H4.out.2.2.1⟩ ⟨rfl, H4.out.2.2.2.1⟩ ⟨rfl, H4.out.2.2.2.2.1⟩ (by refine ⟨?_, ?_, ?_⟩ <;> exact fit_small _ _ _ _ _ _ _ _ _ _ _ _ (by decide) (by decide) (by decide)) (bad_one _ _ (by simp [heldB, textB]; intros; omega)) (by
      have q1 := H4.out.2.2.2.2.2.2.2.2.2
      intro q hq v hv
      simp only [List.mem_cons, List.not_mem_nil, or_false] at hq
      rcases hq with rfl | rfl | rfl <;> simp only [xa, xb, xc, smE, ec, Option.some.injEq, reduceCtorEq] at hv <;> first | (subst hv; show _ ≠ k + 1; simp only; omega) | (exact absurd hv (by simp)))
  have t0 : w4.cell? ⟨k + 1, 8, none⟩ = some (.int .i64 c1) := cell_of_heap H4.out.1 rfl
  have f0 : w4.frozen? ⟨k + 1, 8, none⟩ = false := frozen_of_heap H4.out.1
  have v0 : w4.cell? ⟨k + 2, 0, none⟩ = some (.slice (some ⟨k + 1, 0, none⟩) 3 3) := cell_of_heap H4.out.2.1 rfl
  have v1 := HT.out.2.1
  obtain ⟨w5, hw5⟩ : ∃ w5, w4.setCell ⟨k + 1, 8, none⟩ (.int .i64 (4294967295 + (1 + (y : Int)))) = w5 := ⟨_, rfl⟩
  have HE : Hid (FrmEnd (w4.setCell ⟨k + 1, 8, none⟩ (.int .i64 (4294967295 + (1 + (y : Int))))) (some ⟨k + 1, 0, none⟩) 3 3) := HT.out.1
  have HK : Hid (Keeps (fun _ => False) w w5) := by have := HT.out.2.2.1; rw [hw5] at this; exact this
  have HV : Hid (∀ w', Keeps (fun _ => False) w5 w' → w'.cell? ⟨k + 2, 0, none⟩ = some (.slice (some ⟨k + 1, 0, none⟩) 3 3)) := fun w' hk => by
    have h1 := HT.out.2.1
    have h2 := HT.out.2.2.2
    rw [hw5] at h1 h2
    rw [World.cell?_of_block (hk.block (k + 2) h2 (fun h => h))]; exact h1
  have HW5 : Hid (w4.setCell ⟨k + 1, 8, none⟩ (.int .i64 (4294967295 + (1 + (y : Int)))) = w5) := hw5
  clear hw5 HT H4
  have hx' := HX.out
  go_wp2_with (first
    | (go_at_call 8; refine (HE.out _ (Keeps.refl _ _)).1.mono ?_; rintro r w6 ⟨rfl, h⟩; rw [HW5.out] at h; have K6 : Hid (Keeps (fun _ => False) w5 w6) := h; have c6 := HV.out w6 K6.out; clear h)
    | (go_at_call 13; refine (HE.out w6 (by rw [HW5.out]; exact K6.out)).2.1.mono ?_; rintro r w7 ⟨rfl, h⟩; have K7 : Hid (Keeps (fun _ => False) w5 w7) := K6.out.tr h; have c7 := HV.out w7 K7.out; clear h)
    | (go_at_call 10; refine (HE.out w7 (by rw [HW5.out]; exact K7.out)).2.2.mono ?_; rintro r w8 ⟨rfl, h⟩; have K8 : Hid (Keeps (fun _ => False) w5 w8) := K7.out.tr h; clear h)
    | (go_at_call 9; refine (num_any _ _).mono ?_; rintro r w' ⟨rfl, hw⟩; obtain rfl := hw.symm; clear hw))
  go_ret
  exact ⟨by first | rfl | simp_all, HK.out.tr K8.out⟩

end Go.Proofs.Ytgbkipadbdochaa

/-
  ZipForms: a way of the walk.
-/
import Derived.Test.YtgbkipadbdochaaFfo
namespace Go.Proofs.Ytgbkipadbdochaa
open Go.RowKit
set_option linter.unusedVariables false
set_option linter.unusedSimpArgs false

set_option maxHeartbeats 8000000 in
set_option maxRecDepth 1000000 in
theorem forms_6b (x0 x : Int) (y : Nat) (w : World) (hy : y ≤ 1023) (h8 : y = 7) (hx : bits .and .i64 x 1023 = (y : Int)) (hr : (IntKind.u64.wrap x0).tmod 17 = 6) :
    Calls Try.prog 4 #[.int .i64 x0, .int .i64 x] w fun r w' => r = .returned (.bool true) ∧ Keeps (fun _ => False) w w' := by
  subst h8
  have HS1 : Hid (∀ w', Calls Try.prog 12 #[.string ⟨#[97]⟩, .int .i64 0, .int .i64 1, .string ⟨#[104, 105]⟩] w' fun r w'' => ∃ g c, r = .returned (.agg #[.string (smE 97 104 105 g 1 0 c).nm, .bool (smE 97 104 105 g 1 0 c).gn, .slice (smE 97 104 105 g 1 0 c).va (smE 97 104 105 g 1 0 c).vn (smE 97 104 105 g 1 0 c).vc, .int .i64 (smE 97 104 105 g 1 0 c).st, .int .i64 (smE 97 104 105 g 1 0 c).nd, .int .i64 (smE 97 104 105 g 1 0 c).mt, .string (smE 97 104 105 g 1 0 c).pk, .int .i64 (smE 97 104 105 g 1 0 c).sz, .int .i64 (smE 97 104 105 g 1 0 c).cr]) ∧ (0 ≤ c ∧ c ≤ 4294967295) ∧ Own w'' g 4 [1, 0, 0, 0] ∧ Keeps (fun _ => False) w' w'' ∧ w'.heap.size ≤ g) := fun w' => sm_ok 97 104 105 0 1 w' (by decide)
  have HS2 : Hid (∀ w', Calls Try.prog 12 #[.string ⟨#[98]⟩, .int .i64 1, .int .i64 2, .string ⟨#[104, 111]⟩] w' fun r w'' => ∃ g c, r = .returned (.agg #[.string (smE 98 104 111 g 2 1 c).nm, .bool (smE 98 104 111 g 2 1 c).gn, .slice (smE 98 104 111 g 2 1 c).va (smE 98 104 111 g 2 1 c).vn (smE 98 104 111 g 2 1 c).vc, .int .i64 (smE 98 104 111 g 2 1 c).st, .int .i64 (smE 98 104 111 g 2 1 c).nd, .int .i64 (smE 98 104 111 g 2 1 c).mt, .string (smE 98 104 111 g 2 1 c).pk, .int .i64 (smE 98 104 111 g 2 1 c).sz, .int .i64 (smE 98 104 111 g 2 1 c).cr]) ∧ (0 ≤ c ∧ c ≤ 4294967295) ∧ Own w'' g 4 [0, 2, 0, 0] ∧ Keeps (fun _ => False) w' w'' ∧ w'.heap.size ≤ g) := fun w' => sm_ok 98 104 111 1 2 w' (by decide)
  have HX : Hid (bits .and .i64 x 1023 = ((7 : Nat) : Int)) := hx
  have hyz : ((7 : Nat) : Int) ≤ 1023 := by omega
  go_enter Try.func4, Try.ntmps4
  go_wp2_with (first
    | (go_at_call 7; refine (awake_ok _).mono ?_; rintro r w1 ⟨rfl, h⟩; have A1 : Hid (Keeps (fun _ => False) w w1) := h; clear h)
    | (go_at_call 12; (fail_if_success (clear M1)); refine (HS1.out w1).mono ?_; rintro r w2 ⟨g1, c1, rfl, hc, hO, hK, hg⟩; have A2 : Hid (Keeps (fun _ => False) w w2 ∧ Own w2 g1 4 [1, 0, 0, 0] ∧ (0 ≤ c1 ∧ c1 ≤ 4294967295)) := ⟨A1.out.tr hK, hO, hc⟩; have M1 : Hid True := trivial; clear hc hO hK hg)
    | (go_at_call 12; refine (HS2.out w2).mono ?_; rintro r w3 ⟨g2, c2, rfl, hc, hO, hK, hg⟩; have A3 : Hid (Keeps (fun _ => False) w w3 ∧ Own w3 g1 4 [1, 0, 0, 0] ∧ Own w3 g2 4 [0, 2, 0, 0] ∧ (0 ≤ c1 ∧ c1 ≤ 4294967295) ∧ (0 ≤ c2 ∧ c2 ≤ 4294967295)) := ⟨A2.out.1.tr hK, A2.out.2.1.kept hK (fun h => h), hO, A2.out.2.2, hc⟩; clear hc hO hK hg))
  have HM : Hid (∀ w4, Keeps (fun _ => False) _ w4 → Made w w4 w3.heap.size g1 g2 c1 c2) := made_of A3.out.1 A3.out.2.1 A3.out.2.2.1 A3.out.2.2.2.1 A3.out.2.2.2.2
  refine (Made.may (HM.out _ (Keeps.refl _ _))).mono ?_
  rintro r w4 ⟨rfl, h⟩
  have H4 : Hid (Made w w4 w3.heap.size g1 g2 c1 c2) := HM.out _ h
  clear h HM A1 A2 A3 M1 HS1 HS2
  generalize w3.heap.size = k at *
  have t0 : w4.cell? ⟨k + 1, 5, none⟩ = some (.int .i64 0) := cell_of_heap H4.out.1 rfl
  have f0 : w4.frozen? ⟨k + 1, 5, none⟩ = false := frozen_of_heap H4.out.1
  have v0 : w4.cell? ⟨k + 2, 0, none⟩ = some (.slice (some ⟨k + 1, 0, none⟩) 3 3) := cell_of_heap H4.out.2.1 rfl
  have HK : Hid (Keeps (fun _ => False) w (w4.setCell ⟨k + 1, 5, none⟩ (.int .i64 8))) := (H4.out.2.2.2.2.2.2.2.1).trans ((Keeps.refl (fun b => b = k + 1) w4).setCell (p := ⟨k + 1, 5, none⟩) (fun _ => rfl) _) (fun i hi h => by have := H4.out.2.2.2.2.2.2.2.2.1; omega)
  clear H4
  have hx' : bits .and .i64 x 1023 = 7 := HX.out
  go_wp2
  go_ret
  exact ⟨by first | rfl | simp_all, HK.out⟩

end Go.Proofs.Ytgbkipadbdochaa

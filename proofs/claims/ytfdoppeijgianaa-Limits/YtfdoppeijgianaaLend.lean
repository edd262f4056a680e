/-
  Rows of numbers lent, looked at again, and written over.
-/
import Derived.Test.YtfdoppeijgianaaEven
import Derived.OpenShut
namespace Go.Proofs.Ytfdoppeijgianaa
open Go.RowKit
set_option linter.unusedVariables false
set_option linter.unusedSimpArgs false

set_option maxHeartbeats 4000000 in
set_option maxRecDepth 1000000 in
theorem copy_ok (a : Option Addr) (ys : List Int) (cap : Nat) (w : World) (hR : Row w a ys) (hA : Came a ys.length cap) (hsz : ys.length * 8 ≤ 140737488355328) :
    Calls Try.prog 16 #[.slice a ys.length cap] w fun e w' => ∃ v, e = .returned v ∧ w'.ownsRow w.heap.size 3 1 v ys.length (intsV ys) ∧ Keeps (fun _ => False) w w' := by
  have HR : Hid (Row w a ys) := hR
  have HA : Hid (Came a ys.length cap) := hA
  clear hR hA
  go_enter Try.func16, Try.ntmps16
  go_wp2_with (first
    | (refine wpList_append rfl _ _ rfl rfl w.heap.size (.slice (some ⟨w.heap.size, 0, none⟩) 0 0) 0 [] rfl ?hown a ys cap rfl (HR.out.keptF ((Keeps.refl _ w).alloc _)) HA.out ?hb ?hsz ?_; (case hown => exact World.ownsRow_lit w #[] 0 (Nat.le_refl _) (by decide) rfl); (case hb => simp); (case hsz => omega); intro v w2 hO hG))
  go_ret
  refine ⟨v, rfl, by simpa using hO, ((Keeps.refl (fun _ => False) w).alloc (Obj.cells #[] 3)).grown hG (fun k hk e => ?_)⟩
  simp [Value.ownBlock] at e; omega

theorem owns_ge {w : World} {base : Nat} {e : TypeId} {size : Nat} {v : Value} {n : Nat} {xs : List Value} (h : w.ownsRow base e size v n xs) (k : Nat) (hk : v.ownBlock = some k) : base ≤ k := by
  rcases h.2 with ⟨rfl, _⟩ | ⟨g, cap, cur, rfl, hb, _⟩
  · simp [Value.ownBlock] at hk
  · simp [Value.ownBlock] at hk; omega
/-- Lent: the numbers, and two marks behind them. -/
def Lent (w : World) (g : Nat) (ys : List Int) (cap : Nat) : Prop :=
  g < w.heap.size ∧ ys.length + 2 ≤ cap ∧ ∀ i, i < ys.length + 2 → w.cell? ⟨g, i, none⟩ = some (.int .i64 (at_ (ys ++ [-7777, -8888]) i))
theorem Lent.kept {S : Nat → Prop} {w w' : World} {g cap : Nat} {ys : List Int} (h : Lent w g ys cap) (hk : Keeps S w w') (hg : ¬ S g) : Lent w' g ys cap :=
  ⟨Nat.lt_of_lt_of_le h.1 hk.size, h.2.1, fun i hi => by rw [World.cell?_of_block (hk.block g h.1 hg)]; exact h.2.2 i hi⟩
theorem Lent.row {w : World} {g cap : Nat} {ys : List Int} (h : Lent w g ys cap) : Row w (some ⟨g, 0, none⟩) ys :=
  .inr ⟨g, 0, rfl, h.1, fun i hi => by rw [Nat.zero_add, h.2.2 i (by omega), at_append_left _ _ _ hi, at_eq i hi]⟩
theorem owns_lent {w : World} {base g cap : Nat} {ys : List Int} (h : w.ownsRow base 3 1 (.slice (some ⟨g, 0, none⟩) (ys.length + 2) cap) (ys.length + 2) (intsV ys ++ intsV [-7777, -8888])) (hg : g < w.heap.size) : Lent w g ys cap := by
  have hc : ys.length + 2 ≤ cap := by
    rcases h.2 with ⟨e, _⟩ | ⟨g', cap', cur, e, _, _, hn, _⟩
    · cases e
    · simp only [Value.slice.injEq] at e
      obtain ⟨_, _, rfl⟩ := e
      exact hn
  refine ⟨hg, hc, fun i hi => ?_⟩
  rw [World.ownsRow.cellAt h i (by omega)]
  have hl : i < (ys ++ [-7777, -8888]).length := by simp; omega
  rw [at_eq i hl]
  have e : intsV ys ++ intsV [-7777, -8888] = intsV (ys ++ [-7777, -8888]) := by simp [intsV]
  rw [e]
  unfold intsV
  rw [List.getElem?_map, List.getElem?_eq_getElem hl]; rfl

set_option maxHeartbeats 4000000 in
set_option maxRecDepth 1000000 in
theorem lend_ok (a : Option Addr) (ys : List Int) (cap : Nat) (w : World) (hR : Row w a ys) (hA : Came a ys.length cap) (hsz : ys.length * 8 + 4096 ≤ 140737488355328) :
    Calls Try.prog 8 #[.slice a ys.length cap] w fun e w' => ∃ g c, e = .returned (.slice (some ⟨g, 0, none⟩) ys.length c) ∧ Lent w' g ys c ∧ Keeps (fun _ => False) w w' ∧ w.heap.size ≤ g := by
  have HC : Hid (Calls Try.prog 16 #[.slice a ys.length cap] w fun e w' => ∃ v, e = .returned v ∧ w'.ownsRow w.heap.size 3 1 v ys.length (intsV ys) ∧ Keeps (fun _ => False) w w') := copy_ok a ys cap w hR hA (by omega)
  clear hR hA
  go_enter Try.func8, Try.ntmps8
  go_wp2_with (first
    | (go_at_call 16; refine HC.out.mono ?_; rintro e w1 ⟨v, rfl, hO, hK1⟩; have HO : Hid (w1.ownsRow w.heap.size 3 1 v ys.length (intsV ys)) := hO; have HK1 : Hid (Keeps (fun _ => False) w w1) := hK1; clear hO hK1)
    | (refine wpList_append rfl _ _ rfl rfl w.heap.size v ys.length (intsV ys) rfl (HO.out.alloc _) (some ⟨w1.heap.size, 0, none⟩) [-7777, -8888] 2 rfl (Row.lit w1 [-7777, -8888] 3) (.inr ⟨_, rfl⟩) ?hb ?hsz ?_; (case hb => exact (HK1.out.alloc _).size); (case hsz => simp; omega); intro v2 w2 hO2 hG2; obtain ⟨g, c2, rfl, hg, hlt⟩ := hO2.form (by simp); have HL : Hid (Lent w2 g ys c2) := owns_lent hO2 hlt; have hcz : (ys.length : Int) + 2 ≤ (c2 : Int) := by (have := HL.out.2.1; omega)))
  go_ret
  refine ⟨g, c2, rfl, HL.out, (HK1.out.alloc _).grown hG2 (fun k hk e => ?_), hg⟩
  have := owns_ge HO.out k e
  omega

set_option maxHeartbeats 4000000 in
set_option maxRecDepth 1000000 in
theorem kept_yes (g : Nat) (a' : Option Addr) (ys : List Int) (cap cap' : Nat) (w : World) (h : Lent w g ys cap) (h' : Row w a' ys) (hn : ys.length ≤ 1125899906842624) :
    Calls Try.prog 14 #[.slice (some ⟨g, 0, none⟩) ys.length cap, .slice a' ys.length cap'] w fun e w' => e = .returned (.bool true) ∧ Keeps (fun _ => False) w w' := by
  have HS : Hid (Calls Try.prog 11 #[.slice (some ⟨g, 0, none⟩) ys.length cap, .slice a' ys.length cap'] w fun e w' => e = .returned (.bool true) ∧ Keeps (fun _ => False) w w') := sameInts_yes _ a' ys cap cap' w h.row h' (by omega)
  have hcz : (ys.length : Int) + 2 ≤ (cap : Int) := by have := h.2.1; omega
  have HM : Hid (∀ w', Keeps (fun _ => False) w w' → w'.cell? ⟨g, ys.length, none⟩ = some (.int .i64 (-7777)) ∧ w'.cell? ⟨g, ys.length + 1, none⟩ = some (.int .i64 (-8888))) := fun w' hk => by
    have hl := h.kept hk (fun h => h)
    have e1 := hl.2.2 ys.length (by omega)
    have e2 := hl.2.2 (ys.length + 1) (by omega)
    have a0 := at_append_right ys [-7777, -8888] 0
    have a1 := at_append_right ys [-7777, -8888] 1
    rw [Nat.add_zero] at a0
    rw [a0] at e1
    rw [a1] at e2
    exact ⟨e1, e2⟩
  generalize ys.length = n at *
  clear h h'
  go_enter Try.func14, Try.ntmps14
  go_wp2_with (first
    | (go_at_call 11; refine HS.out.mono ?_; rintro e w1 ⟨rfl, hK1⟩; obtain ⟨hm1, hm2⟩ := HM.out w1 hK1; have HK1 : Hid (Keeps (fun _ => False) w w1) := hK1; clear hK1))
  go_ret
  exact ⟨rfl, HK1.out⟩

set_option maxHeartbeats 4000000 in
set_option maxRecDepth 1000000 in
theorem spoil_none (cap : Nat) (w : World) : Calls Try.prog 13 #[.slice none 0 cap] w fun e w' => e = .returned (.tuple #[]) ∧ Keeps (fun _ => False) w w' := by
  go_enter Try.func13, Try.ntmps13
  go_wp2
  go_loopw [2] (fun s2 w' => s2 = .int .i64 0 ∧ w' = w) (fun s2 w' => 0)
  case atStart => exact ⟨rfl, rfl⟩
  case round =>
    obtain ⟨rfl, rfl⟩ := hrel
    go_wp2
    go_end0
    exact ⟨rfl, Keeps.refl _ _⟩

set_option maxHeartbeats 4000000 in
set_option maxRecDepth 1000000 in
theorem spoil_ok (g cap : Nat) (ys : List Int) (w : World) (h : Own w g cap ys) (hn : ys.length ≤ 1000000) :
    Calls Try.prog 13 #[.slice (some ⟨g, 0, none⟩) ys.length cap] w fun e w' => e = .returned (.tuple #[]) ∧ Keeps (fun b => b = g) w w' := by
  obtain ⟨n, hL⟩ : ∃ n, ys.length = n := ⟨_, rfl⟩
  have HW : Hid ((∃ zs : List Int, zs.length = n ∧ Own w g cap zs) ∧ Keeps (fun k => k = g) w w) := ⟨⟨ys, hL, h⟩, Keeps.refl _ _⟩
  rw [hL] at hn
  rw [hL]
  clear h hL
  go_enter Try.func13, Try.ntmps13
  go_wp2
  go_loopw [2] (fun s2 w' => ∃ i : Nat, i ≤ n ∧ s2 = .int .i64 (i : Int) ∧ Hid ((∃ zs : List Int, zs.length = n ∧ Own w' g cap zs) ∧ Keeps (fun k => k = g) w w')) (fun s2 w' => ((n : Int) - intOf s2).toNat)
  case atStart => exact ⟨0, by omega, rfl, HW⟩
  case round =>
    clear HW
    obtain ⟨i, hi, rfl, HW⟩ := hrel
    by_cases hin : i < n
    · have hiz : (i : Int) < (n : Int) := by omega
      obtain ⟨zs, hzl, hzo⟩ := HW.out.1
      have hc := hzo.cell i (by omega)
      have hf := hzo.free i (by omega)
      generalize at_ zs i = y at *
      have HZ : Hid (zs.length = n ∧ Own wr g cap zs) := ⟨hzl, hzo⟩
      clear hzl hzo
      go_wp2
      go_roundw
      case rel => exact ⟨i + 1, by omega, by push_cast; rfl, ⟨_, by rw [List.length_set]; exact HZ.out.1, HZ.out.2.set i _⟩, HW.out.2.setCell (fun _ => rfl) _⟩
      case measure => simp [intOf]; omega
    · obtain rfl : i = n := by omega
      go_wp2
      go_end0
      exact ⟨rfl, HW.out.2⟩

end Go.Proofs.Ytfdoppeijgianaa

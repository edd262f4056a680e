/-
  Rows of fixed lengths told alike, and written over.
-/
import Derived.Test.YthkbbnghclfhjaaAwake
import Derived.BigQuiet
namespace Go.Proofs.Ythkbbnghclfhjaa
open Go.RowKit
set_option linter.unusedVariables false
set_option linter.unusedSimpArgs false

/-- Block g holds the fixed lengths. -/
def Fx (w : World) (g : Nat) : Prop := g < w.heap.size ∧ ∀ j, j < 288 → w.cell? ⟨g, j, none⟩ = some (.int .i64 (fixV j)) ∧ w.frozen? ⟨g, j, none⟩ = false
theorem Fx.kept {S : Nat → Prop} {w w' : World} {g : Nat} (h : Fx w g) (hk : Keeps S w w') (hg : ¬ S g) : Fx w' g :=
  ⟨Nat.lt_of_lt_of_le h.1 hk.size, fun j hj => ⟨(World.cell?_of_block (hk.block g h.1 hg)).trans (h.2 j hj).1, (World.frozen?_of_block (hk.block g h.1 hg)).trans (h.2 j hj).2⟩⟩
theorem Fx.keptF {w w' : World} {g : Nat} (h : Fx w g) (hk : Keeps (fun _ => False) w w') : Fx w' g := h.kept hk (fun h => h)
theorem Own.fx {w : World} {base : Nat} {v : Value} (h : Own w base v fixL) : ∃ g cap, v = .slice (some ⟨g, 0, none⟩) 288 cap ∧ base ≤ g ∧ Fx w g := by
  obtain ⟨g, cap, rfl, h1, h2, h3, h4⟩ := h.fix
  have h' := h
  unfold Own at h'
  rw [fixL_length] at h'
  exact ⟨g, cap, rfl, h1, h2, fun j hj => ⟨h4 j hj, World.ownsRow.frozenAt h' j⟩⟩
/-- Block g holds n ints. -/
def Ints (w : World) (g n : Nat) : Prop := g < w.heap.size ∧ ∀ j, j < n → (∃ x : Int, w.cell? ⟨g, j, none⟩ = some (.int .i64 x)) ∧ w.frozen? ⟨g, j, none⟩ = false
theorem Fx.ints {w : World} {g : Nat} (h : Fx w g) : Ints w g 288 := ⟨h.1, fun j hj => ⟨⟨_, (h.2 j hj).1⟩, (h.2 j hj).2⟩⟩
theorem Ints.set {w : World} {g n : Nat} (h : Ints w g n) (i : Nat) (hi : i < n) (y : Int) : Ints (w.setCell ⟨g, i, none⟩ (.int .i64 y)) g n := by
  refine ⟨by simpa [World.setCell] using h.1, fun j hj => ⟨?_, by rw [World.frozen?_setCell]; exact (h.2 j hj).2⟩⟩
  by_cases e : j = i
  · subst e
    obtain ⟨x, hx⟩ := (h.2 j hj).1
    exact ⟨y, World.cell?_setCell_same _ _ _ hx⟩
  · obtain ⟨x, hx⟩ := (h.2 j hj).1
    refine ⟨x, ?_⟩
    rw [World.cell?_setCell_other _ _ _ _ (fun h => e (by cases h; rfl))]
    exact hx

set_option maxHeartbeats 4000000 in
set_option maxRecDepth 1000000 in
theorem same_fix (g g' cap cap' : Nat) (w : World) (h : Fx w g) (h' : Fx w g') :
    Calls Try.prog 17 #[.slice (some ⟨g, 0, none⟩) 288 cap, .slice (some ⟨g', 0, none⟩) 288 cap'] w fun e w' => e = .returned (.bool true) ∧ Keeps (fun _ => False) w w' := by
  have HA : Hid (Fx w g) := h
  have HB : Hid (Fx w g') := h'
  clear h h'
  go_enter Try.func17, Try.ntmps17
  go_wp2
  go_loopw [5] (fun s5 w' => ∃ i : Nat, i ≤ 288 ∧ s5 = .int .i64 (i : Int) ∧ Hid (Keeps (fun _ => False) w w')) (fun s5 w' => ((288 : Int) - intOf s5).toNat)
  case atStart => exact ⟨0, by omega, rfl, Keeps.refl _ _⟩
  case round =>
    obtain ⟨i, hi, rfl, HK⟩ := hrel
    by_cases hin : i < 288
    · have hiz : (i : Int) < 288 := by omega
      have c1 := ((HA.out.keptF HK.out).2 i hin).1
      have c2 := ((HB.out.keptF HK.out).2 i hin).1
      generalize fixV i = y at *
      go_wp2
      go_quiet (fail)
      have HK' : Hid (Keeps (fun _ => False) w (wr.drewN nq)) := HK.out.drewN nq
      generalize wr.drewN nq = wn at *
      clear c1 c2 HK
      go_wp2
      go_roundw
      case rel => exact ⟨i + 1, by omega, by push_cast; rfl, HK'⟩
      case measure => simp [intOf]; omega
    · obtain rfl : i = 288 := by omega
      go_wp2
      go_ret
      exact ⟨rfl, HK.out⟩

set_option maxHeartbeats 4000000 in
set_option maxRecDepth 1000000 in
theorem spoil_ok (g cap : Nat) (w : World) (h : Ints w g 288) :
    Calls Try.prog 19 #[.slice (some ⟨g, 0, none⟩) 288 cap] w fun e w' => e = .returned (.tuple #[]) ∧ Keeps (fun k => k = g) w w' := by
  have HW : Hid (Ints w g 288 ∧ Keeps (fun k => k = g) w w) := ⟨h, Keeps.refl _ _⟩
  clear h
  go_enter Try.func19, Try.ntmps19
  go_wp2
  go_loopw [2] (fun s2 w' => ∃ i : Nat, i ≤ 288 ∧ s2 = .int .i64 (i : Int) ∧ Hid (Ints w' g 288 ∧ Keeps (fun k => k = g) w w')) (fun s2 w' => ((288 : Int) - intOf s2).toNat)
  case atStart => exact ⟨0, by omega, rfl, HW⟩
  case round =>
    clear HW
    obtain ⟨i, hi, rfl, HW⟩ := hrel
    by_cases hin : i < 288
    · have hiz : (i : Int) < 288 := by omega
      obtain ⟨⟨y, hc⟩, hz⟩ := HW.out.1.2 i hin
      go_wp2
      go_roundw
      case rel => exact ⟨i + 1, by omega, by push_cast; rfl, HW.out.1.set i hin _, HW.out.2.setCell (fun _ => rfl) _⟩
      case measure => simp [intOf]; omega
    · obtain rfl : i = 288 := by omega
      go_wp2
      go_end0
      exact ⟨rfl, HW.out.2⟩

end Go.Proofs.Ythkbbnghclfhjaa

/-
  Rows of tokens lent and looked at again, and written over.
-/
import Derived.Test.YtgfhpbcibifoeaaSame
namespace Go.Proofs.Ytgfhpbcibifoeaa
open Go.RowKit
set_option linter.unusedVariables false
set_option linter.unusedSimpArgs false

set_option maxHeartbeats 4000000 in
set_option maxRecDepth 1000000 in
theorem keptT_yes (g : Nat) (a' : Option Addr) (ts : List Tk) (cap cap' : Nat) (w : World) (h : LentT w g ts cap) (h' : RowT w a' ts) (hn : ts.length ≤ 1000000000000000) :
    Calls Try.prog 18 #[.slice (some ⟨g, 0, none⟩) ts.length cap, .slice a' ts.length cap'] w fun e w' => e = .returned (.bool true) ∧ Keeps (fun _ => False) w w' := by
  have HS : Hid (Calls Try.prog 13 #[.slice (some ⟨g, 0, none⟩) ts.length cap, .slice a' ts.length cap'] w fun e w' => e = .returned (.bool true) ∧ Keeps (fun _ => False) w w') := sameT_yes _ a' ts cap cap' w h.row h' (by omega)
  have hcz : (ts.length : Int) + 2 ≤ (cap : Int) := by have := h.2.1; omega
  have HM : Hid (∀ w', Keeps (fun _ => False) w w' → TkAt w' g (ts.length * 3) (77777, 0, 0) ∧ TkAt w' g ((ts.length + 1) * 3) (77777, 0, 0)) := fun w' hk => by
    have hl := h.kept hk (fun h => h)
    have e1 := hl.2.2 ts.length (by omega)
    have e2 := hl.2.2 (ts.length + 1) (by omega)
    have a0 := tk_right ts marks 0
    have a1 := tk_right ts marks 1
    rw [Nat.add_zero] at a0
    rw [a0] at e1
    rw [a1] at e2
    exact ⟨e1, e2⟩
  generalize ts.length = n at *
  clear h h'
  go_enter Try.func18, Try.ntmps18
  go_wp2_with (first
    | (go_at_call 13; refine HS.out.mono ?_; rintro e w1 ⟨rfl, hK1⟩; obtain ⟨m1, m2⟩ := HM.out w1 hK1; have HK1 : Hid (Keeps (fun _ => False) w w1) := hK1; clear hK1)
    | (refine wpList_load3w _ rfl g (n * 3) rfl rfl (77777, 0, 0) ?hA ?_; (case hA => assumption))
    | (refine wpList_load3w _ rfl g ((n + 1) * 3) rfl rfl (77777, 0, 0) ?hA ?_; (case hA => assumption)))
  go_ret
  exact ⟨rfl, HK1.out⟩

set_option maxHeartbeats 4000000 in
set_option maxRecDepth 1000000 in
theorem spoilT_none (cap : Nat) (w : World) : Calls Try.prog 17 #[.slice none 0 cap] w fun e w' => e = .returned (.tuple #[]) ∧ w' = w := by
  go_enter Try.func17, Try.ntmps17
  go_wp2
  go_loopw [2] (fun s2 w' => s2 = .int .i64 0 ∧ w' = w) (fun s2 w' => 0)
  case atStart => exact ⟨rfl, rfl⟩
  case round =>
    obtain ⟨rfl, rfl⟩ := hrel
    go_wp2
    go_end0
    exact ⟨rfl, rfl⟩

/-- A block with numbers at every third place. -/
def Thirds (w : World) (g n : Nat) : Prop := ∃ cs, w.heap[g]? = some (.cells cs 40 (0, 0)) ∧ ∀ j, j < n → ∃ x : Int, cs[j * 3]? = some (.int .i64 x)
theorem Thirds.set {w : World} {g n : Nat} (h : Thirds w g n) (i : Nat) (x : Int) : Thirds (w.setCell ⟨g, i * 3, none⟩ (.int .i64 x)) g n := by
  obtain ⟨cs, h1, h2⟩ := h
  refine ⟨_, heap_setCell_same h1 _, fun j hj => ?_⟩
  obtain ⟨y, hy⟩ := h2 j hj
  rw [Array.getElem?_setIfInBounds]
  by_cases e : i * 3 = j * 3
  · have : j * 3 < cs.size := (Array.getElem?_eq_some_iff.1 hy).1
    rw [if_pos e, if_pos (by omega)]; exact ⟨x, rfl⟩
  · rw [if_neg e]; exact ⟨y, hy⟩

set_option maxHeartbeats 4000000 in
set_option maxRecDepth 1000000 in
theorem spoilT_some (g n cap : Nat) (w : World) (h : Thirds w g n) (hn : n ≤ 1000000) :
    Calls Try.prog 17 #[.slice (some ⟨g, 0, none⟩) n cap] w fun e w' => e = .returned (.tuple #[]) ∧ Keeps (fun k => k = g) w w' := by
  have HW : Hid (Thirds w g n ∧ Keeps (fun k => k = g) w w) := ⟨h, Keeps.refl _ _⟩
  clear h
  go_enter Try.func17, Try.ntmps17
  go_wp2
  go_loopw [2] (fun s2 w' => ∃ i : Nat, i ≤ n ∧ s2 = .int .i64 (i : Int) ∧ Hid (Thirds w' g n ∧ Keeps (fun k => k = g) w w')) (fun s2 w' => ((n : Int) - intOf s2).toNat)
  case atStart => exact ⟨0, by omega, rfl, HW⟩
  case round =>
    clear HW
    obtain ⟨i, hi, rfl, HW⟩ := hrel
    by_cases hin : i < n
    · have hiz : (i : Int) < (n : Int) := by omega
      obtain ⟨y, hc, hf⟩ : ∃ y : Int, wr.cell? ⟨g, i * 3, none⟩ = some (.int .i64 y) ∧ wr.frozen? ⟨g, i * 3, none⟩ = false := by
        obtain ⟨cs, h1, h2⟩ := HW.out.1
        obtain ⟨y, hy⟩ := h2 i hin
        exact ⟨y, cell_of_heap h1 hy, frozen_of_heap h1⟩
      go_wp2
      go_roundw
      case rel => exact ⟨i + 1, by omega, by push_cast; rfl, HW.out.1.set i _, HW.out.2.setCell (fun _ => rfl) _⟩
      case measure => simp [intOf]; omega
    · obtain rfl : i = n := by omega
      go_wp2
      go_end0
      exact ⟨rfl, HW.out.2⟩

theorem spoilT_ok (base : Nat) (v : Value) (ts : List Tk) (w : World) (h : OwnK w base v ts) (hn : ts.length ≤ 1000000) :
    Calls Try.prog 17 #[v] w fun e w' => e = .returned (.tuple #[]) ∧ Keeps (fun k => base ≤ k) w w' := by
  rcases h.2 with ⟨rfl, h0⟩ | ⟨g, cap, cur, rfl, hb, h1, h2, h3, h4, h5⟩
  · refine (spoilT_none 0 w).mono ?_
    rintro e w' ⟨rfl, rfl⟩
    exact ⟨rfl, Keeps.refl _ _⟩
  · refine (spoilT_some g ts.length cap w ⟨cur, h1, fun j hj => ?_⟩ hn).mono ?_
    · have := (tkVs_get ts j hj).1
      rw [← h5, List.getElem?_take, if_pos (by omega)] at this
      exact ⟨_, by simpa using this⟩
    · rintro e w' ⟨rfl, hk⟩
      exact ⟨rfl, hk.mono (fun i _ e => by omega)⟩

/-- The tokens of a text of few bytes, told by one number of them. -/
theorem toks_of (s : ByteArray) (K0 : Nat) (h : step (bytesOf s) K0 = s.size) {K : Nat} (hK : step (bytesOf s) K = s.size) : K = K0 := step_uniq (bytesOf s) K K0 (by rw [bytesOf_length]; exact hK) (by rw [bytesOf_length]; exact h)

end Go.Proofs.Ytgfhpbcibifoeaa

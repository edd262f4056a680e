/-
  The table 'row' as the card's condition lays it.
-/
import Derived.Test.YtbapanbgfmaolaaDoorAwake
import Derived.ProofKit
import Derived.LaidMore
import Derived.OpenShut
import Derived.Stop.Joined
namespace Go.Proofs.YtbapanbgfmaolaaDoor
open Go.ChangeShapes Go.WideShapes Go.ChangeAt Go.WideElems Go.RowKit
set_option linter.unusedVariables false

def laidRow : List (String × DataW Unit) := [("portage/inflate.row", Rows.laid_portage_inflate_row)]
theorem gRow7 : Tryd.prog.globalNamed "portage/inflate.row" = some 0 := by kernel_rfl
theorem tRow7 : (Tryd.prog.globals[0]?).map (·.type) = some 156 := by kernel_rfl
theorem cells3 : Tryd.prog.cellsOf 3 = 1 := by kernel_rfl
theorem cells156 : Tryd.prog.cellsOf 156 = 19 := by kernel_rfl

set_option maxRecDepth 100000 in
theorem row_of_laid {W : World} (h : laidMetH Tryd.prog laidRow W) : GRow W := by
  rw [MakeChecks.laidMetH_plain _ _ _ (by kernel_rfl)] at h
  obtain ⟨ps, ⟨g0, t0, cs0, f0, p0, q0, hg0, ht0, hv0, hd0, _, _⟩, _, _⟩ := h
  obtain rfl := Option.some.inj (gRow7.symm.trans hg0)
  obtain rfl := Option.some.inj (tRow7.symm.trans ht0)
  obtain ⟨xs, m1, rfl, hx1, hlen, hn, hel⟩ := DataW.trod_array Tryd.underlying156 hd0
  rw [cells156] at hlen
  intro i hi
  have hi1 := hel i hi
  rw [cells3] at hi1
  rw [List.getElem?_eq_getElem (show i < xs.length by omega)] at hi1
  obtain ⟨k, e1, e2, _⟩ := DataW.trod_int Tryd.underlying3 hi1
  have hc := World.var?_cell hg0 hv0 i
  have hcs : cs0[i]? = some (.int .i64 k) := by
    have : (cs0.toList.drop (i * 1)).take 1 = [.int .i64 k] := e1
    have h2 : ((cs0.toList.drop (i * 1)).take 1)[0]? = some (.int .i64 k) := by rw [this]; rfl
    rw [List.getElem?_take, if_pos (by omega), List.getElem?_drop, Nat.mul_one, Nat.add_zero] at h2
    simpa using h2
  rw [hc, hcs]
  have hk : k = ((rowL.getD i 0 : Nat) : Int) := by
    simp only [Prod.mk.injEq] at hx1
    have h3 : (xs.map (·.1))[i]? = some (.lit (.int .i64 k)) := by rw [List.getElem?_map, List.getElem?_eq_getElem (show i < xs.length by omega), e2]; rfl
    have h4 : xs.map (·.1) = [.lit (.int .i64 16), .lit (.int .i64 17), .lit (.int .i64 18), .lit (.int .i64 0), .lit (.int .i64 8), .lit (.int .i64 7), .lit (.int .i64 9), .lit (.int .i64 6), .lit (.int .i64 10), .lit (.int .i64 5), .lit (.int .i64 11), .lit (.int .i64 4), .lit (.int .i64 12), .lit (.int .i64 3), .lit (.int .i64 13), .lit (.int .i64 2), .lit (.int .i64 14), .lit (.int .i64 1), .lit (.int .i64 15)] := by
      have := hx1.1
      unfold Rows.laid_portage_inflate_row at this
      exact (DataW.agg.inj this).symm
    rw [h4] at h3
    match i, hi with
    | 0, _ | 1, _ | 2, _ | 3, _ | 4, _ | 5, _ | 6, _ | 7, _ | 8, _ | 9, _ | 10, _ | 11, _ | 12, _ | 13, _ | 14, _ | 15, _ | 16, _ | 17, _ | 18, _ =>
      simp at h3
      rw [← h3]; rfl
  rw [hk]

/-- The door's own heap meets the condition. -/
theorem door7 (os : Os) (args : Array Value) : laidMetH Tryd.prog laidRow ((World.doorLaid Tryd.prog 400 os).forCall (fun _ _ => 0) ⟨#[], args, []⟩).memory :=
  laidMetH_of_parts3 (fuel := 8) (laidMet_of_run' 8 (by kernel_rfl) (by kernel_rfl)) (by kernel_rfl) (by kernel_rfl)

end Go.Proofs.YtbapanbgfmaolaaDoor

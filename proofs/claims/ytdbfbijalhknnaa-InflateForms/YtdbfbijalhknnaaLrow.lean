/-
  Arrays of nineteen numbers in a block of their own, and the calls of package layout: Row and FixedDists.
-/
import Derived.Test.YtdbfbijalhknnaaHArr
import Derived.Test.YtdbfbijalhknnaaTFix
import Derived.Test.YtdbfbijalhknnaaInfl
namespace Go.Proofs.Ytdbfbijalhknnaa
open Go.RowKit
open Hf Tb
set_option linter.unusedVariables false
set_option linter.unusedSimpArgs false

/-- Block b, of type T, is these numbers. -/
def Ary (T : TypeId) (w : World) (b : Nat) (xs : List Int) : Prop := w.heap[b]? = some (.cells (intsV xs).toArray T (0, 0))
theorem intsV_get (xs : List Int) (j : Nat) (hj : j < xs.length) : (intsV xs)[j]? = some (.int .i64 xs[j]) := by
  rw [intsV, List.getElem?_map, List.getElem?_eq_getElem hj]; rfl
theorem Ary.lt {T : TypeId} {w : World} {b : Nat} {xs : List Int} (h : Ary T w b xs) : b < w.heap.size := lt_of_heap h
theorem Ary.kept {T : TypeId} {S : Nat → Prop} {w w' : World} {b : Nat} {xs : List Int} (h : Ary T w b xs) (hk : Keeps S w w') (hb : ¬ S b) : Ary T w' b xs := (hk.block b h.lt hb).trans h
theorem Ary.keptF {T : TypeId} {w w' : World} {b : Nat} {xs : List Int} (h : Ary T w b xs) (hk : Keeps (fun _ => False) w w') : Ary T w' b xs := h.kept hk (fun h => h)
theorem Ary.cell {T : TypeId} {w : World} {b : Nat} {xs : List Int} (h : Ary T w b xs) (j : Nat) (hj : j < xs.length) : w.cell? ⟨b, j, none⟩ = some (.int .i64 xs[j]) :=
  cell_of_heap h (by rw [List.getElem?_toArray]; exact intsV_get xs j hj)
theorem Ary.free {T : TypeId} {w : World} {b : Nat} {xs : List Int} (h : Ary T w b xs) (j : Nat) : w.frozen? ⟨b, j, none⟩ = false := frozen_of_heap h
theorem Ary.new (T : TypeId) (w : World) (xs : List Int) : Ary T (w.alloc (.cells (intsV xs).toArray T)) w.heap.size xs := heap_alloc_new _ _
theorem Ary.set {T : TypeId} {w : World} {b : Nat} {xs : List Int} (h : Ary T w b xs) (i : Nat) (y : Int) : Ary T (w.setCell ⟨b, i, none⟩ (.int .i64 y)) b (xs.set i y) := by
  unfold Ary
  rw [heap_setCell_same h]
  congr 2
  simp [intsV, List.map_set]
theorem Ary.range {T : TypeId} {w : World} {b : Nat} {xs : List Int} (h : Ary T w b xs) : w.rangeAt b 0 (intsV xs) := fun j v hv => by
  rw [Nat.zero_add]; exact cell_of_heap h (by rw [List.getElem?_toArray]; exact hv)
theorem Ary.there {T : TypeId} {w : World} {b : Nat} {xs : List Int} (h : Ary T w b xs) : w.there b 0 xs.length := fun j hj => by
  rw [Nat.zero_add, h.cell j hj]; exact ⟨rfl, h.free j⟩
theorem intsV_all (xs : List Int) : (intsV xs).toArray.all (·.oneCell') = true := all_oneCell_toArray (intsV_one xs)
theorem Ary.put {T : TypeId} {w : World} {b : Nat} {xs : List Int} (h : Ary T w b xs) (ys : List Int) (hl : ys.length = xs.length) : Ary T (w.setCells b 0 (intsV ys)) b ys := by
  obtain ⟨cs', h1, h2, h3, h4⟩ := setCells_row b T (intsV ys) 0 w _ h
  unfold Ary
  rw [h1]
  congr 2
  apply Array.ext_getElem?
  intro i
  have hs : cs'.size = ys.length := by rw [h2, List.size_toArray, intsV_length, hl]
  by_cases hi : i < ys.length
  · have := h4 i (by rw [intsV_length]; exact hi) (by rw [List.size_toArray, intsV_length]; omega)
    rw [Nat.zero_add] at this
    rw [this, List.getElem?_toArray]
  · rw [Array.getElem?_eq_none (by omega), List.getElem?_toArray, List.getElem?_eq_none (by rw [intsV_length]; omega)]

abbrev T19 : TypeId := 150
theorem size19 : (Try.prog.info? 150).map (·.size) = some 19 := by kernel_rfl
theorem zero19 : (zeroValue 150).run Try.prog = fun w => .ok (.agg (intsV (List.replicate 19 0)).toArray) w := by
  funext w; rw [Try.zeroValue150]; rfl
theorem wpList_alloc19 {ops : Array Oper} {rest : List Oper} {op : Oper} {a : Act} {w : World} {Q : Exit → Act → World → Prop} (hgd : op.guard = none) (ho : op.op = .alloc 150)
    (h : ∀ b w1, Ary 150 w1 b (List.replicate 19 0) → Keeps (fun _ => False) w w1 → w.heap.size ≤ b → wpList Try.prog ops Q rest (a.put op.dst (.pointer (some ⟨b, 0, none⟩))) w1) : wpList Try.prog ops Q (op :: rest) a w :=
  wpList_plain hgd fun _ hK => by
    unfold Oper.wp execOp
    have hz := congrFun zero19 w
    simp only [ho, Instr.alloc, Sem.run_bind, hz, Result.andThen_ok]
    simp only [newVar, Sem.run_bind, Sem.run_pure, Result.andThen_ok]
    exact hK _ _ (h w.heap.size _ (Ary.new _ w _) ((Keeps.refl _ w).alloc _) (Nat.le_refl _))
theorem wpList_store19 {ops : Array Oper} {rest : List Oper} {op : Oper} {a : Act} {w : World} {Q : Exit → Act → World → Prop} (hgd : op.guard = none) (x y : Operand) (ho : op.op = .store 150 x y) (b : Nat) (ys : List Int) (hy0 : ys.length = 19) (hx : a.eval x = .pointer (some ⟨b, 0, none⟩)) (hy : a.eval y = .agg (intsV ys).toArray) (xs : List Int) (hl : xs.length = 19) (hA : Ary 150 w b xs)
    (h : ∀ w1, Ary 150 w1 b ys → Keeps (fun k => k = b) w w1 → wpList Try.prog ops Q rest (a.put op.dst undef) w1) : wpList Try.prog ops Q (op :: rest) a w :=
  wpList_store_mid hgd 150 x y ho b 0 (intsV ys).toArray hx hy (by have := hA.there; rw [hl] at this; rw [List.size_toArray, intsV_length, hy0]; exact this) (by rw [List.size_toArray, intsV_length, hy0]; exact size19) (intsV_all ys)
    (h _ (hA.put ys (by omega)) (Hf.keeps_setCells (S := fun k => k = b) b (fun _ => rfl) _ _ _ (Keeps.refl _ w)))
theorem Ary.loadVar19 {w : World} {b : Nat} {xs : List Int} (h : Ary 150 w b xs) (hl : xs.length = 19) : (loadVar 150 ⟨b, 0, none⟩).run Try.prog w = .ok (.agg (intsV xs).toArray) w :=
  run_loadVar_mid w b 0 150 (intsV xs) _ h.range Try.underlying150 rfl (by rw [intsV_length, hl]; exact size19)
def rowZ : List Int := [16, 17, 18, 0, 8, 7, 9, 6, 10, 5, 11, 4, 12, 3, 13, 2, 14, 1, 15]
theorem rowZ_get : ∀ i : Fin 19, rowZ[i.val]? = some ((rowL.getD i.val 0 : Nat) : Int) := by decide +kernel

set_option maxHeartbeats 1000000 in
set_option maxRecDepth 100000 in
theorem row_ok (w : World) : Calls Try.prog 93 #[] w fun e w' => e = .returned (.agg (intsV rowZ).toArray) ∧ Keeps (fun _ => False) w w' := by
  go_enter Try.func93, Try.ntmps93
  go_wp2_with (first
    | (refine wpList_alloc19 rfl rfl ?_; intro b1 w1 hA1 hK1 hb1)
    | (refine wpList_store19 rfl _ _ rfl b1 rowZ rfl rfl rfl (List.replicate 19 0) (by decide) ?hA ?_; (case hA => assumption); intro w2 hA2 hK2))
  (try simp only [Exit.inBlock, Exit.then])
  refine bodyPost_ret (v := .agg (intsV rowZ).toArray) ?_ rfl ⟨rfl, ?_⟩
  · rw [results_cell rfl]
    exact hA2.loadVar19 rfl
  · exact hK1.trans hK2 (fun _ h e => by omega)

set_option maxHeartbeats 1000000 in
set_option maxRecDepth 100000 in
theorem fixedDists_ok (w : World) : Calls Try.prog 72 #[] w fun e w' => ∃ g, e = .returned (.slice (some ⟨g, 0, none⟩) 30 30) ∧ Keeps (fun _ => False) w w' ∧ w.heap.size ≤ g ∧ Blk w' g (List.replicate 30 5) := by
  go_enter Try.func72, Try.ntmps72
  go_wp2_with (refine wpList_zeros rfl _ _ rfl 30 rfl rfl (by omega) ?_; intro g w1 hB1 hK1 hg1)
  have H1 : Hid (Blk w1 g (fil 5 0 30) ∧ Keeps (fun _ => False) w w1 ∧ w.heap.size ≤ g) := ⟨by rw [fil_zero]; exact hB1, hK1, hg1⟩
  clear hB1 hK1 hg1
  go_loopw [6] (fun s6 w' => ∃ i : Nat, i ≤ 30 ∧ s6 = .int .i64 (i : Int) ∧ Hid (Blk w' g (fil 5 i 30) ∧ Keeps (fun _ => False) w w' ∧ w.heap.size ≤ g)) (fun s6 _ => ((30 : Int) - intOf s6).toNat)
  case atStart => exact ⟨0, by omega, rfl, H1⟩
  case round =>
    clear H1
    obtain ⟨i, hi, rfl, HW⟩ := hrel
    by_cases hic : i < 30
    · have hiz : (i : Int) < 30 := by omega
      have hfl : (fil 5 i 30).length = 30 := fil_length 5 i 30 hi
      have hc := HW.out.1.cell i (by omega)
      have hf := HW.out.1.free i
      have HW2 : Hid (Blk (wr.setCell ⟨g, i, none⟩ (.int .i64 5)) g (fil 5 (i + 1) 30) ∧ Keeps (fun _ => False) w (wr.setCell ⟨g, i, none⟩ (.int .i64 5)) ∧ w.heap.size ≤ g) := by
        obtain ⟨h1, h2, h3⟩ := HW.out
        refine ⟨?_, h2.setCell (p := ⟨g, i, none⟩) (fun hh => by simp only at hh; omega) _, h3⟩
        have : (fil 5 i 30).set i 5 = fil 5 (i + 1) 30 := by
          unfold fil
          rw [List.set_append_right _ _ (by simp), List.length_replicate, Nat.sub_self, show 30 - i = (30 - (i + 1)) + 1 by omega, List.replicate_succ, List.set_cons_zero, List.replicate_succ']
          simp
        rw [← this]
        unfold Blk
        rw [heap_setCell_same h1]
        congr 2
        simp [intsV, List.map_set]
      clear HW
      go_wp2
      go_roundw
      case rel => exact ⟨i + 1, by omega, by push_cast; rfl, HW2⟩
      case measure => simp [intOf]; omega
    · obtain rfl : i = 30 := by omega
      go_wp2
      go_ret
      exact ⟨g, rfl, HW.out.2.1, HW.out.2.2, by rw [← fil_all]; exact HW.out.1⟩

end Go.Proofs.Ytdbfbijalhknnaa

/-
  Arrays of sixteen numbers in a block of their own, and rows of numbers that a slice shows.
-/
import Derived.Test.YtdbfbijalhknnaaRows
import Derived.Test.YtdbfbijalhknnaaHKraft
import Derived.WalkKit
import Derived.WalkSpells
import Derived.WalkLawsBesides
import Derived.Deep.MidRow
import Derived.Laws.ResultCell
namespace Go.Proofs.Ytdbfbijalhknnaa.Hf
open Go.RowKit
set_option linter.unusedVariables false
set_option linter.unusedSimpArgs false

def arrL (f : Nat → Nat) : List Value := (List.range 16).map (fun i => .int .i64 (f i : Int))
def upd (f : Nat → Nat) (n v : Nat) : Nat → Nat := fun i => if i = n then v else f i
theorem arrL_length (f : Nat → Nat) : (arrL f).length = 16 := by simp [arrL]
theorem arrL_get (f : Nat → Nat) (i : Nat) (h : i < 16) : (arrL f)[i]? = some (.int .i64 (f i : Int)) := by
  simp [arrL, List.getElem?_range h]
theorem arrL_congr {f g : Nat → Nat} (h : ∀ i, i < 16 → f i = g i) : arrL f = arrL g := by
  unfold arrL
  exact List.map_congr_left (fun i hi => by rw [h i (by simpa using hi)])
theorem arrL_one (f : Nat → Nat) : (arrL f).toArray.all (·.oneCell') = true :=
  all_oneCell_toArray (fun v hv => by
    simp only [arrL, List.mem_map] at hv
    obtain ⟨i, _, rfl⟩ := hv
    rfl)

/-- Block b is an array that holds f. -/
def Arr (w : World) (b : Nat) (f : Nat → Nat) : Prop := w.heap[b]? = some (.cells (arrL f).toArray 155 (0, 0))
theorem Arr.lt {w : World} {b : Nat} {f : Nat → Nat} (h : Arr w b f) : b < w.heap.size := lt_of_heap h
theorem Arr.cell {w : World} {b : Nat} {f : Nat → Nat} (h : Arr w b f) (i : Nat) (hi : i < 16) : w.cell? ⟨b, i, none⟩ = some (.int .i64 (f i : Int)) :=
  cell_of_heap h (by rw [List.getElem?_toArray]; exact arrL_get f i hi)
theorem Arr.free {w : World} {b : Nat} {f : Nat → Nat} (h : Arr w b f) (i : Nat) : w.frozen? ⟨b, i, none⟩ = false := frozen_of_heap h
theorem Arr.congr {w : World} {b : Nat} {f g : Nat → Nat} (h : Arr w b f) (e : ∀ i, i < 16 → f i = g i) : Arr w b g := by unfold Arr at *; rw [← arrL_congr e]; exact h
theorem Arr.set {w : World} {b : Nat} {f : Nat → Nat} (h : Arr w b f) (n v : Nat) (hn : n < 16) : Arr (w.setCell ⟨b, n, none⟩ (.int .i64 (v : Int))) b (upd f n v) := by
  unfold Arr
  rw [heap_setCell_same h]
  congr 2
  apply Array.ext_getElem?
  intro i
  rw [Array.getElem?_setIfInBounds]
  by_cases hi : i < 16
  · rw [List.getElem?_toArray, List.getElem?_toArray, arrL_get _ i hi, arrL_get _ i hi]
    simp only [List.size_toArray, arrL_length, hn, upd]
    by_cases e : n = i
    · subst e; simp
    · rw [if_neg e, if_neg (fun k => e k.symm)]
  · rw [if_neg (by omega), List.getElem?_toArray, List.getElem?_toArray, List.getElem?_eq_none (by rw [arrL_length]; omega), List.getElem?_eq_none (by rw [arrL_length]; omega)]
theorem Arr.kept {S : Nat → Prop} {w w' : World} {b : Nat} {f : Nat → Nat} (h : Arr w b f) (hk : Keeps S w w') (hb : ¬ S b) : Arr w' b f := (hk.block b h.lt hb).trans h
theorem Arr.range {w : World} {b : Nat} {f : Nat → Nat} (h : Arr w b f) : w.rangeAt b 0 (arrL f) := fun j v hv => by
  rw [Nat.zero_add]; exact cell_of_heap h (by rw [List.getElem?_toArray]; exact hv)
theorem Arr.there {w : World} {b : Nat} {f : Nat → Nat} (h : Arr w b f) : w.there b 0 16 := fun j hj => by
  rw [Nat.zero_add, h.cell j hj]; exact ⟨rfl, h.free j⟩
theorem size51 : (Try.prog.info? 155).map (·.size) = some 16 := by kernel_rfl
theorem Arr.loadVar {w : World} {b : Nat} {f : Nat → Nat} (h : Arr w b f) : (loadVar 155 ⟨b, 0, none⟩).run Try.prog w = .ok (.agg (arrL f).toArray) w :=
  run_loadVar_mid w b 0 155 (arrL f) _ h.range Try.underlying155 rfl (by rw [arrL_length]; exact size51)
theorem Arr.loadAt {w : World} {b : Nat} {f : Nat → Nat} (h : Arr w b f) : (Instr.loadAt 155 (.pointer (some ⟨b, 0, none⟩))).run Try.prog w = .ok (.agg (arrL f).toArray) w :=
  run_loadAt_mid w b 0 155 (arrL f) _ h.range Try.underlying155 rfl (by rw [arrL_length]; exact size51)
/-- A whole array into a block. -/
def put16 (w : World) (b : Nat) (g : Nat → Nat) : World := w.setCells b 0 (arrL g)
theorem Arr.storeAt {w : World} {b : Nat} {f : Nat → Nat} (h : Arr w b f) (g : Nat → Nat) : (Instr.storeAt 155 (.pointer (some ⟨b, 0, none⟩)) (.agg (arrL g).toArray)).run Try.prog w = .ok () (put16 w b g) := by
  have := run_storeAt_mid (P := Try.prog) w b 0 155 (arrL g).toArray (by simpa [arrL_length] using h.there) (by simpa [arrL_length] using size51) (arrL_one g)
  simpa [put16] using this
theorem keeps_setCells {S : Nat → Prop} {a : World} (b : Nat) (hb : b < a.heap.size → S b) : ∀ (vs : List Value) (o : Nat) (w : World), Keeps S a w → Keeps S a (w.setCells b o vs)
  | [], _, _, h => h
  | v :: r, o, w, h => by rw [World.setCells]; exact keeps_setCells b hb r (o + 1) _ (h.setCell hb v)
theorem put16_keeps {S : Nat → Prop} {a w : World} (h : Keeps S a w) (b : Nat) (hb : b < a.heap.size → S b) (g : Nat → Nat) : Keeps S a (put16 w b g) := keeps_setCells b hb _ _ _ h

/-- What is known of a slice of ints. -/
def Row (w : World) (a : Option Addr) (ys : List Int) : Prop :=
  ys = [] ∨ ∃ b off, a = some ⟨b, off, none⟩ ∧ b < w.heap.size ∧ ∀ i (h : i < ys.length), w.cell? ⟨b, off + i, none⟩ = some (.int .i64 ys[i])
theorem Row.kept {S : Nat → Prop} {w w' : World} {a : Option Addr} {ys : List Int} (h : Row w a ys) (hk : Keeps S w w') (hb : ∀ x, a = some x → ¬ S x.block) : Row w' a ys := by
  rcases h with h | ⟨b, off, rfl, h1, h2⟩
  · exact .inl h
  · refine .inr ⟨b, off, rfl, Nat.lt_of_lt_of_le h1 hk.size, fun i hi => ?_⟩
    rw [World.cell?_of_block (hk.block b h1 (hb _ rfl))]; exact h2 i hi
theorem Row.keptF {w w' : World} {a : Option Addr} {ys : List Int} (h : Row w a ys) (hk : Keeps (fun _ => False) w w') : Row w' a ys := h.kept hk (fun _ _ h => h)
theorem Row.spot {w : World} {a : Option Addr} {ys : List Int} (h : Row w a ys) (hn : 0 < ys.length) :
    ∃ b off, a = some ⟨b, off, none⟩ ∧ b < w.heap.size ∧ ∀ i (h : i < ys.length), w.cell? ⟨b, off + i, none⟩ = some (.int .i64 ys[i]) := by
  rcases h with h | h
  · subst h; simp at hn
  · exact h

/-! ### The operations on whole arrays, as a walk meets them -/
theorem zero16 : (zeroValue 155).run Try.prog = fun w => .ok (.agg (arrL (fun _ => 0)).toArray) w := by
  funext w; rw [Try.zeroValue155]; rfl
theorem Arr.alloc (w : World) (f : Nat → Nat) : Arr (w.alloc (.cells (arrL f).toArray 155)) w.heap.size f := heap_alloc_new _ _

theorem wpList_alloc16 {ops : Array Oper} {rest : List Oper} {op : Oper} {a : Act} {w : World} {Q : Exit → Act → World → Prop} (hgd : op.guard = none) (ho : op.op = .alloc 155)
    (h : ∀ b w1, Arr w1 b (fun _ => 0) → Keeps (fun _ => False) w w1 → w.heap.size ≤ b → wpList Try.prog ops Q rest (a.put op.dst (.pointer (some ⟨b, 0, none⟩))) w1) : wpList Try.prog ops Q (op :: rest) a w :=
  wpList_plain hgd fun _ hK => by
    unfold Oper.wp execOp
    have hz := congrFun zero16 w
    simp only [ho, Instr.alloc, Sem.run_bind, hz, Result.andThen_ok]
    simp only [newVar, Sem.run_bind, Sem.run_pure, Result.andThen_ok]
    exact hK _ _ (h w.heap.size _ (Arr.alloc w _) ((Keeps.refl _ w).alloc _) (Nat.le_refl _))
theorem wpList_box16 {ops : Array Oper} {rest : List Oper} {op : Oper} {a : Act} {w : World} {Q : Exit → Act → World → Prop} (hgd : op.guard = none) (x : Operand) (ho : op.op = .box 155 x) (f : Nat → Nat) (hx : a.eval x = .agg (arrL f).toArray)
    (h : ∀ b w1, Arr w1 b f → Keeps (fun _ => False) w w1 → w.heap.size ≤ b → wpList Try.prog ops Q rest (a.put op.dst (.pointer (some ⟨b, 0, none⟩))) w1) : wpList Try.prog ops Q (op :: rest) a w :=
  wpList_plain hgd fun _ hK => by
    unfold Oper.wp execOp
    simp only [ho, hx, Instr.box, Sem.run_bind, newVar, Sem.run_pure, Result.andThen_ok]
    exact hK _ _ (h w.heap.size _ (Arr.alloc w _) ((Keeps.refl _ w).alloc _) (Nat.le_refl _))
theorem wpList_load16 {ops : Array Oper} {rest : List Oper} {op : Oper} {a : Act} {w : World} {Q : Exit → Act → World → Prop} (hgd : op.guard = none) (x : Operand) (ho : op.op = .load 155 x) (b : Nat) (hx : a.eval x = .pointer (some ⟨b, 0, none⟩)) (f : Nat → Nat) (hA : Arr w b f)
    (h : wpList Try.prog ops Q rest (a.put op.dst (.agg (arrL f).toArray)) w) : wpList Try.prog ops Q (op :: rest) a w :=
  wpList_load_mid hgd 155 x ho b 0 hx (arrL f) _ hA.range Try.underlying155 rfl (by rw [arrL_length]; exact size51) h
/-- The same where a guard stands ahead of it and lets it by. -/
theorem wpList_load16w {ops : Array Oper} {rest : List Oper} {op : Oper} {a : Act} {w : World} {Q : Exit → Act → World → Prop} (x : Operand) (ho : op.op = .load 155 x) (b : Nat) (hx : a.eval x = .pointer (some ⟨b, 0, none⟩)) (hw : Region.wanted op (yielded ops a.tmps) = true) (f : Nat → Nat) (hA : Arr w b f)
    (h : wpList Try.prog ops Q rest (a.put op.dst (.agg (arrL f).toArray)) w) : wpList Try.prog ops Q (op :: rest) a w :=
  wpList_step fun K hK => by
    rw [if_pos hw]
    exact wp_load_mid 155 x ho b 0 hx (arrL f) _ hA.range Try.underlying155 rfl (by rw [arrL_length]; exact size51) (hK _ _ h)
theorem setCells_row (b : Nat) (t : TypeId) : ∀ (vs : List Value) (o : Nat) (w : World) (cs : Array Value), w.heap[b]? = some (.cells cs t (0, 0)) → ∃ cs', (w.setCells b o vs).heap[b]? = some (.cells cs' t (0, 0)) ∧ cs'.size = cs.size ∧ (∀ i, i < o → cs'[i]? = cs[i]?) ∧ ∀ i, i < vs.length → o + i < cs.size → cs'[o + i]? = vs[i]? := by
  intro vs
  induction vs with
  | nil => intro o w cs hc; exact ⟨cs, hc, rfl, fun _ _ => rfl, fun i hi => by simp at hi⟩
  | cons v r ih =>
    intro o w cs hc
    obtain ⟨cs', h1, h2, h3, h4⟩ := ih (o + 1) (w.setCell ⟨b, o, none⟩ v) _ (heap_setCell_same hc v)
    refine ⟨cs', by rw [World.setCells]; exact h1, by rw [h2]; simp, fun i hi => ?_, fun i hi hlt => ?_⟩
    · rw [h3 i (by omega), Array.getElem?_setIfInBounds, if_neg (by omega)]
    · cases i with
      | zero => rw [Nat.add_zero, h3 o (by omega), Array.getElem?_setIfInBounds]; simp; omega
      | succ i =>
        have := h4 i (by simpa using hi) (by simp; omega)
        rw [show o + (i + 1) = o + 1 + i by omega, this]; simp
theorem arr_ext (g : Nat → Nat) (cs : Array Value) (hz : cs.size = 16) (h : ∀ i, i < 16 → cs[i]? = (arrL g)[i]?) : cs = (arrL g).toArray := by
  apply Array.ext_getElem?
  intro i
  by_cases hi : i < 16
  · rw [h i hi, List.getElem?_toArray]
  · rw [Array.getElem?_eq_none (by omega), List.getElem?_toArray, List.getElem?_eq_none (by rw [arrL_length]; omega)]
theorem Arr.put {w : World} {b : Nat} {f : Nat → Nat} (h : Arr w b f) (g : Nat → Nat) : Arr (put16 w b g) b g := by
  have key := setCells_row b 155 (arrL g) 0 w _ h
  obtain ⟨cs', h1, h2, h3, h4⟩ := key
  have hl := arrL_length f
  have hg := arrL_length g
  generalize hA : arrL f = A at *
  generalize hB : arrL g = B at *
  have hz : cs'.size = 16 := by rw [h2, List.size_toArray, hl]
  have e : cs' = B.toArray := by
    rw [← hB]; refine arr_ext g cs' hz (fun i hi => ?_)
    have := h4 i (by omega) (by rw [List.size_toArray, hl]; omega)
    rw [Nat.zero_add] at this
    rw [this, hB]
  unfold Arr put16
  rw [hB, h1, e]
theorem wpList_store16 {ops : Array Oper} {rest : List Oper} {op : Oper} {a : Act} {w : World} {Q : Exit → Act → World → Prop} (hgd : op.guard = none) (x y : Operand) (ho : op.op = .store 155 x y) (b : Nat) (g : Nat → Nat) (hx : a.eval x = .pointer (some ⟨b, 0, none⟩)) (hy : a.eval y = .agg (arrL g).toArray) (f : Nat → Nat) (hA : Arr w b f)
    (h : ∀ w1, Arr w1 b g → Keeps (fun k => k = b) w w1 → wpList Try.prog ops Q rest (a.put op.dst undef) w1) : wpList Try.prog ops Q (op :: rest) a w :=
  wpList_store_mid hgd 155 x y ho b 0 (arrL g).toArray hx hy (by simpa [arrL_length] using hA.there) (by simpa [arrL_length] using size51) (arrL_one g) (h (put16 w b g) (hA.put g) (put16_keeps (S := fun k => k = b) (Keeps.refl _ w) b (fun _ => rfl) g))

theorem arr_index (f : Nat → Nat) (i : Nat) (h : i < 16) (w : World) : (Instr.index 155 (.agg (arrL f).toArray) (.int .i64 (i : Int))).run Try.prog w = .ok (.int .i64 (f i : Int)) w := by
  have hg := arrL_get f i h
  have hi : (0 : Int) ≤ i ∧ (i : Int) < 16 := by omega
  generalize arrL f = A at *
  simp [Instr.index, asIntOf, Sem.run_bind, Try.runUnderlying155, Try.sizeOf3, Try.isAgg3, part, hi, hg]
  omega

theorem results_cell {fn : Func} {p : Tmp} {ty : TypeId} (h : fn.results = #[.cell p ty]) (tmps : Array Value) (P : Program) (w : World) :
    (results fn tmps).run P w = ((asAddr (tmps.getD p undef)).run P w).andThen fun a w₁ => (Go.loadVar ty a).run P w₁ := by
  simp only [results, h]
  simp [Sem.run_bind, Result.andThen]

end Go.Proofs.Ytdbfbijalhknnaa.Hf

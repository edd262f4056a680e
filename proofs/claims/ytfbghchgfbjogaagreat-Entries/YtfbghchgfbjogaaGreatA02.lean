/-
  The document's VecMay and Order. An entry in a block of its own: made, read, written. Numbers in bytes, the lowest first (no program in sight). A head in plain bytes: told, and read again (no program in sight). The program's May and the document's answer alike for every text: nameB. An archive in plain bytes (no program in sight). The program's maker of texts: Number and Told of package wire. Bytes that a call owns as a text; the program's Told; the document's Bytes. Rows of bytes in a block of their own: read, written, made out of a text and back. The program's taker of numbers: Of and Number of package wire.
-/
import Derived.Test.YtfbghchgfbjogaaGreatRows
import Derived.Test.YtfbghchgfbjogaaGreatA01
import Derived.Deep.RegionLaw
import Derived.Deep.RegionHeld3
import Derived.BigQuiet
import Derived.Lib.AppendStr
import Derived.WalkKit
import Derived.WalkSpells
import Derived.WalkLawsBesides
import Derived.BigRegion
namespace Go.Proofs.YtfbghchgfbjogaaGreat.Zp
open Go.RowKit
set_option linter.unusedVariables false
set_option linter.unusedSimpArgs false

set_option maxHeartbeats 1000000 in
set_option maxRecDepth 1000000 in
theorem rmay_ok (a : Option Addr) (ys : List Int) (cap : Nat) (w : World) (hR : Row w a ys) (hn : ys.length ≤ 1125899906842624) :
    Calls Tryz.prog 39 #[.slice a ys.length cap] w fun e w' => e = .returned (.bool (mayB ys)) ∧ w' = w := by
  obtain ⟨n, hl⟩ : ∃ n, ys.length = n := ⟨_, rfl⟩
  have HL : Hid (ys.length = n) := hl
  have HC : Hid (0 < n → ∃ b off, a = some ⟨b, off, none⟩ ∧ ∀ i, i < n → w.cell? ⟨b, off + i, none⟩ = some (.int .i64 (at_ ys i))) := by
    refine (fun h0 => ?_ : 0 < n → ∃ b off, a = some ⟨b, off, none⟩ ∧ ∀ i, i < n → w.cell? ⟨b, off + i, none⟩ = some (.int .i64 (at_ ys i)))
    obtain ⟨b, off, rfl, hb, hc⟩ := hR.at (by omega)
    exact ⟨b, off, rfl, fun i hi => hc w (Keeps.refl _ _) i (by omega)⟩
  rw [hl] at hn ⊢
  clear hl hR
  go_enter Tryz.func39, Tryz.ntmps39
  go_wp2
  go_loopw [3] (fun s w' => w' = w ∧ ∃ i : Nat, i ≤ n ∧ s = .int .i64 (i : Int) ∧ Hid (∀ j, j < i → 0 ≤ at_ ys j ∧ at_ ys j ≤ 1048576)) (fun s _ => n - (intOf s).toNat)
  case atStart => exact ⟨rfl, 0, by omega, rfl, fun j hj => absurd hj (Nat.not_lt_zero _)⟩
  case round =>
    obtain ⟨rfl, i, hi, rfl, HQ⟩ := hrel
    by_cases hin : i < n
    · have hiz : (i : Int) < (n : Int) := by omega
      obtain ⟨b, off, rfl, hc⟩ := HC.out (by omega)
      have c1 := hc i hin
      clear hc
      have HB : Hid (at_ ys i < 0 ∨ 1048576 < at_ ys i → mayB ys = false) := mayB_bad i (by rw [HL.out]; exact hin)
      have HG : Hid (0 ≤ at_ ys i ∧ at_ ys i ≤ 1048576 → ∀ j, j < i + 1 → 0 ≤ at_ ys j ∧ at_ ys j ≤ 1048576) := by
        refine (fun he j hj => ?_ : 0 ≤ at_ ys i ∧ at_ ys i ≤ 1048576 → ∀ j, j < i + 1 → 0 ≤ at_ ys j ∧ at_ ys j ≤ 1048576)
        by_cases e : j = i
        · subst e; exact he
        · exact HQ.out j (by omega)
      generalize at_ ys i = y at *
      have hy : y < 0 ∨ (0 ≤ y ∧ y ≤ 1048576) ∨ 1048576 < y := by omega
      rcases hy with hy | ⟨hy, hy'⟩ | hy
      · have d1 : decide (y < 0) = true := decide_eq_true hy
        go_wp2
        go_ret
        exact ⟨by rw [HB.out (.inl hy)]; rfl, rfl⟩
      · have d1 : decide (y < 0) = false := decide_eq_false (by omega)
        have d2 : decide (1048576 < y) = false := decide_eq_false (by omega)
        go_wp2
        go_roundw
        case rel => exact ⟨trivial, i + 1, by omega, by push_cast; rfl, HG.out ⟨hy, hy'⟩⟩
        case measure => simp [intOf]; omega
      · have d1 : decide (y < 0) = false := decide_eq_false (by omega)
        have d2 : decide (1048576 < y) = true := decide_eq_true hy
        go_wp2
        go_ret
        exact ⟨by rw [HB.out (.inr hy)]; rfl, rfl⟩
    · obtain rfl : i = n := by omega
      by_cases h4 : i = 4
      · have hm : mayB ys = true := mayB_of (by rw [HL.out]; exact h4) (fun j hj => HQ.out j (by rw [HL.out] at hj; exact hj))
        subst h4
        go_wp2
        go_ret
        exact ⟨by rw [hm]; rfl, rfl⟩
      · have hm : mayB ys = false := mayB_out (by rw [HL.out]; exact h4)
        have d1 : ((i : Int) == 4) = false := by simp; omega
        have d2 : decide ((i : Int) = 4) = false := decide_eq_false (by omega)
        go_wp2
        go_ret
        exact ⟨by rw [hm]; simp <;> omega, rfl⟩

end Go.Proofs.YtfbghchgfbjogaaGreat.Zp

namespace Go.Proofs.YtfbghchgfbjogaaGreat.Zp
open Go.RowKit
set_option linter.unusedVariables false
set_option linter.unusedSimpArgs false

/-- An entry: its name, whether it is gone, its vector's slice, who wrote last, and its packed bytes. -/
structure Ent where
  nm : ByteArray
  gn : Bool
  va : Option Addr
  vn : Nat
  vc : Nat
  st : Int
  nd : Int
  mt : Int
  pk : ByteArray
  sz : Int
  cr : Int
def Ent.zero : Ent := ⟨⟨#[]⟩, false, none, 0, 0, 0, 0, 0, ⟨#[]⟩, 0, 0⟩
def ecs (e : Ent) : List Value := [.string e.nm, .bool e.gn, .slice e.va e.vn e.vc, .int .i64 e.st, .int .i64 e.nd, .int .i64 e.mt, .string e.pk, .int .i64 e.sz, .int .i64 e.cr]
/-- An entry stands in block b from o on. -/
def EntAt (w : World) (b o : Nat) (e : Ent) : Prop := w.rangeAt b o (ecs e)
/-- Block b is an entry. -/
def Entb (w : World) (b : Nat) (e : Ent) : Prop := w.heap[b]? = some (.cells #[.string e.nm, .bool e.gn, .slice e.va e.vn e.vc, .int .i64 e.st, .int .i64 e.nd, .int .i64 e.mt, .string e.pk, .int .i64 e.sz, .int .i64 e.cr] 24 (0, 0))
theorem Entb.lt {w : World} {b : Nat} {e : Ent} (h : Entb w b e) : b < w.heap.size := lt_of_heap h
theorem Entb.kept {S : Nat → Prop} {w w' : World} {b : Nat} {e : Ent} (h : Entb w b e) (hk : Keeps S w w') (hb : ¬ S b) : Entb w' b e := (hk.block b h.lt hb).trans h
theorem Entb.keptF {w w' : World} {b : Nat} {e : Ent} (h : Entb w b e) (hk : Keeps (fun _ => False) w w') : Entb w' b e := h.kept hk (fun h => h)
theorem Entb.c0 {w : World} {b : Nat} {e : Ent} (h : Entb w b e) : w.cell? ⟨b, 0, none⟩ = some (.string e.nm) := cell_of_heap h rfl
theorem Entb.c1 {w : World} {b : Nat} {e : Ent} (h : Entb w b e) : w.cell? ⟨b, 1, none⟩ = some (.bool e.gn) := cell_of_heap h rfl
theorem Entb.c2 {w : World} {b : Nat} {e : Ent} (h : Entb w b e) : w.cell? ⟨b, 2, none⟩ = some (.slice e.va e.vn e.vc) := cell_of_heap h rfl
theorem Entb.c3 {w : World} {b : Nat} {e : Ent} (h : Entb w b e) : w.cell? ⟨b, 3, none⟩ = some (.int .i64 e.st) := cell_of_heap h rfl
theorem Entb.c4 {w : World} {b : Nat} {e : Ent} (h : Entb w b e) : w.cell? ⟨b, 4, none⟩ = some (.int .i64 e.nd) := cell_of_heap h rfl
theorem Entb.c5 {w : World} {b : Nat} {e : Ent} (h : Entb w b e) : w.cell? ⟨b, 5, none⟩ = some (.int .i64 e.mt) := cell_of_heap h rfl
theorem Entb.c6 {w : World} {b : Nat} {e : Ent} (h : Entb w b e) : w.cell? ⟨b, 6, none⟩ = some (.string e.pk) := cell_of_heap h rfl
theorem Entb.c7 {w : World} {b : Nat} {e : Ent} (h : Entb w b e) : w.cell? ⟨b, 7, none⟩ = some (.int .i64 e.sz) := cell_of_heap h rfl
theorem Entb.c8 {w : World} {b : Nat} {e : Ent} (h : Entb w b e) : w.cell? ⟨b, 8, none⟩ = some (.int .i64 e.cr) := cell_of_heap h rfl
theorem Entb.free {w : World} {b : Nat} {e : Ent} (h : Entb w b e) (j : Nat) : w.frozen? ⟨b, j, none⟩ = false := frozen_of_heap h
theorem Entb.at {w : World} {b : Nat} {e : Ent} (h : Entb w b e) : EntAt w b 0 e := fun j v hv => by
  rw [Nat.zero_add]
  unfold Entb at h
  exact cell_of_heap h (by rw [← hv]; show (ecs e).toArray[j]? = _; rw [List.getElem?_toArray])
theorem Entb.new (w : World) (e : Ent) : Entb (w.alloc (.cells #[.string e.nm, .bool e.gn, .slice e.va e.vn e.vc, .int .i64 e.st, .int .i64 e.nd, .int .i64 e.mt, .string e.pk, .int .i64 e.sz, .int .i64 e.cr] 24)) w.heap.size e := heap_alloc_new _ _
theorem sizeE : (Tryz.prog.info? 24).map (·.size) = some 9 := by kernel_rfl
theorem zeroE : (zeroValue 24).run Tryz.prog = fun w => .ok (.agg #[.string Ent.zero.nm, .bool Ent.zero.gn, .slice Ent.zero.va Ent.zero.vn Ent.zero.vc, .int .i64 Ent.zero.st, .int .i64 Ent.zero.nd, .int .i64 Ent.zero.mt, .string Ent.zero.pk, .int .i64 Ent.zero.sz, .int .i64 Ent.zero.cr]) w := by kernel_rfl
theorem wpList_alloc9 {ops : Array Oper} {rest : List Oper} {op : Oper} {a : Act} {w : World} {Q : Exit → Act → World → Prop} (hgd : op.guard = none) (ho : op.op = .alloc 24)
    (h : ∀ b w1, Entb w1 b Ent.zero → Keeps (fun _ => False) w w1 → w.heap.size ≤ b → wpList Tryz.prog ops Q rest (a.put op.dst (.pointer (some ⟨b, 0, none⟩))) w1) : wpList Tryz.prog ops Q (op :: rest) a w :=
  wpList_plain hgd fun _ hK => by
    unfold Oper.wp execOp
    have hz := congrFun zeroE w
    simp only [ho, Instr.alloc, Sem.run_bind, hz, Result.andThen_ok]
    simp only [newVar, Sem.run_bind, Sem.run_pure, Result.andThen_ok]
    exact hK _ _ (h w.heap.size _ (Entb.new w Ent.zero) ((Keeps.refl _ w).alloc _) (Nat.le_refl _))
theorem wpList_box9 {ops : Array Oper} {rest : List Oper} {op : Oper} {a : Act} {w : World} {Q : Exit → Act → World → Prop} (hgd : op.guard = none) (x : Operand) (ho : op.op = .box 24 x) (e : Ent) (hx : a.eval x = .agg #[.string e.nm, .bool e.gn, .slice e.va e.vn e.vc, .int .i64 e.st, .int .i64 e.nd, .int .i64 e.mt, .string e.pk, .int .i64 e.sz, .int .i64 e.cr])
    (h : ∀ b w1, Entb w1 b e → Keeps (fun _ => False) w w1 → w.heap.size ≤ b → wpList Tryz.prog ops Q rest (a.put op.dst (.pointer (some ⟨b, 0, none⟩))) w1) : wpList Tryz.prog ops Q (op :: rest) a w :=
  wpList_plain hgd fun _ hK => by
    unfold Oper.wp execOp
    simp only [ho, hx, Instr.box, Sem.run_bind, newVar, Sem.run_pure, Result.andThen_ok]
    exact hK _ _ (h w.heap.size _ (Entb.new w e) ((Keeps.refl _ w).alloc _) (Nat.le_refl _))
theorem wpList_load9 {ops : Array Oper} {rest : List Oper} {op : Oper} {a : Act} {w : World} {Q : Exit → Act → World → Prop} (hgd : op.guard = none) (x : Operand) (ho : op.op = .load 24 x) (b o : Nat) (hx : a.eval x = .pointer (some ⟨b, o, none⟩)) (e : Ent) (hA : EntAt w b o e)
    (h : wpList Tryz.prog ops Q rest (a.put op.dst (.agg #[.string e.nm, .bool e.gn, .slice e.va e.vn e.vc, .int .i64 e.st, .int .i64 e.nd, .int .i64 e.mt, .string e.pk, .int .i64 e.sz, .int .i64 e.cr])) w) : wpList Tryz.prog ops Q (op :: rest) a w :=
  wpList_load_mid hgd 24 x ho b o hx (ecs e) _ hA Tryz.underlying24 rfl sizeE h
theorem wpList_load9w {ops : Array Oper} {rest : List Oper} {op : Oper} {a : Act} {w : World} {Q : Exit → Act → World → Prop} (x : Operand) (ho : op.op = .load 24 x) (b o : Nat) (hx : a.eval x = .pointer (some ⟨b, o, none⟩)) (hw : Region.wanted op (yielded ops a.tmps) = true) (e : Ent) (hA : EntAt w b o e)
    (h : wpList Tryz.prog ops Q rest (a.put op.dst (.agg #[.string e.nm, .bool e.gn, .slice e.va e.vn e.vc, .int .i64 e.st, .int .i64 e.nd, .int .i64 e.mt, .string e.pk, .int .i64 e.sz, .int .i64 e.cr])) w) : wpList Tryz.prog ops Q (op :: rest) a w :=
  wpList_step fun K hK => by
    rw [hw]
    exact wp_load_mid 24 x ho b o hx (ecs e) _ hA Tryz.underlying24 rfl sizeE (hK _ _ h)
theorem setCells_row (b : Nat) (t : TypeId) : ∀ (vs : List Value) (o : Nat) (w : World) (cs : Array Value), w.heap[b]? = some (.cells cs t (0, 0)) → ∃ cs', (w.setCells b o vs).heap[b]? = some (.cells cs' t (0, 0)) ∧ cs'.size = cs.size ∧ (∀ i, i < o → cs'[i]? = cs[i]?) ∧ ∀ i, i < vs.length → o + i < cs.size → cs'[o + i]? = vs[i]? := by
  intro vs
  induction vs with
  | nil => intro o w cs hc; exact ⟨cs, hc, rfl, fun _ _ => rfl, fun i hi => by simp at hi⟩
  | cons v r ih =>
    intro o w cs hc
    obtain ⟨cs', h1, h2, h3, h4⟩ := ih (o + 1) (w.setCell ⟨b, o, none⟩ v) _ (heap_setCell_same hc v)
    refine ⟨cs', by rw [World.setCells]; exact h1, by rw [h2]; simp, fun i hi => ?_, fun i hi hlt => ?_⟩
    · rw [h3 i (by omega), Array.getElem?_setIfInBounds, if_neg (by omega)]
    · cases i with
      | zero => rw [Nat.add_zero, h3 o (by omega), Array.getElem?_setIfInBounds]; simp; omega
      | succ i =>
        have := h4 i (by simpa using hi) (by simp; omega)
        rw [show o + (i + 1) = o + 1 + i by omega, this]; simp
theorem ecs_len (e : Ent) : (ecs e).length = 9 := rfl
theorem ecs_arr (e : Ent) : (#[.string e.nm, .bool e.gn, .slice e.va e.vn e.vc, .int .i64 e.st, .int .i64 e.nd, .int .i64 e.mt, .string e.pk, .int .i64 e.sz, .int .i64 e.cr] : Array Value) = (ecs e).toArray := rfl
theorem Entb.set {w : World} {b : Nat} {e : Ent} (h : Entb w b e) (u : Ent) : Entb (w.setCells b 0 (ecs u)) b u := by
  unfold Entb at h ⊢
  rw [ecs_arr] at h ⊢
  obtain ⟨cs', h1, h2, h3, h4⟩ := setCells_row b 24 (ecs u) 0 w _ h
  have hz : cs'.size = 9 := by rw [h2, List.size_toArray, ecs_len]
  have ha : ∀ i, i < 9 → cs'[i]? = (ecs u)[i]? := fun i hi => by
    have := h4 i (by rw [ecs_len]; exact hi) (by rw [List.size_toArray, ecs_len]; omega)
    rwa [Nat.zero_add] at this
  have hl := ecs_len u
  rw [h1]
  generalize ecs u = U at *
  have : cs' = U.toArray := by
    apply Array.ext_getElem?
    intro i
    by_cases hi : i < 9
    · rw [ha i hi, List.getElem?_toArray]
    · rw [Array.getElem?_eq_none (by omega), List.getElem?_toArray, List.getElem?_eq_none (by omega)]
  rw [this]
theorem Entb.there {w : World} {b : Nat} {e : Ent} (h : Entb w b e) : w.there b 0 9 := fun j hj => by
  have hf : w.frozen? ⟨b, 0 + j, none⟩ = false := frozen_of_heap h
  refine ⟨?_, hf⟩
  rw [Nat.zero_add]
  have hl : j < (ecs e).length := hj
  unfold Entb at h
  rw [ecs_arr] at h
  rw [cell_of_heap (i := j) (u := (ecs e)[j]) h (by rw [List.getElem?_toArray]; exact List.getElem?_eq_getElem hl)]
  rfl
theorem ecs_one (e : Ent) : ∀ v ∈ ecs e, v.oneCell' = true := by
  intro v hv
  simp only [ecs, List.mem_cons, List.not_mem_nil, or_false] at hv
  rcases hv with rfl | rfl | rfl | rfl | rfl | rfl | rfl | rfl | rfl <;> rfl
theorem wpList_store9 {ops : Array Oper} {rest : List Oper} {op : Oper} {a : Act} {w : World} {Q : Exit → Act → World → Prop} (hgd : op.guard = none) (x y : Operand) (ho : op.op = .store 24 x y) (b : Nat) (u : Ent) (hx : a.eval x = .pointer (some ⟨b, 0, none⟩)) (hy : a.eval y = .agg #[.string u.nm, .bool u.gn, .slice u.va u.vn u.vc, .int .i64 u.st, .int .i64 u.nd, .int .i64 u.mt, .string u.pk, .int .i64 u.sz, .int .i64 u.cr]) (e : Ent) (hA : Entb w b e)
    (h : ∀ w1, Entb w1 b u → Keeps (fun k => k = b) w w1 → wpList Tryz.prog ops Q rest (a.put op.dst undef) w1) : wpList Tryz.prog ops Q (op :: rest) a w :=
  wpList_store_mid hgd 24 x y ho b 0 (ecs u).toArray hx hy hA.there (by exact sizeE) (all_oneCell_toArray (ecs_one u)) (h _ (hA.set u) (keeps_setCells (S := fun k => k = b) b (fun _ => rfl) _ _ _ (Keeps.refl _ w)))
theorem Entb.loadVar {w : World} {b : Nat} {e : Ent} (h : Entb w b e) : (loadVar 24 ⟨b, 0, none⟩).run Tryz.prog w = .ok (.agg #[.string e.nm, .bool e.gn, .slice e.va e.vn e.vc, .int .i64 e.st, .int .i64 e.nd, .int .i64 e.mt, .string e.pk, .int .i64 e.sz, .int .i64 e.cr]) w :=
  run_loadVar_mid w b 0 24 (ecs e) _ h.at Tryz.underlying24 rfl sizeE
/-- One field written. -/
theorem Entb.setC {w : World} {b : Nat} {e : Ent} (h : Entb w b e) (j : Nat) (v : Value) (u : Ent) (hu : (#[.string e.nm, .bool e.gn, .slice e.va e.vn e.vc, .int .i64 e.st, .int .i64 e.nd, .int .i64 e.mt, .string e.pk, .int .i64 e.sz, .int .i64 e.cr] : Array Value).setIfInBounds j v = #[.string u.nm, .bool u.gn, .slice u.va u.vn u.vc, .int .i64 u.st, .int .i64 u.nd, .int .i64 u.mt, .string u.pk, .int .i64 u.sz, .int .i64 u.cr]) : Entb (w.setCell ⟨b, j, none⟩ v) b u := by
  unfold Entb
  rw [heap_setCell_same h, hu]

theorem Entb.res1 {fn : Func} {p : Tmp} {tmps : Array Value} {w : World} {b : Nat} {e : Ent} (h : fn.results = #[.cell p 24]) (hp : tmps.getD p undef = .pointer (some ⟨b, 0, none⟩)) (hE : Entb w b e) :
    (results fn tmps).run Tryz.prog w = .ok (.agg #[.string e.nm, .bool e.gn, .slice e.va e.vn e.vc, .int .i64 e.st, .int .i64 e.nd, .int .i64 e.mt, .string e.pk, .int .i64 e.sz, .int .i64 e.cr]) w := by
  rw [results_cell h, hp]
  simp only [asAddr, Sem.run_pure, Result.andThen_ok]
  exact hE.loadVar
theorem Entb.res2 {fn : Func} {p u : Tmp} {tmps : Array Value} {w : World} {b : Nat} {e : Ent} {x : Value} (h : fn.results = #[.cell p 24, .tmp u]) (hp : tmps.getD p undef = .pointer (some ⟨b, 0, none⟩)) (hu : tmps.getD u undef = x) (hE : Entb w b e) :
    (results fn tmps).run Tryz.prog w = .ok (.tuple #[.agg #[.string e.nm, .bool e.gn, .slice e.va e.vn e.vc, .int .i64 e.st, .int .i64 e.nd, .int .i64 e.mt, .string e.pk, .int .i64 e.sz, .int .i64 e.cr], x]) w := by
  rw [results_cell_tmp h, hp, hu]
  simp only [asAddr, Sem.run_pure, Result.andThen_ok, hE.loadVar]
theorem Own.v {w : World} {g cap base : Nat} {ys : List Int} (h : Own w g cap ys) (hb : base ≤ g) : OwnV w base (.slice (some ⟨g, 0, none⟩) ys.length cap) ys := by
  refine ⟨h.1, ?_⟩
  rcases h.2 with ⟨e, _⟩ | ⟨g', cap', cur, e, _, r⟩
  · cases e
  · cases e
    exact .inr ⟨_, _, cur, rfl, hb, r⟩

theorem OwnV.mono {w : World} {base base' : Nat} {v : Value} {ys : List Int} (h : OwnV w base v ys) (hb : base' ≤ base) : OwnV w base' v ys := by
  refine ⟨h.1, ?_⟩
  rcases h.2 with h | ⟨g, cap, cur, e, hg, r⟩
  · exact .inl h
  · exact .inr ⟨g, cap, cur, e, Nat.le_trans hb hg, r⟩
theorem OwnV.lo {w : World} {base : Nat} {v : Value} {ys : List Int} (h : OwnV w base v ys) : ∀ k, v.ownBlock = some k → base ≤ k ∧ k < w.heap.size := fun k hk => World.ownsRow.lt h k hk
theorem OwnV.keptF {w w' : World} {base : Nat} {v : Value} {ys : List Int} (h : OwnV w base v ys) (hk : Keeps (fun _ => False) w w') : OwnV w' base v ys := h.kept hk (fun _ _ h => h)

end Go.Proofs.YtfbghchgfbjogaaGreat.Zp

namespace Go.Proofs.YtfbghchgfbjogaaGreat.Zp
open Go.RowKit
set_option linter.unusedVariables false
set_option linter.unusedSimpArgs false

/-- The k lowest bytes of a number, the lowest first. -/
def le (k n : Nat) : List Nat := (List.range k).map (fun i => n / 256 ^ i % 256)
theorem le_len (k n : Nat) : (le k n).length = k := by simp [le]
theorem le_zero (n : Nat) : le 0 n = [] := rfl
theorem le_succ (k n : Nat) : le (k + 1) n = le k n ++ [n / 256 ^ k % 256] := by simp [le, List.range_succ]
theorem le_lt (k n : Nat) : ∀ y ∈ le k n, y < 256 := by
  intro y hy
  simp only [le, List.mem_map] at hy
  obtain ⟨i, _, rfl⟩ := hy
  exact Nat.mod_lt _ (by decide)
theorem bytesOf_lt (s : ByteArray) : ∀ y ∈ bytesOf s, y < 256 := by
  intro y hy
  simp only [bytesOf, List.mem_map] at hy
  obtain ⟨u, _, rfl⟩ := hy
  exact UInt8.toNat_lt u
/-- How the walk spells the equality of two texts. -/
theorem toList_data (s : ByteArray) : s.toList = s.data.toList := by
  have key : ∀ (n i : Nat) (r : List UInt8), s.size - i = n → ByteArray.toList.loop s i r = r.reverse ++ s.data.toList.drop i := by
    intro n
    induction n with
    | zero =>
      intro i r h
      unfold ByteArray.toList.loop
      have hl : s.data.toList.length ≤ i := by rw [Array.length_toList]; show s.size ≤ i; omega
      rw [if_neg (by omega), List.drop_eq_nil_of_le hl, List.append_nil]
    | succ n ih =>
      intro i r h
      unfold ByteArray.toList.loop
      have hi : i < s.data.toList.length := by rw [Array.length_toList]; show i < s.size; omega
      rw [if_pos (by omega), ih (i + 1) _ (by omega), List.reverse_cons, List.append_assoc, List.drop_eq_getElem_cons hi]
      congr 1
      have hz : s.data[i]! = s.data[i]'(by simpa using hi) := getElem!_pos s.data i (by simpa using hi)
      simp [ByteArray.get!, hz]
  unfold ByteArray.toList
  rw [key s.size 0 [] rfl]; rfl
theorem beq_toList (a b : ByteArray) : (a.toList == b.toList) = decide (a = b) := by
  rw [toList_data, toList_data]
  by_cases h : a = b
  · subst h; simp
  · rw [decide_eq_false h]
    have : ¬ a.data.toList = b.data.toList := fun e => h (by cases a; cases b; simp at e; rw [e])
    simpa using this

end Go.Proofs.YtfbghchgfbjogaaGreat.Zp

namespace Go.Proofs.YtfbghchgfbjogaaGreat.Zp
open Go.RowKit
set_option linter.unusedVariables false
set_option linter.unusedSimpArgs false

/-- May a head be? -/
def headB (ys : List Int) (st nd : Int) : Bool := mayB ys && (decide (1 ≤ st ∧ st ≤ 1048576) && decide (0 ≤ nd ∧ nd < 4))
/-- A vector's bytes; a head's bytes. -/
def vecS (ys : List Int) : List Nat := ys.flatMap (fun y => le 4 y.toNat)
def putL (ys : List Int) (st nd : Int) (g : Bool) : List Nat := (le 2 20592 ++ le 2 22) ++ vecS ys ++ (le 4 st.toNat ++ le 1 nd.toNat ++ le 1 g.toNat)
/-- What Put answers. -/
def pErr (ys : List Int) (st nd : Int) : Int := bif headB ys st nd then 0 else 1200
def putT (ys : List Int) (st nd : Int) (g : Bool) : ByteArray := textOf (bif headB ys st nd then putL ys st nd g else [])
theorem headB_may {ys : List Int} {st nd : Int} (h : headB ys st nd = true) : mayB ys = true := by
  simp only [headB, Bool.and_eq_true] at h; exact h.1
theorem headB_st {ys : List Int} {st nd : Int} (h : headB ys st nd = true) : (1 ≤ st ∧ st ≤ 1048576) ∧ (0 ≤ nd ∧ nd < 4) := by
  simp only [headB, Bool.and_eq_true, decide_eq_true_eq] at h; exact h.2
theorem headB_of {ys : List Int} {st nd : Int} (h : mayB ys = true) (h1 : 1 ≤ st ∧ st ≤ 1048576) (h2 : 0 ≤ nd ∧ nd < 4) : headB ys st nd = true := by
  simp only [headB, Bool.and_eq_true, decide_eq_true_eq]; exact ⟨h, h1, h2⟩
theorem vecS_len (ys : List Int) : (vecS ys).length = 4 * ys.length := by
  induction ys with
  | nil => rfl
  | cons y r ih => simp only [vecS, List.flatMap_cons, List.length_append, le_len, List.length_cons] at ih ⊢; omega
theorem vecS_snoc (ys : List Int) (y : Int) : vecS (ys ++ [y]) = vecS ys ++ le 4 y.toNat := by simp [vecS]
theorem putL_lt (ys : List Int) (st nd : Int) (g : Bool) : ∀ y ∈ putL ys st nd g, y < 256 := by
  intro y hy
  simp only [putL, vecS, List.mem_append, List.mem_flatMap] at hy
  rcases hy with ((h | h) | ⟨_, _, h⟩) | ((h | h) | h) <;> exact le_lt _ _ y h
end Go.Proofs.YtfbghchgfbjogaaGreat.Zp

namespace Go.Proofs.YtfbghchgfbjogaaGreat.Nm
open Go.RowKit
set_option linter.unusedVariables false
set_option linter.unusedSimpArgs false

/-- A byte that may stand in a name. -/
def letB (n : Nat) : Bool := decide (97 ≤ n ∧ n ≤ 122) || decide (48 ≤ n ∧ n ≤ 57) || decide (n = 46) || decide (n = 45) || decide (n = 95)
/-- A text that may be a name. -/
def nameB (s : ByteArray) : Bool := decide (1 ≤ s.size ∧ s.size ≤ 8) && !decide (s = ⟨#[46]⟩) && !decide (s = ⟨#[46, 46]⟩) && (bytesOf s).all letB

theorem letter_ok (b : Nat) (w : World) (hb : b < 256) :
    Calls Tryz.prog 96 #[.int .u8 b] w fun e w' => e = .returned (.bool (letB b)) ∧ w' = w := by
  have hc : b < 45 ∨ b = 45 ∨ b = 46 ∨ b = 47 ∨ (48 ≤ b ∧ b ≤ 57) ∨ (58 ≤ b ∧ b < 95) ∨ b = 95 ∨ b = 96 ∨ (97 ≤ b ∧ b ≤ 122) ∨ 122 < b := by omega
  rcases hc with h | h | h | h | ⟨h, h'⟩ | ⟨h, h'⟩ | h | h | ⟨h, h'⟩ | h <;>
    (try subst h
     go_enter Tryz.func96, Tryz.ntmps96
     go_wp2
     go_ret
     refine ⟨congrArg (fun z => Ending.returned (Value.bool z)) ?_, rfl⟩
     first
       | decide
       | (unfold letB; simp; omega))

theorem mloop_eq (bs : ByteArray) : ∀ n i r, bs.size - i = n → i ≤ bs.size → ByteArray.toList.loop bs i r = r.reverse ++ bs.data.toList.drop i
  | 0, i, r, h, hi => by
    rw [ByteArray.toList.loop.eq_1, if_neg (by omega), List.drop_eq_nil_of_le (by rw [Array.length_toList]; show bs.size ≤ i; omega), List.append_nil]
  | n + 1, i, r, h, hi => by
    have hl : i < bs.data.toList.length := by rw [Array.length_toList]; show i < bs.size; omega
    have hg : bs.get! i = bs.data.toList[i] := by
      show bs.data[i]! = _
      rw [getElem!_pos bs.data i (by show i < bs.size; omega)]; rfl
    rw [ByteArray.toList.loop.eq_1, if_pos (by omega), mloop_eq bs n (i + 1) _ (by omega) (by omega), List.reverse_cons, List.append_assoc, List.drop_eq_getElem_cons hl, hg]; rfl
theorem mtoList_data (bs : ByteArray) : bs.toList = bs.data.toList := by
  rw [ByteArray.toList.eq_1, mloop_eq bs _ 0 [] rfl (Nat.zero_le _)]; rfl
theorem beq_list (a b : ByteArray) : (a.toList == b.toList) = decide (a = b) := by
  rw [mtoList_data, mtoList_data]
  by_cases h : a = b
  · subst h; simp
  · rw [decide_eq_false h]
    cases e : (a.data.toList == b.data.toList)
    · rfl
    · exact absurd (ByteArray.ext (Array.toList_inj.1 (eq_of_beq e))) h
theorem all_get (s : ByteArray) (p : Nat → Bool) : (bytesOf s).all p = true ↔ ∀ j (h : j < s.size), p s[j].toNat = true := by
  rw [List.all_eq_true]
  constructor
  · intro h j hj
    apply h
    rw [← bytesOf_get s j hj, List.getD, List.getElem?_eq_getElem (by rw [bytesOf_length]; exact hj)]
    exact List.getElem_mem _
  · intro h x hx
    obtain ⟨j, hj, rfl⟩ := List.getElem_of_mem hx
    rw [bytesOf_length] at hj
    have := bytesOf_get s j hj
    rw [List.getD, List.getElem?_eq_getElem (by rw [bytesOf_length]; exact hj), Option.getD_some] at this
    rw [this]; exact h j hj

theorem name_out (s : ByteArray) (h : s.size = 0 ∨ 8 < s.size ∨ s = ⟨#[46]⟩ ∨ s = ⟨#[46, 46]⟩) : nameB s = false := by
  unfold nameB
  rcases h with h | h | h | h
  · simp [h]
  · rw [decide_eq_false (by omega)]; rfl
  · subst h; decide
  · subst h; decide
theorem name_bad (s : ByteArray) (j : Nat) (hj : j < s.size) (h : letB s[j].toNat = false) : nameB s = false := by
  have : (bytesOf s).all letB = false := by
    cases e : (bytesOf s).all letB
    · rfl
    · rw [all_get] at e; rw [e j hj] at h; cases h
  unfold nameB; rw [this, Bool.and_false]
theorem name_good (s : ByteArray) (h1 : 1 ≤ s.size) (h8 : s.size ≤ 8) (hd : ¬ s = ⟨#[46]⟩) (hdd : ¬ s = ⟨#[46, 46]⟩) (h : ∀ j (h : j < s.size), letB s[j].toNat = true) : nameB s = true := by
  have : (bytesOf s).all letB = true := (all_get s letB).2 h
  unfold nameB
  rw [this, decide_eq_false hd, decide_eq_false hdd, decide_eq_true ⟨h1, h8⟩]; rfl

theorem beq_0 (s : ByteArray) : s.toList.isEmpty = decide (s = ⟨#[]⟩) := by
  rw [← beq_list, mtoList_data, mtoList_data]; cases s.data.toList <;> rfl
theorem beq_1 (s : ByteArray) : (s.toList == [46]) = decide (s = ⟨#[46]⟩) := by
  rw [← beq_list, mtoList_data, mtoList_data]
theorem beq_2 (s : ByteArray) : (s.toList == [46, 46]) = decide (s = ⟨#[46, 46]⟩) := by
  rw [← beq_list, mtoList_data, mtoList_data]

set_option maxHeartbeats 800000 in
theorem may_ok (s : ByteArray) (w : World) (hs : s.size ≤ 1125899906842624) :
    Calls Tryz.prog 73 #[.string s] w fun e w' => e = .returned (.bool (nameB s)) ∧ w' = w := by
  have E0 := beq_0 s
  have E1 := beq_1 s
  have E2 := beq_2 s
  by_cases h0 : s = ⟨#[]⟩
  · subst h0
    go_enter Tryz.func73, Tryz.ntmps73
    go_wp2
    go_ret
    exact ⟨by first | rfl | (rw [name_out _ (.inl rfl)]; rfl), rfl⟩
  have hz : 1 ≤ s.size := by
    rcases Nat.eq_zero_or_pos s.size with e | e
    · exfalso; apply h0; exact ByteArray.ext (Array.eq_empty_of_size_eq_zero e)
    · exact e
  rw [decide_eq_false h0] at E0
  by_cases h8 : 8 < s.size
  · have HN := name_out s (.inr (.inl h8))
    clear E1 E2
    go_enter Tryz.func73, Tryz.ntmps73
    go_wp2
    go_ret
    exact ⟨by first | rfl | (rw [HN]; rfl), rfl⟩
  have D8 : decide (8 < (s.size : Int)) = false := decide_eq_false (by omega)
  by_cases h1 : s = ⟨#[46]⟩
  · have HN := name_out s (.inr (.inr (.inl h1)))
    rw [decide_eq_true h1] at E1
    clear E2 h1
    go_enter Tryz.func73, Tryz.ntmps73
    go_wp2
    go_ret
    exact ⟨by first | rfl | (rw [HN]; rfl), rfl⟩
  by_cases h2 : s = ⟨#[46, 46]⟩
  · have HN := name_out s (.inr (.inr (.inr h2)))
    rw [decide_eq_true h2] at E2
    rw [decide_eq_false h1] at E1
    clear h1 h2
    go_enter Tryz.func73, Tryz.ntmps73
    go_wp2
    go_ret
    exact ⟨by first | rfl | (rw [HN]; rfl), rfl⟩
  have HG : Hid ((∀ j (h : j < s.size), letB s[j].toNat = true) → nameB s = true) := name_good s hz (by omega) h1 h2
  rw [decide_eq_false h1] at E1
  rw [decide_eq_false h2] at E2
  have H8 : Hid (s.size ≤ 8) := (by omega : s.size ≤ 8)
  clear h1 h2 h0
  go_enter Tryz.func73, Tryz.ntmps73
  go_wp2
  go_loopw [3, 21] (fun _ i w' => w' = w ∧ ∃ j : Nat, j ≤ s.size ∧ i = .int .i64 j ∧ ∀ q (h : q < s.size), q < j → letB s[q].toNat = true) (fun _ i _ => s.size - (intOf i).toNat)
  case atStart => exact ⟨rfl, 0, Nat.zero_le _, rfl, fun q _ h => absurd h (Nat.not_lt_zero _)⟩
  case round =>
    obtain ⟨rfl, j, hj, rfl, hq⟩ := hrel
    have HQ : Hid (∀ q (h : q < s.size), q < j → letB s[q].toNat = true) := hq
    clear hq E0 E1 E2 D8
    by_cases hlt : j < s.size
    · cases hb : letB s[j].toNat
      · have HN := name_bad s j hlt hb
        go_wp2_with fail
        refine (letter_ok _ _ (UInt8.toNat_lt _)).mono ?_
        rintro e w' ⟨rfl, hw⟩
        obtain rfl := hw.symm; clear hw
        rw [hb]
        go_wp2
        go_ret
        exact ⟨by first | rfl | (rw [HN]; rfl), rfl⟩
      · go_wp2_with fail
        refine (letter_ok _ _ (UInt8.toNat_lt _)).mono ?_
        rintro e w' ⟨rfl, hw⟩
        obtain rfl := hw.symm; clear hw
        rw [hb]
        have hs' := H8.out
        go_wp2
        go_roundw
        case rel =>
          refine ⟨trivial, j + 1, by omega, by go_num, ?_⟩
          intro q hq hlt'
          by_cases e : q = j
          · subst e; exact hb
          · exact HQ.out q hq (by omega)
        case measure => simp [intOf]; omega
    · go_wp2
      go_ret
      exact ⟨by rw [HG.out (fun q hq => HQ.out q hq (by omega))]; rfl, rfl⟩


end Go.Proofs.YtfbghchgfbjogaaGreat.Nm

namespace Go.Proofs.YtfbghchgfbjogaaGreat.Zp
open Go.RowKit
set_option linter.unusedVariables false
set_option linter.unusedSimpArgs false

/-- An entry and its vector's counts. -/
abbrev It := Ent × List Int
/-- Is a text not behind another one? -/
def leT (a b : ByteArray) : Bool := Op.bytesLess a.toList b.toList || (a.toList == b.toList)
def bareB (e : Ent) : Bool := decide (e.mt = 0) && (decide (e.pk = ⟨#[]⟩) && (decide (e.sz = 0) && decide (e.cr = 0)))
def packB (e : Ent) : Bool := decide (e.mt = 0 ∧ (e.pk.size : Int) = e.sz) || decide (e.mt = 8 ∧ e.pk.size ≤ 300)
def textB (e : Ent) : Bool := decide (0 ≤ e.cr ∧ e.cr ≤ 4294967295) && (decide (0 ≤ e.sz ∧ e.sz ≤ 300) && packB e)
/-- May an entry be written? -/
def heldB (x : It) : Bool := headB x.2 x.1.st x.1.nd && (Nm.nameB x.1.nm && (bif x.1.gn then bareB x.1 else textB x.1))
def risesB : ByteArray → List It → Bool
  | _, [] => true
  | p, x :: r => (!leT x.1.nm p && heldB x) && risesB x.1.nm r
/-- May a folder be written? -/
def writeB (es : List It) : Bool := decide (es.length ≤ 6) && risesB ⟨#[]⟩ es

theorem heldB_head {x : It} (h : heldB x = true) : headB x.2 x.1.st x.1.nd = true := by
  simp only [heldB, Bool.and_eq_true] at h; exact h.1
theorem heldB_name {x : It} (h : heldB x = true) : Nm.nameB x.1.nm = true := by
  simp only [heldB, Bool.and_eq_true] at h; exact h.2.1
theorem nameB_size {s : ByteArray} (h : Nm.nameB s = true) : 1 ≤ s.size ∧ s.size ≤ 8 := by
  simp only [Nm.nameB, Bool.and_eq_true, decide_eq_true_eq] at h; exact h.1.1.1
/-- The numbers of an entry that may be written. -/
theorem heldB_nums {x : It} (h : heldB x = true) : (x.1.mt = 0 ∨ x.1.mt = 8) ∧ (0 ≤ x.1.sz ∧ x.1.sz ≤ 300) ∧ (0 ≤ x.1.cr ∧ x.1.cr ≤ 4294967295) ∧ x.1.pk.size ≤ 300 ∧ (1 ≤ x.1.nm.size ∧ x.1.nm.size ≤ 8) := by
  have hn := nameB_size (heldB_name h)
  simp only [heldB, Bool.and_eq_true] at h
  obtain ⟨_, _, h⟩ := h
  cases hg : x.1.gn
  · rw [hg, cond_false] at h
    simp only [textB, packB, Bool.and_eq_true, Bool.or_eq_true, decide_eq_true_eq] at h
    obtain ⟨h1, h2, h3⟩ := h
    rcases h3 with ⟨h3, h4⟩ | ⟨h3, h4⟩
    · exact ⟨.inl h3, h2, h1, by omega, hn⟩
    · exact ⟨.inr h3, h2, h1, h4, hn⟩
  · rw [hg, cond_true] at h
    simp only [bareB, Bool.and_eq_true, decide_eq_true_eq] at h
    obtain ⟨h1, h2, h3, h4⟩ := h
    exact ⟨.inl h1, by omega, by omega, by rw [h2]; exact Nat.zero_le _, hn⟩
/-- No text is below the empty one. -/
theorem leT_nil (a : ByteArray) : leT a ⟨#[]⟩ = decide (a.size = 0) := by
  unfold leT
  rw [toList_data, toList_data]
  obtain ⟨⟨l⟩⟩ := a
  cases l with
  | nil => simp [Op.bytesLess]; rfl
  | cons x r =>
    have : ¬ (ByteArray.mk ⟨x :: r⟩).size = 0 := by show ¬ (x :: r).length = 0; simp
    rw [decide_eq_false this]
    simp [Op.bytesLess]

end Go.Proofs.YtfbghchgfbjogaaGreat.Zp

namespace Go.Proofs.YtfbghchgfbjogaaGreat.Zp
open Go.RowKit
set_option linter.unusedVariables false
set_option linter.unusedSimpArgs false

/-- Bytes that a call owns. -/
def OwnB (w : World) (base : Nat) (v : Value) (xs : List Nat) : Prop := w.ownsRow base 5 1 v xs.length (xs.map byteV)
theorem OwnB.nil (w : World) (base : Nat) : OwnB w base (.slice none 0 0) [] := World.ownsRow_nil w base 5 1
theorem OwnB.kept {S : Nat → Prop} {w w' : World} {base : Nat} {v : Value} {xs : List Nat} (h : OwnB w base v xs) (hk : Keeps S w w') (hb : ∀ k, v.ownBlock = some k → ¬ S k) : OwnB w' base v xs :=
  owns_heap h (fun k e => hk.block k (World.ownsRow.lt h k e).2 (hb k e))
theorem OwnB.keptF {w w' : World} {base : Nat} {v : Value} {xs : List Nat} (h : OwnB w base v xs) (hk : Keeps (fun _ => False) w w') : OwnB w' base v xs := h.kept hk (fun _ _ h => h)
/-- A block's type, and its cells behind the first. -/
structure Lay where
  t : TypeId
  tl : List Value
instance (n : Nat) : OfNat Lay n := ⟨⟨n, []⟩⟩
/-- A text of bytes lies in block p, of type T. -/
def Txt (T : Lay) (w : World) (p : Nat) (v : Value) (xs : List Nat) : Prop := w.heap[p]? = some (.cells (v :: T.tl).toArray T.t (0, 0)) ∧ OwnB w (p + 1) v xs
theorem Txt.lt {T : Lay} {w : World} {p : Nat} {v : Value} {xs : List Nat} (h : Txt T w p v xs) : p < w.heap.size := lt_of_heap h.1
theorem Txt.kept {T : Lay} {S : Nat → Prop} {w w' : World} {p : Nat} {v : Value} {xs : List Nat} (h : Txt T w p v xs) (hk : Keeps S w w') (hp : ¬ S p) (hb : ∀ k, v.ownBlock = some k → ¬ S k) : Txt T w' p v xs :=
  ⟨(hk.block p h.lt hp).trans h.1, h.2.kept hk hb⟩
theorem Txt.keptF {T : Lay} {w w' : World} {p : Nat} {v : Value} {xs : List Nat} (h : Txt T w p v xs) (hk : Keeps (fun _ => False) w w') : Txt T w' p v xs := h.kept hk (fun h => h) (fun _ _ h => h)
theorem Txt.slice {T : Lay} {w : World} {p : Nat} {v : Value} {xs : List Nat} (h : Txt T w p v xs) : ∃ a cap0, v = .slice a xs.length cap0 := by
  rcases h.2.2 with ⟨rfl, h0⟩ | ⟨g, cap, cur, rfl, _⟩
  · exact ⟨none, 0, by rw [h0]⟩
  · exact ⟨_, cap, rfl⟩
theorem Txt.new (T : Lay) (w : World) : Txt T (w.alloc (.cells (.slice none 0 0 :: T.tl).toArray T.t)) w.heap.size (.slice none 0 0) [] := ⟨heap_alloc_new _ _, OwnB.nil _ _⟩
/-- What a call on a text leaves. -/
def OntoT (T : Lay) (w w' : World) (p : Nat) (v : Value) (xs : List Nat) : Prop :=
  ∃ v', Txt T w' p v' xs ∧ (v'.ownBlock = v.ownBlock ∨ ∃ g, v'.ownBlock = some g ∧ w.heap.size ≤ g) ∧ Keeps (fun k => k = p ∨ v.ownBlock = some k) w w'
theorem OntoT.refl {T : Lay} {w : World} {p : Nat} {v : Value} {xs : List Nat} (h : Txt T w p v xs) : OntoT T w w p v xs := ⟨v, h, .inl rfl, Keeps.refl _ _⟩
theorem OntoT.tr {T : Lay} {w w1 w2 : World} {p : Nat} {v v1 : Value} {ys : List Nat} (hb : v1.ownBlock = v.ownBlock ∨ ∃ g, v1.ownBlock = some g ∧ w.heap.size ≤ g) (hk : Keeps (fun k => k = p ∨ v.ownBlock = some k) w w1) (h : OntoT T w1 w2 p v1 ys) : OntoT T w w2 p v ys := by
  obtain ⟨v2, h1, h2, h3⟩ := h
  refine ⟨v2, h1, ?_, hk.trans h3 (fun i hi h => ?_)⟩
  · rcases h2 with h2 | ⟨g, e, hg⟩
    · rw [h2]; exact hb
    · exact .inr ⟨g, e, Nat.le_trans hk.size hg⟩
  · rcases h with h | h
    · exact .inl h
    · rcases hb with hb | ⟨g, e, hg⟩
      · exact .inr (hb ▸ h)
      · rw [e] at h; cases h; omega
/-- The same where nothing old is turned but the text's own. -/
theorem OntoT.far {T : Lay} {w w' : World} {p : Nat} {v : Value} {xs : List Nat} (h : OntoT T w w' p v xs) (hT : OwnB w (p + 1) v xs ∨ True) : Keeps (fun k => k = p ∨ v.ownBlock = some k) w w' := by
  obtain ⟨_, _, _, h⟩ := h; exact h
theorem info5 : (Tryz.prog.info? 5).map (fun i => (i.zero, i.size, i.bytes)) = some (some (.int .u8 0), 1, 1) := by kernel_rfl
theorem onto_byte {T : Lay} {p c : Nat} {xs : List Nat} {a : Option Addr} {cap0 : Nat} {w w1 w2 : World} {g cap : Nat} (hlt : p < w.heap.size) (hT : Txt T w p (.slice a xs.length cap0) xs) (ho : w1.ownsRow (p + 1) 5 1 (.slice (some ⟨g, 0, none⟩) (xs.length + 1) cap) (xs.length + 1) (xs.map byteV ++ [.int .u8 (c : Int)]))
    (hk : Keeps (fun k => (Value.slice a xs.length cap0).ownBlock = some k) w w1) (hg : (Value.slice a xs.length cap0).ownBlock = some g ∨ w.heap.size ≤ g) (h2 : w2 = w1.setCell ⟨p, 0, none⟩ (.slice (some ⟨g, 0, none⟩) (xs.length + 1) cap)) :
    OntoT T w w2 p (.slice a xs.length cap0) (xs ++ [c]) := by
  have hlow : ∀ k, (Value.slice a xs.length cap0).ownBlock = some k → p + 1 ≤ k := fun k e => (World.ownsRow.lt hT.2 k e).1
  have hp1 : w1.heap[p]? = some (.cells (.slice a xs.length cap0 :: T.tl).toArray T.t (0, 0)) := (hk.block p hlt (fun e => by have := hlow p e; omega)).trans hT.1
  have hgp : p + 1 ≤ g := by
    rcases hg with h | h
    · exact hlow g h
    · omega
  subst h2
  refine ⟨.slice (some ⟨g, 0, none⟩) (xs.length + 1) cap, ⟨?_, ?_⟩, ?_, ?_⟩
  · show (w1.setCell ⟨p, 0, none⟩ _).heap[p]? = _
    rw [heap_setCell_same hp1]; simp
  · have := owns_far ho (p := ⟨p, 0, none⟩) (by simp [Value.ownBlock]; omega) (.slice (some ⟨g, 0, none⟩) (xs.length + 1) cap)
    unfold OwnB
    rw [List.map_append, List.length_append]
    exact this
  · rcases hg with h | h
    · exact .inl h.symm
    · exact .inr ⟨g, rfl, h⟩
  · exact (hk.mono (fun _ _ h => .inr h)).setCell (fun _ => .inl rfl) _
theorem byte_of (m : Nat) : IntKind.u8.wrap (m : Int) = ((m % 256 : Nat) : Int) := by
  simp [IntKind.wrap, IntKind.bits, IntKind.signed]
theorem div_next (n i : Nat) : n / 256 ^ i / 256 = n / 256 ^ (i + 1) := by rw [Nat.div_div_eq_div_mul, Nat.pow_succ]

set_option maxHeartbeats 4000000 in
set_option maxRecDepth 1000000 in
theorem numb_ok (T : Lay) (p n k : Nat) (v : Value) (xs : List Nat) (w : World) (hn : n < 1099511627776) (hx : xs.length + k ≤ 100000) (hT : Txt T w p v xs) :
    Calls Tryz.prog 105 #[.pointer (some ⟨p, 0, none⟩), .int .i64 (n : Int), .int .i64 (k : Int)] w fun e w' => e = .returned (.tuple #[]) ∧ OntoT T w w' p v (xs ++ le k n) := by
  obtain ⟨i0, hi, hz0, hz1, hz2⟩ := info_parts info5
  have HW : Hid (OntoT T w w p v (xs ++ le 0 n)) := by
    have : xs ++ le 0 n = xs := by simp [le_zero]
    show OntoT T w w p v (xs ++ le 0 n)
    rw [this]; exact OntoT.refl hT
  have hlt := hT.lt
  clear hT
  go_enter Tryz.func105, Tryz.ntmps105
  go_wp2
  go_loopw [1, 7] (fun s1 s7 w' => ∃ i : Nat, i ≤ k ∧ s7 = .int .i64 (i : Int) ∧ s1 = .int .i64 ((n / 256 ^ i : Nat) : Int) ∧ Hid (OntoT T w w' p v (xs ++ le i n))) (fun _ s7 _ => ((k : Int) - intOf s7).toNat)
  case atStart => exact ⟨0, by omega, rfl, by simp, HW⟩
  case round =>
    clear HW
    obtain ⟨i, hik, rfl, rfl, HW⟩ := hrel
    by_cases hin : i < k
    · have hiz : (i : Int) < (k : Int) := by omega
      have HL : Hid (xs ++ le (i + 1) n = (xs ++ le i n) ++ [n / 256 ^ i % 256]) := by
        show _ = _
        rw [le_succ, List.append_assoc]
      have HD : Hid (n / 256 ^ i / 256 = n / 256 ^ (i + 1)) := div_next n i
      have hlen : (xs ++ le i n).length ≤ 100000 := by rw [List.length_append, le_len]; omega
      have hm : n / 256 ^ i < 1099511627776 := Nat.lt_of_le_of_lt (Nat.div_le_self _ _) hn
      generalize n / 256 ^ i = m at *
      generalize xs ++ le i n = ys at *
      obtain ⟨v1, hT1, hb1, hk1⟩ := HW.out
      obtain ⟨a, cap0, rfl⟩ := hT1.slice
      have HT : Hid (Txt T wr p (.slice a ys.length cap0) ys) := hT1
      have HB : Hid (((Value.slice a ys.length cap0).ownBlock = v.ownBlock ∨ ∃ g, (Value.slice a ys.length cap0).ownBlock = some g ∧ w.heap.size ≤ g) ∧ Keeps (fun k => k = p ∨ v.ownBlock = some k) w wr) := ⟨hb1, hk1⟩
      have hlow : ∀ k, (Value.slice a ys.length cap0).ownBlock = some k → p + 1 ≤ k := fun k hk => (hT1.2.lt k hk).1
      have hne : some p ≠ (Value.slice a ys.length cap0).ownBlock := fun h => by have := hlow p h.symm; omega
      have hpl := hT1.lt
      have k0 : wr.cell? ⟨p, 0, none⟩ = some (.slice a ys.length cap0) := cell_of_heap hT1.1 rfl
      have f0 : wr.frozen? ⟨p, 0, none⟩ = false := frozen_of_heap hT1.1
      have HO : Hid (wr.ownsRow (p + 1) 5 1 (.slice a ys.length cap0) ys.length (ys.map byteV)) := hT1.2
      clear hT1 hb1 hk1 hlow HW
      have hb8 := byte_of m
      have hm0 : (0 : Int) ≤ (m : Int) := by omega
      go_wp2_with (at_builtin; refine wpList_append_lies _ rfl (.tmp 13) (.tmp 16) 84 rfl (p + 1) 5 i0 (.int .u8 0) 1 1 Tryz.underlying84 hi hz0 hz1 hz2 rfl (by decide) (.slice a ys.length cap0) ys.length (ys.map byteV) rfl (HO.out.alloc _) ⟨wr.heap.size, 0, none⟩ 1 1 [.int .u8 _] rfl rfl (cell_one_new _ _ _) ?c2 (by decide) ?b1 ?b2 ?b3 (wr.heap.size + 1) (by simp) ?grow)
      case c2 => intro u hu; simp at hu; subst hu; rfl
      case b1 => unfold maxLen; omega
      case b2 => omega
      case b3 => simp; omega
      case grow =>
        intro g cap w1 hown1 hgrow hat hlt1
        have k1 : w1.cell? ⟨p, 0, none⟩ = some (.slice a ys.length cap0) := (hgrow.cell_far ⟨p, 0, none⟩ (by simp; omega) hne).trans (by rw [World.cell?_alloc_past _ _ _ hpl]; exact k0)
        have e1 : w1.frozen? ⟨p, 0, none⟩ = false := (hgrow.frozen_far ⟨p, 0, none⟩ (by simp; omega) hne).trans (by rw [World.frozen?_alloc_past _ _ _ hpl]; exact f0)
        have HO1 : Hid (w1.ownsRow (p + 1) 5 1 (.slice (some ⟨g, 0, none⟩) (ys.length + 1) cap) (ys.length + 1) _) := hown1
        have HK1 : Hid (Keeps (fun k => (Value.slice a ys.length cap0).ownBlock = some k) wr w1) := ((Keeps.refl _ wr).alloc _).grown hgrow (fun k _ e => e)
        have HA : Hid ((Value.slice a ys.length cap0).ownBlock = some g ∨ wr.heap.size ≤ g) := by
          rcases hat with h | h
          · exact .inl h
          · exact .inr (by omega)
        clear hown1 hgrow hat k0 f0 HO
        go_wp2
        go_roundw
        case rel =>
          refine ⟨i + 1, by omega, by push_cast; rfl, ?_, ?_⟩
          · rw [← HD.out]; first | rfl | (congr 1; omega)
          · rw [HL.out]
            refine OntoT.tr HB.out.1 HB.out.2 (onto_byte hpl HT.out ?_ HK1.out HA.out rfl)
            have := HO1.out
            first | exact this | (rw [← hb8]; exact this) | (rw [hb8] at this; exact this) | (simpa using this)
        case measure => simp [intOf]; omega
    · obtain rfl : i = k := by omega
      go_wp2
      go_end0
      exact ⟨rfl, HW.out⟩

end Go.Proofs.YtfbghchgfbjogaaGreat.Zp

namespace Go.Proofs.YtfbghchgfbjogaaGreat.Zp
open Go.RowKit
set_option linter.unusedVariables false
set_option linter.unusedSimpArgs false

theorem OwnB.text {w : World} {base : Nat} {v : Value} {xs : List Nat} (h : OwnB w base v xs) (hy : ∀ y ∈ xs, y < 256) :
    (convert 84 9 v).run Tryz.prog w = .ok (.string (textOf xs)) w := by
  rcases h.2 with ⟨rfl, h0⟩ | ⟨g, cap, cur, rfl, _⟩
  · obtain rfl := List.length_eq_zero_iff.1 h0
    exact run_convert_bytes_nil w 84 5 Tryz.underlying84 Tryz.underlying5 0 0 9 Tryz.underlying9
  · have e : xs.length = (xs.map UInt8.ofNat).length := by rw [List.length_map]
    rw [e]
    refine run_convert_bytes_back w 84 9 5 ⟨g, 0, none⟩ cap (xs.map UInt8.ofNat) Tryz.underlying84 Tryz.underlying5 Tryz.underlying9 ?_
    intro j hj
    rw [List.length_map] at hj
    have hc := (owns_cell h j (byteV xs[j]) (by rw [List.getElem?_map, List.getElem?_eq_getElem hj]; rfl)).1
    rw [addr_add, hc]
    have : xs[j] < 256 := hy _ (List.getElem_mem hj)
    simp only [List.getElem_map, UInt8.toNat_ofNat', byteV]
    rw [Nat.mod_eq_of_lt (by omega)]

set_option maxHeartbeats 4000000 in
set_option maxRecDepth 1000000 in
theorem told_ok (T : Lay) (p : Nat) (v : Value) (xs : List Nat) (w : World) (hy : ∀ y ∈ xs, y < 256) (hT : Txt T w p v xs) :
    Calls Tryz.prog 95 #[.pointer (some ⟨p, 0, none⟩)] w fun e w' => e = .returned (.string (textOf xs)) ∧ w' = w := by
  have k0 : w.cell? ⟨p, 0, none⟩ = some v := cell_of_heap hT.1 rfl
  have hc := hT.2.text hy
  clear hT
  go_enter Tryz.func95, Tryz.ntmps95
  go_wp2
  go_ret
  exact ⟨rfl, rfl⟩

end Go.Proofs.YtfbghchgfbjogaaGreat.Zp

namespace Go.Proofs.YtfbghchgfbjogaaGreat.Zp
open Go.RowKit
set_option linter.unusedVariables false
set_option linter.unusedSimpArgs false

/-- Block g begins with the bytes ys, and none of them is barred. -/
def Byb (w : World) (g : Nat) (ys : List Nat) : Prop :=
  ∃ cs fr, w.heap[g]? = some (.cells cs 5 fr) ∧ (∀ i (h : i < ys.length), cs[i]? = some (byteV ys[i])) ∧ (ys.length ≤ fr.1 ∨ fr.2 = 0)

theorem Byb.cell {w : World} {g : Nat} {ys : List Nat} (h : Byb w g ys) (i : Nat) (hi : i < ys.length) : w.cell? ⟨g, i, none⟩ = some (.int .u8 (ys[i] : Nat)) := by
  obtain ⟨cs, fr, h1, h2, h3⟩ := h
  exact cell_of_heap h1 (h2 i hi)
theorem Byb.free {w : World} {g : Nat} {ys : List Nat} (h : Byb w g ys) (i : Nat) (hi : i < ys.length) : w.frozen? ⟨g, i, none⟩ = false := by
  obtain ⟨cs, fr, h1, h2, h3⟩ := h
  simp only [World.frozen?, h1]
  rcases h3 with h3 | h3
  · simp; omega
  · simp; omega
theorem Byb.set {w : World} {g : Nat} {ys : List Nat} (h : Byb w g ys) (i y : Nat) : Byb (w.setCell ⟨g, i, none⟩ (.int .u8 (y : Nat))) g (ys.set i y) := by
  obtain ⟨cs, fr, h1, h2, h3⟩ := h
  refine ⟨_, fr, heap_setCell_same h1 _, ?_, by simpa using h3⟩
  intro t ht
  rw [List.length_set] at ht
  rw [List.getElem_set, Array.getElem?_setIfInBounds]
  have hc := h2 t ht
  by_cases e : i = t
  · subst e
    have : i < cs.size := (Array.getElem?_eq_some_iff.1 hc).1
    simp [this, byteV]
  · rw [if_neg e, if_neg e]; exact hc
theorem Byb.kept {S : Nat → Prop} {w w' : World} {g : Nat} {ys : List Nat} (h : Byb w g ys) (hk : Keeps S w w') (hg : ¬ S g) : Byb w' g ys := by
  obtain ⟨cs, fr, h1, r⟩ := h
  exact ⟨cs, fr, (hk.block g (lt_of_heap h1) hg).trans h1, r⟩
theorem Byb.text {w : World} {g : Nat} {ys : List Nat} (h : Byb w g ys) (hy : ∀ y ∈ ys, y < 256) (cap : Nat) :
    (convert 84 9 (.slice (some ⟨g, 0, none⟩) ys.length cap)).run Tryz.prog w = .ok (.string (textOf ys)) w := by
  have e : ys.length = (ys.map UInt8.ofNat).length := by rw [List.length_map]
  rw [e]
  refine run_convert_bytes_back w 84 9 5 ⟨g, 0, none⟩ cap (ys.map UInt8.ofNat) Tryz.underlying84 Tryz.underlying5 Tryz.underlying9 ?_
  intro j hj
  rw [List.length_map] at hj
  rw [addr_add, h.cell j hj]
  have : ys[j] < 256 := hy _ (List.getElem_mem hj)
  simp only [List.getElem_map, UInt8.toNat_ofNat']
  rw [Nat.mod_eq_of_lt (by omega)]
end Go.Proofs.YtfbghchgfbjogaaGreat.Zp

namespace Go.Proofs.YtfbghchgfbjogaaGreat.Zp
open Go.RowKit
set_option linter.unusedVariables false
set_option linter.unusedSimpArgs false

/-- A taker of type T lies in block b, and has the bytes L left. -/
def Tkr (T : TypeId) (w : World) (b : Nat) (L : List Nat) : Prop := ∃ r : ByteArray, w.heap[b]? = some (.cells #[.string r] T (0, 0)) ∧ bytesOf r = L ∧ r.size ≤ 140737488355328
theorem Tkr.lt {T : TypeId} {w : World} {b : Nat} {L : List Nat} (h : Tkr T w b L) : b < w.heap.size := by
  obtain ⟨r, h, _⟩ := h; exact lt_of_heap h
theorem Tkr.kept {T : TypeId} {S : Nat → Prop} {w w' : World} {b : Nat} {L : List Nat} (h : Tkr T w b L) (hk : Keeps S w w') (hb : ¬ S b) : Tkr T w' b L := by
  have := h.lt
  obtain ⟨r, h1, h2⟩ := h
  exact ⟨r, (hk.block b this hb).trans h1, h2⟩
theorem Tkr.keptF {T : TypeId} {w w' : World} {b : Nat} {L : List Nat} (h : Tkr T w b L) (hk : Keeps (fun _ => False) w w') : Tkr T w' b L := h.kept hk (fun h => h)

end Go.Proofs.YtfbghchgfbjogaaGreat.Zp

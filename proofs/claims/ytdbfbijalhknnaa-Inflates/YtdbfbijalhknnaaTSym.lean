/-
  A symbol in a block of its own, a row in a variable; the calls Length, LengthOf, Dist, DistOf.
-/
import Derived.Test.YtdbfbijalhknnaaTRw
import Derived.BigQuiet
import Derived.BigRegion
import Derived.OwnWalk
namespace Go.Proofs.Ytdbfbijalhknnaa.Tb
open Go.RowKit
set_option linter.unusedVariables false
set_option linter.unusedSimpArgs false

def syV (t : Sy) : Value := .agg #[.int .i64 t.1, .int .i64 t.2.1, .int .i64 t.2.2]
def cs3 (t : Sy) : List Value := [.int .i64 t.1, .int .i64 t.2.1, .int .i64 t.2.2]
/-- Block b is a symbol. -/
def Syb (w : World) (b : Nat) (t : Sy) : Prop := w.heap[b]? = some (.cells #[.int .i64 t.1, .int .i64 t.2.1, .int .i64 t.2.2] 69 (0, 0))
theorem Syb.lt {w : World} {b : Nat} {t : Sy} (h : Syb w b t) : b < w.heap.size := lt_of_heap h
theorem Syb.kept {S : Nat → Prop} {w w' : World} {b : Nat} {t : Sy} (h : Syb w b t) (hk : Keeps S w w') (hb : ¬ S b) : Syb w' b t := (hk.block b h.lt hb).trans h
theorem Syb.keptF {w w' : World} {b : Nat} {t : Sy} (h : Syb w b t) (hk : Keeps (fun _ => False) w w') : Syb w' b t := h.kept hk (fun h => h)
theorem Syb.c0 {w : World} {b : Nat} {t : Sy} (h : Syb w b t) : w.cell? ⟨b, 0, none⟩ = some (.int .i64 t.1) := cell_of_heap h rfl
theorem Syb.c1 {w : World} {b : Nat} {t : Sy} (h : Syb w b t) : w.cell? ⟨b, 1, none⟩ = some (.int .i64 t.2.1) := cell_of_heap h rfl
theorem Syb.c2 {w : World} {b : Nat} {t : Sy} (h : Syb w b t) : w.cell? ⟨b, 2, none⟩ = some (.int .i64 t.2.2) := cell_of_heap h rfl
theorem Syb.free {w : World} {b : Nat} {t : Sy} (h : Syb w b t) (i : Nat) : w.frozen? ⟨b, i, none⟩ = false := frozen_of_heap h
theorem Syb.new (w : World) (t : Sy) : Syb (w.alloc (.cells #[.int .i64 t.1, .int .i64 t.2.1, .int .i64 t.2.2] 69)) w.heap.size t := heap_alloc_new _ _
theorem Syb.range {w : World} {b : Nat} {t : Sy} (h : Syb w b t) : w.rangeAt b 0 (cs3 t) := fun j v hv => by
  rw [Nat.zero_add]
  match j, hv with
  | 0, hv => simp [cs3] at hv; subst hv; exact h.c0
  | 1, hv => simp [cs3] at hv; subst hv; exact h.c1
  | 2, hv => simp [cs3] at hv; subst hv; exact h.c2
  | j + 3, hv => simp [cs3] at hv
theorem size23 : (Try.prog.info? 69).map (·.size) = some 3 := by kernel_rfl
theorem zero23 : (zeroValue 69).run Try.prog = fun w => .ok (.agg #[.int .i64 0, .int .i64 0, .int .i64 0]) w := by kernel_rfl
theorem zero46 : (zeroValue 141).run Try.prog = fun w => .ok (.agg #[.int .i64 0, .int .i64 0]) w := by kernel_rfl
theorem wpList_alloc3 {ops : Array Oper} {rest : List Oper} {op : Oper} {a : Act} {w : World} {Q : Exit → Act → World → Prop} (hgd : op.guard = none) (ho : op.op = .alloc 69)
    (h : ∀ b w1, Syb w1 b (0, 0, 0) → Keeps (fun _ => False) w w1 → w.heap.size ≤ b → wpList Try.prog ops Q rest (a.put op.dst (.pointer (some ⟨b, 0, none⟩))) w1) : wpList Try.prog ops Q (op :: rest) a w :=
  wpList_plain hgd fun _ hK => by
    unfold Oper.wp execOp
    have hz := congrFun zero23 w
    simp only [ho, Instr.alloc, Sem.run_bind, hz, Result.andThen_ok]
    simp only [newVar, Sem.run_bind, Sem.run_pure, Result.andThen_ok]
    exact hK _ _ (h w.heap.size _ (Syb.new w (0, 0, 0)) ((Keeps.refl _ w).alloc _) (Nat.le_refl _))
theorem wpList_load3 {ops : Array Oper} {rest : List Oper} {op : Oper} {a : Act} {w : World} {Q : Exit → Act → World → Prop} (hgd : op.guard = none) (x : Operand) (ho : op.op = .load 69 x) (b : Nat) (hx : a.eval x = .pointer (some ⟨b, 0, none⟩)) (t : Sy) (hA : Syb w b t)
    (h : wpList Try.prog ops Q rest (a.put op.dst (.agg #[.int .i64 t.1, .int .i64 t.2.1, .int .i64 t.2.2])) w) : wpList Try.prog ops Q (op :: rest) a w :=
  wpList_load_mid hgd 69 x ho b 0 hx (cs3 t) _ hA.range Try.underlying69 rfl size23 h
theorem wpList_load3w {ops : Array Oper} {rest : List Oper} {op : Oper} {a : Act} {w : World} {Q : Exit → Act → World → Prop} (x : Operand) (ho : op.op = .load 69 x) (b : Nat) (hx : a.eval x = .pointer (some ⟨b, 0, none⟩)) (hw : Region.wanted op (yielded ops a.tmps) = true) (t : Sy) (hA : Syb w b t)
    (h : wpList Try.prog ops Q rest (a.put op.dst (.agg #[.int .i64 t.1, .int .i64 t.2.1, .int .i64 t.2.2])) w) : wpList Try.prog ops Q (op :: rest) a w :=
  wpList_step fun K hK => by
    rw [hw]
    exact wp_load_mid 69 x ho b 0 hx (cs3 t) _ hA.range Try.underlying69 rfl size23 (hK _ _ h)
theorem Syb.set {w : World} {b : Nat} {t : Sy} (h : Syb w b t) (u : Sy) : Syb (w.setCells b 0 (cs3 u)) b u := by
  show (((w.setCell ⟨b, 0, none⟩ _).setCell ⟨b, 1, none⟩ _).setCell ⟨b, 2, none⟩ _).heap[b]? = _
  rw [heap_setCell_same (heap_setCell_same (heap_setCell_same h _) _) _]; rfl
theorem Syb.there {w : World} {b : Nat} {t : Sy} (h : Syb w b t) : w.there b 0 3 := fun j hj => by
  refine ⟨?_, h.free _⟩
  match j, hj with
  | 0, _ => rw [show 0 + 0 = 0 from rfl, h.c0]; rfl
  | 1, _ => rw [show 0 + 1 = 1 from rfl, h.c1]; rfl
  | 2, _ => rw [show 0 + 2 = 2 from rfl, h.c2]; rfl
theorem wpList_store3 {ops : Array Oper} {rest : List Oper} {op : Oper} {a : Act} {w : World} {Q : Exit → Act → World → Prop} (hgd : op.guard = none) (x y : Operand) (ho : op.op = .store 69 x y) (b : Nat) (u : Sy) (hx : a.eval x = .pointer (some ⟨b, 0, none⟩)) (hy : a.eval y = .agg #[.int .i64 u.1, .int .i64 u.2.1, .int .i64 u.2.2]) (t : Sy) (hA : Syb w b t)
    (h : ∀ w1, Syb w1 b u → Keeps (fun k => k = b) w w1 → wpList Try.prog ops Q rest (a.put op.dst undef) w1) : wpList Try.prog ops Q (op :: rest) a w :=
  wpList_store_mid hgd 69 x y ho b 0 (cs3 u).toArray hx hy hA.there size23 (all_oneCell_toArray (by intro v hv; simp [cs3] at hv; rcases hv with rfl | rfl | rfl <;> rfl)) (h _ (hA.set u) (keeps_setCells (S := fun k => k = b) b (fun _ => rfl) _ _ _ (Keeps.refl _ w)))
theorem Syb.loadVar {w : World} {b : Nat} {t : Sy} (h : Syb w b t) : (loadVar 69 ⟨b, 0, none⟩).run Try.prog w = .ok (.agg #[.int .i64 t.1, .int .i64 t.2.1, .int .i64 t.2.2]) w :=
  run_loadVar_mid w b 0 69 (cs3 t) _ h.range Try.underlying69 rfl size23
theorem results_cell {fn : Func} {p : Tmp} {ty : TypeId} (h : fn.results = #[.cell p ty]) (tmps : Array Value) (P : Program) (w : World) :
    (results fn tmps).run P w = ((asAddr (tmps.getD p undef)).run P w).andThen fun a w₁ => (Go.loadVar ty a).run P w₁ := by
  simp only [results, h]
  simp [Sem.run_bind, Result.andThen]

/-! ### A row in a variable -/
theorem Prs.new (w : World) : Prs (w.alloc (.cells #[.int .i64 0, .int .i64 0] 141)) w.heap.size 1 (fun _ => (0, 0)) :=
  ⟨_, heap_alloc_new _ _, rfl, fun i hi => by
    obtain rfl : i = 0 := by omega
    exact ⟨rfl, rfl⟩⟩
theorem wpList_alloc2 {ops : Array Oper} {rest : List Oper} {op : Oper} {a : Act} {w : World} {Q : Exit → Act → World → Prop} (hgd : op.guard = none) (ho : op.op = .alloc 141)
    (h : ∀ b w1, Prs w1 b 1 (fun _ => (0, 0)) → Keeps (fun _ => False) w w1 → w.heap.size ≤ b → wpList Try.prog ops Q rest (a.put op.dst (.pointer (some ⟨b, 0, none⟩))) w1) : wpList Try.prog ops Q (op :: rest) a w :=
  wpList_plain hgd fun _ hK => by
    unfold Oper.wp execOp
    have hz := congrFun zero46 w
    simp only [ho, Instr.alloc, Sem.run_bind, hz, Result.andThen_ok]
    simp only [newVar, Sem.run_bind, Sem.run_pure, Result.andThen_ok]
    exact hK _ _ (h w.heap.size _ (Prs.new w) ((Keeps.refl _ w).alloc _) (Nat.le_refl _))
theorem wpList_load2 {ops : Array Oper} {rest : List Oper} {op : Oper} {a : Act} {w : World} {Q : Exit → Act → World → Prop} (hgd : op.guard = none) (x : Operand) (ho : op.op = .load 141 x) (g i n : Nat) (f : Nat → Nat × Nat) (hx : a.eval x = .pointer (some ⟨g, i * 2, none⟩)) (hA : Prs w g n f) (hi : i < n)
    (h : wpList Try.prog ops Q rest (a.put op.dst (.agg #[.int .i64 ((f i).1 : Int), .int .i64 ((f i).2 : Int)])) w) : wpList Try.prog ops Q (op :: rest) a w :=
  wpList_load_mid hgd 141 x ho g (i * 2) hx [.int .i64 ((f i).1 : Int), .int .i64 ((f i).2 : Int)] _ (fun j v hv => by
    match j, hv with
    | 0, hv => simp at hv; subst hv; exact hA.fst i hi
    | 1, hv => simp at hv; subst hv; exact hA.snd i hi
    | j + 2, hv => simp at hv) Try.underlying141 rfl size46 h

set_option maxHeartbeats 4000000 in
set_option maxRecDepth 1000000 in
theorem lengthOf_ok (k : Int) (w : World) : Calls Try.prog 76 #[.int .i64 k] w fun e w' => e = .returned (.tuple #[.int .i64 (ofL k).1, .int .i64 (ofL k).2, .int .i64 (errB (inLS k))]) ∧ Keeps (fun _ => False) w w' := by
  by_cases hl : k < 257
  · have he : inLS k = false := decide_eq_false (by omega)
    have HE : Hid (inLS k = false) := he
    clear he
    go_enter Try.func76, Try.ntmps76
    go_wp2
    go_ret3
    exact ⟨by simp [ofL, errB, HE.out], Keeps.refl _ _⟩
  by_cases hg : 285 < k
  · have he : inLS k = false := decide_eq_false (by omega)
    have HE : Hid (inLS k = false) := he
    clear he
    go_enter Try.func76, Try.ntmps76
    go_wp2
    go_ret3
    exact ⟨by simp [ofL, errB, HE.out], Keeps.refl _ _⟩
  have he : Hid (inLS k = true) := decide_eq_true (by omega)
  obtain ⟨j, rfl⟩ : ∃ j : Nat, k = (j : Int) + 257 := ⟨(k - 257).toNat, by omega⟩
  have hj : j < 29 := by omega
  have HE : Hid (((j : Int) + 257 - 257).toNat = j) := show _ = _ by omega
  have hjw : wrap64 ((j : Int) + 257 - 257) = (j : Int) := by unfold wrap64; omega
  have HC : Hid (∀ w, Calls Try.prog 87 #[] w fun e w' => ∃ g, e = .returned (.slice (some ⟨g, 0, none⟩) 29 29) ∧ Keeps (fun _ => False) w w' ∧ w.heap.size ≤ g ∧ Prs w' g 29 lenF) := fun w => lengths_ok w
  go_enter Try.func76, Try.ntmps76
  go_wp2_with (first
    | (go_at_call 87; refine (HC.out _).mono ?_; rintro e w1 ⟨g, rfl, hK, hg, hP⟩; have HW : Hid (Keeps (fun _ => False) w w1 ∧ w.heap.size ≤ g ∧ Prs w1 g 29 lenF) := ⟨hK, hg, hP⟩; clear hK hg hP)
    | (refine wpList_load2 rfl _ rfl g j 29 lenF rfl HW.out.2.2 hj ?_)
    | (refine wpList_alloc2 rfl rfl ?_; intro b5 w2 hP2 hK2 hb5; have HW2 : Hid (Keeps (fun _ => False) w w2 ∧ w.heap.size ≤ b5 ∧ Prs w2 b5 1 (fun _ => (0, 0))) := ⟨HW.out.1.trans hK2 (fun _ _ h => h), (by have := HW.out.1.size; omega), hP2⟩; clear hK2 hb5 hP2)
    | (refine wpList_row rfl _ _ rfl b5 0 (lenF j).1 (lenF j).2 rfl rfl 1 (fun _ => (0, 0)) HW2.out.2.2 (by decide) ?_; intro w3 hP3 hK3; have HK3 : Hid (Keeps (fun _ => False) w w3) := HW2.out.1.trans hK3 (fun i hi e => by have := HW2.out.2.1; omega); have c1 : w3.cell? ⟨b5, 0, none⟩ = some (.int .i64 ((lenF j).1 : Int)) := hP3.fst 0 (by decide); have c2 : w3.cell? ⟨b5, 1, none⟩ = some (.int .i64 ((lenF j).2 : Int)) := hP3.snd 0 (by decide); clear hK3 hP3))
  go_quiet (fail)
  have HK4 : Hid (Keeps (fun _ => False) w (w3.drewN nq)) := HK3.out.drewN nq
  generalize w3.drewN nq = w4 at *
  go_wp2
  go_ret3
  exact ⟨by unfold ofL errB; rw [if_pos he.out, if_pos he.out, HE.out]; rfl, HK4.out⟩

set_option maxHeartbeats 4000000 in
set_option maxRecDepth 1000000 in
theorem distOf_ok (k : Int) (w : World) : Calls Try.prog 77 #[.int .i64 k] w fun e w' => e = .returned (.tuple #[.int .i64 (ofD k).1, .int .i64 (ofD k).2, .int .i64 (errB (inDS k))]) ∧ Keeps (fun _ => False) w w' := by
  by_cases hl : k < 0
  · have he : inDS k = false := decide_eq_false (by omega)
    have HE : Hid (inDS k = false) := he
    clear he
    go_enter Try.func77, Try.ntmps77
    go_wp2
    go_ret3
    exact ⟨by simp [ofD, errB, HE.out], Keeps.refl _ _⟩
  by_cases hg : 29 < k
  · have he : inDS k = false := decide_eq_false (by omega)
    have HE : Hid (inDS k = false) := he
    clear he
    go_enter Try.func77, Try.ntmps77
    go_wp2
    go_ret3
    exact ⟨by simp [ofD, errB, HE.out], Keeps.refl _ _⟩
  have he : Hid (inDS k = true) := decide_eq_true (by omega)
  obtain ⟨j, rfl⟩ : ∃ j : Nat, k = (j : Int) := ⟨k.toNat, by omega⟩
  have hj : j < 30 := by omega
  have HE : Hid (((j : Int)).toNat = j) := show _ = _ by omega
  have hjw : wrap64 ((j : Int) - 0) = (j : Int) := by unfold wrap64; omega
  have HC : Hid (∀ w, Calls Try.prog 88 #[] w fun e w' => ∃ g, e = .returned (.slice (some ⟨g, 0, none⟩) 30 30) ∧ Keeps (fun _ => False) w w' ∧ w.heap.size ≤ g ∧ Prs w' g 30 dstF) := fun w => dists_ok w
  go_enter Try.func77, Try.ntmps77
  go_wp2_with (first
    | (go_at_call 88; refine (HC.out _).mono ?_; rintro e w1 ⟨g, rfl, hK, hg, hP⟩; have HW : Hid (Keeps (fun _ => False) w w1 ∧ w.heap.size ≤ g ∧ Prs w1 g 30 dstF) := ⟨hK, hg, hP⟩; clear hK hg hP)
    | (refine wpList_load2 rfl _ rfl g j 30 dstF rfl HW.out.2.2 hj ?_)
    | (refine wpList_alloc2 rfl rfl ?_; intro b5 w2 hP2 hK2 hb5; have HW2 : Hid (Keeps (fun _ => False) w w2 ∧ w.heap.size ≤ b5 ∧ Prs w2 b5 1 (fun _ => (0, 0))) := ⟨HW.out.1.trans hK2 (fun _ _ h => h), (by have := HW.out.1.size; omega), hP2⟩; clear hK2 hb5 hP2)
    | (refine wpList_row rfl _ _ rfl b5 0 (dstF j).1 (dstF j).2 rfl rfl 1 (fun _ => (0, 0)) HW2.out.2.2 (by decide) ?_; intro w3 hP3 hK3; have HK3 : Hid (Keeps (fun _ => False) w w3) := HW2.out.1.trans hK3 (fun i hi e => by have := HW2.out.2.1; omega); have c1 : w3.cell? ⟨b5, 0, none⟩ = some (.int .i64 ((dstF j).1 : Int)) := hP3.fst 0 (by decide); have c2 : w3.cell? ⟨b5, 1, none⟩ = some (.int .i64 ((dstF j).2 : Int)) := hP3.snd 0 (by decide); clear hK3 hP3))
  go_quiet (fail)
  have HK4 : Hid (Keeps (fun _ => False) w (w3.drewN nq)) := HK3.out.drewN nq
  generalize w3.drewN nq = w4 at *
  go_wp2
  go_ret3
  exact ⟨by unfold ofD errB; rw [if_pos he.out, if_pos he.out, HE.out]; rfl, HK4.out⟩

end Go.Proofs.Ytdbfbijalhknnaa.Tb

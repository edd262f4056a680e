/-
  The document's forest: three rows in a struct; a tree more, and the least free one.
-/
import Derived.Test.YtfdoppeijgianaaPair
import Derived.BigQuiet
namespace Go.Proofs.Ytfdoppeijgianaa
open Go.RowKit
set_option linter.unusedVariables false
set_option linter.unusedSimpArgs false

def boolsV (bs : List Bool) : List Value := bs.map (fun b => Value.bool b)
theorem boolsV_length (bs : List Bool) : (boolsV bs).length = bs.length := by simp [boolsV]
/-- A slice of bools that a call owns, nil too. -/
def OwnB (w : World) (base : Nat) (v : Value) (bs : List Bool) : Prop := w.ownsRow base 4 1 v bs.length (boolsV bs)
theorem append_bool (w : World) (base : Nat) (v : Value) (bs : List Bool) (h : OwnB w base v bs) (x : Bool) (b : Nat) (hx : w.heap[b]? = some (.cells #[.bool x] 4 (0, 0))) (hb : base ≤ w.heap.size) (hn : bs.length ≤ 1000000) :
    ∃ g cap w', (Builtin.append_ #[49, 49] 49 #[v, .slice (some ⟨b, 0, none⟩) 1 1]).run Try.prog w = .ok (.slice (some ⟨g, 0, none⟩) (bs.length + 1) cap) w' ∧ OwnB w' base (.slice (some ⟨g, 0, none⟩) (bs.length + 1) cap) (bs ++ [x]) ∧ w.grownBy w' v.ownBlock ∧ (v.ownBlock = some g ∨ g = w.heap.size) := by
  obtain ⟨i, hi, h1, h2, h3⟩ : ∃ i, Try.prog.info? 4 = some i ∧ i.zero = some (.bool false) ∧ i.bytes = 1 ∧ i.size = 1 := ⟨Try.t4, Try.type4, rfl, rfl, rfl⟩
  obtain ⟨g, cap, w', hr, ho, hg, hat, hlt⟩ := run_append_lies (P := Try.prog) w 49 49 base 4 i (.bool false) 1 1 Try.underlying49 hi h1 h3 h2 rfl (by decide) v bs.length (boolsV bs) h ⟨b, 0, none⟩ 1 1 [.bool x] rfl (fun j u hu => by
      have hj : j = 0 := by have := (List.getElem?_eq_some_iff.1 hu).1; simp at this; omega
      subst hj
      simp at hu
      subst hu
      exact cell_of_heap hx rfl) (fun u hu => by simp at hu; subst hu; rfl) (by decide) (by unfold maxLen; omega) (by omega) hb _ rfl
  refine ⟨g, cap, w', hr, ?_, hg, hat⟩
  unfold OwnB
  rw [show boolsV (bs ++ [x]) = boolsV bs ++ [.bool x] by simp [boolsV], List.length_append]
  exact ho
theorem wpList_bool {ops : Array Oper} {rest : List Oper} {o : Oper} {a : Act} {w : World} {Q : Exit → Act → World → Prop} (hgd : o.guard = none) (s x : Operand) (ho : o.op = .call { callee := .builtin .append, args := #[s, x], argTypes := #[49, 49] }) (hty : o.type = 49)
    (base : Nat) (v : Value) (bs : List Bool) (hs : a.eval s = v) (hown : OwnB w base v bs) (b : Nat) (y : Bool) (hx : a.eval x = .slice (some ⟨b, 0, none⟩) 1 1) (hR : w.heap[b]? = some (.cells #[.bool y] 4 (0, 0))) (hb : base ≤ w.heap.size) (hn : bs.length ≤ 1000000)
    (h : ∀ g cap w', OwnB w' base (.slice (some ⟨g, 0, none⟩) (bs.length + 1) cap) (bs ++ [y]) → w.grownBy w' v.ownBlock → (v.ownBlock = some g ∨ g = w.heap.size) → wpList Try.prog ops Q rest (a.put o.dst (.slice (some ⟨g, 0, none⟩) (bs.length + 1) cap)) w') : wpList Try.prog ops Q (o :: rest) a w :=
  wpList_plain hgd fun _ hK => by
    obtain ⟨g, cap, w', hr, h2, h3, h4⟩ := append_bool w base v bs hown y b hR hb hn
    unfold Oper.wp execOp
    simp only [ho, hty, resolve, invoke, builtin, Sem.run_bind, Sem.run_pure, Result.andThen_ok, List.map_toArray, List.map_cons, List.map_nil, hs, hx, hr]
    exact hK _ _ (h g cap w' h2 h3 h4)

/-- Three rows of a call's own, apart from each other. -/
structure Own3 (w : World) (base : Nat) (vw vu vf : Value) (W U : List Int) (F : List Bool) : Prop where
  ow : OwnV w base vw W
  ou : OwnV w base vu U
  of' : OwnB w base vf F
  wu : ∀ k, vw.ownBlock = some k → vu.ownBlock ≠ some k
  wf : ∀ k, vw.ownBlock = some k → vf.ownBlock ≠ some k
  uf : ∀ k, vu.ownBlock = some k → vf.ownBlock ≠ some k
theorem Own3.kept {S : Nat → Prop} {w w' : World} {base : Nat} {vw vu vf : Value} {W U : List Int} {F : List Bool} (h : Own3 w base vw vu vf W U F) (hk : Keeps S w w') (hs : ∀ b, base ≤ b → ¬ S b) : Own3 w' base vw vu vf W U F :=
  ⟨h.ow.kept hk (fun k e => hs k (World.ownsRow.lt h.ow k e).1), h.ou.kept hk (fun k e => hs k (World.ownsRow.lt h.ou k e).1), owns_heap h.of' (fun k e => hk.block k (World.ownsRow.lt h.of' k e).2 (hs k (World.ownsRow.lt h.of' k e).1)), h.wu, h.wf, h.uf⟩
theorem ownBlock_slice (g n c : Nat) : (Value.slice (some ⟨g, 0, none⟩) n c).ownBlock = some g := rfl
theorem Own3.w {w w' : World} {base g n c : Nat} {vw vu vf : Value} {W U W' : List Int} {F : List Bool} (h : Own3 w base vw vu vf W U F) (ho : OwnV w' base (.slice (some ⟨g, 0, none⟩) n c) W') (hg : w.grownBy w' vw.ownBlock) (ha : vw.ownBlock = some g ∨ g = w.heap.size) : Own3 w' base (.slice (some ⟨g, 0, none⟩) n c) vu vf W' U F := by
  refine ⟨ho, owns_heap h.ou (fun k e => hg.block k (World.ownsRow.lt h.ou k e).2 (fun e' => h.wu k e'.symm e)), owns_heap h.of' (fun k e => hg.block k (World.ownsRow.lt h.of' k e).2 (fun e' => h.wf k e'.symm e)), fun k e e' => ?_, fun k e e' => ?_, h.uf⟩
  · rw [ownBlock_slice] at e
    obtain rfl := Option.some.inj e
    rcases ha with ha | ha
    · exact h.wu g ha e'
    · have := (World.ownsRow.lt h.ou g e').2; omega
  · rw [ownBlock_slice] at e
    obtain rfl := Option.some.inj e
    rcases ha with ha | ha
    · exact h.wf g ha e'
    · have := (World.ownsRow.lt h.of' g e').2; omega
theorem Own3.u {w w' : World} {base g n c : Nat} {vw vu vf : Value} {W U U' : List Int} {F : List Bool} (h : Own3 w base vw vu vf W U F) (ho : OwnV w' base (.slice (some ⟨g, 0, none⟩) n c) U') (hg : w.grownBy w' vu.ownBlock) (ha : vu.ownBlock = some g ∨ g = w.heap.size) : Own3 w' base vw (.slice (some ⟨g, 0, none⟩) n c) vf W U' F := by
  refine ⟨owns_heap h.ow (fun k e => hg.block k (World.ownsRow.lt h.ow k e).2 (fun e' => h.wu k e e'.symm)), ho, owns_heap h.of' (fun k e => hg.block k (World.ownsRow.lt h.of' k e).2 (fun e' => h.uf k e'.symm e)), fun k e e' => ?_, h.wf, fun k e e' => ?_⟩
  · rw [ownBlock_slice] at e'
    obtain rfl := Option.some.inj e'
    rcases ha with ha | ha
    · exact h.wu g e ha
    · have := (World.ownsRow.lt h.ow g e).2; omega
  · rw [ownBlock_slice] at e
    obtain rfl := Option.some.inj e
    rcases ha with ha | ha
    · exact h.uf g ha e'
    · have := (World.ownsRow.lt h.of' g e').2; omega
theorem Own3.f {w w' : World} {base g n c : Nat} {vw vu vf : Value} {W U : List Int} {F F' : List Bool} (h : Own3 w base vw vu vf W U F) (ho : OwnB w' base (.slice (some ⟨g, 0, none⟩) n c) F') (hg : w.grownBy w' vf.ownBlock) (ha : vf.ownBlock = some g ∨ g = w.heap.size) : Own3 w' base vw vu (.slice (some ⟨g, 0, none⟩) n c) W U F' := by
  refine ⟨owns_heap h.ow (fun k e => hg.block k (World.ownsRow.lt h.ow k e).2 (fun e' => h.wf k e e'.symm)), owns_heap h.ou (fun k e => hg.block k (World.ownsRow.lt h.ou k e).2 (fun e' => h.uf k e e'.symm)), ho, h.wu, fun k e e' => ?_, fun k e e' => ?_⟩
  · rw [ownBlock_slice] at e'
    obtain rfl := Option.some.inj e'
    rcases ha with ha | ha
    · exact h.wf g e ha
    · have := (World.ownsRow.lt h.ow g e).2; omega
  · rw [ownBlock_slice] at e'
    obtain rfl := Option.some.inj e'
    rcases ha with ha | ha
    · exact h.uf g e ha
    · have := (World.ownsRow.lt h.ou g e).2; omega
/-- The document's forest in block p: weights, what each is joined into, which are free. -/
structure Rf (w : World) (p : Nat) (vw vu vf : Value) (W : List Nat) (U : List Int) (F : List Bool) : Prop where
  blk : w.heap[p]? = some (.cells #[vw, vu, vf] 51 (0, 0))
  own : Own3 w (p + 1) vw vu vf (ints W) U F
  lenU : U.length = W.length
  lenF : F.length = W.length
theorem Rf.kept {S : Nat → Prop} {w w' : World} {p : Nat} {vw vu vf : Value} {W : List Nat} {U : List Int} {F : List Bool} (h : Rf w p vw vu vf W U F) (hk : Keeps S w w') (hs : ∀ b, p ≤ b → ¬ S b) : Rf w' p vw vu vf W U F :=
  ⟨(hk.block p (lt_of_heap h.blk) (hs p (Nat.le_refl _))).trans h.blk, h.own.kept hk (fun b hb => hs b (by omega)), h.lenU, h.lenF⟩
/-- The struct's block behind an append to one of its rows. -/
theorem blk_grown {w w' : World} {p : Nat} {cs : Array Value} {o : Obj} {r : Option Nat} (h : w.heap[p]? = some (.cells cs 51 (0, 0))) (hg : (w.alloc o).grownBy w' r) (hr : r ≠ some p) : w'.heap[p]? = some (.cells cs 51 (0, 0)) := by
  have hl := lt_of_heap h
  rw [hg.block p (by simp; omega) (fun e => hr e.symm), Below.heap_alloc _ _ _ hl]; exact h
theorem own_ne {w : World} {p : Nat} {e : TypeId} {s : Nat} {v : Value} {n : Nat} {xs : List Value} (h : w.ownsRow (p + 1) e s v n xs) : v.ownBlock ≠ some p := fun e' => by
  have := (World.ownsRow.lt h p e').1; omega

set_option maxHeartbeats 4000000 in
set_option maxRecDepth 1000000 in
theorem add_ok (p : Nat) (vw vu vf : Value) (W : List Nat) (U : List Int) (F : List Bool) (x : Nat) (w : World) (h : Rf w p vw vu vf W U F) (hn : W.length ≤ 1000) :
    Calls Try.prog 29 #[.pointer (some ⟨p, 0, none⟩), .int .i64 (x : Int)] w fun e w' => e = .returned (.tuple #[]) ∧ ∃ vw' vu' vf', Rf w' p vw' vu' vf' (W ++ [x]) (U ++ [-1]) (F ++ [true]) ∧ Keeps (fun b => p ≤ b) w w' := by
  have c0 : w.cell? ⟨p, 0, none⟩ = some vw := cell_of_heap h.blk rfl
  have hfr : w.frozen? ⟨p, 0, none⟩ = false := frozen_of_heap h.blk
  have hlt : p < w.heap.size := lt_of_heap h.blk
  have HR : Hid (Rf w p vw vu vf W U F) := h
  clear h
  have stepK : ∀ (u u' : World) (o : Obj) (r : Option Nat), Keeps (fun b => p ≤ b) w u → (u.alloc o).grownBy u' r → (∀ k, r = some k → p ≤ k) → Keeps (fun b => p ≤ b) w u' := fun u u' o r h1 h2 h3 => (h1.alloc o).grown h2 (fun k _ e => h3 k e)
  have HSt : Hid (∀ (u u' : World) (o : Obj) (r : Option Nat), Keeps (fun b => p ≤ b) w u → (u.alloc o).grownBy u' r → (∀ k, r = some k → p ≤ k) → Keeps (fun b => p ≤ b) w u') := stepK
  clear stepK
  have HKs : Hid (∀ (u : World) (i : Nat) (v : Value) (o : Obj), Keeps (fun b => b = p) u ((u.setCell ⟨p, i, none⟩ v).alloc o)) := fun u i v o => ((Keeps.refl (fun b => b = p) u).setCell (p := ⟨p, i, none⟩) (fun _ => rfl) v).alloc o
  have HNw : Hid (∀ (u : World) (i : Nat) (v : Value) (o : Obj), ((u.setCell ⟨p, i, none⟩ v).alloc o).heap[u.heap.size]? = some o) := fun u i v o => by
    have := heap_alloc_new (u.setCell ⟨p, i, none⟩ v) o
    rw [heap_size_setCell] at this; exact this
  have HBs : Hid (∀ (u : World) (i : Nat) (v : Value) (cs : Array Value), u.heap[p]? = some (.cells cs 51 (0, 0)) → (u.setCell ⟨p, i, none⟩ v).heap[p]? = some (.cells (cs.setIfInBounds i v) 51 (0, 0))) := fun u i v cs h => heap_setCell_same h v
  go_enter Try.func29, Try.ntmps29
  go_wp2_with (first
    | ((fail_if_success (clear H1)); refine wpList_one rfl _ _ rfl rfl (p + 1) vw (ints W) rfl (HR.out.own.ow.kept ((Keeps.refl (fun _ => False) w).alloc _) (fun _ _ h => h)) w.heap.size (x : Int) rfl (heap_alloc_new _ _) ?hb ?hn ?_; (case hb => simp; omega); (case hn => rw [ints_length]; omega); intro gw cw w1 hO1 hG1 hA1; have hb1 := blk_grown HR.out.blk hG1 (own_ne HR.out.own.ow); have H1 : Hid (w1.heap[p]? = some (.cells #[vw, vu, vf] 51 (0, 0)) ∧ Own3 w1 (p + 1) (.slice (some ⟨gw, 0, none⟩) ((ints W).length + 1) cw) vu vf (ints W ++ [(x : Int)]) U F ∧ Keeps (fun b => p ≤ b) w w1) := ⟨hb1, (HR.out.own.kept ((Keeps.refl (fun _ => False) w).alloc _) (fun _ _ h => h)).w hO1 hG1 hA1, HSt.out w w1 _ _ (Keeps.refl _ _) hG1 (fun k e => by (have := (World.ownsRow.lt HR.out.own.ow k e).1; omega))⟩; have d0 : w1.cell? ⟨p, 0, none⟩ = some vw := cell_of_heap hb1 rfl; have d1 : w1.cell? ⟨p, 1, none⟩ = some vu := cell_of_heap hb1 rfl; have df : w1.frozen? ⟨p, 0, none⟩ = false := frozen_of_heap hb1; have dl : p < w1.heap.size := lt_of_heap hb1; clear hO1 hG1 hA1 hb1 c0 hfr hlt)
    | ((fail_if_success (clear H2)); refine wpList_one rfl _ _ rfl rfl (p + 1) vu U rfl (H1.out.2.1.kept (HKs.out w1 0 _ _) (fun b hb e => by omega)).ou w1.heap.size (-1 : Int) rfl (HNw.out w1 0 _ _) ?hb ?hn ?_; (case hb => simp [heap_size_setCell]; omega); (case hn => rw [HR.out.lenU]; omega); intro gu cu w2 hO2 hG2 hA2; have hb2 := blk_grown (HBs.out w1 0 _ _ H1.out.1) hG2 (own_ne (H1.out.2.1.kept (HKs.out w1 0 (.slice (some ⟨gw, 0, none⟩) ((ints W).length + 1) cw) (.cells #[.int .i64 (-1)] 3)) (fun b hb e => by omega)).ou); have H2 : Hid (w2.heap[p]? = some (.cells #[.slice (some ⟨gw, 0, none⟩) ((ints W).length + 1) cw, vu, vf] 51 (0, 0)) ∧ Own3 w2 (p + 1) (.slice (some ⟨gw, 0, none⟩) ((ints W).length + 1) cw) (.slice (some ⟨gu, 0, none⟩) (U.length + 1) cu) vf (ints W ++ [(x : Int)]) (U ++ [-1]) F ∧ Keeps (fun b => p ≤ b) w w2) := ⟨hb2, (H1.out.2.1.kept (HKs.out w1 0 _ _) (fun b hb e => by omega)).u hO2 hG2 hA2, HSt.out _ w2 _ _ (H1.out.2.2.setCell (fun _ => Nat.le_refl p) _) hG2 (fun k e => by (have := (World.ownsRow.lt H1.out.2.1.ou k e).1; omega))⟩; have d0 : w2.cell? ⟨p, 1, none⟩ = some vu := cell_of_heap hb2 rfl; have d1 : w2.cell? ⟨p, 2, none⟩ = some vf := cell_of_heap hb2 rfl; have df : w2.frozen? ⟨p, 1, none⟩ = false := frozen_of_heap hb2; have dl : p < w2.heap.size := lt_of_heap hb2; clear hO2 hG2 hA2 hb2)
    | (refine wpList_bool rfl _ _ rfl rfl (p + 1) vf F rfl (H2.out.2.1.kept (HKs.out w2 1 _ _) (fun b hb e => by omega)).of' w2.heap.size true rfl (HNw.out w2 1 _ _) ?hb ?hn ?_; (case hb => simp [heap_size_setCell]; omega); (case hn => rw [HR.out.lenF]; omega); intro gf cf w3 hO3 hG3 hA3; have hb3 := blk_grown (HBs.out w2 1 _ _ H2.out.1) hG3 (own_ne (H2.out.2.1.kept (HKs.out w2 1 (.slice (some ⟨gu, 0, none⟩) (U.length + 1) cu) (.cells #[.bool true] 4)) (fun b hb e => by omega)).of'); have H3 : Hid (w3.heap[p]? = some (.cells #[.slice (some ⟨gw, 0, none⟩) ((ints W).length + 1) cw, .slice (some ⟨gu, 0, none⟩) (U.length + 1) cu, vf] 51 (0, 0)) ∧ Own3 w3 (p + 1) (.slice (some ⟨gw, 0, none⟩) ((ints W).length + 1) cw) (.slice (some ⟨gu, 0, none⟩) (U.length + 1) cu) (.slice (some ⟨gf, 0, none⟩) (F.length + 1) cf) (ints W ++ [(x : Int)]) (U ++ [-1]) (F ++ [true]) ∧ Keeps (fun b => p ≤ b) w w3) := ⟨hb3, (H2.out.2.1.kept (HKs.out w2 1 _ _) (fun b hb e => by omega)).f hO3 hG3 hA3, HSt.out _ w3 _ _ (H2.out.2.2.setCell (fun _ => Nat.le_refl p) _) hG3 (fun k e => by (have := (World.ownsRow.lt H2.out.2.1.of' k e).1; omega))⟩; have d0 : w3.cell? ⟨p, 2, none⟩ = some vf := cell_of_heap hb3 rfl; have df : w3.frozen? ⟨p, 2, none⟩ = false := frozen_of_heap hb3; clear hO3 hG3 hA3 hb3))
  go_end0
  obtain ⟨e1, e2, e3⟩ := H3.out
  refine ⟨rfl, _, _, _, ⟨HBs.out w3 2 _ _ e1, ?_, by simp [HR.out.lenU], by simp [HR.out.lenF]⟩, e3.setCell (fun _ => Nat.le_refl p) _⟩
  rw [ints_append]
  exact e2.kept ((Keeps.refl (fun b => b = p) w3).setCell (p := ⟨p, 2, none⟩) (fun _ => rfl) _) (fun b hb e => by omega)

end Go.Proofs.Ytfdoppeijgianaa

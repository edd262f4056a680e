/-
  The document's forest: three rows in a struct; a tree more, and the least free one. The document's forest: the least free tree. The document's depths.
-/
import Derived.Test.YtdbfbijalhknnaaRows
import Derived.Test.YtdbfbijalhknnaaG14
import Derived.BigQuiet
import Derived.BigRegion
import Derived.Deep.RegionWith
namespace Go.Proofs.Ytdbfbijalhknnaa.Lm
open Go.RowKit
set_option linter.unusedVariables false
set_option linter.unusedSimpArgs false

def boolsV (bs : List Bool) : List Value := bs.map (fun b => Value.bool b)
theorem boolsV_length (bs : List Bool) : (boolsV bs).length = bs.length := by simp [boolsV]
/-- A slice of bools that a call owns, nil too. -/
def OwnB (w : World) (base : Nat) (v : Value) (bs : List Bool) : Prop := w.ownsRow base 4 1 v bs.length (boolsV bs)
set_option maxRecDepth 100000 in
theorem append_bool (w : World) (base : Nat) (v : Value) (bs : List Bool) (h : OwnB w base v bs) (x : Bool) (b : Nat) (hx : w.heap[b]? = some (.cells #[.bool x] 4 (0, 0))) (hb : base ≤ w.heap.size) (hn : bs.length ≤ 1000000) :
    ∃ g cap w', (Builtin.append_ #[110, 110] 110 #[v, .slice (some ⟨b, 0, none⟩) 1 1]).run Try.prog w = .ok (.slice (some ⟨g, 0, none⟩) (bs.length + 1) cap) w' ∧ OwnB w' base (.slice (some ⟨g, 0, none⟩) (bs.length + 1) cap) (bs ++ [x]) ∧ w.grownBy w' v.ownBlock ∧ (v.ownBlock = some g ∨ g = w.heap.size) := by
  obtain ⟨i, hi, h1, h2, h3⟩ : ∃ i, Try.prog.info? 4 = some i ∧ i.zero = some (.bool false) ∧ i.bytes = 1 ∧ i.size = 1 := ⟨Try.t4, Try.type4, rfl, rfl, rfl⟩
  obtain ⟨g, cap, w', hr, ho, hg, hat, hlt⟩ := run_append_lies (P := Try.prog) w 110 110 base 4 i (.bool false) 1 1 Try.underlying110 hi h1 h3 h2 rfl (by decide) v bs.length (boolsV bs) h ⟨b, 0, none⟩ 1 1 [.bool x] rfl (fun j u hu => by
      have hj : j = 0 := by have := (List.getElem?_eq_some_iff.1 hu).1; simp at this; omega
      subst hj
      simp at hu
      subst hu
      exact cell_of_heap hx rfl) (fun u hu => by simp at hu; subst hu; rfl) (by decide) (by unfold maxLen; omega) (by omega) hb _ rfl
  refine ⟨g, cap, w', hr, ?_, hg, hat⟩
  unfold OwnB
  rw [show boolsV (bs ++ [x]) = boolsV bs ++ [.bool x] by simp [boolsV], List.length_append]
  exact ho
theorem wpList_bool {ops : Array Oper} {rest : List Oper} {o : Oper} {a : Act} {w : World} {Q : Exit → Act → World → Prop} (hgd : o.guard = none) (s x : Operand) (ho : o.op = .call { callee := .builtin .append, args := #[s, x], argTypes := #[110, 110] }) (hty : o.type = 110)
    (base : Nat) (v : Value) (bs : List Bool) (hs : a.eval s = v) (hown : OwnB w base v bs) (b : Nat) (y : Bool) (hx : a.eval x = .slice (some ⟨b, 0, none⟩) 1 1) (hR : w.heap[b]? = some (.cells #[.bool y] 4 (0, 0))) (hb : base ≤ w.heap.size) (hn : bs.length ≤ 1000000)
    (h : ∀ g cap w', OwnB w' base (.slice (some ⟨g, 0, none⟩) (bs.length + 1) cap) (bs ++ [y]) → w.grownBy w' v.ownBlock → (v.ownBlock = some g ∨ g = w.heap.size) → wpList Try.prog ops Q rest (a.put o.dst (.slice (some ⟨g, 0, none⟩) (bs.length + 1) cap)) w') : wpList Try.prog ops Q (o :: rest) a w :=
  wpList_plain hgd fun _ hK => by
    obtain ⟨g, cap, w', hr, h2, h3, h4⟩ := append_bool w base v bs hown y b hR hb hn
    unfold Oper.wp execOp
    simp only [ho, hty, resolve, invoke, builtin, Sem.run_bind, Sem.run_pure, Result.andThen_ok, List.map_toArray, List.map_cons, List.map_nil, hs, hx, hr]
    exact hK _ _ (h g cap w' h2 h3 h4)

/-- Three rows of a call's own, apart from each other. -/
structure Own3 (w : World) (base : Nat) (vw vu vf : Value) (W U : List Int) (F : List Bool) : Prop where
  ow : OwnV w base vw W
  ou : OwnV w base vu U
  of' : OwnB w base vf F
  wu : ∀ k, vw.ownBlock = some k → vu.ownBlock ≠ some k
  wf : ∀ k, vw.ownBlock = some k → vf.ownBlock ≠ some k
  uf : ∀ k, vu.ownBlock = some k → vf.ownBlock ≠ some k
theorem Own3.kept {S : Nat → Prop} {w w' : World} {base : Nat} {vw vu vf : Value} {W U : List Int} {F : List Bool} (h : Own3 w base vw vu vf W U F) (hk : Keeps S w w') (hs : ∀ b, base ≤ b → ¬ S b) : Own3 w' base vw vu vf W U F :=
  ⟨h.ow.kept hk (fun k e => hs k (World.ownsRow.lt h.ow k e).1), h.ou.kept hk (fun k e => hs k (World.ownsRow.lt h.ou k e).1), owns_heap h.of' (fun k e => hk.block k (World.ownsRow.lt h.of' k e).2 (hs k (World.ownsRow.lt h.of' k e).1)), h.wu, h.wf, h.uf⟩
theorem ownBlock_slice (g n c : Nat) : (Value.slice (some ⟨g, 0, none⟩) n c).ownBlock = some g := rfl
theorem Own3.w {w w' : World} {base g n c : Nat} {vw vu vf : Value} {W U W' : List Int} {F : List Bool} (h : Own3 w base vw vu vf W U F) (ho : OwnV w' base (.slice (some ⟨g, 0, none⟩) n c) W') (hg : w.grownBy w' vw.ownBlock) (ha : vw.ownBlock = some g ∨ g = w.heap.size) : Own3 w' base (.slice (some ⟨g, 0, none⟩) n c) vu vf W' U F := by
  refine ⟨ho, owns_heap h.ou (fun k e => hg.block k (World.ownsRow.lt h.ou k e).2 (fun e' => h.wu k e'.symm e)), owns_heap h.of' (fun k e => hg.block k (World.ownsRow.lt h.of' k e).2 (fun e' => h.wf k e'.symm e)), fun k e e' => ?_, fun k e e' => ?_, h.uf⟩
  · rw [ownBlock_slice] at e
    obtain rfl := Option.some.inj e
    rcases ha with ha | ha
    · exact h.wu g ha e'
    · have := (World.ownsRow.lt h.ou g e').2; omega
  · rw [ownBlock_slice] at e
    obtain rfl := Option.some.inj e
    rcases ha with ha | ha
    · exact h.wf g ha e'
    · have := (World.ownsRow.lt h.of' g e').2; omega
theorem Own3.u {w w' : World} {base g n c : Nat} {vw vu vf : Value} {W U U' : List Int} {F : List Bool} (h : Own3 w base vw vu vf W U F) (ho : OwnV w' base (.slice (some ⟨g, 0, none⟩) n c) U') (hg : w.grownBy w' vu.ownBlock) (ha : vu.ownBlock = some g ∨ g = w.heap.size) : Own3 w' base vw (.slice (some ⟨g, 0, none⟩) n c) vf W U' F := by
  refine ⟨owns_heap h.ow (fun k e => hg.block k (World.ownsRow.lt h.ow k e).2 (fun e' => h.wu k e e'.symm)), ho, owns_heap h.of' (fun k e => hg.block k (World.ownsRow.lt h.of' k e).2 (fun e' => h.uf k e'.symm e)), fun k e e' => ?_, h.wf, fun k e e' => ?_⟩
  · rw [ownBlock_slice] at e'
    obtain rfl := Option.some.inj e'
    rcases ha with ha | ha
    · exact h.wu g e ha
    · have := (World.ownsRow.lt h.ow g e).2; omega
  · rw [ownBlock_slice] at e
    obtain rfl := Option.some.inj e
    rcases ha with ha | ha
    · exact h.uf g ha e'
    · have := (World.ownsRow.lt h.of' g e').2; omega
theorem Own3.f {w w' : World} {base g n c : Nat} {vw vu vf : Value} {W U : List Int} {F F' : List Bool} (h : Own3 w base vw vu vf W U F) (ho : OwnB w' base (.slice (some ⟨g, 0, none⟩) n c) F') (hg : w.grownBy w' vf.ownBlock) (ha : vf.ownBlock = some g ∨ g = w.heap.size) : Own3 w' base vw vu (.slice (some ⟨g, 0, none⟩) n c) W U F' := by
  refine ⟨owns_heap h.ow (fun k e => hg.block k (World.ownsRow.lt h.ow k e).2 (fun e' => h.wf k e e'.symm)), owns_heap h.ou (fun k e => hg.block k (World.ownsRow.lt h.ou k e).2 (fun e' => h.uf k e e'.symm)), ho, h.wu, fun k e e' => ?_, fun k e e' => ?_⟩
  · rw [ownBlock_slice] at e'
    obtain rfl := Option.some.inj e'
    rcases ha with ha | ha
    · exact h.wf g e ha
    · have := (World.ownsRow.lt h.ow g e).2; omega
  · rw [ownBlock_slice] at e'
    obtain rfl := Option.some.inj e'
    rcases ha with ha | ha
    · exact h.uf g e ha
    · have := (World.ownsRow.lt h.ou g e).2; omega
/-- The document's forest in block p: weights, what each is joined into, which are free. -/
structure Rf (w : World) (p : Nat) (vw vu vf : Value) (W : List Nat) (U : List Int) (F : List Bool) : Prop where
  blk : w.heap[p]? = some (.cells #[vw, vu, vf] 112 (0, 0))
  own : Own3 w (p + 1) vw vu vf (ints W) U F
  lenU : U.length = W.length
  lenF : F.length = W.length
theorem Rf.kept {S : Nat → Prop} {w w' : World} {p : Nat} {vw vu vf : Value} {W : List Nat} {U : List Int} {F : List Bool} (h : Rf w p vw vu vf W U F) (hk : Keeps S w w') (hs : ∀ b, p ≤ b → ¬ S b) : Rf w' p vw vu vf W U F :=
  ⟨(hk.block p (lt_of_heap h.blk) (hs p (Nat.le_refl _))).trans h.blk, h.own.kept hk (fun b hb => hs b (by omega)), h.lenU, h.lenF⟩
/-- The struct's block behind an append to one of its rows. -/
theorem blk_grown {w w' : World} {p : Nat} {cs : Array Value} {o : Obj} {r : Option Nat} (h : w.heap[p]? = some (.cells cs 112 (0, 0))) (hg : (w.alloc o).grownBy w' r) (hr : r ≠ some p) : w'.heap[p]? = some (.cells cs 112 (0, 0)) := by
  have hl := lt_of_heap h
  rw [hg.block p (by simp; omega) (fun e => hr e.symm), Below.heap_alloc _ _ _ hl]; exact h
theorem own_ne {w : World} {p : Nat} {e : TypeId} {s : Nat} {v : Value} {n : Nat} {xs : List Value} (h : w.ownsRow (p + 1) e s v n xs) : v.ownBlock ≠ some p := fun e' => by
  have := (World.ownsRow.lt h p e').1; omega

set_option maxHeartbeats 4000000 in
set_option maxRecDepth 1000000 in
theorem add_ok (p : Nat) (vw vu vf : Value) (W : List Nat) (U : List Int) (F : List Bool) (x : Nat) (w : World) (h : Rf w p vw vu vf W U F) (hn : W.length ≤ 1000) :
    Calls Try.prog 63 #[.pointer (some ⟨p, 0, none⟩), .int .i64 (x : Int)] w fun e w' => e = .returned (.tuple #[]) ∧ ∃ vw' vu' vf', Rf w' p vw' vu' vf' (W ++ [x]) (U ++ [-1]) (F ++ [true]) ∧ Keeps (fun b => p ≤ b) w w' := by
  have c0 : w.cell? ⟨p, 0, none⟩ = some vw := cell_of_heap h.blk rfl
  have hfr : w.frozen? ⟨p, 0, none⟩ = false := frozen_of_heap h.blk
  have hlt : p < w.heap.size := lt_of_heap h.blk
  have HR : Hid (Rf w p vw vu vf W U F) := h
  clear h
  have stepK : ∀ (u u' : World) (o : Obj) (r : Option Nat), Keeps (fun b => p ≤ b) w u → (u.alloc o).grownBy u' r → (∀ k, r = some k → p ≤ k) → Keeps (fun b => p ≤ b) w u' := fun u u' o r h1 h2 h3 => (h1.alloc o).grown h2 (fun k _ e => h3 k e)
  have HSt : Hid (∀ (u u' : World) (o : Obj) (r : Option Nat), Keeps (fun b => p ≤ b) w u → (u.alloc o).grownBy u' r → (∀ k, r = some k → p ≤ k) → Keeps (fun b => p ≤ b) w u') := stepK
  clear stepK
  have HKs : Hid (∀ (u : World) (i : Nat) (v : Value) (o : Obj), Keeps (fun b => b = p) u ((u.setCell ⟨p, i, none⟩ v).alloc o)) := fun u i v o => ((Keeps.refl (fun b => b = p) u).setCell (p := ⟨p, i, none⟩) (fun _ => rfl) v).alloc o
  have HNw : Hid (∀ (u : World) (i : Nat) (v : Value) (o : Obj), ((u.setCell ⟨p, i, none⟩ v).alloc o).heap[u.heap.size]? = some o) := fun u i v o => by
    have := heap_alloc_new (u.setCell ⟨p, i, none⟩ v) o
    rw [heap_size_setCell] at this; exact this
  have HBs : Hid (∀ (u : World) (i : Nat) (v : Value) (cs : Array Value), u.heap[p]? = some (.cells cs 112 (0, 0)) → (u.setCell ⟨p, i, none⟩ v).heap[p]? = some (.cells (cs.setIfInBounds i v) 112 (0, 0))) := fun u i v cs h => heap_setCell_same h v
  go_enter Try.func63, Try.ntmps63
  go_wp2_with (first
    | ((fail_if_success (clear H1)); refine wpList_one rfl _ _ rfl rfl (p + 1) vw (ints W) rfl (HR.out.own.ow.kept ((Keeps.refl (fun _ => False) w).alloc _) (fun _ _ h => h)) w.heap.size (x : Int) rfl (heap_alloc_new _ _) ?hb ?hn ?_; (case hb => simp; omega); (case hn => rw [ints_length]; omega); intro gw cw w1 hO1 hG1 hA1; have hb1 := blk_grown HR.out.blk hG1 (own_ne HR.out.own.ow); have H1 : Hid (w1.heap[p]? = some (.cells #[vw, vu, vf] 112 (0, 0)) ∧ Own3 w1 (p + 1) (.slice (some ⟨gw, 0, none⟩) ((ints W).length + 1) cw) vu vf (ints W ++ [(x : Int)]) U F ∧ Keeps (fun b => p ≤ b) w w1) := ⟨hb1, (HR.out.own.kept ((Keeps.refl (fun _ => False) w).alloc _) (fun _ _ h => h)).w hO1 hG1 hA1, HSt.out w w1 _ _ (Keeps.refl _ _) hG1 (fun k e => by (have := (World.ownsRow.lt HR.out.own.ow k e).1; omega))⟩; have d0 : w1.cell? ⟨p, 0, none⟩ = some vw := cell_of_heap hb1 rfl; have d1 : w1.cell? ⟨p, 1, none⟩ = some vu := cell_of_heap hb1 rfl; have df : w1.frozen? ⟨p, 0, none⟩ = false := frozen_of_heap hb1; have dl : p < w1.heap.size := lt_of_heap hb1; clear hO1 hG1 hA1 hb1 c0 hfr hlt)
    | ((fail_if_success (clear H2)); refine wpList_one rfl _ _ rfl rfl (p + 1) vu U rfl (H1.out.2.1.kept (HKs.out w1 0 _ _) (fun b hb e => by omega)).ou w1.heap.size (-1 : Int) rfl (HNw.out w1 0 _ _) ?hb ?hn ?_; (case hb => simp [heap_size_setCell]; omega); (case hn => rw [HR.out.lenU]; omega); intro gu cu w2 hO2 hG2 hA2; have hb2 := blk_grown (HBs.out w1 0 _ _ H1.out.1) hG2 (own_ne (H1.out.2.1.kept (HKs.out w1 0 (.slice (some ⟨gw, 0, none⟩) ((ints W).length + 1) cw) (.cells #[.int .i64 (-1)] 3)) (fun b hb e => by omega)).ou); have H2 : Hid (w2.heap[p]? = some (.cells #[.slice (some ⟨gw, 0, none⟩) ((ints W).length + 1) cw, vu, vf] 112 (0, 0)) ∧ Own3 w2 (p + 1) (.slice (some ⟨gw, 0, none⟩) ((ints W).length + 1) cw) (.slice (some ⟨gu, 0, none⟩) (U.length + 1) cu) vf (ints W ++ [(x : Int)]) (U ++ [-1]) F ∧ Keeps (fun b => p ≤ b) w w2) := ⟨hb2, (H1.out.2.1.kept (HKs.out w1 0 _ _) (fun b hb e => by omega)).u hO2 hG2 hA2, HSt.out _ w2 _ _ (H1.out.2.2.setCell (fun _ => Nat.le_refl p) _) hG2 (fun k e => by (have := (World.ownsRow.lt H1.out.2.1.ou k e).1; omega))⟩; have d0 : w2.cell? ⟨p, 1, none⟩ = some vu := cell_of_heap hb2 rfl; have d1 : w2.cell? ⟨p, 2, none⟩ = some vf := cell_of_heap hb2 rfl; have df : w2.frozen? ⟨p, 1, none⟩ = false := frozen_of_heap hb2; have dl : p < w2.heap.size := lt_of_heap hb2; clear hO2 hG2 hA2 hb2)
    | (refine wpList_bool rfl _ _ rfl rfl (p + 1) vf F rfl (H2.out.2.1.kept (HKs.out w2 1 _ _) (fun b hb e => by omega)).of' w2.heap.size true rfl (HNw.out w2 1 _ _) ?hb ?hn ?_; (case hb => simp [heap_size_setCell]; omega); (case hn => rw [HR.out.lenF]; omega); intro gf cf w3 hO3 hG3 hA3; have hb3 := blk_grown (HBs.out w2 1 _ _ H2.out.1) hG3 (own_ne (H2.out.2.1.kept (HKs.out w2 1 (.slice (some ⟨gu, 0, none⟩) (U.length + 1) cu) (.cells #[.bool true] 4)) (fun b hb e => by omega)).of'); have H3 : Hid (w3.heap[p]? = some (.cells #[.slice (some ⟨gw, 0, none⟩) ((ints W).length + 1) cw, .slice (some ⟨gu, 0, none⟩) (U.length + 1) cu, vf] 112 (0, 0)) ∧ Own3 w3 (p + 1) (.slice (some ⟨gw, 0, none⟩) ((ints W).length + 1) cw) (.slice (some ⟨gu, 0, none⟩) (U.length + 1) cu) (.slice (some ⟨gf, 0, none⟩) (F.length + 1) cf) (ints W ++ [(x : Int)]) (U ++ [-1]) (F ++ [true]) ∧ Keeps (fun b => p ≤ b) w w3) := ⟨hb3, (H2.out.2.1.kept (HKs.out w2 1 _ _) (fun b hb e => by omega)).f hO3 hG3 hA3, HSt.out _ w3 _ _ (H2.out.2.2.setCell (fun _ => Nat.le_refl p) _) hG3 (fun k e => by (have := (World.ownsRow.lt H2.out.2.1.of' k e).1; omega))⟩; have d0 : w3.cell? ⟨p, 2, none⟩ = some vf := cell_of_heap hb3 rfl; have df : w3.frozen? ⟨p, 2, none⟩ = false := frozen_of_heap hb3; clear hO3 hG3 hA3 hb3))
  go_end0
  obtain ⟨e1, e2, e3⟩ := H3.out
  refine ⟨rfl, _, _, _, ⟨HBs.out w3 2 _ _ e1, ?_, by simp [HR.out.lenU], by simp [HR.out.lenF]⟩, e3.setCell (fun _ => Nat.le_refl p) _⟩
  rw [ints_append]
  exact e2.kept ((Keeps.refl (fun b => b = p) w3).setCell (p := ⟨p, 2, none⟩) (fun _ => rfl) _) (fun b hb e => by omega)

end Go.Proofs.Ytdbfbijalhknnaa.Lm

namespace Go.Proofs.Ytdbfbijalhknnaa.Lm
open Go.RowKit
set_option linter.unusedVariables false
set_option linter.unusedSimpArgs false

/-- S are the trees that are free. -/
def Av (S : List Tr) (W : List Nat) (F : List Bool) : Prop := ∀ t : Tr, t ∈ S ↔ (t.2 < W.length ∧ F.getD t.2 false = true ∧ t.1 = W.getD t.2 0)
theorem getD_set (F : List Bool) (i j : Nat) (b : Bool) (hi : i < F.length) : (F.set i b).getD j false = if i = j then b else F.getD j false := by
  rw [List.getD, List.getElem?_set, List.getD]
  by_cases e : i = j
  · subst e; rw [if_pos rfl, if_pos hi, if_pos rfl]; rfl
  · rw [if_neg e, if_neg e]
theorem Av.take {s : Tr} {S : List Tr} {W : List Nat} {F : List Bool} (h : Av (s :: S) W F) (hs : Srt (s :: S)) (hl : F.length = W.length) : Av S W (F.set s.2 false) := by
  have hss := (h s).1 (by simp)
  intro t
  rw [getD_set F s.2 t.2 false (by omega)]
  constructor
  · intro ht
    have h1 := (h t).1 (by simp [ht])
    have hne : s ≠ t := ne_of_lt' ((List.pairwise_cons.1 hs).1 t ht)
    have : ¬ s.2 = t.2 := fun e => hne (Prod.ext (by rw [hss.2.2, h1.2.2, e]) e)
    rw [if_neg this]; exact h1
  · rintro ⟨h1, h2, h3⟩
    by_cases e : s.2 = t.2
    · rw [if_pos e] at h2; cases h2
    · rw [if_neg e] at h2
      rcases List.mem_cons.1 ((h t).2 ⟨h1, h2, h3⟩) with rfl | hm
      · exact absurd rfl e
      · exact hm
/-- The best one of the first i. -/
def Best (W : List Nat) (F : List Bool) (i : Nat) (z : Int) : Prop :=
  (z = -1 ∧ ∀ j, j < i → F.getD j false = false) ∨ ∃ a : Nat, z = (a : Int) ∧ a < i ∧ F.getD a false = true ∧ ∀ j, j < i → F.getD j false = true → ltb (W.getD j 0, j) (W.getD a 0, a) = false
theorem Best.skip {W : List Nat} {F : List Bool} {i : Nat} {z : Int} (h : Best W F i z) (hf : F.getD i false = false) : Best W F (i + 1) z := by
  rcases h with ⟨e, h⟩ | ⟨a, e, h1, h2, h3⟩
  · refine .inl ⟨e, fun j hj => ?_⟩
    by_cases e' : j = i
    · subst e'; exact hf
    · exact h j (by omega)
  · refine .inr ⟨a, e, by omega, h2, fun j hj hjf => ?_⟩
    by_cases e' : j = i
    · subst e'; rw [hf] at hjf; cases hjf
    · exact h3 j (by omega) hjf
theorem Best.first {W : List Nat} {F : List Bool} {i : Nat} (h : Best W F i (-1)) (hf : F.getD i false = true) : Best W F (i + 1) (i : Int) := by
  rcases h with ⟨_, h⟩ | ⟨a, e, _⟩
  · refine .inr ⟨i, rfl, by omega, hf, fun j hj hjf => ?_⟩
    by_cases e' : j = i
    · subst e'; exact ltb_irrefl _
    · have := h j (by omega); rw [this] at hjf; cases hjf
  · omega
theorem Best.less {W : List Nat} {F : List Bool} {i a : Nat} (h : Best W F i (a : Int)) (hf : F.getD i false = true) (hl : W.getD i 0 < W.getD a 0) : Best W F (i + 1) (i : Int) := by
  rcases h with ⟨e, h⟩ | ⟨a', e, h1, h2, h3⟩
  · omega
  · obtain rfl : a = a' := by omega
    refine .inr ⟨i, rfl, by omega, hf, fun j hj hjf => ?_⟩
    by_cases e' : j = i
    · subst e'; exact ltb_irrefl _
    · exact le_trans' (b := (W.getD a 0, a)) (by rw [ltb_false]; left; exact hl) (h3 j (by omega) hjf)
theorem Best.more {W : List Nat} {F : List Bool} {i a : Nat} (h : Best W F i (a : Int)) (hf : F.getD i false = true) (hl : ¬ W.getD i 0 < W.getD a 0) : Best W F (i + 1) (a : Int) := by
  rcases h with ⟨e, h⟩ | ⟨a', e, h1, h2, h3⟩
  · omega
  · obtain rfl : a = a' := by omega
    refine .inr ⟨a, rfl, by omega, h2, fun j hj hjf => ?_⟩
    by_cases e' : j = i
    · subst e'; rw [ltb_false]; simp only; omega
    · exact h3 j (by omega) hjf
theorem Best.done {W : List Nat} {F : List Bool} {z : Int} {s : Tr} {S : List Tr} (h : Best W F W.length z) (hA : Av (s :: S) W F) (hs : Srt (s :: S)) : z = (s.2 : Int) := by
  have hss := (hA s).1 (by simp)
  rcases h with ⟨_, h⟩ | ⟨a, e, h1, h2, h3⟩
  · rw [h s.2 hss.1] at hss; cases hss.2.1
  · have h4 := h3 s.2 hss.1 hss.2.1
    rw [← hss.2.2] at h4
    have hm := (hA (W.getD a 0, a)).2 ⟨h1, h2, rfl⟩
    rcases List.mem_cons.1 hm with h5 | h5
    · rw [e, ← h5]
    · have := (List.pairwise_cons.1 hs).1 _ h5
      rw [show ((s.1, s.2) : Tr) = s from rfl] at h4
      rw [h4] at this; cases this

theorem boolsV_get (bs : List Bool) (i : Nat) (h : i < bs.length) : (boolsV bs)[i]? = some (.bool (bs.getD i false)) := by
  simp [boolsV, List.getD, List.getElem?_eq_getElem h]
theorem nats_get (W : List Nat) (i : Nat) (h : i < W.length) : (intsV (ints W))[i]? = some (.int .i64 ((W.getD i 0 : Nat) : Int)) := by
  rw [intsV_get _ _ (by rw [ints_length]; exact h), ints_at]

set_option maxHeartbeats 4000000 in
set_option maxRecDepth 1000000 in
theorem least_ok (p : Nat) (vw vu vf : Value) (W : List Nat) (U : List Int) (F : List Bool) (s : Tr) (S : List Tr) (w : World) (h : Rf w p vw vu vf W U F) (hA : Av (s :: S) W F) (hs : Srt (s :: S)) (hn : W.length ≤ 1000) :
    Calls Try.prog 64 #[.pointer (some ⟨p, 0, none⟩)] w fun e w' => e = .returned (.int .i64 (s.2 : Int)) ∧ Rf w' p vw vu vf W U (F.set s.2 false) ∧ Keeps (fun b => p ≤ b) w w' := by
  have hsl := ((hA s).1 (by simp)).1
  obtain ⟨gw, cw, rfl, _, _⟩ := World.ownsRow.form h.own.ow (by rw [ints_length]; omega)
  obtain ⟨gf, cf, rfl, _, _⟩ := World.ownsRow.form h.own.of' (by rw [h.lenF]; omega)
  have HW : Hid (∀ w', Keeps (fun _ => False) w w' → (w'.cell? ⟨p, 0, none⟩ = some (.slice (some ⟨gw, 0, none⟩) W.length cw) ∧ w'.cell? ⟨p, 2, none⟩ = some (.slice (some ⟨gf, 0, none⟩) W.length cf)) ∧ ∀ i, i < W.length → w'.cell? ⟨gw, i, none⟩ = some (.int .i64 ((W.getD i 0 : Nat) : Int)) ∧ w'.cell? ⟨gf, i, none⟩ = some (.bool (F.getD i false))) := fun w' hk => by
    have h' := h.kept hk (fun _ _ h => h)
    have e1 : (ints W).length = W.length := ints_length W
    have e2 := h.lenF
    refine ⟨⟨?_, ?_⟩, fun i hi => ⟨?_, ?_⟩⟩
    · rw [← e1]; exact cell_of_heap h'.blk rfl
    · rw [← e2]; exact cell_of_heap h'.blk rfl
    · exact (owns_cell h'.own.ow i _ (nats_get W i hi)).1
    · exact (owns_cell h'.own.of' i _ (boolsV_get F i (by omega))).1
  have HR : Hid (Rf w p (.slice (some ⟨gw, 0, none⟩) (ints W).length cw) vu (.slice (some ⟨gf, 0, none⟩) F.length cf) W U F ∧ Av (s :: S) W F ∧ Srt (s :: S)) := ⟨h, hA, hs⟩
  clear h hA hs
  obtain ⟨L, hL⟩ : ∃ L, W.length = L := ⟨_, rfl⟩
  rw [hL] at HW hn hsl
  have HL : Hid (W.length = L) := hL
  clear hL
  go_enter Try.func64, Try.ntmps64
  go_wp2
  go_loopw [3, 4] (fun s3 s4 w' => ∃ (i : Nat) (z : Int), i ≤ L ∧ s4 = .int .i64 (i : Int) ∧ s3 = .int .i64 z ∧ Hid (Best W F i z ∧ Keeps (fun _ => False) w w')) (fun s3 s4 w' => ((L : Int) - intOf s4).toNat)
  case atStart => exact ⟨0, -1, by omega, rfl, rfl, .inl ⟨rfl, fun j hj => by omega⟩, Keeps.refl _ _⟩
  case round =>
    obtain ⟨i, z, hi, rfl, rfl, HI⟩ := hrel
    obtain ⟨⟨cw0, cf0⟩, hcell⟩ := HW.out wr HI.out.2
    by_cases hin : i < L
    · have hiz : (i : Int) < (L : Int) := by omega
      obtain ⟨ci, cfi⟩ := hcell i hin
      cases hf : F.getD i false with
      | false =>
        rw [hf] at cfi
        have HB : Hid (Best W F (i + 1) z) := HI.out.1.skip hf
        clear hcell
        go_wp2
        go_quiet (fail)
        have HK' : Hid (Keeps (fun _ => False) w (wr.drewN nq)) := HI.out.2.drewN nq
        generalize wr.drewN nq = wn at *
        clear ci cfi cw0 cf0 HI
        go_wp2
        go_roundw
        case rel => exact ⟨i + 1, z, by omega, by push_cast; rfl, rfl, HB.out, HK'.out⟩
        case measure => simp [intOf]; omega
      | true =>
        rw [hf] at cfi
        by_cases hz : z < 0
        · have hz1 : z = -1 := by rcases HI.out.1 with ⟨e, _⟩ | ⟨a, e, _⟩; exact e; omega
          subst hz1
          have HB : Hid (Best W F (i + 1) (i : Int)) := HI.out.1.first hf
          clear hcell hz
          go_wp2
          go_quiet (fail)
          have HK' : Hid (Keeps (fun _ => False) w (wr.drewN nq)) := HI.out.2.drewN nq
          generalize wr.drewN nq = wn at *
          clear ci cfi cw0 cf0 HI
          go_wp2
          go_roundw
          case rel => exact ⟨i + 1, (i : Int), by omega, by push_cast; rfl, rfl, HB.out, HK'.out⟩
          case measure => simp [intOf]; omega
        · obtain ⟨a, rfl, hai⟩ : ∃ a : Nat, z = (a : Int) ∧ a < i := by rcases HI.out.1 with ⟨e, _⟩ | ⟨a, e, h1, _⟩; omega; exact ⟨a, e, h1⟩
          have caw := (hcell a (by omega)).1
          have haz : (a : Int) < (L : Int) := by omega
          have hd0 : decide ((a : Int) < 0) = false := by simp
          clear hz hcell
          by_cases hlt : W.getD i 0 < W.getD a 0
          · have HB : Hid (Best W F (i + 1) (i : Int)) := HI.out.1.less hf hlt
            have hdl : decide (((W.getD i 0 : Nat) : Int) < ((W.getD a 0 : Nat) : Int)) = true := by simp only [decide_eq_true_eq]; omega
            generalize W.getD i 0 = wi at *
            generalize W.getD a 0 = wa at *
            go_wp2
            go_quiet (fail)
            have HK' : Hid (Keeps (fun _ => False) w (wr.drewN nq)) := HI.out.2.drewN nq
            generalize wr.drewN nq = wn at *
            clear ci cfi cw0 cf0 HI caw
            go_wp2
            go_roundw
            case rel => exact ⟨i + 1, (i : Int), by omega, by push_cast; rfl, rfl, HB.out, HK'.out⟩
            case measure => simp [intOf]; omega
          · have HB : Hid (Best W F (i + 1) (a : Int)) := HI.out.1.more hf hlt
            have hdl : decide (((W.getD i 0 : Nat) : Int) < ((W.getD a 0 : Nat) : Int)) = false := by simp only [decide_eq_false_iff_not]; omega
            generalize W.getD i 0 = wi at *
            generalize W.getD a 0 = wa at *
            go_wp2
            go_quiet (fail)
            have HK' : Hid (Keeps (fun _ => False) w (wr.drewN nq)) := HI.out.2.drewN nq
            generalize wr.drewN nq = wn at *
            clear ci cfi cw0 cf0 HI caw
            go_wp2
            go_roundw
            case rel => exact ⟨i + 1, (a : Int), by omega, by push_cast; rfl, rfl, HB.out, HK'.out⟩
            case measure => simp [intOf]; omega
    · obtain rfl : i = L := by omega
      obtain rfl : z = (s.2 : Int) := by
        have hB := HI.out.1
        rw [← HL.out] at hB
        exact hB.done HR.out.2.1 HR.out.2.2
      have hcs := (hcell s.2 hsl).2
      have hfs : wr.frozen? ⟨gf, s.2, none⟩ = false := by
        have h' := HR.out.1.kept HI.out.2 (fun _ _ h => h)
        exact (owns_cell h'.own.of' s.2 _ (boolsV_get F s.2 (by rw [h'.lenF, HL.out]; exact hsl))).2
      have hsz : (s.2 : Int) < (i : Int) := by omega
      clear hcell
      generalize F.getD s.2 false = b0 at *
      go_wp2
      go_ret
      have h' := HR.out.1.kept HI.out.2 (fun _ _ h => h)
      have hgf : p + 1 ≤ gf := (World.ownsRow.lt h'.own.of' gf rfl).1
      refine ⟨rfl, ⟨?_, ⟨?_, ?_, ?_, h'.own.wu, h'.own.wf, h'.own.uf⟩, h'.lenU, by rw [List.length_set]; exact h'.lenF⟩, HI.out.2.mono (fun _ _ h => h.elim) |>.setCell (fun _ => by show p ≤ gf; omega) _⟩
      · rw [Below.heap_setCell _ _ _ _ (by show p ≠ gf; omega)]; exact h'.blk
      · exact owns_far h'.own.ow (fun e => h'.own.wf gf e rfl) _
      · exact owns_far h'.own.ou (fun e => h'.own.uf gf e rfl) _
      · have := owns_set h'.own.of' s.2 (.bool false)
        unfold OwnB
        rw [List.length_set, show boolsV (F.set s.2 false) = (boolsV F).set s.2 (.bool false) by simp [boolsV, List.map_set]]
        exact this

end Go.Proofs.Ytdbfbijalhknnaa.Lm

namespace Go.Proofs.Ytdbfbijalhknnaa.Lm
open Go.RowKit
set_option linter.unusedVariables false
set_option linter.unusedSimpArgs false

theorem Av.push {S : List Tr} {W : List Nat} {F : List Bool} (h : Av S W F) (hl : F.length = W.length) (x : Nat) : Av (ins (x, W.length) S) (W ++ [x]) (F ++ [true]) := by
  intro t
  rw [mem_ins, h t]
  by_cases e : t.2 < W.length
  · have e1 : (W ++ [x]).getD t.2 0 = W.getD t.2 0 := by rw [List.getD, List.getElem?_append_left e, List.getD]
    have e2 : (F ++ [true]).getD t.2 false = F.getD t.2 false := by rw [List.getD, List.getElem?_append_left (by omega), List.getD]
    rw [e1, e2]
    constructor
    · rintro (rfl | ⟨h1, h2⟩)
      · simp at e
      · exact ⟨by simp; omega, h2⟩
    · rintro ⟨_, h2⟩; exact .inr ⟨e, h2⟩
  · constructor
    · rintro (rfl | ⟨h1, _⟩)
      · refine ⟨by simp, ?_, ?_⟩
        · simp only [List.getD]; rw [List.getElem?_append_right (by omega), hl]; simp
        · simp only [List.getD]; rw [List.getElem?_append_right (by omega)]; simp
      · exact absurd h1 e
    · rintro ⟨h1, h2, h3⟩
      have : t.2 = W.length := by simp at h1; omega
      left
      refine Prod.ext ?_ this
      rw [h3, this, List.getD, List.getElem?_append_right (Nat.le_refl _)]; simp
/-- What each is joined into, as the document has it. -/
def Ur (U : List Int) (F : List Bool) (into : List Nat) : Prop := ∀ q, q < into.length → at_ U q = if F.getD q false = true then -1 else ((into.getD q 0 : Nat) : Int)
theorem Ur.step {U : List Int} {F : List Bool} {into : List Nat} (h : Ur U F into) (hU : U.length = into.length) (hF : F.length = into.length) (a b : Nat) (ha : a < into.length) (hb : b < into.length) :
    Ur ((U.set a (into.length : Int)).set b (into.length : Int) ++ [-1]) ((F.set a false).set b false ++ [true]) ((into.set a into.length).set b into.length ++ [into.length]) := by
  intro q hq
  have hq' : q < into.length + 1 := by simpa using hq
  by_cases e : q < into.length
  · rw [at_append_left _ _ _ (by simp [hU]; exact e), at_set, at_set]
    have e2 : ((F.set a false).set b false ++ [true]).getD q false = if b = q then false else if a = q then false else F.getD q false := by
      rw [List.getD, List.getElem?_append_left (by simp [hF]; exact e), ← List.getD, getD_set _ _ _ _ (by simp [hF]; exact hb), getD_set _ _ _ _ (by omega)]
    have e3 : ((into.set a into.length).set b into.length ++ [into.length]).getD q 0 = if b = q then into.length else if a = q then into.length else into.getD q 0 := by
      rw [List.getD, List.getElem?_append_left (by simp; exact e), List.getElem?_set, List.getElem?_set]
      by_cases h1 : b = q
      · subst h1; simp [hb]
      · by_cases h2 : a = q
        · subst h2; simp [h1, ha]
        · simp [h1, h2, List.getD]
    rw [e2, e3, h q e]
    by_cases h1 : b = q
    · subst h1; simp [hU, hb]
    · by_cases h2 : a = q
      · subst h2; simp [h1, hU, ha]
      · simp [h1, h2]
  · have : q = into.length := by omega
    subst this
    have hl : ((U.set a (into.length : Int)).set b (into.length : Int)).length = into.length := by simp [hU]
    have := at_append_right ((U.set a (into.length : Int)).set b (into.length : Int)) [-1] 0
    rw [hl, Nat.add_zero] at this
    rw [this]
    have e2 : ((F.set a false).set b false ++ [true]).getD into.length false = true := by
      rw [List.getD, List.getElem?_append_right (by simp [hF])]; simp [hF]
    rw [e2]; rfl

theorem rf_set {w : World} {p gu n c : Nat} {vw vf : Value} {W : List Nat} {U : List Int} {F : List Bool} (h : Rf w p vw (.slice (some ⟨gu, 0, none⟩) n c) vf W U F) (hn : U.length = n) (i : Nat) (v : Int) :
    Rf (w.setCell ⟨gu, i, none⟩ (.int .i64 v)) p vw (.slice (some ⟨gu, 0, none⟩) n c) vf W (U.set i v) F ∧ Keeps (fun b => p ≤ b) w (w.setCell ⟨gu, i, none⟩ (.int .i64 v)) := by
  have hg : p + 1 ≤ gu := (World.ownsRow.lt h.own.ou gu rfl).1
  refine ⟨⟨?_, ⟨owns_far h.own.ow (fun e => h.own.wu gu e rfl) _, ?_, owns_far h.own.of' (fun e => h.own.uf gu rfl e) _, h.own.wu, h.own.wf, h.own.uf⟩, by rw [List.length_set]; exact h.lenU, h.lenF⟩, (Keeps.refl (fun b => p ≤ b) w).setCell (p := ⟨gu, i, none⟩) (fun _ => by show p ≤ gu; omega) _⟩
  · rw [Below.heap_setCell _ _ _ _ (by show p ≠ gu; omega)]; exact h.blk
  · subst hn
    have := owns_set h.own.ou i (.int .i64 v)
    unfold OwnV
    rw [List.length_set, ← intsV_set]; exact this
theorem Rf.drew {w : World} {p : Nat} {vw vu vf : Value} {W : List Nat} {U : List Int} {F : List Bool} (h : Rf w p vw vu vf W U F) : Rf w.drew p vw vu vf W U F := h.kept ((Keeps.refl (fun _ => False) w).drew) (fun _ _ h => h)

def upM (N : Nat) (z : Int) : Nat := if z < 0 then 0 else ((N : Int) - z).toNat
theorem upM_lt (N q : Nat) (z : Int) (h : z = -1 ∨ (q : Int) < z) (hz : z < (N : Int)) (hq : q < N) : upM N z < upM N (q : Int) := by
  unfold upM
  rw [if_neg (show ¬ (q : Int) < 0 by omega)]
  split <;> omega
/-- Where the document's joining stands. -/
structure Jr (w' : World) (p : Nat) (R : List Nat) (k : Nat) (S : List Tr) (into W : List Nat) (U : List Int) (F : List Bool) (vw vu vf : Value) : Prop where
  len : S.length = k + 1
  al : Al S into.length
  lenW : W.length = into.length
  av : Av S W F
  ur : Ur U F into
  run : runI k S into = R
  sum : (S.map Prod.fst).sum ≤ 1099511627776
  rf : Rf w' p vw vu vf W U F

theorem jr_next {w0 w5 : World} {p n : Nat} {R : List Nat} {t1 t2 : Tr} {S2 : List Tr} {into W : List Nat} {U : List Int} {F : List Bool} {vw vu vf vw' vu' vf' : Value} {L : Nat} (hJ : Jr w0 p R (n + 1) (t1 :: t2 :: S2) into W U F vw vu vf) (hL : into.length = L)
    (h : Rf w5 p vw' vu' vf' (W ++ [t1.1 + t2.1]) ((U.set t1.2 (L : Int)).set t2.2 (L : Int) ++ [-1]) ((F.set t1.2 false).set t2.2 false ++ [true])) :
    Jr w5 p R n (ins (t1.1 + t2.1, L) S2) ((into.set t1.2 L).set t2.2 L ++ [L]) (W ++ [t1.1 + t2.1]) ((U.set t1.2 (L : Int)).set t2.2 (L : Int) ++ [-1]) ((F.set t1.2 false).set t2.2 false ++ [true]) vw' vu' vf' := by
  have hsrt := hJ.al.srt
  have hal := hJ.al
  have hsum := hJ.sum
  have hrun := hJ.run
  have hlen := hJ.len
  obtain ⟨n1, n2, n3, n4⟩ := hal.two
  have hLn : ((into.set t1.2 L).set t2.2 L ++ [L]).length = L + 1 := by simp [hL]
  have l3 : W.length = L := by rw [hJ.lenW, hL]
  have lf : F.length = L := by rw [hJ.rf.lenF, l3]
  have lu : U.length = L := by rw [hJ.rf.lenU, l3]
  refine ⟨?_, ?_, ?_, ?_, ?_, ?_, ?_, h⟩
  · rw [length_ins]; simpa using hlen
  · rw [hLn]; rw [hL] at hal; exact hal.step
  · rw [hLn]; simp [l3]
  · have a1 := (hJ.av.take hsrt hJ.rf.lenF).take (List.pairwise_cons.1 hsrt).2 (by rw [List.length_set]; exact hJ.rf.lenF)
    have a2 := a1.push (by rw [List.length_set, List.length_set]; exact hJ.rf.lenF) (t1.1 + t2.1)
    rw [l3] at a2; exact a2
  · have := hJ.ur.step (by rw [hL, lu]) (by rw [hL, lf]) t1.2 t2.2 n3 n4
    rw [hL] at this; exact this
  · rw [← hrun, runI, hL]
  · rw [sum_ins]; simp only [List.map_cons, List.sum_cons] at hsum; simp only; omega

set_option maxHeartbeats 4000000 in
set_option maxRecDepth 1000000 in
theorem rdepths_none (cap : Nat) (a : Option Addr) (w : World) : Calls Try.prog 53 #[.slice a 0 cap] w fun e w' => e = .returned (.slice none 0 0) ∧ Keeps (fun _ => False) w w' := by
  go_enter Try.func53, Try.ntmps53
  go_wp2
  go_loopw [4] (fun s4 w' => s4 = .int .i64 0 ∧ Hid (Keeps (fun _ => False) w w')) (fun s4 w' => 0)
  case atStart => exact ⟨rfl, (Keeps.refl _ w).alloc _⟩
  case round =>
    obtain ⟨rfl, HK⟩ := hrel
    go_wp2
    go_loopw [5] (fun s5 w' => s5 = .int .i64 1 ∧ Hid (Keeps (fun _ => False) w w')) (fun s5 w' => 0)
    case atStart => exact ⟨rfl, HK⟩
    case round =>
      clear HK
      obtain ⟨rfl, HK⟩ := hrel
      go_wp2
      go_loopw [8, 9] (fun s8 s9 w' => s9 = .int .i64 0 ∧ s8 = .slice none 0 0 ∧ Hid (Keeps (fun _ => False) w w')) (fun s8 s9 w' => 0)
      case atStart => exact ⟨rfl, rfl, HK⟩
      case round =>
        clear HK
        obtain ⟨rfl, rfl, HK⟩ := hrel
        go_wp2
        go_ret
        exact ⟨rfl, HK.out⟩

set_option maxHeartbeats 4000000 in
set_option maxRecDepth 1000000 in
theorem rdepths_some (a : Option Addr) (ws : List Nat) (cap : Nat) (w : World) (hR : Row w a (ints ws)) (hl1 : 1 ≤ ws.length) (hl : ws.length ≤ 288) (hsum : ws.sum ≤ 1099511627776) :
    Calls Try.prog 53 #[.slice a ws.length cap] w fun e w' => ∃ v, e = .returned v ∧ OwnV w' w.heap.size v (ints (dsOf ws)) ∧ Keeps (fun _ => False) w w' := by
  obtain ⟨b0, off0, rfl, hb0, hc0⟩ := hR.at (by rw [ints_length]; omega)
  have HC : Hid (∀ i (h : i < ws.length), ∀ w', Keeps (fun _ => False) w w' → w'.cell? ⟨b0, off0 + i, none⟩ = some (.int .i64 ((ws[i] : Nat) : Int))) := fun i h w' hk => by
    rw [hc0 w' hk i (by rw [ints_length]; exact h), ints_get ws i h]
  have HS : Hid (ws.sum ≤ 1099511627776) := hsum
  clear hc0 hR hsum
  obtain ⟨m, hm⟩ : ∃ m, ws.length = m := ⟨_, rfl⟩
  rw [hm] at hl hl1
  rw [hm]
  have HM : Hid (ws.length = m) := hm
  clear hm
  go_enter Try.func53, Try.ntmps53
  go_wp2
  go_loopw [4] (fun s4 w' => ∃ i : Nat, i ≤ m ∧ s4 = .int .i64 (i : Int) ∧ Hid ((∃ vw vu vf, Rf w' w.heap.size vw vu vf (ws.take i) (List.replicate i (-1)) (List.replicate i true)) ∧ Keeps (fun _ => False) w w')) (fun s4 w' => ((m : Int) - intOf s4).toNat)
  case atStart =>
    refine ⟨0, by omega, rfl, ⟨.slice none 0 0, .slice none 0 0, .slice none 0 0, ⟨heap_alloc_new _ _, ⟨World.ownsRow_nil _ _ _ _, World.ownsRow_nil _ _ _ _, World.ownsRow_nil _ _ _ _, ?_, ?_, ?_⟩, rfl, rfl⟩⟩, (Keeps.refl _ w).alloc _⟩
    all_goals intro k e; cases e
  case round =>
    obtain ⟨i, hi, rfl, HI⟩ := hrel
    by_cases him : i < m
    · have hiz : (i : Int) < (m : Int) := by omega
      have hil : i < ws.length := by rw [HM.out]; exact him
      have hc := HC.out i hil wr HI.out.2
      have HA : Hid (Calls Try.prog 63 #[.pointer (some ⟨w.heap.size, 0, none⟩), .int .i64 ((ws[i] : Nat) : Int)] wr fun e w' => e = .returned (.tuple #[]) ∧ (∃ vw vu vf, Rf w' w.heap.size vw vu vf (ws.take (i + 1)) (List.replicate (i + 1) (-1)) (List.replicate (i + 1) true)) ∧ Keeps (fun _ => False) w w') := by
        obtain ⟨⟨vw, vu, vf, hr⟩, hk⟩ := HI.out
        refine (add_ok w.heap.size vw vu vf _ _ _ ws[i] wr hr (by rw [List.length_take]; omega)).mono ?_
        rintro e w' ⟨rfl, vw', vu', vf', h1, h2⟩
        rw [← take_snoc_nat ws i hil, ← List.replicate_succ', ← List.replicate_succ'] at h1
        exact ⟨rfl, ⟨vw', vu', vf', h1⟩, hk.trans h2 (fun i hi h => by omega)⟩
      generalize ws[i] = x at *
      clear HI
      go_wp2_with (go_at_call 63; refine HA.out.mono ?_; rintro e w1 ⟨rfl, h1⟩; have H1 : Hid ((∃ vw vu vf, Rf w1 w.heap.size vw vu vf (ws.take (i + 1)) (List.replicate (i + 1) (-1)) (List.replicate (i + 1) true)) ∧ Keeps (fun _ => False) w w1) := h1; clear h1)
      go_roundw
      case rel => exact ⟨i + 1, by omega, by push_cast; rfl, H1.out⟩
      case measure => simp [intOf]; omega
    · obtain rfl : i = m := by omega
      clear him hi
      obtain ⟨R, hR⟩ : ∃ R, runI (i - 1) (sort0 ws) (List.replicate i 0) = R := ⟨_, rfl⟩
      have HRn : Hid (runI (i - 1) (sort0 ws) (List.replicate i 0) = R) := hR
      clear hR
      have HJ0 : Hid ((∃ k S into W U F vw vu vf, k + 1 = i ∧ into.length + 1 = i + 1 ∧ Jr wr w.heap.size R k S into W U F vw vu vf) ∧ Keeps (fun _ => False) w wr) := by
        obtain ⟨⟨vw, vu, vf, hr⟩, hk⟩ := HI.out
        rw [List.take_of_length_le (by rw [HM.out]; omega)] at hr
        refine ⟨⟨i - 1, sort0 ws, List.replicate i 0, ws, _, _, vw, vu, vf, by omega, by simp, ⟨by rw [sort0_length, HM.out]; omega, ?_, by rw [HM.out]; simp, ?_, ?_, HRn.out, by rw [weight0]; exact HS.out, hr⟩⟩, hk⟩
        · rw [List.length_replicate, ← HM.out]; exact al0 ws (by rw [HM.out]; omega)
        · intro t
          rw [mem_sort0]
          constructor
          · rintro ⟨q, hq, rfl⟩
            have : q < i := by rw [← HM.out]; exact hq
            exact ⟨hq, by simp [List.getD, this], rfl⟩
          · rintro ⟨h1, _, h3⟩
            exact ⟨t.2, h1, Prod.ext h3 rfl⟩
        · intro q hq
          rw [List.length_replicate] at hq
          simp [at_, List.getD, hq]
      clear HI
      go_wp2
      go_loopw [5] (fun s5 w' => ∃ j : Nat, 1 ≤ j ∧ j ≤ i ∧ s5 = .int .i64 (j : Int) ∧ Hid ((∃ k S into W U F vw vu vf, k + j = i ∧ into.length + 1 = i + j ∧ Jr w' w.heap.size R k S into W U F vw vu vf) ∧ Keeps (fun _ => False) w w')) (fun s5 w' => ((i : Int) - intOf s5).toNat)
      case atStart => exact ⟨1, by omega, by omega, rfl, HJ0⟩
      case round =>
        clear HJ0
        obtain ⟨j, hj1, hj2, rfl, HJ⟩ := hrel
        by_cases hji : j < i
        · have hjz : (j : Int) < (i : Int) := by omega
          obtain ⟨⟨k, S, into, W, U, F, vw, vu, vf, hk, hil, hJ⟩, hK⟩ := HJ.out
          obtain ⟨n, rfl⟩ : ∃ n, k = n + 1 := ⟨k - 1, by omega⟩
          match S, hJ with
          | t1 :: t2 :: S2, hJ =>
          have hlen := hJ.len
          obtain ⟨n1, n2, n3, n4⟩ := hJ.al.two
          have hsrt := hJ.al.srt
          have hWl : W.length ≤ 600 := by rw [hJ.lenW]; omega
          have HL1 : Hid (Calls Try.prog 64 #[.pointer (some ⟨w.heap.size, 0, none⟩)] wr fun e w' => e = .returned (.int .i64 (t1.2 : Int)) ∧ Rf w' w.heap.size vw vu vf W U (F.set t1.2 false) ∧ Keeps (fun b => w.heap.size ≤ b) wr w') := least_ok w.heap.size vw vu vf W U F t1 (t2 :: S2) wr hJ.rf hJ.av hsrt (by omega)
          have HL2 : Hid (∀ w1, Rf w1 w.heap.size vw vu vf W U (F.set t1.2 false) → Calls Try.prog 64 #[.pointer (some ⟨w.heap.size, 0, none⟩)] w1 fun e w' => e = .returned (.int .i64 (t2.2 : Int)) ∧ Rf w' w.heap.size vw vu vf W U ((F.set t1.2 false).set t2.2 false) ∧ Keeps (fun b => w.heap.size ≤ b) w1 w') := fun w1 h1 => least_ok w.heap.size vw vu vf W U (F.set t1.2 false) t2 S2 w1 h1 (hJ.av.take hsrt hJ.rf.lenF) (List.pairwise_cons.1 hsrt).2 (by omega)
          have HJ' : Hid (Jr wr w.heap.size R (n + 1) (t1 :: t2 :: S2) into W U F vw vu vf ∧ Keeps (fun _ => False) w wr) := ⟨hJ, hK⟩
          clear HJ hJ hK hsrt n2
          go_wp2_with (first
            | (go_at_call 64; (fail_if_success (clear H1)); refine HL1.out.mono ?_; rintro e w1 ⟨rfl, h1, h2⟩; have H1 : Hid (Rf w1 w.heap.size vw vu vf W U (F.set t1.2 false) ∧ Keeps (fun b => w.heap.size ≤ b) wr w1) := ⟨h1, h2⟩; clear h1 h2)
            | (go_at_call 64; refine (HL2.out w1 H1.out.1).mono ?_; rintro e w2 ⟨rfl, h1, h2⟩; have H2 : Hid (Rf w2 w.heap.size vw vu vf W U ((F.set t1.2 false).set t2.2 false) ∧ Keeps (fun b => w.heap.size ≤ b) wr w2) := ⟨h1, H1.out.2.trans h2 (fun _ _ h => h)⟩; clear h1 h2))
          obtain ⟨L, hL⟩ : ∃ L, into.length = L := ⟨_, rfl⟩
          rw [hL] at n3 n4 hil
          have hUl : U.length = L := by rw [H2.out.1.lenU, HJ'.out.1.lenW, hL]
          have hWL : W.length = L := by rw [HJ'.out.1.lenW, hL]
          obtain ⟨gu, cu, rfl, _, _⟩ := World.ownsRow.form H2.out.1.own.ou (by omega)
          obtain ⟨gw, cw, rfl, _, _⟩ := World.ownsRow.form H2.out.1.own.ow (by rw [ints_length]; omega)
          rw [ints_length, hWL, hUl] at H2 HJ'
          have hgu : w.heap.size + 1 ≤ gu := (World.ownsRow.lt H2.out.1.own.ou gu rfl).1
          have hL600 : (L : Int) ≤ 600 := by omega
          have z1 : (t1.2 : Int) < (L : Int) := by omega
          have z2 : (t2.2 : Int) < (L : Int) := by omega
          have q1 : ¬ w.heap.size = gu := by omega
          have q2 : ¬ gu = w.heap.size := by omega
          have HLL : Hid (into.length = L ∧ U.length = L ∧ W.length = L) := ⟨hL, hUl, hWL⟩
          have hc1 : w2.cell? ⟨w.heap.size, 1, none⟩ = some (.slice (some ⟨gu, 0, none⟩) L cu) := cell_of_heap H2.out.1.blk rfl
          have hca : w2.cell? ⟨gu, t1.2, none⟩ = some (.int .i64 (at_ U t1.2)) ∧ w2.frozen? ⟨gu, t1.2, none⟩ = false := by
            have ho := H2.out.1.own.ou
            unfold OwnV at ho
            rw [hUl] at ho
            exact owns_cell ho t1.2 _ (intsV_get U t1.2 (by omega))
          obtain ⟨hca, hfa⟩ := hca
          clear HL1 HL2 H1 hL hUl hWL
          generalize at_ U t1.2 = v1 at *
          go_region
          clear hc1 hca hfa
          generalize hw3 : (w2.setCell _ _).drew = w3
          have H3 : Hid (Rf w3 w.heap.size (.slice (some ⟨gw, 0, none⟩) L cw) (.slice (some ⟨gu, 0, none⟩) L cu) vf W (U.set t1.2 (L : Int)) ((F.set t1.2 false).set t2.2 false) ∧ Keeps (fun b => w.heap.size ≤ b) wr w3) := by
            obtain ⟨k1, k2⟩ := rf_set H2.out.1 HLL.out.2.1 t1.2 (L : Int)
            rw [← hw3]
            exact ⟨k1.drew, (H2.out.2.trans k2 (fun _ _ h => h)).drew⟩
          clear hw3 H2
          have hc1 : w3.cell? ⟨w.heap.size, 1, none⟩ = some (.slice (some ⟨gu, 0, none⟩) L cu) := cell_of_heap H3.out.1.blk rfl
          have hcb : w3.cell? ⟨gu, t2.2, none⟩ = some (.int .i64 (at_ (U.set t1.2 (L : Int)) t2.2)) ∧ w3.frozen? ⟨gu, t2.2, none⟩ = false := by
            have ho := H3.out.1.own.ou
            unfold OwnV at ho
            have hUl := HLL.out.2.1
            rw [List.length_set, hUl] at ho
            exact owns_cell ho t2.2 _ (intsV_get _ t2.2 (by simp; omega))
          obtain ⟨hcb, hfb⟩ := hcb
          generalize at_ (U.set t1.2 (L : Int)) t2.2 = v2 at *
          go_wp2
          go_region
          clear hc1 hcb hfb
          generalize hw4 : (w3.setCell _ _).drew = w4
          have H4 : Hid (Rf w4 w.heap.size (.slice (some ⟨gw, 0, none⟩) L cw) (.slice (some ⟨gu, 0, none⟩) L cu) vf W ((U.set t1.2 (L : Int)).set t2.2 (L : Int)) ((F.set t1.2 false).set t2.2 false) ∧ Keeps (fun b => w.heap.size ≤ b) wr w4) := by
            obtain ⟨k1, k2⟩ := rf_set H3.out.1 (by rw [List.length_set]; exact HLL.out.2.1) t2.2 (L : Int)
            rw [← hw4]
            exact ⟨k1.drew, (H3.out.2.trans k2 (fun _ _ h => h)).drew⟩
          clear hw4 H3
          have hp0 : w4.cell? ⟨w.heap.size, 0, none⟩ = some (.slice (some ⟨gw, 0, none⟩) L cw) := cell_of_heap H4.out.1.blk rfl
          have hwt : ∀ t : Tr, t ∈ t1 :: t2 :: S2 → w4.cell? ⟨gw, t.2, none⟩ = some (.int .i64 (t.1 : Int)) := fun t ht => by
            have hav := (HJ'.out.1.av t).1 ht
            have ho := H4.out.1.own.ow
            unfold OwnV at ho
            rw [ints_length, HLL.out.2.2] at ho
            rw [(owns_cell ho t.2 _ (nats_get W t.2 hav.1)).1, ← hav.2.2]
          have hw1 := hwt t1 (by simp)
          have hw2 := hwt t2 (by simp)
          clear hwt
          have hsm : (t1.1 : Int) + (t2.1 : Int) ≤ 1099511627776 := by
            have := HJ'.out.1.sum
            simp only [List.map_cons, List.sum_cons] at this; omega
          have hsw : wrap64 ((t1.1 : Int) + (t2.1 : Int)) = (t1.1 : Int) + (t2.1 : Int) := by simp only [wrap64]; omega
          have hsw' : IntKind.i64.wrap ((t1.1 : Int) + (t2.1 : Int)) = (t1.1 : Int) + (t2.1 : Int) := by rw [IntWalk.i64_left]; exact hsw
          have HAd : Hid (Calls Try.prog 63 #[.pointer (some ⟨w.heap.size, 0, none⟩), .int .i64 ((t1.1 : Int) + (t2.1 : Int))] w4.drew fun e w' => e = .returned (.tuple #[]) ∧ ∃ vw' vu' vf', Rf w' w.heap.size vw' vu' vf' (W ++ [t1.1 + t2.1]) ((U.set t1.2 (L : Int)).set t2.2 (L : Int) ++ [-1]) ((F.set t1.2 false).set t2.2 false ++ [true]) ∧ Keeps (fun b => w.heap.size ≤ b) w4.drew w') := by
            have := add_ok w.heap.size _ _ _ _ _ _ (t1.1 + t2.1) w4.drew H4.out.1.drew (by have := HLL.out.2.2; omega)
            rw [show (((t1.1 + t2.1 : Nat)) : Int) = (t1.1 : Int) + (t2.1 : Int) by push_cast; rfl] at this
            exact this
          have HFin : Hid (∀ w5 vw' vu' vf', Rf w5 w.heap.size vw' vu' vf' (W ++ [t1.1 + t2.1]) ((U.set t1.2 (L : Int)).set t2.2 (L : Int) ++ [-1]) ((F.set t1.2 false).set t2.2 false ++ [true]) → Keeps (fun b => w.heap.size ≤ b) w4.drew w5 → ((∃ k S into W U F vw vu vf, k + (j + 1) = i ∧ into.length + 1 = i + (j + 1) ∧ Jr w5 w.heap.size R k S into W U F vw vu vf) ∧ Keeps (fun _ => False) w w5)) := fun w5 vw' vu' vf' h1 h2 => by
            obtain ⟨hJ, hK⟩ := HJ'.out
            have l1 := HLL.out.1
            have hLn : ((into.set t1.2 L).set t2.2 L ++ [L]).length = L + 1 := by simp [l1]
            exact ⟨⟨n, _, _, _, _, _, vw', vu', vf', by omega, by rw [hLn]; omega, jr_next hJ l1 h1⟩, hK.trans (H4.out.2.drew.trans h2 (fun _ _ h => h)) (fun i hi h => by omega)⟩
          have HGoal : Hid (j + 1 ≤ i) := hji
          clear HLL H4 HJ' hlen hil n1 q1 q2 hgu hk hWl
          go_wp2

          go_region_with (go_at_call 63; refine HAd.out.mono ?_; rintro e w5 ⟨rfl, vw', vu', vf', h1, h2⟩; have H5 : Hid ((∃ k S into W U F vw vu vf, k + (j + 1) = i ∧ into.length + 1 = i + (j + 1) ∧ Jr w5 w.heap.size R k S into W U F vw vu vf) ∧ Keeps (fun _ => False) w w5) := HFin.out w5 vw' vu' vf' h1 h2; clear h1 h2)
          all_goals
            clear HAd HFin hp0 hw1 hw2 hsw hsw'
            go_wp2
            go_roundw
            case rel => exact ⟨j + 1, by omega, HGoal.out, by push_cast; rfl, H5.out⟩
            case measure => simp [intOf]; omega
        · obtain rfl : j = i := by omega
          clear hji hj2 hj1
          obtain ⟨w0, rfl⟩ : ∃ w0, w0 = wr := ⟨_, rfl⟩
          obtain ⟨N, hN⟩ : ∃ N, 2 * j - 1 = N := ⟨_, rfl⟩
          have hN5 : N ≤ 575 := by omega
          have hjN : j ≤ N := by omega
          obtain ⟨gu, cu, hgu, HU⟩ : ∃ gu cu, gu < w0.heap.size ∧ Hid (Keeps (fun _ => False) w w0 ∧ Chain N R (dAll ws) ∧ w.heap.size < w0.heap.size ∧ ∀ w', Keeps (fun b => w0.heap.size ≤ b) w0 w' → w'.cell? ⟨w.heap.size, 1, none⟩ = some (.slice (some ⟨gu, 0, none⟩) N cu) ∧ ∀ q, q < N → w'.cell? ⟨gu, q, none⟩ = some (.int .i64 (if q + 1 = N then -1 else ((R.getD q 0 : Nat) : Int)))) := by
            obtain ⟨⟨k, S, into, W, U, F, vw, vu, vf, hk, hil, hJ⟩, hK⟩ := HJ.out
            obtain rfl : k = 0 := by omega
            have hIN : into.length = N := by omega
            have hUN : U.length = N := by rw [hJ.rf.lenU, hJ.lenW, hIN]
            match S, hJ with
            | [t], hJ =>
            have hRi : into = R := by rw [← hJ.run]; rfl
            obtain ⟨t', ht', hlast⟩ := hJ.al.last
            simp at ht'
            subst ht'
            obtain ⟨gu, cu, rfl, h1, h2⟩ := World.ownsRow.form hJ.rf.own.ou (by omega)
            have hch := chain_of ws (by rw [HM.out]; omega)
            rw [HM.out, HRn.out, hN] at hch
            have hpl : w.heap.size < w0.heap.size := lt_of_heap hJ.rf.blk
            refine ⟨gu, cu, h2, hK, hch, hpl, fun w' hk => ?_⟩
            have b1 := (hk.block w.heap.size hpl (by omega)).trans hJ.rf.blk
            refine ⟨by rw [← hUN]; exact cell_of_heap b1 rfl, fun q hq => ?_⟩
            rw [World.cell?_of_block (hk.block gu h2 (by omega)), (owns_cell hJ.rf.own.ou q _ (intsV_get U q (by omega))).1, hJ.ur q (by omega), hRi]
            by_cases e : q + 1 = N
            · have hft := ((hJ.av t').1 (by simp)).2.1
              rw [show t'.2 = q by omega] at hft
              rw [if_pos hft, if_pos e]
            · have : ¬ F.getD q false = true := fun hf => by
                have hm := List.mem_singleton.1 ((hJ.av (W.getD q 0, q)).2 ⟨by rw [hJ.lenW]; show q < _; omega, hf, rfl⟩)
                have e2 : q = t'.2 := congrArg Prod.snd hm
                omega
              rw [if_neg this, if_neg e]
          clear HJ HRn
          have HD : Hid (∀ e, e < j → (dsOf ws)[e]? = some (dAll ws e)) := fun e he => dsOf_get ws e (by rw [HM.out]; exact he)
          go_wp2
          go_loopw [8, 9] (fun s8 s9 w' => ∃ e : Nat, e ≤ j ∧ s9 = .int .i64 (e : Int) ∧ Hid (OwnV w' w0.heap.size s8 (ints ((dsOf ws).take e)) ∧ Keeps (fun b => w0.heap.size ≤ b) w0 w')) (fun s8 s9 w' => ((j : Int) - intOf s9).toNat)
          case atStart => exact ⟨0, by omega, rfl, OwnV.nil _ _, Keeps.refl _ _⟩
          case round =>
            obtain ⟨e, he, rfl, HE⟩ := hrel
            by_cases hej : e < j
            · have hez : (e : Int) < (j : Int) := by omega
              have heN : (e : Int) < (N : Int) := by omega
              obtain ⟨w6, rfl⟩ : ∃ w6, w6 = wr := ⟨_, rfl⟩
              obtain ⟨cu1, cuq⟩ := HU.out.2.2.2 w6 HE.out.2
              have cue := cuq e (by omega)
              have HQ : Hid (∀ q, q < N → w6.cell? ⟨gu, q, none⟩ = some (.int .i64 (if q + 1 = N then -1 else ((R.getD q 0 : Nat) : Int)))) := cuq
              have HStep : Hid (∀ q, q < N → ((q + 1 = N ∧ dAll ws q = 0) ∨ ∃ u, R.getD q 0 = u ∧ ¬ q + 1 = N ∧ q < u ∧ u < N ∧ dAll ws q = dAll ws u + 1)) := fun q hq => by
                by_cases e1 : q + 1 = N
                · left; refine ⟨e1, ?_⟩
                  have := HU.out.2.1.top
                  rw [show N - 1 = q by omega] at this; exact this
                · right
                  obtain ⟨u, u1, u2, u3, u4⟩ := HU.out.2.1.up q (by omega)
                  exact ⟨u, by rw [List.getD, u1]; rfl, e1, u2, u3, u4⟩
              obtain ⟨z0, hz0, HZ⟩ : ∃ z0 : Int, (if e + 1 = N then (-1 : Int) else ((R.getD e 0 : Nat) : Int)) = z0 ∧ Hid ((z0 = -1 ∧ 0 = dAll ws e) ∨ ∃ q : Nat, z0 = (q : Int) ∧ q < N ∧ 0 + 1 + dAll ws q = dAll ws e) := by
                refine ⟨_, rfl, ?_⟩
                rcases HStep.out e (by omega) with ⟨e1, e2⟩ | ⟨u, e1, e2, e3, e4, e5⟩
                · rw [if_pos e1]; exact .inl ⟨rfl, e2.symm⟩
                · rw [if_neg e2, e1]; exact .inr ⟨u, rfl, e4, by omega⟩
              rw [hz0] at cue
              have HDe : Hid (dAll ws e ≤ 575) := by
                have := HU.out.2.1.le e (by omega); show dAll ws e ≤ 575; omega
              have HTk : Hid (ints ((dsOf ws).take (e + 1)) = ints ((dsOf ws).take e) ++ [((dAll ws e : Nat) : Int)] ∧ (ints ((dsOf ws).take e)).length ≤ 600) := by
                have hel : e < (dsOf ws).length := by rw [dsOf_length, HM.out]; exact hej
                have := HD.out e hej
                rw [List.getElem?_eq_getElem hel] at this
                refine ⟨?_, by rw [ints_length, List.length_take]; omega⟩
                rw [List.take_succ_eq_append_getElem hel, ints_append, Option.some.inj this]; rfl
              clear cuq hz0
              generalize dAll ws e = De at *
              go_wp2
              go_loopw [10, 11] (fun s10 s11 w' => ∃ (kk : Nat) (jj : Int), s10 = .int .i64 (kk : Int) ∧ s11 = .int .i64 jj ∧ Hid ((jj = -1 ∧ kk = De) ∨ ∃ q : Nat, jj = (q : Int) ∧ q < N ∧ kk + 1 + dAll ws q = De) ∧ w' = w6) (fun s10 s11 w' => upM N (intOf s11))
              case atStart => exact ⟨0, z0, rfl, rfl, HZ, rfl⟩
              case round =>
                clear HZ cue
                obtain ⟨kk, jj, rfl, rfl, HZ, rfl⟩ := hrel
                by_cases hjj : jj < 0
                · obtain ⟨rfl, hkk⟩ : jj = -1 ∧ kk = De := by
                    rcases HZ.out with h | ⟨q, h1, _⟩
                    · exact h
                    · omega
                  subst hkk
                  go_wp2_with (refine wpList_one rfl _ _ rfl rfl w0.heap.size u8 (ints ((dsOf ws).take e)) rfl (HE.out.1.kept ((Keeps.refl (fun _ => False) wr).alloc _) (fun _ _ h => h)) wr.heap.size (kk : Int) rfl (heap_alloc_new _ _) ?hb ?hn ?_; (case hb => have := HE.out.2.size; simp; omega); (case hn => have := HTk.out.2; omega); intro gt ct w7 hO7 hG7 hA7)
                  go_roundw
                  case rel =>
                    refine ⟨e + 1, by omega, by push_cast; rfl, by rw [HTk.out.1]; exact hO7, (HE.out.2.alloc _).grown hG7 (fun k hk e => ?_)⟩
                    exact (World.ownsRow.lt HE.out.1 k e).1
                  case measure => simp [intOf]; omega
                · obtain ⟨q, rfl, hq, hkq⟩ : ∃ q : Nat, jj = (q : Int) ∧ q < N ∧ kk + 1 + dAll ws q = De := by
                    rcases HZ.out with h | h
                    · omega
                    · exact h
                  have cq := HQ.out q hq
                  have hqz : (q : Int) < (N : Int) := by omega
                  have hks : kk ≤ 575 := by have := HDe.out; omega
                  obtain ⟨z1, hz1, HZ1⟩ : ∃ z1 : Int, (if q + 1 = N then (-1 : Int) else ((R.getD q 0 : Nat) : Int)) = z1 ∧ Hid (((z1 = -1 ∧ kk + 1 = De) ∨ ∃ q' : Nat, z1 = (q' : Int) ∧ q' < N ∧ kk + 1 + 1 + dAll ws q' = De) ∧ (z1 = -1 ∨ (q : Int) < z1)) := by
                    refine ⟨_, rfl, ?_⟩
                    rcases HStep.out q hq with ⟨e1, e2⟩ | ⟨u, e1, e2, e3, e4, e5⟩
                    · rw [if_pos e1]; exact ⟨.inl ⟨rfl, by omega⟩, .inl rfl⟩
                    · rw [if_neg e2, e1]; exact ⟨.inr ⟨u, rfl, e4, by omega⟩, .inr (by omega)⟩
                  rw [hz1] at cq
                  clear hz1 HZ
                  go_wp2
                  go_roundw
                  case rel => exact ⟨kk + 1, z1, by push_cast; rfl, rfl, HZ1.out.1, trivial⟩
                  case measure =>
                    have h2 := HZ1.out.2
                    have h1 : z1 < (N : Int) := by rcases HZ1.out.1 with ⟨h, _⟩ | ⟨q', h, h', _⟩ <;> omega
                    exact upM_lt N q z1 h2 h1 hq
            · obtain rfl : e = j := by omega
              go_wp2
              go_ret
              obtain ⟨o1, o2⟩ := HE.out
              obtain ⟨k1, k2, k3, _⟩ := HU.out
              rw [List.take_of_length_le (by rw [dsOf_length, HM.out]; omega)] at o1
              refine ⟨_, rfl, ⟨o1.1, ?_⟩, k1.trans o2 (fun i hi h => by omega)⟩
              rcases o1.2 with h | ⟨g', c', cur, h1, h2, h3⟩
              · exact .inl h
              · exact .inr ⟨g', c', cur, h1, by omega, h3⟩

end Go.Proofs.Ytdbfbijalhknnaa.Lm

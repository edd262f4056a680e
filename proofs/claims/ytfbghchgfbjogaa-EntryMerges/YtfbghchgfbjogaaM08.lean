/-
  finderOf and bookOf of package inflate. repeated, run and runs of package inflate: the lengths that a dynamic block tells. runs, mayTellBytes and mayTellDists of package inflate. Arrays of nineteen numbers in a block of their own, and the calls of package layout: Row and FixedDists.
-/
import Derived.Test.YtfbghchgfbjogaaRows
import Derived.Test.YtfbghchgfbjogaaM07
namespace Go.Proofs.Ytfbghchgfbjogaa
open Go.RowKit
open Hf Tb
set_option linter.unusedVariables false
set_option linter.unusedSimpArgs false

def Pr (w : World) (b : Nat) (p q : Int) : Prop := w.heap[b]? = some (.cells #[.int .i64 p, .int .i64 q] 132 (0, 0))
theorem zeroC : (zeroValue 132).run Try.prog = fun w => .ok (.agg #[.int .i64 0, .int .i64 0]) w := by kernel_rfl
theorem wpList_allocC {ops : Array Oper} {rest : List Oper} {op : Oper} {a : Act} {w : World} {Q : Exit → Act → World → Prop} (hgd : op.guard = none) (ho : op.op = .alloc 132)
    (h : ∀ b w1, Pr w1 b 0 0 → Keeps (fun _ => False) w w1 → w.heap.size ≤ b → wpList Try.prog ops Q rest (a.put op.dst (.pointer (some ⟨b, 0, none⟩))) w1) : wpList Try.prog ops Q (op :: rest) a w :=
  wpList_plain hgd fun _ hK => by
    unfold Oper.wp execOp
    have hz := congrFun zeroC w
    simp only [ho, Instr.alloc, Sem.run_bind, hz, Result.andThen_ok]
    simp only [newVar, Sem.run_bind, Sem.run_pure, Result.andThen_ok]
    exact hK _ _ (h w.heap.size _ (heap_alloc_new _ _) ((Keeps.refl _ w).alloc _) (Nat.le_refl _))
theorem pair_range {w : World} {g o : Nat} {p q : Int} (h0 : w.cell? ⟨g, o, none⟩ = some (.int .i64 p)) (h1 : w.cell? ⟨g, o + 1, none⟩ = some (.int .i64 q)) : w.rangeAt g o [.int .i64 p, .int .i64 q] := fun j v hv => by
  match j, hv with
  | 0, hv => simp at hv; subst hv; exact h0
  | 1, hv => simp at hv; subst hv; exact h1
theorem wpList_loadC {ops : Array Oper} {rest : List Oper} {op : Oper} {a : Act} {w : World} {Q : Exit → Act → World → Prop} (hgd : op.guard = none) (x : Operand) (ho : op.op = .load 132 x) (g o : Nat) (hx : a.eval x = .pointer (some ⟨g, o, none⟩)) (p q : Int) (h0 : w.cell? ⟨g, o, none⟩ = some (.int .i64 p)) (h1 : w.cell? ⟨g, o + 1, none⟩ = some (.int .i64 q))
    (h : wpList Try.prog ops Q rest (a.put op.dst (.agg #[.int .i64 p, .int .i64 q])) w) : wpList Try.prog ops Q (op :: rest) a w :=
  wpList_load_mid hgd 132 x ho g o hx [.int .i64 p, .int .i64 q] _ (pair_range h0 h1) Try.underlying132 rfl size43 h
theorem Pr.set {w : World} {b : Nat} {p q : Int} (h : Pr w b p q) (x y : Int) : Pr (w.setCells b 0 [.int .i64 x, .int .i64 y]) b x y := by
  show Pr ((w.setCell ⟨b, 0, none⟩ (.int .i64 x)).setCell ⟨b, 1, none⟩ (.int .i64 y)) b x y
  unfold Pr
  rw [heap_setCell_same (heap_setCell_same h _)]; rfl
theorem wpList_storeC {ops : Array Oper} {rest : List Oper} {op : Oper} {a : Act} {w : World} {Q : Exit → Act → World → Prop} (hgd : op.guard = none) (x y : Operand) (ho : op.op = .store 132 x y) (b : Nat) (p q : Int) (hx : a.eval x = .pointer (some ⟨b, 0, none⟩)) (hy : a.eval y = .agg #[.int .i64 p, .int .i64 q]) (p0 q0 : Int) (hP : Pr w b p0 q0)
    (h : ∀ w1, Pr w1 b p q → Keeps (fun k => k = b) w w1 → wpList Try.prog ops Q rest (a.put op.dst undef) w1) : wpList Try.prog ops Q (op :: rest) a w :=
  wpList_store_mid hgd 132 x y ho b 0 #[.int .i64 p, .int .i64 q] hx hy (fun j hj => by
      have hj' : j = 0 ∨ j = 1 := by simp at hj; omega
      rcases hj' with rfl | rfl
      · exact ⟨by rw [Nat.add_zero, cell_of_heap (i := 0) hP rfl]; rfl, frozen_of_heap hP⟩
      · exact ⟨by rw [cell_of_heap (i := 0 + 1) hP rfl]; rfl, frozen_of_heap hP⟩) size43 (by simp [Value.oneCell']) (h _ (hP.set p q) (Hf.keeps_setCells (S := fun k => k = b) b (fun _ => rfl) _ _ _ (Keeps.refl _ w)))

def symC (ys : List Int) (i k : Nat) : List Nat := if k = 0 then [] else symF (k : Int) (ys.take i) 0
def natsV (l : List Nat) : List Value := l.map (fun (i : Nat) => Value.int .i64 (i : Int))
structure Fc (w : World) (f : Nat) (ys : List Int) (i : Nat) (G : Nat → Nat) (V : Nat → Value) : Prop where
  blk : Fb w f G V
  own : ∀ k, k < 16 → w.ownsRow (f + 1) 3 1 (V k) (symC ys i k).length (natsV (symC ys i k))
  apart : ∀ j k g, j < 16 → k < 16 → j ≠ k → (V j).ownBlock = some g → (V k).ownBlock ≠ some g
  first : ∀ k, 1 ≤ k → k < 16 → symC ys i k ≠ [] → G k = fstC (cn ys) k
  small : ∀ k, k < 16 → G k ≤ 20000000
theorem symC_next_other (ys : List Int) (i k c : Nat) (hi : i < ys.length) (hc : at_ ys i = (c : Int)) (hk : k ≠ c) : symC ys (i + 1) k = symC ys i k := by
  unfold symC
  by_cases h0 : k = 0
  · rw [if_pos h0, if_pos h0]
  · rw [if_neg h0, if_neg h0, take_snoc ys i hi, symF_snoc, if_neg, List.append_nil]
    rw [at_eq i hi] at hc
    rw [hc]; omega
theorem symC_next (ys : List Int) (i c : Nat) (hi : i < ys.length) (hc : at_ ys i = (c : Int)) (hc1 : 1 ≤ c) : symC ys (i + 1) c = symC ys i c ++ [i] := by
  unfold symC
  rw [if_neg (by omega), if_neg (by omega), take_snoc ys i hi, symF_snoc]
  rw [at_eq i hi] at hc
  rw [hc, if_pos rfl, List.length_take, Nat.zero_add, Nat.min_eq_left (by omega)]
theorem symC_zero (ys : List Int) (i k : Nat) (hi : i < ys.length) (hc : at_ ys i = ((0 : Nat) : Int)) : symC ys (i + 1) k = symC ys i k := by
  by_cases h0 : k = 0
  · subst h0; rfl
  · exact symC_next_other ys i k 0 hi hc h0
theorem symC_length (ys : List Int) (i k : Nat) (hk : 1 ≤ k) : (symC ys i k).length = cnt (ys.take i) k := by
  unfold symC; rw [if_neg (by omega), symF_length]
theorem form_of {w : World} {base : Nat} {v : Value} {n : Nat} {xs : List Value} (h : w.ownsRow base 3 1 v n xs) : ∃ a cap, v = .slice a n cap := by
  rcases h.2 with ⟨e, h0⟩ | ⟨g, cap, cur, e, _⟩
  · exact ⟨none, 0, by rw [e, h0]⟩
  · exact ⟨_, cap, e⟩

theorem add_ok {w : World} {f : Nat} {ys : List Int} {i : Nat} {G : Nat → Nat} {V : Nat → Value} (h : Fc w f ys i G V) (c : Nat) (hi : i < ys.length) (hc : at_ ys i = (c : Int)) (hc1 : 1 ≤ c) (hc2 : c ≤ 15) (hl : ys.length ≤ 288) :
    Calls Try.prog 80 #[.pointer (some ⟨f, 0, none⟩), .int .i64 (i : Int), .agg #[.int .i64 (c : Int), .int .i64 (codeV ys i : Int)]] w fun e w' => e = .returned (.tuple #[]) ∧ Keeps (fun k => f ≤ k) w w' ∧ ∃ G' V', Fc w' f ys (i + 1) G' V' := by
  have ho := h.own c (by omega)
  obtain ⟨ad, cap0, hv⟩ := form_of ho
  obtain ⟨n, hn⟩ : ∃ n, (symC ys i c).length = n := ⟨_, rfl⟩
  have hnc : n = cnt (ys.take i) c := by rw [← hn]; exact symC_length ys i c hc1
  have hn3 : n ≤ 288 := by
    have := cnt_le (ys.take i) c
    rw [List.length_take] at this; omega
  rw [hn] at ho hv
  rw [hv] at ho
  have hq : codeV ys i = fstC (cn ys) c + n := by
    unfold codeV
    rw [hc, decide_eq_true (by omega), cond_true, hnc]
    simp
  have hfs := fstC_small ys hl c hc2
  refine (add_run f c n cap0 (i : Int) (codeV ys i : Int) ad (natsV (symC ys i c)) w (by omega) (by omega) h.blk.lt (by rw [h.blk.hi c (by omega), hv]) (h.blk.free _) ⟨_, h.blk.lo c (by omega)⟩ (h.blk.free _) ho).mono ?_
  rintro e w' ⟨rfl, g, cap, w0, w1, w2, hK0, hw1, ho2, hK2, hg, hgl, rfl⟩
  have hlow : ∀ k b, k < 16 → (V k).ownBlock = some b → f + 1 ≤ b ∧ b < w.heap.size := fun k b hk e => World.ownsRow.lt (h.own k hk) b e
  have hgf : f + 1 ≤ g := by
    rcases hg with hg | hg
    · exact (hlow c g (by omega) (by rw [hv]; exact hg)).1
    · have := h.blk.lt; omega
  have hK1 : Keeps (fun k => k = f) w w1 := by
    rw [hw1]
    split
    · exact (hK0.mono (S' := fun k => k = f) (fun _ _ e => e.elim)).setCell (p := ⟨f, c, none⟩) (fun _ => rfl) _
    · exact hK0.mono (fun _ _ e => e.elim)
  obtain ⟨G', hG', hG1⟩ : ∃ G', Fb w1 f G' V ∧ (n = 0 → G' = upd G c (codeV ys i)) ∧ (n ≠ 0 → G' = G) := by
    rw [hw1]
    by_cases h0 : n = 0
    · rw [if_pos h0]; exact ⟨upd G c (codeV ys i), (h.blk.kept hK0 (fun h => h)).setLo c _ (by omega), fun _ => rfl, fun e => absurd h0 e⟩
    · rw [if_neg h0]; exact ⟨G, h.blk.kept hK0 (fun h => h), fun e => absurd e h0, fun _ => rfl⟩
  have hb2 : Fb w2 f G' V := hG'.kept hK2 (fun e => by have := (hlow c f (by omega) (by rw [hv]; exact e)).1; omega)
  refine ⟨rfl, ?_, G', updV V c (.slice (some ⟨g, 0, none⟩) (n + 1) cap), ⟨hb2.setHi c _ (by omega), ?_, ?_, ?_, ?_⟩⟩
  · refine Keeps.setCell (S := fun k => f ≤ k) ((hK1.mono (S' := fun k => f ≤ k) (fun _ _ e => by omega)).trans hK2 (fun k _ e => ?_)) (p := ⟨f, 16 + c, none⟩) (fun _ => Nat.le_refl _) _
    have := (hlow c k (by omega) (by rw [hv]; exact e)).1; omega
  · intro k hk
    by_cases ek : k = c
    · subst ek
      unfold updV
      rw [if_pos rfl, symC_next ys i k hi hc hc1, List.length_append, hn]
      have := owns_far ho2 (p := ⟨f, 16 + k, none⟩) (by simp [Value.ownBlock]; omega) (.slice (some ⟨g, 0, none⟩) (n + 1) cap)
      simpa [natsV] using this
    · unfold updV
      rw [if_neg ek, symC_next_other ys i k c hi hc ek]
      have hne : ∀ b, (V k).ownBlock = some b → b ≠ f := fun b e => by have := (hlow k b hk e).1; omega
      refine owns_far (owns_heap (h.own k hk) (fun b e => ?_)) (p := ⟨f, 16 + c, none⟩) (fun e => hne f e rfl) _
      have h1 := hK1.block b (hlow k b hk e).2 (hne b e)
      have h2 := hK2.block b (by have := hK1.size; have := (hlow k b hk e).2; omega) (fun e2 => h.apart c k b (by omega) hk (fun x => ek x.symm) (by rw [hv]; exact e2) e)
      exact h2.trans h1
  · have hnew : ∀ k b, k < 16 → k ≠ c → (V k).ownBlock = some b → b ≠ g := fun k b hk hkc e eb => by
      subst eb
      rcases hg with hg | hg
      · exact h.apart c k b (by omega) hk (fun x => hkc x.symm) (by rw [hv]; exact hg) e
      · have := (hlow k b hk e).2; omega
    intro j k b hj hk hjk e1 e2
    unfold updV at e1 e2
    by_cases ej : j = c
    · rw [if_pos ej] at e1
      rw [if_neg (by omega)] at e2
      simp [Value.ownBlock] at e1
      exact hnew k b hk (by omega) e2 e1.symm
    · rw [if_neg ej] at e1
      by_cases ek : k = c
      · rw [if_pos ek] at e2
        simp [Value.ownBlock] at e2
        exact hnew j b hj ej e1 e2.symm
      · rw [if_neg ek] at e2
        exact h.apart j k b hj hk hjk e1 e2
  · intro k hk1 hk hne
    by_cases ek : k = c
    · subst ek
      by_cases h0 : n = 0
      · rw [hG1.1 h0]; unfold upd; rw [if_pos rfl, hq, h0]; rfl
      · rw [hG1.2 h0]; exact h.first k hk1 hk (fun e => by rw [e] at hn; simp at hn; omega)
    · have hk2 := h.first k hk1 hk (by rw [symC_next_other ys i k c hi hc ek] at hne; exact hne)
      by_cases h0 : n = 0
      · rw [hG1.1 h0]; unfold upd; rw [if_neg ek]; exact hk2
      · rw [hG1.2 h0]; exact hk2
  · intro k hk
    by_cases h0 : n = 0
    · rw [hG1.1 h0]; unfold upd; split
      · omega
      · exact h.small k hk
    · rw [hG1.2 h0]; exact h.small k hk

theorem Fc.keptF {w w' : World} {f : Nat} {ys : List Int} {i : Nat} {G : Nat → Nat} {V : Nat → Value} (h : Fc w f ys i G V) {S : Nat → Prop} (hk : Keeps S w w') (hS : ∀ k, f ≤ k → k < w.heap.size → ¬ S k) : Fc w' f ys i G V :=
  ⟨h.blk.kept hk (hS f (Nat.le_refl _) h.blk.lt), fun k hk1 => owns_heap (h.own k hk1) (fun b e => hk.block b (World.ownsRow.lt (h.own k hk1) b e).2 (hS b (by have := (World.ownsRow.lt (h.own k hk1) b e).1; omega) (World.ownsRow.lt (h.own k hk1) b e).2)), h.apart, h.first, h.small⟩
theorem Fc.found {w : World} {f : Nat} {ys : List Int} {G : Nat → Nat} {V : Nat → Value} (h : Fc w f ys ys.length G V) (lo : Nat) (hlo : lo ≤ f) : Fnd w lo w.heap.size f ys := by
  refine ⟨hlo, h.blk.lt, Nat.le_refl _, fun k h1 h2 => ?_⟩
  have hc : symC ys ys.length k = symF (k : Int) ys 0 := by unfold symC; rw [if_neg (by omega), List.take_length]
  have ho := h.own k (by omega)
  have hf := h.first k h1 (by omega)
  rw [hc] at ho hf
  obtain ⟨ad, cap, hv⟩ := form_of ho
  refine ⟨G k, ad, cap, h.blk.lo k (by omega), by rw [h.blk.hi k (by omega), hv], hf, h.small k (by omega), fun j hj => ?_⟩
  obtain ⟨g, cap', e, hg1, hg2⟩ := World.ownsRow.form ho (by omega)
  rw [hv] at e
  cases e
  refine ⟨g, rfl, by omega, hg2, ?_⟩
  rw [hv] at ho
  exact (owns_cell ho j _ (by simp [natsV, List.getElem?_map, List.getElem?_eq_getElem hj])).1

set_option maxHeartbeats 4000000 in
set_option maxRecDepth 1000000 in
theorem finderOf_ok (a : Option Addr) (ys : List Int) (cap : Nat) (w : World) (hR : Row w a ys) (ht : fits ys = true) :
    Calls Try.prog 69 #[.slice a ys.length cap] w fun e w' => ∃ f, e = .returned (.pointer (some ⟨f, 0, none⟩)) ∧ Keeps (fun _ => False) w w' ∧ Fnd w' w.heap.size w'.heap.size f ys := by
  have hm := (fits_true ht).1
  have hlen := may_len hm
  have HC : Hid (Calls Try.prog 79 #[.slice a ys.length cap] w fun e w' => ∃ g, e = .returned (.tuple #[.slice (some ⟨g, 0, none⟩) ys.length ys.length, .int .i64 0]) ∧ Keeps (fun _ => False) w w' ∧ w.heap.size ≤ g ∧ Cds w' g ys.length (codeF ys)) := codes_good a ys cap w hR (by omega) ht
  have HA : Hid (∀ i, i < ys.length → 0 ≤ at_ ys i ∧ at_ ys i ≤ 15) := fun i hi => by rw [at_eq i hi]; exact may_at hm i hi
  clear hR ht hm
  generalize hL : ys.length = N at *
  have HL : Hid (ys.length = N) := hL
  clear hL
  go_enter Try.func69, Try.ntmps69
  go_wp2_with fail
  refine HC.out.mono ?_
  rintro e w2 ⟨g, rfl, hK2, hg2, hC2⟩
  have H2 : Hid (Keeps (fun _ => False) w w2 ∧ w.heap.size ≤ g ∧ Cds w2 g N (codeF ys)) := ⟨hK2, hg2, hC2⟩
  clear HC hK2 hg2 hC2
  go_wp2
  generalize hw3 : World.alloc _ _ = w3
  have hz2 : w2.heap.size = w2.heap.size := rfl
  generalize hf : w2.heap.size = f at hz2 ⊢
  have HF : Hid (Fc w3 f ys 0 (fun _ => 0) (fun _ => .slice none 0 0) ∧ Cds w3 g N (codeF ys) ∧ Keeps (fun _ => False) w w3 ∧ g < f ∧ w.heap.size ≤ f) := by
    have hC := H2.out.2.2
    have hgl := hC.lt
    have hk : Keeps (fun _ => False) w2 w3 := by rw [← hw3]; exact (Keeps.refl _ w2).alloc _
    refine ⟨⟨?_, ?_, ?_, ?_, ?_⟩, hC.kept hk (fun h => h), H2.out.1.trans hk (fun _ _ h => h), by omega, by have := H2.out.1.size; omega⟩
    · unfold Fb; rw [← hw3, ← hf, heap_alloc_new]; rfl
    · intro k hk
      have e : symC ys 0 k = [] := by unfold symC; split <;> simp [symF]
      rw [e]; exact World.ownsRow_nil w3 (f + 1) 3 1
    · intro j k q _ _ _ e; cases e
    · intro k _ _ hne
      have e : symC ys 0 k = [] := by unfold symC; split <;> simp [symF]
      exact absurd e hne
    · intro k _; exact Nat.zero_le _
  clear hw3 hf hz2 H2
  go_loopw [17] (fun s17 w' => ∃ i : Nat, i ≤ N ∧ s17 = .int .i64 (i : Int) ∧ Hid ((∃ G V, Fc w' f ys i G V) ∧ Cds w' g N (codeF ys) ∧ Keeps (fun _ => False) w w' ∧ g < f ∧ w.heap.size ≤ f)) (fun s17 _ => ((N : Int) - intOf s17).toNat)
  case atStart => exact ⟨0, by omega, rfl, ⟨_, _, HF.out.1⟩, HF.out.2⟩
  case round =>
    clear HF
    obtain ⟨i, hi, rfl, HW⟩ := hrel
    by_cases hin : i < N
    · have hiz : (i : Int) < (N : Int) := by omega
      obtain ⟨h0, h15⟩ := HA.out i hin
      obtain ⟨c, hc⟩ : ∃ c : Nat, at_ ys i = (c : Int) := ⟨(at_ ys i).toNat, by omega⟩
      have hc0 : wr.cell? ⟨g, i * 2, none⟩ = some (.int .i64 (c : Int)) := by rw [← hc]; exact HW.out.2.1.bits i hin
      have hc1 : wr.cell? ⟨g, i * 2 + 1, none⟩ = some (.int .i64 (codeV ys i : Int)) := HW.out.2.1.value i hin
      rw [hc] at h0 h15
      have HY : Hid (at_ ys i = (c : Int)) := hc
      clear hc
      obtain ⟨q, hq⟩ : ∃ q, codeV ys i = q := ⟨_, rfl⟩
      rw [hq] at hc1
      have HQ : Hid (codeV ys i = q) := hq
      clear hq
      by_cases hp : 0 < c
      · have hpz : 0 < (c : Int) := by omega
        go_wp2_with (first
          | (refine wpList_loadC rfl _ rfl g (i * 2) rfl (c : Int) (q : Int) ?h0 ?h1 ?_; (case h0 => assumption); (case h1 => assumption); (fail_if_success (clear HM1)); have HM1 := True.intro)
          | (refine wpList_allocC rfl rfl ?_; intro b5 w5 hP5 hK5 hb5; have H5 : Hid (Keeps (fun _ => False) wr w5 ∧ wr.heap.size ≤ b5) := ⟨hK5, hb5⟩; clear hK5 hb5)
          | (refine wpList_storeC rfl _ _ rfl b5 (c : Int) (q : Int) rfl rfl 0 0 hP5 ?_; intro w6 hP6 hK6; have d0 : w6.cell? ⟨b5, 0, none⟩ = some (.int .i64 (c : Int)) := cell_of_heap hP6 rfl; have d1 : w6.cell? ⟨b5, 0 + 1, none⟩ = some (.int .i64 (q : Int)) := cell_of_heap hP6 rfl; have H6 : Hid (Keeps (fun k => k = b5) w5 w6) := hK6; clear hK6 hP5 hP6)
          | (refine wpList_loadC rfl _ rfl b5 0 rfl (c : Int) (q : Int) ?h0 ?h1 ?_; (case h0 => assumption); (case h1 => assumption)))
        have H7 : Hid (Calls Try.prog 80 #[.pointer (some ⟨f, 0, none⟩), .int .i64 (i : Int), .agg #[.int .i64 (c : Int), .int .i64 (q : Int)]] w6 fun e w' => e = .returned (.tuple #[]) ∧ ((∃ G V, Fc w' f ys (i + 1) G V) ∧ Cds w' g N (codeF ys) ∧ Keeps (fun _ => False) w w' ∧ g < f ∧ w.heap.size ≤ f)) := by
          obtain ⟨⟨G, V, hF⟩, hC, hK, hgf, hwf⟩ := HW.out
          have k1 := H5.out.1
          have hfl := hF.blk.lt
          have hb := H5.out.2
          have kk : Keeps (fun k => k = b5) wr w6 := (k1.mono (S' := fun k => k = b5) (fun _ _ h => h.elim)).trans H6.out (fun _ _ h => h)
          have hF2 := hF.keptF kk (fun k _ hk e => by omega)
          have hK2 : Keeps (fun _ => False) w w6 := hK.trans kk (fun k hk e => by have := hK.size; omega)
          have hC2 := hC.kept kk (by have := hC.lt; omega)
          rw [← HQ.out]
          refine (add_ok hF2 c (by rw [HL.out]; exact hin) HY.out (by omega) (by omega) (by rw [HL.out]; omega)).mono ?_
          rintro e w' ⟨rfl, hK3, G', V', hF3⟩
          exact ⟨rfl, ⟨G', V', hF3⟩, hC2.kept hK3 (by omega), hK2.trans hK3 (fun k hk e => by omega), hgf, hwf⟩
        refine H7.out.mono ?_
        rintro e w7 ⟨rfl, h8⟩
        have H8 : Hid ((∃ G V, Fc w7 f ys (i + 1) G V) ∧ Cds w7 g N (codeF ys) ∧ Keeps (fun _ => False) w w7 ∧ g < f ∧ w.heap.size ≤ f) := h8
        clear h8 H7 H5 H6 d0 d1 hc0 hc1
        go_wp2
        go_roundw
        case rel => exact ⟨i + 1, by omega, by push_cast; rfl, H8⟩
        case measure => simp [intOf]; omega
      · obtain rfl : c = 0 := by omega
        go_wp2_with (first
          | (refine wpList_loadC rfl _ rfl g (i * 2) rfl ((0 : Nat) : Int) (q : Int) ?h0 ?h1 ?_; (case h0 => assumption); (case h1 => assumption))
          | (refine wpList_allocC rfl rfl ?_; intro b5 w5 hP5 hK5 hb5; have H5 : Hid (Keeps (fun _ => False) wr w5 ∧ wr.heap.size ≤ b5) := ⟨hK5, hb5⟩; clear hK5 hb5)
          | (refine wpList_storeC rfl _ _ rfl b5 ((0 : Nat) : Int) (q : Int) rfl rfl 0 0 hP5 ?_; intro w6 hP6 hK6; have d0 : w6.cell? ⟨b5, 0, none⟩ = some (.int .i64 ((0 : Nat) : Int)) := cell_of_heap hP6 rfl; have H6 : Hid (Keeps (fun k => k = b5) w5 w6) := hK6; clear hK6 hP5 hP6))
        go_roundw
        case rel =>
          refine ⟨i + 1, by omega, by push_cast; rfl, ?_⟩
          obtain ⟨⟨G, V, hF⟩, hC, hK, hgf, hwf⟩ := HW.out
          have k1 := H5.out.1
          have hfl := hF.blk.lt
          have hb := H5.out.2
          have kk : Keeps (fun k => k = b5) wr w6 := (k1.mono (S' := fun k => k = b5) (fun _ _ h => h.elim)).trans H6.out (fun _ _ h => h)
          have hF2 := hF.keptF kk (fun k _ hk e => by omega)
          refine ⟨⟨G, V, ⟨hF2.blk, fun k hk => ?_, hF2.apart, fun k hk1 hk hne => ?_, hF2.small⟩⟩, hC.kept kk (by have := hC.lt; omega), hK.trans kk (fun k hk e => by have := hK.size; omega), hgf, hwf⟩
          · rw [symC_zero ys i k (by rw [HL.out]; exact hin) HY.out]; exact hF2.own k hk
          · rw [symC_zero ys i k (by rw [HL.out]; exact hin) HY.out] at hne; exact hF2.first k hk1 hk hne
        case measure => simp [intOf]; omega
    · obtain rfl : i = N := by omega
      go_wp2
      go_ret
      obtain ⟨⟨G, V, hF⟩, hC, hK, hgf, hwf⟩ := HW.out
      rw [← HL.out] at hF
      exact ⟨f, rfl, hK, hF.found _ hwf⟩

theorem Fnd.wider {w : World} {lo hi lo' hi' f : Nat} {ys : List Int} (h : Fnd w lo hi f ys) (h1 : lo' ≤ lo) (h2 : hi ≤ hi') (h3 : hi' ≤ w.heap.size) : Fnd w lo' hi' f ys := by
  obtain ⟨a, b, c, d⟩ := h
  refine ⟨by omega, by omega, h3, fun k k1 k2 => ?_⟩
  obtain ⟨F, ad, cap, c1, c2, c3, c4, c5⟩ := d k k1 k2
  refine ⟨F, ad, cap, c1, c2, c3, c4, fun j hj => ?_⟩
  obtain ⟨g, e, g1, g2, g3⟩ := c5 j hj
  exact ⟨g, e, by omega, by omega, g3⟩

set_option maxHeartbeats 2000000 in
set_option maxRecDepth 1000000 in
theorem bookOf_ok (a a2 : Option Addr) (ys ds : List Int) (cap cap2 : Nat) (w : World) (hR : Row w a ys) (ht : fits ys = true) (hR2 : Row w a2 ds) (ht2 : fits ds = true) :
    Calls Try.prog 60 #[.slice a ys.length cap, .slice a2 ds.length cap2] w fun e w' => ∃ q, e = .returned (.pointer (some ⟨q, 0, none⟩)) ∧ Keeps (fun _ => False) w w' ∧ Book w' w.heap.size w'.heap.size q ys ds := by
  have HC1 : Hid (Calls Try.prog 69 #[.slice a ys.length cap] w fun e w' => ∃ f, e = .returned (.pointer (some ⟨f, 0, none⟩)) ∧ Keeps (fun _ => False) w w' ∧ Fnd w' w.heap.size w'.heap.size f ys) := finderOf_ok a ys cap w hR ht
  have HC2 : Hid (∀ w2, Keeps (fun _ => False) w w2 → Calls Try.prog 69 #[.slice a2 ds.length cap2] w2 fun e w' => ∃ f, e = .returned (.pointer (some ⟨f, 0, none⟩)) ∧ Keeps (fun _ => False) w2 w' ∧ Fnd w' w2.heap.size w'.heap.size f ds) := fun w2 hk => finderOf_ok a2 ds cap2 w2 (hR2.keptF hk) ht2
  clear hR ht hR2 ht2
  generalize ys.length = N1 at *
  generalize ds.length = N2 at *
  go_enter Try.func60, Try.ntmps60
  go_wp2_with fail
  refine HC1.out.mono ?_
  rintro e w2 ⟨f1, rfl, hK2, hF2⟩
  have H2 : Hid (Keeps (fun _ => False) w w2 ∧ Fnd w2 w.heap.size w2.heap.size f1 ys) := ⟨hK2, hF2⟩
  clear HC1 hK2 hF2
  go_wp2_with fail
  refine (HC2.out w2 H2.out.1).mono ?_
  rintro e w3 ⟨f2, rfl, hK3, hF3⟩
  have H3 : Hid (Keeps (fun _ => False) w w3 ∧ Fnd w3 w.heap.size w3.heap.size f1 ys ∧ Fnd w3 w.heap.size w3.heap.size f2 ds) := by
    have h := H2.out
    have hs := h.1.size
    have hs3 := hK3.size
    exact ⟨h.1.trans hK3 (fun _ _ h => h), (h.2.kept hK3 (fun _ _ _ h => h)).wider (Nat.le_refl _) hs3 (Nat.le_refl _), hF3.wider hs (Nat.le_refl _) (Nat.le_refl _)⟩
  clear HC2 H2 hK3 hF3
  go_wp2
  go_ret
  obtain ⟨h1, h2, h3⟩ := H3.out
  have hs := h1.size
  refine ⟨_, rfl, h1.alloc _, f1, f2, heap_alloc_new _ _, hs, by simp, ?_, ?_⟩
  · exact (h2.kept ((Keeps.refl (fun _ => False) w3).alloc _) (fun _ _ _ h => h)).wider (Nat.le_refl _) (by simp) (Nat.le_refl _)
  · exact (h3.kept ((Keeps.refl (fun _ => False) w3).alloc _) (fun _ _ _ h => h)).wider (Nat.le_refl _) (by simp) (Nat.le_refl _)

end Go.Proofs.Ytfbghchgfbjogaa

namespace Go.Proofs.Ytfbghchgfbjogaa
open Go.RowKit
open Hf Tb
set_option linter.unusedVariables false
set_option linter.unusedSimpArgs false

/-- What a call leaves that reads a few lengths into a block of their own. -/
def RunPost (R : Option (List Int × Bts)) (w : World) (b r : Nat) (v : Value) (s : ByteArray) (most : Nat) (xs : List Nat) (e : Ending) (w' : World) : Prop :=
  (R = none → e = .returned (.tuple #[.slice none 0 0, .int .i64 700]) ∧ Keeps (Own3 b r v) w w') ∧
  ∀ rs L', R = some (rs, L') → ∃ g, e = .returned (.tuple #[.slice (some ⟨g, 0, none⟩) rs.length rs.length, .int .i64 0]) ∧ Blk w' g rs ∧ w.heap.size ≤ g ∧ St w' b r v s most L' xs ∧ Rdv w w' b r v
theorem RunPost.noneI {w : World} {b r : Nat} {v : Value} {s : ByteArray} {most : Nat} {xs : List Nat} {w' : World} (h : Keeps (Own3 b r v) w w') : RunPost none w b r v s most xs (.returned (.tuple #[.slice none 0 0, .int .i64 700])) w' :=
  ⟨fun _ => ⟨rfl, h⟩, fun _ _ e => by cases e⟩
theorem RunPost.someI {w : World} {b r : Nat} {v : Value} {s : ByteArray} {most : Nat} {xs : List Nat} {w' : World} {rs : List Int} {L' : Bts} {g n : Nat} (hn : rs.length = n) (hB : Blk w' g rs) (hg : w.heap.size ≤ g) (hS : St w' b r v s most L' xs) (hA : Rdv w w' b r v) : RunPost (some (rs, L')) w b r v s most xs (.returned (.tuple #[.slice (some ⟨g, 0, none⟩) n n, .int .i64 0])) w' :=
  ⟨fun e => by (cases e), fun _ _ e => by cases e; subst hn; exact ⟨g, rfl, hB, hg, hS, hA⟩⟩

set_option maxHeartbeats 2000000 in
set_option maxRecDepth 100000 in
theorem repeated_ok {w : World} {b r : Nat} {v : Value} {s : ByteArray} {most : Nat} {L : Bts} {xs : List Nat} (h : St w b r v s most L xs) (y : Int) (a k : Nat) (ha1 : 1 ≤ a) (ha : a ≤ 11) (hk : k ≤ 7) :
    Calls Try.prog 93 #[.pointer (some ⟨b, 0, none⟩), .int .i64 y, .int .i64 (a : Int), .int .i64 (k : Int)] w (RunPost (bnd (aboveL a k) (fun m => retL (List.replicate m y)) L) w b r v s most xs) := by
  obtain ⟨R, hR⟩ : ∃ R, bnd (aboveL a k) (fun m => retL (List.replicate m y)) L = R := ⟨_, rfl⟩
  rw [hR]
  rcases h1 : aboveL a k L with _ | ⟨m, L1⟩
  · have e : R = none := by rw [← hR, bnd_none h1]
    subst e
    have HC : Hid (Calls Try.prog 72 #[.pointer (some ⟨b, 0, none⟩), .int .i64 (a : Int), .int .i64 (k : Int)] w fun e w' => e = .returned (.tuple #[.int .i64 0, .int .i64 700]) ∧ Keeps (Own3 b r v) w w') := above_none h a k (by omega) h1
    clear h h1 hR
    go_enter Try.func93, Try.ntmps93
    go_wp2_with fail
    refine HC.out.mono ?_
    rintro e w2 ⟨rfl, hk2⟩
    have HK : Hid (Keeps (Own3 b r v) w w2) := hk2
    clear hk2 HC
    go_wp2
    go_ret2
    exact RunPost.noneI HK.out
  · have e : R = some (List.replicate m y, L1) := by rw [← hR, bnd_eq h1]; rfl
    subst e
    have HC : Hid (Calls Try.prog 72 #[.pointer (some ⟨b, 0, none⟩), .int .i64 (a : Int), .int .i64 (k : Int)] w fun e w' => e = .returned (.tuple #[.int .i64 (m : Int), .int .i64 0]) ∧ St w' b r v s most L1 xs ∧ Rdv w w' b r v) := above_some h a k m L1 (by omega) (by omega) h1
    have hm : 1 ≤ m ∧ m ≤ 300 := by
      obtain ⟨q, hq, rfl⟩ := aboveL_some h1
      have h2 := getL_lt hq
      have h3 : (2 : Nat) ^ k ≤ 2 ^ 7 := Nat.pow_le_pow_right (by decide) hk
      omega
    clear h h1 hR
    go_enter Try.func93, Try.ntmps93
    go_wp2_with fail
    refine HC.out.mono ?_
    rintro e w2 ⟨rfl, hS2, hA2⟩
    have H2 : Hid (St w2 b r v s most L1 xs ∧ Rdv w w2 b r v) := ⟨hS2, hA2⟩
    have HC2 : Hid (Calls Try.prog 71 #[.slice (some ⟨w2.heap.size, 0, none⟩) 1 1, .int .i64 (m : Int)] (w2.alloc (.cells #[.int .i64 y] 3)) fun e w' => ∃ g, e = .returned (.slice (some ⟨g, 0, none⟩) m m) ∧ Keeps (fun _ => False) (w2.alloc (.cells #[.int .i64 y] 3)) w' ∧ (w2.alloc (.cells #[.int .i64 y] 3)).heap.size ≤ g ∧ Blk w' g (List.replicate m y)) := repeat_ok y w2.heap.size m _ (Blk.lit w2 [y]) hm.1 hm.2
    clear hS2 hA2 HC hm
    go_wp2_with fail
    refine HC2.out.mono ?_
    rintro e w3 ⟨g, rfl, hK3, hg3, hB3⟩
    have HP : Hid (RunPost (some (List.replicate m y, L1)) w b r v s most xs (.returned (.tuple #[.slice (some ⟨g, 0, none⟩) m m, .int .i64 0])) w3) := by
      have k2 : Keeps (fun _ => False) w2 w3 := ((Keeps.refl _ w2).alloc _).trans hK3 (fun _ _ h => h)
      refine RunPost.someI (by simp) hB3 ?_ (H2.out.1.keptF k2) (H2.out.2.trans (Rdv.ofF b r v k2))
      have := H2.out.2.keep.size
      have : w2.heap.size ≤ g := by simp at hg3; omega
      omega
    clear HC2 hK3 hg3 hB3 H2
    go_wp2
    go_ret2
    exact HP.out

set_option maxHeartbeats 2000000 in
set_option maxRecDepth 100000 in
theorem run_ok {w : World} {b r : Nat} {v : Value} {s : ByteArray} {most : Nat} {L : Bts} {xs : List Nat} (h : St w b r v s most L xs) (i : Nat) (a : Option Addr) (out : List Int) (cap : Nat) (hR : Row w a out) (hl : out.length ≤ 100000) (hi : i ≤ 100000) :
    Calls Try.prog 85 #[.pointer (some ⟨b, 0, none⟩), .int .i64 (i : Int), .slice a out.length cap] w (RunPost (rle i out L) w b r v s most xs) := by
  have HS : Hid (St w b r v s most L xs) := h
  have HF : ∀ (y : Int) (p k : Nat), 1 ≤ p → p ≤ 11 → k ≤ 7 → Hid (Calls Try.prog 93 #[.pointer (some ⟨b, 0, none⟩), .int .i64 y, .int .i64 (p : Int), .int .i64 (k : Int)] w (RunPost (bnd (aboveL p k) (fun m => retL (List.replicate m y)) L) w b r v s most xs)) := fun y p k h1 h2 h3 => repeated_ok h y p k h1 h2 h3
  clear h
  have fin : ∀ R e w2, RunPost R w b r v s most xs e w2 → (e = .returned (.tuple #[.slice none 0 0, .int .i64 700])) ∨ ∃ u : Value, e = .returned (.tuple #[u, .int .i64 0]) := by
    intro R e w2 hP
    rcases R with _ | ⟨rs, L'⟩
    · exact .inl (hP.1 rfl).1
    · obtain ⟨g, hg, _⟩ := hP.2 rs L' rfl; exact .inr ⟨_, hg⟩
  by_cases h16 : i = 16
  · subst h16
    by_cases h0 : out.length = 0
    · have e : rle 16 out L = none := by unfold rle; rw [if_pos rfl, if_pos h0]; rfl
      rw [e, h0]
      clear e h0 hR HF fin
      go_enter Try.func85, Try.ntmps85
      go_wp2
      go_ret2
      exact RunPost.noneI (Keeps.refl _ _)
    · have e : rle 16 out L = bnd (aboveL 3 2) (fun m => retL (List.replicate m (at_ out (out.length - 1)))) L := by unfold rle; rw [if_pos rfl, if_neg h0]
      rw [e]
      have HC := HF (at_ out (out.length - 1)) 3 2 (by omega) (by omega) (by omega)
      obtain ⟨q, off, rfl, hq1, hq2⟩ := hR.spot (by omega)
      obtain ⟨j, hj⟩ : ∃ j, out.length - 1 = j := ⟨_, rfl⟩
      have hcell := hq2 (out.length - 1) (by omega)
      rw [← at_eq (out.length - 1) (by omega)] at hcell
      rw [hj] at HC hcell ⊢
      obtain ⟨y, hy⟩ : ∃ y, at_ out j = y := ⟨_, rfl⟩
      rw [hy] at HC hcell ⊢
      obtain ⟨R, hRR⟩ : ∃ R, bnd (aboveL 3 2) (fun m => retL (List.replicate m y)) L = R := ⟨_, rfl⟩
      rw [hRR] at HC ⊢
      have hw1 : IntKind.i64.wrap ((out.length : Int) - 1) = (j : Int) := by rw [wrap_i64_small _ (by omega) (by omega)]; omega
      have hw2 : wrap64 ((out.length : Int) - 1) = (j : Int) := by unfold wrap64; omega
      have hw3 : (out.length : Int) - 1 = (j : Int) := by omega
      have hjl : (j : Int) < (out.length : Int) := by omega
      have hn0 : ¬ ((out.length : Int) = 0) := by omega
      clear hRR hy hj e h0 hR hq2 HF hw3
      generalize out.length = N at *
      go_enter Try.func85, Try.ntmps85
      go_wp2_with fail
      refine HC.out.mono ?_
      intro e w2 hP
      have HP : Hid (RunPost R w b r v s most xs e w2) := hP
      rcases fin R e w2 hP with rfl | ⟨u, rfl⟩
      all_goals
        clear hP HC hcell fin
        go_wp2
        go_ret2
        exact HP.out
  · by_cases h17 : i = 17
    · subst h17
      have e : rle 17 out L = bnd (aboveL 3 3) (fun m => retL (List.replicate m 0)) L := by unfold rle; rw [if_neg (by decide), if_pos rfl]
      rw [e]
      have HC := HF 0 3 3 (by omega) (by omega) (by omega)
      obtain ⟨R, hRR⟩ : ∃ R, bnd (aboveL 3 3) (fun m => retL (List.replicate m (0 : Int))) L = R := ⟨_, rfl⟩
      rw [hRR] at HC ⊢
      clear hRR e hR HF
      go_enter Try.func85, Try.ntmps85
      go_wp2_with fail
      refine HC.out.mono ?_
      intro e w2 hP
      have HP : Hid (RunPost R w b r v s most xs e w2) := hP
      rcases fin R e w2 hP with rfl | ⟨u, rfl⟩
      all_goals
        clear hP HC fin
        go_wp2
        go_ret2
        exact HP.out
    · by_cases h18 : i = 18
      · subst h18
        have e : rle 18 out L = bnd (aboveL 11 7) (fun m => retL (List.replicate m 0)) L := by unfold rle; rw [if_neg (by decide), if_neg (by decide), if_pos rfl]
        rw [e]
        have HC := HF 0 11 7 (by omega) (by omega) (by omega)
        obtain ⟨R, hRR⟩ : ∃ R, bnd (aboveL 11 7) (fun m => retL (List.replicate m (0 : Int))) L = R := ⟨_, rfl⟩
        rw [hRR] at HC ⊢
        clear hRR e hR HF
        go_enter Try.func85, Try.ntmps85
        go_wp2_with fail
        refine HC.out.mono ?_
        intro e w2 hP
        have HP : Hid (RunPost R w b r v s most xs e w2) := hP
        rcases fin R e w2 hP with rfl | ⟨u, rfl⟩
        all_goals
          clear hP HC fin
          go_wp2
          go_ret2
          exact HP.out
      · have e : rle i out L = some ([(i : Int)], L) := by unfold rle; rw [if_neg h16, if_neg h17, if_neg h18]; rfl
        rw [e]
        have h1 : ¬ ((i : Int) = 16) := by omega
        have h2 : ¬ ((i : Int) = 17) := by omega
        have h3 : ¬ ((i : Int) = 18) := by omega
        clear e hR HF fin
        go_enter Try.func85, Try.ntmps85
        go_wp2
        go_ret2
        have k2 : Keeps (fun _ => False) w (w.alloc (.cells #[.int .i64 (i : Int)] 3)) := (Keeps.refl _ w).alloc _
        exact RunPost.someI (n := 1) rfl (Blk.lit w [(i : Int)]) (Nat.le_refl _) (HS.out.keptF k2) (Rdv.ofF b r v k2)

theorem above_le {a k m : Nat} {L L' : Bts} (ha : a ≤ 11) (hk : k ≤ 7) (h : aboveL a k L = some (m, L')) : m ≤ 300 := by
  obtain ⟨q, hq, rfl⟩ := aboveL_some h
  have h2 := getL_lt hq
  have h3 : (2 : Nat) ^ k ≤ 2 ^ 7 := Nat.pow_le_pow_right (by decide) hk
  omega
theorem rle_le {i : Nat} {out r : List Int} {L L' : Bts} (h : rle i out L = some (r, L')) : r.length ≤ 300 := by
  unfold rle at h
  split at h
  · split at h
    · simp [noL] at h
    · obtain ⟨m, L1, h1, h2⟩ := bnd_some h
      simp [retL] at h2
      rw [← h2.1]; simp; exact above_le (by omega) (by omega) h1
  · split at h
    · obtain ⟨m, L1, h1, h2⟩ := bnd_some h
      simp [retL] at h2
      rw [← h2.1]; simp; exact above_le (by omega) (by omega) h1
    · split at h
      · obtain ⟨m, L1, h1, h2⟩ := bnd_some h
        simp [retL] at h2
        rw [← h2.1]; simp; exact above_le (by omega) (by omega) h1
      · simp [retL] at h; rw [← h.1]; simp

end Go.Proofs.Ytfbghchgfbjogaa

namespace Go.Proofs.Ytfbghchgfbjogaa
open Go.RowKit
open Hf Tb
set_option linter.unusedVariables false
set_option linter.unusedSimpArgs false

theorem own_row {w : World} {base : Nat} {v : Value} {xs : List Int} (h : Own w base v xs) : ∃ a cap, v = .slice a xs.length cap ∧ Row w a xs ∧ xs.length ≤ cap ∧ ∀ x, a = some x → v.ownBlock = some x.block := by
  by_cases h0 : xs.length = 0
  · obtain rfl := List.eq_nil_of_length_eq_zero h0
    rcases h.2 with ⟨e, _⟩ | ⟨g, cap, cur, e, _⟩
    · exact ⟨none, 0, e, .inl rfl, Nat.zero_le _, fun x e => by cases e⟩
    · exact ⟨_, cap, e, .inl rfl, Nat.zero_le _, fun x e2 => by cases e2; rw [e]; rfl⟩
  · obtain ⟨g, cap, e, _, hlt⟩ := World.ownsRow.form h (by omega)
    have hc : xs.length ≤ cap := by
      rcases h.2 with ⟨e2, h2⟩ | ⟨g', cap', cur, hv, hb, hg, hn, hc, hs, ht⟩
      · omega
      · rw [e] at hv; cases hv; omega
    refine ⟨_, cap, e, .inr ⟨g, 0, rfl, hlt, fun i hi => ?_⟩, hc, fun x e2 => by cases e2; rw [e]; rfl⟩
    rw [e] at h
    rw [Nat.zero_add]
    exact (owns_cell h i _ (by simp [intsV, List.getElem?_map, List.getElem?_eq_getElem hi])).1

/-- What a call leaves that reads many lengths. -/
def RowPost (R : Option (List Int × Bts)) (w : World) (b r : Nat) (v : Value) (s : ByteArray) (most : Nat) (xs : List Nat) (e : Ending) (w' : World) : Prop :=
  (R = none → e = .returned (.tuple #[.slice none 0 0, .int .i64 700]) ∧ Keeps (Own3 b r v) w w') ∧
  ∀ rs L', R = some (rs, L') → ∃ u, e = .returned (.tuple #[u, .int .i64 0]) ∧ Own w' w.heap.size u rs ∧ St w' b r v s most L' xs ∧ Rdv w w' b r v
theorem RowPost.noneI {w : World} {b r : Nat} {v : Value} {s : ByteArray} {most : Nat} {xs : List Nat} {w' : World} (h : Keeps (Own3 b r v) w w') : RowPost none w b r v s most xs (.returned (.tuple #[.slice none 0 0, .int .i64 700])) w' :=
  ⟨fun _ => ⟨rfl, h⟩, fun _ _ e => by cases e⟩
theorem St.above3 {w : World} {b r : Nat} {v : Value} {s : ByteArray} {most : Nat} {L : Bts} {xs : List Nat} (h : St w b r v s most L xs) : ∀ k, Own3 b r v k → k < w.heap.size := by
  rintro k (rfl | rfl | e)
  · exact h.lt
  · have := h.rb; have := h.lt; omega
  · exact (h.ownlt k e).2

set_option maxHeartbeats 4000000 in
set_option maxRecDepth 100000 in
theorem runs_ok {w : World} {b r : Nat} {v : Value} {s : ByteArray} {most : Nat} {L : Bts} {xs : List Nat} (h : St w b r v s most L xs) {lo hi f : Nat} {ys : List Int} (hf : Fnd w lo hi f ys) (ha : Away lo hi b r v) (hys : ys.length ≤ 100000) (many : Nat) (hm : many ≤ 1000) :
    Calls Try.prog 74 #[.pointer (some ⟨b, 0, none⟩), .pointer (some ⟨f, 0, none⟩), .int .i64 (many : Int)] w (RowPost (runs ys many [] L) w b r v s most xs) := by
  obtain ⟨R, hR⟩ : ∃ R, runs ys many [] L = R := ⟨_, rfl⟩
  rw [hR]
  have HF : Hid (∀ w', Rdv w w' b r v → Fnd w' lo hi f ys) := fun w' k => hf.kept k.keep ha.not
  have HS0 : Hid (St w b r v s most L xs) := h
  have HAw : Hid (Away lo hi b r v ∧ ys.length ≤ 100000 ∧ ∀ k, Own3 b r v k → k < w.heap.size) := ⟨ha, hys, h.above3⟩
  have H0 : Hid (∃ L1, runs ys many [] L1 = R ∧ St w b r v s most L1 xs ∧ Rdv w w b r v ∧ Own w w.heap.size (.slice none 0 0) []) := ⟨L, hR, h, Rdv.refl _ _ _ _, World.ownsRow_nil w _ 3 1⟩
  clear h hf ha hys hR
  go_enter Try.func74, Try.ntmps74
  go_wp2
  go_loopw [8] (fun s8 w' => ∃ (a : Option Addr) (n cap : Nat), s8 = .slice a n cap ∧ n ≤ 2000 ∧ Hid (∃ (out : List Int) (L1 : Bts), out.length = n ∧ runs ys many out L1 = R ∧ St w' b r v s most L1 xs ∧ Rdv w w' b r v ∧ Own w' w.heap.size (.slice a n cap) out ∧ Row w' a out)) (fun s8 _ => match s8 with | .slice _ n _ => many - n | _ => 0)
  case atStart =>
    obtain ⟨L1, h1, h2, h3, h4⟩ := H0.out
    exact ⟨none, 0, 0, rfl, by omega, [], L1, rfl, h1, h2, h3, h4, .inl rfl⟩
  case round =>
    clear H0
    obtain ⟨a, n, cap, hs8, hn, HW⟩ := hrel
    obtain rfl := hs8.symm
    clear hs8
    by_cases hnm : n < many
    · have hnz : (n : Int) < (many : Int) := by omega
      obtain ⟨out, L1, hlen, hE, hS, hA, hO, hRow⟩ := HW.out
      clear HW
      have HS : Hid (out.length = n ∧ runs ys many out L1 = R ∧ St wr b r v s most L1 xs ∧ Rdv w wr b r v ∧ Own wr w.heap.size (.slice a n cap) out ∧ Row wr a out) := ⟨hlen, hE, hS, hA, hO, hRow⟩
      have HC : Hid (Calls Try.prog 58 #[.pointer (some ⟨b, 0, none⟩), .pointer (some ⟨f, 0, none⟩)] wr (NumPost (symN ys L1) wr b r v s most xs)) := symbol_ok hS (HF.out wr hA) HAw.out.1
      clear hlen hE hS hA hO hRow
      go_wp2_with fail
      refine HC.out.mono ?_
      intro e w2 hP
      clear HC
      rcases h1 : symN ys L1 with _ | ⟨i, L2⟩
      · obtain ⟨rfl, hk⟩ := hP.1 h1
        have HK : Hid (Keeps (Own3 b r v) w w2) := HS.out.2.2.2.1.lost hk
        have e : R = none := by rw [← HS.out.2.1, runs_none1 (by rw [HS.out.1]; exact hnm) h1]
        subst e
        clear hP h1 hk
        go_wp2
        go_ret2
        exact RowPost.noneI HK.out
      · obtain ⟨rfl, hS2, hA2⟩ := hP.2 i L2 h1
        have HL : Hid (symN ys L1 = some (i, L2)) := h1
        have hi5 : i ≤ 100000 := by have := symN_small h1; have := HAw.out.2.1; omega
        have hnot : ∀ k, (Value.slice a n cap).ownBlock = some k → ¬ Own3 b r v k := fun k e e2 => by
          have := (World.ownsRow.lt HS.out.2.2.2.2.1 k e).1
          have := HAw.out.2.2 k e2; omega
        have hra : ∀ x, a = some x → n ≠ 0 → ¬ Own3 b r v x.block := fun x e _ => by
          subst e
          rcases HS.out.2.2.2.2.1.2 with ⟨e, _⟩ | ⟨g, cap', cur, e, _⟩
          · cases e
          · cases e; exact hnot _ rfl
        have H2 : Hid (St w2 b r v s most L2 xs ∧ Rdv w w2 b r v ∧ Own w2 w.heap.size (.slice a n cap) out ∧ Row w2 a out) := by
          refine ⟨hS2, HS.out.2.2.2.1.trans hA2, HS.out.2.2.2.2.1.kept hA2.keep hnot, ?_⟩
          rcases HS.out.2.2.2.2.2 with h | h
          · exact .inl h
          · by_cases h0 : n = 0
            · exact .inl (List.eq_nil_of_length_eq_zero (by rw [HS.out.1, h0]))
            · exact Row.kept (.inr h) hA2.keep (fun x e => hra x e h0)
        have HC : Hid (Calls Try.prog 85 #[.pointer (some ⟨b, 0, none⟩), .int .i64 (i : Int), .slice a n cap] w2 (RunPost (rle i out L2) w2 b r v s most xs)) := by
          have := run_ok H2.out.1 i a out cap H2.out.2.2.2 (by rw [HS.out.1]; omega) hi5
          rw [HS.out.1] at this; exact this
        clear hP h1 hS2 hA2 hi5 hra
        have HN : Hid (∀ k, (Value.slice a n cap).ownBlock = some k → ¬ Own3 b r v k) := hnot
        clear hnot
        go_wp2_with fail
        refine HC.out.mono ?_
        intro e w3 hP
        clear HC
        rcases h3 : rle i out L2 with _ | ⟨rs, L3⟩
        · obtain ⟨rfl, hk⟩ := hP.1 h3
          have HK : Hid (Keeps (Own3 b r v) w w3) := H2.out.2.1.lost hk
          have e : R = none := by rw [← HS.out.2.1, runs_none2 (by rw [HS.out.1]; exact hnm) HL.out h3]
          subst e
          clear hP h3 hk
          go_wp2
          go_ret2
          exact RowPost.noneI HK.out
        · obtain ⟨g, rfl, hB3, hg3, hS3, hA3⟩ := hP.2 rs L3 h3
          obtain ⟨m, hm3⟩ : ∃ m, rs.length = m := ⟨_, rfl⟩
          have hrl : 1 ≤ m ∧ m ≤ 300 := by
            have h4 := (rle_len h3).2
            refine ⟨by omega, ?_⟩
            rw [← hm3]
            exact rle_le h3
          have H3 : Hid (runs ys many (out ++ rs) L3 = R ∧ St w3 b r v s most L3 xs ∧ Rdv w w3 b r v ∧ Own w3 w.heap.size (.slice a n cap) out ∧ Blk w3 g rs ∧ w2.heap.size ≤ g ∧ rs.length = m) :=
            ⟨by rw [← HS.out.2.1, runs_next (by rw [HS.out.1]; exact hnm) HL.out h3], hS3, H2.out.2.1.trans hA3, H2.out.2.2.1.kept hA3.keep HN.out, hB3, hg3, hm3⟩
          rw [hm3]
          clear hP h3 hB3 hg3 hS3 hA3 HN hm3
          go_wp2_with (refine wpList_join rfl _ _ rfl rfl w.heap.size (.slice a n cap) out rfl H3.out.2.2.2.1 g m m rs rfl H3.out.2.2.2.2.2.2 H3.out.2.2.2.2.1 H3.out.2.2.1.keep.size (by rw [HS.out.1, H3.out.2.2.2.2.2.2]; omega) ?_; intro v4 w4 hO4 hG4)
          obtain ⟨a4, cap4, hv4, hrow4, _, _⟩ := own_row hO4
          obtain ⟨n4, hn4⟩ : ∃ n4, (out ++ rs).length = n4 := ⟨_, rfl⟩
          have hn4' : n4 = n + m := by rw [← hn4, List.length_append, HS.out.1, H3.out.2.2.2.2.2.2]
          rw [hn4] at hv4
          obtain rfl := hv4.symm
          clear hv4
          have H4 : Hid (∃ (out : List Int) (L1 : Bts), out.length = n4 ∧ runs ys many out L1 = R ∧ St w4 b r v s most L1 xs ∧ Rdv w w4 b r v ∧ Own w4 w.heap.size (.slice a4 n4 cap4) out ∧ Row w4 a4 out) := by
            have k34 : Keeps (fun k => (Value.slice a n cap).ownBlock = some k) w3 w4 := (Keeps.refl _ w3).grown hG4 (fun k _ e => e)
            have hlow : ∀ k, (Value.slice a n cap).ownBlock = some k → w.heap.size ≤ k := fun k e => (World.ownsRow.lt H3.out.2.2.2.1 k e).1
            have hR4 : Rdv w w4 b r v := ⟨H3.out.2.2.1.only.trans k34 (fun k hk e => by have := hlow k e; omega)⟩
            obtain ⟨p, p1, p2, p3⟩ := H3.out.2.1.rd
            have hrl : r < w.heap.size := by have := HS0.out.rb; have := HS0.out.lt; omega
            have hS4 := (HS0.out.read (p := p) ⟨p1.kept k34 (fun e => by have := hlow r e; omega), hR4.only⟩ p2).1
            rw [← p3] at hS4
            exact ⟨out ++ rs, L3, hn4, H3.out.1, hS4, hR4, hO4, hrow4⟩
          clear hO4 hG4 hrow4 hn4 H3 H2 HS HL
          go_roundw
          case rel => exact ⟨a4, n4, cap4, rfl, by omega, H4⟩
          case measure => simp; omega
    · have hnz : ¬ (n : Int) < (many : Int) := by omega
      by_cases hover : many < n
      · have hoz : (many : Int) < (n : Int) := by omega
        obtain ⟨out, L1, hlen, hE, hS, hA, hO, hRow⟩ := HW.out
        have e : R = none := by rw [← hE, runs_over (by omega)]
        subst e
        have HK : Hid (Keeps (Own3 b r v) w wr) := hA.keep
        clear hlen hE hS hA hO hRow HW
        go_wp2
        go_ret2
        exact RowPost.noneI HK.out
      · obtain rfl : n = many := by omega
        obtain ⟨out, L1, hlen, hE, hS, hA, hO, hRow⟩ := HW.out
        have e : R = some (out, L1) := by rw [← hE, runs_done hlen]
        subst e
        have HP : Hid (RowPost (some (out, L1)) w b r v s most xs (.returned (.tuple #[.slice a n cap, .int .i64 0])) wr) := ⟨fun e => by (cases e), fun _ _ e => by cases e; exact ⟨_, rfl, hO, hS, hA⟩⟩
        clear hlen hE hS hA hO hRow HW
        go_wp2
        go_ret2
        exact HP.out

set_option maxHeartbeats 1000000 in
set_option maxRecDepth 100000 in
theorem mayTellBytes_ok (a : Option Addr) (x : List Int) (cap : Nat) (w : World) (hR : Row w a x) (hl : 257 ≤ x.length) (hl2 : x.length ≤ 1000) :
    Calls Try.prog 75 #[.slice a x.length cap] w fun e w' => e = .returned (.bool (mayB x)) ∧ Keeps (fun _ => False) w w' := by
  have HC : Hid (Calls Try.prog 84 #[.slice a x.length cap] w fun e w' => e = .returned (.int .i64 (errC x)) ∧ Keeps (fun _ => False) w w') := check_ok a x cap w hR (by omega)
  obtain ⟨g, off, rfl, hg, hc⟩ := hR.spot (by omega)
  have HCl : Hid (∀ w', Keeps (fun _ => False) w w' → w'.cell? ⟨g, off + 256, none⟩ = some (.int .i64 (at_ x 256))) := fun w' hk => by
    rw [World.cell?_of_block (hk.block g hg (fun h => h)), at_eq 256 (by omega)]; exact hc 256 (by omega)
  have hlz : (256 : Int) < (x.length : Int) := by omega
  have HE : Hid (mayB x = (decide (errC x = 0) && decide (0 < at_ x 256))) := rfl
  rw [HE.out]
  clear hR hc HE
  generalize errC x = er at *
  generalize at_ x 256 = t at *
  generalize x.length = N at *
  by_cases her : er = 0
  · subst her
    rw [decide_eq_true rfl, Bool.true_and]
    go_enter Try.func75, Try.ntmps75
    go_wp2_with fail
    refine HC.out.mono ?_
    rintro e w2 ⟨rfl, hK⟩
    have hcell := HCl.out w2 hK
    have HK : Hid (Keeps (fun _ => False) w w2) := hK
    clear hK HC HCl
    go_wp2
    go_ret
    exact ⟨by congr 2, HK.out⟩
  · rw [decide_eq_false her, Bool.false_and]
    have hnb : (er == 0) = false := by simp; exact her
    go_enter Try.func75, Try.ntmps75
    go_wp2_with fail
    refine HC.out.mono ?_
    rintro e w2 ⟨rfl, hK⟩
    have HK : Hid (Keeps (fun _ => False) w w2) := hK
    clear hK HC HCl
    go_wp2
    go_ret
    exact ⟨rfl, HK.out⟩

theorem sum_take (x : List Int) (j : Nat) (h : j < x.length) : (x.take (j + 1)).sum = (x.take j).sum + x[j] := by
  rw [take_snoc x j h, List.sum_append]; simp
theorem sum_bound (x : List Int) (hx : ∀ i (h : i < x.length), 0 ≤ x[i] ∧ x[i] ≤ 15) : ∀ j, j ≤ x.length → 0 ≤ (x.take j).sum ∧ (x.take j).sum ≤ 15 * j := by
  intro j
  induction j with
  | zero => intro _; simp
  | succ j ih =>
    intro h
    have h1 := ih (by omega)
    have h2 := hx j (by omega)
    rw [sum_take x j (by omega)]; omega

set_option maxHeartbeats 1000000 in
set_option maxRecDepth 100000 in
theorem mayTellDists_ok (a : Option Addr) (x : List Int) (cap : Nat) (w : World) (hR : Row w a x) (hl2 : x.length ≤ 1000) (hx : ∀ i (h : i < x.length), 0 ≤ x[i] ∧ x[i] ≤ 15) :
    Calls Try.prog 76 #[.slice a x.length cap] w fun e w' => e = .returned (.bool (mayD x)) ∧ Keeps (fun _ => False) w w' := by
  have HC : Hid (Calls Try.prog 84 #[.slice a x.length cap] w fun e w' => e = .returned (.int .i64 (errC x)) ∧ Keeps (fun _ => False) w w') := check_ok a x cap w hR (by omega)
  obtain ⟨B, hB⟩ : ∃ B, mayD x = B := ⟨_, rfl⟩
  rw [hB]
  have HB : Hid ((decide (x.sum ≤ 1) || decide (errC x = 0)) = B) := hB
  have HR : Hid (Row w a x) := hR
  have HX : Hid (∀ i (h : i < x.length), 0 ≤ x[i] ∧ x[i] ≤ 15) := hx
  obtain ⟨N, hN⟩ : ∃ N, x.length = N := ⟨_, rfl⟩
  have HN : Hid (x.length = N) := hN
  rw [hN] at HC ⊢ hl2
  clear hR hB hx hN
  go_enter Try.func76, Try.ntmps76
  go_wp2
  go_loopw [3, 8] (fun s3 s8 w' => ∃ j : Nat, j ≤ N ∧ s8 = .int .i64 (j : Int) ∧ s3 = .int .i64 ((x.take j).sum) ∧ w' = w) (fun _ s8 _ => ((N : Int) - intOf s8).toNat)
  case atStart => exact ⟨0, by omega, rfl, by simp, rfl⟩
  case round =>
    obtain ⟨j, hj, rfl, rfl, rfl⟩ := hrel
    by_cases hjn : j < N
    · have hjz : (j : Int) < (N : Int) := by omega
      have hjx : j < x.length := by rw [HN.out]; exact hjn
      obtain ⟨g, off, ha, hg, hc⟩ := HR.out.spot (by omega)
      obtain rfl := ha
      have hcell := hc j hjx
      have hs := sum_bound x HX.out j (by omega)
      have hv := HX.out j hjx
      have HT : Hid ((x.take (j + 1)).sum = (x.take j).sum + x[j]) := sum_take x j hjx
      generalize (x.take j).sum = S at *
      generalize x[j] = y at *
      have hb : 15 * (j : Int) ≤ 15000 := by omega
      clear hc
      go_wp2
      go_roundw
      case rel => exact ⟨j + 1, by omega, by push_cast; rfl, by rw [HT.out], trivial⟩
      case measure => simp [intOf]; omega
    · obtain rfl : j = N := by omega
      rw [List.take_of_length_le (by rw [HN.out]; omega)]
      have hs := sum_bound x HX.out x.length (Nat.le_refl _)
      rw [List.take_length] at hs
      generalize x.sum = S at *
      generalize errC x = er at *
      by_cases h1 : S ≤ 1
      · have e : B = true := by rw [← HB.out, decide_eq_true h1, Bool.true_or]
        subst e
        clear HB
        go_wp2
        go_ret
        exact ⟨rfl, Keeps.refl _ _⟩
      · have e : B = decide (er = 0) := by rw [← HB.out, decide_eq_false h1, Bool.false_or]
        subst e
        clear HB
        have hd : decide (S ≤ 1) = false := decide_eq_false h1
        go_wp2_with fail
        refine HC.out.mono ?_
        rintro e w2 ⟨rfl, hK⟩
        have HK : Hid (Keeps (fun _ => False) wr w2) := hK
        clear hK HC
        go_wp2
        go_ret
        exact ⟨by congr 2, HK.out⟩

end Go.Proofs.Ytfbghchgfbjogaa

namespace Go.Proofs.Ytfbghchgfbjogaa
open Go.RowKit
open Hf Tb
set_option linter.unusedVariables false
set_option linter.unusedSimpArgs false

/-- Block b, of type T, is these numbers. -/
def Ary (T : TypeId) (w : World) (b : Nat) (xs : List Int) : Prop := w.heap[b]? = some (.cells (intsV xs).toArray T (0, 0))
theorem intsV_get (xs : List Int) (j : Nat) (hj : j < xs.length) : (intsV xs)[j]? = some (.int .i64 xs[j]) := by
  rw [intsV, List.getElem?_map, List.getElem?_eq_getElem hj]; rfl
theorem Ary.lt {T : TypeId} {w : World} {b : Nat} {xs : List Int} (h : Ary T w b xs) : b < w.heap.size := lt_of_heap h
theorem Ary.kept {T : TypeId} {S : Nat → Prop} {w w' : World} {b : Nat} {xs : List Int} (h : Ary T w b xs) (hk : Keeps S w w') (hb : ¬ S b) : Ary T w' b xs := (hk.block b h.lt hb).trans h
theorem Ary.keptF {T : TypeId} {w w' : World} {b : Nat} {xs : List Int} (h : Ary T w b xs) (hk : Keeps (fun _ => False) w w') : Ary T w' b xs := h.kept hk (fun h => h)
theorem Ary.cell {T : TypeId} {w : World} {b : Nat} {xs : List Int} (h : Ary T w b xs) (j : Nat) (hj : j < xs.length) : w.cell? ⟨b, j, none⟩ = some (.int .i64 xs[j]) :=
  cell_of_heap h (by rw [List.getElem?_toArray]; exact intsV_get xs j hj)
theorem Ary.free {T : TypeId} {w : World} {b : Nat} {xs : List Int} (h : Ary T w b xs) (j : Nat) : w.frozen? ⟨b, j, none⟩ = false := frozen_of_heap h
theorem Ary.new (T : TypeId) (w : World) (xs : List Int) : Ary T (w.alloc (.cells (intsV xs).toArray T)) w.heap.size xs := heap_alloc_new _ _
theorem Ary.set {T : TypeId} {w : World} {b : Nat} {xs : List Int} (h : Ary T w b xs) (i : Nat) (y : Int) : Ary T (w.setCell ⟨b, i, none⟩ (.int .i64 y)) b (xs.set i y) := by
  unfold Ary
  rw [heap_setCell_same h]
  congr 2
  simp [intsV, List.map_set]
theorem Ary.range {T : TypeId} {w : World} {b : Nat} {xs : List Int} (h : Ary T w b xs) : w.rangeAt b 0 (intsV xs) := fun j v hv => by
  rw [Nat.zero_add]; exact cell_of_heap h (by rw [List.getElem?_toArray]; exact hv)
theorem Ary.there {T : TypeId} {w : World} {b : Nat} {xs : List Int} (h : Ary T w b xs) : w.there b 0 xs.length := fun j hj => by
  rw [Nat.zero_add, h.cell j hj]; exact ⟨rfl, h.free j⟩
theorem intsV_all (xs : List Int) : (intsV xs).toArray.all (·.oneCell') = true := all_oneCell_toArray (intsV_one xs)
theorem Ary.put {T : TypeId} {w : World} {b : Nat} {xs : List Int} (h : Ary T w b xs) (ys : List Int) (hl : ys.length = xs.length) : Ary T (w.setCells b 0 (intsV ys)) b ys := by
  obtain ⟨cs', h1, h2, h3, h4⟩ := setCells_row b T (intsV ys) 0 w _ h
  unfold Ary
  rw [h1]
  congr 2
  apply Array.ext_getElem?
  intro i
  have hs : cs'.size = ys.length := by rw [h2, List.size_toArray, intsV_length, hl]
  by_cases hi : i < ys.length
  · have := h4 i (by rw [intsV_length]; exact hi) (by rw [List.size_toArray, intsV_length]; omega)
    rw [Nat.zero_add] at this
    rw [this, List.getElem?_toArray]
  · rw [Array.getElem?_eq_none (by omega), List.getElem?_toArray, List.getElem?_eq_none (by rw [intsV_length]; omega)]

theorem size19 : (Try.prog.info? 137).map (·.size) = some 19 := by kernel_rfl
theorem zero19 : (zeroValue 137).run Try.prog = fun w => .ok (.agg (intsV (List.replicate 19 0)).toArray) w := by
  funext w; rw [Try.zeroValue137]; rfl
theorem wpList_alloc19 {ops : Array Oper} {rest : List Oper} {op : Oper} {a : Act} {w : World} {Q : Exit → Act → World → Prop} (hgd : op.guard = none) (ho : op.op = .alloc 137)
    (h : ∀ b w1, Ary 137 w1 b (List.replicate 19 0) → Keeps (fun _ => False) w w1 → w.heap.size ≤ b → wpList Try.prog ops Q rest (a.put op.dst (.pointer (some ⟨b, 0, none⟩))) w1) : wpList Try.prog ops Q (op :: rest) a w :=
  wpList_plain hgd fun _ hK => by
    unfold Oper.wp execOp
    have hz := congrFun zero19 w
    simp only [ho, Instr.alloc, Sem.run_bind, hz, Result.andThen_ok]
    simp only [newVar, Sem.run_bind, Sem.run_pure, Result.andThen_ok]
    exact hK _ _ (h w.heap.size _ (Ary.new _ w _) ((Keeps.refl _ w).alloc _) (Nat.le_refl _))
theorem wpList_store19 {ops : Array Oper} {rest : List Oper} {op : Oper} {a : Act} {w : World} {Q : Exit → Act → World → Prop} (hgd : op.guard = none) (x y : Operand) (ho : op.op = .store 137 x y) (b : Nat) (ys : List Int) (hy0 : ys.length = 19) (hx : a.eval x = .pointer (some ⟨b, 0, none⟩)) (hy : a.eval y = .agg (intsV ys).toArray) (xs : List Int) (hl : xs.length = 19) (hA : Ary 137 w b xs)
    (h : ∀ w1, Ary 137 w1 b ys → Keeps (fun k => k = b) w w1 → wpList Try.prog ops Q rest (a.put op.dst undef) w1) : wpList Try.prog ops Q (op :: rest) a w :=
  wpList_store_mid hgd 137 x y ho b 0 (intsV ys).toArray hx hy (by have := hA.there; rw [hl] at this; rw [List.size_toArray, intsV_length, hy0]; exact this) (by rw [List.size_toArray, intsV_length, hy0]; exact size19) (intsV_all ys)
    (h _ (hA.put ys (by omega)) (Hf.keeps_setCells (S := fun k => k = b) b (fun _ => rfl) _ _ _ (Keeps.refl _ w)))
theorem Ary.loadVar19 {w : World} {b : Nat} {xs : List Int} (h : Ary 137 w b xs) (hl : xs.length = 19) : (loadVar 137 ⟨b, 0, none⟩).run Try.prog w = .ok (.agg (intsV xs).toArray) w :=
  run_loadVar_mid w b 0 137 (intsV xs) _ h.range Try.underlying137 rfl (by rw [intsV_length, hl]; exact size19)
def rowZ : List Int := [16, 17, 18, 0, 8, 7, 9, 6, 10, 5, 11, 4, 12, 3, 13, 2, 14, 1, 15]
theorem rowZ_get : ∀ i : Fin 19, rowZ[i.val]? = some ((rowL.getD i.val 0 : Nat) : Int) := by decide +kernel

set_option maxHeartbeats 1000000 in
set_option maxRecDepth 100000 in
theorem row_ok (w : World) : Calls Try.prog 83 #[] w fun e w' => e = .returned (.agg (intsV rowZ).toArray) ∧ Keeps (fun _ => False) w w' := by
  go_enter Try.func83, Try.ntmps83
  go_wp2_with (first
    | (refine wpList_alloc19 rfl rfl ?_; intro b1 w1 hA1 hK1 hb1)
    | (refine wpList_store19 rfl _ _ rfl b1 rowZ rfl rfl rfl (List.replicate 19 0) (by decide) ?hA ?_; (case hA => assumption); intro w2 hA2 hK2))
  (try simp only [Exit.inBlock, Exit.then])
  refine bodyPost_ret (v := .agg (intsV rowZ).toArray) ?_ rfl ⟨rfl, ?_⟩
  · rw [Hf.results_cell rfl]
    exact hA2.loadVar19 rfl
  · exact hK1.trans hK2 (fun _ h e => by omega)

set_option maxHeartbeats 1000000 in
set_option maxRecDepth 100000 in
theorem fixedDists_ok (w : World) : Calls Try.prog 62 #[] w fun e w' => ∃ g, e = .returned (.slice (some ⟨g, 0, none⟩) 30 30) ∧ Keeps (fun _ => False) w w' ∧ w.heap.size ≤ g ∧ Blk w' g (List.replicate 30 5) := by
  go_enter Try.func62, Try.ntmps62
  go_wp2_with (refine wpList_zeros rfl _ _ rfl 30 rfl rfl (by omega) ?_; intro g w1 hB1 hK1 hg1)
  have H1 : Hid (Blk w1 g (fil 5 0 30) ∧ Keeps (fun _ => False) w w1 ∧ w.heap.size ≤ g) := ⟨by rw [fil_zero]; exact hB1, hK1, hg1⟩
  clear hB1 hK1 hg1
  go_loopw [6] (fun s6 w' => ∃ i : Nat, i ≤ 30 ∧ s6 = .int .i64 (i : Int) ∧ Hid (Blk w' g (fil 5 i 30) ∧ Keeps (fun _ => False) w w' ∧ w.heap.size ≤ g)) (fun s6 _ => ((30 : Int) - intOf s6).toNat)
  case atStart => exact ⟨0, by omega, rfl, H1⟩
  case round =>
    clear H1
    obtain ⟨i, hi, rfl, HW⟩ := hrel
    by_cases hic : i < 30
    · have hiz : (i : Int) < 30 := by omega
      have hfl : (fil 5 i 30).length = 30 := fil_length 5 i 30 hi
      have hc := HW.out.1.cell i (by omega)
      have hf := HW.out.1.free i
      have HW2 : Hid (Blk (wr.setCell ⟨g, i, none⟩ (.int .i64 5)) g (fil 5 (i + 1) 30) ∧ Keeps (fun _ => False) w (wr.setCell ⟨g, i, none⟩ (.int .i64 5)) ∧ w.heap.size ≤ g) := by
        obtain ⟨h1, h2, h3⟩ := HW.out
        refine ⟨?_, h2.setCell (p := ⟨g, i, none⟩) (fun hh => by simp only at hh; omega) _, h3⟩
        have : (fil 5 i 30).set i 5 = fil 5 (i + 1) 30 := by
          unfold fil
          rw [List.set_append_right _ _ (by simp), List.length_replicate, Nat.sub_self, show 30 - i = (30 - (i + 1)) + 1 by omega, List.replicate_succ, List.set_cons_zero, List.replicate_succ']
          simp
        rw [← this]
        unfold Blk
        rw [heap_setCell_same h1]
        congr 2
        simp [intsV, List.map_set]
      clear HW
      go_wp2
      go_roundw
      case rel => exact ⟨i + 1, by omega, by push_cast; rfl, HW2⟩
      case measure => simp [intOf]; omega
    · obtain rfl : i = 30 := by omega
      go_wp2
      go_ret
      exact ⟨g, rfl, HW.out.2.1, HW.out.2.2, by rw [← fil_all]; exact HW.out.1⟩

end Go.Proofs.Ytfbghchgfbjogaa

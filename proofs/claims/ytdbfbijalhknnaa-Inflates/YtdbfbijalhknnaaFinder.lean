/-
  finderOf and bookOf of package inflate.
-/
import Derived.Test.YtdbfbijalhknnaaAdd
namespace Go.Proofs.Ytdbfbijalhknnaa
open Go.RowKit
open Hf Tb
set_option linter.unusedVariables false
set_option linter.unusedSimpArgs false

/-! ### A code in a block of its own -/
def Pr (w : World) (b : Nat) (p q : Int) : Prop := w.heap[b]? = some (.cells #[.int .i64 p, .int .i64 q] 84 (0, 0))
theorem zeroC : (zeroValue 84).run Try.prog = fun w => .ok (.agg #[.int .i64 0, .int .i64 0]) w := by kernel_rfl
theorem wpList_allocC {ops : Array Oper} {rest : List Oper} {op : Oper} {a : Act} {w : World} {Q : Exit → Act → World → Prop} (hgd : op.guard = none) (ho : op.op = .alloc 84)
    (h : ∀ b w1, Pr w1 b 0 0 → Keeps (fun _ => False) w w1 → w.heap.size ≤ b → wpList Try.prog ops Q rest (a.put op.dst (.pointer (some ⟨b, 0, none⟩))) w1) : wpList Try.prog ops Q (op :: rest) a w :=
  wpList_plain hgd fun _ hK => by
    unfold Oper.wp execOp
    have hz := congrFun zeroC w
    simp only [ho, Instr.alloc, Sem.run_bind, hz, Result.andThen_ok]
    simp only [newVar, Sem.run_bind, Sem.run_pure, Result.andThen_ok]
    exact hK _ _ (h w.heap.size _ (heap_alloc_new _ _) ((Keeps.refl _ w).alloc _) (Nat.le_refl _))
theorem pair_range {w : World} {g o : Nat} {p q : Int} (h0 : w.cell? ⟨g, o, none⟩ = some (.int .i64 p)) (h1 : w.cell? ⟨g, o + 1, none⟩ = some (.int .i64 q)) : w.rangeAt g o [.int .i64 p, .int .i64 q] := fun j v hv => by
  match j, hv with
  | 0, hv => simp at hv; subst hv; exact h0
  | 1, hv => simp at hv; subst hv; exact h1
theorem wpList_loadC {ops : Array Oper} {rest : List Oper} {op : Oper} {a : Act} {w : World} {Q : Exit → Act → World → Prop} (hgd : op.guard = none) (x : Operand) (ho : op.op = .load 84 x) (g o : Nat) (hx : a.eval x = .pointer (some ⟨g, o, none⟩)) (p q : Int) (h0 : w.cell? ⟨g, o, none⟩ = some (.int .i64 p)) (h1 : w.cell? ⟨g, o + 1, none⟩ = some (.int .i64 q))
    (h : wpList Try.prog ops Q rest (a.put op.dst (.agg #[.int .i64 p, .int .i64 q])) w) : wpList Try.prog ops Q (op :: rest) a w :=
  wpList_load_mid hgd 84 x ho g o hx [.int .i64 p, .int .i64 q] _ (pair_range h0 h1) Try.underlying84 rfl size43 h
theorem Pr.set {w : World} {b : Nat} {p q : Int} (h : Pr w b p q) (x y : Int) : Pr (w.setCells b 0 [.int .i64 x, .int .i64 y]) b x y := by
  show Pr ((w.setCell ⟨b, 0, none⟩ (.int .i64 x)).setCell ⟨b, 1, none⟩ (.int .i64 y)) b x y
  unfold Pr
  rw [heap_setCell_same (heap_setCell_same h _)]; rfl
theorem wpList_storeC {ops : Array Oper} {rest : List Oper} {op : Oper} {a : Act} {w : World} {Q : Exit → Act → World → Prop} (hgd : op.guard = none) (x y : Operand) (ho : op.op = .store 84 x y) (b : Nat) (p q : Int) (hx : a.eval x = .pointer (some ⟨b, 0, none⟩)) (hy : a.eval y = .agg #[.int .i64 p, .int .i64 q]) (p0 q0 : Int) (hP : Pr w b p0 q0)
    (h : ∀ w1, Pr w1 b p q → Keeps (fun k => k = b) w w1 → wpList Try.prog ops Q rest (a.put op.dst undef) w1) : wpList Try.prog ops Q (op :: rest) a w :=
  wpList_store_mid hgd 84 x y ho b 0 #[.int .i64 p, .int .i64 q] hx hy (fun j hj => by
      have hj' : j = 0 ∨ j = 1 := by simp at hj; omega
      rcases hj' with rfl | rfl
      · exact ⟨by rw [Nat.add_zero, cell_of_heap (i := 0) hP rfl]; rfl, frozen_of_heap hP⟩
      · exact ⟨by rw [cell_of_heap (i := 0 + 1) hP rfl]; rfl, frozen_of_heap hP⟩) size43 (by simp [Value.oneCell']) (h _ (hP.set p q) (Hf.keeps_setCells (S := fun k => k = b) b (fun _ => rfl) _ _ _ (Keeps.refl _ w)))

/-! ### A finder that has taken the first i symbols in -/
def symC (ys : List Int) (i k : Nat) : List Nat := if k = 0 then [] else symF (k : Int) (ys.take i) 0
def natsV (l : List Nat) : List Value := l.map (fun (i : Nat) => Value.int .i64 (i : Int))
theorem natsV_length (l : List Nat) : (natsV l).length = l.length := by simp [natsV]
structure Fc (w : World) (f : Nat) (ys : List Int) (i : Nat) (G : Nat → Nat) (V : Nat → Value) : Prop where
  blk : Fb w f G V
  own : ∀ k, k < 16 → w.ownsRow (f + 1) 3 1 (V k) (symC ys i k).length (natsV (symC ys i k))
  apart : ∀ j k g, j < 16 → k < 16 → j ≠ k → (V j).ownBlock = some g → (V k).ownBlock ≠ some g
  first : ∀ k, 1 ≤ k → k < 16 → symC ys i k ≠ [] → G k = fstC (cn ys) k
  small : ∀ k, k < 16 → G k ≤ 20000000
theorem symC_next_other (ys : List Int) (i k c : Nat) (hi : i < ys.length) (hc : at_ ys i = (c : Int)) (hk : k ≠ c) : symC ys (i + 1) k = symC ys i k := by
  unfold symC
  by_cases h0 : k = 0
  · rw [if_pos h0, if_pos h0]
  · rw [if_neg h0, if_neg h0, take_snoc ys i hi, symF_snoc, if_neg, List.append_nil]
    rw [at_eq i hi] at hc
    rw [hc]; omega
theorem symC_next (ys : List Int) (i c : Nat) (hi : i < ys.length) (hc : at_ ys i = (c : Int)) (hc1 : 1 ≤ c) : symC ys (i + 1) c = symC ys i c ++ [i] := by
  unfold symC
  rw [if_neg (by omega), if_neg (by omega), take_snoc ys i hi, symF_snoc]
  rw [at_eq i hi] at hc
  rw [hc, if_pos rfl, List.length_take, Nat.zero_add, Nat.min_eq_left (by omega)]
theorem symC_zero (ys : List Int) (i k : Nat) (hi : i < ys.length) (hc : at_ ys i = ((0 : Nat) : Int)) : symC ys (i + 1) k = symC ys i k := by
  by_cases h0 : k = 0
  · subst h0; rfl
  · exact symC_next_other ys i k 0 hi hc h0
theorem symC_length (ys : List Int) (i k : Nat) (hk : 1 ≤ k) : (symC ys i k).length = cnt (ys.take i) k := by
  unfold symC; rw [if_neg (by omega), symF_length]
theorem form_of {w : World} {base : Nat} {v : Value} {n : Nat} {xs : List Value} (h : w.ownsRow base 3 1 v n xs) : ∃ a cap, v = .slice a n cap := by
  rcases h.2 with ⟨e, h0⟩ | ⟨g, cap, cur, e, _⟩
  · exact ⟨none, 0, by rw [e, h0]⟩
  · exact ⟨_, cap, e⟩

theorem add_ok {w : World} {f : Nat} {ys : List Int} {i : Nat} {G : Nat → Nat} {V : Nat → Value} (h : Fc w f ys i G V) (c : Nat) (hi : i < ys.length) (hc : at_ ys i = (c : Int)) (hc1 : 1 ≤ c) (hc2 : c ≤ 15) (hl : ys.length ≤ 288) :
    Calls Try.prog 90 #[.pointer (some ⟨f, 0, none⟩), .int .i64 (i : Int), .agg #[.int .i64 (c : Int), .int .i64 (codeV ys i : Int)]] w fun e w' => e = .returned (.tuple #[]) ∧ Keeps (fun k => f ≤ k) w w' ∧ ∃ G' V', Fc w' f ys (i + 1) G' V' := by
  have ho := h.own c (by omega)
  obtain ⟨ad, cap0, hv⟩ := form_of ho
  obtain ⟨n, hn⟩ : ∃ n, (symC ys i c).length = n := ⟨_, rfl⟩
  have hnc : n = cnt (ys.take i) c := by rw [← hn]; exact symC_length ys i c hc1
  have hn3 : n ≤ 288 := by
    have := cnt_le (ys.take i) c
    rw [List.length_take] at this; omega
  rw [hn] at ho hv
  rw [hv] at ho
  have hq : codeV ys i = fstC (cn ys) c + n := by
    unfold codeV
    rw [hc, decide_eq_true (by omega), cond_true, hnc]
    simp
  have hfs := fstC_small ys hl c hc2
  refine (add_run f c n cap0 (i : Int) (codeV ys i : Int) ad (natsV (symC ys i c)) w (by omega) (by omega) h.blk.lt (by rw [h.blk.hi c (by omega), hv]) (h.blk.free _) ⟨_, h.blk.lo c (by omega)⟩ (h.blk.free _) ho).mono ?_
  rintro e w' ⟨rfl, g, cap, w0, w1, w2, hK0, hw1, ho2, hK2, hg, hgl, rfl⟩
  have hlow : ∀ k b, k < 16 → (V k).ownBlock = some b → f + 1 ≤ b ∧ b < w.heap.size := fun k b hk e => World.ownsRow.lt (h.own k hk) b e
  have hgf : f + 1 ≤ g := by
    rcases hg with hg | hg
    · exact (hlow c g (by omega) (by rw [hv]; exact hg)).1
    · have := h.blk.lt; omega
  have hK1 : Keeps (fun k => k = f) w w1 := by
    rw [hw1]
    split
    · exact (hK0.mono (S' := fun k => k = f) (fun _ _ e => e.elim)).setCell (p := ⟨f, c, none⟩) (fun _ => rfl) _
    · exact hK0.mono (fun _ _ e => e.elim)
  obtain ⟨G', hG', hG1⟩ : ∃ G', Fb w1 f G' V ∧ (n = 0 → G' = upd G c (codeV ys i)) ∧ (n ≠ 0 → G' = G) := by
    rw [hw1]
    by_cases h0 : n = 0
    · rw [if_pos h0]; exact ⟨upd G c (codeV ys i), (h.blk.kept hK0 (fun h => h)).setLo c _ (by omega), fun _ => rfl, fun e => absurd h0 e⟩
    · rw [if_neg h0]; exact ⟨G, h.blk.kept hK0 (fun h => h), fun e => absurd e h0, fun _ => rfl⟩
  have hb2 : Fb w2 f G' V := hG'.kept hK2 (fun e => by have := (hlow c f (by omega) (by rw [hv]; exact e)).1; omega)
  refine ⟨rfl, ?_, G', updV V c (.slice (some ⟨g, 0, none⟩) (n + 1) cap), ⟨hb2.setHi c _ (by omega), ?_, ?_, ?_, ?_⟩⟩
  · refine Keeps.setCell (S := fun k => f ≤ k) ((hK1.mono (S' := fun k => f ≤ k) (fun _ _ e => by omega)).trans hK2 (fun k _ e => ?_)) (p := ⟨f, 16 + c, none⟩) (fun _ => Nat.le_refl _) _
    have := (hlow c k (by omega) (by rw [hv]; exact e)).1; omega
  · intro k hk
    by_cases ek : k = c
    · subst ek
      unfold updV
      rw [if_pos rfl, symC_next ys i k hi hc hc1, List.length_append, hn]
      have := owns_far ho2 (p := ⟨f, 16 + k, none⟩) (by simp [Value.ownBlock]; omega) (.slice (some ⟨g, 0, none⟩) (n + 1) cap)
      simpa [natsV] using this
    · unfold updV
      rw [if_neg ek, symC_next_other ys i k c hi hc ek]
      have hne : ∀ b, (V k).ownBlock = some b → b ≠ f := fun b e => by have := (hlow k b hk e).1; omega
      refine owns_far (owns_heap (h.own k hk) (fun b e => ?_)) (p := ⟨f, 16 + c, none⟩) (fun e => hne f e rfl) _
      have h1 := hK1.block b (hlow k b hk e).2 (hne b e)
      have h2 := hK2.block b (by have := hK1.size; have := (hlow k b hk e).2; omega) (fun e2 => h.apart c k b (by omega) hk (fun x => ek x.symm) (by rw [hv]; exact e2) e)
      exact h2.trans h1
  · have hnew : ∀ k b, k < 16 → k ≠ c → (V k).ownBlock = some b → b ≠ g := fun k b hk hkc e eb => by
      subst eb
      rcases hg with hg | hg
      · exact h.apart c k b (by omega) hk (fun x => hkc x.symm) (by rw [hv]; exact hg) e
      · have := (hlow k b hk e).2; omega
    intro j k b hj hk hjk e1 e2
    unfold updV at e1 e2
    by_cases ej : j = c
    · rw [if_pos ej] at e1
      rw [if_neg (by omega)] at e2
      simp [Value.ownBlock] at e1
      exact hnew k b hk (by omega) e2 e1.symm
    · rw [if_neg ej] at e1
      by_cases ek : k = c
      · rw [if_pos ek] at e2
        simp [Value.ownBlock] at e2
        exact hnew j b hj ej e1 e2.symm
      · rw [if_neg ek] at e2
        exact h.apart j k b hj hk hjk e1 e2
  · intro k hk1 hk hne
    by_cases ek : k = c
    · subst ek
      by_cases h0 : n = 0
      · rw [hG1.1 h0]; unfold upd; rw [if_pos rfl, hq, h0]; rfl
      · rw [hG1.2 h0]; exact h.first k hk1 hk (fun e => by rw [e] at hn; simp at hn; omega)
    · have hk2 := h.first k hk1 hk (by rw [symC_next_other ys i k c hi hc ek] at hne; exact hne)
      by_cases h0 : n = 0
      · rw [hG1.1 h0]; unfold upd; rw [if_neg ek]; exact hk2
      · rw [hG1.2 h0]; exact hk2
  · intro k hk
    by_cases h0 : n = 0
    · rw [hG1.1 h0]; unfold upd; split
      · omega
      · exact h.small k hk
    · rw [hG1.2 h0]; exact h.small k hk

theorem Fc.keptF {w w' : World} {f : Nat} {ys : List Int} {i : Nat} {G : Nat → Nat} {V : Nat → Value} (h : Fc w f ys i G V) {S : Nat → Prop} (hk : Keeps S w w') (hS : ∀ k, f ≤ k → k < w.heap.size → ¬ S k) : Fc w' f ys i G V :=
  ⟨h.blk.kept hk (hS f (Nat.le_refl _) h.blk.lt), fun k hk1 => owns_heap (h.own k hk1) (fun b e => hk.block b (World.ownsRow.lt (h.own k hk1) b e).2 (hS b (by have := (World.ownsRow.lt (h.own k hk1) b e).1; omega) (World.ownsRow.lt (h.own k hk1) b e).2)), h.apart, h.first, h.small⟩
theorem Fc.found {w : World} {f : Nat} {ys : List Int} {G : Nat → Nat} {V : Nat → Value} (h : Fc w f ys ys.length G V) (lo : Nat) (hlo : lo ≤ f) : Fnd w lo w.heap.size f ys := by
  refine ⟨hlo, h.blk.lt, Nat.le_refl _, fun k h1 h2 => ?_⟩
  have hc : symC ys ys.length k = symF (k : Int) ys 0 := by unfold symC; rw [if_neg (by omega), List.take_length]
  have ho := h.own k (by omega)
  have hf := h.first k h1 (by omega)
  rw [hc] at ho hf
  obtain ⟨ad, cap, hv⟩ := form_of ho
  refine ⟨G k, ad, cap, h.blk.lo k (by omega), by rw [h.blk.hi k (by omega), hv], hf, h.small k (by omega), fun j hj => ?_⟩
  obtain ⟨g, cap', e, hg1, hg2⟩ := World.ownsRow.form ho (by omega)
  rw [hv] at e
  cases e
  refine ⟨g, rfl, by omega, hg2, ?_⟩
  rw [hv] at ho
  exact (owns_cell ho j _ (by simp [natsV, List.getElem?_map, List.getElem?_eq_getElem hj])).1

set_option maxHeartbeats 4000000 in
set_option maxRecDepth 1000000 in
theorem finderOf_ok (a : Option Addr) (ys : List Int) (cap : Nat) (w : World) (hR : Row w a ys) (ht : fits ys = true) :
    Calls Try.prog 79 #[.slice a ys.length cap] w fun e w' => ∃ f, e = .returned (.pointer (some ⟨f, 0, none⟩)) ∧ Keeps (fun _ => False) w w' ∧ Fnd w' w.heap.size w'.heap.size f ys := by
  have hm := (fits_true ht).1
  have hlen := may_len hm
  have HC : Hid (Calls Try.prog 89 #[.slice a ys.length cap] w fun e w' => ∃ g, e = .returned (.tuple #[.slice (some ⟨g, 0, none⟩) ys.length ys.length, .int .i64 0]) ∧ Keeps (fun _ => False) w w' ∧ w.heap.size ≤ g ∧ Cds w' g ys.length (codeF ys)) := codes_good a ys cap w hR (by omega) ht
  have HA : Hid (∀ i, i < ys.length → 0 ≤ at_ ys i ∧ at_ ys i ≤ 15) := fun i hi => by rw [at_eq i hi]; exact may_at hm i hi
  clear hR ht hm
  generalize hL : ys.length = N at *
  have HL : Hid (ys.length = N) := hL
  clear hL
  go_enter Try.func79, Try.ntmps79
  go_wp2_with fail
  refine HC.out.mono ?_
  rintro e w2 ⟨g, rfl, hK2, hg2, hC2⟩
  have H2 : Hid (Keeps (fun _ => False) w w2 ∧ w.heap.size ≤ g ∧ Cds w2 g N (codeF ys)) := ⟨hK2, hg2, hC2⟩
  clear HC hK2 hg2 hC2
  go_wp2
  generalize hw3 : World.alloc _ _ = w3
  have hz2 : w2.heap.size = w2.heap.size := rfl
  generalize hf : w2.heap.size = f at hz2 ⊢
  have HF : Hid (Fc w3 f ys 0 (fun _ => 0) (fun _ => .slice none 0 0) ∧ Cds w3 g N (codeF ys) ∧ Keeps (fun _ => False) w w3 ∧ g < f ∧ w.heap.size ≤ f) := by
    have hC := H2.out.2.2
    have hgl := hC.lt
    have hk : Keeps (fun _ => False) w2 w3 := by rw [← hw3]; exact (Keeps.refl _ w2).alloc _
    refine ⟨⟨?_, ?_, ?_, ?_, ?_⟩, hC.kept hk (fun h => h), H2.out.1.trans hk (fun _ _ h => h), by omega, by have := H2.out.1.size; omega⟩
    · unfold Fb; rw [← hw3, ← hf, heap_alloc_new]; rfl
    · intro k hk
      have e : symC ys 0 k = [] := by unfold symC; split <;> simp [symF]
      rw [e]; exact World.ownsRow_nil w3 (f + 1) 3 1
    · intro j k q _ _ _ e; cases e
    · intro k _ _ hne
      have e : symC ys 0 k = [] := by unfold symC; split <;> simp [symF]
      exact absurd e hne
    · intro k _; exact Nat.zero_le _
  clear hw3 hf hz2 H2
  go_loopw [17] (fun s17 w' => ∃ i : Nat, i ≤ N ∧ s17 = .int .i64 (i : Int) ∧ Hid ((∃ G V, Fc w' f ys i G V) ∧ Cds w' g N (codeF ys) ∧ Keeps (fun _ => False) w w' ∧ g < f ∧ w.heap.size ≤ f)) (fun s17 _ => ((N : Int) - intOf s17).toNat)
  case atStart => exact ⟨0, by omega, rfl, ⟨_, _, HF.out.1⟩, HF.out.2⟩
  case round =>
    clear HF
    obtain ⟨i, hi, rfl, HW⟩ := hrel
    by_cases hin : i < N
    · have hiz : (i : Int) < (N : Int) := by omega
      obtain ⟨h0, h15⟩ := HA.out i hin
      obtain ⟨c, hc⟩ : ∃ c : Nat, at_ ys i = (c : Int) := ⟨(at_ ys i).toNat, by omega⟩
      have hc0 : wr.cell? ⟨g, i * 2, none⟩ = some (.int .i64 (c : Int)) := by rw [← hc]; exact HW.out.2.1.bits i hin
      have hc1 : wr.cell? ⟨g, i * 2 + 1, none⟩ = some (.int .i64 (codeV ys i : Int)) := HW.out.2.1.value i hin
      rw [hc] at h0 h15
      have HY : Hid (at_ ys i = (c : Int)) := hc
      clear hc
      obtain ⟨q, hq⟩ : ∃ q, codeV ys i = q := ⟨_, rfl⟩
      rw [hq] at hc1
      have HQ : Hid (codeV ys i = q) := hq
      clear hq
      by_cases hp : 0 < c
      · have hpz : 0 < (c : Int) := by omega
        go_wp2_with (first
          | (refine wpList_loadC rfl _ rfl g (i * 2) rfl (c : Int) (q : Int) ?h0 ?h1 ?_; (case h0 => assumption); (case h1 => assumption); (fail_if_success (clear HM1)); have HM1 := True.intro)
          | (refine wpList_allocC rfl rfl ?_; intro b5 w5 hP5 hK5 hb5; have H5 : Hid (Keeps (fun _ => False) wr w5 ∧ wr.heap.size ≤ b5) := ⟨hK5, hb5⟩; clear hK5 hb5)
          | (refine wpList_storeC rfl _ _ rfl b5 (c : Int) (q : Int) rfl rfl 0 0 hP5 ?_; intro w6 hP6 hK6; have d0 : w6.cell? ⟨b5, 0, none⟩ = some (.int .i64 (c : Int)) := cell_of_heap hP6 rfl; have d1 : w6.cell? ⟨b5, 0 + 1, none⟩ = some (.int .i64 (q : Int)) := cell_of_heap hP6 rfl; have H6 : Hid (Keeps (fun k => k = b5) w5 w6) := hK6; clear hK6 hP5 hP6)
          | (refine wpList_loadC rfl _ rfl b5 0 rfl (c : Int) (q : Int) ?h0 ?h1 ?_; (case h0 => assumption); (case h1 => assumption)))
        have H7 : Hid (Calls Try.prog 90 #[.pointer (some ⟨f, 0, none⟩), .int .i64 (i : Int), .agg #[.int .i64 (c : Int), .int .i64 (q : Int)]] w6 fun e w' => e = .returned (.tuple #[]) ∧ ((∃ G V, Fc w' f ys (i + 1) G V) ∧ Cds w' g N (codeF ys) ∧ Keeps (fun _ => False) w w' ∧ g < f ∧ w.heap.size ≤ f)) := by
          obtain ⟨⟨G, V, hF⟩, hC, hK, hgf, hwf⟩ := HW.out
          have k1 := H5.out.1
          have hfl := hF.blk.lt
          have hb := H5.out.2
          have kk : Keeps (fun k => k = b5) wr w6 := (k1.mono (S' := fun k => k = b5) (fun _ _ h => h.elim)).trans H6.out (fun _ _ h => h)
          have hF2 := hF.keptF kk (fun k _ hk e => by omega)
          have hK2 : Keeps (fun _ => False) w w6 := hK.trans kk (fun k hk e => by have := hK.size; omega)
          have hC2 := hC.kept kk (by have := hC.lt; omega)
          rw [← HQ.out]
          refine (add_ok hF2 c (by rw [HL.out]; exact hin) HY.out (by omega) (by omega) (by rw [HL.out]; omega)).mono ?_
          rintro e w' ⟨rfl, hK3, G', V', hF3⟩
          exact ⟨rfl, ⟨G', V', hF3⟩, hC2.kept hK3 (by omega), hK2.trans hK3 (fun k hk e => by omega), hgf, hwf⟩
        refine H7.out.mono ?_
        rintro e w7 ⟨rfl, h8⟩
        have H8 : Hid ((∃ G V, Fc w7 f ys (i + 1) G V) ∧ Cds w7 g N (codeF ys) ∧ Keeps (fun _ => False) w w7 ∧ g < f ∧ w.heap.size ≤ f) := h8
        clear h8 H7 H5 H6 d0 d1 hc0 hc1
        go_wp2
        go_roundw
        case rel => exact ⟨i + 1, by omega, by push_cast; rfl, H8⟩
        case measure => simp [intOf]; omega
      · obtain rfl : c = 0 := by omega
        go_wp2_with (first
          | (refine wpList_loadC rfl _ rfl g (i * 2) rfl ((0 : Nat) : Int) (q : Int) ?h0 ?h1 ?_; (case h0 => assumption); (case h1 => assumption))
          | (refine wpList_allocC rfl rfl ?_; intro b5 w5 hP5 hK5 hb5; have H5 : Hid (Keeps (fun _ => False) wr w5 ∧ wr.heap.size ≤ b5) := ⟨hK5, hb5⟩; clear hK5 hb5)
          | (refine wpList_storeC rfl _ _ rfl b5 ((0 : Nat) : Int) (q : Int) rfl rfl 0 0 hP5 ?_; intro w6 hP6 hK6; have d0 : w6.cell? ⟨b5, 0, none⟩ = some (.int .i64 ((0 : Nat) : Int)) := cell_of_heap hP6 rfl; have H6 : Hid (Keeps (fun k => k = b5) w5 w6) := hK6; clear hK6 hP5 hP6))
        go_roundw
        case rel =>
          refine ⟨i + 1, by omega, by push_cast; rfl, ?_⟩
          obtain ⟨⟨G, V, hF⟩, hC, hK, hgf, hwf⟩ := HW.out
          have k1 := H5.out.1
          have hfl := hF.blk.lt
          have hb := H5.out.2
          have kk : Keeps (fun k => k = b5) wr w6 := (k1.mono (S' := fun k => k = b5) (fun _ _ h => h.elim)).trans H6.out (fun _ _ h => h)
          have hF2 := hF.keptF kk (fun k _ hk e => by omega)
          refine ⟨⟨G, V, ⟨hF2.blk, fun k hk => ?_, hF2.apart, fun k hk1 hk hne => ?_, hF2.small⟩⟩, hC.kept kk (by have := hC.lt; omega), hK.trans kk (fun k hk e => by have := hK.size; omega), hgf, hwf⟩
          · rw [symC_zero ys i k (by rw [HL.out]; exact hin) HY.out]; exact hF2.own k hk
          · rw [symC_zero ys i k (by rw [HL.out]; exact hin) HY.out] at hne; exact hF2.first k hk1 hk hne
        case measure => simp [intOf]; omega
    · obtain rfl : i = N := by omega
      go_wp2
      go_ret
      obtain ⟨⟨G, V, hF⟩, hC, hK, hgf, hwf⟩ := HW.out
      rw [← HL.out] at hF
      exact ⟨f, rfl, hK, hF.found _ hwf⟩

theorem Fnd.wider {w : World} {lo hi lo' hi' f : Nat} {ys : List Int} (h : Fnd w lo hi f ys) (h1 : lo' ≤ lo) (h2 : hi ≤ hi') (h3 : hi' ≤ w.heap.size) : Fnd w lo' hi' f ys := by
  obtain ⟨a, b, c, d⟩ := h
  refine ⟨by omega, by omega, h3, fun k k1 k2 => ?_⟩
  obtain ⟨F, ad, cap, c1, c2, c3, c4, c5⟩ := d k k1 k2
  refine ⟨F, ad, cap, c1, c2, c3, c4, fun j hj => ?_⟩
  obtain ⟨g, e, g1, g2, g3⟩ := c5 j hj
  exact ⟨g, e, by omega, by omega, g3⟩

set_option maxHeartbeats 2000000 in
set_option maxRecDepth 1000000 in
theorem bookOf_ok (a a2 : Option Addr) (ys ds : List Int) (cap cap2 : Nat) (w : World) (hR : Row w a ys) (ht : fits ys = true) (hR2 : Row w a2 ds) (ht2 : fits ds = true) :
    Calls Try.prog 70 #[.slice a ys.length cap, .slice a2 ds.length cap2] w fun e w' => ∃ q, e = .returned (.pointer (some ⟨q, 0, none⟩)) ∧ Keeps (fun _ => False) w w' ∧ Book w' w.heap.size w'.heap.size q ys ds := by
  have HC1 : Hid (Calls Try.prog 79 #[.slice a ys.length cap] w fun e w' => ∃ f, e = .returned (.pointer (some ⟨f, 0, none⟩)) ∧ Keeps (fun _ => False) w w' ∧ Fnd w' w.heap.size w'.heap.size f ys) := finderOf_ok a ys cap w hR ht
  have HC2 : Hid (∀ w2, Keeps (fun _ => False) w w2 → Calls Try.prog 79 #[.slice a2 ds.length cap2] w2 fun e w' => ∃ f, e = .returned (.pointer (some ⟨f, 0, none⟩)) ∧ Keeps (fun _ => False) w2 w' ∧ Fnd w' w2.heap.size w'.heap.size f ds) := fun w2 hk => finderOf_ok a2 ds cap2 w2 (hR2.keptF hk) ht2
  clear hR ht hR2 ht2
  generalize ys.length = N1 at *
  generalize ds.length = N2 at *
  go_enter Try.func70, Try.ntmps70
  go_wp2_with fail
  refine HC1.out.mono ?_
  rintro e w2 ⟨f1, rfl, hK2, hF2⟩
  have H2 : Hid (Keeps (fun _ => False) w w2 ∧ Fnd w2 w.heap.size w2.heap.size f1 ys) := ⟨hK2, hF2⟩
  clear HC1 hK2 hF2
  go_wp2_with fail
  refine (HC2.out w2 H2.out.1).mono ?_
  rintro e w3 ⟨f2, rfl, hK3, hF3⟩
  have H3 : Hid (Keeps (fun _ => False) w w3 ∧ Fnd w3 w.heap.size w3.heap.size f1 ys ∧ Fnd w3 w.heap.size w3.heap.size f2 ds) := by
    have h := H2.out
    have hs := h.1.size
    have hs3 := hK3.size
    exact ⟨h.1.trans hK3 (fun _ _ h => h), (h.2.kept hK3 (fun _ _ _ h => h)).wider (Nat.le_refl _) hs3 (Nat.le_refl _), hF3.wider hs (Nat.le_refl _) (Nat.le_refl _)⟩
  clear HC2 H2 hK3 hF3
  go_wp2
  go_ret
  obtain ⟨h1, h2, h3⟩ := H3.out
  have hs := h1.size
  refine ⟨_, rfl, h1.alloc _, f1, f2, heap_alloc_new _ _, hs, by simp, ?_, ?_⟩
  · exact (h2.kept ((Keeps.refl (fun _ => False) w3).alloc _) (fun _ _ _ h => h)).wider (Nat.le_refl _) (by simp) (Nat.le_refl _)
  · exact (h3.kept ((Keeps.refl (fun _ => False) w3).alloc _) (fun _ _ _ h => h)).wider (Nat.le_refl _) (by simp) (Nat.le_refl _)

end Go.Proofs.Ytdbfbijalhknnaa

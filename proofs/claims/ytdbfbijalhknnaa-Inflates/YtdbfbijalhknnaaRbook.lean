/-
  The document's books: bookOf.
-/
import Derived.Test.YtdbfbijalhknnaaRput
namespace Go.Proofs.Ytdbfbijalhknnaa
open Go.RowKit
open Hf Tb
set_option linter.unusedVariables false
set_option linter.unusedSimpArgs false

/-! ### The symbols in the row of their codes -/
def symsTo (ys : List Int) : Nat → List Nat
  | 0 => []
  | k + 1 => symsTo ys k ++ (if k = 0 then [] else symF (k : Int) ys 0)
def mkM (ys : List Int) (k i : Nat) : Nat → Nat := fun j => if j = 0 then 0 else if j < k then cnt ys j else if j = k then cnt (ys.take i) k else 0
def mkS (ys : List Int) (k i : Nat) : List Nat := symsTo ys k ++ symF (k : Int) (ys.take i) 0
theorem mkM_hit (ys : List Int) (k i : Nat) (hk : 1 ≤ k) (hi : i < ys.length) (h : at_ ys i = (k : Int)) : ∀ j, upd (mkM ys k i) k (mkM ys k i k + 1) j = mkM ys k (i + 1) j := by
  intro j
  unfold upd mkM
  by_cases e : j = k
  · subst e
    rw [if_pos rfl, if_neg (by omega), if_neg (by omega), if_pos rfl, if_neg (by omega), if_neg (by omega), if_pos rfl, take_snoc ys i hi, cnt_snoc]
    rw [at_eq i hi] at h
    rw [if_pos h]
  · rw [if_neg e]
    by_cases e0 : j = 0
    · rw [if_pos e0, if_pos e0]
    · rw [if_neg e0, if_neg e0]
      by_cases e1 : j < k
      · rw [if_pos e1, if_pos e1]
      · rw [if_neg e1, if_neg e1, if_neg e, if_neg e]
theorem mkM_miss (ys : List Int) (k i : Nat) (hi : i < ys.length) (h : at_ ys i ≠ (k : Int)) : ∀ j, mkM ys k i j = mkM ys k (i + 1) j := by
  intro j
  unfold mkM
  rw [take_snoc ys i hi, cnt_snoc]
  rw [at_eq i hi] at h
  rw [if_neg h, Nat.add_zero]
theorem mkS_hit (ys : List Int) (k i : Nat) (hi : i < ys.length) (h : at_ ys i = (k : Int)) : mkS ys k (i + 1) = mkS ys k i ++ [i] := by
  unfold mkS
  rw [at_eq i hi] at h
  rw [take_snoc ys i hi, symF_snoc, if_pos h, Nat.zero_add, List.length_take, Nat.min_eq_left (by omega), List.append_assoc]
theorem mkS_miss (ys : List Int) (k i : Nat) (hi : i < ys.length) (h : at_ ys i ≠ (k : Int)) : mkS ys k (i + 1) = mkS ys k i := by
  unfold mkS
  rw [at_eq i hi] at h
  rw [take_snoc ys i hi, symF_snoc, if_neg h, List.append_nil]
theorem mkM_turn (ys : List Int) (k : Nat) (hk : 1 ≤ k) : ∀ j, mkM ys k ys.length j = mkM ys (k + 1) 0 j := by
  intro j
  unfold mkM
  rw [List.take_length, List.take_zero]
  by_cases e0 : j = 0
  · rw [if_pos e0, if_pos e0]
  · rw [if_neg e0, if_neg e0]
    by_cases e1 : j < k
    · rw [if_pos e1, if_pos (by omega)]
    · rw [if_neg e1]
      by_cases e2 : j = k
      · subst e2; rw [if_pos rfl, if_pos (by omega)]
      · rw [if_neg e2, if_neg (by omega)]
        by_cases e3 : j = k + 1
        · rw [if_pos e3]; simp [cnt]
        · rw [if_neg e3]
theorem mkS_turn (ys : List Int) (k : Nat) (hk : 1 ≤ k) : mkS ys k ys.length = mkS ys (k + 1) 0 := by
  unfold mkS
  rw [List.take_length, List.take_zero, symsTo, if_neg (by omega)]
  simp [symF]
theorem symsTo_length (ys : List Int) : ∀ k, (symsTo ys k).length ≤ k * ys.length
  | 0 => by simp [symsTo]
  | k + 1 => by
    have h := symsTo_length ys k
    rw [symsTo, List.length_append, Nat.add_mul]
    split
    · simp; omega
    · rw [symF_length]; have := cnt_le ys k; omega
theorem mkS_length (ys : List Int) (k i : Nat) (hk : k ≤ 16) (hl : ys.length ≤ 288) : (mkS ys k i).length ≤ 5000 := by
  unfold mkS
  rw [List.length_append, symF_length]
  have h1 := symsTo_length ys k
  have h2 := cnt_le (ys.take i) k
  rw [List.length_take] at h2
  have h3 : k * ys.length ≤ 16 * 288 := Nat.mul_le_mul hk hl
  omega

/-! ### A book's block -/
def rcells (M : Nat → Nat) (u : Value) : List Value := (List.range 16).map (fun i => .int .i64 (M i : Int)) ++ [u]
theorem rcells_lo (M : Nat → Nat) (u : Value) (k : Nat) (h : k < 16) : (rcells M u)[k]? = some (.int .i64 (M k : Int)) := by
  unfold rcells
  rw [List.getElem?_append_left (by simpa using h), List.getElem?_map, List.getElem?_range h]; rfl
theorem rcells_hi (M : Nat → Nat) (u : Value) : (rcells M u)[16]? = some u := by
  unfold rcells
  rw [List.getElem?_append_right (by simp)]; simp
theorem rcells_sz (M : Nat → Nat) (u : Value) : (rcells M u).toArray.size = 17 := by simp [rcells]
def Rb (w : World) (q : Nat) (M : Nat → Nat) (u : Value) : Prop := w.heap[q]? = some (.cells (rcells M u).toArray 100 (0, 0))
theorem Rb.lt {w : World} {q : Nat} {M : Nat → Nat} {u : Value} (h : Rb w q M u) : q < w.heap.size := lt_of_heap h
theorem Rb.lo {w : World} {q : Nat} {M : Nat → Nat} {u : Value} (h : Rb w q M u) (k : Nat) (hk : k < 16) : w.cell? ⟨q, k, none⟩ = some (.int .i64 (M k : Int)) :=
  cell_of_heap h (by rw [List.getElem?_toArray]; exact rcells_lo M u k hk)
theorem Rb.hi {w : World} {q : Nat} {M : Nat → Nat} {u : Value} (h : Rb w q M u) : w.cell? ⟨q, 16, none⟩ = some u :=
  cell_of_heap h (by rw [List.getElem?_toArray]; exact rcells_hi M u)
theorem Rb.free {w : World} {q : Nat} {M : Nat → Nat} {u : Value} (h : Rb w q M u) (k : Nat) : w.frozen? ⟨q, k, none⟩ = false := frozen_of_heap h
theorem Rb.kept {S : Nat → Prop} {w w' : World} {q : Nat} {M : Nat → Nat} {u : Value} (h : Rb w q M u) (hk : Keeps S w w') (hf : ¬ S q) : Rb w' q M u := (hk.block q h.lt hf).trans h
theorem rcells_ext (M : Nat → Nat) (u : Value) (cs : Array Value) (hz : cs.size = 17) (h1 : ∀ k, k < 16 → cs[k]? = some (.int .i64 (M k : Int))) (h2 : cs[16]? = some u) : cs = (rcells M u).toArray := by
  apply Array.ext_getElem?
  intro i
  by_cases hi : i < 16
  · rw [h1 i hi, List.getElem?_toArray, rcells_lo M u i hi]
  · by_cases hi2 : i = 16
    · subst hi2; rw [h2, List.getElem?_toArray, rcells_hi]
    · rw [Array.getElem?_eq_none (by omega), List.getElem?_toArray, List.getElem?_eq_none (by simp [rcells]; omega)]
theorem Rb.congr {w : World} {q : Nat} {M M' : Nat → Nat} {u : Value} (h : Rb w q M u) (e : ∀ i, M i = M' i) : Rb w q M' u := by
  have : M = M' := funext e
  rw [← this]; exact h
theorem Rb.setLo {w : World} {q : Nat} {M : Nat → Nat} {u : Value} (h : Rb w q M u) (c x : Nat) (hc : c < 16) : Rb (w.setCell ⟨q, c, none⟩ (.int .i64 (x : Int))) q (upd M c x) u := by
  unfold Rb
  rw [heap_setCell_same h]
  congr 2
  refine rcells_ext _ _ _ (by rw [Array.size_setIfInBounds, rcells_sz]) (fun k hk => ?_) ?_
  · rw [Array.getElem?_setIfInBounds, List.getElem?_toArray, rcells_lo M u k hk, rcells_sz]
    unfold upd
    by_cases e : c = k
    · subst e; simp; omega
    · rw [if_neg e, if_neg (fun x => e x.symm)]
  · rw [Array.getElem?_setIfInBounds, if_neg (by omega), List.getElem?_toArray, rcells_hi]
theorem Rb.setHi {w : World} {q : Nat} {M : Nat → Nat} {u : Value} (h : Rb w q M u) (x : Value) : Rb (w.setCell ⟨q, 16, none⟩ x) q M x := by
  unfold Rb
  rw [heap_setCell_same h]
  congr 2
/-- One number behind the others. -/
theorem wpList_nat {ops : Array Oper} {rest : List Oper} {o : Oper} {a : Act} {w : World} {Q : Exit → Act → World → Prop} (hgd : o.guard = none) (s x : Operand) (ho : o.op = .call { callee := .builtin .append, args := #[s, x], argTypes := #[36, 36] })
    (base : Nat) (v : Value) (n : Nat) (xs : List Value) (hs : a.eval s = v) (hown : w.ownsRow base 3 1 v n xs) (q : Nat) (c : Int) (hx : a.eval x = .slice (some ⟨q, 0, none⟩) 1 1) (hR : w.heap[q]? = some (.cells #[.int .i64 c] 3 (0, 0))) (hb : base ≤ w.heap.size) (hn : n ≤ 1000000)
    (h : ∀ g cap w', w'.ownsRow base 3 1 (.slice (some ⟨g, 0, none⟩) (n + 1) cap) (n + 1) (xs ++ [.int .i64 c]) → w.grownBy w' v.ownBlock → (v.ownBlock = some g ∨ g = w.heap.size) → g < w'.heap.size → wpList Try.prog ops Q rest (a.put o.dst (.slice (some ⟨g, 0, none⟩) (n + 1) cap)) w') : wpList Try.prog ops Q (o :: rest) a w := by
  obtain ⟨i0, hi, hz0, hz1, hz2⟩ := info_parts info3
  exact wpList_append_lies w hgd s x _ ho base 3 i0 _ 1 8 Try.underlying36 hi hz0 hz1 hz2 rfl (by omega) v n xs hs hown ⟨q, 0, none⟩ 1 1 [.int .i64 c] hx rfl (World.news_of_block (cs := #[.int .i64 c]) hR) (by simp [Value.oneCell']) (by omega) (by unfold maxLen; omega) (by omega) hb _ rfl h

/-- A book that is being made. -/
def Rk (w : World) (q : Nat) (ys : List Int) (k i : Nat) : Prop := ∃ u, Rb w q (mkM ys k i) u ∧ w.ownsRow (q + 1) 3 1 u (mkS ys k i).length (natsV (mkS ys k i))
theorem Rk.congr {w : World} {q : Nat} {ys : List Int} {k i k' i' : Nat} (h : Rk w q ys k i) (h1 : ∀ j, mkM ys k i j = mkM ys k' i' j) (h2 : mkS ys k i = mkS ys k' i') : Rk w q ys k' i' := by
  obtain ⟨u, a, b⟩ := h
  exact ⟨u, a.congr h1, by rw [← h2]; exact b⟩
/-- A book of lengths: all that it reaches lies in [lo, hi). -/
def RBk (w : World) (lo hi q : Nat) (ys : List Int) : Prop :=
  lo ≤ q ∧ q < hi ∧ hi ≤ w.heap.size ∧ (∀ k, k < 16 → w.cell? ⟨q, k, none⟩ = some (.int .i64 (cn ys k : Int))) ∧ ∃ a cap, w.cell? ⟨q, 16, none⟩ = some (.slice a (symsTo ys 16).length cap) ∧
    ∀ j (h : j < (symsTo ys 16).length), ∃ g, a = some ⟨g, 0, none⟩ ∧ lo ≤ g ∧ g < hi ∧ w.cell? ⟨g, j, none⟩ = some (.int .i64 (((symsTo ys 16)[j] : Nat) : Int))
theorem RBk.kept {S : Nat → Prop} {w w' : World} {lo hi q : Nat} {ys : List Int} (h : RBk w lo hi q ys) (hk : Keeps S w w') (hS : ∀ k, lo ≤ k → k < hi → ¬ S k) : RBk w' lo hi q ys := by
  obtain ⟨h1, h2, h3, h4, a, cap, h5, h6⟩ := h
  refine ⟨h1, h2, Nat.le_trans h3 hk.size, fun k hk1 => ?_, a, cap, ?_, fun j hj => ?_⟩
  · rw [World.cell?_of_block (hk.block q (by omega) (hS q h1 h2))]; exact h4 k hk1
  · rw [World.cell?_of_block (hk.block q (by omega) (hS q h1 h2))]; exact h5
  · obtain ⟨g, e, g1, g2, g3⟩ := h6 j hj
    exact ⟨g, e, g1, g2, by rw [World.cell?_of_block (hk.block g (by omega) (hS g g1 g2))]; exact g3⟩
theorem Rk.book {w : World} {q : Nat} {ys : List Int} (h : Rk w q ys 16 0) (lo : Nat) (hlo : lo ≤ q) : RBk w lo w.heap.size q ys := by
  obtain ⟨u, h1, h2⟩ := h
  have e : mkS ys 16 0 = symsTo ys 16 := by unfold mkS; simp [symF]
  rw [e] at h2
  obtain ⟨a, cap, hv⟩ := form_of h2
  refine ⟨hlo, h1.lt, Nat.le_refl _, fun k hk => ?_, a, cap, by rw [h1.hi, hv], fun j hj => ?_⟩
  · rw [h1.lo k hk]
    congr 2
    unfold mkM cn
    by_cases e0 : k = 0
    · rw [if_pos e0, if_pos e0]
    · rw [if_neg e0, if_neg e0, if_pos hk]
  · obtain ⟨g, cap', e2, hg1, hg2⟩ := World.ownsRow.form h2 (by omega)
    rw [hv] at e2
    cases e2
    rw [hv] at h2
    exact ⟨g, rfl, by omega, hg2, (owns_cell h2 j _ (by simp [natsV, List.getElem?_map, List.getElem?_eq_getElem hj])).1⟩

set_option maxHeartbeats 8000000 in
set_option maxRecDepth 1000000 in
theorem rbookOf_ok (a : Option Addr) (ys : List Int) (cap : Nat) (w : World) (hR : Row w a ys) (hl : ys.length ≤ 288) (hl1 : 1 ≤ ys.length) :
    Calls Try.prog 23 #[.slice a ys.length cap] w fun e w' => ∃ q, e = .returned (.pointer (some ⟨q, 0, none⟩)) ∧ Keeps (fun _ => False) w w' ∧ RBk w' w.heap.size w'.heap.size q ys := by
  obtain ⟨g, off, rfl, hg, hc⟩ := hR.spot (by omega)
  have HC : Hid (∀ w', Keeps (fun _ => False) w w' → ∀ i, i < ys.length → w'.cell? ⟨g, off + i, none⟩ = some (.int .i64 (at_ ys i))) := fun w' hk i hi => by
    rw [World.cell?_of_block (hk.block g hg (fun h => h)), at_eq i hi]; exact hc i hi
  obtain ⟨N, hN⟩ : ∃ N, ys.length = N := ⟨_, rfl⟩
  have HN : Hid (ys.length = N) := hN
  rw [hN] at hl hl1 ⊢
  clear hR hc hN
  go_enter Try.func23, Try.ntmps23
  go_wp2
  generalize hw2 : World.alloc _ _ = w2
  obtain ⟨q, hq⟩ : ∃ q, w.heap.size = q := ⟨_, rfl⟩
  rw [hq]
  have H2 : Hid (Rk w2 q ys 1 0 ∧ Keeps (fun _ => False) w w2 ∧ w.heap.size ≤ q) := by
    refine ⟨⟨.slice none 0 0, ?_, ?_⟩, by rw [← hw2]; exact (Keeps.refl _ w).alloc _, by omega⟩
    · have : Rb w2 q (fun _ => 0) (.slice none 0 0) := by unfold Rb; rw [← hw2, ← hq, heap_alloc_new]; rfl
      refine this.congr (fun i => ?_)
      unfold mkM
      split
      · rfl
      · split
        · omega
        · split
          · simp [cnt]
          · rfl
    · have e : mkS ys 1 0 = [] := by unfold mkS; simp [symsTo, symF]
      rw [e]; exact World.ownsRow_nil w2 (q + 1) 3 1
  clear hw2 hq
  go_loopw [4] (fun s4 w' => ∃ k : Nat, 1 ≤ k ∧ k ≤ 16 ∧ s4 = .int .i64 (k : Int) ∧ Hid (Rk w' q ys k 0 ∧ Keeps (fun _ => False) w w' ∧ w.heap.size ≤ q)) (fun s4 _ => (16 - intOf s4).toNat)
  case atStart => exact ⟨1, by omega, by omega, rfl, H2⟩
  case round =>
    clear H2
    obtain ⟨k, hk1, hk2, rfl, HW⟩ := hrel
    by_cases h16 : k < 16
    · have hkz : (k : Int) ≤ 15 := by omega
      have hkz1 : (1 : Int) ≤ (k : Int) := by omega
      have hk16 : (k : Int) < 16 := by omega
      go_wp2
      go_loopw [5] (fun s5 w' => ∃ i : Nat, i ≤ N ∧ s5 = .int .i64 (i : Int) ∧ Hid (Rk w' q ys k i ∧ Keeps (fun _ => False) w w' ∧ w.heap.size ≤ q)) (fun s5 _ => ((N : Int) - intOf s5).toNat)
      case atStart => exact ⟨0, by omega, rfl, HW⟩
      case round =>
        clear HW
        obtain ⟨i, hi, rfl, HW⟩ := hrel
        by_cases hiN : i < N
        · have hiz : (i : Int) < (N : Int) := by omega
          have hcell := HC.out wr HW.out.2.1 i (by rw [HN.out]; exact hiN)
          by_cases hhit : at_ ys i = (k : Int)
          · rw [hhit] at hcell
            obtain ⟨u, hRb, hOw⟩ := HW.out.1
            obtain ⟨ad, cap1, hu⟩ := form_of hOw
            obtain ⟨n, hn⟩ : ∃ n, (mkS ys k i).length = n := ⟨_, rfl⟩
            have hn5 : n ≤ 5000 := by rw [← hn]; exact mkS_length ys k i hk2 (by rw [HN.out]; exact hl)
            rw [hn] at hu hOw
            subst hu
            obtain ⟨m, hm⟩ : ∃ m, mkM ys k i k = m := ⟨_, rfl⟩
            have hm3 : m ≤ 288 := by
              rw [← hm]; unfold mkM; rw [if_neg (by omega), if_neg (by omega), if_pos rfl]
              have := cnt_le (ys.take i) k; rw [List.length_take, HN.out] at this; omega
            have d1 := hRb.lo k h16
            rw [hm] at d1
            have d2 := hRb.free k
            have d3 := hRb.hi
            have d4 := hRb.free 16
            have hqlt := hRb.lt
            have HS : Hid (Rb wr q (mkM ys k i) (.slice ad n cap1) ∧ wr.ownsRow (q + 1) 3 1 (.slice ad n cap1) n (natsV (mkS ys k i)) ∧ mkM ys k i k = m ∧ at_ ys i = (k : Int) ∧ (mkS ys k i).length = n) := ⟨hRb, hOw, hm, hhit, hn⟩
            have HK : Hid (Keeps (fun _ => False) w wr ∧ w.heap.size ≤ q) := HW.out.2
            clear HW hRb hOw hm hhit hn
            go_wp2
            go_region
            obtain ⟨w5, hw5⟩ : ∃ w5, (wr.setCell ⟨q, k, none⟩ (.int .i64 ((m : Int) + 1))).drew = w5 := ⟨_, rfl⟩
            rw [hw5]
            have H5 : Hid (Rb w5 q (upd (mkM ys k i) k (m + 1)) (.slice ad n cap1) ∧ w5.ownsRow (q + 1) 3 1 (.slice ad n cap1) n (natsV (mkS ys k i)) ∧ Keeps (fun x => x = q) wr w5) := by
              rw [← hw5]
              have e : ((m : Int) + 1) = ((m + 1 : Nat) : Int) := by push_cast; rfl
              rw [e]
              refine ⟨HS.out.1.setLo k (m + 1) h16, owns_far HS.out.2.1 (p := ⟨q, k, none⟩) (fun e => by have := (World.ownsRow.lt HS.out.2.1 q e).1; omega) _, ?_⟩
              exact ((Keeps.refl (fun x => x = q) wr).setCell (p := ⟨q, k, none⟩) (fun _ => rfl) _).drew
            have d3' := H5.out.1.hi
            have d4' := H5.out.1.free 16
            have hq5 := H5.out.1.lt
            have hne : some q ≠ (Value.slice ad n cap1).ownBlock := fun e => by have := (World.ownsRow.lt H5.out.2.1 q e.symm).1; omega
            clear hw5 d1 d2 d3 d4 hqlt hcell
            go_wp2_with (refine wpList_nat rfl _ _ rfl (q + 1) (.slice ad n cap1) n (natsV (mkS ys k i)) rfl (H5.out.2.1.alloc _) w5.heap.size (i : Int) rfl (heap_alloc_new w5 _) (by simp; omega) (by omega) ?_; intro g4 cap4 w6 hown4 hgrow4 hat4 hlt4; have k4 : w6.cell? ⟨q, 16, none⟩ = some (.slice ad n cap1) := (hgrow4.cell_far ⟨q, 16, none⟩ (by simp; omega) hne).trans (by rw [World.cell?_alloc_past _ _ _ hq5]; exact d3'); have e4 : w6.frozen? ⟨q, 16, none⟩ = false := (hgrow4.frozen_far ⟨q, 16, none⟩ (by simp; omega) hne).trans (by rw [World.frozen?_alloc_past _ _ _ hq5]; exact d4'))
            go_roundw
            case rel =>
              refine ⟨i + 1, by omega, by push_cast; rfl, ?_⟩
              have kk : Keeps (fun x => (Value.slice ad n cap1).ownBlock = some x) w5 w6 := (((Keeps.refl _ w5).alloc _)).grown hgrow4 (fun x _ e => e)
              have hRb6 : Rb w6 q (upd (mkM ys k i) k (m + 1)) (.slice ad n cap1) := H5.out.1.kept kk (fun e => hne e.symm)
              have hg4 : q + 1 ≤ g4 := by
                rcases hat4 with h | h
                · exact (World.ownsRow.lt H5.out.2.1 g4 h).1
                · simp at h; omega
              have hkw5 : Keeps (fun _ => False) w w5 := HK.out.1.trans H5.out.2.2 (fun x hx e => by have := HK.out.2; omega)
              have hk2 : Keeps (fun _ => False) w w6 := hkw5.trans kk (fun x hx e => by have := (World.ownsRow.lt H5.out.2.1 x e).1; have := HK.out.2; omega)
              refine ⟨⟨.slice (some ⟨g4, 0, none⟩) (n + 1) cap4, ?_, ?_⟩, hk2.setCell (p := ⟨q, 16, none⟩) (fun hx => by have := HK.out.2; simp only at hx; omega) _, HK.out.2⟩
              · refine (hRb6.setHi _).congr ?_
                have := mkM_hit ys k i hk1 (by rw [HN.out]; exact hiN) HS.out.2.2.2.1
                rw [HS.out.2.2.1] at this; exact this
              · have h7 := owns_far hown4 (p := ⟨q, 16, none⟩) (by simp [Value.ownBlock]; omega) (.slice (some ⟨g4, 0, none⟩) (n + 1) cap4)
                rw [mkS_hit ys k i (by rw [HN.out]; exact hiN) HS.out.2.2.2.1, List.length_append, HS.out.2.2.2.2]
                simpa [natsV] using h7
            case measure => simp [intOf]; omega
          · have hmz : (at_ ys i == (k : Int)) = false := by simp; exact hhit
            have hmz2 : ¬ (at_ ys i = (k : Int)) := hhit
            have HH : Hid (Rk wr q ys k (i + 1)) := HW.out.1.congr (mkM_miss ys k i (by rw [HN.out]; exact hiN) hhit) (mkS_miss ys k i (by rw [HN.out]; exact hiN) hhit).symm
            clear hhit
            generalize at_ ys i = t at *
            go_wp2
            go_roundw
            case rel =>
              exact ⟨i + 1, by omega, by push_cast; rfl, HH.out, HW.out.2⟩
            case measure => simp [intOf]; omega
        · obtain rfl : i = N := by omega
          go_wp2
          go_roundw
          case rel =>
            refine ⟨k + 1, by omega, by omega, by push_cast; rfl, ?_, HW.out.2⟩
            have h8 := HW.out.1
            rw [← HN.out] at h8
            exact h8.congr (mkM_turn ys k hk1) (mkS_turn ys k hk1)
          case measure => simp [intOf]; omega
    · obtain rfl : k = 16 := by omega
      go_wp2
      go_ret
      exact ⟨q, rfl, HW.out.2.1, HW.out.1.book _ HW.out.2.2⟩

end Go.Proofs.Ytdbfbijalhknnaa

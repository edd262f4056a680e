/-
  Rows of a reckoned table: blocks of pairs, and the calls that make them.
-/
import Derived.Test.YtdbfbijalhknnaaRows
import Derived.Test.YtdbfbijalhknnaaTTab
import Derived.WalkKit
import Derived.WalkSpells
import Derived.WalkLawsBesides
import Derived.Deep.MidRow
import Derived.Laws.ResultCell
namespace Go.Proofs.Ytdbfbijalhknnaa.Tb
open Go.RowKit
set_option linter.unusedVariables false
set_option linter.unusedSimpArgs false

/-- Block g is a row of n pairs. -/
def Prs (w : World) (g n : Nat) (f : Nat → Nat × Nat) : Prop :=
  ∃ cs : Array Value, w.heap[g]? = some (.cells cs 141 (0, 0)) ∧ cs.size = n * 2 ∧ ∀ i, i < n → cs[i * 2]? = some (.int .i64 ((f i).1 : Int)) ∧ cs[i * 2 + 1]? = some (.int .i64 ((f i).2 : Int))
theorem Prs.lt {w : World} {g n : Nat} {f : Nat → Nat × Nat} (h : Prs w g n f) : g < w.heap.size := by obtain ⟨cs, h1, _⟩ := h; exact lt_of_heap h1
theorem Prs.fst {w : World} {g n : Nat} {f : Nat → Nat × Nat} (h : Prs w g n f) (i : Nat) (hi : i < n) : w.cell? ⟨g, i * 2, none⟩ = some (.int .i64 ((f i).1 : Int)) := by
  obtain ⟨cs, h1, h2, h3⟩ := h; exact cell_of_heap h1 (h3 i hi).1
theorem Prs.snd {w : World} {g n : Nat} {f : Nat → Nat × Nat} (h : Prs w g n f) (i : Nat) (hi : i < n) : w.cell? ⟨g, i * 2 + 1, none⟩ = some (.int .i64 ((f i).2 : Int)) := by
  obtain ⟨cs, h1, h2, h3⟩ := h; exact cell_of_heap h1 (h3 i hi).2
theorem Prs.free {w : World} {g n : Nat} {f : Nat → Nat × Nat} (h : Prs w g n f) (i : Nat) : w.frozen? ⟨g, i, none⟩ = false := by
  obtain ⟨cs, h1, _⟩ := h; exact frozen_of_heap h1
theorem Prs.kept {S : Nat → Prop} {w w' : World} {g n : Nat} {f : Nat → Nat × Nat} (h : Prs w g n f) (hk : Keeps S w w') (hg : ¬ S g) : Prs w' g n f := by
  obtain ⟨cs, h1, r⟩ := h; exact ⟨cs, (hk.block g (lt_of_heap h1) hg).trans h1, r⟩
theorem Prs.keptF {w w' : World} {g n : Nat} {f : Nat → Nat × Nat} (h : Prs w g n f) (hk : Keeps (fun _ => False) w w') : Prs w' g n f := h.kept hk (fun h => h)
theorem Prs.congr {w : World} {g n : Nat} {f f' : Nat → Nat × Nat} (h : Prs w g n f) (e : ∀ i, i < n → f i = f' i) : Prs w g n f' := by
  obtain ⟨cs, h1, h2, h3⟩ := h; exact ⟨cs, h1, h2, fun i hi => by rw [← e i hi]; exact h3 i hi⟩
theorem keeps_setCells {S : Nat → Prop} {a : World} (b : Nat) (hb : b < a.heap.size → S b) : ∀ (vs : List Value) (o : Nat) (w : World), Keeps S a w → Keeps S a (w.setCells b o vs)
  | [], _, _, h => h
  | v :: r, o, w, h => by rw [World.setCells]; exact keeps_setCells b hb r (o + 1) _ (h.setCell hb v)
theorem Prs.set {w : World} {g n : Nat} {f : Nat → Nat × Nat} (h : Prs w g n f) (i : Nat) (hi : i < n) (x y : Nat) : Prs (w.setCells g (i * 2) [.int .i64 (x : Int), .int .i64 (y : Int)]) g n (fun j => if j = i then (x, y) else f j) := by
  show Prs ((w.setCell ⟨g, i * 2, none⟩ (.int .i64 x)).setCell ⟨g, i * 2 + 1, none⟩ (.int .i64 y)) g n _
  obtain ⟨cs, h1, h2, h3⟩ := h
  refine ⟨_, heap_setCell_same (heap_setCell_same h1 _) _, by simp [h2], fun j hj => ?_⟩
  obtain ⟨c1, c2⟩ := h3 j hj
  simp only [Array.getElem?_setIfInBounds, Array.size_setIfInBounds, h2]
  by_cases e : j = i
  · subst e
    rw [if_neg (show ¬ j * 2 + 1 = j * 2 by omega)]
    simp [show j * 2 < n * 2 by omega, show j * 2 + 1 < n * 2 by omega]
  · rw [if_neg (show ¬ i * 2 + 1 = j * 2 by omega), if_neg (show ¬ i * 2 = j * 2 by omega), if_neg (show ¬ i * 2 + 1 = j * 2 + 1 by omega), if_neg (show ¬ i * 2 = j * 2 + 1 by omega), c1, c2]
    simp [e]
set_option maxRecDepth 1000000 in
theorem Prs.made (w : World) (n : Nat) (hn : n ≤ 1000000) : ∃ w1, (Instr.makeSlice 142 (.int .i64 (n : Int)) (.int .i64 (n : Int))).run Try.prog w = .ok (.slice (some ⟨w.heap.size, 0, none⟩) n n) w1 ∧ Prs w1 w.heap.size n (fun _ => (0, 0)) ∧ Keeps (fun _ => False) w w1 := by
  obtain ⟨i, hi, h1, h2, h3⟩ : ∃ i, Try.prog.info? 141 = some i ∧ i.zero = some (.agg #[.int .i64 0, .int .i64 0]) ∧ i.bytes = 16 ∧ i.size = 2 := ⟨Try.t141, Try.type141, rfl, rfl, rfl⟩
  have hr := run_make (P := Try.prog) w 142 141 i _ Try.underlying142 hi h1 .i64 .i64 n n (by omega) (by omega) (by rw [h2]; omega) (by omega)
  refine ⟨_, by simpa using hr, ⟨_, heap_alloc_new _ _, ?_, ?_⟩, (Keeps.refl _ w).alloc _⟩
  · simp [madeCells, h3]
  · intro j hj
    simp only [madeCells, h3, Value.cells]
    refine ⟨?_, ?_⟩
    · rw [Array.getElem?_map, Array.getElem?_range]
      rw [if_pos (by omega)]
      simp [show (j * 2) % 2 = 0 by omega]
    · rw [Array.getElem?_map, Array.getElem?_range]
      rw [if_pos (by omega)]
      simp [show (j * 2 + 1) % 2 = 1 by omega]
theorem wpList_rows {ops : Array Oper} {rest : List Oper} {op : Oper} {a : Act} {w : World} {Q : Exit → Act → World → Prop} (hgd : op.guard = none) (l c : Operand) (ho : op.op = .makeSlice 142 l c) (n : Nat) (hl : a.eval l = .int .i64 (n : Int)) (hc : a.eval c = .int .i64 (n : Int)) (hn : n ≤ 1000000)
    (h : ∀ g w1, Prs w1 g n (fun _ => (0, 0)) → Keeps (fun _ => False) w w1 → w.heap.size ≤ g → wpList Try.prog ops Q rest (a.put op.dst (.slice (some ⟨g, 0, none⟩) n n)) w1) : wpList Try.prog ops Q (op :: rest) a w :=
  wpList_plain hgd fun _ hK => by
    obtain ⟨w1, hr, hC, hk⟩ := Prs.made w n hn
    unfold Oper.wp execOp
    simp only [ho, hl, hc, hr, Sem.run_bind, Sem.run_pure, Result.andThen_ok]
    exact hK _ _ (h w.heap.size _ hC hk (Nat.le_refl _))
theorem size46 : (Try.prog.info? 141).map (·.size) = some 2 := by kernel_rfl
theorem wpList_row {ops : Array Oper} {rest : List Oper} {op : Oper} {a : Act} {w : World} {Q : Exit → Act → World → Prop} (hgd : op.guard = none) (x y : Operand) (ho : op.op = .store 141 x y) (g i : Nat) (p q : Nat) (hx : a.eval x = .pointer (some ⟨g, i * 2, none⟩)) (hy : a.eval y = .agg #[.int .i64 (p : Int), .int .i64 (q : Int)]) (n : Nat) (f : Nat → Nat × Nat) (hC : Prs w g n f) (hi : i < n)
    (h : ∀ w1, Prs w1 g n (fun j => if j = i then (p, q) else f j) → Keeps (fun k => k = g) w w1 → wpList Try.prog ops Q rest (a.put op.dst undef) w1) : wpList Try.prog ops Q (op :: rest) a w :=
  wpList_store_mid hgd 141 x y ho g (i * 2) #[.int .i64 p, .int .i64 q] hx hy (fun j hj => by
      have hj' : j = 0 ∨ j = 1 := by simp at hj; omega
      rcases hj' with rfl | rfl
      · exact ⟨by rw [Nat.add_zero, hC.fst i hi]; rfl, hC.free _⟩
      · exact ⟨by rw [hC.snd i hi]; rfl, hC.free _⟩) size46 (by simp [Value.oneCell']) (h _ (hC.set i hi p q) (keeps_setCells (S := fun k => k = g) g (fun _ => rfl) _ _ _ (Keeps.refl _ w)))

/-- The rows that are reckoned already. -/
def upTo (l a k : Nat) : Nat → Nat × Nat := fun j => if j < k then rowF l a j else (0, 0)
theorem upTo_next (l a k j : Nat) : (if j = k then (lsR l a k, btR a k) else upTo l a k j) = upTo l a (k + 1) j := by
  unfold upTo
  by_cases h1 : j < k
  · rw [if_neg (by omega), if_pos h1, if_pos (by omega)]
  · by_cases h2 : j = k
    · subst h2; rw [if_pos rfl, if_pos (by omega)]; rfl
    · rw [if_neg h2, if_neg h1, if_neg (by omega)]

set_option maxHeartbeats 4000000 in
set_option maxRecDepth 1000000 in
theorem reckon_ok (n l a : Nat) (w : World) (hn : n ≤ 30) (hl : l ≤ 10) (ha : 2 ≤ a) (ha4 : a ≤ 4) :
    Calls Try.prog 96 #[.int .i64 (n : Int), .int .i64 (l : Int), .int .i64 (a : Int)] w fun e w' => ∃ g, e = .returned (.slice (some ⟨g, 0, none⟩) n n) ∧ Keeps (fun _ => False) w w' ∧ w.heap.size ≤ g ∧ Prs w' g n (rowF l a) := by
  go_enter Try.func96, Try.ntmps96
  go_wp2_with (first
    | (refine wpList_rows rfl _ _ rfl n rfl rfl ?hn ?_; (case hn => omega); intro g w1 hP hK hg))
  have HW : Hid (Prs w1 g n (upTo l a 0) ∧ Keeps (fun _ => False) w w1) := ⟨hP.congr (fun i _ => by simp [upTo]), hK⟩
  have HG : Hid (w.heap.size ≤ g) := hg
  clear hP hK hg
  go_loopw [14, 1] (fun s14 s1 w' => ∃ i : Nat, i ≤ n ∧ s14 = .int .i64 (i : Int) ∧ s1 = .int .i64 (lsR l a i : Int) ∧ Hid (Prs w' g n (upTo l a i) ∧ Keeps (fun _ => False) w w')) (fun s14 s1 w' => ((n : Int) - intOf s14).toNat)
  case atStart => exact ⟨0, by omega, rfl, rfl, HW⟩
  case round =>
    clear HW
    obtain ⟨i, hi, rfl, rfl, HW⟩ := hrel
    by_cases hin : i < n
    · have hiz : (i : Int) < (n : Int) := by omega
      have hls := lsR_le l a ha i (by omega)
      have hb := btR_le a i ha (by omega)
      have hp := pow_small _ hb
      have HN : Hid (lsR l a (i + 1) = lsR l a i + 2 ^ btR a i ∧ ∀ j, (if j = i then (lsR l a i, btR a i) else upTo l a i j) = upTo l a (i + 1) j) := ⟨rfl, upTo_next l a i⟩
      obtain ⟨b, hbe⟩ : ∃ b, btR a i = b := ⟨_, rfl⟩
      obtain ⟨q, hq⟩ : ∃ q, i / a = q := ⟨_, rfl⟩
      have hdz : (i : Int) / (a : Int) = (q : Int) := by rw [← hq]; exact (Int.natCast_ediv i a).symm
      have hbq : q - 1 = b := by rw [← hq]; exact hbe
      rw [hbe] at HN hb hp
      obtain ⟨L, hL⟩ : ∃ L, lsR l a i = L := ⟨_, rfl⟩
      rw [hL] at HN hls
      have hLb : L ≤ 600000 := by omega
      rw [hL]
      clear hbe hls hL hq
      have hpz : ((2 ^ b : Nat) : Int) = (2 : Int) ^ b := by simp
      have h2z : (2 : Int) ^ b ≤ 16384 := by rw [← hpz]; omega
      have h2p : (0 : Int) < (2 : Int) ^ b := by rw [← hpz]; have : 0 < 2 ^ b := Nat.pow_pos (by decide); omega
      clear hpz hp
      obtain rfl | rfl | hq : q = 0 ∨ q = 1 ∨ 1 < q := by omega
      · obtain rfl : b = 0 := by omega
        have hd : (i : Int) / (a : Int) = 0 := hdz
        clear hdz hbq
        go_wp2_with (first
          | (refine wpList_row rfl _ _ rfl g i L 0 rfl rfl n (upTo l a i) HW.out.1 hin ?_; intro w2 hP hK; have HW2 : Hid (Prs w2 g n (fun j => if j = i then (L, 0) else upTo l a i j) ∧ Keeps (fun k => k = g) wr w2) := ⟨hP, hK⟩; clear hP hK))
        go_roundw
        case rel => exact ⟨i + 1, by omega, by push_cast; rfl, by rw [HN.out.1]; push_cast; rfl, HW2.out.1.congr (fun j _ => HN.out.2 j), HW.out.2.trans HW2.out.2 (fun k hk e => by have := HG.out; omega)⟩
        case measure => simp [intOf]; omega
      · obtain rfl : b = 0 := by omega
        have hd : (i : Int) / (a : Int) = 1 := hdz
        clear hdz hbq
        go_wp2_with (first
          | (refine wpList_row rfl _ _ rfl g i L 0 rfl rfl n (upTo l a i) HW.out.1 hin ?_; intro w2 hP hK; have HW2 : Hid (Prs w2 g n (fun j => if j = i then (L, 0) else upTo l a i j) ∧ Keeps (fun k => k = g) wr w2) := ⟨hP, hK⟩; clear hP hK))
        go_roundw
        case rel => exact ⟨i + 1, by omega, by push_cast; rfl, by rw [HN.out.1]; push_cast; rfl, HW2.out.1.congr (fun j _ => HN.out.2 j), HW.out.2.trans HW2.out.2 (fun k hk e => by have := HG.out; omega)⟩
        case measure => simp [intOf]; omega
      · have hd : (i : Int) / (a : Int) = (b : Int) + 1 := by omega
        have hbz : 0 < b := by omega
        have hbw : wrap64 ((L : Int) + 2 ^ b) = (L : Int) + 2 ^ b := by unfold wrap64; omega
        clear hdz hbq hq
        go_wp2_with (first
          | (refine wpList_row rfl _ _ rfl g i L b rfl rfl n (upTo l a i) HW.out.1 hin ?_; intro w2 hP hK; have HW2 : Hid (Prs w2 g n (fun j => if j = i then (L, b) else upTo l a i j) ∧ Keeps (fun k => k = g) wr w2) := ⟨hP, hK⟩; clear hP hK))
        go_roundw
        case rel => exact ⟨i + 1, by omega, by push_cast; rfl, by rw [HN.out.1]; push_cast; rfl, HW2.out.1.congr (fun j _ => HN.out.2 j), HW.out.2.trans HW2.out.2 (fun k hk e => by have := HG.out; omega)⟩
        case measure => simp [intOf]; omega
    · obtain rfl : i = n := by omega
      go_wp2
      go_ret
      exact ⟨g, rfl, HW.out.2, HG.out, HW.out.1.congr (fun j hj => by simp [upTo, hj])⟩

set_option maxHeartbeats 4000000 in
set_option maxRecDepth 1000000 in
theorem dists_ok (w : World) : Calls Try.prog 88 #[] w fun e w' => ∃ g, e = .returned (.slice (some ⟨g, 0, none⟩) 30 30) ∧ Keeps (fun _ => False) w w' ∧ w.heap.size ≤ g ∧ Prs w' g 30 dstF := by
  have HC : Hid (Calls Try.prog 96 #[.int .i64 30, .int .i64 1, .int .i64 2] w fun e w' => ∃ g, e = .returned (.slice (some ⟨g, 0, none⟩) 30 30) ∧ Keeps (fun _ => False) w w' ∧ w.heap.size ≤ g ∧ Prs w' g 30 (rowF 1 2)) := reckon_ok 30 1 2 w (by decide) (by decide) (by decide) (by decide)
  go_enter Try.func88, Try.ntmps88
  go_wp2_with (first
    | (go_at_call 96; refine HC.out.mono ?_; rintro e w1 ⟨g, rfl, hK, hg, hP⟩; have HW : Hid (Keeps (fun _ => False) w w1 ∧ w.heap.size ≤ g ∧ Prs w1 g 30 (rowF 1 2)) := ⟨hK, hg, hP⟩; clear hK hg hP))
  go_ret
  exact ⟨g, rfl, HW.out⟩

set_option maxHeartbeats 4000000 in
set_option maxRecDepth 1000000 in
theorem lengths_ok (w : World) : Calls Try.prog 87 #[] w fun e w' => ∃ g, e = .returned (.slice (some ⟨g, 0, none⟩) 29 29) ∧ Keeps (fun _ => False) w w' ∧ w.heap.size ≤ g ∧ Prs w' g 29 lenF := by
  have HC : Hid (Calls Try.prog 96 #[.int .i64 29, .int .i64 3, .int .i64 4] w fun e w' => ∃ g, e = .returned (.slice (some ⟨g, 0, none⟩) 29 29) ∧ Keeps (fun _ => False) w w' ∧ w.heap.size ≤ g ∧ Prs w' g 29 (rowF 3 4)) := reckon_ok 29 3 4 w (by decide) (by decide) (by decide) (by decide)
  go_enter Try.func87, Try.ntmps87
  go_wp2_with (first
    | (go_at_call 96; refine HC.out.mono ?_; rintro e w1 ⟨g, rfl, hK, hg, hP⟩; have HW : Hid (Keeps (fun _ => False) w w1 ∧ w.heap.size ≤ g ∧ Prs w1 g 29 (rowF 3 4)) := ⟨hK, hg, hP⟩; clear hK hg hP)
    | (refine wpList_row rfl _ _ rfl g 28 258 0 rfl rfl 29 (rowF 3 4) HW.out.2.2 (by decide) ?_; intro w2 hP hK; have HW2 : Hid (Prs w2 g 29 (fun j => if j = 28 then (258, 0) else rowF 3 4 j) ∧ Keeps (fun k => k = g) w1 w2) := ⟨hP, hK⟩; clear hP hK))
  go_ret
  exact ⟨g, rfl, HW.out.1.trans HW2.out.2 (fun k hk e => by have := HW.out.2.1; omega), HW.out.2.1, HW2.out.1⟩

end Go.Proofs.Ytdbfbijalhknnaa.Tb

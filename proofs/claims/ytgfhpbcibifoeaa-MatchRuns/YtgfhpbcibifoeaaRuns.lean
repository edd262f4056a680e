/-
  A run of one byte is that byte and copies of it from one byte back: MatchRuns.
-/
import Derived.Test.YtgfhpbcibifoeaaAwake
namespace Go.Proofs.Ytgfhpbcibifoeaa
open Go.RowKit
set_option linter.unusedVariables false
set_option linter.unusedSimpArgs false

/-! ### Tokens of a run -/
def runY (k c : Nat) : List Nat := List.replicate k c
theorem yb_run (k c i : Nat) (h : i < k) : yb (runY k c) i = c := by
  unfold runY
  rw [yb_eq i (by simpa using h)]; simp
theorem alk_run (k c p j : Nat) (hj : j < p) (hp : p < k) : alk (runY k c) p j = min (k - p) 258 := by
  have hl : (runY k c).length = k := by simp [runY]
  unfold alk
  rw [hl]
  apply lead_eq (Nat.le_refl _) _ (.inl rfl)
  intro i hi
  unfold alkF
  rw [yb_run k c (p + i) (by omega), yb_run k c (j + i) (by omega)]
  exact beq_self_eq_true _
theorem best_run (k c p : Nat) (hp : p < k) : ∀ d, d + 1 ≤ p → best (runY k c) p (d + 1) = if 3 ≤ min (k - p) 258 then (min (k - p) 258, 1) else (0, 0)
  | 0, hd => by
    have hb0 : best (runY k c) p 0 = (0, 0) := rfl
    rw [best_next, hb0, alk_run k c p _ (by omega) hp]
    by_cases h : 3 ≤ min (k - p) 258
    · rw [if_pos ⟨h, by show 0 < _; omega⟩, if_pos h]
    · rw [if_neg (fun e => h e.1), if_neg h]
  | d + 1, hd => by
    have ih := best_run k c p hp d (by omega)
    rw [best_next, ih, alk_run k c p _ (by omega) hp]
    by_cases h : 3 ≤ min (k - p) 258
    · rw [if_pos h, if_neg (fun e => by have := e.2; simp only at this; omega)]
    · rw [if_neg h, if_neg (fun e => h e.1)]
theorem tok_run0 (k c : Nat) (h : 0 < k) : tok (runY k c) 0 = ((c : Int), 0, 0) ∧ szN (runY k c) 0 = 1 := by
  unfold tok szN tokB
  simp only [best]
  rw [yb_run k c 0 h]
  simp
theorem tok_run (k c p : Nat) (h0 : 0 < p) (hp : p < k) : tok (runY k c) p = (if 3 ≤ min (k - p) 258 then (0, ((min (k - p) 258 : Nat) : Int), 1) else ((c : Int), 0, 0)) ∧ szN (runY k c) p = if 3 ≤ min (k - p) 258 then min (k - p) 258 else 1 := by
  have hb := best_run k c p hp (p - 1) (by omega)
  rw [show p - 1 + 1 = p by omega] at hb
  unfold tok szN tokB
  rw [hb, yb_run k c p hp]
  generalize min (k - p) 258 = M
  by_cases h : 3 ≤ M
  · have h0 : ¬ M = 0 := by omega
    simp [h, h0]
  · simp [h]

/-! ### Bytes made and written -/
theorem OwnB.made (w : World) (n : Nat) (hn : n ≤ 1000000) : ∃ w1, (Instr.makeSlice 44 (.int .i64 (n : Int)) (.int .i64 (n : Int))).run Try.prog w = .ok (.slice (some ⟨w.heap.size, 0, none⟩) n n) w1 ∧ OwnB w1 w.heap.size (.slice (some ⟨w.heap.size, 0, none⟩) n n) (List.replicate n 0) ∧ Keeps (fun _ => False) w w1 := by
  obtain ⟨i, hi, h1, h2, h3⟩ : ∃ i, Try.prog.info? 5 = some i ∧ i.zero = some (.int .u8 0) ∧ i.bytes = 1 ∧ i.size = 1 := ⟨Try.t5, Try.type5, rfl, rfl, rfl⟩
  have hr := run_make (P := Try.prog) w 44 5 i _ Try.underlying44 hi h1 .i64 .i64 n n (by omega) (by omega) (by rw [h2]; omega) (by omega)
  refine ⟨_, by simpa using hr, ?_, (Keeps.refl _ w).alloc _⟩
  refine ⟨by simp, .inr ⟨_, _, _, by simp; rfl, Nat.le_refl _, heap_alloc_new _ _, by simp, by unfold maxLen; omega, by simp [madeCells, h3], ?_⟩⟩
  apply List.ext_getElem?
  intro j
  simp only [madeCells, h3, Value.cells]
  rw [List.getElem?_take]
  by_cases hj : j < n
  · rw [if_pos (by simp; omega), Array.getElem?_toList, Array.getElem?_map, Array.getElem?_range, if_pos (by omega)]; simp [hj, Nat.mod_one, byteV]
  · rw [if_neg (by simp; omega)]; simp [hj]
theorem wpList_bytes {ops : Array Oper} {rest : List Oper} {op : Oper} {a : Act} {w : World} {Q : Exit → Act → World → Prop} (hgd : op.guard = none) (l c : Operand) (ho : op.op = .makeSlice 44 l c) (n : Nat) (hl : a.eval l = .int .i64 (n : Int)) (hc : a.eval c = .int .i64 (n : Int)) (hn : n ≤ 1000000)
    (h : ∀ g w1, OwnB w1 g (.slice (some ⟨g, 0, none⟩) n n) (List.replicate n 0) → Keeps (fun _ => False) w w1 → w.heap.size ≤ g → wpList Try.prog ops Q rest (a.put op.dst (.slice (some ⟨g, 0, none⟩) n n)) w1) : wpList Try.prog ops Q (op :: rest) a w :=
  wpList_plain hgd fun _ hK => by
    obtain ⟨w1, hr, hC, hk⟩ := OwnB.made w n hn
    unfold Oper.wp execOp
    simp only [ho, hl, hc, hr, Sem.run_bind, Sem.run_pure, Result.andThen_ok]
    exact hK _ _ (h w.heap.size _ hC hk (Nat.le_refl _))
/-- A block of k bytes, the first i of them c. -/
def Fill (w : World) (g k c i : Nat) : Prop := ∃ xs : List Nat, xs.length = k ∧ OwnB w g (.slice (some ⟨g, 0, none⟩) k k) xs ∧ ∀ j, j < i → yb xs j = c
theorem Fill.cell {w : World} {g k c i : Nat} (h : Fill w g k c i) (j : Nat) (hj : j < k) : (∃ x : Nat, w.cell? ⟨g, j, none⟩ = some (.int .u8 (x : Int))) ∧ w.frozen? ⟨g, j, none⟩ = false := by
  obtain ⟨xs, hl, ho, _⟩ := h
  have hu : (xs.map byteV)[j]? = some (byteV (yb xs j)) := by rw [List.getElem?_map, List.getElem?_eq_getElem (by omega), yb_eq j (by omega)]; rfl
  unfold OwnB at ho
  rw [hl] at ho
  obtain ⟨h1, h2⟩ := owns_cell ho j _ hu
  exact ⟨⟨_, h1⟩, h2⟩
theorem Fill.next {w : World} {g k c i : Nat} (h : Fill w g k c i) (hi : i < k) : Fill (w.setCell ⟨g, i, none⟩ (.int .u8 (c : Int))) g k c (i + 1) := by
  obtain ⟨xs, hl, ho, hy⟩ := h
  refine ⟨xs.set i c, by simpa using hl, ?_, fun j hj => ?_⟩
  · unfold OwnB at ho ⊢
    rw [hl] at ho
    have := owns_set ho i (.int .u8 (c : Int))
    rw [List.length_set, hl, List.map_set]
    exact this
  · have hjl : j < (xs.set i c).length := by rw [List.length_set]; omega
    rw [yb_eq j hjl, List.getElem_set]
    by_cases e : i = j
    · rw [if_pos e]
    · rw [if_neg e, ← yb_eq j (by omega)]; exact hy j (by omega)
theorem Fill.all {w : World} {g k c : Nat} (h : Fill w g k c k) : OwnB w g (.slice (some ⟨g, 0, none⟩) k k) (runY k c) := by
  obtain ⟨xs, hl, ho, hy⟩ := h
  have e : xs = runY k c := by
    apply List.ext_getElem (by simp [runY, hl])
    intro j h1 h2
    rw [← yb_eq j h1, hy j (by omega)]; simp [runY]
  rw [← e]; exact ho

/-- What the second loop holds: the first i tokens of the run. -/
def Want (w0 w : World) (v : Value) (k c i p : Nat) : Prop := p = step (runY k c) i ∧ p ≤ k ∧ (0 < p ∨ k = 0) ∧ OwnK w w0.heap.size v (toksN (runY k c) i) ∧ Keeps (fun _ => False) w0 w
theorem Want.i {w0 w : World} {v : Value} {k c i p : Nat} (h : Want w0 w v k c i p) : i ≤ k := by
  have := step_grow (runY k c) 0 i
  simp only [Nat.zero_add] at this
  have := h.1
  have := h.2.1
  omega
theorem Want.next {w0 w w1 : World} {v v' : Value} {k c i p m : Nat} {t : Tk} {o : Obj} (h : Want w0 w v k c i p) (ht : tok (runY k c) p = t) (hm : szN (runY k c) p = m) (hp : p + m ≤ k) (h1 : 1 ≤ m) (hO : OwnK w1 w0.heap.size v' (toksN (runY k c) i ++ [t])) (hG : (w.alloc o).grownBy w1 v.ownBlock) : Want w0 w1 v' k c (i + 1) (p + m) := by
  obtain ⟨e, _, _, hO0, hk⟩ := h
  refine ⟨?_, hp, .inl (by omega), ?_, (hk.alloc o).grown hG (fun b hb e => by have := (World.ownsRow.lt hO0 b e).1; omega)⟩
  · show p + m = step (runY k c) i + szN (runY k c) (step (runY k c) i)
    rw [← e, hm]
  · show OwnK w1 w0.heap.size v' (toksN (runY k c) i ++ [tok (runY k c) (step (runY k c) i)])
    rw [← e, ht]; exact hO

set_option maxHeartbeats 4000000 in
set_option maxRecDepth 1000000 in
theorem runs_walk (b many : Int) (w : World) : Calls Try.prog 6 #[.int .i64 b, .int .i64 many] w fun e w' => e = .returned (.bool true) ∧ Keeps (fun _ => False) w w' := by
  obtain ⟨k, hk, hk300⟩ : ∃ k : Nat, (IntKind.u64.wrap many).tmod 301 = (k : Int) ∧ k ≤ 300 := by
    have e : IntKind.u64.wrap many = many % 18446744073709551616 := by simp [IntKind.wrap, IntKind.bits, IntKind.signed]
    rw [e, Int.tmod_eq_emod_of_nonneg (by omega)]
    exact ⟨(many % 18446744073709551616 % 301).toNat, by omega, by omega⟩
  obtain ⟨c, hc, hc256⟩ : ∃ c : Nat, b % 256 = (c : Int) ∧ c < 256 := ⟨(b % 256).toNat, by omega, by omega⟩
  have hand : bits .and .i64 b 255 = (c : Int) := by
    have := i64_and_mask b 8 (by omega)
    rw [← hc]; exact this
  go_enter Try.func6, Try.ntmps6
  go_wp2_with (first
    | (go_at_call 19; refine (awake_ok _).mono ?_; rintro e w1 ⟨rfl, hK1⟩; have HK1 : Hid (Keeps (fun _ => False) w w1) := hK1; clear hK1)
    | (refine wpList_bytes rfl _ _ rfl k rfl rfl ?hn ?_; (case hn => omega); intro g w2 hO2 hK2 hg2))
  have HF : Hid (Fill w2 g k c 0 ∧ Keeps (fun _ => False) w w2 ∧ w.heap.size ≤ g) := ⟨⟨_, by simp, hO2, fun j hj => absurd hj (by omega)⟩, HK1.out.trans hK2 (fun _ _ h => h), by have := HK1.out.size; omega⟩
  clear hO2 hK2 hg2 HK1 hk
  go_loopw [7] (fun s7 w' => ∃ i : Nat, i ≤ k ∧ s7 = .int .i64 (i : Int) ∧ Hid (Fill w' g k c i ∧ Keeps (fun _ => False) w w' ∧ w.heap.size ≤ g)) (fun s7 w' => ((k : Int) - intOf s7).toNat)
  case atStart => exact ⟨0, by omega, rfl, HF⟩
  case round =>
    clear HF
    obtain ⟨i, hi, rfl, HF⟩ := hrel
    by_cases hin : i < k
    · have hiz : (i : Int) < (k : Int) := by omega
      obtain ⟨⟨x, hx⟩, hf⟩ := HF.out.1.cell i hin
      go_wp2
      go_roundw
      case rel => exact ⟨i + 1, by omega, by push_cast; rfl, HF.out.1.next hin, HF.out.2.1.setCell (fun h => by have := HF.out.2.2; exact absurd h (by show ¬ g < _; omega)) _, HF.out.2.2⟩
      case measure => simp [intOf]; omega
    · obtain rfl : i = k := by omega
      have hb : bytesOf (textOf (runY i c)) = runY i c := bytesOf_text _ (fun y hy => by simp [runY] at hy; omega)
      have hcv := HF.out.1.all.text Try.underlying44 (fun y hy => by simp [runY] at hy; omega)
      have hsz : (textOf (runY i c)).size = i := by rw [textOf_size]; simp [runY]
      have HT : Hid (∀ w', Calls Try.prog 9 #[.string (textOf (runY i c))] w' fun e w'' => ∃ K a cap, e = .returned (.tuple #[.slice a K cap, .int .i64 0]) ∧ step (runY i c) K = i ∧ RowT w'' a (toksN (runY i c) K) ∧ K ≤ i ∧ Keeps (fun _ => False) w' w'') := fun w' => by
        refine (tokens_row (textOf (runY i c)) w' (by omega)).mono ?_
        rintro e w'' ⟨K, a, cap, rfl, h1, h2, _, h4, h5⟩
        rw [hb] at h1 h2
        rw [hsz] at h1 h4
        exact ⟨K, a, cap, rfl, h1, h2, h4, h5⟩
      have HK : Hid (Keeps (fun _ => False) w wr) := HF.out.2.1
      clear hb hsz HF
      generalize textOf (runY i c) = tx at *
      by_cases hk0 : i = 0
      · subst hk0
        go_wp2_with (first
          | (go_at_call 9; refine (HT.out _).mono ?_; rintro e w3 ⟨K, a, cap, rfl, hKs, hR3, hKl, hK3⟩; obtain rfl : K = 0 := (by omega); have HK3 : Hid (Keeps (fun _ => False) w w3) := HK.out.trans hK3 (fun _ _ h => h); clear hKs hK3))
        go_loopw [10, 11] (fun s10 s11 w' => s10 = .slice none 0 0 ∧ s11 = .int .i64 0 ∧ w' = w3) (fun s10 s11 w' => 0)
        case atStart => exact ⟨rfl, rfl, rfl⟩
        case round =>
          obtain ⟨rfl, rfl, rfl⟩ := hrel
          go_wp2_with (first
            | (go_at_call 14; refine (num_any _ _).mono ?_; rintro e w' ⟨rfl, hw⟩; obtain rfl := hw.symm; clear hw)
            | (go_at_call 13; refine (sameT_yes a none [] cap 0 _ (.inl rfl) (.inl rfl) (by simp)).mono ?_; rintro e w4 ⟨rfl, hK4⟩))
          go_ret
          exact ⟨rfl, HK3.out.trans hK4 (fun _ _ h => h)⟩
      · have hk0z : (0 : Int) < (i : Int) := by omega
        obtain ⟨t0, m0⟩ := tok_run0 i c (by omega)
        have HT0 : Hid (tok (runY i c) 0 = ((c : Int), 0, 0) ∧ szN (runY i c) 0 = 1) := ⟨t0, m0⟩
        clear t0 m0
        go_wp2_with (first
          | (go_at_call 9; refine (HT.out _).mono ?_; rintro e w3 ⟨K, a, cap, rfl, hKs, hR3, hKl, hK3⟩; have HR3 : Hid (step (runY i c) K = i ∧ RowT w3 a (toksN (runY i c) K)) := ⟨hKs, hR3⟩; have HK3 : Hid (Keeps (fun _ => False) w w3) := HK.out.trans hK3 (fun _ _ h => h); clear hKs hR3 hK3)
          | (refine wpList_tok rfl _ _ rfl rfl w3.heap.size (.slice none 0 0) [] rfl (OwnK.nil _ _) w3.heap.size ((c : Int), 0, 0) rfl ?hR ?hb ?hn ?_; (case hR => exact (Tkb.new _ ((c : Int), 0, 0)).at); (case hb => simp); (case hn => simp); intro g1 c1 w4 hO4 hG4 hg4))
        have HW : Hid (Want w3 w4 (.slice (some ⟨g1, 0, none⟩) 1 c1) i c 1 1) := by
          refine ⟨?_, by omega, .inl (by omega), ?_, ((Keeps.refl _ w3).alloc _).grown hG4 (fun _ _ e => by simp [Value.ownBlock] at e)⟩
          · show 1 = 0 + szN (runY i c) 0
            rw [HT0.out.2]
          · show OwnK w4 w3.heap.size _ ([] ++ [tok (runY i c) 0])
            rw [HT0.out.1]; exact hO4
        clear hO4 hG4 hg4 HT hcv
        go_loopw [10, 11] (fun s10 s11 w' => ∃ (q p : Nat) (v : Value), s10 = v ∧ p ≤ i ∧ s11 = .int .i64 ((i : Int) - (p : Int)) ∧ Hid (Want w3 w' v i c q p)) (fun s10 s11 w' => (intOf s11).toNat)
        case atStart => exact ⟨1, 1, _, rfl, by omega, by push_cast; rfl, HW⟩
        case round =>
          clear HW
          obtain ⟨q, p, v, hv, hp, rfl, HW⟩ := hrel
          obtain rfl := hv.symm
          clear hv
          by_cases hpi : p < i
          · have hpz : (0 : Int) < (i : Int) - (p : Int) := by omega
            obtain ⟨t1, m1⟩ := tok_run i c p (by rcases HW.out.2.2.1 with h | h <;> omega) hpi
            obtain ⟨M, hM⟩ : ∃ M, min (i - p) 258 = M := ⟨_, rfl⟩
            have hmin : (if 258 < (i : Int) - (p : Int) then (258 : Int) else (i : Int) - (p : Int)) = (M : Int) := by split <;> omega
            have hM1 : M ≤ i - p := by omega
            have hM2 : 1 ≤ M := by omega
            have hM3 : M ≤ 258 := by omega
            rw [hM] at t1 m1
            clear hM
            by_cases h3 : 3 ≤ M
            · have h3z : ¬ (M : Int) < 3 := by omega
              rw [if_pos h3] at t1 m1
              have HT1 : Hid (tok (runY i c) p = (0, (M : Int), 1) ∧ szN (runY i c) p = M) := ⟨t1, m1⟩
              clear t1 m1
              go_wp2_with (first
                | (refine wpList_tok rfl _ _ rfl rfl w3.heap.size v (toksN (runY i c) q) rfl ?hown wr.heap.size (0, (M : Int), 1) rfl ?hR ?hb ?hn ?_; (case hown => exact HW.out.2.2.2.1.keptF ((Keeps.refl _ _).alloc _)); (case hR => exact (Tkb.new _ (0, (M : Int), 1)).at); (case hb => exact (HW.out.2.2.2.2.alloc _).size); (case hn => rw [toksN_len]; have := HW.out.i; omega); intro g4 c4 w5 hO5 hG5 hg5; have HW5 : Hid (Want w3 w5 (.slice (some ⟨g4, 0, none⟩) ((toksN (runY i c) q).length + 1) c4) i c (q + 1) (p + M)) := HW.out.next HT1.out.1 HT1.out.2 (by omega) hM2 hO5 hG5; clear hO5 hG5 hg5))
              go_roundw
              case rel => exact ⟨q + 1, p + M, _, rfl, by omega, by congr 1; omega, HW5⟩
              case measure => simp [intOf]; omega
            · have h3z : (M : Int) < 3 := by omega
              rw [if_neg h3] at t1 m1
              have HT1 : Hid (tok (runY i c) p = ((c : Int), 0, 0) ∧ szN (runY i c) p = 1) := ⟨t1, m1⟩
              clear t1 m1
              go_wp2_with (first
                | (refine wpList_tok rfl _ _ rfl rfl w3.heap.size v (toksN (runY i c) q) rfl ?hown wr.heap.size ((c : Int), 0, 0) rfl ?hR ?hb ?hn ?_; (case hown => exact HW.out.2.2.2.1.keptF ((Keeps.refl _ _).alloc _)); (case hR => exact (Tkb.new _ ((c : Int), 0, 0)).at); (case hb => exact (HW.out.2.2.2.2.alloc _).size); (case hn => rw [toksN_len]; have := HW.out.i; omega); intro g4 c4 w5 hO5 hG5 hg5; have HW5 : Hid (Want w3 w5 (.slice (some ⟨g4, 0, none⟩) ((toksN (runY i c) q).length + 1) c4) i c (q + 1) (p + 1)) := HW.out.next HT1.out.1 HT1.out.2 (by omega) (by omega) hO5 hG5; clear hO5 hG5 hg5))
              go_roundw
              case rel => exact ⟨q + 1, p + 1, _, rfl, by omega, by congr 1; omega, HW5⟩
              case measure => simp [intOf]; omega
          · obtain rfl : p = i := by omega
            obtain ⟨a', cap', rfl, hR', _⟩ := HW.out.2.2.2.1.row
            obtain rfl : q = K := step_uniq (runY p c) q K (by rw [← HW.out.1]; simp [runY]) (by rw [HR3.out.1]; simp [runY])
            rw [toksN_len]
            have HS : Hid (Calls Try.prog 13 #[.slice a q cap, .slice a' q cap'] wr fun e w' => e = .returned (.bool true) ∧ Keeps (fun _ => False) wr w') := by
              have := sameT_yes a a' (toksN (runY p c) q) cap cap' wr (HR3.out.2.keptF HW.out.2.2.2.2) hR' (by rw [toksN_len]; omega)
              rw [toksN_len] at this; exact this
            have hpz : ¬ (0 : Int) < (p : Int) - (p : Int) := by omega
            go_wp2_with (first
              | (go_at_call 14; refine (num_any _ _).mono ?_; rintro e w' ⟨rfl, hw⟩; obtain rfl := hw.symm; clear hw)
              | (go_at_call 13; refine HS.out.mono ?_; rintro e w4 ⟨rfl, hK4⟩))
            go_ret
            exact ⟨rfl, (HK3.out.trans HW.out.2.2.2.2 (fun _ _ h => h)).trans hK4 (fun _ _ h => h)⟩
theorem runs_below (b many : Int) (w : World) (h0 : (Lit.int .i64 b).wf = true) (h1 : (Lit.int .i64 many).wf = true) : Calls Try.prog 6 #[.int .i64 b, .int .i64 many] w fun e w' => e = .returned (.bool true) ∧ Below w.heap.size w w' := by
  refine (runs_walk b many w).mono ?_
  rintro e w' ⟨rfl, hk⟩
  exact ⟨rfl, hk.below _ (Nat.le_refl _) (fun _ h => h.elim)⟩

end Go.Proofs.Ytgfhpbcibifoeaa

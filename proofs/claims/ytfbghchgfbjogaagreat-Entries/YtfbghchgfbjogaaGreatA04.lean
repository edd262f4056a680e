/-
  Rows laid one behind the other, and the lengths of the fixed codes. What add puts into a writer: one bit behind the others, for every writer with fewer than 65536 bits. Small contracts: New, Of, Num, wholeBytes, Len and At of package bits, for every world. Put, Code, Align, Len and Text of a writer, for every input. Lengths, what room they take, their codes: plain numbers, no program in sight. Arrays of sixteen numbers in a block of their own, and rows of numbers that a slice shows. What room counts take, and each length's first code.
-/
import Derived.Test.YtfbghchgfbjogaaGreatRows
import Derived.Test.YtfbghchgfbjogaaGreatA03
import Derived.Lib.AppendZeros
import Derived.Deep.AppendLies
import Derived.WalkKit
import Derived.WalkSpells
import Derived.WalkLawsBesides
import Derived.BigRegion
import Derived.Deep.MidRow
import Derived.Laws.ResultCell
namespace Go.Proofs.YtfbghchgfbjogaaGreat.Tb
open Go.RowKit
set_option linter.unusedVariables false
set_option linter.unusedSimpArgs false

/-- A row of ints that a call owns. -/
def Own (w : World) (base : Nat) (v : Value) (xs : List Int) : Prop := w.ownsRow base 3 1 v xs.length (intsV xs)
theorem owns_heap1 {w w' : World} {base : Nat} {e : TypeId} {size : Nat} {v : Value} {n : Nat} {xs : List Value} (h : w.ownsRow base e size v n xs) (hk : ∀ k, v.ownBlock = some k → w'.heap[k]? = w.heap[k]?) : w'.ownsRow base e size v n xs := by
  obtain ⟨h1, h2⟩ := h
  refine ⟨h1, ?_⟩
  rcases h2 with h2 | ⟨g, cap, cur, hv, hg, hh, r⟩
  · exact Or.inl h2
  · subst hv
    exact Or.inr ⟨g, cap, cur, rfl, hg, by rw [hk g rfl]; exact hh, r⟩
theorem Own.kept {S : Nat → Prop} {w w' : World} {base : Nat} {v : Value} {xs : List Int} (h : Own w base v xs) (hk : Keeps S w w') (hb : ∀ k, v.ownBlock = some k → ¬ S k) : Own w' base v xs :=
  owns_heap1 h (fun k e => hk.block k (World.ownsRow.lt h k e).2 (hb k e))
theorem Own.keptF {w w' : World} {base : Nat} {v : Value} {xs : List Int} (h : Own w base v xs) (hk : Keeps (fun _ => False) w w') : Own w' base v xs := h.kept hk (fun _ _ h => h)
set_option maxRecDepth 1000000 in
theorem Own.append {w : World} {base : Nat} {v : Value} {xs : List Int} (h : Own w base v xs) (g cap : Nat) (ys : List Int) (hB : Blk w g ys) (hb : base ≤ w.heap.size) (hn : xs.length + ys.length ≤ 1000000) :
    ∃ v' w', (Builtin.append_ #[22, 22] 22 #[v, .slice (some ⟨g, 0, none⟩) ys.length cap]).run Tryz.prog w = .ok v' w' ∧ Own w' base v' (xs ++ ys) ∧ w.grownBy w' v.ownBlock := by
  obtain ⟨i, hi, h1, h2, h3⟩ : ∃ i, Tryz.prog.info? 3 = some i ∧ i.zero = some (.int .i64 0) ∧ i.bytes = 8 ∧ i.size = 1 := ⟨Tryz.t3, Tryz.type3, rfl, rfl, rfl⟩
  obtain ⟨v', w', hr, ho, hg, _⟩ := run_append_own (P := Tryz.prog) w base 22 22 3 i (.int .i64 0) 1 8 Tryz.underlying22 hi h1 h3 h2 rfl (by decide) v xs.length (intsV xs) h ⟨g, 0, none⟩ ys.length cap (intsV ys) (by simp [intsV]) (fun j u hu => by
      have hj : j < ys.length := by have := (List.getElem?_eq_some_iff.1 hu).1; simpa [intsV] using this
      rw [Addr.add_mid, Nat.zero_add, hB.cell j hj, ← hu]
      simp [intsV, hj]) (intsV_one ys) (by unfold maxLen; omega) (by omega) hb
  refine ⟨v', w', hr, ?_, hg⟩
  unfold Own
  rw [List.length_append, intsV_append]
  exact ho
theorem wpList_join {ops : Array Oper} {rest : List Oper} {o : Oper} {a : Act} {w : World} {Q : Exit → Act → World → Prop} (hgd : o.guard = none) (s x : Operand) (ho : o.op = .call { callee := .builtin .append, args := #[s, x], argTypes := #[22, 22] }) (hty : o.type = 22)
    (base : Nat) (v : Value) (xs : List Int) (hs : a.eval s = v) (hown : Own w base v xs) (g n cap : Nat) (ys : List Int) (hx : a.eval x = .slice (some ⟨g, 0, none⟩) n cap) (hyn : ys.length = n) (hB : Blk w g ys) (hb : base ≤ w.heap.size) (hn : xs.length + ys.length ≤ 1000000)
    (h : ∀ v' w', Own w' base v' (xs ++ ys) → w.grownBy w' v.ownBlock → wpList Tryz.prog ops Q rest (a.put o.dst v') w') : wpList Tryz.prog ops Q (o :: rest) a w :=
  wpList_plain hgd fun _ hK => by
    subst hyn
    obtain ⟨v', w', hr, h2, h3⟩ := hown.append g cap ys hB hb hn
    unfold Oper.wp execOp
    simp only [ho, hty, resolve, invoke, builtin, Sem.run_bind, Sem.run_pure, Result.andThen_ok, List.map_toArray, List.map_cons, List.map_nil, hs, hx, hr]
    exact hK _ _ (h v' w' h2 h3)
theorem Own.grown {w w0 w' : World} {base : Nat} {v : Value} {xs : List Int} (h : Own w base v xs) (hk : Keeps (fun _ => False) w0 w) (hg : w.grownBy w' v.ownBlock) (hb : w0.heap.size ≤ base) : Keeps (fun _ => False) w0 w' :=
  hk.grown hg (fun k hk e => by have := (World.ownsRow.lt h k e).1; omega)

theorem owns_down {w : World} {base base' : Nat} {v : Value} {xs : List Int} (h : Own w base v xs) (hb : base' ≤ base) : Own w base' v xs := by
  refine ⟨h.1, ?_⟩
  rcases h.2 with h2 | ⟨g, cap, cur, hv, hg, r⟩
  · exact .inl h2
  · exact .inr ⟨g, cap, cur, hv, by omega, r⟩

set_option maxRecDepth 1000000 in
theorem run_zeros (w : World) (ty : TypeId) (n : Nat) (h1 : 1 ≤ n) (hn : n ≤ 1000000) : ∃ cap cur, (Builtin.append_ #[22, 3] ty #[.slice none 0 0, .int .i64 (n : Int)]).run Tryz.prog w = .ok (.slice (some ⟨w.heap.size, 0, none⟩) n cap) (w.drew.alloc (.cells cur 3)) ∧ cur.size = cap ∧ cap ≤ maxLen := by
  obtain ⟨i, hi, e1, e2, e3⟩ : ∃ i, Tryz.prog.info? 3 = some i ∧ i.zero = some (.int .i64 0) ∧ i.bytes = 8 ∧ i.size = 1 := ⟨Tryz.t3, Tryz.type3, rfl, rfl, rfl⟩
  have hr := Lib.run_append_nil_zeros (P := Tryz.prog) w 22 3 ty 3 i (.int .i64 0) .i64 .i64 Tryz.underlying22 Tryz.underlying3 hi e1 n (by omega) (by omega) (by omega) (by rw [e2]; omega)
  have hg := grownCap_ge w n 0 3
  refine ⟨_, _, hr, ?_, grownCap_le_maxLen w n 0 3 (by unfold maxLen; omega)⟩
  simp [Builtin.zeroCells, Value.cells]
  omega

set_option maxHeartbeats 4000000 in
set_option maxRecDepth 1000000 in
theorem grow_ok (n : Nat) (w : World) (h1 : 1 ≤ n) (hn : n ≤ 1000) :
    Calls Tryz.prog 138 #[.slice none 0 0, .int .i64 (n : Int)] w fun e w' => ∃ v, e = .returned v ∧ Own w' w.heap.size v [] ∧ Keeps (fun _ => False) w w' := by
  obtain ⟨cap, cur, hr, hcs, hcm⟩ := run_zeros w 22 n h1 (by omega)
  have HR : Hid ((Builtin.append_ #[22, 3] 22 #[.slice none 0 0, .int .i64 (n : Int)]).run Tryz.prog w = .ok (.slice (some ⟨w.heap.size, 0, none⟩) n cap) (w.drew.alloc (.cells cur 3))) := hr
  have HC : Hid (cur.size = cap ∧ cap ≤ maxLen) := ⟨hcs, hcm⟩
  clear hr hcs hcm
  have hz : ¬ ((n : Int) < 0) := by omega
  have hz1 : (0 : Int) < (n : Int) := by omega
  go_enter Tryz.func138, Tryz.ntmps138
  go_wp2_with (at_builtin; refine Lib.wpList_append_run _ rfl _ _ _ _ rfl _ _ rfl rfl _ _ HR.out ?_)
  go_ret
  refine ⟨_, rfl, ⟨rfl, .inr ⟨w.heap.size, cap, cur, rfl, Nat.le_refl _, heap_alloc_new _ _, Nat.zero_le _, HC.out.2, by rw [HC.out.1]; omega, rfl⟩⟩, ((Keeps.refl _ w).alloc _).drew⟩

/-- A row among rows: its block, and what it holds. -/
abbrev Rw := Nat × List Int
def rwV (r : Rw) : Value := .slice (some ⟨r.1, 0, none⟩) r.2.length r.2.length
def tot (rs : List Rw) (i : Nat) : Nat := ((rs.take i).map (fun r => r.2.length)).sum
def cat (rs : List Rw) (i : Nat) : List Int := (rs.take i).flatMap (fun r => r.2)
theorem cat_length (rs : List Rw) (i : Nat) : (cat rs i).length = tot rs i := by simp [cat, tot, List.length_flatMap]
theorem take_snocR (rs : List Rw) (i : Nat) (h : i < rs.length) : rs.take (i + 1) = rs.take i ++ [rs[i]] := by rw [List.take_add_one, List.getElem?_eq_getElem h]; rfl
theorem tot_next (rs : List Rw) (i : Nat) (h : i < rs.length) : tot rs (i + 1) = tot rs i + (rs[i]).2.length := by unfold tot; rw [take_snocR rs i h, List.map_append, List.sum_append]; rfl
theorem cat_next (rs : List Rw) (i : Nat) (h : i < rs.length) : cat rs (i + 1) = cat rs i ++ (rs[i]).2 := by unfold cat; rw [take_snocR rs i h, List.flatMap_append, List.flatMap_cons, List.flatMap_nil, List.append_nil]
theorem tot_le (rs : List Rw) : ∀ i j, i ≤ j → tot rs i ≤ tot rs j := by
  intro i j h
  induction j with
  | zero => obtain rfl : i = 0 := by omega
            exact Nat.le_refl _
  | succ j ih =>
    by_cases e : i = j + 1
    · rw [e]; exact Nat.le_refl _
    · by_cases hj : j < rs.length
      · rw [tot_next rs j hj]; have := ih (by omega); omega
      · have e1 : tot rs (j + 1) = tot rs j := by unfold tot; rw [List.take_of_length_le (by omega), List.take_of_length_le (by omega)]
        rw [e1]; exact ih (by omega)
/-- Block b is a row of rows. -/
def Sls (w : World) (b : Nat) (rs : List Rw) : Prop := w.heap[b]? = some (.cells (rs.map rwV).toArray 22 (0, 0)) ∧ ∀ r ∈ rs, Blk w r.1 r.2
theorem Sls.lt {w : World} {b : Nat} {rs : List Rw} (h : Sls w b rs) : b < w.heap.size := lt_of_heap h.1
theorem Sls.keptF {w w' : World} {b : Nat} {rs : List Rw} (h : Sls w b rs) (hk : Keeps (fun _ => False) w w') : Sls w' b rs :=
  ⟨(hk.block b h.lt (fun h => h)).trans h.1, fun r hr => (h.2 r hr).keptF hk⟩
theorem Sls.cell {w : World} {b : Nat} {rs : List Rw} (h : Sls w b rs) (i : Nat) (hi : i < rs.length) : w.cell? ⟨b, i, none⟩ = some (.slice (some ⟨(rs[i]).1, 0, none⟩) (rs[i]).2.length (rs[i]).2.length) :=
  cell_of_heap h.1 (by rw [List.getElem?_toArray, List.getElem?_map, List.getElem?_eq_getElem hi]; rfl)

set_option maxHeartbeats 4000000 in
set_option maxRecDepth 1000000 in
theorem concat_ok (b n : Nat) (rs : List Rw) (w : World) (hS : Sls w b rs) (hl : rs.length = n) (hn : n ≤ 1000) (ht : tot rs n ≤ 1000) (ht1 : 1 ≤ tot rs n) :
    Calls Tryz.prog 127 #[.slice (some ⟨b, 0, none⟩) n n] w fun e w' => ∃ v, e = .returned v ∧ Own w' w.heap.size v (cat rs n) ∧ Keeps (fun _ => False) w w' := by
  have HS : Hid (Sls w b rs ∧ rs.length = n) := ⟨hS, hl⟩
  have HG : Hid (∀ w, Calls Tryz.prog 138 #[.slice none 0 0, .int .i64 (tot rs n : Int)] w fun e w' => ∃ v, e = .returned v ∧ Own w' w.heap.size v [] ∧ Keeps (fun _ => False) w w') := fun w => grow_ok (tot rs n) w ht1 ht
  have HT : Hid (∀ i, i ≤ n → tot rs i ≤ 1000) := fun i hi => Nat.le_trans (tot_le rs i n hi) ht
  clear hS hl ht ht1
  go_enter Tryz.func127, Tryz.ntmps127
  go_wp2
  go_loopw [11, 3] (fun s11 s3 w' => ∃ i : Nat, i ≤ n ∧ s11 = .int .i64 (i : Int) ∧ s3 = .int .i64 (tot rs i : Int) ∧ w' = w) (fun s11 s3 w' => ((n : Int) - intOf s11).toNat)
  case atStart => exact ⟨0, by omega, rfl, rfl, rfl⟩
  case round =>
    obtain ⟨i, hi, rfl, rfl, hw⟩ := hrel
    obtain rfl := hw.symm
    clear hw
    by_cases hin : i < n
    · have hiz : (i : Int) < (n : Int) := by omega
      have hil : i < rs.length := by rw [HS.out.2]; exact hin
      have hc := HS.out.1.cell i hil
      have h1 := HT.out i hi
      have h2 := HT.out (i + 1) (by omega)
      have hN := tot_next rs i hil
      obtain ⟨T, hT⟩ : ∃ T, tot rs i = T := ⟨_, rfl⟩
      obtain ⟨L, hL⟩ : ∃ L, (rs[i]).2.length = L := ⟨_, rfl⟩
      obtain ⟨g, hg⟩ : ∃ g, (rs[i]).1 = g := ⟨_, rfl⟩
      rw [hT] at h1
      rw [hT, hL] at hN
      rw [hN] at h2
      rw [hL, hg] at hc
      rw [hT]
      have HN : Hid (tot rs (i + 1) = T + L) := hN
      have hz : ¬ ((T : Int) + (L : Int) < 0) := by omega
      clear hN hT hL hg hil
      go_wp2
      go_roundw
      case rel => exact ⟨i + 1, by omega, by push_cast; rfl, by rw [HN.out]; push_cast; rfl, trivial⟩
      case measure => simp [intOf]; omega
    · obtain rfl : i = n := by omega
      have h1 := HT.out i hi
      go_wp2_with (first
        | (go_at_call 138; refine (HG.out _).mono ?_; rintro e w2 ⟨v, rfl, hO, hK⟩; have HW : Hid (Own w2 w.heap.size v (cat rs 0) ∧ Keeps (fun _ => False) w w2) := ⟨hO, hK⟩; clear hO hK))
      clear HG h1
      go_loopw [27, 6] (fun s27 s6 w' => ∃ (j : Nat) (u : Value), j ≤ i ∧ s27 = .int .i64 (j : Int) ∧ s6 = u ∧ Hid (Own w' w.heap.size u (cat rs j) ∧ Keeps (fun _ => False) w w')) (fun s27 s6 w' => ((i : Int) - intOf s27).toNat)
      case atStart => exact ⟨0, v, by omega, rfl, rfl, HW⟩
      case round =>
        clear HW
        obtain ⟨j, u, hj, rfl, hu, HW⟩ := hrel
        obtain rfl := hu.symm
        clear hu
        by_cases hjn : j < i
        · have hjz : (j : Int) < (i : Int) := by omega
          have hjl : j < rs.length := by rw [HS.out.2]; exact hjn
          have hc := (HS.out.1.keptF HW.out.2).cell j hjl
          have HB : Hid (Blk wr (rs[j]).1 (rs[j]).2) := (HS.out.1.keptF HW.out.2).2 _ (List.getElem_mem hjl)
          have HN : Hid (cat rs (j + 1) = cat rs j ++ (rs[j]).2) := cat_next rs j hjl
          have HL : Hid ((cat rs j).length + ((rs[j]).2).length ≤ 1000000) := by
            have e := HT.out (j + 1) (by omega)
            rw [← cat_length, cat_next rs j hjl, List.length_append] at e
            show _ ≤ _
            omega
          generalize rs[j] = r at *
          go_wp2_with (first
            | (refine wpList_join rfl _ _ rfl rfl w.heap.size u (cat rs j) rfl HW.out.1 r.1 _ r.2.length r.2 rfl rfl HB.out HW.out.2.size HL.out ?_; intro v' w3 hO hG; have HW3 : Hid (Own w3 w.heap.size v' (cat rs (j + 1)) ∧ Keeps (fun _ => False) w w3) := ⟨(by rw [HN.out]; exact hO), HW.out.1.grown HW.out.2 hG (Nat.le_refl _)⟩; clear hO hG))
          go_roundw
          case rel => exact ⟨j + 1, v', by omega, by push_cast; rfl, rfl, HW3⟩
          case measure => simp [intOf]; omega
        · obtain rfl : j = i := by omega
          go_wp2
          go_ret
          exact ⟨u, rfl, HW.out⟩

/-- The lengths of the fixed codes. -/
def fixL : List Int := List.replicate 144 8 ++ List.replicate 112 9 ++ List.replicate 24 7 ++ List.replicate 8 8
theorem fixL_length : fixL.length = 288 := by unfold fixL; simp only [List.length_append, List.length_replicate]
def fixR (g1 g2 g3 g4 : Nat) : List Rw := [(g1, List.replicate 144 8), (g2, List.replicate 112 9), (g3, List.replicate 24 7), (g4, List.replicate 8 8)]
theorem fixR_tot (g1 g2 g3 g4 : Nat) : tot (fixR g1 g2 g3 g4) 4 = 288 := by
  unfold tot fixR
  simp only [List.take, List.map, List.length_replicate, List.sum_cons, List.sum_nil]
  rfl
theorem fixR_cat (g1 g2 g3 g4 : Nat) : cat (fixR g1 g2 g3 g4) 4 = fixL := by
  unfold cat fixR fixL
  simp only [List.take, List.flatMap_cons, List.flatMap_nil, List.append_nil, List.append_assoc]
theorem fixR_sls (w : World) (g1 g2 g3 g4 : Nat) (h1 : Blk w g1 (List.replicate 144 8)) (h2 : Blk w g2 (List.replicate 112 9)) (h3 : Blk w g3 (List.replicate 24 7)) (h4 : Blk w g4 (List.replicate 8 8)) :
    Sls (w.alloc (.cells #[.slice (some ⟨g1, 0, none⟩) 144 144, .slice (some ⟨g2, 0, none⟩) 112 112, .slice (some ⟨g3, 0, none⟩) 24 24, .slice (some ⟨g4, 0, none⟩) 8 8] 22)) w.heap.size (fixR g1 g2 g3 g4) := by
  have hk := fun o => (Keeps.refl (fun _ => False) w).alloc o
  refine ⟨?_, ?_⟩
  · rw [heap_alloc_new]
    unfold fixR
    simp only [List.map, rwV, List.length_replicate]
  · intro r hr
    unfold fixR at hr
    simp only [List.mem_cons, List.not_mem_nil, or_false] at hr
    rcases hr with rfl | rfl | rfl | rfl
    · exact h1.keptF (hk _)
    · exact h2.keptF (hk _)
    · exact h3.keptF (hk _)
    · exact h4.keptF (hk _)

set_option maxHeartbeats 4000000 in
set_option maxRecDepth 1000000 in
theorem fixed_ok (w : World) : Calls Tryz.prog 118 #[] w fun e w' => ∃ v, e = .returned v ∧ Own w' w.heap.size v fixL ∧ Keeps (fun _ => False) w w' := by
  have HR : Hid (∀ (v : Int) (b c : Nat) (w : World), Blk w b [v] → 1 ≤ c → c ≤ 300 → Calls Tryz.prog 128 #[.slice (some ⟨b, 0, none⟩) 1 1, .int .i64 (c : Int)] w fun e w' => ∃ g, e = .returned (.slice (some ⟨g, 0, none⟩) c c) ∧ Keeps (fun _ => False) w w' ∧ w.heap.size ≤ g ∧ Blk w' g (List.replicate c v)) := fun v b c w h1 h2 h3 => repeat_ok v b c w h1 h2 h3
  have HC : Hid (∀ (b : Nat) (rs : List Rw) (w : World), Sls w b rs → rs.length = 4 → tot rs 4 = 288 → Calls Tryz.prog 127 #[.slice (some ⟨b, 0, none⟩) 4 4] w fun e w' => ∃ v, e = .returned v ∧ Own w' w.heap.size v (cat rs 4) ∧ Keeps (fun _ => False) w w') := fun b rs w h1 h2 h3 => concat_ok b 4 rs w h1 h2 (by decide) (by omega) (by omega)
  go_enter Tryz.func118, Tryz.ntmps118
  go_wp2_with (first
    | (go_at_call 128; (fail_if_success (clear H1)); refine (HR.out 8 _ 144 _ (Blk.lit _ [8]) (by decide) (by decide)).mono ?_; rintro e w1 ⟨g1, rfl, hK, hg, hB⟩; have H1 : Hid (Blk w1 g1 (List.replicate 144 8) ∧ Keeps (fun _ => False) w w1) := ⟨hB, ((Keeps.refl _ w).alloc _).trans hK (fun _ _ h => h)⟩; clear hK hg hB)
    | (go_at_call 128; (fail_if_success (clear H2)); refine (HR.out 9 _ 112 _ (Blk.lit _ [9]) (by decide) (by decide)).mono ?_; rintro e w2 ⟨g2, rfl, hK, hg, hB⟩; have H2 : Hid (Blk w2 g1 (List.replicate 144 8) ∧ Blk w2 g2 (List.replicate 112 9) ∧ Keeps (fun _ => False) w w2) := ⟨H1.out.1.keptF (((Keeps.refl _ w1).alloc _).trans hK (fun _ _ h => h)), hB, H1.out.2.trans (((Keeps.refl _ w1).alloc _).trans hK (fun _ _ h => h)) (fun _ _ h => h)⟩; clear hK hg hB)
    | (go_at_call 128; (fail_if_success (clear H3)); refine (HR.out 7 _ 24 _ (Blk.lit _ [7]) (by decide) (by decide)).mono ?_; rintro e w3 ⟨g3, rfl, hK, hg, hB⟩; have H3 : Hid (Blk w3 g1 (List.replicate 144 8) ∧ Blk w3 g2 (List.replicate 112 9) ∧ Blk w3 g3 (List.replicate 24 7) ∧ Keeps (fun _ => False) w w3) := ⟨H2.out.1.keptF (((Keeps.refl _ w2).alloc _).trans hK (fun _ _ h => h)), H2.out.2.1.keptF (((Keeps.refl _ w2).alloc _).trans hK (fun _ _ h => h)), hB, H2.out.2.2.trans (((Keeps.refl _ w2).alloc _).trans hK (fun _ _ h => h)) (fun _ _ h => h)⟩; clear hK hg hB)
    | (go_at_call 128; refine (HR.out 8 _ 8 _ (Blk.lit _ [8]) (by decide) (by decide)).mono ?_; rintro e w4 ⟨g4, rfl, hK, hg, hB⟩; have H4 : Hid (Blk w4 g1 (List.replicate 144 8) ∧ Blk w4 g2 (List.replicate 112 9) ∧ Blk w4 g3 (List.replicate 24 7) ∧ Blk w4 g4 (List.replicate 8 8) ∧ Keeps (fun _ => False) w w4) := ⟨H3.out.1.keptF (((Keeps.refl _ w3).alloc _).trans hK (fun _ _ h => h)), H3.out.2.1.keptF (((Keeps.refl _ w3).alloc _).trans hK (fun _ _ h => h)), H3.out.2.2.1.keptF (((Keeps.refl _ w3).alloc _).trans hK (fun _ _ h => h)), hB, H3.out.2.2.2.trans (((Keeps.refl _ w3).alloc _).trans hK (fun _ _ h => h)) (fun _ _ h => h)⟩; clear hK hg hB)
    | (go_at_call 127; refine (HC.out w4.heap.size (fixR g1 g2 g3 g4) _ (fixR_sls w4 g1 g2 g3 g4 H4.out.1 H4.out.2.1 H4.out.2.2.1 H4.out.2.2.2.1) rfl (fixR_tot g1 g2 g3 g4)).mono ?_; rintro e w5 ⟨v, rfl, hO, hK⟩; rw [fixR_cat] at hO; have H5 : Hid (Own w5 w.heap.size v fixL ∧ Keeps (fun _ => False) w w5) := ⟨owns_down hO (by have := (H4.out.2.2.2.2.alloc (Obj.cells #[.slice (some ⟨g1, 0, none⟩) 144 144, .slice (some ⟨g2, 0, none⟩) 112 112, .slice (some ⟨g3, 0, none⟩) 24 24, .slice (some ⟨g4, 0, none⟩) 8 8] 22)).size; exact this), H4.out.2.2.2.2.trans (((Keeps.refl _ w4).alloc _).trans hK (fun _ _ h => h)) (fun _ _ h => h)⟩; clear hO hK))
  go_ret
  exact ⟨v, rfl, H5.out⟩

end Go.Proofs.YtfbghchgfbjogaaGreat.Tb

namespace Go.Proofs.YtfbghchgfbjogaaGreat.Bt
open Go.RowKit
set_option linter.unusedVariables false
set_option linter.unusedSimpArgs false

theorem Tryz.info5 : (Tryz.prog.info? 5).map (fun i => (i.zero, i.size, i.bytes)) = some (some (.int .u8 0), 1, 1) := by kernel_rfl

/-- What the store into the byte makes of it. -/
def orByte (y : Nat) (x : Int) (r : Nat) : Int := bits BinOp.or IntKind.u8 (y : Int) (wrap64 (x * 2 ^ r) % 256)

theorem orByte_eq (y r : Nat) (x : Bool) (hy : y < 2 ^ r) (hr : r < 8) : orByte y (x.toNat : Int) r = ((y + 2 ^ r * x.toNat : Nat) : Int) := by
  have hp : (2 : Nat) ^ r ≤ 128 := Nat.pow_le_pow_right (by decide) (show r ≤ 7 by omega)
  have e : wrap64 ((x.toNat : Int) * 2 ^ r) % 256 = ((2 ^ r * x.toNat : Nat) : Int) := by
    have e2 : ((x.toNat : Int) * 2 ^ r) = ((2 ^ r * x.toNat : Nat) : Int) := by push_cast; rw [Int.mul_comm]
    have hb : 2 ^ r * x.toNat ≤ 128 := by cases x <;> simp <;> omega
    rw [e2]
    generalize 2 ^ r * x.toNat = z at hb
    simp only [wrap64]
    omega
  unfold orByte
  rw [e, u8_or_nat _ _ (by omega) (by cases x <;> simp <;> omega)]
  congr 1
  rw [Nat.or_comm, ← Nat.two_pow_add_eq_or_of_lt hy]; omega

end Go.Proofs.YtfbghchgfbjogaaGreat.Bt

namespace Go.Proofs.YtfbghchgfbjogaaGreat.Bt
open Go.RowKit
set_option linter.unusedVariables false
set_option linter.unusedSimpArgs false

set_option maxHeartbeats 400000 in
theorem of_any (s : ByteArray) (w : World) :
    Calls Tryz.prog 76 #[.string s] w fun e w' => e = .returned (.pointer (some ⟨w.heap.size, 0, none⟩)) ∧ w' = w.alloc (.cells #[.string s, .int .i64 0] 145) := by
  go_enter Tryz.func76, Tryz.ntmps76
  go_wp2
  go_ret
  exact ⟨rfl, rfl⟩

set_option maxHeartbeats 400000 in
theorem num_any (n : Int) (w : World) :
    Calls Tryz.prog 11 #[.int .i64 n] w fun e w' => e = .returned (.int .i64 n) ∧ w' = w := by
  go_enter Tryz.func11, Tryz.ntmps11
  go_wp2
  go_ret
  exact ⟨rfl, rfl⟩

set_option maxHeartbeats 400000 in
theorem whole_any (n : Int) (w : World) (h0 : 0 ≤ n) (h1 : n ≤ 1125899906842624) :
    Calls Tryz.prog 99 #[.int .i64 n] w fun e w' => e = .returned (.int .i64 ((n + 7) / 8 * 8)) ∧ w' = w := by
  go_enter Tryz.func99, Tryz.ntmps99
  go_wp2
  go_ret
  exact ⟨rfl, rfl⟩

set_option maxHeartbeats 400000 in
theorem at_any (b : Nat) (n : Int) (w : World) (hc : w.cell? ⟨b, 1, none⟩ = some (.int .i64 n)) :
    Calls Tryz.prog 79 #[.pointer (some ⟨b, 0, none⟩)] w fun e w' => e = .returned (.int .i64 n) ∧ w' = w := by
  go_enter Tryz.func79, Tryz.ntmps79
  go_wp2
  go_ret
  exact ⟨rfl, rfl⟩

end Go.Proofs.YtfbghchgfbjogaaGreat.Bt

namespace Go.Proofs.YtfbghchgfbjogaaGreat.Bt
open Go.RowKit
set_option linter.unusedVariables false
set_option linter.unusedSimpArgs false

theorem wrap64_two (k : Nat) (h : k ≤ 16) : wrap64 (2 ^ k) = 2 ^ k := by
  have e : (2 : Int) ^ k = ((2 ^ k : Nat) : Int) := by simp
  have hp : (2 : Nat) ^ k ≤ 2 ^ 16 := Nat.pow_le_pow_right (by decide) h
  rw [e]
  generalize 2 ^ k = z at hp
  simp only [wrap64]
  omega

theorem _root_.Go.Proofs.YtfbghchgfbjogaaGreat.Wr.alloc {T : TypeId} {w : World} {b : Nat} {o : Option Nat} {L : List Bool} (h : Wr T w b o L) (ob : Obj) : Wr T (w.alloc ob) b o L :=
  h.kept (S := fun _ => False) ((Keeps.refl _ w).alloc ob) (fun h => h) (fun _ _ h => h)

def alignOf (L : List Bool) : List Bool := L ++ List.replicate ((L.length + 7) / 8 * 8 - L.length) false
theorem convert_row (w : World) (base n cap : Nat) (a : Option Addr) (ys : List Nat) (hy : ∀ y ∈ ys, y < 256) (h : w.ownsRow base 5 1 (.slice a n cap) n (ys.map byteV)) :
    (convert 84 9 (.slice a n cap)).run Tryz.prog w = .ok (.string (textOf ys)) w := by
  have hl : ys.length = n := by have := h.1; simpa using this
  rcases h.2 with ⟨hv, h0⟩ | ⟨g, cap', cur, hv, _⟩
  · cases hv
    have : ys = [] := List.eq_nil_of_length_eq_zero hl
    subst this
    exact run_convert_bytes_nil w 84 5 Tryz.underlying84 Tryz.underlying5 0 0 9 Tryz.underlying9
  · cases hv
    have e : ys.length = (ys.map UInt8.ofNat).length := by rw [List.length_map]
    rw [← hl, e]
    refine run_convert_bytes_back w 84 9 5 ⟨g, 0, none⟩ cap (ys.map UInt8.ofNat) Tryz.underlying84 Tryz.underlying5 Tryz.underlying9 ?_
    intro j hj
    rw [List.length_map] at hj
    have hget : (ys.map byteV)[j]? = some (byteV ys[j]) := by simp [hj]
    rw [addr_add, (owns_cell h j _ hget).1]
    have : ys[j] < 256 := hy _ (List.getElem_mem hj)
    simp only [List.getElem_map, byteV, UInt8.toNat_ofNat']
    rw [Nat.mod_eq_of_lt (by omega)]

end Go.Proofs.YtfbghchgfbjogaaGreat.Bt

namespace Go.Proofs.YtfbghchgfbjogaaGreat.Hf
set_option linter.unusedVariables false
set_option linter.unusedSimpArgs false

/-- How many of the numbers are b. -/
def cnt (ys : List Int) (b : Nat) : Nat := ys.countP (fun y => y == (b : Int))
/-- How many codes there are of a length; of 0 none. -/
def cn (ys : List Int) (i : Nat) : Nat := if i = 0 then 0 else cnt ys i
def fine (y : Int) : Bool := decide (0 ≤ y) && decide (y ≤ 15)
def may (ys : List Int) : Bool := (decide (1 ≤ ys.length) && decide (ys.length ≤ 288)) && ys.all fine
/-- The room that the lengths below n take. -/
def sumTo (f : Nat → Nat) : Nat → Nat
  | 0 => 0
  | n + 1 => sumTo f n + f n * 2 ^ (15 - n)
def room (ys : List Int) : Nat := sumTo (cn ys) 16
/-- The first code of each length. -/
def fstC (f : Nat → Nat) : Nat → Nat
  | 0 => 0
  | n + 1 => (fstC f n + f n) * 2
def errF (ys : List Int) : Int := cond (may ys) (cond (decide (32768 < room ys)) 301 0) 300
def errC (ys : List Int) : Int := cond (may ys) (cond (decide (32768 < room ys)) 301 (cond (decide (room ys < 32768)) 302 0)) 300
def at_ (ys : List Int) (i : Nat) : Int := ys.getD i 0
/-- The code's value of symbol i. -/
def codeV (ys : List Int) (i : Nat) : Nat := cond (decide (0 < at_ ys i)) (fstC (cn ys) (at_ ys i).toNat + cnt (ys.take i) (at_ ys i).toNat) 0
/-- Ahead of which as many as k have the length too. -/
def nthL (b : Int) : List Int → Nat → Nat → Option Nat
  | [], _, _ => none
  | y :: r, k, i => if y = b then (if k = 0 then some i else nthL b r (k - 1) (i + 1)) else nthL b r k (i + 1)
def findL (ys : List Int) (b v : Int) : Option Nat :=
  cond (decide (1 ≤ b) && decide (b ≤ 15)) (cond (decide ((fstC (cn ys) b.toNat : Int) ≤ v)) (nthL b ys (v - fstC (cn ys) b.toNat).toNat 0) none) none

theorem cnt_le (ys : List Int) (b : Nat) : cnt ys b ≤ ys.length := List.countP_le_length
theorem cn_le (ys : List Int) (b : Nat) : cn ys b ≤ ys.length := by unfold cn; split; omega; exact cnt_le ys b
theorem cnt_snoc (ys : List Int) (y : Int) (b : Nat) : cnt (ys ++ [y]) b = cnt ys b + (if y = (b : Int) then 1 else 0) := by
  unfold cnt; rw [List.countP_append]; simp
theorem take_snoc (ys : List Int) (j : Nat) (h : j < ys.length) : ys.take (j + 1) = ys.take j ++ [ys[j]] := by
  rw [List.take_add_one, List.getElem?_eq_getElem h]; rfl

theorem sumTo_le (f : Nat → Nat) (m : Nat) (hf : ∀ i, f i ≤ m) (n : Nat) (hn : n ≤ 16) : sumTo f n ≤ m * 32768 * n := by
  induction n with
  | zero => simp [sumTo]
  | succ n ih =>
    have h1 := ih (by omega)
    have h2 : f n * 2 ^ (15 - n) ≤ m * 32768 := Nat.mul_le_mul (hf n) (by
      have : 2 ^ (15 - n) ≤ 2 ^ 15 := Nat.pow_le_pow_right (by omega) (by omega)
      simpa using this)
    rw [sumTo, Nat.mul_add]; omega
theorem fstC_le (f : Nat → Nat) (m : Nat) (hf : ∀ i, f i ≤ m) (n : Nat) : fstC f n + 2 * m ≤ m * 2 ^ (n + 1) := by
  induction n with
  | zero => simp [fstC]; omega
  | succ n ih =>
    have := hf n
    rw [fstC, Nat.pow_succ]
    have e : m * (2 ^ (n + 1) * 2) = 2 * (m * 2 ^ (n + 1)) := by rw [← Nat.mul_assoc]; omega
    rw [e]; omega
theorem fstC_small (ys : List Int) (h : ys.length ≤ 288) (n : Nat) (hn : n ≤ 15) : fstC (cn ys) n ≤ 18874368 := by
  have h1 := fstC_le (cn ys) 288 (fun i => Nat.le_trans (cn_le ys i) h) n
  have h2 : 2 ^ (n + 1) ≤ 2 ^ 16 := Nat.pow_le_pow_right (by omega) (by omega)
  have h3 : 288 * 2 ^ (n + 1) ≤ 288 * 2 ^ 16 := Nat.mul_le_mul_left _ h2
  omega
theorem may_len {ys : List Int} (h : may ys = true) : 1 ≤ ys.length ∧ ys.length ≤ 288 := by
  simp only [may, Bool.and_eq_true, decide_eq_true_eq] at h; exact h.1
theorem may_at {ys : List Int} (h : may ys = true) (i : Nat) (hi : i < ys.length) : 0 ≤ ys[i] ∧ ys[i] ≤ 15 := by
  simp only [may, Bool.and_eq_true, List.all_eq_true, fine, decide_eq_true_eq] at h; exact h.2 _ (List.getElem_mem hi)
theorem at_eq {ys : List Int} (i : Nat) (hi : i < ys.length) : at_ ys i = ys[i] := by simp [at_, List.getD, List.getElem?_eq_getElem hi]
theorem errC_zero {ys : List Int} (h : errC ys = 0) : may ys = true ∧ room ys = 32768 := by
  unfold errC at h
  cases hm : may ys <;> simp [hm] at h
  by_cases hr : 32768 < room ys <;> simp [hr] at h
  by_cases hs : room ys < 32768 <;> simp [hs] at h
  exact ⟨rfl, by omega⟩
end Go.Proofs.YtfbghchgfbjogaaGreat.Hf

namespace Go.Proofs.YtfbghchgfbjogaaGreat.Hf
open Go.RowKit
set_option linter.unusedVariables false
set_option linter.unusedSimpArgs false

def arrL (f : Nat → Nat) : List Value := (List.range 16).map (fun i => .int .i64 (f i : Int))
def upd (f : Nat → Nat) (n v : Nat) : Nat → Nat := fun i => if i = n then v else f i
theorem arrL_length (f : Nat → Nat) : (arrL f).length = 16 := by simp [arrL]
theorem arrL_get (f : Nat → Nat) (i : Nat) (h : i < 16) : (arrL f)[i]? = some (.int .i64 (f i : Int)) := by
  simp [arrL, List.getElem?_range h]
theorem arrL_congr {f g : Nat → Nat} (h : ∀ i, i < 16 → f i = g i) : arrL f = arrL g := by
  unfold arrL
  exact List.map_congr_left (fun i hi => by rw [h i (by simpa using hi)])
theorem arrL_one (f : Nat → Nat) : (arrL f).toArray.all (·.oneCell') = true :=
  all_oneCell_toArray (fun v hv => by
    simp only [arrL, List.mem_map] at hv
    obtain ⟨i, _, rfl⟩ := hv
    rfl)

/-- Block b is an array that holds f. -/
def Arr (w : World) (b : Nat) (f : Nat → Nat) : Prop := w.heap[b]? = some (.cells (arrL f).toArray 201 (0, 0))
theorem Arr.lt {w : World} {b : Nat} {f : Nat → Nat} (h : Arr w b f) : b < w.heap.size := lt_of_heap h
theorem Arr.cell {w : World} {b : Nat} {f : Nat → Nat} (h : Arr w b f) (i : Nat) (hi : i < 16) : w.cell? ⟨b, i, none⟩ = some (.int .i64 (f i : Int)) :=
  cell_of_heap h (by rw [List.getElem?_toArray]; exact arrL_get f i hi)
theorem Arr.free {w : World} {b : Nat} {f : Nat → Nat} (h : Arr w b f) (i : Nat) : w.frozen? ⟨b, i, none⟩ = false := frozen_of_heap h
theorem Arr.congr {w : World} {b : Nat} {f g : Nat → Nat} (h : Arr w b f) (e : ∀ i, i < 16 → f i = g i) : Arr w b g := by unfold Arr at *; rw [← arrL_congr e]; exact h
theorem Arr.set {w : World} {b : Nat} {f : Nat → Nat} (h : Arr w b f) (n v : Nat) (hn : n < 16) : Arr (w.setCell ⟨b, n, none⟩ (.int .i64 (v : Int))) b (upd f n v) := by
  unfold Arr
  rw [heap_setCell_same h]
  congr 2
  apply Array.ext_getElem?
  intro i
  rw [Array.getElem?_setIfInBounds]
  by_cases hi : i < 16
  · rw [List.getElem?_toArray, List.getElem?_toArray, arrL_get _ i hi, arrL_get _ i hi]
    simp only [List.size_toArray, arrL_length, hn, upd]
    by_cases e : n = i
    · subst e; simp
    · rw [if_neg e, if_neg (fun k => e k.symm)]
  · rw [if_neg (by omega), List.getElem?_toArray, List.getElem?_toArray, List.getElem?_eq_none (by rw [arrL_length]; omega), List.getElem?_eq_none (by rw [arrL_length]; omega)]
theorem Arr.kept {S : Nat → Prop} {w w' : World} {b : Nat} {f : Nat → Nat} (h : Arr w b f) (hk : Keeps S w w') (hb : ¬ S b) : Arr w' b f := (hk.block b h.lt hb).trans h
theorem Arr.range {w : World} {b : Nat} {f : Nat → Nat} (h : Arr w b f) : w.rangeAt b 0 (arrL f) := fun j v hv => by
  rw [Nat.zero_add]; exact cell_of_heap h (by rw [List.getElem?_toArray]; exact hv)
theorem Arr.there {w : World} {b : Nat} {f : Nat → Nat} (h : Arr w b f) : w.there b 0 16 := fun j hj => by
  rw [Nat.zero_add, h.cell j hj]; exact ⟨rfl, h.free j⟩
theorem size51 : (Tryz.prog.info? 201).map (·.size) = some 16 := by kernel_rfl
theorem Arr.loadVar {w : World} {b : Nat} {f : Nat → Nat} (h : Arr w b f) : (loadVar 201 ⟨b, 0, none⟩).run Tryz.prog w = .ok (.agg (arrL f).toArray) w :=
  run_loadVar_mid w b 0 201 (arrL f) _ h.range Tryz.underlying201 rfl (by rw [arrL_length]; exact size51)
/-- A whole array into a block. -/
def put16 (w : World) (b : Nat) (g : Nat → Nat) : World := w.setCells b 0 (arrL g)
theorem keeps_setCells {S : Nat → Prop} {a : World} (b : Nat) (hb : b < a.heap.size → S b) : ∀ (vs : List Value) (o : Nat) (w : World), Keeps S a w → Keeps S a (w.setCells b o vs)
  | [], _, _, h => h
  | v :: r, o, w, h => by rw [World.setCells]; exact keeps_setCells b hb r (o + 1) _ (h.setCell hb v)
theorem put16_keeps {S : Nat → Prop} {a w : World} (h : Keeps S a w) (b : Nat) (hb : b < a.heap.size → S b) (g : Nat → Nat) : Keeps S a (put16 w b g) := keeps_setCells b hb _ _ _ h

/-- What is known of a slice of ints. -/
def Row (w : World) (a : Option Addr) (ys : List Int) : Prop :=
  ys = [] ∨ ∃ b off, a = some ⟨b, off, none⟩ ∧ b < w.heap.size ∧ ∀ i (h : i < ys.length), w.cell? ⟨b, off + i, none⟩ = some (.int .i64 ys[i])
theorem Row.kept {S : Nat → Prop} {w w' : World} {a : Option Addr} {ys : List Int} (h : Row w a ys) (hk : Keeps S w w') (hb : ∀ x, a = some x → ¬ S x.block) : Row w' a ys := by
  rcases h with h | ⟨b, off, rfl, h1, h2⟩
  · exact .inl h
  · refine .inr ⟨b, off, rfl, Nat.lt_of_lt_of_le h1 hk.size, fun i hi => ?_⟩
    rw [World.cell?_of_block (hk.block b h1 (hb _ rfl))]; exact h2 i hi
theorem Row.keptF {w w' : World} {a : Option Addr} {ys : List Int} (h : Row w a ys) (hk : Keeps (fun _ => False) w w') : Row w' a ys := h.kept hk (fun _ _ h => h)
theorem Row.spot {w : World} {a : Option Addr} {ys : List Int} (h : Row w a ys) (hn : 0 < ys.length) :
    ∃ b off, a = some ⟨b, off, none⟩ ∧ b < w.heap.size ∧ ∀ i (h : i < ys.length), w.cell? ⟨b, off + i, none⟩ = some (.int .i64 ys[i]) := by
  rcases h with h | h
  · subst h; simp at hn
  · exact h

theorem zero16 : (zeroValue 201).run Tryz.prog = fun w => .ok (.agg (arrL (fun _ => 0)).toArray) w := by
  funext w; rw [Tryz.zeroValue201]; rfl
theorem Arr.alloc (w : World) (f : Nat → Nat) : Arr (w.alloc (.cells (arrL f).toArray 201)) w.heap.size f := heap_alloc_new _ _

theorem wpList_alloc16 {ops : Array Oper} {rest : List Oper} {op : Oper} {a : Act} {w : World} {Q : Exit → Act → World → Prop} (hgd : op.guard = none) (ho : op.op = .alloc 201)
    (h : ∀ b w1, Arr w1 b (fun _ => 0) → Keeps (fun _ => False) w w1 → w.heap.size ≤ b → wpList Tryz.prog ops Q rest (a.put op.dst (.pointer (some ⟨b, 0, none⟩))) w1) : wpList Tryz.prog ops Q (op :: rest) a w :=
  wpList_plain hgd fun _ hK => by
    unfold Oper.wp execOp
    have hz := congrFun zero16 w
    simp only [ho, Instr.alloc, Sem.run_bind, hz, Result.andThen_ok]
    simp only [newVar, Sem.run_bind, Sem.run_pure, Result.andThen_ok]
    exact hK _ _ (h w.heap.size _ (Arr.alloc w _) ((Keeps.refl _ w).alloc _) (Nat.le_refl _))
theorem wpList_box16 {ops : Array Oper} {rest : List Oper} {op : Oper} {a : Act} {w : World} {Q : Exit → Act → World → Prop} (hgd : op.guard = none) (x : Operand) (ho : op.op = .box 201 x) (f : Nat → Nat) (hx : a.eval x = .agg (arrL f).toArray)
    (h : ∀ b w1, Arr w1 b f → Keeps (fun _ => False) w w1 → w.heap.size ≤ b → wpList Tryz.prog ops Q rest (a.put op.dst (.pointer (some ⟨b, 0, none⟩))) w1) : wpList Tryz.prog ops Q (op :: rest) a w :=
  wpList_plain hgd fun _ hK => by
    unfold Oper.wp execOp
    simp only [ho, hx, Instr.box, Sem.run_bind, newVar, Sem.run_pure, Result.andThen_ok]
    exact hK _ _ (h w.heap.size _ (Arr.alloc w _) ((Keeps.refl _ w).alloc _) (Nat.le_refl _))
theorem wpList_load16 {ops : Array Oper} {rest : List Oper} {op : Oper} {a : Act} {w : World} {Q : Exit → Act → World → Prop} (hgd : op.guard = none) (x : Operand) (ho : op.op = .load 201 x) (b : Nat) (hx : a.eval x = .pointer (some ⟨b, 0, none⟩)) (f : Nat → Nat) (hA : Arr w b f)
    (h : wpList Tryz.prog ops Q rest (a.put op.dst (.agg (arrL f).toArray)) w) : wpList Tryz.prog ops Q (op :: rest) a w :=
  wpList_load_mid hgd 201 x ho b 0 hx (arrL f) _ hA.range Tryz.underlying201 rfl (by rw [arrL_length]; exact size51) h
/-- The same where a guard stands ahead of it and lets it by. -/
theorem wpList_load16w {ops : Array Oper} {rest : List Oper} {op : Oper} {a : Act} {w : World} {Q : Exit → Act → World → Prop} (x : Operand) (ho : op.op = .load 201 x) (b : Nat) (hx : a.eval x = .pointer (some ⟨b, 0, none⟩)) (hw : Region.wanted op (yielded ops a.tmps) = true) (f : Nat → Nat) (hA : Arr w b f)
    (h : wpList Tryz.prog ops Q rest (a.put op.dst (.agg (arrL f).toArray)) w) : wpList Tryz.prog ops Q (op :: rest) a w :=
  wpList_step fun K hK => by
    rw [if_pos hw]
    exact wp_load_mid 201 x ho b 0 hx (arrL f) _ hA.range Tryz.underlying201 rfl (by rw [arrL_length]; exact size51) (hK _ _ h)
theorem setCells_row (b : Nat) (t : TypeId) : ∀ (vs : List Value) (o : Nat) (w : World) (cs : Array Value), w.heap[b]? = some (.cells cs t (0, 0)) → ∃ cs', (w.setCells b o vs).heap[b]? = some (.cells cs' t (0, 0)) ∧ cs'.size = cs.size ∧ (∀ i, i < o → cs'[i]? = cs[i]?) ∧ ∀ i, i < vs.length → o + i < cs.size → cs'[o + i]? = vs[i]? := by
  intro vs
  induction vs with
  | nil => intro o w cs hc; exact ⟨cs, hc, rfl, fun _ _ => rfl, fun i hi => by simp at hi⟩
  | cons v r ih =>
    intro o w cs hc
    obtain ⟨cs', h1, h2, h3, h4⟩ := ih (o + 1) (w.setCell ⟨b, o, none⟩ v) _ (heap_setCell_same hc v)
    refine ⟨cs', by rw [World.setCells]; exact h1, by rw [h2]; simp, fun i hi => ?_, fun i hi hlt => ?_⟩
    · rw [h3 i (by omega), Array.getElem?_setIfInBounds, if_neg (by omega)]
    · cases i with
      | zero => rw [Nat.add_zero, h3 o (by omega), Array.getElem?_setIfInBounds]; simp; omega
      | succ i =>
        have := h4 i (by simpa using hi) (by simp; omega)
        rw [show o + (i + 1) = o + 1 + i by omega, this]; simp
theorem arr_ext (g : Nat → Nat) (cs : Array Value) (hz : cs.size = 16) (h : ∀ i, i < 16 → cs[i]? = (arrL g)[i]?) : cs = (arrL g).toArray := by
  apply Array.ext_getElem?
  intro i
  by_cases hi : i < 16
  · rw [h i hi, List.getElem?_toArray]
  · rw [Array.getElem?_eq_none (by omega), List.getElem?_toArray, List.getElem?_eq_none (by rw [arrL_length]; omega)]
theorem Arr.put {w : World} {b : Nat} {f : Nat → Nat} (h : Arr w b f) (g : Nat → Nat) : Arr (put16 w b g) b g := by
  have key := setCells_row b 201 (arrL g) 0 w _ h
  obtain ⟨cs', h1, h2, h3, h4⟩ := key
  have hl := arrL_length f
  have hg := arrL_length g
  generalize hA : arrL f = A at *
  generalize hB : arrL g = B at *
  have hz : cs'.size = 16 := by rw [h2, List.size_toArray, hl]
  have e : cs' = B.toArray := by
    rw [← hB]; refine arr_ext g cs' hz (fun i hi => ?_)
    have := h4 i (by omega) (by rw [List.size_toArray, hl]; omega)
    rw [Nat.zero_add] at this
    rw [this, hB]
  unfold Arr put16
  rw [hB, h1, e]
theorem wpList_store16 {ops : Array Oper} {rest : List Oper} {op : Oper} {a : Act} {w : World} {Q : Exit → Act → World → Prop} (hgd : op.guard = none) (x y : Operand) (ho : op.op = .store 201 x y) (b : Nat) (g : Nat → Nat) (hx : a.eval x = .pointer (some ⟨b, 0, none⟩)) (hy : a.eval y = .agg (arrL g).toArray) (f : Nat → Nat) (hA : Arr w b f)
    (h : ∀ w1, Arr w1 b g → Keeps (fun k => k = b) w w1 → wpList Tryz.prog ops Q rest (a.put op.dst undef) w1) : wpList Tryz.prog ops Q (op :: rest) a w :=
  wpList_store_mid hgd 201 x y ho b 0 (arrL g).toArray hx hy (by simpa [arrL_length] using hA.there) (by simpa [arrL_length] using size51) (arrL_one g) (h (put16 w b g) (hA.put g) (put16_keeps (S := fun k => k = b) (Keeps.refl _ w) b (fun _ => rfl) g))

theorem arr_index (f : Nat → Nat) (i : Nat) (h : i < 16) (w : World) : (Instr.index 201 (.agg (arrL f).toArray) (.int .i64 (i : Int))).run Tryz.prog w = .ok (.int .i64 (f i : Int)) w := by
  have hg := arrL_get f i h
  have hi : (0 : Int) ≤ i ∧ (i : Int) < 16 := by omega
  generalize arrL f = A at *
  simp [Instr.index, asIntOf, Sem.run_bind, Tryz.runUnderlying201, Tryz.sizeOf3, Tryz.isAgg3, part, hi, hg]
  omega

theorem results_cell {fn : Func} {p : Tmp} {ty : TypeId} (h : fn.results = #[.cell p ty]) (tmps : Array Value) (P : Program) (w : World) :
    (results fn tmps).run P w = ((asAddr (tmps.getD p undef)).run P w).andThen fun a w₁ => (Go.loadVar ty a).run P w₁ := by
  simp only [results, h]
  simp [Sem.run_bind, Result.andThen]

end Go.Proofs.YtfbghchgfbjogaaGreat.Hf

namespace Go.Proofs.YtfbghchgfbjogaaGreat.Hf
open Go.RowKit
set_option linter.unusedVariables false
set_option linter.unusedSimpArgs false

theorem wrap64_small (n : Int) (h0 : 0 ≤ n) (h1 : n < 4611686018427387904) : wrap64 n = n := by
  unfold wrap64; omega
theorem shl_ok (a : Nat) (k : Nat) (ha : a ≤ 288) (hk : k ≤ 15) : IntKind.i64.wrap ((a : Int) * 2 ^ k) = ((a * 2 ^ k : Nat) : Int) := by
  have h : a * 2 ^ k ≤ 288 * 2 ^ 15 := Nat.mul_le_mul ha (Nat.pow_le_pow_right (by omega) hk)
  have e : (a : Int) * 2 ^ k = ((a * 2 ^ k : Nat) : Int) := by push_cast; rfl
  rw [e]; exact wrap_i64_small _ (by omega) (by omega)

set_option maxHeartbeats 2000000 in
set_option maxRecDepth 1000000 in
theorem room_ok (f : Nat → Nat) (w : World) (hf : ∀ i, f i ≤ 288) :
    Calls Tryz.prog 149 #[.agg (arrL f).toArray] w fun e w' => e = .returned (.int .i64 (sumTo f 16 : Nat)) ∧ Keeps (fun _ => False) w w' := by
  have HF : Hid (∀ i, f i ≤ 288) := hf
  clear hf
  go_enter Tryz.func149, Tryz.ntmps149
  go_wp2_with (first
    | (refine wpList_box16 rfl _ rfl f rfl ?_; intro b w1 hA hK hb; have HK : Hid (Keeps (fun _ => False) w w1) := hK; clear hK)
    | (refine wpList_load16 rfl _ rfl _ rfl f ?hA ?_; case hA => assumption))
  go_loopw [3, 7] (fun s3 s7 w' => ∃ i : Nat, i ≤ 16 ∧ s3 = .int .i64 (sumTo f i : Nat) ∧ s7 = .int .i64 (i : Nat) ∧ w' = w1) (fun s3 s7 w' => (16 - intOf s7).toNat)
  case atStart => exact ⟨0, by omega, rfl, rfl, rfl⟩
  case round =>
    obtain ⟨i, hi, rfl, rfl, rfl⟩ := hrel
    by_cases h16 : i < 16
    · have hiz : (i : Int) < 16 := by omega
      have hga := arr_index f i h16
      have hw15 : IntKind.i64.wrap (15 - (i : Int)) = ((15 - i : Nat) : Int) := by rw [wrap_i64_small _ (by omega) (by omega)]; omega
      have hnn : ¬ (((15 - i : Nat) : Int) < 0) := by omega
      have hsh := shl_ok (f i) (15 - i) (HF.out i) (by omega)
      go_wp2
      go_roundw
      case rel =>
        have hb1 := sumTo_le f 288 HF.out (i + 1) (by omega)
        have e : wrap64 ((sumTo f i : Int) + (f i : Int) * 2 ^ (15 - i)) = ((sumTo f (i + 1) : Nat) : Int) := by
          have e1 : (sumTo f i : Int) + (f i : Int) * 2 ^ (15 - i) = ((sumTo f (i + 1) : Nat) : Int) := by rw [sumTo]; push_cast; rfl
          rw [e1]; exact wrap64_small _ (by omega) (by omega)
        exact ⟨i + 1, by omega, by rw [e], by push_cast; rfl, trivial⟩
      case measure => simp [intOf]; omega
    · obtain rfl : i = 16 := by omega
      go_wp2
      go_ret
      exact ⟨rfl, HK.out⟩

def fstTo (f : Nat → Nat) (m : Nat) : Nat → Nat := fun i => if i ≤ m then fstC f i else 0
theorem fstTo_upd (f : Nat → Nat) (m : Nat) : ∀ i, i < 16 → upd (fstTo f m) (m + 1) (fstC f (m + 1)) i = fstTo f (m + 1) i := by
  intro i _
  unfold upd fstTo
  by_cases h : i = m + 1
  · subst h; simp
  · rw [if_neg h]
    by_cases h1 : i ≤ m
    · rw [if_pos h1, if_pos (by omega)]
    · rw [if_neg h1, if_neg (by omega)]

set_option maxHeartbeats 2000000 in
set_option maxRecDepth 1000000 in
theorem firsts_ok (f : Nat → Nat) (w : World) (hf : ∀ i, f i ≤ 288) :
    Calls Tryz.prog 145 #[.agg (arrL f).toArray] w fun e w' => e = .returned (.agg (arrL (fstC f)).toArray) ∧ Keeps (fun _ => False) w w' := by
  have HF : Hid (∀ i, f i ≤ 288) := hf
  clear hf
  go_enter Tryz.func145, Tryz.ntmps145
  go_wp2_with (first
    | (refine wpList_box16 rfl _ rfl f rfl ?_; intro b1 w1 hA1 hK1 hb1)
    | (refine wpList_alloc16 rfl rfl ?_; (fail_if_success (clear hA2)); intro b2 w2 hA2 hK2 hb2)
    | (refine wpList_alloc16 rfl rfl ?_; intro b3 w3 hA3 hK3 hb3))
  have l1 := hA1.lt
  have l2 := hA2.lt
  have l3 := hA3.lt
  have HE : Hid (b1 ≠ b2 ∧ b1 ≠ b3 ∧ b2 ≠ b3 ∧ w.heap.size ≤ b1 ∧ w.heap.size ≤ b2 ∧ w.heap.size ≤ b3) := by
    have e1 := hK1.size; have e2 := hK2.size; have e3 := hK3.size
    show _ ∧ _; omega
  have HW : Hid (Arr w3 b1 f ∧ Arr w3 b2 (fun _ => 0) ∧ Arr w3 b3 (fstTo f 0) ∧ Keeps (fun _ => False) w w3) :=
    ⟨(hA1.kept hK2 (fun h => h)).kept hK3 (fun h => h), hA2.kept hK3 (fun h => h), hA3.congr (fun i _ => by unfold fstTo; split; rename_i h; obtain rfl : i = 0 := by omega
                                                                                                            · rfl
                                                                                                            · rfl), (hK1.trans hK2 (fun _ _ h => h)).trans hK3 (fun _ _ h => h)⟩
  clear hA1 hA2 hA3 hK1 hK2 hK3 hb1 hb2 hb3 l1 l2 l3
  go_loopw [4] (fun s4 w' => ∃ m : Nat, m ≤ 15 ∧ s4 = .int .i64 ((m + 1 : Nat) : Int) ∧ Hid (Arr w' b1 f ∧ Arr w' b2 (fun _ => 0) ∧ Arr w' b3 (fstTo f m) ∧ Keeps (fun _ => False) w w')) (fun s4 w' => (16 - intOf s4).toNat)
  case atStart => exact ⟨0, by omega, rfl, HW⟩
  case round =>
    obtain ⟨m, hm, rfl, HW⟩ := hrel
    by_cases h15 : m < 15
    · have hiz : ((m + 1 : Nat) : Int) ≤ 15 := by omega
      have hw1 : IntKind.i64.wrap (((m + 1 : Nat) : Int) - 1) = (m : Int) := by rw [wrap_i64_small _ (by omega) (by omega)]; omega
      have hc1 := HW.out.2.2.1.cell m (by omega)
      have hc2 := HW.out.1.cell m (by omega)
      have hc3 := HW.out.2.2.1.cell (m + 1) (by omega)
      have hz3 := HW.out.2.2.1.free (m + 1)
      go_wp2
      go_region
      have hs := fstC_le f 288 HF.out (m + 1)
      have hp : 2 ^ (m + 1 + 1) ≤ 2 ^ 16 := Nat.pow_le_pow_right (by omega) (by omega)
      have hp2 : 288 * 2 ^ (m + 1 + 1) ≤ 288 * 2 ^ 16 := Nat.mul_le_mul_left _ hp
      have e0 : fstTo f m m = fstC f m := by simp [fstTo]
      have es : fstC f (m + 1) = (fstC f m + f m) * 2 := rfl
      have hv : wrap64 (wrap64 ((fstTo f m m : Int) + (f m : Int)) * 2) = ((fstC f (m + 1) : Nat) : Int) := by
        rw [e0, wrap64_small ((fstC f m : Int) + (f m : Int)) (by omega) (by omega), wrap64_small _ (by omega) (by omega)]; omega
      rw [hv]
      have HW' : Hid (Arr (wr.setCell ⟨b3, m + 1, none⟩ (.int .i64 ((fstC f (m + 1) : Nat) : Int))).drew b1 f ∧ Arr (wr.setCell ⟨b3, m + 1, none⟩ (.int .i64 ((fstC f (m + 1) : Nat) : Int))).drew b2 (fun _ => 0) ∧ Arr (wr.setCell ⟨b3, m + 1, none⟩ (.int .i64 ((fstC f (m + 1) : Nat) : Int))).drew b3 (fstTo f (m + 1)) ∧ Keeps (fun _ => False) w (wr.setCell ⟨b3, m + 1, none⟩ (.int .i64 ((fstC f (m + 1) : Nat) : Int))).drew) := by
        obtain ⟨g1, g2, g3, g4⟩ := HW.out
        obtain ⟨n1, n2, n3, n4, n5, n6⟩ := HE.out
        have kk : Keeps (fun k => k = b3) wr (wr.setCell ⟨b3, m + 1, none⟩ (.int .i64 ((fstC f (m + 1) : Nat) : Int))).drew := (Keeps.setCell (S := fun k => k = b3) (Keeps.refl _ wr) (p := ⟨b3, m + 1, none⟩) (fun _ => rfl) _).drew
        exact ⟨g1.kept kk n2, g2.kept kk n3, (Arr.congr (g3.set (m + 1) (fstC f (m + 1)) (by omega)) (fstTo_upd f m)), g4.trans kk (fun i hi h => by subst h; exact absurd hi (by omega))⟩
      generalize (wr.setCell ⟨b3, m + 1, none⟩ (.int .i64 ((fstC f (m + 1) : Nat) : Int))).drew = wn at *
      clear HW hc1 hc2 hc3 hz3 hs hp hp2 e0 es hv
      go_wp2
      go_roundw
      case rel => exact ⟨m + 1, by omega, by push_cast; rfl, HW'⟩
      case measure => simp [intOf]; omega
    · obtain rfl : m = 15 := by omega
      obtain ⟨g1, g2, g3, g4⟩ := HW.out
      have g5 : Arr wr b3 (fstC f) := g3.congr (fun i hi => by unfold fstTo; rw [if_pos (by omega)])
      clear HW g3
      have HK : Hid (Keeps (fun _ => False) w wr) := g4
      clear g4
      go_wp2_with (first
        | (refine wpList_load16 rfl _ rfl _ rfl (fstC f) ?hA ?_; case hA => assumption)
        | (refine wpList_store16 rfl _ _ rfl _ (fstC f) rfl rfl (fun _ => 0) ?hA ?_; (case hA => assumption); intro w4 hA4 hK4))
      (try simp only [Exit.inBlock, Exit.then])
      refine bodyPost_ret (v := .agg (arrL (fstC f)).toArray) ?_ rfl ⟨rfl, ?_⟩
      · rw [results_cell rfl]
        exact hA4.loadVar
      · exact HK.out.trans hK4 (fun i hi h => by have := HE.out; subst h; exact absurd hi (by omega))

end Go.Proofs.YtfbghchgfbjogaaGreat.Hf

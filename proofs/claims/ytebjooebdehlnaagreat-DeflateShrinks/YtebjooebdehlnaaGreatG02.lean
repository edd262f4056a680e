/-
  Rows laid one behind the other, and the lengths of the fixed codes. What add puts into a writer: one bit behind the others, for every writer with fewer than 65536 bits. Small contracts: New, Of, Num, wholeBytes, Len and At of package bits, for every world. lowestFirst, highestFirst and takes: the bits of a number put one by one. Put, Code, Align, Len and Text of a writer, for every input.
-/
import Derived.Test.YtebjooebdehlnaaGreatRows
import Derived.Test.YtebjooebdehlnaaGreatG01
import Derived.Lib.AppendZeros
import Derived.Deep.AppendLies
import Derived.WalkKit
import Derived.WalkSpells
import Derived.WalkLawsBesides
import Derived.BigRegion
namespace Go.Proofs.YtebjooebdehlnaaGreat.Tb
open Go.RowKit
set_option linter.unusedVariables false
set_option linter.unusedSimpArgs false

/-- A row of ints that a call owns. -/
def Own (w : World) (base : Nat) (v : Value) (xs : List Int) : Prop := w.ownsRow base 3 1 v xs.length (intsV xs)
theorem owns_heap1 {w w' : World} {base : Nat} {e : TypeId} {size : Nat} {v : Value} {n : Nat} {xs : List Value} (h : w.ownsRow base e size v n xs) (hk : ∀ k, v.ownBlock = some k → w'.heap[k]? = w.heap[k]?) : w'.ownsRow base e size v n xs := by
  obtain ⟨h1, h2⟩ := h
  refine ⟨h1, ?_⟩
  rcases h2 with h2 | ⟨g, cap, cur, hv, hg, hh, r⟩
  · exact Or.inl h2
  · subst hv
    exact Or.inr ⟨g, cap, cur, rfl, hg, by rw [hk g rfl]; exact hh, r⟩
theorem Own.kept {S : Nat → Prop} {w w' : World} {base : Nat} {v : Value} {xs : List Int} (h : Own w base v xs) (hk : Keeps S w w') (hb : ∀ k, v.ownBlock = some k → ¬ S k) : Own w' base v xs :=
  owns_heap1 h (fun k e => hk.block k (World.ownsRow.lt h k e).2 (hb k e))
theorem Own.keptF {w w' : World} {base : Nat} {v : Value} {xs : List Int} (h : Own w base v xs) (hk : Keeps (fun _ => False) w w') : Own w' base v xs := h.kept hk (fun _ _ h => h)
set_option maxRecDepth 1000000 in
theorem Own.append {w : World} {base : Nat} {v : Value} {xs : List Int} (h : Own w base v xs) (g cap : Nat) (ys : List Int) (hB : Blk w g ys) (hb : base ≤ w.heap.size) (hn : xs.length + ys.length ≤ 1000000) :
    ∃ v' w', (Builtin.append_ #[40, 40] 40 #[v, .slice (some ⟨g, 0, none⟩) ys.length cap]).run Tryz.prog w = .ok v' w' ∧ Own w' base v' (xs ++ ys) ∧ w.grownBy w' v.ownBlock := by
  obtain ⟨i, hi, h1, h2, h3⟩ : ∃ i, Tryz.prog.info? 3 = some i ∧ i.zero = some (.int .i64 0) ∧ i.bytes = 8 ∧ i.size = 1 := ⟨Tryz.t3, Tryz.type3, rfl, rfl, rfl⟩
  obtain ⟨v', w', hr, ho, hg, _⟩ := run_append_own (P := Tryz.prog) w base 40 40 3 i (.int .i64 0) 1 8 Tryz.underlying40 hi h1 h3 h2 rfl (by decide) v xs.length (intsV xs) h ⟨g, 0, none⟩ ys.length cap (intsV ys) (by simp [intsV]) (fun j u hu => by
      have hj : j < ys.length := by have := (List.getElem?_eq_some_iff.1 hu).1; simpa [intsV] using this
      rw [Addr.add_mid, Nat.zero_add, hB.cell j hj, ← hu]
      simp [intsV, hj]) (intsV_one ys) (by unfold maxLen; omega) (by omega) hb
  refine ⟨v', w', hr, ?_, hg⟩
  unfold Own
  rw [List.length_append, intsV_append]
  exact ho
theorem wpList_join {ops : Array Oper} {rest : List Oper} {o : Oper} {a : Act} {w : World} {Q : Exit → Act → World → Prop} (hgd : o.guard = none) (s x : Operand) (ho : o.op = .call { callee := .builtin .append, args := #[s, x], argTypes := #[40, 40] }) (hty : o.type = 40)
    (base : Nat) (v : Value) (xs : List Int) (hs : a.eval s = v) (hown : Own w base v xs) (g n cap : Nat) (ys : List Int) (hx : a.eval x = .slice (some ⟨g, 0, none⟩) n cap) (hyn : ys.length = n) (hB : Blk w g ys) (hb : base ≤ w.heap.size) (hn : xs.length + ys.length ≤ 1000000)
    (h : ∀ v' w', Own w' base v' (xs ++ ys) → w.grownBy w' v.ownBlock → wpList Tryz.prog ops Q rest (a.put o.dst v') w') : wpList Tryz.prog ops Q (o :: rest) a w :=
  wpList_plain hgd fun _ hK => by
    subst hyn
    obtain ⟨v', w', hr, h2, h3⟩ := hown.append g cap ys hB hb hn
    unfold Oper.wp execOp
    simp only [ho, hty, resolve, invoke, builtin, Sem.run_bind, Sem.run_pure, Result.andThen_ok, List.map_toArray, List.map_cons, List.map_nil, hs, hx, hr]
    exact hK _ _ (h v' w' h2 h3)
theorem Own.grown {w w0 w' : World} {base : Nat} {v : Value} {xs : List Int} (h : Own w base v xs) (hk : Keeps (fun _ => False) w0 w) (hg : w.grownBy w' v.ownBlock) (hb : w0.heap.size ≤ base) : Keeps (fun _ => False) w0 w' :=
  hk.grown hg (fun k hk e => by have := (World.ownsRow.lt h k e).1; omega)

theorem owns_down {w : World} {base base' : Nat} {v : Value} {xs : List Int} (h : Own w base v xs) (hb : base' ≤ base) : Own w base' v xs := by
  refine ⟨h.1, ?_⟩
  rcases h.2 with h2 | ⟨g, cap, cur, hv, hg, r⟩
  · exact .inl h2
  · exact .inr ⟨g, cap, cur, hv, by omega, r⟩

/-! ### Grow, of nil -/
set_option maxRecDepth 1000000 in
theorem run_zeros (w : World) (ty : TypeId) (n : Nat) (h1 : 1 ≤ n) (hn : n ≤ 1000000) : ∃ cap cur, (Builtin.append_ #[40, 3] ty #[.slice none 0 0, .int .i64 (n : Int)]).run Tryz.prog w = .ok (.slice (some ⟨w.heap.size, 0, none⟩) n cap) (w.drew.alloc (.cells cur 3)) ∧ cur.size = cap ∧ cap ≤ maxLen := by
  obtain ⟨i, hi, e1, e2, e3⟩ : ∃ i, Tryz.prog.info? 3 = some i ∧ i.zero = some (.int .i64 0) ∧ i.bytes = 8 ∧ i.size = 1 := ⟨Tryz.t3, Tryz.type3, rfl, rfl, rfl⟩
  have hr := Lib.run_append_nil_zeros (P := Tryz.prog) w 40 3 ty 3 i (.int .i64 0) .i64 .i64 Tryz.underlying40 Tryz.underlying3 hi e1 n (by omega) (by omega) (by omega) (by rw [e2]; omega)
  have hg := grownCap_ge w n 0 3
  refine ⟨_, _, hr, ?_, grownCap_le_maxLen w n 0 3 (by unfold maxLen; omega)⟩
  simp [Builtin.zeroCells, Value.cells]
  omega

set_option maxHeartbeats 4000000 in
set_option maxRecDepth 1000000 in
theorem grow_ok (n : Nat) (w : World) (h1 : 1 ≤ n) (hn : n ≤ 1000) :
    Calls Tryz.prog 121 #[.slice none 0 0, .int .i64 (n : Int)] w fun e w' => ∃ v, e = .returned v ∧ Own w' w.heap.size v [] ∧ Keeps (fun _ => False) w w' := by
  obtain ⟨cap, cur, hr, hcs, hcm⟩ := run_zeros w 40 n h1 (by omega)
  have HR : Hid ((Builtin.append_ #[40, 3] 40 #[.slice none 0 0, .int .i64 (n : Int)]).run Tryz.prog w = .ok (.slice (some ⟨w.heap.size, 0, none⟩) n cap) (w.drew.alloc (.cells cur 3))) := hr
  have HC : Hid (cur.size = cap ∧ cap ≤ maxLen) := ⟨hcs, hcm⟩
  clear hr hcs hcm
  have hz : ¬ ((n : Int) < 0) := by omega
  have hz1 : (0 : Int) < (n : Int) := by omega
  go_enter Tryz.func121, Tryz.ntmps121
  go_wp2_with (at_builtin; refine Lib.wpList_append_run _ rfl _ _ _ _ rfl _ _ rfl rfl _ _ HR.out ?_)
  go_ret
  refine ⟨_, rfl, ⟨rfl, .inr ⟨w.heap.size, cap, cur, rfl, Nat.le_refl _, heap_alloc_new _ _, Nat.zero_le _, HC.out.2, by rw [HC.out.1]; omega, rfl⟩⟩, ((Keeps.refl _ w).alloc _).drew⟩

/-! ### Concat -/
/-- A row among rows: its block, and what it holds. -/
abbrev Rw := Nat × List Int
def rwV (r : Rw) : Value := .slice (some ⟨r.1, 0, none⟩) r.2.length r.2.length
def tot (rs : List Rw) (i : Nat) : Nat := ((rs.take i).map (fun r => r.2.length)).sum
def cat (rs : List Rw) (i : Nat) : List Int := (rs.take i).flatMap (fun r => r.2)
theorem cat_length (rs : List Rw) (i : Nat) : (cat rs i).length = tot rs i := by simp [cat, tot, List.length_flatMap]
theorem take_snocR (rs : List Rw) (i : Nat) (h : i < rs.length) : rs.take (i + 1) = rs.take i ++ [rs[i]] := by rw [List.take_add_one, List.getElem?_eq_getElem h]; rfl
theorem tot_next (rs : List Rw) (i : Nat) (h : i < rs.length) : tot rs (i + 1) = tot rs i + (rs[i]).2.length := by unfold tot; rw [take_snocR rs i h, List.map_append, List.sum_append]; rfl
theorem cat_next (rs : List Rw) (i : Nat) (h : i < rs.length) : cat rs (i + 1) = cat rs i ++ (rs[i]).2 := by unfold cat; rw [take_snocR rs i h, List.flatMap_append, List.flatMap_cons, List.flatMap_nil, List.append_nil]
theorem tot_le (rs : List Rw) : ∀ i j, i ≤ j → tot rs i ≤ tot rs j := by
  intro i j h
  induction j with
  | zero => obtain rfl : i = 0 := by omega
            exact Nat.le_refl _
  | succ j ih =>
    by_cases e : i = j + 1
    · rw [e]; exact Nat.le_refl _
    · by_cases hj : j < rs.length
      · rw [tot_next rs j hj]; have := ih (by omega); omega
      · have e1 : tot rs (j + 1) = tot rs j := by unfold tot; rw [List.take_of_length_le (by omega), List.take_of_length_le (by omega)]
        rw [e1]; exact ih (by omega)
/-- Block b is a row of rows. -/
def Sls (w : World) (b : Nat) (rs : List Rw) : Prop := w.heap[b]? = some (.cells (rs.map rwV).toArray 40 (0, 0)) ∧ ∀ r ∈ rs, Blk w r.1 r.2
theorem Sls.lt {w : World} {b : Nat} {rs : List Rw} (h : Sls w b rs) : b < w.heap.size := lt_of_heap h.1
theorem Sls.keptF {w w' : World} {b : Nat} {rs : List Rw} (h : Sls w b rs) (hk : Keeps (fun _ => False) w w') : Sls w' b rs :=
  ⟨(hk.block b h.lt (fun h => h)).trans h.1, fun r hr => (h.2 r hr).keptF hk⟩
theorem Sls.cell {w : World} {b : Nat} {rs : List Rw} (h : Sls w b rs) (i : Nat) (hi : i < rs.length) : w.cell? ⟨b, i, none⟩ = some (.slice (some ⟨(rs[i]).1, 0, none⟩) (rs[i]).2.length (rs[i]).2.length) :=
  cell_of_heap h.1 (by rw [List.getElem?_toArray, List.getElem?_map, List.getElem?_eq_getElem hi]; rfl)

set_option maxHeartbeats 4000000 in
set_option maxRecDepth 1000000 in
theorem concat_ok (b n : Nat) (rs : List Rw) (w : World) (hS : Sls w b rs) (hl : rs.length = n) (hn : n ≤ 1000) (ht : tot rs n ≤ 1000) (ht1 : 1 ≤ tot rs n) :
    Calls Tryz.prog 81 #[.slice (some ⟨b, 0, none⟩) n n] w fun e w' => ∃ v, e = .returned v ∧ Own w' w.heap.size v (cat rs n) ∧ Keeps (fun _ => False) w w' := by
  have HS : Hid (Sls w b rs ∧ rs.length = n) := ⟨hS, hl⟩
  have HG : Hid (∀ w, Calls Tryz.prog 121 #[.slice none 0 0, .int .i64 (tot rs n : Int)] w fun e w' => ∃ v, e = .returned v ∧ Own w' w.heap.size v [] ∧ Keeps (fun _ => False) w w') := fun w => grow_ok (tot rs n) w ht1 ht
  have HT : Hid (∀ i, i ≤ n → tot rs i ≤ 1000) := fun i hi => Nat.le_trans (tot_le rs i n hi) ht
  clear hS hl ht ht1
  go_enter Tryz.func81, Tryz.ntmps81
  go_wp2
  go_loopw [11, 3] (fun s11 s3 w' => ∃ i : Nat, i ≤ n ∧ s11 = .int .i64 (i : Int) ∧ s3 = .int .i64 (tot rs i : Int) ∧ w' = w) (fun s11 s3 w' => ((n : Int) - intOf s11).toNat)
  case atStart => exact ⟨0, by omega, rfl, rfl, rfl⟩
  case round =>
    obtain ⟨i, hi, rfl, rfl, hw⟩ := hrel
    obtain rfl := hw.symm
    clear hw
    by_cases hin : i < n
    · have hiz : (i : Int) < (n : Int) := by omega
      have hil : i < rs.length := by rw [HS.out.2]; exact hin
      have hc := HS.out.1.cell i hil
      have h1 := HT.out i hi
      have h2 := HT.out (i + 1) (by omega)
      have hN := tot_next rs i hil
      obtain ⟨T, hT⟩ : ∃ T, tot rs i = T := ⟨_, rfl⟩
      obtain ⟨L, hL⟩ : ∃ L, (rs[i]).2.length = L := ⟨_, rfl⟩
      obtain ⟨g, hg⟩ : ∃ g, (rs[i]).1 = g := ⟨_, rfl⟩
      rw [hT] at h1
      rw [hT, hL] at hN
      rw [hN] at h2
      rw [hL, hg] at hc
      rw [hT]
      have HN : Hid (tot rs (i + 1) = T + L) := hN
      have hz : ¬ ((T : Int) + (L : Int) < 0) := by omega
      clear hN hT hL hg hil
      go_wp2
      go_roundw
      case rel => exact ⟨i + 1, by omega, by push_cast; rfl, by rw [HN.out]; push_cast; rfl, trivial⟩
      case measure => simp [intOf]; omega
    · obtain rfl : i = n := by omega
      have h1 := HT.out i hi
      go_wp2_with (first
        | (go_at_call 121; refine (HG.out _).mono ?_; rintro e w2 ⟨v, rfl, hO, hK⟩; have HW : Hid (Own w2 w.heap.size v (cat rs 0) ∧ Keeps (fun _ => False) w w2) := ⟨hO, hK⟩; clear hO hK))
      clear HG h1
      go_loopw [27, 6] (fun s27 s6 w' => ∃ (j : Nat) (u : Value), j ≤ i ∧ s27 = .int .i64 (j : Int) ∧ s6 = u ∧ Hid (Own w' w.heap.size u (cat rs j) ∧ Keeps (fun _ => False) w w')) (fun s27 s6 w' => ((i : Int) - intOf s27).toNat)
      case atStart => exact ⟨0, v, by omega, rfl, rfl, HW⟩
      case round =>
        clear HW
        obtain ⟨j, u, hj, rfl, hu, HW⟩ := hrel
        obtain rfl := hu.symm
        clear hu
        by_cases hjn : j < i
        · have hjz : (j : Int) < (i : Int) := by omega
          have hjl : j < rs.length := by rw [HS.out.2]; exact hjn
          have hc := (HS.out.1.keptF HW.out.2).cell j hjl
          have HB : Hid (Blk wr (rs[j]).1 (rs[j]).2) := (HS.out.1.keptF HW.out.2).2 _ (List.getElem_mem hjl)
          have HN : Hid (cat rs (j + 1) = cat rs j ++ (rs[j]).2) := cat_next rs j hjl
          have HL : Hid ((cat rs j).length + ((rs[j]).2).length ≤ 1000000) := by
            have e := HT.out (j + 1) (by omega)
            rw [← cat_length, cat_next rs j hjl, List.length_append] at e
            show _ ≤ _
            omega
          generalize rs[j] = r at *
          go_wp2_with (first
            | (refine wpList_join rfl _ _ rfl rfl w.heap.size u (cat rs j) rfl HW.out.1 r.1 _ r.2.length r.2 rfl rfl HB.out HW.out.2.size HL.out ?_; intro v' w3 hO hG; have HW3 : Hid (Own w3 w.heap.size v' (cat rs (j + 1)) ∧ Keeps (fun _ => False) w w3) := ⟨(by rw [HN.out]; exact hO), HW.out.1.grown HW.out.2 hG (Nat.le_refl _)⟩; clear hO hG))
          go_roundw
          case rel => exact ⟨j + 1, v', by omega, by push_cast; rfl, rfl, HW3⟩
          case measure => simp [intOf]; omega
        · obtain rfl : j = i := by omega
          go_wp2
          go_ret
          exact ⟨u, rfl, HW.out⟩

/-- The lengths of the fixed codes. -/
def fixL : List Int := List.replicate 144 8 ++ List.replicate 112 9 ++ List.replicate 24 7 ++ List.replicate 8 8
theorem fixL_length : fixL.length = 288 := by unfold fixL; simp only [List.length_append, List.length_replicate]
def fixR (g1 g2 g3 g4 : Nat) : List Rw := [(g1, List.replicate 144 8), (g2, List.replicate 112 9), (g3, List.replicate 24 7), (g4, List.replicate 8 8)]
theorem fixR_tot (g1 g2 g3 g4 : Nat) : tot (fixR g1 g2 g3 g4) 4 = 288 := by
  unfold tot fixR
  simp only [List.take, List.map, List.length_replicate, List.sum_cons, List.sum_nil]
  rfl
theorem fixR_cat (g1 g2 g3 g4 : Nat) : cat (fixR g1 g2 g3 g4) 4 = fixL := by
  unfold cat fixR fixL
  simp only [List.take, List.flatMap_cons, List.flatMap_nil, List.append_nil, List.append_assoc]
theorem fixR_sls (w : World) (g1 g2 g3 g4 : Nat) (h1 : Blk w g1 (List.replicate 144 8)) (h2 : Blk w g2 (List.replicate 112 9)) (h3 : Blk w g3 (List.replicate 24 7)) (h4 : Blk w g4 (List.replicate 8 8)) :
    Sls (w.alloc (.cells #[.slice (some ⟨g1, 0, none⟩) 144 144, .slice (some ⟨g2, 0, none⟩) 112 112, .slice (some ⟨g3, 0, none⟩) 24 24, .slice (some ⟨g4, 0, none⟩) 8 8] 40)) w.heap.size (fixR g1 g2 g3 g4) := by
  have hk := fun o => (Keeps.refl (fun _ => False) w).alloc o
  refine ⟨?_, ?_⟩
  · rw [heap_alloc_new]
    unfold fixR
    simp only [List.map, rwV, List.length_replicate]
  · intro r hr
    unfold fixR at hr
    simp only [List.mem_cons, List.not_mem_nil, or_false] at hr
    rcases hr with rfl | rfl | rfl | rfl
    · exact h1.keptF (hk _)
    · exact h2.keptF (hk _)
    · exact h3.keptF (hk _)
    · exact h4.keptF (hk _)

set_option maxHeartbeats 4000000 in
set_option maxRecDepth 1000000 in
theorem fixed_ok (w : World) : Calls Tryz.prog 40 #[] w fun e w' => ∃ v, e = .returned v ∧ Own w' w.heap.size v fixL ∧ Keeps (fun _ => False) w w' := by
  have HR : Hid (∀ (v : Int) (b c : Nat) (w : World), Blk w b [v] → 1 ≤ c → c ≤ 300 → Calls Tryz.prog 82 #[.slice (some ⟨b, 0, none⟩) 1 1, .int .i64 (c : Int)] w fun e w' => ∃ g, e = .returned (.slice (some ⟨g, 0, none⟩) c c) ∧ Keeps (fun _ => False) w w' ∧ w.heap.size ≤ g ∧ Blk w' g (List.replicate c v)) := fun v b c w h1 h2 h3 => repeat_ok v b c w h1 h2 h3
  have HC : Hid (∀ (b : Nat) (rs : List Rw) (w : World), Sls w b rs → rs.length = 4 → tot rs 4 = 288 → Calls Tryz.prog 81 #[.slice (some ⟨b, 0, none⟩) 4 4] w fun e w' => ∃ v, e = .returned v ∧ Own w' w.heap.size v (cat rs 4) ∧ Keeps (fun _ => False) w w') := fun b rs w h1 h2 h3 => concat_ok b 4 rs w h1 h2 (by decide) (by omega) (by omega)
  go_enter Tryz.func40, Tryz.ntmps40
  go_wp2_with (first
    | (go_at_call 82; (fail_if_success (clear H1)); refine (HR.out 8 _ 144 _ (Blk.lit _ [8]) (by decide) (by decide)).mono ?_; rintro e w1 ⟨g1, rfl, hK, hg, hB⟩; have H1 : Hid (Blk w1 g1 (List.replicate 144 8) ∧ Keeps (fun _ => False) w w1) := ⟨hB, ((Keeps.refl _ w).alloc _).trans hK (fun _ _ h => h)⟩; clear hK hg hB)
    | (go_at_call 82; (fail_if_success (clear H2)); refine (HR.out 9 _ 112 _ (Blk.lit _ [9]) (by decide) (by decide)).mono ?_; rintro e w2 ⟨g2, rfl, hK, hg, hB⟩; have H2 : Hid (Blk w2 g1 (List.replicate 144 8) ∧ Blk w2 g2 (List.replicate 112 9) ∧ Keeps (fun _ => False) w w2) := ⟨H1.out.1.keptF (((Keeps.refl _ w1).alloc _).trans hK (fun _ _ h => h)), hB, H1.out.2.trans (((Keeps.refl _ w1).alloc _).trans hK (fun _ _ h => h)) (fun _ _ h => h)⟩; clear hK hg hB)
    | (go_at_call 82; (fail_if_success (clear H3)); refine (HR.out 7 _ 24 _ (Blk.lit _ [7]) (by decide) (by decide)).mono ?_; rintro e w3 ⟨g3, rfl, hK, hg, hB⟩; have H3 : Hid (Blk w3 g1 (List.replicate 144 8) ∧ Blk w3 g2 (List.replicate 112 9) ∧ Blk w3 g3 (List.replicate 24 7) ∧ Keeps (fun _ => False) w w3) := ⟨H2.out.1.keptF (((Keeps.refl _ w2).alloc _).trans hK (fun _ _ h => h)), H2.out.2.1.keptF (((Keeps.refl _ w2).alloc _).trans hK (fun _ _ h => h)), hB, H2.out.2.2.trans (((Keeps.refl _ w2).alloc _).trans hK (fun _ _ h => h)) (fun _ _ h => h)⟩; clear hK hg hB)
    | (go_at_call 82; refine (HR.out 8 _ 8 _ (Blk.lit _ [8]) (by decide) (by decide)).mono ?_; rintro e w4 ⟨g4, rfl, hK, hg, hB⟩; have H4 : Hid (Blk w4 g1 (List.replicate 144 8) ∧ Blk w4 g2 (List.replicate 112 9) ∧ Blk w4 g3 (List.replicate 24 7) ∧ Blk w4 g4 (List.replicate 8 8) ∧ Keeps (fun _ => False) w w4) := ⟨H3.out.1.keptF (((Keeps.refl _ w3).alloc _).trans hK (fun _ _ h => h)), H3.out.2.1.keptF (((Keeps.refl _ w3).alloc _).trans hK (fun _ _ h => h)), H3.out.2.2.1.keptF (((Keeps.refl _ w3).alloc _).trans hK (fun _ _ h => h)), hB, H3.out.2.2.2.trans (((Keeps.refl _ w3).alloc _).trans hK (fun _ _ h => h)) (fun _ _ h => h)⟩; clear hK hg hB)
    | (go_at_call 81; refine (HC.out w4.heap.size (fixR g1 g2 g3 g4) _ (fixR_sls w4 g1 g2 g3 g4 H4.out.1 H4.out.2.1 H4.out.2.2.1 H4.out.2.2.2.1) rfl (fixR_tot g1 g2 g3 g4)).mono ?_; rintro e w5 ⟨v, rfl, hO, hK⟩; rw [fixR_cat] at hO; have H5 : Hid (Own w5 w.heap.size v fixL ∧ Keeps (fun _ => False) w w5) := ⟨owns_down hO (by have := (H4.out.2.2.2.2.alloc (Obj.cells #[.slice (some ⟨g1, 0, none⟩) 144 144, .slice (some ⟨g2, 0, none⟩) 112 112, .slice (some ⟨g3, 0, none⟩) 24 24, .slice (some ⟨g4, 0, none⟩) 8 8] 40)).size; exact this), H4.out.2.2.2.2.trans (((Keeps.refl _ w4).alloc _).trans hK (fun _ _ h => h)) (fun _ _ h => h)⟩; clear hO hK))
  go_ret
  exact ⟨v, rfl, H5.out⟩

end Go.Proofs.YtebjooebdehlnaaGreat.Tb

namespace Go.Proofs.YtebjooebdehlnaaGreat.Bt
open Go.RowKit
set_option linter.unusedVariables false
set_option linter.unusedSimpArgs false

theorem Tryz.info5 : (Tryz.prog.info? 5).map (fun i => (i.zero, i.size, i.bytes)) = some (some (.int .u8 0), 1, 1) := by kernel_rfl

/-- What the store into the byte makes of it. -/
def orByte (y : Nat) (x : Int) (r : Nat) : Int := bits BinOp.or IntKind.u8 (y : Int) (wrap64 (x * 2 ^ r) % 256)

set_option maxHeartbeats 1000000 in
set_option maxRecDepth 100000 in
theorem add_in (b g m cap n q r y : Nat) (x : Int) (w : World) (hnq : (n : Int) / 8 = (q : Int)) (hnr : (n : Int) % 8 = (r : Int)) (htq : (n : Int).tdiv 8 = (q : Int)) (htr : (n : Int).tmod 8 = (r : Int)) (hwq : IntKind.i64.wrap (q : Int) = q) (hwr : IntKind.i64.wrap (r : Int) = r) (hr0 : ((r : Int) == 0) = false) (hr : (r : Int) < 8) (hr1 : (0 : Int) ≤ r) (hq0 : (0 : Int) ≤ q) (hq : (q : Int) < m) (hmc : m ≤ cap) (hcap : m ≤ 100000) (hn1 : (n : Int) ≤ 100000) (hx0 : 0 ≤ x) (hx1 : x ≤ 1) (hbg : b ≠ g)
    (h0 : w.cell? ⟨b, 0, none⟩ = some (.slice (some ⟨g, 0, none⟩) m cap)) (h1 : w.cell? ⟨b, 1, none⟩ = some (.int .i64 n))
    (h2 : w.cell? ⟨g, q, none⟩ = some (.int .u8 y)) (f1 : w.frozen? ⟨b, 1, none⟩ = false) (f2 : w.frozen? ⟨g, q, none⟩ = false) :
    Calls Tryz.prog 75 #[.pointer (some ⟨b, 0, none⟩), .int .i64 x] w fun e w' => e = .returned (.tuple #[]) ∧
      w' = ((w.setCell ⟨g, q, none⟩ (.int .u8 (orByte y x r))).setCell ⟨b, 1, none⟩ (.int .i64 (n + 1))).drew := by
  go_enter Tryz.func75, Tryz.ntmps75
  go_wp2
  go_region
  go_wp2
  go_end0
  exact ⟨rfl, rfl⟩


set_option maxHeartbeats 1000000 in
set_option maxRecDepth 100000 in
theorem add_new (b n q cap0 : Nat) (a : Option Addr) (xs : List Value) (x : Int) (w : World) (hnq : (n : Int) / 8 = (q : Int)) (hnr : (n : Int) % 8 = 0) (htq : (n : Int).tdiv 8 = (q : Int)) (htr : (n : Int).tmod 8 = 0) (hwq : IntKind.i64.wrap (q : Int) = q) (hq0 : (0 : Int) ≤ q) (hq : (q : Int) < q + 1) (hcap : q ≤ 100000) (hn1 : (n : Int) ≤ 100000) (hx0 : 0 ≤ x) (hx1 : x ≤ 1)
    (hb : b < w.heap.size) (h0 : w.cell? ⟨b, 0, none⟩ = some (.slice a q cap0)) (h1 : w.cell? ⟨b, 1, none⟩ = some (.int .i64 n))
    (f0 : w.frozen? ⟨b, 0, none⟩ = false) (f1 : w.frozen? ⟨b, 1, none⟩ = false) (hown : w.ownsRow (b + 1) 5 1 (.slice a q cap0) q xs) :
    Calls Tryz.prog 75 #[.pointer (some ⟨b, 0, none⟩), .int .i64 x] w fun e w' => e = .returned (.tuple #[]) ∧
      ∃ g cap w1, w1.ownsRow (b + 1) 5 1 (.slice (some ⟨g, 0, none⟩) (q + 1) cap) (q + 1) (xs ++ [.int .u8 0]) ∧ (w.alloc (.cells #[.int .u8 0] 5)).grownBy w1 (Value.slice a q cap0).ownBlock ∧
        ((Value.slice a q cap0).ownBlock = some g ∨ g = w.heap.size + 1) ∧ g < w1.heap.size ∧
        w' = (((w1.setCell ⟨b, 0, none⟩ (.slice (some ⟨g, 0, none⟩) (q + 1) cap)).setCell ⟨g, q, none⟩ (.int .u8 (bits BinOp.or IntKind.u8 0 x))).setCell ⟨b, 1, none⟩ (.int .i64 (n + 1))).drew := by
  obtain ⟨i0, hi, hz0, hz1, hz2⟩ := info_parts Tryz.info5
  have HO : Hid (w.ownsRow (b + 1) 5 1 (.slice a q cap0) q xs) := hown
  clear hown
  go_enter Tryz.func75, Tryz.ntmps75
  go_wp2_with (at_builtin; refine wpList_append_lies _ rfl (.tmp 14) (.tmp 15) 39 rfl (b + 1) 5 i0 (.int .u8 0) 1 1 Tryz.underlying39 hi hz0 hz1 hz2 rfl (by decide) (.slice a q cap0) q xs rfl (HO.out.alloc _) ⟨w.heap.size, 0, none⟩ 1 1 [.int .u8 0] rfl rfl (cell_one_new _ _ _) ?c2 (by decide) ?b1 ?b2 ?b3 (w.heap.size + 1) (by simp) ?grow)
  case c2 => intro u hu; simp at hu; subst hu; rfl
  case b1 => unfold maxLen; omega
  case b2 => omega
  case b3 => simp; omega
  case grow =>
    intro g cap w1 hown1 hgrow hat hlt
    have hbelow : ∀ k, (Value.slice a q cap0).ownBlock = some k → b + 1 ≤ k := fun k hk => (HO.out.lt k hk).1
    have hne : some b ≠ (Value.slice a q cap0).ownBlock := fun h => by have := hbelow b h.symm; omega
    have hgb : b + 1 ≤ g := by
      rcases hat with h | h
      · exact hbelow g h
      · omega
    have hbg : b ≠ g := by omega
    have k0 : w1.cell? ⟨b, 0, none⟩ = some (.slice a q cap0) := (hgrow.cell_far ⟨b, 0, none⟩ (by simp; omega) hne).trans (by rw [World.cell?_alloc_past _ _ _ hb]; exact h0)
    have k1 : w1.cell? ⟨b, 1, none⟩ = some (.int .i64 n) := (hgrow.cell_far ⟨b, 1, none⟩ (by simp; omega) hne).trans (by rw [World.cell?_alloc_past _ _ _ hb]; exact h1)
    have e0 : w1.frozen? ⟨b, 0, none⟩ = false := (hgrow.frozen_far ⟨b, 0, none⟩ (by simp; omega) hne).trans (by rw [World.frozen?_alloc_past _ _ _ hb]; exact f0)
    have e1 : w1.frozen? ⟨b, 1, none⟩ = false := (hgrow.frozen_far ⟨b, 1, none⟩ (by simp; omega) hne).trans (by rw [World.frozen?_alloc_past _ _ _ hb]; exact f1)
    have hlx : xs.length = q := by have := HO.out.1; omega
    obtain ⟨k2, e2⟩ := owns_cell hown1 q (.int .u8 0) (by rw [← hlx]; simp)
    have HO1 : Hid (w1.ownsRow (b + 1) 5 1 (.slice (some ⟨g, 0, none⟩) (q + 1) cap) (q + 1) (xs ++ [.int .u8 0])) := hown1
    have HG : Hid ((w.alloc (.cells #[.int .u8 0] 5)).grownBy w1 (Value.slice a q cap0).ownBlock) := hgrow
    have HA : Hid ((Value.slice a q cap0).ownBlock = some g ∨ g = w.heap.size + 1) := hat
    clear hown1 hgrow hat hbelow hne h0 h1 f0 f1 HO hlx
    go_wp2
    go_region
    go_wp2
    go_end0
    refine ⟨rfl, g, cap, w1, HO1.out, HG.out, HA.out, hlt, ?_⟩
    rfl


theorem orByte_eq (y r : Nat) (x : Bool) (hy : y < 2 ^ r) (hr : r < 8) : orByte y (x.toNat : Int) r = ((y + 2 ^ r * x.toNat : Nat) : Int) := by
  have hp : (2 : Nat) ^ r ≤ 128 := Nat.pow_le_pow_right (by decide) (show r ≤ 7 by omega)
  have e : wrap64 ((x.toNat : Int) * 2 ^ r) % 256 = ((2 ^ r * x.toNat : Nat) : Int) := by
    have e2 : ((x.toNat : Int) * 2 ^ r) = ((2 ^ r * x.toNat : Nat) : Int) := by push_cast; rw [Int.mul_comm]
    have hb : 2 ^ r * x.toNat ≤ 128 := by cases x <;> simp <;> omega
    rw [e2]
    generalize 2 ^ r * x.toNat = z at hb
    simp only [wrap64]
    omega
  unfold orByte
  rw [e, u8_or_nat _ _ (by omega) (by cases x <;> simp <;> omega)]
  congr 1
  rw [Nat.or_comm, ← Nat.two_pow_add_eq_or_of_lt hy]; omega

theorem add_any (b : Nat) (o : Option Nat) (L : List Bool) (x : Bool) (w : World) (hL : L.length < 65536) (hW : Wr 127 w b o L) :
    Calls Tryz.prog 75 #[.pointer (some ⟨b, 0, none⟩), .int .i64 (x.toNat : Int)] w fun e w' => e = .returned (.tuple #[]) ∧ Onto 127 w w' b o (L ++ [x]) := by
  have hblt := hW.lt
  have hown0 := hW.own
  obtain ⟨a, cap0, hb, hown, hob⟩ := hW
  have c0 := cell_of_heap (i := 0) hb rfl
  have c1 := cell_of_heap (i := 1) hb rfl
  have g0 := frozen_of_heap (i := 0) hb
  have g1 := frozen_of_heap (i := 1) hb
  have hx0 : (0 : Int) ≤ (x.toNat : Int) := by omega
  have hx1 : (x.toNat : Int) ≤ 1 := by cases x <;> decide
  obtain ⟨q, r, hqr, hr8⟩ : ∃ q r, L.length = 8 * q + r ∧ r < 8 := ⟨L.length / 8, L.length % 8, by omega, by omega⟩
  have hwq : IntKind.i64.wrap (q : Int) = q := by simp [IntKind.wrap, IntKind.bits, IntKind.signed]; omega
  by_cases hr0 : r = 0
  · subst hr0
    have hpl : (pack L).length = q := by rw [pack_length]; omega
    rw [hpl] at c0 hown hob hb
    refine (add_new b L.length q cap0 a _ _ w (by omega) (by omega) (by rw [Int.tdiv_eq_ediv_of_nonneg (by omega)]; omega) (by rw [Int.tmod_eq_emod_of_nonneg (by omega)]; omega) hwq (by omega) (by omega) (by omega) (by omega) hx0 hx1 hblt c0 c1 g0 g1 hown).mono ?_
    rintro e w' ⟨rfl, g, cap, w1, ho1, hgr, hat, hlt, rfl⟩
    have hlow : ∀ k, (Value.slice a q cap0).ownBlock = some k → b + 1 ≤ k := fun k hk => (hown.lt k hk).1
    have hne : some b ≠ (Value.slice a q cap0).ownBlock := fun h => by have := hlow b h.symm; omega
    have hgb : b + 1 ≤ g := by
      rcases hat with h | h
      · exact hlow g h
      · omega
    have hb1 : w1.heap[b]? = some (.cells #[.slice a q cap0, .int .i64 L.length] 127 (0, 0)) := (hgr.block b (by simp; omega) hne).trans ((Below.heap_alloc _ _ _ hblt).trans hb)
    have hbit : bits BinOp.or IntKind.u8 0 (x.toNat : Int) = (x.toNat : Int) := by cases x <;> decide
    have hpk : pack (L ++ [x]) = pack L ++ [x.toNat] := pack_snoc_new L x q (by omega)
    have hxl : ((pack L).map byteV).length = q := by simp [hpl]
    rw [hbit]
    refine ⟨rfl, some g, ⟨some ⟨g, 0, none⟩, cap, ?_, ?_, rfl⟩, ?_, ?_⟩
    · show (((w1.setCell ⟨b, 0, none⟩ _).setCell ⟨g, q, none⟩ _).setCell ⟨b, 1, none⟩ _).heap[b]? = _
      have h1 := heap_setCell_same (i := 0) hb1 (.slice (some ⟨g, 0, none⟩) (q + 1) cap)
      have h2 : ((w1.setCell ⟨b, 0, none⟩ (.slice (some ⟨g, 0, none⟩) (q + 1) cap)).setCell ⟨g, q, none⟩ (.int .u8 (x.toNat : Int))).heap[b]? = _ := (Below.heap_setCell _ _ _ _ (by simp; omega)).trans h1
      rw [heap_setCell_same (i := 1) h2]
      simp [hpk, hpl]
    · rw [hpk]
      have h1 := owns_far ho1 (p := ⟨b, 0, none⟩) (by simp [Value.ownBlock]; omega) (.slice (some ⟨g, 0, none⟩) (q + 1) cap)
      have h2 := owns_set h1 q (.int .u8 (x.toNat : Int))
      have h3 := owns_far h2 (p := ⟨b, 1, none⟩) (by simp [Value.ownBlock]; omega) (.int .i64 ((L.length : Int) + 1))
      rw [List.set_append_right _ _ (by omega), hxl, Nat.sub_self] at h3
      simp only [List.set_cons_zero] at h3
      rw [List.map_append, List.length_append, hpl]
      exact h3
    · rcases hat with h | h
      · exact .inl (by rw [← hob]; exact h.symm)
      · exact .inr ⟨g, rfl, by omega⟩
    · refine Keeps.drew (((((Keeps.refl _ w).alloc _).grown hgr ?_).setCell ?_ _).setCell ?_ _ |>.setCell ?_ _)
      · intro k _ hk; exact .inr (by rw [← hob]; exact hk)
      · intro _; exact .inl rfl
      · intro hg
        rcases hat with h | h
        · exact .inr (by rw [← hob]; exact h)
        · simp at hg; omega
      · intro _; exact .inl rfl
  · have hpl : (pack L).length = q + 1 := by rw [pack_length]; omega
    rw [hpl] at c0 hown hob hb
    obtain ⟨g, cap1, hv, hgb, hglt⟩ := hown.form (by omega)
    cases hv
    have hy : ((pack L).map byteV)[q]? = some (byteV (byteAt L q)) := by rw [List.getElem?_map, pack_get L q (by omega)]; rfl
    obtain ⟨k2, e2⟩ := owns_cell hown q _ hy
    have hwr : IntKind.i64.wrap (r : Int) = r := by simp [IntKind.wrap, IntKind.bits, IntKind.signed]; omega
    have hmc : q + 1 ≤ cap0 := by
      obtain ⟨_, h | ⟨g', c', cur, hv, _, _, hn, _⟩⟩ := hown
      · cases h.1
      · cases hv; exact hn
    refine (add_in b g (q + 1) cap0 L.length q r (byteAt L q) _ w (by omega) (by omega) (by rw [Int.tdiv_eq_ediv_of_nonneg (by omega)]; omega) (by rw [Int.tmod_eq_emod_of_nonneg (by omega)]; omega) hwq hwr (beq_eq_false_iff_ne.2 (by omega)) (by omega) (by omega) (by omega) (by omega) hmc (by omega) (by omega) hx0 hx1 (by omega) c0 c1 k2 g1 e2).mono ?_
    rintro e w' ⟨rfl, rfl⟩
    rw [orByte_eq _ r x (byteAt_small L q r hqr hr8) hr8]
    have hpk : pack (L ++ [x]) = (pack L).set q (byteAt L q + 2 ^ r * x.toNat) := pack_snoc_in L x q r hqr (by omega) hr8
    refine ⟨rfl, o, ⟨some ⟨g, 0, none⟩, cap0, ?_, ?_, ?_⟩, .inl rfl, ?_⟩
    · show ((w.setCell ⟨g, q, none⟩ _).setCell ⟨b, 1, none⟩ _).heap[b]? = _
      have h2 : (w.setCell ⟨g, q, none⟩ (.int .u8 ((byteAt L q + 2 ^ r * x.toNat : Nat) : Int))).heap[b]? = _ := (Below.heap_setCell _ _ _ _ (by simp; omega)).trans hb
      rw [heap_setCell_same (i := 1) h2]
      simp [hpk, hpl]
    · have h2 := owns_set hown q (byteV (byteAt L q + 2 ^ r * x.toNat))
      have h3 := owns_far h2 (p := ⟨b, 1, none⟩) (by simp [Value.ownBlock]; omega) (.int .i64 ((L.length : Int) + 1))
      rw [← List.map_set, ← hpk] at h3
      rw [show (pack (L ++ [x])).length = q + 1 by rw [hpk]; simp [hpl]]
      exact h3
    · rw [← hob]; rfl
    · refine Keeps.drew (((Keeps.refl _ w).setCell ?_ _).setCell ?_ _)
      · intro _; exact .inr (by rw [← hob]; rfl)
      · intro _; exact .inl rfl

end Go.Proofs.YtebjooebdehlnaaGreat.Bt

namespace Go.Proofs.YtebjooebdehlnaaGreat.Bt
open Go.RowKit
set_option linter.unusedVariables false
set_option linter.unusedSimpArgs false

set_option maxHeartbeats 400000 in
theorem new_any (w : World) :
    Calls Tryz.prog 72 #[] w fun e w' => e = .returned (.pointer (some ⟨w.heap.size, 0, none⟩)) ∧ w' = w.alloc (.cells #[.slice none 0 0, .int .i64 0] 127) := by
  go_enter Tryz.func72, Tryz.ntmps72
  go_wp2
  go_ret
  exact ⟨rfl, rfl⟩

set_option maxHeartbeats 400000 in
theorem of_any (s : ByteArray) (w : World) :
    Calls Tryz.prog 28 #[.string s] w fun e w' => e = .returned (.pointer (some ⟨w.heap.size, 0, none⟩)) ∧ w' = w.alloc (.cells #[.string s, .int .i64 0] 121) := by
  go_enter Tryz.func28, Tryz.ntmps28
  go_wp2
  go_ret
  exact ⟨rfl, rfl⟩

set_option maxHeartbeats 400000 in
theorem num_any (n : Int) (w : World) :
    Calls Tryz.prog 14 #[.int .i64 n] w fun e w' => e = .returned (.int .i64 n) ∧ w' = w := by
  go_enter Tryz.func14, Tryz.ntmps14
  go_wp2
  go_ret
  exact ⟨rfl, rfl⟩

set_option maxHeartbeats 400000 in
theorem whole_any (n : Int) (w : World) (h0 : 0 ≤ n) (h1 : n ≤ 1125899906842624) :
    Calls Tryz.prog 70 #[.int .i64 n] w fun e w' => e = .returned (.int .i64 ((n + 7) / 8 * 8)) ∧ w' = w := by
  go_enter Tryz.func70, Tryz.ntmps70
  go_wp2
  go_ret
  exact ⟨rfl, rfl⟩

set_option maxHeartbeats 400000 in
theorem len_any (b : Nat) (n : Int) (w : World) (hc : w.cell? ⟨b, 1, none⟩ = some (.int .i64 n)) :
    Calls Tryz.prog 193 #[.pointer (some ⟨b, 0, none⟩)] w fun e w' => e = .returned (.int .i64 n) ∧ w' = w := by
  go_enter Tryz.func193, Tryz.ntmps193
  go_wp2
  go_ret
  exact ⟨rfl, rfl⟩

set_option maxHeartbeats 400000 in
theorem at_any (b : Nat) (n : Int) (w : World) (hc : w.cell? ⟨b, 1, none⟩ = some (.int .i64 n)) :
    Calls Tryz.prog 31 #[.pointer (some ⟨b, 0, none⟩)] w fun e w' => e = .returned (.int .i64 n) ∧ w' = w := by
  go_enter Tryz.func31, Tryz.ntmps31
  go_wp2
  go_ret
  exact ⟨rfl, rfl⟩

end Go.Proofs.YtebjooebdehlnaaGreat.Bt

namespace Go.Proofs.YtebjooebdehlnaaGreat.Bt
open Go.RowKit
set_option linter.unusedVariables false
set_option linter.unusedSimpArgs false

set_option maxHeartbeats 1000000 in
set_option maxRecDepth 100000 in
theorem lowest_any (b : Nat) (o : Option Nat) (L : List Bool) (v k : Nat) (w : World) (hv : (v : Int) < 65536) (hk : (k : Int) ≤ 16) (hL : L.length + k ≤ 65536) (hW : Hid (Wr 127 w b o L)) :
    Calls Tryz.prog 74 #[.int .i64 v, .int .i64 k, .func (.func 75) #[.pointer (some ⟨b, 0, none⟩)] #[]] w fun e w' => e = .returned (.tuple #[]) ∧ Onto 127 w w' b o (L ++ bitsOf v k) := by
  go_enter Tryz.func74, Tryz.ntmps74
  go_wp2
  go_loopw [8] (fun i w' => ∃ j : Nat, j ≤ k ∧ i = .int .i64 j ∧ Onto 127 w w' b o (L ++ bitsOf v j)) (fun i _ => k - (intOf i).toNat)
  case atStart => exact ⟨0, Nat.zero_le _, rfl, by simpa [bitsOf] using ⟨o, hW.out, .inl rfl, Keeps.refl _ _⟩⟩
  case round =>
    obtain ⟨j, hj, rfl, hon⟩ := hrel
    obtain ⟨o', hw1, ho1, hk1⟩ := hon
    have HW1 : Hid (Wr 127 wr b o' (L ++ bitsOf v j)) := hw1
    have HO1 : Hid (o' = o ∨ ∃ g, o' = some g ∧ w.heap.size ≤ g) := ho1
    have HK1 : Hid (Keeps (fun k => k = b ∨ o = some k) w wr) := hk1
    clear hw1 ho1 hk1
    by_cases hlt : j < k
    · go_wp2_with fail
      rw [i64_bit v j (by omega)]
      refine (add_any b o' _ (v.testBit j) wr (by simp [bitsOf_length]; omega) HW1.out).mono ?_
      rintro e w2 ⟨rfl, hon2⟩
      have HN : Hid (Onto 127 w w2 b o (L ++ bitsOf v (j + 1))) := by
        have h := Onto.trans HO1.out HK1.out hon2
        rw [List.append_assoc, ← bitsOf_succ] at h
        exact h
      clear hon2
      go_wp2
      go_roundw
      case rel => exact ⟨j + 1, by omega, by go_num, HN.out⟩
      case measure => simp [intOf]; omega
    · go_wp2
      go_end0
      have : j = k := by omega
      subst this
      exact ⟨rfl, o', HW1.out, HO1.out, HK1.out⟩

/-- The k lowest bits of a number, the highest first. -/
def codeOf (v k : Nat) : List Bool := (bitsOf v k).reverse

theorem codeOf_length (v k : Nat) : (codeOf v k).length = k := by simp [codeOf, bitsOf_length]
theorem codeOf_take_succ (v k j : Nat) (h : j < k) : (codeOf v k).take (j + 1) = (codeOf v k).take j ++ [v.testBit (k - 1 - j)] := by
  rw [List.take_succ_eq_append_getElem (by rw [codeOf_length]; exact h)]
  congr 2
  simp [codeOf, bitsOf]

set_option maxHeartbeats 1000000 in
set_option maxRecDepth 100000 in
theorem highest_any (b : Nat) (o : Option Nat) (L : List Bool) (v k : Nat) (w : World) (hv : (v : Int) < 65536) (hk : (k : Int) ≤ 16) (hL : L.length + k ≤ 65536) (hW : Hid (Wr 127 w b o L)) :
    Calls Tryz.prog 129 #[.int .i64 v, .int .i64 k, .func (.func 75) #[.pointer (some ⟨b, 0, none⟩)] #[]] w fun e w' => e = .returned (.tuple #[]) ∧ Onto 127 w w' b o (L ++ codeOf v k) := by
  go_enter Tryz.func129, Tryz.ntmps129
  go_wp2
  go_loopw [8] (fun i w' => ∃ j : Nat, j ≤ k ∧ i = .int .i64 j ∧ Onto 127 w w' b o (L ++ (codeOf v k).take j)) (fun i _ => k - (intOf i).toNat)
  case atStart => exact ⟨0, Nat.zero_le _, rfl, by simpa using ⟨o, hW.out, .inl rfl, Keeps.refl _ _⟩⟩
  case round =>
    obtain ⟨j, hj, rfl, hon⟩ := hrel
    obtain ⟨o', hw1, ho1, hk1⟩ := hon
    have HW1 : Hid (Wr 127 wr b o' (L ++ (codeOf v k).take j)) := hw1
    have HO1 : Hid (o' = o ∨ ∃ g, o' = some g ∧ w.heap.size ≤ g) := ho1
    have HK1 : Hid (Keeps (fun k => k = b ∨ o = some k) w wr) := hk1
    clear hw1 ho1 hk1
    by_cases hlt : j < k
    · go_wp2_with fail
      rw [i64_bit v (k - 1 - j) (by omega)]
      refine (add_any b o' _ (v.testBit (k - 1 - j)) wr (by simp [codeOf_length]; omega) HW1.out).mono ?_
      rintro e w2 ⟨rfl, hon2⟩
      have HN : Hid (Onto 127 w w2 b o (L ++ (codeOf v k).take (j + 1))) := by
        have h := Onto.trans HO1.out HK1.out hon2
        rw [List.append_assoc, ← codeOf_take_succ v k j hlt] at h
        exact h
      clear hon2
      go_wp2
      go_roundw
      case rel => exact ⟨j + 1, by omega, by go_num, HN.out⟩
      case measure => simp [intOf]; omega
    · go_wp2
      go_end0
      have : j = k := by omega
      subst this
      rw [List.take_of_length_le (by rw [codeOf_length]; omega)] at HW1
      exact ⟨rfl, o', HW1.out, HO1.out, HK1.out⟩


set_option maxHeartbeats 400000 in
theorem takes_neg (p v k : Value) (x : Int) (w : World) (hv : v = .int .i64 x) (h : x < 0) :
    Calls Tryz.prog 73 #[p, v, k] w fun e w' => e = .returned (.bool false) ∧ w' = w := by
  subst hv
  have h' : ¬ (0 ≤ x) := by omega
  go_enter Tryz.func73, Tryz.ntmps73
  go_wp2
  go_ret
  exact ⟨rfl, rfl⟩

set_option maxHeartbeats 400000 in
theorem takes_big (p : Value) (x : Int) (k : Nat) (w : World) (h0 : 0 ≤ x) (hk : (k : Int) ≤ 16) (hp : wrap64 (2 ^ k) = 2 ^ k) (h : ¬ x < 2 ^ k) :
    Calls Tryz.prog 73 #[p, .int .i64 x, .int .i64 k] w fun e w' => e = .returned (.bool false) ∧ w' = w := by
  go_enter Tryz.func73, Tryz.ntmps73
  go_wp2
  go_ret
  exact ⟨rfl, rfl⟩

set_option maxHeartbeats 400000 in
theorem takes_in (b n : Nat) (x : Int) (k : Nat) (w : World) (h0 : 0 ≤ x) (hk : (k : Int) ≤ 16) (hp : wrap64 (2 ^ k) = 2 ^ k) (h : x < 2 ^ k) (hc : w.cell? ⟨b, 1, none⟩ = some (.int .i64 n)) (hn : (n : Int) ≤ 65536) :
    Calls Tryz.prog 73 #[.pointer (some ⟨b, 0, none⟩), .int .i64 x, .int .i64 k] w fun e w' => e = .returned (.bool (decide ((n : Int) + k ≤ 65536))) ∧ w' = w := by
  go_enter Tryz.func73, Tryz.ntmps73
  go_wp2
  go_ret
  exact ⟨rfl, rfl⟩

end Go.Proofs.YtebjooebdehlnaaGreat.Bt

namespace Go.Proofs.YtebjooebdehlnaaGreat.Bt
open Go.RowKit
set_option linter.unusedVariables false
set_option linter.unusedSimpArgs false

theorem wrap64_two (k : Nat) (h : k ≤ 16) : wrap64 (2 ^ k) = 2 ^ k := by
  have e : (2 : Int) ^ k = ((2 ^ k : Nat) : Int) := by simp
  have hp : (2 : Nat) ^ k ≤ 2 ^ 16 := Nat.pow_le_pow_right (by decide) h
  rw [e]
  generalize 2 ^ k = z at hp
  simp only [wrap64]
  omega

set_option maxHeartbeats 400000 in
theorem put_nil (x k : Int) (w : World) :
    Calls Tryz.prog 36 #[.pointer none, .int .i64 x, .int .i64 k] w fun e w' => e = .returned (.int .i64 1) ∧ w' = w := by
  go_enter Tryz.func36, Tryz.ntmps36
  go_wp2
  go_ret
  exact ⟨rfl, rfl⟩

set_option maxHeartbeats 400000 in
theorem put_out (b : Nat) (x k : Int) (w : World) (h : k < 0 ∨ 16 < k) :
    Calls Tryz.prog 36 #[.pointer (some ⟨b, 0, none⟩), .int .i64 x, .int .i64 k] w fun e w' => e = .returned (.int .i64 100) ∧ w' = w := by
  by_cases h1 : k < 0
  · go_enter Tryz.func36, Tryz.ntmps36
    go_wp2
    go_ret
    exact ⟨rfl, rfl⟩
  · have h2 : 16 < k := by omega
    go_enter Tryz.func36, Tryz.ntmps36
    go_wp2
    go_ret
    exact ⟨rfl, rfl⟩

set_option maxHeartbeats 400000 in
theorem put_no (b : Nat) (x : Int) (k : Nat) (w : World) (hk : (k : Int) ≤ 16)
    (h : Calls Tryz.prog 73 #[.pointer (some ⟨b, 0, none⟩), .int .i64 x, .int .i64 k] w fun e w' => e = .returned (.bool false) ∧ w' = w) :
    Calls Tryz.prog 36 #[.pointer (some ⟨b, 0, none⟩), .int .i64 x, .int .i64 k] w fun e w' => e = .returned (.int .i64 100) ∧ w' = w := by
  have H : Hid (Calls Tryz.prog 73 #[.pointer (some ⟨b, 0, none⟩), .int .i64 x, .int .i64 k] w fun e w' => e = .returned (.bool false) ∧ w' = w) := h
  clear h
  have h1 : ¬ (k : Int) < 0 := by omega
  have h2 : ¬ 16 < (k : Int) := by omega
  go_enter Tryz.func36, Tryz.ntmps36
  go_wp2_with fail
  refine H.out.mono ?_
  rintro e w' ⟨rfl, rfl⟩
  go_wp2
  go_ret
  exact ⟨rfl, rfl⟩

set_option maxHeartbeats 400000 in
theorem put_ok (b : Nat) (o : Option Nat) (L : List Bool) (v k : Nat) (w : World) (hk : (k : Int) ≤ 16) (hv : v < 2 ^ k) (hL : L.length + k ≤ 65536) (hW : Hid (Wr 127 w b o L)) :
    Calls Tryz.prog 36 #[.pointer (some ⟨b, 0, none⟩), .int .i64 v, .int .i64 k] w fun e w' => e = .returned (.int .i64 0) ∧ Onto 127 w w' b o (L ++ bitsOf v k) := by
  have h1 : ¬ (k : Int) < 0 := by omega
  have h2 : ¬ 16 < (k : Int) := by omega
  have hmf : ∀ (fn : Fn) (first cap : Array Value) (w : World), (Instr.makeFunc fn first cap).run Tryz.prog w = .ok (.func fn first cap) w := fun _ _ _ _ => rfl
  have hp : (2 : Nat) ^ k ≤ 2 ^ 16 := Nat.pow_le_pow_right (by decide) (by omega)
  have HV : Hid (v < 2 ^ k) := hv
  have HP : Hid ((2 : Nat) ^ k ≤ 2 ^ 16) := hp
  clear hv hp
  go_enter Tryz.func36, Tryz.ntmps36
  go_wp2_with fail
  have hc : w.cell? ⟨b, 1, none⟩ = some (.int .i64 L.length) := by
    obtain ⟨a, cap, hb, _, _⟩ := hW.out
    exact cell_of_heap (i := 1) hb rfl
  have ht := takes_in b L.length (v : Int) k w (by omega) hk (wrap64_two k (by omega)) (by have := HV.out; exact_mod_cast this) hc (by omega)
  rw [decide_eq_true (by omega)] at ht
  refine ht.mono ?_
  rintro e w' ⟨rfl, hw⟩
  obtain rfl := hw.symm
  clear ht hc
  go_wp2_with fail
  refine (lowest_any b o L v k _ (by have := HV.out; have := HP.out; omega) hk hL hW).mono ?_
  rintro e w' ⟨rfl, hon⟩
  have HN : Hid (Onto 127 w w' b o (L ++ bitsOf v k)) := hon
  clear hon
  go_wp2
  go_ret
  exact ⟨rfl, HN.out⟩


theorem put_bad (b : Nat) (o : Option Nat) (L : List Bool) (x k : Int) (w : World) (hW : Wr 127 w b o L) (hL : L.length ≤ 65536)
    (h : ¬ (0 ≤ k ∧ k ≤ 16 ∧ 0 ≤ x ∧ x < 2 ^ k.toNat ∧ (L.length : Int) + k ≤ 65536)) :
    Calls Tryz.prog 36 #[.pointer (some ⟨b, 0, none⟩), .int .i64 x, .int .i64 k] w fun e w' => e = .returned (.int .i64 100) ∧ w' = w := by
  by_cases hk : k < 0 ∨ 16 < k
  · exact put_out b x k w hk
  · obtain ⟨n, rfl⟩ := Int.eq_ofNat_of_zero_le (show 0 ≤ k by omega)
    refine put_no b x n w (by omega) ?_
    by_cases hx : x < 0
    · exact takes_neg _ _ _ x w rfl hx
    · have hp := wrap64_two n (by omega)
      by_cases hx2 : x < 2 ^ n
      · have hc : w.cell? ⟨b, 1, none⟩ = some (.int .i64 L.length) := by
          obtain ⟨a, cap, hb, _, _⟩ := hW
          exact cell_of_heap (i := 1) hb rfl
        have ht := takes_in b L.length x n w (by omega) (by omega) hp hx2 hc (by omega)
        rw [Int.toNat_natCast] at h
        rw [decide_eq_false (fun h' => h ⟨by omega, by omega, by omega, hx2, h'⟩)] at ht
        exact ht
      · exact takes_big _ x n w (by omega) (by omega) hp hx2

/-! ### Code -/
set_option maxHeartbeats 400000 in
theorem code_nil (x k : Int) (w : World) :
    Calls Tryz.prog 94 #[.pointer none, .agg #[.int .i64 k, .int .i64 x]] w fun e w' => e = .returned (.int .i64 1) ∧ w' = w.alloc (.cells #[.int .i64 k, .int .i64 x] 110) := by
  go_enter Tryz.func94, Tryz.ntmps94
  go_wp2
  go_ret
  exact ⟨rfl, rfl⟩

set_option maxHeartbeats 400000 in
theorem code_out (b : Nat) (x k : Int) (w : World) (h : k < 1 ∨ 15 < k) :
    Calls Tryz.prog 94 #[.pointer (some ⟨b, 0, none⟩), .agg #[.int .i64 k, .int .i64 x]] w fun e w' => e = .returned (.int .i64 100) ∧ w' = w.alloc (.cells #[.int .i64 k, .int .i64 x] 110) := by
  by_cases h1 : k < 1
  · go_enter Tryz.func94, Tryz.ntmps94
    go_wp2
    go_ret
    exact ⟨rfl, rfl⟩
  · have h2 : 15 < k := by omega
    go_enter Tryz.func94, Tryz.ntmps94
    go_wp2
    go_ret
    exact ⟨rfl, rfl⟩

set_option maxHeartbeats 400000 in
theorem code_no (b : Nat) (x : Int) (k : Nat) (w : World) (hk1 : 1 ≤ (k : Int)) (hk : (k : Int) ≤ 15)
    (h : Calls Tryz.prog 73 #[.pointer (some ⟨b, 0, none⟩), .int .i64 x, .int .i64 k] (w.alloc (.cells #[.int .i64 k, .int .i64 x] 110)) fun e w' => e = .returned (.bool false) ∧ w' = w.alloc (.cells #[.int .i64 k, .int .i64 x] 110)) :
    Calls Tryz.prog 94 #[.pointer (some ⟨b, 0, none⟩), .agg #[.int .i64 k, .int .i64 x]] w fun e w' => e = .returned (.int .i64 100) ∧ w' = w.alloc (.cells #[.int .i64 k, .int .i64 x] 110) := by
  have H : Hid (Calls Tryz.prog 73 #[.pointer (some ⟨b, 0, none⟩), .int .i64 x, .int .i64 k] (w.alloc (.cells #[.int .i64 k, .int .i64 x] 110)) fun e w' => e = .returned (.bool false) ∧ w' = w.alloc (.cells #[.int .i64 k, .int .i64 x] 110)) := h
  clear h
  have h1 : ¬ (k : Int) < 1 := by omega
  have h2 : ¬ 15 < (k : Int) := by omega
  go_enter Tryz.func94, Tryz.ntmps94
  go_wp2_with fail
  refine H.out.mono ?_
  rintro e w' ⟨rfl, rfl⟩
  go_wp2
  go_ret
  exact ⟨rfl, rfl⟩

theorem _root_.Go.Proofs.YtebjooebdehlnaaGreat.Wr.alloc {T : TypeId} {w : World} {b : Nat} {o : Option Nat} {L : List Bool} (h : Wr T w b o L) (ob : Obj) : Wr T (w.alloc ob) b o L :=
  h.kept (S := fun _ => False) ((Keeps.refl _ w).alloc ob) (fun h => h) (fun _ _ h => h)

theorem _root_.Go.Proofs.YtebjooebdehlnaaGreat.Onto.of_alloc {T : TypeId} {w w' : World} {b : Nat} {o : Option Nat} {L : List Bool} {ob : Obj} (h : Onto T (w.alloc ob) w' b o L) : Onto T w w' b o L := by
  obtain ⟨o', h1, h2, h3⟩ := h
  refine ⟨o', h1, ?_, ((Keeps.refl _ w).alloc ob).trans h3 (fun _ _ h => h)⟩
  rcases h2 with h2 | ⟨g, h2, h4⟩
  · exact .inl h2
  · exact .inr ⟨g, h2, by simp at h4; omega⟩

set_option maxHeartbeats 400000 in
theorem code_ok (b : Nat) (o : Option Nat) (L : List Bool) (v k : Nat) (w : World) (hk1 : 1 ≤ (k : Int)) (hk : (k : Int) ≤ 15) (hv : v < 2 ^ k) (hL : L.length + k ≤ 65536) (hW : Hid (Wr 127 w b o L)) :
    Calls Tryz.prog 94 #[.pointer (some ⟨b, 0, none⟩), .agg #[.int .i64 k, .int .i64 v]] w fun e w' => e = .returned (.int .i64 0) ∧ Onto 127 w w' b o (L ++ codeOf v k) := by
  have h1 : ¬ (k : Int) < 1 := by omega
  have h2 : ¬ 15 < (k : Int) := by omega
  have hmf : ∀ (fn : Fn) (first cap : Array Value) (w : World), (Instr.makeFunc fn first cap).run Tryz.prog w = .ok (.func fn first cap) w := fun _ _ _ _ => rfl
  have hp : (2 : Nat) ^ k ≤ 2 ^ 16 := Nat.pow_le_pow_right (by decide) (by omega)
  have HV : Hid (v < 2 ^ k) := hv
  have HP : Hid ((2 : Nat) ^ k ≤ 2 ^ 16) := hp
  clear hv hp
  go_enter Tryz.func94, Tryz.ntmps94
  go_wp2_with fail
  have hW1 : Hid (Wr 127 (w.alloc (.cells #[.int .i64 k, .int .i64 v] 110)) b o L) := hW.out.alloc _
  have hc : (w.alloc (.cells #[.int .i64 k, .int .i64 v] 110)).cell? ⟨b, 1, none⟩ = some (.int .i64 L.length) := by
    obtain ⟨a, cap, hb, _, _⟩ := hW1.out
    exact cell_of_heap (i := 1) hb rfl
  have ht := takes_in b L.length (v : Int) k (w.alloc (.cells #[.int .i64 k, .int .i64 v] 110)) (by omega) (by omega) (wrap64_two k (by omega)) (by have := HV.out; exact_mod_cast this) hc (by omega)
  rw [decide_eq_true (by omega)] at ht
  refine ht.mono ?_
  rintro e w' ⟨rfl, hw⟩
  obtain rfl := hw.symm
  clear ht hc
  go_wp2_with fail
  refine (highest_any b o L v k _ (by have := HV.out; have := HP.out; omega) (by omega) hL hW1).mono ?_
  rintro e w' ⟨rfl, hon⟩
  have HN : Hid (Onto 127 w w' b o (L ++ codeOf v k)) := hon.of_alloc
  clear hon
  go_wp2
  go_ret
  exact ⟨rfl, HN.out⟩


theorem code_bad (b : Nat) (o : Option Nat) (L : List Bool) (x k : Int) (w : World) (hW : Wr 127 w b o L) (hL : L.length ≤ 65536)
    (h : ¬ (1 ≤ k ∧ k ≤ 15 ∧ 0 ≤ x ∧ x < 2 ^ k.toNat ∧ (L.length : Int) + k ≤ 65536)) :
    Calls Tryz.prog 94 #[.pointer (some ⟨b, 0, none⟩), .agg #[.int .i64 k, .int .i64 x]] w fun e w' => e = .returned (.int .i64 100) ∧ w' = w.alloc (.cells #[.int .i64 k, .int .i64 x] 110) := by
  by_cases hk : k < 1 ∨ 15 < k
  · exact code_out b x k w hk
  · obtain ⟨n, rfl⟩ := Int.eq_ofNat_of_zero_le (show 0 ≤ k by omega)
    refine code_no b x n w (by omega) (by omega) ?_
    by_cases hx : x < 0
    · exact takes_neg _ _ _ x _ rfl hx
    · have hp := wrap64_two n (by omega)
      by_cases hx2 : x < 2 ^ n
      · have hc : (w.alloc (.cells #[.int .i64 n, .int .i64 x] 110)).cell? ⟨b, 1, none⟩ = some (.int .i64 L.length) := by
          obtain ⟨a, cap, hb, _, _⟩ := hW.alloc (.cells #[.int .i64 n, .int .i64 x] 110)
          exact cell_of_heap (i := 1) hb rfl
        have ht := takes_in b L.length x n _ (by omega) (by omega) hp hx2 hc (by omega)
        rw [Int.toNat_natCast] at h
        rw [decide_eq_false (fun h' => h ⟨by omega, by omega, by omega, hx2, h'⟩)] at ht
        exact ht
      · exact takes_big _ x n _ (by omega) (by omega) hp hx2

/-! ### Align, Len, Text -/
def alignOf (L : List Bool) : List Bool := L ++ List.replicate ((L.length + 7) / 8 * 8 - L.length) false
theorem alignOf_length (L : List Bool) : (alignOf L).length = (L.length + 7) / 8 * 8 := by simp [alignOf]; omega

set_option maxHeartbeats 400000 in
theorem walign_at (b n : Nat) (w : World) (hn : (n : Int) ≤ 65536) (hc : w.cell? ⟨b, 1, none⟩ = some (.int .i64 n)) (hf : w.frozen? ⟨b, 1, none⟩ = false) :
    Calls Tryz.prog 35 #[.pointer (some ⟨b, 0, none⟩)] w fun e w' => e = .returned (.int .i64 0) ∧ w' = w.setCell ⟨b, 1, none⟩ (.int .i64 (((n : Int) + 7) / 8 * 8)) := by
  go_enter Tryz.func35, Tryz.ntmps35
  go_wp2_with fail
  refine (whole_any (n : Int) _ (by omega) (by omega)).mono ?_
  rintro e w' ⟨rfl, hw⟩
  obtain rfl := hw.symm
  go_wp2
  go_ret
  exact ⟨rfl, rfl⟩

theorem walign_ok (b : Nat) (o : Option Nat) (L : List Bool) (w : World) (hL : L.length ≤ 65536) (hW : Wr 127 w b o L) :
    Calls Tryz.prog 35 #[.pointer (some ⟨b, 0, none⟩)] w fun e w' => e = .returned (.int .i64 0) ∧ Onto 127 w w' b o (alignOf L) := by
  have hown0 := hW.own
  obtain ⟨a, cap0, hb, hown, hob⟩ := hW
  refine (walign_at b L.length w (by omega) (cell_of_heap (i := 1) hb rfl) (frozen_of_heap (i := 1) hb)).mono ?_
  rintro e w' ⟨rfl, rfl⟩
  have hpk : pack (alignOf L) = pack L := pack_align L
  refine ⟨rfl, o, ⟨a, cap0, ?_, ?_, ?_⟩, .inl rfl, (Keeps.refl _ w).setCell (fun _ => .inl rfl) _⟩
  · rw [heap_setCell_same (i := 1) hb, hpk]
    have : ((alignOf L).length : Int) = ((L.length : Int) + 7) / 8 * 8 := by rw [alignOf_length]; omega
    simp [this]
  · rw [hpk]
    exact owns_far hown (by rw [hob]; intro h; have := hown0 _ h; simp at this; omega) _
  · rw [hpk]; exact hob

theorem len_ok (b : Nat) (o : Option Nat) (L : List Bool) (w : World) (hW : Wr 127 w b o L) :
    Calls Tryz.prog 193 #[.pointer (some ⟨b, 0, none⟩)] w fun e w' => e = .returned (.int .i64 L.length) ∧ w' = w := by
  obtain ⟨a, cap0, hb, hown, hob⟩ := hW
  exact len_any b _ w (cell_of_heap (i := 1) hb rfl)

set_option maxHeartbeats 400000 in
theorem text_nil (w : World) :
    Calls Tryz.prog 37 #[.pointer none] w fun e w' => e = .returned (.string ⟨#[]⟩) ∧ w' = w := by
  go_enter Tryz.func37, Tryz.ntmps37
  go_wp2
  go_ret
  exact ⟨rfl, rfl⟩

set_option maxHeartbeats 400000 in
theorem text_at (b n cap : Nat) (a : Option Addr) (s : ByteArray) (w : World) (hc : w.cell? ⟨b, 0, none⟩ = some (.slice a n cap)) (hrun : (convert 39 9 (.slice a n cap)).run Tryz.prog w = .ok (.string s) w) :
    Calls Tryz.prog 37 #[.pointer (some ⟨b, 0, none⟩)] w fun e w' => e = .returned (.string s) ∧ w' = w := by
  go_enter Tryz.func37, Tryz.ntmps37
  go_wp2
  go_ret
  exact ⟨rfl, rfl⟩

theorem convert_row (w : World) (base n cap : Nat) (a : Option Addr) (ys : List Nat) (hy : ∀ y ∈ ys, y < 256) (h : w.ownsRow base 5 1 (.slice a n cap) n (ys.map byteV)) :
    (convert 39 9 (.slice a n cap)).run Tryz.prog w = .ok (.string (textOf ys)) w := by
  have hl : ys.length = n := by have := h.1; simpa using this
  rcases h.2 with ⟨hv, h0⟩ | ⟨g, cap', cur, hv, _⟩
  · cases hv
    have : ys = [] := List.eq_nil_of_length_eq_zero hl
    subst this
    exact run_convert_bytes_nil w 39 5 Tryz.underlying39 Tryz.underlying5 0 0 9 Tryz.underlying9
  · cases hv
    have e : ys.length = (ys.map UInt8.ofNat).length := by rw [List.length_map]
    rw [← hl, e]
    refine run_convert_bytes_back w 39 9 5 ⟨g, 0, none⟩ cap (ys.map UInt8.ofNat) Tryz.underlying39 Tryz.underlying5 Tryz.underlying9 ?_
    intro j hj
    rw [List.length_map] at hj
    have hget : (ys.map byteV)[j]? = some (byteV ys[j]) := by simp [hj]
    rw [addr_add, (owns_cell h j _ hget).1]
    have : ys[j] < 256 := hy _ (List.getElem_mem hj)
    simp only [List.getElem_map, byteV, UInt8.toNat_ofNat']
    rw [Nat.mod_eq_of_lt (by omega)]

theorem text_ok (b : Nat) (o : Option Nat) (L : List Bool) (w : World) (hW : Wr 127 w b o L) :
    Calls Tryz.prog 37 #[.pointer (some ⟨b, 0, none⟩)] w fun e w' => e = .returned (.string (textOf (pack L))) ∧ w' = w := by
  obtain ⟨a, cap0, hb, hown, hob⟩ := hW
  exact text_at b _ cap0 a _ w (cell_of_heap (i := 0) hb rfl) (convert_row w _ _ cap0 a _ (pack_lt L) hown)

end Go.Proofs.YtebjooebdehlnaaGreat.Bt

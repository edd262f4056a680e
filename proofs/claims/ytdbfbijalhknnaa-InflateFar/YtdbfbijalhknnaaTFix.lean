/-
  Rows laid one behind the other, and the lengths of the fixed codes.
-/
import Derived.Test.YtdbfbijalhknnaaTMul
import Derived.Lib.AppendZeros
import Derived.Deep.AppendLies
namespace Go.Proofs.Ytdbfbijalhknnaa.Tb
open Go.RowKit
set_option linter.unusedVariables false
set_option linter.unusedSimpArgs false

/-- A row of ints that a call owns. -/
def Own (w : World) (base : Nat) (v : Value) (xs : List Int) : Prop := w.ownsRow base 3 1 v xs.length (intsV xs)
theorem owns_heap1 {w w' : World} {base : Nat} {e : TypeId} {size : Nat} {v : Value} {n : Nat} {xs : List Value} (h : w.ownsRow base e size v n xs) (hk : ∀ k, v.ownBlock = some k → w'.heap[k]? = w.heap[k]?) : w'.ownsRow base e size v n xs := by
  obtain ⟨h1, h2⟩ := h
  refine ⟨h1, ?_⟩
  rcases h2 with h2 | ⟨g, cap, cur, hv, hg, hh, r⟩
  · exact Or.inl h2
  · subst hv
    exact Or.inr ⟨g, cap, cur, rfl, hg, by rw [hk g rfl]; exact hh, r⟩
theorem Own.kept {S : Nat → Prop} {w w' : World} {base : Nat} {v : Value} {xs : List Int} (h : Own w base v xs) (hk : Keeps S w w') (hb : ∀ k, v.ownBlock = some k → ¬ S k) : Own w' base v xs :=
  owns_heap1 h (fun k e => hk.block k (World.ownsRow.lt h k e).2 (hb k e))
theorem Own.keptF {w w' : World} {base : Nat} {v : Value} {xs : List Int} (h : Own w base v xs) (hk : Keeps (fun _ => False) w w') : Own w' base v xs := h.kept hk (fun _ _ h => h)
set_option maxRecDepth 1000000 in
theorem Own.append {w : World} {base : Nat} {v : Value} {xs : List Int} (h : Own w base v xs) (g cap : Nat) (ys : List Int) (hB : Blk w g ys) (hb : base ≤ w.heap.size) (hn : xs.length + ys.length ≤ 1000000) :
    ∃ v' w', (Builtin.append_ #[36, 36] 36 #[v, .slice (some ⟨g, 0, none⟩) ys.length cap]).run Try.prog w = .ok v' w' ∧ Own w' base v' (xs ++ ys) ∧ w.grownBy w' v.ownBlock := by
  obtain ⟨i, hi, h1, h2, h3⟩ : ∃ i, Try.prog.info? 3 = some i ∧ i.zero = some (.int .i64 0) ∧ i.bytes = 8 ∧ i.size = 1 := ⟨Try.t3, Try.type3, rfl, rfl, rfl⟩
  obtain ⟨v', w', hr, ho, hg, _⟩ := run_append_own (P := Try.prog) w base 36 36 3 i (.int .i64 0) 1 8 Try.underlying36 hi h1 h3 h2 rfl (by decide) v xs.length (intsV xs) h ⟨g, 0, none⟩ ys.length cap (intsV ys) (by simp [intsV]) (fun j u hu => by
      have hj : j < ys.length := by have := (List.getElem?_eq_some_iff.1 hu).1; simpa [intsV] using this
      rw [Addr.add_mid, Nat.zero_add, hB.cell j hj, ← hu]
      simp [intsV, hj]) (intsV_one ys) (by unfold maxLen; omega) (by omega) hb
  refine ⟨v', w', hr, ?_, hg⟩
  unfold Own
  rw [List.length_append, intsV_append]
  exact ho
theorem wpList_join {ops : Array Oper} {rest : List Oper} {o : Oper} {a : Act} {w : World} {Q : Exit → Act → World → Prop} (hgd : o.guard = none) (s x : Operand) (ho : o.op = .call { callee := .builtin .append, args := #[s, x], argTypes := #[36, 36] }) (hty : o.type = 36)
    (base : Nat) (v : Value) (xs : List Int) (hs : a.eval s = v) (hown : Own w base v xs) (g n cap : Nat) (ys : List Int) (hx : a.eval x = .slice (some ⟨g, 0, none⟩) n cap) (hyn : ys.length = n) (hB : Blk w g ys) (hb : base ≤ w.heap.size) (hn : xs.length + ys.length ≤ 1000000)
    (h : ∀ v' w', Own w' base v' (xs ++ ys) → w.grownBy w' v.ownBlock → wpList Try.prog ops Q rest (a.put o.dst v') w') : wpList Try.prog ops Q (o :: rest) a w :=
  wpList_plain hgd fun _ hK => by
    subst hyn
    obtain ⟨v', w', hr, h2, h3⟩ := hown.append g cap ys hB hb hn
    unfold Oper.wp execOp
    simp only [ho, hty, resolve, invoke, builtin, Sem.run_bind, Sem.run_pure, Result.andThen_ok, List.map_toArray, List.map_cons, List.map_nil, hs, hx, hr]
    exact hK _ _ (h v' w' h2 h3)
theorem Own.grown {w w0 w' : World} {base : Nat} {v : Value} {xs : List Int} (h : Own w base v xs) (hk : Keeps (fun _ => False) w0 w) (hg : w.grownBy w' v.ownBlock) (hb : w0.heap.size ≤ base) : Keeps (fun _ => False) w0 w' :=
  hk.grown hg (fun k hk e => by have := (World.ownsRow.lt h k e).1; omega)

theorem owns_down {w : World} {base base' : Nat} {v : Value} {xs : List Int} (h : Own w base v xs) (hb : base' ≤ base) : Own w base' v xs := by
  refine ⟨h.1, ?_⟩
  rcases h.2 with h2 | ⟨g, cap, cur, hv, hg, r⟩
  · exact .inl h2
  · exact .inr ⟨g, cap, cur, hv, by omega, r⟩

/-! ### Grow, of nil -/
set_option maxRecDepth 1000000 in
theorem run_zeros (w : World) (ty : TypeId) (n : Nat) (h1 : 1 ≤ n) (hn : n ≤ 1000000) : ∃ cap cur, (Builtin.append_ #[36, 3] ty #[.slice none 0 0, .int .i64 (n : Int)]).run Try.prog w = .ok (.slice (some ⟨w.heap.size, 0, none⟩) n cap) (w.drew.alloc (.cells cur 3)) ∧ cur.size = cap ∧ cap ≤ maxLen := by
  obtain ⟨i, hi, e1, e2, e3⟩ : ∃ i, Try.prog.info? 3 = some i ∧ i.zero = some (.int .i64 0) ∧ i.bytes = 8 ∧ i.size = 1 := ⟨Try.t3, Try.type3, rfl, rfl, rfl⟩
  have hr := Lib.run_append_nil_zeros (P := Try.prog) w 36 3 ty 3 i (.int .i64 0) .i64 .i64 Try.underlying36 Try.underlying3 hi e1 n (by omega) (by omega) (by omega) (by rw [e2]; omega)
  have hg := grownCap_ge w n 0 3
  refine ⟨_, _, hr, ?_, grownCap_le_maxLen w n 0 3 (by unfold maxLen; omega)⟩
  simp [Builtin.zeroCells, Value.cells]
  omega

set_option maxHeartbeats 4000000 in
set_option maxRecDepth 1000000 in
theorem grow_ok (n : Nat) (w : World) (h1 : 1 ≤ n) (hn : n ≤ 1000) :
    Calls Try.prog 91 #[.slice none 0 0, .int .i64 (n : Int)] w fun e w' => ∃ v, e = .returned v ∧ Own w' w.heap.size v [] ∧ Keeps (fun _ => False) w w' := by
  obtain ⟨cap, cur, hr, hcs, hcm⟩ := run_zeros w 36 n h1 (by omega)
  have HR : Hid ((Builtin.append_ #[36, 3] 36 #[.slice none 0 0, .int .i64 (n : Int)]).run Try.prog w = .ok (.slice (some ⟨w.heap.size, 0, none⟩) n cap) (w.drew.alloc (.cells cur 3))) := hr
  have HC : Hid (cur.size = cap ∧ cap ≤ maxLen) := ⟨hcs, hcm⟩
  clear hr hcs hcm
  have hz : ¬ ((n : Int) < 0) := by omega
  have hz1 : (0 : Int) < (n : Int) := by omega
  go_enter Try.func91, Try.ntmps91
  go_wp2_with (at_builtin; refine Lib.wpList_append_run _ rfl _ _ _ _ rfl _ _ rfl rfl _ _ HR.out ?_)
  go_ret
  refine ⟨_, rfl, ⟨rfl, .inr ⟨w.heap.size, cap, cur, rfl, Nat.le_refl _, heap_alloc_new _ _, Nat.zero_le _, HC.out.2, by rw [HC.out.1]; omega, rfl⟩⟩, ((Keeps.refl _ w).alloc _).drew⟩

/-! ### Concat -/
/-- A row among rows: its block, and what it holds. -/
abbrev Rw := Nat × List Int
def rwV (r : Rw) : Value := .slice (some ⟨r.1, 0, none⟩) r.2.length r.2.length
def tot (rs : List Rw) (i : Nat) : Nat := ((rs.take i).map (fun r => r.2.length)).sum
def cat (rs : List Rw) (i : Nat) : List Int := (rs.take i).flatMap (fun r => r.2)
theorem cat_length (rs : List Rw) (i : Nat) : (cat rs i).length = tot rs i := by simp [cat, tot, List.length_flatMap]
theorem take_snocR (rs : List Rw) (i : Nat) (h : i < rs.length) : rs.take (i + 1) = rs.take i ++ [rs[i]] := by rw [List.take_add_one, List.getElem?_eq_getElem h]; rfl
theorem tot_next (rs : List Rw) (i : Nat) (h : i < rs.length) : tot rs (i + 1) = tot rs i + (rs[i]).2.length := by unfold tot; rw [take_snocR rs i h, List.map_append, List.sum_append]; rfl
theorem cat_next (rs : List Rw) (i : Nat) (h : i < rs.length) : cat rs (i + 1) = cat rs i ++ (rs[i]).2 := by unfold cat; rw [take_snocR rs i h, List.flatMap_append, List.flatMap_cons, List.flatMap_nil, List.append_nil]
theorem tot_le (rs : List Rw) : ∀ i j, i ≤ j → tot rs i ≤ tot rs j := by
  intro i j h
  induction j with
  | zero => obtain rfl : i = 0 := by omega
            exact Nat.le_refl _
  | succ j ih =>
    by_cases e : i = j + 1
    · rw [e]; exact Nat.le_refl _
    · by_cases hj : j < rs.length
      · rw [tot_next rs j hj]; have := ih (by omega); omega
      · have e1 : tot rs (j + 1) = tot rs j := by unfold tot; rw [List.take_of_length_le (by omega), List.take_of_length_le (by omega)]
        rw [e1]; exact ih (by omega)
/-- Block b is a row of rows. -/
def Sls (w : World) (b : Nat) (rs : List Rw) : Prop := w.heap[b]? = some (.cells (rs.map rwV).toArray 36 (0, 0)) ∧ ∀ r ∈ rs, Blk w r.1 r.2
theorem Sls.lt {w : World} {b : Nat} {rs : List Rw} (h : Sls w b rs) : b < w.heap.size := lt_of_heap h.1
theorem Sls.keptF {w w' : World} {b : Nat} {rs : List Rw} (h : Sls w b rs) (hk : Keeps (fun _ => False) w w') : Sls w' b rs :=
  ⟨(hk.block b h.lt (fun h => h)).trans h.1, fun r hr => (h.2 r hr).keptF hk⟩
theorem Sls.cell {w : World} {b : Nat} {rs : List Rw} (h : Sls w b rs) (i : Nat) (hi : i < rs.length) : w.cell? ⟨b, i, none⟩ = some (.slice (some ⟨(rs[i]).1, 0, none⟩) (rs[i]).2.length (rs[i]).2.length) :=
  cell_of_heap h.1 (by rw [List.getElem?_toArray, List.getElem?_map, List.getElem?_eq_getElem hi]; rfl)

set_option maxHeartbeats 4000000 in
set_option maxRecDepth 1000000 in
theorem concat_ok (b n : Nat) (rs : List Rw) (w : World) (hS : Sls w b rs) (hl : rs.length = n) (hn : n ≤ 1000) (ht : tot rs n ≤ 1000) (ht1 : 1 ≤ tot rs n) :
    Calls Try.prog 80 #[.slice (some ⟨b, 0, none⟩) n n] w fun e w' => ∃ v, e = .returned v ∧ Own w' w.heap.size v (cat rs n) ∧ Keeps (fun _ => False) w w' := by
  have HS : Hid (Sls w b rs ∧ rs.length = n) := ⟨hS, hl⟩
  have HG : Hid (∀ w, Calls Try.prog 91 #[.slice none 0 0, .int .i64 (tot rs n : Int)] w fun e w' => ∃ v, e = .returned v ∧ Own w' w.heap.size v [] ∧ Keeps (fun _ => False) w w') := fun w => grow_ok (tot rs n) w ht1 ht
  have HT : Hid (∀ i, i ≤ n → tot rs i ≤ 1000) := fun i hi => Nat.le_trans (tot_le rs i n hi) ht
  clear hS hl ht ht1
  go_enter Try.func80, Try.ntmps80
  go_wp2
  go_loopw [11, 3] (fun s11 s3 w' => ∃ i : Nat, i ≤ n ∧ s11 = .int .i64 (i : Int) ∧ s3 = .int .i64 (tot rs i : Int) ∧ w' = w) (fun s11 s3 w' => ((n : Int) - intOf s11).toNat)
  case atStart => exact ⟨0, by omega, rfl, rfl, rfl⟩
  case round =>
    obtain ⟨i, hi, rfl, rfl, hw⟩ := hrel
    obtain rfl := hw.symm
    clear hw
    by_cases hin : i < n
    · have hiz : (i : Int) < (n : Int) := by omega
      have hil : i < rs.length := by rw [HS.out.2]; exact hin
      have hc := HS.out.1.cell i hil
      have h1 := HT.out i hi
      have h2 := HT.out (i + 1) (by omega)
      have hN := tot_next rs i hil
      obtain ⟨T, hT⟩ : ∃ T, tot rs i = T := ⟨_, rfl⟩
      obtain ⟨L, hL⟩ : ∃ L, (rs[i]).2.length = L := ⟨_, rfl⟩
      obtain ⟨g, hg⟩ : ∃ g, (rs[i]).1 = g := ⟨_, rfl⟩
      rw [hT] at h1
      rw [hT, hL] at hN
      rw [hN] at h2
      rw [hL, hg] at hc
      rw [hT]
      have HN : Hid (tot rs (i + 1) = T + L) := hN
      have hz : ¬ ((T : Int) + (L : Int) < 0) := by omega
      clear hN hT hL hg hil
      go_wp2
      go_roundw
      case rel => exact ⟨i + 1, by omega, by push_cast; rfl, by rw [HN.out]; push_cast; rfl, trivial⟩
      case measure => simp [intOf]; omega
    · obtain rfl : i = n := by omega
      have h1 := HT.out i hi
      go_wp2_with (first
        | (go_at_call 91; refine (HG.out _).mono ?_; rintro e w2 ⟨v, rfl, hO, hK⟩; have HW : Hid (Own w2 w.heap.size v (cat rs 0) ∧ Keeps (fun _ => False) w w2) := ⟨hO, hK⟩; clear hO hK))
      clear HG h1
      go_loopw [27, 6] (fun s27 s6 w' => ∃ (j : Nat) (u : Value), j ≤ i ∧ s27 = .int .i64 (j : Int) ∧ s6 = u ∧ Hid (Own w' w.heap.size u (cat rs j) ∧ Keeps (fun _ => False) w w')) (fun s27 s6 w' => ((i : Int) - intOf s27).toNat)
      case atStart => exact ⟨0, v, by omega, rfl, rfl, HW⟩
      case round =>
        clear HW
        obtain ⟨j, u, hj, rfl, hu, HW⟩ := hrel
        obtain rfl := hu.symm
        clear hu
        by_cases hjn : j < i
        · have hjz : (j : Int) < (i : Int) := by omega
          have hjl : j < rs.length := by rw [HS.out.2]; exact hjn
          have hc := (HS.out.1.keptF HW.out.2).cell j hjl
          have HB : Hid (Blk wr (rs[j]).1 (rs[j]).2) := (HS.out.1.keptF HW.out.2).2 _ (List.getElem_mem hjl)
          have HN : Hid (cat rs (j + 1) = cat rs j ++ (rs[j]).2) := cat_next rs j hjl
          have HL : Hid ((cat rs j).length + ((rs[j]).2).length ≤ 1000000) := by
            have e := HT.out (j + 1) (by omega)
            rw [← cat_length, cat_next rs j hjl, List.length_append] at e
            show _ ≤ _
            omega
          generalize rs[j] = r at *
          go_wp2_with (first
            | (refine wpList_join rfl _ _ rfl rfl w.heap.size u (cat rs j) rfl HW.out.1 r.1 _ r.2.length r.2 rfl rfl HB.out HW.out.2.size HL.out ?_; intro v' w3 hO hG; have HW3 : Hid (Own w3 w.heap.size v' (cat rs (j + 1)) ∧ Keeps (fun _ => False) w w3) := ⟨(by rw [HN.out]; exact hO), HW.out.1.grown HW.out.2 hG (Nat.le_refl _)⟩; clear hO hG))
          go_roundw
          case rel => exact ⟨j + 1, v', by omega, by push_cast; rfl, rfl, HW3⟩
          case measure => simp [intOf]; omega
        · obtain rfl : j = i := by omega
          go_wp2
          go_ret
          exact ⟨u, rfl, HW.out⟩

/-- The lengths of the fixed codes. -/
def fixL : List Int := List.replicate 144 8 ++ List.replicate 112 9 ++ List.replicate 24 7 ++ List.replicate 8 8
theorem fixL_length : fixL.length = 288 := by unfold fixL; simp only [List.length_append, List.length_replicate]
def fixR (g1 g2 g3 g4 : Nat) : List Rw := [(g1, List.replicate 144 8), (g2, List.replicate 112 9), (g3, List.replicate 24 7), (g4, List.replicate 8 8)]
theorem fixR_tot (g1 g2 g3 g4 : Nat) : tot (fixR g1 g2 g3 g4) 4 = 288 := by
  unfold tot fixR
  simp only [List.take, List.map, List.length_replicate, List.sum_cons, List.sum_nil]
  rfl
theorem fixR_cat (g1 g2 g3 g4 : Nat) : cat (fixR g1 g2 g3 g4) 4 = fixL := by
  unfold cat fixR fixL
  simp only [List.take, List.flatMap_cons, List.flatMap_nil, List.append_nil, List.append_assoc]
theorem fixR_sls (w : World) (g1 g2 g3 g4 : Nat) (h1 : Blk w g1 (List.replicate 144 8)) (h2 : Blk w g2 (List.replicate 112 9)) (h3 : Blk w g3 (List.replicate 24 7)) (h4 : Blk w g4 (List.replicate 8 8)) :
    Sls (w.alloc (.cells #[.slice (some ⟨g1, 0, none⟩) 144 144, .slice (some ⟨g2, 0, none⟩) 112 112, .slice (some ⟨g3, 0, none⟩) 24 24, .slice (some ⟨g4, 0, none⟩) 8 8] 36)) w.heap.size (fixR g1 g2 g3 g4) := by
  have hk := fun o => (Keeps.refl (fun _ => False) w).alloc o
  refine ⟨?_, ?_⟩
  · rw [heap_alloc_new]
    unfold fixR
    simp only [List.map, rwV, List.length_replicate]
  · intro r hr
    unfold fixR at hr
    simp only [List.mem_cons, List.not_mem_nil, or_false] at hr
    rcases hr with rfl | rfl | rfl | rfl
    · exact h1.keptF (hk _)
    · exact h2.keptF (hk _)
    · exact h3.keptF (hk _)
    · exact h4.keptF (hk _)

set_option maxHeartbeats 4000000 in
set_option maxRecDepth 1000000 in
theorem fixed_ok (w : World) : Calls Try.prog 71 #[] w fun e w' => ∃ v, e = .returned v ∧ Own w' w.heap.size v fixL ∧ Keeps (fun _ => False) w w' := by
  have HR : Hid (∀ (v : Int) (b c : Nat) (w : World), Blk w b [v] → 1 ≤ c → c ≤ 300 → Calls Try.prog 81 #[.slice (some ⟨b, 0, none⟩) 1 1, .int .i64 (c : Int)] w fun e w' => ∃ g, e = .returned (.slice (some ⟨g, 0, none⟩) c c) ∧ Keeps (fun _ => False) w w' ∧ w.heap.size ≤ g ∧ Blk w' g (List.replicate c v)) := fun v b c w h1 h2 h3 => repeat_ok v b c w h1 h2 h3
  have HC : Hid (∀ (b : Nat) (rs : List Rw) (w : World), Sls w b rs → rs.length = 4 → tot rs 4 = 288 → Calls Try.prog 80 #[.slice (some ⟨b, 0, none⟩) 4 4] w fun e w' => ∃ v, e = .returned v ∧ Own w' w.heap.size v (cat rs 4) ∧ Keeps (fun _ => False) w w') := fun b rs w h1 h2 h3 => concat_ok b 4 rs w h1 h2 (by decide) (by omega) (by omega)
  go_enter Try.func71, Try.ntmps71
  go_wp2_with (first
    | (go_at_call 81; (fail_if_success (clear H1)); refine (HR.out 8 _ 144 _ (Blk.lit _ [8]) (by decide) (by decide)).mono ?_; rintro e w1 ⟨g1, rfl, hK, hg, hB⟩; have H1 : Hid (Blk w1 g1 (List.replicate 144 8) ∧ Keeps (fun _ => False) w w1) := ⟨hB, ((Keeps.refl _ w).alloc _).trans hK (fun _ _ h => h)⟩; clear hK hg hB)
    | (go_at_call 81; (fail_if_success (clear H2)); refine (HR.out 9 _ 112 _ (Blk.lit _ [9]) (by decide) (by decide)).mono ?_; rintro e w2 ⟨g2, rfl, hK, hg, hB⟩; have H2 : Hid (Blk w2 g1 (List.replicate 144 8) ∧ Blk w2 g2 (List.replicate 112 9) ∧ Keeps (fun _ => False) w w2) := ⟨H1.out.1.keptF (((Keeps.refl _ w1).alloc _).trans hK (fun _ _ h => h)), hB, H1.out.2.trans (((Keeps.refl _ w1).alloc _).trans hK (fun _ _ h => h)) (fun _ _ h => h)⟩; clear hK hg hB)
    | (go_at_call 81; (fail_if_success (clear H3)); refine (HR.out 7 _ 24 _ (Blk.lit _ [7]) (by decide) (by decide)).mono ?_; rintro e w3 ⟨g3, rfl, hK, hg, hB⟩; have H3 : Hid (Blk w3 g1 (List.replicate 144 8) ∧ Blk w3 g2 (List.replicate 112 9) ∧ Blk w3 g3 (List.replicate 24 7) ∧ Keeps (fun _ => False) w w3) := ⟨H2.out.1.keptF (((Keeps.refl _ w2).alloc _).trans hK (fun _ _ h => h)), H2.out.2.1.keptF (((Keeps.refl _ w2).alloc _).trans hK (fun _ _ h => h)), hB, H2.out.2.2.trans (((Keeps.refl _ w2).alloc _).trans hK (fun _ _ h => h)) (fun _ _ h => h)⟩; clear hK hg hB)
    | (go_at_call 81; refine (HR.out 8 _ 8 _ (Blk.lit _ [8]) (by decide) (by decide)).mono ?_; rintro e w4 ⟨g4, rfl, hK, hg, hB⟩; have H4 : Hid (Blk w4 g1 (List.replicate 144 8) ∧ Blk w4 g2 (List.replicate 112 9) ∧ Blk w4 g3 (List.replicate 24 7) ∧ Blk w4 g4 (List.replicate 8 8) ∧ Keeps (fun _ => False) w w4) := ⟨H3.out.1.keptF (((Keeps.refl _ w3).alloc _).trans hK (fun _ _ h => h)), H3.out.2.1.keptF (((Keeps.refl _ w3).alloc _).trans hK (fun _ _ h => h)), H3.out.2.2.1.keptF (((Keeps.refl _ w3).alloc _).trans hK (fun _ _ h => h)), hB, H3.out.2.2.2.trans (((Keeps.refl _ w3).alloc _).trans hK (fun _ _ h => h)) (fun _ _ h => h)⟩; clear hK hg hB)
    | (go_at_call 80; refine (HC.out w4.heap.size (fixR g1 g2 g3 g4) _ (fixR_sls w4 g1 g2 g3 g4 H4.out.1 H4.out.2.1 H4.out.2.2.1 H4.out.2.2.2.1) rfl (fixR_tot g1 g2 g3 g4)).mono ?_; rintro e w5 ⟨v, rfl, hO, hK⟩; rw [fixR_cat] at hO; have H5 : Hid (Own w5 w.heap.size v fixL ∧ Keeps (fun _ => False) w w5) := ⟨owns_down hO (by have := (H4.out.2.2.2.2.alloc (Obj.cells #[.slice (some ⟨g1, 0, none⟩) 144 144, .slice (some ⟨g2, 0, none⟩) 112 112, .slice (some ⟨g3, 0, none⟩) 24 24, .slice (some ⟨g4, 0, none⟩) 8 8] 36)).size; exact this), H4.out.2.2.2.2.trans (((Keeps.refl _ w4).alloc _).trans hK (fun _ _ h => h)) (fun _ _ h => h)⟩; clear hO hK))
  go_ret
  exact ⟨v, rfl, H5.out⟩

end Go.Proofs.Ytdbfbijalhknnaa.Tb

/-
  The document's lengths.
-/
import Derived.Test.YtfbghchgfbjogaaGreatRows
import Derived.Test.YtfbghchgfbjogaaGreatF21
namespace Go.Proofs.YtfbghchgfbjogaaGreat.Lm
open Go.RowKit
set_option linter.unusedVariables false
set_option linter.unusedSimpArgs false

theorem fine_not {ys : List Int} {i : Nat} (hi : i < ys.length) (h : ¬ (0 ≤ ys[i] ∧ ys[i] ≤ 2147483647)) (most : Int) : fitL ys most = false := by
  have : mayL ys = false := by
    cases hm : mayL ys with
    | false => rfl
    | true => exact absurd ((mayL_is hm).2.2 _ (List.getElem_mem hi)) h
  simp [fitL, this]
theorem nats_take (ys : List Int) (i : Nat) (h : i < ys.length) : nats (ys.take (i + 1)) = nats (ys.take i) ++ [ys[i].toNat] := by
  unfold nats; rw [List.take_succ_eq_append_getElem h, List.map_append]; rfl
theorem half_two (y : Nat) : ((y : Int) + 1) / 2 = ((half y : Nat) : Int) := by unfold half; omega

theorem own2_lit (w : World) {base : Nat} (s c : Nat) (hb : base ≤ w.heap.size) : Own2 ((w.alloc (.cells #[.int .i64 0, .int .i64 (s : Int)] 3)).alloc (.cells #[.int .i64 1, .int .i64 (c : Int)] 3)) base (.slice (some ⟨w.heap.size, 0, none⟩) 2 2) (.slice (some ⟨w.heap.size + 1, 0, none⟩) 2 2) (ints [0, s]) (ints [1, c]) := by
  have h1 : (w.alloc (.cells #[.int .i64 0, .int .i64 (s : Int)] 3)).ownsRow base 3 1 (.slice (some ⟨w.heap.size, 0, none⟩) 2 2) 2 [.int .i64 0, .int .i64 (s : Int)] := World.ownsRow_lit w #[.int .i64 0, .int .i64 (s : Int)] 2 hb (by decide) rfl
  have h2 : ((w.alloc (.cells #[.int .i64 0, .int .i64 (s : Int)] 3)).alloc (.cells #[.int .i64 1, .int .i64 (c : Int)] 3)).ownsRow base 3 1 (.slice (some ⟨(w.alloc (.cells #[.int .i64 0, .int .i64 (s : Int)] 3)).heap.size, 0, none⟩) 2 2) 2 [.int .i64 1, .int .i64 (c : Int)] := World.ownsRow_lit _ #[.int .i64 1, .int .i64 (c : Int)] 2 (by simp; omega) (by decide) rfl
  rw [show (w.alloc (.cells #[.int .i64 0, .int .i64 (s : Int)] 3)).heap.size = w.heap.size + 1 by simp] at h2
  exact ⟨h1.alloc _, h2, fun k e e' => by simp [Value.ownBlock] at e e'; omega⟩
theorem tl_start {w wr w1 : World} {n m : Nat} {a6 a7 : Option Addr} {c6 c7 go : Nat} {U W : List Nat} (h : Own2 wr w.heap.size (.slice a6 m c6) (.slice a7 m c7) (ints U) (ints W)) (hk : Keeps (fun _ => False) w wr) (ho : Own w1 go n (List.replicate n 0)) (h1 : Keeps (fun _ => False) wr w1) (hg : wr.heap.size ≤ go) : Tl w w1 n m a6 a7 c7 go U W (List.replicate n 0) := by
  have hs := hk.size
  obtain ⟨b6, e6, q6, r6, d6⟩ := h.oa.row
  obtain ⟨b7, e7, q7, r7, d7⟩ := h.ob.row
  simp only [Value.slice.injEq] at q6 q7
  obtain ⟨rfl, _, rfl⟩ := q6
  obtain ⟨rfl, _, rfl⟩ := q7
  have l6 : ∀ x, a6 = some x → x.block < wr.heap.size := fun x e => by subst e; exact (World.ownsRow.lt h.oa x.block rfl).2
  have l7 : ∀ x, a7 = some x → x.block < wr.heap.size := fun x e => by subst e; exact (World.ownsRow.lt h.ob x.block rfl).2
  refine ⟨r6.keptF h1, h.ob.kept h1 (fun _ _ h => h), by rw [ints_zero]; exact ho, hk.trans h1 (fun _ _ h => h), by omega, fun x e => ⟨by have := l6 x e; omega, d6 x e⟩, fun x e => by have := l7 x e; omega, fun x y ex ey => ?_⟩
  subst ex
  subst ey
  intro e
  exact h.ab x.block rfl (by show some y.block = some x.block; rw [e])

set_option maxHeartbeats 8000000 in
set_option maxRecDepth 1000000 in
theorem rlen_ok (a : Option Addr) (ys : List Int) (cap : Nat) (most : Int) (w : World) (hR : Row w a ys) (h1 : 2 ≤ ys.length) (h2 : ys.length ≤ 288) (h3 : 1 ≤ most) (h4 : most ≤ 15) :
    Calls Tryz.prog 68 #[.slice a ys.length cap, .int .i64 most] w fun e w' => (fitL ys most = false ∧ e = .returned (.tuple #[.slice none 0 0, .int .i64 400]) ∧ Keeps (fun _ => False) w w') ∨ (fitL ys most = true ∧ ∃ g, e = .returned (.tuple #[.slice (some ⟨g, 0, none⟩) ys.length ys.length, .int .i64 0]) ∧ Own w' g ys.length (ints (resL ys most)) ∧ Keeps (fun _ => False) w w') := by
  obtain ⟨b0, off0, rfl, hb0, hc0⟩ := hR.at (by omega)
  have HC : Hid (∀ i (h : i < ys.length), ∀ w', Keeps (fun _ => False) w w' → w'.cell? ⟨b0, off0 + i, none⟩ = some (.int .i64 ys[i])) := fun i h w' hk => by
    rw [hc0 w' hk i h, at_eq i h]
  clear hc0 hR
  obtain ⟨k, rfl⟩ : ∃ k : Nat, most = (k : Int) := ⟨most.toNat, by omega⟩
  obtain ⟨n, hn⟩ : ∃ n, ys.length = n := ⟨_, rfl⟩
  rw [hn] at h1 h2
  rw [hn]
  have HN : Hid (ys.length = n) := hn
  clear hn
  have z1 : ¬ (n : Int) < 2 := by omega
  have z2 : ¬ 288 < (n : Int) := by omega
  have z3 : ¬ (k : Int) < 1 := by omega
  have z4 : ¬ 15 < (k : Int) := by omega
  go_enter Tryz.func68, Tryz.ntmps68
  go_wp2
  go_loopw [6, 7, 8] (fun s6 s7 s8 w' => ∃ i : Nat, i ≤ n ∧ s8 = .int .i64 (i : Int) ∧ Hid ((∀ q (h : q < ys.length), q < i → 0 ≤ ys[q] ∧ ys[q] ≤ 2147483647) ∧ Own2 w' w.heap.size s6 s7 (ints (usedL 0 (nats (ys.take i)))) (ints (wsOf (nats (ys.take i)))) ∧ Keeps (fun _ => False) w w')) (fun s6 s7 s8 w' => ((n : Int) - intOf s8).toNat)
  case atStart => exact ⟨0, by omega, rfl, fun q _ h => by omega, ⟨OwnV.nil _ _, OwnV.nil _ _, fun k e => by cases e⟩, Keeps.refl _ _⟩
  case round =>
    obtain ⟨i, hi, rfl, HI⟩ := hrel
    by_cases hin : i < n
    · have hiz : (i : Int) < (n : Int) := by omega
      have hil : i < ys.length := by rw [HN.out]; exact hin
      have hc := HC.out i hil wr HI.out.2.2
      have HF : Hid (¬ (0 ≤ ys[i] ∧ ys[i] ≤ 2147483647) → fitL ys (k : Int) = false) := fun h => fine_not hil h _
      have HT : Hid (nats (ys.take (i + 1)) = nats (ys.take i) ++ [ys[i].toNat] ∧ (nats (ys.take i)).length = i) := ⟨nats_take ys i hil, by simp [nats]; omega⟩
      have HQ : Hid (0 ≤ ys[i] ∧ ys[i] ≤ 2147483647 → ∀ q (h : q < ys.length), q < i + 1 → 0 ≤ ys[q] ∧ ys[q] ≤ 2147483647) := fun h q hq hqi => by
        by_cases e : q = i
        · subst e; exact h
        · exact HI.out.1 q hq (by omega)
      have HCi : Hid (∀ w', Keeps (fun _ => False) w w' → w'.cell? ⟨b0, off0 + i, none⟩ = some (.int .i64 ys[i])) := fun w' hk => HC.out i hil w' hk
      generalize ys[i] = y at *
      by_cases hy0 : y < 0
      · go_wp2
        go_ret2
        exact .inl ⟨HF.out (by omega), rfl, HI.out.2.2⟩
      · by_cases hy1 : 2147483647 < y
        · go_wp2
          go_ret2
          exact .inl ⟨HF.out (by omega), rfl, HI.out.2.2⟩
        · obtain ⟨c, rfl⟩ : ∃ c : Nat, y = (c : Int) := ⟨y.toNat, by omega⟩
          have HU : Hid (usedL 0 (nats (ys.take (i + 1))) = usedL 0 (nats (ys.take i)) ++ (if 0 < c then [i] else []) ∧ wsOf (nats (ys.take (i + 1))) = wsOf (nats (ys.take i)) ++ (if 0 < c then [c] else []) ∧ (usedL 0 (nats (ys.take i))).length ≤ 288 ∧ (wsOf (nats (ys.take i))).length ≤ 288) := by
            have e1 := HT.out.2
            have e2 := wsOf_le (nats (ys.take i))
            refine ⟨?_, ?_, by rw [usedL_length]; omega, by omega⟩
            · rw [HT.out.1, usedL_snoc, e1, Nat.zero_add]; simp
            · rw [HT.out.1, wsOf_snoc]; simp
          by_cases hcp : 0 < c
          · have hcz : (0 : Int) < (c : Int) := by omega
            rw [if_pos hcp, if_pos hcp] at HU
            go_wp2_with (first
              | ((fail_if_success (clear H1)); refine wpList_one rfl _ _ rfl rfl w.heap.size u6 (ints (usedL 0 (nats (ys.take i)))) rfl (HI.out.2.1.kept ((Keeps.refl (fun _ => False) wr).alloc _)).oa wr.heap.size (i : Int) rfl (heap_alloc_new _ _) ?hb ?hn ?_; (case hb => have := HI.out.2.2.size; simp; omega); (case hn => rw [ints_length]; have := HU.out.2.2.1; omega); intro g1 c1 w1 hO1 hG1 hA1; have hkw : Keeps (fun _ => False) w w1 := (HI.out.2.2.alloc _).grown hG1 (fun k hk e => by (have := (World.ownsRow.lt HI.out.2.1.oa k e).1; omega)); have H1 : Hid (Own2 w1 w.heap.size (.slice (some ⟨g1, 0, none⟩) ((ints (usedL 0 (nats (ys.take i)))).length + 1) c1) u7 (ints (usedL 0 (nats (ys.take i))) ++ [(i : Int)]) (ints (wsOf (nats (ys.take i)))) ∧ Keeps (fun _ => False) w w1) := ⟨(HI.out.2.1.kept ((Keeps.refl (fun _ => False) wr).alloc _)).a hO1 hG1 hA1, hkw⟩; have hc1 := HCi.out w1 hkw; clear hO1 hG1 hA1 hkw)
              | (refine wpList_one rfl _ _ rfl rfl w.heap.size u7 (ints (wsOf (nats (ys.take i)))) rfl (H1.out.1.kept ((Keeps.refl (fun _ => False) w1).alloc _)).ob w1.heap.size (c : Int) rfl (heap_alloc_new _ _) ?hb ?hn ?_; (case hb => have := H1.out.2.size; simp; omega); (case hn => rw [ints_length]; have := HU.out.2.2.2; omega); intro g2 c2 w2 hO2 hG2 hA2))
            go_roundw
            case rel =>
              refine ⟨i + 1, by omega, by push_cast; rfl, HQ.out (by omega), ?_, (H1.out.2.alloc _).grown hG2 (fun k hk e => by have := (World.ownsRow.lt H1.out.1.ob k e).1; omega)⟩
              rw [HU.out.1, HU.out.2.1, ints_append, ints_append]
              exact (H1.out.1.kept ((Keeps.refl (fun _ => False) w1).alloc _)).b hO2 hG2 hA2
            case measure => simp [intOf]; omega
          · have hcz : ¬ (0 : Int) < (c : Int) := by omega
            rw [if_neg hcp, if_neg hcp, List.append_nil, List.append_nil] at HU
            go_wp2
            go_roundw
            case rel => exact ⟨i + 1, by omega, by push_cast; rfl, HQ.out (by omega), by rw [HU.out.1, HU.out.2.1]; exact HI.out.2.1, HI.out.2.2⟩
            case measure => simp [intOf]; omega
    · obtain rfl : i = n := by omega
      clear hin hi
      obtain ⟨f1, o1, k1⟩ := HI.out
      have htk : ys.take i = ys := List.take_of_length_le (by have := HN.out; omega)
      rw [htk] at o1
      have hmay : mayL ys = true := by
        simp only [mayL, Bool.and_eq_true, decide_eq_true_eq, List.all_eq_true]
        refine ⟨by rw [HN.out]; exact h1, by rw [HN.out]; exact h2, fun y hy => ?_⟩
        obtain ⟨q, hq, rfl⟩ := List.getElem_of_mem hy
        exact f1 q hq (by have := HN.out; omega)
      have hzl : 2 ≤ (nats ys).length := by simp [nats]; rw [HN.out]; exact h1
      obtain ⟨hsh, hp2⟩ := two_pow k (by omega)
      obtain ⟨P, hP⟩ : ∃ P, 2 ^ k = P := ⟨_, rfl⟩
      have hP2 : 2 ≤ P := by rw [← hP]; have := Nat.pow_le_pow_right (n := 2) (by decide) (show 1 ≤ k by omega); omega
      have hfit : fitL ys (k : Int) = decide ((usedL 0 (ownL ys)).length ≤ 2 ^ k) := by
        unfold fitL
        rw [hmay, decide_eq_true h3, decide_eq_true h4]; simp
      have HO0 : Hid ((∀ y ∈ ownL ys, y ≤ 2147483647) ∧ (ownL ys).length = i ∧ lim k (ownL ys).sum (ownL ys) = resL ys (k : Int)) := ⟨ownL_le hmay, by rw [ownL_length, HN.out], by unfold resL; simp⟩
      have HPP : Hid (2 ^ k = P) := hP
      rw [hP] at hsh hp2 hfit
      have HFit : Hid (fitL ys (k : Int) = decide ((usedL 0 (ownL ys)).length ≤ P)) := hfit
      have hpo : ownL ys = pairedL (nats ys) := rfl
      have HOw2 : Hid (Own2 wr w.heap.size u6 u7 (ints (usedL 0 (nats ys))) (ints (wsOf (nats ys))) ∧ Keeps (fun _ => False) w wr) := ⟨o1, k1⟩
      obtain ⟨R, hRR⟩ : ∃ R, resL ys (k : Int) = R := ⟨_, rfl⟩
      rw [hRR] at HO0
      have HRR : Hid (resL ys (k : Int) = R) := hRR
      clear HI f1 o1 k1 htk hmay hfit hP hRR
      obtain ⟨own, hown⟩ : ∃ own, ownL ys = own := ⟨_, rfl⟩
      rw [hown] at HO0 HFit hpo
      clear hown
      generalize nats ys = zs at *
      by_cases hu1 : (usedL 0 zs).length = 1
      · obtain ⟨s, hs⟩ := len_one hu1
        obtain ⟨c, hcw⟩ := len_one (show (wsOf zs).length = 1 by rw [← usedL_length zs 0]; exact hu1)
        rw [hs, hcw] at HOw2
        obtain ⟨e6, e6_⟩ | ⟨g6, c6, rfl, hg6, ho6⟩ := HOw2.out.1.oa.form
        · simp [ints] at e6_
        obtain ⟨e7, e7_⟩ | ⟨g7, c7, rfl, hg7, ho7⟩ := HOw2.out.1.ob.form
        · simp [ints] at e7_
        have hc6 : wr.cell? ⟨g6, 0, none⟩ = some (.int .i64 (s : Int)) := by
          rw [ho6.cell 0 (by simp [ints]), ints_at]; rfl
        have hc7 : wr.cell? ⟨g7, 0, none⟩ = some (.int .i64 (c : Int)) := by
          rw [ho7.cell 0 (by simp [ints]), ints_at]; rfl
        have hl6 : g6 < wr.heap.size := ho6.lt
        have hl7 : g7 < wr.heap.size := ho7.lt
        have hPz : ¬ (P : Int) < 2 := by omega
        have el : (ints [s]).length = 1 := rfl
        have el7 : (ints [c]).length = 1 := rfl
        rw [el, el7] at HOw2
        rw [el, el7]
        clear ho6 ho7 el el7 hg6 hg7
        have HPw2 : Hid (2 ≤ 2 ^ k) := by rw [HPP.out]; exact hP2
        by_cases hs0 : 0 < s
        · have hsz : (0 : Int) < (s : Int) := by omega
          obtain ⟨p1, p2⟩ := one_back zs hzl s c hs0 hs hcw
          rw [← hpo] at p1 p2
          have HUW0 : Hid (usedL 0 own = [0, s] ∧ wsOf own = [1, c]) := ⟨p1, p2⟩
          have HOw : Hid ((∀ y ∈ own, y ≤ 2147483647) ∧ own.length = i ∧ lim k own.sum own = R ∧ fitL ys (k : Int) = true) := ⟨HO0.out.1, HO0.out.2.1, HO0.out.2.2, by rw [HFit.out, p1]; exact decide_eq_true hP2⟩
          clear HO0 HFit p1 p2 hs hcw hpo hzl hu1
          go_wp2_with (refine wpList_ints rfl _ _ rfl i rfl rfl ?hn ?_; (case hn => omega); intro go w1 h1 h2 h3; have HT1 : Hid (Tl w w1 i 2 (some ⟨wr.heap.size, 0, none⟩) (some ⟨wr.heap.size + 1, 0, none⟩) 2 go [0, s] [1, c] (List.replicate i 0)) := tl_start (own2_lit wr s c HOw2.out.2.size) ((HOw2.out.2.alloc _).alloc _) h1 h2 h3; clear h1 h2 h3)
          clear HOw2 hc6 hc7 hl6 hl7
          generalize hv6 : Value.slice (some ⟨wr.heap.size, 0, none⟩) 2 2 = v6
          generalize hv7 : Value.slice (some ⟨wr.heap.size + 1, 0, none⟩) 2 2 = v7
          obtain ⟨m, a6, c6, a7, c7, U, W, e6, e7, HUW, HT0, HPw, hm288⟩ : ∃ m a6 c6 a7 c7 U W, v6 = .slice a6 m c6 ∧ v7 = .slice a7 m c7 ∧ Hid (usedL 0 own = U ∧ wsOf own = W ∧ U.length = m) ∧ Hid (Tl w w1 i m a6 a7 c7 go U W (List.replicate i 0)) ∧ Hid (m ≤ 2 ^ k) ∧ m ≤ 288 := ⟨2, _, 2, _, 2, [0, s], [1, c], hv6.symm, hv7.symm, ⟨HUW0.out.1, HUW0.out.2, rfl⟩, HT1.out, HPw2.out, by omega⟩
          clear hv6 hv7 HT1 HUW0 HPw2
          subst e6
          subst e7
          have HI0 : Hid (∃ cur fuel A, Tl w w1 i m a6 a7 c7 go U (wsOf cur) (spread own A) ∧ A.length = m ∧ usedL 0 cur = U ∧ cur.length = i ∧ (∀ y ∈ cur, y ≤ 2147483647) ∧ cur.sum ≤ fuel ∧ lim k fuel cur = R ∧ (∀ ds, spread cur ds = spread own ds)) := by
            obtain ⟨o1, o2, o3, o4⟩ := HOw.out
            obtain ⟨q1, q2, q3⟩ := HUW.out
            refine ⟨own, own.sum, List.replicate m 0, ?_, by simp, q1, o2, o1, Nat.le_refl _, o3, fun _ => rfl⟩
            rw [spread_zero, o2, q2]; exact HT0.out
          clear HT0
          go_wp2
          go_loopw [10] (fun s10 w' => Hid (∃ cur fuel A, Tl w w' i m a6 a7 c7 go U (wsOf cur) (spread own A) ∧ A.length = m ∧ usedL 0 cur = U ∧ cur.length = i ∧ (∀ y ∈ cur, y ≤ 2147483647) ∧ cur.sum ≤ fuel ∧ lim k fuel cur = R ∧ (∀ ds, spread cur ds = spread own ds))) (fun s10 w' => aSum w' a7 m)
          case atStart => exact HI0
          case round =>
            clear HI0
            have HI := hrel
            clear hrel
            obtain ⟨cur, fuel, A, i1, i2, i3, i4, i5, i6, i7, i8⟩ := HI.out
            have hwm : (wsOf cur).length = m := by rw [← usedL_length cur 0, i3, HUW.out.2.2]
            have hsum : (wsOf cur).sum ≤ 1099511627776 := by
              rw [wsOf_sum]
              have e1 := sum_le 2147483647 cur i5
              have e2 : cur.length * 2147483647 ≤ 288 * 2147483647 := Nat.mul_le_mul_right _ (by omega)
              omega
            obtain ⟨ds, hds⟩ : ∃ ds, dsOf (wsOf cur) = ds := ⟨_, rfl⟩
            have HDs : Hid (ds.length = m ∧ depthsL cur = spread own ds ∧ maxL ds = maxL (depthsL cur)) := by
              refine ⟨by rw [← hds, dsOf_length, hwm], ?_, ?_⟩
              · unfold depthsL; rw [hds, i8]
              · unfold depthsL; rw [hds, spread_max _ _ (by rw [← hds, dsOf_length])]
            have HDp : Hid (Calls Tryz.prog 92 #[.slice a7 m c7] wr fun e w' => ∃ a' c', e = .returned (.slice a' m c') ∧ Row w' a' (ints ds) ∧ (∀ x, a' = some x → wr.heap.size ≤ x.block) ∧ Keeps (fun _ => False) wr w') := by
              obtain ⟨a'', c'', e, r1, r2⟩ := i1.ws.row
              simp only [Value.slice.injEq] at e
              obtain ⟨rfl, _, rfl⟩ := e
              have := rdepths_any a7 (wsOf cur) c7 wr r1 (by omega) hsum
              rw [hwm, hds] at this
              exact this
            have HCur : Hid (A.length = m ∧ usedL 0 cur = U ∧ cur.length = i ∧ (∀ y ∈ cur, y ≤ 2147483647) ∧ cur.sum ≤ fuel ∧ lim k fuel cur = R ∧ (∀ ds, spread cur ds = spread own ds) ∧ (wsOf cur).length = m ∧ aSum wr a7 m = cur.sum) := ⟨i2, i3, i4, i5, i6, i7, i8, hwm, by rw [aSum_tl i1 hwm, wsOf_sum]⟩
            have HTl : Hid (Tl w wr i m a6 a7 c7 go U (wsOf cur) (spread own A)) := i1
            clear HI i1 i2 i3 i4 i5 i6 i7 i8 hwm hsum hds
            obtain ⟨w9, rfl⟩ : ∃ w9, w9 = wr := ⟨_, rfl⟩
            go_wp2_with (go_at_call 92; refine HDp.out.mono ?_; rintro e w2 ⟨a10, c10, rfl, h1, h2, h3⟩; have H2 : Hid (Tl w w2 i m a6 a7 c7 go U (wsOf cur) (spread own (mixL ds A 0)) ∧ Row w2 a10 (ints ds) ∧ (∀ x, a10 = some x → x.block ≠ go ∧ w.heap.size ≤ x.block)) := ⟨by simpa [mixL] using HTl.out.kept h3, h1, fun x e => by (have e1 := h2 x e; have e2 := HTl.out.out.lt; have e3 := HTl.out.k.size; omega)⟩; clear h1 h2 h3)
            clear HDp HTl
            go_loopw [11, 12] (fun s11 s12 w' => ∃ t : Nat, t ≤ m ∧ s12 = .int .i64 (t : Int) ∧ s11 = .int .i64 ((maxL (ds.take t) : Nat) : Int) ∧ Hid (Tl w w' i m a6 a7 c7 go U (wsOf cur) (spread own (mixL ds A t)) ∧ Row w' a10 (ints ds))) (fun s11 s12 w' => ((m : Int) - intOf s12).toNat)
            case atStart => exact ⟨0, by omega, rfl, by simp [maxL], H2.out.1, H2.out.2.1⟩
            case round =>
              obtain ⟨t, ht, rfl, rfl, HL⟩ := hrel
              by_cases htm : t < m
              · have htz : (t : Int) < (m : Int) := by omega
                obtain ⟨l1, l2⟩ := HL.out
                have htU : t < U.length := by have := HUW.out.2.2; omega
                have htd : t < ds.length := by have := HDs.out.1; omega
                obtain ⟨b6, off6, rfl, hb6, hc6⟩ := l1.row.at (by rw [ints_length]; omega)
                obtain ⟨b10, off10, rfl, hb10, hc10⟩ := l2.at (by rw [ints_length]; omega)
                have cU := hc6 wr (Keeps.refl _ _) t (by rw [ints_length]; exact htU)
                have cD := hc10 wr (Keeps.refl _ _) t (by rw [ints_length]; exact htd)
                rw [ints_get _ _ htU] at cU
                rw [ints_get _ _ htd] at cD
                have hsn : U[t] < i := by
                  have h' := usedL_lt own 0 U[t] (by rw [HUW.out.1]; exact List.getElem_mem htU)
                  have := HOw.out.2.1; omega
                have hol : U[t] < (ints (spread own (mixL ds A t))).length := by rw [ints_length, spread_length, HOw.out.2.1]; exact hsn
                have cO := l1.out.cell U[t] hol
                have fO := l1.out.free U[t] hol
                have d6 : ¬ b6 = go := (l1.d1 _ rfl).1
                have d10 : ¬ b10 = go := (H2.out.2.2 _ rfl).1
                have d6' : ¬ go = b6 := fun e => d6 e.symm
                have d10' : ¬ go = b10 := fun e => d10 e.symm
                have HM : Hid (maxL (ds.take (t + 1)) = max (maxL (ds.take t)) ds[t] ∧ (spread own (mixL ds A t)).set U[t] ds[t] = spread own (mixL ds A (t + 1))) := by
                  refine ⟨by rw [List.take_succ_eq_append_getElem htd, maxL_snoc], ?_⟩
                  have hA := HCur.out.1
                  have hd := HDs.out.1
                  have hu' : t < (usedL 0 own).length := by rw [HUW.out.1]; exact htU
                  have h := spread_setk own 0 (mixL ds A t) t ds[t] (by rw [mixL_length _ _ _ (by omega) (by omega)]; exact htd) hu'
                  rw [mixL_set ds A t htd (by omega), Nat.sub_zero] at h
                  rw [← h]
                  congr 1
                  have := HUW.out.1
                  subst this
                  rfl
                have HL' : Hid (Tl w wr i m (some ⟨b6, off6, none⟩) a7 c7 go U (wsOf cur) (spread own (mixL ds A t)) ∧ Row wr (some ⟨b10, off10, none⟩) (ints ds)) := ⟨l1, l2⟩
                have hsz : (U[t] : Int) < (i : Int) := by omega
                generalize at_ (ints (spread own (mixL ds A t))) U[t] = v0 at *
                generalize U[t] = sy at *
                generalize ds[t] = d at *
                generalize maxL (ds.take t) = M0 at *
                clear HL l1 l2 hc6 hc10 htU htd hol
                go_wp2
                go_region
                clear cU cO fO d6' d10'
                generalize hw3 : (wr.setCell _ _).drew = w3
                have H3 : Hid (Tl w w3 i m (some ⟨b6, off6, none⟩) a7 c7 go U (wsOf cur) (spread own (mixL ds A (t + 1))) ∧ Row w3 (some ⟨b10, off10, none⟩) (ints ds)) := by
                  obtain ⟨p1, p2⟩ := HL'.out.1.put sy d
                  rw [← hw3, ← HM.out.2]
                  exact ⟨p1.drew, (HL'.out.2.kept p2 (fun x e => by cases e; exact d10)).keptF ((Keeps.refl _ _).drew)⟩
                have cD3 : w3.cell? ⟨b10, off10 + t, none⟩ = some (.int .i64 (d : Int)) := by
                  rw [← hw3]
                  exact (World.cell?_of_block (Below.heap_setCell _ _ _ _ d10)).trans cD
                clear hw3 cD
                go_wp2
                go_roundw
                case rel =>
                  refine ⟨t + 1, by omega, by push_cast; rfl, ?_, H3.out⟩
                  rw [HM.out.1]
                  congr 1
                  first | (split <;> omega) | omega
                case measure => simp [intOf]; omega
              · obtain rfl : t = m := by omega
                have htd : ds.take t = ds := List.take_of_length_le (by have := HDs.out.1; omega)
                rw [htd]
                have HE : Hid (Tl w wr i t a6 a7 c7 go U (wsOf cur) (spread own ds)) := by
                  have := HL.out.1
                  rw [show mixL ds A t = ds by unfold mixL; rw [htd, List.drop_of_length_le (by have := HCur.out.1; omega), List.append_nil]] at this
                  exact this
                clear htd HL htm ht
                by_cases hmx : maxL ds ≤ k
                · have hmz : (maxL ds : Int) ≤ (k : Int) := by omega
                  have HFin : Hid (Own wr go i (ints R)) := by
                    have h1 := lim_done k fuel cur (by rw [← HDs.out.2.2]; exact hmx)
                    rw [HCur.out.2.2.2.2.2.1] at h1
                    rw [h1, HDs.out.2.1]; exact HE.out.out
                  generalize maxL ds = mx at *
                  go_wp2
                  go_ret2
                  exact .inr ⟨HOw.out.2.2.2, go, rfl, by rw [HRR.out]; exact HFin.out, HE.out.k⟩
                · have hmz : ¬ (maxL ds : Int) ≤ (k : Int) := by omega
                  have HMx : Hid (k < maxL (depthsL cur)) := by rw [← HDs.out.2.2]; show k < maxL ds; omega
                  have ht0 : 1 ≤ t := by
                    by_cases e : t = 0
                    · have : ds = [] := List.length_eq_zero_iff.1 (by rw [HDs.out.1, e])
                      rw [this] at hmx; simp [maxL] at hmx
                    · omega
                  obtain ⟨g7, rfl⟩ : ∃ g7, a7 = some ⟨g7, 0, none⟩ := by
                    rcases HE.out.ws.form with ⟨e, _⟩ | ⟨g, c, e, _, _⟩
                    · simp only [Value.slice.injEq] at e; omega
                    · simp only [Value.slice.injEq] at e; exact ⟨g, e.1⟩
                  have HB : Hid (∀ y ∈ wsOf cur, y ≤ 2147483647) := fun y hy => HCur.out.2.2.2.1 y (wsOf_mem cur y hy).1
                  have HWl : Hid ((wsOf cur).length = t) := HCur.out.2.2.2.2.2.2.2.1
                  generalize maxL ds = mx at *
                  go_wp2
                  go_loopw [13] (fun s13 w' => ∃ z : Nat, z ≤ t ∧ s13 = .int .i64 (z : Int) ∧ Hid (Tl w w' i t a6 (some ⟨g7, 0, none⟩) c7 go U (halveL ((wsOf cur).take z) ++ (wsOf cur).drop z) (spread own ds))) (fun s13 w' => ((t : Int) - intOf s13).toNat)
                  case atStart => exact ⟨0, by omega, rfl, (by simpa [halveL] using HE.out : Tl w wr i t a6 (some ⟨g7, 0, none⟩) c7 go U (halveL ((wsOf cur).take 0) ++ (wsOf cur).drop 0) (spread own ds))⟩
                  case round =>
                    obtain ⟨z, hz, rfl, HZ⟩ := hrel
                    by_cases hzt : z < t
                    · have hzz : (z : Int) < (t : Int) := by omega
                      have hzl : z < (wsOf cur).length := by rw [HWl.out]; exact hzt
                      have hml : (halveL ((wsOf cur).take z) ++ (wsOf cur).drop z).length = t := by simp [halveL]; have := HWl.out; omega
                      have hat : (halveL ((wsOf cur).take z) ++ (wsOf cur).drop z).getD z 0 = (wsOf cur)[z] := by
                        rw [List.getD, List.getElem?_append_right (by simp [halveL]; omega)]
                        simp [halveL, Nat.min_eq_left (Nat.le_of_lt hzl), hzl]
                      have ho := HZ.out.ws
                      unfold OwnV at ho
                      rw [ints_length, hml] at ho
                      obtain ⟨cz, fz⟩ := owns_cell ho z _ (nats_get _ z (by omega))
                      rw [hat] at cz
                      have hyb := HB.out _ (List.getElem_mem hzl)
                      have HS : Hid ((halveL ((wsOf cur).take z) ++ (wsOf cur).drop z).set z (half (wsOf cur)[z]) = halveL ((wsOf cur).take (z + 1)) ++ (wsOf cur).drop (z + 1) ∧ (halveL ((wsOf cur).take z) ++ (wsOf cur).drop z).length = t ∧ ((((wsOf cur)[z] : Nat) : Int) + 1) / 2 = ((half (wsOf cur)[z] : Nat) : Int)) := ⟨halve_set _ z hzl, hml, half_two _⟩
                      generalize (wsOf cur)[z] = y at *
                      clear ho hat hml hzl
                      go_wp2
                      go_roundw
                      case rel =>
                        refine ⟨z + 1, by omega, by push_cast; rfl, ?_⟩
                        rw [← HS.out.1, HS.out.2.2]
                        exact HZ.out.turn HS.out.2.1 z (half y)
                      case measure => simp [intOf]; omega
                    · obtain rfl : z = t := by omega
                      have HZ' : Hid (Tl w wr i z a6 (some ⟨g7, 0, none⟩) c7 go U (wsOf (halveL cur)) (spread own ds)) := by
                        have := HZ.out
                        rw [List.take_of_length_le (by have := HWl.out; omega), List.drop_of_length_le (by have := HWl.out; omega), List.append_nil, ← wsOf_half] at this
                        exact this
                      clear HZ
                      obtain ⟨c1, c2, c3, c4, c5, c6', c7', c8, c9⟩ := HCur.out
                      have hws : (wsOf cur).length ≤ 2 ^ k := by rw [c8]; exact HPw.out
                      have hlt := more_half cur k hws HMx.out
                      obtain ⟨fuel', f1, f2, f3⟩ := lim_more k fuel cur c5 hws HMx.out
                      have HNx : Hid (ds.length = z ∧ usedL 0 (halveL cur) = U ∧ (halveL cur).length = i ∧ (∀ y ∈ halveL cur, y ≤ 2147483647) ∧ (halveL cur).sum ≤ fuel' ∧ lim k fuel' (halveL cur) = R ∧ (∀ ds, spread (halveL cur) ds = spread own ds) ∧ aSum wr (some ⟨g7, 0, none⟩) z < aSum w9 (some ⟨g7, 0, none⟩) z) := by
                        refine ⟨HDs.out.1, by rw [usedL_half, c2], by simp [halveL, c3], fun y hy => ?_, f2, by rw [← f3, c6'], fun ds => by rw [spread_half, c7'], ?_⟩
                        · simp only [halveL, List.mem_map] at hy
                          obtain ⟨x, hx, rfl⟩ := hy
                          have := c4 x hx; unfold half; omega
                        · rw [aSum_tl HZ'.out (by rw [wsOf_half]; simp [halveL, c8]), wsOf_sum, c9]; exact hlt
                      clear c1 c2 c3 c4 c5 c6' c7' c8 c9 hws hlt f1 f2 f3
                      go_wp2
                      go_roundw
                      case rel =>
                        obtain ⟨e1, e2, e3, e4, e5, e6, e7, e8⟩ := HNx.out
                        exact ⟨halveL cur, fuel', ds, HZ'.out, e1, e2, e3, e4, e5, e6, e7⟩
                      case measure => exact HNx.out.2.2.2.2.2.2.2
        · obtain rfl : s = 0 := by omega
          obtain ⟨p1, p2⟩ := one_first zs hzl c hs hcw
          rw [← hpo] at p1 p2
          have HUW0 : Hid (usedL 0 own = [0, 1] ∧ wsOf own = [c, 1]) := ⟨p1, p2⟩
          have HOw : Hid ((∀ y ∈ own, y ≤ 2147483647) ∧ own.length = i ∧ lim k own.sum own = R ∧ fitL ys (k : Int) = true) := ⟨HO0.out.1, HO0.out.2.1, HO0.out.2.2, by rw [HFit.out, p1]; exact decide_eq_true hP2⟩
          clear HO0 HFit p1 p2 hs hcw hpo hzl hu1
          go_wp2_with (first
            | ((fail_if_success (clear H1)); refine wpList_one rfl _ _ rfl rfl w.heap.size (.slice (some ⟨g6, 0, none⟩) 1 c6) (ints [0]) rfl (HOw2.out.1.kept ((Keeps.refl (fun _ => False) wr).alloc _)).oa wr.heap.size 1 rfl (heap_alloc_new _ _) ?hb ?hn ?_; (case hb => have := HOw2.out.2.size; simp; omega); (case hn => simp [ints]); intro g1 c1 w1 hO1 hG1 hA1; have H1 : Hid (Own2 w1 w.heap.size (.slice (some ⟨g1, 0, none⟩) ((ints [0]).length + 1) c1) (.slice (some ⟨g7, 0, none⟩) 1 c7) (ints [0] ++ [1]) (ints [c]) ∧ Keeps (fun _ => False) w w1) := ⟨(HOw2.out.1.kept ((Keeps.refl (fun _ => False) wr).alloc _)).a hO1 hG1 hA1, (HOw2.out.2.alloc _).grown hG1 (fun k hk e => by (have := (World.ownsRow.lt HOw2.out.1.oa k e).1; omega))⟩; clear hO1 hG1 hA1)
            | ((fail_if_success (clear H2)); refine wpList_one rfl _ _ rfl rfl w.heap.size (.slice (some ⟨g7, 0, none⟩) 1 c7) (ints [c]) rfl (H1.out.1.kept ((Keeps.refl (fun _ => False) w1).alloc _)).ob w1.heap.size 1 rfl (heap_alloc_new _ _) ?hb ?hn ?_; (case hb => have := H1.out.2.size; simp; omega); (case hn => simp [ints]); intro g2 c2 w2 hO2 hG2 hA2; have H2 : Hid (Own2 w2 w.heap.size (.slice (some ⟨g1, 0, none⟩) 2 c1) (.slice (some ⟨g2, 0, none⟩) 2 c2) (ints [0, 1]) (ints [c, 1]) ∧ Keeps (fun _ => False) w w2) := ⟨(H1.out.1.kept ((Keeps.refl (fun _ => False) w1).alloc _)).b hO2 hG2 hA2, (H1.out.2.alloc _).grown hG2 (fun k hk e => by (have := (World.ownsRow.lt H1.out.1.ob k e).1; omega))⟩; clear hO2 hG2 hA2)
            | (refine wpList_ints rfl _ _ rfl i rfl rfl ?hn ?_; (case hn => omega); intro go w3 h1 h2 h3; have HT1 : Hid (Tl w w3 i 2 (some ⟨g1, 0, none⟩) (some ⟨g2, 0, none⟩) c2 go [0, 1] [c, 1] (List.replicate i 0)) := tl_start H2.out.1 H2.out.2 h1 h2 h3; clear h1 h2 h3))
          clear HOw2 hc6 hc7 hl6 hl7 H1 H2
          generalize hv6 : Value.slice (some ⟨g1, 0, none⟩) _ c1 = v6
          generalize hv7 : Value.slice (some ⟨g2, 0, none⟩) _ c2 = v7
          obtain ⟨m, a6, c6, a7, c7, U, W, w1, e6, e7, HUW, HT0, HPw, hm288, ew⟩ : ∃ m a6 c6 a7 c7 U W w1, v6 = .slice a6 m c6 ∧ v7 = .slice a7 m c7 ∧ Hid (usedL 0 own = U ∧ wsOf own = W ∧ U.length = m) ∧ Hid (Tl w w1 i m a6 a7 c7 go U W (List.replicate i 0)) ∧ Hid (m ≤ 2 ^ k) ∧ m ≤ 288 ∧ w1 = w3 := ⟨2, _, c1, _, c2, [0, 1], [c, 1], w3, hv6.symm, hv7.symm, ⟨HUW0.out.1, HUW0.out.2, rfl⟩, HT1.out, HPw2.out, by omega, rfl⟩
          clear hv6 hv7 HT1 HUW0 HPw2
          subst e6
          subst e7
          subst ew
          have HI0 : Hid (∃ cur fuel A, Tl w w1 i m a6 a7 c7 go U (wsOf cur) (spread own A) ∧ A.length = m ∧ usedL 0 cur = U ∧ cur.length = i ∧ (∀ y ∈ cur, y ≤ 2147483647) ∧ cur.sum ≤ fuel ∧ lim k fuel cur = R ∧ (∀ ds, spread cur ds = spread own ds)) := by
            obtain ⟨o1, o2, o3, o4⟩ := HOw.out
            obtain ⟨q1, q2, q3⟩ := HUW.out
            refine ⟨own, own.sum, List.replicate m 0, ?_, by simp, q1, o2, o1, Nat.le_refl _, o3, fun _ => rfl⟩
            rw [spread_zero, o2, q2]; exact HT0.out
          clear HT0
          go_wp2
          go_loopw [10] (fun s10 w' => Hid (∃ cur fuel A, Tl w w' i m a6 a7 c7 go U (wsOf cur) (spread own A) ∧ A.length = m ∧ usedL 0 cur = U ∧ cur.length = i ∧ (∀ y ∈ cur, y ≤ 2147483647) ∧ cur.sum ≤ fuel ∧ lim k fuel cur = R ∧ (∀ ds, spread cur ds = spread own ds))) (fun s10 w' => aSum w' a7 m)
          case atStart => exact HI0
          case round =>
            clear HI0
            have HI := hrel
            clear hrel
            obtain ⟨cur, fuel, A, i1, i2, i3, i4, i5, i6, i7, i8⟩ := HI.out
            have hwm : (wsOf cur).length = m := by rw [← usedL_length cur 0, i3, HUW.out.2.2]
            have hsum : (wsOf cur).sum ≤ 1099511627776 := by
              rw [wsOf_sum]
              have e1 := sum_le 2147483647 cur i5
              have e2 : cur.length * 2147483647 ≤ 288 * 2147483647 := Nat.mul_le_mul_right _ (by omega)
              omega
            obtain ⟨ds, hds⟩ : ∃ ds, dsOf (wsOf cur) = ds := ⟨_, rfl⟩
            have HDs : Hid (ds.length = m ∧ depthsL cur = spread own ds ∧ maxL ds = maxL (depthsL cur)) := by
              refine ⟨by rw [← hds, dsOf_length, hwm], ?_, ?_⟩
              · unfold depthsL; rw [hds, i8]
              · unfold depthsL; rw [hds, spread_max _ _ (by rw [← hds, dsOf_length])]
            have HDp : Hid (Calls Tryz.prog 92 #[.slice a7 m c7] wr fun e w' => ∃ a' c', e = .returned (.slice a' m c') ∧ Row w' a' (ints ds) ∧ (∀ x, a' = some x → wr.heap.size ≤ x.block) ∧ Keeps (fun _ => False) wr w') := by
              obtain ⟨a'', c'', e, r1, r2⟩ := i1.ws.row
              simp only [Value.slice.injEq] at e
              obtain ⟨rfl, _, rfl⟩ := e
              have := rdepths_any a7 (wsOf cur) c7 wr r1 (by omega) hsum
              rw [hwm, hds] at this
              exact this
            have HCur : Hid (A.length = m ∧ usedL 0 cur = U ∧ cur.length = i ∧ (∀ y ∈ cur, y ≤ 2147483647) ∧ cur.sum ≤ fuel ∧ lim k fuel cur = R ∧ (∀ ds, spread cur ds = spread own ds) ∧ (wsOf cur).length = m ∧ aSum wr a7 m = cur.sum) := ⟨i2, i3, i4, i5, i6, i7, i8, hwm, by rw [aSum_tl i1 hwm, wsOf_sum]⟩
            have HTl : Hid (Tl w wr i m a6 a7 c7 go U (wsOf cur) (spread own A)) := i1
            clear HI i1 i2 i3 i4 i5 i6 i7 i8 hwm hsum hds
            obtain ⟨w9, rfl⟩ : ∃ w9, w9 = wr := ⟨_, rfl⟩
            go_wp2_with (go_at_call 92; refine HDp.out.mono ?_; rintro e w2 ⟨a10, c10, rfl, h1, h2, h3⟩; have H2 : Hid (Tl w w2 i m a6 a7 c7 go U (wsOf cur) (spread own (mixL ds A 0)) ∧ Row w2 a10 (ints ds) ∧ (∀ x, a10 = some x → x.block ≠ go ∧ w.heap.size ≤ x.block)) := ⟨by simpa [mixL] using HTl.out.kept h3, h1, fun x e => by (have e1 := h2 x e; have e2 := HTl.out.out.lt; have e3 := HTl.out.k.size; omega)⟩; clear h1 h2 h3)
            clear HDp HTl
            go_loopw [11, 12] (fun s11 s12 w' => ∃ t : Nat, t ≤ m ∧ s12 = .int .i64 (t : Int) ∧ s11 = .int .i64 ((maxL (ds.take t) : Nat) : Int) ∧ Hid (Tl w w' i m a6 a7 c7 go U (wsOf cur) (spread own (mixL ds A t)) ∧ Row w' a10 (ints ds))) (fun s11 s12 w' => ((m : Int) - intOf s12).toNat)
            case atStart => exact ⟨0, by omega, rfl, by simp [maxL], H2.out.1, H2.out.2.1⟩
            case round =>
              obtain ⟨t, ht, rfl, rfl, HL⟩ := hrel
              by_cases htm : t < m
              · have htz : (t : Int) < (m : Int) := by omega
                obtain ⟨l1, l2⟩ := HL.out
                have htU : t < U.length := by have := HUW.out.2.2; omega
                have htd : t < ds.length := by have := HDs.out.1; omega
                obtain ⟨b6, off6, rfl, hb6, hc6⟩ := l1.row.at (by rw [ints_length]; omega)
                obtain ⟨b10, off10, rfl, hb10, hc10⟩ := l2.at (by rw [ints_length]; omega)
                have cU := hc6 wr (Keeps.refl _ _) t (by rw [ints_length]; exact htU)
                have cD := hc10 wr (Keeps.refl _ _) t (by rw [ints_length]; exact htd)
                rw [ints_get _ _ htU] at cU
                rw [ints_get _ _ htd] at cD
                have hsn : U[t] < i := by
                  have h' := usedL_lt own 0 U[t] (by rw [HUW.out.1]; exact List.getElem_mem htU)
                  have := HOw.out.2.1; omega
                have hol : U[t] < (ints (spread own (mixL ds A t))).length := by rw [ints_length, spread_length, HOw.out.2.1]; exact hsn
                have cO := l1.out.cell U[t] hol
                have fO := l1.out.free U[t] hol
                have d6 : ¬ b6 = go := (l1.d1 _ rfl).1
                have d10 : ¬ b10 = go := (H2.out.2.2 _ rfl).1
                have d6' : ¬ go = b6 := fun e => d6 e.symm
                have d10' : ¬ go = b10 := fun e => d10 e.symm
                have HM : Hid (maxL (ds.take (t + 1)) = max (maxL (ds.take t)) ds[t] ∧ (spread own (mixL ds A t)).set U[t] ds[t] = spread own (mixL ds A (t + 1))) := by
                  refine ⟨by rw [List.take_succ_eq_append_getElem htd, maxL_snoc], ?_⟩
                  have hA := HCur.out.1
                  have hd := HDs.out.1
                  have hu' : t < (usedL 0 own).length := by rw [HUW.out.1]; exact htU
                  have h := spread_setk own 0 (mixL ds A t) t ds[t] (by rw [mixL_length _ _ _ (by omega) (by omega)]; exact htd) hu'
                  rw [mixL_set ds A t htd (by omega), Nat.sub_zero] at h
                  rw [← h]
                  congr 1
                  have := HUW.out.1
                  subst this
                  rfl
                have HL' : Hid (Tl w wr i m (some ⟨b6, off6, none⟩) a7 c7 go U (wsOf cur) (spread own (mixL ds A t)) ∧ Row wr (some ⟨b10, off10, none⟩) (ints ds)) := ⟨l1, l2⟩
                have hsz : (U[t] : Int) < (i : Int) := by omega
                generalize at_ (ints (spread own (mixL ds A t))) U[t] = v0 at *
                generalize U[t] = sy at *
                generalize ds[t] = d at *
                generalize maxL (ds.take t) = M0 at *
                clear HL l1 l2 hc6 hc10 htU htd hol
                go_wp2
                go_region
                clear cU cO fO d6' d10'
                generalize hw3 : (wr.setCell _ _).drew = w3
                have H3 : Hid (Tl w w3 i m (some ⟨b6, off6, none⟩) a7 c7 go U (wsOf cur) (spread own (mixL ds A (t + 1))) ∧ Row w3 (some ⟨b10, off10, none⟩) (ints ds)) := by
                  obtain ⟨p1, p2⟩ := HL'.out.1.put sy d
                  rw [← hw3, ← HM.out.2]
                  exact ⟨p1.drew, (HL'.out.2.kept p2 (fun x e => by cases e; exact d10)).keptF ((Keeps.refl _ _).drew)⟩
                have cD3 : w3.cell? ⟨b10, off10 + t, none⟩ = some (.int .i64 (d : Int)) := by
                  rw [← hw3]
                  exact (World.cell?_of_block (Below.heap_setCell _ _ _ _ d10)).trans cD
                clear hw3 cD
                go_wp2
                go_roundw
                case rel =>
                  refine ⟨t + 1, by omega, by push_cast; rfl, ?_, H3.out⟩
                  rw [HM.out.1]
                  congr 1
                  first | (split <;> omega) | omega
                case measure => simp [intOf]; omega
              · obtain rfl : t = m := by omega
                have htd : ds.take t = ds := List.take_of_length_le (by have := HDs.out.1; omega)
                rw [htd]
                have HE : Hid (Tl w wr i t a6 a7 c7 go U (wsOf cur) (spread own ds)) := by
                  have := HL.out.1
                  rw [show mixL ds A t = ds by unfold mixL; rw [htd, List.drop_of_length_le (by have := HCur.out.1; omega), List.append_nil]] at this
                  exact this
                clear htd HL htm ht
                by_cases hmx : maxL ds ≤ k
                · have hmz : (maxL ds : Int) ≤ (k : Int) := by omega
                  have HFin : Hid (Own wr go i (ints R)) := by
                    have h1 := lim_done k fuel cur (by rw [← HDs.out.2.2]; exact hmx)
                    rw [HCur.out.2.2.2.2.2.1] at h1
                    rw [h1, HDs.out.2.1]; exact HE.out.out
                  generalize maxL ds = mx at *
                  go_wp2
                  go_ret2
                  exact .inr ⟨HOw.out.2.2.2, go, rfl, by rw [HRR.out]; exact HFin.out, HE.out.k⟩
                · have hmz : ¬ (maxL ds : Int) ≤ (k : Int) := by omega
                  have HMx : Hid (k < maxL (depthsL cur)) := by rw [← HDs.out.2.2]; show k < maxL ds; omega
                  have ht0 : 1 ≤ t := by
                    by_cases e : t = 0
                    · have : ds = [] := List.length_eq_zero_iff.1 (by rw [HDs.out.1, e])
                      rw [this] at hmx; simp [maxL] at hmx
                    · omega
                  obtain ⟨g7, rfl⟩ : ∃ g7, a7 = some ⟨g7, 0, none⟩ := by
                    rcases HE.out.ws.form with ⟨e, _⟩ | ⟨g, c, e, _, _⟩
                    · simp only [Value.slice.injEq] at e; omega
                    · simp only [Value.slice.injEq] at e; exact ⟨g, e.1⟩
                  have HB : Hid (∀ y ∈ wsOf cur, y ≤ 2147483647) := fun y hy => HCur.out.2.2.2.1 y (wsOf_mem cur y hy).1
                  have HWl : Hid ((wsOf cur).length = t) := HCur.out.2.2.2.2.2.2.2.1
                  generalize maxL ds = mx at *
                  go_wp2
                  go_loopw [13] (fun s13 w' => ∃ z : Nat, z ≤ t ∧ s13 = .int .i64 (z : Int) ∧ Hid (Tl w w' i t a6 (some ⟨g7, 0, none⟩) c7 go U (halveL ((wsOf cur).take z) ++ (wsOf cur).drop z) (spread own ds))) (fun s13 w' => ((t : Int) - intOf s13).toNat)
                  case atStart => exact ⟨0, by omega, rfl, (by simpa [halveL] using HE.out : Tl w wr i t a6 (some ⟨g7, 0, none⟩) c7 go U (halveL ((wsOf cur).take 0) ++ (wsOf cur).drop 0) (spread own ds))⟩
                  case round =>
                    obtain ⟨z, hz, rfl, HZ⟩ := hrel
                    by_cases hzt : z < t
                    · have hzz : (z : Int) < (t : Int) := by omega
                      have hzl : z < (wsOf cur).length := by rw [HWl.out]; exact hzt
                      have hml : (halveL ((wsOf cur).take z) ++ (wsOf cur).drop z).length = t := by simp [halveL]; have := HWl.out; omega
                      have hat : (halveL ((wsOf cur).take z) ++ (wsOf cur).drop z).getD z 0 = (wsOf cur)[z] := by
                        rw [List.getD, List.getElem?_append_right (by simp [halveL]; omega)]
                        simp [halveL, Nat.min_eq_left (Nat.le_of_lt hzl), hzl]
                      have ho := HZ.out.ws
                      unfold OwnV at ho
                      rw [ints_length, hml] at ho
                      obtain ⟨cz, fz⟩ := owns_cell ho z _ (nats_get _ z (by omega))
                      rw [hat] at cz
                      have hyb := HB.out _ (List.getElem_mem hzl)
                      have HS : Hid ((halveL ((wsOf cur).take z) ++ (wsOf cur).drop z).set z (half (wsOf cur)[z]) = halveL ((wsOf cur).take (z + 1)) ++ (wsOf cur).drop (z + 1) ∧ (halveL ((wsOf cur).take z) ++ (wsOf cur).drop z).length = t ∧ ((((wsOf cur)[z] : Nat) : Int) + 1) / 2 = ((half (wsOf cur)[z] : Nat) : Int)) := ⟨halve_set _ z hzl, hml, half_two _⟩
                      generalize (wsOf cur)[z] = y at *
                      clear ho hat hml hzl
                      go_wp2
                      go_roundw
                      case rel =>
                        refine ⟨z + 1, by omega, by push_cast; rfl, ?_⟩
                        rw [← HS.out.1, HS.out.2.2]
                        exact HZ.out.turn HS.out.2.1 z (half y)
                      case measure => simp [intOf]; omega
                    · obtain rfl : z = t := by omega
                      have HZ' : Hid (Tl w wr i z a6 (some ⟨g7, 0, none⟩) c7 go U (wsOf (halveL cur)) (spread own ds)) := by
                        have := HZ.out
                        rw [List.take_of_length_le (by have := HWl.out; omega), List.drop_of_length_le (by have := HWl.out; omega), List.append_nil, ← wsOf_half] at this
                        exact this
                      clear HZ
                      obtain ⟨c1, c2, c3, c4, c5, c6', c7', c8, c9⟩ := HCur.out
                      have hws : (wsOf cur).length ≤ 2 ^ k := by rw [c8]; exact HPw.out
                      have hlt := more_half cur k hws HMx.out
                      obtain ⟨fuel', f1, f2, f3⟩ := lim_more k fuel cur c5 hws HMx.out
                      have HNx : Hid (ds.length = z ∧ usedL 0 (halveL cur) = U ∧ (halveL cur).length = i ∧ (∀ y ∈ halveL cur, y ≤ 2147483647) ∧ (halveL cur).sum ≤ fuel' ∧ lim k fuel' (halveL cur) = R ∧ (∀ ds, spread (halveL cur) ds = spread own ds) ∧ aSum wr (some ⟨g7, 0, none⟩) z < aSum w9 (some ⟨g7, 0, none⟩) z) := by
                        refine ⟨HDs.out.1, by rw [usedL_half, c2], by simp [halveL, c3], fun y hy => ?_, f2, by rw [← f3, c6'], fun ds => by rw [spread_half, c7'], ?_⟩
                        · simp only [halveL, List.mem_map] at hy
                          obtain ⟨x, hx, rfl⟩ := hy
                          have := c4 x hx; unfold half; omega
                        · rw [aSum_tl HZ'.out (by rw [wsOf_half]; simp [halveL, c8]), wsOf_sum, c9]; exact hlt
                      clear c1 c2 c3 c4 c5 c6' c7' c8 c9 hws hlt f1 f2 f3
                      go_wp2
                      go_roundw
                      case rel =>
                        obtain ⟨e1, e2, e3, e4, e5, e6, e7, e8⟩ := HNx.out
                        exact ⟨halveL cur, fuel', ds, HZ'.out, e1, e2, e3, e4, e5, e6, e7⟩
                      case measure => exact HNx.out.2.2.2.2.2.2.2
      · have hpair : own = zs := by rw [hpo]; exact not_one zs hu1
        obtain ⟨a6, c6, rfl, r6, d6⟩ := HOw2.out.1.oa.row
        obtain ⟨a7, c7, rfl, r7, d7⟩ := HOw2.out.1.ob.row
        have hlu : (ints (usedL 0 zs)).length = (usedL 0 zs).length := ints_length _
        have hlw : (ints (wsOf zs)).length = (usedL 0 zs).length := by rw [ints_length, usedL_length]
        rw [hlu, hlw] at HOw2
        rw [hlu, hlw]
        rw [← hpair] at HOw2 hu1 ⊢
        obtain ⟨U, hU⟩ : ∃ U, usedL 0 own = U := ⟨_, rfl⟩
        obtain ⟨m, hm⟩ : ∃ m, U.length = m := ⟨_, rfl⟩
        obtain ⟨W, hW⟩ : ∃ W, wsOf own = W := ⟨_, rfl⟩
        have HUW : Hid (usedL 0 own = U ∧ wsOf own = W ∧ U.length = m) := ⟨hU, hW, hm⟩
        rw [hU, hm] at HOw2 hu1 HFit ⊢
        rw [hW] at HOw2
        have hm288 : m ≤ 288 := by
          rw [← hm, ← hU, usedL_length]
          have e1 := wsOf_le own
          have e2 := HO0.out.2.1
          omega
        have hmz : ¬ (m : Int) = 1 := by omega
        have hmb : ((m : Int) == 1) = false := by simpa using hmz
        clear r6 r7 d6 d7 hpair hlu hlw hpo hzl hU hm hW
        by_cases hPm : P < m
        · have hPz : (P : Int) < (m : Int) := by omega
          have HF : Hid (fitL ys (k : Int) = false) := by rw [HFit.out]; show decide (m ≤ P) = false; exact decide_eq_false (by omega)
          have HK : Hid (Keeps (fun _ => False) w wr) := HOw2.out.2
          clear HOw2 HFit HO0
          go_wp2
          go_ret2
          exact .inl ⟨HF.out, rfl, HK.out⟩
        · have hPz : ¬ (P : Int) < (m : Int) := by omega
          have HOw : Hid ((∀ y ∈ own, y ≤ 2147483647) ∧ own.length = i ∧ lim k own.sum own = R ∧ fitL ys (k : Int) = true) := ⟨HO0.out.1, HO0.out.2.1, HO0.out.2.2, by rw [HFit.out]; exact decide_eq_true (by omega)⟩
          have HPw : Hid (m ≤ 2 ^ k) := by rw [HPP.out]; show m ≤ P; omega
          clear HO0 HFit
          go_wp2_with (refine wpList_ints rfl _ _ rfl i rfl rfl ?hn ?_; (case hn => omega); intro go w1 h1 h2 h3; have HT0 : Hid (Tl w w1 i m a6 a7 c7 go U W (List.replicate i 0)) := tl_start HOw2.out.1 HOw2.out.2 h1 h2 h3; clear h1 h2 h3)
          clear HOw2
          have HI0 : Hid (∃ cur fuel A, Tl w w1 i m a6 a7 c7 go U (wsOf cur) (spread own A) ∧ A.length = m ∧ usedL 0 cur = U ∧ cur.length = i ∧ (∀ y ∈ cur, y ≤ 2147483647) ∧ cur.sum ≤ fuel ∧ lim k fuel cur = R ∧ (∀ ds, spread cur ds = spread own ds)) := by
            obtain ⟨o1, o2, o3, o4⟩ := HOw.out
            obtain ⟨q1, q2, q3⟩ := HUW.out
            refine ⟨own, own.sum, List.replicate m 0, ?_, by simp, q1, o2, o1, Nat.le_refl _, o3, fun _ => rfl⟩
            rw [spread_zero, o2, q2]; exact HT0.out
          clear HT0
          go_wp2
          go_loopw [10] (fun s10 w' => Hid (∃ cur fuel A, Tl w w' i m a6 a7 c7 go U (wsOf cur) (spread own A) ∧ A.length = m ∧ usedL 0 cur = U ∧ cur.length = i ∧ (∀ y ∈ cur, y ≤ 2147483647) ∧ cur.sum ≤ fuel ∧ lim k fuel cur = R ∧ (∀ ds, spread cur ds = spread own ds))) (fun s10 w' => aSum w' a7 m)
          case atStart => exact HI0
          case round =>
            clear HI0
            have HI := hrel
            clear hrel
            obtain ⟨cur, fuel, A, i1, i2, i3, i4, i5, i6, i7, i8⟩ := HI.out
            have hwm : (wsOf cur).length = m := by rw [← usedL_length cur 0, i3, HUW.out.2.2]
            have hsum : (wsOf cur).sum ≤ 1099511627776 := by
              rw [wsOf_sum]
              have e1 := sum_le 2147483647 cur i5
              have e2 : cur.length * 2147483647 ≤ 288 * 2147483647 := Nat.mul_le_mul_right _ (by omega)
              omega
            obtain ⟨ds, hds⟩ : ∃ ds, dsOf (wsOf cur) = ds := ⟨_, rfl⟩
            have HDs : Hid (ds.length = m ∧ depthsL cur = spread own ds ∧ maxL ds = maxL (depthsL cur)) := by
              refine ⟨by rw [← hds, dsOf_length, hwm], ?_, ?_⟩
              · unfold depthsL; rw [hds, i8]
              · unfold depthsL; rw [hds, spread_max _ _ (by rw [← hds, dsOf_length])]
            have HDp : Hid (Calls Tryz.prog 92 #[.slice a7 m c7] wr fun e w' => ∃ a' c', e = .returned (.slice a' m c') ∧ Row w' a' (ints ds) ∧ (∀ x, a' = some x → wr.heap.size ≤ x.block) ∧ Keeps (fun _ => False) wr w') := by
              obtain ⟨a'', c'', e, r1, r2⟩ := i1.ws.row
              simp only [Value.slice.injEq] at e
              obtain ⟨rfl, _, rfl⟩ := e
              have := rdepths_any a7 (wsOf cur) c7 wr r1 (by omega) hsum
              rw [hwm, hds] at this
              exact this
            have HCur : Hid (A.length = m ∧ usedL 0 cur = U ∧ cur.length = i ∧ (∀ y ∈ cur, y ≤ 2147483647) ∧ cur.sum ≤ fuel ∧ lim k fuel cur = R ∧ (∀ ds, spread cur ds = spread own ds) ∧ (wsOf cur).length = m ∧ aSum wr a7 m = cur.sum) := ⟨i2, i3, i4, i5, i6, i7, i8, hwm, by rw [aSum_tl i1 hwm, wsOf_sum]⟩
            have HTl : Hid (Tl w wr i m a6 a7 c7 go U (wsOf cur) (spread own A)) := i1
            clear HI i1 i2 i3 i4 i5 i6 i7 i8 hwm hsum hds
            obtain ⟨w9, rfl⟩ : ∃ w9, w9 = wr := ⟨_, rfl⟩
            go_wp2_with (go_at_call 92; refine HDp.out.mono ?_; rintro e w2 ⟨a10, c10, rfl, h1, h2, h3⟩; have H2 : Hid (Tl w w2 i m a6 a7 c7 go U (wsOf cur) (spread own (mixL ds A 0)) ∧ Row w2 a10 (ints ds) ∧ (∀ x, a10 = some x → x.block ≠ go ∧ w.heap.size ≤ x.block)) := ⟨by simpa [mixL] using HTl.out.kept h3, h1, fun x e => by (have e1 := h2 x e; have e2 := HTl.out.out.lt; have e3 := HTl.out.k.size; omega)⟩; clear h1 h2 h3)
            clear HDp HTl
            go_loopw [11, 12] (fun s11 s12 w' => ∃ t : Nat, t ≤ m ∧ s12 = .int .i64 (t : Int) ∧ s11 = .int .i64 ((maxL (ds.take t) : Nat) : Int) ∧ Hid (Tl w w' i m a6 a7 c7 go U (wsOf cur) (spread own (mixL ds A t)) ∧ Row w' a10 (ints ds))) (fun s11 s12 w' => ((m : Int) - intOf s12).toNat)
            case atStart => exact ⟨0, by omega, rfl, by simp [maxL], H2.out.1, H2.out.2.1⟩
            case round =>
              obtain ⟨t, ht, rfl, rfl, HL⟩ := hrel
              by_cases htm : t < m
              · have htz : (t : Int) < (m : Int) := by omega
                obtain ⟨l1, l2⟩ := HL.out
                have htU : t < U.length := by have := HUW.out.2.2; omega
                have htd : t < ds.length := by have := HDs.out.1; omega
                obtain ⟨b6, off6, rfl, hb6, hc6⟩ := l1.row.at (by rw [ints_length]; omega)
                obtain ⟨b10, off10, rfl, hb10, hc10⟩ := l2.at (by rw [ints_length]; omega)
                have cU := hc6 wr (Keeps.refl _ _) t (by rw [ints_length]; exact htU)
                have cD := hc10 wr (Keeps.refl _ _) t (by rw [ints_length]; exact htd)
                rw [ints_get _ _ htU] at cU
                rw [ints_get _ _ htd] at cD
                have hsn : U[t] < i := by
                  have h' := usedL_lt own 0 U[t] (by rw [HUW.out.1]; exact List.getElem_mem htU)
                  have := HOw.out.2.1; omega
                have hol : U[t] < (ints (spread own (mixL ds A t))).length := by rw [ints_length, spread_length, HOw.out.2.1]; exact hsn
                have cO := l1.out.cell U[t] hol
                have fO := l1.out.free U[t] hol
                have d6 : ¬ b6 = go := (l1.d1 _ rfl).1
                have d10 : ¬ b10 = go := (H2.out.2.2 _ rfl).1
                have d6' : ¬ go = b6 := fun e => d6 e.symm
                have d10' : ¬ go = b10 := fun e => d10 e.symm
                have HM : Hid (maxL (ds.take (t + 1)) = max (maxL (ds.take t)) ds[t] ∧ (spread own (mixL ds A t)).set U[t] ds[t] = spread own (mixL ds A (t + 1))) := by
                  refine ⟨by rw [List.take_succ_eq_append_getElem htd, maxL_snoc], ?_⟩
                  have hA := HCur.out.1
                  have hd := HDs.out.1
                  have hu' : t < (usedL 0 own).length := by rw [HUW.out.1]; exact htU
                  have h := spread_setk own 0 (mixL ds A t) t ds[t] (by rw [mixL_length _ _ _ (by omega) (by omega)]; exact htd) hu'
                  rw [mixL_set ds A t htd (by omega), Nat.sub_zero] at h
                  rw [← h]
                  congr 1
                  have := HUW.out.1
                  subst this
                  rfl
                have HL' : Hid (Tl w wr i m (some ⟨b6, off6, none⟩) a7 c7 go U (wsOf cur) (spread own (mixL ds A t)) ∧ Row wr (some ⟨b10, off10, none⟩) (ints ds)) := ⟨l1, l2⟩
                have hsz : (U[t] : Int) < (i : Int) := by omega
                generalize at_ (ints (spread own (mixL ds A t))) U[t] = v0 at *
                generalize U[t] = sy at *
                generalize ds[t] = d at *
                generalize maxL (ds.take t) = M0 at *
                clear HL l1 l2 hc6 hc10 htU htd hol
                go_wp2
                go_region
                clear cU cO fO d6' d10'
                generalize hw3 : (wr.setCell _ _).drew = w3
                have H3 : Hid (Tl w w3 i m (some ⟨b6, off6, none⟩) a7 c7 go U (wsOf cur) (spread own (mixL ds A (t + 1))) ∧ Row w3 (some ⟨b10, off10, none⟩) (ints ds)) := by
                  obtain ⟨p1, p2⟩ := HL'.out.1.put sy d
                  rw [← hw3, ← HM.out.2]
                  exact ⟨p1.drew, (HL'.out.2.kept p2 (fun x e => by cases e; exact d10)).keptF ((Keeps.refl _ _).drew)⟩
                have cD3 : w3.cell? ⟨b10, off10 + t, none⟩ = some (.int .i64 (d : Int)) := by
                  rw [← hw3]
                  exact (World.cell?_of_block (Below.heap_setCell _ _ _ _ d10)).trans cD
                clear hw3 cD
                go_wp2
                go_roundw
                case rel =>
                  refine ⟨t + 1, by omega, by push_cast; rfl, ?_, H3.out⟩
                  rw [HM.out.1]
                  congr 1
                  first | (split <;> omega) | omega
                case measure => simp [intOf]; omega
              · obtain rfl : t = m := by omega
                have htd : ds.take t = ds := List.take_of_length_le (by have := HDs.out.1; omega)
                rw [htd]
                have HE : Hid (Tl w wr i t a6 a7 c7 go U (wsOf cur) (spread own ds)) := by
                  have := HL.out.1
                  rw [show mixL ds A t = ds by unfold mixL; rw [htd, List.drop_of_length_le (by have := HCur.out.1; omega), List.append_nil]] at this
                  exact this
                clear htd HL htm ht
                by_cases hmx : maxL ds ≤ k
                · have hmz : (maxL ds : Int) ≤ (k : Int) := by omega
                  have HFin : Hid (Own wr go i (ints R)) := by
                    have h1 := lim_done k fuel cur (by rw [← HDs.out.2.2]; exact hmx)
                    rw [HCur.out.2.2.2.2.2.1] at h1
                    rw [h1, HDs.out.2.1]; exact HE.out.out
                  generalize maxL ds = mx at *
                  go_wp2
                  go_ret2
                  exact .inr ⟨HOw.out.2.2.2, go, rfl, by rw [HRR.out]; exact HFin.out, HE.out.k⟩
                · have hmz : ¬ (maxL ds : Int) ≤ (k : Int) := by omega
                  have HMx : Hid (k < maxL (depthsL cur)) := by rw [← HDs.out.2.2]; show k < maxL ds; omega
                  have ht0 : 1 ≤ t := by
                    by_cases e : t = 0
                    · have : ds = [] := List.length_eq_zero_iff.1 (by rw [HDs.out.1, e])
                      rw [this] at hmx; simp [maxL] at hmx
                    · omega
                  obtain ⟨g7, rfl⟩ : ∃ g7, a7 = some ⟨g7, 0, none⟩ := by
                    rcases HE.out.ws.form with ⟨e, _⟩ | ⟨g, c, e, _, _⟩
                    · simp only [Value.slice.injEq] at e; omega
                    · simp only [Value.slice.injEq] at e; exact ⟨g, e.1⟩
                  have HB : Hid (∀ y ∈ wsOf cur, y ≤ 2147483647) := fun y hy => HCur.out.2.2.2.1 y (wsOf_mem cur y hy).1
                  have HWl : Hid ((wsOf cur).length = t) := HCur.out.2.2.2.2.2.2.2.1
                  generalize maxL ds = mx at *
                  go_wp2
                  go_loopw [13] (fun s13 w' => ∃ z : Nat, z ≤ t ∧ s13 = .int .i64 (z : Int) ∧ Hid (Tl w w' i t a6 (some ⟨g7, 0, none⟩) c7 go U (halveL ((wsOf cur).take z) ++ (wsOf cur).drop z) (spread own ds))) (fun s13 w' => ((t : Int) - intOf s13).toNat)
                  case atStart => exact ⟨0, by omega, rfl, (by simpa [halveL] using HE.out : Tl w wr i t a6 (some ⟨g7, 0, none⟩) c7 go U (halveL ((wsOf cur).take 0) ++ (wsOf cur).drop 0) (spread own ds))⟩
                  case round =>
                    obtain ⟨z, hz, rfl, HZ⟩ := hrel
                    by_cases hzt : z < t
                    · have hzz : (z : Int) < (t : Int) := by omega
                      have hzl : z < (wsOf cur).length := by rw [HWl.out]; exact hzt
                      have hml : (halveL ((wsOf cur).take z) ++ (wsOf cur).drop z).length = t := by simp [halveL]; have := HWl.out; omega
                      have hat : (halveL ((wsOf cur).take z) ++ (wsOf cur).drop z).getD z 0 = (wsOf cur)[z] := by
                        rw [List.getD, List.getElem?_append_right (by simp [halveL]; omega)]
                        simp [halveL, Nat.min_eq_left (Nat.le_of_lt hzl), hzl]
                      have ho := HZ.out.ws
                      unfold OwnV at ho
                      rw [ints_length, hml] at ho
                      obtain ⟨cz, fz⟩ := owns_cell ho z _ (nats_get _ z (by omega))
                      rw [hat] at cz
                      have hyb := HB.out _ (List.getElem_mem hzl)
                      have HS : Hid ((halveL ((wsOf cur).take z) ++ (wsOf cur).drop z).set z (half (wsOf cur)[z]) = halveL ((wsOf cur).take (z + 1)) ++ (wsOf cur).drop (z + 1) ∧ (halveL ((wsOf cur).take z) ++ (wsOf cur).drop z).length = t ∧ ((((wsOf cur)[z] : Nat) : Int) + 1) / 2 = ((half (wsOf cur)[z] : Nat) : Int)) := ⟨halve_set _ z hzl, hml, half_two _⟩
                      generalize (wsOf cur)[z] = y at *
                      clear ho hat hml hzl
                      go_wp2
                      go_roundw
                      case rel =>
                        refine ⟨z + 1, by omega, by push_cast; rfl, ?_⟩
                        rw [← HS.out.1, HS.out.2.2]
                        exact HZ.out.turn HS.out.2.1 z (half y)
                      case measure => simp [intOf]; omega
                    · obtain rfl : z = t := by omega
                      have HZ' : Hid (Tl w wr i z a6 (some ⟨g7, 0, none⟩) c7 go U (wsOf (halveL cur)) (spread own ds)) := by
                        have := HZ.out
                        rw [List.take_of_length_le (by have := HWl.out; omega), List.drop_of_length_le (by have := HWl.out; omega), List.append_nil, ← wsOf_half] at this
                        exact this
                      clear HZ
                      obtain ⟨c1, c2, c3, c4, c5, c6', c7', c8, c9⟩ := HCur.out
                      have hws : (wsOf cur).length ≤ 2 ^ k := by rw [c8]; exact HPw.out
                      have hlt := more_half cur k hws HMx.out
                      obtain ⟨fuel', f1, f2, f3⟩ := lim_more k fuel cur c5 hws HMx.out
                      have HNx : Hid (ds.length = z ∧ usedL 0 (halveL cur) = U ∧ (halveL cur).length = i ∧ (∀ y ∈ halveL cur, y ≤ 2147483647) ∧ (halveL cur).sum ≤ fuel' ∧ lim k fuel' (halveL cur) = R ∧ (∀ ds, spread (halveL cur) ds = spread own ds) ∧ aSum wr (some ⟨g7, 0, none⟩) z < aSum w9 (some ⟨g7, 0, none⟩) z) := by
                        refine ⟨HDs.out.1, by rw [usedL_half, c2], by simp [halveL, c3], fun y hy => ?_, f2, by rw [← f3, c6'], fun ds => by rw [spread_half, c7'], ?_⟩
                        · simp only [halveL, List.mem_map] at hy
                          obtain ⟨x, hx, rfl⟩ := hy
                          have := c4 x hx; unfold half; omega
                        · rw [aSum_tl HZ'.out (by rw [wsOf_half]; simp [halveL, c8]), wsOf_sum, c9]; exact hlt
                      clear c1 c2 c3 c4 c5 c6' c7' c8 c9 hws hlt f1 f2 f3
                      go_wp2
                      go_roundw
                      case rel =>
                        obtain ⟨e1, e2, e3, e4, e5, e6, e7, e8⟩ := HNx.out
                        exact ⟨halveL cur, fuel', ds, HZ'.out, e1, e2, e3, e4, e5, e6, e7⟩
                      case measure => exact HNx.out.2.2.2.2.2.2.2

end Go.Proofs.YtfbghchgfbjogaaGreat.Lm

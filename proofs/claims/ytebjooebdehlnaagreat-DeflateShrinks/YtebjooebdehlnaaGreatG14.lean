/-
  How deep each symbol stands. Which counts are used, a second one, halves, the greatest one. Counts looked at, copied, and a second one used.
-/
import Derived.Test.YtebjooebdehlnaaGreatRows
import Derived.Test.YtebjooebdehlnaaGreatG13
import Derived.Lib.SliceRun
namespace Go.Proofs.YtebjooebdehlnaaGreat.Lm
open Go.RowKit
set_option linter.unusedVariables false
set_option linter.unusedSimpArgs false

/-- What each of N trees was joined into, and how deep it stands by that. -/
structure Chain (N : Nat) (I : List Nat) (D : Nat → Nat) : Prop where
  len : I.length = N
  up : ∀ i, i + 1 < N → ∃ u, I[i]? = some u ∧ i < u ∧ u < N ∧ D i = D u + 1
  top : D (N - 1) = 0
theorem Chain.small {N : Nat} {I : List Nat} {D : Nat → Nat} (h : Chain N I D) : ∀ k i, i + k + 1 = N → D i ≤ k := by
  intro k
  induction k using Nat.strongRecOn with
  | _ k ih =>
    intro i hi
    by_cases h0 : i + 1 < N
    · obtain ⟨u, _, u2, u3, u4⟩ := h.up i h0
      have := ih (N - 1 - u) (by omega) u (by omega)
      omega
    · have : i = N - 1 := by omega
      rw [this, h.top]; omega
theorem Chain.le {N : Nat} {I : List Nat} {D : Nat → Nat} (h : Chain N I D) (i : Nat) (hi : i < N) : D i ≤ N := by
  have := h.small (N - 1 - i) i (by omega); omega
def dAll (ws : List Nat) : Nat → Nat := dpS (ws.length - 1) (sort0 ws) ws.length
theorem chain_of (ws : List Nat) (h : 1 ≤ ws.length) : Chain (2 * ws.length - 1) (runI (ws.length - 1) (sort0 ws) (List.replicate ws.length 0)) (dAll ws) := by
  have hr := run_ok (ws.length - 1) (sort0 ws) (List.replicate ws.length 0) (by rw [sort0_length]; omega) (by rw [List.length_replicate]; exact al0 ws (by omega))
  have e : (List.replicate ws.length 0).length = ws.length := List.length_replicate
  refine ⟨by rw [hr.len, e]; omega, fun i hi => ?_, ?_⟩
  · obtain ⟨u, u1, u2, u3, u4, u5⟩ := hr.up i (by
      by_cases h1 : i < ws.length
      · exact .inl ⟨(ws.getD i 0, i), (mem_sort0 _ _).2 ⟨i, h1, rfl⟩, rfl⟩
      · exact .inr (by rw [e]; omega)) (by rw [e]; omega)
    rw [e] at u4 u5
    exact ⟨u, u1, u2, by omega, u5⟩
  · have := hr.top
    rw [e] at this
    unfold dAll
    rw [show 2 * ws.length - 1 - 1 = ws.length + (ws.length - 1) - 1 by omega]; exact this

theorem join_any (base : Nat) (v : Value) (ws : List Nat) (w : World) (h : OwnT w base v (lv 0 ws)) (hv : ws.length = 0 → v = .slice none 0 0) (hl : ws.length ≤ 288) (hs : ws.sum ≤ 1099511627776) :
    Calls Tryz.prog 127 #[v] w fun e w' => ∃ gi ci I, e = .returned (.slice (some ⟨gi, 0, none⟩) (2 * ws.length - 1) ci) ∧ Own w' gi ci (ints I) ∧ Chain (2 * ws.length - 1) I (dAll ws) ∧ Keeps (fun b => base ≤ b) w w' ∧ w.heap.size ≤ gi := by
  rcases h.trs (fun j => (ws.getD j 0, j)) (fun j hj => by
    rw [lv_length] at hj
    rw [lv_get ws 0 j hj, List.getD, List.getElem?_eq_getElem hj]; simp) with ⟨rfl, e⟩ | ⟨g, cap, rfl, hb, ht⟩
  · have h0 : ws.length = 0 := by rw [← lv_length ws 0, e]; rfl
    refine (join_none w).mono ?_
    rintro e w' ⟨gi, rfl, h1, h2, h3⟩
    refine ⟨gi, 0, [], by rw [h0], h1, ⟨by rw [h0]; rfl, fun i hi => by omega, ?_⟩, h2.mono (fun _ _ h => h.elim), h3⟩
    unfold dAll; rw [h0]; rfl
  · rw [lv_length] at ht ⊢
    by_cases h0 : ws.length = 0
    · have := hv h0; cases this
    · refine (join_ok g ws.length cap ws w ht rfl (by omega) hl hs).mono ?_
      rintro e w' ⟨gi, ci, rfl, h1, h2, h3⟩
      exact ⟨gi, ci, _, rfl, h1, chain_of ws (by omega), h2.mono (fun i _ h => by subst h; exact hb), h3⟩

theorem ints_nat (l : List Nat) (i : Nat) (hi : i < l.length) : ∃ s, l[i]? = some s ∧ at_ (ints l) i = (s : Int) := ⟨l[i], by simp, by rw [ints_at, List.getD, List.getElem?_eq_getElem hi]; rfl⟩

set_option maxHeartbeats 4000000 in
set_option maxRecDepth 1000000 in
theorem depths_ok (a a' : Option Addr) (ys : List Nat) (cap cap' : Nat) (w : World) (hR : Row w a (ints ys)) (hU : Row w a' (ints (usedL 0 ys))) (hl1 : 2 ≤ ys.length) (hl2 : ys.length ≤ 288) (hb : ∀ y ∈ ys, y ≤ 2147483647) :
    Calls Tryz.prog 88 #[.slice a ys.length cap, .slice a' (usedL 0 ys).length cap'] w fun e w' => ∃ g, e = .returned (.slice (some ⟨g, 0, none⟩) ys.length ys.length) ∧ Own w' g ys.length (ints (depthsL ys)) ∧ Keeps (fun _ => False) w w' ∧ w.heap.size ≤ g := by
  have hsum : (wsOf ys).sum ≤ 1099511627776 := by
    rw [wsOf_sum]
    have h1 := sum_le 2147483647 ys hb
    have h2 : ys.length * 2147483647 ≤ 288 * 2147483647 := Nat.mul_le_mul_right _ hl2
    omega
  have hwl : (wsOf ys).length ≤ 288 := by have := wsOf_le ys; omega
  obtain ⟨m, hm⟩ : ∃ m, (usedL 0 ys).length = m := ⟨_, rfl⟩
  have hmw : (wsOf ys).length = m := by rw [← usedL_length ys 0, hm]
  have hm288 : m ≤ 288 := by omega
  obtain ⟨n, hn⟩ : ∃ n, ys.length = n := ⟨_, rfl⟩
  obtain ⟨b0, off0, rfl, hb0, hc0⟩ := hR.at (by rw [ints_length]; omega)
  have HSy : Hid (∀ i, i < m → ∃ s c, (usedL 0 ys)[i]? = some s ∧ (wsOf ys)[i]? = some c ∧ s < n ∧ c ≤ 2147483647 ∧ (∀ w', Keeps (fun _ => False) w w' → w'.cell? ⟨b0, off0 + s, none⟩ = some (.int .i64 (c : Int)))) := fun i hi => by
    have hi' : i < (usedL 0 ys).length := by omega
    have hlt := (usedL_lt ys 0 _ (List.getElem_mem hi')).2
    have hat := usedL_at ys 0 i hi'
    have hs : (usedL 0 ys)[i] < ys.length := by omega
    rw [Nat.sub_zero, List.getElem?_eq_getElem hs] at hat
    refine ⟨(usedL 0 ys)[i], ys[(usedL 0 ys)[i]], by simp, hat, by omega, hb _ (List.getElem_mem hs), fun w' hk => ?_⟩
    rw [hc0 w' hk _ (by rw [ints_length]; exact hs), ints_at, List.getD, List.getElem?_eq_getElem hs]; rfl
  have HUc : Hid (0 < m → ∃ b1 off1, a' = some ⟨b1, off1, none⟩ ∧ ∀ (i s : Nat), (usedL 0 ys)[i]? = some s → ∀ w', Keeps (fun _ => False) w w' → w'.cell? ⟨b1, off1 + i, none⟩ = some (.int .i64 (s : Int))) := fun h0 => by
    obtain ⟨b1, off1, rfl, hb1, hc1⟩ := hU.at (by rw [ints_length]; omega)
    refine ⟨b1, off1, rfl, fun i s hs w' hk => ?_⟩
    have hi : i < (usedL 0 ys).length := (List.getElem?_eq_some_iff.1 hs).1
    rw [hc1 w' hk i (by rw [ints_length]; exact hi), ints_at, List.getD, hs]; rfl
  have HS : Hid ((wsOf ys).sum ≤ 1099511627776 ∧ (wsOf ys).length = m ∧ (usedL 0 ys).length = m ∧ ys.length = n) := ⟨hsum, hmw, hm, hn⟩
  rw [hm, hn]
  rw [hn] at hl1 hl2
  clear hR hU hb hsum hmw hm hn hc0 hwl
  go_enter Tryz.func88, Tryz.ntmps88
  go_wp2
  go_loopw [5, 16] (fun s5 s16 w' => ∃ i : Nat, i ≤ m ∧ s16 = .int .i64 (i : Int) ∧ Hid ((i = 0 → s5 = .slice none 0 0) ∧ OwnT w' w.heap.size s5 ((lv 0 (wsOf ys)).take i) ∧ Keeps (fun _ => False) w w')) (fun s5 s16 w' => ((m : Int) - intOf s16).toNat)
  case atStart => exact ⟨0, by omega, rfl, fun _ => rfl, World.ownsRow_nil _ _ _ _, Keeps.refl _ _⟩
  case round =>
    obtain ⟨i, hi, rfl, HI⟩ := hrel
    by_cases him : i < m
    · have hiz : (i : Int) < (m : Int) := by omega
      obtain ⟨s, c, hs1, hs2, hs3, hs4, hs5⟩ := HSy.out i him
      obtain ⟨b1, off1, rfl, hu⟩ := HUc.out (by omega)
      have hcu := hu i s hs1 wr HI.out.2.2
      have hcc := hs5 wr HI.out.2.2
      have hsz : (s : Int) < (n : Int) := by omega
      have HTk : Hid ((lv 0 (wsOf ys)).take i ++ [(c, i)] = (lv 0 (wsOf ys)).take (i + 1) ∧ ((lv 0 (wsOf ys)).take i).length = i) := by
        have hiw : i < (wsOf ys).length := by rw [HS.out.2.1]; exact him
        have hil : i < (lv 0 (wsOf ys)).length := by rw [lv_length]; exact hiw
        have hcw : (wsOf ys)[i] = c := by rw [List.getElem?_eq_getElem hiw] at hs2; exact Option.some.inj hs2
        refine ⟨?_, by rw [List.length_take, lv_length]; omega⟩
        rw [List.take_succ_eq_append_getElem hil, lv_get _ 0 i hiw, hcw, Nat.zero_add]
      clear hs1 hs2 hs5 hu
      go_wp2_with (refine wpList_tree rfl _ _ rfl rfl w.heap.size u5 ((lv 0 (wsOf ys)).take i) rfl (HI.out.2.1.kept ((Keeps.refl (fun _ => False) wr).alloc _) (fun _ _ h => h)) wr.heap.size (c, i) rfl (heap_alloc_new _ _) ?hb ?hn ?_; (case hb => have := HI.out.2.2.size; simp; omega); (case hn => rw [HTk.out.2]; omega); intro gt ct w1 hO1 hG1 hA1)
      go_roundw
      case rel =>
        refine ⟨i + 1, by omega, by push_cast; rfl, fun h => by omega, by rw [← HTk.out.1]; have ho := hO1; rw [List.length_take] at ho; exact ho, (HI.out.2.2.alloc _).grown hG1 (fun k hk e => ?_)⟩
        have := (World.ownsRow.lt HI.out.2.1 k e).1
        omega
      case measure => simp [intOf]; omega
    · obtain rfl : i = m := by omega
      clear him hi
      obtain ⟨N, hN⟩ : ∃ N, 2 * i - 1 = N := ⟨_, rfl⟩
      have hN5 : N ≤ 575 := by omega
      have HJo : Hid (Calls Tryz.prog 127 #[u5] wr fun e w' => ∃ gi ci I, e = .returned (.slice (some ⟨gi, 0, none⟩) N ci) ∧ Own w' gi ci (ints I) ∧ Chain N I (dAll (wsOf ys)) ∧ Keeps (fun _ => False) w w' ∧ w.heap.size ≤ gi) := by
        obtain ⟨k1, k2, k3, k4⟩ := HS.out
        have ho := HI.out.2.1
        rw [List.take_of_length_le (by rw [lv_length]; omega)] at ho
        refine (join_any w.heap.size u5 (wsOf ys) wr ho (fun h => HI.out.1 (by omega)) (by omega) k1).mono ?_
        rintro e w' ⟨gi, ci, I, rfl, h1, h2, h3, h4⟩
        rw [k2, hN] at h2
        exact ⟨gi, ci, I, by rw [k2, hN], h1, h2, HI.out.2.2.trans h3 (fun i hi h => by omega), by have := HI.out.2.2.size; omega⟩
      have HN : Hid (2 * i - 1 = N) := hN
      clear HI hN
      go_wp2_with (first
        | (go_at_call 127; refine HJo.out.mono ?_; rintro e w1 ⟨gi, ci, I, rfl, h1, h2, h3, h4⟩; have H1 : Hid (Own w1 gi ci (ints I) ∧ Chain N I (dAll (wsOf ys)) ∧ Keeps (fun _ => False) w w1 ∧ w.heap.size ≤ gi) := ⟨h1, h2, h3, h4⟩; clear h1 h2 h3 h4)
        | (refine wpList_ints rfl _ _ rfl N rfl rfl ?hn ?_; (case hn => omega); intro gd w2 h1 h2 h3; have H2 : Hid (Own w2 gd N (List.replicate N 0) ∧ Keeps (fun _ => False) w1 w2 ∧ w1.heap.size ≤ gd) := ⟨h1, h2, h3⟩; clear h1 h2 h3))
      have HD0 : Hid (∃ j : Int, (N : Int) - 2 = j - 1 ∧ -1 ≤ j ∧ j ≤ (N : Int) - 1 ∧ ∃ dl : List Nat, dl.length = N ∧ (∀ q, q < N → j ≤ (q : Int) → dl.getD q 0 = dAll (wsOf ys) q) ∧ Own w2 gd N (ints dl) ∧ Own w2 gi ci (ints I) ∧ Keeps (fun _ => False) w w2) := by
        obtain ⟨a1, a2, a3, a4⟩ := H1.out
        obtain ⟨b1, b2, b3⟩ := H2.out
        refine ⟨(N : Int) - 1, by omega, by omega, by omega, List.replicate N 0, by simp, fun q hq hj => ?_, by rw [ints_zero]; exact b1, a1.kept b2 (fun h => h), a3.trans b2 (fun _ _ h => h)⟩
        have : q = N - 1 := by omega
        rw [this, a2.top]; simp [List.getD, List.getElem?_replicate]
        split <;> rfl
      have HC : Hid (Chain N I (dAll (wsOf ys))) := H1.out.2.1
      have HG : Hid (gi < gd ∧ w.heap.size ≤ gi) := by
        have := H1.out.1.lt; have := H2.out.2.2; have := H1.out.2.2.2; show gi < gd ∧ w.heap.size ≤ gi; omega
      clear HJo H1 H2
      go_wp2
      go_loopw [10] (fun s10 w' => ∃ j : Int, s10 = .int .i64 (j - 1) ∧ -1 ≤ j ∧ j ≤ (N : Int) - 1 ∧ Hid (∃ dl : List Nat, dl.length = N ∧ (∀ q, q < N → j ≤ (q : Int) → dl.getD q 0 = dAll (wsOf ys) q) ∧ Own w' gd N (ints dl) ∧ Own w' gi ci (ints I) ∧ Keeps (fun _ => False) w w')) (fun s10 w' => (intOf s10 + 2).toNat)
      case atStart =>
        obtain ⟨j, e, h1, h2, h3⟩ := HD0.out
        exact ⟨j, by rw [← e], h1, h2, h3⟩
      case round =>
        clear HD0
        obtain ⟨j, rfl, hj1, hj2, HD⟩ := hrel
        by_cases hj : 1 ≤ j
        · obtain ⟨k, rfl⟩ : ∃ k : Nat, j = (k : Int) + 1 := ⟨(j - 1).toNat, by omega⟩
          rw [show ((k : Int) + 1 - 1) = (k : Int) by omega]
          obtain ⟨dl, d1, d2, d3, d4, d5⟩ := HD.out
          have hkN : k < N := by omega
          have hkt : k + 1 < N := by omega
          · obtain ⟨u, u1, u2, u3, u4⟩ := HC.out.up k hkt
            have hce : wr.cell? ⟨gi, k, none⟩ = some (.int .i64 (u : Int)) := by
              rw [d4.cell k (by rw [ints_length, HC.out.len]; exact hkN), ints_at, List.getD, u1]; rfl
            have hdu : wr.cell? ⟨gd, u, none⟩ = some (.int .i64 (dAll (wsOf ys) u : Int)) := by
              rw [d3.cell u (by rw [ints_length, d1]; exact u3), ints_at, d2 u u3 (by omega)]
            have hdk := d3.cell k (by rw [ints_length, d1]; exact hkN)
            have hfk := d3.free k (by rw [ints_length, d1]; exact hkN)
            have hsm := HC.out.le u u3
            obtain ⟨du, hdu'⟩ : ∃ du, dAll (wsOf ys) u = du := ⟨_, rfl⟩
            rw [hdu'] at hdu hsm
            have HK : Hid (dAll (wsOf ys) k = du + 1 ∧ dl.length = N ∧ (∀ q, q < N → ((k : Int) + 1) ≤ (q : Int) → dl.getD q 0 = dAll (wsOf ys) q) ∧ Own wr gd N (ints dl) ∧ Own wr gi ci (ints I) ∧ Keeps (fun _ => False) w wr) := ⟨by rw [u4, hdu'], d1, d2, d3, d4, d5⟩
            have huz : (u : Int) < (N : Int) := by omega
            have hkz : (k : Int) < (N : Int) := by omega
            generalize at_ (ints dl) k = v0 at *
            clear HD d1 d2 d3 d4 d5 u1 u4 hdu'
            go_wp2
            go_roundw
            case rel =>
              obtain ⟨e1, e2, e3, e4, e5, e6⟩ := HK.out
              refine ⟨(k : Int), rfl, by omega, by omega, dl.set k (du + 1), by simp [e2], fun q hq hj => ?_, ?_, e5.kept (Keeps.setCell (S := fun b => b = gd) (Keeps.refl _ wr) (p := ⟨gd, k, none⟩) (fun _ => rfl) _) (by have := HG.out; omega), e6.trans (Keeps.setCell (S := fun b => b = gd) (Keeps.refl _ wr) (p := ⟨gd, k, none⟩) (fun _ => rfl) _) (fun i hi h => by have := HG.out; omega)⟩
              · rw [List.getD, List.getElem?_set]
                by_cases e : k = q
                · subst e; rw [if_pos rfl, if_pos (by omega), e1]; rfl
                · rw [if_neg e]; exact e3 q hq (by omega)
              · have := e4.set k ((du + 1 : Nat) : Int)
                rw [ints_set] at this
                push_cast at this
                exact this
            case measure => simp [intOf]; omega
        · have hjz : j - 1 < 0 := by omega
          have HD' : Hid (∃ dl : List Nat, dl.length = N ∧ (∀ q, q < N → dl.getD q 0 = dAll (wsOf ys) q) ∧ Own wr gd N (ints dl) ∧ Keeps (fun _ => False) w wr) := by
            obtain ⟨dl, d1, d2, d3, d4, d5⟩ := HD.out
            exact ⟨dl, d1, fun q hq => d2 q hq (by omega), d3, d5⟩
          clear HD
          go_wp2_with (refine wpList_ints rfl _ _ rfl n rfl rfl ?hn ?_; (case hn => omega); intro gl w3 h1 h2 h3; have H3 : Hid (Own w3 gl n (List.replicate n 0) ∧ Keeps (fun _ => False) wr w3 ∧ wr.heap.size ≤ gl) := ⟨h1, h2, h3⟩; clear h1 h2 h3)
          have HL0 : Hid (Own w3 gl n (ints (spread ys ((dsOf (wsOf ys)).take 0))) ∧ (∃ dl : List Nat, dl.length = N ∧ (∀ q, q < N → dl.getD q 0 = dAll (wsOf ys) q) ∧ Own w3 gd N (ints dl)) ∧ Keeps (fun _ => False) w w3) := by
            obtain ⟨dl, d1, d2, d3, d4⟩ := HD'.out
            obtain ⟨a1, a2, a3⟩ := H3.out
            refine ⟨?_, ⟨dl, d1, d2, d3.kept a2 (fun h => h)⟩, d4.trans a2 (fun _ _ h => h)⟩
            rw [List.take_zero, spread_nil, HS.out.2.2.2, ints_zero]; exact a1
          have HG3 : Hid (gd < gl ∧ w.heap.size ≤ gd) := by
            obtain ⟨dl, d1, d2, d3, d4⟩ := HD'.out
            have := d3.lt; have := H3.out.2.2; have := HG.out; show gd < gl ∧ w.heap.size ≤ gd; omega
          clear HD' H3
          go_loopw [59] (fun s59 w' => ∃ t : Nat, t ≤ i ∧ s59 = .int .i64 (t : Int) ∧ Hid (Own w' gl n (ints (spread ys ((dsOf (wsOf ys)).take t))) ∧ (∃ dl : List Nat, dl.length = N ∧ (∀ q, q < N → dl.getD q 0 = dAll (wsOf ys) q) ∧ Own w' gd N (ints dl)) ∧ Keeps (fun _ => False) w w')) (fun s59 w' => ((i : Int) - intOf s59).toNat)
          case atStart => exact ⟨0, by omega, rfl, HL0⟩
          case round =>
            clear HL0
            obtain ⟨t, ht, rfl, HL⟩ := hrel
            by_cases hti : t < i
            · have htz : (t : Int) < (i : Int) := by omega
              obtain ⟨s, c, hs1, hs2, hs3, hs4, hs5⟩ := HSy.out t hti
              obtain ⟨b1, off1, rfl, hu⟩ := HUc.out (by omega)
              obtain ⟨l1, ⟨dl, d1, d2, d3⟩, l3⟩ := HL.out
              have hcu := hu t s hs1 wr l3
              have htN : t < N := by have := HN.out; omega
              have htNz : (t : Int) < (N : Int) := by omega
              have hsz : (s : Int) < (n : Int) := by omega
              have hsl : s < (ints (spread ys ((dsOf (wsOf ys)).take t))).length := by rw [ints_length, spread_length, HS.out.2.2.2]; exact hs3
              have hcd := d3.cell t (by rw [ints_length, d1]; exact htN)
              rw [ints_at, d2 t htN] at hcd
              have hcl := l1.cell s hsl
              have hfl := l1.free s hsl
              have HL' : Hid (Own wr gl n (ints (spread ys ((dsOf (wsOf ys)).take t))) ∧ (∃ dl : List Nat, dl.length = N ∧ (∀ q, q < N → dl.getD q 0 = dAll (wsOf ys) q) ∧ Own wr gd N (ints dl)) ∧ Keeps (fun _ => False) w wr) := HL.out
              have HSp : Hid ((spread ys ((dsOf (wsOf ys)).take t)).set s (dAll (wsOf ys) t) = spread ys ((dsOf (wsOf ys)).take (t + 1))) := by
                have hu' : t < (usedL 0 ys).length := by rw [HS.out.2.2.1]; exact hti
                have hd' : t < (dsOf (wsOf ys)).length := by rw [dsOf_length, HS.out.2.1]; exact hti
                have h := spread_set ys 0 (dsOf (wsOf ys)) t hd' hu'
                have e1 : (usedL 0 ys)[t] = s := by rw [List.getElem?_eq_getElem hu'] at hs1; exact Option.some.inj hs1
                have e2 : (dsOf (wsOf ys))[t] = dAll (wsOf ys) t := by
                  have := dsOf_get (wsOf ys) t (by rw [HS.out.2.1]; exact hti)
                  rw [List.getElem?_eq_getElem hd'] at this; exact Option.some.inj this
                rw [e1, e2, Nat.sub_zero] at h
                exact h
              generalize at_ (ints (spread ys ((dsOf (wsOf ys)).take t))) s = v0 at *
              generalize dAll (wsOf ys) t = dt at *
              clear HL l1 d1 d2 d3 l3 hs1 hs2 hs5 hu hsl
              go_wp2
              go_roundw
              case rel =>
                obtain ⟨e1, ⟨dl, e2, e3, e4⟩, e5⟩ := HL'.out
                refine ⟨t + 1, by omega, by push_cast; rfl, ?_, ⟨dl, e2, e3, e4.kept (Keeps.setCell (S := fun b => b = gl) (Keeps.refl _ wr) (p := ⟨gl, s, none⟩) (fun _ => rfl) _) (by have := HG3.out; omega)⟩, e5.trans (Keeps.setCell (S := fun b => b = gl) (Keeps.refl _ wr) (p := ⟨gl, s, none⟩) (fun _ => rfl) _) (fun i hi h => by have := HG3.out; omega)⟩
                rw [← HSp.out, ← ints_set]
                exact e1.set s (dt : Int)
              case measure => simp [intOf]; omega
            · obtain rfl : t = i := by omega
              go_wp2
              go_ret
              obtain ⟨e1, _, e5⟩ := HL.out
              refine ⟨gl, rfl, ?_, e5, by have := HG3.out; omega⟩
              rw [List.take_of_length_le (by rw [dsOf_length, HS.out.2.1]; omega)] at e1
              exact e1

end Go.Proofs.YtebjooebdehlnaaGreat.Lm

namespace Go.Proofs.YtebjooebdehlnaaGreat.Lm
open Go.RowKit
set_option linter.unusedVariables false
set_option linter.unusedSimpArgs false

theorem take_snoc_nat (ys : List Nat) (i : Nat) (h : i < ys.length) : ys.take (i + 1) = ys.take i ++ [ys[i]] := List.take_succ_eq_append_getElem h
theorem ints_get (ys : List Nat) (i : Nat) (h : i < ys.length) : at_ (ints ys) i = ((ys[i] : Nat) : Int) := by
  rw [ints_at, List.getD, List.getElem?_eq_getElem h]; rfl

set_option maxHeartbeats 4000000 in
set_option maxRecDepth 1000000 in
theorem used_ok (a : Option Addr) (ys : List Nat) (cap : Nat) (w : World) (hR : Row w a (ints ys)) (hl : ys.length ≤ 288) :
    Calls Tryz.prog 87 #[.slice a ys.length cap] w fun e w' => ∃ v, e = .returned v ∧ OwnV w' w.heap.size v (ints (usedL 0 ys)) ∧ Keeps (fun _ => False) w w' := by
  have HR : Hid (Row w a (ints ys)) := hR
  clear hR
  obtain ⟨n, hn⟩ : ∃ n, ys.length = n := ⟨_, rfl⟩
  rw [hn] at hl
  rw [hn]
  have HN : Hid (ys.length = n) := hn
  clear hn
  go_enter Tryz.func87, Tryz.ntmps87
  go_wp2
  go_loopw [3, 8] (fun s3 s8 w' => ∃ i : Nat, i ≤ n ∧ s8 = .int .i64 (i : Int) ∧ Hid (OwnV w' w.heap.size s3 (ints (usedL 0 (ys.take i))) ∧ Keeps (fun _ => False) w w')) (fun s3 s8 w' => ((n : Int) - intOf s8).toNat)
  case atStart => exact ⟨0, by omega, rfl, OwnV.nil _ _, Keeps.refl _ _⟩
  case round =>
    obtain ⟨i, hi, rfl, HI⟩ := hrel
    by_cases hin : i < n
    · have hiz : (i : Int) < (n : Int) := by omega
      have hil : i < ys.length := by rw [HN.out]; exact hin
      obtain ⟨b, off, rfl, hb, hc⟩ := HR.out.at (by rw [ints_length]; omega)
      have c1 := hc wr HI.out.2 i (by rw [ints_length]; exact hil)
      rw [ints_get ys i hil] at c1
      have HU : Hid (usedL 0 (ys.take (i + 1)) = usedL 0 (ys.take i) ++ (if 0 < ys[i] then [i] else []) ∧ (usedL 0 (ys.take i)).length ≤ 288) := by
        refine ⟨?_, ?_⟩
        · rw [take_snoc_nat ys i hil, usedL_snoc, List.length_take, Nat.zero_add, Nat.min_eq_left (by omega)]
        · rw [usedL_length]; have := wsOf_le (ys.take i); rw [List.length_take] at this; omega
      generalize ys[i] = y at *
      clear hc
      by_cases hy : 0 < y
      · have hyz : (0 : Int) < (y : Int) := by omega
        rw [if_pos hy] at HU
        go_wp2_with (refine wpList_one rfl _ _ rfl rfl w.heap.size u3 (ints (usedL 0 (ys.take i))) rfl (HI.out.1.kept ((Keeps.refl (fun _ => False) wr).alloc _) (fun _ _ h => h)) wr.heap.size (i : Int) rfl (heap_alloc_new _ _) ?hb ?hn ?_; (case hb => have := HI.out.2.size; simp; omega); (case hn => rw [ints_length]; have := HU.out.2; omega); intro gt ct w1 hO1 hG1 hA1)
        go_roundw
        case rel =>
          refine ⟨i + 1, by omega, by push_cast; rfl, ?_, (HI.out.2.alloc _).grown hG1 (fun k hk e => ?_)⟩
          · rw [HU.out.1, ints_append]; exact hO1
          · have := (World.ownsRow.lt HI.out.1 k e).1
            omega
        case measure => simp [intOf]; omega
      · have hyz : ¬ (0 : Int) < (y : Int) := by omega
        rw [if_neg hy, List.append_nil] at HU
        go_wp2
        go_roundw
        case rel => exact ⟨i + 1, by omega, by push_cast; rfl, by rw [HU.out.1]; exact HI.out.1, HI.out.2⟩
        case measure => simp [intOf]; omega
    · obtain rfl : i = n := by omega
      go_wp2
      go_ret
      obtain ⟨o1, o2⟩ := HI.out
      rw [List.take_of_length_le (by have := HN.out; omega)] at o1
      exact ⟨_, rfl, o1, o2⟩

theorem halve_set (ys : List Nat) (i : Nat) (h : i < ys.length) : (halveL (ys.take i) ++ ys.drop i).set i (half ys[i]) = halveL (ys.take (i + 1)) ++ ys.drop (i + 1) := by
  have hl : (halveL (ys.take i)).length = i := by simp [halveL]; omega
  rw [List.set_append_right _ _ (by omega), hl, Nat.sub_self, List.drop_eq_getElem_cons h, List.set_cons_zero, take_snoc_nat ys i h]
  unfold halveL
  rw [List.map_append, List.append_assoc]
  rfl

set_option maxHeartbeats 4000000 in
set_option maxRecDepth 1000000 in
theorem halve_ok (g cap : Nat) (ys : List Nat) (w : World) (hO : Own w g cap (ints ys)) (hl : ys.length ≤ 288) (hb : ∀ y ∈ ys, y ≤ 2147483647) :
    Calls Tryz.prog 90 #[.slice (some ⟨g, 0, none⟩) ys.length cap] w fun e w' => e = .returned (.tuple #[]) ∧ Own w' g cap (ints (halveL ys)) ∧ Keeps (fun b => b = g) w w' := by
  have HO : Hid (Own w g cap (ints (halveL (ys.take 0) ++ ys.drop 0)) ∧ Keeps (fun b => b = g) w w) := ⟨by simpa [halveL] using hO, Keeps.refl _ _⟩
  have HB : Hid (∀ y ∈ ys, y ≤ 2147483647) := hb
  clear hO hb
  obtain ⟨n, hn⟩ : ∃ n, ys.length = n := ⟨_, rfl⟩
  rw [hn] at hl
  rw [hn]
  have HN : Hid (ys.length = n) := hn
  clear hn
  go_enter Tryz.func90, Tryz.ntmps90
  go_wp2
  go_loopw [6] (fun s6 w' => ∃ i : Nat, i ≤ n ∧ s6 = .int .i64 (i : Int) ∧ Hid (Own w' g cap (ints (halveL (ys.take i) ++ ys.drop i)) ∧ Keeps (fun b => b = g) w w')) (fun s6 w' => ((n : Int) - intOf s6).toNat)
  case atStart => exact ⟨0, by omega, rfl, HO⟩
  case round =>
    clear HO
    obtain ⟨i, hi, rfl, HI⟩ := hrel
    by_cases hin : i < n
    · have hiz : (i : Int) < (n : Int) := by omega
      have hil : i < ys.length := by rw [HN.out]; exact hin
      have hlen : i < (ints (halveL (ys.take i) ++ ys.drop i)).length := by rw [ints_length]; simp [halveL]; omega
      have hc := HI.out.1.cell i hlen
      have hf := HI.out.1.free i hlen
      have hat : at_ (ints (halveL (ys.take i) ++ ys.drop i)) i = ((ys[i] : Nat) : Int) := by
        rw [ints_at, List.getD, List.getElem?_append_right (by simp [halveL]; omega)]
        simp [halveL, Nat.min_eq_left (Nat.le_of_lt hil), hil]
      rw [hat] at hc
      have hyb := HB.out ys[i] (List.getElem_mem hil)
      have HU : Hid ((halveL (ys.take i) ++ ys.drop i).set i (half ys[i]) = halveL (ys.take (i + 1)) ++ ys.drop (i + 1)) := by
        exact halve_set ys i hil
      have hh : (ys[i] : Int) - (ys[i] : Int).tdiv 2 = ((half ys[i] : Nat) : Int) := by
        rw [Int.tdiv_eq_ediv_of_nonneg (by omega)]; unfold half; omega
      generalize ys[i] = y at *
      obtain ⟨hv, hhv⟩ : ∃ h, half y = h := ⟨_, rfl⟩
      rw [hhv] at hh HU
      have hvy : hv ≤ y := by rw [← hhv]; unfold half; omega
      have hw1 : IntKind.i64.wrap ((y : Int) - (y : Int).tdiv 2) = (hv : Int) := by
        rw [hh]; exact wrap_i64_small _ (by omega) (by omega)
      have HH : Hid ((y : Int) - (y : Int) / 2 = (hv : Int)) := by rw [← hh, Int.tdiv_eq_ediv_of_nonneg (by omega)]; rfl
      clear hhv hat hlen hil
      go_wp2
      go_roundw
      case rel =>
        refine ⟨i + 1, by omega, by push_cast; rfl, ?_, HI.out.2.setCell (fun _ => rfl) _⟩
        rw [← HU.out, ← ints_set, HH.out]
        exact HI.out.1.set i (hv : Int)
      case measure => simp [intOf]; omega
    · obtain rfl : i = n := by omega
      go_wp2
      go_end0
      obtain ⟨o1, o2⟩ := HI.out
      rw [List.take_of_length_le (by have := HN.out; omega), List.drop_of_length_le (by have := HN.out; omega), List.append_nil] at o1
      exact ⟨rfl, o1, o2⟩

theorem maxL_snoc : ∀ (ys : List Nat) (y : Nat), maxL (ys ++ [y]) = max (maxL ys) y
  | [], y => by simp [maxL]
  | x :: r, y => by simp only [List.cons_append, maxL, maxL_snoc r]; omega

set_option maxHeartbeats 4000000 in
set_option maxRecDepth 1000000 in
theorem max_ok (a : Option Addr) (ys : List Nat) (cap : Nat) (w : World) (hR : Row w a (ints ys)) (hl1 : 1 ≤ ys.length) (hl : ys.length ≤ 288) :
    Calls Tryz.prog 89 #[.slice a ys.length cap] w fun e w' => e = .returned (.int .i64 (maxL ys : Int)) ∧ Keeps (fun _ => False) w w' := by
  obtain ⟨b, off, rfl, hb, hc⟩ := hR.at (by rw [ints_length]; omega)
  have HC : Hid (∀ i (h : i < ys.length), ∀ w', Keeps (fun _ => False) w w' → w'.cell? ⟨b, off + i, none⟩ = some (.int .i64 ((ys[i] : Nat) : Int))) := fun i h w' hk => by
    rw [hc w' hk i (by rw [ints_length]; exact h), ints_get ys i h]
  have c0 := HC.out 0 (by omega) w (Keeps.refl _ _)
  rw [Nat.add_zero] at c0
  have HM0 : Hid (maxL (ys.take 1) = ys[0]) := by
    show maxL (ys.take 1) = ys[0]
    rw [take_snoc_nat ys 0 (by omega)]; simp [maxL]
  clear hc hR
  generalize ys[0] = y0 at *
  obtain ⟨n, hn⟩ : ∃ n, ys.length = n := ⟨_, rfl⟩
  rw [hn] at hl hl1
  rw [hn]
  have HN : Hid (ys.length = n) := hn
  clear hn
  go_enter Tryz.func89, Tryz.ntmps89
  go_wp2
  go_loopw [3, 4] (fun s3 s4 w' => ∃ i : Nat, i ≤ n ∧ 1 ≤ i ∧ s4 = .int .i64 (i : Int) ∧ s3 = .int .i64 ((maxL (ys.take i) : Nat) : Int) ∧ w' = w) (fun s3 s4 w' => ((n : Int) - intOf s4).toNat)
  case atStart => exact ⟨1, by omega, by omega, rfl, by rw [HM0.out], rfl⟩
  case round =>
    obtain ⟨i, hi, hi1, rfl, rfl, rfl⟩ := hrel
    by_cases hin : i < n
    · have hiz : (i : Int) < (n : Int) := by omega
      have hil : i < ys.length := by rw [HN.out]; exact hin
      have hc := HC.out i hil wr (Keeps.refl _ _)
      have HU : Hid (maxL (ys.take (i + 1)) = max (maxL (ys.take i)) ys[i]) := by
        show maxL (ys.take (i + 1)) = _
        rw [take_snoc_nat ys i hil, maxL_snoc]
      generalize ys[i] = y at *
      generalize maxL (ys.take i) = M at *
      go_wp2
      go_roundw
      case rel =>
        refine ⟨i + 1, by omega, by omega, by push_cast; rfl, ?_, trivial⟩
        rw [HU.out]
        congr 1
        split <;> omega
      case measure => simp [intOf]; omega
    · obtain rfl : i = n := by omega
      go_wp2
      go_ret
      rw [List.take_of_length_le (by have := HN.out; omega)]
      exact ⟨rfl, Keeps.refl _ _⟩

end Go.Proofs.YtebjooebdehlnaaGreat.Lm

namespace Go.Proofs.YtebjooebdehlnaaGreat.Lm
open Go.RowKit
set_option linter.unusedVariables false
set_option linter.unusedSimpArgs false

/-- A slice that came in, for an append: nil, or somewhere. -/
def Came (a : Option Addr) (n cap : Nat) : Prop := (a = none ∧ n = 0 ∧ cap = 0) ∨ ∃ x, a = some x
set_option maxRecDepth 100000 in
theorem append_any (w : World) (base : Nat) (v : Value) (n : Nat) (xs : List Value) (hown : w.ownsRow base 3 1 v n xs) (a : Option Addr) (ys : List Int) (cap : Nat) (hR : Row w a ys) (hA : Came a ys.length cap) (hb : base ≤ w.heap.size) (hsz : (n + ys.length) * 8 ≤ 140737488355328) :
    ∃ v' w', (Builtin.append_ #[40, 40] 40 #[v, .slice a ys.length cap]).run Tryz.prog w = .ok v' w' ∧ w'.ownsRow base 3 1 v' (n + ys.length) (xs ++ intsV ys) ∧ w.grownBy w' v.ownBlock := by
  obtain ⟨i, hi, h1, h2, h3⟩ : ∃ i, Tryz.prog.info? 3 = some i ∧ i.zero = some (.int .i64 0) ∧ i.bytes = 8 ∧ i.size = 1 := ⟨Tryz.t3, Tryz.type3, rfl, rfl, rfl⟩
  have hml : n + ys.length ≤ maxLen := by unfold maxLen; omega
  rcases hA with ⟨rfl, h0, rfl⟩ | ⟨x, rfl⟩
  · have hy : ys = [] := List.length_eq_zero_iff.1 h0
    subst hy
    exact ⟨v, w, run_append_owned_none (P := Tryz.prog) w base 40 40 3 i 1 Tryz.underlying40 hi v n xs hown, by simpa [intsV] using hown, World.grownBy.refl _ _⟩
  · obtain ⟨v', w', hr, ho, hg, _⟩ := run_append_own (P := Tryz.prog) w base 40 40 3 i (.int .i64 0) 1 8 Tryz.underlying40 hi h1 h3 h2 rfl (by decide) v n xs hown x ys.length cap (intsV ys) (by simp [intsV]) (fun j u hu => by
        have hj : j < ys.length := by have := (List.getElem?_eq_some_iff.1 hu).1; simpa [intsV] using this
        rcases hR with hR | ⟨b', off', e, _, hc⟩
        · subst hR; simp at hj
        · simp only [Option.some.injEq] at e
          subst e
          rw [Addr.add_mid, hc j hj, ← hu]
          simp [intsV, hj]) (fun u hu => by
        simp only [intsV, List.mem_map] at hu
        obtain ⟨y, _, rfl⟩ := hu
        rfl) hml hsz hb
    exact ⟨v', w', hr, ho, hg⟩
theorem wpList_append {ops : Array Oper} {rest : List Oper} {o : Oper} {a : Act} {w : World} {Q : Exit → Act → World → Prop} (hgd : o.guard = none) (s x : Operand) (ho : o.op = .call { callee := .builtin .append, args := #[s, x], argTypes := #[40, 40] }) (hty : o.type = 40)
    (base : Nat) (v : Value) (n : Nat) (xs : List Value) (hs : a.eval s = v) (hown : w.ownsRow base 3 1 v n xs) (ad : Option Addr) (ys : List Int) (cap : Nat) (hx : a.eval x = .slice ad ys.length cap) (hR : Row w ad ys) (hA : Came ad ys.length cap) (hb : base ≤ w.heap.size) (hsz : (n + ys.length) * 8 ≤ 140737488355328)
    (h : ∀ v' w', w'.ownsRow base 3 1 v' (n + ys.length) (xs ++ intsV ys) → w.grownBy w' v.ownBlock → wpList Tryz.prog ops Q rest (a.put o.dst v') w') : wpList Tryz.prog ops Q (o :: rest) a w :=
  wpList_plain hgd fun _ hK => by
    obtain ⟨v', w', hr, h2, h3⟩ := append_any w base v n xs hown ad ys cap hR hA hb hsz
    unfold Oper.wp execOp
    simp only [ho, hty, resolve, invoke, builtin, Sem.run_bind, Sem.run_pure, Result.andThen_ok, List.map_toArray, List.map_cons, List.map_nil, hs, hx, hr]
    exact hK _ _ (h v' w' h2 h3)

set_option maxHeartbeats 4000000 in
set_option maxRecDepth 1000000 in
theorem clone_ok (x : Addr) (ys : List Int) (cap : Nat) (w : World) (hR : Row w (some x) ys) (hsz : ys.length ≤ 288) (h0 : 0 < ys.length) :
    Calls Tryz.prog 125 #[.slice (some x) ys.length cap] w fun e w' => ∃ g c, e = .returned (.slice (some ⟨g, 0, none⟩) ys.length c) ∧ Own w' g c ys ∧ Keeps (fun _ => False) w w' ∧ w.heap.size ≤ g := by
  have q22 : ∀ (w : World) (a : Option Addr) (n c n' c' : Nat), (binOp .eql 40 (.slice a n c) (.slice none n' c')).run Tryz.prog w = .ok (.bool a.isNone) w := fun w a n c n' c' => Lib.run_eql_slice_nil w _ _ a n c n' c' Tryz.underlying40
  have HR : Hid (Row w (some x) ys) := hR
  clear hR
  go_enter Tryz.func125, Tryz.ntmps125
  go_wp2_with (first
    | (refine wpList_append rfl _ _ rfl rfl w.heap.size (.slice (some ⟨w.heap.size, 0, none⟩) 0 0) 0 [] rfl ?hown (some x) ys cap rfl (HR.out.keptF ((Keeps.refl _ w).alloc _)) (.inr ⟨_, rfl⟩) ?hb ?hsz ?_; (case hown => exact World.ownsRow_lit w #[] 0 (Nat.le_refl _) (by decide) rfl); (case hb => simp); (case hsz => omega); intro v w2 hO hG))
  go_ret
  have hO' : OwnV w2 w.heap.size v ys := by simpa [OwnV] using hO
  rcases hO'.form with ⟨_, e⟩ | ⟨g, c, rfl, hb, ho⟩
  · subst e; simp at h0
  · refine ⟨g, c, rfl, ho, ((Keeps.refl (fun _ => False) w).alloc (Obj.cells #[] 3)).grown hG (fun k hk e => ?_), hb⟩
    simp [Value.ownBlock] at e; omega

set_option maxHeartbeats 4000000 in
set_option maxRecDepth 1000000 in
theorem index_ok (a : Option Addr) (ys : List Nat) (cap : Nat) (w : World) (hR : Row w a (ints ys)) (hl : ys.length ≤ 288) (hu : (usedL 0 ys).length < ys.length) :
    Calls Tryz.prog 126 #[.slice a ys.length cap, .int .i64 0] w fun e w' => e = .returned (.int .i64 (idx0 ys : Int)) ∧ w' = w := by
  obtain ⟨k1, k2, k3⟩ := idx0_lt ys hu
  obtain ⟨b, off, rfl, hb, hc⟩ := hR.at (by rw [ints_length]; omega)
  have HC : Hid (∀ i, i < ys.length → ∃ y : Nat, ys[i]? = some y ∧ w.cell? ⟨b, off + i, none⟩ = some (.int .i64 (y : Int))) := fun i h => by
    refine ⟨ys[i], by simp, ?_⟩
    rw [hc w (Keeps.refl _ _) i (by rw [ints_length]; exact h), ints_get ys i h]
  have H3 : Hid (ys[idx0 ys]? = some 0 ∧ ∀ j, j < idx0 ys → ys[j]? ≠ some 0) := ⟨k2, k3⟩
  clear hc hR k2 k3 hu
  obtain ⟨n, hn⟩ : ∃ n, ys.length = n := ⟨_, rfl⟩
  rw [hn] at hl k1
  rw [hn]
  have HN : Hid (ys.length = n) := hn
  obtain ⟨z, hz⟩ : ∃ z, idx0 ys = z := ⟨_, rfl⟩
  rw [hz] at H3 k1
  rw [hz]
  clear hn hz
  go_enter Tryz.func126, Tryz.ntmps126
  go_wp2
  go_loopw [8] (fun s8 w' => ∃ i : Nat, i ≤ z ∧ s8 = .int .i64 (i : Int) ∧ w' = w) (fun s8 w' => ((n : Int) - intOf s8).toNat)
  case atStart => exact ⟨0, by omega, rfl, rfl⟩
  case round =>
    obtain ⟨i, hi, rfl, rfl⟩ := hrel
    have hiz : (i : Int) < (n : Int) := by omega
    obtain ⟨y, hy, hc⟩ := HC.out i (by rw [HN.out]; omega)
    by_cases e : i = z
    · have hy0 : y = 0 := by rw [e, H3.out.1] at hy; exact (Option.some.inj hy).symm
      subst hy0
      subst e
      clear hy
      go_wp2
      go_ret
      exact ⟨rfl, rfl⟩
    · have hy0 : ¬ y = 0 := fun h => by subst h; exact H3.out.2 i (by omega) hy
      have hyz : ¬ (0 : Int) = (y : Int) := by omega
      clear hy
      go_wp2
      go_roundw
      case rel => exact ⟨i + 1, by omega, by push_cast; rfl, trivial⟩
      case measure => simp [intOf]; omega

def fineI (y : Int) : Bool := decide (0 ≤ y) && decide (y ≤ 2147483647)
set_option maxHeartbeats 4000000 in
set_option maxRecDepth 1000000 in
theorem outside_ok (y : Int) (w : World) : Calls Tryz.prog 123 #[.int .i64 y] w fun e w' => e = .returned (.bool (!fineI y)) ∧ w' = w := by
  unfold fineI
  by_cases h1 : y < 0
  · have h1' : ¬ 0 ≤ y := by omega
    go_enter Tryz.func123, Tryz.ntmps123
    go_wp2
    go_ret
    exact ⟨by simp [h1'], rfl⟩
  · have h1' : 0 ≤ y := by omega
    go_enter Tryz.func123, Tryz.ntmps123
    go_wp2
    go_ret
    refine ⟨?_, rfl⟩
    by_cases h2 : y ≤ 2147483647
    · simp [h1', h2]
    · simp [h1', h2]; omega

set_option maxHeartbeats 4000000 in
set_option maxRecDepth 1000000 in
theorem indexFunc_ok (a : Option Addr) (ys : List Int) (cap : Nat) (w : World) (hR : Row w a ys) (hl : ys.length ≤ 288) :
    Calls Tryz.prog 153 #[.slice a ys.length cap, .func (.func 123) #[] #[]] w fun e w' => (∃ z : Int, e = .returned (.int .i64 z) ∧ decide (0 ≤ z) = !(ys.all fineI)) ∧ w' = w := by
  have HR : Hid (Row w a ys) := hR
  clear hR
  have HO : Hid (∀ y w, Calls Tryz.prog 123 #[.int .i64 y] w fun e w' => e = .returned (.bool (!fineI y)) ∧ w' = w) := outside_ok
  obtain ⟨n, hn⟩ : ∃ n, ys.length = n := ⟨_, rfl⟩
  rw [hn] at hl
  rw [hn]
  have HN : Hid (ys.length = n) := hn
  clear hn
  go_enter Tryz.func153, Tryz.ntmps153
  go_wp2
  go_loopw [8] (fun s8 w' => ∃ i : Nat, i ≤ n ∧ s8 = .int .i64 (i : Int) ∧ Hid ((ys.take i).all fineI = true) ∧ w' = w) (fun s8 w' => ((n : Int) - intOf s8).toNat)
  case atStart => exact ⟨0, by omega, rfl, rfl, rfl⟩
  case round =>
    obtain ⟨i, hi, rfl, HI, rfl⟩ := hrel
    by_cases hin : i < n
    · have hiz : (i : Int) < (n : Int) := by omega
      have hil : i < ys.length := by rw [HN.out]; exact hin
      obtain ⟨b, off, rfl, hb, hc⟩ := HR.out.at (by omega)
      have c1 := hc wr (Keeps.refl _ _) i hil
      rw [at_eq i hil] at c1
      have HU : Hid ((ys.take (i + 1)).all fineI = ((ys.take i).all fineI && fineI ys[i])) := by
        show (ys.take (i + 1)).all fineI = _
        rw [List.take_succ_eq_append_getElem hil, List.all_append]; simp only [List.all_cons, List.all_nil, Bool.and_true]
      have HV : Hid (fineI ys[i] = false → ys.all fineI = false) := fun h => by
        rw [List.all_eq_false]; exact ⟨ys[i], List.getElem_mem hil, by rw [h]; decide⟩
      generalize ys[i] = y at *
      clear hc
      cases hf : fineI y with
      | true =>
        have HO' : Hid (∀ w, Calls Tryz.prog 123 #[.int .i64 y] w fun e w' => e = .returned (.bool false) ∧ w' = w) := fun w => by have := HO.out y w; rw [hf] at this; exact this
        go_wp2_with (go_at_call 123; refine (HO'.out _).mono ?_; rintro e w' ⟨rfl, hw⟩; obtain rfl := hw.symm; clear hw)
        go_roundw
        case rel => exact ⟨i + 1, by omega, by push_cast; rfl, by show _ = true; rw [HU.out, HI.out, hf]; rfl, trivial⟩
        case measure => simp [intOf]; omega
      | false =>
        have HO' : Hid (∀ w, Calls Tryz.prog 123 #[.int .i64 y] w fun e w' => e = .returned (.bool true) ∧ w' = w) := fun w => by have := HO.out y w; rw [hf] at this; exact this
        go_wp2_with (go_at_call 123; refine (HO'.out _).mono ?_; rintro e w' ⟨rfl, hw⟩; obtain rfl := hw.symm; clear hw)
        go_ret
        exact ⟨⟨(i : Int), rfl, by rw [HV.out hf]; simp⟩, rfl⟩
    · obtain rfl : i = n := by omega
      go_wp2
      go_ret
      have := HI.out
      rw [List.take_of_length_le (by have := HN.out; omega)] at this
      exact ⟨⟨-1, rfl, by rw [this]; rfl⟩, rfl⟩

set_option maxHeartbeats 4000000 in
set_option maxRecDepth 1000000 in
theorem contains_ok (a : Option Addr) (ys : List Int) (cap : Nat) (w : World) (hR : Row w a ys) (hl : ys.length ≤ 288) :
    Calls Tryz.prog 124 #[.slice a ys.length cap, .func (.func 123) #[] #[]] w fun e w' => e = .returned (.bool (!(ys.all fineI))) ∧ w' = w := by
  have HC : Hid (Calls Tryz.prog 153 #[.slice a ys.length cap, .func (.func 123) #[] #[]] w fun e w' => (∃ z : Int, e = .returned (.int .i64 z) ∧ decide (0 ≤ z) = !(ys.all fineI)) ∧ w' = w) := indexFunc_ok a ys cap w hR hl
  clear hR
  go_enter Tryz.func124, Tryz.ntmps124
  go_wp2_with (go_at_call 153; refine HC.out.mono ?_; rintro e w' ⟨⟨z, rfl, hz⟩, hw⟩; obtain rfl := hw.symm; clear hw; have HZ : Hid (decide (0 ≤ z) = !(ys.all fineI)) := hz; clear hz)
  go_ret
  exact ⟨by rw [← HZ.out]; rfl, rfl⟩

set_option maxHeartbeats 4000000 in
set_option maxRecDepth 1000000 in
theorem mayBe_ok (a : Option Addr) (ys : List Int) (cap : Nat) (w : World) (hR : Row w a ys) (hl : ys.length ≤ 9223372036854775807) :
    Calls Tryz.prog 85 #[.slice a ys.length cap] w fun e w' => e = .returned (.bool (mayL ys)) ∧ w' = w := by
  by_cases h1 : ys.length < 2
  · have hm : mayL ys = false := by unfold mayL; rw [decide_eq_false (by omega)]; rfl
    rw [hm]
    have hz : (ys.length : Int) < 2 := by omega
    generalize ys.length = n at *
    clear hR hm
    go_enter Tryz.func85, Tryz.ntmps85
    go_wp2
    go_ret
    exact ⟨rfl, rfl⟩
  · have hz : ¬ (ys.length : Int) < 2 := by omega
    by_cases h2 : ys.length ≤ 288
    · have hz2 : ¬ (288 : Int) < (ys.length : Int) := by omega
      have hm : mayL ys = ys.all fineI := by unfold mayL; rw [decide_eq_true (by omega), decide_eq_true h2]; rfl
      have HC : Hid (Calls Tryz.prog 124 #[.slice a ys.length cap, .func (.func 123) #[] #[]] w fun e w' => e = .returned (.bool (!(ys.all fineI))) ∧ w' = w) := contains_ok a ys cap w hR h2
      rw [hm]
      generalize ys.all fineI = B at *
      generalize ys.length = n at *
      clear hR hm
      go_enter Tryz.func85, Tryz.ntmps85
      go_wp2_with (go_at_call 124; refine HC.out.mono ?_; rintro e w' ⟨rfl, hw⟩; obtain rfl := hw.symm; clear hw)
      go_ret
      exact ⟨by simp, rfl⟩
    · have hz2 : (288 : Int) < (ys.length : Int) := by omega
      have hm : mayL ys = false := by unfold mayL; rw [decide_eq_false h2]; simp
      rw [hm]
      generalize ys.length = n at *
      clear hR hm
      go_enter Tryz.func85, Tryz.ntmps85
      go_wp2
      go_ret
      exact ⟨rfl, rfl⟩

end Go.Proofs.YtebjooebdehlnaaGreat.Lm

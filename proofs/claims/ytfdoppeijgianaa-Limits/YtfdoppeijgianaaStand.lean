/-
  How deep each symbol stands.
-/
import Derived.Test.YtfdoppeijgianaaLeaf
namespace Go.Proofs.Ytfdoppeijgianaa
open Go.RowKit
set_option linter.unusedVariables false
set_option linter.unusedSimpArgs false

/-- What each of N trees was joined into, and how deep it stands by that. -/
structure Chain (N : Nat) (I : List Nat) (D : Nat → Nat) : Prop where
  len : I.length = N
  up : ∀ i, i + 1 < N → ∃ u, I[i]? = some u ∧ i < u ∧ u < N ∧ D i = D u + 1
  top : D (N - 1) = 0
theorem Chain.small {N : Nat} {I : List Nat} {D : Nat → Nat} (h : Chain N I D) : ∀ k i, i + k + 1 = N → D i ≤ k := by
  intro k
  induction k using Nat.strongRecOn with
  | _ k ih =>
    intro i hi
    by_cases h0 : i + 1 < N
    · obtain ⟨u, _, u2, u3, u4⟩ := h.up i h0
      have := ih (N - 1 - u) (by omega) u (by omega)
      omega
    · have : i = N - 1 := by omega
      rw [this, h.top]; omega
theorem Chain.le {N : Nat} {I : List Nat} {D : Nat → Nat} (h : Chain N I D) (i : Nat) (hi : i < N) : D i ≤ N := by
  have := h.small (N - 1 - i) i (by omega); omega
def dAll (ws : List Nat) : Nat → Nat := dpS (ws.length - 1) (sort0 ws) ws.length
theorem chain_of (ws : List Nat) (h : 1 ≤ ws.length) : Chain (2 * ws.length - 1) (runI (ws.length - 1) (sort0 ws) (List.replicate ws.length 0)) (dAll ws) := by
  have hr := run_ok (ws.length - 1) (sort0 ws) (List.replicate ws.length 0) (by rw [sort0_length]; omega) (by rw [List.length_replicate]; exact al0 ws (by omega))
  have e : (List.replicate ws.length 0).length = ws.length := List.length_replicate
  refine ⟨by rw [hr.len, e]; omega, fun i hi => ?_, ?_⟩
  · obtain ⟨u, u1, u2, u3, u4, u5⟩ := hr.up i (by
      by_cases h1 : i < ws.length
      · exact .inl ⟨(ws.getD i 0, i), (mem_sort0 _ _).2 ⟨i, h1, rfl⟩, rfl⟩
      · exact .inr (by rw [e]; omega)) (by rw [e]; omega)
    rw [e] at u4 u5
    exact ⟨u, u1, u2, by omega, u5⟩
  · have := hr.top
    rw [e] at this
    unfold dAll
    rw [show 2 * ws.length - 1 - 1 = ws.length + (ws.length - 1) - 1 by omega]; exact this

theorem join_any (base : Nat) (v : Value) (ws : List Nat) (w : World) (h : OwnT w base v (lv 0 ws)) (hv : ws.length = 0 → v = .slice none 0 0) (hl : ws.length ≤ 288) (hs : ws.sum ≤ 1099511627776) :
    Calls Try.prog 28 #[v] w fun e w' => ∃ gi ci I, e = .returned (.slice (some ⟨gi, 0, none⟩) (2 * ws.length - 1) ci) ∧ Own w' gi ci (ints I) ∧ Chain (2 * ws.length - 1) I (dAll ws) ∧ Keeps (fun b => base ≤ b) w w' ∧ w.heap.size ≤ gi := by
  rcases h.trs (fun j => (ws.getD j 0, j)) (fun j hj => by
    rw [lv_length] at hj
    rw [lv_get ws 0 j hj, List.getD, List.getElem?_eq_getElem hj]; simp) with ⟨rfl, e⟩ | ⟨g, cap, rfl, hb, ht⟩
  · have h0 : ws.length = 0 := by rw [← lv_length ws 0, e]; rfl
    refine (join_none w).mono ?_
    rintro e w' ⟨gi, rfl, h1, h2, h3⟩
    refine ⟨gi, 0, [], by rw [h0], h1, ⟨by rw [h0]; rfl, fun i hi => by omega, ?_⟩, h2.mono (fun _ _ h => h.elim), h3⟩
    unfold dAll; rw [h0]; rfl
  · rw [lv_length] at ht ⊢
    by_cases h0 : ws.length = 0
    · have := hv h0; cases this
    · refine (join_ok g ws.length cap ws w ht rfl (by omega) hl hs).mono ?_
      rintro e w' ⟨gi, ci, rfl, h1, h2, h3⟩
      exact ⟨gi, ci, _, rfl, h1, chain_of ws (by omega), h2.mono (fun i _ h => by subst h; exact hb), h3⟩

theorem ints_nat (l : List Nat) (i : Nat) (hi : i < l.length) : ∃ s, l[i]? = some s ∧ at_ (ints l) i = (s : Int) := ⟨l[i], by simp, by rw [ints_at, List.getD, List.getElem?_eq_getElem hi]; rfl⟩

set_option maxHeartbeats 4000000 in
set_option maxRecDepth 1000000 in
theorem depths_ok (a a' : Option Addr) (ys : List Nat) (cap cap' : Nat) (w : World) (hR : Row w a (ints ys)) (hU : Row w a' (ints (usedL 0 ys))) (hl1 : 2 ≤ ys.length) (hl2 : ys.length ≤ 288) (hb : ∀ y ∈ ys, y ≤ 2147483647) :
    Calls Try.prog 20 #[.slice a ys.length cap, .slice a' (usedL 0 ys).length cap'] w fun e w' => ∃ g, e = .returned (.slice (some ⟨g, 0, none⟩) ys.length ys.length) ∧ Own w' g ys.length (ints (depthsL ys)) ∧ Keeps (fun _ => False) w w' ∧ w.heap.size ≤ g := by
  have hsum : (wsOf ys).sum ≤ 1099511627776 := by
    rw [wsOf_sum]
    have h1 := sum_le 2147483647 ys hb
    have h2 : ys.length * 2147483647 ≤ 288 * 2147483647 := Nat.mul_le_mul_right _ hl2
    omega
  have hwl : (wsOf ys).length ≤ 288 := by have := wsOf_le ys; omega
  obtain ⟨m, hm⟩ : ∃ m, (usedL 0 ys).length = m := ⟨_, rfl⟩
  have hmw : (wsOf ys).length = m := by rw [← usedL_length ys 0, hm]
  have hm288 : m ≤ 288 := by omega
  obtain ⟨n, hn⟩ : ∃ n, ys.length = n := ⟨_, rfl⟩
  obtain ⟨b0, off0, rfl, hb0, hc0⟩ := hR.at (by rw [ints_length]; omega)
  have HSy : Hid (∀ i, i < m → ∃ s c, (usedL 0 ys)[i]? = some s ∧ (wsOf ys)[i]? = some c ∧ s < n ∧ c ≤ 2147483647 ∧ (∀ w', Keeps (fun _ => False) w w' → w'.cell? ⟨b0, off0 + s, none⟩ = some (.int .i64 (c : Int)))) := fun i hi => by
    have hi' : i < (usedL 0 ys).length := by omega
    have hlt := (usedL_lt ys 0 _ (List.getElem_mem hi')).2
    have hat := usedL_at ys 0 i hi'
    have hs : (usedL 0 ys)[i] < ys.length := by omega
    rw [Nat.sub_zero, List.getElem?_eq_getElem hs] at hat
    refine ⟨(usedL 0 ys)[i], ys[(usedL 0 ys)[i]], by simp, hat, by omega, hb _ (List.getElem_mem hs), fun w' hk => ?_⟩
    rw [hc0 w' hk _ (by rw [ints_length]; exact hs), ints_at, List.getD, List.getElem?_eq_getElem hs]; rfl
  have HUc : Hid (0 < m → ∃ b1 off1, a' = some ⟨b1, off1, none⟩ ∧ ∀ (i s : Nat), (usedL 0 ys)[i]? = some s → ∀ w', Keeps (fun _ => False) w w' → w'.cell? ⟨b1, off1 + i, none⟩ = some (.int .i64 (s : Int))) := fun h0 => by
    obtain ⟨b1, off1, rfl, hb1, hc1⟩ := hU.at (by rw [ints_length]; omega)
    refine ⟨b1, off1, rfl, fun i s hs w' hk => ?_⟩
    have hi : i < (usedL 0 ys).length := (List.getElem?_eq_some_iff.1 hs).1
    rw [hc1 w' hk i (by rw [ints_length]; exact hi), ints_at, List.getD, hs]; rfl
  have HS : Hid ((wsOf ys).sum ≤ 1099511627776 ∧ (wsOf ys).length = m ∧ (usedL 0 ys).length = m ∧ ys.length = n) := ⟨hsum, hmw, hm, hn⟩
  rw [hm, hn]
  rw [hn] at hl1 hl2
  clear hR hU hb hsum hmw hm hn hc0 hwl
  go_enter Try.func20, Try.ntmps20
  go_wp2
  go_loopw [5, 16] (fun s5 s16 w' => ∃ i : Nat, i ≤ m ∧ s16 = .int .i64 (i : Int) ∧ Hid ((i = 0 → s5 = .slice none 0 0) ∧ OwnT w' w.heap.size s5 ((lv 0 (wsOf ys)).take i) ∧ Keeps (fun _ => False) w w')) (fun s5 s16 w' => ((m : Int) - intOf s16).toNat)
  case atStart => exact ⟨0, by omega, rfl, fun _ => rfl, World.ownsRow_nil _ _ _ _, Keeps.refl _ _⟩
  case round =>
    obtain ⟨i, hi, rfl, HI⟩ := hrel
    by_cases him : i < m
    · have hiz : (i : Int) < (m : Int) := by omega
      obtain ⟨s, c, hs1, hs2, hs3, hs4, hs5⟩ := HSy.out i him
      obtain ⟨b1, off1, rfl, hu⟩ := HUc.out (by omega)
      have hcu := hu i s hs1 wr HI.out.2.2
      have hcc := hs5 wr HI.out.2.2
      have hsz : (s : Int) < (n : Int) := by omega
      have HTk : Hid ((lv 0 (wsOf ys)).take i ++ [(c, i)] = (lv 0 (wsOf ys)).take (i + 1) ∧ ((lv 0 (wsOf ys)).take i).length = i) := by
        have hiw : i < (wsOf ys).length := by rw [HS.out.2.1]; exact him
        have hil : i < (lv 0 (wsOf ys)).length := by rw [lv_length]; exact hiw
        have hcw : (wsOf ys)[i] = c := by rw [List.getElem?_eq_getElem hiw] at hs2; exact Option.some.inj hs2
        refine ⟨?_, by rw [List.length_take, lv_length]; omega⟩
        rw [List.take_succ_eq_append_getElem hil, lv_get _ 0 i hiw, hcw, Nat.zero_add]
      clear hs1 hs2 hs5 hu
      go_wp2_with (refine wpList_tree rfl _ _ rfl rfl w.heap.size u5 ((lv 0 (wsOf ys)).take i) rfl (HI.out.2.1.kept ((Keeps.refl (fun _ => False) wr).alloc _) (fun _ _ h => h)) wr.heap.size (c, i) rfl (heap_alloc_new _ _) ?hb ?hn ?_; (case hb => have := HI.out.2.2.size; simp; omega); (case hn => rw [HTk.out.2]; omega); intro gt ct w1 hO1 hG1 hA1)
      go_roundw
      case rel =>
        refine ⟨i + 1, by omega, by push_cast; rfl, fun h => by omega, by rw [← HTk.out.1]; have ho := hO1; rw [List.length_take] at ho; exact ho, (HI.out.2.2.alloc _).grown hG1 (fun k hk e => ?_)⟩
        have := (World.ownsRow.lt HI.out.2.1 k e).1
        omega
      case measure => simp [intOf]; omega
    · obtain rfl : i = m := by omega
      clear him hi
      obtain ⟨N, hN⟩ : ∃ N, 2 * i - 1 = N := ⟨_, rfl⟩
      have hN5 : N ≤ 575 := by omega
      have HJo : Hid (Calls Try.prog 28 #[u5] wr fun e w' => ∃ gi ci I, e = .returned (.slice (some ⟨gi, 0, none⟩) N ci) ∧ Own w' gi ci (ints I) ∧ Chain N I (dAll (wsOf ys)) ∧ Keeps (fun _ => False) w w' ∧ w.heap.size ≤ gi) := by
        obtain ⟨k1, k2, k3, k4⟩ := HS.out
        have ho := HI.out.2.1
        rw [List.take_of_length_le (by rw [lv_length]; omega)] at ho
        refine (join_any w.heap.size u5 (wsOf ys) wr ho (fun h => HI.out.1 (by omega)) (by omega) k1).mono ?_
        rintro e w' ⟨gi, ci, I, rfl, h1, h2, h3, h4⟩
        rw [k2, hN] at h2
        exact ⟨gi, ci, I, by rw [k2, hN], h1, h2, HI.out.2.2.trans h3 (fun i hi h => by omega), by have := HI.out.2.2.size; omega⟩
      have HN : Hid (2 * i - 1 = N) := hN
      clear HI hN
      go_wp2_with (first
        | (go_at_call 28; refine HJo.out.mono ?_; rintro e w1 ⟨gi, ci, I, rfl, h1, h2, h3, h4⟩; have H1 : Hid (Own w1 gi ci (ints I) ∧ Chain N I (dAll (wsOf ys)) ∧ Keeps (fun _ => False) w w1 ∧ w.heap.size ≤ gi) := ⟨h1, h2, h3, h4⟩; clear h1 h2 h3 h4)
        | (refine wpList_ints rfl _ _ rfl N rfl rfl ?hn ?_; (case hn => omega); intro gd w2 h1 h2 h3; have H2 : Hid (Own w2 gd N (List.replicate N 0) ∧ Keeps (fun _ => False) w1 w2 ∧ w1.heap.size ≤ gd) := ⟨h1, h2, h3⟩; clear h1 h2 h3))
      have HD0 : Hid (∃ j : Int, (N : Int) - 2 = j - 1 ∧ -1 ≤ j ∧ j ≤ (N : Int) - 1 ∧ ∃ dl : List Nat, dl.length = N ∧ (∀ q, q < N → j ≤ (q : Int) → dl.getD q 0 = dAll (wsOf ys) q) ∧ Own w2 gd N (ints dl) ∧ Own w2 gi ci (ints I) ∧ Keeps (fun _ => False) w w2) := by
        obtain ⟨a1, a2, a3, a4⟩ := H1.out
        obtain ⟨b1, b2, b3⟩ := H2.out
        refine ⟨(N : Int) - 1, by omega, by omega, by omega, List.replicate N 0, by simp, fun q hq hj => ?_, by rw [ints_zero]; exact b1, a1.kept b2 (fun h => h), a3.trans b2 (fun _ _ h => h)⟩
        have : q = N - 1 := by omega
        rw [this, a2.top]; simp [List.getD, List.getElem?_replicate]
        split <;> rfl
      have HC : Hid (Chain N I (dAll (wsOf ys))) := H1.out.2.1
      have HG : Hid (gi < gd ∧ w.heap.size ≤ gi) := by
        have := H1.out.1.lt; have := H2.out.2.2; have := H1.out.2.2.2; show gi < gd ∧ w.heap.size ≤ gi; omega
      clear HJo H1 H2
      go_wp2
      go_loopw [10] (fun s10 w' => ∃ j : Int, s10 = .int .i64 (j - 1) ∧ -1 ≤ j ∧ j ≤ (N : Int) - 1 ∧ Hid (∃ dl : List Nat, dl.length = N ∧ (∀ q, q < N → j ≤ (q : Int) → dl.getD q 0 = dAll (wsOf ys) q) ∧ Own w' gd N (ints dl) ∧ Own w' gi ci (ints I) ∧ Keeps (fun _ => False) w w')) (fun s10 w' => (intOf s10 + 2).toNat)
      case atStart =>
        obtain ⟨j, e, h1, h2, h3⟩ := HD0.out
        exact ⟨j, by rw [← e], h1, h2, h3⟩
      case round =>
        clear HD0
        obtain ⟨j, rfl, hj1, hj2, HD⟩ := hrel
        by_cases hj : 1 ≤ j
        · obtain ⟨k, rfl⟩ : ∃ k : Nat, j = (k : Int) + 1 := ⟨(j - 1).toNat, by omega⟩
          rw [show ((k : Int) + 1 - 1) = (k : Int) by omega]
          obtain ⟨dl, d1, d2, d3, d4, d5⟩ := HD.out
          have hkN : k < N := by omega
          have hkt : k + 1 < N := by omega
          · obtain ⟨u, u1, u2, u3, u4⟩ := HC.out.up k hkt
            have hce : wr.cell? ⟨gi, k, none⟩ = some (.int .i64 (u : Int)) := by
              rw [d4.cell k (by rw [ints_length, HC.out.len]; exact hkN), ints_at, List.getD, u1]; rfl
            have hdu : wr.cell? ⟨gd, u, none⟩ = some (.int .i64 (dAll (wsOf ys) u : Int)) := by
              rw [d3.cell u (by rw [ints_length, d1]; exact u3), ints_at, d2 u u3 (by omega)]
            have hdk := d3.cell k (by rw [ints_length, d1]; exact hkN)
            have hfk := d3.free k (by rw [ints_length, d1]; exact hkN)
            have hsm := HC.out.le u u3
            obtain ⟨du, hdu'⟩ : ∃ du, dAll (wsOf ys) u = du := ⟨_, rfl⟩
            rw [hdu'] at hdu hsm
            have HK : Hid (dAll (wsOf ys) k = du + 1 ∧ dl.length = N ∧ (∀ q, q < N → ((k : Int) + 1) ≤ (q : Int) → dl.getD q 0 = dAll (wsOf ys) q) ∧ Own wr gd N (ints dl) ∧ Own wr gi ci (ints I) ∧ Keeps (fun _ => False) w wr) := ⟨by rw [u4, hdu'], d1, d2, d3, d4, d5⟩
            have huz : (u : Int) < (N : Int) := by omega
            have hkz : (k : Int) < (N : Int) := by omega
            generalize at_ (ints dl) k = v0 at *
            clear HD d1 d2 d3 d4 d5 u1 u4 hdu'
            go_wp2
            go_roundw
            case rel =>
              obtain ⟨e1, e2, e3, e4, e5, e6⟩ := HK.out
              refine ⟨(k : Int), rfl, by omega, by omega, dl.set k (du + 1), by simp [e2], fun q hq hj => ?_, ?_, e5.kept (Keeps.setCell (S := fun b => b = gd) (Keeps.refl _ wr) (p := ⟨gd, k, none⟩) (fun _ => rfl) _) (by have := HG.out; omega), e6.trans (Keeps.setCell (S := fun b => b = gd) (Keeps.refl _ wr) (p := ⟨gd, k, none⟩) (fun _ => rfl) _) (fun i hi h => by have := HG.out; omega)⟩
              · rw [List.getD, List.getElem?_set]
                by_cases e : k = q
                · subst e; rw [if_pos rfl, if_pos (by omega), e1]; rfl
                · rw [if_neg e]; exact e3 q hq (by omega)
              · have := e4.set k ((du + 1 : Nat) : Int)
                rw [ints_set] at this
                push_cast at this
                exact this
            case measure => simp [intOf]; omega
        · have hjz : j - 1 < 0 := by omega
          have HD' : Hid (∃ dl : List Nat, dl.length = N ∧ (∀ q, q < N → dl.getD q 0 = dAll (wsOf ys) q) ∧ Own wr gd N (ints dl) ∧ Keeps (fun _ => False) w wr) := by
            obtain ⟨dl, d1, d2, d3, d4, d5⟩ := HD.out
            exact ⟨dl, d1, fun q hq => d2 q hq (by omega), d3, d5⟩
          clear HD
          go_wp2_with (refine wpList_ints rfl _ _ rfl n rfl rfl ?hn ?_; (case hn => omega); intro gl w3 h1 h2 h3; have H3 : Hid (Own w3 gl n (List.replicate n 0) ∧ Keeps (fun _ => False) wr w3 ∧ wr.heap.size ≤ gl) := ⟨h1, h2, h3⟩; clear h1 h2 h3)
          have HL0 : Hid (Own w3 gl n (ints (spread ys ((dsOf (wsOf ys)).take 0))) ∧ (∃ dl : List Nat, dl.length = N ∧ (∀ q, q < N → dl.getD q 0 = dAll (wsOf ys) q) ∧ Own w3 gd N (ints dl)) ∧ Keeps (fun _ => False) w w3) := by
            obtain ⟨dl, d1, d2, d3, d4⟩ := HD'.out
            obtain ⟨a1, a2, a3⟩ := H3.out
            refine ⟨?_, ⟨dl, d1, d2, d3.kept a2 (fun h => h)⟩, d4.trans a2 (fun _ _ h => h)⟩
            rw [List.take_zero, spread_nil, HS.out.2.2.2, ints_zero]; exact a1
          have HG3 : Hid (gd < gl ∧ w.heap.size ≤ gd) := by
            obtain ⟨dl, d1, d2, d3, d4⟩ := HD'.out
            have := d3.lt; have := H3.out.2.2; have := HG.out; show gd < gl ∧ w.heap.size ≤ gd; omega
          clear HD' H3
          go_loopw [59] (fun s59 w' => ∃ t : Nat, t ≤ i ∧ s59 = .int .i64 (t : Int) ∧ Hid (Own w' gl n (ints (spread ys ((dsOf (wsOf ys)).take t))) ∧ (∃ dl : List Nat, dl.length = N ∧ (∀ q, q < N → dl.getD q 0 = dAll (wsOf ys) q) ∧ Own w' gd N (ints dl)) ∧ Keeps (fun _ => False) w w')) (fun s59 w' => ((i : Int) - intOf s59).toNat)
          case atStart => exact ⟨0, by omega, rfl, HL0⟩
          case round =>
            clear HL0
            obtain ⟨t, ht, rfl, HL⟩ := hrel
            by_cases hti : t < i
            · have htz : (t : Int) < (i : Int) := by omega
              obtain ⟨s, c, hs1, hs2, hs3, hs4, hs5⟩ := HSy.out t hti
              obtain ⟨b1, off1, rfl, hu⟩ := HUc.out (by omega)
              obtain ⟨l1, ⟨dl, d1, d2, d3⟩, l3⟩ := HL.out
              have hcu := hu t s hs1 wr l3
              have htN : t < N := by have := HN.out; omega
              have htNz : (t : Int) < (N : Int) := by omega
              have hsz : (s : Int) < (n : Int) := by omega
              have hsl : s < (ints (spread ys ((dsOf (wsOf ys)).take t))).length := by rw [ints_length, spread_length, HS.out.2.2.2]; exact hs3
              have hcd := d3.cell t (by rw [ints_length, d1]; exact htN)
              rw [ints_at, d2 t htN] at hcd
              have hcl := l1.cell s hsl
              have hfl := l1.free s hsl
              have HL' : Hid (Own wr gl n (ints (spread ys ((dsOf (wsOf ys)).take t))) ∧ (∃ dl : List Nat, dl.length = N ∧ (∀ q, q < N → dl.getD q 0 = dAll (wsOf ys) q) ∧ Own wr gd N (ints dl)) ∧ Keeps (fun _ => False) w wr) := HL.out
              have HSp : Hid ((spread ys ((dsOf (wsOf ys)).take t)).set s (dAll (wsOf ys) t) = spread ys ((dsOf (wsOf ys)).take (t + 1))) := by
                have hu' : t < (usedL 0 ys).length := by rw [HS.out.2.2.1]; exact hti
                have hd' : t < (dsOf (wsOf ys)).length := by rw [dsOf_length, HS.out.2.1]; exact hti
                have h := spread_set ys 0 (dsOf (wsOf ys)) t hd' hu'
                have e1 : (usedL 0 ys)[t] = s := by rw [List.getElem?_eq_getElem hu'] at hs1; exact Option.some.inj hs1
                have e2 : (dsOf (wsOf ys))[t] = dAll (wsOf ys) t := by
                  have := dsOf_get (wsOf ys) t (by rw [HS.out.2.1]; exact hti)
                  rw [List.getElem?_eq_getElem hd'] at this; exact Option.some.inj this
                rw [e1, e2, Nat.sub_zero] at h
                exact h
              generalize at_ (ints (spread ys ((dsOf (wsOf ys)).take t))) s = v0 at *
              generalize dAll (wsOf ys) t = dt at *
              clear HL l1 d1 d2 d3 l3 hs1 hs2 hs5 hu hsl
              go_wp2
              go_roundw
              case rel =>
                obtain ⟨e1, ⟨dl, e2, e3, e4⟩, e5⟩ := HL'.out
                refine ⟨t + 1, by omega, by push_cast; rfl, ?_, ⟨dl, e2, e3, e4.kept (Keeps.setCell (S := fun b => b = gl) (Keeps.refl _ wr) (p := ⟨gl, s, none⟩) (fun _ => rfl) _) (by have := HG3.out; omega)⟩, e5.trans (Keeps.setCell (S := fun b => b = gl) (Keeps.refl _ wr) (p := ⟨gl, s, none⟩) (fun _ => rfl) _) (fun i hi h => by have := HG3.out; omega)⟩
                rw [← HSp.out, ← ints_set]
                exact e1.set s (dt : Int)
              case measure => simp [intOf]; omega
            · obtain rfl : t = i := by omega
              go_wp2
              go_ret
              obtain ⟨e1, _, e5⟩ := HL.out
              refine ⟨gl, rfl, ?_, e5, by have := HG3.out; omega⟩
              rw [List.take_of_length_le (by rw [dsOf_length, HS.out.2.1]; omega)] at e1
              exact e1

end Go.Proofs.Ytfdoppeijgianaa

/-
  runs, mayTellBytes and mayTellDists of package inflate.
-/
import Derived.Test.YtdbfbijalhknnaaRuns
namespace Go.Proofs.Ytdbfbijalhknnaa
open Go.RowKit
open Hf Tb
set_option linter.unusedVariables false
set_option linter.unusedSimpArgs false

theorem own_row {w : World} {base : Nat} {v : Value} {xs : List Int} (h : Own w base v xs) : ∃ a cap, v = .slice a xs.length cap ∧ Row w a xs ∧ xs.length ≤ cap ∧ ∀ x, a = some x → v.ownBlock = some x.block := by
  by_cases h0 : xs.length = 0
  · obtain rfl := List.eq_nil_of_length_eq_zero h0
    rcases h.2 with ⟨e, _⟩ | ⟨g, cap, cur, e, _⟩
    · exact ⟨none, 0, e, .inl rfl, Nat.zero_le _, fun x e => by cases e⟩
    · exact ⟨_, cap, e, .inl rfl, Nat.zero_le _, fun x e2 => by cases e2; rw [e]; rfl⟩
  · obtain ⟨g, cap, e, _, hlt⟩ := World.ownsRow.form h (by omega)
    have hc : xs.length ≤ cap := by
      rcases h.2 with ⟨e2, h2⟩ | ⟨g', cap', cur, hv, hb, hg, hn, hc, hs, ht⟩
      · omega
      · rw [e] at hv; cases hv; omega
    refine ⟨_, cap, e, .inr ⟨g, 0, rfl, hlt, fun i hi => ?_⟩, hc, fun x e2 => by cases e2; rw [e]; rfl⟩
    rw [e] at h
    rw [Nat.zero_add]
    exact (owns_cell h i _ (by simp [intsV, List.getElem?_map, List.getElem?_eq_getElem hi])).1

/-- What a call leaves that reads many lengths. -/
def RowPost (R : Option (List Int × Bts)) (w : World) (b r : Nat) (v : Value) (s : ByteArray) (most : Nat) (xs : List Nat) (e : Ending) (w' : World) : Prop :=
  (R = none → e = .returned (.tuple #[.slice none 0 0, .int .i64 700]) ∧ Keeps (Own3 b r v) w w') ∧
  ∀ rs L', R = some (rs, L') → ∃ u, e = .returned (.tuple #[u, .int .i64 0]) ∧ Own w' w.heap.size u rs ∧ St w' b r v s most L' xs ∧ Rdv w w' b r v
theorem RowPost.noneI {w : World} {b r : Nat} {v : Value} {s : ByteArray} {most : Nat} {xs : List Nat} {w' : World} (h : Keeps (Own3 b r v) w w') : RowPost none w b r v s most xs (.returned (.tuple #[.slice none 0 0, .int .i64 700])) w' :=
  ⟨fun _ => ⟨rfl, h⟩, fun _ _ e => by cases e⟩
theorem St.above3 {w : World} {b r : Nat} {v : Value} {s : ByteArray} {most : Nat} {L : Bts} {xs : List Nat} (h : St w b r v s most L xs) : ∀ k, Own3 b r v k → k < w.heap.size := by
  rintro k (rfl | rfl | e)
  · exact h.lt
  · have := h.rb; have := h.lt; omega
  · exact (h.ownlt k e).2

set_option maxHeartbeats 4000000 in
set_option maxRecDepth 100000 in
theorem runs_ok {w : World} {b r : Nat} {v : Value} {s : ByteArray} {most : Nat} {L : Bts} {xs : List Nat} (h : St w b r v s most L xs) {lo hi f : Nat} {ys : List Int} (hf : Fnd w lo hi f ys) (ha : Away lo hi b r v) (hys : ys.length ≤ 100000) (many : Nat) (hm : many ≤ 1000) :
    Calls Try.prog 84 #[.pointer (some ⟨b, 0, none⟩), .pointer (some ⟨f, 0, none⟩), .int .i64 (many : Int)] w (RowPost (runs ys many [] L) w b r v s most xs) := by
  obtain ⟨R, hR⟩ : ∃ R, runs ys many [] L = R := ⟨_, rfl⟩
  rw [hR]
  have HF : Hid (∀ w', Rdv w w' b r v → Fnd w' lo hi f ys) := fun w' k => hf.kept k.keep ha.not
  have HS0 : Hid (St w b r v s most L xs) := h
  have HAw : Hid (Away lo hi b r v ∧ ys.length ≤ 100000 ∧ ∀ k, Own3 b r v k → k < w.heap.size) := ⟨ha, hys, h.above3⟩
  have H0 : Hid (∃ L1, runs ys many [] L1 = R ∧ St w b r v s most L1 xs ∧ Rdv w w b r v ∧ Own w w.heap.size (.slice none 0 0) []) := ⟨L, hR, h, Rdv.refl _ _ _ _, World.ownsRow_nil w _ 3 1⟩
  clear h hf ha hys hR
  go_enter Try.func84, Try.ntmps84
  go_wp2
  go_loopw [8] (fun s8 w' => ∃ (a : Option Addr) (n cap : Nat), s8 = .slice a n cap ∧ n ≤ 2000 ∧ Hid (∃ (out : List Int) (L1 : Bts), out.length = n ∧ runs ys many out L1 = R ∧ St w' b r v s most L1 xs ∧ Rdv w w' b r v ∧ Own w' w.heap.size (.slice a n cap) out ∧ Row w' a out)) (fun s8 _ => match s8 with | .slice _ n _ => many - n | _ => 0)
  case atStart =>
    obtain ⟨L1, h1, h2, h3, h4⟩ := H0.out
    exact ⟨none, 0, 0, rfl, by omega, [], L1, rfl, h1, h2, h3, h4, .inl rfl⟩
  case round =>
    clear H0
    obtain ⟨a, n, cap, hs8, hn, HW⟩ := hrel
    obtain rfl := hs8.symm
    clear hs8
    by_cases hnm : n < many
    · have hnz : (n : Int) < (many : Int) := by omega
      obtain ⟨out, L1, hlen, hE, hS, hA, hO, hRow⟩ := HW.out
      clear HW
      have HS : Hid (out.length = n ∧ runs ys many out L1 = R ∧ St wr b r v s most L1 xs ∧ Rdv w wr b r v ∧ Own wr w.heap.size (.slice a n cap) out ∧ Row wr a out) := ⟨hlen, hE, hS, hA, hO, hRow⟩
      have HC : Hid (Calls Try.prog 68 #[.pointer (some ⟨b, 0, none⟩), .pointer (some ⟨f, 0, none⟩)] wr (NumPost (symN ys L1) wr b r v s most xs)) := symbol_ok hS (HF.out wr hA) HAw.out.1
      clear hlen hE hS hA hO hRow
      go_wp2_with fail
      refine HC.out.mono ?_
      intro e w2 hP
      clear HC
      rcases h1 : symN ys L1 with _ | ⟨i, L2⟩
      · obtain ⟨rfl, hk⟩ := hP.1 h1
        have HK : Hid (Keeps (Own3 b r v) w w2) := HS.out.2.2.2.1.lost hk
        have e : R = none := by rw [← HS.out.2.1, runs_none1 (by rw [HS.out.1]; exact hnm) h1]
        subst e
        clear hP h1 hk
        go_wp2
        go_ret2
        exact RowPost.noneI HK.out
      · obtain ⟨rfl, hS2, hA2⟩ := hP.2 i L2 h1
        have HL : Hid (symN ys L1 = some (i, L2)) := h1
        have hi5 : i ≤ 100000 := by have := symN_small h1; have := HAw.out.2.1; omega
        have hnot : ∀ k, (Value.slice a n cap).ownBlock = some k → ¬ Own3 b r v k := fun k e e2 => by
          have := (World.ownsRow.lt HS.out.2.2.2.2.1 k e).1
          have := HAw.out.2.2 k e2; omega
        have hra : ∀ x, a = some x → n ≠ 0 → ¬ Own3 b r v x.block := fun x e _ => by
          subst e
          rcases HS.out.2.2.2.2.1.2 with ⟨e, _⟩ | ⟨g, cap', cur, e, _⟩
          · cases e
          · cases e; exact hnot _ rfl
        have H2 : Hid (St w2 b r v s most L2 xs ∧ Rdv w w2 b r v ∧ Own w2 w.heap.size (.slice a n cap) out ∧ Row w2 a out) := by
          refine ⟨hS2, HS.out.2.2.2.1.trans hA2, HS.out.2.2.2.2.1.kept hA2.keep hnot, ?_⟩
          rcases HS.out.2.2.2.2.2 with h | h
          · exact .inl h
          · by_cases h0 : n = 0
            · exact .inl (List.eq_nil_of_length_eq_zero (by rw [HS.out.1, h0]))
            · exact Row.kept (.inr h) hA2.keep (fun x e => hra x e h0)
        have HC : Hid (Calls Try.prog 95 #[.pointer (some ⟨b, 0, none⟩), .int .i64 (i : Int), .slice a n cap] w2 (RunPost (rle i out L2) w2 b r v s most xs)) := by
          have := run_ok H2.out.1 i a out cap H2.out.2.2.2 (by rw [HS.out.1]; omega) hi5
          rw [HS.out.1] at this; exact this
        clear hP h1 hS2 hA2 hi5 hra
        have HN : Hid (∀ k, (Value.slice a n cap).ownBlock = some k → ¬ Own3 b r v k) := hnot
        clear hnot
        go_wp2_with fail
        refine HC.out.mono ?_
        intro e w3 hP
        clear HC
        rcases h3 : rle i out L2 with _ | ⟨rs, L3⟩
        · obtain ⟨rfl, hk⟩ := hP.1 h3
          have HK : Hid (Keeps (Own3 b r v) w w3) := H2.out.2.1.lost hk
          have e : R = none := by rw [← HS.out.2.1, runs_none2 (by rw [HS.out.1]; exact hnm) HL.out h3]
          subst e
          clear hP h3 hk
          go_wp2
          go_ret2
          exact RowPost.noneI HK.out
        · obtain ⟨g, rfl, hB3, hg3, hS3, hA3⟩ := hP.2 rs L3 h3
          obtain ⟨m, hm3⟩ : ∃ m, rs.length = m := ⟨_, rfl⟩
          have hrl : 1 ≤ m ∧ m ≤ 300 := by
            have h4 := (rle_len h3).2
            refine ⟨by omega, ?_⟩
            rw [← hm3]
            exact rle_le h3
          have H3 : Hid (runs ys many (out ++ rs) L3 = R ∧ St w3 b r v s most L3 xs ∧ Rdv w w3 b r v ∧ Own w3 w.heap.size (.slice a n cap) out ∧ Blk w3 g rs ∧ w2.heap.size ≤ g ∧ rs.length = m) :=
            ⟨by rw [← HS.out.2.1, runs_next (by rw [HS.out.1]; exact hnm) HL.out h3], hS3, H2.out.2.1.trans hA3, H2.out.2.2.1.kept hA3.keep HN.out, hB3, hg3, hm3⟩
          rw [hm3]
          clear hP h3 hB3 hg3 hS3 hA3 HN hm3
          go_wp2_with (refine wpList_join rfl _ _ rfl rfl w.heap.size (.slice a n cap) out rfl H3.out.2.2.2.1 g m m rs rfl H3.out.2.2.2.2.2.2 H3.out.2.2.2.2.1 H3.out.2.2.1.keep.size (by rw [HS.out.1, H3.out.2.2.2.2.2.2]; omega) ?_; intro v4 w4 hO4 hG4)
          obtain ⟨a4, cap4, hv4, hrow4, _, _⟩ := own_row hO4
          obtain ⟨n4, hn4⟩ : ∃ n4, (out ++ rs).length = n4 := ⟨_, rfl⟩
          have hn4' : n4 = n + m := by rw [← hn4, List.length_append, HS.out.1, H3.out.2.2.2.2.2.2]
          rw [hn4] at hv4
          obtain rfl := hv4.symm
          clear hv4
          have H4 : Hid (∃ (out : List Int) (L1 : Bts), out.length = n4 ∧ runs ys many out L1 = R ∧ St w4 b r v s most L1 xs ∧ Rdv w w4 b r v ∧ Own w4 w.heap.size (.slice a4 n4 cap4) out ∧ Row w4 a4 out) := by
            have k34 : Keeps (fun k => (Value.slice a n cap).ownBlock = some k) w3 w4 := (Keeps.refl _ w3).grown hG4 (fun k _ e => e)
            have hlow : ∀ k, (Value.slice a n cap).ownBlock = some k → w.heap.size ≤ k := fun k e => (World.ownsRow.lt H3.out.2.2.2.1 k e).1
            have hR4 : Rdv w w4 b r v := ⟨H3.out.2.2.1.only.trans k34 (fun k hk e => by have := hlow k e; omega)⟩
            obtain ⟨p, p1, p2, p3⟩ := H3.out.2.1.rd
            have hrl : r < w.heap.size := by have := HS0.out.rb; have := HS0.out.lt; omega
            have hS4 := (HS0.out.read (p := p) ⟨p1.kept k34 (fun e => by have := hlow r e; omega), hR4.only⟩ p2).1
            rw [← p3] at hS4
            exact ⟨out ++ rs, L3, hn4, H3.out.1, hS4, hR4, hO4, hrow4⟩
          clear hO4 hG4 hrow4 hn4 H3 H2 HS HL
          go_roundw
          case rel => exact ⟨a4, n4, cap4, rfl, by omega, H4⟩
          case measure => simp; omega
    · have hnz : ¬ (n : Int) < (many : Int) := by omega
      by_cases hover : many < n
      · have hoz : (many : Int) < (n : Int) := by omega
        obtain ⟨out, L1, hlen, hE, hS, hA, hO, hRow⟩ := HW.out
        have e : R = none := by rw [← hE, runs_over (by omega)]
        subst e
        have HK : Hid (Keeps (Own3 b r v) w wr) := hA.keep
        clear hlen hE hS hA hO hRow HW
        go_wp2
        go_ret2
        exact RowPost.noneI HK.out
      · obtain rfl : n = many := by omega
        obtain ⟨out, L1, hlen, hE, hS, hA, hO, hRow⟩ := HW.out
        have e : R = some (out, L1) := by rw [← hE, runs_done hlen]
        subst e
        have HP : Hid (RowPost (some (out, L1)) w b r v s most xs (.returned (.tuple #[.slice a n cap, .int .i64 0])) wr) := ⟨fun e => by (cases e), fun _ _ e => by cases e; exact ⟨_, rfl, hO, hS, hA⟩⟩
        clear hlen hE hS hA hO hRow HW
        go_wp2
        go_ret2
        exact HP.out

set_option maxHeartbeats 1000000 in
set_option maxRecDepth 100000 in
theorem mayTellBytes_ok (a : Option Addr) (x : List Int) (cap : Nat) (w : World) (hR : Row w a x) (hl : 257 ≤ x.length) (hl2 : x.length ≤ 1000) :
    Calls Try.prog 85 #[.slice a x.length cap] w fun e w' => e = .returned (.bool (mayB x)) ∧ Keeps (fun _ => False) w w' := by
  have HC : Hid (Calls Try.prog 94 #[.slice a x.length cap] w fun e w' => e = .returned (.int .i64 (errC x)) ∧ Keeps (fun _ => False) w w') := check_ok a x cap w hR (by omega)
  obtain ⟨g, off, rfl, hg, hc⟩ := hR.spot (by omega)
  have HCl : Hid (∀ w', Keeps (fun _ => False) w w' → w'.cell? ⟨g, off + 256, none⟩ = some (.int .i64 (at_ x 256))) := fun w' hk => by
    rw [World.cell?_of_block (hk.block g hg (fun h => h)), at_eq 256 (by omega)]; exact hc 256 (by omega)
  have hlz : (256 : Int) < (x.length : Int) := by omega
  have HE : Hid (mayB x = (decide (errC x = 0) && decide (0 < at_ x 256))) := rfl
  rw [HE.out]
  clear hR hc HE
  generalize errC x = er at *
  generalize at_ x 256 = t at *
  generalize x.length = N at *
  by_cases her : er = 0
  · subst her
    rw [decide_eq_true rfl, Bool.true_and]
    go_enter Try.func85, Try.ntmps85
    go_wp2_with fail
    refine HC.out.mono ?_
    rintro e w2 ⟨rfl, hK⟩
    have hcell := HCl.out w2 hK
    have HK : Hid (Keeps (fun _ => False) w w2) := hK
    clear hK HC HCl
    go_wp2
    go_ret
    exact ⟨by congr 2, HK.out⟩
  · rw [decide_eq_false her, Bool.false_and]
    have hnb : (er == 0) = false := by simp; exact her
    go_enter Try.func85, Try.ntmps85
    go_wp2_with fail
    refine HC.out.mono ?_
    rintro e w2 ⟨rfl, hK⟩
    have HK : Hid (Keeps (fun _ => False) w w2) := hK
    clear hK HC HCl
    go_wp2
    go_ret
    exact ⟨rfl, HK.out⟩

theorem sum_take (x : List Int) (j : Nat) (h : j < x.length) : (x.take (j + 1)).sum = (x.take j).sum + x[j] := by
  rw [take_snoc x j h, List.sum_append]; simp
theorem sum_bound (x : List Int) (hx : ∀ i (h : i < x.length), 0 ≤ x[i] ∧ x[i] ≤ 15) : ∀ j, j ≤ x.length → 0 ≤ (x.take j).sum ∧ (x.take j).sum ≤ 15 * j := by
  intro j
  induction j with
  | zero => intro _; simp
  | succ j ih =>
    intro h
    have h1 := ih (by omega)
    have h2 := hx j (by omega)
    rw [sum_take x j (by omega)]; omega

set_option maxHeartbeats 1000000 in
set_option maxRecDepth 100000 in
theorem mayTellDists_ok (a : Option Addr) (x : List Int) (cap : Nat) (w : World) (hR : Row w a x) (hl2 : x.length ≤ 1000) (hx : ∀ i (h : i < x.length), 0 ≤ x[i] ∧ x[i] ≤ 15) :
    Calls Try.prog 86 #[.slice a x.length cap] w fun e w' => e = .returned (.bool (mayD x)) ∧ Keeps (fun _ => False) w w' := by
  have HC : Hid (Calls Try.prog 94 #[.slice a x.length cap] w fun e w' => e = .returned (.int .i64 (errC x)) ∧ Keeps (fun _ => False) w w') := check_ok a x cap w hR (by omega)
  obtain ⟨B, hB⟩ : ∃ B, mayD x = B := ⟨_, rfl⟩
  rw [hB]
  have HB : Hid ((decide (x.sum ≤ 1) || decide (errC x = 0)) = B) := hB
  have HR : Hid (Row w a x) := hR
  have HX : Hid (∀ i (h : i < x.length), 0 ≤ x[i] ∧ x[i] ≤ 15) := hx
  obtain ⟨N, hN⟩ : ∃ N, x.length = N := ⟨_, rfl⟩
  have HN : Hid (x.length = N) := hN
  rw [hN] at HC ⊢ hl2
  clear hR hB hx hN
  go_enter Try.func86, Try.ntmps86
  go_wp2
  go_loopw [3, 8] (fun s3 s8 w' => ∃ j : Nat, j ≤ N ∧ s8 = .int .i64 (j : Int) ∧ s3 = .int .i64 ((x.take j).sum) ∧ w' = w) (fun _ s8 _ => ((N : Int) - intOf s8).toNat)
  case atStart => exact ⟨0, by omega, rfl, by simp, rfl⟩
  case round =>
    obtain ⟨j, hj, rfl, rfl, rfl⟩ := hrel
    by_cases hjn : j < N
    · have hjz : (j : Int) < (N : Int) := by omega
      have hjx : j < x.length := by rw [HN.out]; exact hjn
      obtain ⟨g, off, ha, hg, hc⟩ := HR.out.spot (by omega)
      obtain rfl := ha
      have hcell := hc j hjx
      have hs := sum_bound x HX.out j (by omega)
      have hv := HX.out j hjx
      have HT : Hid ((x.take (j + 1)).sum = (x.take j).sum + x[j]) := sum_take x j hjx
      generalize (x.take j).sum = S at *
      generalize x[j] = y at *
      have hb : 15 * (j : Int) ≤ 15000 := by omega
      clear hc
      go_wp2
      go_roundw
      case rel => exact ⟨j + 1, by omega, by push_cast; rfl, by rw [HT.out], trivial⟩
      case measure => simp [intOf]; omega
    · obtain rfl : j = N := by omega
      rw [List.take_of_length_le (by rw [HN.out]; omega)]
      have hs := sum_bound x HX.out x.length (Nat.le_refl _)
      rw [List.take_length] at hs
      generalize x.sum = S at *
      generalize errC x = er at *
      by_cases h1 : S ≤ 1
      · have e : B = true := by rw [← HB.out, decide_eq_true h1, Bool.true_or]
        subst e
        clear HB
        go_wp2
        go_ret
        exact ⟨rfl, Keeps.refl _ _⟩
      · have e : B = decide (er = 0) := by rw [← HB.out, decide_eq_false h1, Bool.false_or]
        subst e
        clear HB
        have hd : decide (S ≤ 1) = false := decide_eq_false h1
        go_wp2_with fail
        refine HC.out.mono ?_
        rintro e w2 ⟨rfl, hK⟩
        have HK : Hid (Keeps (fun _ => False) wr w2) := hK
        clear hK HC
        go_wp2
        go_ret
        exact ⟨by congr 2, HK.out⟩

end Go.Proofs.Ytdbfbijalhknnaa

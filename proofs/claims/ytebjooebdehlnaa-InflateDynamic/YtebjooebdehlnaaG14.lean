/-
  runs, mayTellBytes and mayTellDists of package inflate. lengthFinder of package inflate: the codes by which a dynamic block tells all lengths. The document's fives and order (also in Rsmall). lengths of package block: what stands ahead of a dynamic block's tokens. mayBe, Stored, Fixed and Dynamic of package block. The document's upTo, few, Stored and FixedBlock. The document's forest: three rows in a struct; a tree more, and the least free one.
-/
import Derived.Test.YtebjooebdehlnaaRows
import Derived.Test.YtebjooebdehlnaaG13
import Derived.BigQuiet
namespace Go.Proofs.Ytebjooebdehlnaa
open Go.RowKit
open Hf Tb
set_option linter.unusedVariables false
set_option linter.unusedSimpArgs false

theorem own_row {w : World} {base : Nat} {v : Value} {xs : List Int} (h : Own w base v xs) : ∃ a cap, v = .slice a xs.length cap ∧ Row w a xs ∧ xs.length ≤ cap ∧ ∀ x, a = some x → v.ownBlock = some x.block := by
  by_cases h0 : xs.length = 0
  · obtain rfl := List.eq_nil_of_length_eq_zero h0
    rcases h.2 with ⟨e, _⟩ | ⟨g, cap, cur, e, _⟩
    · exact ⟨none, 0, e, .inl rfl, Nat.zero_le _, fun x e => by cases e⟩
    · exact ⟨_, cap, e, .inl rfl, Nat.zero_le _, fun x e2 => by cases e2; rw [e]; rfl⟩
  · obtain ⟨g, cap, e, _, hlt⟩ := World.ownsRow.form h (by omega)
    have hc : xs.length ≤ cap := by
      rcases h.2 with ⟨e2, h2⟩ | ⟨g', cap', cur, hv, hb, hg, hn, hc, hs, ht⟩
      · omega
      · rw [e] at hv; cases hv; omega
    refine ⟨_, cap, e, .inr ⟨g, 0, rfl, hlt, fun i hi => ?_⟩, hc, fun x e2 => by cases e2; rw [e]; rfl⟩
    rw [e] at h
    rw [Nat.zero_add]
    exact (owns_cell h i _ (by simp [intsV, List.getElem?_map, List.getElem?_eq_getElem hi])).1

/-- What a call leaves that reads many lengths. -/
def RowPost (R : Option (List Int × Bts)) (w : World) (b r : Nat) (v : Value) (s : ByteArray) (most : Nat) (xs : List Nat) (e : Ending) (w' : World) : Prop :=
  (R = none → e = .returned (.tuple #[.slice none 0 0, .int .i64 700]) ∧ Keeps (Own3 b r v) w w') ∧
  ∀ rs L', R = some (rs, L') → ∃ u, e = .returned (.tuple #[u, .int .i64 0]) ∧ Own w' w.heap.size u rs ∧ St w' b r v s most L' xs ∧ Rdv w w' b r v
theorem RowPost.noneI {w : World} {b r : Nat} {v : Value} {s : ByteArray} {most : Nat} {xs : List Nat} {w' : World} (h : Keeps (Own3 b r v) w w') : RowPost none w b r v s most xs (.returned (.tuple #[.slice none 0 0, .int .i64 700])) w' :=
  ⟨fun _ => ⟨rfl, h⟩, fun _ _ e => by cases e⟩
theorem St.above3 {w : World} {b r : Nat} {v : Value} {s : ByteArray} {most : Nat} {L : Bts} {xs : List Nat} (h : St w b r v s most L xs) : ∀ k, Own3 b r v k → k < w.heap.size := by
  rintro k (rfl | rfl | e)
  · exact h.lt
  · have := h.rb; have := h.lt; omega
  · exact (h.ownlt k e).2

set_option maxHeartbeats 4000000 in
set_option maxRecDepth 100000 in
theorem runs_ok {w : World} {b r : Nat} {v : Value} {s : ByteArray} {most : Nat} {L : Bts} {xs : List Nat} (h : St w b r v s most L xs) {lo hi f : Nat} {ys : List Int} (hf : Fnd w lo hi f ys) (ha : Away lo hi b r v) (hys : ys.length ≤ 100000) (many : Nat) (hm : many ≤ 1000) :
    Calls Try.prog 63 #[.pointer (some ⟨b, 0, none⟩), .pointer (some ⟨f, 0, none⟩), .int .i64 (many : Int)] w (RowPost (runs ys many [] L) w b r v s most xs) := by
  obtain ⟨R, hR⟩ : ∃ R, runs ys many [] L = R := ⟨_, rfl⟩
  rw [hR]
  have HF : Hid (∀ w', Rdv w w' b r v → Fnd w' lo hi f ys) := fun w' k => hf.kept k.keep ha.not
  have HS0 : Hid (St w b r v s most L xs) := h
  have HAw : Hid (Away lo hi b r v ∧ ys.length ≤ 100000 ∧ ∀ k, Own3 b r v k → k < w.heap.size) := ⟨ha, hys, h.above3⟩
  have H0 : Hid (∃ L1, runs ys many [] L1 = R ∧ St w b r v s most L1 xs ∧ Rdv w w b r v ∧ Own w w.heap.size (.slice none 0 0) []) := ⟨L, hR, h, Rdv.refl _ _ _ _, World.ownsRow_nil w _ 3 1⟩
  clear h hf ha hys hR
  go_enter Try.func63, Try.ntmps63
  go_wp2
  go_loopw [8] (fun s8 w' => ∃ (a : Option Addr) (n cap : Nat), s8 = .slice a n cap ∧ n ≤ 2000 ∧ Hid (∃ (out : List Int) (L1 : Bts), out.length = n ∧ runs ys many out L1 = R ∧ St w' b r v s most L1 xs ∧ Rdv w w' b r v ∧ Own w' w.heap.size (.slice a n cap) out ∧ Row w' a out)) (fun s8 _ => match s8 with | .slice _ n _ => many - n | _ => 0)
  case atStart =>
    obtain ⟨L1, h1, h2, h3, h4⟩ := H0.out
    exact ⟨none, 0, 0, rfl, by omega, [], L1, rfl, h1, h2, h3, h4, .inl rfl⟩
  case round =>
    clear H0
    obtain ⟨a, n, cap, hs8, hn, HW⟩ := hrel
    obtain rfl := hs8.symm
    clear hs8
    by_cases hnm : n < many
    · have hnz : (n : Int) < (many : Int) := by omega
      obtain ⟨out, L1, hlen, hE, hS, hA, hO, hRow⟩ := HW.out
      clear HW
      have HS : Hid (out.length = n ∧ runs ys many out L1 = R ∧ St wr b r v s most L1 xs ∧ Rdv w wr b r v ∧ Own wr w.heap.size (.slice a n cap) out ∧ Row wr a out) := ⟨hlen, hE, hS, hA, hO, hRow⟩
      have HC : Hid (Calls Try.prog 47 #[.pointer (some ⟨b, 0, none⟩), .pointer (some ⟨f, 0, none⟩)] wr (NumPost (symN ys L1) wr b r v s most xs)) := symbol_ok hS (HF.out wr hA) HAw.out.1
      clear hlen hE hS hA hO hRow
      go_wp2_with fail
      refine HC.out.mono ?_
      intro e w2 hP
      clear HC
      rcases h1 : symN ys L1 with _ | ⟨i, L2⟩
      · obtain ⟨rfl, hk⟩ := hP.1 h1
        have HK : Hid (Keeps (Own3 b r v) w w2) := HS.out.2.2.2.1.lost hk
        have e : R = none := by rw [← HS.out.2.1, runs_none1 (by rw [HS.out.1]; exact hnm) h1]
        subst e
        clear hP h1 hk
        go_wp2
        go_ret2
        exact RowPost.noneI HK.out
      · obtain ⟨rfl, hS2, hA2⟩ := hP.2 i L2 h1
        have HL : Hid (symN ys L1 = some (i, L2)) := h1
        have hi5 : i ≤ 100000 := by have := symN_small h1; have := HAw.out.2.1; omega
        have hnot : ∀ k, (Value.slice a n cap).ownBlock = some k → ¬ Own3 b r v k := fun k e e2 => by
          have := (World.ownsRow.lt HS.out.2.2.2.2.1 k e).1
          have := HAw.out.2.2 k e2; omega
        have hra : ∀ x, a = some x → n ≠ 0 → ¬ Own3 b r v x.block := fun x e _ => by
          subst e
          rcases HS.out.2.2.2.2.1.2 with ⟨e, _⟩ | ⟨g, cap', cur, e, _⟩
          · cases e
          · cases e; exact hnot _ rfl
        have H2 : Hid (St w2 b r v s most L2 xs ∧ Rdv w w2 b r v ∧ Own w2 w.heap.size (.slice a n cap) out ∧ Row w2 a out) := by
          refine ⟨hS2, HS.out.2.2.2.1.trans hA2, HS.out.2.2.2.2.1.kept hA2.keep hnot, ?_⟩
          rcases HS.out.2.2.2.2.2 with h | h
          · exact .inl h
          · by_cases h0 : n = 0
            · exact .inl (List.eq_nil_of_length_eq_zero (by rw [HS.out.1, h0]))
            · exact Row.kept (.inr h) hA2.keep (fun x e => hra x e h0)
        have HC : Hid (Calls Try.prog 74 #[.pointer (some ⟨b, 0, none⟩), .int .i64 (i : Int), .slice a n cap] w2 (RunPost (rle i out L2) w2 b r v s most xs)) := by
          have := run_ok H2.out.1 i a out cap H2.out.2.2.2 (by rw [HS.out.1]; omega) hi5
          rw [HS.out.1] at this; exact this
        clear hP h1 hS2 hA2 hi5 hra
        have HN : Hid (∀ k, (Value.slice a n cap).ownBlock = some k → ¬ Own3 b r v k) := hnot
        clear hnot
        go_wp2_with fail
        refine HC.out.mono ?_
        intro e w3 hP
        clear HC
        rcases h3 : rle i out L2 with _ | ⟨rs, L3⟩
        · obtain ⟨rfl, hk⟩ := hP.1 h3
          have HK : Hid (Keeps (Own3 b r v) w w3) := H2.out.2.1.lost hk
          have e : R = none := by rw [← HS.out.2.1, runs_none2 (by rw [HS.out.1]; exact hnm) HL.out h3]
          subst e
          clear hP h3 hk
          go_wp2
          go_ret2
          exact RowPost.noneI HK.out
        · obtain ⟨g, rfl, hB3, hg3, hS3, hA3⟩ := hP.2 rs L3 h3
          obtain ⟨m, hm3⟩ : ∃ m, rs.length = m := ⟨_, rfl⟩
          have hrl : 1 ≤ m ∧ m ≤ 300 := by
            have h4 := (rle_len h3).2
            refine ⟨by omega, ?_⟩
            rw [← hm3]
            exact rle_le h3
          have H3 : Hid (runs ys many (out ++ rs) L3 = R ∧ St w3 b r v s most L3 xs ∧ Rdv w w3 b r v ∧ Own w3 w.heap.size (.slice a n cap) out ∧ Blk w3 g rs ∧ w2.heap.size ≤ g ∧ rs.length = m) :=
            ⟨by rw [← HS.out.2.1, runs_next (by rw [HS.out.1]; exact hnm) HL.out h3], hS3, H2.out.2.1.trans hA3, H2.out.2.2.1.kept hA3.keep HN.out, hB3, hg3, hm3⟩
          rw [hm3]
          clear hP h3 hB3 hg3 hS3 hA3 HN hm3
          go_wp2_with (refine wpList_join rfl _ _ rfl rfl w.heap.size (.slice a n cap) out rfl H3.out.2.2.2.1 g m m rs rfl H3.out.2.2.2.2.2.2 H3.out.2.2.2.2.1 H3.out.2.2.1.keep.size (by rw [HS.out.1, H3.out.2.2.2.2.2.2]; omega) ?_; intro v4 w4 hO4 hG4)
          obtain ⟨a4, cap4, hv4, hrow4, _, _⟩ := own_row hO4
          obtain ⟨n4, hn4⟩ : ∃ n4, (out ++ rs).length = n4 := ⟨_, rfl⟩
          have hn4' : n4 = n + m := by rw [← hn4, List.length_append, HS.out.1, H3.out.2.2.2.2.2.2]
          rw [hn4] at hv4
          obtain rfl := hv4.symm
          clear hv4
          have H4 : Hid (∃ (out : List Int) (L1 : Bts), out.length = n4 ∧ runs ys many out L1 = R ∧ St w4 b r v s most L1 xs ∧ Rdv w w4 b r v ∧ Own w4 w.heap.size (.slice a4 n4 cap4) out ∧ Row w4 a4 out) := by
            have k34 : Keeps (fun k => (Value.slice a n cap).ownBlock = some k) w3 w4 := (Keeps.refl _ w3).grown hG4 (fun k _ e => e)
            have hlow : ∀ k, (Value.slice a n cap).ownBlock = some k → w.heap.size ≤ k := fun k e => (World.ownsRow.lt H3.out.2.2.2.1 k e).1
            have hR4 : Rdv w w4 b r v := ⟨H3.out.2.2.1.only.trans k34 (fun k hk e => by have := hlow k e; omega)⟩
            obtain ⟨p, p1, p2, p3⟩ := H3.out.2.1.rd
            have hrl : r < w.heap.size := by have := HS0.out.rb; have := HS0.out.lt; omega
            have hS4 := (HS0.out.read (p := p) ⟨p1.kept k34 (fun e => by have := hlow r e; omega), hR4.only⟩ p2).1
            rw [← p3] at hS4
            exact ⟨out ++ rs, L3, hn4, H3.out.1, hS4, hR4, hO4, hrow4⟩
          clear hO4 hG4 hrow4 hn4 H3 H2 HS HL
          go_roundw
          case rel => exact ⟨a4, n4, cap4, rfl, by omega, H4⟩
          case measure => simp; omega
    · have hnz : ¬ (n : Int) < (many : Int) := by omega
      by_cases hover : many < n
      · have hoz : (many : Int) < (n : Int) := by omega
        obtain ⟨out, L1, hlen, hE, hS, hA, hO, hRow⟩ := HW.out
        have e : R = none := by rw [← hE, runs_over (by omega)]
        subst e
        have HK : Hid (Keeps (Own3 b r v) w wr) := hA.keep
        clear hlen hE hS hA hO hRow HW
        go_wp2
        go_ret2
        exact RowPost.noneI HK.out
      · obtain rfl : n = many := by omega
        obtain ⟨out, L1, hlen, hE, hS, hA, hO, hRow⟩ := HW.out
        have e : R = some (out, L1) := by rw [← hE, runs_done hlen]
        subst e
        have HP : Hid (RowPost (some (out, L1)) w b r v s most xs (.returned (.tuple #[.slice a n cap, .int .i64 0])) wr) := ⟨fun e => by (cases e), fun _ _ e => by cases e; exact ⟨_, rfl, hO, hS, hA⟩⟩
        clear hlen hE hS hA hO hRow HW
        go_wp2
        go_ret2
        exact HP.out

set_option maxHeartbeats 1000000 in
set_option maxRecDepth 100000 in
theorem mayTellBytes_ok (a : Option Addr) (x : List Int) (cap : Nat) (w : World) (hR : Row w a x) (hl : 257 ≤ x.length) (hl2 : x.length ≤ 1000) :
    Calls Try.prog 64 #[.slice a x.length cap] w fun e w' => e = .returned (.bool (mayB x)) ∧ Keeps (fun _ => False) w w' := by
  have HC : Hid (Calls Try.prog 73 #[.slice a x.length cap] w fun e w' => e = .returned (.int .i64 (errC x)) ∧ Keeps (fun _ => False) w w') := check_ok a x cap w hR (by omega)
  obtain ⟨g, off, rfl, hg, hc⟩ := hR.spot (by omega)
  have HCl : Hid (∀ w', Keeps (fun _ => False) w w' → w'.cell? ⟨g, off + 256, none⟩ = some (.int .i64 (at_ x 256))) := fun w' hk => by
    rw [World.cell?_of_block (hk.block g hg (fun h => h)), at_eq 256 (by omega)]; exact hc 256 (by omega)
  have hlz : (256 : Int) < (x.length : Int) := by omega
  have HE : Hid (mayB x = (decide (errC x = 0) && decide (0 < at_ x 256))) := rfl
  rw [HE.out]
  clear hR hc HE
  generalize errC x = er at *
  generalize at_ x 256 = t at *
  generalize x.length = N at *
  by_cases her : er = 0
  · subst her
    rw [decide_eq_true rfl, Bool.true_and]
    go_enter Try.func64, Try.ntmps64
    go_wp2_with fail
    refine HC.out.mono ?_
    rintro e w2 ⟨rfl, hK⟩
    have hcell := HCl.out w2 hK
    have HK : Hid (Keeps (fun _ => False) w w2) := hK
    clear hK HC HCl
    go_wp2
    go_ret
    exact ⟨by congr 2, HK.out⟩
  · rw [decide_eq_false her, Bool.false_and]
    have hnb : (er == 0) = false := by simp; exact her
    go_enter Try.func64, Try.ntmps64
    go_wp2_with fail
    refine HC.out.mono ?_
    rintro e w2 ⟨rfl, hK⟩
    have HK : Hid (Keeps (fun _ => False) w w2) := hK
    clear hK HC HCl
    go_wp2
    go_ret
    exact ⟨rfl, HK.out⟩

theorem sum_take (x : List Int) (j : Nat) (h : j < x.length) : (x.take (j + 1)).sum = (x.take j).sum + x[j] := by
  rw [take_snoc x j h, List.sum_append]; simp
theorem sum_bound (x : List Int) (hx : ∀ i (h : i < x.length), 0 ≤ x[i] ∧ x[i] ≤ 15) : ∀ j, j ≤ x.length → 0 ≤ (x.take j).sum ∧ (x.take j).sum ≤ 15 * j := by
  intro j
  induction j with
  | zero => intro _; simp
  | succ j ih =>
    intro h
    have h1 := ih (by omega)
    have h2 := hx j (by omega)
    rw [sum_take x j (by omega)]; omega

set_option maxHeartbeats 1000000 in
set_option maxRecDepth 100000 in
theorem mayTellDists_ok (a : Option Addr) (x : List Int) (cap : Nat) (w : World) (hR : Row w a x) (hl2 : x.length ≤ 1000) (hx : ∀ i (h : i < x.length), 0 ≤ x[i] ∧ x[i] ≤ 15) :
    Calls Try.prog 65 #[.slice a x.length cap] w fun e w' => e = .returned (.bool (mayD x)) ∧ Keeps (fun _ => False) w w' := by
  have HC : Hid (Calls Try.prog 73 #[.slice a x.length cap] w fun e w' => e = .returned (.int .i64 (errC x)) ∧ Keeps (fun _ => False) w w') := check_ok a x cap w hR (by omega)
  obtain ⟨B, hB⟩ : ∃ B, mayD x = B := ⟨_, rfl⟩
  rw [hB]
  have HB : Hid ((decide (x.sum ≤ 1) || decide (errC x = 0)) = B) := hB
  have HR : Hid (Row w a x) := hR
  have HX : Hid (∀ i (h : i < x.length), 0 ≤ x[i] ∧ x[i] ≤ 15) := hx
  obtain ⟨N, hN⟩ : ∃ N, x.length = N := ⟨_, rfl⟩
  have HN : Hid (x.length = N) := hN
  rw [hN] at HC ⊢ hl2
  clear hR hB hx hN
  go_enter Try.func65, Try.ntmps65
  go_wp2
  go_loopw [3, 8] (fun s3 s8 w' => ∃ j : Nat, j ≤ N ∧ s8 = .int .i64 (j : Int) ∧ s3 = .int .i64 ((x.take j).sum) ∧ w' = w) (fun _ s8 _ => ((N : Int) - intOf s8).toNat)
  case atStart => exact ⟨0, by omega, rfl, by simp, rfl⟩
  case round =>
    obtain ⟨j, hj, rfl, rfl, rfl⟩ := hrel
    by_cases hjn : j < N
    · have hjz : (j : Int) < (N : Int) := by omega
      have hjx : j < x.length := by rw [HN.out]; exact hjn
      obtain ⟨g, off, ha, hg, hc⟩ := HR.out.spot (by omega)
      obtain rfl := ha
      have hcell := hc j hjx
      have hs := sum_bound x HX.out j (by omega)
      have hv := HX.out j hjx
      have HT : Hid ((x.take (j + 1)).sum = (x.take j).sum + x[j]) := sum_take x j hjx
      generalize (x.take j).sum = S at *
      generalize x[j] = y at *
      have hb : 15 * (j : Int) ≤ 15000 := by omega
      clear hc
      go_wp2
      go_roundw
      case rel => exact ⟨j + 1, by omega, by push_cast; rfl, by rw [HT.out], trivial⟩
      case measure => simp [intOf]; omega
    · obtain rfl : j = N := by omega
      rw [List.take_of_length_le (by rw [HN.out]; omega)]
      have hs := sum_bound x HX.out x.length (Nat.le_refl _)
      rw [List.take_length] at hs
      generalize x.sum = S at *
      generalize errC x = er at *
      by_cases h1 : S ≤ 1
      · have e : B = true := by rw [← HB.out, decide_eq_true h1, Bool.true_or]
        subst e
        clear HB
        go_wp2
        go_ret
        exact ⟨rfl, Keeps.refl _ _⟩
      · have e : B = decide (er = 0) := by rw [← HB.out, decide_eq_false h1, Bool.false_or]
        subst e
        clear HB
        have hd : decide (S ≤ 1) = false := decide_eq_false h1
        go_wp2_with fail
        refine HC.out.mono ?_
        rintro e w2 ⟨rfl, hK⟩
        have HK : Hid (Keeps (fun _ => False) wr w2) := hK
        clear hK HC
        go_wp2
        go_ret
        exact ⟨by congr 2, HK.out⟩

end Go.Proofs.Ytebjooebdehlnaa

namespace Go.Proofs.Ytebjooebdehlnaa
open Go.RowKit
open Hf Tb
set_option linter.unusedVariables false
set_option linter.unusedSimpArgs false

/-! ### The row of the lengths' lengths -/
theorem rowL_pos : ∀ i : Fin 19, ∀ j : Fin 19, (rowL.getD i.val 0 = j.val ↔ posR j.val = i.val) := by decide +kernel
theorem rowL_lt : ∀ i : Fin 19, rowL.getD i.val 0 < 19 := by decide +kernel
theorem clOf_length (t : List Int) : (clOf t).length = 19 := by simp [clOf]
theorem clOf_get (t : List Int) (j : Nat) (h : j < 19) : (clOf t)[j]? = some (t.getD (posR j) 0) := by
  simp [clOf, List.getElem?_map, List.getElem?_range h]
theorem clOf_set (acc : List Int) (x : Int) (h : acc.length < 19) : (clOf acc).set (rowL.getD acc.length 0) x = clOf (acc ++ [x]) := by
  apply List.ext_getElem?
  intro j
  have hr := rowL_lt ⟨acc.length, h⟩
  simp only at hr
  by_cases hj : j < 19
  · have hp := rowL_pos ⟨acc.length, h⟩ ⟨j, hj⟩
    simp only at hp
    rw [clOf_get _ j hj, List.getElem?_set]
    by_cases e : rowL.getD acc.length 0 = j
    · rw [if_pos e, clOf_length, if_pos hr, hp.1 e]
      simp [List.getD]
    · rw [if_neg e, clOf_get _ j hj]
      have hne : posR j ≠ acc.length := fun k => e (hp.2 k)
      congr 1
      simp only [List.getD, List.getElem?_append]
      by_cases hlt : posR j < acc.length
      · rw [if_pos hlt]
      · rw [if_neg hlt, List.getElem?_eq_none (by omega), List.getElem?_eq_none (by simp; omega)]
  · rw [List.getElem?_eq_none (by rw [List.length_set, clOf_length]; omega), List.getElem?_eq_none (by rw [clOf_length]; omega)]
theorem clOf_nil : clOf [] = List.replicate 19 0 := by decide
theorem Blk.set {w : World} {g : Nat} {xs : List Int} (h : Blk w g xs) (i : Nat) (y : Int) : Blk (w.setCell ⟨g, i, none⟩ (.int .i64 y)) g (xs.set i y) := by
  unfold Blk
  rw [heap_setCell_same h]
  congr 2
  simp [intsV, List.map_set]

/-- The codes of the lengths. -/
def lfP : Bts → Option (List Int × Bts) := bnd (aboveL 4 4) fun c => bnd (threes c []) fun t => if errC (clOf t) = 0 then retL (clOf t) else noL
def lfT (R : Option (List Int × Bts)) : Option (List Int × Bts) := match R with
  | none => none
  | some (t, L2) => if errC (clOf t) = 0 then some (clOf t, L2) else none
theorem lfP_of {L L1 : Bts} {c : Nat} (h1 : aboveL 4 4 L = some (c, L1)) : lfP L = lfT (threes c [] L1) := by
  unfold lfP
  rw [bnd_eq h1]
  rcases h2 : threes c [] L1 with _ | ⟨t, L2⟩
  · rw [bnd_none h2]; rfl
  · rw [bnd_eq h2]; unfold lfT; simp only
    split <;> rfl
theorem lfP_dyn (a b : Nat) (L : Bts) : bnd (aboveL 4 4) (fun c => bnd (threes c []) fun t => dynC a b t) L = bnd lfP (fun ys => bnd (runs ys (a + b) []) fun all => dynP a all) L := by
  rcases h1 : aboveL 4 4 L with _ | ⟨c, L1⟩
  · have e : lfP L = none := by unfold lfP; exact bnd_none h1
    rw [bnd_none h1, bnd_none e]
  · have e := lfP_of h1
    rw [bnd_eq h1]
    rcases h2 : threes c [] L1 with _ | ⟨t, L2⟩
    · rw [h2] at e
      rw [bnd_none h2, bnd_none e]
    · rw [h2] at e
      rw [bnd_eq h2]
      unfold dynC
      unfold lfT at e
      by_cases he : errC (clOf t) = 0
      · simp only [if_pos he] at e
        rw [if_pos he, bnd_eq e]
      · simp only [if_neg he] at e
        rw [if_neg he, bnd_none e]; rfl
theorem threes_le : ∀ (n : Nat) (acc : List Int) (L : Bts) (t : List Int) (L' : Bts), threes n acc L = some (t, L') → t.length = n + acc.length := fun n acc L t L' h => (threes_len n acc L t L' h).2

def FinPost (R : Option (List Int × Bts)) (w : World) (b r : Nat) (v : Value) (s : ByteArray) (most : Nat) (xs : List Nat) (e : Ending) (w' : World) : Prop :=
  (R = none → e = .returned (.tuple #[.pointer none, .int .i64 700]) ∧ Keeps (Own3 b r v) w w') ∧
  ∀ ys L', R = some (ys, L') → ∃ f, e = .returned (.tuple #[.pointer (some ⟨f, 0, none⟩), .int .i64 0]) ∧ Fnd w' w.heap.size w'.heap.size f ys ∧ St w' b r v s most L' xs ∧ Rdv w w' b r v
theorem FinPost.noneI {w : World} {b r : Nat} {v : Value} {s : ByteArray} {most : Nat} {xs : List Nat} {w' : World} (h : Keeps (Own3 b r v) w w') : FinPost none w b r v s most xs (.returned (.tuple #[.pointer none, .int .i64 700])) w' :=
  ⟨fun _ => ⟨rfl, h⟩, fun _ _ e => by cases e⟩

set_option maxHeartbeats 4000000 in
set_option maxRecDepth 100000 in
theorem lengthFinder_ok {w : World} {b r : Nat} {v : Value} {s : ByteArray} {most : Nat} {L : Bts} {xs : List Nat} (h : St w b r v s most L xs) :
    Calls Try.prog 62 #[.pointer (some ⟨b, 0, none⟩)] w (FinPost (lfP L) w b r v s most xs) := by
  obtain ⟨R, hR⟩ : ∃ R, lfP L = R := ⟨_, rfl⟩
  rw [hR]
  have HS0 : Hid (St w b r v s most L xs) := h
  rcases h1 : aboveL 4 4 L with _ | ⟨c, L1⟩
  · have e : R = none := by rw [← hR]; unfold lfP; exact bnd_none h1
    subst e
    have HC : Hid (Calls Try.prog 61 #[.pointer (some ⟨b, 0, none⟩), .int .i64 4, .int .i64 4] w fun e w' => e = .returned (.tuple #[.int .i64 0, .int .i64 700]) ∧ Keeps (Own3 b r v) w w') := above_none h 4 4 (by omega) h1
    clear h h1 hR
    go_enter Try.func62, Try.ntmps62
    go_wp2_with fail
    refine HC.out.mono ?_
    rintro e w2 ⟨rfl, hk⟩
    have HK : Hid (Keeps (Own3 b r v) w w2) := hk
    clear hk HC
    go_wp2
    go_ret2
    exact FinPost.noneI HK.out
  · have HC : Hid (Calls Try.prog 61 #[.pointer (some ⟨b, 0, none⟩), .int .i64 4, .int .i64 4] w fun e w' => e = .returned (.tuple #[.int .i64 (c : Int), .int .i64 0]) ∧ St w' b r v s most L1 xs ∧ Rdv w w' b r v) := above_some h 4 4 c L1 (by omega) (by omega) h1
    have hc : c ≤ 19 := by
      obtain ⟨q, hq, rfl⟩ := aboveL_some h1
      have h2 := getL_lt hq
      omega
    obtain ⟨R3, hR3⟩ : ∃ R3, threes c [] L1 = R3 := ⟨_, rfl⟩
    have HR : Hid (R = lfT R3) := by show R = _; rw [← hR, ← hR3]; exact lfP_of h1
    have HR3 : Hid (threes c [] L1 = R3) := hR3
    clear h h1 hR hR3
    go_enter Try.func62, Try.ntmps62
    go_wp2_with fail
    refine HC.out.mono ?_
    rintro e w2 ⟨rfl, hS2, hA2⟩
    have H2 : Hid (St w2 b r v s most L1 xs ∧ Rdv w w2 b r v) := ⟨hS2, hA2⟩
    clear hS2 hA2 HC
    have HCr : Hid (∀ w, Calls Try.prog 72 #[] w fun e w' => e = .returned (.agg (intsV rowZ).toArray) ∧ Keeps (fun _ => False) w w') := row_ok
    go_wp2_with fail
    refine (HCr.out w2).mono ?_
    rintro e w2a ⟨rfl, hKa⟩
    go_wp2_with (first
      | (refine wpList_alloc19 rfl rfl ?_; intro q w2b hAb hKb hqb)
      | (refine wpList_store19 rfl _ _ rfl q rowZ rfl rfl rfl (List.replicate 19 0) (by decide) ?hA ?_; (case hA => assumption); intro w2c hAc hKc)
      | (refine wpList_zeros rfl _ _ rfl 19 rfl rfl (by omega) ?_; intro g w3 hB3 hK3 hg3))
    have HQ : Hid (w.heap.size ≤ q ∧ q ≠ g) := ⟨by have := H2.out.2.only.size; have := hKa.size; omega, by have := hAc.lt; omega⟩
    have H3 : Hid (∃ acc L4, acc.length = 0 ∧ threes (c - 0) acc L4 = R3 ∧ St w3 b r v s most L4 xs ∧ Rdv w w3 b r v ∧ Blk w3 g (clOf acc) ∧ w.heap.size ≤ g ∧ Ary 126 w3 q rowZ) := by
      have k2c : Keeps (fun _ => False) w2 w2c := (hKa.trans hKb (fun _ _ h => h)).trans hKc (fun i hi e => by have := hKa.size; omega)
      have k23 : Keeps (fun _ => False) w2 w3 := k2c.trans hK3 (fun _ _ h => h)
      refine ⟨[], L1, rfl, HR3.out, H2.out.1.keptF k23, H2.out.2.trans (Rdv.ofF b r v k23), by rw [clOf_nil]; exact hB3, by have := H2.out.2.only.size; have := k2c.size; omega, hAc.keptF hK3⟩
    clear hB3 hK3 hg3 H2 HR3 hKa hAb hKb hqb hAc hKc HCr
    go_loopw [20] (fun s18 w' => ∃ i : Nat, i ≤ c ∧ s18 = .int .i64 (i : Int) ∧ Hid (∃ acc L4, acc.length = i ∧ threes (c - i) acc L4 = R3 ∧ St w' b r v s most L4 xs ∧ Rdv w w' b r v ∧ Blk w' g (clOf acc) ∧ w.heap.size ≤ g ∧ Ary 126 w' q rowZ)) (fun s18 _ => ((c : Int) - intOf s18).toNat)
    case atStart => exact ⟨0, by omega, rfl, H3⟩
    case round =>
      clear H3
      obtain ⟨i, hi, rfl, HW⟩ := hrel
      by_cases hic : i < c
      · have hiz : (i : Int) < (c : Int) := by omega
        have hi19 : (i : Int) < 19 := by omega
        obtain ⟨acc, L4, hlen, hE, hS, hA, hB, hg, hQ⟩ := HW.out
        clear HW
        obtain ⟨j, hj⟩ : ∃ j, rowL.getD i 0 = j := ⟨_, rfl⟩
        have hj19 : j < 19 := by rw [← hj]; exact rowL_lt ⟨i, by omega⟩
        have hjz : (j : Int) < 19 := by omega
        have hE2 : bnd (getL 3) (fun x => threes (c - (i + 1)) (acc ++ [(x : Int)])) L4 = R3 := by
          rw [show c - i = (c - (i + 1)) + 1 by omega] at hE; exact hE
        have hS1 : St wr.drew b r v s most L4 xs := ⟨hS.blk, hS.rd, hS.own, hS.rb, hS.sz, hS.lim, hS.most, hS.byt⟩
        have hrow : wr.cell? ⟨q, i, none⟩ = some (.int .i64 (j : Int)) := by
          have h19 : i < rowZ.length := by show i < 19; omega
          have e := rowZ_get ⟨i, h19⟩
          simp only at e
          rw [List.getElem?_eq_getElem h19] at e
          rw [hQ.cell i h19, Option.some.inj e, hj]
        have hql : q < wr.heap.size := hQ.lt
        have hgr : g ≠ r := by have := HS0.out.rb; have := HS0.out.lt; omega
        have hr0 : q ≠ r := by have := HS0.out.rb; have := HS0.out.lt; have := HQ.out; omega
        have hqn : ¬ Own3 b r v q := fun e => by have := HS0.out.above3 q e; have := HQ.out; omega
        rcases h4 : getL 3 L4 with _ | ⟨x, L5⟩
        · have e : R3 = none := by rw [← hE2, bnd_none h4]
          have e2 : R = none := by rw [HR.out, e]; rfl
          subst e2
          have HC : Hid (Calls Try.prog 31 #[.pointer (some ⟨b, 0, none⟩), .int .i64 3] wr.drew fun e w' => e = .returned (.tuple #[.int .i64 0, .int .i64 700]) ∧ w'.cell? ⟨q, i, none⟩ = some (.int .i64 (j : Int)) ∧ (∃ u, w'.cell? ⟨g, j, none⟩ = some u) ∧ w'.frozen? ⟨g, j, none⟩ = false ∧ Keeps (Own3 b r v) w w') := by
            refine (number_none hS1 3 (by omega) h4).mono ?_
            rintro e w' ⟨rfl, hk⟩
            have hgl : g < wr.drew.heap.size := hB.lt
            have hn : ¬ Own3 b r v g := fun e => by have := HS0.out.above3 g e; omega
            refine ⟨rfl, ?_, ?_, ?_, (⟨hA.only.drew⟩ : Rdv w wr.drew b r v).lost hk⟩
            · rw [World.cell?_of_block (hk.block q hql hqn)]; exact hrow
            · rw [World.cell?_of_block (hk.block g hgl hn)]; exact ⟨_, hB.cell j (by rw [clOf_length]; exact hj19)⟩
            · rw [World.frozen?_of_block (hk.block g hgl hn)]; exact hB.free j
          clear hE hE2 hS hA hB hS1 hlen h4 e HR hQ
          go_wp2
          go_region_with (go_at_call 31; refine HC.out.mono ?_; rintro e w5 ⟨rfl, d1, ⟨u, d2⟩, d3, hk5⟩; have H5 : Hid (Keeps (Own3 b r v) w w5) := hk5; clear hk5)
          all_goals
            go_wp2
            go_ret2
            exact FinPost.noneI (H5.out.setCell (p := ⟨g, j, none⟩) (fun hh => by simp only at hh; omega) _)
        · have HC : Hid (Calls Try.prog 31 #[.pointer (some ⟨b, 0, none⟩), .int .i64 3] wr.drew fun e w' => e = .returned (.tuple #[.int .i64 (x : Int), .int .i64 0]) ∧ w'.cell? ⟨q, i, none⟩ = some (.int .i64 (j : Int)) ∧ (∃ u, w'.cell? ⟨g, j, none⟩ = some u) ∧ w'.frozen? ⟨g, j, none⟩ = false ∧ ∃ acc L4, acc.length = i + 1 ∧ threes (c - (i + 1)) acc L4 = R3 ∧ St (w'.setCell ⟨g, j, none⟩ (.int .i64 (x : Int))) b r v s most L4 xs ∧ Rdv w (w'.setCell ⟨g, j, none⟩ (.int .i64 (x : Int))) b r v ∧ Blk (w'.setCell ⟨g, j, none⟩ (.int .i64 (x : Int))) g (clOf acc) ∧ w.heap.size ≤ g ∧ Ary 126 (w'.setCell ⟨g, j, none⟩ (.int .i64 (x : Int))) q rowZ) := by
            refine (number_some hS1 3 x L5 (by omega) h4).mono ?_
            rintro e w' ⟨rfl, hS6, hk⟩
            have hgl : g < wr.drew.heap.size := hB.lt
            have hB6 : Blk w' g (clOf acc) := hB.kept (S := fun k => k = r) (⟨hk.only.os, hk.only.tape, hk.only.output, hk.only.size, hk.only.block⟩ : Keeps (fun k => k = r) wr w') hgr
            have hk7 : Keeps (fun k => k = g) w' (w'.setCell ⟨g, j, none⟩ (.int .i64 (x : Int))) := (Keeps.refl (fun k => k = g) w').setCell (p := ⟨g, j, none⟩) (fun _ => rfl) _
            have hR7 : Rdv w (w'.setCell ⟨g, j, none⟩ (.int .i64 (x : Int))) b r v := ⟨((hA.only.drew).trans hk.only (fun _ _ e => e)).trans hk7 (fun k hh e => by omega)⟩
            obtain ⟨p, p1, p2, p3⟩ := hS6.rd
            have hS7 := (HS0.out.read (p := p) ⟨p1.kept hk7 (fun e => hgr e.symm), hR7.only⟩ p2).1
            rw [← p3] at hS7
            refine ⟨rfl, ?_, ?_, ?_, acc ++ [(x : Int)], L5, by simp [hlen], by rw [← hE2, bnd_eq h4], hS7, hR7, ?_, hg, (hQ.kept (S := fun k => k = r) (⟨hk.only.os, hk.only.tape, hk.only.output, hk.only.size, hk.only.block⟩ : Keeps (fun k => k = r) wr w') hr0).kept hk7 HQ.out.2⟩
            · rw [World.cell?_of_block (hk.only.block q hql hr0)]; exact hrow
            · exact ⟨_, hB6.cell j (by rw [clOf_length]; exact hj19)⟩
            · exact hB6.free j
            · rw [← clOf_set acc (x : Int) (by omega), hlen, hj]
              exact Blk.set hB6 j (x : Int)
          clear hE hE2 hS hA hB hS1 hlen h4 hQ
          go_wp2
          go_region_with (go_at_call 31; refine HC.out.mono ?_; rintro e w5 ⟨rfl, d1, ⟨u, d2⟩, d3, hk5⟩; have H5 : Hid (∃ acc L4, acc.length = i + 1 ∧ threes (c - (i + 1)) acc L4 = R3 ∧ St (w5.setCell ⟨g, j, none⟩ (.int .i64 (x : Int))) b r v s most L4 xs ∧ Rdv w (w5.setCell ⟨g, j, none⟩ (.int .i64 (x : Int))) b r v ∧ Blk (w5.setCell ⟨g, j, none⟩ (.int .i64 (x : Int))) g (clOf acc) ∧ w.heap.size ≤ g ∧ Ary 126 (w5.setCell ⟨g, j, none⟩ (.int .i64 (x : Int))) q rowZ) := hk5; clear hk5)
          all_goals
            clear HC hrow d1 d2 d3
            go_wp2
            go_roundw
            case rel => exact ⟨i + 1, by omega, by push_cast; rfl, H5⟩
            case measure => simp [intOf]; omega
      · obtain rfl : i = c := by omega
        obtain ⟨acc, L4, hlen, hE, hS, hA, hB, hg, hQ⟩ := HW.out
        rw [Nat.sub_self] at hE
        have e3 : R3 = some (acc, L4) := hE.symm
        have HR2 : Hid (R = if errC (clOf acc) = 0 then some (clOf acc, L4) else none) := by rw [HR.out, e3]; exact rfl
        have hrow : Row wr (some ⟨g, 0, none⟩) (clOf acc) := .inr ⟨g, 0, rfl, hB.lt, fun q hq => by rw [Nat.zero_add]; exact hB.cell q hq⟩
        have HC1 : Hid (Calls Try.prog 73 #[.slice (some ⟨g, 0, none⟩) 19 19] wr fun e w' => e = .returned (.int .i64 (errC (clOf acc))) ∧ Keeps (fun _ => False) wr w') := by
          have := check_ok (some ⟨g, 0, none⟩) (clOf acc) 19 wr hrow (by rw [clOf_length]; omega)
          rw [clOf_length] at this; exact this
        have HC2 : Hid (fits (clOf acc) = true → ∀ w', Keeps (fun _ => False) wr w' → Calls Try.prog 58 #[.slice (some ⟨g, 0, none⟩) 19 19] w' fun e w'' => ∃ f, e = .returned (.pointer (some ⟨f, 0, none⟩)) ∧ Keeps (fun _ => False) w' w'' ∧ Fnd w'' w'.heap.size w''.heap.size f (clOf acc)) := fun hf w' hk => by
          have := finderOf_ok (some ⟨g, 0, none⟩) (clOf acc) 19 w' (hrow.keptF hk) hf
          rw [clOf_length] at this; exact this
        have HF : Hid (errC (clOf acc) = 0 → fits (clOf acc) = true) := fun e => by
          have := errC_zero e
          unfold fits; rw [this.1, this.2]; rfl
        have HS : Hid (St wr b r v s most L4 xs ∧ Rdv w wr b r v) := ⟨hS, hA⟩
        clear HW hlen hE hS hA hB hg e3 HR hrow hQ HQ
        obtain ⟨er, her⟩ : ∃ er, errC (clOf acc) = er := ⟨_, rfl⟩
        rw [her] at HR2 HC1 HF
        generalize clOf acc = ys at *
        clear her
        go_wp2_with fail
        refine HC1.out.mono ?_
        rintro e w4 ⟨rfl, hK4⟩
        have HK4 : Hid (Keeps (fun _ => False) wr w4) := hK4
        clear hK4 HC1
        by_cases h0 : er = 0
        · subst h0
          have e : R = some (ys, L4) := by rw [HR2.out, if_pos rfl]
          subst e
          go_wp2_with fail
          refine (HC2.out (HF.out (by first | rfl | trivial)) w4 HK4.out).mono ?_
          rintro e w5 ⟨f, rfl, hK5, hF5⟩
          have HP : Hid (FinPost (some (ys, L4)) w b r v s most xs (.returned (.tuple #[.pointer (some ⟨f, 0, none⟩), .int .i64 0])) w5) := by
            have k45 : Keeps (fun _ => False) wr w5 := HK4.out.trans hK5 (fun _ _ h => h)
            refine ⟨fun e => by (cases e), fun _ _ e => by
              cases e
              exact ⟨f, rfl, hF5.wider (by have := HS.out.2.only.size; have := HK4.out.size; omega) (Nat.le_refl _) (Nat.le_refl _), HS.out.1.keptF k45, HS.out.2.trans (Rdv.ofF b r v k45)⟩⟩
          clear hK5 hF5 HC2
          go_wp2
          go_ret2
          exact HP.out
        · have e : R = none := by rw [HR2.out, if_neg h0]
          subst e
          have hnb : (er == 0) = false := by simp; exact h0
          have HK : Hid (Keeps (Own3 b r v) w w4) := HS.out.2.lost (HK4.out.mono (fun _ _ h => h.elim))
          clear HC2
          go_wp2
          go_ret2
          exact FinPost.noneI HK.out

end Go.Proofs.Ytebjooebdehlnaa

namespace Go.Proofs.Ytebjooebdehlnaa.Bk
open Go.RowKit
open Hf Tb
set_option linter.unusedVariables false
set_option linter.unusedSimpArgs false

def fiveN (i : Nat) : List Int := List.replicate i 5 ++ List.replicate (30 - i) 0
theorem fiveN_set : ∀ i : Fin 30, (fiveN i.val).set i.val 5 = fiveN (i.val + 1) := by decide +kernel
theorem fiveN_length (i : Nat) (h : i ≤ 30) : (fiveN i).length = 30 := by unfold fiveN; simp; omega

def rowI : List Int := rowL.map (fun (n : Nat) => (n : Int))
set_option maxHeartbeats 1000000 in
set_option maxRecDepth 100000 in
theorem rorder_ok (w : World) : Calls Try.prog 15 #[] w fun e w' => ∃ g, e = .returned (.slice (some ⟨g, 0, none⟩) 19 19) ∧ Blk w' g rowI ∧ Keeps (fun _ => False) w w' ∧ w.heap.size ≤ g := by
  go_enter Try.func15, Try.ntmps15
  go_wp2
  go_ret
  exact ⟨w.heap.size, rfl, Blk.lit w rowI, (Keeps.refl _ w).alloc _, Nat.le_refl _⟩


end Go.Proofs.Ytebjooebdehlnaa.Bk

namespace Go.Proofs.Ytebjooebdehlnaa.Bk
open Go.RowKit
open Hf Tb
set_option linter.unusedVariables false
set_option linter.unusedSimpArgs false

theorem threeB_snoc (xs : List Int) (x : Int) : threeB (xs ++ [x]) = threeB xs ++ bitsOf x.toNat 3 := by simp [threeB]
theorem threeB_len (xs : List Int) : (threeB xs).length = 3 * xs.length := by
  induction xs with
  | nil => rfl
  | cons x r ih =>
    have : threeB (x :: r) = bitsOf x.toNat 3 ++ threeB r := by simp [threeB]
    rw [this, List.length_append, ih, bitsOf_length, List.length_cons]; omega
theorem codesB_snoc (cl xs : List Int) (x : Int) : codesB cl (xs ++ [x]) = codesB cl xs ++ codeB cl x.toNat := by simp [codesB]
theorem codeB_le {cl : List Int} (hm : may cl = true) (i : Nat) : (codeB cl i).length ≤ 15 := by
  rw [codeB_length]
  by_cases hi : i < cl.length
  · have := may_at hm i hi; rw [at_eq i hi]; omega
  · unfold at_; rw [List.getD, List.getElem?_eq_none (by omega)]; simp
theorem codesB_len {cl : List Int} (hm : may cl = true) (xs : List Int) : (codesB cl xs).length ≤ 15 * xs.length := by
  induction xs with
  | nil => simp [codesB]
  | cons x r ih =>
    have : codesB cl (x :: r) = codeB cl x.toNat ++ codesB cl r := by simp [codesB]
    have := codeB_le hm x.toNat
    rw [‹codesB cl (x :: r) = _›, List.length_append, List.length_cons]; omega

end Go.Proofs.Ytebjooebdehlnaa.Bk

namespace Go.Proofs.Ytebjooebdehlnaa.Bk
open Go.RowKit
open Hf Tb
open Mt (Tk RowT mayF sumZ expF)
set_option linter.unusedVariables false
set_option linter.unusedSimpArgs false

theorem exp_size {ts : List Tk} (h : mayF 0 ts = true) : (textOf (expF [] ts)).size = (sumZ ts).toNat := by
  have := Mt.exp_len ts [] (by simpa using h)
  rw [textOf_size]; simp at this; omega

def StrPost (t : ByteArray) (er : Int) (w : World) (e : Ending) (w' : World) : Prop := e = .returned (.tuple #[.string t, .int .i64 er]) ∧ Keeps (fun _ => False) w w'
theorem own_first {w : World} {base : Nat} {v : Value} {xs : List Int} (h : Own w base v xs) (hn : 0 < xs.length) : ∃ g cap, v = .slice (some ⟨g, 0, none⟩) xs.length cap ∧ Pfx w g xs ∧ base ≤ g := by
  obtain ⟨g, cap, rfl, hb, _⟩ := World.ownsRow.form h hn
  refine ⟨g, cap, rfl, ⟨(World.ownsRow.lt h g rfl).2, fun j hj => (owns_cell h j _ ?_).1⟩, (World.ownsRow.lt h g rfl).1⟩
  rw [intsV, List.getElem?_map, List.getElem?_eq_getElem hj]; rfl
theorem Blk.pfx {w : World} {g : Nat} {xs : List Int} (h : Blk w g xs) : Pfx w g xs := ⟨h.lt, fun j hj => h.cell j hj⟩

end Go.Proofs.Ytebjooebdehlnaa.Bk

namespace Go.Proofs.Ytebjooebdehlnaa.Bk
open Go.RowKit
open Hf Tb
open Mt (Tk RowT mayF okT sumZ expF)
set_option linter.unusedVariables false
set_option linter.unusedSimpArgs false

set_option maxHeartbeats 2000000 in
set_option maxRecDepth 100000 in
theorem rupTo_ok (g n cap least : Nat) (ys : List Int) (w : World) (hP : Pfx w g ys) (hn : ys.length = n) (hy : ∀ y ∈ ys, 0 ≤ y) (hl : least ≤ n) (hl1 : 1 ≤ least) (hn2 : n ≤ 1000) :
    Calls Try.prog 14 #[.slice (some ⟨g, 0, none⟩) n cap, .int .i64 (least : Int)] w fun e w' => e = .returned (.int .i64 (upL ys least : Int)) ∧ Keeps (fun _ => False) w w' := by
  have HP : Hid (Pfx w g ys ∧ ys.length = n ∧ ∀ y ∈ ys, 0 ≤ y) := ⟨hP, hn, hy⟩
  have HE : Hid (upN ys least n = upL ys least) := by show upN ys least n = upL ys least; rw [← hn]; rfl
  clear hP hn hy
  obtain ⟨U, hU⟩ : ∃ U, upL ys least = U := ⟨_, rfl⟩
  rw [hU] at HE ⊢
  clear hU
  go_enter Try.func14, Try.ntmps14
  go_wp2
  go_loopw [5] (fun s5 w' => ∃ m : Nat, least ≤ m ∧ m ≤ n ∧ s5 = .int .i64 (m : Int) ∧ Hid (upN ys least m = U ∧ Keeps (fun _ => False) w w')) (fun s5 w' => (intOf s5).toNat)
  case atStart => exact ⟨n, hl, Nat.le_refl _, rfl, HE.out, Keeps.refl _ w⟩
  case round =>
    obtain ⟨m, hm1, hm2, rfl, HW⟩ := hrel
    by_cases hml : m = least
    · subst hml
      have e : m = U := by rw [← HW.out.1]; exact (upN_stay ys m m (Nat.le_refl _)).symm
      subst e
      have hz : ¬ ((m : Int) < (m : Int)) := by omega
      go_wp2
      go_ret
      exact ⟨rfl, HW.out.2⟩
    · obtain ⟨k, rfl⟩ : ∃ k, m = k + 1 := ⟨m - 1, by omega⟩
      have hk1 : (least : Int) < ((k + 1 : Nat) : Int) := by omega
      have hw1 : wrap64 (((k + 1 : Nat) : Int) - 1) = (k : Int) := by rw [wrap64_small _ (by omega) (by omega)]; omega
      have hw2 : IntKind.i64.wrap (((k + 1 : Nat) : Int) - 1) = (k : Int) := by rw [wrap_i64_small _ (by omega) (by omega)]; omega
      have hkn : (k : Int) < (n : Int) := by omega
      have hkl : k < ys.length := by rw [HP.out.2.1]; omega
      have hc : wr.cell? ⟨g, k, none⟩ = some (.int .i64 (at_ ys k)) := by rw [(HP.out.1.keptF HW.out.2).2 k hkl, at_eq k hkl]
      have hx0 : 0 ≤ at_ ys k := by rw [at_eq k hkl]; exact HP.out.2.2 _ (List.getElem_mem hkl)
      have HU : Hid (upN ys least (k + 1) = if at_ ys k = 0 then upN ys least k else k + 1) := by
        show upN ys least (k + 1) = _
        rw [upN]
        by_cases e : at_ ys k = 0
        · rw [if_pos ⟨by omega, e⟩, if_pos e]
        · rw [if_neg (fun h => e h.2), if_neg e]
      generalize at_ ys k = x at *
      clear hkl
      by_cases hx : x = 0
      · subst hx
        have HW2 : Hid (upN ys least k = U ∧ Keeps (fun _ => False) w wr) := ⟨by rw [← HW.out.1, HU.out, if_pos rfl], HW.out.2⟩
        clear HW HU
        go_wp2
        go_roundw
        case rel => exact ⟨k, by omega, by omega, rfl, HW2⟩
        case measure => simp [intOf]
      · have e : k + 1 = U := by rw [← HW.out.1, HU.out, if_neg hx]
        subst e
        have hxp : 0 < x := by omega
        clear HU
        go_wp2
        go_ret
        exact ⟨rfl, HW.out.2⟩

set_option maxHeartbeats 1000000 in
set_option maxRecDepth 100000 in
theorem rfew_ok (a : Option Addr) (ts : List Tk) (cap : Nat) (w : World) (hR : RowT w a ts) (hl : ts.length ≤ 9223372036854775806) :
    Calls Try.prog 10 #[.slice a ts.length cap] w fun e w' => e = .returned (.bool (mayT ts)) ∧ Keeps (fun _ => False) w w' := by
  cases hm : mayF 0 ts with
  | false =>
    have e : mayT ts = false := by unfold mayT; rw [hm]; rfl
    have HC := hide (Mt.rexpand_bad a ts cap w hR hl hm)
    rw [e]
    clear hR hl hm e
    generalize ts.length = N at *
    go_enter Try.func10, Try.ntmps10
    go_wp2_with fail
    refine HC.out.mono ?_
    rintro e w1 ⟨rfl, hK1⟩
    have H1 := hide hK1
    clear hK1 HC
    go_wp2
    go_ret
    exact ⟨rfl, H1.out⟩
  | true =>
    have HC := hide (Mt.rexpand_ok a ts cap w hR hl hm)
    have hz := exp_size hm
    have h0 := sumZ_len ts
    have h8 := Mt.may_sum ts 0 (by omega) hm
    obtain ⟨T, hT⟩ : ∃ T, textOf (expF [] ts) = T := ⟨_, rfl⟩
    rw [hT] at HC hz
    have e : mayT ts = decide ((T.size : Int) ≤ 300) := by
      unfold mayT; rw [hm, Bool.true_and, hz]
      apply decide_eq_decide.2; omega
    have hs : T.size ≤ 10000 := by omega
    rw [e]
    clear hR hl hm e hz h0 h8 hT
    generalize ts.length = N at *
    go_enter Try.func10, Try.ntmps10
    go_wp2_with fail
    refine HC.out.mono ?_
    rintro e w1 ⟨rfl, hK1⟩
    have H1 := hide hK1
    clear hK1 HC
    go_wp2
    go_ret
    refine ⟨?_, H1.out⟩
    first | rfl | (simp)

/-! ### Stored -/
theorem bytesOf_lt8 (s : ByteArray) : ∀ c ∈ bytesOf s, c < 256 := by
  intro c hc
  simp only [bytesOf, List.mem_map] at hc
  obtain ⟨u, _, rfl⟩ := hc
  exact UInt8.toNat_lt _
theorem textOf_bytes8 (s : ByteArray) : textOf (bytesOf s) = s := by
  unfold textOf bytesOf
  rw [List.map_map]
  have : (UInt8.ofNat ∘ UInt8.toNat) = id := by funext u; simp
  rw [this, List.map_id]
theorem bits13 : Bt.alignOf (bitsOf 1 3) = bitsOf 1 8 := by decide
theorem bits33 : bitsOf 3 3 = bitsOf 1 1 ++ bitsOf 1 2 := by decide
theorem bits53 : bitsOf 5 3 = bitsOf 1 1 ++ bitsOf 2 2 := by decide
theorem bytes_ext {a b : List Nat} (ha : ∀ y ∈ a, y < 256) (hb : ∀ y ∈ b, y < 256) (h : bitsL a = bitsL b) (hl : a.length = b.length) : a = b := by
  have key : ∀ (a b : List Nat), (∀ y ∈ a, y < 256) → (∀ y ∈ b, y < 256) → a.length = b.length → bitsL a = bitsL b → a = b := by
    intro a
    induction a with
    | nil => intro b _ _ hl _; exact (List.length_eq_zero_iff.1 hl.symm).symm
    | cons x r ih =>
      intro b ha hb hl h
      cases b with
      | nil => simp at hl
      | cons y t =>
        rw [bitsL_cons, bitsL_cons] at h
        obtain ⟨h1, h2⟩ := List.append_inj h (by rw [bitsOf_length, bitsOf_length])
        have e1 : x = y := by
          have := congrArg val h1
          rw [val_bitsOf x 8 (ha x (by simp)), val_bitsOf y 8 (hb y (by simp))] at this; exact this
        rw [e1, ih t (fun z hz => ha z (by simp [hz])) (fun z hz => hb z (by simp [hz])) (by simpa using hl) h2]
  exact key a b ha hb hl h
theorem pack_head (A : Bts) (n : Nat) (s : List Nat) (hA : A.length = 8 * n) (hs : ∀ y ∈ s, y < 256) : pack (A ++ bitsL s) = pack A ++ s := by
  refine bytes_ext (pack_lt _) (fun y hy => ?_) ?_ ?_
  · rw [List.mem_append] at hy
    rcases hy with hy | hy
    · exact pack_lt A y hy
    · exact hs y hy
  · rw [bitsL_append, bitsL_pack8 A n hA, bitsL_pack8 (A ++ bitsL s) (n + s.length) (by rw [List.length_append, hA, bitsL_len]; omega)]
  · rw [pack_length, List.length_append, List.length_append, pack_length, bitsL_len, hA]; omega
theorem text_append (a : List Nat) (s : ByteArray) : textOf (a ++ bytesOf s) = textOf a ++ s := by
  have e := textOf_bytes8 s
  apply ByteArray.ext
  rw [ByteArray.data_append]
  conv => rhs; rw [← e]
  simp [textOf]

theorem WS.begin (w w1 : World) (h : w1.heap[w.heap.size]? = some (.cells #[.slice none 0 0, .int .i64 0] 49 (0, 0))) (hk : Keeps (fun _ => False) w w1) : WS w1 w1 w.heap.size none none [] :=
  ⟨⟨none, 0, h, World.ownsRow_nil _ _ 5 1, rfl⟩, .inl rfl, Keeps.refl _ _⟩

/-! ### FixedBlock -/
theorem rcodes_pfx (g n cap : Nat) (ys : List Int) (w : World) (hP : Pfx w g ys) (hn : ys.length = n) (hm : may ys = true) (hr : room ys ≤ 32768) :
    Calls Try.prog 17 #[.slice (some ⟨g, 0, none⟩) n cap] w fun e w' => ∃ q, e = .returned (.tuple #[.slice (some ⟨q, 0, none⟩) n n, .int .i64 0]) ∧ Keeps (fun _ => False) w w' ∧ w.heap.size ≤ q ∧ Cds w' q ys.length (codeF ys) := by
  have := Hf.rcodes_good (some ⟨g, 0, none⟩) ys cap w hP.row (by have := (may_len hm).2; omega) (fits_of hm hr)
  rw [hn] at this ⊢; exact this
end Go.Proofs.Ytebjooebdehlnaa.Bk

namespace Go.Proofs.Ytebjooebdehlnaa.Lm
open Go.RowKit
set_option linter.unusedVariables false
set_option linter.unusedSimpArgs false

def boolsV (bs : List Bool) : List Value := bs.map (fun b => Value.bool b)
theorem boolsV_length (bs : List Bool) : (boolsV bs).length = bs.length := by simp [boolsV]
/-- A slice of bools that a call owns, nil too. -/
def OwnB (w : World) (base : Nat) (v : Value) (bs : List Bool) : Prop := w.ownsRow base 4 1 v bs.length (boolsV bs)
set_option maxRecDepth 100000 in
theorem append_bool (w : World) (base : Nat) (v : Value) (bs : List Bool) (h : OwnB w base v bs) (x : Bool) (b : Nat) (hx : w.heap[b]? = some (.cells #[.bool x] 4 (0, 0))) (hb : base ≤ w.heap.size) (hn : bs.length ≤ 1000000) :
    ∃ g cap w', (Builtin.append_ #[81, 81] 81 #[v, .slice (some ⟨b, 0, none⟩) 1 1]).run Try.prog w = .ok (.slice (some ⟨g, 0, none⟩) (bs.length + 1) cap) w' ∧ OwnB w' base (.slice (some ⟨g, 0, none⟩) (bs.length + 1) cap) (bs ++ [x]) ∧ w.grownBy w' v.ownBlock ∧ (v.ownBlock = some g ∨ g = w.heap.size) := by
  obtain ⟨i, hi, h1, h2, h3⟩ : ∃ i, Try.prog.info? 4 = some i ∧ i.zero = some (.bool false) ∧ i.bytes = 1 ∧ i.size = 1 := ⟨Try.t4, Try.type4, rfl, rfl, rfl⟩
  obtain ⟨g, cap, w', hr, ho, hg, hat, hlt⟩ := run_append_lies (P := Try.prog) w 81 81 base 4 i (.bool false) 1 1 Try.underlying81 hi h1 h3 h2 rfl (by decide) v bs.length (boolsV bs) h ⟨b, 0, none⟩ 1 1 [.bool x] rfl (fun j u hu => by
      have hj : j = 0 := by have := (List.getElem?_eq_some_iff.1 hu).1; simp at this; omega
      subst hj
      simp at hu
      subst hu
      exact cell_of_heap hx rfl) (fun u hu => by simp at hu; subst hu; rfl) (by decide) (by unfold maxLen; omega) (by omega) hb _ rfl
  refine ⟨g, cap, w', hr, ?_, hg, hat⟩
  unfold OwnB
  rw [show boolsV (bs ++ [x]) = boolsV bs ++ [.bool x] by simp [boolsV], List.length_append]
  exact ho
theorem wpList_bool {ops : Array Oper} {rest : List Oper} {o : Oper} {a : Act} {w : World} {Q : Exit → Act → World → Prop} (hgd : o.guard = none) (s x : Operand) (ho : o.op = .call { callee := .builtin .append, args := #[s, x], argTypes := #[81, 81] }) (hty : o.type = 81)
    (base : Nat) (v : Value) (bs : List Bool) (hs : a.eval s = v) (hown : OwnB w base v bs) (b : Nat) (y : Bool) (hx : a.eval x = .slice (some ⟨b, 0, none⟩) 1 1) (hR : w.heap[b]? = some (.cells #[.bool y] 4 (0, 0))) (hb : base ≤ w.heap.size) (hn : bs.length ≤ 1000000)
    (h : ∀ g cap w', OwnB w' base (.slice (some ⟨g, 0, none⟩) (bs.length + 1) cap) (bs ++ [y]) → w.grownBy w' v.ownBlock → (v.ownBlock = some g ∨ g = w.heap.size) → wpList Try.prog ops Q rest (a.put o.dst (.slice (some ⟨g, 0, none⟩) (bs.length + 1) cap)) w') : wpList Try.prog ops Q (o :: rest) a w :=
  wpList_plain hgd fun _ hK => by
    obtain ⟨g, cap, w', hr, h2, h3, h4⟩ := append_bool w base v bs hown y b hR hb hn
    unfold Oper.wp execOp
    simp only [ho, hty, resolve, invoke, builtin, Sem.run_bind, Sem.run_pure, Result.andThen_ok, List.map_toArray, List.map_cons, List.map_nil, hs, hx, hr]
    exact hK _ _ (h g cap w' h2 h3 h4)

/-- Three rows of a call's own, apart from each other. -/
structure Own3 (w : World) (base : Nat) (vw vu vf : Value) (W U : List Int) (F : List Bool) : Prop where
  ow : OwnV w base vw W
  ou : OwnV w base vu U
  of' : OwnB w base vf F
  wu : ∀ k, vw.ownBlock = some k → vu.ownBlock ≠ some k
  wf : ∀ k, vw.ownBlock = some k → vf.ownBlock ≠ some k
  uf : ∀ k, vu.ownBlock = some k → vf.ownBlock ≠ some k
theorem Own3.kept {S : Nat → Prop} {w w' : World} {base : Nat} {vw vu vf : Value} {W U : List Int} {F : List Bool} (h : Own3 w base vw vu vf W U F) (hk : Keeps S w w') (hs : ∀ b, base ≤ b → ¬ S b) : Own3 w' base vw vu vf W U F :=
  ⟨h.ow.kept hk (fun k e => hs k (World.ownsRow.lt h.ow k e).1), h.ou.kept hk (fun k e => hs k (World.ownsRow.lt h.ou k e).1), owns_heap h.of' (fun k e => hk.block k (World.ownsRow.lt h.of' k e).2 (hs k (World.ownsRow.lt h.of' k e).1)), h.wu, h.wf, h.uf⟩
theorem ownBlock_slice (g n c : Nat) : (Value.slice (some ⟨g, 0, none⟩) n c).ownBlock = some g := rfl
theorem Own3.w {w w' : World} {base g n c : Nat} {vw vu vf : Value} {W U W' : List Int} {F : List Bool} (h : Own3 w base vw vu vf W U F) (ho : OwnV w' base (.slice (some ⟨g, 0, none⟩) n c) W') (hg : w.grownBy w' vw.ownBlock) (ha : vw.ownBlock = some g ∨ g = w.heap.size) : Own3 w' base (.slice (some ⟨g, 0, none⟩) n c) vu vf W' U F := by
  refine ⟨ho, owns_heap h.ou (fun k e => hg.block k (World.ownsRow.lt h.ou k e).2 (fun e' => h.wu k e'.symm e)), owns_heap h.of' (fun k e => hg.block k (World.ownsRow.lt h.of' k e).2 (fun e' => h.wf k e'.symm e)), fun k e e' => ?_, fun k e e' => ?_, h.uf⟩
  · rw [ownBlock_slice] at e
    obtain rfl := Option.some.inj e
    rcases ha with ha | ha
    · exact h.wu g ha e'
    · have := (World.ownsRow.lt h.ou g e').2; omega
  · rw [ownBlock_slice] at e
    obtain rfl := Option.some.inj e
    rcases ha with ha | ha
    · exact h.wf g ha e'
    · have := (World.ownsRow.lt h.of' g e').2; omega
theorem Own3.u {w w' : World} {base g n c : Nat} {vw vu vf : Value} {W U U' : List Int} {F : List Bool} (h : Own3 w base vw vu vf W U F) (ho : OwnV w' base (.slice (some ⟨g, 0, none⟩) n c) U') (hg : w.grownBy w' vu.ownBlock) (ha : vu.ownBlock = some g ∨ g = w.heap.size) : Own3 w' base vw (.slice (some ⟨g, 0, none⟩) n c) vf W U' F := by
  refine ⟨owns_heap h.ow (fun k e => hg.block k (World.ownsRow.lt h.ow k e).2 (fun e' => h.wu k e e'.symm)), ho, owns_heap h.of' (fun k e => hg.block k (World.ownsRow.lt h.of' k e).2 (fun e' => h.uf k e'.symm e)), fun k e e' => ?_, h.wf, fun k e e' => ?_⟩
  · rw [ownBlock_slice] at e'
    obtain rfl := Option.some.inj e'
    rcases ha with ha | ha
    · exact h.wu g e ha
    · have := (World.ownsRow.lt h.ow g e).2; omega
  · rw [ownBlock_slice] at e
    obtain rfl := Option.some.inj e
    rcases ha with ha | ha
    · exact h.uf g ha e'
    · have := (World.ownsRow.lt h.of' g e').2; omega
theorem Own3.f {w w' : World} {base g n c : Nat} {vw vu vf : Value} {W U : List Int} {F F' : List Bool} (h : Own3 w base vw vu vf W U F) (ho : OwnB w' base (.slice (some ⟨g, 0, none⟩) n c) F') (hg : w.grownBy w' vf.ownBlock) (ha : vf.ownBlock = some g ∨ g = w.heap.size) : Own3 w' base vw vu (.slice (some ⟨g, 0, none⟩) n c) W U F' := by
  refine ⟨owns_heap h.ow (fun k e => hg.block k (World.ownsRow.lt h.ow k e).2 (fun e' => h.wf k e e'.symm)), owns_heap h.ou (fun k e => hg.block k (World.ownsRow.lt h.ou k e).2 (fun e' => h.uf k e e'.symm)), ho, h.wu, fun k e e' => ?_, fun k e e' => ?_⟩
  · rw [ownBlock_slice] at e'
    obtain rfl := Option.some.inj e'
    rcases ha with ha | ha
    · exact h.wf g e ha
    · have := (World.ownsRow.lt h.ow g e).2; omega
  · rw [ownBlock_slice] at e'
    obtain rfl := Option.some.inj e'
    rcases ha with ha | ha
    · exact h.uf g e ha
    · have := (World.ownsRow.lt h.ou g e).2; omega
/-- The document's forest in block p: weights, what each is joined into, which are free. -/
structure Rf (w : World) (p : Nat) (vw vu vf : Value) (W : List Nat) (U : List Int) (F : List Bool) : Prop where
  blk : w.heap[p]? = some (.cells #[vw, vu, vf] 83 (0, 0))
  own : Own3 w (p + 1) vw vu vf (ints W) U F
  lenU : U.length = W.length
  lenF : F.length = W.length
theorem Rf.kept {S : Nat → Prop} {w w' : World} {p : Nat} {vw vu vf : Value} {W : List Nat} {U : List Int} {F : List Bool} (h : Rf w p vw vu vf W U F) (hk : Keeps S w w') (hs : ∀ b, p ≤ b → ¬ S b) : Rf w' p vw vu vf W U F :=
  ⟨(hk.block p (lt_of_heap h.blk) (hs p (Nat.le_refl _))).trans h.blk, h.own.kept hk (fun b hb => hs b (by omega)), h.lenU, h.lenF⟩
/-- The struct's block behind an append to one of its rows. -/
theorem blk_grown {w w' : World} {p : Nat} {cs : Array Value} {o : Obj} {r : Option Nat} (h : w.heap[p]? = some (.cells cs 83 (0, 0))) (hg : (w.alloc o).grownBy w' r) (hr : r ≠ some p) : w'.heap[p]? = some (.cells cs 83 (0, 0)) := by
  have hl := lt_of_heap h
  rw [hg.block p (by simp; omega) (fun e => hr e.symm), Below.heap_alloc _ _ _ hl]; exact h
theorem own_ne {w : World} {p : Nat} {e : TypeId} {s : Nat} {v : Value} {n : Nat} {xs : List Value} (h : w.ownsRow (p + 1) e s v n xs) : v.ownBlock ≠ some p := fun e' => by
  have := (World.ownsRow.lt h p e').1; omega

set_option maxHeartbeats 4000000 in
set_option maxRecDepth 1000000 in
theorem add_ok (p : Nat) (vw vu vf : Value) (W : List Nat) (U : List Int) (F : List Bool) (x : Nat) (w : World) (h : Rf w p vw vu vf W U F) (hn : W.length ≤ 1000) :
    Calls Try.prog 35 #[.pointer (some ⟨p, 0, none⟩), .int .i64 (x : Int)] w fun e w' => e = .returned (.tuple #[]) ∧ ∃ vw' vu' vf', Rf w' p vw' vu' vf' (W ++ [x]) (U ++ [-1]) (F ++ [true]) ∧ Keeps (fun b => p ≤ b) w w' := by
  have c0 : w.cell? ⟨p, 0, none⟩ = some vw := cell_of_heap h.blk rfl
  have hfr : w.frozen? ⟨p, 0, none⟩ = false := frozen_of_heap h.blk
  have hlt : p < w.heap.size := lt_of_heap h.blk
  have HR : Hid (Rf w p vw vu vf W U F) := h
  clear h
  have stepK : ∀ (u u' : World) (o : Obj) (r : Option Nat), Keeps (fun b => p ≤ b) w u → (u.alloc o).grownBy u' r → (∀ k, r = some k → p ≤ k) → Keeps (fun b => p ≤ b) w u' := fun u u' o r h1 h2 h3 => (h1.alloc o).grown h2 (fun k _ e => h3 k e)
  have HSt : Hid (∀ (u u' : World) (o : Obj) (r : Option Nat), Keeps (fun b => p ≤ b) w u → (u.alloc o).grownBy u' r → (∀ k, r = some k → p ≤ k) → Keeps (fun b => p ≤ b) w u') := stepK
  clear stepK
  have HKs : Hid (∀ (u : World) (i : Nat) (v : Value) (o : Obj), Keeps (fun b => b = p) u ((u.setCell ⟨p, i, none⟩ v).alloc o)) := fun u i v o => ((Keeps.refl (fun b => b = p) u).setCell (p := ⟨p, i, none⟩) (fun _ => rfl) v).alloc o
  have HNw : Hid (∀ (u : World) (i : Nat) (v : Value) (o : Obj), ((u.setCell ⟨p, i, none⟩ v).alloc o).heap[u.heap.size]? = some o) := fun u i v o => by
    have := heap_alloc_new (u.setCell ⟨p, i, none⟩ v) o
    rw [heap_size_setCell] at this; exact this
  have HBs : Hid (∀ (u : World) (i : Nat) (v : Value) (cs : Array Value), u.heap[p]? = some (.cells cs 83 (0, 0)) → (u.setCell ⟨p, i, none⟩ v).heap[p]? = some (.cells (cs.setIfInBounds i v) 83 (0, 0))) := fun u i v cs h => heap_setCell_same h v
  go_enter Try.func35, Try.ntmps35
  go_wp2_with (first
    | ((fail_if_success (clear H1)); refine wpList_one rfl _ _ rfl rfl (p + 1) vw (ints W) rfl (HR.out.own.ow.kept ((Keeps.refl (fun _ => False) w).alloc _) (fun _ _ h => h)) w.heap.size (x : Int) rfl (heap_alloc_new _ _) ?hb ?hn ?_; (case hb => simp; omega); (case hn => rw [ints_length]; omega); intro gw cw w1 hO1 hG1 hA1; have hb1 := blk_grown HR.out.blk hG1 (own_ne HR.out.own.ow); have H1 : Hid (w1.heap[p]? = some (.cells #[vw, vu, vf] 83 (0, 0)) ∧ Own3 w1 (p + 1) (.slice (some ⟨gw, 0, none⟩) ((ints W).length + 1) cw) vu vf (ints W ++ [(x : Int)]) U F ∧ Keeps (fun b => p ≤ b) w w1) := ⟨hb1, (HR.out.own.kept ((Keeps.refl (fun _ => False) w).alloc _) (fun _ _ h => h)).w hO1 hG1 hA1, HSt.out w w1 _ _ (Keeps.refl _ _) hG1 (fun k e => by (have := (World.ownsRow.lt HR.out.own.ow k e).1; omega))⟩; have d0 : w1.cell? ⟨p, 0, none⟩ = some vw := cell_of_heap hb1 rfl; have d1 : w1.cell? ⟨p, 1, none⟩ = some vu := cell_of_heap hb1 rfl; have df : w1.frozen? ⟨p, 0, none⟩ = false := frozen_of_heap hb1; have dl : p < w1.heap.size := lt_of_heap hb1; clear hO1 hG1 hA1 hb1 c0 hfr hlt)
    | ((fail_if_success (clear H2)); refine wpList_one rfl _ _ rfl rfl (p + 1) vu U rfl (H1.out.2.1.kept (HKs.out w1 0 _ _) (fun b hb e => by omega)).ou w1.heap.size (-1 : Int) rfl (HNw.out w1 0 _ _) ?hb ?hn ?_; (case hb => simp [heap_size_setCell]; omega); (case hn => rw [HR.out.lenU]; omega); intro gu cu w2 hO2 hG2 hA2; have hb2 := blk_grown (HBs.out w1 0 _ _ H1.out.1) hG2 (own_ne (H1.out.2.1.kept (HKs.out w1 0 (.slice (some ⟨gw, 0, none⟩) ((ints W).length + 1) cw) (.cells #[.int .i64 (-1)] 3)) (fun b hb e => by omega)).ou); have H2 : Hid (w2.heap[p]? = some (.cells #[.slice (some ⟨gw, 0, none⟩) ((ints W).length + 1) cw, vu, vf] 83 (0, 0)) ∧ Own3 w2 (p + 1) (.slice (some ⟨gw, 0, none⟩) ((ints W).length + 1) cw) (.slice (some ⟨gu, 0, none⟩) (U.length + 1) cu) vf (ints W ++ [(x : Int)]) (U ++ [-1]) F ∧ Keeps (fun b => p ≤ b) w w2) := ⟨hb2, (H1.out.2.1.kept (HKs.out w1 0 _ _) (fun b hb e => by omega)).u hO2 hG2 hA2, HSt.out _ w2 _ _ (H1.out.2.2.setCell (fun _ => Nat.le_refl p) _) hG2 (fun k e => by (have := (World.ownsRow.lt H1.out.2.1.ou k e).1; omega))⟩; have d0 : w2.cell? ⟨p, 1, none⟩ = some vu := cell_of_heap hb2 rfl; have d1 : w2.cell? ⟨p, 2, none⟩ = some vf := cell_of_heap hb2 rfl; have df : w2.frozen? ⟨p, 1, none⟩ = false := frozen_of_heap hb2; have dl : p < w2.heap.size := lt_of_heap hb2; clear hO2 hG2 hA2 hb2)
    | (refine wpList_bool rfl _ _ rfl rfl (p + 1) vf F rfl (H2.out.2.1.kept (HKs.out w2 1 _ _) (fun b hb e => by omega)).of' w2.heap.size true rfl (HNw.out w2 1 _ _) ?hb ?hn ?_; (case hb => simp [heap_size_setCell]; omega); (case hn => rw [HR.out.lenF]; omega); intro gf cf w3 hO3 hG3 hA3; have hb3 := blk_grown (HBs.out w2 1 _ _ H2.out.1) hG3 (own_ne (H2.out.2.1.kept (HKs.out w2 1 (.slice (some ⟨gu, 0, none⟩) (U.length + 1) cu) (.cells #[.bool true] 4)) (fun b hb e => by omega)).of'); have H3 : Hid (w3.heap[p]? = some (.cells #[.slice (some ⟨gw, 0, none⟩) ((ints W).length + 1) cw, .slice (some ⟨gu, 0, none⟩) (U.length + 1) cu, vf] 83 (0, 0)) ∧ Own3 w3 (p + 1) (.slice (some ⟨gw, 0, none⟩) ((ints W).length + 1) cw) (.slice (some ⟨gu, 0, none⟩) (U.length + 1) cu) (.slice (some ⟨gf, 0, none⟩) (F.length + 1) cf) (ints W ++ [(x : Int)]) (U ++ [-1]) (F ++ [true]) ∧ Keeps (fun b => p ≤ b) w w3) := ⟨hb3, (H2.out.2.1.kept (HKs.out w2 1 _ _) (fun b hb e => by omega)).f hO3 hG3 hA3, HSt.out _ w3 _ _ (H2.out.2.2.setCell (fun _ => Nat.le_refl p) _) hG3 (fun k e => by (have := (World.ownsRow.lt H2.out.2.1.of' k e).1; omega))⟩; have d0 : w3.cell? ⟨p, 2, none⟩ = some vf := cell_of_heap hb3 rfl; have df : w3.frozen? ⟨p, 2, none⟩ = false := frozen_of_heap hb3; clear hO3 hG3 hA3 hb3))
  go_end0
  obtain ⟨e1, e2, e3⟩ := H3.out
  refine ⟨rfl, _, _, _, ⟨HBs.out w3 2 _ _ e1, ?_, by simp [HR.out.lenU], by simp [HR.out.lenF]⟩, e3.setCell (fun _ => Nat.le_refl p) _⟩
  rw [ints_append]
  exact e2.kept ((Keeps.refl (fun b => b = p) w3).setCell (p := ⟨p, 2, none⟩) (fun _ => rfl) _) (fun b hb e => by omega)

end Go.Proofs.Ytebjooebdehlnaa.Lm

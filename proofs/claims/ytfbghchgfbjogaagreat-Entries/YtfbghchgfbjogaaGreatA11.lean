/-
  runs, mayTellBytes and mayTellDists of package inflate. mayBe, Stored, Fixed and Dynamic of package block. lengthFinder of package inflate: the codes by which a dynamic block tells all lengths. lengths of package inflate: what a dynamic block tells ahead of its bytes and copies.
-/
import Derived.Test.YtfbghchgfbjogaaGreatRows
import Derived.Test.YtfbghchgfbjogaaGreatA10
import Derived.OwnWalk
namespace Go.Proofs.YtfbghchgfbjogaaGreat
open Go.RowKit
open Hf Tb
set_option linter.unusedVariables false
set_option linter.unusedSimpArgs false

theorem own_row {w : World} {base : Nat} {v : Value} {xs : List Int} (h : Own w base v xs) : ∃ a cap, v = .slice a xs.length cap ∧ Row w a xs ∧ xs.length ≤ cap ∧ ∀ x, a = some x → v.ownBlock = some x.block := by
  by_cases h0 : xs.length = 0
  · obtain rfl := List.eq_nil_of_length_eq_zero h0
    rcases h.2 with ⟨e, _⟩ | ⟨g, cap, cur, e, _⟩
    · exact ⟨none, 0, e, .inl rfl, Nat.zero_le _, fun x e => by cases e⟩
    · exact ⟨_, cap, e, .inl rfl, Nat.zero_le _, fun x e2 => by cases e2; rw [e]; rfl⟩
  · obtain ⟨g, cap, e, _, hlt⟩ := World.ownsRow.form h (by omega)
    have hc : xs.length ≤ cap := by
      rcases h.2 with ⟨e2, h2⟩ | ⟨g', cap', cur, hv, hb, hg, hn, hc, hs, ht⟩
      · omega
      · rw [e] at hv; cases hv; omega
    refine ⟨_, cap, e, .inr ⟨g, 0, rfl, hlt, fun i hi => ?_⟩, hc, fun x e2 => by cases e2; rw [e]; rfl⟩
    rw [e] at h
    rw [Nat.zero_add]
    exact (owns_cell h i _ (by simp [intsV, List.getElem?_map, List.getElem?_eq_getElem hi])).1

/-- What a call leaves that reads many lengths. -/
def RowPost (R : Option (List Int × Bts)) (w : World) (b r : Nat) (v : Value) (s : ByteArray) (most : Nat) (xs : List Nat) (e : Ending) (w' : World) : Prop :=
  (R = none → e = .returned (.tuple #[.slice none 0 0, .int .i64 700]) ∧ Keeps (Own3 b r v) w w') ∧
  ∀ rs L', R = some (rs, L') → ∃ u, e = .returned (.tuple #[u, .int .i64 0]) ∧ Own w' w.heap.size u rs ∧ St w' b r v s most L' xs ∧ Rdv w w' b r v
theorem RowPost.noneI {w : World} {b r : Nat} {v : Value} {s : ByteArray} {most : Nat} {xs : List Nat} {w' : World} (h : Keeps (Own3 b r v) w w') : RowPost none w b r v s most xs (.returned (.tuple #[.slice none 0 0, .int .i64 700])) w' :=
  ⟨fun _ => ⟨rfl, h⟩, fun _ _ e => by cases e⟩
theorem St.above3 {w : World} {b r : Nat} {v : Value} {s : ByteArray} {most : Nat} {L : Bts} {xs : List Nat} (h : St w b r v s most L xs) : ∀ k, Own3 b r v k → k < w.heap.size := by
  rintro k (rfl | rfl | e)
  · exact h.lt
  · have := h.rb; have := h.lt; omega
  · exact (h.ownlt k e).2

set_option maxHeartbeats 4000000 in
set_option maxRecDepth 100000 in
theorem runs_ok {w : World} {b r : Nat} {v : Value} {s : ByteArray} {most : Nat} {L : Bts} {xs : List Nat} (h : St w b r v s most L xs) {lo hi f : Nat} {ys : List Int} (hf : Fnd w lo hi f ys) (ha : Away lo hi b r v) (hys : ys.length ≤ 100000) (many : Nat) (hm : many ≤ 1000) :
    Calls Tryz.prog 131 #[.pointer (some ⟨b, 0, none⟩), .pointer (some ⟨f, 0, none⟩), .int .i64 (many : Int)] w (RowPost (runs ys many [] L) w b r v s most xs) := by
  obtain ⟨R, hR⟩ : ∃ R, runs ys many [] L = R := ⟨_, rfl⟩
  rw [hR]
  have HF : Hid (∀ w', Rdv w w' b r v → Fnd w' lo hi f ys) := fun w' k => hf.kept k.keep ha.not
  have HS0 : Hid (St w b r v s most L xs) := h
  have HAw : Hid (Away lo hi b r v ∧ ys.length ≤ 100000 ∧ ∀ k, Own3 b r v k → k < w.heap.size) := ⟨ha, hys, h.above3⟩
  have H0 : Hid (∃ L1, runs ys many [] L1 = R ∧ St w b r v s most L1 xs ∧ Rdv w w b r v ∧ Own w w.heap.size (.slice none 0 0) []) := ⟨L, hR, h, Rdv.refl _ _ _ _, World.ownsRow_nil w _ 3 1⟩
  clear h hf ha hys hR
  go_enter Tryz.func131, Tryz.ntmps131
  go_wp2
  go_loopw [8] (fun s8 w' => ∃ (a : Option Addr) (n cap : Nat), s8 = .slice a n cap ∧ n ≤ 2000 ∧ Hid (∃ (out : List Int) (L1 : Bts), out.length = n ∧ runs ys many out L1 = R ∧ St w' b r v s most L1 xs ∧ Rdv w w' b r v ∧ Own w' w.heap.size (.slice a n cap) out ∧ Row w' a out)) (fun s8 _ => match s8 with | .slice _ n _ => many - n | _ => 0)
  case atStart =>
    obtain ⟨L1, h1, h2, h3, h4⟩ := H0.out
    exact ⟨none, 0, 0, rfl, by omega, [], L1, rfl, h1, h2, h3, h4, .inl rfl⟩
  case round =>
    clear H0
    obtain ⟨a, n, cap, hs8, hn, HW⟩ := hrel
    obtain rfl := hs8.symm
    clear hs8
    by_cases hnm : n < many
    · have hnz : (n : Int) < (many : Int) := by omega
      obtain ⟨out, L1, hlen, hE, hS, hA, hO, hRow⟩ := HW.out
      clear HW
      have HS : Hid (out.length = n ∧ runs ys many out L1 = R ∧ St wr b r v s most L1 xs ∧ Rdv w wr b r v ∧ Own wr w.heap.size (.slice a n cap) out ∧ Row wr a out) := ⟨hlen, hE, hS, hA, hO, hRow⟩
      have HC : Hid (Calls Tryz.prog 115 #[.pointer (some ⟨b, 0, none⟩), .pointer (some ⟨f, 0, none⟩)] wr (NumPost (symN ys L1) wr b r v s most xs)) := symbol_ok hS (HF.out wr hA) HAw.out.1
      clear hlen hE hS hA hO hRow
      go_wp2_with fail
      refine HC.out.mono ?_
      intro e w2 hP
      clear HC
      rcases h1 : symN ys L1 with _ | ⟨i, L2⟩
      · obtain ⟨rfl, hk⟩ := hP.1 h1
        have HK : Hid (Keeps (Own3 b r v) w w2) := HS.out.2.2.2.1.lost hk
        have e : R = none := by rw [← HS.out.2.1, runs_none1 (by rw [HS.out.1]; exact hnm) h1]
        subst e
        clear hP h1 hk
        go_wp2
        go_ret2
        exact RowPost.noneI HK.out
      · obtain ⟨rfl, hS2, hA2⟩ := hP.2 i L2 h1
        have HL : Hid (symN ys L1 = some (i, L2)) := h1
        have hi5 : i ≤ 100000 := by have := symN_small h1; have := HAw.out.2.1; omega
        have hnot : ∀ k, (Value.slice a n cap).ownBlock = some k → ¬ Own3 b r v k := fun k e e2 => by
          have := (World.ownsRow.lt HS.out.2.2.2.2.1 k e).1
          have := HAw.out.2.2 k e2; omega
        have hra : ∀ x, a = some x → n ≠ 0 → ¬ Own3 b r v x.block := fun x e _ => by
          subst e
          rcases HS.out.2.2.2.2.1.2 with ⟨e, _⟩ | ⟨g, cap', cur, e, _⟩
          · cases e
          · cases e; exact hnot _ rfl
        have H2 : Hid (St w2 b r v s most L2 xs ∧ Rdv w w2 b r v ∧ Own w2 w.heap.size (.slice a n cap) out ∧ Row w2 a out) := by
          refine ⟨hS2, HS.out.2.2.2.1.trans hA2, HS.out.2.2.2.2.1.kept hA2.keep hnot, ?_⟩
          rcases HS.out.2.2.2.2.2 with h | h
          · exact .inl h
          · by_cases h0 : n = 0
            · exact .inl (List.eq_nil_of_length_eq_zero (by rw [HS.out.1, h0]))
            · exact Row.kept (.inr h) hA2.keep (fun x e => hra x e h0)
        have HC : Hid (Calls Tryz.prog 142 #[.pointer (some ⟨b, 0, none⟩), .int .i64 (i : Int), .slice a n cap] w2 (RunPost (rle i out L2) w2 b r v s most xs)) := by
          have := run_ok H2.out.1 i a out cap H2.out.2.2.2 (by rw [HS.out.1]; omega) hi5
          rw [HS.out.1] at this; exact this
        clear hP h1 hS2 hA2 hi5 hra
        have HN : Hid (∀ k, (Value.slice a n cap).ownBlock = some k → ¬ Own3 b r v k) := hnot
        clear hnot
        go_wp2_with fail
        refine HC.out.mono ?_
        intro e w3 hP
        clear HC
        rcases h3 : rle i out L2 with _ | ⟨rs, L3⟩
        · obtain ⟨rfl, hk⟩ := hP.1 h3
          have HK : Hid (Keeps (Own3 b r v) w w3) := H2.out.2.1.lost hk
          have e : R = none := by rw [← HS.out.2.1, runs_none2 (by rw [HS.out.1]; exact hnm) HL.out h3]
          subst e
          clear hP h3 hk
          go_wp2
          go_ret2
          exact RowPost.noneI HK.out
        · obtain ⟨g, rfl, hB3, hg3, hS3, hA3⟩ := hP.2 rs L3 h3
          obtain ⟨m, hm3⟩ : ∃ m, rs.length = m := ⟨_, rfl⟩
          have hrl : 1 ≤ m ∧ m ≤ 300 := by
            have h4 := (rle_len h3).2
            refine ⟨by omega, ?_⟩
            rw [← hm3]
            exact rle_le h3
          have H3 : Hid (runs ys many (out ++ rs) L3 = R ∧ St w3 b r v s most L3 xs ∧ Rdv w w3 b r v ∧ Own w3 w.heap.size (.slice a n cap) out ∧ Blk w3 g rs ∧ w2.heap.size ≤ g ∧ rs.length = m) :=
            ⟨by rw [← HS.out.2.1, runs_next (by rw [HS.out.1]; exact hnm) HL.out h3], hS3, H2.out.2.1.trans hA3, H2.out.2.2.1.kept hA3.keep HN.out, hB3, hg3, hm3⟩
          rw [hm3]
          clear hP h3 hB3 hg3 hS3 hA3 HN hm3
          go_wp2_with (refine wpList_join rfl _ _ rfl rfl w.heap.size (.slice a n cap) out rfl H3.out.2.2.2.1 g m m rs rfl H3.out.2.2.2.2.2.2 H3.out.2.2.2.2.1 H3.out.2.2.1.keep.size (by rw [HS.out.1, H3.out.2.2.2.2.2.2]; omega) ?_; intro v4 w4 hO4 hG4)
          obtain ⟨a4, cap4, hv4, hrow4, _, _⟩ := own_row hO4
          obtain ⟨n4, hn4⟩ : ∃ n4, (out ++ rs).length = n4 := ⟨_, rfl⟩
          have hn4' : n4 = n + m := by rw [← hn4, List.length_append, HS.out.1, H3.out.2.2.2.2.2.2]
          rw [hn4] at hv4
          obtain rfl := hv4.symm
          clear hv4
          have H4 : Hid (∃ (out : List Int) (L1 : Bts), out.length = n4 ∧ runs ys many out L1 = R ∧ St w4 b r v s most L1 xs ∧ Rdv w w4 b r v ∧ Own w4 w.heap.size (.slice a4 n4 cap4) out ∧ Row w4 a4 out) := by
            have k34 : Keeps (fun k => (Value.slice a n cap).ownBlock = some k) w3 w4 := (Keeps.refl _ w3).grown hG4 (fun k _ e => e)
            have hlow : ∀ k, (Value.slice a n cap).ownBlock = some k → w.heap.size ≤ k := fun k e => (World.ownsRow.lt H3.out.2.2.2.1 k e).1
            have hR4 : Rdv w w4 b r v := ⟨H3.out.2.2.1.only.trans k34 (fun k hk e => by have := hlow k e; omega)⟩
            obtain ⟨p, p1, p2, p3⟩ := H3.out.2.1.rd
            have hrl : r < w.heap.size := by have := HS0.out.rb; have := HS0.out.lt; omega
            have hS4 := (HS0.out.read (p := p) ⟨p1.kept k34 (fun e => by have := hlow r e; omega), hR4.only⟩ p2).1
            rw [← p3] at hS4
            exact ⟨out ++ rs, L3, hn4, H3.out.1, hS4, hR4, hO4, hrow4⟩
          clear hO4 hG4 hrow4 hn4 H3 H2 HS HL
          go_roundw
          case rel => exact ⟨a4, n4, cap4, rfl, by omega, H4⟩
          case measure => simp; omega
    · have hnz : ¬ (n : Int) < (many : Int) := by omega
      by_cases hover : many < n
      · have hoz : (many : Int) < (n : Int) := by omega
        obtain ⟨out, L1, hlen, hE, hS, hA, hO, hRow⟩ := HW.out
        have e : R = none := by rw [← hE, runs_over (by omega)]
        subst e
        have HK : Hid (Keeps (Own3 b r v) w wr) := hA.keep
        clear hlen hE hS hA hO hRow HW
        go_wp2
        go_ret2
        exact RowPost.noneI HK.out
      · obtain rfl : n = many := by omega
        obtain ⟨out, L1, hlen, hE, hS, hA, hO, hRow⟩ := HW.out
        have e : R = some (out, L1) := by rw [← hE, runs_done hlen]
        subst e
        have HP : Hid (RowPost (some (out, L1)) w b r v s most xs (.returned (.tuple #[.slice a n cap, .int .i64 0])) wr) := ⟨fun e => by (cases e), fun _ _ e => by cases e; exact ⟨_, rfl, hO, hS, hA⟩⟩
        clear hlen hE hS hA hO hRow HW
        go_wp2
        go_ret2
        exact HP.out

set_option maxHeartbeats 1000000 in
set_option maxRecDepth 100000 in
theorem mayTellBytes_ok (a : Option Addr) (x : List Int) (cap : Nat) (w : World) (hR : Row w a x) (hl : 257 ≤ x.length) (hl2 : x.length ≤ 1000) :
    Calls Tryz.prog 132 #[.slice a x.length cap] w fun e w' => e = .returned (.bool (mayB x)) ∧ Keeps (fun _ => False) w w' := by
  have HC : Hid (Calls Tryz.prog 141 #[.slice a x.length cap] w fun e w' => e = .returned (.int .i64 (errC x)) ∧ Keeps (fun _ => False) w w') := check_ok a x cap w hR (by omega)
  obtain ⟨g, off, rfl, hg, hc⟩ := hR.spot (by omega)
  have HCl : Hid (∀ w', Keeps (fun _ => False) w w' → w'.cell? ⟨g, off + 256, none⟩ = some (.int .i64 (at_ x 256))) := fun w' hk => by
    rw [World.cell?_of_block (hk.block g hg (fun h => h)), at_eq 256 (by omega)]; exact hc 256 (by omega)
  have hlz : (256 : Int) < (x.length : Int) := by omega
  have HE : Hid (mayB x = (decide (errC x = 0) && decide (0 < at_ x 256))) := rfl
  rw [HE.out]
  clear hR hc HE
  generalize errC x = er at *
  generalize at_ x 256 = t at *
  generalize x.length = N at *
  by_cases her : er = 0
  · subst her
    rw [decide_eq_true rfl, Bool.true_and]
    go_enter Tryz.func132, Tryz.ntmps132
    go_wp2_with fail
    refine HC.out.mono ?_
    rintro e w2 ⟨rfl, hK⟩
    have hcell := HCl.out w2 hK
    have HK : Hid (Keeps (fun _ => False) w w2) := hK
    clear hK HC HCl
    go_wp2
    go_ret
    exact ⟨by congr 2, HK.out⟩
  · rw [decide_eq_false her, Bool.false_and]
    have hnb : (er == 0) = false := by simp; exact her
    go_enter Tryz.func132, Tryz.ntmps132
    go_wp2_with fail
    refine HC.out.mono ?_
    rintro e w2 ⟨rfl, hK⟩
    have HK : Hid (Keeps (fun _ => False) w w2) := hK
    clear hK HC HCl
    go_wp2
    go_ret
    exact ⟨rfl, HK.out⟩

theorem sum_take (x : List Int) (j : Nat) (h : j < x.length) : (x.take (j + 1)).sum = (x.take j).sum + x[j] := by
  rw [take_snoc x j h, List.sum_append]; simp
theorem sum_bound (x : List Int) (hx : ∀ i (h : i < x.length), 0 ≤ x[i] ∧ x[i] ≤ 15) : ∀ j, j ≤ x.length → 0 ≤ (x.take j).sum ∧ (x.take j).sum ≤ 15 * j := by
  intro j
  induction j with
  | zero => intro _; simp
  | succ j ih =>
    intro h
    have h1 := ih (by omega)
    have h2 := hx j (by omega)
    rw [sum_take x j (by omega)]; omega

set_option maxHeartbeats 1000000 in
set_option maxRecDepth 100000 in
theorem mayTellDists_ok (a : Option Addr) (x : List Int) (cap : Nat) (w : World) (hR : Row w a x) (hl2 : x.length ≤ 1000) (hx : ∀ i (h : i < x.length), 0 ≤ x[i] ∧ x[i] ≤ 15) :
    Calls Tryz.prog 133 #[.slice a x.length cap] w fun e w' => e = .returned (.bool (mayD x)) ∧ Keeps (fun _ => False) w w' := by
  have HC : Hid (Calls Tryz.prog 141 #[.slice a x.length cap] w fun e w' => e = .returned (.int .i64 (errC x)) ∧ Keeps (fun _ => False) w w') := check_ok a x cap w hR (by omega)
  obtain ⟨B, hB⟩ : ∃ B, mayD x = B := ⟨_, rfl⟩
  rw [hB]
  have HB : Hid ((decide (x.sum ≤ 1) || decide (errC x = 0)) = B) := hB
  have HR : Hid (Row w a x) := hR
  have HX : Hid (∀ i (h : i < x.length), 0 ≤ x[i] ∧ x[i] ≤ 15) := hx
  obtain ⟨N, hN⟩ : ∃ N, x.length = N := ⟨_, rfl⟩
  have HN : Hid (x.length = N) := hN
  rw [hN] at HC ⊢ hl2
  clear hR hB hx hN
  go_enter Tryz.func133, Tryz.ntmps133
  go_wp2
  go_loopw [3, 8] (fun s3 s8 w' => ∃ j : Nat, j ≤ N ∧ s8 = .int .i64 (j : Int) ∧ s3 = .int .i64 ((x.take j).sum) ∧ w' = w) (fun _ s8 _ => ((N : Int) - intOf s8).toNat)
  case atStart => exact ⟨0, by omega, rfl, by simp, rfl⟩
  case round =>
    obtain ⟨j, hj, rfl, rfl, rfl⟩ := hrel
    by_cases hjn : j < N
    · have hjz : (j : Int) < (N : Int) := by omega
      have hjx : j < x.length := by rw [HN.out]; exact hjn
      obtain ⟨g, off, ha, hg, hc⟩ := HR.out.spot (by omega)
      obtain rfl := ha
      have hcell := hc j hjx
      have hs := sum_bound x HX.out j (by omega)
      have hv := HX.out j hjx
      have HT : Hid ((x.take (j + 1)).sum = (x.take j).sum + x[j]) := sum_take x j hjx
      generalize (x.take j).sum = S at *
      generalize x[j] = y at *
      have hb : 15 * (j : Int) ≤ 15000 := by omega
      clear hc
      go_wp2
      go_roundw
      case rel => exact ⟨j + 1, by omega, by push_cast; rfl, by rw [HT.out], trivial⟩
      case measure => simp [intOf]; omega
    · obtain rfl : j = N := by omega
      rw [List.take_of_length_le (by rw [HN.out]; omega)]
      have hs := sum_bound x HX.out x.length (Nat.le_refl _)
      rw [List.take_length] at hs
      generalize x.sum = S at *
      generalize errC x = er at *
      by_cases h1 : S ≤ 1
      · have e : B = true := by rw [← HB.out, decide_eq_true h1, Bool.true_or]
        subst e
        clear HB
        go_wp2
        go_ret
        exact ⟨rfl, Keeps.refl _ _⟩
      · have e : B = decide (er = 0) := by rw [← HB.out, decide_eq_false h1, Bool.false_or]
        subst e
        clear HB
        have hd : decide (S ≤ 1) = false := decide_eq_false h1
        go_wp2_with fail
        refine HC.out.mono ?_
        rintro e w2 ⟨rfl, hK⟩
        have HK : Hid (Keeps (fun _ => False) wr w2) := hK
        clear hK HC
        go_wp2
        go_ret
        exact ⟨by congr 2, HK.out⟩

end Go.Proofs.YtfbghchgfbjogaaGreat

namespace Go.Proofs.YtfbghchgfbjogaaGreat.Bk
open Go.RowKit
open Hf Tb
open Mt (Tk RowT mayF sumZ expF)
set_option linter.unusedVariables false
set_option linter.unusedSimpArgs false

def StrPost (t : ByteArray) (er : Int) (w : World) (e : Ending) (w' : World) : Prop := e = .returned (.tuple #[.string t, .int .i64 er]) ∧ Keeps (fun _ => False) w w'
end Go.Proofs.YtfbghchgfbjogaaGreat.Bk

namespace Go.Proofs.YtfbghchgfbjogaaGreat
open Go.RowKit
open Hf Tb
set_option linter.unusedVariables false
set_option linter.unusedSimpArgs false

theorem rowL_pos : ∀ i : Fin 19, ∀ j : Fin 19, (rowL.getD i.val 0 = j.val ↔ posR j.val = i.val) := by decide +kernel
theorem rowL_lt : ∀ i : Fin 19, rowL.getD i.val 0 < 19 := by decide +kernel
theorem clOf_length (t : List Int) : (clOf t).length = 19 := by simp [clOf]
theorem clOf_get (t : List Int) (j : Nat) (h : j < 19) : (clOf t)[j]? = some (t.getD (posR j) 0) := by
  simp [clOf, List.getElem?_map, List.getElem?_range h]
theorem clOf_set (acc : List Int) (x : Int) (h : acc.length < 19) : (clOf acc).set (rowL.getD acc.length 0) x = clOf (acc ++ [x]) := by
  apply List.ext_getElem?
  intro j
  have hr := rowL_lt ⟨acc.length, h⟩
  simp only at hr
  by_cases hj : j < 19
  · have hp := rowL_pos ⟨acc.length, h⟩ ⟨j, hj⟩
    simp only at hp
    rw [clOf_get _ j hj, List.getElem?_set]
    by_cases e : rowL.getD acc.length 0 = j
    · rw [if_pos e, clOf_length, if_pos hr, hp.1 e]
      simp [List.getD]
    · rw [if_neg e, clOf_get _ j hj]
      have hne : posR j ≠ acc.length := fun k => e (hp.2 k)
      congr 1
      simp only [List.getD, List.getElem?_append]
      by_cases hlt : posR j < acc.length
      · rw [if_pos hlt]
      · rw [if_neg hlt, List.getElem?_eq_none (by omega), List.getElem?_eq_none (by simp; omega)]
  · rw [List.getElem?_eq_none (by rw [List.length_set, clOf_length]; omega), List.getElem?_eq_none (by rw [clOf_length]; omega)]
theorem clOf_nil : clOf [] = List.replicate 19 0 := by decide
theorem Blk.set {w : World} {g : Nat} {xs : List Int} (h : Blk w g xs) (i : Nat) (y : Int) : Blk (w.setCell ⟨g, i, none⟩ (.int .i64 y)) g (xs.set i y) := by
  unfold Blk
  rw [heap_setCell_same h]
  congr 2
  simp [intsV, List.map_set]

/-- The codes of the lengths. -/
def lfP : Bts → Option (List Int × Bts) := bnd (aboveL 4 4) fun c => bnd (threes c []) fun t => if errC (clOf t) = 0 then retL (clOf t) else noL
def lfT (R : Option (List Int × Bts)) : Option (List Int × Bts) := match R with
  | none => none
  | some (t, L2) => if errC (clOf t) = 0 then some (clOf t, L2) else none
theorem lfP_of {L L1 : Bts} {c : Nat} (h1 : aboveL 4 4 L = some (c, L1)) : lfP L = lfT (threes c [] L1) := by
  unfold lfP
  rw [bnd_eq h1]
  rcases h2 : threes c [] L1 with _ | ⟨t, L2⟩
  · rw [bnd_none h2]; rfl
  · rw [bnd_eq h2]; unfold lfT; simp only
    split <;> rfl
theorem lfP_dyn (a b : Nat) (L : Bts) : bnd (aboveL 4 4) (fun c => bnd (threes c []) fun t => dynC a b t) L = bnd lfP (fun ys => bnd (runs ys (a + b) []) fun all => dynP a all) L := by
  rcases h1 : aboveL 4 4 L with _ | ⟨c, L1⟩
  · have e : lfP L = none := by unfold lfP; exact bnd_none h1
    rw [bnd_none h1, bnd_none e]
  · have e := lfP_of h1
    rw [bnd_eq h1]
    rcases h2 : threes c [] L1 with _ | ⟨t, L2⟩
    · rw [h2] at e
      rw [bnd_none h2, bnd_none e]
    · rw [h2] at e
      rw [bnd_eq h2]
      unfold dynC
      unfold lfT at e
      by_cases he : errC (clOf t) = 0
      · simp only [if_pos he] at e
        rw [if_pos he, bnd_eq e]
      · simp only [if_neg he] at e
        rw [if_neg he, bnd_none e]; rfl
def FinPost (R : Option (List Int × Bts)) (w : World) (b r : Nat) (v : Value) (s : ByteArray) (most : Nat) (xs : List Nat) (e : Ending) (w' : World) : Prop :=
  (R = none → e = .returned (.tuple #[.pointer none, .int .i64 700]) ∧ Keeps (Own3 b r v) w w') ∧
  ∀ ys L', R = some (ys, L') → ∃ f, e = .returned (.tuple #[.pointer (some ⟨f, 0, none⟩), .int .i64 0]) ∧ Fnd w' w.heap.size w'.heap.size f ys ∧ St w' b r v s most L' xs ∧ Rdv w w' b r v
theorem FinPost.noneI {w : World} {b r : Nat} {v : Value} {s : ByteArray} {most : Nat} {xs : List Nat} {w' : World} (h : Keeps (Own3 b r v) w w') : FinPost none w b r v s most xs (.returned (.tuple #[.pointer none, .int .i64 700])) w' :=
  ⟨fun _ => ⟨rfl, h⟩, fun _ _ e => by cases e⟩

set_option maxHeartbeats 4000000 in
set_option maxRecDepth 100000 in
theorem lengthFinder_ok {w : World} {b r : Nat} {v : Value} {s : ByteArray} {most : Nat} {L : Bts} {xs : List Nat} (h : St w b r v s most L xs) :
    Calls Tryz.prog 130 #[.pointer (some ⟨b, 0, none⟩)] w (FinPost (lfP L) w b r v s most xs) := by
  obtain ⟨R, hR⟩ : ∃ R, lfP L = R := ⟨_, rfl⟩
  rw [hR]
  have HS0 : Hid (St w b r v s most L xs) := h
  rcases h1 : aboveL 4 4 L with _ | ⟨c, L1⟩
  · have e : R = none := by rw [← hR]; unfold lfP; exact bnd_none h1
    subst e
    have HC : Hid (Calls Tryz.prog 129 #[.pointer (some ⟨b, 0, none⟩), .int .i64 4, .int .i64 4] w fun e w' => e = .returned (.tuple #[.int .i64 0, .int .i64 700]) ∧ Keeps (Own3 b r v) w w') := above_none h 4 4 (by omega) h1
    clear h h1 hR
    go_enter Tryz.func130, Tryz.ntmps130
    go_wp2_with fail
    refine HC.out.mono ?_
    rintro e w2 ⟨rfl, hk⟩
    have HK : Hid (Keeps (Own3 b r v) w w2) := hk
    clear hk HC
    go_wp2
    go_ret2
    exact FinPost.noneI HK.out
  · have HC : Hid (Calls Tryz.prog 129 #[.pointer (some ⟨b, 0, none⟩), .int .i64 4, .int .i64 4] w fun e w' => e = .returned (.tuple #[.int .i64 (c : Int), .int .i64 0]) ∧ St w' b r v s most L1 xs ∧ Rdv w w' b r v) := above_some h 4 4 c L1 (by omega) (by omega) h1
    have hc : c ≤ 19 := by
      obtain ⟨q, hq, rfl⟩ := aboveL_some h1
      have h2 := getL_lt hq
      omega
    obtain ⟨R3, hR3⟩ : ∃ R3, threes c [] L1 = R3 := ⟨_, rfl⟩
    have HR : Hid (R = lfT R3) := by show R = _; rw [← hR, ← hR3]; exact lfP_of h1
    have HR3 : Hid (threes c [] L1 = R3) := hR3
    clear h h1 hR hR3
    go_enter Tryz.func130, Tryz.ntmps130
    go_wp2_with fail
    refine HC.out.mono ?_
    rintro e w2 ⟨rfl, hS2, hA2⟩
    have H2 : Hid (St w2 b r v s most L1 xs ∧ Rdv w w2 b r v) := ⟨hS2, hA2⟩
    clear hS2 hA2 HC
    have HCr : Hid (∀ w, Calls Tryz.prog 140 #[] w fun e w' => e = .returned (.agg (intsV rowZ).toArray) ∧ Keeps (fun _ => False) w w') := row_ok
    go_wp2_with fail
    refine (HCr.out w2).mono ?_
    rintro e w2a ⟨rfl, hKa⟩
    go_wp2_with (first
      | (refine wpList_alloc19 rfl rfl ?_; intro q w2b hAb hKb hqb)
      | (refine wpList_store19 rfl _ _ rfl q rowZ rfl rfl rfl (List.replicate 19 0) (by decide) ?hA ?_; (case hA => assumption); intro w2c hAc hKc)
      | (refine wpList_zeros rfl _ _ rfl 19 rfl rfl (by omega) ?_; intro g w3 hB3 hK3 hg3))
    have HQ : Hid (w.heap.size ≤ q ∧ q ≠ g) := ⟨by have := H2.out.2.only.size; have := hKa.size; omega, by have := hAc.lt; omega⟩
    have H3 : Hid (∃ acc L4, acc.length = 0 ∧ threes (c - 0) acc L4 = R3 ∧ St w3 b r v s most L4 xs ∧ Rdv w w3 b r v ∧ Blk w3 g (clOf acc) ∧ w.heap.size ≤ g ∧ Ary 196 w3 q rowZ) := by
      have k2c : Keeps (fun _ => False) w2 w2c := (hKa.trans hKb (fun _ _ h => h)).trans hKc (fun i hi e => by have := hKa.size; omega)
      have k23 : Keeps (fun _ => False) w2 w3 := k2c.trans hK3 (fun _ _ h => h)
      refine ⟨[], L1, rfl, HR3.out, H2.out.1.keptF k23, H2.out.2.trans (Rdv.ofF b r v k23), by rw [clOf_nil]; exact hB3, by have := H2.out.2.only.size; have := k2c.size; omega, hAc.keptF hK3⟩
    clear hB3 hK3 hg3 H2 HR3 hKa hAb hKb hqb hAc hKc HCr
    go_loopw [20] (fun s18 w' => ∃ i : Nat, i ≤ c ∧ s18 = .int .i64 (i : Int) ∧ Hid (∃ acc L4, acc.length = i ∧ threes (c - i) acc L4 = R3 ∧ St w' b r v s most L4 xs ∧ Rdv w w' b r v ∧ Blk w' g (clOf acc) ∧ w.heap.size ≤ g ∧ Ary 196 w' q rowZ)) (fun s18 _ => ((c : Int) - intOf s18).toNat)
    case atStart => exact ⟨0, by omega, rfl, H3⟩
    case round =>
      clear H3
      obtain ⟨i, hi, rfl, HW⟩ := hrel
      by_cases hic : i < c
      · have hiz : (i : Int) < (c : Int) := by omega
        have hi19 : (i : Int) < 19 := by omega
        obtain ⟨acc, L4, hlen, hE, hS, hA, hB, hg, hQ⟩ := HW.out
        clear HW
        obtain ⟨j, hj⟩ : ∃ j, rowL.getD i 0 = j := ⟨_, rfl⟩
        have hj19 : j < 19 := by rw [← hj]; exact rowL_lt ⟨i, by omega⟩
        have hjz : (j : Int) < 19 := by omega
        have hE2 : bnd (getL 3) (fun x => threes (c - (i + 1)) (acc ++ [(x : Int)])) L4 = R3 := by
          rw [show c - i = (c - (i + 1)) + 1 by omega] at hE; exact hE
        have hS1 : St wr.drew b r v s most L4 xs := ⟨hS.blk, hS.rd, hS.own, hS.rb, hS.sz, hS.lim, hS.most, hS.byt⟩
        have hrow : wr.cell? ⟨q, i, none⟩ = some (.int .i64 (j : Int)) := by
          have h19 : i < rowZ.length := by show i < 19; omega
          have e := rowZ_get ⟨i, h19⟩
          simp only at e
          rw [List.getElem?_eq_getElem h19] at e
          rw [hQ.cell i h19, Option.some.inj e, hj]
        have hql : q < wr.heap.size := hQ.lt
        have hgr : g ≠ r := by have := HS0.out.rb; have := HS0.out.lt; omega
        have hr0 : q ≠ r := by have := HS0.out.rb; have := HS0.out.lt; have := HQ.out; omega
        have hqn : ¬ Own3 b r v q := fun e => by have := HS0.out.above3 q e; have := HQ.out; omega
        rcases h4 : getL 3 L4 with _ | ⟨x, L5⟩
        · have e : R3 = none := by rw [← hE2, bnd_none h4]
          have e2 : R = none := by rw [HR.out, e]; rfl
          subst e2
          have HC : Hid (Calls Tryz.prog 97 #[.pointer (some ⟨b, 0, none⟩), .int .i64 3] wr.drew fun e w' => e = .returned (.tuple #[.int .i64 0, .int .i64 700]) ∧ w'.cell? ⟨q, i, none⟩ = some (.int .i64 (j : Int)) ∧ (∃ u, w'.cell? ⟨g, j, none⟩ = some u) ∧ w'.frozen? ⟨g, j, none⟩ = false ∧ Keeps (Own3 b r v) w w') := by
            refine (number_none hS1 3 (by omega) h4).mono ?_
            rintro e w' ⟨rfl, hk⟩
            have hgl : g < wr.drew.heap.size := hB.lt
            have hn : ¬ Own3 b r v g := fun e => by have := HS0.out.above3 g e; omega
            refine ⟨rfl, ?_, ?_, ?_, (⟨hA.only.drew⟩ : Rdv w wr.drew b r v).lost hk⟩
            · rw [World.cell?_of_block (hk.block q hql hqn)]; exact hrow
            · rw [World.cell?_of_block (hk.block g hgl hn)]; exact ⟨_, hB.cell j (by rw [clOf_length]; exact hj19)⟩
            · rw [World.frozen?_of_block (hk.block g hgl hn)]; exact hB.free j
          clear hE hE2 hS hA hB hS1 hlen h4 e HR hQ
          go_wp2
          go_region_with (go_at_call 97; refine HC.out.mono ?_; rintro e w5 ⟨rfl, d1, ⟨u, d2⟩, d3, hk5⟩; have H5 : Hid (Keeps (Own3 b r v) w w5) := hk5; clear hk5)
          all_goals
            go_wp2
            go_ret2
            exact FinPost.noneI (H5.out.setCell (p := ⟨g, j, none⟩) (fun hh => by simp only at hh; omega) _)
        · have HC : Hid (Calls Tryz.prog 97 #[.pointer (some ⟨b, 0, none⟩), .int .i64 3] wr.drew fun e w' => e = .returned (.tuple #[.int .i64 (x : Int), .int .i64 0]) ∧ w'.cell? ⟨q, i, none⟩ = some (.int .i64 (j : Int)) ∧ (∃ u, w'.cell? ⟨g, j, none⟩ = some u) ∧ w'.frozen? ⟨g, j, none⟩ = false ∧ ∃ acc L4, acc.length = i + 1 ∧ threes (c - (i + 1)) acc L4 = R3 ∧ St (w'.setCell ⟨g, j, none⟩ (.int .i64 (x : Int))) b r v s most L4 xs ∧ Rdv w (w'.setCell ⟨g, j, none⟩ (.int .i64 (x : Int))) b r v ∧ Blk (w'.setCell ⟨g, j, none⟩ (.int .i64 (x : Int))) g (clOf acc) ∧ w.heap.size ≤ g ∧ Ary 196 (w'.setCell ⟨g, j, none⟩ (.int .i64 (x : Int))) q rowZ) := by
            refine (number_some hS1 3 x L5 (by omega) h4).mono ?_
            rintro e w' ⟨rfl, hS6, hk⟩
            have hgl : g < wr.drew.heap.size := hB.lt
            have hB6 : Blk w' g (clOf acc) := hB.kept (S := fun k => k = r) (⟨hk.only.os, hk.only.tape, hk.only.output, hk.only.size, hk.only.block⟩ : Keeps (fun k => k = r) wr w') hgr
            have hk7 : Keeps (fun k => k = g) w' (w'.setCell ⟨g, j, none⟩ (.int .i64 (x : Int))) := (Keeps.refl (fun k => k = g) w').setCell (p := ⟨g, j, none⟩) (fun _ => rfl) _
            have hR7 : Rdv w (w'.setCell ⟨g, j, none⟩ (.int .i64 (x : Int))) b r v := ⟨((hA.only.drew).trans hk.only (fun _ _ e => e)).trans hk7 (fun k hh e => by omega)⟩
            obtain ⟨p, p1, p2, p3⟩ := hS6.rd
            have hS7 := (HS0.out.read (p := p) ⟨p1.kept hk7 (fun e => hgr e.symm), hR7.only⟩ p2).1
            rw [← p3] at hS7
            refine ⟨rfl, ?_, ?_, ?_, acc ++ [(x : Int)], L5, by simp [hlen], by rw [← hE2, bnd_eq h4], hS7, hR7, ?_, hg, (hQ.kept (S := fun k => k = r) (⟨hk.only.os, hk.only.tape, hk.only.output, hk.only.size, hk.only.block⟩ : Keeps (fun k => k = r) wr w') hr0).kept hk7 HQ.out.2⟩
            · rw [World.cell?_of_block (hk.only.block q hql hr0)]; exact hrow
            · exact ⟨_, hB6.cell j (by rw [clOf_length]; exact hj19)⟩
            · exact hB6.free j
            · rw [← clOf_set acc (x : Int) (by omega), hlen, hj]
              exact Blk.set hB6 j (x : Int)
          clear hE hE2 hS hA hB hS1 hlen h4 hQ
          go_wp2
          go_region_with (go_at_call 97; refine HC.out.mono ?_; rintro e w5 ⟨rfl, d1, ⟨u, d2⟩, d3, hk5⟩; have H5 : Hid (∃ acc L4, acc.length = i + 1 ∧ threes (c - (i + 1)) acc L4 = R3 ∧ St (w5.setCell ⟨g, j, none⟩ (.int .i64 (x : Int))) b r v s most L4 xs ∧ Rdv w (w5.setCell ⟨g, j, none⟩ (.int .i64 (x : Int))) b r v ∧ Blk (w5.setCell ⟨g, j, none⟩ (.int .i64 (x : Int))) g (clOf acc) ∧ w.heap.size ≤ g ∧ Ary 196 (w5.setCell ⟨g, j, none⟩ (.int .i64 (x : Int))) q rowZ) := hk5; clear hk5)
          all_goals
            clear HC hrow d1 d2 d3
            go_wp2
            go_roundw
            case rel => exact ⟨i + 1, by omega, by push_cast; rfl, H5⟩
            case measure => simp [intOf]; omega
      · obtain rfl : i = c := by omega
        obtain ⟨acc, L4, hlen, hE, hS, hA, hB, hg, hQ⟩ := HW.out
        rw [Nat.sub_self] at hE
        have e3 : R3 = some (acc, L4) := hE.symm
        have HR2 : Hid (R = if errC (clOf acc) = 0 then some (clOf acc, L4) else none) := by rw [HR.out, e3]; exact rfl
        have hrow : Row wr (some ⟨g, 0, none⟩) (clOf acc) := .inr ⟨g, 0, rfl, hB.lt, fun q hq => by rw [Nat.zero_add]; exact hB.cell q hq⟩
        have HC1 : Hid (Calls Tryz.prog 141 #[.slice (some ⟨g, 0, none⟩) 19 19] wr fun e w' => e = .returned (.int .i64 (errC (clOf acc))) ∧ Keeps (fun _ => False) wr w') := by
          have := check_ok (some ⟨g, 0, none⟩) (clOf acc) 19 wr hrow (by rw [clOf_length]; omega)
          rw [clOf_length] at this; exact this
        have HC2 : Hid (fits (clOf acc) = true → ∀ w', Keeps (fun _ => False) wr w' → Calls Tryz.prog 126 #[.slice (some ⟨g, 0, none⟩) 19 19] w' fun e w'' => ∃ f, e = .returned (.pointer (some ⟨f, 0, none⟩)) ∧ Keeps (fun _ => False) w' w'' ∧ Fnd w'' w'.heap.size w''.heap.size f (clOf acc)) := fun hf w' hk => by
          have := finderOf_ok (some ⟨g, 0, none⟩) (clOf acc) 19 w' (hrow.keptF hk) hf
          rw [clOf_length] at this; exact this
        have HF : Hid (errC (clOf acc) = 0 → fits (clOf acc) = true) := fun e => by
          have := errC_zero e
          unfold fits; rw [this.1, this.2]; rfl
        have HS : Hid (St wr b r v s most L4 xs ∧ Rdv w wr b r v) := ⟨hS, hA⟩
        clear HW hlen hE hS hA hB hg e3 HR hrow hQ HQ
        obtain ⟨er, her⟩ : ∃ er, errC (clOf acc) = er := ⟨_, rfl⟩
        rw [her] at HR2 HC1 HF
        generalize clOf acc = ys at *
        clear her
        go_wp2_with fail
        refine HC1.out.mono ?_
        rintro e w4 ⟨rfl, hK4⟩
        have HK4 : Hid (Keeps (fun _ => False) wr w4) := hK4
        clear hK4 HC1
        by_cases h0 : er = 0
        · subst h0
          have e : R = some (ys, L4) := by rw [HR2.out, if_pos rfl]
          subst e
          go_wp2_with fail
          refine (HC2.out (HF.out (by first | rfl | trivial)) w4 HK4.out).mono ?_
          rintro e w5 ⟨f, rfl, hK5, hF5⟩
          have HP : Hid (FinPost (some (ys, L4)) w b r v s most xs (.returned (.tuple #[.pointer (some ⟨f, 0, none⟩), .int .i64 0])) w5) := by
            have k45 : Keeps (fun _ => False) wr w5 := HK4.out.trans hK5 (fun _ _ h => h)
            refine ⟨fun e => by (cases e), fun _ _ e => by
              cases e
              exact ⟨f, rfl, hF5.wider (by have := HS.out.2.only.size; have := HK4.out.size; omega) (Nat.le_refl _) (Nat.le_refl _), HS.out.1.keptF k45, HS.out.2.trans (Rdv.ofF b r v k45)⟩⟩
          clear hK5 hF5 HC2
          go_wp2
          go_ret2
          exact HP.out
        · have e : R = none := by rw [HR2.out, if_neg h0]
          subst e
          have hnb : (er == 0) = false := by simp; exact h0
          have HK : Hid (Keeps (Own3 b r v) w w4) := HS.out.2.lost (HK4.out.mono (fun _ _ h => h.elim))
          clear HC2
          go_wp2
          go_ret2
          exact FinPost.noneI HK.out

end Go.Proofs.YtfbghchgfbjogaaGreat

namespace Go.Proofs.YtfbghchgfbjogaaGreat
open Go.RowKit
open Hf Tb
set_option linter.unusedVariables false
set_option linter.unusedSimpArgs false

def inR (l : List Int) : Prop := ∀ z ∈ l, 0 ≤ z ∧ z ≤ 15
theorem inR_at {l : List Int} (h : inR l) (i : Nat) : 0 ≤ at_ l i ∧ at_ l i ≤ 15 := by
  unfold at_
  by_cases hi : i < l.length
  · rw [List.getD_eq_getElem?_getD, List.getElem?_eq_getElem hi]; exact h _ (List.getElem_mem hi)
  · rw [List.getD_eq_getElem?_getD, List.getElem?_eq_none (by omega)]; simp
theorem inR_rep (m : Nat) (y : Int) (h : 0 ≤ y ∧ y ≤ 15) : inR (List.replicate m y) := fun z hz => by rw [(List.mem_replicate.1 hz).2]; exact h
theorem rle_in {i : Nat} {out r : List Int} {L L' : Bts} (hi : i < 19) (ho : inR out) (h : rle i out L = some (r, L')) : inR r := by
  unfold rle at h
  split at h
  · split at h
    · simp [noL] at h
    · obtain ⟨m, L1, h1, h2⟩ := bnd_some h
      simp [retL] at h2
      rw [← h2.1]; exact inR_rep _ _ (inR_at ho _)
  · split at h
    · obtain ⟨m, L1, h1, h2⟩ := bnd_some h
      simp [retL] at h2
      rw [← h2.1]; exact inR_rep _ _ (by decide)
    · split at h
      · obtain ⟨m, L1, h1, h2⟩ := bnd_some h
        simp [retL] at h2
        rw [← h2.1]; exact inR_rep _ _ (by decide)
      · simp [retL] at h; rw [← h.1]
        intro z hz
        rw [List.mem_singleton] at hz
        omega
theorem runsF_in (ys : List Int) (hy : ys.length ≤ 19) (many : Nat) : ∀ (n : Nat) (out : List Int) (L : Bts) (all : List Int) (L' : Bts), inR out → runsF ys many n out L = some (all, L') → inR all
  | 0, _, _, _, _, _, h => by simp [runsF, noL] at h
  | n + 1, out, L, all, L', ho, h => by
    rw [runsF] at h
    split at h
    · obtain ⟨i, L1, h1, h2⟩ := bnd_some h
      obtain ⟨r, L2, h3, h4⟩ := bnd_some h2
      have h5 := rle_in (by have := symN_small h1; omega) ho h3
      refine runsF_in ys hy many n _ _ _ _ (fun z hz => ?_) h4
      rcases List.mem_append.1 hz with hz | hz
      · exact ho z hz
      · exact h5 z hz
    · split at h
      · simp [retL] at h; rw [← h.1]; exact ho
      · simp [noL] at h
theorem runs_in {ys : List Int} (hy : ys.length ≤ 19) {many : Nat} {L L' : Bts} {all : List Int} (h : runs ys many [] L = some (all, L')) : inR all :=
  runsF_in ys hy many _ [] L all L' (fun z hz => by cases hz) h
theorem inR_may {l : List Int} (h : inR l) (h1 : 1 ≤ l.length) (h2 : l.length ≤ 288) : may l = true := by
  unfold may
  rw [decide_eq_true h1, decide_eq_true h2, Bool.true_and, Bool.true_and, List.all_eq_true]
  intro z hz
  have := h z hz
  unfold fine
  rw [decide_eq_true this.1, decide_eq_true this.2]; rfl
theorem cnt_sum (k : Nat) : ∀ l : List Int, inR l → 0 ≤ l.sum ∧ (k : Int) * (cnt l k : Int) ≤ l.sum
  | [], _ => by simp [cnt]
  | y :: r, h => by
    have h1 := cnt_sum k r (fun z hz => h z (List.mem_cons_of_mem _ hz))
    have h2 := h y (List.mem_cons_self ..)
    unfold cnt at *
    rw [List.sum_cons]
    by_cases e : y = (k : Int)
    · rw [List.countP_cons_of_pos (by simpa using e)]
      push_cast
      rw [Int.mul_add]
      omega
    · rw [List.countP_cons_of_neg (by simpa using e)]
      omega
theorem sparse_fits {l : List Int} (h : inR l) (h1 : 1 ≤ l.length) (h2 : l.length ≤ 288) (hs : l.sum ≤ 1) : fits l = true := by
  unfold fits
  rw [inR_may h h1 h2, Bool.true_and]
  have c : ∀ k : Nat, 2 ≤ k → cn l k = 0 := fun k hk => by
    have := (cnt_sum k l h).2
    unfold cn
    rw [if_neg (by omega)]
    rcases Nat.eq_zero_or_pos (cnt l k) with e | e
    · exact e
    · exfalso
      have : (k : Int) * 1 ≤ (k : Int) * (cnt l k : Int) := Int.mul_le_mul_of_nonneg_left (by omega) (by omega)
      omega
  have c1 : cn l 1 ≤ 1 := by
    have := (cnt_sum 1 l h).2
    unfold cn; rw [if_neg (by omega)]; omega
  have c0 : cn l 0 = 0 := rfl
  have : room l ≤ 32768 := by
    unfold room
    simp only [sumTo]
    rw [c0, c 2 (by omega), c 3 (by omega), c 4 (by omega), c 5 (by omega), c 6 (by omega), c 7 (by omega), c 8 (by omega), c 9 (by omega), c 10 (by omega), c 11 (by omega), c 12 (by omega), c 13 (by omega), c 14 (by omega), c 15 (by omega)]
    omega
  exact decide_eq_true this
theorem full_fits {l : List Int} (h : errC l = 0) : fits l = true := by
  have := errC_zero h
  unfold fits; rw [this.1, this.2]; rfl
theorem mayB_fits {l : List Int} (h : mayB l = true) : fits l = true := by
  unfold mayB at h
  rw [Bool.and_eq_true, decide_eq_true_eq] at h
  exact full_fits h.1
theorem mayD_fits {l : List Int} (hr : inR l) (h1 : 1 ≤ l.length) (h2 : l.length ≤ 288) (h : mayD l = true) : fits l = true := by
  unfold mayD at h
  rw [Bool.or_eq_true, decide_eq_true_eq, decide_eq_true_eq] at h
  rcases h with h | h
  · exact sparse_fits hr h1 h2 h
  · exact full_fits h

/-- What lengths leaves. -/
def LenPost (R : Option ((List Int × List Int) × Bts)) (w : World) (b r : Nat) (v : Value) (s : ByteArray) (most : Nat) (xs : List Nat) (e : Ending) (w' : World) : Prop :=
  (R = none → e = .returned (.tuple #[.slice none 0 0, .slice none 0 0, .int .i64 700]) ∧ Keeps (Own3 b r v) w w') ∧
  ∀ xy L', R = some (xy, L') → ∃ a1 c1 a2 c2, e = .returned (.tuple #[.slice a1 xy.1.length c1, .slice a2 xy.2.length c2, .int .i64 0]) ∧ Row w' a1 xy.1 ∧ Row w' a2 xy.2 ∧ fits xy.1 = true ∧ fits xy.2 = true ∧ St w' b r v s most L' xs ∧ Rdv w w' b r v
theorem LenPost.noneI {w : World} {b r : Nat} {v : Value} {s : ByteArray} {most : Nat} {xs : List Nat} {w' : World} (h : Keeps (Own3 b r v) w w') : LenPost none w b r v s most xs (.returned (.tuple #[.slice none 0 0, .slice none 0 0, .int .i64 700])) w' :=
  ⟨fun _ => ⟨rfl, h⟩, fun _ _ e => by cases e⟩
theorem St.awayNew {w : World} {b r : Nat} {v : Value} {s : ByteArray} {most : Nat} {L : Bts} {xs : List Nat} (h : St w b r v s most L xs) (lo hi : Nat) (hl : w.heap.size ≤ lo) : Away lo hi b r v :=
  ⟨.inl (by have := h.lt; omega), .inl (by have := h.lt; have := h.rb; omega), fun k e => .inl (by have := (h.ownlt k e).2; omega)⟩

set_option maxHeartbeats 4000000 in
set_option maxRecDepth 100000 in
theorem lengths_ok7 {w : World} {b r : Nat} {v : Value} {s : ByteArray} {most : Nat} {L : Bts} {xs : List Nat} (h : St w b r v s most L xs) :
    Calls Tryz.prog 120 #[.pointer (some ⟨b, 0, none⟩)] w (LenPost (dynH L) w b r v s most xs) := by
  obtain ⟨R, hR⟩ : ∃ R, dynH L = R := ⟨_, rfl⟩
  rw [hR]
  unfold dynH at hR
  have HS : Hid (St w b r v s most L xs) := h
  rcases h1 : aboveL 257 5 L with _ | ⟨a, L1⟩
  · have e : R = none := by rw [← hR, bnd_none h1]
    subst e
    have HC : Hid (Calls Tryz.prog 129 #[.pointer (some ⟨b, 0, none⟩), .int .i64 257, .int .i64 5] w fun e w' => e = .returned (.tuple #[.int .i64 0, .int .i64 700]) ∧ Keeps (Own3 b r v) w w') := above_none h 257 5 (by omega) h1
    clear h h1 hR
    go_enter Tryz.func120, Tryz.ntmps120
    go_wp2_with fail
    refine HC.out.mono ?_
    rintro e w2 ⟨rfl, hk⟩
    have HK : Hid (Keeps (Own3 b r v) w w2) := hk
    clear hk HC
    go_wp2
    go_ret3
    exact LenPost.noneI HK.out
  · rw [bnd_eq h1] at hR
    have HR1 : Hid (bnd (aboveL 1 5) (fun b => if 286 < a ∨ 30 < b then noL else bnd (aboveL 4 4) fun c => bnd (threes c []) fun t => dynC a b t) L1 = R) := hR
    have HC : Hid (Calls Tryz.prog 129 #[.pointer (some ⟨b, 0, none⟩), .int .i64 257, .int .i64 5] w fun e w' => e = .returned (.tuple #[.int .i64 (a : Int), .int .i64 0]) ∧ St w' b r v s most L1 xs ∧ Rdv w w' b r v) := above_some h 257 5 a L1 (by omega) (by omega) h1
    have ha : 257 ≤ a ∧ a ≤ 288 := by
      obtain ⟨q, hq, rfl⟩ := aboveL_some h1
      have h2 := getL_lt hq
      omega
    clear h h1 hR
    go_enter Tryz.func120, Tryz.ntmps120
    go_wp2_with fail
    refine HC.out.mono ?_
    rintro e w1 ⟨rfl, hS1, hA1⟩
    have H1 : Hid (St w1 b r v s most L1 xs ∧ Rdv w w1 b r v) := ⟨hS1, hA1⟩
    clear hS1 hA1 HC
    rcases h2 : aboveL 1 5 L1 with _ | ⟨d, L2⟩
    · have e : R = none := by rw [← HR1.out, bnd_none h2]
      subst e
      have HC : Hid (Calls Tryz.prog 129 #[.pointer (some ⟨b, 0, none⟩), .int .i64 1, .int .i64 5] w1 fun e w' => e = .returned (.tuple #[.int .i64 0, .int .i64 700]) ∧ Keeps (Own3 b r v) w1 w') := above_none H1.out.1 1 5 (by omega) h2
      clear h2 HR1
      go_wp2_with fail
      refine HC.out.mono ?_
      rintro e w2 ⟨rfl, hk⟩
      have HK : Hid (Keeps (Own3 b r v) w w2) := H1.out.2.lost hk
      clear hk HC
      go_wp2
      go_ret3
      exact LenPost.noneI HK.out
    · have HR2 : Hid ((if 286 < a ∨ 30 < d then noL else bnd (aboveL 4 4) fun c => bnd (threes c []) fun t => dynC a d t) L2 = R) := by
        have := HR1.out; rw [bnd_eq h2] at this; exact this
      have HC : Hid (Calls Tryz.prog 129 #[.pointer (some ⟨b, 0, none⟩), .int .i64 1, .int .i64 5] w1 fun e w' => e = .returned (.tuple #[.int .i64 (d : Int), .int .i64 0]) ∧ St w' b r v s most L2 xs ∧ Rdv w1 w' b r v) := above_some H1.out.1 1 5 d L2 (by omega) (by omega) h2
      have hd : 1 ≤ d ∧ d ≤ 32 := by
        obtain ⟨q, hq, rfl⟩ := aboveL_some h2
        have h3 := getL_lt hq
        omega
      clear h2 HR1
      go_wp2_with fail
      refine HC.out.mono ?_
      rintro e w2 ⟨rfl, hS2, hA2⟩
      have H2 : Hid (St w2 b r v s most L2 xs ∧ Rdv w w2 b r v) := ⟨hS2, H1.out.2.trans hA2⟩
      clear hS2 hA2 HC H1
      by_cases hbig : 286 < a ∨ 30 < d
      · have e : R = none := by have := HR2.out; rw [if_pos hbig] at this; exact this.symm
        subst e
        clear HR2
        by_cases hb1 : 286 < a
        · have hbz : 286 < (a : Int) := by omega
          go_wp2
          go_ret3
          exact LenPost.noneI H2.out.2.keep
        · have hbz : ¬ 286 < (a : Int) := by omega
          have hdz : 30 < (d : Int) := by omega
          go_wp2
          go_ret3
          exact LenPost.noneI H2.out.2.keep
      · have hbz : ¬ 286 < (a : Int) := by omega
        have hdz : ¬ 30 < (d : Int) := by omega
        have HR3 : Hid (bnd lfP (fun ys => bnd (runs ys (a + d) []) fun all => dynP a all) L2 = R) := by
          have := HR2.out; rw [if_neg hbig, lfP_dyn] at this; exact this
        have HC : Hid (Calls Tryz.prog 130 #[.pointer (some ⟨b, 0, none⟩)] w2 (FinPost (lfP L2) w2 b r v s most xs)) := lengthFinder_ok H2.out.1
        clear HR2 hbig
        go_wp2_with fail
        refine HC.out.mono ?_
        intro e w3 hP
        clear HC
        rcases h3 : lfP L2 with _ | ⟨ys, L3⟩
        · obtain ⟨rfl, hk⟩ := hP.1 h3
          have HK : Hid (Keeps (Own3 b r v) w w3) := H2.out.2.lost hk
          have e : R = none := by rw [← HR3.out, bnd_none h3]
          subst e
          clear hP h3 hk
          go_wp2
          go_ret3
          exact LenPost.noneI HK.out
        · obtain ⟨f, rfl, hF3, hS3, hA3⟩ := hP.2 ys L3 h3
          have hyl : ys.length = 19 := by
            unfold lfP at h3
            obtain ⟨c, L5, h5, h6⟩ := bnd_some h3
            obtain ⟨t, L6, h7, h8⟩ := bnd_some h6
            split at h8
            · simp [retL] at h8; rw [← h8.1]; exact clOf_length t
            · simp [noL] at h8
          have H3 : Hid (St w3 b r v s most L3 xs ∧ Rdv w w3 b r v ∧ bnd (runs ys (a + d) []) (fun all => dynP a all) L3 = R ∧ ys.length = 19) := ⟨hS3, H2.out.2.trans hA3, by rw [← HR3.out, bnd_eq h3], hyl⟩
          have HC : Hid (Calls Tryz.prog 131 #[.pointer (some ⟨b, 0, none⟩), .pointer (some ⟨f, 0, none⟩), .int .i64 ((a : Int) + (d : Int))] w3 (RowPost (runs ys (a + d) [] L3) w3 b r v s most xs)) := by
            have := runs_ok hS3 hF3 (H2.out.1.awayNew _ _ (Nat.le_refl _)) (by omega) (a + d) (by omega)
            rw [show ((a + d : Nat) : Int) = (a : Int) + (d : Int) by push_cast; rfl] at this
            exact this
          clear hP h3 hF3 hS3 hA3 HR3 H2 hyl
          go_wp2_with fail
          refine HC.out.mono ?_
          intro e w4 hP
          clear HC
          rcases h4 : runs ys (a + d) [] L3 with _ | ⟨all, L4⟩
          · obtain ⟨rfl, hk⟩ := hP.1 h4
            have HK : Hid (Keeps (Own3 b r v) w w4) := H3.out.2.1.lost hk
            have e : R = none := by rw [← H3.out.2.2.1, bnd_none h4]
            subst e
            clear hP h4 hk
            go_wp2
            go_ret3
            exact LenPost.noneI HK.out
          · obtain ⟨u, rfl, hO4, hS4, hA4⟩ := hP.2 all L4 h4
            obtain ⟨ad, cap, rfl, hrow, hcap, _⟩ := own_row hO4
            have hal := (runs_len h4).2
            have hin := runs_in (by rw [H3.out.2.2.2]; omega) h4
            obtain ⟨g, off, hgo, hgl, hcell⟩ := hrow.spot (by omega)
            obtain rfl := hgo
            have hx1 : (all.take a).length = a := by rw [List.length_take]; omega
            have hx2 : (all.drop a).length = d := by rw [List.length_drop]; omega
            have hoff : off = 0 := by
              rcases hO4.2 with ⟨e, _⟩ | ⟨g', c', cur, e, _⟩
              · cases e
              · cases e; rfl
            subst hoff
            have hr1 : Row w4 (some ⟨g, 0, none⟩) (all.take a) := .inr ⟨g, 0, rfl, hgl, fun i hi => by
              rw [List.getElem_take]; exact hcell i (by omega)⟩
            have hr2 : Row w4 (some ⟨g, a, none⟩) (all.drop a) := .inr ⟨g, a, rfl, hgl, fun i hi => by
              rw [List.getElem_drop]; have := hcell (a + i) (by omega); rw [Nat.zero_add] at this; exact this⟩
            have hin1 : inR (all.take a) := fun z hz => hin z (List.mem_of_mem_take hz)
            have hin2 : inR (all.drop a) := fun z hz => hin z (List.mem_of_mem_drop hz)
            have H4 : Hid (St w4 b r v s most L4 xs ∧ Rdv w w4 b r v ∧ dynP a all L4 = R) := ⟨hS4, H3.out.2.1.trans hA4, by rw [← H3.out.2.2.1, bnd_eq h4]⟩
            rw [hal] at hcap
            rw [hal]
            have HC1 : Hid (∀ w', Keeps (fun _ => False) w4 w' → Calls Tryz.prog 132 #[.slice (some ⟨g, 0, none⟩) a cap] w' fun e w'' => e = .returned (.bool (mayB (all.take a))) ∧ Keeps (fun _ => False) w' w'') := fun w' hk => by
              have := mayTellBytes_ok (some ⟨g, 0, none⟩) (all.take a) cap w' (hr1.keptF hk) (by omega) (by omega)
              rw [hx1] at this; exact this
            have HC2 : Hid (∀ w', Keeps (fun _ => False) w4 w' → Calls Tryz.prog 133 #[.slice (some ⟨g, a, none⟩) d (cap - a)] w' fun e w'' => e = .returned (.bool (mayD (all.drop a))) ∧ Keeps (fun _ => False) w' w'') := fun w' hk => by
              have := mayTellDists_ok (some ⟨g, a, none⟩) (all.drop a) (cap - a) w' (hr2.keptF hk) (by omega) (fun i hi => hin2 _ (List.getElem_mem hi))
              rw [hx2] at this; exact this
            have HX : Hid ((all.take a).length = a ∧ (all.drop a).length = d ∧ Row w4 (some ⟨g, 0, none⟩) (all.take a) ∧ Row w4 (some ⟨g, a, none⟩) (all.drop a) ∧ inR (all.take a) ∧ inR (all.drop a)) := ⟨hx1, hx2, hr1, hr2, hin1, hin2⟩
            have hca : ¬ (cap = a) := by omega
            have hn1 : (a : Int) ≤ ((a + d : Nat) : Int) := by omega
            have hn2 : (a : Int) ≤ (cap : Int) := by omega
            have hn3 : ((a + d : Nat) : Int) ≤ (cap : Int) := by omega
            have hn4 : a + d - a = d := by omega
            clear hP h4 hO4 hS4 hA4 hrow hal hin hgl hcell hx1 hx2 hr1 hr2 hin1 hin2 H3
            obtain ⟨x, hx⟩ : ∃ x, all.take a = x := ⟨_, rfl⟩
            obtain ⟨y, hy⟩ : ∃ y, all.drop a = y := ⟨_, rfl⟩
            have HR5 : Hid (R = if mayB x && mayD y then some ((x, y), L4) else none) := by
              show R = _
              rw [← H4.out.2.2, ← hx, ← hy]
              unfold dynP
              split <;> rfl
            rw [hx, hy] at HX
            rw [hx] at HC1
            rw [hy] at HC2
            clear hx hy
            obtain ⟨p, hp⟩ : ∃ p, mayB x = p := ⟨_, rfl⟩
            obtain ⟨q, hq⟩ : ∃ q, mayD y = q := ⟨_, rfl⟩
            have HPQ : Hid (mayB x = p ∧ mayD y = q) := ⟨hp, hq⟩
            rw [hp] at HC1 HR5
            rw [hq] at HC2 HR5
            clear hp hq
            go_wp2
            go_quiet (fail)
            go_wp2_with fail
            refine (HC1.out (w4.drewN nq) ((Keeps.refl _ w4).drewN nq)).mono ?_
            rintro e w5 ⟨rfl, hK5⟩
            have HK5 : Hid (Keeps (fun _ => False) w4 w5) := ((Keeps.refl _ w4).drewN nq).trans hK5 (fun _ _ h => h)
            clear hK5 HC1
            cases p
            · have e : R = none := by rw [HR5.out]; rfl
              subst e
              have HK : Hid (Keeps (Own3 b r v) w w5) := H4.out.2.1.lost (HK5.out.mono (fun _ _ h => h.elim))
              clear HC2
              go_wp2
              go_ret3
              exact LenPost.noneI HK.out
            · go_wp2_with fail
              refine (HC2.out w5 HK5.out).mono ?_
              rintro e w6 ⟨rfl, hK6⟩
              have HK6 : Hid (Keeps (fun _ => False) w4 w6) := HK5.out.trans hK6 (fun _ _ h => h)
              clear hK6 HC2
              cases q
              · have e : R = none := by rw [HR5.out]; rfl
                subst e
                have HK : Hid (Keeps (Own3 b r v) w w6) := H4.out.2.1.lost (HK6.out.mono (fun _ _ h => h.elim))
                go_wp2
                go_ret3
                exact LenPost.noneI HK.out
              · have e : R = some ((x, y), L4) := by rw [HR5.out]; rfl
                subst e
                have HP : Hid (LenPost (some ((x, y), L4)) w b r v s most xs (.returned (.tuple #[.slice (some ⟨g, 0, none⟩) a cap, .slice (some ⟨g, a, none⟩) d (cap - a), .int .i64 0])) w6) := by
                  obtain ⟨x1, x2, r1, r2, i1, i2⟩ := HX.out
                  refine ⟨fun e => by (cases e), fun _ _ e => ?_⟩
                  cases e
                  exact ⟨_, cap, _, cap - a, by simp only [x1, x2], r1.keptF HK6.out, r2.keptF HK6.out, mayB_fits HPQ.out.1, mayD_fits i2 (show 1 ≤ y.length by omega) (show y.length ≤ 288 by omega) HPQ.out.2, H4.out.1.keptF HK6.out, H4.out.2.1.trans (Rdv.ofF b r v HK6.out)⟩
                go_wp2
                go_ret3
                exact HP.out

end Go.Proofs.YtfbghchgfbjogaaGreat

/-
  repeated, run and runs of package inflate: the lengths that a dynamic block tells. runs, mayTellBytes and mayTellDists of package inflate. lengths of package block: what stands ahead of a dynamic block's tokens.
-/
import Derived.Test.YtdbfbijalhknnabGreatRows
import Derived.Test.YtdbfbijalhknnabGreatG17
namespace Go.Proofs.YtdbfbijalhknnabGreat
open Go.RowKit
open Hf Tb
set_option linter.unusedVariables false
set_option linter.unusedSimpArgs false

/-- What a call leaves that reads a few lengths into a block of their own. -/
def RunPost (R : Option (List Int × Bts)) (w : World) (b r : Nat) (v : Value) (s : ByteArray) (most : Nat) (xs : List Nat) (e : Ending) (w' : World) : Prop :=
  (R = none → e = .returned (.tuple #[.slice none 0 0, .int .i64 700]) ∧ Keeps (Own3 b r v) w w') ∧
  ∀ rs L', R = some (rs, L') → ∃ g, e = .returned (.tuple #[.slice (some ⟨g, 0, none⟩) rs.length rs.length, .int .i64 0]) ∧ Blk w' g rs ∧ w.heap.size ≤ g ∧ St w' b r v s most L' xs ∧ Rdv w w' b r v
theorem RunPost.noneI {w : World} {b r : Nat} {v : Value} {s : ByteArray} {most : Nat} {xs : List Nat} {w' : World} (h : Keeps (Own3 b r v) w w') : RunPost none w b r v s most xs (.returned (.tuple #[.slice none 0 0, .int .i64 700])) w' :=
  ⟨fun _ => ⟨rfl, h⟩, fun _ _ e => by cases e⟩
theorem RunPost.someI {w : World} {b r : Nat} {v : Value} {s : ByteArray} {most : Nat} {xs : List Nat} {w' : World} {rs : List Int} {L' : Bts} {g n : Nat} (hn : rs.length = n) (hB : Blk w' g rs) (hg : w.heap.size ≤ g) (hS : St w' b r v s most L' xs) (hA : Rdv w w' b r v) : RunPost (some (rs, L')) w b r v s most xs (.returned (.tuple #[.slice (some ⟨g, 0, none⟩) n n, .int .i64 0])) w' :=
  ⟨fun e => by (cases e), fun _ _ e => by cases e; subst hn; exact ⟨g, rfl, hB, hg, hS, hA⟩⟩

set_option maxHeartbeats 2000000 in
set_option maxRecDepth 100000 in
theorem repeated_ok {w : World} {b r : Nat} {v : Value} {s : ByteArray} {most : Nat} {L : Bts} {xs : List Nat} (h : St w b r v s most L xs) (y : Int) (a k : Nat) (ha1 : 1 ≤ a) (ha : a ≤ 11) (hk : k ≤ 7) :
    Calls Tryz.prog 151 #[.pointer (some ⟨b, 0, none⟩), .int .i64 y, .int .i64 (a : Int), .int .i64 (k : Int)] w (RunPost (bnd (aboveL a k) (fun m => retL (List.replicate m y)) L) w b r v s most xs) := by
  obtain ⟨R, hR⟩ : ∃ R, bnd (aboveL a k) (fun m => retL (List.replicate m y)) L = R := ⟨_, rfl⟩
  rw [hR]
  rcases h1 : aboveL a k L with _ | ⟨m, L1⟩
  · have e : R = none := by rw [← hR, bnd_none h1]
    subst e
    have HC : Hid (Calls Tryz.prog 143 #[.pointer (some ⟨b, 0, none⟩), .int .i64 (a : Int), .int .i64 (k : Int)] w fun e w' => e = .returned (.tuple #[.int .i64 0, .int .i64 700]) ∧ Keeps (Own3 b r v) w w') := above_none h a k (by omega) h1
    clear h h1 hR
    go_enter Tryz.func151, Tryz.ntmps151
    go_wp2_with fail
    refine HC.out.mono ?_
    rintro e w2 ⟨rfl, hk2⟩
    have HK : Hid (Keeps (Own3 b r v) w w2) := hk2
    clear hk2 HC
    go_wp2
    go_ret2
    exact RunPost.noneI HK.out
  · have e : R = some (List.replicate m y, L1) := by rw [← hR, bnd_eq h1]; rfl
    subst e
    have HC : Hid (Calls Tryz.prog 143 #[.pointer (some ⟨b, 0, none⟩), .int .i64 (a : Int), .int .i64 (k : Int)] w fun e w' => e = .returned (.tuple #[.int .i64 (m : Int), .int .i64 0]) ∧ St w' b r v s most L1 xs ∧ Rdv w w' b r v) := above_some h a k m L1 (by omega) (by omega) h1
    have hm : 1 ≤ m ∧ m ≤ 300 := by
      obtain ⟨q, hq, rfl⟩ := aboveL_some h1
      have h2 := getL_lt hq
      have h3 : (2 : Nat) ^ k ≤ 2 ^ 7 := Nat.pow_le_pow_right (by decide) hk
      omega
    clear h h1 hR
    go_enter Tryz.func151, Tryz.ntmps151
    go_wp2_with fail
    refine HC.out.mono ?_
    rintro e w2 ⟨rfl, hS2, hA2⟩
    have H2 : Hid (St w2 b r v s most L1 xs ∧ Rdv w w2 b r v) := ⟨hS2, hA2⟩
    have HC2 : Hid (Calls Tryz.prog 65 #[.slice (some ⟨w2.heap.size, 0, none⟩) 1 1, .int .i64 (m : Int)] (w2.alloc (.cells #[.int .i64 y] 3)) fun e w' => ∃ g, e = .returned (.slice (some ⟨g, 0, none⟩) m m) ∧ Keeps (fun _ => False) (w2.alloc (.cells #[.int .i64 y] 3)) w' ∧ (w2.alloc (.cells #[.int .i64 y] 3)).heap.size ≤ g ∧ Blk w' g (List.replicate m y)) := repeat_ok y w2.heap.size m _ (Blk.lit w2 [y]) hm.1 hm.2
    clear hS2 hA2 HC hm
    go_wp2_with fail
    refine HC2.out.mono ?_
    rintro e w3 ⟨g, rfl, hK3, hg3, hB3⟩
    have HP : Hid (RunPost (some (List.replicate m y, L1)) w b r v s most xs (.returned (.tuple #[.slice (some ⟨g, 0, none⟩) m m, .int .i64 0])) w3) := by
      have k2 : Keeps (fun _ => False) w2 w3 := ((Keeps.refl _ w2).alloc _).trans hK3 (fun _ _ h => h)
      refine RunPost.someI (by simp) hB3 ?_ (H2.out.1.keptF k2) (H2.out.2.trans (Rdv.ofF b r v k2))
      have := H2.out.2.keep.size
      have : w2.heap.size ≤ g := by simp at hg3; omega
      omega
    clear HC2 hK3 hg3 hB3 H2
    go_wp2
    go_ret2
    exact HP.out

set_option maxHeartbeats 2000000 in
set_option maxRecDepth 100000 in
theorem run_ok {w : World} {b r : Nat} {v : Value} {s : ByteArray} {most : Nat} {L : Bts} {xs : List Nat} (h : St w b r v s most L xs) (i : Nat) (a : Option Addr) (out : List Int) (cap : Nat) (hR : Row w a out) (hl : out.length ≤ 100000) (hi : i ≤ 100000) :
    Calls Tryz.prog 150 #[.pointer (some ⟨b, 0, none⟩), .int .i64 (i : Int), .slice a out.length cap] w (RunPost (rle i out L) w b r v s most xs) := by
  have HS : Hid (St w b r v s most L xs) := h
  have HF : ∀ (y : Int) (p k : Nat), 1 ≤ p → p ≤ 11 → k ≤ 7 → Hid (Calls Tryz.prog 151 #[.pointer (some ⟨b, 0, none⟩), .int .i64 y, .int .i64 (p : Int), .int .i64 (k : Int)] w (RunPost (bnd (aboveL p k) (fun m => retL (List.replicate m y)) L) w b r v s most xs)) := fun y p k h1 h2 h3 => repeated_ok h y p k h1 h2 h3
  clear h
  have fin : ∀ R e w2, RunPost R w b r v s most xs e w2 → (e = .returned (.tuple #[.slice none 0 0, .int .i64 700])) ∨ ∃ u : Value, e = .returned (.tuple #[u, .int .i64 0]) := by
    intro R e w2 hP
    rcases R with _ | ⟨rs, L'⟩
    · exact .inl (hP.1 rfl).1
    · obtain ⟨g, hg, _⟩ := hP.2 rs L' rfl; exact .inr ⟨_, hg⟩
  by_cases h16 : i = 16
  · subst h16
    by_cases h0 : out.length = 0
    · have e : rle 16 out L = none := by unfold rle; rw [if_pos rfl, if_pos h0]; rfl
      rw [e, h0]
      clear e h0 hR HF fin
      go_enter Tryz.func150, Tryz.ntmps150
      go_wp2
      go_ret2
      exact RunPost.noneI (Keeps.refl _ _)
    · have e : rle 16 out L = bnd (aboveL 3 2) (fun m => retL (List.replicate m (at_ out (out.length - 1)))) L := by unfold rle; rw [if_pos rfl, if_neg h0]
      rw [e]
      have HC := HF (at_ out (out.length - 1)) 3 2 (by omega) (by omega) (by omega)
      obtain ⟨q, off, rfl, hq1, hq2⟩ := hR.spot (by omega)
      obtain ⟨j, hj⟩ : ∃ j, out.length - 1 = j := ⟨_, rfl⟩
      have hcell := hq2 (out.length - 1) (by omega)
      rw [← at_eq (out.length - 1) (by omega)] at hcell
      rw [hj] at HC hcell ⊢
      obtain ⟨y, hy⟩ : ∃ y, at_ out j = y := ⟨_, rfl⟩
      rw [hy] at HC hcell ⊢
      obtain ⟨R, hRR⟩ : ∃ R, bnd (aboveL 3 2) (fun m => retL (List.replicate m y)) L = R := ⟨_, rfl⟩
      rw [hRR] at HC ⊢
      have hw1 : IntKind.i64.wrap ((out.length : Int) - 1) = (j : Int) := by rw [wrap_i64_small _ (by omega) (by omega)]; omega
      have hw2 : wrap64 ((out.length : Int) - 1) = (j : Int) := by unfold wrap64; omega
      have hw3 : (out.length : Int) - 1 = (j : Int) := by omega
      have hjl : (j : Int) < (out.length : Int) := by omega
      have hn0 : ¬ ((out.length : Int) = 0) := by omega
      clear hRR hy hj e h0 hR hq2 HF hw3
      generalize out.length = N at *
      go_enter Tryz.func150, Tryz.ntmps150
      go_wp2_with fail
      refine HC.out.mono ?_
      intro e w2 hP
      have HP : Hid (RunPost R w b r v s most xs e w2) := hP
      rcases fin R e w2 hP with rfl | ⟨u, rfl⟩
      all_goals
        clear hP HC hcell fin
        go_wp2
        go_ret2
        exact HP.out
  · by_cases h17 : i = 17
    · subst h17
      have e : rle 17 out L = bnd (aboveL 3 3) (fun m => retL (List.replicate m 0)) L := by unfold rle; rw [if_neg (by decide), if_pos rfl]
      rw [e]
      have HC := HF 0 3 3 (by omega) (by omega) (by omega)
      obtain ⟨R, hRR⟩ : ∃ R, bnd (aboveL 3 3) (fun m => retL (List.replicate m (0 : Int))) L = R := ⟨_, rfl⟩
      rw [hRR] at HC ⊢
      clear hRR e hR HF
      go_enter Tryz.func150, Tryz.ntmps150
      go_wp2_with fail
      refine HC.out.mono ?_
      intro e w2 hP
      have HP : Hid (RunPost R w b r v s most xs e w2) := hP
      rcases fin R e w2 hP with rfl | ⟨u, rfl⟩
      all_goals
        clear hP HC fin
        go_wp2
        go_ret2
        exact HP.out
    · by_cases h18 : i = 18
      · subst h18
        have e : rle 18 out L = bnd (aboveL 11 7) (fun m => retL (List.replicate m 0)) L := by unfold rle; rw [if_neg (by decide), if_neg (by decide), if_pos rfl]
        rw [e]
        have HC := HF 0 11 7 (by omega) (by omega) (by omega)
        obtain ⟨R, hRR⟩ : ∃ R, bnd (aboveL 11 7) (fun m => retL (List.replicate m (0 : Int))) L = R := ⟨_, rfl⟩
        rw [hRR] at HC ⊢
        clear hRR e hR HF
        go_enter Tryz.func150, Tryz.ntmps150
        go_wp2_with fail
        refine HC.out.mono ?_
        intro e w2 hP
        have HP : Hid (RunPost R w b r v s most xs e w2) := hP
        rcases fin R e w2 hP with rfl | ⟨u, rfl⟩
        all_goals
          clear hP HC fin
          go_wp2
          go_ret2
          exact HP.out
      · have e : rle i out L = some ([(i : Int)], L) := by unfold rle; rw [if_neg h16, if_neg h17, if_neg h18]; rfl
        rw [e]
        have h1 : ¬ ((i : Int) = 16) := by omega
        have h2 : ¬ ((i : Int) = 17) := by omega
        have h3 : ¬ ((i : Int) = 18) := by omega
        clear e hR HF fin
        go_enter Tryz.func150, Tryz.ntmps150
        go_wp2
        go_ret2
        have k2 : Keeps (fun _ => False) w (w.alloc (.cells #[.int .i64 (i : Int)] 3)) := (Keeps.refl _ w).alloc _
        exact RunPost.someI (n := 1) rfl (Blk.lit w [(i : Int)]) (Nat.le_refl _) (HS.out.keptF k2) (Rdv.ofF b r v k2)

theorem above_le {a k m : Nat} {L L' : Bts} (ha : a ≤ 11) (hk : k ≤ 7) (h : aboveL a k L = some (m, L')) : m ≤ 300 := by
  obtain ⟨q, hq, rfl⟩ := aboveL_some h
  have h2 := getL_lt hq
  have h3 : (2 : Nat) ^ k ≤ 2 ^ 7 := Nat.pow_le_pow_right (by decide) hk
  omega
theorem rle_le {i : Nat} {out r : List Int} {L L' : Bts} (h : rle i out L = some (r, L')) : r.length ≤ 300 := by
  unfold rle at h
  split at h
  · split at h
    · simp [noL] at h
    · obtain ⟨m, L1, h1, h2⟩ := bnd_some h
      simp [retL] at h2
      rw [← h2.1]; simp; exact above_le (by omega) (by omega) h1
  · split at h
    · obtain ⟨m, L1, h1, h2⟩ := bnd_some h
      simp [retL] at h2
      rw [← h2.1]; simp; exact above_le (by omega) (by omega) h1
    · split at h
      · obtain ⟨m, L1, h1, h2⟩ := bnd_some h
        simp [retL] at h2
        rw [← h2.1]; simp; exact above_le (by omega) (by omega) h1
      · simp [retL] at h; rw [← h.1]; simp

end Go.Proofs.YtdbfbijalhknnabGreat

namespace Go.Proofs.YtdbfbijalhknnabGreat
open Go.RowKit
open Hf Tb
set_option linter.unusedVariables false
set_option linter.unusedSimpArgs false

theorem own_row {w : World} {base : Nat} {v : Value} {xs : List Int} (h : Own w base v xs) : ∃ a cap, v = .slice a xs.length cap ∧ Row w a xs ∧ xs.length ≤ cap ∧ ∀ x, a = some x → v.ownBlock = some x.block := by
  by_cases h0 : xs.length = 0
  · obtain rfl := List.eq_nil_of_length_eq_zero h0
    rcases h.2 with ⟨e, _⟩ | ⟨g, cap, cur, e, _⟩
    · exact ⟨none, 0, e, .inl rfl, Nat.zero_le _, fun x e => by cases e⟩
    · exact ⟨_, cap, e, .inl rfl, Nat.zero_le _, fun x e2 => by cases e2; rw [e]; rfl⟩
  · obtain ⟨g, cap, e, _, hlt⟩ := World.ownsRow.form h (by omega)
    have hc : xs.length ≤ cap := by
      rcases h.2 with ⟨e2, h2⟩ | ⟨g', cap', cur, hv, hb, hg, hn, hc, hs, ht⟩
      · omega
      · rw [e] at hv; cases hv; omega
    refine ⟨_, cap, e, .inr ⟨g, 0, rfl, hlt, fun i hi => ?_⟩, hc, fun x e2 => by cases e2; rw [e]; rfl⟩
    rw [e] at h
    rw [Nat.zero_add]
    exact (owns_cell h i _ (by simp [intsV, List.getElem?_map, List.getElem?_eq_getElem hi])).1

/-- What a call leaves that reads many lengths. -/
def RowPost (R : Option (List Int × Bts)) (w : World) (b r : Nat) (v : Value) (s : ByteArray) (most : Nat) (xs : List Nat) (e : Ending) (w' : World) : Prop :=
  (R = none → e = .returned (.tuple #[.slice none 0 0, .int .i64 700]) ∧ Keeps (Own3 b r v) w w') ∧
  ∀ rs L', R = some (rs, L') → ∃ u, e = .returned (.tuple #[u, .int .i64 0]) ∧ Own w' w.heap.size u rs ∧ St w' b r v s most L' xs ∧ Rdv w w' b r v
theorem RowPost.noneI {w : World} {b r : Nat} {v : Value} {s : ByteArray} {most : Nat} {xs : List Nat} {w' : World} (h : Keeps (Own3 b r v) w w') : RowPost none w b r v s most xs (.returned (.tuple #[.slice none 0 0, .int .i64 700])) w' :=
  ⟨fun _ => ⟨rfl, h⟩, fun _ _ e => by cases e⟩
theorem St.above3 {w : World} {b r : Nat} {v : Value} {s : ByteArray} {most : Nat} {L : Bts} {xs : List Nat} (h : St w b r v s most L xs) : ∀ k, Own3 b r v k → k < w.heap.size := by
  rintro k (rfl | rfl | e)
  · exact h.lt
  · have := h.rb; have := h.lt; omega
  · exact (h.ownlt k e).2

set_option maxHeartbeats 4000000 in
set_option maxRecDepth 100000 in
theorem runs_ok {w : World} {b r : Nat} {v : Value} {s : ByteArray} {most : Nat} {L : Bts} {xs : List Nat} (h : St w b r v s most L xs) {lo hi f : Nat} {ys : List Int} (hf : Fnd w lo hi f ys) (ha : Away lo hi b r v) (hys : ys.length ≤ 100000) (many : Nat) (hm : many ≤ 1000) :
    Calls Tryz.prog 145 #[.pointer (some ⟨b, 0, none⟩), .pointer (some ⟨f, 0, none⟩), .int .i64 (many : Int)] w (RowPost (runs ys many [] L) w b r v s most xs) := by
  obtain ⟨R, hR⟩ : ∃ R, runs ys many [] L = R := ⟨_, rfl⟩
  rw [hR]
  have HF : Hid (∀ w', Rdv w w' b r v → Fnd w' lo hi f ys) := fun w' k => hf.kept k.keep ha.not
  have HS0 : Hid (St w b r v s most L xs) := h
  have HAw : Hid (Away lo hi b r v ∧ ys.length ≤ 100000 ∧ ∀ k, Own3 b r v k → k < w.heap.size) := ⟨ha, hys, h.above3⟩
  have H0 : Hid (∃ L1, runs ys many [] L1 = R ∧ St w b r v s most L1 xs ∧ Rdv w w b r v ∧ Own w w.heap.size (.slice none 0 0) []) := ⟨L, hR, h, Rdv.refl _ _ _ _, World.ownsRow_nil w _ 3 1⟩
  clear h hf ha hys hR
  go_enter Tryz.func145, Tryz.ntmps145
  go_wp2
  go_loopw [8] (fun s8 w' => ∃ (a : Option Addr) (n cap : Nat), s8 = .slice a n cap ∧ n ≤ 2000 ∧ Hid (∃ (out : List Int) (L1 : Bts), out.length = n ∧ runs ys many out L1 = R ∧ St w' b r v s most L1 xs ∧ Rdv w w' b r v ∧ Own w' w.heap.size (.slice a n cap) out ∧ Row w' a out)) (fun s8 _ => match s8 with | .slice _ n _ => many - n | _ => 0)
  case atStart =>
    obtain ⟨L1, h1, h2, h3, h4⟩ := H0.out
    exact ⟨none, 0, 0, rfl, by omega, [], L1, rfl, h1, h2, h3, h4, .inl rfl⟩
  case round =>
    clear H0
    obtain ⟨a, n, cap, hs8, hn, HW⟩ := hrel
    obtain rfl := hs8.symm
    clear hs8
    by_cases hnm : n < many
    · have hnz : (n : Int) < (many : Int) := by omega
      obtain ⟨out, L1, hlen, hE, hS, hA, hO, hRow⟩ := HW.out
      clear HW
      have HS : Hid (out.length = n ∧ runs ys many out L1 = R ∧ St wr b r v s most L1 xs ∧ Rdv w wr b r v ∧ Own wr w.heap.size (.slice a n cap) out ∧ Row wr a out) := ⟨hlen, hE, hS, hA, hO, hRow⟩
      have HC : Hid (Calls Tryz.prog 130 #[.pointer (some ⟨b, 0, none⟩), .pointer (some ⟨f, 0, none⟩)] wr (NumPost (symN ys L1) wr b r v s most xs)) := symbol_ok hS (HF.out wr hA) HAw.out.1
      clear hlen hE hS hA hO hRow
      go_wp2_with fail
      refine HC.out.mono ?_
      intro e w2 hP
      clear HC
      rcases h1 : symN ys L1 with _ | ⟨i, L2⟩
      · obtain ⟨rfl, hk⟩ := hP.1 h1
        have HK : Hid (Keeps (Own3 b r v) w w2) := HS.out.2.2.2.1.lost hk
        have e : R = none := by rw [← HS.out.2.1, runs_none1 (by rw [HS.out.1]; exact hnm) h1]
        subst e
        clear hP h1 hk
        go_wp2
        go_ret2
        exact RowPost.noneI HK.out
      · obtain ⟨rfl, hS2, hA2⟩ := hP.2 i L2 h1
        have HL : Hid (symN ys L1 = some (i, L2)) := h1
        have hi5 : i ≤ 100000 := by have := symN_small h1; have := HAw.out.2.1; omega
        have hnot : ∀ k, (Value.slice a n cap).ownBlock = some k → ¬ Own3 b r v k := fun k e e2 => by
          have := (World.ownsRow.lt HS.out.2.2.2.2.1 k e).1
          have := HAw.out.2.2 k e2; omega
        have hra : ∀ x, a = some x → n ≠ 0 → ¬ Own3 b r v x.block := fun x e _ => by
          subst e
          rcases HS.out.2.2.2.2.1.2 with ⟨e, _⟩ | ⟨g, cap', cur, e, _⟩
          · cases e
          · cases e; exact hnot _ rfl
        have H2 : Hid (St w2 b r v s most L2 xs ∧ Rdv w w2 b r v ∧ Own w2 w.heap.size (.slice a n cap) out ∧ Row w2 a out) := by
          refine ⟨hS2, HS.out.2.2.2.1.trans hA2, HS.out.2.2.2.2.1.kept hA2.keep hnot, ?_⟩
          rcases HS.out.2.2.2.2.2 with h | h
          · exact .inl h
          · by_cases h0 : n = 0
            · exact .inl (List.eq_nil_of_length_eq_zero (by rw [HS.out.1, h0]))
            · exact Row.kept (.inr h) hA2.keep (fun x e => hra x e h0)
        have HC : Hid (Calls Tryz.prog 150 #[.pointer (some ⟨b, 0, none⟩), .int .i64 (i : Int), .slice a n cap] w2 (RunPost (rle i out L2) w2 b r v s most xs)) := by
          have := run_ok H2.out.1 i a out cap H2.out.2.2.2 (by rw [HS.out.1]; omega) hi5
          rw [HS.out.1] at this; exact this
        clear hP h1 hS2 hA2 hi5 hra
        have HN : Hid (∀ k, (Value.slice a n cap).ownBlock = some k → ¬ Own3 b r v k) := hnot
        clear hnot
        go_wp2_with fail
        refine HC.out.mono ?_
        intro e w3 hP
        clear HC
        rcases h3 : rle i out L2 with _ | ⟨rs, L3⟩
        · obtain ⟨rfl, hk⟩ := hP.1 h3
          have HK : Hid (Keeps (Own3 b r v) w w3) := H2.out.2.1.lost hk
          have e : R = none := by rw [← HS.out.2.1, runs_none2 (by rw [HS.out.1]; exact hnm) HL.out h3]
          subst e
          clear hP h3 hk
          go_wp2
          go_ret2
          exact RowPost.noneI HK.out
        · obtain ⟨g, rfl, hB3, hg3, hS3, hA3⟩ := hP.2 rs L3 h3
          obtain ⟨m, hm3⟩ : ∃ m, rs.length = m := ⟨_, rfl⟩
          have hrl : 1 ≤ m ∧ m ≤ 300 := by
            have h4 := (rle_len h3).2
            refine ⟨by omega, ?_⟩
            rw [← hm3]
            exact rle_le h3
          have H3 : Hid (runs ys many (out ++ rs) L3 = R ∧ St w3 b r v s most L3 xs ∧ Rdv w w3 b r v ∧ Own w3 w.heap.size (.slice a n cap) out ∧ Blk w3 g rs ∧ w2.heap.size ≤ g ∧ rs.length = m) :=
            ⟨by rw [← HS.out.2.1, runs_next (by rw [HS.out.1]; exact hnm) HL.out h3], hS3, H2.out.2.1.trans hA3, H2.out.2.2.1.kept hA3.keep HN.out, hB3, hg3, hm3⟩
          rw [hm3]
          clear hP h3 hB3 hg3 hS3 hA3 HN hm3
          go_wp2_with (refine wpList_join rfl _ _ rfl rfl w.heap.size (.slice a n cap) out rfl H3.out.2.2.2.1 g m m rs rfl H3.out.2.2.2.2.2.2 H3.out.2.2.2.2.1 H3.out.2.2.1.keep.size (by rw [HS.out.1, H3.out.2.2.2.2.2.2]; omega) ?_; intro v4 w4 hO4 hG4)
          obtain ⟨a4, cap4, hv4, hrow4, _, _⟩ := own_row hO4
          obtain ⟨n4, hn4⟩ : ∃ n4, (out ++ rs).length = n4 := ⟨_, rfl⟩
          have hn4' : n4 = n + m := by rw [← hn4, List.length_append, HS.out.1, H3.out.2.2.2.2.2.2]
          rw [hn4] at hv4
          obtain rfl := hv4.symm
          clear hv4
          have H4 : Hid (∃ (out : List Int) (L1 : Bts), out.length = n4 ∧ runs ys many out L1 = R ∧ St w4 b r v s most L1 xs ∧ Rdv w w4 b r v ∧ Own w4 w.heap.size (.slice a4 n4 cap4) out ∧ Row w4 a4 out) := by
            have k34 : Keeps (fun k => (Value.slice a n cap).ownBlock = some k) w3 w4 := (Keeps.refl _ w3).grown hG4 (fun k _ e => e)
            have hlow : ∀ k, (Value.slice a n cap).ownBlock = some k → w.heap.size ≤ k := fun k e => (World.ownsRow.lt H3.out.2.2.2.1 k e).1
            have hR4 : Rdv w w4 b r v := ⟨H3.out.2.2.1.only.trans k34 (fun k hk e => by have := hlow k e; omega)⟩
            obtain ⟨p, p1, p2, p3⟩ := H3.out.2.1.rd
            have hrl : r < w.heap.size := by have := HS0.out.rb; have := HS0.out.lt; omega
            have hS4 := (HS0.out.read (p := p) ⟨p1.kept k34 (fun e => by have := hlow r e; omega), hR4.only⟩ p2).1
            rw [← p3] at hS4
            exact ⟨out ++ rs, L3, hn4, H3.out.1, hS4, hR4, hO4, hrow4⟩
          clear hO4 hG4 hrow4 hn4 H3 H2 HS HL
          go_roundw
          case rel => exact ⟨a4, n4, cap4, rfl, by omega, H4⟩
          case measure => simp; omega
    · have hnz : ¬ (n : Int) < (many : Int) := by omega
      by_cases hover : many < n
      · have hoz : (many : Int) < (n : Int) := by omega
        obtain ⟨out, L1, hlen, hE, hS, hA, hO, hRow⟩ := HW.out
        have e : R = none := by rw [← hE, runs_over (by omega)]
        subst e
        have HK : Hid (Keeps (Own3 b r v) w wr) := hA.keep
        clear hlen hE hS hA hO hRow HW
        go_wp2
        go_ret2
        exact RowPost.noneI HK.out
      · obtain rfl : n = many := by omega
        obtain ⟨out, L1, hlen, hE, hS, hA, hO, hRow⟩ := HW.out
        have e : R = some (out, L1) := by rw [← hE, runs_done hlen]
        subst e
        have HP : Hid (RowPost (some (out, L1)) w b r v s most xs (.returned (.tuple #[.slice a n cap, .int .i64 0])) wr) := ⟨fun e => by (cases e), fun _ _ e => by cases e; exact ⟨_, rfl, hO, hS, hA⟩⟩
        clear hlen hE hS hA hO hRow HW
        go_wp2
        go_ret2
        exact HP.out

set_option maxHeartbeats 1000000 in
set_option maxRecDepth 100000 in
theorem mayTellBytes_ok (a : Option Addr) (x : List Int) (cap : Nat) (w : World) (hR : Row w a x) (hl : 257 ≤ x.length) (hl2 : x.length ≤ 1000) :
    Calls Tryz.prog 146 #[.slice a x.length cap] w fun e w' => e = .returned (.bool (mayB x)) ∧ Keeps (fun _ => False) w w' := by
  have HC : Hid (Calls Tryz.prog 149 #[.slice a x.length cap] w fun e w' => e = .returned (.int .i64 (errC x)) ∧ Keeps (fun _ => False) w w') := check_ok a x cap w hR (by omega)
  obtain ⟨g, off, rfl, hg, hc⟩ := hR.spot (by omega)
  have HCl : Hid (∀ w', Keeps (fun _ => False) w w' → w'.cell? ⟨g, off + 256, none⟩ = some (.int .i64 (at_ x 256))) := fun w' hk => by
    rw [World.cell?_of_block (hk.block g hg (fun h => h)), at_eq 256 (by omega)]; exact hc 256 (by omega)
  have hlz : (256 : Int) < (x.length : Int) := by omega
  have HE : Hid (mayB x = (decide (errC x = 0) && decide (0 < at_ x 256))) := rfl
  rw [HE.out]
  clear hR hc HE
  generalize errC x = er at *
  generalize at_ x 256 = t at *
  generalize x.length = N at *
  by_cases her : er = 0
  · subst her
    rw [decide_eq_true rfl, Bool.true_and]
    go_enter Tryz.func146, Tryz.ntmps146
    go_wp2_with fail
    refine HC.out.mono ?_
    rintro e w2 ⟨rfl, hK⟩
    have hcell := HCl.out w2 hK
    have HK : Hid (Keeps (fun _ => False) w w2) := hK
    clear hK HC HCl
    go_wp2
    go_ret
    exact ⟨by congr 2, HK.out⟩
  · rw [decide_eq_false her, Bool.false_and]
    have hnb : (er == 0) = false := by simp; exact her
    go_enter Tryz.func146, Tryz.ntmps146
    go_wp2_with fail
    refine HC.out.mono ?_
    rintro e w2 ⟨rfl, hK⟩
    have HK : Hid (Keeps (fun _ => False) w w2) := hK
    clear hK HC HCl
    go_wp2
    go_ret
    exact ⟨rfl, HK.out⟩

theorem sum_take (x : List Int) (j : Nat) (h : j < x.length) : (x.take (j + 1)).sum = (x.take j).sum + x[j] := by
  rw [take_snoc x j h, List.sum_append]; simp
theorem sum_bound (x : List Int) (hx : ∀ i (h : i < x.length), 0 ≤ x[i] ∧ x[i] ≤ 15) : ∀ j, j ≤ x.length → 0 ≤ (x.take j).sum ∧ (x.take j).sum ≤ 15 * j := by
  intro j
  induction j with
  | zero => intro _; simp
  | succ j ih =>
    intro h
    have h1 := ih (by omega)
    have h2 := hx j (by omega)
    rw [sum_take x j (by omega)]; omega

set_option maxHeartbeats 1000000 in
set_option maxRecDepth 100000 in
theorem mayTellDists_ok (a : Option Addr) (x : List Int) (cap : Nat) (w : World) (hR : Row w a x) (hl2 : x.length ≤ 1000) (hx : ∀ i (h : i < x.length), 0 ≤ x[i] ∧ x[i] ≤ 15) :
    Calls Tryz.prog 147 #[.slice a x.length cap] w fun e w' => e = .returned (.bool (mayD x)) ∧ Keeps (fun _ => False) w w' := by
  have HC : Hid (Calls Tryz.prog 149 #[.slice a x.length cap] w fun e w' => e = .returned (.int .i64 (errC x)) ∧ Keeps (fun _ => False) w w') := check_ok a x cap w hR (by omega)
  obtain ⟨B, hB⟩ : ∃ B, mayD x = B := ⟨_, rfl⟩
  rw [hB]
  have HB : Hid ((decide (x.sum ≤ 1) || decide (errC x = 0)) = B) := hB
  have HR : Hid (Row w a x) := hR
  have HX : Hid (∀ i (h : i < x.length), 0 ≤ x[i] ∧ x[i] ≤ 15) := hx
  obtain ⟨N, hN⟩ : ∃ N, x.length = N := ⟨_, rfl⟩
  have HN : Hid (x.length = N) := hN
  rw [hN] at HC ⊢ hl2
  clear hR hB hx hN
  go_enter Tryz.func147, Tryz.ntmps147
  go_wp2
  go_loopw [3, 8] (fun s3 s8 w' => ∃ j : Nat, j ≤ N ∧ s8 = .int .i64 (j : Int) ∧ s3 = .int .i64 ((x.take j).sum) ∧ w' = w) (fun _ s8 _ => ((N : Int) - intOf s8).toNat)
  case atStart => exact ⟨0, by omega, rfl, by simp, rfl⟩
  case round =>
    obtain ⟨j, hj, rfl, rfl, rfl⟩ := hrel
    by_cases hjn : j < N
    · have hjz : (j : Int) < (N : Int) := by omega
      have hjx : j < x.length := by rw [HN.out]; exact hjn
      obtain ⟨g, off, ha, hg, hc⟩ := HR.out.spot (by omega)
      obtain rfl := ha
      have hcell := hc j hjx
      have hs := sum_bound x HX.out j (by omega)
      have hv := HX.out j hjx
      have HT : Hid ((x.take (j + 1)).sum = (x.take j).sum + x[j]) := sum_take x j hjx
      generalize (x.take j).sum = S at *
      generalize x[j] = y at *
      have hb : 15 * (j : Int) ≤ 15000 := by omega
      clear hc
      go_wp2
      go_roundw
      case rel => exact ⟨j + 1, by omega, by push_cast; rfl, by rw [HT.out], trivial⟩
      case measure => simp [intOf]; omega
    · obtain rfl : j = N := by omega
      rw [List.take_of_length_le (by rw [HN.out]; omega)]
      have hs := sum_bound x HX.out x.length (Nat.le_refl _)
      rw [List.take_length] at hs
      generalize x.sum = S at *
      generalize errC x = er at *
      by_cases h1 : S ≤ 1
      · have e : B = true := by rw [← HB.out, decide_eq_true h1, Bool.true_or]
        subst e
        clear HB
        go_wp2
        go_ret
        exact ⟨rfl, Keeps.refl _ _⟩
      · have e : B = decide (er = 0) := by rw [← HB.out, decide_eq_false h1, Bool.false_or]
        subst e
        clear HB
        have hd : decide (S ≤ 1) = false := decide_eq_false h1
        go_wp2_with fail
        refine HC.out.mono ?_
        rintro e w2 ⟨rfl, hK⟩
        have HK : Hid (Keeps (fun _ => False) wr w2) := hK
        clear hK HC
        go_wp2
        go_ret
        exact ⟨by congr 2, HK.out⟩

end Go.Proofs.YtdbfbijalhknnabGreat

namespace Go.Proofs.YtdbfbijalhknnabGreat.Bk
open Go.RowKit
open Hf Tb
set_option linter.unusedVariables false
set_option linter.unusedSimpArgs false

theorem Pg.code {w : World} {p b : Nat} {o : Option Nat} {L : Bts} {u1 u2 : Value} (h : Pg w p b o L u1 u2) (zs : List Int) (hm : may zs = true) (hr : room zs ≤ 32768) {i c : Nat} (hi : i < zs.length) (hc : at_ zs i = (c : Int)) (h0 : 0 < c) (hL : L.length + 15 ≤ 65536) :
    Calls Tryz.prog 79 #[.pointer (some ⟨b, 0, none⟩), .agg #[.int .i64 (c : Int), .int .i64 (codeV zs i : Int)]] w fun e w' => e = .returned (.int .i64 0) ∧ PgOn w w' p b o (L ++ codeB zs i) u1 u2 := by
  have h15 := may_at hm i hi
  rw [← at_eq i hi, hc] at h15
  refine (Bt.code_ok b o L (codeV zs i) c w (by omega) (by omega) (codeV_pow zs hr i c hi hc h0 (by omega)) (by omega) h.wr).mono ?_
  rintro e w' ⟨rfl, ho⟩
  refine ⟨rfl, h.onto ?_⟩
  unfold codeB
  rw [hc, Int.toNat_natCast]; exact ho
/-- A page that has been written on since a world. -/
structure Since (w0 w : World) (p b : Nat) (o0 o : Option Nat) (L : Bts) (u1 u2 : Value) : Prop where
  pg : Pg w p b o L u1 u2
  own : o = o0 ∨ ∃ g, o = some g ∧ w0.heap.size ≤ g
  keep : Keeps (fun k => k = b ∨ o0 = some k) w0 w
theorem Since.step {w0 w w' : World} {p b : Nat} {o0 o : Option Nat} {L L' : Bts} {u1 u2 : Value} (h : Since w0 w p b o0 o L u1 u2) (hO : PgOn w w' p b o L' u1 u2) : ∃ o', Since w0 w' p b o0 o' L' u1 u2 := by
  obtain ⟨o', h1, h2, h3⟩ := hO
  have hs := own_step h.own h.keep h2 h3
  exact ⟨o', h1, hs.1, hs.2⟩
theorem Since.drew {w0 w : World} {p b : Nat} {o0 o : Option Nat} {L : Bts} {u1 u2 : Value} (h : Since w0 w p b o0 o L u1 u2) : Since w0 w.drew p b o0 o L u1 u2 := ⟨h.pg.keptF (Keeps.refl _ w).drew, h.own, h.keep.drew⟩
theorem threeB_snoc (xs : List Int) (x : Int) : threeB (xs ++ [x]) = threeB xs ++ bitsOf x.toNat 3 := by simp [threeB]
theorem threeB_len (xs : List Int) : (threeB xs).length = 3 * xs.length := by
  induction xs with
  | nil => rfl
  | cons x r ih =>
    have : threeB (x :: r) = bitsOf x.toNat 3 ++ threeB r := by simp [threeB]
    rw [this, List.length_append, ih, bitsOf_length, List.length_cons]; omega
theorem codesB_snoc (cl xs : List Int) (x : Int) : codesB cl (xs ++ [x]) = codesB cl xs ++ codeB cl x.toNat := by simp [codesB]
theorem codeB_le {cl : List Int} (hm : may cl = true) (i : Nat) : (codeB cl i).length ≤ 15 := by
  rw [codeB_length]
  by_cases hi : i < cl.length
  · have := may_at hm i hi; rw [at_eq i hi]; omega
  · unfold at_; rw [List.getD, List.getElem?_eq_none (by omega)]; simp
theorem codesB_len {cl : List Int} (hm : may cl = true) (xs : List Int) : (codesB cl xs).length ≤ 15 * xs.length := by
  induction xs with
  | nil => simp [codesB]
  | cons x r ih =>
    have : codesB cl (x :: r) = codeB cl x.toNat ++ codesB cl r := by simp [codesB]
    have := codeB_le hm x.toNat
    rw [‹codesB cl (x :: r) = _›, List.length_append, List.length_cons]; omega

set_option maxHeartbeats 8000000 in
set_option maxRecDepth 100000 in
theorem lengthsP_ok {w : World} {p b : Nat} {o : Option Nat} {L : Bts} {u1 u2 : Value} (h : Pg w p b o L u1 u2) (ga gb : Nat) (A B C : List Int) (hA : Pfx w ga A) (hB : Pfx w gb B) (hD : Dyn3 A B C) (hC : C = lenL 19 ((cutL A 257 ++ cutL B 1).map Int.toNat) 7) (hL : L.length ≤ 30000) :
    Calls Tryz.prog 39 #[.pointer (some ⟨p, 0, none⟩), .slice (some ⟨ga, 0, none⟩) 286 286, .slice (some ⟨gb, 0, none⟩) 30 30] w fun e w' => e = .returned (.tuple #[]) ∧ PgOn w w' p b o (L ++ hdrB A B C) u1 u2 := by
  have a1 := upL_ge A 257 (by rw [hD.lA]; decide)
  have a2 := upL_le A 257
  have b1 := upL_ge B 1 (by rw [hD.lB]; decide)
  have b2 := upL_le B 1
  have r1 := upL_ge (rowOf C) 4 (by rw [rowOf_length]; decide)
  have r2 := upL_le (rowOf C) 4
  rw [hD.lA] at a2
  rw [hD.lB] at b2
  rw [rowOf_length] at r2
  have hxl : (cutL A 257).length = upL A 257 := cutL_length A 257
  have hyl : (cutL B 1).length = upL B 1 := cutL_length B 1
  have hrl : (cutL (rowOf C) 4).length = upL (rowOf C) 4 := cutL_length _ 4
  obtain ⟨X, hX⟩ : ∃ X, cutL A 257 = X := ⟨_, rfl⟩
  obtain ⟨Y, hY⟩ : ∃ Y, cutL B 1 = Y := ⟨_, rfl⟩
  obtain ⟨R, hR⟩ : ∃ R, cutL (rowOf C) 4 = R := ⟨_, rfl⟩
  obtain ⟨nx, hnx⟩ : ∃ n, upL A 257 = n := ⟨_, rfl⟩
  obtain ⟨ny, hny⟩ : ∃ n, upL B 1 = n := ⟨_, rfl⟩
  obtain ⟨nr, hnr⟩ : ∃ n, upL (rowOf C) 4 = n := ⟨_, rfl⟩
  have HC1 : Hid (Calls Tryz.prog 76 #[.slice (some ⟨ga, 0, none⟩) 286 286, .int .i64 257] w fun e w' => e = .returned (.slice (some ⟨ga, 0, none⟩) nx 286) ∧ Keeps (fun _ => False) w w') := by
    have := upToLast_ok ga 286 286 257 A w hA hD.lA (by omega) (by omega) (by omega) (by omega)
    rw [hnx] at this; exact this
  have HC2 : Hid (∀ w', Keeps (fun _ => False) w w' → Calls Tryz.prog 76 #[.slice (some ⟨gb, 0, none⟩) 30 30, .int .i64 1] w' fun e w'' => e = .returned (.slice (some ⟨gb, 0, none⟩) ny 30) ∧ Keeps (fun _ => False) w' w'') := fun w' hk => by
    have := upToLast_ok gb 30 30 1 B w' (hB.keptF hk) hD.lB (by omega) (by omega) (by omega) (by omega)
    rw [hny] at this; exact this
  have hall : ∀ y ∈ X ++ Y, 0 ≤ y ∧ y < 16 := by
    intro y hy
    rw [← hX, ← hY, List.mem_append] at hy
    rcases hy with hy | hy
    · obtain ⟨i, hi, rfl⟩ := List.mem_iff_getElem.1 (List.mem_of_mem_take hy)
      have := may_at hD.mA i hi; omega
    · obtain ⟨i, hi, rfl⟩ := List.mem_iff_getElem.1 (List.mem_of_mem_take hy)
      have := may_at hD.mB i hi; omega
  have hXl : X.length = nx := by rw [← hX, hxl, hnx]
  have hYl : Y.length = ny := by rw [← hY, hyl, hny]
  have hRl : R.length = nr := by rw [← hR, hrl, hnr]
  have HPX : Hid (∀ w', Keeps (fun _ => False) w w' → Pfx w' ga X ∧ Pfx w' gb Y) := fun w' hk => by
    rw [← hX, ← hY]; exact ⟨(hA.keptF hk).take _, (hB.keptF hk).take _⟩
  have HSm : Hid (∀ a n cap w', (X ++ Y).length = n → Row w' a (X ++ Y) → Calls Tryz.prog 77 #[.slice a n cap] w' fun e w'' => ∃ g, e = .returned (.slice (some ⟨g, 0, none⟩) 19 19) ∧ Pfx w'' g C ∧ Keeps (fun _ => False) w' w'' ∧ w'.heap.size ≤ g) := fun a n cap w' hn hr => by
    have hn2 := hn
    rw [List.length_append] at hn2
    have := smallLengths_ok a n cap (X ++ Y) w' hr hn (by omega) (by omega) (fun y hy => by have := hall y hy; omega)
    rw [← hX, ← hY, ← hC] at this; exact this
  have HIn : Hid (∀ g w', Pfx w' g C → Calls Tryz.prog 78 #[.slice (some ⟨g, 0, none⟩) 19 19] w' fun e w'' => ∃ r c, e = .returned (.slice (some ⟨r, 0, none⟩) 19 c) ∧ Pfx w'' r (rowOf C) ∧ 19 ≤ c ∧ Keeps (fun _ => False) w' w'' ∧ w'.heap.size ≤ r) := fun g w' hp => inRow_ok g 19 C w' hp hD.lC
  have HUp : Hid (∀ r c w', Pfx w' r (rowOf C) → 19 ≤ c → Calls Tryz.prog 76 #[.slice (some ⟨r, 0, none⟩) 19 c, .int .i64 4] w' fun e w'' => e = .returned (.slice (some ⟨r, 0, none⟩) nr c) ∧ Keeps (fun _ => False) w' w'') := fun r c w' hp hc => by
    have := upToLast_ok r 19 c 4 (rowOf C) w' hp (rowOf_length C) (by omega) (by omega) hc (by omega)
    rw [hnr] at this; exact this
  have HRt : Hid (∀ w' r, Pfx w' r (rowOf C) → Pfx w' r R) := fun w' r hp => by rw [← hR]; exact hp.take _
  have HRv : Hid (∀ y ∈ R, 0 ≤ y ∧ y < 8) := fun y hy => by
    rw [← hR] at hy
    have hn2 : y ∈ rowOf C := List.mem_of_mem_take hy
    simp only [rowOf, List.mem_map] at hn2
    obtain ⟨j, hj, rfl⟩ := hn2
    have hj19 : j < 19 := by
      have : ∀ j ∈ rowL, j < 19 := by decide
      exact this j hj
    rw [at_eq j (by rw [hD.lC]; exact hj19)]
    have := may_at hD.mC j (by rw [hD.lC]; exact hj19)
    exact ⟨this.1, hD.sC _ (List.getElem_mem _)⟩
  have HCo : Hid (∀ g w', Pfx w' g C → Calls Tryz.prog 60 #[.slice (some ⟨g, 0, none⟩) 19 19] w' fun e w'' => ∃ q, e = .returned (.tuple #[.slice (some ⟨q, 0, none⟩) 19 19, .int .i64 0]) ∧ Keeps (fun _ => False) w' w'' ∧ w'.heap.size ≤ q ∧ Cds w'' q C.length (codeF C)) := fun g w' hp => codes_pfx g 19 19 C w' hp hD.lC hD.mC (by rw [hD.rC]; exact Nat.le_refl _)
  have HCd : Hid (may C = true ∧ room C ≤ 32768 ∧ C.length = 19 ∧ ∀ y ∈ X ++ Y, 0 < at_ C y.toNat) := ⟨hD.mC, by rw [hD.rC]; exact Nat.le_refl _, hD.lC, by rw [← hX, ← hY]; exact hD.hC⟩
  have HH : Hid (hdrB A B C = bitsOf (nx - 257) 5 ++ (bitsOf (ny - 1) 5 ++ (bitsOf (nr - 4) 4 ++ (threeB R ++ codesB C (X ++ Y))))) := by
    show hdrB A B C = _
    unfold hdrB; rw [hX, hY, hR, hnx, hny, hnr]
  have HL : Hid (L.length ≤ 30000 ∧ R.length = nr ∧ X.length = nx ∧ Y.length = ny) := ⟨hL, hRl, hXl, hYl⟩
  have HG : Hid (Pg w p b o L u1 u2) := h
  rw [hnx] at a1 a2
  rw [hny] at b1 b2
  rw [hnr] at r1 r2
  clear hA hB hD hC hL hxl hyl hrl hX hY hR hnx hny hnr h hXl hYl hRl
  obtain ⟨F, hF⟩ : ∃ F, L ++ hdrB A B C = F := ⟨_, rfl⟩
  rw [hF]
  rw [HH.out] at hF
  have HFF : Hid (L ++ (bitsOf (nx - 257) 5 ++ (bitsOf (ny - 1) 5 ++ (bitsOf (nr - 4) 4 ++ (threeB R ++ codesB C (X ++ Y))))) = F) := hF
  clear HH hF
  go_enter Tryz.func39, Tryz.ntmps39
  go_wp2_with fail
  refine HC1.out.mono ?_
  rintro e w1 ⟨rfl, hK1⟩
  have H1 : Hid (Keeps (fun _ => False) w w1) := hK1
  clear hK1 HC1
  go_wp2_with fail
  refine (HC2.out w1 H1.out).mono ?_
  rintro e w2 ⟨rfl, hK2⟩
  have H2 : Hid (Keeps (fun _ => False) w w2) := H1.out.trans hK2 (fun _ _ h => h)
  clear hK2 HC2 H1
  go_wp2_with fail
  generalize hw3a : World.alloc _ _ = w3
  have HSl : Hid (Sls3 w3 w2.heap.size [(ga, 286, X), (gb, 30, Y)] ∧ Keeps (fun _ => False) w w3) := by
    have k23 : Keeps (fun _ => False) w2 w3 := by rw [← hw3a]; exact (Keeps.refl _ w2).alloc _
    have k3 := H2.out.trans k23 (fun _ _ h => h)
    refine ⟨⟨?_, ?_⟩, k3⟩
    · rw [← hw3a, heap_alloc_new]
      have e1 := HL.out.2.2.1
      have e2 := HL.out.2.2.2
      simp only [List.map_cons, List.map_nil, rwV3, e1, e2]
    · intro r hr
      rcases List.mem_cons.1 hr with rfl | hr
      · exact (HPX.out w3 k3).1
      · rcases List.mem_cons.1 hr with rfl | hr
        · exact (HPX.out w3 k3).2
        · cases hr
  obtain ⟨bs, hbs⟩ : ∃ bs, w2.heap.size = bs := ⟨_, rfl⟩
  rw [hbs] at HSl ⊢
  clear hw3a H2 hbs
  have HC3 : Hid (Calls Tryz.prog 64 #[.slice (some ⟨bs, 0, none⟩) 2 2] w3 fun e w' => ∃ v, e = .returned v ∧ Own w' w3.heap.size v (X ++ Y) ∧ Keeps (fun _ => False) w3 w') := by
    have e1 := HL.out.2.2.1
    have e2 := HL.out.2.2.2
    have := concat3_ok bs 2 [(ga, 286, X), (gb, 30, Y)] w3 HSl.out.1 rfl (by omega) (by simp [tot3]; omega) (by simp [tot3]; omega)
    have hc : cat3 [(ga, 286, X), (gb, 30, Y)] 2 = X ++ Y := by simp [cat3]
    rw [hc] at this; exact this
  refine HC3.out.mono ?_
  rintro e w4 ⟨v4, rfl, hO4, hK4⟩
  obtain ⟨ad, cad, rfl, hrow4, _, had⟩ := own_row hO4
  have hnall : (X ++ Y).length = nx + ny := by rw [List.length_append, HL.out.2.2.1, HL.out.2.2.2]
  rw [hnall]
  obtain ⟨bd, off, rfl, hbd, hcd⟩ := hrow4.spot (by rw [hnall]; omega)
  obtain ⟨M, hM⟩ : ∃ M, nx + ny = M := ⟨_, rfl⟩
  rw [hM] at hnall ⊢
  have HSm4 := hide (HSm.out (some ⟨bd, off, none⟩) M cad w4 hnall hrow4)
  have H4 : Hid (Keeps (fun _ => False) w w4 ∧ (X ++ Y).length = M ∧ bd < w4.heap.size ∧ w.heap.size ≤ bd ∧ ∀ i (h : i < (X ++ Y).length), w4.cell? ⟨bd, off + i, none⟩ = some (.int .i64 (X ++ Y)[i])) := by
    refine ⟨HSl.out.2.trans hK4 (fun _ _ h => h), hnall, hbd, ?_, hcd⟩
    have e := had ⟨bd, off, none⟩ rfl
    have := (World.ownsRow.lt hO4 bd e).1
    have := HSl.out.2.size
    omega
  clear hO4 hK4 hrow4 had hbd hcd HC3 HSl HSm hnall
  go_wp2_with fail
  refine HSm4.out.mono ?_
  rintro e w5 ⟨gs, rfl, hP5, hK5, hg5⟩
  have HIn5 := hide (HIn.out gs w5 hP5)
  have H5 : Hid (Pfx w5 gs C ∧ Keeps (fun _ => False) w4 w5 ∧ w.heap.size ≤ gs) := ⟨hP5, hK5, by have := H4.out.1.size; omega⟩
  clear hP5 hK5 hg5 HSm4 HIn
  go_wp2_with fail
  refine HIn5.out.mono ?_
  rintro e w6 ⟨r, c, rfl, hP6, hc6, hK6, hr6⟩
  have HUp6 := hide (HUp.out r c w6 hP6 hc6)
  have H6 : Hid (Pfx w6 r (rowOf C) ∧ Keeps (fun _ => False) w5 w6 ∧ w.heap.size ≤ r) := ⟨hP6, hK6, by have := H4.out.1.size; have := H5.out.2.1.size; omega⟩
  clear hP6 hK6 hr6 HIn5 HUp
  go_wp2_with fail
  refine HUp6.out.mono ?_
  rintro e w7 ⟨rfl, hK7⟩
  have H7 : Hid (Pg w7 p b o L u1 u2 ∧ Keeps (fun _ => False) w w7 ∧ Pfx w7 gs C ∧ Pfx w7 r R ∧ (∀ i (h : i < (X ++ Y).length), w7.cell? ⟨bd, off + i, none⟩ = some (.int .i64 (X ++ Y)[i])) ∧ w.heap.size ≤ gs ∧ w.heap.size ≤ r ∧ w.heap.size ≤ bd ∧ bd < w7.heap.size ∧ (X ++ Y).length = M) := by
    have k57 : Keeps (fun _ => False) w5 w7 := H6.out.2.1.trans hK7 (fun _ _ h => h)
    have k47 : Keeps (fun _ => False) w4 w7 := H5.out.2.1.trans k57 (fun _ _ h => h)
    have k7 := H4.out.1.trans k47 (fun _ _ h => h)
    refine ⟨HG.out.keptF k7, k7, H5.out.1.keptF k57, HRt.out _ _ (H6.out.1.keptF hK7), fun i hi => ?_, H5.out.2.2, H6.out.2.2, H4.out.2.2.2.1, by have := k47.size; have := H4.out.2.2.1; omega, H4.out.2.1⟩
    rw [World.cell?_of_block (k47.block bd H4.out.2.2.1 (fun h => h))]; exact H4.out.2.2.2.2 i hi
  have hc7 := H7.out.1.c0
  clear hK7 HUp6 H4 H5 H6 HRt HPX
  have HP1 : Hid (Calls Tryz.prog 23 #[.pointer (some ⟨b, 0, none⟩), .int .i64 ((nx : Int) - 257), .int .i64 5] w7 fun e w' => e = .returned (.int .i64 0) ∧ PgOn w7 w' p b o (L ++ bitsOf (nx - 257) 5) u1 u2) := by
    have e : ((nx - 257 : Nat) : Int) = (nx : Int) - 257 := by omega
    have h2 := H7.out.1.put (nx - 257) 5 (by omega) (by omega) (by have := HL.out.1; omega)
    rw [e] at h2; exact h2
  go_wp2_with fail
  refine HP1.out.mono ?_
  rintro e w8 ⟨rfl, hO8⟩
  obtain ⟨o8, hS8⟩ := Since.step (⟨H7.out.1, .inl rfl, Keeps.refl _ _⟩ : Since w7 w7 p b o o L u1 u2) hO8
  have H8 : Hid (Since w7 w8 p b o o8 (L ++ bitsOf (nx - 257) 5) u1 u2) := hS8
  have hc8 := hS8.pg.c0
  clear HP1 hO8 hS8 hc7
  have HP2 : Hid (Calls Tryz.prog 23 #[.pointer (some ⟨b, 0, none⟩), .int .i64 ((ny : Int) - 1), .int .i64 5] w8 fun e w' => e = .returned (.int .i64 0) ∧ PgOn w8 w' p b o8 (L ++ bitsOf (nx - 257) 5 ++ bitsOf (ny - 1) 5) u1 u2) := by
    have e : ((ny - 1 : Nat) : Int) = (ny : Int) - 1 := by omega
    have h2 := H8.out.pg.put (ny - 1) 5 (by omega) (by omega) (by have := HL.out.1; rw [List.length_append, bitsOf_length]; omega)
    rw [e] at h2; exact h2
  go_wp2_with fail
  refine HP2.out.mono ?_
  rintro e w9 ⟨rfl, hO9⟩
  obtain ⟨o9, hS9⟩ := Since.step H8.out hO9
  have H9 : Hid (Since w7 w9 p b o o9 (L ++ bitsOf (nx - 257) 5 ++ bitsOf (ny - 1) 5) u1 u2) := hS9
  have hc9 := hS9.pg.c0
  clear HP2 hO9 hS9 hc8 H8
  have HP3 : Hid (Calls Tryz.prog 23 #[.pointer (some ⟨b, 0, none⟩), .int .i64 ((nr : Int) - 4), .int .i64 4] w9 fun e w' => e = .returned (.int .i64 0) ∧ PgOn w9 w' p b o9 (L ++ bitsOf (nx - 257) 5 ++ bitsOf (ny - 1) 5 ++ bitsOf (nr - 4) 4) u1 u2) := by
    have e : ((nr - 4 : Nat) : Int) = (nr : Int) - 4 := by omega
    have h2 := H9.out.pg.put (nr - 4) 4 (by omega) (by omega) (by have := HL.out.1; rw [List.length_append, List.length_append, bitsOf_length, bitsOf_length]; omega)
    rw [e] at h2; exact h2
  go_wp2_with fail
  refine HP3.out.mono ?_
  rintro e w10 ⟨rfl, hO10⟩
  obtain ⟨o10, hS10⟩ := Since.step H9.out hO10
  obtain ⟨L3, hL3⟩ : ∃ L3, L ++ bitsOf (nx - 257) 5 ++ bitsOf (ny - 1) 5 ++ bitsOf (nr - 4) 4 = L3 := ⟨_, rfl⟩
  rw [hL3] at hS10
  have HL3 : Hid (L3.length ≤ 30014 ∧ F = L3 ++ threeB R ++ codesB C (X ++ Y)) := by
    refine ⟨?_, ?_⟩
    · rw [← hL3]; simp only [List.length_append, bitsOf_length]; have := HL.out.1; omega
    · rw [← hL3, ← HFF.out]; simp only [List.append_assoc]
  have H10 : Hid (∃ o', Since w7 w10 p b o o' (L3 ++ threeB (R.take 0)) u1 u2) := ⟨o10, by simp only [List.take_zero, threeB, List.flatMap_nil, List.append_nil]; exact hS10⟩
  clear HP3 hO10 hS10 hc9 H9 hL3
  go_wp2_with fail
  go_loopw [54] (fun s54 w' => ∃ i : Nat, i ≤ nr ∧ s54 = .int .i64 (i : Int) ∧ Hid (∃ o', Since w7 w' p b o o' (L3 ++ threeB (R.take i)) u1 u2)) (fun s54 w' => ((nr : Int) - intOf s54).toNat)
  case atStart => exact ⟨0, by omega, rfl, H10⟩
  case round =>
    clear H10
    obtain ⟨i, hi, rfl, HW⟩ := hrel
    by_cases hin : i < nr
    · have hiz : (i : Int) < (nr : Int) := by omega
      obtain ⟨o', hS⟩ := HW.out
      have hil : i < R.length := by rw [HL.out.2.1]; exact hin
      have hbl := HG.out.wr.lt
      have hol := HG.out.wr.own
      have hcr : wr.cell? ⟨r, i, none⟩ = some (.int .i64 R[i]) := by
        have hne : ¬ (r = b ∨ o = some r) := by
          rintro (e | e)
          · have := H7.out.2.2.2.2.2.2.1; omega
          · have := hol _ e; have := H7.out.2.2.2.2.2.2.1; omega
        rw [World.cell?_of_block (hS.keep.block r H7.out.2.2.2.1.1 hne)]
        exact H7.out.2.2.2.1.2 i hil
      obtain ⟨x, hx⟩ : ∃ x : Nat, R[i] = (x : Int) := ⟨(R[i]).toNat, by have := HRv.out _ (List.getElem_mem hil); omega⟩
      have hx8 : x < 8 := by have := HRv.out _ (List.getElem_mem hil); omega
      rw [hx] at hcr
      have hpc := hS.pg.c0
      have HPt : Hid (Calls Tryz.prog 23 #[.pointer (some ⟨b, 0, none⟩), .int .i64 (x : Int), .int .i64 3] wr fun e w' => e = .returned (.int .i64 0) ∧ PgOn wr w' p b o' (L3 ++ threeB (R.take i) ++ bitsOf x 3) u1 u2) := hS.pg.put x 3 (by omega) (by omega) (by have := HL3.out.1; rw [List.length_append, threeB_len, List.length_take]; omega)
      have HT : Hid (L3 ++ threeB (R.take i) ++ bitsOf x 3 = L3 ++ threeB (R.take (i + 1))) := by
        show _ = _
        rw [List.take_add_one, List.getElem?_eq_getElem hil, hx]
        rw [show (some ((x : Int))).toList = [(x : Int)] from rfl, threeB_snoc, Int.toNat_natCast, List.append_assoc]
      have HS := hide hS
      clear hS HW hx hil hbl hol
      go_wp2_with fail
      refine HPt.out.mono ?_
      rintro e w11 ⟨rfl, hO11⟩
      have HW2 : Hid (∃ o', Since w7 w11 p b o o' (L3 ++ threeB (R.take (i + 1))) u1 u2) := by
        rw [HT.out] at hO11
        exact HS.out.step hO11
      clear hO11 HPt HS HT hcr hpc
      go_wp2
      go_roundw
      case rel => exact ⟨i + 1, by omega, by push_cast; rfl, HW2⟩
      case measure => simp [intOf]; omega
    · obtain rfl : i = nr := by omega
      have et : R.take i = R := List.take_of_length_le (by rw [HL.out.2.1]; omega)
      obtain ⟨o', hS⟩ := HW.out
      rw [et] at hS
      have hbl := HG.out.wr.lt
      have hol := HG.out.wr.own
      have hPs : Pfx wr gs C := H7.out.2.2.1.kept hS.keep (by
        rintro (e | e)
        · have := H7.out.2.2.2.2.2.1; omega
        · have := hol _ e; have := H7.out.2.2.2.2.2.1; omega)
      have HCo2 := hide (HCo.out gs wr hPs)
      have HS := hide hS
      clear hS HW et hPs HCo hbl hol
      go_wp2_with fail
      refine HCo2.out.mono ?_
      rintro e w12 ⟨gc, rfl, hK12, hgc, hD12⟩
      obtain ⟨L4, hL4⟩ : ∃ L4, L3 ++ threeB R = L4 := ⟨_, rfl⟩
      have HL4 : Hid (L4.length ≤ 30100) := by
        show _ ≤ _
        rw [← hL4, List.length_append, threeB_len]; have := HL3.out.1; have := HL.out.2.1; omega
      have HS12 : Hid (Pg w12 p b o' L4 u1 u2 ∧ Cds w12 gc C.length (codeF C) ∧ gc ≠ b ∧ o' ≠ some gc ∧ (∀ j (h : j < (X ++ Y).length), w12.cell? ⟨bd, off + j, none⟩ = some (.int .i64 (X ++ Y)[j])) ∧ bd < w12.heap.size ∧ bd ≠ b ∧ o' ≠ some bd) := by
        have hp := HS.out.pg
        rw [hL4] at hp
        have hbl := HG.out.wr.lt
        have hol := HG.out.wr.own
        have hb1 := hp.wr.lt
        have ho1 := hp.wr.own
        have z1 := HS.out.keep.size
        have hbd := H7.out.2.2.2.2.2.2.2.2.1
        have hbw := H7.out.2.2.2.2.2.2.2.1
        have hn : ¬ (bd = b ∨ o = some bd) := by
          rintro (e | e)
          · omega
          · have := hol _ e; omega
        refine ⟨hp.keptF hK12, hD12, by omega, fun e => by have := ho1 _ e; omega, fun j hj => ?_, by have := hK12.size; omega, by omega, fun e => ?_⟩
        · rw [World.cell?_of_block (hK12.block bd (by omega) (fun h => h)), World.cell?_of_block (HS.out.keep.block bd hbd hn)]
          exact H7.out.2.2.2.2.1 j hj
        · rcases HS.out.own with e2 | ⟨g, e2, e3⟩
          · rw [e2] at e; exact hn (.inr e)
          · rw [e2] at e; cases e; omega
      have HK12 : Hid ((o' = o ∨ ∃ g, o' = some g ∧ w.heap.size ≤ g) ∧ Keeps (fun k => k = b ∨ o = some k) w w12) := by
        have z7 := H7.out.2.1.size
        refine ⟨?_, ((H7.out.2.1.mono (fun _ _ h => h.elim)).trans HS.out.keep (fun _ _ h => h)).trans hK12 (fun _ _ h => h.elim)⟩
        rcases HS.out.own with e2 | ⟨g, e2, e3⟩
        · exact .inl e2
        · exact .inr ⟨g, e2, by omega⟩
      have HM : Hid ((X ++ Y).length = M) := H7.out.2.2.2.2.2.2.2.2.2
      have HFin : Hid (F = L4 ++ codesB C (X ++ Y)) := by rw [← hL4]; exact HL3.out.2
      have H12 : Hid (∃ o2, Since w12 w12 p b o' o2 (L4 ++ codesB C ((X ++ Y).take 0)) u1 u2) := ⟨o', by simp only [List.take_zero, codesB, List.flatMap_nil, List.append_nil]; exact ⟨HS12.out.1, .inl rfl, Keeps.refl _ _⟩⟩
      have hMb : M ≤ 316 := by omega
      clear hK12 hgc hD12 HCo2 HS H7 HL3 hL4 HRv HG HL
      go_wp2_with fail
      go_loopw [72] (fun s72 w' => ∃ j : Nat, j ≤ M ∧ s72 = .int .i64 (j : Int) ∧ Hid (∃ o2, Since w12 w' p b o' o2 (L4 ++ codesB C ((X ++ Y).take j)) u1 u2)) (fun s72 w' => ((M : Int) - intOf s72).toNat)
      case atStart => exact ⟨0, by omega, rfl, H12⟩
      case round =>
        clear H12
        obtain ⟨j, hj, rfl, HW⟩ := hrel
        by_cases hjn : j < M
        · have hjz : (j : Int) < (M : Int) := by omega
          obtain ⟨o2, hS⟩ := HW.out
          obtain ⟨k1, k2, k3, k4, k5, k6, k7, k8⟩ := HS12.out
          have hjl : j < (X ++ Y).length := by rw [HM.out]; exact hjn
          have hcr : wr.cell? ⟨bd, off + j, none⟩ = some (.int .i64 (X ++ Y)[j]) := by
            rw [World.cell?_of_block (hS.keep.block bd k6 (by rintro (e | e); exact k7 e; exact k8 e))]; exact k5 j hjl
          have hpos := HCd.out.2.2.2 _ (List.getElem_mem hjl)
          have hxl := lt_of_at hpos
          obtain ⟨x, hx⟩ : ∃ x : Nat, (X ++ Y)[j] = (x : Int) := ⟨((X ++ Y)[j]).toNat, by have := hall _ (List.getElem_mem hjl); omega⟩
          rw [hx, Int.toNat_natCast] at hpos hxl
          rw [hx] at hcr
          have hc15 := may_at HCd.out.1 x hxl
          rw [← at_eq x hxl] at hc15
          obtain ⟨q, hq⟩ : ∃ q : Nat, at_ C x = (q : Int) := ⟨(at_ C x).toNat, by omega⟩
          have HX : Hid (∀ w' o3 L', Since w12 w' p b o' o3 L' u1 u2 → w'.cell? ⟨p, 0, none⟩ = some (.pointer (some ⟨b, 0, none⟩)) ∧ w'.cell? ⟨gc, x * 2, none⟩ = some (.int .i64 (q : Int)) ∧ w'.cell? ⟨gc, x * 2 + 1, none⟩ = some (.int .i64 (codeV C x : Int))) := fun w' o3 L' h => by
            have hcd := k2.kept h.keep (by rintro (e | e); exact k3 e; exact k4 e)
            have h1 := hcd.bits x hxl
            have h2 := hcd.value x hxl
            simp only [codeF, hq] at h1 h2
            exact ⟨h.pg.c0, h1, h2⟩
          have hlen := codesB_len HCd.out.1 ((X ++ Y).take j)
          rw [List.length_take] at hlen
          have HCc : Hid (Calls Tryz.prog 79 #[.pointer (some ⟨b, 0, none⟩), .agg #[.int .i64 (q : Int), .int .i64 (codeV C x : Int)]] wr.drew fun e w' => e = .returned (.int .i64 0) ∧ PgOn wr.drew w' p b o2 (L4 ++ codesB C ((X ++ Y).take j) ++ codeB C x) u1 u2) := hS.drew.pg.code C HCd.out.1 HCd.out.2.1 hxl hq (by omega) (by have := HL4.out; rw [List.length_append]; omega)
          have HT : Hid (L4 ++ codesB C ((X ++ Y).take j) ++ codeB C x = L4 ++ codesB C ((X ++ Y).take (j + 1))) := by
            show _ = _
            rw [List.take_add_one, List.getElem?_eq_getElem hjl, hx]
            rw [show (some ((x : Int))).toList = [(x : Int)] from rfl, codesB_snoc, Int.toNat_natCast, List.append_assoc]
          obtain ⟨z1, z2, z3⟩ := HX.out _ _ _ hS
          have hx19 : (x : Int) < 19 := by rw [HCd.out.2.2.1] at hxl; omega
          have HS := hide hS.drew
          generalize codeV C x = V at *
          clear hS HW hx hjl hpos hxl hc15 hq hlen k1 k2 k3 k4 k5 k6 k7 k8
          go_wp2_with fail
          go_region_held3 (fun w' => w'.cell? ⟨p, 0, none⟩ = some (.pointer (some ⟨b, 0, none⟩)) ∧ w'.cell? ⟨gc, x * 2, none⟩ = some (.int .i64 (q : Int)) ∧ w'.cell? ⟨gc, x * 2 + 1, none⟩ = some (.int .i64 (V : Int))) (go_keep)
            ((go_at_call 79; refine HCc.out.mono ?_; rintro e w13 ⟨rfl, hO13⟩; have HW2 : Hid (∃ o2, Since w12 w13 p b o' o2 (L4 ++ codesB C ((X ++ Y).take (j + 1))) u1 u2) := (by rw [HT.out] at hO13; exact HS.out.step hO13); have hS3 : w13.cell? ⟨p, 0, none⟩ = some (.pointer (some ⟨b, 0, none⟩)) ∧ w13.cell? ⟨gc, x * 2, none⟩ = some (.int .i64 (q : Int)) ∧ w13.cell? ⟨gc, x * 2 + 1, none⟩ = some (.int .i64 (V : Int)) := (by obtain ⟨o3, hh⟩ := HW2.out; exact HX.out _ _ _ hh); clear hO13))
          clear HCc HS HT HX hS3 z1 z2 z3 hcr
          go_wp2
          go_roundw
          case rel => exact ⟨j + 1, by omega, by push_cast; rfl, HW2⟩
          case measure => simp [intOf]; omega
        · obtain rfl : j = M := by omega
          have et : (X ++ Y).take j = X ++ Y := List.take_of_length_le (by rw [HM.out]; omega)
          obtain ⟨o2, hS⟩ := HW.out
          rw [et] at hS
          have HF : Hid (PgOn w wr p b o F u1 u2) := by
            rw [HFin.out]
            have hs := own_step HK12.out.1 HK12.out.2 hS.own hS.keep
            exact ⟨o2, hS.pg, hs.1, hs.2⟩
          clear hS HW et HS12 HCd HK12
          go_wp2
          go_end0
          exact ⟨rfl, HF.out⟩

end Go.Proofs.YtdbfbijalhknnabGreat.Bk

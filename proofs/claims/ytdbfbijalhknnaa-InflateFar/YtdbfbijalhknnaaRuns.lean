/-
  repeated, run and runs of package inflate: the lengths that a dynamic block tells.
-/
import Derived.Test.YtdbfbijalhknnaaFinder
namespace Go.Proofs.Ytdbfbijalhknnaa
open Go.RowKit
open Hf Tb
set_option linter.unusedVariables false
set_option linter.unusedSimpArgs false

/-- What a call leaves that reads a few lengths into a block of their own. -/
def RunPost (R : Option (List Int × Bts)) (w : World) (b r : Nat) (v : Value) (s : ByteArray) (most : Nat) (xs : List Nat) (e : Ending) (w' : World) : Prop :=
  (R = none → e = .returned (.tuple #[.slice none 0 0, .int .i64 700]) ∧ Keeps (Own3 b r v) w w') ∧
  ∀ rs L', R = some (rs, L') → ∃ g, e = .returned (.tuple #[.slice (some ⟨g, 0, none⟩) rs.length rs.length, .int .i64 0]) ∧ Blk w' g rs ∧ w.heap.size ≤ g ∧ St w' b r v s most L' xs ∧ Rdv w w' b r v
theorem RunPost.noneI {w : World} {b r : Nat} {v : Value} {s : ByteArray} {most : Nat} {xs : List Nat} {w' : World} (h : Keeps (Own3 b r v) w w') : RunPost none w b r v s most xs (.returned (.tuple #[.slice none 0 0, .int .i64 700])) w' :=
  ⟨fun _ => ⟨rfl, h⟩, fun _ _ e => by cases e⟩
theorem RunPost.someI {w : World} {b r : Nat} {v : Value} {s : ByteArray} {most : Nat} {xs : List Nat} {w' : World} {rs : List Int} {L' : Bts} {g n : Nat} (hn : rs.length = n) (hB : Blk w' g rs) (hg : w.heap.size ≤ g) (hS : St w' b r v s most L' xs) (hA : Rdv w w' b r v) : RunPost (some (rs, L')) w b r v s most xs (.returned (.tuple #[.slice (some ⟨g, 0, none⟩) n n, .int .i64 0])) w' :=
  ⟨fun e => by (cases e), fun _ _ e => by cases e; subst hn; exact ⟨g, rfl, hB, hg, hS, hA⟩⟩

set_option maxHeartbeats 2000000 in
set_option maxRecDepth 100000 in
theorem repeated_ok {w : World} {b r : Nat} {v : Value} {s : ByteArray} {most : Nat} {L : Bts} {xs : List Nat} (h : St w b r v s most L xs) (y : Int) (a k : Nat) (ha1 : 1 ≤ a) (ha : a ≤ 11) (hk : k ≤ 7) :
    Calls Try.prog 103 #[.pointer (some ⟨b, 0, none⟩), .int .i64 y, .int .i64 (a : Int), .int .i64 (k : Int)] w (RunPost (bnd (aboveL a k) (fun m => retL (List.replicate m y)) L) w b r v s most xs) := by
  obtain ⟨R, hR⟩ : ∃ R, bnd (aboveL a k) (fun m => retL (List.replicate m y)) L = R := ⟨_, rfl⟩
  rw [hR]
  rcases h1 : aboveL a k L with _ | ⟨m, L1⟩
  · have e : R = none := by rw [← hR, bnd_none h1]
    subst e
    have HC : Hid (Calls Try.prog 82 #[.pointer (some ⟨b, 0, none⟩), .int .i64 (a : Int), .int .i64 (k : Int)] w fun e w' => e = .returned (.tuple #[.int .i64 0, .int .i64 700]) ∧ Keeps (Own3 b r v) w w') := above_none h a k (by omega) h1
    clear h h1 hR
    go_enter Try.func103, Try.ntmps103
    go_wp2_with fail
    refine HC.out.mono ?_
    rintro e w2 ⟨rfl, hk2⟩
    have HK : Hid (Keeps (Own3 b r v) w w2) := hk2
    clear hk2 HC
    go_wp2
    go_ret2
    exact RunPost.noneI HK.out
  · have e : R = some (List.replicate m y, L1) := by rw [← hR, bnd_eq h1]; rfl
    subst e
    have HC : Hid (Calls Try.prog 82 #[.pointer (some ⟨b, 0, none⟩), .int .i64 (a : Int), .int .i64 (k : Int)] w fun e w' => e = .returned (.tuple #[.int .i64 (m : Int), .int .i64 0]) ∧ St w' b r v s most L1 xs ∧ Rdv w w' b r v) := above_some h a k m L1 (by omega) (by omega) h1
    have hm : 1 ≤ m ∧ m ≤ 300 := by
      obtain ⟨q, hq, rfl⟩ := aboveL_some h1
      have h2 := getL_lt hq
      have h3 : (2 : Nat) ^ k ≤ 2 ^ 7 := Nat.pow_le_pow_right (by decide) hk
      omega
    clear h h1 hR
    go_enter Try.func103, Try.ntmps103
    go_wp2_with fail
    refine HC.out.mono ?_
    rintro e w2 ⟨rfl, hS2, hA2⟩
    have H2 : Hid (St w2 b r v s most L1 xs ∧ Rdv w w2 b r v) := ⟨hS2, hA2⟩
    have HC2 : Hid (Calls Try.prog 81 #[.slice (some ⟨w2.heap.size, 0, none⟩) 1 1, .int .i64 (m : Int)] (w2.alloc (.cells #[.int .i64 y] 3)) fun e w' => ∃ g, e = .returned (.slice (some ⟨g, 0, none⟩) m m) ∧ Keeps (fun _ => False) (w2.alloc (.cells #[.int .i64 y] 3)) w' ∧ (w2.alloc (.cells #[.int .i64 y] 3)).heap.size ≤ g ∧ Blk w' g (List.replicate m y)) := repeat_ok y w2.heap.size m _ (Blk.lit w2 [y]) hm.1 hm.2
    clear hS2 hA2 HC hm
    go_wp2_with fail
    refine HC2.out.mono ?_
    rintro e w3 ⟨g, rfl, hK3, hg3, hB3⟩
    have HP : Hid (RunPost (some (List.replicate m y, L1)) w b r v s most xs (.returned (.tuple #[.slice (some ⟨g, 0, none⟩) m m, .int .i64 0])) w3) := by
      have k2 : Keeps (fun _ => False) w2 w3 := ((Keeps.refl _ w2).alloc _).trans hK3 (fun _ _ h => h)
      refine RunPost.someI (by simp) hB3 ?_ (H2.out.1.keptF k2) (H2.out.2.trans (Rdv.ofF b r v k2))
      have := H2.out.2.keep.size
      have : w2.heap.size ≤ g := by simp at hg3; omega
      omega
    clear HC2 hK3 hg3 hB3 H2
    go_wp2
    go_ret2
    exact HP.out

set_option maxHeartbeats 2000000 in
set_option maxRecDepth 100000 in
theorem run_ok {w : World} {b r : Nat} {v : Value} {s : ByteArray} {most : Nat} {L : Bts} {xs : List Nat} (h : St w b r v s most L xs) (i : Nat) (a : Option Addr) (out : List Int) (cap : Nat) (hR : Row w a out) (hl : out.length ≤ 100000) (hi : i ≤ 100000) :
    Calls Try.prog 95 #[.pointer (some ⟨b, 0, none⟩), .int .i64 (i : Int), .slice a out.length cap] w (RunPost (rle i out L) w b r v s most xs) := by
  have HS : Hid (St w b r v s most L xs) := h
  have HF : ∀ (y : Int) (p k : Nat), 1 ≤ p → p ≤ 11 → k ≤ 7 → Hid (Calls Try.prog 103 #[.pointer (some ⟨b, 0, none⟩), .int .i64 y, .int .i64 (p : Int), .int .i64 (k : Int)] w (RunPost (bnd (aboveL p k) (fun m => retL (List.replicate m y)) L) w b r v s most xs)) := fun y p k h1 h2 h3 => repeated_ok h y p k h1 h2 h3
  clear h
  have fin : ∀ R e w2, RunPost R w b r v s most xs e w2 → (e = .returned (.tuple #[.slice none 0 0, .int .i64 700])) ∨ ∃ u : Value, e = .returned (.tuple #[u, .int .i64 0]) := by
    intro R e w2 hP
    rcases R with _ | ⟨rs, L'⟩
    · exact .inl (hP.1 rfl).1
    · obtain ⟨g, hg, _⟩ := hP.2 rs L' rfl; exact .inr ⟨_, hg⟩
  by_cases h16 : i = 16
  · subst h16
    by_cases h0 : out.length = 0
    · have e : rle 16 out L = none := by unfold rle; rw [if_pos rfl, if_pos h0]; rfl
      rw [e, h0]
      clear e h0 hR HF fin
      go_enter Try.func95, Try.ntmps95
      go_wp2
      go_ret2
      exact RunPost.noneI (Keeps.refl _ _)
    · have e : rle 16 out L = bnd (aboveL 3 2) (fun m => retL (List.replicate m (at_ out (out.length - 1)))) L := by unfold rle; rw [if_pos rfl, if_neg h0]
      rw [e]
      have HC := HF (at_ out (out.length - 1)) 3 2 (by omega) (by omega) (by omega)
      obtain ⟨q, off, rfl, hq1, hq2⟩ := hR.spot (by omega)
      obtain ⟨j, hj⟩ : ∃ j, out.length - 1 = j := ⟨_, rfl⟩
      have hcell := hq2 (out.length - 1) (by omega)
      rw [← at_eq (out.length - 1) (by omega)] at hcell
      rw [hj] at HC hcell ⊢
      obtain ⟨y, hy⟩ : ∃ y, at_ out j = y := ⟨_, rfl⟩
      rw [hy] at HC hcell ⊢
      obtain ⟨R, hRR⟩ : ∃ R, bnd (aboveL 3 2) (fun m => retL (List.replicate m y)) L = R := ⟨_, rfl⟩
      rw [hRR] at HC ⊢
      have hw1 : IntKind.i64.wrap ((out.length : Int) - 1) = (j : Int) := by rw [wrap_i64_small _ (by omega) (by omega)]; omega
      have hw2 : wrap64 ((out.length : Int) - 1) = (j : Int) := by unfold wrap64; omega
      have hw3 : (out.length : Int) - 1 = (j : Int) := by omega
      have hjl : (j : Int) < (out.length : Int) := by omega
      have hn0 : ¬ ((out.length : Int) = 0) := by omega
      clear hRR hy hj e h0 hR hq2 HF hw3
      generalize out.length = N at *
      go_enter Try.func95, Try.ntmps95
      go_wp2_with fail
      refine HC.out.mono ?_
      intro e w2 hP
      have HP : Hid (RunPost R w b r v s most xs e w2) := hP
      rcases fin R e w2 hP with rfl | ⟨u, rfl⟩
      all_goals
        clear hP HC hcell fin
        go_wp2
        go_ret2
        exact HP.out
  · by_cases h17 : i = 17
    · subst h17
      have e : rle 17 out L = bnd (aboveL 3 3) (fun m => retL (List.replicate m 0)) L := by unfold rle; rw [if_neg (by decide), if_pos rfl]
      rw [e]
      have HC := HF 0 3 3 (by omega) (by omega) (by omega)
      obtain ⟨R, hRR⟩ : ∃ R, bnd (aboveL 3 3) (fun m => retL (List.replicate m (0 : Int))) L = R := ⟨_, rfl⟩
      rw [hRR] at HC ⊢
      clear hRR e hR HF
      go_enter Try.func95, Try.ntmps95
      go_wp2_with fail
      refine HC.out.mono ?_
      intro e w2 hP
      have HP : Hid (RunPost R w b r v s most xs e w2) := hP
      rcases fin R e w2 hP with rfl | ⟨u, rfl⟩
      all_goals
        clear hP HC fin
        go_wp2
        go_ret2
        exact HP.out
    · by_cases h18 : i = 18
      · subst h18
        have e : rle 18 out L = bnd (aboveL 11 7) (fun m => retL (List.replicate m 0)) L := by unfold rle; rw [if_neg (by decide), if_neg (by decide), if_pos rfl]
        rw [e]
        have HC := HF 0 11 7 (by omega) (by omega) (by omega)
        obtain ⟨R, hRR⟩ : ∃ R, bnd (aboveL 11 7) (fun m => retL (List.replicate m (0 : Int))) L = R := ⟨_, rfl⟩
        rw [hRR] at HC ⊢
        clear hRR e hR HF
        go_enter Try.func95, Try.ntmps95
        go_wp2_with fail
        refine HC.out.mono ?_
        intro e w2 hP
        have HP : Hid (RunPost R w b r v s most xs e w2) := hP
        rcases fin R e w2 hP with rfl | ⟨u, rfl⟩
        all_goals
          clear hP HC fin
          go_wp2
          go_ret2
          exact HP.out
      · have e : rle i out L = some ([(i : Int)], L) := by unfold rle; rw [if_neg h16, if_neg h17, if_neg h18]; rfl
        rw [e]
        have h1 : ¬ ((i : Int) = 16) := by omega
        have h2 : ¬ ((i : Int) = 17) := by omega
        have h3 : ¬ ((i : Int) = 18) := by omega
        clear e hR HF fin
        go_enter Try.func95, Try.ntmps95
        go_wp2
        go_ret2
        have k2 : Keeps (fun _ => False) w (w.alloc (.cells #[.int .i64 (i : Int)] 3)) := (Keeps.refl _ w).alloc _
        exact RunPost.someI (n := 1) rfl (Blk.lit w [(i : Int)]) (Nat.le_refl _) (HS.out.keptF k2) (Rdv.ofF b r v k2)

theorem above_le {a k m : Nat} {L L' : Bts} (ha : a ≤ 11) (hk : k ≤ 7) (h : aboveL a k L = some (m, L')) : m ≤ 300 := by
  obtain ⟨q, hq, rfl⟩ := aboveL_some h
  have h2 := getL_lt hq
  have h3 : (2 : Nat) ^ k ≤ 2 ^ 7 := Nat.pow_le_pow_right (by decide) hk
  omega
theorem rle_le {i : Nat} {out r : List Int} {L L' : Bts} (h : rle i out L = some (r, L')) : r.length ≤ 300 := by
  unfold rle at h
  split at h
  · split at h
    · simp [noL] at h
    · obtain ⟨m, L1, h1, h2⟩ := bnd_some h
      simp [retL] at h2
      rw [← h2.1]; simp; exact above_le (by omega) (by omega) h1
  · split at h
    · obtain ⟨m, L1, h1, h2⟩ := bnd_some h
      simp [retL] at h2
      rw [← h2.1]; simp; exact above_le (by omega) (by omega) h1
    · split at h
      · obtain ⟨m, L1, h1, h2⟩ := bnd_some h
        simp [retL] at h2
        rw [← h2.1]; simp; exact above_le (by omega) (by omega) h1
      · simp [retL] at h; rw [← h.1]; simp

end Go.Proofs.Ytdbfbijalhknnaa

/-
  find and symbol of package inflate: the symbol whose code the next bits are.
-/
import Derived.Test.YtdbfbijalhknnaaPut
namespace Go.Proofs.Ytdbfbijalhknnaa
open Go.RowKit
open Hf Tb
set_option linter.unusedVariables false
set_option linter.unusedSimpArgs false

theorem findL_eq (ys : List Int) (k v : Nat) (h1 : 1 ≤ k) (h2 : k ≤ 15) : findL ys (k : Int) (v : Int) = if fstC (cn ys) k ≤ v then (symF (k : Int) ys 0)[v - fstC (cn ys) k]? else none := by
  unfold findL
  have e1 : (decide (1 ≤ (k : Int)) && decide ((k : Int) ≤ 15)) = true := by simp; omega
  rw [e1, cond_true, show ((k : Int)).toNat = k by omega]
  by_cases h : fstC (cn ys) k ≤ v
  · rw [if_pos h, decide_eq_true (by omega), cond_true, nthL_sym, show ((v : Int) - (fstC (cn ys) k : Int)).toNat = v - fstC (cn ys) k by omega]
  · rw [if_neg h, decide_eq_false (by omega), cond_false]

set_option maxHeartbeats 800000 in
set_option maxRecDepth 100000 in
theorem find_none {w : World} {lo hi f : Nat} {ys : List Int} (h : Fnd w lo hi f ys) (k v : Nat) (h1 : 1 ≤ k) (h2 : k ≤ 15) (hv : v ≤ 1000000) (hn : findL ys (k : Int) (v : Int) = none) :
    Calls Try.prog 74 #[.pointer (some ⟨f, 0, none⟩), .int .i64 (k : Int), .int .i64 (v : Int)] w fun e w' => e = .returned (.tuple #[.int .i64 0, .bool false]) ∧ w' = w := by
  obtain ⟨_, _, _, h4⟩ := h
  obtain ⟨F, ad, cap, c1, c2, c3, c4, c5⟩ := h4 k h1 h2
  rw [findL_eq ys k v h1 h2] at hn
  have hk : (k : Int) < 16 := by omega
  have hk0 : (0 : Int) ≤ k := by omega
  generalize hz : symF (k : Int) ys 0 = zs at *
  by_cases hlt : v < F
  · have hl : (v : Int) - F < 0 := by omega
    clear c3 c5 hn h4 hz
    go_enter Try.func74, Try.ntmps74
    go_wp2
    go_ret2
    exact ⟨rfl, rfl⟩
  · have hl : ¬ (v : Int) - F < 0 := by omega
    have hg : (zs.length : Int) ≤ (v : Int) - F := by
      by_cases he : zs = []
      · subst he; simp; omega
      · have := c3 he
        rw [if_pos (by omega), List.getElem?_eq_none_iff] at hn
        omega
    have hge : decide ((zs.length : Int) ≤ (v : Int) - F) = true := decide_eq_true hg
    clear c3 c5 hn h4 hz
    generalize zs.length = n at *
    go_enter Try.func74, Try.ntmps74
    go_wp2
    go_ret2
    exact ⟨rfl, rfl⟩

set_option maxHeartbeats 800000 in
set_option maxRecDepth 100000 in
theorem find_some {w : World} {lo hi f : Nat} {ys : List Int} (h : Fnd w lo hi f ys) (k v i : Nat) (h1 : 1 ≤ k) (h2 : k ≤ 15) (hv : v ≤ 1000000) (hn : findL ys (k : Int) (v : Int) = some i) :
    Calls Try.prog 74 #[.pointer (some ⟨f, 0, none⟩), .int .i64 (k : Int), .int .i64 (v : Int)] w fun e w' => e = .returned (.tuple #[.int .i64 (i : Int), .bool true]) ∧ w' = w := by
  obtain ⟨_, _, _, h4⟩ := h
  obtain ⟨F, ad, cap, c1, c2, c3, c4, c5⟩ := h4 k h1 h2
  rw [findL_eq ys k v h1 h2] at hn
  have hk : (k : Int) < 16 := by omega
  have hk0 : (0 : Int) ≤ k := by omega
  generalize hz : symF (k : Int) ys 0 = zs at *
  by_cases hF : fstC (cn ys) k ≤ v
  · rw [if_pos hF] at hn
    have he : zs ≠ [] := fun e => by subst e; simp at hn
    have eF := c3 he
    rw [← eF] at hF hn
    obtain ⟨hj, hi⟩ := List.getElem?_eq_some_iff.1 hn
    obtain ⟨g, rfl, _, _, hc⟩ := c5 (v - F) hj
    rw [hi] at hc
    obtain ⟨j, hjv⟩ : ∃ j : Nat, (v : Int) - F = (j : Int) := ⟨v - F, by omega⟩
    have ej : v - F = j := by omega
    rw [ej] at hc hj
    have hj2 : (j : Int) < (zs.length : Int) := by omega
    have hl : ¬ (v : Int) - F < 0 := by omega
    have hl2 : ¬ (j : Int) < 0 := by omega
    have hge : ¬ ((zs.length : Int) ≤ (j : Int)) := by omega
    have hw : IntKind.i64.wrap ((v : Int) - F) = (j : Int) := by rw [hjv]; exact wrap_i64_small _ (by omega) (by omega)
    have hw2 : wrap64 ((v : Int) - F) = (j : Int) := by rw [hjv]; unfold wrap64; omega
    clear c3 c5 hn h4 hz hi he eF ej
    generalize zs.length = n at *
    go_enter Try.func74, Try.ntmps74
    go_wp2
    go_ret2
    exact ⟨rfl, rfl⟩
  · rw [if_neg hF] at hn; cases hn

theorem or_one (v : Nat) (b : Bool) (hv : v ≤ 1000000) : bits .or .i64 ((2 * v : Nat) : Int) ((b.toNat : Nat) : Int) = ((2 * v + b.toNat : Nat) : Int) := by
  rw [i64_or_nat _ _ (by omega) (by cases b <;> simp)]
  congr 1
  have : b.toNat < 2 ^ 1 := by cases b <;> simp
  have := Nat.two_pow_add_eq_or_of_lt this v
  rw [Nat.pow_one] at this; exact this.symm

/-- What a call leaves that reads the next symbol, or a number. -/
def NumPost (R : Option (Nat × Bts)) (w : World) (b r : Nat) (v : Value) (s : ByteArray) (most : Nat) (xs : List Nat) (e : Ending) (w' : World) : Prop :=
  (R = none → e = .returned (.tuple #[.int .i64 0, .int .i64 700]) ∧ Keeps (Own3 b r v) w w') ∧
  ∀ i L', R = some (i, L') → e = .returned (.tuple #[.int .i64 (i : Int), .int .i64 0]) ∧ St w' b r v s most L' xs ∧ Rdv w w' b r v

set_option maxHeartbeats 2000000 in
set_option maxRecDepth 100000 in
theorem symbol_ok {w : World} {b r : Nat} {v : Value} {s : ByteArray} {most : Nat} {L : Bts} {xs : List Nat} (h : St w b r v s most L xs) {lo hi f : Nat} {ys : List Int} (hf : Fnd w lo hi f ys) (ha : Away lo hi b r v) :
    Calls Try.prog 68 #[.pointer (some ⟨b, 0, none⟩), .pointer (some ⟨f, 0, none⟩)] w (NumPost (symN ys L) w b r v s most xs) := by
  have HF : Hid (∀ w', Rdv w w' b r v → Fnd w' lo hi f ys) := fun w' k => hf.kept k.keep ha.not
  have H0 : Hid (St w b r v s most L xs) := h
  obtain ⟨R, hR⟩ : ∃ R, symN ys L = R := ⟨_, rfl⟩
  rw [hR]
  have HR : Hid (symN ys L = R) := hR
  clear hf ha h hR
  go_enter Try.func68, Try.ntmps68
  go_wp2
  go_loopw [6, 7] (fun s6 s7 w' => ∃ (k x : Nat) (L1 : Bts), k ≤ 15 ∧ s7 = .int .i64 ((k + 1 : Nat) : Int) ∧ s6 = .int .i64 (x : Int) ∧ Hid (x < 2 ^ k ∧ symG ys (15 - k) k x L1 = R ∧ St w' b r v s most L1 xs ∧ Rdv w w' b r v)) (fun _ s7 _ => (16 - intOf s7).toNat)
  case atStart => exact ⟨0, 0, L, by omega, rfl, rfl, by simp, HR.out, H0.out, Rdv.refl _ _ _ _⟩
  case round =>
    obtain ⟨k, x, L1, hk, rfl, rfl, HW⟩ := hrel
    by_cases h15 : k < 15
    · have hiz : ((k + 1 : Nat) : Int) ≤ 15 := by omega
      have hx : x ≤ 32768 := by
        have h1 := HW.out.1
        have h2 : (2 : Nat) ^ k ≤ 2 ^ 15 := Nat.pow_le_pow_right (by decide) (by omega)
        omega
      have HE : Hid (symG ys ((14 - k) + 1) k x L1 = R) := by
        have := HW.out.2.1
        rw [show 15 - k = (14 - k) + 1 by omega] at this; exact this
      rcases L1 with _ | ⟨bt, L2⟩
      · have HC : Hid (Calls Try.prog 40 #[.pointer (some ⟨b, 0, none⟩), .int .i64 1] wr fun e w' => e = .returned (.tuple #[.int .i64 0, .int .i64 700]) ∧ Keeps (Own3 b r v) wr w') := number_none HW.out.2.2.1 1 (by omega) (by simp [getL])
        go_wp2_with fail
        refine HC.out.mono ?_
        rintro e w2 ⟨rfl, hw⟩
        have HK : Hid (Keeps (Own3 b r v) w w2) := HW.out.2.2.2.lost hw
        clear hw HC
        go_wp2
        go_ret2
        have hr : R = none := by rw [← HE.out]; rfl
        exact ⟨fun _ => ⟨rfl, HK.out⟩, fun i L' e => by rw [hr] at e; cases e⟩
      · have HC : Hid (Calls Try.prog 40 #[.pointer (some ⟨b, 0, none⟩), .int .i64 1] wr fun e w' => e = .returned (.tuple #[.int .i64 ((bt.toNat : Nat) : Int), .int .i64 0]) ∧ St w' b r v s most L2 xs ∧ Rdv wr w' b r v) := number_some HW.out.2.2.1 1 bt.toNat L2 (by omega) (by simp [getL, val])
        have hor : bits .or .i64 ((x : Int) * 2) ((bt.toNat : Nat) : Int) = ((2 * x + bt.toNat : Nat) : Int) := by
          have := or_one x bt (by omega)
          rw [show (((2 * x : Nat)) : Int) = (x : Int) * 2 by push_cast; omega] at this; exact this
        have hb1 : bt.toNat ≤ 1 := by cases bt <;> simp
        generalize hy : 2 * x + bt.toNat = y at *
        have HY : Hid (2 * x + bt.toNat = y) := hy
        have hy1 : y ≤ 1000000 := by omega
        clear hy
        go_wp2_with fail
        refine HC.out.mono ?_
        rintro e w2 ⟨rfl, h2, hA2⟩
        have H2 : Hid (St w2 b r v s most L2 xs ∧ Rdv w w2 b r v) := ⟨h2, HW.out.2.2.2.trans hA2⟩
        clear h2 hA2 HC
        rcases hfi : findL ys ((k + 1 : Nat) : Int) (y : Int) with _ | i
        · have HC2 : Hid (Calls Try.prog 74 #[.pointer (some ⟨f, 0, none⟩), .int .i64 ((k : Int) + 1), .int .i64 (y : Int)] w2 fun e w' => e = .returned (.tuple #[.int .i64 0, .bool false]) ∧ w' = w2) := find_none (HF.out w2 H2.out.2) (k + 1) y (by omega) (by omega) hy1 hfi
          have HFI : Hid (findL ys ((k + 1 : Nat) : Int) (y : Int) = none) := hfi
          clear hfi
          go_wp2_with (first | (go_at_call 74; refine HC2.out.mono ?_; rintro e w3 ⟨rfl, hw3⟩; obtain rfl := hw3.symm; clear hw3))
          go_roundw
          case rel =>
            refine ⟨k + 1, y, L2, by omega, by push_cast; rfl, rfl, ?_, ?_, H2.out.1, H2.out.2⟩
            · have := HW.out.1; have := HY.out; rw [Nat.pow_succ]; omega
            · have := HE.out
              rw [symG, HY.out, HFI.out] at this
              rw [show 15 - (k + 1) = 14 - k by omega]; exact this
          case measure => simp [intOf]; omega
        · have HC2 : Hid (Calls Try.prog 74 #[.pointer (some ⟨f, 0, none⟩), .int .i64 ((k : Int) + 1), .int .i64 (y : Int)] w2 fun e w' => e = .returned (.tuple #[.int .i64 (i : Int), .bool true]) ∧ w' = w2) := find_some (HF.out w2 H2.out.2) (k + 1) y i (by omega) (by omega) hy1 hfi
          have HFI : Hid (findL ys ((k + 1 : Nat) : Int) (y : Int) = some i) := hfi
          clear hfi
          go_wp2_with (first | (go_at_call 74; refine HC2.out.mono ?_; rintro e w3 ⟨rfl, hw3⟩; obtain rfl := hw3.symm; clear hw3))
          go_ret2
          have hr : R = some (i, L2) := by
            rw [← HE.out, symG, HY.out, HFI.out]
          exact ⟨(fun e => by rw [hr] at e; cases e), fun i' L' e => by rw [hr] at e; cases e; exact ⟨rfl, H2.out⟩⟩
    · obtain rfl : k = 15 := by omega
      go_wp2
      go_ret2
      have hr : R = none := by rw [← HW.out.2.1]; rfl
      exact ⟨fun _ => ⟨rfl, HW.out.2.2.2.keep⟩, fun i L' e => by rw [hr] at e; cases e⟩

end Go.Proofs.Ytdbfbijalhknnaa

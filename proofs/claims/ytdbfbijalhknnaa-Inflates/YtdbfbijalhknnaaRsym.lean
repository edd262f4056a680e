/-
  The document's flow: symbol.
-/
import Derived.Test.YtdbfbijalhknnaaRbook
namespace Go.Proofs.Ytdbfbijalhknnaa
open Go.RowKit
open Hf Tb
set_option linter.unusedVariables false
set_option linter.unusedSimpArgs false

theorem symsTo_split (ys : List Int) (k : Nat) (hk : 1 ≤ k) : ∀ m, k + 1 ≤ m → ∃ r, symsTo ys m = symsTo ys k ++ symF (k : Int) ys 0 ++ r
  | 0, h => by omega
  | m + 1, h => by
    by_cases e : m = k
    · subst e; exact ⟨[], by rw [symsTo, if_neg (by omega), List.append_nil]⟩
    · obtain ⟨r, hr⟩ := symsTo_split ys k hk m (by omega)
      exact ⟨r ++ (if m = 0 then [] else symF (m : Int) ys 0), by rw [symsTo, hr, List.append_assoc]⟩
theorem symsTo_at (ys : List Int) (k j : Nat) (hk : 1 ≤ k) (hk2 : k ≤ 15) (hj : j < (symF (k : Int) ys 0).length) : ∃ h : (symsTo ys k).length + j < (symsTo ys 16).length, (symsTo ys 16)[(symsTo ys k).length + j] = (symF (k : Int) ys 0)[j] := by
  obtain ⟨r, hr⟩ := symsTo_split ys k hk 16 (by omega)
  have hl : (symsTo ys k).length + j < (symsTo ys 16).length := by rw [hr, List.length_append, List.length_append]; omega
  refine ⟨hl, ?_⟩
  have e : (symsTo ys 16)[(symsTo ys k).length + j]? = some (symF (k : Int) ys 0)[j] := by
    rw [hr, List.getElem?_append_left (by rw [List.length_append]; omega), List.getElem?_append_right (by omega), Nat.add_sub_cancel_left, List.getElem?_eq_getElem hj]
  rw [List.getElem?_eq_getElem hl] at e
  exact Option.some.inj e
theorem symsTo_next (ys : List Int) (k : Nat) (hk : 1 ≤ k) : (symsTo ys (k + 1)).length = (symsTo ys k).length + cn ys k := by
  rw [symsTo, if_neg (by omega), List.length_append, symF_length]; unfold cn; rw [if_neg (by omega)]

/-- What the document's symbol leaves. -/
def RSym (R : Option (Nat × Bts)) (w : World) (b : Nat) (v : Value) (s : ByteArray) (most : Nat) (xs : List Nat) (e : Ending) (w' : World) : Prop :=
  (R = none → e = .returned (.int .i64 (-1)) ∧ (∃ L', FS w' b v s most L' xs 700) ∧ Keeps (fun k => k = b) w w') ∧
  ∀ i L', R = some (i, L') → e = .returned (.int .i64 (i : Int)) ∧ FS w' b v s most L' xs 0 ∧ Keeps (fun k => k = b) w w'

set_option maxHeartbeats 4000000 in
set_option maxRecDepth 100000 in
theorem rsymbol_ok {w : World} {b : Nat} {v : Value} {s : ByteArray} {most : Nat} {L : Bts} {xs : List Nat} (h : FS w b v s most L xs 0) {lo hi q : Nat} {ys : List Int} (hB : RBk w lo hi q ys) (ha : b < lo ∨ hi ≤ b) (hl : ys.length ≤ 288) :
    Calls Try.prog 46 #[.pointer (some ⟨b, 0, none⟩), .pointer (some ⟨q, 0, none⟩)] w (RSym (symN ys L) w b v s most xs) := by
  obtain ⟨R, hR⟩ : ∃ R, symN ys L = R := ⟨_, rfl⟩
  rw [hR]
  have HB : Hid (∀ w', Keeps (fun k => k = b) w w' → RBk w' lo hi q ys) := fun w' k => hB.kept k (fun k h1 h2 e => by omega)
  have H0 : Hid (symN ys L = R ∧ FS w b v s most L xs 0 ∧ ys.length ≤ 288) := ⟨hR, h, hl⟩
  clear h hB ha hR hl
  go_enter Try.func46, Try.ntmps46
  go_wp2
  go_loopw [5, 6, 7, 8] (fun s5 s6 s7 s8 w' => ∃ (k x f t : Nat) (L1 : Bts), 1 ≤ k ∧ k ≤ 16 ∧ s8 = .int .i64 (k : Int) ∧ s5 = .int .i64 ((2 * x : Nat) : Int) ∧ s6 = .int .i64 (f : Int) ∧ s7 = .int .i64 (t : Int) ∧ Hid (x < 2 ^ (k - 1) ∧ f = fstC (cn ys) k ∧ t = (symsTo ys k).length ∧ f ≤ 2 * x ∧ symG ys (16 - k) (k - 1) x L1 = R ∧ FS w' b v s most L1 xs 0 ∧ Keeps (fun k => k = b) w w')) (fun _ _ _ s8 _ => (17 - intOf s8).toNat)
  case atStart => exact ⟨1, 0, 0, 0, L, by omega, by omega, rfl, rfl, rfl, rfl, by simp, by simp [fstC, cn], by simp [symsTo], by omega, H0.out.1, H0.out.2.1, Keeps.refl _ _⟩
  case round =>
    obtain ⟨k, x, f, t, L1, hk1, hk2, rfl, rfl, rfl, rfl, HW⟩ := hrel
    obtain ⟨c2, c3, c4, cf, p0, c1⟩ := HW.out.2.2.2.2.2.1.cell
    clear c2 c3 cf c1
    by_cases h15 : k < 16
    · have hkz : (k : Int) ≤ 15 := by omega
      have hkz0 : (0 : Int) ≤ (k : Int) := by omega
      have hk16 : (k : Int) < 16 := by omega
      have hx : x ≤ 32768 := by
        have h1 := HW.out.1
        have h2 : (2 : Nat) ^ (k - 1) ≤ 2 ^ 15 := Nat.pow_le_pow_right (by decide) (by omega)
        omega
      have hf : f ≤ 65536 := by have := HW.out.2.2.2.1; omega
      have ht : t ≤ 5000 := by
        have h1 := symsTo_length ys k
        have h2 : k * ys.length ≤ 16 * 288 := Nat.mul_le_mul hk2 H0.out.2.2
        rw [HW.out.2.2.1]; omega
      have HE : Hid (symG ys ((15 - k) + 1) (k - 1) x L1 = R) := by
        have := HW.out.2.2.2.2.1
        rw [show 16 - k = (15 - k) + 1 by omega] at this; exact this
      rcases L1 with _ | ⟨bt, L2⟩
      · have hRn : R = none := by rw [← HE.out]; rfl
        subst hRn
        have HC : Hid (Calls Try.prog 20 #[.pointer (some ⟨b, 0, none⟩), .int .i64 1] wr fun e w' => e = .returned (.int .i64 0) ∧ FS w' b v s most [] xs 700 ∧ Keeps (fun k => k = b) wr w') := get_bad7 HW.out.2.2.2.2.2.1 1 (by omega) (by simp [getL])
        have hor : bits .or .i64 ((2 * x : Nat) : Int) 0 = ((2 * x : Nat) : Int) := by
          have := i64_or_nat (2 * x) 0 (by omega) (by omega)
          simpa using this
        generalize 2 * x = x2 at *
        go_wp2_with fail
        refine HC.out.mono ?_
        rintro e w2 ⟨rfl, hS2, hk2'⟩
        obtain ⟨c2, c3, c4', cf, p0, c1⟩ := hS2.cell
        have H2 : Hid ((∃ L', FS w2 b v s most L' xs 700) ∧ Keeps (fun k => k = b) w w2) := ⟨⟨_, hS2⟩, HW.out.2.2.2.2.2.2.trans hk2' (fun _ _ e => e)⟩
        clear hS2 hk2' HC c2 c3 cf c1 c4
        go_wp2
        go_ret
        exact ⟨fun _ => ⟨rfl, H2.out⟩, fun _ _ e => by cases e⟩
      · have HC : Hid (Calls Try.prog 20 #[.pointer (some ⟨b, 0, none⟩), .int .i64 1] wr fun e w' => e = .returned (.int .i64 ((bt.toNat : Nat) : Int)) ∧ FS w' b v s most L2 xs 0 ∧ Keeps (fun k => k = b) wr w') := get_ok7 HW.out.2.2.2.2.2.1 1 bt.toNat L2 (by omega) (by simp [getL, val])
        have hor : bits .or .i64 ((2 * x : Nat) : Int) ((bt.toNat : Nat) : Int) = ((2 * x + bt.toNat : Nat) : Int) := or_one x bt (by omega)
        have hb1 : bt.toNat ≤ 1 := by cases bt <;> simp
        obtain ⟨y, hy⟩ : ∃ y, 2 * x + bt.toNat = y := ⟨_, rfl⟩
        rw [hy] at hor
        have HY : Hid (2 * x + bt.toNat = y) := hy
        have hy1 : y ≤ 70000 := by omega
        have hfy : f ≤ y := by have := HW.out.2.2.2.1; omega
        clear hy
        obtain ⟨x2, hx2⟩ : ∃ x2, 2 * x = x2 := ⟨_, rfl⟩
        rw [hx2] at hor ⊢
        have HX2 : Hid (2 * x = x2) := hx2
        clear hx2
        obtain ⟨c, hc⟩ : ∃ c, cn ys k = c := ⟨_, rfl⟩
        have hc3 : c ≤ 288 := by rw [← hc]; exact Nat.le_trans (cn_le ys k) H0.out.2.2
        have HCn : Hid (cn ys k = c) := hc
        clear hc
        go_wp2_with fail
        refine HC.out.mono ?_
        rintro e w2 ⟨rfl, hS2, hk2'⟩
        obtain ⟨d2, d3, c4', cf, p0, d1⟩ := hS2.cell
        have H2 : Hid (FS w2 b v s most L2 xs 0 ∧ Keeps (fun k => k = b) w w2) := ⟨hS2, HW.out.2.2.2.2.2.2.trans hk2' (fun _ _ e => e)⟩
        obtain ⟨q1, q2, q3, q4, ad, cap, q5, q6⟩ := HB.out w2 H2.out.2
        have hm := q4 k h15
        rw [HCn.out] at hm
        clear hS2 hk2' HC d2 d3 cf d1 c4 q4
        have hfl : findL ys ((k - 1 + 1 : Nat) : Int) (y : Int) = (symF (k : Int) ys 0)[y - f]? := by
          rw [show k - 1 + 1 = k by omega, findL_eq ys k y hk1 (by omega), ← HW.out.2.1, if_pos hfy]
        have hsl : (symF (k : Int) ys 0).length = c := by rw [symF_length, ← HCn.out]; unfold cn; rw [if_neg (by omega)]
        by_cases hlt : y < f + c
        · obtain ⟨hin, hval⟩ := symsTo_at ys k (y - f) hk1 (by omega) (by omega)
          rw [← HW.out.2.2.1] at hin
          obtain ⟨g, hag, g1, g2, g3⟩ := q6 (t + (y - f)) hin
          have hval2 : (symsTo ys 16)[t + (y - f)] = (symF (k : Int) ys 0)[y - f] := by
            have := HW.out.2.2.1
            subst this; exact hval
          rw [hval2] at g3
          obtain ⟨i, hi⟩ : ∃ i, (symF (k : Int) ys 0)[y - f]'(by omega) = i := ⟨_, rfl⟩
          rw [hi] at g3
          have hRs : R = some (i, L2) := by
            rw [← HE.out, symG, HY.out, hfl, List.getElem?_eq_getElem (by omega), hi]
          subst hRs
          subst hag
          obtain ⟨T, hT⟩ : ∃ T, (symsTo ys 16).length = T := ⟨_, rfl⟩
          rw [hT] at hin q5
          obtain ⟨j, hj⟩ : ∃ j, t + (y - f) = j := ⟨_, rfl⟩
          rw [hj] at hin g3
          have hT5 : T ≤ 5000 := by
            have h1 := symsTo_length ys 16
            have h2 : 16 * ys.length ≤ 16 * 288 := Nat.mul_le_mul_left 16 H0.out.2.2
            omega
          have hz1 : (y : Int) - (c : Int) < (f : Int) := by omega
          have hz2 : (t : Int) + (y : Int) - (f : Int) = (j : Int) := by omega
          have hz3 : (j : Int) < (T : Int) := by omega
          have hz4 : (0 : Int) ≤ (j : Int) := by omega
          clear hfl hsl hval hval2 hi hT hj q6 hin
          go_wp2
          go_ret
          exact ⟨fun e => by (cases e), fun _ _ e => by cases e; exact ⟨rfl, H2.out⟩⟩
        · have hRc : symG ys (15 - k) k y L2 = R := by
            have := HE.out
            rw [symG, HY.out, hfl, List.getElem?_eq_none (by omega), show k - 1 + 1 = k by omega] at this
            exact this
          have HRc : Hid (symG ys (15 - k) k y L2 = R) := hRc
          have hz1 : ¬ (y : Int) - (c : Int) < (f : Int) := by omega
          have hsh1 : IntKind.i64.wrap (((f : Int) + (c : Int)) * 2) = ((2 * (f + c) : Nat) : Int) := by rw [wrap_i64_small _ (by omega) (by omega)]; push_cast; omega
          clear hfl hsl q6 q5 hRc
          go_wp2
          go_roundw
          case rel =>
            refine ⟨k + 1, y, 2 * (f + c), t + c, L2, by omega, by omega, by push_cast; rfl, by push_cast; rw [Int.mul_comm], by push_cast; rw [Int.mul_comm], by push_cast; rfl, ?_, ?_, ?_, ?_, ?_, H2.out.1, H2.out.2⟩
            · have h1 := HW.out.1
              have h2 := HY.out
              rw [show k + 1 - 1 = (k - 1) + 1 by omega, Nat.pow_succ]
              omega
            · rw [fstC, ← HW.out.2.1, HCn.out]; omega
            · rw [symsTo_next ys k hk1, ← HW.out.2.2.1, HCn.out]
            · omega
            · rw [show 16 - (k + 1) = 15 - k by omega, show k + 1 - 1 = k by omega]; exact HRc.out
          case measure => simp [intOf]; omega
    · obtain rfl : k = 16 := by omega
      have hRn : R = none := by rw [← HW.out.2.2.2.2.1]; rfl
      subst hRn
      have HC : Hid (Calls Try.prog 27 #[.pointer (some ⟨b, 0, none⟩)] wr fun e w' => e = .returned (.tuple #[]) ∧ FS w' b v s most L1 xs 700 ∧ Keeps (fun k => k = b) wr w') := wrong_ok HW.out.2.2.2.2.2.1
      go_wp2_with fail
      refine HC.out.mono ?_
      rintro e w2 ⟨rfl, hS2, hk2'⟩
      have H2 : Hid ((∃ L', FS w2 b v s most L' xs 700) ∧ Keeps (fun k => k = b) w w2) := ⟨⟨_, hS2⟩, HW.out.2.2.2.2.2.2.trans hk2' (fun _ _ e => e)⟩
      clear hS2 hk2' HC c4
      go_wp2
      go_ret
      exact ⟨fun _ => ⟨rfl, H2.out⟩, fun _ _ e => by cases e⟩

end Go.Proofs.Ytdbfbijalhknnaa

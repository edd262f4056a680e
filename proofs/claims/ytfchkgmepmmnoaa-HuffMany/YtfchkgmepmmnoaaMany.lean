/-
  The statement that each row of bits begins with a code or is the beginning of one: its walk.
-/
import Derived.Test.YtfchkgmepmmnoaaSeq
import Derived.Deep.RegionHeld3
namespace Go.Proofs.Ytfchkgmepmmnoaa
open Go.RowKit
set_option linter.unusedVariables false
set_option linter.unusedSimpArgs false

theorem nthL_isSome (b : Int) (ys : List Int) : ∀ (k i : Nat), (nthL b ys k i).isSome = decide (k < ys.countP (fun y => y == b)) := by
  induction ys with
  | nil => intro k i; simp [nthL]
  | cons y r ih =>
    intro k i
    rw [nthL, List.countP_cons]
    by_cases hy : y = b
    · subst hy
      rw [if_pos rfl]
      by_cases hk : k = 0
      · subst hk; simp
      · rw [if_neg hk, ih]; simp; omega
    · rw [if_neg hy, ih]; simp [hy]
/-- The bits' first k of fifteen. -/
def topB (Y k : Nat) : Nat := Y / 2 ^ (15 - k)
theorem many_some (ys : List Int) (Y k : Nat) (hk : 1 ≤ k) (hk2 : k ≤ 15) : (findL ys (k : Int) (topB Y k : Int)).isSome = decide (sumTo (cn ys) k ≤ Y ∧ Y < sumTo (cn ys) (k + 1)) := by
  unfold findL
  rw [decide_eq_true (by omega : 1 ≤ (k : Int)), decide_eq_true (by omega : (k : Int) ≤ 15), Bool.and_true, cond_true, show ((k : Int)).toNat = k by omega]
  have h1 : fstC (cn ys) k ≤ topB Y k ↔ sumTo (cn ys) k ≤ Y := by
    rw [topB, Nat.le_div_iff_mul_le (Nat.two_pow_pos _), fstC_sum _ k hk2]
  have h2 : topB Y k < fstC (cn ys) k + cn ys k ↔ Y < sumTo (cn ys) (k + 1) := by
    rw [topB, Nat.div_lt_iff_lt_mul (Nat.two_pow_pos _), fstC_next _ k hk2]
  have h3 : cn ys k = ys.countP (fun y => y == (k : Int)) := by unfold cn; rw [if_neg (by omega)]; rfl
  by_cases hf : fstC (cn ys) k ≤ topB Y k
  · rw [decide_eq_true (by omega), cond_true, nthL_isSome, ← h3]
    rw [Bool.eq_iff_iff, decide_eq_true_eq, decide_eq_true_eq]
    constructor
    · intro h; exact ⟨h1.1 hf, h2.1 (by omega)⟩
    · intro h; have := h2.2 h.2; omega
  · rw [decide_eq_false (by omega), cond_false]
    have : ¬ sumTo (cn ys) k ≤ Y := fun h => hf (h1.2 h)
    simp [this]
theorem cut_bits (x : Int) (k : Nat) (hk : k ≤ 15) : (x / 2 ^ (15 - k)) % 2 ^ k = ((topB (x % 32768).toNat k : Nat) : Int) := by
  obtain rfl | rfl | rfl | rfl | rfl | rfl | rfl | rfl | rfl | rfl | rfl | rfl | rfl | rfl | rfl | rfl : k = 0 ∨ k = 1 ∨ k = 2 ∨ k = 3 ∨ k = 4 ∨ k = 5 ∨ k = 6 ∨ k = 7 ∨ k = 8 ∨ k = 9 ∨ k = 10 ∨ k = 11 ∨ k = 12 ∨ k = 13 ∨ k = 14 ∨ k = 15 := by omega
  all_goals simp only [topB, Nat.reduceSub, Int.reducePow, Nat.reducePow]
  all_goals omega

set_option maxHeartbeats 4000000 in
set_option maxRecDepth 1000000 in
theorem many_walk (a : Option Addr) (len cap : Nat) (zs : List Int) (x : Int) (w : World) (hz : IsRow .i64 w a len cap zs) (hx : (Lit.int .i64 x).wf = true) :
    Calls Try.prog 8 #[.slice a len cap, .int .i64 x] w fun e w' => e = .returned (.bool true) ∧ Below w.heap.size w w' := by
  obtain ⟨ys, rfl, hR, hl, hwf⟩ := hz.row
  have hl2 : ys.length ≤ 9223372036854775807 := Nat.le_trans hl (by decide)
  have HR : Hid (Row w a ys) := hR
  clear hz hR hl hwf
  go_enter Try.func8, Try.ntmps8
  go_wp2_with fail
  refine (awake_ok w).mono ?_
  rintro e w1 ⟨rfl, hK1⟩
  have HK1 : Hid (Keeps (fun _ => False) w w1) := hK1
  have HR1 : Hid (Row w1 a ys) := HR.out.keptF hK1
  clear hK1
  go_wp2_with fail
  refine (check_ok a ys cap w1 HR1.out hl2).mono ?_
  rintro e w2 ⟨rfl, hK2⟩
  have HK2 : Hid (Keeps (fun _ => False) w w2) := HK1.out.trans hK2 (fun _ _ h => h)
  clear hK2 HK1 HR1
  by_cases hc : errC ys = 0
  · rw [hc]
    by_cases h40 : 40 < (ys.length : Int)
    · go_wp2_with (first
        | (go_at_call 15; refine (num_any _ _).mono ?_; rintro e w' ⟨rfl, hw⟩; obtain rfl := hw.symm; clear hw))
      go_ret
      exact ⟨rfl, HK2.out.below _ (Nat.le_refl _) (fun _ h => h.elim)⟩
    · obtain ⟨hmay, hroom⟩ := errC_zero hc
      have hF : errF ys = 0 := by simp [errF, hmay, hroom]
      have HFit : Hid (fits ys = true) := errF_fits.1 hF
      have HE : Hid (errF ys = 0) := hF
      have hpos := (may_len hmay).1
      obtain ⟨b, off, rfl, hb, hcell⟩ := HR.out.at hpos
      obtain ⟨Y, hY⟩ : ∃ Y : Nat, Hid (Y = (x % 32768).toNat) := ⟨_, rfl⟩
      have HM : Hid (may ys = true ∧ room ys = 32768 ∧ Y < 32768) := ⟨hmay, hroom, by rw [hY.out]; omega⟩
      have HCl : Hid (∀ w', Keeps (fun _ => False) w w' → ∀ i, i < ys.length → w'.cell? ⟨b, off + i, none⟩ = some (.int .i64 (at_ ys i))) := hcell
      clear hc hmay hroom hF hcell
      go_wp2_with (first
        | (go_at_call 15; refine (num_any _ _).mono ?_; rintro e w' ⟨rfl, hw⟩; obtain rfl := hw.symm; clear hw))
      generalize hL : ys.length = L at *
      have HL : Hid (ys.length = L) := hL
      clear hL
      go_loopw [5, 6] (fun s5 s6 w' => ∃ k : Nat, 1 ≤ k ∧ k ≤ 16 ∧ s5 = .int .i64 (cond (decide (Y < sumTo (cn ys) k)) 1 0) ∧ s6 = .int .i64 (k : Int) ∧ Hid (Keeps (fun _ => False) w w')) (fun s5 s6 w' => (16 - intOf s6).toNat)
      case atStart => exact ⟨1, by omega, by omega, by simp [sumTo, cn], rfl, HK2⟩
      case round =>
        clear HK2
        obtain ⟨k, hk1, hk16, rfl, rfl, HK⟩ := hrel
        by_cases hk : k ≤ 15
        · have hkz : (k : Int) ≤ 15 := by omega
          have hw15 : IntKind.i64.wrap (15 - (k : Int)) = ((15 - k : Nat) : Int) := by rw [wrap_i64_small _ (by omega) (by omega)]; omega
          have hn1 : ¬ (((15 - k : Nat) : Int) < 0) := by omega
          have hn2 : ¬ ((k : Int) < 0) := by omega
          obtain ⟨f, hf⟩ : ∃ f : Int, cond (decide (Y < sumTo (cn ys) k)) 1 0 = f := ⟨_, rfl⟩
          rw [hf]
          have HFd : Hid (cond (decide (Y < sumTo (cn ys) k)) (1 : Int) 0 = f) := hf
          clear hf
          have hv0 : bits .and .i64 (x / 2 ^ (15 - k)) (wrap64 (wrap64 (2 ^ k) - 1)) = ((topB Y k : Nat) : Int) := by
            rw [mask_form _ k (by omega), hY.out, ← cut_bits x k hk]; push_cast; rfl
          obtain ⟨p, hp⟩ : ∃ p : Int, wrap64 (2 ^ k) = p := ⟨_, rfl⟩
          have hp' : IntKind.i64.wrap (2 ^ k) = p := by rw [IntWalk.i64_left]; exact hp
          obtain ⟨q, hq⟩ : ∃ q : Int, wrap64 (p - 1) = q := ⟨_, rfl⟩
          have hq' : IntKind.i64.wrap (p - 1) = q := by rw [IntWalk.i64_left]; exact hq
          have hv : bits .and .i64 (x / 2 ^ (15 - k)) q = ((topB Y k : Nat) : Int) := by rw [← hq, ← hp]; exact hv0
          clear hv0
          have hvs : (topB Y k : Int) ≤ 9223372036854775807 := by
            have : topB Y k ≤ Y := Nat.div_le_self _ _
            have := HM.out.2.2; omega
          have HC12 : Hid (Calls Try.prog 12 #[.slice (some ⟨b, off, none⟩) L cap, .int .i64 (k : Int), .int .i64 (topB Y k : Int)] wr.drew fun e w' => e = .returned (.tuple #[.int .i64 (((findL ys k (topB Y k)).getD 0 : Nat) : Int), .bool (findL ys k (topB Y k)).isSome, .int .i64 0]) ∧ Keeps (fun _ => False) wr.drew w') := by
            have := find_ok (some ⟨b, off, none⟩) ys cap (k : Int) (topB Y k : Int) wr.drew (HR.out.keptF HK.out.drew) (by rw [HL.out]; exact hl2) hvs
            rw [HE.out, HL.out, show foundL ys k (topB Y k) = findL ys k (topB Y k) by unfold foundL; rw [HFit.out]; rfl] at this
            exact this
          have HS : Hid ((findL ys k (topB Y k)).isSome = decide (sumTo (cn ys) k ≤ Y ∧ Y < sumTo (cn ys) (k + 1))) := many_some ys Y k hk1 hk
          have HS2 : Hid (∀ s, findL ys k (topB Y k) = some s → s < L ∧ at_ ys s = (k : Int)) := fun s h => by
            have := (findL_some ys k (topB Y k) s HM.out.1).1 h
            rw [HL.out] at this
            exact ⟨this.1, this.2.2.1⟩
          generalize findL ys k (topB Y k) = o at *
          generalize topB Y k = v at *
          go_wp2_with fail
          go_region_held3 (fun w' => True) (go_keep)
            ((go_at_call 12; refine HC12.out.mono ?_; rintro e w3 ⟨rfl, hK3⟩; have HK3 : Hid (Keeps (fun _ => False) w w3) := HK.out.drew.trans hK3 (fun _ _ h => h); have htr : True := trivial; clear hK3))
          have hmono := sumTo_mono (cn ys) (Nat.le_add_right k 1)
          clear hp hp' hq hq' hv hvs HC12
          cases o with
          | none =>
            have hno : ¬ (sumTo (cn ys) k ≤ Y ∧ Y < sumTo (cn ys) (k + 1)) := by have := HS.out; simp only [Option.isSome_none] at this; exact of_decide_eq_false this.symm
            have HF' : Hid (f = cond (decide (Y < sumTo (cn ys) (k + 1))) 1 0) := by
              show _ = _
              rw [← HFd.out]; congr 2; apply propext; omega
            clear hno hmono
            go_wp2_with (first
              | (go_at_call 15; refine (num_any _ _).mono ?_; rintro e w' ⟨rfl, hw⟩; obtain rfl := hw.symm; clear hw))
            go_roundw
            case rel => exact ⟨k + 1, by omega, by omega, by rw [← HF'.out], by push_cast; rfl, HK3⟩
            case measure => simp [intOf]; omega
          | some s =>
            have hyes : sumTo (cn ys) k ≤ Y ∧ Y < sumTo (cn ys) (k + 1) := by have := HS.out; simp only [Option.isSome_some] at this; exact of_decide_eq_true this.symm
            have hf0 : f = 0 := by rw [← HFd.out, decide_eq_false (by omega)]; rfl
            subst hf0
            have HF' : Hid ((1 : Int) = cond (decide (Y < sumTo (cn ys) (k + 1))) 1 0) := by
              show _ = _
              rw [decide_eq_true (by omega)]; rfl
            obtain ⟨hsl, hsk⟩ := HS2.out s rfl
            have hsz : (s : Int) < (L : Int) := by omega
            have hs0 : ¬ (s : Int) < 0 := by omega
            have hsg : ¬ (L : Int) ≤ (s : Int) := by omega
            have hcs := HCl.out w3 HK3.out s hsl
            rw [hsk] at hcs
            clear hyes hmono HS2 HS hsk hsl
            go_wp2_with (first
              | (go_at_call 15; refine (num_any _ _).mono ?_; rintro e w' ⟨rfl, hw⟩; obtain rfl := hw.symm; clear hw))
            go_roundw
            case rel => exact ⟨k + 1, by omega, by omega, by rw [← HF'.out] <;> rfl, by push_cast; rfl, HK3⟩
            case measure => simp [intOf]; omega
        · obtain rfl : k = 16 := by omega
          have hf : cond (decide (Y < sumTo (cn ys) 16)) (1 : Int) 0 = 1 := by
            have h1 := HM.out.2.1
            have h2 := HM.out.2.2
            unfold room at h1
            rw [decide_eq_true (by omega)]; rfl
          rw [hf]
          go_wp2
          go_ret
          exact ⟨rfl, HK.out.below _ (Nat.le_refl _) (fun _ h => h.elim)⟩
  · generalize errC ys = er at *
    go_wp2_with (first
      | (go_at_call 15; refine (num_any _ _).mono ?_; rintro e w' ⟨rfl, hw⟩; obtain rfl := hw.symm; clear hw))
    go_ret
    exact ⟨rfl, HK2.out.below _ (Nat.le_refl _) (fun _ h => h.elim)⟩

end Go.Proofs.Ytfchkgmepmmnoaa

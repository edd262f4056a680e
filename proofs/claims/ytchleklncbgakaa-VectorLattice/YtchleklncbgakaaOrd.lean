/-
  The program's Order.
-/
import Derived.Test.YtchleklncbgakaaVec
namespace Go.Proofs.Ytchleklncbgakaa
open Go.RowKit
set_option linter.unusedVariables false
set_option linter.unusedSimpArgs false

theorem both_left {ys zs : List Int} (h : mayB ys = false) : bothB ys zs = false := by simp [bothB, h]
theorem both_right {ys zs : List Int} (h : mayB zs = false) : bothB ys zs = false := by simp [bothB, h]

set_option maxHeartbeats 1000000 in
set_option maxRecDepth 1000000 in
theorem order_good (b off b' off' : Nat) (ys zs : List Int) (cap cap' : Nat) (w : World) (hR : Row w (some ⟨b, off, none⟩) ys) (hR' : Row w (some ⟨b', off', none⟩) zs) (h1 : mayB ys = true) (h2 : mayB zs = true) :
    Calls Try.prog 8 #[.slice (some ⟨b, off, none⟩) 4 cap, .slice (some ⟨b', off', none⟩) 4 cap'] w fun e w' => e = .returned (.tuple #[.int .i64 (ordL ys zs), .int .i64 0]) ∧ w' = w := by
  have l1 := mayB_len h1
  have l2 := mayB_len h2
  have M1 : Hid (Calls Try.prog 16 #[.slice (some ⟨b, off, none⟩) 4 cap] w fun e w' => e = .returned (.bool true) ∧ w' = w) := by
    have := may_ok _ ys cap w hR (by omega); rw [l1, h1] at this; exact this
  have M2 : Hid (Calls Try.prog 16 #[.slice (some ⟨b', off', none⟩) 4 cap'] w fun e w' => e = .returned (.bool true) ∧ w' = w) := by
    have := may_ok _ zs cap' w hR' (by omega); rw [l2, h2] at this; exact this
  obtain ⟨_, _, e1, _, hc⟩ := hR.at (by omega)
  cases e1
  obtain ⟨_, _, e2, _, hc'⟩ := hR'.at (by omega)
  cases e2
  have HC : Hid (∀ i, i < 4 → w.cell? ⟨b, off + i, none⟩ = some (.int .i64 (at_ ys i)) ∧ w.cell? ⟨b', off' + i, none⟩ = some (.int .i64 (at_ zs i))) := fun i hi => ⟨hc w (Keeps.refl _ _) i (by omega), hc' w (Keeps.refl _ _) i (by omega)⟩
  clear hc hc' hR hR' h1 h2 l1 l2
  go_enter Try.func8, Try.ntmps8
  go_wp2_with (first
    | (go_at_call 16; (fail_if_success (clear H1)); refine M1.out.mono ?_; rintro e w' ⟨rfl, hw⟩; obtain rfl := hw.symm; clear hw; have H1 : Hid True := trivial)
    | (go_at_call 16; refine M2.out.mono ?_; rintro e w' ⟨rfl, hw⟩; obtain rfl := hw.symm; clear hw))
  go_loopw [6, 7, 8, 9, 20] (fun s6 s7 _ _ s w' => w' = w ∧ ∃ i : Nat, i ≤ 4 ∧ s = .int .i64 (i : Int) ∧ s6 = .bool (ltTo i ys zs) ∧ s7 = .bool (ltTo i zs ys)) (fun _ _ _ _ s _ => 4 - (intOf s).toNat)
  case atStart => exact ⟨rfl, 0, by omega, rfl, rfl, rfl⟩
  case round =>
    obtain ⟨rfl, i, hi, rfl, rfl, rfl⟩ := hrel
    by_cases hin : i < 4
    · have hiz : (i : Int) < 4 := by omega
      obtain ⟨c1, c2⟩ := HC.out i hin
      have HA : Hid (ltTo (i + 1) ys zs = (ltTo i ys zs || decide (at_ ys i < at_ zs i))) := ltTo_succ _ _ _
      have HB : Hid (ltTo (i + 1) zs ys = (ltTo i zs ys || decide (at_ zs i < at_ ys i))) := ltTo_succ _ _ _
      generalize at_ ys i = y at *
      generalize at_ zs i = z at *
      cases hx : ltTo i ys zs <;> cases hx' : ltTo i zs ys <;>
        (rw [hx] at HA
         rw [hx'] at HB
         go_wp2
         go_roundw
         (case rel => exact ⟨trivial, i + 1, by omega, by push_cast; rfl, by rw [HA.out]; rfl, by rw [HB.out]; rfl⟩)
         (case measure => simp [intOf]; omega))
    · obtain rfl : i = 4 := by omega
      have HO : Hid (ordN (ltTo 4 ys zs) (ltTo 4 zs ys) = ordL ys zs) := rfl
      generalize ltTo 4 ys zs = x at *
      generalize ltTo 4 zs ys = x' at *
      go_wp2_with (first
        | (go_at_call 23; refine (orderOf_ok x x' _).mono ?_; rintro e w' ⟨rfl, hw⟩; obtain rfl := hw.symm; clear hw))
      go_ret2
      exact ⟨by rw [← HO.out]; rfl, rfl⟩

set_option maxHeartbeats 1000000 in
set_option maxRecDepth 1000000 in
theorem order_bad (a a' : Option Addr) (ys zs : List Int) (cap cap' : Nat) (w : World) (hR : Row w a ys) (hR' : Row w a' zs) (hn : ys.length ≤ 1125899906842624) (hn' : zs.length ≤ 1125899906842624) (hb : bothB ys zs = false) :
    Calls Try.prog 8 #[.slice a ys.length cap, .slice a' zs.length cap'] w fun e w' => e = .returned (.tuple #[.int .i64 0, .int .i64 1100]) ∧ w' = w := by
  have M1 : Hid (Calls Try.prog 16 #[.slice a ys.length cap] w fun e w' => e = .returned (.bool (mayB ys)) ∧ w' = w) := may_ok a ys cap w hR hn
  have M2 : Hid (Calls Try.prog 16 #[.slice a' zs.length cap'] w fun e w' => e = .returned (.bool (mayB zs)) ∧ w' = w) := may_ok a' zs cap' w hR' hn'
  generalize ys.length = n at *
  generalize zs.length = m at *
  clear hR hR'
  unfold bothB at hb
  cases h1 : mayB ys
  · rw [h1] at M1
    clear hb M2
    go_enter Try.func8, Try.ntmps8
    go_wp2_with (first
      | (go_at_call 16; refine M1.out.mono ?_; rintro e w' ⟨rfl, hw⟩; obtain rfl := hw.symm; clear hw))
    go_ret2
    exact ⟨rfl, rfl⟩
  · have h2 : mayB zs = false := by rw [h1, Bool.true_and] at hb; exact hb
    rw [h1] at M1
    rw [h2] at M2
    clear hb
    go_enter Try.func8, Try.ntmps8
    go_wp2_with (first
      | (go_at_call 16; (fail_if_success (clear H1)); refine M1.out.mono ?_; rintro e w' ⟨rfl, hw⟩; obtain rfl := hw.symm; clear hw; have H1 : Hid True := trivial)
      | (go_at_call 16; refine M2.out.mono ?_; rintro e w' ⟨rfl, hw⟩; obtain rfl := hw.symm; clear hw))
    go_ret2
    exact ⟨rfl, rfl⟩

theorem Row.some4 {w : World} {a : Option Addr} {ys : List Int} (h : Row w a ys) (hm : mayB ys = true) : ∃ b off, a = some ⟨b, off, none⟩ := by
  obtain ⟨b, off, e, _⟩ := h.at (by rw [mayB_len hm]; omega)
  exact ⟨b, off, e⟩
theorem order_ok (a a' : Option Addr) (ys zs : List Int) (cap cap' : Nat) (w : World) (hR : Row w a ys) (hR' : Row w a' zs) (hn : ys.length ≤ 1125899906842624) (hn' : zs.length ≤ 1125899906842624) :
    Calls Try.prog 8 #[.slice a ys.length cap, .slice a' zs.length cap'] w fun e w' => e = .returned (.tuple #[.int .i64 (ordV ys zs), .int .i64 (vErr ys zs)]) ∧ w' = w := by
  cases hb : bothB ys zs
  · have := order_bad a a' ys zs cap cap' w hR hR' hn hn' hb
    unfold ordV vErr; rw [hb]; exact this
  · have h12 : mayB ys = true ∧ mayB zs = true := by simpa [bothB] using hb
    obtain ⟨b, off, rfl⟩ := hR.some4 h12.1
    obtain ⟨b', off', rfl⟩ := hR'.some4 h12.2
    have := order_good b off b' off' ys zs cap cap' w hR hR' h12.1 h12.2
    unfold ordV vErr; rw [hb, mayB_len h12.1, mayB_len h12.2]; exact this

end Go.Proofs.Ytchleklncbgakaa

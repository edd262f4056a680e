/-
  The document's VecMay and Order.
-/
import Derived.Test.YtchleklncbgakaaStp
namespace Go.Proofs.Ytchleklncbgakaa
open Go.RowKit
set_option linter.unusedVariables false
set_option linter.unusedSimpArgs false

set_option maxHeartbeats 1000000 in
set_option maxRecDepth 1000000 in
theorem rmay_ok (a : Option Addr) (ys : List Int) (cap : Nat) (w : World) (hR : Row w a ys) (hn : ys.length ≤ 1125899906842624) :
    Calls Try.prog 17 #[.slice a ys.length cap] w fun e w' => e = .returned (.bool (mayB ys)) ∧ w' = w := by
  obtain ⟨n, hl⟩ : ∃ n, ys.length = n := ⟨_, rfl⟩
  have HL : Hid (ys.length = n) := hl
  have HC : Hid (0 < n → ∃ b off, a = some ⟨b, off, none⟩ ∧ ∀ i, i < n → w.cell? ⟨b, off + i, none⟩ = some (.int .i64 (at_ ys i))) := by
    refine (fun h0 => ?_ : 0 < n → ∃ b off, a = some ⟨b, off, none⟩ ∧ ∀ i, i < n → w.cell? ⟨b, off + i, none⟩ = some (.int .i64 (at_ ys i)))
    obtain ⟨b, off, rfl, hb, hc⟩ := hR.at (by omega)
    exact ⟨b, off, rfl, fun i hi => hc w (Keeps.refl _ _) i (by omega)⟩
  rw [hl] at hn ⊢
  clear hl hR
  go_enter Try.func17, Try.ntmps17
  go_wp2
  go_loopw [3] (fun s w' => w' = w ∧ ∃ i : Nat, i ≤ n ∧ s = .int .i64 (i : Int) ∧ Hid (∀ j, j < i → 0 ≤ at_ ys j ∧ at_ ys j ≤ 1048576)) (fun s _ => n - (intOf s).toNat)
  case atStart => exact ⟨rfl, 0, by omega, rfl, fun j hj => absurd hj (Nat.not_lt_zero _)⟩
  case round =>
    obtain ⟨rfl, i, hi, rfl, HQ⟩ := hrel
    by_cases hin : i < n
    · have hiz : (i : Int) < (n : Int) := by omega
      obtain ⟨b, off, rfl, hc⟩ := HC.out (by omega)
      have c1 := hc i hin
      clear hc
      have HB : Hid (at_ ys i < 0 ∨ 1048576 < at_ ys i → mayB ys = false) := mayB_bad i (by rw [HL.out]; exact hin)
      have HG : Hid (0 ≤ at_ ys i ∧ at_ ys i ≤ 1048576 → ∀ j, j < i + 1 → 0 ≤ at_ ys j ∧ at_ ys j ≤ 1048576) := by
        refine (fun he j hj => ?_ : 0 ≤ at_ ys i ∧ at_ ys i ≤ 1048576 → ∀ j, j < i + 1 → 0 ≤ at_ ys j ∧ at_ ys j ≤ 1048576)
        by_cases e : j = i
        · subst e; exact he
        · exact HQ.out j (by omega)
      generalize at_ ys i = y at *
      have hy : y < 0 ∨ (0 ≤ y ∧ y ≤ 1048576) ∨ 1048576 < y := by omega
      rcases hy with hy | ⟨hy, hy'⟩ | hy
      · have d1 : decide (y < 0) = true := decide_eq_true hy
        go_wp2
        go_ret
        exact ⟨by rw [HB.out (.inl hy)]; rfl, rfl⟩
      · have d1 : decide (y < 0) = false := decide_eq_false (by omega)
        have d2 : decide (1048576 < y) = false := decide_eq_false (by omega)
        go_wp2
        go_roundw
        case rel => exact ⟨trivial, i + 1, by omega, by push_cast; rfl, HG.out ⟨hy, hy'⟩⟩
        case measure => simp [intOf]; omega
      · have d1 : decide (y < 0) = false := decide_eq_false (by omega)
        have d2 : decide (1048576 < y) = true := decide_eq_true hy
        go_wp2
        go_ret
        exact ⟨by rw [HB.out (.inr hy)]; rfl, rfl⟩
    · obtain rfl : i = n := by omega
      by_cases h4 : i = 4
      · have hm : mayB ys = true := mayB_of (by rw [HL.out]; exact h4) (fun j hj => HQ.out j (by rw [HL.out] at hj; exact hj))
        subst h4
        go_wp2
        go_ret
        exact ⟨by rw [hm]; rfl, rfl⟩
      · have hm : mayB ys = false := mayB_out (by rw [HL.out]; exact h4)
        have d1 : ((i : Int) == 4) = false := by simp; omega
        have d2 : decide ((i : Int) = 4) = false := decide_eq_false (by omega)
        go_wp2
        go_ret
        exact ⟨by rw [hm]; simp <;> omega, rfl⟩

set_option maxHeartbeats 1000000 in
set_option maxRecDepth 1000000 in
theorem rorder_bad (a a' : Option Addr) (ys zs : List Int) (cap cap' : Nat) (w : World) (hR : Row w a ys) (hR' : Row w a' zs) (hn : ys.length ≤ 1125899906842624) (hn' : zs.length ≤ 1125899906842624) (hb : bothB ys zs = false) :
    Calls Try.prog 9 #[.slice a ys.length cap, .slice a' zs.length cap'] w fun e w' => e = .returned (.tuple #[.int .i64 0, .int .i64 1100]) ∧ w' = w := by
  have M1 : Hid (Calls Try.prog 17 #[.slice a ys.length cap] w fun e w' => e = .returned (.bool (mayB ys)) ∧ w' = w) := rmay_ok a ys cap w hR hn
  have M2 : Hid (Calls Try.prog 17 #[.slice a' zs.length cap'] w fun e w' => e = .returned (.bool (mayB zs)) ∧ w' = w) := rmay_ok a' zs cap' w hR' hn'
  generalize ys.length = n at *
  generalize zs.length = m at *
  clear hR hR'
  unfold bothB at hb
  cases h1 : mayB ys
  · rw [h1] at M1
    clear hb M2
    go_enter Try.func9, Try.ntmps9
    go_wp2_with (first
      | (go_at_call 17; refine M1.out.mono ?_; rintro e w' ⟨rfl, hw⟩; obtain rfl := hw.symm; clear hw))
    go_ret2
    exact ⟨rfl, rfl⟩
  · have h2 : mayB zs = false := by rw [h1, Bool.true_and] at hb; exact hb
    rw [h1] at M1
    rw [h2] at M2
    clear hb
    go_enter Try.func9, Try.ntmps9
    go_wp2_with (first
      | (go_at_call 17; (fail_if_success (clear H1)); refine M1.out.mono ?_; rintro e w' ⟨rfl, hw⟩; obtain rfl := hw.symm; clear hw; have H1 : Hid True := trivial)
      | (go_at_call 17; refine M2.out.mono ?_; rintro e w' ⟨rfl, hw⟩; obtain rfl := hw.symm; clear hw))
    go_ret2
    exact ⟨rfl, rfl⟩

set_option maxHeartbeats 1000000 in
set_option maxRecDepth 1000000 in
theorem rorder_good (b off b' off' : Nat) (ys zs : List Int) (cap cap' : Nat) (w : World) (hR : Row w (some ⟨b, off, none⟩) ys) (hR' : Row w (some ⟨b', off', none⟩) zs) (h1 : mayB ys = true) (h2 : mayB zs = true) :
    Calls Try.prog 9 #[.slice (some ⟨b, off, none⟩) 4 cap, .slice (some ⟨b', off', none⟩) 4 cap'] w fun e w' => e = .returned (.tuple #[.int .i64 (ordL ys zs), .int .i64 0]) ∧ Keeps (fun _ => False) w w' := by
  have l1 := mayB_len h1
  have l2 := mayB_len h2
  have M1 : Hid (Calls Try.prog 17 #[.slice (some ⟨b, off, none⟩) 4 cap] w fun e w' => e = .returned (.bool true) ∧ w' = w) := by
    have := rmay_ok _ ys cap w hR (by omega); rw [l1, h1] at this; exact this
  have M2 : Hid (Calls Try.prog 17 #[.slice (some ⟨b', off', none⟩) 4 cap'] w fun e w' => e = .returned (.bool true) ∧ w' = w) := by
    have := rmay_ok _ zs cap' w hR' (by omega); rw [l2, h2] at this; exact this
  obtain ⟨_, _, e1, _, hc⟩ := hR.at (by omega)
  cases e1
  obtain ⟨_, _, e2, _, hc'⟩ := hR'.at (by omega)
  cases e2
  have HC : Hid (∀ w', Keeps (fun _ => False) w w' → ∀ i, i < 4 → w'.cell? ⟨b, off + i, none⟩ = some (.int .i64 (at_ ys i)) ∧ w'.cell? ⟨b', off' + i, none⟩ = some (.int .i64 (at_ zs i))) := fun w' hk i hi => ⟨hc w' hk i (by omega), hc' w' hk i (by omega)⟩
  clear hc hc' hR hR' h1 h2 l1 l2
  go_enter Try.func9, Try.ntmps9
  go_wp2_with (first
    | (go_at_call 17; (fail_if_success (clear H1)); refine M1.out.mono ?_; rintro e w' ⟨rfl, hw⟩; obtain rfl := hw.symm; clear hw; have H1 : Hid True := trivial)
    | (go_at_call 17; refine M2.out.mono ?_; rintro e w' ⟨rfl, hw⟩; obtain rfl := hw.symm; clear hw))
  go_loopw [6, 7, 8] (fun s6 s7 s w' => ∃ i : Nat, i ≤ 4 ∧ s = .int .i64 (i : Int) ∧ s6 = .bool (ltTo i zs ys) ∧ s7 = .bool (ltTo i ys zs) ∧ Hid (Keeps (fun _ => False) w w')) (fun _ _ s _ => 4 - (intOf s).toNat)
  case atStart => exact ⟨0, by omega, rfl, rfl, rfl, Keeps.refl _ _⟩
  case round =>
    obtain ⟨i, hi, rfl, rfl, rfl, HK⟩ := hrel
    by_cases hin : i < 4
    · have hiz : (i : Int) < 4 := by omega
      obtain ⟨c1, c2⟩ := HC.out wr HK.out i hin
      have HA : Hid (ltTo (i + 1) ys zs = (ltTo i ys zs || decide (at_ ys i < at_ zs i))) := ltTo_succ _ _ _
      have HB : Hid (ltTo (i + 1) zs ys = (ltTo i zs ys || decide (at_ zs i < at_ ys i))) := ltTo_succ _ _ _
      have HD : Hid (∀ w', Keeps (fun _ => False) w w' → w'.cell? ⟨b, off + i, none⟩ = some (.int .i64 (at_ ys i)) ∧ w'.cell? ⟨b', off' + i, none⟩ = some (.int .i64 (at_ zs i))) := fun w' hk => HC.out w' hk i hin
      generalize at_ ys i = y at *
      generalize at_ zs i = z at *
      cases hx : ltTo i ys zs <;> cases hx' : ltTo i zs ys <;>
        (rw [hx] at HA
         rw [hx'] at HB
         go_wp2
         go_quiet (fail)
         have HK2 : Hid (Keeps (fun _ => False) w (wr.drewN nq)) := HK.out.drewN nq
         generalize wr.drewN nq = wn at *
         clear c1 c2 HK
         obtain ⟨c1, c2⟩ := HD.out wn HK2.out
         go_wp2
         go_quiet (fail)
         have HK3 : Hid (Keeps (fun _ => False) w (wn.drewN nq)) := HK2.out.drewN nq
         generalize wn.drewN nq = wm at *
         clear c1 c2 HK2
         go_wp2
         go_roundw
         (case rel => exact ⟨i + 1, by omega, by push_cast; rfl, by rw [HB.out]; rfl, by rw [HA.out]; rfl, HK3⟩)
         (case measure => simp [intOf]; omega))
    · obtain rfl : i = 4 := by omega
      have HO : Hid (ordN (ltTo 4 ys zs) (ltTo 4 zs ys) = ordL ys zs) := rfl
      generalize ltTo 4 ys zs = x at *
      generalize ltTo 4 zs ys = x' at *
      cases x <;> cases x' <;>
        (go_wp2
         go_ret2
         exact ⟨by rw [← HO.out]; rfl, HK.out⟩)
theorem rorder_ok (a a' : Option Addr) (ys zs : List Int) (cap cap' : Nat) (w : World) (hR : Row w a ys) (hR' : Row w a' zs) (hn : ys.length ≤ 1125899906842624) (hn' : zs.length ≤ 1125899906842624) :
    Calls Try.prog 9 #[.slice a ys.length cap, .slice a' zs.length cap'] w fun e w' => e = .returned (.tuple #[.int .i64 (ordV ys zs), .int .i64 (vErr ys zs)]) ∧ Keeps (fun _ => False) w w' := by
  cases hb : bothB ys zs
  · refine (rorder_bad a a' ys zs cap cap' w hR hR' hn hn' hb).mono ?_
    rintro e w' ⟨rfl, rfl⟩
    unfold ordV vErr; rw [hb]; exact ⟨rfl, Keeps.refl _ _⟩
  · have h12 : mayB ys = true ∧ mayB zs = true := by simpa [bothB] using hb
    obtain ⟨b, off, rfl⟩ := hR.some4 h12.1
    obtain ⟨b', off', rfl⟩ := hR'.some4 h12.2
    have := rorder_good b off b' off' ys zs cap cap' w hR hR' h12.1 h12.2
    unfold ordV vErr; rw [hb, mayB_len h12.1, mayB_len h12.2]; exact this

end Go.Proofs.Ytchleklncbgakaa

/-
  A heap of trees: sinking.
-/
import Derived.Test.YtfdoppeijgianaaForest
namespace Go.Proofs.Ytfdoppeijgianaa
open Go.RowKit
set_option linter.unusedVariables false
set_option linter.unusedSimpArgs false


set_option maxHeartbeats 4000000 in
set_option maxRecDepth 1000000 in
theorem down_ok (p g N cap i0 n : Nat) (f : Nat → Tr) (w : World) (h : Fo w p g N cap f) (hN : n ≤ N) (hn : N ≤ 1000000) (hi0 : i0 ≤ 1000000) (hu : Hp (i0 + 1) n f) :
    Calls Try.prog 36 #[ifV p, .int .i64 (i0 : Int), .int .i64 (n : Int)] w fun e w' => (∃ b, e = .returned (.bool b)) ∧ ∃ f', Fo w' p g N cap f' ∧ Hp i0 n f' ∧ Mix n f f' ∧ Keeps (fun b => b = g) w w' := by
  have HS : Hid (∃ f', Fo w p g N cap f' ∧ Dn i0 i0 n f' ∧ Mix n f f' ∧ Keeps (fun b => b = g) w w) := ⟨f, h, Dn.start hu, Mix.refl _ _, Keeps.refl _ _⟩
  clear h hu
  unfold ifV
  go_enter Try.func36, Try.ntmps36
  go_wp2
  go_loopw [7] (fun s7 w' => ∃ i : Nat, i0 ≤ i ∧ i ≤ 1000000 ∧ s7 = .int .i64 (i : Int) ∧ Hid (∃ f', Fo w' p g N cap f' ∧ Dn i0 i n f' ∧ Mix n f f' ∧ Keeps (fun b => b = g) w w')) (fun s7 w' => ((1000000 : Int) - intOf s7).toNat)
  case atStart => exact ⟨i0, by omega, hi0, rfl, HS⟩
  case round =>
    clear HS
    obtain ⟨i, hi, hi1, rfl, HS⟩ := hrel
    by_cases hl : n ≤ 2 * i + 1
    · have hlz : (n : Int) ≤ 2 * (i : Int) + 1 := by omega
      obtain ⟨f', h1, h2, h3, h4⟩ := HS.out
      have HE : Hid (∃ f', Fo wr p g N cap f' ∧ Hp i0 n f' ∧ Mix n f f' ∧ Keeps (fun b => b = g) w wr) := ⟨f', h1, h2.leaf hl, h3, h4⟩
      clear HS h1 h2 h3 h4
      go_wp2
      go_ret
      exact ⟨⟨_, rfl⟩, HE.out⟩
    · have hlz : ¬ (n : Int) ≤ 2 * (i : Int) + 1 := by omega
      have hl1 : 2 * (i : Int) + 1 < (n : Int) := by omega
      have hl0 : ¬ 2 * (i : Int) + 1 < 0 := by omega
      obtain ⟨f', h1, h2, h3, h4⟩ := HS.out
      have hv := h1.var
      have hm := method_less wr p _ hv
      obtain ⟨c, hc⟩ : ∃ c, chd n i f' = c := ⟨_, rfl⟩
      have hci := chd_is n i f'
      rw [hc] at hci
      have HF : Hid (∀ w1, Keeps (fun _ => False) wr w1 → Fo w1 p g N cap f') := fun w1 hk => h1.keptF hk
      have HLess : Hid (∀ w1 a b, Keeps (fun _ => False) wr w1 → a < n → b < n → Calls Try.prog 55 #[.slice (some ⟨g, 0, none⟩) N cap, .int .i64 (a : Int), .int .i64 (b : Int)] w1 fun e w' => e = .returned (.bool (ltb (f' a) (f' b))) ∧ Keeps (fun _ => False) w1 w') := fun w1 a b hk ha hb => less_ok g N cap a b f' w1 (h1.keptF hk).2.1 (by omega) (by omega)
      have HEnd : Hid (ltb (f' c) (f' i) = false → ∀ w1, Keeps (fun _ => False) wr w1 → ∃ f', Fo w1 p g N cap f' ∧ Hp i0 n f' ∧ Mix n f f' ∧ Keeps (fun b => b = g) w w1) := fun hb w1 hk => ⟨f', h1.keptF hk, h2.stop (by rw [hc]; exact hb), h3, h4.trans hk (fun _ _ h => h.elim)⟩
      have HSwap : Hid (ltb (f' c) (f' i) = true → ∀ w1, Keeps (fun _ => False) wr w1 → Calls Try.prog 56 #[.slice (some ⟨g, 0, none⟩) N cap, .int .i64 (i : Int), .int .i64 (c : Int)] w1 fun e w2 => e = .returned (.tuple #[]) ∧ ∃ f', Fo w2 p g N cap f' ∧ Dn i0 c n f' ∧ Mix n f f' ∧ Keeps (fun b => b = g) w w2) := fun hb w1 hk => (swap_ok g N cap i c f' w1 (h1.keptF hk).2.1 (by omega) (by omega)).mono (by
            rintro e w2 ⟨rfl, hs, hk2⟩
            have hb' := hb
            rw [← hc] at hb'
            refine ⟨rfl, swp f' i c, ⟨(hk2.block p (lt_of_heap (h1.keptF hk).1) h1.2.2).trans (h1.keptF hk).1, hs, h1.2.2⟩, ?_, h3.trans (Mix.swp n f' i c (by omega) (by omega)), (h4.trans hk (fun _ _ h => h.elim)).trans hk2 (fun _ _ h => h)⟩
            have := h2.step hi (by omega) hb'
            rwa [hc] at this)
      have HC : Hid (chd n i f' = c) := hc
      have HD : Hid (c ≤ 1000000 ∧ i < c ∧ c < n) := (by omega : c ≤ 1000000 ∧ i < c ∧ c < n)
      clear HS h1 h2 h3 h4 hc
      clear hci
      by_cases hl2 : 2 * i + 2 < n
      · have hl2z : 2 * (i : Int) + 1 + 1 < (n : Int) := by omega
        cases hb1 : ltb (f' (2 * i + 2)) (f' (2 * i + 1)) with
        | true =>
          have HJ : Hid (2 * (i : Int) + 1 + 1 = (c : Int)) := by show 2 * (i : Int) + 1 + 1 = (c : Int); rw [← HC.out]; unfold chd; rw [if_pos ⟨hl2, hb1⟩]; push_cast; omega
          have HL1 : Hid (Calls Try.prog 55 #[.slice (some ⟨g, 0, none⟩) N cap, .int .i64 (2 * (i : Int) + 1 + 1), .int .i64 (2 * (i : Int) + 1)] wr fun e w' => e = .returned (.bool true) ∧ Keeps (fun _ => False) wr w') := by
            have := HLess.out wr (2 * i + 1 + 1) (2 * i + 1) (Keeps.refl _ _) (by omega) (by omega)
            rw [show f' (2 * i + 1 + 1) = f' (2 * i + 2) from rfl, hb1] at this
            push_cast at this; exact this
          have HSw : Hid (ltb (f' c) (f' i) = true → ∀ w1, Keeps (fun _ => False) wr w1 → Calls Try.prog 56 #[.slice (some ⟨g, 0, none⟩) N cap, .int .i64 (i : Int), .int .i64 (2 * (i : Int) + 1 + 1)] w1 fun e w2 => e = .returned (.tuple #[]) ∧ ∃ f', Fo w2 p g N cap f' ∧ Dn i0 c n f' ∧ Mix n f f' ∧ Keeps (fun b => b = g) w w2) := by rw [HJ.out]; exact HSwap.out
          have HL2 : Hid (∀ w1, Keeps (fun _ => False) wr w1 → Calls Try.prog 55 #[.slice (some ⟨g, 0, none⟩) N cap, .int .i64 (2 * (i : Int) + 1 + 1), .int .i64 (i : Int)] w1 fun e w' => e = .returned (.bool (ltb (f' c) (f' i))) ∧ Keeps (fun _ => False) w1 w') := fun w1 hk => by rw [HJ.out]; exact HLess.out w1 c i hk HD.out.2.2 (by have := HD.out; omega)
          clear HLess HSwap
          cases hb : ltb (f' c) (f' i) with
          | false =>
            rw [hb] at HL2
            go_wp2_with (first
              | (go_at_call 55; (fail_if_success (clear HK1)); refine HL1.out.mono ?_; rintro e w1 ⟨rfl, hK1⟩; have hm1 := method_less w1 p _ (HF.out w1 hK1).var; have HK1 : Hid (Keeps (fun _ => False) wr w1) := hK1; clear hK1)
              | (go_at_call 55; refine (HL2.out w1 HK1.out).mono ?_; rintro e w2 ⟨rfl, hK2⟩; have hK2' := HK1.out.trans hK2 (fun _ _ h => h); have hm2 := method_swap w2 p _ (HF.out w2 hK2').var; have HK2 : Hid (Keeps (fun _ => False) wr w2) := hK2'; clear hK2 hK2'))
            go_ret
            exact ⟨⟨_, rfl⟩, HEnd.out hb _ HK2.out⟩
          | true =>
            rw [hb] at HL2
            go_wp2_with (first
              | (go_at_call 55; (fail_if_success (clear HK1)); refine HL1.out.mono ?_; rintro e w1 ⟨rfl, hK1⟩; have hm1 := method_less w1 p _ (HF.out w1 hK1).var; have HK1 : Hid (Keeps (fun _ => False) wr w1) := hK1; clear hK1)
              | (go_at_call 55; refine (HL2.out w1 HK1.out).mono ?_; rintro e w2 ⟨rfl, hK2⟩; have hK2' := HK1.out.trans hK2 (fun _ _ h => h); have hm2 := method_swap w2 p _ (HF.out w2 hK2').var; have HK2 : Hid (Keeps (fun _ => False) wr w2) := hK2'; clear hK2 hK2')
              | (go_at_call 56; refine (HSw.out hb w2 HK2.out).mono ?_; rintro e w3 ⟨rfl, hK3⟩; have HK3 : Hid (∃ f', Fo w3 p g N cap f' ∧ Dn i0 c n f' ∧ Mix n f f' ∧ Keeps (fun b => b = g) w w3) := hK3; clear hK3))
            go_roundw
            case rel => have := HD.out; exact ⟨c, by omega, by omega, by rw [HJ.out], HK3.out⟩
            case measure => have := HD.out; simp [intOf]; omega
        | false =>
          have HJ : Hid (2 * (i : Int) + 1 = (c : Int)) := by show 2 * (i : Int) + 1 = (c : Int); rw [← HC.out]; unfold chd; rw [if_neg (fun h => by rw [hb1] at h; cases h.2)]; push_cast; rfl
          have HL1 : Hid (Calls Try.prog 55 #[.slice (some ⟨g, 0, none⟩) N cap, .int .i64 (2 * (i : Int) + 1 + 1), .int .i64 (2 * (i : Int) + 1)] wr fun e w' => e = .returned (.bool false) ∧ Keeps (fun _ => False) wr w') := by
            have := HLess.out wr (2 * i + 1 + 1) (2 * i + 1) (Keeps.refl _ _) (by omega) (by omega)
            rw [show f' (2 * i + 1 + 1) = f' (2 * i + 2) from rfl, hb1] at this
            push_cast at this; exact this
          have HSw : Hid (ltb (f' c) (f' i) = true → ∀ w1, Keeps (fun _ => False) wr w1 → Calls Try.prog 56 #[.slice (some ⟨g, 0, none⟩) N cap, .int .i64 (i : Int), .int .i64 (2 * (i : Int) + 1)] w1 fun e w2 => e = .returned (.tuple #[]) ∧ ∃ f', Fo w2 p g N cap f' ∧ Dn i0 c n f' ∧ Mix n f f' ∧ Keeps (fun b => b = g) w w2) := by rw [HJ.out]; exact HSwap.out
          have HL2 : Hid (∀ w1, Keeps (fun _ => False) wr w1 → Calls Try.prog 55 #[.slice (some ⟨g, 0, none⟩) N cap, .int .i64 (2 * (i : Int) + 1), .int .i64 (i : Int)] w1 fun e w' => e = .returned (.bool (ltb (f' c) (f' i))) ∧ Keeps (fun _ => False) w1 w') := fun w1 hk => by rw [HJ.out]; exact HLess.out w1 c i hk HD.out.2.2 (by have := HD.out; omega)
          clear HLess HSwap
          cases hb : ltb (f' c) (f' i) with
          | false =>
            rw [hb] at HL2
            go_wp2_with (first
              | (go_at_call 55; (fail_if_success (clear HK1)); refine HL1.out.mono ?_; rintro e w1 ⟨rfl, hK1⟩; have hm1 := method_less w1 p _ (HF.out w1 hK1).var; have HK1 : Hid (Keeps (fun _ => False) wr w1) := hK1; clear hK1)
              | (go_at_call 55; refine (HL2.out w1 HK1.out).mono ?_; rintro e w2 ⟨rfl, hK2⟩; have hK2' := HK1.out.trans hK2 (fun _ _ h => h); have hm2 := method_swap w2 p _ (HF.out w2 hK2').var; have HK2 : Hid (Keeps (fun _ => False) wr w2) := hK2'; clear hK2 hK2'))
            go_ret
            exact ⟨⟨_, rfl⟩, HEnd.out hb _ HK2.out⟩
          | true =>
            rw [hb] at HL2
            go_wp2_with (first
              | (go_at_call 55; (fail_if_success (clear HK1)); refine HL1.out.mono ?_; rintro e w1 ⟨rfl, hK1⟩; have hm1 := method_less w1 p _ (HF.out w1 hK1).var; have HK1 : Hid (Keeps (fun _ => False) wr w1) := hK1; clear hK1)
              | (go_at_call 55; refine (HL2.out w1 HK1.out).mono ?_; rintro e w2 ⟨rfl, hK2⟩; have hK2' := HK1.out.trans hK2 (fun _ _ h => h); have hm2 := method_swap w2 p _ (HF.out w2 hK2').var; have HK2 : Hid (Keeps (fun _ => False) wr w2) := hK2'; clear hK2 hK2')
              | (go_at_call 56; refine (HSw.out hb w2 HK2.out).mono ?_; rintro e w3 ⟨rfl, hK3⟩; have HK3 : Hid (∃ f', Fo w3 p g N cap f' ∧ Dn i0 c n f' ∧ Mix n f f' ∧ Keeps (fun b => b = g) w w3) := hK3; clear hK3))
            go_roundw
            case rel => have := HD.out; exact ⟨c, by omega, by omega, by rw [HJ.out], HK3.out⟩
            case measure => have := HD.out; simp [intOf]; omega
      · have hl2z : ¬ 2 * (i : Int) + 1 + 1 < (n : Int) := by omega
        have HJ : Hid (2 * (i : Int) + 1 = (c : Int)) := by show 2 * (i : Int) + 1 = (c : Int); rw [← HC.out]; unfold chd; rw [if_neg (fun h => hl2 h.1)]; push_cast; rfl
        have HSw : Hid (ltb (f' c) (f' i) = true → ∀ w1, Keeps (fun _ => False) wr w1 → Calls Try.prog 56 #[.slice (some ⟨g, 0, none⟩) N cap, .int .i64 (i : Int), .int .i64 (2 * (i : Int) + 1)] w1 fun e w2 => e = .returned (.tuple #[]) ∧ ∃ f', Fo w2 p g N cap f' ∧ Dn i0 c n f' ∧ Mix n f f' ∧ Keeps (fun b => b = g) w w2) := by rw [HJ.out]; exact HSwap.out
        have HL2 : Hid (∀ w1, Keeps (fun _ => False) wr w1 → Calls Try.prog 55 #[.slice (some ⟨g, 0, none⟩) N cap, .int .i64 (2 * (i : Int) + 1), .int .i64 (i : Int)] w1 fun e w' => e = .returned (.bool (ltb (f' c) (f' i))) ∧ Keeps (fun _ => False) w1 w') := fun w1 hk => by rw [HJ.out]; exact HLess.out w1 c i hk HD.out.2.2 (by have := HD.out; omega)
        clear HLess HSwap
        cases hb : ltb (f' c) (f' i) with
        | false =>
          rw [hb] at HL2
          go_wp2_with (first
            | (go_at_call 55; refine (HL2.out wr (Keeps.refl _ _)).mono ?_; rintro e w2 ⟨rfl, hK2⟩; have hm2 := method_swap w2 p _ (HF.out w2 hK2).var; have HK2 : Hid (Keeps (fun _ => False) wr w2) := hK2; clear hK2))
          go_ret
          exact ⟨⟨_, rfl⟩, HEnd.out hb _ HK2.out⟩
        | true =>
          rw [hb] at HL2
          go_wp2_with (first
            | (go_at_call 55; refine (HL2.out wr (Keeps.refl _ _)).mono ?_; rintro e w2 ⟨rfl, hK2⟩; have hm2 := method_swap w2 p _ (HF.out w2 hK2).var; have HK2 : Hid (Keeps (fun _ => False) wr w2) := hK2; clear hK2)
            | (go_at_call 56; refine (HSw.out hb w2 HK2.out).mono ?_; rintro e w3 ⟨rfl, hK3⟩; have HK3 : Hid (∃ f', Fo w3 p g N cap f' ∧ Dn i0 c n f' ∧ Mix n f f' ∧ Keeps (fun b => b = g) w w3) := hK3; clear hK3))
          go_roundw
          case rel => have := HD.out; exact ⟨c, by omega, by omega, by rw [HJ.out], HK3.out⟩
          case measure => have := HD.out; simp [intOf]; omega

end Go.Proofs.Ytfdoppeijgianaa

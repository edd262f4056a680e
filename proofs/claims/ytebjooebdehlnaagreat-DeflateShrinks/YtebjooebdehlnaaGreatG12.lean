/-
  A heap of trees: rising, sinking. A heap of trees: sinking. A heap of trees: a tree behind the last one, and the last one taken. A heap of trees: made, one taken, one laid. How deep each tree stands when all are joined: what it is joined into, how much room the depths take, and how flat trees of like weights come out.
-/
import Derived.Test.YtebjooebdehlnaaGreatRows
import Derived.Test.YtebjooebdehlnaaGreatG11
import Derived.Deep.RegionHeld3
namespace Go.Proofs.YtebjooebdehlnaaGreat.Lm
open Go.RowKit
set_option linter.unusedVariables false
set_option linter.unusedSimpArgs false

set_option maxHeartbeats 4000000 in
set_option maxRecDepth 1000000 in
theorem up_ok (p g n cap j : Nat) (f : Nat → Tr) (w : World) (h : Fo w p g n cap f) (hj : j < n) (hn : n ≤ 1000000) (hu : Up j n f) :
    Calls Tryz.prog 171 #[ifV p, .int .i64 (j : Int)] w fun e w' => e = .returned (.tuple #[]) ∧ ∃ f', Fo w' p g n cap f' ∧ Hp 0 n f' ∧ Mix n f f' ∧ Keeps (fun b => b = g) w w' := by
  have HS : Hid (∃ f', Fo w p g n cap f' ∧ Up j n f' ∧ Mix n f f' ∧ Keeps (fun b => b = g) w w) := ⟨f, h, hu, Mix.refl _ _, Keeps.refl _ _⟩
  clear h hu
  unfold ifV
  go_enter Tryz.func171, Tryz.ntmps171
  go_wp2
  go_loopw [1] (fun s1 w' => ∃ j : Nat, j < n ∧ s1 = .int .i64 (j : Int) ∧ Hid (∃ f', Fo w' p g n cap f' ∧ Up j n f' ∧ Mix n f f' ∧ Keeps (fun b => b = g) w w')) (fun s1 w' => (intOf s1).toNat)
  case atStart => exact ⟨j, hj, rfl, HS⟩
  case round =>
    clear HS hj
    obtain ⟨j, hj, rfl, HS⟩ := hrel
    by_cases h0 : j = 0
    · subst h0
      obtain ⟨f', h1, h2, h3, h4⟩ := HS.out
      have HE : Hid (∃ f', Fo wr p g n cap f' ∧ Hp 0 n f' ∧ Mix n f f' ∧ Keeps (fun b => b = g) w wr) := ⟨f', h1, h2.zero, h3, h4⟩
      clear HS h1 h2 h3 h4
      go_wp2
      go_end0
      exact ⟨rfl, HE.out⟩
    · obtain ⟨i, hi⟩ : ∃ i, (j - 1) / 2 = i := ⟨_, rfl⟩
      have hij : i < j := by omega
      have ht : ((j : Int) - 1).tdiv 2 = (i : Int) := by
        rw [Int.tdiv_eq_ediv_of_nonneg (by omega)]; omega
      have hne : ((i : Int) == (j : Int)) = false := by simp; omega
      obtain ⟨f', h1, h2, h3, h4⟩ := HS.out
      have HF : Hid (Fo wr p g n cap f' ∧ Up j n f' ∧ Mix n f f' ∧ Keeps (fun b => b = g) w wr) := ⟨h1, h2, h3, h4⟩
      have hv := h1.var
      have hm := method_less wr p _ hv
      cases hb : ltb (f' j) (f' i) with
      | false =>
        have HL : Hid (Calls Tryz.prog 194 #[.slice (some ⟨g, 0, none⟩) n cap, .int .i64 (j : Int), .int .i64 (i : Int)] wr fun e w' => e = .returned (.bool false) ∧ Keeps (fun _ => False) wr w') := by rw [← hb]; exact less_ok g n cap j i f' wr h1.2.1 hj (by omega)
        have HE : Hid (∀ w1, Keeps (fun _ => False) wr w1 → ∃ f', Fo w1 p g n cap f' ∧ Hp 0 n f' ∧ Mix n f f' ∧ Keeps (fun b => b = g) w w1) := fun w1 hk => ⟨f', h1.keptF hk, h2.stop (by rw [hi]; exact hb), h3, h4.trans hk (fun _ _ h => h.elim)⟩
        clear HS h1 h2 h3 h4 hb
        go_wp2_with (go_at_call 194; refine HL.out.mono ?_; rintro e w1 ⟨rfl, hK1⟩; have HK1 : Hid (Keeps (fun _ => False) wr w1) := hK1; clear hK1)
        go_end0
        exact ⟨rfl, HE.out _ HK1.out⟩
      | true =>
        have HL : Hid (Calls Tryz.prog 194 #[.slice (some ⟨g, 0, none⟩) n cap, .int .i64 (j : Int), .int .i64 (i : Int)] wr fun e w' => e = .returned (.bool true) ∧ Keeps (fun _ => False) wr w') := by rw [← hb]; exact less_ok g n cap j i f' wr h1.2.1 hj (by omega)
        have HC : Hid (∀ w1, Keeps (fun _ => False) wr w1 → (w1.cell? ⟨p, 0, none⟩ = some (.slice (some ⟨g, 0, none⟩) n cap)) ∧ Calls Tryz.prog 195 #[.slice (some ⟨g, 0, none⟩) n cap, .int .i64 (i : Int), .int .i64 (j : Int)] w1 fun e w2 => e = .returned (.tuple #[]) ∧ ∃ f', Fo w2 p g n cap f' ∧ Up i n f' ∧ Mix n f f' ∧ Keeps (fun b => b = g) w w2) := fun w1 hk => ⟨(h1.keptF hk).var, (swap_ok g n cap i j f' w1 (h1.keptF hk).2.1 (by omega) hj).mono (by
            rintro e w2 ⟨rfl, hs, hk2⟩
            have hb' := hb
            rw [← hi] at hb'
            refine ⟨rfl, swp f' i j, ⟨(hk2.block p (lt_of_heap (h1.keptF hk).1) h1.2.2).trans (h1.keptF hk).1, hs, h1.2.2⟩, ?_, h3.trans (Mix.swp n f' i j (by omega) hj), (h4.trans hk (fun _ _ h => h.elim)).trans hk2 (fun _ _ h => h)⟩
            have := h2.step (by omega) hj hb'
            rwa [hi] at this)⟩
        clear HS h1 h2 h3 h4 hb
        go_wp2_with (first
          | (go_at_call 194; refine HL.out.mono ?_; rintro e w1 ⟨rfl, hK1⟩; have hm1 := method_swap w1 p _ (HC.out w1 hK1).1; have HK1 : Hid (Keeps (fun _ => False) wr w1) := hK1; clear hK1)
          | (go_at_call 195; refine (HC.out _ HK1.out).2.mono ?_; rintro e w2 ⟨rfl, hK2⟩; have HK2 : Hid (∃ f', Fo w2 p g n cap f' ∧ Up i n f' ∧ Mix n f f' ∧ Keeps (fun b => b = g) w w2) := hK2; clear hK2))
        go_roundw
        case rel => exact ⟨i, by omega, rfl, HK2.out⟩
        case measure => simp [intOf]; omega

end Go.Proofs.YtebjooebdehlnaaGreat.Lm

namespace Go.Proofs.YtebjooebdehlnaaGreat.Lm
open Go.RowKit
set_option linter.unusedVariables false
set_option linter.unusedSimpArgs false


set_option maxHeartbeats 4000000 in
set_option maxRecDepth 1000000 in
theorem down_ok (p g N cap i0 n : Nat) (f : Nat → Tr) (w : World) (h : Fo w p g N cap f) (hN : n ≤ N) (hn : N ≤ 1000000) (hi0 : i0 ≤ 1000000) (hu : Hp (i0 + 1) n f) :
    Calls Tryz.prog 170 #[ifV p, .int .i64 (i0 : Int), .int .i64 (n : Int)] w fun e w' => (∃ b, e = .returned (.bool b)) ∧ ∃ f', Fo w' p g N cap f' ∧ Hp i0 n f' ∧ Mix n f f' ∧ Keeps (fun b => b = g) w w' := by
  have HS : Hid (∃ f', Fo w p g N cap f' ∧ Dn i0 i0 n f' ∧ Mix n f f' ∧ Keeps (fun b => b = g) w w) := ⟨f, h, Dn.start hu, Mix.refl _ _, Keeps.refl _ _⟩
  clear h hu
  unfold ifV
  go_enter Tryz.func170, Tryz.ntmps170
  go_wp2
  go_loopw [7] (fun s7 w' => ∃ i : Nat, i0 ≤ i ∧ i ≤ 1000000 ∧ s7 = .int .i64 (i : Int) ∧ Hid (∃ f', Fo w' p g N cap f' ∧ Dn i0 i n f' ∧ Mix n f f' ∧ Keeps (fun b => b = g) w w')) (fun s7 w' => ((1000000 : Int) - intOf s7).toNat)
  case atStart => exact ⟨i0, by omega, hi0, rfl, HS⟩
  case round =>
    clear HS
    obtain ⟨i, hi, hi1, rfl, HS⟩ := hrel
    by_cases hl : n ≤ 2 * i + 1
    · have hlz : (n : Int) ≤ 2 * (i : Int) + 1 := by omega
      obtain ⟨f', h1, h2, h3, h4⟩ := HS.out
      have HE : Hid (∃ f', Fo wr p g N cap f' ∧ Hp i0 n f' ∧ Mix n f f' ∧ Keeps (fun b => b = g) w wr) := ⟨f', h1, h2.leaf hl, h3, h4⟩
      clear HS h1 h2 h3 h4
      go_wp2
      go_ret
      exact ⟨⟨_, rfl⟩, HE.out⟩
    · have hlz : ¬ (n : Int) ≤ 2 * (i : Int) + 1 := by omega
      have hl1 : 2 * (i : Int) + 1 < (n : Int) := by omega
      have hl0 : ¬ 2 * (i : Int) + 1 < 0 := by omega
      obtain ⟨f', h1, h2, h3, h4⟩ := HS.out
      have hv := h1.var
      have hm := method_less wr p _ hv
      obtain ⟨c, hc⟩ : ∃ c, chd n i f' = c := ⟨_, rfl⟩
      have hci := chd_is n i f'
      rw [hc] at hci
      have HF : Hid (∀ w1, Keeps (fun _ => False) wr w1 → Fo w1 p g N cap f') := fun w1 hk => h1.keptF hk
      have HLess : Hid (∀ w1 a b, Keeps (fun _ => False) wr w1 → a < n → b < n → Calls Tryz.prog 194 #[.slice (some ⟨g, 0, none⟩) N cap, .int .i64 (a : Int), .int .i64 (b : Int)] w1 fun e w' => e = .returned (.bool (ltb (f' a) (f' b))) ∧ Keeps (fun _ => False) w1 w') := fun w1 a b hk ha hb => less_ok g N cap a b f' w1 (h1.keptF hk).2.1 (by omega) (by omega)
      have HEnd : Hid (ltb (f' c) (f' i) = false → ∀ w1, Keeps (fun _ => False) wr w1 → ∃ f', Fo w1 p g N cap f' ∧ Hp i0 n f' ∧ Mix n f f' ∧ Keeps (fun b => b = g) w w1) := fun hb w1 hk => ⟨f', h1.keptF hk, h2.stop (by rw [hc]; exact hb), h3, h4.trans hk (fun _ _ h => h.elim)⟩
      have HSwap : Hid (ltb (f' c) (f' i) = true → ∀ w1, Keeps (fun _ => False) wr w1 → Calls Tryz.prog 195 #[.slice (some ⟨g, 0, none⟩) N cap, .int .i64 (i : Int), .int .i64 (c : Int)] w1 fun e w2 => e = .returned (.tuple #[]) ∧ ∃ f', Fo w2 p g N cap f' ∧ Dn i0 c n f' ∧ Mix n f f' ∧ Keeps (fun b => b = g) w w2) := fun hb w1 hk => (swap_ok g N cap i c f' w1 (h1.keptF hk).2.1 (by omega) (by omega)).mono (by
            rintro e w2 ⟨rfl, hs, hk2⟩
            have hb' := hb
            rw [← hc] at hb'
            refine ⟨rfl, swp f' i c, ⟨(hk2.block p (lt_of_heap (h1.keptF hk).1) h1.2.2).trans (h1.keptF hk).1, hs, h1.2.2⟩, ?_, h3.trans (Mix.swp n f' i c (by omega) (by omega)), (h4.trans hk (fun _ _ h => h.elim)).trans hk2 (fun _ _ h => h)⟩
            have := h2.step hi (by omega) hb'
            rwa [hc] at this)
      have HC : Hid (chd n i f' = c) := hc
      have HD : Hid (c ≤ 1000000 ∧ i < c ∧ c < n) := (by omega : c ≤ 1000000 ∧ i < c ∧ c < n)
      clear HS h1 h2 h3 h4 hc
      clear hci
      by_cases hl2 : 2 * i + 2 < n
      · have hl2z : 2 * (i : Int) + 1 + 1 < (n : Int) := by omega
        cases hb1 : ltb (f' (2 * i + 2)) (f' (2 * i + 1)) with
        | true =>
          have HJ : Hid (2 * (i : Int) + 1 + 1 = (c : Int)) := by show 2 * (i : Int) + 1 + 1 = (c : Int); rw [← HC.out]; unfold chd; rw [if_pos ⟨hl2, hb1⟩]; push_cast; omega
          have HL1 : Hid (Calls Tryz.prog 194 #[.slice (some ⟨g, 0, none⟩) N cap, .int .i64 (2 * (i : Int) + 1 + 1), .int .i64 (2 * (i : Int) + 1)] wr fun e w' => e = .returned (.bool true) ∧ Keeps (fun _ => False) wr w') := by
            have := HLess.out wr (2 * i + 1 + 1) (2 * i + 1) (Keeps.refl _ _) (by omega) (by omega)
            rw [show f' (2 * i + 1 + 1) = f' (2 * i + 2) from rfl, hb1] at this
            push_cast at this; exact this
          have HSw : Hid (ltb (f' c) (f' i) = true → ∀ w1, Keeps (fun _ => False) wr w1 → Calls Tryz.prog 195 #[.slice (some ⟨g, 0, none⟩) N cap, .int .i64 (i : Int), .int .i64 (2 * (i : Int) + 1 + 1)] w1 fun e w2 => e = .returned (.tuple #[]) ∧ ∃ f', Fo w2 p g N cap f' ∧ Dn i0 c n f' ∧ Mix n f f' ∧ Keeps (fun b => b = g) w w2) := by rw [HJ.out]; exact HSwap.out
          have HL2 : Hid (∀ w1, Keeps (fun _ => False) wr w1 → Calls Tryz.prog 194 #[.slice (some ⟨g, 0, none⟩) N cap, .int .i64 (2 * (i : Int) + 1 + 1), .int .i64 (i : Int)] w1 fun e w' => e = .returned (.bool (ltb (f' c) (f' i))) ∧ Keeps (fun _ => False) w1 w') := fun w1 hk => by rw [HJ.out]; exact HLess.out w1 c i hk HD.out.2.2 (by have := HD.out; omega)
          clear HLess HSwap
          cases hb : ltb (f' c) (f' i) with
          | false =>
            rw [hb] at HL2
            go_wp2_with (first
              | (go_at_call 194; (fail_if_success (clear HK1)); refine HL1.out.mono ?_; rintro e w1 ⟨rfl, hK1⟩; have hm1 := method_less w1 p _ (HF.out w1 hK1).var; have HK1 : Hid (Keeps (fun _ => False) wr w1) := hK1; clear hK1)
              | (go_at_call 194; refine (HL2.out w1 HK1.out).mono ?_; rintro e w2 ⟨rfl, hK2⟩; have hK2' := HK1.out.trans hK2 (fun _ _ h => h); have hm2 := method_swap w2 p _ (HF.out w2 hK2').var; have HK2 : Hid (Keeps (fun _ => False) wr w2) := hK2'; clear hK2 hK2'))
            go_ret
            exact ⟨⟨_, rfl⟩, HEnd.out hb _ HK2.out⟩
          | true =>
            rw [hb] at HL2
            go_wp2_with (first
              | (go_at_call 194; (fail_if_success (clear HK1)); refine HL1.out.mono ?_; rintro e w1 ⟨rfl, hK1⟩; have hm1 := method_less w1 p _ (HF.out w1 hK1).var; have HK1 : Hid (Keeps (fun _ => False) wr w1) := hK1; clear hK1)
              | (go_at_call 194; refine (HL2.out w1 HK1.out).mono ?_; rintro e w2 ⟨rfl, hK2⟩; have hK2' := HK1.out.trans hK2 (fun _ _ h => h); have hm2 := method_swap w2 p _ (HF.out w2 hK2').var; have HK2 : Hid (Keeps (fun _ => False) wr w2) := hK2'; clear hK2 hK2')
              | (go_at_call 195; refine (HSw.out hb w2 HK2.out).mono ?_; rintro e w3 ⟨rfl, hK3⟩; have HK3 : Hid (∃ f', Fo w3 p g N cap f' ∧ Dn i0 c n f' ∧ Mix n f f' ∧ Keeps (fun b => b = g) w w3) := hK3; clear hK3))
            go_roundw
            case rel => have := HD.out; exact ⟨c, by omega, by omega, by rw [HJ.out], HK3.out⟩
            case measure => have := HD.out; simp [intOf]; omega
        | false =>
          have HJ : Hid (2 * (i : Int) + 1 = (c : Int)) := by show 2 * (i : Int) + 1 = (c : Int); rw [← HC.out]; unfold chd; rw [if_neg (fun h => by rw [hb1] at h; cases h.2)]; push_cast; rfl
          have HL1 : Hid (Calls Tryz.prog 194 #[.slice (some ⟨g, 0, none⟩) N cap, .int .i64 (2 * (i : Int) + 1 + 1), .int .i64 (2 * (i : Int) + 1)] wr fun e w' => e = .returned (.bool false) ∧ Keeps (fun _ => False) wr w') := by
            have := HLess.out wr (2 * i + 1 + 1) (2 * i + 1) (Keeps.refl _ _) (by omega) (by omega)
            rw [show f' (2 * i + 1 + 1) = f' (2 * i + 2) from rfl, hb1] at this
            push_cast at this; exact this
          have HSw : Hid (ltb (f' c) (f' i) = true → ∀ w1, Keeps (fun _ => False) wr w1 → Calls Tryz.prog 195 #[.slice (some ⟨g, 0, none⟩) N cap, .int .i64 (i : Int), .int .i64 (2 * (i : Int) + 1)] w1 fun e w2 => e = .returned (.tuple #[]) ∧ ∃ f', Fo w2 p g N cap f' ∧ Dn i0 c n f' ∧ Mix n f f' ∧ Keeps (fun b => b = g) w w2) := by rw [HJ.out]; exact HSwap.out
          have HL2 : Hid (∀ w1, Keeps (fun _ => False) wr w1 → Calls Tryz.prog 194 #[.slice (some ⟨g, 0, none⟩) N cap, .int .i64 (2 * (i : Int) + 1), .int .i64 (i : Int)] w1 fun e w' => e = .returned (.bool (ltb (f' c) (f' i))) ∧ Keeps (fun _ => False) w1 w') := fun w1 hk => by rw [HJ.out]; exact HLess.out w1 c i hk HD.out.2.2 (by have := HD.out; omega)
          clear HLess HSwap
          cases hb : ltb (f' c) (f' i) with
          | false =>
            rw [hb] at HL2
            go_wp2_with (first
              | (go_at_call 194; (fail_if_success (clear HK1)); refine HL1.out.mono ?_; rintro e w1 ⟨rfl, hK1⟩; have hm1 := method_less w1 p _ (HF.out w1 hK1).var; have HK1 : Hid (Keeps (fun _ => False) wr w1) := hK1; clear hK1)
              | (go_at_call 194; refine (HL2.out w1 HK1.out).mono ?_; rintro e w2 ⟨rfl, hK2⟩; have hK2' := HK1.out.trans hK2 (fun _ _ h => h); have hm2 := method_swap w2 p _ (HF.out w2 hK2').var; have HK2 : Hid (Keeps (fun _ => False) wr w2) := hK2'; clear hK2 hK2'))
            go_ret
            exact ⟨⟨_, rfl⟩, HEnd.out hb _ HK2.out⟩
          | true =>
            rw [hb] at HL2
            go_wp2_with (first
              | (go_at_call 194; (fail_if_success (clear HK1)); refine HL1.out.mono ?_; rintro e w1 ⟨rfl, hK1⟩; have hm1 := method_less w1 p _ (HF.out w1 hK1).var; have HK1 : Hid (Keeps (fun _ => False) wr w1) := hK1; clear hK1)
              | (go_at_call 194; refine (HL2.out w1 HK1.out).mono ?_; rintro e w2 ⟨rfl, hK2⟩; have hK2' := HK1.out.trans hK2 (fun _ _ h => h); have hm2 := method_swap w2 p _ (HF.out w2 hK2').var; have HK2 : Hid (Keeps (fun _ => False) wr w2) := hK2'; clear hK2 hK2')
              | (go_at_call 195; refine (HSw.out hb w2 HK2.out).mono ?_; rintro e w3 ⟨rfl, hK3⟩; have HK3 : Hid (∃ f', Fo w3 p g N cap f' ∧ Dn i0 c n f' ∧ Mix n f f' ∧ Keeps (fun b => b = g) w w3) := hK3; clear hK3))
            go_roundw
            case rel => have := HD.out; exact ⟨c, by omega, by omega, by rw [HJ.out], HK3.out⟩
            case measure => have := HD.out; simp [intOf]; omega
      · have hl2z : ¬ 2 * (i : Int) + 1 + 1 < (n : Int) := by omega
        have HJ : Hid (2 * (i : Int) + 1 = (c : Int)) := by show 2 * (i : Int) + 1 = (c : Int); rw [← HC.out]; unfold chd; rw [if_neg (fun h => hl2 h.1)]; push_cast; rfl
        have HSw : Hid (ltb (f' c) (f' i) = true → ∀ w1, Keeps (fun _ => False) wr w1 → Calls Tryz.prog 195 #[.slice (some ⟨g, 0, none⟩) N cap, .int .i64 (i : Int), .int .i64 (2 * (i : Int) + 1)] w1 fun e w2 => e = .returned (.tuple #[]) ∧ ∃ f', Fo w2 p g N cap f' ∧ Dn i0 c n f' ∧ Mix n f f' ∧ Keeps (fun b => b = g) w w2) := by rw [HJ.out]; exact HSwap.out
        have HL2 : Hid (∀ w1, Keeps (fun _ => False) wr w1 → Calls Tryz.prog 194 #[.slice (some ⟨g, 0, none⟩) N cap, .int .i64 (2 * (i : Int) + 1), .int .i64 (i : Int)] w1 fun e w' => e = .returned (.bool (ltb (f' c) (f' i))) ∧ Keeps (fun _ => False) w1 w') := fun w1 hk => by rw [HJ.out]; exact HLess.out w1 c i hk HD.out.2.2 (by have := HD.out; omega)
        clear HLess HSwap
        cases hb : ltb (f' c) (f' i) with
        | false =>
          rw [hb] at HL2
          go_wp2_with (first
            | (go_at_call 194; refine (HL2.out wr (Keeps.refl _ _)).mono ?_; rintro e w2 ⟨rfl, hK2⟩; have hm2 := method_swap w2 p _ (HF.out w2 hK2).var; have HK2 : Hid (Keeps (fun _ => False) wr w2) := hK2; clear hK2))
          go_ret
          exact ⟨⟨_, rfl⟩, HEnd.out hb _ HK2.out⟩
        | true =>
          rw [hb] at HL2
          go_wp2_with (first
            | (go_at_call 194; refine (HL2.out wr (Keeps.refl _ _)).mono ?_; rintro e w2 ⟨rfl, hK2⟩; have hm2 := method_swap w2 p _ (HF.out w2 hK2).var; have HK2 : Hid (Keeps (fun _ => False) wr w2) := hK2; clear hK2)
            | (go_at_call 195; refine (HSw.out hb w2 HK2.out).mono ?_; rintro e w3 ⟨rfl, hK3⟩; have HK3 : Hid (∃ f', Fo w3 p g N cap f' ∧ Dn i0 c n f' ∧ Mix n f f' ∧ Keeps (fun b => b = g) w w3) := hK3; clear hK3))
          go_roundw
          case rel => have := HD.out; exact ⟨c, by omega, by omega, by rw [HJ.out], HK3.out⟩
          case measure => have := HD.out; simp [intOf]; omega

end Go.Proofs.YtebjooebdehlnaaGreat.Lm

namespace Go.Proofs.YtebjooebdehlnaaGreat.Lm
open Go.RowKit
set_option linter.unusedVariables false
set_option linter.unusedSimpArgs false

/-- A tree as an interface value. -/
def trV (t : Tr) : Value := .iface 172 (.agg #[.int .i64 (t.1 : Int), .int .i64 (t.2 : Int)])

theorem Trs.lay {w : World} {g n cap : Nat} {f : Nat → Tr} (h : Trs w g n cap f) (hc : n < cap) (t : Tr) :
    Trs ((w.setCell ⟨g, n * 2, none⟩ (.int .i64 (t.1 : Int))).setCell ⟨g, n * 2 + 1, none⟩ (.int .i64 (t.2 : Int))) g (n + 1) cap (fun j => if j = n then t else f j) := by
  obtain ⟨cs, h1, h2, h3, h4, h5⟩ := h
  refine ⟨_, heap_setCell_same (heap_setCell_same h1 _) _, by simp [h2], hc, h4, fun j hj => ?_⟩
  rw [Array.getElem?_setIfInBounds, Array.getElem?_setIfInBounds, Array.getElem?_setIfInBounds, Array.getElem?_setIfInBounds]
  by_cases e : j = n
  · subst e
    have z1 : j * 2 < cs.size := by omega
    have z2 : j * 2 + 1 < cs.size := by omega
    simp [z1, z2]
  · obtain ⟨c1, c2⟩ := h5 j (by omega)
    rw [if_neg (show ¬ n * 2 + 1 = j * 2 by omega), if_neg (show ¬ n * 2 = j * 2 by omega), if_neg (show ¬ n * 2 + 1 = j * 2 + 1 by omega), if_neg (show ¬ n * 2 = j * 2 + 1 by omega), c1, c2]
    simp [e]

set_option maxHeartbeats 4000000 in
set_option maxRecDepth 1000000 in
theorem last_ok (p g n cap : Nat) (f : Nat → Tr) (w : World) (h : Fo w p g (n + 1) cap f) (hn : n ≤ 1000000) :
    Calls Tryz.prog 196 #[.pointer (some ⟨p, 0, none⟩)] w fun e w' => e = .returned (trV (f n)) ∧ Fo w' p g n cap f ∧ Keeps (fun b => b = p) w w' := by
  have hv := h.var
  have hf := h.free
  have c1 := h.2.1.one n (by omega)
  have c2 := h.2.1.two n (by omega)
  have hlt : p < w.heap.size := lt_of_heap h.1
  have hcap : (n : Int) + 1 ≤ (cap : Int) := by have := h.2.1.le; omega
  have HF : Hid (Fo w p g (n + 1) cap f) := h
  clear h
  unfold trV
  go_enter Tryz.func196, Tryz.ntmps196
  go_wp2
  go_ret
  have hg := HF.out.2.1.lt
  have hk : Keeps (fun b => b = p) w ((w.setCell ⟨p, 0, none⟩ (.slice (some ⟨g, 0, none⟩) n cap)).alloc (Obj.cells #[Value.int IntKind.i64 ((f n).1 : Int), Value.int IntKind.i64 ((f n).2 : Int)] 172)) := ((Keeps.refl (fun b => b = p) w).setCell (p := ⟨p, 0, none⟩) (fun _ => rfl) _).alloc _
  refine ⟨rfl, ⟨?_, (HF.out.2.1.kept hk (fun h => HF.out.2.2 h.symm)).less (by omega), HF.out.2.2⟩, hk⟩
  rw [Below.heap_alloc _ _ _ (by rw [heap_size_setCell]; exact hlt), heap_setCell_same HF.out.1]
  simp

set_option maxHeartbeats 4000000 in
set_option maxRecDepth 1000000 in
theorem lay_ok (p g n cap : Nat) (f : Nat → Tr) (t : Tr) (w : World) (h : Fo w p g n cap f) (hn : n ≤ 1000000) (hc : n < cap) :
    Calls Tryz.prog 197 #[.pointer (some ⟨p, 0, none⟩), trV t] w fun e w' => e = .returned (.tuple #[]) ∧ Fo w' p g (n + 1) cap (fun j => if j = n then t else f j) ∧ Keeps (fun b => b = p ∨ b = g) w w' := by
  have hv := h.var
  have hf := h.free
  have hlt : p < w.heap.size := lt_of_heap h.1
  have hcap : (n : Int) + 1 ≤ (cap : Int) := by omega
  have hta : ∀ w, (Instr.typeAssert (.iface 172 (.agg #[.int .i64 (t.1 : Int), .int .i64 (t.2 : Int)])) 20 172 false).run Tryz.prog w = .ok (.agg #[.int .i64 (t.1 : Int), .int .i64 (t.2 : Int)]) w := fun _ => by kernel_rfl
  obtain ⟨x0, x1, hx0, hx1⟩ : ∃ x0 x1, w.cell? ⟨g, n * 2, none⟩ = some x0 ∧ w.cell? ⟨g, n * 2 + 1, none⟩ = some x1 := by
    obtain ⟨cs, h1, h2, _⟩ := h.2.1
    exact ⟨cs[n * 2], cs[n * 2 + 1], cell_of_heap h1 (by simp), cell_of_heap h1 (by simp)⟩
  have hgf := h.2.1.free (n * 2)
  have hc' : n + 1 ≤ cap := by omega
  have hgl : g < w.heap.size := h.2.1.lt
  have hpg : ¬ p = g := h.2.2
  have hgp : ¬ g = p := fun e => h.2.2 e.symm
  have hgf' := h.2.1.free (n * 2 + 1)
  have HF : Hid (Fo w p g n cap f) := h
  clear h
  unfold trV
  go_enter Tryz.func197, Tryz.ntmps197
  go_wp2
  go_region
  go_end0
  obtain ⟨k1, k2, k3⟩ := HF.out
  have hl := k2.lay hc t
  have hlp : ((w.setCell ⟨g, n * 2, none⟩ (.int .i64 (t.1 : Int))).setCell ⟨g, n * 2 + 1, none⟩ (.int .i64 (t.2 : Int))).heap[p]? = w.heap[p]? := (Below.heap_setCell _ _ _ _ hpg).trans (Below.heap_setCell _ _ _ _ hpg)
  have hk : Keeps (fun b => b = p ∨ b = g) w ((w.setCell ⟨g, n * 2, none⟩ (.int .i64 (t.1 : Int))).setCell ⟨g, n * 2 + 1, none⟩ (.int .i64 (t.2 : Int))) := ((Keeps.refl (fun b => b = p ∨ b = g) w).setCell (p := ⟨g, n * 2, none⟩) (fun _ => .inr rfl) _).setCell (p := ⟨g, n * 2 + 1, none⟩) (fun _ => .inr rfl) _
  generalize (w.setCell ⟨g, n * 2, none⟩ (.int .i64 (t.1 : Int))).setCell ⟨g, n * 2 + 1, none⟩ (.int .i64 (t.2 : Int)) = wa at *
  have kk : Keeps (fun b => b = p) wa (((wa.setCell ⟨p, 0, none⟩ (.slice (some ⟨g, 0, none⟩) (n + 1) cap)).alloc (Obj.cells #[Value.int IntKind.i64 (t.1 : Int), Value.int IntKind.i64 (t.2 : Int)] 172)).drew) := (((Keeps.refl (fun b => b = p) wa).setCell (p := ⟨p, 0, none⟩) (fun _ => rfl) _).alloc _).drew
  refine ⟨rfl, ⟨?_, hl.kept kk hgp, k3⟩, hk.trans kk (fun _ _ h => .inl h)⟩
  rw [k1] at hlp
  have := heap_setCell_same (i := 0) hlp (.slice (some ⟨g, 0, none⟩) (n + 1) cap)
  show ((wa.setCell ⟨p, 0, none⟩ (.slice (some ⟨g, 0, none⟩) (n + 1) cap)).alloc _).heap[p]? = _
  rw [Below.heap_alloc _ _ _ (by rw [heap_size_setCell]; exact lt_of_heap hlp), this]
  simp

end Go.Proofs.YtebjooebdehlnaaGreat.Lm

namespace Go.Proofs.YtebjooebdehlnaaGreat.Lm
open Go.RowKit
set_option linter.unusedVariables false
set_option linter.unusedSimpArgs false

set_option maxHeartbeats 4000000 in
set_option maxRecDepth 1000000 in
theorem init_ok (p g n cap : Nat) (f : Nat → Tr) (w : World) (h : Fo w p g n cap f) (hn : n ≤ 1000000) :
    Calls Tryz.prog 154 #[ifV p] w fun e w' => e = .returned (.tuple #[]) ∧ ∃ f', Fo w' p g n cap f' ∧ Hp 0 n f' ∧ Mix n f f' ∧ Keeps (fun b => b = g) w w' := by
  have hm := method_len w p _ h.var
  have HS : Hid (∃ f', Fo w p g n cap f' ∧ Hp (n / 2) n f' ∧ Mix n f f' ∧ Keeps (fun b => b = g) w w) := ⟨f, h, Hp.half n f, Mix.refl _ _, Keeps.refl _ _⟩
  obtain ⟨k, hk⟩ : ∃ k, n / 2 = k := ⟨_, rfl⟩
  rw [hk] at HS
  have hkz : (n : Int).tdiv 2 = (k : Int) := by rw [Int.tdiv_eq_ediv_of_nonneg (by omega)]; omega
  have hk1 : k ≤ 1000000 := by omega
  clear h hk
  unfold ifV
  go_enter Tryz.func154, Tryz.ntmps154
  go_wp2_with (go_at_call 155; refine (len_ok _ n cap w).mono ?_; rintro e w' ⟨rfl, hw⟩; obtain rfl := hw.symm; clear hw)
  clear hm
  go_loopw [3] (fun s3 w' => ∃ i : Nat, i ≤ k ∧ s3 = .int .i64 ((i : Int) - 1) ∧ Hid (∃ f', Fo w' p g n cap f' ∧ Hp i n f' ∧ Mix n f f' ∧ Keeps (fun b => b = g) w w')) (fun s3 w' => (intOf s3 + 1).toNat)
  case atStart => exact ⟨k, by omega, rfl, HS⟩
  case round =>
    clear HS
    obtain ⟨i, hi, rfl, HS⟩ := hrel
    by_cases h0 : i = 0
    · subst h0
      go_wp2
      go_end0
      exact ⟨rfl, HS.out⟩
    · obtain ⟨j, rfl⟩ : ∃ j, i = j + 1 := ⟨i - 1, by omega⟩
      have hj : ((j + 1 : Nat) : Int) - 1 = (j : Int) := by omega
      rw [hj]
      clear hj h0
      obtain ⟨f', h1, h2, h3, h4⟩ := HS.out
      have HC : Hid (Calls Tryz.prog 170 #[.iface 205 (.pointer (some ⟨p, 0, none⟩)), .int .i64 (j : Int), .int .i64 (n : Int)] wr fun e w' => (∃ b, e = .returned (.bool b)) ∧ ∃ f', Fo w' p g n cap f' ∧ Hp j n f' ∧ Mix n f f' ∧ Keeps (fun b => b = g) w w') := (down_ok p g n cap j n f' wr h1 (by omega) hn (by omega) h2).mono (by
        rintro e w' ⟨he, f2, g1, g2, g3, g4⟩
        exact ⟨he, f2, g1, g2, h3.trans g3, h4.trans g4 (fun _ _ h => h)⟩)
      clear HS h1 h2 h3 h4
      go_wp2_with (go_at_call 170; refine HC.out.mono ?_; rintro e w1 ⟨⟨b, rfl⟩, hK1⟩; have HK1 : Hid (∃ f', Fo w1 p g n cap f' ∧ Hp j n f' ∧ Mix n f f' ∧ Keeps (fun b => b = g) w w1) := hK1; clear hK1)
      go_roundw
      case rel => exact ⟨j, by omega, by push_cast; rfl, HK1.out⟩
      case measure => first | (simp [intOf]; done) | (simp [intOf]; omega)

set_option maxHeartbeats 4000000 in
set_option maxRecDepth 1000000 in
theorem pop_ok (p g n cap : Nat) (f : Nat → Tr) (S : List Tr) (w : World) (h : Fo w p g (n + 1) cap f) (hn : n + 1 ≤ 1000000) (hp : Hp 0 (n + 1) f) (hr : Rep (n + 1) f S) :
    Calls Tryz.prog 156 #[ifV p] w fun e w' => ∃ t S' f', S = t :: S' ∧ e = .returned (trV t) ∧ Fo w' p g n cap f' ∧ Hp 0 n f' ∧ Rep n f' S' ∧ Keeps (fun b => b = g ∨ b = p) w w' := by
  have hm := method_len w p _ h.var
  have hm2 := method_swap w p _ h.var
  obtain ⟨S', hS, hr'⟩ := hr.pop hp
  have HS : Hid (S = f 0 :: S') := hS
  have HC1 : Hid (Calls Tryz.prog 195 #[.slice (some ⟨g, 0, none⟩) (n + 1) cap, .int .i64 0, .int .i64 (n : Int)] w fun e w' => e = .returned (.tuple #[]) ∧ Fo w' p g (n + 1) cap (swp f 0 n) ∧ Keeps (fun b => b = g) w w') := (swap_ok g (n + 1) cap 0 n f w h.2.1 (by omega) (by omega)).mono (by
    rintro e w2 ⟨rfl, hs, hk2⟩
    exact ⟨rfl, ⟨(hk2.block p (lt_of_heap h.1) h.2.2).trans h.1, hs, h.2.2⟩, hk2⟩)
  have HC2 : Hid (∀ w1, Fo w1 p g (n + 1) cap (swp f 0 n) → Calls Tryz.prog 170 #[.iface 205 (.pointer (some ⟨p, 0, none⟩)), .int .i64 0, .int .i64 (n : Int)] w1 fun e w' => (∃ b, e = .returned (.bool b)) ∧ ∃ f', Fo w' p g (n + 1) cap f' ∧ (Hp 0 n f' ∧ Rep n f' S' ∧ f' n = f 0) ∧ Keeps (fun b => b = g) w1 w') := fun w1 h1 => (down_ok p g (n + 1) cap 0 n (swp f 0 n) w1 h1 (by omega) hn (by omega) (hp_pop hp)).mono (by
    rintro e w' ⟨he, f2, g1, g2, g3, g4⟩
    refine ⟨he, f2, g1, ⟨g2, g3.rep n S' (Nat.le_refl _) hr', ?_⟩, g4⟩
    rw [g3.far n (Nat.le_refl _)]; simp [swp])
  have HC3 : Hid (∀ w1 f', Fo w1 p g (n + 1) cap f' → Calls Tryz.prog 196 #[.pointer (some ⟨p, 0, none⟩)] w1 fun e w' => e = .returned (trV (f' n)) ∧ Fo w' p g n cap f' ∧ Keeps (fun b => b = p) w1 w') := fun w1 f' h1 => last_ok p g n cap f' w1 h1 (by omega)
  clear h hp hr hr' hS
  unfold ifV
  go_enter Tryz.func156, Tryz.ntmps156
  go_wp2_with (first
    | (go_at_call 155; refine (len_ok _ (n + 1) cap w).mono ?_; rintro e w' ⟨rfl, hw⟩; obtain rfl := hw.symm; clear hw)
    | (go_at_call 195; refine HC1.out.mono ?_; rintro e w1 ⟨rfl, hF1, hK1⟩; have HF1 : Hid (Fo w1 p g (n + 1) cap (swp f 0 n) ∧ Keeps (fun b => b = g) w w1) := ⟨hF1, hK1⟩; clear hF1 hK1)
    | (go_at_call 170; refine (HC2.out w1 HF1.out.1).mono ?_; rintro e w2 ⟨⟨b, rfl⟩, f2, hF2, hB2, hK2⟩; have hm3 := method_pop w2 p; have HF2 : Hid (Fo w2 p g (n + 1) cap f2 ∧ (Hp 0 n f2 ∧ Rep n f2 S' ∧ f2 n = f 0) ∧ Keeps (fun b => b = g) w w2) := ⟨hF2, hB2, HF1.out.2.trans hK2 (fun _ _ h => h)⟩; clear hF2 hB2 hK2)
    | (go_at_call 196; refine (HC3.out w2 f2 HF2.out.1).mono ?_; rintro e w3 ⟨rfl, hF3, hK3⟩; have HF3 : Hid (Fo w3 p g n cap f2 ∧ Keeps (fun b => b = p) w2 w3) := ⟨hF3, hK3⟩; clear hF3 hK3))
  go_ret
  obtain ⟨b1, b2, b3⟩ := HF2.out.2.1
  exact ⟨f 0, S', f2, HS.out, by rw [b3]; rfl, HF3.out.1, b1, b2, (HF2.out.2.2.mono (fun _ _ h => .inl h)).trans HF3.out.2 (fun _ _ h => .inr h)⟩

set_option maxHeartbeats 4000000 in
set_option maxRecDepth 1000000 in
theorem push_ok (p g n cap : Nat) (f : Nat → Tr) (S : List Tr) (t : Tr) (w : World) (h : Fo w p g n cap f) (hn : n + 1 ≤ 1000000) (hc : n < cap) (hp : Hp 0 n f) (hr : Rep n f S) (ht : t ∉ S) :
    Calls Tryz.prog 157 #[ifV p, trV t] w fun e w' => e = .returned (.tuple #[]) ∧ ∃ f', Fo w' p g (n + 1) cap f' ∧ Hp 0 (n + 1) f' ∧ Rep (n + 1) f' (ins t S) ∧ Keeps (fun b => b = g ∨ b = p) w w' := by
  have hm := method_push w p
  obtain ⟨f1, hf1⟩ : ∃ f1 : Nat → Tr, f1 = fun j => if j = n then t else f j := ⟨_, rfl⟩
  have e1 : ∀ j, j < n → f1 j = f j := fun j hj => by rw [hf1]; simp; omega
  have e2 : f1 n = t := by rw [hf1]; simp
  have HC1 : Hid (Calls Tryz.prog 197 #[.pointer (some ⟨p, 0, none⟩), trV t] w fun e w' => e = .returned (.tuple #[]) ∧ Fo w' p g (n + 1) cap f1 ∧ Keeps (fun b => b = p ∨ b = g) w w') := by rw [hf1]; exact lay_ok p g n cap f t w h (by omega) hc
  have HC2 : Hid (∀ w1, Fo w1 p g (n + 1) cap f1 → Calls Tryz.prog 171 #[.iface 205 (.pointer (some ⟨p, 0, none⟩)), .int .i64 (n : Int)] w1 fun e w' => e = .returned (.tuple #[]) ∧ ∃ f', Fo w' p g (n + 1) cap f' ∧ (Hp 0 (n + 1) f' ∧ Rep (n + 1) f' (ins t S)) ∧ Keeps (fun b => b = g) w1 w') := fun w1 h1 => (up_ok p g (n + 1) cap n f1 w1 h1 (by omega) hn (Up.start hp e1)).mono (by
    rintro e w' ⟨he, f2, g1, g2, g3, g4⟩
    exact ⟨he, f2, g1, ⟨g2, g3.rep (n + 1) _ (Nat.le_refl _) (hr.push t ht e1 e2)⟩, g4⟩)
  clear h hp hr ht e1 e2 hf1
  generalize trV t = tv at *
  unfold ifV
  go_enter Tryz.func157, Tryz.ntmps157
  go_wp2_with (first
    | (go_at_call 197; refine HC1.out.mono ?_; rintro e w1 ⟨rfl, hF1, hK1⟩; have hm1 := method_len w1 p _ hF1.var; have HF1 : Hid (Fo w1 p g (n + 1) cap f1 ∧ Keeps (fun b => b = p ∨ b = g) w w1) := ⟨hF1, hK1⟩; clear hF1 hK1)
    | (go_at_call 155; refine (len_ok _ (n + 1) cap w1).mono ?_; rintro e w' ⟨rfl, hw⟩; obtain rfl := hw.symm; clear hw)
    | (go_at_call 171; refine (HC2.out w1 HF1.out.1).mono ?_; rintro e w2 ⟨rfl, f2, hF2, hB2, hK2⟩; have HF2 : Hid (Fo w2 p g (n + 1) cap f2 ∧ (Hp 0 (n + 1) f2 ∧ Rep (n + 1) f2 (ins t S)) ∧ Keeps (fun b => b = g) w1 w2) := ⟨hF2, hB2, hK2⟩; clear hF2 hB2 hK2))
  go_end0
  exact ⟨rfl, f2, HF2.out.1, HF2.out.2.1.1, HF2.out.2.1.2, (HF1.out.2.mono (fun _ _ h => h.elim .inr .inl)).trans HF2.out.2.2 (fun _ _ h => .inl h)⟩

end Go.Proofs.YtebjooebdehlnaaGreat.Lm

namespace Go.Proofs.YtebjooebdehlnaaGreat.Lm
set_option linter.unusedVariables false
set_option linter.unusedSimpArgs false

/-- How deep tree i stands: S are the trees that are left, n were made. -/
def dpS : Nat → List Tr → Nat → Nat → Nat
  | k + 1, a :: b :: S, n, i => bif (i == a.2 || i == b.2) then dpS k (ins (a.1 + b.1, n) S) (n + 1) n + 1 else dpS k (ins (a.1 + b.1, n) S) (n + 1) i
  | _, _, _, _ => 0
/-- What each is joined into. -/
def runI : Nat → List Tr → List Nat → List Nat
  | k + 1, a :: b :: S, into => runI k (ins (a.1 + b.1, into.length) S) ((into.set a.2 into.length).set b.2 into.length ++ [into.length])
  | _, _, into => into

structure Al (S : List Tr) (L : Nat) : Prop where
  srt : Srt S
  lt : ∀ t ∈ S, t.2 < L
  one : ∀ a ∈ S, ∀ b ∈ S, a.2 = b.2 → a = b
  last : ∃ t ∈ S, t.2 + 1 = L
theorem Al.new {S : List Tr} {L : Nat} (h : ∀ t ∈ S, t.2 < L) (x : Nat) : (x, L) ∉ S := fun hm => by have := h _ hm; simp at this
theorem Al.step {a b : Tr} {S : List Tr} {L : Nat} (h : Al (a :: b :: S) L) : Al (ins (a.1 + b.1, L) S) (L + 1) := by
  have hl : ∀ t ∈ S, t.2 < L := fun t ht => h.lt t (by simp [ht])
  refine ⟨srt_ins _ _ (List.pairwise_cons.1 (List.pairwise_cons.1 h.srt).2).2 (Al.new hl _), fun t ht => ?_, fun x hx y hy e => ?_, ⟨(a.1 + b.1, L), by rw [mem_ins]; exact .inl rfl, rfl⟩⟩
  · rcases (mem_ins _ _ _).1 ht with rfl | ht
    · simp
    · have := hl t ht; omega
  · rcases (mem_ins _ _ _).1 hx with rfl | hx <;> rcases (mem_ins _ _ _).1 hy with rfl | hy
    · rfl
    · have := hl y hy; simp at e; omega
    · have := hl x hx; simp at e; omega
    · exact h.one x (by simp [hx]) y (by simp [hy]) e
theorem Al.two {a b : Tr} {S : List Tr} {L : Nat} (h : Al (a :: b :: S) L) : a.2 ≠ b.2 ∧ (∀ t ∈ S, t.2 ≠ a.2 ∧ t.2 ≠ b.2) ∧ a.2 < L ∧ b.2 < L := by
  have hs := List.pairwise_cons.1 h.srt
  have hs2 := List.pairwise_cons.1 hs.2
  refine ⟨fun e => ?_, fun t ht => ⟨fun e => ?_, fun e => ?_⟩, h.lt a (by simp), h.lt b (by simp)⟩
  · exact ne_of_lt' (hs.1 b (by simp)) (h.one a (by simp) b (by simp) e)
  · exact ne_of_lt' (hs.1 t (by simp [ht])) (h.one t (by simp [ht]) a (by simp) e).symm
  · exact ne_of_lt' (hs2.1 t ht) (h.one t (by simp [ht]) b (by simp) e).symm

theorem dpS_step (k : Nat) (a b : Tr) (S : List Tr) (n i : Nat) : dpS (k + 1) (a :: b :: S) n i = if i = a.2 ∨ i = b.2 then dpS k (ins (a.1 + b.1, n) S) (n + 1) n + 1 else dpS k (ins (a.1 + b.1, n) S) (n + 1) i := by
  rw [dpS]
  by_cases h : i = a.2 ∨ i = b.2
  · rw [if_pos h]; rcases h with h | h <;> simp [h]
  · have h' := not_or.1 h
    have e1 : (i == a.2) = false := by simpa using h'.1
    have e2 : (i == b.2) = false := by simpa using h'.2
    rw [if_neg h, e1, e2]; rfl

structure Ran (k : Nat) (S : List Tr) (into I : List Nat) (D : Nat → Nat) : Prop where
  len : I.length = into.length + k
  old : ∀ i, i < into.length → (∀ t ∈ S, t.2 ≠ i) → I[i]? = into[i]?
  up : ∀ i, ((∃ t ∈ S, t.2 = i) ∨ into.length ≤ i) → i + 1 < into.length + k → ∃ u, I[i]? = some u ∧ i < u ∧ into.length ≤ u ∧ u < into.length + k ∧ D i = D u + 1
  top : D (into.length + k - 1) = 0

theorem run_ok : ∀ (k : Nat) (S : List Tr) (into : List Nat), S.length = k + 1 → Al S into.length → Ran k S into (runI k S into) (dpS k S into.length) := by
  intro k
  induction k with
  | zero =>
    intro S into hl hA
    match S, hl with
    | [t], _ =>
      obtain ⟨t', ht', e⟩ := hA.last
      simp at ht'
      subst ht'
      refine ⟨by simp [runI], fun i _ _ => by simp [runI], fun i hi hlt => ?_, by simp [dpS]⟩
      rcases hi with ⟨x, hx, rfl⟩ | hi
      · simp at hx; subst hx; omega
      · omega
  | succ k ih =>
    intro S into hl hA
    match S, hl with
    | a :: b :: S, hl =>
      obtain ⟨n1, n2, n3, n4⟩ := hA.two
      have hA1 := hA.step
      generalize hL : into.length = L at *
      have hi1 : ((into.set a.2 L).set b.2 L ++ [L]).length = L + 1 := by simp [hL]
      have hr := ih (ins (a.1 + b.1, L) S) ((into.set a.2 L).set b.2 L ++ [L]) (by rw [length_ins]; simpa using hl) (by rw [hi1]; exact hA1)
      have hrun : runI (k + 1) (a :: b :: S) into = runI k (ins (a.1 + b.1, L) S) ((into.set a.2 L).set b.2 L ++ [L]) := by rw [runI, hL]
      rw [hrun]
      rw [hi1] at hr
      generalize hI : runI k (ins (a.1 + b.1, L) S) ((into.set a.2 L).set b.2 L ++ [L]) = I at *
      obtain ⟨r1, r2, r3, r4⟩ := hr
      rw [hi1] at r1 r2 r3 r4
      have hD : ∀ i, dpS (k + 1) (a :: b :: S) L i = if i = a.2 ∨ i = b.2 then dpS k (ins (a.1 + b.1, L) S) (L + 1) L + 1 else dpS k (ins (a.1 + b.1, L) S) (L + 1) i := fun i => dpS_step k a b S L i
      generalize dpS k (ins (a.1 + b.1, L) S) (L + 1) = D1 at *
      generalize dpS (k + 1) (a :: b :: S) L = D at *
      have hge : ∀ i, L ≤ i → D i = D1 i := fun i hi => by rw [hD, if_neg (by omega)]
      have hset : ∀ i, i < L → ((into.set a.2 L).set b.2 L ++ [L])[i]? = if b.2 = i ∨ a.2 = i then some L else into[i]? := fun i hi => by
        rw [List.getElem?_append_left (by simp [hL]; exact hi), List.getElem?_set, List.getElem?_set]
        by_cases e1 : b.2 = i
        · simp [e1, hL, hi]
        · by_cases e2 : a.2 = i
          · simp [e1, e2, hL, hi]
          · simp [e1, e2]
      refine ⟨by rw [r1, hL]; omega, fun i hi hne => ?_, fun i hi hlt => ?_, ?_⟩
      · rw [hL] at hi
        have ea : a.2 ≠ i := hne a (by simp)
        have eb : b.2 ≠ i := hne b (by simp)
        rw [r2 i (by omega) (fun t ht => by
          rcases (mem_ins _ _ _).1 ht with rfl | ht
          · simp; omega
          · exact hne t (by simp [ht])), hset i hi, if_neg (by simp [ea, eb])]
      · rw [hL] at hlt hi ⊢
        by_cases hab : i = a.2 ∨ i = b.2
        · have hiL : i < L := by omega
          refine ⟨L, ?_, hiL, Nat.le_refl _, by omega, ?_⟩
          · rw [r2 i (by omega) (fun t ht => by
              rcases (mem_ins _ _ _).1 ht with rfl | ht
              · simp; omega
              · have := n2 t ht; omega), hset i hiL, if_pos (by omega)]
          · rw [hD, if_pos hab, hge L (Nat.le_refl _)]
        · obtain ⟨u, u1, u2, u3, u4, u5⟩ := r3 i (by
            rcases hi with ⟨t, ht, rfl⟩ | hi
            · simp only [List.mem_cons] at ht
              rcases ht with rfl | rfl | ht
              · omega
              · omega
              · exact .inl ⟨t, (mem_ins _ _ _).2 (.inr ht), rfl⟩
            · by_cases e : i = L
              · exact .inl ⟨(a.1 + b.1, L), (mem_ins _ _ _).2 (.inl rfl), e.symm⟩
              · exact .inr (by omega)) (by omega)
          exact ⟨u, u1, u2, by omega, by omega, by rw [hD, if_neg hab, hge u (by omega), u5]⟩
      · rw [hL, hge _ (by omega)]
        rw [show L + (k + 1) - 1 = L + 1 + k - 1 by omega]; exact r4

/-! ### The room that the depths take -/
theorem kraft : ∀ (k : Nat) (S : List Tr) (L B : Nat), S.length = k + 1 → Al S L → (∀ t ∈ S, dpS k S L t.2 ≤ B) → (S.map (fun t => 2 ^ (B - dpS k S L t.2))).sum = 2 ^ B := by
  intro k
  induction k with
  | zero =>
    intro S L B hl _ _
    match S, hl with
    | [t], _ => simp [dpS]
  | succ k ih =>
    intro S L B hl hA hB
    match S, hl with
    | a :: b :: S, hl =>
      obtain ⟨n1, n2, n3, n4⟩ := hA.two
      have hD : ∀ i, dpS (k + 1) (a :: b :: S) L i = if i = a.2 ∨ i = b.2 then dpS k (ins (a.1 + b.1, L) S) (L + 1) L + 1 else dpS k (ins (a.1 + b.1, L) S) (L + 1) i := fun i => dpS_step k a b S L i
      have hr := ih (ins (a.1 + b.1, L) S) (L + 1) B (by rw [length_ins]; simpa using hl) hA.step
      generalize dpS k (ins (a.1 + b.1, L) S) (L + 1) = D1 at *
      generalize dpS (k + 1) (a :: b :: S) L = D at *
      have ha := hB a (by simp)
      rw [hD, if_pos (.inl rfl)] at ha
      have hin : ∀ t ∈ S, D t.2 = D1 t.2 := fun t ht => by rw [hD, if_neg (by have := n2 t ht; omega)]
      have hr' := hr (fun t ht => by
        rcases (mem_ins _ _ _).1 ht with rfl | ht
        · simp; omega
        · rw [← hin t ht]; exact hB t (by simp [ht]))
      rw [sum_ins] at hr'
      simp only [List.map_cons, List.sum_cons]
      rw [hD a.2, if_pos (.inl rfl), hD b.2, if_pos (.inr rfl), List.map_congr_left (fun t ht => by rw [hin t ht])]
      have e : 2 ^ (B - (D1 L + 1)) + 2 ^ (B - (D1 L + 1)) = 2 ^ (B - D1 L) := by
        rw [show B - D1 L = B - (D1 L + 1) + 1 by omega, Nat.pow_succ]; omega
      simp only at hr'
      omega

/-! ### Trees of like weights -/
def Flat (S : List Tr) : Prop := ∀ x ∈ S, ∀ y ∈ S, x.1 ≤ 2 * y.1
theorem flat_deep : ∀ (n : Nat) (S : List Tr) (L : Nat), S.length = n + 1 → Al S L → Flat S → ∀ k r, n + 1 = 2 ^ k + r → r < 2 ^ k → ∀ q (hq : q < S.length), dpS n S L S[q].2 = if q < 2 * r then k + 1 else k := by
  intro n
  induction n with
  | zero =>
    intro S L hl hA hF k r h1 h2 q hq
    match S, hl with
    | [t], _ =>
      have hk : k = 0 := by
        cases k with
        | zero => rfl
        | succ k => have : 2 ^ k > 0 := Nat.pow_pos (by decide); rw [Nat.pow_succ] at h1; omega
      subst hk
      have hr : r = 0 := by simp at h2; omega
      subst hr
      simp [dpS]
  | succ n ih =>
    intro S L hl hA hF k r h1 h2 q hq
    match S, hl with
    | a :: b :: S, hl =>
      obtain ⟨n1, n2, n3, n4⟩ := hA.two
      have hs := List.pairwise_cons.1 hA.srt
      have hs2 := List.pairwise_cons.1 hs.2
      have hab : a.1 ≤ b.1 := by have := ltb_true.1 (hs.1 b (by simp)); omega
      have hlast : ins (a.1 + b.1, L) S = S ++ [(a.1 + b.1, L)] := ins_last _ _ (fun x hx => by
        have h3 := hF x (by simp [hx]) a (by simp)
        have h4 := hA.lt x (by simp [hx])
        rw [ltb_false]; simp; omega)
      have hD : ∀ i, dpS (n + 1) (a :: b :: S) L i = if i = a.2 ∨ i = b.2 then dpS n (ins (a.1 + b.1, L) S) (L + 1) L + 1 else dpS n (ins (a.1 + b.1, L) S) (L + 1) i := fun i => dpS_step n a b S L i
      have hl' : S.length = n := by simpa using hl
      have hF1 : Flat (ins (a.1 + b.1, L) S) := fun x hx y hy => by
        rcases (mem_ins _ _ _).1 hx with rfl | hx <;> rcases (mem_ins _ _ _).1 hy with rfl | hy
        · simp; omega
        · have := ltb_true.1 (hs2.1 y hy); simp; omega
        · have := hF x (by simp [hx]) a (by simp); simp; omega
        · exact hF x (by simp [hx]) y (by simp [hy])
      have hi := ih (ins (a.1 + b.1, L) S) (L + 1) (by rw [length_ins, hl']) hA.step hF1
      have hall : ∀ k1 r1, n + 1 = 2 ^ k1 + r1 → r1 < 2 ^ k1 → (dpS n (ins (a.1 + b.1, L) S) (L + 1) L = if n < 2 * r1 then k1 + 1 else k1) ∧ ∀ p (hp : p < S.length), dpS n (ins (a.1 + b.1, L) S) (L + 1) S[p].2 = if p < 2 * r1 then k1 + 1 else k1 := by
        intro k1 r1 e1 e2
        have hi' := hi k1 r1 e1 e2
        rw [hlast] at hi' ⊢
        refine ⟨?_, fun p hp => ?_⟩
        · have := hi' n (by simp [hl'])
          rw [List.getElem_append_right (by omega)] at this
          simpa using this
        · have := hi' p (by simp; omega)
          rw [List.getElem_append_left hp] at this
          exact this
      generalize dpS n (ins (a.1 + b.1, L) S) (L + 1) = D1 at *
      generalize dpS (n + 1) (a :: b :: S) L = D at *
      have key : ∀ v, D1 L + 1 = v → (∀ p (hp : p < S.length), D1 S[p].2 = if p + 2 < 2 * r then k + 1 else k) → ((if 0 < 2 * r then k + 1 else k) = v) → ((if 1 < 2 * r then k + 1 else k) = v) → D ((a :: b :: S)[q]).2 = if q < 2 * r then k + 1 else k := by
        intro v hv hp hv0 hv1
        match q, hq with
        | 0, _ => rw [List.getElem_cons_zero, hD, if_pos (.inl rfl), hv, hv0]
        | 1, _ => rw [List.getElem_cons_succ, List.getElem_cons_zero, hD, if_pos (.inr rfl), hv, hv1]
        | q + 2, hq =>
          have hq' : q < S.length := by simpa using hq
          rw [List.getElem_cons_succ, List.getElem_cons_succ, hD, if_neg (by have := n2 S[q] (List.getElem_mem hq'); omega), hp q hq']
      by_cases hr : r = 0
      · subst hr
        cases k with
        | zero => simp at h1
        | succ k =>
          rw [Nat.pow_succ] at h1 h2
          obtain ⟨c1, c2⟩ := hall k (2 ^ k - 1) (by omega) (by omega)
          rw [if_neg (by omega)] at c1
          refine key (k + 1) (by rw [c1]) (fun p hp => ?_) (by simp) (by simp)
          rw [c2 p hp, if_pos (by omega)]; simp
      · obtain ⟨c1, c2⟩ := hall k (r - 1) (by omega) (by omega)
        rw [if_neg (by omega)] at c1
        refine key (k + 1) (by rw [c1]) (fun p hp => ?_) (by rw [if_pos (by omega)]) (by rw [if_pos (by omega)])
        rw [c2 p hp]
        by_cases e : p < 2 * (r - 1)
        · rw [if_pos e, if_pos (by omega)]
        · rw [if_neg e, if_neg (by omega)]
/-- No tree of like weights stands deeper than it must. -/
theorem flat_le (n : Nat) (S : List Tr) (L : Nat) (hl : S.length = n + 1) (hA : Al S L) (hF : Flat S) (B : Nat) (hB : n + 1 ≤ 2 ^ B) : ∀ t ∈ S, dpS n S L t.2 ≤ B := by
  intro t ht
  obtain ⟨q, hq, rfl⟩ := List.getElem_of_mem ht
  obtain ⟨k, r, e1, e2⟩ : ∃ k r, n + 1 = 2 ^ k + r ∧ r < 2 ^ k := by
    refine ⟨Nat.log2 (n + 1), n + 1 - 2 ^ Nat.log2 (n + 1), ?_, ?_⟩
    · have := Nat.log2_self_le (n := n + 1) (by omega); omega
    · have := Nat.lt_log2_self (n := n + 1)
      rw [Nat.pow_succ] at this
      have h2 := Nat.log2_self_le (n := n + 1) (by omega)
      omega
  rw [flat_deep n S L hl hA hF k r e1 e2 q hq]
  have hk : k ≤ B := (Nat.pow_le_pow_iff_right (a := 2) (by decide)).1 (by omega)
  split
  · have : k ≠ B := fun e => by subst e; omega
    omega
  · exact hk

end Go.Proofs.YtebjooebdehlnaaGreat.Lm

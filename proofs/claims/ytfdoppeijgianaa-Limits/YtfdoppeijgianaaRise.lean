/-
  A heap of trees: rising, sinking.
-/
import Derived.Test.YtfdoppeijgianaaForest
namespace Go.Proofs.Ytfdoppeijgianaa
open Go.RowKit
set_option linter.unusedVariables false
set_option linter.unusedSimpArgs false

set_option maxHeartbeats 4000000 in
set_option maxRecDepth 1000000 in
theorem up_ok (p g n cap j : Nat) (f : Nat → Tr) (w : World) (h : Fo w p g n cap f) (hj : j < n) (hn : n ≤ 1000000) (hu : Up j n f) :
    Calls Try.prog 37 #[ifV p, .int .i64 (j : Int)] w fun e w' => e = .returned (.tuple #[]) ∧ ∃ f', Fo w' p g n cap f' ∧ Hp 0 n f' ∧ Mix n f f' ∧ Keeps (fun b => b = g) w w' := by
  have HS : Hid (∃ f', Fo w p g n cap f' ∧ Up j n f' ∧ Mix n f f' ∧ Keeps (fun b => b = g) w w) := ⟨f, h, hu, Mix.refl _ _, Keeps.refl _ _⟩
  clear h hu
  unfold ifV
  go_enter Try.func37, Try.ntmps37
  go_wp2
  go_loopw [1] (fun s1 w' => ∃ j : Nat, j < n ∧ s1 = .int .i64 (j : Int) ∧ Hid (∃ f', Fo w' p g n cap f' ∧ Up j n f' ∧ Mix n f f' ∧ Keeps (fun b => b = g) w w')) (fun s1 w' => (intOf s1).toNat)
  case atStart => exact ⟨j, hj, rfl, HS⟩
  case round =>
    clear HS hj
    obtain ⟨j, hj, rfl, HS⟩ := hrel
    by_cases h0 : j = 0
    · subst h0
      obtain ⟨f', h1, h2, h3, h4⟩ := HS.out
      have HE : Hid (∃ f', Fo wr p g n cap f' ∧ Hp 0 n f' ∧ Mix n f f' ∧ Keeps (fun b => b = g) w wr) := ⟨f', h1, h2.zero, h3, h4⟩
      clear HS h1 h2 h3 h4
      go_wp2
      go_end0
      exact ⟨rfl, HE.out⟩
    · obtain ⟨i, hi⟩ : ∃ i, (j - 1) / 2 = i := ⟨_, rfl⟩
      have hij : i < j := by omega
      have ht : ((j : Int) - 1).tdiv 2 = (i : Int) := by
        rw [Int.tdiv_eq_ediv_of_nonneg (by omega)]; omega
      have hne : ((i : Int) == (j : Int)) = false := by simp; omega
      obtain ⟨f', h1, h2, h3, h4⟩ := HS.out
      have HF : Hid (Fo wr p g n cap f' ∧ Up j n f' ∧ Mix n f f' ∧ Keeps (fun b => b = g) w wr) := ⟨h1, h2, h3, h4⟩
      have hv := h1.var
      have hm := method_less wr p _ hv
      cases hb : ltb (f' j) (f' i) with
      | false =>
        have HL : Hid (Calls Try.prog 55 #[.slice (some ⟨g, 0, none⟩) n cap, .int .i64 (j : Int), .int .i64 (i : Int)] wr fun e w' => e = .returned (.bool false) ∧ Keeps (fun _ => False) wr w') := by rw [← hb]; exact less_ok g n cap j i f' wr h1.2.1 hj (by omega)
        have HE : Hid (∀ w1, Keeps (fun _ => False) wr w1 → ∃ f', Fo w1 p g n cap f' ∧ Hp 0 n f' ∧ Mix n f f' ∧ Keeps (fun b => b = g) w w1) := fun w1 hk => ⟨f', h1.keptF hk, h2.stop (by rw [hi]; exact hb), h3, h4.trans hk (fun _ _ h => h.elim)⟩
        clear HS h1 h2 h3 h4 hb
        go_wp2_with (go_at_call 55; refine HL.out.mono ?_; rintro e w1 ⟨rfl, hK1⟩; have HK1 : Hid (Keeps (fun _ => False) wr w1) := hK1; clear hK1)
        go_end0
        exact ⟨rfl, HE.out _ HK1.out⟩
      | true =>
        have HL : Hid (Calls Try.prog 55 #[.slice (some ⟨g, 0, none⟩) n cap, .int .i64 (j : Int), .int .i64 (i : Int)] wr fun e w' => e = .returned (.bool true) ∧ Keeps (fun _ => False) wr w') := by rw [← hb]; exact less_ok g n cap j i f' wr h1.2.1 hj (by omega)
        have HC : Hid (∀ w1, Keeps (fun _ => False) wr w1 → (w1.cell? ⟨p, 0, none⟩ = some (.slice (some ⟨g, 0, none⟩) n cap)) ∧ Calls Try.prog 56 #[.slice (some ⟨g, 0, none⟩) n cap, .int .i64 (i : Int), .int .i64 (j : Int)] w1 fun e w2 => e = .returned (.tuple #[]) ∧ ∃ f', Fo w2 p g n cap f' ∧ Up i n f' ∧ Mix n f f' ∧ Keeps (fun b => b = g) w w2) := fun w1 hk => ⟨(h1.keptF hk).var, (swap_ok g n cap i j f' w1 (h1.keptF hk).2.1 (by omega) hj).mono (by
            rintro e w2 ⟨rfl, hs, hk2⟩
            have hb' := hb
            rw [← hi] at hb'
            refine ⟨rfl, swp f' i j, ⟨(hk2.block p (lt_of_heap (h1.keptF hk).1) h1.2.2).trans (h1.keptF hk).1, hs, h1.2.2⟩, ?_, h3.trans (Mix.swp n f' i j (by omega) hj), (h4.trans hk (fun _ _ h => h.elim)).trans hk2 (fun _ _ h => h)⟩
            have := h2.step (by omega) hj hb'
            rwa [hi] at this)⟩
        clear HS h1 h2 h3 h4 hb
        go_wp2_with (first
          | (go_at_call 55; refine HL.out.mono ?_; rintro e w1 ⟨rfl, hK1⟩; have hm1 := method_swap w1 p _ (HC.out w1 hK1).1; have HK1 : Hid (Keeps (fun _ => False) wr w1) := hK1; clear hK1)
          | (go_at_call 56; refine (HC.out _ HK1.out).2.mono ?_; rintro e w2 ⟨rfl, hK2⟩; have HK2 : Hid (∃ f', Fo w2 p g n cap f' ∧ Up i n f' ∧ Mix n f f' ∧ Keeps (fun b => b = g) w w2) := hK2; clear hK2))
        go_roundw
        case rel => exact ⟨i, by omega, rfl, HK2.out⟩
        case measure => simp [intOf]; omega

end Go.Proofs.Ytfdoppeijgianaa

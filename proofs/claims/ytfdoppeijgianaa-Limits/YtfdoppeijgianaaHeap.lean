/-
  A heap of trees: made, one taken, one laid.
-/
import Derived.Test.YtfdoppeijgianaaRise
import Derived.Test.YtfdoppeijgianaaSink
import Derived.Test.YtfdoppeijgianaaEnds
namespace Go.Proofs.Ytfdoppeijgianaa
open Go.RowKit
set_option linter.unusedVariables false
set_option linter.unusedSimpArgs false

set_option maxHeartbeats 4000000 in
set_option maxRecDepth 1000000 in
theorem init_ok (p g n cap : Nat) (f : Nat → Tr) (w : World) (h : Fo w p g n cap f) (hn : n ≤ 1000000) :
    Calls Try.prog 32 #[ifV p] w fun e w' => e = .returned (.tuple #[]) ∧ ∃ f', Fo w' p g n cap f' ∧ Hp 0 n f' ∧ Mix n f f' ∧ Keeps (fun b => b = g) w w' := by
  have hm := method_len w p _ h.var
  have HS : Hid (∃ f', Fo w p g n cap f' ∧ Hp (n / 2) n f' ∧ Mix n f f' ∧ Keeps (fun b => b = g) w w) := ⟨f, h, Hp.half n f, Mix.refl _ _, Keeps.refl _ _⟩
  obtain ⟨k, hk⟩ : ∃ k, n / 2 = k := ⟨_, rfl⟩
  rw [hk] at HS
  have hkz : (n : Int).tdiv 2 = (k : Int) := by rw [Int.tdiv_eq_ediv_of_nonneg (by omega)]; omega
  have hk1 : k ≤ 1000000 := by omega
  clear h hk
  unfold ifV
  go_enter Try.func32, Try.ntmps32
  go_wp2_with (go_at_call 33; refine (len_ok _ n cap w).mono ?_; rintro e w' ⟨rfl, hw⟩; obtain rfl := hw.symm; clear hw)
  clear hm
  go_loopw [3] (fun s3 w' => ∃ i : Nat, i ≤ k ∧ s3 = .int .i64 ((i : Int) - 1) ∧ Hid (∃ f', Fo w' p g n cap f' ∧ Hp i n f' ∧ Mix n f f' ∧ Keeps (fun b => b = g) w w')) (fun s3 w' => (intOf s3 + 1).toNat)
  case atStart => exact ⟨k, by omega, rfl, HS⟩
  case round =>
    clear HS
    obtain ⟨i, hi, rfl, HS⟩ := hrel
    by_cases h0 : i = 0
    · subst h0
      go_wp2
      go_end0
      exact ⟨rfl, HS.out⟩
    · obtain ⟨j, rfl⟩ : ∃ j, i = j + 1 := ⟨i - 1, by omega⟩
      have hj : ((j + 1 : Nat) : Int) - 1 = (j : Int) := by omega
      rw [hj]
      clear hj h0
      obtain ⟨f', h1, h2, h3, h4⟩ := HS.out
      have HC : Hid (Calls Try.prog 36 #[.iface 56 (.pointer (some ⟨p, 0, none⟩)), .int .i64 (j : Int), .int .i64 (n : Int)] wr fun e w' => (∃ b, e = .returned (.bool b)) ∧ ∃ f', Fo w' p g n cap f' ∧ Hp j n f' ∧ Mix n f f' ∧ Keeps (fun b => b = g) w w') := (down_ok p g n cap j n f' wr h1 (by omega) hn (by omega) h2).mono (by
        rintro e w' ⟨he, f2, g1, g2, g3, g4⟩
        exact ⟨he, f2, g1, g2, h3.trans g3, h4.trans g4 (fun _ _ h => h)⟩)
      clear HS h1 h2 h3 h4
      go_wp2_with (go_at_call 36; refine HC.out.mono ?_; rintro e w1 ⟨⟨b, rfl⟩, hK1⟩; have HK1 : Hid (∃ f', Fo w1 p g n cap f' ∧ Hp j n f' ∧ Mix n f f' ∧ Keeps (fun b => b = g) w w1) := hK1; clear hK1)
      go_roundw
      case rel => exact ⟨j, by omega, by push_cast; rfl, HK1.out⟩
      case measure => first | (simp [intOf]; done) | (simp [intOf]; omega)

set_option maxHeartbeats 4000000 in
set_option maxRecDepth 1000000 in
theorem pop_ok (p g n cap : Nat) (f : Nat → Tr) (S : List Tr) (w : World) (h : Fo w p g (n + 1) cap f) (hn : n + 1 ≤ 1000000) (hp : Hp 0 (n + 1) f) (hr : Rep (n + 1) f S) :
    Calls Try.prog 34 #[ifV p] w fun e w' => ∃ t S' f', S = t :: S' ∧ e = .returned (trV t) ∧ Fo w' p g n cap f' ∧ Hp 0 n f' ∧ Rep n f' S' ∧ Keeps (fun b => b = g ∨ b = p) w w' := by
  have hm := method_len w p _ h.var
  have hm2 := method_swap w p _ h.var
  obtain ⟨S', hS, hr'⟩ := hr.pop hp
  have HS : Hid (S = f 0 :: S') := hS
  have HC1 : Hid (Calls Try.prog 56 #[.slice (some ⟨g, 0, none⟩) (n + 1) cap, .int .i64 0, .int .i64 (n : Int)] w fun e w' => e = .returned (.tuple #[]) ∧ Fo w' p g (n + 1) cap (swp f 0 n) ∧ Keeps (fun b => b = g) w w') := (swap_ok g (n + 1) cap 0 n f w h.2.1 (by omega) (by omega)).mono (by
    rintro e w2 ⟨rfl, hs, hk2⟩
    exact ⟨rfl, ⟨(hk2.block p (lt_of_heap h.1) h.2.2).trans h.1, hs, h.2.2⟩, hk2⟩)
  have HC2 : Hid (∀ w1, Fo w1 p g (n + 1) cap (swp f 0 n) → Calls Try.prog 36 #[.iface 56 (.pointer (some ⟨p, 0, none⟩)), .int .i64 0, .int .i64 (n : Int)] w1 fun e w' => (∃ b, e = .returned (.bool b)) ∧ ∃ f', Fo w' p g (n + 1) cap f' ∧ (Hp 0 n f' ∧ Rep n f' S' ∧ f' n = f 0) ∧ Keeps (fun b => b = g) w1 w') := fun w1 h1 => (down_ok p g (n + 1) cap 0 n (swp f 0 n) w1 h1 (by omega) hn (by omega) (hp_pop hp)).mono (by
    rintro e w' ⟨he, f2, g1, g2, g3, g4⟩
    refine ⟨he, f2, g1, ⟨g2, g3.rep n S' (Nat.le_refl _) hr', ?_⟩, g4⟩
    rw [g3.far n (Nat.le_refl _)]; simp [swp])
  have HC3 : Hid (∀ w1 f', Fo w1 p g (n + 1) cap f' → Calls Try.prog 57 #[.pointer (some ⟨p, 0, none⟩)] w1 fun e w' => e = .returned (trV (f' n)) ∧ Fo w' p g n cap f' ∧ Keeps (fun b => b = p) w1 w') := fun w1 f' h1 => last_ok p g n cap f' w1 h1 (by omega)
  clear h hp hr hr' hS
  unfold ifV
  go_enter Try.func34, Try.ntmps34
  go_wp2_with (first
    | (go_at_call 33; refine (len_ok _ (n + 1) cap w).mono ?_; rintro e w' ⟨rfl, hw⟩; obtain rfl := hw.symm; clear hw)
    | (go_at_call 56; refine HC1.out.mono ?_; rintro e w1 ⟨rfl, hF1, hK1⟩; have HF1 : Hid (Fo w1 p g (n + 1) cap (swp f 0 n) ∧ Keeps (fun b => b = g) w w1) := ⟨hF1, hK1⟩; clear hF1 hK1)
    | (go_at_call 36; refine (HC2.out w1 HF1.out.1).mono ?_; rintro e w2 ⟨⟨b, rfl⟩, f2, hF2, hB2, hK2⟩; have hm3 := method_pop w2 p; have HF2 : Hid (Fo w2 p g (n + 1) cap f2 ∧ (Hp 0 n f2 ∧ Rep n f2 S' ∧ f2 n = f 0) ∧ Keeps (fun b => b = g) w w2) := ⟨hF2, hB2, HF1.out.2.trans hK2 (fun _ _ h => h)⟩; clear hF2 hB2 hK2)
    | (go_at_call 57; refine (HC3.out w2 f2 HF2.out.1).mono ?_; rintro e w3 ⟨rfl, hF3, hK3⟩; have HF3 : Hid (Fo w3 p g n cap f2 ∧ Keeps (fun b => b = p) w2 w3) := ⟨hF3, hK3⟩; clear hF3 hK3))
  go_ret
  obtain ⟨b1, b2, b3⟩ := HF2.out.2.1
  exact ⟨f 0, S', f2, HS.out, by rw [b3]; rfl, HF3.out.1, b1, b2, (HF2.out.2.2.mono (fun _ _ h => .inl h)).trans HF3.out.2 (fun _ _ h => .inr h)⟩

set_option maxHeartbeats 4000000 in
set_option maxRecDepth 1000000 in
theorem push_ok (p g n cap : Nat) (f : Nat → Tr) (S : List Tr) (t : Tr) (w : World) (h : Fo w p g n cap f) (hn : n + 1 ≤ 1000000) (hc : n < cap) (hp : Hp 0 n f) (hr : Rep n f S) (ht : t ∉ S) :
    Calls Try.prog 35 #[ifV p, trV t] w fun e w' => e = .returned (.tuple #[]) ∧ ∃ f', Fo w' p g (n + 1) cap f' ∧ Hp 0 (n + 1) f' ∧ Rep (n + 1) f' (ins t S) ∧ Keeps (fun b => b = g ∨ b = p) w w' := by
  have hm := method_push w p
  obtain ⟨f1, hf1⟩ : ∃ f1 : Nat → Tr, f1 = fun j => if j = n then t else f j := ⟨_, rfl⟩
  have e1 : ∀ j, j < n → f1 j = f j := fun j hj => by rw [hf1]; simp; omega
  have e2 : f1 n = t := by rw [hf1]; simp
  have HC1 : Hid (Calls Try.prog 58 #[.pointer (some ⟨p, 0, none⟩), trV t] w fun e w' => e = .returned (.tuple #[]) ∧ Fo w' p g (n + 1) cap f1 ∧ Keeps (fun b => b = p ∨ b = g) w w') := by rw [hf1]; exact lay_ok p g n cap f t w h (by omega) hc
  have HC2 : Hid (∀ w1, Fo w1 p g (n + 1) cap f1 → Calls Try.prog 37 #[.iface 56 (.pointer (some ⟨p, 0, none⟩)), .int .i64 (n : Int)] w1 fun e w' => e = .returned (.tuple #[]) ∧ ∃ f', Fo w' p g (n + 1) cap f' ∧ (Hp 0 (n + 1) f' ∧ Rep (n + 1) f' (ins t S)) ∧ Keeps (fun b => b = g) w1 w') := fun w1 h1 => (up_ok p g (n + 1) cap n f1 w1 h1 (by omega) hn (Up.start hp e1)).mono (by
    rintro e w' ⟨he, f2, g1, g2, g3, g4⟩
    exact ⟨he, f2, g1, ⟨g2, g3.rep (n + 1) _ (Nat.le_refl _) (hr.push t ht e1 e2)⟩, g4⟩)
  clear h hp hr ht e1 e2 hf1
  generalize trV t = tv at *
  unfold ifV
  go_enter Try.func35, Try.ntmps35
  go_wp2_with (first
    | (go_at_call 58; refine HC1.out.mono ?_; rintro e w1 ⟨rfl, hF1, hK1⟩; have hm1 := method_len w1 p _ hF1.var; have HF1 : Hid (Fo w1 p g (n + 1) cap f1 ∧ Keeps (fun b => b = p ∨ b = g) w w1) := ⟨hF1, hK1⟩; clear hF1 hK1)
    | (go_at_call 33; refine (len_ok _ (n + 1) cap w1).mono ?_; rintro e w' ⟨rfl, hw⟩; obtain rfl := hw.symm; clear hw)
    | (go_at_call 37; refine (HC2.out w1 HF1.out.1).mono ?_; rintro e w2 ⟨rfl, f2, hF2, hB2, hK2⟩; have HF2 : Hid (Fo w2 p g (n + 1) cap f2 ∧ (Hp 0 (n + 1) f2 ∧ Rep (n + 1) f2 (ins t S)) ∧ Keeps (fun b => b = g) w1 w2) := ⟨hF2, hB2, hK2⟩; clear hF2 hB2 hK2))
  go_end0
  exact ⟨rfl, f2, HF2.out.1, HF2.out.2.1.1, HF2.out.2.1.2, (HF1.out.2.mono (fun _ _ h => h.elim .inr .inl)).trans HF2.out.2.2 (fun _ _ h => .inl h)⟩

end Go.Proofs.Ytfdoppeijgianaa

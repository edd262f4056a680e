/-
  The statement that any counts come out as the document says: its walk.
-/
import Derived.Test.YtfdoppeijgianaaLend
import Derived.Test.YtfdoppeijgianaaFull
import Derived.Test.YtfdoppeijgianaaRlen
namespace Go.Proofs.Ytfdoppeijgianaa
open Go.RowKit
set_option linter.unusedVariables false
set_option linter.unusedSimpArgs false

theorem rlen_bad (a : Option Addr) (ys : List Int) (cap : Nat) (most : Int) (w : World) (hR : Row w a ys) (hl : ys.length ≤ 9223372036854775807) (hf : fitL ys most = false) :
    Calls Try.prog 10 #[.slice a ys.length cap, .int .i64 most] w fun e w' => e = .returned (.tuple #[.slice none 0 0, .int .i64 400]) ∧ Keeps (fun _ => False) w w' := by
  by_cases h : 2 ≤ ys.length ∧ ys.length ≤ 288 ∧ 1 ≤ most ∧ most ≤ 15
  · refine (rlen_ok a ys cap most w hR h.1 h.2.1 h.2.2.1 h.2.2.2).mono ?_
    rintro e w' (⟨_, h2⟩ | ⟨h2, _⟩)
    · exact h2
    · rw [hf] at h2; cases h2
  · refine (rlen_form a ys.length cap most w hl (by omega)).mono ?_
    rintro e w' ⟨rfl, rfl⟩
    exact ⟨rfl, Keeps.refl _ _⟩
theorem rlen_good (a : Option Addr) (ys : List Int) (cap : Nat) (most : Int) (w : World) (hR : Row w a ys) (hf : fitL ys most = true) :
    Calls Try.prog 10 #[.slice a ys.length cap, .int .i64 most] w fun e w' => ∃ g, e = .returned (.tuple #[.slice (some ⟨g, 0, none⟩) ys.length ys.length, .int .i64 0]) ∧ Own w' g ys.length (ints (resL ys most)) ∧ Keeps (fun _ => False) w w' := by
  have hm : mayL ys = true ∧ 1 ≤ most ∧ most ≤ 15 ∧ (usedL 0 (ownL ys)).length ≤ 2 ^ most.toNat := by
    simp only [fitL, Bool.and_eq_true, decide_eq_true_eq] at hf; exact hf
  have hl := mayL_is hm.1
  refine (rlen_ok a ys cap most w hR hl.1 hl.2.1 hm.2.1 hm.2.2.1).mono ?_
  rintro e w' (⟨h2, _⟩ | ⟨_, h2⟩)
  · rw [hf] at h2; cases h2
  · exact h2
theorem IsRow.rowC {w : World} {a : Option Addr} {len cap : Nat} {zs : List Int} (h : IsRow .i64 w a len cap zs) :
    ∃ ys : List Int, ys.length = len ∧ Row w a ys ∧ ys.length ≤ maxLen ∧ Came a ys.length cap := by
  obtain ⟨ys, h1, h2, h3, _⟩ := h.row
  refine ⟨ys, h1, h2, h3, ?_⟩
  rcases h with ⟨rfl, rfl, rfl, _⟩ | ⟨x, rfl, _⟩
  · exact .inl ⟨rfl, h1, rfl⟩
  · exact .inr ⟨x, rfl⟩

set_option maxHeartbeats 4000000 in
set_option maxRecDepth 1000000 in
theorem limits_walk (a : Option Addr) (len cap : Nat) (zs : List Int) (most : Int) (w : World) (h : IsRow .i64 w a len cap zs) (hsz : len * 8 + 4096 ≤ 140737488355328) (hy : (Lit.int .i64 most).wf = true) :
    Calls Try.prog 3 #[.slice a len cap, .int .i64 most] w fun e w' => e = .returned (.bool true) ∧ Below w.heap.size w w' := by
  obtain ⟨ys, rfl, hR, hl, hA⟩ := h.rowC
  clear h
  have HLd : Hid (Calls Try.prog 8 #[.slice a ys.length cap] w fun e w' => ∃ g c, e = .returned (.slice (some ⟨g, 0, none⟩) ys.length c) ∧ Lent w' g ys c ∧ Keeps (fun _ => False) w w' ∧ w.heap.size ≤ g) := lend_ok a ys cap w hR hA hsz
  have HR : Hid (Row w a ys) := hR
  have hl2 : ys.length ≤ 1125899906842624 := by omega
  clear hR hA hl
  have HKp : Hid (∀ w' g c, Lent w' g ys c → Keeps (fun _ => False) w w' → Calls Try.prog 14 #[.slice (some ⟨g, 0, none⟩) ys.length c, .slice a ys.length cap] w' fun e w'' => e = .returned (.bool true) ∧ Keeps (fun _ => False) w' w'') := fun w' g c h1 h2 => kept_yes g a ys c cap w' h1 (HR.out.keptF h2) hl2
  cases hf : fitL ys most with
  | false =>
    have HL1 : Hid (∀ w' g c, Lent w' g ys c → Calls Try.prog 9 #[.slice (some ⟨g, 0, none⟩) ys.length c, .int .i64 most] w' fun e w'' => e = .returned (.tuple #[.slice none 0 0, .int .i64 400]) ∧ Keeps (fun _ => False) w' w'') := fun w' g c h1 => lengths_bad _ ys c most w' h1.row (by omega) hf
    have HL2 : Hid (∀ w', Keeps (fun _ => False) w w' → Calls Try.prog 10 #[.slice a ys.length cap, .int .i64 most] w' fun e w'' => e = .returned (.tuple #[.slice none 0 0, .int .i64 400]) ∧ Keeps (fun _ => False) w' w'') := fun w' hk => rlen_bad a ys cap most w' (HR.out.keptF hk) (by omega) hf
    have HSm : Hid (∀ w', Calls Try.prog 11 #[.slice none 0 0, .slice none 0 0] w' fun e w'' => e = .returned (.bool true) ∧ Keeps (fun _ => False) w' w'') := fun w' => sameInts_yes none none [] 0 0 w' (.inl rfl) (.inl rfl) (by simp)
    clear HR hf
    generalize hn : ys.length = n at *
    go_enter Try.func3, Try.ntmps3
    go_wp2_with (first
      | (go_at_call 8; refine HLd.out.mono ?_; rintro e w1 ⟨g, c, rfl, h1, h2, h3⟩; have H1 : Hid (Lent w1 g ys c ∧ Keeps (fun _ => False) w w1 ∧ w.heap.size ≤ g) := ⟨h1, h2, h3⟩; clear h1 h2 h3)
      | (go_at_call 9; refine (HL1.out w1 g c H1.out.1).mono ?_; rintro e w2 ⟨rfl, h2⟩; have H2 : Hid (Lent w2 g ys c ∧ Keeps (fun _ => False) w w2) := ⟨H1.out.1.kept h2 (fun h => h), H1.out.2.1.trans h2 (fun _ _ h => h)⟩; clear h2)
      | (go_at_call 10; refine (HL2.out w2 H2.out.2).mono ?_; rintro e w3 ⟨rfl, h2⟩; have H3 : Hid (Lent w3 g ys c ∧ Keeps (fun _ => False) w w3) := ⟨H2.out.1.kept h2 (fun h => h), H2.out.2.trans h2 (fun _ _ h => h)⟩; clear h2)
      | (go_at_call 11; refine (HSm.out w3).mono ?_; rintro e w4 ⟨rfl, h2⟩; have H4 : Hid (Lent w4 g ys c ∧ Keeps (fun _ => False) w w4) := ⟨H3.out.1.kept h2 (fun h => h), H3.out.2.trans h2 (fun _ _ h => h)⟩; clear h2)
      | (go_at_call 12; refine (num_any _ _).mono ?_; rintro e w' ⟨rfl, hw⟩; obtain rfl := hw.symm; clear hw)
      | (go_at_call 13; refine (spoil_none 0 w4).mono ?_; rintro e w5 ⟨rfl, h2⟩; have H5 : Hid (Lent w5 g ys c ∧ Keeps (fun _ => False) w w5) := ⟨H4.out.1.kept h2 (fun h => h), H4.out.2.trans h2 (fun _ _ h => h)⟩; clear h2)
      | (go_at_call 14; refine (HKp.out w5 g c H5.out.1 H5.out.2).mono ?_; rintro e w6 ⟨rfl, h2⟩; have H6 : Hid (Keeps (fun _ => False) w w6) := H5.out.2.trans h2 (fun _ _ h => h); clear h2)
      | (go_at_call 15; refine (awake_ok w6).mono ?_; rintro e w7 ⟨rfl, h2⟩; have H7 : Hid (Keeps (fun _ => False) w w7) := H6.out.trans h2 (fun _ _ h => h); clear h2))
    go_ret
    exact ⟨rfl, H7.out.below _ (Nat.le_refl _) (fun _ h => h.elim)⟩
  | true =>
    have hrl := (res_all ys most hf).1
    have HL1 : Hid (∀ w' g c, Lent w' g ys c → Calls Try.prog 9 #[.slice (some ⟨g, 0, none⟩) ys.length c, .int .i64 most] w' fun e w'' => ∃ g', e = .returned (.tuple #[.slice (some ⟨g', 0, none⟩) ys.length ys.length, .int .i64 0]) ∧ Own w'' g' ys.length (ints (resL ys most)) ∧ Keeps (fun _ => False) w' w'' ∧ w'.heap.size ≤ g') := fun w' g c h1 => lengths_good _ ys c most w' h1.row hf
    have HL2 : Hid (∀ w', Keeps (fun _ => False) w w' → Calls Try.prog 10 #[.slice a ys.length cap, .int .i64 most] w' fun e w'' => ∃ g', e = .returned (.tuple #[.slice (some ⟨g', 0, none⟩) ys.length ys.length, .int .i64 0]) ∧ Own w'' g' ys.length (ints (resL ys most)) ∧ Keeps (fun _ => False) w' w'') := fun w' hk => rlen_good a ys cap most w' (HR.out.keptF hk) hf
    have HSm : Hid (∀ w' g1 g2, Own w' g1 ys.length (ints (resL ys most)) → Own w' g2 ys.length (ints (resL ys most)) → Calls Try.prog 11 #[.slice (some ⟨g1, 0, none⟩) ys.length ys.length, .slice (some ⟨g2, 0, none⟩) ys.length ys.length] w' fun e w'' => e = .returned (.bool true) ∧ Keeps (fun _ => False) w' w'') := fun w' g1 g2 o1 o2 => by
      have := sameInts_yes _ _ (ints (resL ys most)) ys.length ys.length w' o1.row o2.row (by rw [ints_length, hrl]; omega)
      rw [ints_length, hrl] at this; exact this
    have hsmall : ys.length ≤ 288 := by
      have hm : mayL ys = true := by simp only [fitL, Bool.and_eq_true] at hf; exact hf.1
      exact (mayL_is hm).2.1
    have HSp : Hid (∀ w' g1, Own w' g1 ys.length (ints (resL ys most)) → Calls Try.prog 13 #[.slice (some ⟨g1, 0, none⟩) ys.length ys.length] w' fun e w'' => e = .returned (.tuple #[]) ∧ Keeps (fun b => b = g1) w' w'') := fun w' g1 o1 => by
      have := spoil_ok g1 ys.length _ w' o1 (by rw [ints_length, hrl]; omega)
      rw [ints_length, hrl] at this; exact this
    clear HR hf hrl
    generalize resL ys most = R at *
    generalize hn : ys.length = n at *
    go_enter Try.func3, Try.ntmps3
    go_wp2_with (first
      | (go_at_call 8; refine HLd.out.mono ?_; rintro e w1 ⟨g, c, rfl, h1, h2, h3⟩; have H1 : Hid (Lent w1 g ys c ∧ Keeps (fun _ => False) w w1 ∧ w.heap.size ≤ g) := ⟨h1, h2, h3⟩; clear h1 h2 h3)
      | (go_at_call 9; refine (HL1.out w1 g c H1.out.1).mono ?_; rintro e w2 ⟨g2, rfl, h1, h2, h3⟩; have H2 : Hid (Lent w2 g ys c ∧ Keeps (fun _ => False) w w2 ∧ Own w2 g2 n (ints R) ∧ g ≠ g2 ∧ w.heap.size ≤ g2) := ⟨H1.out.1.kept h2 (fun h => h), H1.out.2.1.trans h2 (fun _ _ h => h), h1, by (have := H1.out.1.1; omega), by (have := H1.out.2.1.size; omega)⟩; clear h1 h2 h3)
      | (go_at_call 10; refine (HL2.out w2 H2.out.2.1).mono ?_; rintro e w3 ⟨g3, rfl, h1, h2⟩; have H3 : Hid (Lent w3 g ys c ∧ Keeps (fun _ => False) w w3 ∧ Own w3 g2 n (ints R) ∧ Own w3 g3 n (ints R)) := ⟨H2.out.1.kept h2 (fun h => h), H2.out.2.1.trans h2 (fun _ _ h => h), H2.out.2.2.1.kept h2 (fun h => h), h1⟩; clear h1 h2)
      | (go_at_call 11; refine (HSm.out w3 g2 g3 H3.out.2.2.1 H3.out.2.2.2).mono ?_; rintro e w4 ⟨rfl, h2⟩; have H4 : Hid (Lent w4 g ys c ∧ Keeps (fun _ => False) w w4 ∧ Own w4 g2 n (ints R)) := ⟨H3.out.1.kept h2 (fun h => h), H3.out.2.1.trans h2 (fun _ _ h => h), H3.out.2.2.1.kept h2 (fun h => h)⟩; clear h2)
      | (go_at_call 12; refine (num_any _ _).mono ?_; rintro e w' ⟨rfl, hw⟩; obtain rfl := hw.symm; clear hw)
      | (go_at_call 13; refine (HSp.out w4 g2 H4.out.2.2).mono ?_; rintro e w5 ⟨rfl, h2⟩; have H5 : Hid (Lent w5 g ys c ∧ Keeps (fun _ => False) w w5) := ⟨H4.out.1.kept h2 H2.out.2.2.2.1, H4.out.2.1.trans h2 (fun i hi h => by (have := H2.out.2.2.2.2; omega))⟩; clear h2)
      | (go_at_call 14; refine (HKp.out w5 g c H5.out.1 H5.out.2).mono ?_; rintro e w6 ⟨rfl, h2⟩; have H6 : Hid (Keeps (fun _ => False) w w6) := H5.out.2.trans h2 (fun _ _ h => h); clear h2)
      | (go_at_call 15; refine (awake_ok w6).mono ?_; rintro e w7 ⟨rfl, h2⟩; have H7 : Hid (Keeps (fun _ => False) w w7) := H6.out.trans h2 (fun _ _ h => h); clear h2))
    go_ret
    exact ⟨rfl, H7.out.below _ (Nat.le_refl _) (fun _ h => h.elim)⟩

end Go.Proofs.Ytfdoppeijgianaa

/-
  The program's Join.
-/
import Derived.Test.YtchleklncbgakaaOrd
import Derived.BigRegion
import Derived.OwnWalk
namespace Go.Proofs.Ytchleklncbgakaa
open Go.RowKit
set_option linter.unusedVariables false
set_option linter.unusedSimpArgs false

set_option maxHeartbeats 1000000 in
set_option maxRecDepth 1000000 in
theorem join_good (b off b' off' : Nat) (ys zs : List Int) (cap cap' : Nat) (w : World) (hR : Row w (some ⟨b, off, none⟩) ys) (hR' : Row w (some ⟨b', off', none⟩) zs) (h1 : mayB ys = true) (h2 : mayB zs = true) :
    Calls Try.prog 10 #[.slice (some ⟨b, off, none⟩) 4 cap, .slice (some ⟨b', off', none⟩) 4 cap'] w fun e w' => ∃ g, e = .returned (.tuple #[.slice (some ⟨g, 0, none⟩) 4 4, .int .i64 0]) ∧ Own w' g 4 (joinL ys zs) ∧ Keeps (fun _ => False) w w' ∧ w.heap.size ≤ g := by
  have l1 := mayB_len h1
  have l2 := mayB_len h2
  have M1 : Hid (Calls Try.prog 16 #[.slice (some ⟨b, off, none⟩) 4 cap] w fun e w' => e = .returned (.bool true) ∧ w' = w) := by
    have := may_ok _ ys cap w hR (by omega); rw [l1, h1] at this; exact this
  have M2 : Hid (Calls Try.prog 16 #[.slice (some ⟨b', off', none⟩) 4 cap'] w fun e w' => e = .returned (.bool true) ∧ w' = w) := by
    have := may_ok _ zs cap' w hR' (by omega); rw [l2, h2] at this; exact this
  obtain ⟨_, _, e1, _, hc⟩ := hR.at (by omega)
  cases e1
  obtain ⟨_, _, e2, _, hc'⟩ := hR'.at (by omega)
  cases e2
  have HC : Hid (∀ w', Keeps (fun _ => False) w w' → ∀ i, i < 4 → w'.cell? ⟨b, off + i, none⟩ = some (.int .i64 (at_ ys i)) ∧ w'.cell? ⟨b', off' + i, none⟩ = some (.int .i64 (at_ zs i))) := fun w' hk i hi => ⟨hc w' hk i (by omega), hc' w' hk i (by omega)⟩
  clear hc hc' hR hR' h1 h2 l1 l2
  go_enter Try.func10, Try.ntmps10
  go_wp2_with (first
    | (go_at_call 16; (fail_if_success (clear H1)); refine M1.out.mono ?_; rintro e w' ⟨rfl, hw⟩; obtain rfl := hw.symm; clear hw; have H1 : Hid True := trivial)
    | (go_at_call 16; refine M2.out.mono ?_; rintro e w' ⟨rfl, hw⟩; obtain rfl := hw.symm; clear hw)
    | (at_make; refine wpList_ints rfl _ _ rfl 4 rfl rfl (by decide) ?_; intro g w1 hO hK hg; have HO : Hid (Own w1 g 4 [0, 0, 0, 0] ∧ Keeps (fun _ => False) w w1 ∧ w.heap.size ≤ g) := ⟨hO, hK, hg⟩; clear hO hK hg))
  go_loopw [7, 8, 20] (fun _ _ s w' => ∃ i : Nat, i ≤ 4 ∧ s = .int .i64 (i : Int) ∧ Hid (∃ xs : List Int, xs.length = 4 ∧ Own w' g 4 xs ∧ Keeps (fun _ => False) w w' ∧ ∀ j, j < i → at_ xs j = max (at_ ys j) (at_ zs j))) (fun _ _ s _ => 4 - (intOf s).toNat)
  case atStart => exact ⟨0, by omega, rfl, [0, 0, 0, 0], rfl, HO.out.1, HO.out.2.1, fun j hj => absurd hj (Nat.not_lt_zero _)⟩
  case round =>
    obtain ⟨i, hi, rfl, HX⟩ := hrel
    by_cases hin : i < 4
    · have hiz : (i : Int) < 4 := by omega
      obtain ⟨xs, xl, xo, xk, xq⟩ := HX.out
      obtain ⟨c1, c2⟩ := HC.out wr xk i hin
      have c3 := xo.cell i (by omega)
      have f3 := xo.free i (by omega)
      have HN : Hid (∀ w', w' = wr.setCell ⟨g, i, none⟩ (.int .i64 (max (at_ ys i) (at_ zs i))) → ∃ xs : List Int, xs.length = 4 ∧ Own w' g 4 xs ∧ Keeps (fun _ => False) w w' ∧ ∀ j, j < i + 1 → at_ xs j = max (at_ ys j) (at_ zs j)) := by
        refine (fun w' hw => ?_ : ∀ w', w' = wr.setCell ⟨g, i, none⟩ (.int .i64 (max (at_ ys i) (at_ zs i))) → ∃ xs : List Int, xs.length = 4 ∧ Own w' g 4 xs ∧ Keeps (fun _ => False) w w' ∧ ∀ j, j < i + 1 → at_ xs j = max (at_ ys j) (at_ zs j))
        subst hw
        refine ⟨xs.set i (max (at_ ys i) (at_ zs i)), by rw [List.length_set]; exact xl, xo.set i _, xk.setCell (fun h => by have := HO.out.2.2; simp at h; omega) _, fun j hj => ?_⟩
        rw [at_set]
        by_cases e : i = j
        · subst e; rw [if_pos ⟨rfl, by omega⟩]
        · rw [if_neg (fun h => e h.1)]; exact xq j (by omega)
      clear HX xq xk xo xl
      generalize at_ ys i = y at *
      generalize at_ zs i = z at *
      generalize at_ xs i = x at *
      go_wp2
      go_roundw
      case rel => exact ⟨i + 1, by omega, by push_cast; rfl, HN.out _ (by have e : max y z = if y < z then z else y := (by rw [Int.max_def]; split <;> split <;> omega); rw [e])⟩
      case measure => simp [intOf]; omega
    · obtain rfl : i = 4 := by omega
      go_wp2
      go_ret2
      obtain ⟨xs, xl, xo, xk, xq⟩ := HX.out
      have : xs = joinL ys zs := at_ext (by rw [xl, joinL_len]) (fun j hj => by rw [joinL_at _ _ _ (by omega)]; exact xq j (by omega))
      subst this
      exact ⟨g, rfl, xo, xk, HO.out.2.2⟩

set_option maxHeartbeats 1000000 in
set_option maxRecDepth 1000000 in
theorem join_bad (a a' : Option Addr) (ys zs : List Int) (cap cap' : Nat) (w : World) (hR : Row w a ys) (hR' : Row w a' zs) (hn : ys.length ≤ 1125899906842624) (hn' : zs.length ≤ 1125899906842624) (hb : bothB ys zs = false) :
    Calls Try.prog 10 #[.slice a ys.length cap, .slice a' zs.length cap'] w fun e w' => e = .returned (.tuple #[.slice none 0 0, .int .i64 1100]) ∧ w' = w := by
  have M1 : Hid (Calls Try.prog 16 #[.slice a ys.length cap] w fun e w' => e = .returned (.bool (mayB ys)) ∧ w' = w) := may_ok a ys cap w hR hn
  have M2 : Hid (Calls Try.prog 16 #[.slice a' zs.length cap'] w fun e w' => e = .returned (.bool (mayB zs)) ∧ w' = w) := may_ok a' zs cap' w hR' hn'
  generalize ys.length = n at *
  generalize zs.length = m at *
  clear hR hR'
  unfold bothB at hb
  cases h1 : mayB ys
  · rw [h1] at M1
    clear hb M2
    go_enter Try.func10, Try.ntmps10
    go_wp2_with (first
      | (go_at_call 16; refine M1.out.mono ?_; rintro e w' ⟨rfl, hw⟩; obtain rfl := hw.symm; clear hw))
    go_ret2
    exact ⟨rfl, rfl⟩
  · have h2 : mayB zs = false := by rw [h1, Bool.true_and] at hb; exact hb
    rw [h1] at M1
    rw [h2] at M2
    clear hb
    go_enter Try.func10, Try.ntmps10
    go_wp2_with (first
      | (go_at_call 16; (fail_if_success (clear H1)); refine M1.out.mono ?_; rintro e w' ⟨rfl, hw⟩; obtain rfl := hw.symm; clear hw; have H1 : Hid True := trivial)
      | (go_at_call 16; refine M2.out.mono ?_; rintro e w' ⟨rfl, hw⟩; obtain rfl := hw.symm; clear hw))
    go_ret2
    exact ⟨rfl, rfl⟩
theorem Own.any {w : World} {g cap base : Nat} {ys : List Int} (h : Own w g cap ys) (hb : base ≤ g) : OwnV w base (.slice (some ⟨g, 0, none⟩) ys.length cap) ys := by
  refine ⟨h.1, .inr ?_⟩
  rcases h.2 with ⟨e, _⟩ | ⟨g', cap', cur, e, _, hr⟩
  · cases e
  · have eg : g = g' := by simp at e; exact e.1
    exact ⟨g', cap', cur, e, by omega, hr⟩
theorem join_ok (a a' : Option Addr) (ys zs : List Int) (cap cap' : Nat) (w : World) (hR : Row w a ys) (hR' : Row w a' zs) (hn : ys.length ≤ 1125899906842624) (hn' : zs.length ≤ 1125899906842624) :
    Calls Try.prog 10 #[.slice a ys.length cap, .slice a' zs.length cap'] w fun e w' => ∃ v, e = .returned (.tuple #[v, .int .i64 (vErr ys zs)]) ∧ OwnV w' w.heap.size v (joinV ys zs) ∧ Keeps (fun _ => False) w w' := by
  cases hb : bothB ys zs
  · refine (join_bad a a' ys zs cap cap' w hR hR' hn hn' hb).mono ?_
    rintro e w' ⟨rfl, rfl⟩
    unfold joinV vErr; rw [hb]
    exact ⟨_, rfl, OwnV.nil _ _, Keeps.refl _ _⟩
  · have h12 : mayB ys = true ∧ mayB zs = true := by simpa [bothB] using hb
    obtain ⟨b, off, rfl⟩ := hR.some4 h12.1
    obtain ⟨b', off', rfl⟩ := hR'.some4 h12.2
    unfold joinV vErr; rw [hb, mayB_len h12.1, mayB_len h12.2]
    refine (join_good b off b' off' ys zs cap cap' w hR hR' h12.1 h12.2).mono ?_
    rintro e w' ⟨g, rfl, ho, hk, hg⟩
    have := ho.any hg
    rw [joinL_len] at this
    exact ⟨_, rfl, this, hk⟩

end Go.Proofs.Ytchleklncbgakaa

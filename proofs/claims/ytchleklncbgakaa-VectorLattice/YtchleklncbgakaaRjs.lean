/-
  The document's Join and Step.
-/
import Derived.Test.YtchleklncbgakaaRmay
import Derived.Deep.RegionLaw
namespace Go.Proofs.Ytchleklncbgakaa
open Go.RowKit
set_option linter.unusedVariables false
set_option linter.unusedSimpArgs false

set_option maxRecDepth 1000000 in
theorem step_one {ops : Array Oper} {op : Oper} {a : Act} {w : World} {K : Act → World → Prop} {Q : Exit → Act → World → Prop} {E : Prop} (hgd : op.guard = none) (s x : Operand) (ho : op.op = .call { callee := .builtin .append, args := #[s, x], argTypes := #[22, 22] }) (hty : op.type = 22)
    (base : Nat) (v : Value) (ys : List Int) (hs : a.eval s = v) (hown : OwnV w base v ys) (b : Nat) (y : Int) (hx : a.eval x = .slice (some ⟨b, 0, none⟩) 1 1) (hR : w.heap[b]? = some (.cells #[.int .i64 y] 3 (0, 0))) (hb : base ≤ w.heap.size) (hn : ys.length ≤ 1000000)
    (h : ∀ v' w', OwnV w' base v' (ys ++ [y]) → w.grownBy w' v.ownBlock → K (a.put op.dst v') w') :
    if Region.wanted op (yielded ops a.tmps) = true then Oper.wp Try.prog op a w K Q else E := by
  have hw : Region.wanted op (yielded ops a.tmps) = true := by simp [Region.wanted, hgd]
  rw [if_pos hw]
  obtain ⟨g, cap, w', hr, h2, h3, h4⟩ := append_one w base v ys hown y b hR hb hn
  unfold Oper.wp execOp
  simp only [ho, hty, resolve, invoke, builtin, Sem.run_bind, Sem.run_pure, Result.andThen_ok, List.map_toArray, List.map_cons, List.map_nil, hs, hx, hr]
  exact h _ w' h2 h3

theorem OwnV.drew {w : World} {base : Nat} {v : Value} {ys : List Int} (h : OwnV w base v ys) : OwnV w.drew base v ys :=
  h.kept ((Keeps.refl (fun _ => False) w).drew) (fun _ _ h => h)
theorem OwnV.alloc {w : World} {base : Nat} {v : Value} {ys : List Int} (h : OwnV w base v ys) (o : Obj) : OwnV (w.alloc o) base v ys :=
  h.kept ((Keeps.refl (fun _ => False) w).alloc o) (fun _ _ h => h)
theorem OwnV.ge {w : World} {base : Nat} {v : Value} {ys : List Int} (h : OwnV w base v ys) (k : Nat) (e : v.ownBlock = some k) : base ≤ k := owns_ge h k e

set_option maxHeartbeats 1000000 in
set_option maxRecDepth 1000000 in
theorem rjoin_good (b off b' off' : Nat) (ys zs : List Int) (cap cap' : Nat) (w : World) (hR : Row w (some ⟨b, off, none⟩) ys) (hR' : Row w (some ⟨b', off', none⟩) zs) (h1 : mayB ys = true) (h2 : mayB zs = true) :
    Calls Try.prog 11 #[.slice (some ⟨b, off, none⟩) 4 cap, .slice (some ⟨b', off', none⟩) 4 cap'] w fun e w' => ∃ v, e = .returned (.tuple #[v, .int .i64 0]) ∧ OwnV w' w.heap.size v (joinL ys zs) ∧ Keeps (fun _ => False) w w' := by
  have l1 := mayB_len h1
  have l2 := mayB_len h2
  have M1 : Hid (Calls Try.prog 17 #[.slice (some ⟨b, off, none⟩) 4 cap] w fun e w' => e = .returned (.bool true) ∧ w' = w) := by
    have := rmay_ok _ ys cap w hR (by omega); rw [l1, h1] at this; exact this
  have M2 : Hid (Calls Try.prog 17 #[.slice (some ⟨b', off', none⟩) 4 cap'] w fun e w' => e = .returned (.bool true) ∧ w' = w) := by
    have := rmay_ok _ zs cap' w hR' (by omega); rw [l2, h2] at this; exact this
  obtain ⟨_, _, e1, _, hc⟩ := hR.at (by omega)
  cases e1
  obtain ⟨_, _, e2, _, hc'⟩ := hR'.at (by omega)
  cases e2
  have HC : Hid (∀ w', Keeps (fun _ => False) w w' → ∀ i, i < 4 → w'.cell? ⟨b, off + i, none⟩ = some (.int .i64 (at_ ys i)) ∧ w'.cell? ⟨b', off' + i, none⟩ = some (.int .i64 (at_ zs i))) := fun w' hk i hi => ⟨hc w' hk i (by omega), hc' w' hk i (by omega)⟩
  clear hc hc' hR hR' h1 h2 l1 l2
  go_enter Try.func11, Try.ntmps11
  go_wp2_with (first
    | (go_at_call 17; (fail_if_success (clear H1)); refine M1.out.mono ?_; rintro e w' ⟨rfl, hw⟩; obtain rfl := hw.symm; clear hw; have H1 : Hid True := trivial)
    | (go_at_call 17; refine M2.out.mono ?_; rintro e w' ⟨rfl, hw⟩; obtain rfl := hw.symm; clear hw))
  go_loopw [6, 7] (fun s6 s w' => ∃ i : Nat, i ≤ 4 ∧ s = .int .i64 (i : Int) ∧ Hid (∃ xs : List Int, xs.length = i ∧ OwnV w' w.heap.size s6 xs ∧ Keeps (fun _ => False) w w' ∧ ∀ j, j < i → at_ xs j = max (at_ ys j) (at_ zs j))) (fun _ s _ => 4 - (intOf s).toNat)
  case atStart => exact ⟨0, by omega, rfl, [], rfl, OwnV.nil _ _, Keeps.refl _ _, fun j hj => absurd hj (Nat.not_lt_zero _)⟩
  case round =>
    obtain ⟨i, hi, rfl, HX⟩ := hrel
    by_cases hin : i < 4
    · have hiz : (i : Int) < 4 := by omega
      obtain ⟨xs, xl, xo, xk, xq⟩ := HX.out
      obtain ⟨c1, c2⟩ := HC.out wr xk i hin
      have HN : Hid (∀ w', OwnV w' w.heap.size u6 xs → Keeps (fun _ => False) w w' → ∀ y v' w'', y = max (at_ ys i) (at_ zs i) → OwnV w'' w.heap.size v' (xs ++ [y]) → w'.grownBy w'' u6.ownBlock → ∃ xs : List Int, xs.length = i + 1 ∧ OwnV w'' w.heap.size v' xs ∧ Keeps (fun _ => False) w w'' ∧ ∀ j, j < i + 1 → at_ xs j = max (at_ ys j) (at_ zs j)) := by
        refine (fun w' ho hk y v' w'' hy ho' hg => ?_ : ∀ w', OwnV w' w.heap.size u6 xs → Keeps (fun _ => False) w w' → ∀ y v' w'', y = max (at_ ys i) (at_ zs i) → OwnV w'' w.heap.size v' (xs ++ [y]) → w'.grownBy w'' u6.ownBlock → ∃ xs : List Int, xs.length = i + 1 ∧ OwnV w'' w.heap.size v' xs ∧ Keeps (fun _ => False) w w'' ∧ ∀ j, j < i + 1 → at_ xs j = max (at_ ys j) (at_ zs j))
        refine ⟨_, by simp [xl], ho', hk.grown hg (fun k hk e => by have := ho.ge k e; omega), fun j hj => ?_⟩
        by_cases e : j < i
        · rw [at_append_left _ _ _ (by omega)]; exact xq j e
        · obtain rfl : j = xs.length + 0 := by omega
          rw [at_append_right, hy, Nat.add_zero, xl]; rfl
      have HO : Hid (OwnV wr w.heap.size u6 xs ∧ Keeps (fun _ => False) w wr ∧ xs.length ≤ 1000000) := ⟨xo, xk, by omega⟩
      clear HX xq xk xo xl
      generalize at_ ys i = y at *
      generalize at_ zs i = z at *
      go_wp2
      go_region_law ((refine step_one (by rfl) (.tmp 22) (.tmp 32) (by rfl) (by rfl) w.heap.size u6 xs (by simp [Act.eval, Act.put]) (HO.out.1.drew.alloc _) wr.heap.size (if y < z then z else y) (by simp [Act.eval, Act.put]) ?hR ?hb HO.out.2.2 ?_; (case hR => exact heap_alloc_new _ _); (case hb => exact (HO.out.2.1.drew.alloc _).size); intro v3 w3 ho3 hg3; have HN3 := HN.out _ (HO.out.1.drew.alloc _) (HO.out.2.1.drew.alloc _) _ v3 w3 (by rw [Int.max_def]; split <;> split <;> omega) ho3 hg3; clear ho3 hg3))
      all_goals (try go_simp)
      all_goals (try go_wp2)
      all_goals (try go_roundw)
      all_goals (first
        | exact ⟨i + 1, by omega, by push_cast; rfl, HN3⟩
        | exact ⟨⟨i + 1, by omega, by push_cast; rfl, HN3⟩, by simp [intOf]; omega⟩
        | (simp [intOf]; omega))
    · obtain rfl : i = 4 := by omega
      go_wp2
      go_ret2
      obtain ⟨xs, xl, xo, xk, xq⟩ := HX.out
      have : xs = joinL ys zs := at_ext (by rw [xl, joinL_len]) (fun j hj => by rw [joinL_at _ _ _ (by omega)]; exact xq j (by omega))
      subst this
      exact ⟨_, rfl, xo, xk⟩

set_option maxHeartbeats 1000000 in
set_option maxRecDepth 1000000 in
theorem rjoin_bad (a a' : Option Addr) (ys zs : List Int) (cap cap' : Nat) (w : World) (hR : Row w a ys) (hR' : Row w a' zs) (hn : ys.length ≤ 1125899906842624) (hn' : zs.length ≤ 1125899906842624) (hb : bothB ys zs = false) :
    Calls Try.prog 11 #[.slice a ys.length cap, .slice a' zs.length cap'] w fun e w' => e = .returned (.tuple #[.slice none 0 0, .int .i64 1100]) ∧ w' = w := by
  have M1 : Hid (Calls Try.prog 17 #[.slice a ys.length cap] w fun e w' => e = .returned (.bool (mayB ys)) ∧ w' = w) := rmay_ok a ys cap w hR hn
  have M2 : Hid (Calls Try.prog 17 #[.slice a' zs.length cap'] w fun e w' => e = .returned (.bool (mayB zs)) ∧ w' = w) := rmay_ok a' zs cap' w hR' hn'
  generalize ys.length = n at *
  generalize zs.length = m at *
  clear hR hR'
  unfold bothB at hb
  cases h1 : mayB ys
  · rw [h1] at M1
    clear hb M2
    go_enter Try.func11, Try.ntmps11
    go_wp2_with (first
      | (go_at_call 17; refine M1.out.mono ?_; rintro e w' ⟨rfl, hw⟩; obtain rfl := hw.symm; clear hw))
    go_ret2
    exact ⟨rfl, rfl⟩
  · have h2 : mayB zs = false := by rw [h1, Bool.true_and] at hb; exact hb
    rw [h1] at M1
    rw [h2] at M2
    clear hb
    go_enter Try.func11, Try.ntmps11
    go_wp2_with (first
      | (go_at_call 17; (fail_if_success (clear H1)); refine M1.out.mono ?_; rintro e w' ⟨rfl, hw⟩; obtain rfl := hw.symm; clear hw; have H1 : Hid True := trivial)
      | (go_at_call 17; refine M2.out.mono ?_; rintro e w' ⟨rfl, hw⟩; obtain rfl := hw.symm; clear hw))
    go_ret2
    exact ⟨rfl, rfl⟩
theorem rjoin_ok (a a' : Option Addr) (ys zs : List Int) (cap cap' : Nat) (w : World) (hR : Row w a ys) (hR' : Row w a' zs) (hn : ys.length ≤ 1125899906842624) (hn' : zs.length ≤ 1125899906842624) :
    Calls Try.prog 11 #[.slice a ys.length cap, .slice a' zs.length cap'] w fun e w' => ∃ v, e = .returned (.tuple #[v, .int .i64 (vErr ys zs)]) ∧ OwnV w' w.heap.size v (joinV ys zs) ∧ Keeps (fun _ => False) w w' := by
  cases hb : bothB ys zs
  · refine (rjoin_bad a a' ys zs cap cap' w hR hR' hn hn' hb).mono ?_
    rintro e w' ⟨rfl, rfl⟩
    unfold joinV vErr; rw [hb]
    exact ⟨_, rfl, OwnV.nil _ _, Keeps.refl _ _⟩
  · have h12 : mayB ys = true ∧ mayB zs = true := by simpa [bothB] using hb
    obtain ⟨b, off, rfl⟩ := hR.some4 h12.1
    obtain ⟨b', off', rfl⟩ := hR'.some4 h12.2
    have := rjoin_good b off b' off' ys zs cap cap' w hR hR' h12.1 h12.2
    unfold joinV vErr; rw [hb, mayB_len h12.1, mayB_len h12.2]; exact this

set_option maxHeartbeats 1000000 in
set_option maxRecDepth 1000000 in
theorem rstep_good (b off : Nat) (ys : List Int) (cap n : Nat) (w : World) (hR : Row w (some ⟨b, off, none⟩) ys) (h1 : mayB ys = true) (hn : n < 4) (hf : ¬ at_ ys n = 1048576) :
    Calls Try.prog 13 #[.slice (some ⟨b, off, none⟩) 4 cap, .int .i64 (n : Int)] w fun e w' => ∃ v, e = .returned (.tuple #[v, .int .i64 0]) ∧ OwnV w' w.heap.size v (stepL ys n) ∧ Keeps (fun _ => False) w w' := by
  have l1 := mayB_len h1
  have M1 : Hid (Calls Try.prog 17 #[.slice (some ⟨b, off, none⟩) 4 cap] w fun e w' => e = .returned (.bool true) ∧ w' = w) := by
    have := rmay_ok _ ys cap w hR (by omega); rw [l1, h1] at this; exact this
  have HR : Hid (Row w (some ⟨b, off, none⟩) ys) := hR
  obtain ⟨_, _, e1, _, hc⟩ := hR.at (by omega)
  cases e1
  have c1 := hc w (Keeps.refl _ _) n (by omega)
  have hy := mayB_cnt h1 n
  have HL : Hid (ys.length = 4) := l1
  have HS : Hid (∀ v, v = at_ ys n + 1 → ys.set n v = stepL ys n) := fun v hv => by subst hv; rfl
  have HY : Hid (∀ w' v, OwnV w' w.heap.size v ys → ∃ g cap, v = .slice (some ⟨g, 0, none⟩) 4 cap ∧ w.heap.size ≤ g ∧ Own w' g cap ys ∧ w'.cell? ⟨g, n, none⟩ = some (.int .i64 (at_ ys n)) ∧ w'.frozen? ⟨g, n, none⟩ = false) := fun w' v hO => by
    rcases hO.form with ⟨_, e⟩ | ⟨g, cap, rfl, hg, ho⟩
    · subst e; simp at l1
    · exact ⟨g, cap, by rw [l1], hg, ho, ho.cell n (by omega), ho.free n (by omega)⟩
  clear hc hR h1 l1
  generalize at_ ys n = y at *
  have hnz : (n : Int) < 4 := by omega
  have d1 : decide (y = 1048576) = false := decide_eq_false hf
  have d2 : (y == 1048576) = false := by simpa using hf
  go_enter Try.func13, Try.ntmps13
  go_wp2_with (first
    | (go_at_call 17; refine M1.out.mono ?_; rintro e w' ⟨rfl, hw⟩; obtain rfl := hw.symm; clear hw)
    | (at_builtin; refine wpList_append rfl _ _ rfl rfl w.heap.size (.slice (some ⟨w.heap.size, 0, none⟩) 0 0) 0 [] rfl ?hown (some ⟨b, off, none⟩) ys cap (by rw [HL.out]; rfl) (HR.out.keptF ((Keeps.refl _ w).alloc _)) (.inr ⟨_, rfl⟩) ?hb ?hsz ?_; (case hown => exact World.ownsRow_lit w #[] 0 (Nat.le_refl _) (by decide) rfl); (case hb => simp); (case hsz => (have := HL.out; omega)); intro v w2 hO hG; have hO2 : OwnV w2 w.heap.size v ys := (by simpa [OwnV] using hO); obtain ⟨g, c2, rfl, hg, ho, k1, k2⟩ := HY.out w2 v hO2; have H2 : Hid (Own w2 g c2 ys ∧ Keeps (fun _ => False) w w2 ∧ w.heap.size ≤ g) := ⟨ho, ((Keeps.refl (fun _ => False) w).alloc (Obj.cells #[] 3)).grown hG (fun k hk e => by simp [Value.ownBlock] at e; omega), hg⟩; have hcap : (4 : Int) ≤ (c2 : Int) := (by have := ho.cap; have := HL.out; omega); clear hO hG hO2 hg ho))
  go_ret2
  have hs := H2.out.1.set n (y + 1)
  rw [HS.out _ rfl] at hs
  have := hs.any H2.out.2.2
  rw [stepL_len, HL.out] at this
  exact ⟨_, rfl, this, H2.out.2.1.setCell (fun h => by have := H2.out.2.2; simp at h; omega) _⟩
set_option maxHeartbeats 1000000 in
set_option maxRecDepth 1000000 in
theorem rstep_full (b off : Nat) (ys : List Int) (cap n : Nat) (w : World) (hR : Row w (some ⟨b, off, none⟩) ys) (h1 : mayB ys = true) (hn : n < 4) (hf : at_ ys n = 1048576) :
    Calls Try.prog 13 #[.slice (some ⟨b, off, none⟩) 4 cap, .int .i64 (n : Int)] w fun e w' => e = .returned (.tuple #[.slice none 0 0, .int .i64 1101]) ∧ w' = w := by
  have l1 := mayB_len h1
  have M1 : Hid (Calls Try.prog 17 #[.slice (some ⟨b, off, none⟩) 4 cap] w fun e w' => e = .returned (.bool true) ∧ w' = w) := by
    have := rmay_ok _ ys cap w hR (by omega); rw [l1, h1] at this; exact this
  obtain ⟨_, _, e1, _, hc⟩ := hR.at (by omega)
  cases e1
  have c1 := hc w (Keeps.refl _ _) n (by omega)
  rw [hf] at c1
  clear hc hR h1 l1 hf
  have hnz : (n : Int) < 4 := by omega
  go_enter Try.func13, Try.ntmps13
  go_wp2_with (first
    | (go_at_call 17; refine M1.out.mono ?_; rintro e w' ⟨rfl, hw⟩; obtain rfl := hw.symm; clear hw))
  go_ret2
  exact ⟨rfl, rfl⟩
set_option maxHeartbeats 1000000 in
set_option maxRecDepth 1000000 in
theorem rstep_bad (a : Option Addr) (ys : List Int) (cap : Nat) (n : Int) (w : World) (hR : Row w a ys) (hl : ys.length ≤ 1125899906842624) (hb : nodeB ys n = false) :
    Calls Try.prog 13 #[.slice a ys.length cap, .int .i64 n] w fun e w' => e = .returned (.tuple #[.slice none 0 0, .int .i64 1100]) ∧ w' = w := by
  have M1 : Hid (Calls Try.prog 17 #[.slice a ys.length cap] w fun e w' => e = .returned (.bool (mayB ys)) ∧ w' = w) := rmay_ok a ys cap w hR hl
  generalize ys.length = m at *
  clear hR
  unfold nodeB at hb
  cases h1 : mayB ys
  · rw [h1] at M1
    clear hb
    go_enter Try.func13, Try.ntmps13
    go_wp2_with (first
      | (go_at_call 17; refine M1.out.mono ?_; rintro e w' ⟨rfl, hw⟩; obtain rfl := hw.symm; clear hw))
    go_ret2
    exact ⟨rfl, rfl⟩
  · rw [h1] at M1
    rw [h1, Bool.true_and, decide_eq_false_iff_not] at hb
    by_cases h0 : n < 0
    · clear hb
      have d0 : decide (n < 0) = true := decide_eq_true h0
      go_enter Try.func13, Try.ntmps13
      go_wp2_with (first
        | (go_at_call 17; refine M1.out.mono ?_; rintro e w' ⟨rfl, hw⟩; obtain rfl := hw.symm; clear hw))
      go_ret2
      exact ⟨rfl, rfl⟩
    · have h4 : 4 ≤ n := by omega
      clear hb
      have d0 : decide (n < 0) = false := decide_eq_false h0
      have d4 : decide (4 ≤ n) = true := decide_eq_true h4
      go_enter Try.func13, Try.ntmps13
      go_wp2_with (first
        | (go_at_call 17; refine M1.out.mono ?_; rintro e w' ⟨rfl, hw⟩; obtain rfl := hw.symm; clear hw))
      go_ret2
      exact ⟨rfl, rfl⟩
theorem rstep_ok (a : Option Addr) (ys : List Int) (cap : Nat) (n : Int) (w : World) (hR : Row w a ys) (hl : ys.length ≤ 1125899906842624) :
    Calls Try.prog 13 #[.slice a ys.length cap, .int .i64 n] w fun e w' => ∃ v, e = .returned (.tuple #[v, .int .i64 (sErr ys n)]) ∧ OwnV w' w.heap.size v (stepV ys n) ∧ Keeps (fun _ => False) w w' := by
  cases hb : nodeB ys n
  · refine (rstep_bad a ys cap n w hR hl hb).mono ?_
    rintro e w' ⟨rfl, rfl⟩
    unfold stepV sErr; rw [hb]
    exact ⟨_, rfl, OwnV.nil _ _, Keeps.refl _ _⟩
  · obtain ⟨h1, h2, h3⟩ := nodeB_len hb
    obtain ⟨b, off, rfl⟩ := hR.some4 h1
    obtain ⟨k, rfl⟩ : ∃ k : Nat, n = (k : Int) := ⟨n.toNat, by omega⟩
    have l1 := mayB_len h1
    unfold stepV sErr
    rw [hb, l1]
    cases hf : fullB ys (k : Int)
    · have hf' : ¬ at_ ys k = 1048576 := by simpa [fullB] using hf
      exact rstep_good b off ys cap k w hR h1 (by omega) hf'
    · have hf' : at_ ys k = 1048576 := by simpa [fullB] using hf
      refine (rstep_full b off ys cap k w hR h1 (by omega) hf').mono ?_
      rintro e w' ⟨rfl, rfl⟩
      exact ⟨_, rfl, OwnV.nil _ _, Keeps.refl _ _⟩

end Go.Proofs.Ytchleklncbgakaa

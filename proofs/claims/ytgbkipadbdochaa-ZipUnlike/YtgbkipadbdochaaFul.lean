/-
  ZipUnlike: the walk of the statement.
-/
import Derived.Test.YtgbkipadbdochaaZin
namespace Go.Proofs.Ytgbkipadbdochaa
open Go.RowKit
set_option linter.unusedVariables false
set_option linter.unusedSimpArgs false

/-- Two folders' own variables. -/
theorem fvars (w : World) (v u : Value) : ∀ w', Keeps (fun _ => False) ((w.alloc (.cells #[v] 24)).alloc (.cells #[u] 24)) w' → w'.cell? ⟨w.heap.size, 0, none⟩ = some v ∧ w'.cell? ⟨w.heap.size + 1, 0, none⟩ = some u := fun w' hk => by
  refine ⟨?_, ?_⟩
  · rw [World.cell?_of_block (hk.block w.heap.size (by simp; omega) (fun h => h)), World.cell?_alloc_past _ _ _ (by simp)]
    exact cell_of_heap (heap_alloc_new _ _) rfl
  · rw [World.cell?_of_block (hk.block (w.heap.size + 1) (by simp) (fun h => h))]
    have := heap_alloc_new (w.alloc (.cells #[v] 24)) (.cells #[u] 24)
    exact cell_of_heap (by simpa using this) rfl

set_option maxHeartbeats 4000000 in
set_option maxRecDepth 1000000 in
theorem sameF_ok (a a' : Option Addr) (cap cap' : Nat) (es fs : List It) (w : World) (hF : Fol w a es) (hG : Fol w a' fs) (hz : ∀ x ∈ es, Fit x) (hz' : ∀ x ∈ fs, Fit x) (hlen : es.length ≤ 1125899906842624) :
    Calls Try.prog 14 #[.agg #[.slice a es.length cap], .agg #[.slice a' fs.length cap']] w fun r w' => r = .returned (.bool (decide (dats es = dats fs))) ∧ Keeps (fun _ => False) w w' := by
  have HS : Hid (∀ w', Keeps (fun _ => False) w w' → Calls Try.prog 18 #[.slice a es.length cap, .slice a' fs.length cap'] w' fun r w'' => r = .returned (.bool (decide (dats es = dats fs))) ∧ Keeps (fun _ => False) w' w'') := fun w' hk => sameEs_ok a a' cap cap' es fs w' (hF.keptF hk) (hG.keptF hk) hz hz' hlen
  generalize decide (dats es = dats fs) = R at *
  clear hF hG hz hz' hlen
  go_enter Try.func14, Try.ntmps14
  go_wp2_with (go_at_call 18; refine (HS.out _ (((Keeps.refl _ _).alloc _).alloc _)).mono ?_; rintro r w1 ⟨rfl, h⟩; have A1 : Hid (Keeps (fun _ => False) w w1) := (((Keeps.refl _ _).alloc _).alloc _).tr h; clear h)
  go_ret
  exact ⟨rfl, A1.out⟩

set_option maxHeartbeats 8000000 in
set_option maxRecDepth 1000000 in
theorem unlike_main (a a' : Option Addr) (cap cap' : Nat) (es fs : List It) (w : World) (hF : FolIn w a es) (hG : FolIn w a' fs) :
    Calls Try.prog 6 #[.agg #[.slice a es.length cap], .agg #[.slice a' fs.length cap']] w fun r w' => r = .returned (.bool true) ∧ Keeps (fun _ => False) w w' := by
  have HP0 : Hid (∀ w', Keeps (fun _ => False) w w' → Calls Try.prog 8 #[.agg #[.slice a es.length cap]] w' fun r w'' => r = .returned (.tuple #[.string (zipT es), .int .i64 (zErr es)]) ∧ Keeps (fun _ => False) w' w'') := fun w' hk => wput_ok a cap es w' (hF.1.keptF hk) hF.fit
  have HQ0 : Hid (∀ w', Keeps (fun _ => False) w w' → Calls Try.prog 8 #[.agg #[.slice a' fs.length cap']] w' fun r w'' => r = .returned (.tuple #[.string (zipT fs), .int .i64 (zErr fs)]) ∧ Keeps (fun _ => False) w' w'') := fun w' hk => wput_ok a' cap' fs w' (hG.1.keptF hk) hG.fit
  have HC : Hid (∀ w', Keeps (fun _ => False) ((w.alloc (.cells #[.slice a es.length cap] 24)).alloc (.cells #[.slice a' fs.length cap'] 24)) w' → w'.cell? ⟨w.heap.size, 0, none⟩ = some (.slice a es.length cap) ∧ w'.cell? ⟨w.heap.size + 1, 0, none⟩ = some (.slice a' fs.length cap')) := fvars w _ _
  have HW0 : Hid (Keeps (fun _ => False) w ((w.alloc (.cells #[.slice a es.length cap] 24)).alloc (.cells #[.slice a' fs.length cap'] 24))) := ((Keeps.refl _ _).alloc _).alloc _
  have HS0 : Hid (∀ w', Keeps (fun _ => False) w w' → Calls Try.prog 14 #[.agg #[.slice a es.length cap], .agg #[.slice a' fs.length cap']] w' fun r w'' => r = .returned (.bool (decide (dats es = dats fs))) ∧ Keeps (fun _ => False) w' w'') := fun w' hk => sameF_ok a a' cap cap' es fs w' (hF.1.keptF hk) (hG.1.keptF hk) hF.fit hG.fit (by have := hF.2.2; omega)
  have q2 := empty_yes
  have e0 : zErr es = if writeB es = true then 0 else 1300 := by unfold zErr; cases writeB es <;> rfl
  have e1 : zErr fs = if writeB fs = true then 0 else 1300 := by unfold zErr; cases writeB fs <;> rfl
  have e2 : writeB es = false → zipT es = ⟨#[]⟩ := fun h => by rw [zipT, h]; rfl
  have e3 : writeB fs = false → zipT fs = ⟨#[]⟩ := fun h => by rw [zipT, h]; rfl
  have hb := @zip_beq es fs
  clear hF hG
  cases hw : writeB es
  · cases hv : writeB fs
    · skip
      have HP : Hid (∀ w', Keeps (fun _ => False) w w' → Calls Try.prog 8 #[.agg #[.slice a es.length cap]] w' fun r w'' => r = .returned (.tuple #[.string ⟨#[]⟩, .int .i64 1300]) ∧ Keeps (fun _ => False) w' w'') := by have := HP0.out; rw [e0, hw, if_neg (by decide), e2 hw] at this; exact this
      have HQ : Hid (∀ w', Keeps (fun _ => False) w w' → Calls Try.prog 8 #[.agg #[.slice a' fs.length cap']] w' fun r w'' => r = .returned (.tuple #[.string ⟨#[]⟩, .int .i64 1300]) ∧ Keeps (fun _ => False) w' w'') := by have := HQ0.out; rw [e1, hv, if_neg (by decide), e3 hv] at this; exact this
      clear HP0 HQ0 HS0 hw hv e0 e1 e2 e3 hb
      try generalize zipT es = S at *
      try generalize zipT fs = T at *
      go_enter Try.func6, Try.ntmps6
      go_wp2_with (first
        | (go_at_call 7; refine (awake_ok _).mono ?_; rintro r w1 ⟨rfl, h⟩; have A1 : Hid (Keeps (fun _ => False) ((w.alloc (.cells #[.slice a es.length cap] 24)).alloc (.cells #[.slice a' fs.length cap'] 24)) w1) := h; obtain ⟨c1, d1⟩ := HC.out w1 h; clear h)
        | (go_at_call 8; (fail_if_success (clear M1)); refine (HP.out w1 (HW0.out.tr A1.out)).mono ?_; rintro r w2 ⟨rfl, h⟩; have A2 : Hid (Keeps (fun _ => False) ((w.alloc (.cells #[.slice a es.length cap] 24)).alloc (.cells #[.slice a' fs.length cap'] 24)) w2) := A1.out.tr h; obtain ⟨c2, d2⟩ := HC.out w2 A2.out; have M1 : Hid True := trivial; clear h)
        | (go_at_call 8; refine (HQ.out w2 (HW0.out.tr A2.out)).mono ?_; rintro r w3 ⟨rfl, h⟩; have A3 : Hid (Keeps (fun _ => False) ((w.alloc (.cells #[.slice a es.length cap] 24)).alloc (.cells #[.slice a' fs.length cap'] 24)) w3) := A2.out.tr h; obtain ⟨c3, d3⟩ := HC.out w3 A3.out; clear h)
        | (go_at_call 9; refine (num_any _ _).mono ?_; rintro r w' ⟨rfl, hw⟩; obtain rfl := hw.symm; clear hw))
      go_ret
      exact ⟨by first | rfl | simp | simp_all, HW0.out.tr A3.out⟩
    · skip
      have HP : Hid (∀ w', Keeps (fun _ => False) w w' → Calls Try.prog 8 #[.agg #[.slice a es.length cap]] w' fun r w'' => r = .returned (.tuple #[.string ⟨#[]⟩, .int .i64 1300]) ∧ Keeps (fun _ => False) w' w'') := by have := HP0.out; rw [e0, hw, if_neg (by decide), e2 hw] at this; exact this
      have HQ : Hid (∀ w', Keeps (fun _ => False) w w' → Calls Try.prog 8 #[.agg #[.slice a' fs.length cap']] w' fun r w'' => r = .returned (.tuple #[.string (zipT fs), .int .i64 0]) ∧ Keeps (fun _ => False) w' w'') := by have := HQ0.out; rw [e1, hv, if_pos rfl] at this; exact this
      clear HP0 HQ0 HS0 hw hv e0 e1 e2 e3 hb
      try generalize zipT es = S at *
      try generalize zipT fs = T at *
      go_enter Try.func6, Try.ntmps6
      go_wp2_with (first
        | (go_at_call 7; refine (awake_ok _).mono ?_; rintro r w1 ⟨rfl, h⟩; have A1 : Hid (Keeps (fun _ => False) ((w.alloc (.cells #[.slice a es.length cap] 24)).alloc (.cells #[.slice a' fs.length cap'] 24)) w1) := h; obtain ⟨c1, d1⟩ := HC.out w1 h; clear h)
        | (go_at_call 8; (fail_if_success (clear M1)); refine (HP.out w1 (HW0.out.tr A1.out)).mono ?_; rintro r w2 ⟨rfl, h⟩; have A2 : Hid (Keeps (fun _ => False) ((w.alloc (.cells #[.slice a es.length cap] 24)).alloc (.cells #[.slice a' fs.length cap'] 24)) w2) := A1.out.tr h; obtain ⟨c2, d2⟩ := HC.out w2 A2.out; have M1 : Hid True := trivial; clear h)
        | (go_at_call 8; refine (HQ.out w2 (HW0.out.tr A2.out)).mono ?_; rintro r w3 ⟨rfl, h⟩; have A3 : Hid (Keeps (fun _ => False) ((w.alloc (.cells #[.slice a es.length cap] 24)).alloc (.cells #[.slice a' fs.length cap'] 24)) w3) := A2.out.tr h; obtain ⟨c3, d3⟩ := HC.out w3 A3.out; clear h)
        | (go_at_call 9; refine (num_any _ _).mono ?_; rintro r w' ⟨rfl, hw⟩; obtain rfl := hw.symm; clear hw))
      go_ret
      exact ⟨by first | rfl | simp | simp_all, HW0.out.tr A3.out⟩
  · cases hv : writeB fs
    · skip
      have HP : Hid (∀ w', Keeps (fun _ => False) w w' → Calls Try.prog 8 #[.agg #[.slice a es.length cap]] w' fun r w'' => r = .returned (.tuple #[.string (zipT es), .int .i64 0]) ∧ Keeps (fun _ => False) w' w'') := by have := HP0.out; rw [e0, hw, if_pos rfl] at this; exact this
      have HQ : Hid (∀ w', Keeps (fun _ => False) w w' → Calls Try.prog 8 #[.agg #[.slice a' fs.length cap']] w' fun r w'' => r = .returned (.tuple #[.string ⟨#[]⟩, .int .i64 1300]) ∧ Keeps (fun _ => False) w' w'') := by have := HQ0.out; rw [e1, hv, if_neg (by decide), e3 hv] at this; exact this
      clear HP0 HQ0 HS0 hw hv e0 e1 e2 e3 hb
      try generalize zipT es = S at *
      try generalize zipT fs = T at *
      go_enter Try.func6, Try.ntmps6
      go_wp2_with (first
        | (go_at_call 7; refine (awake_ok _).mono ?_; rintro r w1 ⟨rfl, h⟩; have A1 : Hid (Keeps (fun _ => False) ((w.alloc (.cells #[.slice a es.length cap] 24)).alloc (.cells #[.slice a' fs.length cap'] 24)) w1) := h; obtain ⟨c1, d1⟩ := HC.out w1 h; clear h)
        | (go_at_call 8; (fail_if_success (clear M1)); refine (HP.out w1 (HW0.out.tr A1.out)).mono ?_; rintro r w2 ⟨rfl, h⟩; have A2 : Hid (Keeps (fun _ => False) ((w.alloc (.cells #[.slice a es.length cap] 24)).alloc (.cells #[.slice a' fs.length cap'] 24)) w2) := A1.out.tr h; obtain ⟨c2, d2⟩ := HC.out w2 A2.out; have M1 : Hid True := trivial; clear h)
        | (go_at_call 8; refine (HQ.out w2 (HW0.out.tr A2.out)).mono ?_; rintro r w3 ⟨rfl, h⟩; have A3 : Hid (Keeps (fun _ => False) ((w.alloc (.cells #[.slice a es.length cap] 24)).alloc (.cells #[.slice a' fs.length cap'] 24)) w3) := A2.out.tr h; obtain ⟨c3, d3⟩ := HC.out w3 A3.out; clear h)
        | (go_at_call 9; refine (num_any _ _).mono ?_; rintro r w' ⟨rfl, hw⟩; obtain rfl := hw.symm; clear hw))
      go_ret
      exact ⟨by first | rfl | simp | simp_all, HW0.out.tr A3.out⟩
    · skip
      have HP : Hid (∀ w', Keeps (fun _ => False) w w' → Calls Try.prog 8 #[.agg #[.slice a es.length cap]] w' fun r w'' => r = .returned (.tuple #[.string (zipT es), .int .i64 0]) ∧ Keeps (fun _ => False) w' w'') := by have := HP0.out; rw [e0, hw, if_pos rfl] at this; exact this
      have HQ : Hid (∀ w', Keeps (fun _ => False) w w' → Calls Try.prog 8 #[.agg #[.slice a' fs.length cap']] w' fun r w'' => r = .returned (.tuple #[.string (zipT fs), .int .i64 0]) ∧ Keeps (fun _ => False) w' w'') := by have := HQ0.out; rw [e1, hv, if_pos rfl] at this; exact this
      have hq := hb hw hv
      have HS := HS0
      generalize decide (dats es = dats fs) = R at *
      generalize zipT es = S at *
      generalize zipT fs = T at *
      clear HP0 HQ0 HS0 hw hv e0 e1 e2 e3 hb
      cases R
      · skip
        go_enter Try.func6, Try.ntmps6
        go_wp2_with (first
          | (go_at_call 7; refine (awake_ok _).mono ?_; rintro r w1 ⟨rfl, h⟩; have A1 : Hid (Keeps (fun _ => False) ((w.alloc (.cells #[.slice a es.length cap] 24)).alloc (.cells #[.slice a' fs.length cap'] 24)) w1) := h; obtain ⟨c1, d1⟩ := HC.out w1 h; clear h)
          | (go_at_call 8; (fail_if_success (clear M1)); refine (HP.out w1 (HW0.out.tr A1.out)).mono ?_; rintro r w2 ⟨rfl, h⟩; have A2 : Hid (Keeps (fun _ => False) ((w.alloc (.cells #[.slice a es.length cap] 24)).alloc (.cells #[.slice a' fs.length cap'] 24)) w2) := A1.out.tr h; obtain ⟨c2, d2⟩ := HC.out w2 A2.out; have M1 : Hid True := trivial; clear h)
          | (go_at_call 8; refine (HQ.out w2 (HW0.out.tr A2.out)).mono ?_; rintro r w3 ⟨rfl, h⟩; have A3 : Hid (Keeps (fun _ => False) ((w.alloc (.cells #[.slice a es.length cap] 24)).alloc (.cells #[.slice a' fs.length cap'] 24)) w3) := A2.out.tr h; obtain ⟨c3, d3⟩ := HC.out w3 A3.out; clear h)
          | (go_at_call 9; refine (num_any _ _).mono ?_; rintro r w' ⟨rfl, hw⟩; obtain rfl := hw.symm; clear hw)
          | (go_at_call 14; refine (HS.out w3 (HW0.out.tr A3.out)).mono ?_; rintro r w4 ⟨rfl, h⟩; have A4 : Hid (Keeps (fun _ => False) ((w.alloc (.cells #[.slice a es.length cap] 24)).alloc (.cells #[.slice a' fs.length cap'] 24)) w4) := A3.out.tr h; clear h))
        go_ret
        exact ⟨by first | rfl | simp | simp_all, HW0.out.tr A4.out⟩
      · skip
        go_enter Try.func6, Try.ntmps6
        go_wp2_with (first
          | (go_at_call 7; refine (awake_ok _).mono ?_; rintro r w1 ⟨rfl, h⟩; have A1 : Hid (Keeps (fun _ => False) ((w.alloc (.cells #[.slice a es.length cap] 24)).alloc (.cells #[.slice a' fs.length cap'] 24)) w1) := h; obtain ⟨c1, d1⟩ := HC.out w1 h; clear h)
          | (go_at_call 8; (fail_if_success (clear M1)); refine (HP.out w1 (HW0.out.tr A1.out)).mono ?_; rintro r w2 ⟨rfl, h⟩; have A2 : Hid (Keeps (fun _ => False) ((w.alloc (.cells #[.slice a es.length cap] 24)).alloc (.cells #[.slice a' fs.length cap'] 24)) w2) := A1.out.tr h; obtain ⟨c2, d2⟩ := HC.out w2 A2.out; have M1 : Hid True := trivial; clear h)
          | (go_at_call 8; refine (HQ.out w2 (HW0.out.tr A2.out)).mono ?_; rintro r w3 ⟨rfl, h⟩; have A3 : Hid (Keeps (fun _ => False) ((w.alloc (.cells #[.slice a es.length cap] 24)).alloc (.cells #[.slice a' fs.length cap'] 24)) w3) := A2.out.tr h; obtain ⟨c3, d3⟩ := HC.out w3 A3.out; clear h)
          | (go_at_call 9; refine (num_any _ _).mono ?_; rintro r w' ⟨rfl, hw⟩; obtain rfl := hw.symm; clear hw)
          | (go_at_call 14; refine (HS.out w3 (HW0.out.tr A3.out)).mono ?_; rintro r w4 ⟨rfl, h⟩; have A4 : Hid (Keeps (fun _ => False) ((w.alloc (.cells #[.slice a es.length cap] 24)).alloc (.cells #[.slice a' fs.length cap'] 24)) w4) := A3.out.tr h; clear h))
        go_ret
        exact ⟨by first | rfl | simp | simp_all, HW0.out.tr A4.out⟩

theorem unlike_walk (a : Option Addr) (cap : Nat) (es : List It) (a' : Option Addr) (cap' : Nat) (fs : List It) (w : World) (hF : FolIn w a es) (hG : FolIn w a' fs) :
    Calls Try.prog 6 #[.agg #[.slice a es.length cap], .agg #[.slice a' fs.length cap']] w fun r w' => r = .returned (.bool true) ∧ Below w.heap.size w w' :=
  (unlike_main a a' cap cap' es fs w hF hG).mono (fun r w' h => ⟨h.1, h.2.below _ (Nat.le_refl _) (fun _ h => h.elim)⟩)

end Go.Proofs.Ytgbkipadbdochaa

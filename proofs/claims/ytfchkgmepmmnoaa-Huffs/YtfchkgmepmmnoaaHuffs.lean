/-
  The statement that every call answers as the document says: its walk.
-/
import Derived.Test.YtfchkgmepmmnoaaRefc
import Derived.Test.YtfchkgmepmmnoaaLend
namespace Go.Proofs.Ytfchkgmepmmnoaa
open Go.RowKit
set_option linter.unusedVariables false
set_option linter.unusedSimpArgs false

theorem IsRow.came {w : World} {a : Option Addr} {len cap : Nat} {zs : List Int} (h : IsRow .i64 w a len cap zs) : Came a len cap := by
  rcases h with ⟨rfl, rfl, rfl, _⟩ | ⟨x, rfl, _⟩
  · exact .inl ⟨rfl, rfl, rfl⟩
  · exact .inr ⟨x, rfl⟩

set_option maxHeartbeats 4000000 in
set_option maxRecDepth 1000000 in
theorem huffs_walk (a : Option Addr) (len cap : Nat) (zs : List Int) (x v : Int) (w : World) (hz : IsRow .i64 w a len cap zs) (hsz : len * 8 + 4096 ≤ 140737488355328) (hx : (Lit.int .i64 x).wf = true) (hv : (Lit.int .i64 v).wf = true) :
    Calls Try.prog 3 #[.slice a len cap, .int .i64 x, .int .i64 v] w fun e w' => e = .returned (.bool true) ∧ Below w.heap.size w w' := by
  have hA := hz.came
  obtain ⟨ys, rfl, hR, hl, hwf⟩ := hz.row
  have hl2 : ys.length ≤ 1125899906842624 := by omega
  have hl3 : ys.length ≤ 9223372036854775807 := by omega
  have hv2 : v ≤ 9223372036854775807 := by
    have h := hv
    simp [Lit.wf, IntKind.max, IntKind.min, IntKind.bits, IntKind.signed] at h; omega
  have HR : Hid (Row w a ys) := hR
  have HA : Hid (Came a ys.length cap) := hA
  clear hz hR hl hwf hA
  go_enter Try.func3, Try.ntmps3
  go_wp2_with fail
  refine (lend_ok a ys cap w HR.out HA.out hsz).mono ?_
  rintro e w1 ⟨g, c, rfl, hL1, hK1, hg1⟩
  have HL1 : Hid (Lent w1 g ys c) := hL1
  have HK1 : Hid (Keeps (fun _ => False) w w1) := hK1
  have HR1 : Hid (Row w1 a ys) := HR.out.keptF hK1
  clear hL1 hK1 hg1 HR
  cases hf : fits ys
  · have HO : Hid (foundL ys x v = none) := by show _ = _; simp [foundL, hf]
    have HB10 : Hid (Calls Try.prog 10 #[.slice (some ⟨g, 0, none⟩) ys.length c] w1 fun e w' => e = .returned (.tuple #[.slice none 0 0, .int .i64 (errF ys)]) ∧ Keeps (fun _ => False) w1 w') := codes_bad (some ⟨g, 0, none⟩) ys c w1 HL1.out.row hl3 hf
    have HB11 : Hid (∀ w', Keeps (fun _ => False) w1 w' → Calls Try.prog 11 #[.slice a ys.length cap] w' fun e w'' => e = .returned (.tuple #[.slice none 0 0, .int .i64 (errF ys)]) ∧ w'' = w') := fun w' hk => rcodes_bad a ys cap w' (HR1.out.keptF hk) hl3 hf
    have HB12 : Hid (∀ w', Keeps (fun _ => False) w1 w' → Calls Try.prog 12 #[.slice (some ⟨g, 0, none⟩) ys.length c, .int .i64 x, .int .i64 v] w' fun e w'' => e = .returned (.tuple #[.int .i64 0, .bool false, .int .i64 (errF ys)]) ∧ Keeps (fun _ => False) w' w'') := fun w' hk => by
      have := find_ok (some ⟨g, 0, none⟩) ys c x v w' (HL1.out.row.keptF hk) hl3 hv2
      rw [HO.out] at this; exact this
    have HB13 : Hid (∀ w', Keeps (fun _ => False) w1 w' → Calls Try.prog 13 #[.slice a ys.length cap, .int .i64 x, .int .i64 v] w' fun e w'' => e = .returned (.tuple #[.int .i64 0, .bool false, .int .i64 (errF ys)]) ∧ Keeps (fun _ => False) w' w'') := fun w' hk => by
      have := rfind_ok a ys cap x v w' (HR1.out.keptF hk) hl3
      rw [HO.out] at this; exact this
    have HCk : Hid (∀ w', Keeps (fun _ => False) w1 w' → Calls Try.prog 16 #[.slice (some ⟨g, 0, none⟩) ys.length c] w' fun e w'' => e = .returned (.int .i64 (errC ys)) ∧ Keeps (fun _ => False) w' w'') := fun w' hk => check_ok (some ⟨g, 0, none⟩) ys c w' (HL1.out.row.keptF hk) hl3
    have HRk : Hid (∀ w', Keeps (fun _ => False) w1 w' → Calls Try.prog 17 #[.slice a ys.length cap] w' fun e w'' => e = .returned (.int .i64 (errC ys)) ∧ w'' = w') := fun w' hk => rcheck_ok a ys cap w' (HR1.out.keptF hk) hl3
    have HKp : Hid (∀ w', Keeps (fun _ => False) w1 w' → Calls Try.prog 19 #[.slice (some ⟨g, 0, none⟩) ys.length c, .slice a ys.length cap] w' fun e w'' => e = .returned (.bool true) ∧ Keeps (fun _ => False) w' w'') := fun w' hk => kept_yes g a ys c cap w' (HL1.out.kept hk (fun h => h)) (HR1.out.keptF hk) hl2
    clear hf HO HL1 HR1 HA
    generalize errC ys = er at *
    generalize errF ys = ef at *
    generalize ys.length = L at *
    go_wp2_with (first
      | (go_at_call 10; refine HB10.out.mono ?_; rintro e w2 ⟨rfl, hK2⟩; have HK2 : Hid (Keeps (fun _ => False) w1 w2) := hK2; clear hK2)
      | (go_at_call 11; refine (HB11.out _ HK2.out).mono ?_; rintro e w' ⟨rfl, hw⟩; obtain rfl := hw.symm; clear hw)
      | (go_at_call 12; refine (HB12.out _ HK2.out).mono ?_; rintro e w4 ⟨rfl, hK4⟩; have HK4 : Hid (Keeps (fun _ => False) w1 w4) := HK2.out.trans hK4 (fun _ _ h => h); clear hK4)
      | (go_at_call 13; refine (HB13.out _ HK4.out).mono ?_; rintro e w5 ⟨rfl, hK5⟩; have HK5 : Hid (Keeps (fun _ => False) w1 w5) := HK4.out.trans hK5 (fun _ _ h => h); clear hK5)
      | (go_at_call 14; refine (same_yes none none 0 0 0 (fun _ => (0, 0)) _ (.inl rfl) (.inl rfl) (by decide)).mono ?_; rintro e w6 ⟨rfl, hK6⟩; have HK6 : Hid (Keeps (fun _ => False) w1 w6) := HK5.out.trans hK6 (fun _ _ h => h); clear hK6)
      | (go_at_call 15; refine (num_any _ _).mono ?_; rintro e w' ⟨rfl, hw⟩; obtain rfl := hw.symm; clear hw)
      | (go_at_call 16; refine (HCk.out _ HK6.out).mono ?_; rintro e w7 ⟨rfl, hK7⟩; have HK7 : Hid (Keeps (fun _ => False) w1 w7) := HK6.out.trans hK7 (fun _ _ h => h); clear hK7)
      | (go_at_call 17; refine (HRk.out _ HK7.out).mono ?_; rintro e w' ⟨rfl, hw⟩; obtain rfl := hw.symm; clear hw)
      | (go_at_call 18; refine (spoil_none 0 _).mono ?_; rintro e w' ⟨rfl, hw⟩; obtain rfl := hw.symm; clear hw)
      | (go_at_call 19; refine (HKp.out _ HK7.out).mono ?_; rintro e w9 ⟨rfl, hK9⟩; have HK9 : Hid (Keeps (fun _ => False) w w9) := (HK1.out.trans HK7.out (fun _ _ h => h)).trans hK9 (fun _ _ h => h); clear hK9)
      | (go_at_call 20; refine (awake_ok _).mono ?_; rintro e w10 ⟨rfl, hK10⟩; have HK10 : Hid (Keeps (fun _ => False) w w10) := HK9.out.trans hK10 (fun _ _ h => h); clear hK10))
    go_ret
    exact ⟨rfl, HK10.out.below _ (Nat.le_refl _) (fun _ h => h.elim)⟩
  · go_wp2_with fail
    refine (codes_good (some ⟨g, 0, none⟩) ys c w1 HL1.out.row hl3 hf).mono ?_
    rintro e w2 ⟨ga, rfl, hK2, hg2, hC2⟩
    have HG : Hid (w1.heap.size ≤ ga) := hg2
    have HC2 : Hid (Cds w2 ga ys.length (codeF ys)) := hC2
    have HK2 : Hid (Keeps (fun _ => False) w1 w2) := hK2
    clear hK2 hg2 hC2
    go_wp2_with fail
    refine (rcodes_good a ys cap w2 (HR1.out.keptF HK2.out) hl3 hf).mono ?_
    rintro e w3 ⟨gb, rfl, hK3, hg3, hC3⟩
    have HC3 : Hid (Cds w3 ga ys.length (codeF ys) ∧ Cds w3 gb ys.length (codeF ys)) := ⟨HC2.out.kept hK3 (fun h => h), hC3⟩
    have HK3 : Hid (Keeps (fun _ => False) w1 w3) := HK2.out.trans hK3 (fun _ _ h => h)
    clear hK3 hg3 hC3 HK2 HC2
    go_wp2_with fail
    refine (find_ok (some ⟨g, 0, none⟩) ys c x v w3 (HL1.out.row.keptF HK3.out) hl3 hv2).mono ?_
    rintro e w4 ⟨rfl, hK4⟩
    have HC4 : Hid (Cds w4 ga ys.length (codeF ys) ∧ Cds w4 gb ys.length (codeF ys)) := ⟨HC3.out.1.kept hK4 (fun h => h), HC3.out.2.kept hK4 (fun h => h)⟩
    have HK4 : Hid (Keeps (fun _ => False) w1 w4) := HK3.out.trans hK4 (fun _ _ h => h)
    clear hK4 HK3 HC3
    go_wp2_with fail
    refine (rfind_ok a ys cap x v w4 (HR1.out.keptF HK4.out) hl3).mono ?_
    rintro e w5 ⟨rfl, hK5⟩
    have HC5 : Hid (Cds w5 ga ys.length (codeF ys) ∧ Cds w5 gb ys.length (codeF ys)) := ⟨HC4.out.1.kept hK5 (fun h => h), HC4.out.2.kept hK5 (fun h => h)⟩
    have HK5 : Hid (Keeps (fun _ => False) w1 w5) := HK4.out.trans hK5 (fun _ _ h => h)
    rw [errF_fits.2 hf]
    clear hK5 HK4 HC4
    generalize (foundL ys x v).isSome = is at *
    generalize (((foundL ys x v).getD 0 : Nat) : Int) = s at *
    go_wp2_with fail
    refine (same_yes _ _ ys.length ys.length ys.length (codeF ys) w5 HC5.out.1.row HC5.out.2.row hl3).mono ?_
    rintro e w6 ⟨rfl, hK6⟩
    have HC6 : Hid (Cds w6 ga ys.length (codeF ys)) := HC5.out.1.kept hK6 (fun h => h)
    have HK6 : Hid (Keeps (fun _ => False) w1 w6) := HK5.out.trans hK6 (fun _ _ h => h)
    clear hK6 HK5 HC5
    have HCk : Hid (Calls Try.prog 16 #[.slice (some ⟨g, 0, none⟩) ys.length c] w6 fun e w' => e = .returned (.int .i64 (errC ys)) ∧ Keeps (fun _ => False) w6 w') := check_ok (some ⟨g, 0, none⟩) ys c w6 (HL1.out.row.keptF HK6.out) hl3
    have HRk : Hid (∀ w', Keeps (fun _ => False) w1 w' → Calls Try.prog 17 #[.slice a ys.length cap] w' fun e w'' => e = .returned (.int .i64 (errC ys)) ∧ w'' = w') := fun w' hk => rcheck_ok a ys cap w' (HR1.out.keptF hk) hl3
    have HSp : Hid (∀ w', Cds w' ga ys.length (codeF ys) → Calls Try.prog 18 #[.slice (some ⟨ga, 0, none⟩) ys.length ys.length] w' fun e w'' => e = .returned (.tuple #[]) ∧ Keeps (fun k => k = ga) w' w'') := fun w' h => spoil_ok ga ys.length ys.length (codeF ys) w' h hl2
    have HKp : Hid (∀ w', Lent w' g ys c → Row w' a ys → Calls Try.prog 19 #[.slice (some ⟨g, 0, none⟩) ys.length c, .slice a ys.length cap] w' fun e w'' => e = .returned (.bool true) ∧ Keeps (fun _ => False) w' w'') := fun w' h h' => kept_yes g a ys c cap w' h h' hl2
    have HBk : Hid (∀ y, a = some y → y.block < w1.heap.size ∨ ys = []) := fun y hy => by
      rcases HR1.out with h | ⟨b, off, e, hb, _⟩
      · exact .inr h
      · left; rw [hy] at e; cases e; exact hb
    clear hf
    generalize errC ys = er at *
    go_wp2_with (first
      | (go_at_call 15; refine (num_any _ _).mono ?_; rintro e w' ⟨rfl, hw⟩; obtain rfl := hw.symm; clear hw)
      | (go_at_call 16; refine HCk.out.mono ?_; rintro e w7 ⟨rfl, hK7⟩; have HC7 : Hid (Cds w7 ga ys.length (codeF ys)) := HC6.out.kept hK7 (fun h => h); have HK7 : Hid (Keeps (fun _ => False) w1 w7) := HK6.out.trans hK7 (fun _ _ h => h); clear hK7 HK6 HC6)
      | (go_at_call 17; refine (HRk.out _ HK7.out).mono ?_; rintro e w' ⟨rfl, hw⟩; obtain rfl := hw.symm; clear hw)
      | (go_at_call 18; refine (HSp.out _ HC7.out).mono ?_; rintro e w8 ⟨rfl, hK8⟩; have HK8 : Hid (Keeps (fun k => k = ga) w1 w8) := HK7.out.mono (fun _ _ h => h.elim) |>.trans hK8 (fun _ _ h => h); clear hK8))
    have HL8 : Hid (Lent w8 g ys c ∧ Row w8 a ys ∧ Keeps (fun _ => False) w w8) := by
      have hg := HL1.out.1
      have hga := HG.out
      refine ⟨HL1.out.kept HK8.out (by omega), ?_, HK1.out.trans HK8.out (fun k hk h => by have := HK1.out.size; omega)⟩
      rcases HR1.out with h | ⟨b, off, e, hb, hc⟩
      · exact .inl h
      · exact HR1.out.kept HK8.out (fun y hy h => by rw [hy] at e; cases e; simp only at h; omega)
    refine (HKp.out w8 HL8.out.1 HL8.out.2.1).mono ?_
    rintro e w9 ⟨rfl, hK9⟩
    have HK9 : Hid (Keeps (fun _ => False) w w9) := HL8.out.2.2.trans hK9 (fun _ _ h => h)
    clear hK9
    go_wp2_with (first
      | (go_at_call 20; refine (awake_ok _).mono ?_; rintro e w10 ⟨rfl, hK10⟩; have HK10 : Hid (Keeps (fun _ => False) w w10) := HK9.out.trans hK10 (fun _ _ h => h); clear hK10))
    go_ret
    exact ⟨rfl, HK10.out.below _ (Nat.le_refl _) (fun _ h => h.elim)⟩

end Go.Proofs.Ytfchkgmepmmnoaa

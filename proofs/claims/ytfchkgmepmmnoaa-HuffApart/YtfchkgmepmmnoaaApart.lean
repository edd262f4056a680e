/-
  The statement that no code is a beginning of another one: what it rests on, and its walk.
-/
import Derived.Test.YtfchkgmepmmnoaaApa
import Derived.Deep.RegionHeld3
namespace Go.Proofs.Ytfchkgmepmmnoaa
open Go.RowKit
set_option linter.unusedVariables false
set_option linter.unusedSimpArgs false

theorem find_one {w wa : World} {b off L cap i c v : Nat} {ys : List Int} (hR : Row w (some ⟨b, off, none⟩) ys) (hK : Keeps (fun _ => False) w wa) (hL : ys.length = L) (hE : errF ys = 0) (hl2 : L ≤ 9223372036854775807) (hF : fits ys = true) (hin : i < L) (hc15 : c ≤ 15) (hc : at_ ys i = (c : Int)) (hv : codeV ys i = v) (hpos : 0 < c) :
    Calls Try.prog 12 #[.slice (some ⟨b, off, none⟩) L cap, .int .i64 (c : Int), .int .i64 (v : Int)] wa.drew fun e w' => e = .returned (.tuple #[.int .i64 (i : Int), .bool true, .int .i64 0]) ∧ Keeps (fun _ => False) wa.drew w' := by
  have hvb := codeV_bound ys i c hF (by omega) hc
  have hpb : 2 ^ c ≤ 2 ^ 15 := Nat.pow_le_pow_right (by omega) hc15
  have := find_ok (some ⟨b, off, none⟩) ys cap (c : Int) (v : Int) wa.drew (hR.keptF hK.drew) (by omega) (by omega)
  rw [hE, hL, ← hv, code_found ys i c hF (by omega) hc hpos] at this
  rw [← hv]; exact this
theorem apart_facts {ys : List Int} {i j c cj v vj e : Nat} (hi : i < ys.length) (hj : j < ys.length) (hc : at_ ys i = (c : Int)) (hcj : at_ ys j = (cj : Int)) (hv : codeV ys i = v) (hvj : codeV ys j = vj) (hc0 : ¬ c = 0) (hji : ¬ j = i) (hd : (cj : Int) - (c : Int) = (e : Int)) (h15 : cj ≤ 15) :
    (e : Int) ≤ 15 ∧ ¬ ((vj : Int) / 2 ^ e = (v : Int)) ∧ (j < i → e = 0 → vj < v) := by
  obtain rfl : cj = c + e := by omega
  refine ⟨by omega, fun h => ?_, fun hlt he => ?_⟩
  · have := codeV_apart ys i j c e hi hj hc (by omega) hcj hji
    rw [hv, hvj] at this
    apply this
    have e2 : ((vj / 2 ^ e : Nat) : Int) = (vj : Int) / 2 ^ e := by push_cast; rfl
    omega
  · subst he
    have := codeV_rise ys j i c hi hcj hc (by omega) hlt
    rw [hv, hvj] at this; exact this
theorem cds_bits {w : World} {g L i c : Nat} {ys : List Int} (h : Cds w g L (codeF ys)) (hi : i < L) (hc : at_ ys i = (c : Int)) : w.cell? ⟨g, i * 2, none⟩ = some (.int .i64 (c : Int)) := by
  have := h.bits i hi
  simp only [codeF, hc] at this; exact this
theorem cds_value {w : World} {g L i v : Nat} {ys : List Int} (h : Cds w g L (codeF ys)) (hi : i < L) (hv : codeV ys i = v) : w.cell? ⟨g, i * 2 + 1, none⟩ = some (.int .i64 (v : Int)) := by
  have := h.value i hi
  simp only [codeF, hv] at this; exact this

set_option maxHeartbeats 4000000 in
set_option maxRecDepth 1000000 in
theorem apart_walk (a : Option Addr) (len cap : Nat) (zs : List Int) (w : World) (hz : IsRow .i64 w a len cap zs) :
    Calls Try.prog 4 #[.slice a len cap] w fun e w' => e = .returned (.bool true) ∧ Below w.heap.size w w' := by
  obtain ⟨ys, rfl, hR, hl, hwf⟩ := hz.row
  have hl2 : ys.length ≤ 9223372036854775807 := Nat.le_trans hl (by decide)
  have HR : Hid (Row w a ys) := hR
  clear hz hR hl hwf
  go_enter Try.func4, Try.ntmps4
  go_wp2_with fail
  refine (awake_ok w).mono ?_
  rintro e w1 ⟨rfl, hK1⟩
  have HK1 : Hid (Keeps (fun _ => False) w w1) := hK1
  have HR1 : Hid (Row w1 a ys) := HR.out.keptF hK1
  clear hK1
  by_cases h60 : 60 < (ys.length : Int)
  · go_wp2_with fail
    go_ret
    exact ⟨rfl, HK1.out.below _ (Nat.le_refl _) (fun _ h => h.elim)⟩
  · cases hf : fits ys
    · have he : ¬ (errF ys = 0) := fun h => by rw [errF_fits.1 h] at hf; exact absurd hf (by decide)
      go_wp2_with fail
      refine (codes_bad a ys cap w1 HR1.out hl2 hf).mono ?_
      rintro e w2 ⟨rfl, hK2⟩
      have HK2 : Hid (Keeps (fun _ => False) w w2) := HK1.out.trans hK2 (fun _ _ h => h)
      clear hK2 hf
      generalize errF ys = er at *
      go_wp2_with (first
        | (go_at_call 15; refine (num_any _ _).mono ?_; rintro e w' ⟨rfl, hw⟩; obtain rfl := hw.symm; clear hw))
      go_ret
      exact ⟨rfl, HK2.out.below _ (Nat.le_refl _) (fun _ h => h.elim)⟩
    · have HF : Hid (fits ys = true) := hf
      have hpos := (may_len (fits_true hf).1).1
      have HE : Hid (errF ys = 0) := errF_fits.2 hf
      obtain ⟨b, off, rfl, hb, hcell⟩ := HR.out.at hpos
      have HCl : Hid (∀ w', Keeps (fun _ => False) w w' → ∀ i, i < ys.length → w'.cell? ⟨b, off + i, none⟩ = some (.int .i64 (at_ ys i))) := hcell
      have HY : Hid (∀ i, i < ys.length → ∃ c : Nat, at_ ys i = (c : Int) ∧ c ≤ 15) := fun i hi => by
        have := may_at (fits_true hf).1 i hi
        rw [← at_eq i hi] at this
        exact ⟨(at_ ys i).toNat, by omega, by omega⟩
      clear hcell
      go_wp2_with fail
      refine (codes_good _ ys cap w1 HR1.out hl2 hf).mono ?_
      rintro e w2 ⟨g, rfl, hK2, hg2, hC2⟩
      have HK2 : Hid (Keeps (fun _ => False) w w2) := HK1.out.trans hK2 (fun _ _ h => h)
      have HC2 : Hid (Cds w2 g ys.length (codeF ys)) := hC2
      clear hK2 hg2 hC2 hf HK1 HR1
      generalize hL : ys.length = L at *
      have HL : Hid (ys.length = L) := hL
      clear hL
      go_wp2_with (first
        | (go_at_call 15; refine (num_any _ _).mono ?_; rintro e w' ⟨rfl, hw⟩; obtain rfl := hw.symm; clear hw))
      go_loopw [5] (fun s5 w' => ∃ i : Nat, i ≤ L ∧ s5 = .int .i64 (i : Int) ∧ Hid (Keeps (fun _ => False) w w' ∧ Cds w' g L (codeF ys))) (fun s5 w' => ((L : Int) - intOf s5).toNat)
      case atStart => exact ⟨0, by omega, rfl, HK2.out, HC2.out⟩
      case round =>
        clear HK2 HC2
        obtain ⟨i, hi, rfl, HW⟩ := hrel
        by_cases hin : i < L
        · have hiz : (i : Int) < (L : Int) := by omega
          obtain ⟨c, hc, hc15⟩ := HY.out i hin
          obtain ⟨v, hv⟩ : ∃ v, codeV ys i = v := ⟨_, rfl⟩
          have hb1 := HW.out.2.bits i hin
          have hb2 := HW.out.2.value i hin
          have hb3 := HCl.out wr HW.out.1 i hin
          simp only [codeF] at hb1 hb2
          rw [hc] at hb1 hb3
          rw [hv] at hb2
          have HCi : Hid (at_ ys i = (c : Int)) := hc
          have HVi : Hid (codeV ys i = v) := hv
          obtain ⟨P, hP1, hP2, hvP⟩ := pow_facts c v hc15 (by rw [← hv]; exact codeV_bound ys i c HF.out (by rw [HL.out]; exact hin) hc)
          have hvn : decide ((P : Int) ≤ (v : Int)) = false := decide_eq_false (by omega)
          have hv0 : decide ((v : Int) < 0) = false := decide_eq_false (by omega)
          have hmx : (if (c : Int) < 0 then (0 : Int) else (c : Int)) = (c : Int) := if_neg (by omega)
          have hmn : (if 15 < (c : Int) then (15 : Int) else (c : Int)) = (c : Int) := if_neg (by omega)
          have hcn : ¬ (c : Int) < 0 := by omega
          clear hc hv
          go_wp2_with fail
          go_quiet (fail)
          have HA : Hid (Keeps (fun _ => False) w (wr.drewN nq) ∧ Cds (wr.drewN nq) g L (codeF ys)) := ⟨HW.out.1.drewN nq, HW.out.2.kept ((Keeps.refl (fun _ => False) wr).drewN nq) (fun h => h)⟩
          have ha1 : (wr.drewN nq).cell? ⟨g, i * 2, none⟩ = some (.int .i64 (c : Int)) := by simpa using hb1
          have ha2 : (wr.drewN nq).cell? ⟨g, i * 2 + 1, none⟩ = some (.int .i64 (v : Int)) := by simpa using hb2
          generalize wr.drewN nq = wa at *
          clear hb1 hb2 hb3 HW hP1 hP2 hmx hmn hvn hv0 hcn
          by_cases hc0 : c = 0
          · subst hc0
            go_wp2_with fail
            go_roundw
            case rel => exact ⟨i + 1, by omega, by push_cast; rfl, HA⟩
            case measure => simp [intOf]; omega
          · have hcz : ¬ (c : Int) = 0 := by omega
            have HC12 : Hid (Calls Try.prog 12 #[.slice (some ⟨b, off, none⟩) L cap, .int .i64 (c : Int), .int .i64 (v : Int)] wa.drew fun e w' => e = .returned (.tuple #[.int .i64 (i : Int), .bool true, .int .i64 0]) ∧ Keeps (fun _ => False) wa.drew w') := find_one HR.out HA.out.1 HL.out HE.out hl2 HF.out hin hc15 HCi.out HVi.out (by omega)
            go_wp2_with fail
            go_region_held3 (fun w' => w'.cell? ⟨g, i * 2, none⟩ = some (.int .i64 (c : Int)) ∧ w'.cell? ⟨g, i * 2 + 1, none⟩ = some (.int .i64 (v : Int))) (go_keep)
              ((go_at_call 12; refine HC12.out.mono ?_; rintro e w3 ⟨rfl, hK3⟩; have HK3 : Hid (Keeps (fun _ => False) w w3 ∧ Cds w3 g L (codeF ys)) := ⟨HA.out.1.drew.trans hK3 (fun _ _ h => h), (HA.out.2.kept ((Keeps.refl (fun _ => False) wa).drew) (fun h => h)).kept hK3 (fun h => h)⟩; have hd1 := cds_bits HK3.out.2 hin HCi.out; have hd2 := cds_value HK3.out.2 hin HVi.out; clear hK3))
            clear HC12 HA ha1 ha2 hd1 hd2
            go_wp2_with (first
              | (go_at_call 15; refine (num_any _ _).mono ?_; rintro e w' ⟨rfl, hw⟩; obtain rfl := hw.symm; clear hw))
            go_loopw [9] (fun s9 w' => ∃ j : Nat, j ≤ L ∧ s9 = .int .i64 (j : Int) ∧ Hid (Keeps (fun _ => False) w w' ∧ Cds w' g L (codeF ys))) (fun s9 w' => ((L : Int) - intOf s9).toNat)
            case atStart => exact ⟨0, by omega, rfl, HK3⟩
            case round =>
              clear HK3
              obtain ⟨j, hj, rfl, HJ⟩ := hrel
              by_cases hjn : j < L
              · have hjz : (j : Int) < (L : Int) := by omega
                obtain ⟨cj, hcj, hcj15⟩ := HY.out j hjn
                obtain ⟨vj, hvj⟩ : ∃ vj, codeV ys j = vj := ⟨_, rfl⟩
                have HCj : Hid (at_ ys j = (cj : Int)) := hcj
                have HVj : Hid (codeV ys j = vj) := hvj
                have hi1 := cds_bits HJ.out.2 hin HCi.out
                have hj1 := cds_bits HJ.out.2 hjn hcj
                clear hcj hvj
                obtain ⟨d, hd⟩ : ∃ d : Int, Hid ((cj : Int) - (c : Int) = d) := ⟨_, rfl⟩
                have hd1 : IntKind.i64.wrap ((cj : Int) - (c : Int)) = d := by rw [IntWalk.i64_left, IntWalk.wrap64_in _ (by omega)]; exact hd.out
                have hd2 : wrap64 ((cj : Int) - (c : Int)) = d := by rw [IntWalk.wrap64_in _ (by omega)]; exact hd.out
                go_wp2_with fail
                go_quiet (fail)
                have HB : Hid (Keeps (fun _ => False) w (wr.drewN nq) ∧ Cds (wr.drewN nq) g L (codeF ys)) := ⟨HJ.out.1.drewN nq, HJ.out.2.kept ((Keeps.refl (fun _ => False) wr).drewN nq) (fun h => h)⟩
                generalize wr.drewN nq = wb at *
                clear hi1 hj1 hd1 hd2 HJ
                go_wp2_with fail
                by_cases hji : j = i
                · subst hji
                  go_quiet (fail)
                  have HB' : Hid (Keeps (fun _ => False) w (wb.drewN nq) ∧ Cds (wb.drewN nq) g L (codeF ys)) := ⟨HB.out.1.drewN nq, HB.out.2.kept ((Keeps.refl (fun _ => False) wb).drewN nq) (fun h => h)⟩
                  generalize wb.drewN nq = wn at *
                  go_wp2_with fail
                  go_roundw
                  case rel => exact ⟨j + 1, by omega, by push_cast; rfl, HB'⟩
                  case measure => simp [intOf]; omega
                · have hne : decide ((j : Int) = (i : Int)) = false := decide_eq_false (by omega)
                  have hne' : ¬ (j : Int) = (i : Int) := by omega
                  have hneq : ((j : Int) != (i : Int)) = true := bne_iff_ne.2 hne'
                  by_cases hd0 : d < 0
                  · have hdz : decide (0 ≤ d) = false := decide_eq_false (by omega)
                    have hde : decide (d = 0) = false := decide_eq_false (by omega)
                    have hdq : (d == 0) = false := beq_eq_false_iff_ne.2 (by omega)
                    by_cases hlt : j < i
                    · have hltd : decide ((j : Int) < (i : Int)) = true := decide_eq_true (by omega)
                      go_quiet (fail)
                      have HB' : Hid (Keeps (fun _ => False) w (wb.drewN nq) ∧ Cds (wb.drewN nq) g L (codeF ys)) := ⟨HB.out.1.drewN nq, HB.out.2.kept ((Keeps.refl (fun _ => False) wb).drewN nq) (fun h => h)⟩
                      generalize wb.drewN nq = wn at *
                      go_wp2_with fail
                      go_roundw
                      case rel => exact ⟨j + 1, by omega, by push_cast; rfl, HB'⟩
                      case measure => simp [intOf]; omega
                    · have hltd : decide ((j : Int) < (i : Int)) = false := decide_eq_false (by omega)
                      go_quiet (fail)
                      have HB' : Hid (Keeps (fun _ => False) w (wb.drewN nq) ∧ Cds (wb.drewN nq) g L (codeF ys)) := ⟨HB.out.1.drewN nq, HB.out.2.kept ((Keeps.refl (fun _ => False) wb).drewN nq) (fun h => h)⟩
                      generalize wb.drewN nq = wn at *
                      go_wp2_with fail
                      go_roundw
                      case rel => exact ⟨j + 1, by omega, by push_cast; rfl, HB'⟩
                      case measure => simp [intOf]; omega
                  · obtain ⟨e, rfl⟩ : ∃ e : Nat, d = (e : Int) := ⟨d.toNat, by omega⟩
                    obtain ⟨he15, hap, hri⟩ := apart_facts (by rw [HL.out]; exact hin) (by rw [HL.out]; exact hjn) HCi.out HCj.out HVi.out HVj.out hc0 hji hd.out hcj15
                    have h15d : decide ((e : Int) ≤ 15) = true := decide_eq_true he15
                    have hen : decide (0 ≤ (e : Int)) = true := decide_eq_true (by omega)
                    have hen' : ¬ (e : Int) < 0 := by omega
                    have hapq : ((vj : Int) / 2 ^ e == (v : Int)) = false := beq_eq_false_iff_ne.2 hap
                    have hapd : decide ((vj : Int) / 2 ^ e = (v : Int)) = false := decide_eq_false hap
                    have hv1 := cds_value HB.out.2 hin HVi.out
                    have hv2 := cds_value HB.out.2 hjn HVj.out
                    by_cases hlt : j < i
                    · have hltd : decide ((j : Int) < (i : Int)) = true := decide_eq_true (by omega)
                      by_cases he0 : e = 0
                      · subst he0
                        have h00 : ((vj : Int) == (v : Int)) = false := beq_eq_false_iff_ne.2 (by have := hri hlt rfl; omega)
                        have h01 : ¬ ((vj : Int) = (v : Int)) := by have := hri hlt rfl; omega
                        have hvn0 : ¬ v ≤ vj := by have := hri hlt rfl; omega
                        have hvnd : decide (v ≤ vj) = false := decide_eq_false hvn0
                        have hrid : decide ((v : Int) ≤ (vj : Int)) = false := decide_eq_false (by have := hri hlt rfl; omega)
                        clear hri hap
                        go_quiet (fail)
                        have HB' : Hid (Keeps (fun _ => False) w (wb.drewN nq) ∧ Cds (wb.drewN nq) g L (codeF ys)) := ⟨HB.out.1.drewN nq, HB.out.2.kept ((Keeps.refl (fun _ => False) wb).drewN nq) (fun h => h)⟩
                        generalize wb.drewN nq = wn at *
                        go_wp2_with fail
                        go_roundw
                        case rel => exact ⟨j + 1, by omega, by push_cast; rfl, HB'⟩
                        case measure => simp [intOf]; omega
                      · have hed : decide ((e : Int) = 0) = false := decide_eq_false (by omega)
                        have hedq : ((e : Int) == 0) = false := beq_eq_false_iff_ne.2 (by omega)
                        clear hri hap
                        go_quiet (fail)
                        have HB' : Hid (Keeps (fun _ => False) w (wb.drewN nq) ∧ Cds (wb.drewN nq) g L (codeF ys)) := ⟨HB.out.1.drewN nq, HB.out.2.kept ((Keeps.refl (fun _ => False) wb).drewN nq) (fun h => h)⟩
                        generalize wb.drewN nq = wn at *
                        go_wp2_with fail
                        go_roundw
                        case rel => exact ⟨j + 1, by omega, by push_cast; rfl, HB'⟩
                        case measure => simp [intOf]; omega
                    · have hltd : decide ((j : Int) < (i : Int)) = false := decide_eq_false (by omega)
                      clear hri hap
                      go_quiet (fail)
                      have HB' : Hid (Keeps (fun _ => False) w (wb.drewN nq) ∧ Cds (wb.drewN nq) g L (codeF ys)) := ⟨HB.out.1.drewN nq, HB.out.2.kept ((Keeps.refl (fun _ => False) wb).drewN nq) (fun h => h)⟩
                      generalize wb.drewN nq = wn at *
                      go_wp2_with fail
                      go_roundw
                      case rel => exact ⟨j + 1, by omega, by push_cast; rfl, HB'⟩
                      case measure => simp [intOf]; omega
              · obtain rfl : j = L := by omega
                go_wp2_with fail
                go_roundw
                case rel => exact ⟨i + 1, by omega, by push_cast; rfl, HJ⟩
                case measure => simp [intOf]; omega
        · obtain rfl : i = L := by omega
          go_wp2_with fail
          go_ret
          exact ⟨rfl, HW.out.1.below _ (Nat.le_refl _) (fun _ h => h.elim)⟩

end Go.Proofs.Ytfchkgmepmmnoaa

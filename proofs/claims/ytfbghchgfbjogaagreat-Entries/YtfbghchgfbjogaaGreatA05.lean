/-
  How many codes there are of each length, if the lengths may be and there is room for them. The calls Check and Find, and what a number of an error is. The call Codes: the rows of codes that it makes. A symbol in a block of its own, a row in a variable; the calls Length, LengthOf, Dist, DistOf. What a stream comes to, in plain lists of bits and bytes (no program in sight).
-/
import Derived.Test.YtfbghchgfbjogaaGreatRows
import Derived.Test.YtfbghchgfbjogaaGreatA04
import Derived.BigQuiet
import Derived.BigRegion
import Derived.OwnWalk
namespace Go.Proofs.YtfbghchgfbjogaaGreat.Hf
open Go.RowKit
set_option linter.unusedVariables false
set_option linter.unusedSimpArgs false

theorem cn_nil : ∀ i, i < 16 → (0 : Nat) = cn ([] : List Int) i := by intro i _; simp [cn, cnt]
theorem cn_zero (ys : List Int) : ∀ i, i < 16 → cn ys i = cn (ys ++ [0]) i := by
  intro i _
  unfold cn
  by_cases h : i = 0
  · rw [if_pos h, if_pos h]
  · rw [if_neg h, if_neg h, cnt_snoc, if_neg (by omega)]; rfl
theorem cn_pos (ys : List Int) (n : Nat) (hn : 0 < n) : ∀ i, i < 16 → upd (cn ys) n (cn ys n + 1) i = cn (ys ++ [(n : Int)]) i := by
  intro i _
  unfold upd
  by_cases h : i = n
  · subst h; rw [if_pos rfl]; unfold cn; rw [if_neg (by omega), if_neg (by omega), cnt_snoc, if_pos rfl]
  · rw [if_neg h]; unfold cn
    by_cases h0 : i = 0
    · rw [if_pos h0, if_pos h0]
    · rw [if_neg h0, if_neg h0, cnt_snoc, if_neg (by omega)]; rfl
def cArr (t : Bool) (ys : List Int) : Nat → Nat := cond t (cn ys) (fun _ => 0)
theorem may_bad {ys : List Int} (i : Nat) (hi : i < ys.length) (h : ys[i] < 0 ∨ 15 < ys[i]) : may ys = false := by
  cases hm : may ys
  · rfl
  · have := may_at hm i hi; omega

set_option maxHeartbeats 4000000 in
set_option maxRecDepth 1000000 in
theorem count_ok (a : Option Addr) (ys : List Int) (cap : Nat) (w : World) (hR : Row w a ys) (hl : ys.length ≤ 9223372036854775807) :
    Calls Tryz.prog 148 #[.slice a ys.length cap] w fun e w' => e = .returned (.tuple #[.agg (arrL (cArr (may ys) ys)).toArray, .int .i64 (cond (may ys) 0 300)]) ∧ Keeps (fun _ => False) w w' := by
  by_cases hn : 1 ≤ ys.length ∧ ys.length ≤ 288
  · obtain ⟨b, off, rfl, hb, hc⟩ := hR.spot (by omega)
    obtain ⟨n, hn'⟩ : ∃ n, ys.length = n := ⟨_, rfl⟩
    have HC : Hid (∀ i (h : i < ys.length), w.cell? ⟨b, off + i, none⟩ = some (.int .i64 ys[i])) := hc
    have HN : Hid (ys.length = n) := hn'
    rw [hn'] at hn ⊢
    clear hR hl hc hn'
    have hn1 : ¬ ((n : Int) < 1) := by omega
    have hn2 : ¬ (288 < (n : Int)) := by omega
    go_enter Tryz.func148, Tryz.ntmps148
    go_wp2_with (first
      | (refine wpList_alloc16 rfl rfl ?_; (fail_if_success (clear hA1)); intro b1 w1 hA1 hK1 hb1)
      | (refine wpList_alloc16 rfl rfl ?_; intro b2 w2 hA2 hK2 hb2))
    have HE : Hid (b1 ≠ b2 ∧ w.heap.size ≤ b1 ∧ w.heap.size ≤ b2) := by
      have e1 := hK1.size; have e2 := hK2.size; have l1 := hA1.lt; have l2 := hA2.lt
      show _ ∧ _; omega
    have HW : Hid (Arr w2 b1 (fun _ => 0) ∧ Arr w2 b2 (cn (ys.take 0)) ∧ Keeps (fun _ => False) w w2) :=
      ⟨hA1.kept hK2 (fun h => h), hA2.congr cn_nil, hK1.trans hK2 (fun _ _ h => h)⟩
    clear hA1 hA2 hK1 hK2 hb1 hb2
    go_loopw [18] (fun s18 w' => ∃ i : Nat, i ≤ n ∧ s18 = .int .i64 (i : Int) ∧ Hid (Arr w' b1 (fun _ => 0) ∧ Arr w' b2 (cn (ys.take i)) ∧ Keeps (fun _ => False) w w') ∧ Hid ((ys.take i).all fine = true)) (fun s18 w' => ((n : Int) - intOf s18).toNat)
    case atStart => exact ⟨0, by omega, rfl, HW, rfl⟩
    case round =>
      clear HW
      obtain ⟨i, hi, rfl, HW, HF⟩ := hrel
      by_cases hin : i < n
      · have hiz : (i : Int) < (n : Int) := by omega
        have hil : i < ys.length := by rw [HN.out]; exact hin
        obtain ⟨y, hy⟩ : ∃ y, ys[i] = y := ⟨_, rfl⟩
        have hcell : wr.cell? ⟨b, off + i, none⟩ = some (.int .i64 y) := by
          rw [World.cell?_of_block (HW.out.2.2.block b hb (fun h => h)), HC.out i hil, hy]
        have HY : Hid (ys[i] = y) := hy
        clear hy
        by_cases hbad : y < 0 ∨ 15 < y
        · have hmb : may ys = false := may_bad i hil (by rw [HY.out]; exact hbad)
          have HM : Hid (may ys = false) := hmb
          have hA := HW.out.1
          have hK : Hid (Keeps (fun _ => False) w wr) := HW.out.2.2
          clear hmb HW
          rcases hbad with hbad | hbad
          all_goals (try (have hge : ¬ y < 0 := by omega))
          all_goals
            go_wp2_with (first
              | (refine wpList_store16 rfl _ _ rfl _ (fun _ => 0) rfl rfl (fun _ => 0) ?hA ?_; (case hA => assumption); intro w4 hA4 hK4))
          all_goals (try simp only [Exit.inBlock, Exit.then])
          all_goals refine bodyPost_ret (v := .tuple #[.agg (arrL (fun _ => 0)).toArray, .int .i64 300]) ?_ rfl ⟨by rw [HM.out]; rfl, hK.out.trans hK4 (fun i hi h => by have := HE.out; subst h; exact absurd hi (by omega))⟩
          all_goals
            rw [results_cell_tmp rfl]
            simp [asAddr, Result.andThen, hA4.loadVar]
        · have hy0 : ¬ y < 0 := by omega
          have hy15 : ¬ 15 < y := by omega
          have HF' : Hid ((ys.take (i + 1)).all fine = true) := by
            show _ = _
            rw [take_snoc ys i hil, List.all_append, HF.out, HY.out]
            simp [fine]; omega
          obtain ⟨c, rfl⟩ : ∃ c : Nat, y = (c : Int) := ⟨y.toNat, by omega⟩
          by_cases hp : 0 < c
          · have hpz : 0 < (c : Int) := by omega
            have hc16 : (c : Int) < 16 := by omega
            have hcb := HW.out.2.1.cell c (by omega)
            have hcf := HW.out.2.1.free c
            have hle := cn_le (ys.take i) c
            have hlt : (ys.take i).length ≤ 288 := by rw [List.length_take]; omega
            obtain ⟨q, hq⟩ : ∃ q, cn (ys.take i) c = q := ⟨_, rfl⟩
            rw [hq] at hcb hle
            have hwq : wrap64 ((q : Int) + 1) = ((q + 1 : Nat) : Int) := by rw [wrap64_small _ (by omega) (by omega)]; push_cast; rfl
            have hwq' : IntKind.i64.wrap ((q : Int) + 1) = ((q + 1 : Nat) : Int) := by rw [wrap_i64_small _ (by omega) (by omega)]; push_cast; rfl
            have HQ : Hid (cn (ys.take i) c = q) := hq
            clear hq hle hlt
            go_wp2
            go_roundw
            case rel =>
              refine ⟨i + 1, by omega, by push_cast; rfl, ?_, HF'⟩
              obtain ⟨g1, g2, g3⟩ := HW.out
              obtain ⟨n1, n2, n3⟩ := HE.out
              have kk : Keeps (fun k => k = b2) wr (wr.setCell ⟨b2, c, none⟩ (.int .i64 ((q : Int) + 1))) := Keeps.setCell (S := fun k => k = b2) (Keeps.refl _ wr) (p := ⟨b2, c, none⟩) (fun _ => rfl) _
              refine ⟨g1.kept kk n1, ?_, g3.trans kk (fun i hi h => by subst h; exact absurd hi (by omega))⟩
              rw [take_snoc ys i hil, HY.out]
              have := (g2.set c (q + 1) (by omega)).congr (by rw [← HQ.out]; exact cn_pos (ys.take i) c hp)
              exact this
            case measure => simp [intOf]; omega
          · obtain rfl : c = 0 := by omega
            go_wp2
            go_roundw
            case rel =>
              refine ⟨i + 1, by omega, by push_cast; rfl, ?_, HF'⟩
              obtain ⟨g1, g2, g3⟩ := HW.out
              refine ⟨g1, ?_, g3⟩
              rw [take_snoc ys i hil, HY.out]
              exact g2.congr (cn_zero (ys.take i))
            case measure => simp [intOf]; omega
      · obtain rfl : i = n := by omega
        have hmt : may ys = true := by
          have := HF.out
          rw [List.take_of_length_le (by rw [HN.out]; omega)] at this
          unfold may; rw [this, HN.out]; simp; omega
        have HM : Hid (may ys = true) := hmt
        have hA := HW.out.1
        have hA2 : Arr wr b2 (cn ys) := by
          have := HW.out.2.1
          rw [List.take_of_length_le (by rw [HN.out]; omega)] at this
          exact this
        have hK : Hid (Keeps (fun _ => False) w wr) := HW.out.2.2
        clear hmt HW HF
        go_wp2_with (first
          | (refine wpList_load16 rfl _ rfl _ rfl (cn ys) ?hA ?_; (case hA => assumption))
          | (refine wpList_store16 rfl _ _ rfl _ (cn ys) rfl rfl (fun _ => 0) ?hA ?_; (case hA => assumption); intro w4 hA4 hK4))
        (try simp only [Exit.inBlock, Exit.then])
        refine bodyPost_ret (v := .tuple #[.agg (arrL (cn ys)).toArray, .int .i64 0]) ?_ rfl ⟨by rw [HM.out]; rfl, hK.out.trans hK4 (fun i hi h => by have := HE.out; subst h; exact absurd hi (by omega))⟩
        rw [results_cell_tmp rfl]
        simp [asAddr, Result.andThen, hA4.loadVar]
  · have hmb : may ys = false := by
      cases hm : may ys
      · rfl
      · exact absurd (may_len hm) hn
    have HM : Hid (may ys = false) := hmb
    clear hmb
    obtain ⟨n, hn'⟩ : ∃ n, ys.length = n := ⟨_, rfl⟩
    rw [hn'] at hn hl ⊢
    clear hn'
    have hcs : (n : Int) < 1 ∨ (¬ (n : Int) < 1 ∧ 288 < (n : Int)) := by omega
    rcases hcs with hcs | ⟨hcs1, hcs2⟩
    all_goals
      go_enter Tryz.func148, Tryz.ntmps148
      go_wp2_with (first
        | (refine wpList_alloc16 rfl rfl ?_; (fail_if_success (clear hA1)); intro b1 w1 hA1 hK1 hb1)
        | (refine wpList_alloc16 rfl rfl ?_; intro b2 w2 hA2 hK2 hb2; have hA3 := hA1.kept hK2 (fun h => h))
        | (refine wpList_store16 rfl _ _ rfl _ (fun _ => 0) rfl rfl (fun _ => 0) ?hA ?_; (case hA => assumption); intro w4 hA4 hK4))
      (try simp only [Exit.inBlock, Exit.then])
      refine bodyPost_ret (v := .tuple #[.agg (arrL (fun _ => 0)).toArray, .int .i64 300]) ?_ rfl ⟨by rw [HM.out]; rfl, (hK1.trans hK2 (fun _ _ h => h)).trans hK4 (fun i hi h => by subst h; exact absurd hi (by omega))⟩
      rw [results_cell_tmp rfl]
      simp [asAddr, Result.andThen, hA4.loadVar]

theorem cArr_le (t : Bool) (ys : List Int) (h : t = true → ys.length ≤ 288) : ∀ i, cArr t ys i ≤ 288 := by
  intro i
  cases t
  · exact Nat.zero_le _
  · exact Nat.le_trans (cn_le ys i) (h rfl)

def fits (ys : List Int) : Bool := may ys && decide (room ys ≤ 32768)
theorem fits_true {ys : List Int} (h : fits ys = true) : may ys = true ∧ room ys ≤ 32768 := by
  simp only [fits, Bool.and_eq_true, decide_eq_true_eq] at h; exact h
theorem errF_fits {ys : List Int} : errF ys = 0 ↔ fits ys = true := by
  unfold errF fits
  cases may ys <;> simp
  by_cases h : 32768 < room ys <;> simp [h] <;> omega

set_option maxHeartbeats 4000000 in
set_option maxRecDepth 1000000 in
theorem fitting_ok (a : Option Addr) (ys : List Int) (cap : Nat) (w : World) (hR : Row w a ys) (hl : ys.length ≤ 9223372036854775807) :
    Calls Tryz.prog 144 #[.slice a ys.length cap] w fun e w' => e = .returned (.tuple #[.agg (arrL (cArr (fits ys) ys)).toArray, .int .i64 (errF ys)]) ∧ Keeps (fun _ => False) w w' := by
  have HR : Hid (Row w a ys) := hR
  clear hR
  generalize hL : ys.length = L at *
  have HL : Hid (ys.length = L) := hL
  clear hL
  have HC : Hid (∀ w', Keeps (fun _ => False) w w' → Calls Tryz.prog 148 #[.slice a L cap] w' fun e w'' => e = .returned (.tuple #[.agg (arrL (cArr (may ys) ys)).toArray, .int .i64 (cond (may ys) 0 300)]) ∧ Keeps (fun _ => False) w' w'') := fun w' hk => by
    have := count_ok a ys cap w' (HR.out.keptF hk) (by rw [HL.out]; exact hl)
    rw [HL.out] at this; exact this
  obtain ⟨t, ht⟩ : ∃ t, may ys = t := ⟨_, rfl⟩
  obtain ⟨o, ho⟩ : ∃ o, (32768 < room ys) = o := ⟨_, rfl⟩
  have HT : Hid (may ys = t ∧ ((32768 < room ys) = o)) := ⟨ht, ho⟩
  rw [ht] at HC
  cases t
  · have HFf : Hid (fits ys = false ∧ errF ys = 300) := by refine ⟨?_, ?_⟩ <;> simp [fits, errF, ht]
    clear ht ho HT
    go_enter Tryz.func144, Tryz.ntmps144
    go_wp2_with (first
      | (refine wpList_alloc16 rfl rfl ?_; (fail_if_success (clear hA1)); intro b1 w1 hA1 hK1 hb1; have HK1 : Hid (Keeps (fun _ => False) w w1) := hK1; clear hK1)
      | (go_at_call 148; refine (HC.out _ HK1.out).mono ?_; rintro e w2 ⟨rfl, hK2⟩; have hA2 := hA1.kept hK2 (fun h => h); have HK2 : Hid (Keeps (fun _ => False) w w2) := HK1.out.trans hK2 (fun _ _ h => h); clear hA1 hK2)
      | (refine wpList_alloc16 rfl rfl ?_; intro b3 w3 hA3 hK3 hb3; have hb4 := hA2.lt; have hA2' := hA2.kept hK3 (fun h => h); have HK3 : Hid (Keeps (fun _ => False) w w3) := HK2.out.trans hK3 (fun _ _ h => h); have HS : Hid (w.heap.size ≤ b3) := (by have := HK2.out.size; show _ ≤ _; omega); clear hK3 hA2)
      | (refine wpList_store16 rfl _ _ rfl b3 (cArr false ys) rfl rfl (fun _ => 0) ?hA ?_; (case hA => assumption); intro w4 hA4 hK4; have hA5 := hA2'.kept hK4 (by omega); have HK4 : Hid (Keeps (fun _ => False) w w4) := HK3.out.trans hK4 (fun i hi h => by have := HS.out; subst h; exact absurd hi (by omega)); clear hK4)
      | (refine wpList_load16 rfl _ rfl _ rfl (cArr false ys) ?hA ?_; (case hA => assumption))
      | (refine wpList_store16 rfl _ _ rfl b1 (cArr false ys) rfl rfl (fun _ => 0) ?hA ?_; (case hA => assumption); intro w5 hA6 hK5))
    (try simp only [Exit.inBlock, Exit.then])
    refine bodyPost_ret (v := .tuple #[.agg (arrL (cArr false ys)).toArray, .int .i64 300]) ?_ rfl ⟨by rw [HFf.out.1, HFf.out.2], HK4.out.trans hK5 (fun i hi h => by subst h; exact absurd hi (by omega))⟩
    rw [results_cell_tmp rfl]
    simp [asAddr, Result.andThen, hA6.loadVar]
  · have hle : ∀ i, cArr true ys i ≤ 288 := cArr_le true ys (fun _ => (may_len ht).2)
    have HCr : Hid (∀ w', Calls Tryz.prog 149 #[.agg (arrL (cArr true ys)).toArray] w' fun e w'' => e = .returned (.int .i64 (room ys : Nat)) ∧ Keeps (fun _ => False) w' w'') := fun w' => room_ok (cArr true ys) w' hle
    clear hle
    have HFg : Hid ((32768 < room ys → fits ys = false ∧ errF ys = 301) ∧ (¬ 32768 < room ys → fits ys = true ∧ errF ys = 0)) := by
      refine ⟨fun h => ?_, fun h => ?_⟩
      · simp [fits, errF, ht, h]
      · simp [fits, errF, ht, h]; omega
    generalize room ys = r at *
    by_cases hr : 32768 < r
    · have hrz : 32768 < (r : Int) := by omega
      have HFf : Hid (fits ys = false ∧ errF ys = 301) := HFg.out.1 hr
      clear ht ho HT HFg
      go_enter Tryz.func144, Tryz.ntmps144
      go_wp2_with (first
        | (refine wpList_alloc16 rfl rfl ?_; (fail_if_success (clear hA1)); intro b1 w1 hA1 hK1 hb1; have HK1 : Hid (Keeps (fun _ => False) w w1) := hK1; clear hK1)
        | (go_at_call 148; refine (HC.out _ HK1.out).mono ?_; rintro e w2 ⟨rfl, hK2⟩; have hA2 := hA1.kept hK2 (fun h => h); have HK2 : Hid (Keeps (fun _ => False) w w2) := HK1.out.trans hK2 (fun _ _ h => h); clear hA1 hK2)
        | (refine wpList_alloc16 rfl rfl ?_; intro b3 w3 hA3 hK3 hb3; have hb4 := hA2.lt; have hA2' := hA2.kept hK3 (fun h => h); have HK3 : Hid (Keeps (fun _ => False) w w3) := HK2.out.trans hK3 (fun _ _ h => h); have HS : Hid (w.heap.size ≤ b3) := (by have := HK2.out.size; show _ ≤ _; omega); clear hK3 hA2)
        | (refine wpList_store16 rfl _ _ rfl b3 (cArr true ys) rfl rfl (fun _ => 0) ?hA ?_; (case hA => assumption); intro w4 hA4 hK4; have hA5 := hA2'.kept hK4 (by omega); have HK4 : Hid (Keeps (fun _ => False) w w4) := HK3.out.trans hK4 (fun i hi h => by have := HS.out; subst h; exact absurd hi (by omega)); clear hK4)
        | (refine wpList_load16w _ rfl _ rfl rfl (cArr true ys) ?hA ?_; (case hA => assumption))
        | (go_at_call 149; refine (HCr.out _).mono ?_; rintro e w5 ⟨rfl, hK5⟩; have hA7 := hA5.kept hK5 (fun h => h); have hA8 := hA4.kept hK5 (fun h => h); have HK5 : Hid (Keeps (fun _ => False) w w5) := HK4.out.trans hK5 (fun _ _ h => h); clear hA4 hA5 hK5)
        | (refine wpList_store16 rfl _ _ rfl b1 (fun _ => 0) rfl rfl (fun _ => 0) ?hA ?_; (case hA => assumption); intro w6 hA9 hK6))
      (try simp only [Exit.inBlock, Exit.then])
      refine bodyPost_ret (v := .tuple #[.agg (arrL (fun _ => 0)).toArray, .int .i64 301]) ?_ rfl ⟨by rw [HFf.out.1, HFf.out.2] <;> rfl, HK5.out.trans hK6 (fun i hi h => by subst h; exact absurd hi (by omega))⟩
      rw [results_cell_tmp rfl]
      simp [asAddr, Result.andThen, hA9.loadVar]
    · have hrz : ¬ 32768 < (r : Int) := by omega
      have HFf : Hid (fits ys = true ∧ errF ys = 0) := HFg.out.2 hr
      clear ht ho HT HFg
      go_enter Tryz.func144, Tryz.ntmps144
      go_wp2_with (first
        | (refine wpList_alloc16 rfl rfl ?_; (fail_if_success (clear hA1)); intro b1 w1 hA1 hK1 hb1; have HK1 : Hid (Keeps (fun _ => False) w w1) := hK1; clear hK1)
        | (go_at_call 148; refine (HC.out _ HK1.out).mono ?_; rintro e w2 ⟨rfl, hK2⟩; have hA2 := hA1.kept hK2 (fun h => h); have HK2 : Hid (Keeps (fun _ => False) w w2) := HK1.out.trans hK2 (fun _ _ h => h); clear hA1 hK2)
        | (refine wpList_alloc16 rfl rfl ?_; intro b3 w3 hA3 hK3 hb3; have hb4 := hA2.lt; have hA2' := hA2.kept hK3 (fun h => h); have HK3 : Hid (Keeps (fun _ => False) w w3) := HK2.out.trans hK3 (fun _ _ h => h); have HS : Hid (w.heap.size ≤ b3) := (by have := HK2.out.size; show _ ≤ _; omega); clear hK3 hA2)
        | (refine wpList_store16 rfl _ _ rfl b3 (cArr true ys) rfl rfl (fun _ => 0) ?hA ?_; (case hA => assumption); intro w4 hA4 hK4; have hA5 := hA2'.kept hK4 (by omega); have HK4 : Hid (Keeps (fun _ => False) w w4) := HK3.out.trans hK4 (fun i hi h => by have := HS.out; subst h; exact absurd hi (by omega)); clear hK4)
        | (refine wpList_load16 rfl _ rfl _ rfl (cArr true ys) ?hA ?_; (case hA => assumption))
        | (refine wpList_load16w _ rfl _ rfl rfl (cArr true ys) ?hA ?_; (case hA => assumption))
        | (go_at_call 149; refine (HCr.out _).mono ?_; rintro e w5 ⟨rfl, hK5⟩; have hA7 := hA5.kept hK5 (fun h => h); have hA8 := hA4.kept hK5 (fun h => h); have HK5 : Hid (Keeps (fun _ => False) w w5) := HK4.out.trans hK5 (fun _ _ h => h); clear hA4 hA5 hK5)
        | (refine wpList_store16 rfl _ _ rfl b1 (cArr true ys) rfl rfl (fun _ => 0) ?hA ?_; (case hA => assumption); intro w6 hA9 hK6))
      (try simp only [Exit.inBlock, Exit.then])
      refine bodyPost_ret (v := .tuple #[.agg (arrL (cArr true ys)).toArray, .int .i64 0]) ?_ rfl ⟨by rw [HFf.out.1, HFf.out.2] <;> rfl, HK5.out.trans hK6 (fun i hi h => by subst h; exact absurd hi (by omega))⟩
      rw [results_cell_tmp rfl]
      simp [asAddr, Result.andThen, hA9.loadVar]

end Go.Proofs.YtfbghchgfbjogaaGreat.Hf

namespace Go.Proofs.YtfbghchgfbjogaaGreat.Hf
open Go.RowKit
set_option linter.unusedVariables false
set_option linter.unusedSimpArgs false

theorem num_any (n : Int) (w : World) : Calls Tryz.prog 11 #[.int .i64 n] w fun e w' => e = .returned (.int .i64 n) ∧ w' = w := by
  go_enter Tryz.func11, Tryz.ntmps11
  go_wp2
  go_ret
  exact ⟨rfl, rfl⟩

set_option maxHeartbeats 4000000 in
set_option maxRecDepth 1000000 in
theorem check_ok (a : Option Addr) (ys : List Int) (cap : Nat) (w : World) (hR : Row w a ys) (hl : ys.length ≤ 9223372036854775807) :
    Calls Tryz.prog 141 #[.slice a ys.length cap] w fun e w' => e = .returned (.int .i64 (errC ys)) ∧ Keeps (fun _ => False) w w' := by
  have HC : Hid (Calls Tryz.prog 148 #[.slice a ys.length cap] w fun e w'' => e = .returned (.tuple #[.agg (arrL (cArr (may ys) ys)).toArray, .int .i64 (cond (may ys) 0 300)]) ∧ Keeps (fun _ => False) w w'') := count_ok a ys cap w hR hl
  clear hR
  generalize ys.length = L at *
  cases ht : may ys
  · rw [ht] at HC
    have HE : Hid (errC ys = 300) := by show _ = _; simp [errC, ht]
    clear ht
    go_enter Tryz.func141, Tryz.ntmps141
    go_wp2_with (first
      | (go_at_call 148; refine HC.out.mono ?_; rintro e w2 ⟨rfl, hK2⟩; have HK2 : Hid (Keeps (fun _ => False) w w2) := hK2; clear hK2)
      | (refine wpList_alloc16 rfl rfl ?_; intro b3 w3 hA3 hK3 hb3; have HK3 : Hid (Keeps (fun _ => False) w w3) := HK2.out.trans hK3 (fun _ _ h => h); have HS : Hid (w.heap.size ≤ b3) := (by have := HK2.out.size; show _ ≤ _; omega); clear hK3)
      | (refine wpList_store16 rfl _ _ rfl b3 (cArr false ys) rfl rfl (fun _ => 0) ?hA ?_; (case hA => assumption); intro w4 hA4 hK4; have HK4 : Hid (Keeps (fun _ => False) w w4) := HK3.out.trans hK4 (fun i hi h => by have := HS.out; subst h; exact absurd hi (by omega)); clear hK4))
    go_ret
    exact ⟨by rw [HE.out]; rfl, HK4.out⟩
  · rw [ht] at HC
    have hle : ∀ i, cArr true ys i ≤ 288 := cArr_le true ys (fun _ => (may_len ht).2)
    have HCr : Hid (∀ w', Calls Tryz.prog 149 #[.agg (arrL (cArr true ys)).toArray] w' fun e w'' => e = .returned (.int .i64 (room ys : Nat)) ∧ Keeps (fun _ => False) w' w'') := fun w' => room_ok (cArr true ys) w' hle
    have HE : Hid (errC ys = cond (decide (32768 < room ys)) 301 (cond (decide (room ys < 32768)) 302 0)) := by show _ = _; simp [errC, ht]
    clear hle ht
    generalize room ys = r at *
    have hcs : (32768 < (r : Int)) ∨ (¬ (32768 < (r : Int)) ∧ (r : Int) < 32768) ∨ (¬ (32768 < (r : Int)) ∧ ¬ (r : Int) < 32768) := by omega
    rcases hcs with h1 | ⟨h1, h2⟩ | ⟨h1, h2⟩
    · go_enter Tryz.func141, Tryz.ntmps141
      go_wp2_with (first
        | (go_at_call 148; refine HC.out.mono ?_; rintro e w2 ⟨rfl, hK2⟩; have HK2 : Hid (Keeps (fun _ => False) w w2) := hK2; clear hK2)
        | (refine wpList_alloc16 rfl rfl ?_; intro b3 w3 hA3 hK3 hb3; have HK3 : Hid (Keeps (fun _ => False) w w3) := HK2.out.trans hK3 (fun _ _ h => h); have HS : Hid (w.heap.size ≤ b3) := (by have := HK2.out.size; show _ ≤ _; omega); clear hK3)
        | (refine wpList_store16 rfl _ _ rfl b3 (cArr true ys) rfl rfl (fun _ => 0) ?hA ?_; (case hA => assumption); intro w4 hA4 hK4; have HK4 : Hid (Keeps (fun _ => False) w w4) := HK3.out.trans hK4 (fun i hi h => by have := HS.out; subst h; exact absurd hi (by omega)); clear hK4)
        | (refine wpList_load16 rfl _ rfl _ rfl (cArr true ys) ?hA ?_; (case hA => assumption))
        | (go_at_call 149; (fail_if_success (clear HK5)); refine (HCr.out _).mono ?_; rintro e w5 ⟨rfl, hK5⟩; have hA7 := hA4.kept hK5 (fun h => h); have HK5 : Hid (Keeps (fun _ => False) w w5) := HK4.out.trans hK5 (fun _ _ h => h); clear hK5)
        | (go_at_call 149; refine (HCr.out _).mono ?_; rintro e w6 ⟨rfl, hK6⟩; have HK6 : Hid (Keeps (fun _ => False) w w6) := HK5.out.trans hK6 (fun _ _ h => h); clear hK6))
      go_ret
      exact ⟨by rw [HE.out, decide_eq_true (show 32768 < r by omega)]; rfl, HK5.out⟩
    · go_enter Tryz.func141, Tryz.ntmps141
      go_wp2_with (first
        | (go_at_call 148; refine HC.out.mono ?_; rintro e w2 ⟨rfl, hK2⟩; have HK2 : Hid (Keeps (fun _ => False) w w2) := hK2; clear hK2)
        | (refine wpList_alloc16 rfl rfl ?_; intro b3 w3 hA3 hK3 hb3; have HK3 : Hid (Keeps (fun _ => False) w w3) := HK2.out.trans hK3 (fun _ _ h => h); have HS : Hid (w.heap.size ≤ b3) := (by have := HK2.out.size; show _ ≤ _; omega); clear hK3)
        | (refine wpList_store16 rfl _ _ rfl b3 (cArr true ys) rfl rfl (fun _ => 0) ?hA ?_; (case hA => assumption); intro w4 hA4 hK4; have HK4 : Hid (Keeps (fun _ => False) w w4) := HK3.out.trans hK4 (fun i hi h => by have := HS.out; subst h; exact absurd hi (by omega)); clear hK4)
        | (refine wpList_load16 rfl _ rfl _ rfl (cArr true ys) ?hA ?_; (case hA => assumption))
        | (go_at_call 149; (fail_if_success (clear HK5)); refine (HCr.out _).mono ?_; rintro e w5 ⟨rfl, hK5⟩; have hA7 := hA4.kept hK5 (fun h => h); have HK5 : Hid (Keeps (fun _ => False) w w5) := HK4.out.trans hK5 (fun _ _ h => h); clear hK5)
        | (go_at_call 149; refine (HCr.out _).mono ?_; rintro e w6 ⟨rfl, hK6⟩; have HK6 : Hid (Keeps (fun _ => False) w w6) := HK5.out.trans hK6 (fun _ _ h => h); clear hK6))
      go_ret
      exact ⟨by rw [HE.out, decide_eq_false (show ¬ 32768 < r by omega), decide_eq_true (show r < 32768 by omega)]; rfl, HK6.out⟩
    · go_enter Tryz.func141, Tryz.ntmps141
      go_wp2_with (first
        | (go_at_call 148; refine HC.out.mono ?_; rintro e w2 ⟨rfl, hK2⟩; have HK2 : Hid (Keeps (fun _ => False) w w2) := hK2; clear hK2)
        | (refine wpList_alloc16 rfl rfl ?_; intro b3 w3 hA3 hK3 hb3; have HK3 : Hid (Keeps (fun _ => False) w w3) := HK2.out.trans hK3 (fun _ _ h => h); have HS : Hid (w.heap.size ≤ b3) := (by have := HK2.out.size; show _ ≤ _; omega); clear hK3)
        | (refine wpList_store16 rfl _ _ rfl b3 (cArr true ys) rfl rfl (fun _ => 0) ?hA ?_; (case hA => assumption); intro w4 hA4 hK4; have HK4 : Hid (Keeps (fun _ => False) w w4) := HK3.out.trans hK4 (fun i hi h => by have := HS.out; subst h; exact absurd hi (by omega)); clear hK4)
        | (refine wpList_load16 rfl _ rfl _ rfl (cArr true ys) ?hA ?_; (case hA => assumption))
        | (go_at_call 149; (fail_if_success (clear HK5)); refine (HCr.out _).mono ?_; rintro e w5 ⟨rfl, hK5⟩; have hA7 := hA4.kept hK5 (fun h => h); have HK5 : Hid (Keeps (fun _ => False) w w5) := HK4.out.trans hK5 (fun _ _ h => h); clear hK5)
        | (go_at_call 149; refine (HCr.out _).mono ?_; rintro e w6 ⟨rfl, hK6⟩; have HK6 : Hid (Keeps (fun _ => False) w w6) := HK5.out.trans hK6 (fun _ _ h => h); clear hK6))
      go_ret
      exact ⟨by rw [HE.out, decide_eq_false (show ¬ 32768 < r by omega), decide_eq_false (show ¬ r < 32768 by omega)]; rfl, HK6.out⟩

end Go.Proofs.YtfbghchgfbjogaaGreat.Hf

namespace Go.Proofs.YtfbghchgfbjogaaGreat.Hf
open Go.RowKit
set_option linter.unusedVariables false
set_option linter.unusedSimpArgs false

/-- Block g is a row of n codes. -/
def Cds (w : World) (g n : Nat) (f : Nat → Int × Int) : Prop :=
  ∃ cs : Array Value, w.heap[g]? = some (.cells cs 115 (0, 0)) ∧ cs.size = n * 2 ∧ ∀ i, i < n → cs[i * 2]? = some (.int .i64 (f i).1) ∧ cs[i * 2 + 1]? = some (.int .i64 (f i).2)
theorem Cds.lt {w : World} {g n : Nat} {f : Nat → Int × Int} (h : Cds w g n f) : g < w.heap.size := by obtain ⟨cs, h1, _⟩ := h; exact lt_of_heap h1
theorem Cds.bits {w : World} {g n : Nat} {f : Nat → Int × Int} (h : Cds w g n f) (i : Nat) (hi : i < n) : w.cell? ⟨g, i * 2, none⟩ = some (.int .i64 (f i).1) := by
  obtain ⟨cs, h1, h2, h3⟩ := h; exact cell_of_heap h1 (h3 i hi).1
theorem Cds.value {w : World} {g n : Nat} {f : Nat → Int × Int} (h : Cds w g n f) (i : Nat) (hi : i < n) : w.cell? ⟨g, i * 2 + 1, none⟩ = some (.int .i64 (f i).2) := by
  obtain ⟨cs, h1, h2, h3⟩ := h; exact cell_of_heap h1 (h3 i hi).2
theorem Cds.free {w : World} {g n : Nat} {f : Nat → Int × Int} (h : Cds w g n f) (i : Nat) : w.frozen? ⟨g, i, none⟩ = false := by
  obtain ⟨cs, h1, _⟩ := h; exact frozen_of_heap h1
theorem Cds.kept {S : Nat → Prop} {w w' : World} {g n : Nat} {f : Nat → Int × Int} (h : Cds w g n f) (hk : Keeps S w w') (hg : ¬ S g) : Cds w' g n f := by
  obtain ⟨cs, h1, r⟩ := h; exact ⟨cs, (hk.block g (lt_of_heap h1) hg).trans h1, r⟩
theorem Cds.congr {w : World} {g n : Nat} {f f' : Nat → Int × Int} (h : Cds w g n f) (e : ∀ i, i < n → f i = f' i) : Cds w g n f' := by
  obtain ⟨cs, h1, h2, h3⟩ := h; exact ⟨cs, h1, h2, fun i hi => by rw [← e i hi]; exact h3 i hi⟩
/-- The i-th code's bits are written. -/
theorem Cds.setBits {w : World} {g n : Nat} {f : Nat → Int × Int} (h : Cds w g n f) (i : Nat) (hi : i < n) (x : Int) : Cds (w.setCell ⟨g, i * 2, none⟩ (.int .i64 x)) g n (fun j => if j = i then (x, (f j).2) else f j) := by
  obtain ⟨cs, h1, h2, h3⟩ := h
  refine ⟨_, heap_setCell_same h1 _, by simp [h2], fun j hj => ?_⟩
  obtain ⟨c1, c2⟩ := h3 j hj
  rw [Array.getElem?_setIfInBounds, Array.getElem?_setIfInBounds, if_neg (show ¬ i * 2 = j * 2 + 1 by omega), c2]
  by_cases e : j = i
  · subst e; simp [h2, hi]
  · rw [if_neg (by omega), c1]; simp [e]
theorem Cds.setValue {w : World} {g n : Nat} {f : Nat → Int × Int} (h : Cds w g n f) (i : Nat) (hi : i < n) (x : Int) : Cds (w.setCell ⟨g, i * 2 + 1, none⟩ (.int .i64 x)) g n (fun j => if j = i then ((f j).1, x) else f j) := by
  obtain ⟨cs, h1, h2, h3⟩ := h
  refine ⟨_, heap_setCell_same h1 _, by simp [h2], fun j hj => ?_⟩
  obtain ⟨c1, c2⟩ := h3 j hj
  rw [Array.getElem?_setIfInBounds, Array.getElem?_setIfInBounds, if_neg (show ¬ i * 2 + 1 = j * 2 by omega), c1]
  by_cases e : j = i
  · subst e; simp [h2, hi]; omega
  · rw [if_neg (by omega), c2]; simp [e]
set_option maxRecDepth 1000000 in
theorem Cds.made (w : World) (n : Nat) (hn : n ≤ 1000000) : ∃ w1, (Instr.makeSlice 103 (.int .i64 (n : Int)) (.int .i64 (n : Int))).run Tryz.prog w = .ok (.slice (some ⟨w.heap.size, 0, none⟩) n n) w1 ∧ Cds w1 w.heap.size n (fun _ => (0, 0)) ∧ Keeps (fun _ => False) w w1 := by
  obtain ⟨i, hi, h1, h2, h3⟩ : ∃ i, Tryz.prog.info? 115 = some i ∧ i.zero = some (.agg #[.int .i64 0, .int .i64 0]) ∧ i.bytes = 16 ∧ i.size = 2 := ⟨Tryz.t115, Tryz.type115, rfl, rfl, rfl⟩
  have hr := run_make (P := Tryz.prog) w 103 115 i _ Tryz.underlying103 hi h1 .i64 .i64 n n (by omega) (by omega) (by rw [h2]; omega) (by omega)
  refine ⟨_, by simpa using hr, ⟨_, heap_alloc_new _ _, ?_, ?_⟩, (Keeps.refl _ w).alloc _⟩
  · simp [madeCells, h3]
  · intro j hj
    simp only [madeCells, h3, Value.cells]
    refine ⟨?_, ?_⟩
    · rw [Array.getElem?_map, Array.getElem?_range]
      rw [if_pos (by omega)]
      simp [show (j * 2) % 2 = 0 by omega]
    · rw [Array.getElem?_map, Array.getElem?_range]
      rw [if_pos (by omega)]
      simp [show (j * 2 + 1) % 2 = 1 by omega]

theorem wpList_codes {ops : Array Oper} {rest : List Oper} {op : Oper} {a : Act} {w : World} {Q : Exit → Act → World → Prop} (hgd : op.guard = none) (l c : Operand) (ho : op.op = .makeSlice 103 l c) (n : Nat) (hl : a.eval l = .int .i64 (n : Int)) (hc : a.eval c = .int .i64 (n : Int)) (hn : n ≤ 1000000)
    (h : ∀ g w1, Cds w1 g n (fun _ => (0, 0)) → Keeps (fun _ => False) w w1 → w.heap.size ≤ g → wpList Tryz.prog ops Q rest (a.put op.dst (.slice (some ⟨g, 0, none⟩) n n)) w1) : wpList Tryz.prog ops Q (op :: rest) a w :=
  wpList_plain hgd fun _ hK => by
    obtain ⟨w1, hr, hC, hk⟩ := Cds.made w n hn
    unfold Oper.wp execOp
    simp only [ho, hl, hc, hr, Sem.run_bind, Sem.run_pure, Result.andThen_ok]
    exact hK _ _ (h w.heap.size _ hC hk (Nat.le_refl _))

theorem size43 : (Tryz.prog.info? 115).map (·.size) = some 2 := by kernel_rfl
theorem Cds.setBoth {w : World} {g n : Nat} {f : Nat → Int × Int} (h : Cds w g n f) (i : Nat) (hi : i < n) (x y : Int) : Cds (w.setCells g (i * 2) [.int .i64 x, .int .i64 y]) g n (fun j => if j = i then (x, y) else f j) := by
  show Cds ((w.setCell ⟨g, i * 2, none⟩ (.int .i64 x)).setCell ⟨g, i * 2 + 1, none⟩ (.int .i64 y)) g n _
  refine ((h.setBits i hi x).setValue i hi y).congr (fun j hj => ?_)
  by_cases e : j = i <;> simp [e]
theorem wpList_code {ops : Array Oper} {rest : List Oper} {op : Oper} {a : Act} {w : World} {Q : Exit → Act → World → Prop} (hgd : op.guard = none) (x y : Operand) (ho : op.op = .store 115 x y) (g i : Nat) (p q : Int) (hx : a.eval x = .pointer (some ⟨g, i * 2, none⟩)) (hy : a.eval y = .agg #[.int .i64 p, .int .i64 q]) (n : Nat) (f : Nat → Int × Int) (hC : Cds w g n f) (hi : i < n)
    (h : ∀ w1, Cds w1 g n (fun j => if j = i then (p, q) else f j) → Keeps (fun k => k = g) w w1 → wpList Tryz.prog ops Q rest (a.put op.dst undef) w1) : wpList Tryz.prog ops Q (op :: rest) a w :=
  wpList_store_mid hgd 115 x y ho g (i * 2) #[.int .i64 p, .int .i64 q] hx hy (fun j hj => by
      have hj' : j = 0 ∨ j = 1 := by simp at hj; omega
      rcases hj' with rfl | rfl
      · exact ⟨by rw [Nat.add_zero, hC.bits i hi]; rfl, hC.free _⟩
      · exact ⟨by rw [hC.value i hi]; rfl, hC.free _⟩) size43 (by simp [Value.oneCell']) (h _ (hC.setBoth i hi p q) (keeps_setCells (S := fun k => k = g) g (fun _ => rfl) _ _ _ (Keeps.refl _ w)))

def nextF (ys : List Int) (i : Nat) : Nat → Nat := fun k => fstC (cn ys) k + cn (ys.take i) k
/-- The code of symbol j. -/
def codeF (ys : List Int) (j : Nat) : Int × Int := (at_ ys j, (codeV ys j : Int))
def codeTo (ys : List Int) (i : Nat) : Nat → Int × Int := fun j => if j < i then codeF ys j else (0, 0)

theorem nextF_zero (ys : List Int) (i : Nat) (hi : i < ys.length) (h : at_ ys i = ((0 : Nat) : Int)) : ∀ k, k < 16 → nextF ys i k = nextF ys (i + 1) k := by
  intro k hk
  unfold nextF
  rw [at_eq i hi] at h
  rw [take_snoc ys i hi, h]
  have := cn_zero (ys.take i) k hk
  simpa using this
theorem nextF_pos (ys : List Int) (i c : Nat) (hi : i < ys.length) (hc : 0 < c) (h : at_ ys i = (c : Int)) (q : Nat) (hq : nextF ys i c = q) : ∀ k, k < 16 → upd (nextF ys i) c (q + 1) k = nextF ys (i + 1) k := by
  intro k hk
  rw [at_eq i hi] at h
  have e := cn_pos (ys.take i) c hc k hk
  have e2 : nextF ys (i + 1) k = fstC (cn ys) k + cn (ys.take i ++ [(c : Int)]) k := by unfold nextF; rw [take_snoc ys i hi, h]
  rw [e2, ← e, ← hq]
  unfold upd nextF
  by_cases hk' : k = c
  · subst hk'; simp; omega
  · rw [if_neg hk', if_neg hk']
theorem codeTo_zero (ys : List Int) (i j : Nat) (h : at_ ys i = ((0 : Nat) : Int)) : codeTo ys i j = codeTo ys (i + 1) j := by
  unfold codeTo
  by_cases h1 : j < i
  · rw [if_pos h1, if_pos (by omega)]
  · rw [if_neg h1]
    by_cases h2 : j = i
    · subst h2; rw [if_pos (by omega)]; simp [codeF, codeV, h]
    · rw [if_neg (by omega)]
theorem codeTo_pos (ys : List Int) (i c j : Nat) (hc : 0 < c) (h : at_ ys i = (c : Int)) (q : Nat) (hq : nextF ys i c = q) : (if j = i then ((c : Int), (q : Int)) else codeTo ys i j) = codeTo ys (i + 1) j := by
  unfold codeTo
  by_cases h1 : j < i
  · rw [if_neg (by omega), if_pos h1, if_pos (by omega)]
  · by_cases h2 : j = i
    · subst h2
      rw [if_pos rfl, if_pos (by omega)]
      unfold codeF codeV
      rw [h, decide_eq_true (by omega), cond_true, ← hq]
      unfold nextF cn
      rw [if_neg (by omega)]
      rfl
    · rw [if_neg h2, if_neg h1, if_neg (by omega)]

set_option maxHeartbeats 4000000 in
set_option maxRecDepth 1000000 in
theorem codes_good (a : Option Addr) (ys : List Int) (cap : Nat) (w : World) (hR : Row w a ys) (hl : ys.length ≤ 9223372036854775807) (ht : fits ys = true) :
    Calls Tryz.prog 136 #[.slice a ys.length cap] w fun e w' => ∃ g, e = .returned (.tuple #[.slice (some ⟨g, 0, none⟩) ys.length ys.length, .int .i64 0]) ∧ Keeps (fun _ => False) w w' ∧ w.heap.size ≤ g ∧ Cds w' g ys.length (codeF ys) := by
  have HC : Hid (Calls Tryz.prog 144 #[.slice a ys.length cap] w fun e w'' => e = .returned (.tuple #[.agg (arrL (cArr (fits ys) ys)).toArray, .int .i64 (errF ys)]) ∧ Keeps (fun _ => False) w w'') := fitting_ok a ys cap w hR hl
  have hm := (fits_true ht).1
  have hlen := may_len hm
  have he : errF ys = 0 := errF_fits.2 ht
  have hle : ∀ i, cArr true ys i ≤ 288 := cArr_le true ys (fun _ => (may_len hm).2)
  have HCr : Hid (∀ w', Calls Tryz.prog 145 #[.agg (arrL (cArr true ys)).toArray] w' fun e w'' => e = .returned (.agg (arrL (fstC (cn ys))).toArray) ∧ Keeps (fun _ => False) w' w'') := fun w' => firsts_ok (cArr true ys) w' hle
  rw [ht, he] at HC
  obtain ⟨b, off, rfl, hb, hc⟩ := hR.spot (by omega)
  have HCell : Hid (∀ i, i < ys.length → w.cell? ⟨b, off + i, none⟩ = some (.int .i64 (at_ ys i)) ∧ 0 ≤ at_ ys i ∧ at_ ys i ≤ 15) := fun i h => by rw [at_eq i h]; exact ⟨hc i h, may_at hm i h⟩
  have HM : Hid (may ys = true) := hm
  clear hc hm he hle hR ht hl
  generalize hL : ys.length = L at *
  have HL : Hid (ys.length = L) := hL
  clear hL
  go_enter Tryz.func136, Tryz.ntmps136
  go_wp2_with (first
    | (go_at_call 144; refine HC.out.mono ?_; rintro e w2 ⟨rfl, hK2⟩; have HK2 : Hid (Keeps (fun _ => False) w w2) := hK2; clear hK2)
    | (refine wpList_alloc16 rfl rfl ?_; (fail_if_success (clear HK3)); intro b3 w3 hA3 hK3 hb3; have HK3 : Hid (Keeps (fun _ => False) w w3) := HK2.out.trans hK3 (fun _ _ h => h); have HS : Hid (w.heap.size ≤ b3) := (by have := HK2.out.size; show _ ≤ _; omega); clear hK3)
    | (refine wpList_store16 rfl _ _ rfl b3 (cArr true ys) rfl rfl (fun _ => 0) ?hA ?_; (case hA => assumption); intro w4 hA4 hK4; have HK4 : Hid (Keeps (fun _ => False) w w4) := HK3.out.trans hK4 (fun i hi h => by have := HS.out; subst h; exact absurd hi (by omega)); clear hK4)
    | (refine wpList_load16 rfl _ rfl _ rfl (cArr true ys) ?hA ?_; (case hA => assumption))
    | (go_at_call 145; refine (HCr.out _).mono ?_; rintro e w5 ⟨rfl, hK5⟩; have HK5 : Hid (Keeps (fun _ => False) w w5) := HK4.out.trans hK5 (fun _ _ h => h); clear hK5)
    | (refine wpList_alloc16 rfl rfl ?_; intro b6 w6 hA6 hK6 hb6; have HK6 : Hid (Keeps (fun _ => False) w w6) := HK5.out.trans hK6 (fun _ _ h => h); have HS6 : Hid (w.heap.size ≤ b6) := (by have := HK5.out.size; show _ ≤ _; omega); clear hK6)
    | (refine wpList_store16 rfl _ _ rfl b6 (fstC (cn ys)) rfl rfl (fun _ => 0) ?hA ?_; (case hA => assumption); intro w7 hA7 hK7; have HK7 : Hid (Keeps (fun _ => False) w w7) := HK6.out.trans hK7 (fun i hi h => by have := HS6.out; subst h; exact absurd hi (by omega)); clear hK7)
    | (refine wpList_codes rfl _ _ rfl L rfl rfl ?hn ?_; (case hn => omega); intro g w8 hG hK8 hg8))
  have HE : Hid (b6 ≠ g ∧ w.heap.size ≤ b6 ∧ w.heap.size ≤ g) := by
    have e1 := hA7.lt; have e2 := HK7.out.size; have e3 := HS6.out
    show _ ∧ _; omega
  have HW : Hid (Arr w8 b6 (nextF ys 0) ∧ Cds w8 g L (codeTo ys 0) ∧ Keeps (fun _ => False) w w8) :=
    ⟨(hA7.kept hK8 (fun h => h)).congr (fun k hk => by simp [nextF, cn, cnt]), hG.congr (fun i _ => by simp [codeTo]), HK7.out.trans hK8 (fun _ _ h => h)⟩
  clear HC HCr HK2 hA3 hb3 HK3 HS hA4 HK4 HK5 hA6 hb6 HK6 HS6 hA7 HK7 hG hK8 hg8
  go_loopw [25] (fun s25 w' => ∃ i : Nat, i ≤ L ∧ s25 = .int .i64 (i : Int) ∧ Hid (Arr w' b6 (nextF ys i) ∧ Cds w' g L (codeTo ys i) ∧ Keeps (fun _ => False) w w')) (fun s25 w' => ((L : Int) - intOf s25).toNat)
  case atStart => exact ⟨0, by omega, rfl, HW⟩
  case round =>
    clear HW
    obtain ⟨i, hi, rfl, HW⟩ := hrel
    by_cases hin : i < L
    · have hiz : (i : Int) < (L : Int) := by omega
      obtain ⟨hcell0, hy0, hy15⟩ := HCell.out i hin
      have hcell : wr.cell? ⟨b, off + i, none⟩ = some (.int .i64 (at_ ys i)) := by
        rw [World.cell?_of_block (HW.out.2.2.block b hb (fun h => h))]; exact hcell0
      clear hcell0
      obtain ⟨c, hc⟩ : ∃ c : Nat, at_ ys i = (c : Int) := ⟨(at_ ys i).toNat, by omega⟩
      rw [hc] at hy0 hy15 hcell
      have HY : Hid (at_ ys i = (c : Int)) := hc
      clear hc
      by_cases hp : 0 < c
      · have hpz : 0 < (c : Int) := by omega
        have hc16 : (c : Int) < 16 := by omega
        have hcb := HW.out.1.cell c (by omega)
        have hcf := HW.out.1.free c
        obtain ⟨q, hq⟩ : ∃ q, nextF ys i c = q := ⟨_, rfl⟩
        rw [hq] at hcb
        have HQ : Hid (nextF ys i c = q) := hq
        clear hq
        have hqs : q ≤ 20000000 := by
          have h1 := fstC_small ys (by rw [HL.out]; omega) c (by omega)
          have h2 := cn_le (ys.take i) c
          rw [List.length_take] at h2
          rw [← HQ.out]; unfold nextF; omega
        have hwq : IntKind.i64.wrap ((q : Int) + 1) = ((q + 1 : Nat) : Int) := by rw [wrap_i64_small _ (by omega) (by omega)]; push_cast; rfl
        have HG : Hid (Cds wr g L (codeTo ys i)) := HW.out.2.1
        go_wp2_with (first
          | (refine wpList_code rfl _ _ rfl g i (c : Int) (q : Int) rfl rfl L (codeTo ys i) HG.out hin ?_; intro wa hGa hKa; have hcb' := (HW.out.1.kept hKa HE.out.1).cell c (by omega); have hcf' := (HW.out.1.kept hKa HE.out.1).free c; rw [HQ.out] at hcb'; have HGa : Hid (Cds wa g L (fun j => if j = i then ((c : Int), (q : Int)) else codeTo ys i j)) := hGa; have HKa : Hid (Keeps (fun k => k = g) wr wa) := hKa; clear hGa hKa))
        go_roundw
        case rel =>
          refine ⟨i + 1, by omega, by push_cast; rfl, ?_⟩
          obtain ⟨g1, g2, g3⟩ := HW.out
          obtain ⟨n1, n2, n3⟩ := HE.out
          have kk : Keeps (fun k => k = b6) wa (wa.setCell ⟨b6, c, none⟩ (.int .i64 ((q : Int) + 1))) := Keeps.setCell (S := fun k => k = b6) (Keeps.refl _ wa) (p := ⟨b6, c, none⟩) (fun _ => rfl) _
          refine ⟨?_, ?_, (g3.trans HKa.out (fun i hi h => by subst h; exact absurd hi (by omega))).trans kk (fun i hi h => by subst h; exact absurd hi (by omega))⟩
          · refine ((g1.kept HKa.out n1).set c (q + 1) (by omega)).congr ?_
            exact nextF_pos ys i c (by rw [HL.out]; exact hin) hp HY.out q HQ.out
          · exact (HGa.out.kept kk (fun h => n1 h.symm)).congr (fun j hj => codeTo_pos ys i c j hp HY.out q HQ.out)
        case measure => simp [intOf]; omega
      · obtain rfl : c = 0 := by omega
        go_wp2
        go_roundw
        case rel =>
          refine ⟨i + 1, by omega, by push_cast; rfl, ?_⟩
          obtain ⟨g1, g2, g3⟩ := HW.out
          exact ⟨g1.congr (nextF_zero ys i (by rw [HL.out]; exact hin) HY.out), g2.congr (fun j hj => codeTo_zero ys i j HY.out), g3⟩
        case measure => simp [intOf]; omega
    · obtain rfl : i = L := by omega
      go_wp2
      go_ret2
      obtain ⟨g1, g2, g3⟩ := HW.out
      exact ⟨g, rfl, g3, HE.out.2.2, g2.congr (fun j hj => by simp [codeTo, hj])⟩

end Go.Proofs.YtfbghchgfbjogaaGreat.Hf

namespace Go.Proofs.YtfbghchgfbjogaaGreat.Tb
open Go.RowKit
set_option linter.unusedVariables false
set_option linter.unusedSimpArgs false

def cs3 (t : Sy) : List Value := [.int .i64 t.1, .int .i64 t.2.1, .int .i64 t.2.2]
/-- Block b is a symbol. -/
def Syb (w : World) (b : Nat) (t : Sy) : Prop := w.heap[b]? = some (.cells #[.int .i64 t.1, .int .i64 t.2.1, .int .i64 t.2.2] 108 (0, 0))
theorem Syb.lt {w : World} {b : Nat} {t : Sy} (h : Syb w b t) : b < w.heap.size := lt_of_heap h
theorem Syb.kept {S : Nat → Prop} {w w' : World} {b : Nat} {t : Sy} (h : Syb w b t) (hk : Keeps S w w') (hb : ¬ S b) : Syb w' b t := (hk.block b h.lt hb).trans h
theorem Syb.keptF {w w' : World} {b : Nat} {t : Sy} (h : Syb w b t) (hk : Keeps (fun _ => False) w w') : Syb w' b t := h.kept hk (fun h => h)
theorem Syb.c0 {w : World} {b : Nat} {t : Sy} (h : Syb w b t) : w.cell? ⟨b, 0, none⟩ = some (.int .i64 t.1) := cell_of_heap h rfl
theorem Syb.c1 {w : World} {b : Nat} {t : Sy} (h : Syb w b t) : w.cell? ⟨b, 1, none⟩ = some (.int .i64 t.2.1) := cell_of_heap h rfl
theorem Syb.c2 {w : World} {b : Nat} {t : Sy} (h : Syb w b t) : w.cell? ⟨b, 2, none⟩ = some (.int .i64 t.2.2) := cell_of_heap h rfl
theorem Syb.free {w : World} {b : Nat} {t : Sy} (h : Syb w b t) (i : Nat) : w.frozen? ⟨b, i, none⟩ = false := frozen_of_heap h
theorem Syb.new (w : World) (t : Sy) : Syb (w.alloc (.cells #[.int .i64 t.1, .int .i64 t.2.1, .int .i64 t.2.2] 108)) w.heap.size t := heap_alloc_new _ _
theorem Syb.range {w : World} {b : Nat} {t : Sy} (h : Syb w b t) : w.rangeAt b 0 (cs3 t) := fun j v hv => by
  rw [Nat.zero_add]
  match j, hv with
  | 0, hv => simp [cs3] at hv; subst hv; exact h.c0
  | 1, hv => simp [cs3] at hv; subst hv; exact h.c1
  | 2, hv => simp [cs3] at hv; subst hv; exact h.c2
  | j + 3, hv => simp [cs3] at hv
theorem size23 : (Tryz.prog.info? 108).map (·.size) = some 3 := by kernel_rfl
theorem zero23 : (zeroValue 108).run Tryz.prog = fun w => .ok (.agg #[.int .i64 0, .int .i64 0, .int .i64 0]) w := by kernel_rfl
theorem zero46 : (zeroValue 187).run Tryz.prog = fun w => .ok (.agg #[.int .i64 0, .int .i64 0]) w := by kernel_rfl
theorem wpList_alloc3 {ops : Array Oper} {rest : List Oper} {op : Oper} {a : Act} {w : World} {Q : Exit → Act → World → Prop} (hgd : op.guard = none) (ho : op.op = .alloc 108)
    (h : ∀ b w1, Syb w1 b (0, 0, 0) → Keeps (fun _ => False) w w1 → w.heap.size ≤ b → wpList Tryz.prog ops Q rest (a.put op.dst (.pointer (some ⟨b, 0, none⟩))) w1) : wpList Tryz.prog ops Q (op :: rest) a w :=
  wpList_plain hgd fun _ hK => by
    unfold Oper.wp execOp
    have hz := congrFun zero23 w
    simp only [ho, Instr.alloc, Sem.run_bind, hz, Result.andThen_ok]
    simp only [newVar, Sem.run_bind, Sem.run_pure, Result.andThen_ok]
    exact hK _ _ (h w.heap.size _ (Syb.new w (0, 0, 0)) ((Keeps.refl _ w).alloc _) (Nat.le_refl _))
theorem wpList_load3 {ops : Array Oper} {rest : List Oper} {op : Oper} {a : Act} {w : World} {Q : Exit → Act → World → Prop} (hgd : op.guard = none) (x : Operand) (ho : op.op = .load 108 x) (b : Nat) (hx : a.eval x = .pointer (some ⟨b, 0, none⟩)) (t : Sy) (hA : Syb w b t)
    (h : wpList Tryz.prog ops Q rest (a.put op.dst (.agg #[.int .i64 t.1, .int .i64 t.2.1, .int .i64 t.2.2])) w) : wpList Tryz.prog ops Q (op :: rest) a w :=
  wpList_load_mid hgd 108 x ho b 0 hx (cs3 t) _ hA.range Tryz.underlying108 rfl size23 h
theorem Syb.set {w : World} {b : Nat} {t : Sy} (h : Syb w b t) (u : Sy) : Syb (w.setCells b 0 (cs3 u)) b u := by
  show (((w.setCell ⟨b, 0, none⟩ _).setCell ⟨b, 1, none⟩ _).setCell ⟨b, 2, none⟩ _).heap[b]? = _
  rw [heap_setCell_same (heap_setCell_same (heap_setCell_same h _) _) _]; rfl
theorem Syb.there {w : World} {b : Nat} {t : Sy} (h : Syb w b t) : w.there b 0 3 := fun j hj => by
  refine ⟨?_, h.free _⟩
  match j, hj with
  | 0, _ => rw [show 0 + 0 = 0 from rfl, h.c0]; rfl
  | 1, _ => rw [show 0 + 1 = 1 from rfl, h.c1]; rfl
  | 2, _ => rw [show 0 + 2 = 2 from rfl, h.c2]; rfl
theorem wpList_store3 {ops : Array Oper} {rest : List Oper} {op : Oper} {a : Act} {w : World} {Q : Exit → Act → World → Prop} (hgd : op.guard = none) (x y : Operand) (ho : op.op = .store 108 x y) (b : Nat) (u : Sy) (hx : a.eval x = .pointer (some ⟨b, 0, none⟩)) (hy : a.eval y = .agg #[.int .i64 u.1, .int .i64 u.2.1, .int .i64 u.2.2]) (t : Sy) (hA : Syb w b t)
    (h : ∀ w1, Syb w1 b u → Keeps (fun k => k = b) w w1 → wpList Tryz.prog ops Q rest (a.put op.dst undef) w1) : wpList Tryz.prog ops Q (op :: rest) a w :=
  wpList_store_mid hgd 108 x y ho b 0 (cs3 u).toArray hx hy hA.there size23 (all_oneCell_toArray (by intro v hv; simp [cs3] at hv; rcases hv with rfl | rfl | rfl <;> rfl)) (h _ (hA.set u) (keeps_setCells (S := fun k => k = b) b (fun _ => rfl) _ _ _ (Keeps.refl _ w)))
theorem Syb.loadVar {w : World} {b : Nat} {t : Sy} (h : Syb w b t) : (loadVar 108 ⟨b, 0, none⟩).run Tryz.prog w = .ok (.agg #[.int .i64 t.1, .int .i64 t.2.1, .int .i64 t.2.2]) w :=
  run_loadVar_mid w b 0 108 (cs3 t) _ h.range Tryz.underlying108 rfl size23
theorem results_cell {fn : Func} {p : Tmp} {ty : TypeId} (h : fn.results = #[.cell p ty]) (tmps : Array Value) (P : Program) (w : World) :
    (results fn tmps).run P w = ((asAddr (tmps.getD p undef)).run P w).andThen fun a w₁ => (Go.loadVar ty a).run P w₁ := by
  simp only [results, h]
  simp [Sem.run_bind, Result.andThen]

theorem Prs.new (w : World) : Prs (w.alloc (.cells #[.int .i64 0, .int .i64 0] 187)) w.heap.size 1 (fun _ => (0, 0)) :=
  ⟨_, heap_alloc_new _ _, rfl, fun i hi => by
    obtain rfl : i = 0 := by omega
    exact ⟨rfl, rfl⟩⟩
theorem wpList_alloc2 {ops : Array Oper} {rest : List Oper} {op : Oper} {a : Act} {w : World} {Q : Exit → Act → World → Prop} (hgd : op.guard = none) (ho : op.op = .alloc 187)
    (h : ∀ b w1, Prs w1 b 1 (fun _ => (0, 0)) → Keeps (fun _ => False) w w1 → w.heap.size ≤ b → wpList Tryz.prog ops Q rest (a.put op.dst (.pointer (some ⟨b, 0, none⟩))) w1) : wpList Tryz.prog ops Q (op :: rest) a w :=
  wpList_plain hgd fun _ hK => by
    unfold Oper.wp execOp
    have hz := congrFun zero46 w
    simp only [ho, Instr.alloc, Sem.run_bind, hz, Result.andThen_ok]
    simp only [newVar, Sem.run_bind, Sem.run_pure, Result.andThen_ok]
    exact hK _ _ (h w.heap.size _ (Prs.new w) ((Keeps.refl _ w).alloc _) (Nat.le_refl _))
theorem wpList_load2 {ops : Array Oper} {rest : List Oper} {op : Oper} {a : Act} {w : World} {Q : Exit → Act → World → Prop} (hgd : op.guard = none) (x : Operand) (ho : op.op = .load 187 x) (g i n : Nat) (f : Nat → Nat × Nat) (hx : a.eval x = .pointer (some ⟨g, i * 2, none⟩)) (hA : Prs w g n f) (hi : i < n)
    (h : wpList Tryz.prog ops Q rest (a.put op.dst (.agg #[.int .i64 ((f i).1 : Int), .int .i64 ((f i).2 : Int)])) w) : wpList Tryz.prog ops Q (op :: rest) a w :=
  wpList_load_mid hgd 187 x ho g (i * 2) hx [.int .i64 ((f i).1 : Int), .int .i64 ((f i).2 : Int)] _ (fun j v hv => by
    match j, hv with
    | 0, hv => simp at hv; subst hv; exact hA.fst i hi
    | 1, hv => simp at hv; subst hv; exact hA.snd i hi
    | j + 2, hv => simp at hv) Tryz.underlying187 rfl size46 h

set_option maxHeartbeats 4000000 in
set_option maxRecDepth 1000000 in
theorem lengthOf_ok (k : Int) (w : World) : Calls Tryz.prog 123 #[.int .i64 k] w fun e w' => e = .returned (.tuple #[.int .i64 (ofL k).1, .int .i64 (ofL k).2, .int .i64 (errB (inLS k))]) ∧ Keeps (fun _ => False) w w' := by
  by_cases hl : k < 257
  · have he : inLS k = false := decide_eq_false (by omega)
    have HE : Hid (inLS k = false) := he
    clear he
    go_enter Tryz.func123, Tryz.ntmps123
    go_wp2
    go_ret3
    exact ⟨by simp [ofL, errB, HE.out], Keeps.refl _ _⟩
  by_cases hg : 285 < k
  · have he : inLS k = false := decide_eq_false (by omega)
    have HE : Hid (inLS k = false) := he
    clear he
    go_enter Tryz.func123, Tryz.ntmps123
    go_wp2
    go_ret3
    exact ⟨by simp [ofL, errB, HE.out], Keeps.refl _ _⟩
  have he : Hid (inLS k = true) := decide_eq_true (by omega)
  obtain ⟨j, rfl⟩ : ∃ j : Nat, k = (j : Int) + 257 := ⟨(k - 257).toNat, by omega⟩
  have hj : j < 29 := by omega
  have HE : Hid (((j : Int) + 257 - 257).toNat = j) := show _ = _ by omega
  have hjw : wrap64 ((j : Int) + 257 - 257) = (j : Int) := by unfold wrap64; omega
  have HC : Hid (∀ w, Calls Tryz.prog 134 #[] w fun e w' => ∃ g, e = .returned (.slice (some ⟨g, 0, none⟩) 29 29) ∧ Keeps (fun _ => False) w w' ∧ w.heap.size ≤ g ∧ Prs w' g 29 lenF) := fun w => lengths_ok w
  go_enter Tryz.func123, Tryz.ntmps123
  go_wp2_with (first
    | (go_at_call 134; refine (HC.out _).mono ?_; rintro e w1 ⟨g, rfl, hK, hg, hP⟩; have HW : Hid (Keeps (fun _ => False) w w1 ∧ w.heap.size ≤ g ∧ Prs w1 g 29 lenF) := ⟨hK, hg, hP⟩; clear hK hg hP)
    | (refine wpList_load2 rfl _ rfl g j 29 lenF rfl HW.out.2.2 hj ?_)
    | (refine wpList_alloc2 rfl rfl ?_; intro b5 w2 hP2 hK2 hb5; have HW2 : Hid (Keeps (fun _ => False) w w2 ∧ w.heap.size ≤ b5 ∧ Prs w2 b5 1 (fun _ => (0, 0))) := ⟨HW.out.1.trans hK2 (fun _ _ h => h), (by have := HW.out.1.size; omega), hP2⟩; clear hK2 hb5 hP2)
    | (refine wpList_row rfl _ _ rfl b5 0 (lenF j).1 (lenF j).2 rfl rfl 1 (fun _ => (0, 0)) HW2.out.2.2 (by decide) ?_; intro w3 hP3 hK3; have HK3 : Hid (Keeps (fun _ => False) w w3) := HW2.out.1.trans hK3 (fun i hi e => by have := HW2.out.2.1; omega); have c1 : w3.cell? ⟨b5, 0, none⟩ = some (.int .i64 ((lenF j).1 : Int)) := hP3.fst 0 (by decide); have c2 : w3.cell? ⟨b5, 1, none⟩ = some (.int .i64 ((lenF j).2 : Int)) := hP3.snd 0 (by decide); clear hK3 hP3))
  go_quiet (fail)
  have HK4 : Hid (Keeps (fun _ => False) w (w3.drewN nq)) := HK3.out.drewN nq
  generalize w3.drewN nq = w4 at *
  go_wp2
  go_ret3
  exact ⟨by unfold ofL errB; rw [if_pos he.out, if_pos he.out, HE.out]; rfl, HK4.out⟩

set_option maxHeartbeats 4000000 in
set_option maxRecDepth 1000000 in
theorem distOf_ok (k : Int) (w : World) : Calls Tryz.prog 124 #[.int .i64 k] w fun e w' => e = .returned (.tuple #[.int .i64 (ofD k).1, .int .i64 (ofD k).2, .int .i64 (errB (inDS k))]) ∧ Keeps (fun _ => False) w w' := by
  by_cases hl : k < 0
  · have he : inDS k = false := decide_eq_false (by omega)
    have HE : Hid (inDS k = false) := he
    clear he
    go_enter Tryz.func124, Tryz.ntmps124
    go_wp2
    go_ret3
    exact ⟨by simp [ofD, errB, HE.out], Keeps.refl _ _⟩
  by_cases hg : 29 < k
  · have he : inDS k = false := decide_eq_false (by omega)
    have HE : Hid (inDS k = false) := he
    clear he
    go_enter Tryz.func124, Tryz.ntmps124
    go_wp2
    go_ret3
    exact ⟨by simp [ofD, errB, HE.out], Keeps.refl _ _⟩
  have he : Hid (inDS k = true) := decide_eq_true (by omega)
  obtain ⟨j, rfl⟩ : ∃ j : Nat, k = (j : Int) := ⟨k.toNat, by omega⟩
  have hj : j < 30 := by omega
  have HE : Hid (((j : Int)).toNat = j) := show _ = _ by omega
  have hjw : wrap64 ((j : Int) - 0) = (j : Int) := by unfold wrap64; omega
  have HC : Hid (∀ w, Calls Tryz.prog 135 #[] w fun e w' => ∃ g, e = .returned (.slice (some ⟨g, 0, none⟩) 30 30) ∧ Keeps (fun _ => False) w w' ∧ w.heap.size ≤ g ∧ Prs w' g 30 dstF) := fun w => dists_ok w
  go_enter Tryz.func124, Tryz.ntmps124
  go_wp2_with (first
    | (go_at_call 135; refine (HC.out _).mono ?_; rintro e w1 ⟨g, rfl, hK, hg, hP⟩; have HW : Hid (Keeps (fun _ => False) w w1 ∧ w.heap.size ≤ g ∧ Prs w1 g 30 dstF) := ⟨hK, hg, hP⟩; clear hK hg hP)
    | (refine wpList_load2 rfl _ rfl g j 30 dstF rfl HW.out.2.2 hj ?_)
    | (refine wpList_alloc2 rfl rfl ?_; intro b5 w2 hP2 hK2 hb5; have HW2 : Hid (Keeps (fun _ => False) w w2 ∧ w.heap.size ≤ b5 ∧ Prs w2 b5 1 (fun _ => (0, 0))) := ⟨HW.out.1.trans hK2 (fun _ _ h => h), (by have := HW.out.1.size; omega), hP2⟩; clear hK2 hb5 hP2)
    | (refine wpList_row rfl _ _ rfl b5 0 (dstF j).1 (dstF j).2 rfl rfl 1 (fun _ => (0, 0)) HW2.out.2.2 (by decide) ?_; intro w3 hP3 hK3; have HK3 : Hid (Keeps (fun _ => False) w w3) := HW2.out.1.trans hK3 (fun i hi e => by have := HW2.out.2.1; omega); have c1 : w3.cell? ⟨b5, 0, none⟩ = some (.int .i64 ((dstF j).1 : Int)) := hP3.fst 0 (by decide); have c2 : w3.cell? ⟨b5, 1, none⟩ = some (.int .i64 ((dstF j).2 : Int)) := hP3.snd 0 (by decide); clear hK3 hP3))
  go_quiet (fail)
  have HK4 : Hid (Keeps (fun _ => False) w (w3.drewN nq)) := HK3.out.drewN nq
  generalize w3.drewN nq = w4 at *
  go_wp2
  go_ret3
  exact ⟨by unfold ofD errB; rw [if_pos he.out, if_pos he.out, HE.out]; rfl, HK4.out⟩

end Go.Proofs.YtfbghchgfbjogaaGreat.Tb

namespace Go.Proofs.YtfbghchgfbjogaaGreat
open Hf Tb
set_option linter.unusedVariables false
set_option linter.unusedSimpArgs false

abbrev Bts := List Bool
/-- One behind the other. -/
def bnd {α β : Type} (f : Bts → Option (α × Bts)) (g : α → Bts → Option (β × Bts)) (L : Bts) : Option (β × Bts) :=
  match f L with
  | none => none
  | some (x, L1) => g x L1
def retL {α : Type} (x : α) (L : Bts) : Option (α × Bts) := some (x, L)
def noL {α : Type} (L : Bts) : Option (α × Bts) := none

def getL (k : Nat) (L : Bts) : Option (Nat × Bts) := if k ≤ L.length then some (val (L.take k), L.drop k) else none
/-- A number that is told by what it lies above another one. -/
def aboveL (a k : Nat) : Bts → Option (Nat × Bts) := bnd (getL k) (fun m => retL (a + m))

/-- The symbol whose code the next bits are: as many as n bits are still read, k were, they are v. -/
def symG (ys : List Int) : Nat → Nat → Nat → Bts → Option (Nat × Bts)
  | 0, _, _, _ => none
  | _ + 1, _, _, [] => none
  | n + 1, k, v, b :: L =>
    match findL ys ((k + 1 : Nat) : Int) ((2 * v + b.toNat : Nat) : Int) with
    | some i => some (i, L)
    | none => symG ys n (k + 1) (2 * v + b.toNat) L
def symN (ys : List Int) (L : Bts) : Option (Nat × Bts) := symG ys 15 0 0 L

def sprL (i : Nat) : Bts → Option (Nat × Bts) := if 257 ≤ i ∧ i ≤ 285 then aboveL (lenF (i - 257)).1 (lenF (i - 257)).2 else noL
def sprD (i : Nat) : Bts → Option (Nat × Bts) := if i ≤ 29 then aboveL (dstF i).1 (dstF i).2 else noL

abbrev Rs := Except Int (Bts × List Nat)
def cpy (most d : Nat) : Nat → List Nat → Except Int (List Nat)
  | 0, o => .ok o
  | n + 1, o => if o.length = most then .error 701 else cpy most d n (o ++ [o.getD (o.length - d) 0])
def put1 (most c : Nat) (o : List Nat) : Except Int (List Nat) := if o.length = most then .error 701 else .ok (o ++ [c])
def putC (most n d : Nat) (o : List Nat) : Except Int (List Nat) := if o.length < d then .error 700 else cpy most d n o
/-- Bits first, what they tell behind. -/
def thenE {α : Type} (f : Bts → Option (α × Bts)) (g : α → Bts → List Nat → Rs) (L : Bts) (o : List Nat) : Rs :=
  match f L with
  | none => .error 700
  | some (x, L1) => g x L1 o
def mapE (f : List Nat → Except Int (List Nat)) (L : Bts) (o : List Nat) : Rs :=
  match f o with
  | .error e => .error e
  | .ok o' => .ok (L, o')
def seqE (f g : Bts → List Nat → Rs) (L : Bts) (o : List Nat) : Rs :=
  match f L o with
  | .error e => .error e
  | .ok r => g r.1 r.2

def told (ds : List Int) (most i : Nat) : Bts → List Nat → Rs :=
  if i < 256 then mapE (put1 most i)
  else thenE (sprL i) fun n => thenE (symN ds) fun f => thenE (sprD f) fun d => mapE (putC most n d)
def codedF (ys ds : List Int) (most : Nat) : Nat → Bts → List Nat → Rs
  | 0 => fun _ _ => .error 700
  | n + 1 => thenE (symN ys) fun i => if i = 256 then fun L o => .ok (L, o) else seqE (told ds most i) (codedF ys ds most n)
def coded (ys ds : List Int) (most : Nat) (L : Bts) (o : List Nat) : Rs := codedF ys ds most (L.length + 1) L o

def storedB (most : Nat) : Nat → Bts → List Nat → Rs
  | 0 => fun L o => .ok (L, o)
  | n + 1 => thenE (getL 8) fun b => seqE (mapE (put1 most b)) (storedB most n)
def alignL (L : Bts) : Bts := L.drop (L.length % 8)
def storedH (most : Nat) : Bts → List Nat → Rs :=
  thenE (getL 16) fun k => thenE (getL 16) fun m => if k + m = 65535 then storedB most k else fun _ _ => .error 700
def stored (most : Nat) (L : Bts) (o : List Nat) : Rs := storedH most (alignL L) o

/-- The lengths that a symbol stands for behind others. -/
def rle (i : Nat) (out : List Int) : Bts → Option (List Int × Bts) :=
  if i = 16 then (if out.length = 0 then noL else bnd (aboveL 3 2) fun m => retL (List.replicate m (at_ out (out.length - 1))))
  else if i = 17 then bnd (aboveL 3 3) fun m => retL (List.replicate m 0)
  else if i = 18 then bnd (aboveL 11 7) fun m => retL (List.replicate m 0)
  else retL [(i : Int)]
def runsF (ys : List Int) (many : Nat) : Nat → List Int → Bts → Option (List Int × Bts)
  | 0, _ => noL
  | n + 1, out => if out.length < many then bnd (symN ys) fun i => bnd (rle i out) fun r => runsF ys many n (out ++ r)
      else if out.length = many then retL out else noL
def runs (ys : List Int) (many : Nat) (out : List Int) : Bts → Option (List Int × Bts) := runsF ys many (many + 1 - out.length) out

def rowL : List Nat := [16, 17, 18, 0, 8, 7, 9, 6, 10, 5, 11, 4, 12, 3, 13, 2, 14, 1, 15]
def posR (j : Nat) : Nat := rowL.idxOf j
def clOf (t : List Int) : List Int := (List.range 19).map (fun j => t.getD (posR j) 0)
def threes : Nat → List Int → Bts → Option (List Int × Bts)
  | 0, acc => retL acc
  | n + 1, acc => bnd (getL 3) fun x => threes n (acc ++ [(x : Int)])
/-- May the lengths of both parts be? -/
def mayB (x : List Int) : Bool := decide (errC x = 0) && decide (0 < at_ x 256)
def mayD (y : List Int) : Bool := decide (y.sum ≤ 1) || decide (errC y = 0)
def dynP (a : Nat) (all : List Int) : Bts → Option ((List Int × List Int) × Bts) :=
  if mayB (all.take a) && mayD (all.drop a) then retL (all.take a, all.drop a) else noL
def dynC (a b : Nat) (t : List Int) : Bts → Option ((List Int × List Int) × Bts) :=
  if errC (clOf t) = 0 then bnd (runs (clOf t) (a + b) []) fun all => dynP a all else noL
def dynH : Bts → Option ((List Int × List Int) × Bts) :=
  bnd (aboveL 257 5) fun a => bnd (aboveL 1 5) fun b => if 286 < a ∨ 30 < b then noL else bnd (aboveL 4 4) fun c => bnd (threes c []) fun t => dynC a b t

def fixLs : List Int := List.replicate 144 8 ++ List.replicate 112 9 ++ List.replicate 24 7 ++ List.replicate 8 8
def fiveLs : List Int := List.replicate 30 5
def inside (most kind : Nat) : Bts → List Nat → Rs :=
  if kind = 0 then stored most else if kind = 1 then coded fixLs fiveLs most
  else if kind = 2 then thenE dynH fun xy => coded xy.1 xy.2 most else fun _ _ => .error 700
def blocksF (most : Nat) : Nat → Bts → List Nat → Rs
  | 0 => fun _ _ => .error 700
  | n + 1 => thenE (getL 1) fun l => thenE (getL 2) fun k => seqE (inside most k) (if l = 1 then fun L o => .ok (L, o) else blocksF most n)
def blocks (most : Nat) (L : Bts) (o : List Nat) : Rs := blocksF most (L.length + 1) L o
/-- All bits of a text. -/
def bitsL (s : List Nat) : Bts := readBits s 0 (8 * s.length)
def inflB (s : List Nat) (most : Nat) : Except Int (List Nat × Nat) :=
  match blocks most (bitsL s) [] with
  | .error e => .error e
  | .ok r => .ok (r.2, s.length - r.1.length / 8)
def inflP (s : List Nat) (most : Int) : Except Int (List Nat × Nat) := if 0 ≤ most ∧ most ≤ 8192 then inflB s most.toNat else .error 700

end Go.Proofs.YtfbghchgfbjogaaGreat

/-
  How many codes there are of each length, if the lengths may be and there is room for them.
-/
import Derived.Test.YtdbfbijalhknnaaHRoom
namespace Go.Proofs.Ytdbfbijalhknnaa.Hf
open Go.RowKit
set_option linter.unusedVariables false
set_option linter.unusedSimpArgs false

theorem cn_nil : ∀ i, i < 16 → (0 : Nat) = cn ([] : List Int) i := by intro i _; simp [cn, cnt]
theorem cn_zero (ys : List Int) : ∀ i, i < 16 → cn ys i = cn (ys ++ [0]) i := by
  intro i _
  unfold cn
  by_cases h : i = 0
  · rw [if_pos h, if_pos h]
  · rw [if_neg h, if_neg h, cnt_snoc, if_neg (by omega)]; rfl
theorem cn_pos (ys : List Int) (n : Nat) (hn : 0 < n) : ∀ i, i < 16 → upd (cn ys) n (cn ys n + 1) i = cn (ys ++ [(n : Int)]) i := by
  intro i _
  unfold upd
  by_cases h : i = n
  · subst h; rw [if_pos rfl]; unfold cn; rw [if_neg (by omega), if_neg (by omega), cnt_snoc, if_pos rfl]
  · rw [if_neg h]; unfold cn
    by_cases h0 : i = 0
    · rw [if_pos h0, if_pos h0]
    · rw [if_neg h0, if_neg h0, cnt_snoc, if_neg (by omega)]; rfl
def cArr (t : Bool) (ys : List Int) : Nat → Nat := cond t (cn ys) (fun _ => 0)
theorem may_bad {ys : List Int} (i : Nat) (hi : i < ys.length) (h : ys[i] < 0 ∨ 15 < ys[i]) : may ys = false := by
  cases hm : may ys
  · rfl
  · have := may_at hm i hi; omega

set_option maxHeartbeats 4000000 in
set_option maxRecDepth 1000000 in
theorem count_ok (a : Option Addr) (ys : List Int) (cap : Nat) (w : World) (hR : Row w a ys) (hl : ys.length ≤ 9223372036854775807) :
    Calls Try.prog 101 #[.slice a ys.length cap] w fun e w' => e = .returned (.tuple #[.agg (arrL (cArr (may ys) ys)).toArray, .int .i64 (cond (may ys) 0 300)]) ∧ Keeps (fun _ => False) w w' := by
  by_cases hn : 1 ≤ ys.length ∧ ys.length ≤ 288
  · obtain ⟨b, off, rfl, hb, hc⟩ := hR.spot (by omega)
    obtain ⟨n, hn'⟩ : ∃ n, ys.length = n := ⟨_, rfl⟩
    have HC : Hid (∀ i (h : i < ys.length), w.cell? ⟨b, off + i, none⟩ = some (.int .i64 ys[i])) := hc
    have HN : Hid (ys.length = n) := hn'
    rw [hn'] at hn ⊢
    clear hR hl hc hn'
    have hn1 : ¬ ((n : Int) < 1) := by omega
    have hn2 : ¬ (288 < (n : Int)) := by omega
    go_enter Try.func101, Try.ntmps101
    go_wp2_with (first
      | (refine wpList_alloc16 rfl rfl ?_; (fail_if_success (clear hA1)); intro b1 w1 hA1 hK1 hb1)
      | (refine wpList_alloc16 rfl rfl ?_; intro b2 w2 hA2 hK2 hb2))
    have HE : Hid (b1 ≠ b2 ∧ w.heap.size ≤ b1 ∧ w.heap.size ≤ b2) := by
      have e1 := hK1.size; have e2 := hK2.size; have l1 := hA1.lt; have l2 := hA2.lt
      show _ ∧ _; omega
    have HW : Hid (Arr w2 b1 (fun _ => 0) ∧ Arr w2 b2 (cn (ys.take 0)) ∧ Keeps (fun _ => False) w w2) :=
      ⟨hA1.kept hK2 (fun h => h), hA2.congr cn_nil, hK1.trans hK2 (fun _ _ h => h)⟩
    clear hA1 hA2 hK1 hK2 hb1 hb2
    go_loopw [18] (fun s18 w' => ∃ i : Nat, i ≤ n ∧ s18 = .int .i64 (i : Int) ∧ Hid (Arr w' b1 (fun _ => 0) ∧ Arr w' b2 (cn (ys.take i)) ∧ Keeps (fun _ => False) w w') ∧ Hid ((ys.take i).all fine = true)) (fun s18 w' => ((n : Int) - intOf s18).toNat)
    case atStart => exact ⟨0, by omega, rfl, HW, rfl⟩
    case round =>
      clear HW
      obtain ⟨i, hi, rfl, HW, HF⟩ := hrel
      by_cases hin : i < n
      · have hiz : (i : Int) < (n : Int) := by omega
        have hil : i < ys.length := by rw [HN.out]; exact hin
        obtain ⟨y, hy⟩ : ∃ y, ys[i] = y := ⟨_, rfl⟩
        have hcell : wr.cell? ⟨b, off + i, none⟩ = some (.int .i64 y) := by
          rw [World.cell?_of_block (HW.out.2.2.block b hb (fun h => h)), HC.out i hil, hy]
        have HY : Hid (ys[i] = y) := hy
        clear hy
        by_cases hbad : y < 0 ∨ 15 < y
        · have hmb : may ys = false := may_bad i hil (by rw [HY.out]; exact hbad)
          have HM : Hid (may ys = false) := hmb
          have hA := HW.out.1
          have hK : Hid (Keeps (fun _ => False) w wr) := HW.out.2.2
          clear hmb HW
          rcases hbad with hbad | hbad
          all_goals (try (have hge : ¬ y < 0 := by omega))
          all_goals
            go_wp2_with (first
              | (refine wpList_store16 rfl _ _ rfl _ (fun _ => 0) rfl rfl (fun _ => 0) ?hA ?_; (case hA => assumption); intro w4 hA4 hK4))
          all_goals (try simp only [Exit.inBlock, Exit.then])
          all_goals refine bodyPost_ret (v := .tuple #[.agg (arrL (fun _ => 0)).toArray, .int .i64 300]) ?_ rfl ⟨by rw [HM.out]; rfl, hK.out.trans hK4 (fun i hi h => by have := HE.out; subst h; exact absurd hi (by omega))⟩
          all_goals
            rw [results_cell_tmp rfl]
            simp [asAddr, Result.andThen, hA4.loadVar]
        · have hy0 : ¬ y < 0 := by omega
          have hy15 : ¬ 15 < y := by omega
          have HF' : Hid ((ys.take (i + 1)).all fine = true) := by
            show _ = _
            rw [take_snoc ys i hil, List.all_append, HF.out, HY.out]
            simp [fine]; omega
          obtain ⟨c, rfl⟩ : ∃ c : Nat, y = (c : Int) := ⟨y.toNat, by omega⟩
          by_cases hp : 0 < c
          · have hpz : 0 < (c : Int) := by omega
            have hc16 : (c : Int) < 16 := by omega
            have hcb := HW.out.2.1.cell c (by omega)
            have hcf := HW.out.2.1.free c
            have hle := cn_le (ys.take i) c
            have hlt : (ys.take i).length ≤ 288 := by rw [List.length_take]; omega
            obtain ⟨q, hq⟩ : ∃ q, cn (ys.take i) c = q := ⟨_, rfl⟩
            rw [hq] at hcb hle
            have hwq : wrap64 ((q : Int) + 1) = ((q + 1 : Nat) : Int) := by rw [wrap64_small _ (by omega) (by omega)]; push_cast; rfl
            have hwq' : IntKind.i64.wrap ((q : Int) + 1) = ((q + 1 : Nat) : Int) := by rw [wrap_i64_small _ (by omega) (by omega)]; push_cast; rfl
            have HQ : Hid (cn (ys.take i) c = q) := hq
            clear hq hle hlt
            go_wp2
            go_roundw
            case rel =>
              refine ⟨i + 1, by omega, by push_cast; rfl, ?_, HF'⟩
              obtain ⟨g1, g2, g3⟩ := HW.out
              obtain ⟨n1, n2, n3⟩ := HE.out
              have kk : Keeps (fun k => k = b2) wr (wr.setCell ⟨b2, c, none⟩ (.int .i64 ((q : Int) + 1))) := Keeps.setCell (S := fun k => k = b2) (Keeps.refl _ wr) (p := ⟨b2, c, none⟩) (fun _ => rfl) _
              refine ⟨g1.kept kk n1, ?_, g3.trans kk (fun i hi h => by subst h; exact absurd hi (by omega))⟩
              rw [take_snoc ys i hil, HY.out]
              have := (g2.set c (q + 1) (by omega)).congr (by rw [← HQ.out]; exact cn_pos (ys.take i) c hp)
              exact this
            case measure => simp [intOf]; omega
          · obtain rfl : c = 0 := by omega
            go_wp2
            go_roundw
            case rel =>
              refine ⟨i + 1, by omega, by push_cast; rfl, ?_, HF'⟩
              obtain ⟨g1, g2, g3⟩ := HW.out
              refine ⟨g1, ?_, g3⟩
              rw [take_snoc ys i hil, HY.out]
              exact g2.congr (cn_zero (ys.take i))
            case measure => simp [intOf]; omega
      · obtain rfl : i = n := by omega
        have hmt : may ys = true := by
          have := HF.out
          rw [List.take_of_length_le (by rw [HN.out]; omega)] at this
          unfold may; rw [this, HN.out]; simp; omega
        have HM : Hid (may ys = true) := hmt
        have hA := HW.out.1
        have hA2 : Arr wr b2 (cn ys) := by
          have := HW.out.2.1
          rw [List.take_of_length_le (by rw [HN.out]; omega)] at this
          exact this
        have hK : Hid (Keeps (fun _ => False) w wr) := HW.out.2.2
        clear hmt HW HF
        go_wp2_with (first
          | (refine wpList_load16 rfl _ rfl _ rfl (cn ys) ?hA ?_; (case hA => assumption))
          | (refine wpList_store16 rfl _ _ rfl _ (cn ys) rfl rfl (fun _ => 0) ?hA ?_; (case hA => assumption); intro w4 hA4 hK4))
        (try simp only [Exit.inBlock, Exit.then])
        refine bodyPost_ret (v := .tuple #[.agg (arrL (cn ys)).toArray, .int .i64 0]) ?_ rfl ⟨by rw [HM.out]; rfl, hK.out.trans hK4 (fun i hi h => by have := HE.out; subst h; exact absurd hi (by omega))⟩
        rw [results_cell_tmp rfl]
        simp [asAddr, Result.andThen, hA4.loadVar]
  · have hmb : may ys = false := by
      cases hm : may ys
      · rfl
      · exact absurd (may_len hm) hn
    have HM : Hid (may ys = false) := hmb
    clear hmb
    obtain ⟨n, hn'⟩ : ∃ n, ys.length = n := ⟨_, rfl⟩
    rw [hn'] at hn hl ⊢
    clear hn'
    have hcs : (n : Int) < 1 ∨ (¬ (n : Int) < 1 ∧ 288 < (n : Int)) := by omega
    rcases hcs with hcs | ⟨hcs1, hcs2⟩
    all_goals
      go_enter Try.func101, Try.ntmps101
      go_wp2_with (first
        | (refine wpList_alloc16 rfl rfl ?_; (fail_if_success (clear hA1)); intro b1 w1 hA1 hK1 hb1)
        | (refine wpList_alloc16 rfl rfl ?_; intro b2 w2 hA2 hK2 hb2; have hA3 := hA1.kept hK2 (fun h => h))
        | (refine wpList_store16 rfl _ _ rfl _ (fun _ => 0) rfl rfl (fun _ => 0) ?hA ?_; (case hA => assumption); intro w4 hA4 hK4))
      (try simp only [Exit.inBlock, Exit.then])
      refine bodyPost_ret (v := .tuple #[.agg (arrL (fun _ => 0)).toArray, .int .i64 300]) ?_ rfl ⟨by rw [HM.out]; rfl, (hK1.trans hK2 (fun _ _ h => h)).trans hK4 (fun i hi h => by subst h; exact absurd hi (by omega))⟩
      rw [results_cell_tmp rfl]
      simp [asAddr, Result.andThen, hA4.loadVar]

theorem cArr_le (t : Bool) (ys : List Int) (h : t = true → ys.length ≤ 288) : ∀ i, cArr t ys i ≤ 288 := by
  intro i
  cases t
  · exact Nat.zero_le _
  · exact Nat.le_trans (cn_le ys i) (h rfl)

def fits (ys : List Int) : Bool := may ys && decide (room ys ≤ 32768)
theorem fits_true {ys : List Int} (h : fits ys = true) : may ys = true ∧ room ys ≤ 32768 := by
  simp only [fits, Bool.and_eq_true, decide_eq_true_eq] at h; exact h
theorem errF_fits {ys : List Int} : errF ys = 0 ↔ fits ys = true := by
  unfold errF fits
  cases may ys <;> simp
  by_cases h : 32768 < room ys <;> simp [h] <;> omega

set_option maxHeartbeats 4000000 in
set_option maxRecDepth 1000000 in
theorem fitting_ok (a : Option Addr) (ys : List Int) (cap : Nat) (w : World) (hR : Row w a ys) (hl : ys.length ≤ 9223372036854775807) :
    Calls Try.prog 97 #[.slice a ys.length cap] w fun e w' => e = .returned (.tuple #[.agg (arrL (cArr (fits ys) ys)).toArray, .int .i64 (errF ys)]) ∧ Keeps (fun _ => False) w w' := by
  have HR : Hid (Row w a ys) := hR
  clear hR
  generalize hL : ys.length = L at *
  have HL : Hid (ys.length = L) := hL
  clear hL
  have HC : Hid (∀ w', Keeps (fun _ => False) w w' → Calls Try.prog 101 #[.slice a L cap] w' fun e w'' => e = .returned (.tuple #[.agg (arrL (cArr (may ys) ys)).toArray, .int .i64 (cond (may ys) 0 300)]) ∧ Keeps (fun _ => False) w' w'') := fun w' hk => by
    have := count_ok a ys cap w' (HR.out.keptF hk) (by rw [HL.out]; exact hl)
    rw [HL.out] at this; exact this
  obtain ⟨t, ht⟩ : ∃ t, may ys = t := ⟨_, rfl⟩
  obtain ⟨o, ho⟩ : ∃ o, (32768 < room ys) = o := ⟨_, rfl⟩
  have HT : Hid (may ys = t ∧ ((32768 < room ys) = o)) := ⟨ht, ho⟩
  rw [ht] at HC
  cases t
  · have HFf : Hid (fits ys = false ∧ errF ys = 300) := by refine ⟨?_, ?_⟩ <;> simp [fits, errF, ht]
    clear ht ho HT
    go_enter Try.func97, Try.ntmps97
    go_wp2_with (first
      | (refine wpList_alloc16 rfl rfl ?_; (fail_if_success (clear hA1)); intro b1 w1 hA1 hK1 hb1; have HK1 : Hid (Keeps (fun _ => False) w w1) := hK1; clear hK1)
      | (go_at_call 101; refine (HC.out _ HK1.out).mono ?_; rintro e w2 ⟨rfl, hK2⟩; have hA2 := hA1.kept hK2 (fun h => h); have HK2 : Hid (Keeps (fun _ => False) w w2) := HK1.out.trans hK2 (fun _ _ h => h); clear hA1 hK2)
      | (refine wpList_alloc16 rfl rfl ?_; intro b3 w3 hA3 hK3 hb3; have hb4 := hA2.lt; have hA2' := hA2.kept hK3 (fun h => h); have HK3 : Hid (Keeps (fun _ => False) w w3) := HK2.out.trans hK3 (fun _ _ h => h); have HS : Hid (w.heap.size ≤ b3) := (by have := HK2.out.size; show _ ≤ _; omega); clear hK3 hA2)
      | (refine wpList_store16 rfl _ _ rfl b3 (cArr false ys) rfl rfl (fun _ => 0) ?hA ?_; (case hA => assumption); intro w4 hA4 hK4; have hA5 := hA2'.kept hK4 (by omega); have HK4 : Hid (Keeps (fun _ => False) w w4) := HK3.out.trans hK4 (fun i hi h => by have := HS.out; subst h; exact absurd hi (by omega)); clear hK4)
      | (refine wpList_load16 rfl _ rfl _ rfl (cArr false ys) ?hA ?_; (case hA => assumption))
      | (refine wpList_store16 rfl _ _ rfl b1 (cArr false ys) rfl rfl (fun _ => 0) ?hA ?_; (case hA => assumption); intro w5 hA6 hK5))
    (try simp only [Exit.inBlock, Exit.then])
    refine bodyPost_ret (v := .tuple #[.agg (arrL (cArr false ys)).toArray, .int .i64 300]) ?_ rfl ⟨by rw [HFf.out.1, HFf.out.2], HK4.out.trans hK5 (fun i hi h => by subst h; exact absurd hi (by omega))⟩
    rw [results_cell_tmp rfl]
    simp [asAddr, Result.andThen, hA6.loadVar]
  · have hle : ∀ i, cArr true ys i ≤ 288 := cArr_le true ys (fun _ => (may_len ht).2)
    have HCr : Hid (∀ w', Calls Try.prog 102 #[.agg (arrL (cArr true ys)).toArray] w' fun e w'' => e = .returned (.int .i64 (room ys : Nat)) ∧ Keeps (fun _ => False) w' w'') := fun w' => room_ok (cArr true ys) w' hle
    clear hle
    have HFg : Hid ((32768 < room ys → fits ys = false ∧ errF ys = 301) ∧ (¬ 32768 < room ys → fits ys = true ∧ errF ys = 0)) := by
      refine ⟨fun h => ?_, fun h => ?_⟩
      · simp [fits, errF, ht, h]
      · simp [fits, errF, ht, h]; omega
    generalize room ys = r at *
    by_cases hr : 32768 < r
    · have hrz : 32768 < (r : Int) := by omega
      have HFf : Hid (fits ys = false ∧ errF ys = 301) := HFg.out.1 hr
      clear ht ho HT HFg
      go_enter Try.func97, Try.ntmps97
      go_wp2_with (first
        | (refine wpList_alloc16 rfl rfl ?_; (fail_if_success (clear hA1)); intro b1 w1 hA1 hK1 hb1; have HK1 : Hid (Keeps (fun _ => False) w w1) := hK1; clear hK1)
        | (go_at_call 101; refine (HC.out _ HK1.out).mono ?_; rintro e w2 ⟨rfl, hK2⟩; have hA2 := hA1.kept hK2 (fun h => h); have HK2 : Hid (Keeps (fun _ => False) w w2) := HK1.out.trans hK2 (fun _ _ h => h); clear hA1 hK2)
        | (refine wpList_alloc16 rfl rfl ?_; intro b3 w3 hA3 hK3 hb3; have hb4 := hA2.lt; have hA2' := hA2.kept hK3 (fun h => h); have HK3 : Hid (Keeps (fun _ => False) w w3) := HK2.out.trans hK3 (fun _ _ h => h); have HS : Hid (w.heap.size ≤ b3) := (by have := HK2.out.size; show _ ≤ _; omega); clear hK3 hA2)
        | (refine wpList_store16 rfl _ _ rfl b3 (cArr true ys) rfl rfl (fun _ => 0) ?hA ?_; (case hA => assumption); intro w4 hA4 hK4; have hA5 := hA2'.kept hK4 (by omega); have HK4 : Hid (Keeps (fun _ => False) w w4) := HK3.out.trans hK4 (fun i hi h => by have := HS.out; subst h; exact absurd hi (by omega)); clear hK4)
        | (refine wpList_load16w _ rfl _ rfl rfl (cArr true ys) ?hA ?_; (case hA => assumption))
        | (go_at_call 102; refine (HCr.out _).mono ?_; rintro e w5 ⟨rfl, hK5⟩; have hA7 := hA5.kept hK5 (fun h => h); have hA8 := hA4.kept hK5 (fun h => h); have HK5 : Hid (Keeps (fun _ => False) w w5) := HK4.out.trans hK5 (fun _ _ h => h); clear hA4 hA5 hK5)
        | (refine wpList_store16 rfl _ _ rfl b1 (fun _ => 0) rfl rfl (fun _ => 0) ?hA ?_; (case hA => assumption); intro w6 hA9 hK6))
      (try simp only [Exit.inBlock, Exit.then])
      refine bodyPost_ret (v := .tuple #[.agg (arrL (fun _ => 0)).toArray, .int .i64 301]) ?_ rfl ⟨by rw [HFf.out.1, HFf.out.2] <;> rfl, HK5.out.trans hK6 (fun i hi h => by subst h; exact absurd hi (by omega))⟩
      rw [results_cell_tmp rfl]
      simp [asAddr, Result.andThen, hA9.loadVar]
    · have hrz : ¬ 32768 < (r : Int) := by omega
      have HFf : Hid (fits ys = true ∧ errF ys = 0) := HFg.out.2 hr
      clear ht ho HT HFg
      go_enter Try.func97, Try.ntmps97
      go_wp2_with (first
        | (refine wpList_alloc16 rfl rfl ?_; (fail_if_success (clear hA1)); intro b1 w1 hA1 hK1 hb1; have HK1 : Hid (Keeps (fun _ => False) w w1) := hK1; clear hK1)
        | (go_at_call 101; refine (HC.out _ HK1.out).mono ?_; rintro e w2 ⟨rfl, hK2⟩; have hA2 := hA1.kept hK2 (fun h => h); have HK2 : Hid (Keeps (fun _ => False) w w2) := HK1.out.trans hK2 (fun _ _ h => h); clear hA1 hK2)
        | (refine wpList_alloc16 rfl rfl ?_; intro b3 w3 hA3 hK3 hb3; have hb4 := hA2.lt; have hA2' := hA2.kept hK3 (fun h => h); have HK3 : Hid (Keeps (fun _ => False) w w3) := HK2.out.trans hK3 (fun _ _ h => h); have HS : Hid (w.heap.size ≤ b3) := (by have := HK2.out.size; show _ ≤ _; omega); clear hK3 hA2)
        | (refine wpList_store16 rfl _ _ rfl b3 (cArr true ys) rfl rfl (fun _ => 0) ?hA ?_; (case hA => assumption); intro w4 hA4 hK4; have hA5 := hA2'.kept hK4 (by omega); have HK4 : Hid (Keeps (fun _ => False) w w4) := HK3.out.trans hK4 (fun i hi h => by have := HS.out; subst h; exact absurd hi (by omega)); clear hK4)
        | (refine wpList_load16 rfl _ rfl _ rfl (cArr true ys) ?hA ?_; (case hA => assumption))
        | (refine wpList_load16w _ rfl _ rfl rfl (cArr true ys) ?hA ?_; (case hA => assumption))
        | (go_at_call 102; refine (HCr.out _).mono ?_; rintro e w5 ⟨rfl, hK5⟩; have hA7 := hA5.kept hK5 (fun h => h); have hA8 := hA4.kept hK5 (fun h => h); have HK5 : Hid (Keeps (fun _ => False) w w5) := HK4.out.trans hK5 (fun _ _ h => h); clear hA4 hA5 hK5)
        | (refine wpList_store16 rfl _ _ rfl b1 (cArr true ys) rfl rfl (fun _ => 0) ?hA ?_; (case hA => assumption); intro w6 hA9 hK6))
      (try simp only [Exit.inBlock, Exit.then])
      refine bodyPost_ret (v := .tuple #[.agg (arrL (cArr true ys)).toArray, .int .i64 0]) ?_ rfl ⟨by rw [HFf.out.1, HFf.out.2] <;> rfl, HK5.out.trans hK6 (fun i hi h => by subst h; exact absurd hi (by omega))⟩
      rw [results_cell_tmp rfl]
      simp [asAddr, Result.andThen, hA9.loadVar]

end Go.Proofs.Ytdbfbijalhknnaa.Hf

/-
  How many codes there are of each length, if the lengths may be and there is room for them. The calls Check and Find, and what a number of an error is. The call Codes: the rows of codes that it makes. Rows of a reckoned table: blocks of pairs, and the calls that make them.
-/
import Derived.Test.YtfbghchgfbjogaaRows
import Derived.Test.YtfbghchgfbjogaaM03
import Derived.WalkKit
import Derived.WalkSpells
import Derived.WalkLawsBesides
import Derived.Deep.MidRow
import Derived.Laws.ResultCell
namespace Go.Proofs.Ytfbghchgfbjogaa.Hf
open Go.RowKit
set_option linter.unusedVariables false
set_option linter.unusedSimpArgs false

theorem cn_nil : ∀ i, i < 16 → (0 : Nat) = cn ([] : List Int) i := by intro i _; simp [cn, cnt]
theorem cn_zero (ys : List Int) : ∀ i, i < 16 → cn ys i = cn (ys ++ [0]) i := by
  intro i _
  unfold cn
  by_cases h : i = 0
  · rw [if_pos h, if_pos h]
  · rw [if_neg h, if_neg h, cnt_snoc, if_neg (by omega)]; rfl
theorem cn_pos (ys : List Int) (n : Nat) (hn : 0 < n) : ∀ i, i < 16 → upd (cn ys) n (cn ys n + 1) i = cn (ys ++ [(n : Int)]) i := by
  intro i _
  unfold upd
  by_cases h : i = n
  · subst h; rw [if_pos rfl]; unfold cn; rw [if_neg (by omega), if_neg (by omega), cnt_snoc, if_pos rfl]
  · rw [if_neg h]; unfold cn
    by_cases h0 : i = 0
    · rw [if_pos h0, if_pos h0]
    · rw [if_neg h0, if_neg h0, cnt_snoc, if_neg (by omega)]; rfl
def cArr (t : Bool) (ys : List Int) : Nat → Nat := cond t (cn ys) (fun _ => 0)
theorem may_bad {ys : List Int} (i : Nat) (hi : i < ys.length) (h : ys[i] < 0 ∨ 15 < ys[i]) : may ys = false := by
  cases hm : may ys
  · rfl
  · have := may_at hm i hi; omega

set_option maxHeartbeats 4000000 in
set_option maxRecDepth 1000000 in
theorem count_ok (a : Option Addr) (ys : List Int) (cap : Nat) (w : World) (hR : Row w a ys) (hl : ys.length ≤ 9223372036854775807) :
    Calls Try.prog 91 #[.slice a ys.length cap] w fun e w' => e = .returned (.tuple #[.agg (arrL (cArr (may ys) ys)).toArray, .int .i64 (cond (may ys) 0 300)]) ∧ Keeps (fun _ => False) w w' := by
  by_cases hn : 1 ≤ ys.length ∧ ys.length ≤ 288
  · obtain ⟨b, off, rfl, hb, hc⟩ := hR.spot (by omega)
    obtain ⟨n, hn'⟩ : ∃ n, ys.length = n := ⟨_, rfl⟩
    have HC : Hid (∀ i (h : i < ys.length), w.cell? ⟨b, off + i, none⟩ = some (.int .i64 ys[i])) := hc
    have HN : Hid (ys.length = n) := hn'
    rw [hn'] at hn ⊢
    clear hR hl hc hn'
    have hn1 : ¬ ((n : Int) < 1) := by omega
    have hn2 : ¬ (288 < (n : Int)) := by omega
    go_enter Try.func91, Try.ntmps91
    go_wp2_with (first
      | (refine wpList_alloc16 rfl rfl ?_; (fail_if_success (clear hA1)); intro b1 w1 hA1 hK1 hb1)
      | (refine wpList_alloc16 rfl rfl ?_; intro b2 w2 hA2 hK2 hb2))
    have HE : Hid (b1 ≠ b2 ∧ w.heap.size ≤ b1 ∧ w.heap.size ≤ b2) := by
      have e1 := hK1.size; have e2 := hK2.size; have l1 := hA1.lt; have l2 := hA2.lt
      show _ ∧ _; omega
    have HW : Hid (Arr w2 b1 (fun _ => 0) ∧ Arr w2 b2 (cn (ys.take 0)) ∧ Keeps (fun _ => False) w w2) :=
      ⟨hA1.kept hK2 (fun h => h), hA2.congr cn_nil, hK1.trans hK2 (fun _ _ h => h)⟩
    clear hA1 hA2 hK1 hK2 hb1 hb2
    go_loopw [18] (fun s18 w' => ∃ i : Nat, i ≤ n ∧ s18 = .int .i64 (i : Int) ∧ Hid (Arr w' b1 (fun _ => 0) ∧ Arr w' b2 (cn (ys.take i)) ∧ Keeps (fun _ => False) w w') ∧ Hid ((ys.take i).all fine = true)) (fun s18 w' => ((n : Int) - intOf s18).toNat)
    case atStart => exact ⟨0, by omega, rfl, HW, rfl⟩
    case round =>
      clear HW
      obtain ⟨i, hi, rfl, HW, HF⟩ := hrel
      by_cases hin : i < n
      · have hiz : (i : Int) < (n : Int) := by omega
        have hil : i < ys.length := by rw [HN.out]; exact hin
        obtain ⟨y, hy⟩ : ∃ y, ys[i] = y := ⟨_, rfl⟩
        have hcell : wr.cell? ⟨b, off + i, none⟩ = some (.int .i64 y) := by
          rw [World.cell?_of_block (HW.out.2.2.block b hb (fun h => h)), HC.out i hil, hy]
        have HY : Hid (ys[i] = y) := hy
        clear hy
        by_cases hbad : y < 0 ∨ 15 < y
        · have hmb : may ys = false := may_bad i hil (by rw [HY.out]; exact hbad)
          have HM : Hid (may ys = false) := hmb
          have hA := HW.out.1
          have hK : Hid (Keeps (fun _ => False) w wr) := HW.out.2.2
          clear hmb HW
          rcases hbad with hbad | hbad
          all_goals (try (have hge : ¬ y < 0 := by omega))
          all_goals
            go_wp2_with (first
              | (refine wpList_store16 rfl _ _ rfl _ (fun _ => 0) rfl rfl (fun _ => 0) ?hA ?_; (case hA => assumption); intro w4 hA4 hK4))
          all_goals (try simp only [Exit.inBlock, Exit.then])
          all_goals refine bodyPost_ret (v := .tuple #[.agg (arrL (fun _ => 0)).toArray, .int .i64 300]) ?_ rfl ⟨by rw [HM.out]; rfl, hK.out.trans hK4 (fun i hi h => by have := HE.out; subst h; exact absurd hi (by omega))⟩
          all_goals
            rw [results_cell_tmp rfl]
            simp [asAddr, Result.andThen, hA4.loadVar]
        · have hy0 : ¬ y < 0 := by omega
          have hy15 : ¬ 15 < y := by omega
          have HF' : Hid ((ys.take (i + 1)).all fine = true) := by
            show _ = _
            rw [take_snoc ys i hil, List.all_append, HF.out, HY.out]
            simp [fine]; omega
          obtain ⟨c, rfl⟩ : ∃ c : Nat, y = (c : Int) := ⟨y.toNat, by omega⟩
          by_cases hp : 0 < c
          · have hpz : 0 < (c : Int) := by omega
            have hc16 : (c : Int) < 16 := by omega
            have hcb := HW.out.2.1.cell c (by omega)
            have hcf := HW.out.2.1.free c
            have hle := cn_le (ys.take i) c
            have hlt : (ys.take i).length ≤ 288 := by rw [List.length_take]; omega
            obtain ⟨q, hq⟩ : ∃ q, cn (ys.take i) c = q := ⟨_, rfl⟩
            rw [hq] at hcb hle
            have hwq : wrap64 ((q : Int) + 1) = ((q + 1 : Nat) : Int) := by rw [wrap64_small _ (by omega) (by omega)]; push_cast; rfl
            have hwq' : IntKind.i64.wrap ((q : Int) + 1) = ((q + 1 : Nat) : Int) := by rw [wrap_i64_small _ (by omega) (by omega)]; push_cast; rfl
            have HQ : Hid (cn (ys.take i) c = q) := hq
            clear hq hle hlt
            go_wp2
            go_roundw
            case rel =>
              refine ⟨i + 1, by omega, by push_cast; rfl, ?_, HF'⟩
              obtain ⟨g1, g2, g3⟩ := HW.out
              obtain ⟨n1, n2, n3⟩ := HE.out
              have kk : Keeps (fun k => k = b2) wr (wr.setCell ⟨b2, c, none⟩ (.int .i64 ((q : Int) + 1))) := Keeps.setCell (S := fun k => k = b2) (Keeps.refl _ wr) (p := ⟨b2, c, none⟩) (fun _ => rfl) _
              refine ⟨g1.kept kk n1, ?_, g3.trans kk (fun i hi h => by subst h; exact absurd hi (by omega))⟩
              rw [take_snoc ys i hil, HY.out]
              have := (g2.set c (q + 1) (by omega)).congr (by rw [← HQ.out]; exact cn_pos (ys.take i) c hp)
              exact this
            case measure => simp [intOf]; omega
          · obtain rfl : c = 0 := by omega
            go_wp2
            go_roundw
            case rel =>
              refine ⟨i + 1, by omega, by push_cast; rfl, ?_, HF'⟩
              obtain ⟨g1, g2, g3⟩ := HW.out
              refine ⟨g1, ?_, g3⟩
              rw [take_snoc ys i hil, HY.out]
              exact g2.congr (cn_zero (ys.take i))
            case measure => simp [intOf]; omega
      · obtain rfl : i = n := by omega
        have hmt : may ys = true := by
          have := HF.out
          rw [List.take_of_length_le (by rw [HN.out]; omega)] at this
          unfold may; rw [this, HN.out]; simp; omega
        have HM : Hid (may ys = true) := hmt
        have hA := HW.out.1
        have hA2 : Arr wr b2 (cn ys) := by
          have := HW.out.2.1
          rw [List.take_of_length_le (by rw [HN.out]; omega)] at this
          exact this
        have hK : Hid (Keeps (fun _ => False) w wr) := HW.out.2.2
        clear hmt HW HF
        go_wp2_with (first
          | (refine wpList_load16 rfl _ rfl _ rfl (cn ys) ?hA ?_; (case hA => assumption))
          | (refine wpList_store16 rfl _ _ rfl _ (cn ys) rfl rfl (fun _ => 0) ?hA ?_; (case hA => assumption); intro w4 hA4 hK4))
        (try simp only [Exit.inBlock, Exit.then])
        refine bodyPost_ret (v := .tuple #[.agg (arrL (cn ys)).toArray, .int .i64 0]) ?_ rfl ⟨by rw [HM.out]; rfl, hK.out.trans hK4 (fun i hi h => by have := HE.out; subst h; exact absurd hi (by omega))⟩
        rw [results_cell_tmp rfl]
        simp [asAddr, Result.andThen, hA4.loadVar]
  · have hmb : may ys = false := by
      cases hm : may ys
      · rfl
      · exact absurd (may_len hm) hn
    have HM : Hid (may ys = false) := hmb
    clear hmb
    obtain ⟨n, hn'⟩ : ∃ n, ys.length = n := ⟨_, rfl⟩
    rw [hn'] at hn hl ⊢
    clear hn'
    have hcs : (n : Int) < 1 ∨ (¬ (n : Int) < 1 ∧ 288 < (n : Int)) := by omega
    rcases hcs with hcs | ⟨hcs1, hcs2⟩
    all_goals
      go_enter Try.func91, Try.ntmps91
      go_wp2_with (first
        | (refine wpList_alloc16 rfl rfl ?_; (fail_if_success (clear hA1)); intro b1 w1 hA1 hK1 hb1)
        | (refine wpList_alloc16 rfl rfl ?_; intro b2 w2 hA2 hK2 hb2; have hA3 := hA1.kept hK2 (fun h => h))
        | (refine wpList_store16 rfl _ _ rfl _ (fun _ => 0) rfl rfl (fun _ => 0) ?hA ?_; (case hA => assumption); intro w4 hA4 hK4))
      (try simp only [Exit.inBlock, Exit.then])
      refine bodyPost_ret (v := .tuple #[.agg (arrL (fun _ => 0)).toArray, .int .i64 300]) ?_ rfl ⟨by rw [HM.out]; rfl, (hK1.trans hK2 (fun _ _ h => h)).trans hK4 (fun i hi h => by subst h; exact absurd hi (by omega))⟩
      rw [results_cell_tmp rfl]
      simp [asAddr, Result.andThen, hA4.loadVar]

theorem cArr_le (t : Bool) (ys : List Int) (h : t = true → ys.length ≤ 288) : ∀ i, cArr t ys i ≤ 288 := by
  intro i
  cases t
  · exact Nat.zero_le _
  · exact Nat.le_trans (cn_le ys i) (h rfl)

def fits (ys : List Int) : Bool := may ys && decide (room ys ≤ 32768)
theorem fits_true {ys : List Int} (h : fits ys = true) : may ys = true ∧ room ys ≤ 32768 := by
  simp only [fits, Bool.and_eq_true, decide_eq_true_eq] at h; exact h
theorem errF_fits {ys : List Int} : errF ys = 0 ↔ fits ys = true := by
  unfold errF fits
  cases may ys <;> simp
  by_cases h : 32768 < room ys <;> simp [h] <;> omega

set_option maxHeartbeats 4000000 in
set_option maxRecDepth 1000000 in
theorem fitting_ok (a : Option Addr) (ys : List Int) (cap : Nat) (w : World) (hR : Row w a ys) (hl : ys.length ≤ 9223372036854775807) :
    Calls Try.prog 87 #[.slice a ys.length cap] w fun e w' => e = .returned (.tuple #[.agg (arrL (cArr (fits ys) ys)).toArray, .int .i64 (errF ys)]) ∧ Keeps (fun _ => False) w w' := by
  have HR : Hid (Row w a ys) := hR
  clear hR
  generalize hL : ys.length = L at *
  have HL : Hid (ys.length = L) := hL
  clear hL
  have HC : Hid (∀ w', Keeps (fun _ => False) w w' → Calls Try.prog 91 #[.slice a L cap] w' fun e w'' => e = .returned (.tuple #[.agg (arrL (cArr (may ys) ys)).toArray, .int .i64 (cond (may ys) 0 300)]) ∧ Keeps (fun _ => False) w' w'') := fun w' hk => by
    have := count_ok a ys cap w' (HR.out.keptF hk) (by rw [HL.out]; exact hl)
    rw [HL.out] at this; exact this
  obtain ⟨t, ht⟩ : ∃ t, may ys = t := ⟨_, rfl⟩
  obtain ⟨o, ho⟩ : ∃ o, (32768 < room ys) = o := ⟨_, rfl⟩
  have HT : Hid (may ys = t ∧ ((32768 < room ys) = o)) := ⟨ht, ho⟩
  rw [ht] at HC
  cases t
  · have HFf : Hid (fits ys = false ∧ errF ys = 300) := by refine ⟨?_, ?_⟩ <;> simp [fits, errF, ht]
    clear ht ho HT
    go_enter Try.func87, Try.ntmps87
    go_wp2_with (first
      | (refine wpList_alloc16 rfl rfl ?_; (fail_if_success (clear hA1)); intro b1 w1 hA1 hK1 hb1; have HK1 : Hid (Keeps (fun _ => False) w w1) := hK1; clear hK1)
      | (go_at_call 91; refine (HC.out _ HK1.out).mono ?_; rintro e w2 ⟨rfl, hK2⟩; have hA2 := hA1.kept hK2 (fun h => h); have HK2 : Hid (Keeps (fun _ => False) w w2) := HK1.out.trans hK2 (fun _ _ h => h); clear hA1 hK2)
      | (refine wpList_alloc16 rfl rfl ?_; intro b3 w3 hA3 hK3 hb3; have hb4 := hA2.lt; have hA2' := hA2.kept hK3 (fun h => h); have HK3 : Hid (Keeps (fun _ => False) w w3) := HK2.out.trans hK3 (fun _ _ h => h); have HS : Hid (w.heap.size ≤ b3) := (by have := HK2.out.size; show _ ≤ _; omega); clear hK3 hA2)
      | (refine wpList_store16 rfl _ _ rfl b3 (cArr false ys) rfl rfl (fun _ => 0) ?hA ?_; (case hA => assumption); intro w4 hA4 hK4; have hA5 := hA2'.kept hK4 (by omega); have HK4 : Hid (Keeps (fun _ => False) w w4) := HK3.out.trans hK4 (fun i hi h => by have := HS.out; subst h; exact absurd hi (by omega)); clear hK4)
      | (refine wpList_load16 rfl _ rfl _ rfl (cArr false ys) ?hA ?_; (case hA => assumption))
      | (refine wpList_store16 rfl _ _ rfl b1 (cArr false ys) rfl rfl (fun _ => 0) ?hA ?_; (case hA => assumption); intro w5 hA6 hK5))
    (try simp only [Exit.inBlock, Exit.then])
    refine bodyPost_ret (v := .tuple #[.agg (arrL (cArr false ys)).toArray, .int .i64 300]) ?_ rfl ⟨by rw [HFf.out.1, HFf.out.2], HK4.out.trans hK5 (fun i hi h => by subst h; exact absurd hi (by omega))⟩
    rw [results_cell_tmp rfl]
    simp [asAddr, Result.andThen, hA6.loadVar]
  · have hle : ∀ i, cArr true ys i ≤ 288 := cArr_le true ys (fun _ => (may_len ht).2)
    have HCr : Hid (∀ w', Calls Try.prog 92 #[.agg (arrL (cArr true ys)).toArray] w' fun e w'' => e = .returned (.int .i64 (room ys : Nat)) ∧ Keeps (fun _ => False) w' w'') := fun w' => room_ok (cArr true ys) w' hle
    clear hle
    have HFg : Hid ((32768 < room ys → fits ys = false ∧ errF ys = 301) ∧ (¬ 32768 < room ys → fits ys = true ∧ errF ys = 0)) := by
      refine ⟨fun h => ?_, fun h => ?_⟩
      · simp [fits, errF, ht, h]
      · simp [fits, errF, ht, h]; omega
    generalize room ys = r at *
    by_cases hr : 32768 < r
    · have hrz : 32768 < (r : Int) := by omega
      have HFf : Hid (fits ys = false ∧ errF ys = 301) := HFg.out.1 hr
      clear ht ho HT HFg
      go_enter Try.func87, Try.ntmps87
      go_wp2_with (first
        | (refine wpList_alloc16 rfl rfl ?_; (fail_if_success (clear hA1)); intro b1 w1 hA1 hK1 hb1; have HK1 : Hid (Keeps (fun _ => False) w w1) := hK1; clear hK1)
        | (go_at_call 91; refine (HC.out _ HK1.out).mono ?_; rintro e w2 ⟨rfl, hK2⟩; have hA2 := hA1.kept hK2 (fun h => h); have HK2 : Hid (Keeps (fun _ => False) w w2) := HK1.out.trans hK2 (fun _ _ h => h); clear hA1 hK2)
        | (refine wpList_alloc16 rfl rfl ?_; intro b3 w3 hA3 hK3 hb3; have hb4 := hA2.lt; have hA2' := hA2.kept hK3 (fun h => h); have HK3 : Hid (Keeps (fun _ => False) w w3) := HK2.out.trans hK3 (fun _ _ h => h); have HS : Hid (w.heap.size ≤ b3) := (by have := HK2.out.size; show _ ≤ _; omega); clear hK3 hA2)
        | (refine wpList_store16 rfl _ _ rfl b3 (cArr true ys) rfl rfl (fun _ => 0) ?hA ?_; (case hA => assumption); intro w4 hA4 hK4; have hA5 := hA2'.kept hK4 (by omega); have HK4 : Hid (Keeps (fun _ => False) w w4) := HK3.out.trans hK4 (fun i hi h => by have := HS.out; subst h; exact absurd hi (by omega)); clear hK4)
        | (refine wpList_load16w _ rfl _ rfl rfl (cArr true ys) ?hA ?_; (case hA => assumption))
        | (go_at_call 92; refine (HCr.out _).mono ?_; rintro e w5 ⟨rfl, hK5⟩; have hA7 := hA5.kept hK5 (fun h => h); have hA8 := hA4.kept hK5 (fun h => h); have HK5 : Hid (Keeps (fun _ => False) w w5) := HK4.out.trans hK5 (fun _ _ h => h); clear hA4 hA5 hK5)
        | (refine wpList_store16 rfl _ _ rfl b1 (fun _ => 0) rfl rfl (fun _ => 0) ?hA ?_; (case hA => assumption); intro w6 hA9 hK6))
      (try simp only [Exit.inBlock, Exit.then])
      refine bodyPost_ret (v := .tuple #[.agg (arrL (fun _ => 0)).toArray, .int .i64 301]) ?_ rfl ⟨by rw [HFf.out.1, HFf.out.2] <;> rfl, HK5.out.trans hK6 (fun i hi h => by subst h; exact absurd hi (by omega))⟩
      rw [results_cell_tmp rfl]
      simp [asAddr, Result.andThen, hA9.loadVar]
    · have hrz : ¬ 32768 < (r : Int) := by omega
      have HFf : Hid (fits ys = true ∧ errF ys = 0) := HFg.out.2 hr
      clear ht ho HT HFg
      go_enter Try.func87, Try.ntmps87
      go_wp2_with (first
        | (refine wpList_alloc16 rfl rfl ?_; (fail_if_success (clear hA1)); intro b1 w1 hA1 hK1 hb1; have HK1 : Hid (Keeps (fun _ => False) w w1) := hK1; clear hK1)
        | (go_at_call 91; refine (HC.out _ HK1.out).mono ?_; rintro e w2 ⟨rfl, hK2⟩; have hA2 := hA1.kept hK2 (fun h => h); have HK2 : Hid (Keeps (fun _ => False) w w2) := HK1.out.trans hK2 (fun _ _ h => h); clear hA1 hK2)
        | (refine wpList_alloc16 rfl rfl ?_; intro b3 w3 hA3 hK3 hb3; have hb4 := hA2.lt; have hA2' := hA2.kept hK3 (fun h => h); have HK3 : Hid (Keeps (fun _ => False) w w3) := HK2.out.trans hK3 (fun _ _ h => h); have HS : Hid (w.heap.size ≤ b3) := (by have := HK2.out.size; show _ ≤ _; omega); clear hK3 hA2)
        | (refine wpList_store16 rfl _ _ rfl b3 (cArr true ys) rfl rfl (fun _ => 0) ?hA ?_; (case hA => assumption); intro w4 hA4 hK4; have hA5 := hA2'.kept hK4 (by omega); have HK4 : Hid (Keeps (fun _ => False) w w4) := HK3.out.trans hK4 (fun i hi h => by have := HS.out; subst h; exact absurd hi (by omega)); clear hK4)
        | (refine wpList_load16 rfl _ rfl _ rfl (cArr true ys) ?hA ?_; (case hA => assumption))
        | (refine wpList_load16w _ rfl _ rfl rfl (cArr true ys) ?hA ?_; (case hA => assumption))
        | (go_at_call 92; refine (HCr.out _).mono ?_; rintro e w5 ⟨rfl, hK5⟩; have hA7 := hA5.kept hK5 (fun h => h); have hA8 := hA4.kept hK5 (fun h => h); have HK5 : Hid (Keeps (fun _ => False) w w5) := HK4.out.trans hK5 (fun _ _ h => h); clear hA4 hA5 hK5)
        | (refine wpList_store16 rfl _ _ rfl b1 (cArr true ys) rfl rfl (fun _ => 0) ?hA ?_; (case hA => assumption); intro w6 hA9 hK6))
      (try simp only [Exit.inBlock, Exit.then])
      refine bodyPost_ret (v := .tuple #[.agg (arrL (cArr true ys)).toArray, .int .i64 0]) ?_ rfl ⟨by rw [HFf.out.1, HFf.out.2] <;> rfl, HK5.out.trans hK6 (fun i hi h => by subst h; exact absurd hi (by omega))⟩
      rw [results_cell_tmp rfl]
      simp [asAddr, Result.andThen, hA9.loadVar]

end Go.Proofs.Ytfbghchgfbjogaa.Hf

namespace Go.Proofs.Ytfbghchgfbjogaa.Hf
open Go.RowKit
set_option linter.unusedVariables false
set_option linter.unusedSimpArgs false

theorem num_any (n : Int) (w : World) : Calls Try.prog 10 #[.int .i64 n] w fun e w' => e = .returned (.int .i64 n) ∧ w' = w := by
  go_enter Try.func10, Try.ntmps10
  go_wp2
  go_ret
  exact ⟨rfl, rfl⟩

set_option maxHeartbeats 4000000 in
set_option maxRecDepth 1000000 in
theorem check_ok (a : Option Addr) (ys : List Int) (cap : Nat) (w : World) (hR : Row w a ys) (hl : ys.length ≤ 9223372036854775807) :
    Calls Try.prog 84 #[.slice a ys.length cap] w fun e w' => e = .returned (.int .i64 (errC ys)) ∧ Keeps (fun _ => False) w w' := by
  have HC : Hid (Calls Try.prog 91 #[.slice a ys.length cap] w fun e w'' => e = .returned (.tuple #[.agg (arrL (cArr (may ys) ys)).toArray, .int .i64 (cond (may ys) 0 300)]) ∧ Keeps (fun _ => False) w w'') := count_ok a ys cap w hR hl
  clear hR
  generalize ys.length = L at *
  cases ht : may ys
  · rw [ht] at HC
    have HE : Hid (errC ys = 300) := by show _ = _; simp [errC, ht]
    clear ht
    go_enter Try.func84, Try.ntmps84
    go_wp2_with (first
      | (go_at_call 91; refine HC.out.mono ?_; rintro e w2 ⟨rfl, hK2⟩; have HK2 : Hid (Keeps (fun _ => False) w w2) := hK2; clear hK2)
      | (refine wpList_alloc16 rfl rfl ?_; intro b3 w3 hA3 hK3 hb3; have HK3 : Hid (Keeps (fun _ => False) w w3) := HK2.out.trans hK3 (fun _ _ h => h); have HS : Hid (w.heap.size ≤ b3) := (by have := HK2.out.size; show _ ≤ _; omega); clear hK3)
      | (refine wpList_store16 rfl _ _ rfl b3 (cArr false ys) rfl rfl (fun _ => 0) ?hA ?_; (case hA => assumption); intro w4 hA4 hK4; have HK4 : Hid (Keeps (fun _ => False) w w4) := HK3.out.trans hK4 (fun i hi h => by have := HS.out; subst h; exact absurd hi (by omega)); clear hK4))
    go_ret
    exact ⟨by rw [HE.out]; rfl, HK4.out⟩
  · rw [ht] at HC
    have hle : ∀ i, cArr true ys i ≤ 288 := cArr_le true ys (fun _ => (may_len ht).2)
    have HCr : Hid (∀ w', Calls Try.prog 92 #[.agg (arrL (cArr true ys)).toArray] w' fun e w'' => e = .returned (.int .i64 (room ys : Nat)) ∧ Keeps (fun _ => False) w' w'') := fun w' => room_ok (cArr true ys) w' hle
    have HE : Hid (errC ys = cond (decide (32768 < room ys)) 301 (cond (decide (room ys < 32768)) 302 0)) := by show _ = _; simp [errC, ht]
    clear hle ht
    generalize room ys = r at *
    have hcs : (32768 < (r : Int)) ∨ (¬ (32768 < (r : Int)) ∧ (r : Int) < 32768) ∨ (¬ (32768 < (r : Int)) ∧ ¬ (r : Int) < 32768) := by omega
    rcases hcs with h1 | ⟨h1, h2⟩ | ⟨h1, h2⟩
    · go_enter Try.func84, Try.ntmps84
      go_wp2_with (first
        | (go_at_call 91; refine HC.out.mono ?_; rintro e w2 ⟨rfl, hK2⟩; have HK2 : Hid (Keeps (fun _ => False) w w2) := hK2; clear hK2)
        | (refine wpList_alloc16 rfl rfl ?_; intro b3 w3 hA3 hK3 hb3; have HK3 : Hid (Keeps (fun _ => False) w w3) := HK2.out.trans hK3 (fun _ _ h => h); have HS : Hid (w.heap.size ≤ b3) := (by have := HK2.out.size; show _ ≤ _; omega); clear hK3)
        | (refine wpList_store16 rfl _ _ rfl b3 (cArr true ys) rfl rfl (fun _ => 0) ?hA ?_; (case hA => assumption); intro w4 hA4 hK4; have HK4 : Hid (Keeps (fun _ => False) w w4) := HK3.out.trans hK4 (fun i hi h => by have := HS.out; subst h; exact absurd hi (by omega)); clear hK4)
        | (refine wpList_load16 rfl _ rfl _ rfl (cArr true ys) ?hA ?_; (case hA => assumption))
        | (go_at_call 92; (fail_if_success (clear HK5)); refine (HCr.out _).mono ?_; rintro e w5 ⟨rfl, hK5⟩; have hA7 := hA4.kept hK5 (fun h => h); have HK5 : Hid (Keeps (fun _ => False) w w5) := HK4.out.trans hK5 (fun _ _ h => h); clear hK5)
        | (go_at_call 92; refine (HCr.out _).mono ?_; rintro e w6 ⟨rfl, hK6⟩; have HK6 : Hid (Keeps (fun _ => False) w w6) := HK5.out.trans hK6 (fun _ _ h => h); clear hK6))
      go_ret
      exact ⟨by rw [HE.out, decide_eq_true (show 32768 < r by omega)]; rfl, HK5.out⟩
    · go_enter Try.func84, Try.ntmps84
      go_wp2_with (first
        | (go_at_call 91; refine HC.out.mono ?_; rintro e w2 ⟨rfl, hK2⟩; have HK2 : Hid (Keeps (fun _ => False) w w2) := hK2; clear hK2)
        | (refine wpList_alloc16 rfl rfl ?_; intro b3 w3 hA3 hK3 hb3; have HK3 : Hid (Keeps (fun _ => False) w w3) := HK2.out.trans hK3 (fun _ _ h => h); have HS : Hid (w.heap.size ≤ b3) := (by have := HK2.out.size; show _ ≤ _; omega); clear hK3)
        | (refine wpList_store16 rfl _ _ rfl b3 (cArr true ys) rfl rfl (fun _ => 0) ?hA ?_; (case hA => assumption); intro w4 hA4 hK4; have HK4 : Hid (Keeps (fun _ => False) w w4) := HK3.out.trans hK4 (fun i hi h => by have := HS.out; subst h; exact absurd hi (by omega)); clear hK4)
        | (refine wpList_load16 rfl _ rfl _ rfl (cArr true ys) ?hA ?_; (case hA => assumption))
        | (go_at_call 92; (fail_if_success (clear HK5)); refine (HCr.out _).mono ?_; rintro e w5 ⟨rfl, hK5⟩; have hA7 := hA4.kept hK5 (fun h => h); have HK5 : Hid (Keeps (fun _ => False) w w5) := HK4.out.trans hK5 (fun _ _ h => h); clear hK5)
        | (go_at_call 92; refine (HCr.out _).mono ?_; rintro e w6 ⟨rfl, hK6⟩; have HK6 : Hid (Keeps (fun _ => False) w w6) := HK5.out.trans hK6 (fun _ _ h => h); clear hK6))
      go_ret
      exact ⟨by rw [HE.out, decide_eq_false (show ¬ 32768 < r by omega), decide_eq_true (show r < 32768 by omega)]; rfl, HK6.out⟩
    · go_enter Try.func84, Try.ntmps84
      go_wp2_with (first
        | (go_at_call 91; refine HC.out.mono ?_; rintro e w2 ⟨rfl, hK2⟩; have HK2 : Hid (Keeps (fun _ => False) w w2) := hK2; clear hK2)
        | (refine wpList_alloc16 rfl rfl ?_; intro b3 w3 hA3 hK3 hb3; have HK3 : Hid (Keeps (fun _ => False) w w3) := HK2.out.trans hK3 (fun _ _ h => h); have HS : Hid (w.heap.size ≤ b3) := (by have := HK2.out.size; show _ ≤ _; omega); clear hK3)
        | (refine wpList_store16 rfl _ _ rfl b3 (cArr true ys) rfl rfl (fun _ => 0) ?hA ?_; (case hA => assumption); intro w4 hA4 hK4; have HK4 : Hid (Keeps (fun _ => False) w w4) := HK3.out.trans hK4 (fun i hi h => by have := HS.out; subst h; exact absurd hi (by omega)); clear hK4)
        | (refine wpList_load16 rfl _ rfl _ rfl (cArr true ys) ?hA ?_; (case hA => assumption))
        | (go_at_call 92; (fail_if_success (clear HK5)); refine (HCr.out _).mono ?_; rintro e w5 ⟨rfl, hK5⟩; have hA7 := hA4.kept hK5 (fun h => h); have HK5 : Hid (Keeps (fun _ => False) w w5) := HK4.out.trans hK5 (fun _ _ h => h); clear hK5)
        | (go_at_call 92; refine (HCr.out _).mono ?_; rintro e w6 ⟨rfl, hK6⟩; have HK6 : Hid (Keeps (fun _ => False) w w6) := HK5.out.trans hK6 (fun _ _ h => h); clear hK6))
      go_ret
      exact ⟨by rw [HE.out, decide_eq_false (show ¬ 32768 < r by omega), decide_eq_false (show ¬ r < 32768 by omega)]; rfl, HK6.out⟩

end Go.Proofs.Ytfbghchgfbjogaa.Hf

namespace Go.Proofs.Ytfbghchgfbjogaa.Hf
open Go.RowKit
set_option linter.unusedVariables false
set_option linter.unusedSimpArgs false

/-- Block g is a row of n codes. -/
def Cds (w : World) (g n : Nat) (f : Nat → Int × Int) : Prop :=
  ∃ cs : Array Value, w.heap[g]? = some (.cells cs 132 (0, 0)) ∧ cs.size = n * 2 ∧ ∀ i, i < n → cs[i * 2]? = some (.int .i64 (f i).1) ∧ cs[i * 2 + 1]? = some (.int .i64 (f i).2)
theorem Cds.lt {w : World} {g n : Nat} {f : Nat → Int × Int} (h : Cds w g n f) : g < w.heap.size := by obtain ⟨cs, h1, _⟩ := h; exact lt_of_heap h1
theorem Cds.bits {w : World} {g n : Nat} {f : Nat → Int × Int} (h : Cds w g n f) (i : Nat) (hi : i < n) : w.cell? ⟨g, i * 2, none⟩ = some (.int .i64 (f i).1) := by
  obtain ⟨cs, h1, h2, h3⟩ := h; exact cell_of_heap h1 (h3 i hi).1
theorem Cds.value {w : World} {g n : Nat} {f : Nat → Int × Int} (h : Cds w g n f) (i : Nat) (hi : i < n) : w.cell? ⟨g, i * 2 + 1, none⟩ = some (.int .i64 (f i).2) := by
  obtain ⟨cs, h1, h2, h3⟩ := h; exact cell_of_heap h1 (h3 i hi).2
theorem Cds.free {w : World} {g n : Nat} {f : Nat → Int × Int} (h : Cds w g n f) (i : Nat) : w.frozen? ⟨g, i, none⟩ = false := by
  obtain ⟨cs, h1, _⟩ := h; exact frozen_of_heap h1
theorem Cds.kept {S : Nat → Prop} {w w' : World} {g n : Nat} {f : Nat → Int × Int} (h : Cds w g n f) (hk : Keeps S w w') (hg : ¬ S g) : Cds w' g n f := by
  obtain ⟨cs, h1, r⟩ := h; exact ⟨cs, (hk.block g (lt_of_heap h1) hg).trans h1, r⟩
theorem Cds.congr {w : World} {g n : Nat} {f f' : Nat → Int × Int} (h : Cds w g n f) (e : ∀ i, i < n → f i = f' i) : Cds w g n f' := by
  obtain ⟨cs, h1, h2, h3⟩ := h; exact ⟨cs, h1, h2, fun i hi => by rw [← e i hi]; exact h3 i hi⟩
/-- The i-th code's bits are written. -/
theorem Cds.setBits {w : World} {g n : Nat} {f : Nat → Int × Int} (h : Cds w g n f) (i : Nat) (hi : i < n) (x : Int) : Cds (w.setCell ⟨g, i * 2, none⟩ (.int .i64 x)) g n (fun j => if j = i then (x, (f j).2) else f j) := by
  obtain ⟨cs, h1, h2, h3⟩ := h
  refine ⟨_, heap_setCell_same h1 _, by simp [h2], fun j hj => ?_⟩
  obtain ⟨c1, c2⟩ := h3 j hj
  rw [Array.getElem?_setIfInBounds, Array.getElem?_setIfInBounds, if_neg (show ¬ i * 2 = j * 2 + 1 by omega), c2]
  by_cases e : j = i
  · subst e; simp [h2, hi]
  · rw [if_neg (by omega), c1]; simp [e]
theorem Cds.setValue {w : World} {g n : Nat} {f : Nat → Int × Int} (h : Cds w g n f) (i : Nat) (hi : i < n) (x : Int) : Cds (w.setCell ⟨g, i * 2 + 1, none⟩ (.int .i64 x)) g n (fun j => if j = i then ((f j).1, x) else f j) := by
  obtain ⟨cs, h1, h2, h3⟩ := h
  refine ⟨_, heap_setCell_same h1 _, by simp [h2], fun j hj => ?_⟩
  obtain ⟨c1, c2⟩ := h3 j hj
  rw [Array.getElem?_setIfInBounds, Array.getElem?_setIfInBounds, if_neg (show ¬ i * 2 + 1 = j * 2 by omega), c1]
  by_cases e : j = i
  · subst e; simp [h2, hi]; omega
  · rw [if_neg (by omega), c2]; simp [e]
set_option maxRecDepth 1000000 in
theorem Cds.made (w : World) (n : Nat) (hn : n ≤ 1000000) : ∃ w1, (Instr.makeSlice 128 (.int .i64 (n : Int)) (.int .i64 (n : Int))).run Try.prog w = .ok (.slice (some ⟨w.heap.size, 0, none⟩) n n) w1 ∧ Cds w1 w.heap.size n (fun _ => (0, 0)) ∧ Keeps (fun _ => False) w w1 := by
  obtain ⟨i, hi, h1, h2, h3⟩ : ∃ i, Try.prog.info? 132 = some i ∧ i.zero = some (.agg #[.int .i64 0, .int .i64 0]) ∧ i.bytes = 16 ∧ i.size = 2 := ⟨Try.t132, Try.type132, rfl, rfl, rfl⟩
  have hr := run_make (P := Try.prog) w 128 132 i _ Try.underlying128 hi h1 .i64 .i64 n n (by omega) (by omega) (by rw [h2]; omega) (by omega)
  refine ⟨_, by simpa using hr, ⟨_, heap_alloc_new _ _, ?_, ?_⟩, (Keeps.refl _ w).alloc _⟩
  · simp [madeCells, h3]
  · intro j hj
    simp only [madeCells, h3, Value.cells]
    refine ⟨?_, ?_⟩
    · rw [Array.getElem?_map, Array.getElem?_range]
      rw [if_pos (by omega)]
      simp [show (j * 2) % 2 = 0 by omega]
    · rw [Array.getElem?_map, Array.getElem?_range]
      rw [if_pos (by omega)]
      simp [show (j * 2 + 1) % 2 = 1 by omega]

theorem wpList_codes {ops : Array Oper} {rest : List Oper} {op : Oper} {a : Act} {w : World} {Q : Exit → Act → World → Prop} (hgd : op.guard = none) (l c : Operand) (ho : op.op = .makeSlice 128 l c) (n : Nat) (hl : a.eval l = .int .i64 (n : Int)) (hc : a.eval c = .int .i64 (n : Int)) (hn : n ≤ 1000000)
    (h : ∀ g w1, Cds w1 g n (fun _ => (0, 0)) → Keeps (fun _ => False) w w1 → w.heap.size ≤ g → wpList Try.prog ops Q rest (a.put op.dst (.slice (some ⟨g, 0, none⟩) n n)) w1) : wpList Try.prog ops Q (op :: rest) a w :=
  wpList_plain hgd fun _ hK => by
    obtain ⟨w1, hr, hC, hk⟩ := Cds.made w n hn
    unfold Oper.wp execOp
    simp only [ho, hl, hc, hr, Sem.run_bind, Sem.run_pure, Result.andThen_ok]
    exact hK _ _ (h w.heap.size _ hC hk (Nat.le_refl _))

theorem size43 : (Try.prog.info? 132).map (·.size) = some 2 := by kernel_rfl
theorem Cds.setBoth {w : World} {g n : Nat} {f : Nat → Int × Int} (h : Cds w g n f) (i : Nat) (hi : i < n) (x y : Int) : Cds (w.setCells g (i * 2) [.int .i64 x, .int .i64 y]) g n (fun j => if j = i then (x, y) else f j) := by
  show Cds ((w.setCell ⟨g, i * 2, none⟩ (.int .i64 x)).setCell ⟨g, i * 2 + 1, none⟩ (.int .i64 y)) g n _
  refine ((h.setBits i hi x).setValue i hi y).congr (fun j hj => ?_)
  by_cases e : j = i <;> simp [e]
theorem wpList_code {ops : Array Oper} {rest : List Oper} {op : Oper} {a : Act} {w : World} {Q : Exit → Act → World → Prop} (hgd : op.guard = none) (x y : Operand) (ho : op.op = .store 132 x y) (g i : Nat) (p q : Int) (hx : a.eval x = .pointer (some ⟨g, i * 2, none⟩)) (hy : a.eval y = .agg #[.int .i64 p, .int .i64 q]) (n : Nat) (f : Nat → Int × Int) (hC : Cds w g n f) (hi : i < n)
    (h : ∀ w1, Cds w1 g n (fun j => if j = i then (p, q) else f j) → Keeps (fun k => k = g) w w1 → wpList Try.prog ops Q rest (a.put op.dst undef) w1) : wpList Try.prog ops Q (op :: rest) a w :=
  wpList_store_mid hgd 132 x y ho g (i * 2) #[.int .i64 p, .int .i64 q] hx hy (fun j hj => by
      have hj' : j = 0 ∨ j = 1 := by simp at hj; omega
      rcases hj' with rfl | rfl
      · exact ⟨by rw [Nat.add_zero, hC.bits i hi]; rfl, hC.free _⟩
      · exact ⟨by rw [hC.value i hi]; rfl, hC.free _⟩) size43 (by simp [Value.oneCell']) (h _ (hC.setBoth i hi p q) (keeps_setCells (S := fun k => k = g) g (fun _ => rfl) _ _ _ (Keeps.refl _ w)))

def nextF (ys : List Int) (i : Nat) : Nat → Nat := fun k => fstC (cn ys) k + cn (ys.take i) k
/-- The code of symbol j. -/
def codeF (ys : List Int) (j : Nat) : Int × Int := (at_ ys j, (codeV ys j : Int))
def codeTo (ys : List Int) (i : Nat) : Nat → Int × Int := fun j => if j < i then codeF ys j else (0, 0)

theorem nextF_zero (ys : List Int) (i : Nat) (hi : i < ys.length) (h : at_ ys i = ((0 : Nat) : Int)) : ∀ k, k < 16 → nextF ys i k = nextF ys (i + 1) k := by
  intro k hk
  unfold nextF
  rw [at_eq i hi] at h
  rw [take_snoc ys i hi, h]
  have := cn_zero (ys.take i) k hk
  simpa using this
theorem nextF_pos (ys : List Int) (i c : Nat) (hi : i < ys.length) (hc : 0 < c) (h : at_ ys i = (c : Int)) (q : Nat) (hq : nextF ys i c = q) : ∀ k, k < 16 → upd (nextF ys i) c (q + 1) k = nextF ys (i + 1) k := by
  intro k hk
  rw [at_eq i hi] at h
  have e := cn_pos (ys.take i) c hc k hk
  have e2 : nextF ys (i + 1) k = fstC (cn ys) k + cn (ys.take i ++ [(c : Int)]) k := by unfold nextF; rw [take_snoc ys i hi, h]
  rw [e2, ← e, ← hq]
  unfold upd nextF
  by_cases hk' : k = c
  · subst hk'; simp; omega
  · rw [if_neg hk', if_neg hk']
theorem codeTo_zero (ys : List Int) (i j : Nat) (h : at_ ys i = ((0 : Nat) : Int)) : codeTo ys i j = codeTo ys (i + 1) j := by
  unfold codeTo
  by_cases h1 : j < i
  · rw [if_pos h1, if_pos (by omega)]
  · rw [if_neg h1]
    by_cases h2 : j = i
    · subst h2; rw [if_pos (by omega)]; simp [codeF, codeV, h]
    · rw [if_neg (by omega)]
theorem codeTo_pos (ys : List Int) (i c j : Nat) (hc : 0 < c) (h : at_ ys i = (c : Int)) (q : Nat) (hq : nextF ys i c = q) : (if j = i then ((c : Int), (q : Int)) else codeTo ys i j) = codeTo ys (i + 1) j := by
  unfold codeTo
  by_cases h1 : j < i
  · rw [if_neg (by omega), if_pos h1, if_pos (by omega)]
  · by_cases h2 : j = i
    · subst h2
      rw [if_pos rfl, if_pos (by omega)]
      unfold codeF codeV
      rw [h, decide_eq_true (by omega), cond_true, ← hq]
      unfold nextF cn
      rw [if_neg (by omega)]
      rfl
    · rw [if_neg h2, if_neg h1, if_neg (by omega)]

set_option maxHeartbeats 4000000 in
set_option maxRecDepth 1000000 in
theorem codes_good (a : Option Addr) (ys : List Int) (cap : Nat) (w : World) (hR : Row w a ys) (hl : ys.length ≤ 9223372036854775807) (ht : fits ys = true) :
    Calls Try.prog 79 #[.slice a ys.length cap] w fun e w' => ∃ g, e = .returned (.tuple #[.slice (some ⟨g, 0, none⟩) ys.length ys.length, .int .i64 0]) ∧ Keeps (fun _ => False) w w' ∧ w.heap.size ≤ g ∧ Cds w' g ys.length (codeF ys) := by
  have HC : Hid (Calls Try.prog 87 #[.slice a ys.length cap] w fun e w'' => e = .returned (.tuple #[.agg (arrL (cArr (fits ys) ys)).toArray, .int .i64 (errF ys)]) ∧ Keeps (fun _ => False) w w'') := fitting_ok a ys cap w hR hl
  have hm := (fits_true ht).1
  have hlen := may_len hm
  have he : errF ys = 0 := errF_fits.2 ht
  have hle : ∀ i, cArr true ys i ≤ 288 := cArr_le true ys (fun _ => (may_len hm).2)
  have HCr : Hid (∀ w', Calls Try.prog 88 #[.agg (arrL (cArr true ys)).toArray] w' fun e w'' => e = .returned (.agg (arrL (fstC (cn ys))).toArray) ∧ Keeps (fun _ => False) w' w'') := fun w' => firsts_ok (cArr true ys) w' hle
  rw [ht, he] at HC
  obtain ⟨b, off, rfl, hb, hc⟩ := hR.spot (by omega)
  have HCell : Hid (∀ i, i < ys.length → w.cell? ⟨b, off + i, none⟩ = some (.int .i64 (at_ ys i)) ∧ 0 ≤ at_ ys i ∧ at_ ys i ≤ 15) := fun i h => by rw [at_eq i h]; exact ⟨hc i h, may_at hm i h⟩
  have HM : Hid (may ys = true) := hm
  clear hc hm he hle hR ht hl
  generalize hL : ys.length = L at *
  have HL : Hid (ys.length = L) := hL
  clear hL
  go_enter Try.func79, Try.ntmps79
  go_wp2_with (first
    | (go_at_call 87; refine HC.out.mono ?_; rintro e w2 ⟨rfl, hK2⟩; have HK2 : Hid (Keeps (fun _ => False) w w2) := hK2; clear hK2)
    | (refine wpList_alloc16 rfl rfl ?_; (fail_if_success (clear HK3)); intro b3 w3 hA3 hK3 hb3; have HK3 : Hid (Keeps (fun _ => False) w w3) := HK2.out.trans hK3 (fun _ _ h => h); have HS : Hid (w.heap.size ≤ b3) := (by have := HK2.out.size; show _ ≤ _; omega); clear hK3)
    | (refine wpList_store16 rfl _ _ rfl b3 (cArr true ys) rfl rfl (fun _ => 0) ?hA ?_; (case hA => assumption); intro w4 hA4 hK4; have HK4 : Hid (Keeps (fun _ => False) w w4) := HK3.out.trans hK4 (fun i hi h => by have := HS.out; subst h; exact absurd hi (by omega)); clear hK4)
    | (refine wpList_load16 rfl _ rfl _ rfl (cArr true ys) ?hA ?_; (case hA => assumption))
    | (go_at_call 88; refine (HCr.out _).mono ?_; rintro e w5 ⟨rfl, hK5⟩; have HK5 : Hid (Keeps (fun _ => False) w w5) := HK4.out.trans hK5 (fun _ _ h => h); clear hK5)
    | (refine wpList_alloc16 rfl rfl ?_; intro b6 w6 hA6 hK6 hb6; have HK6 : Hid (Keeps (fun _ => False) w w6) := HK5.out.trans hK6 (fun _ _ h => h); have HS6 : Hid (w.heap.size ≤ b6) := (by have := HK5.out.size; show _ ≤ _; omega); clear hK6)
    | (refine wpList_store16 rfl _ _ rfl b6 (fstC (cn ys)) rfl rfl (fun _ => 0) ?hA ?_; (case hA => assumption); intro w7 hA7 hK7; have HK7 : Hid (Keeps (fun _ => False) w w7) := HK6.out.trans hK7 (fun i hi h => by have := HS6.out; subst h; exact absurd hi (by omega)); clear hK7)
    | (refine wpList_codes rfl _ _ rfl L rfl rfl ?hn ?_; (case hn => omega); intro g w8 hG hK8 hg8))
  have HE : Hid (b6 ≠ g ∧ w.heap.size ≤ b6 ∧ w.heap.size ≤ g) := by
    have e1 := hA7.lt; have e2 := HK7.out.size; have e3 := HS6.out
    show _ ∧ _; omega
  have HW : Hid (Arr w8 b6 (nextF ys 0) ∧ Cds w8 g L (codeTo ys 0) ∧ Keeps (fun _ => False) w w8) :=
    ⟨(hA7.kept hK8 (fun h => h)).congr (fun k hk => by simp [nextF, cn, cnt]), hG.congr (fun i _ => by simp [codeTo]), HK7.out.trans hK8 (fun _ _ h => h)⟩
  clear HC HCr HK2 hA3 hb3 HK3 HS hA4 HK4 HK5 hA6 hb6 HK6 HS6 hA7 HK7 hG hK8 hg8
  go_loopw [25] (fun s25 w' => ∃ i : Nat, i ≤ L ∧ s25 = .int .i64 (i : Int) ∧ Hid (Arr w' b6 (nextF ys i) ∧ Cds w' g L (codeTo ys i) ∧ Keeps (fun _ => False) w w')) (fun s25 w' => ((L : Int) - intOf s25).toNat)
  case atStart => exact ⟨0, by omega, rfl, HW⟩
  case round =>
    clear HW
    obtain ⟨i, hi, rfl, HW⟩ := hrel
    by_cases hin : i < L
    · have hiz : (i : Int) < (L : Int) := by omega
      obtain ⟨hcell0, hy0, hy15⟩ := HCell.out i hin
      have hcell : wr.cell? ⟨b, off + i, none⟩ = some (.int .i64 (at_ ys i)) := by
        rw [World.cell?_of_block (HW.out.2.2.block b hb (fun h => h))]; exact hcell0
      clear hcell0
      obtain ⟨c, hc⟩ : ∃ c : Nat, at_ ys i = (c : Int) := ⟨(at_ ys i).toNat, by omega⟩
      rw [hc] at hy0 hy15 hcell
      have HY : Hid (at_ ys i = (c : Int)) := hc
      clear hc
      by_cases hp : 0 < c
      · have hpz : 0 < (c : Int) := by omega
        have hc16 : (c : Int) < 16 := by omega
        have hcb := HW.out.1.cell c (by omega)
        have hcf := HW.out.1.free c
        obtain ⟨q, hq⟩ : ∃ q, nextF ys i c = q := ⟨_, rfl⟩
        rw [hq] at hcb
        have HQ : Hid (nextF ys i c = q) := hq
        clear hq
        have hqs : q ≤ 20000000 := by
          have h1 := fstC_small ys (by rw [HL.out]; omega) c (by omega)
          have h2 := cn_le (ys.take i) c
          rw [List.length_take] at h2
          rw [← HQ.out]; unfold nextF; omega
        have hwq : IntKind.i64.wrap ((q : Int) + 1) = ((q + 1 : Nat) : Int) := by rw [wrap_i64_small _ (by omega) (by omega)]; push_cast; rfl
        have HG : Hid (Cds wr g L (codeTo ys i)) := HW.out.2.1
        go_wp2_with (first
          | (refine wpList_code rfl _ _ rfl g i (c : Int) (q : Int) rfl rfl L (codeTo ys i) HG.out hin ?_; intro wa hGa hKa; have hcb' := (HW.out.1.kept hKa HE.out.1).cell c (by omega); have hcf' := (HW.out.1.kept hKa HE.out.1).free c; rw [HQ.out] at hcb'; have HGa : Hid (Cds wa g L (fun j => if j = i then ((c : Int), (q : Int)) else codeTo ys i j)) := hGa; have HKa : Hid (Keeps (fun k => k = g) wr wa) := hKa; clear hGa hKa))
        go_roundw
        case rel =>
          refine ⟨i + 1, by omega, by push_cast; rfl, ?_⟩
          obtain ⟨g1, g2, g3⟩ := HW.out
          obtain ⟨n1, n2, n3⟩ := HE.out
          have kk : Keeps (fun k => k = b6) wa (wa.setCell ⟨b6, c, none⟩ (.int .i64 ((q : Int) + 1))) := Keeps.setCell (S := fun k => k = b6) (Keeps.refl _ wa) (p := ⟨b6, c, none⟩) (fun _ => rfl) _
          refine ⟨?_, ?_, (g3.trans HKa.out (fun i hi h => by subst h; exact absurd hi (by omega))).trans kk (fun i hi h => by subst h; exact absurd hi (by omega))⟩
          · refine ((g1.kept HKa.out n1).set c (q + 1) (by omega)).congr ?_
            exact nextF_pos ys i c (by rw [HL.out]; exact hin) hp HY.out q HQ.out
          · exact (HGa.out.kept kk (fun h => n1 h.symm)).congr (fun j hj => codeTo_pos ys i c j hp HY.out q HQ.out)
        case measure => simp [intOf]; omega
      · obtain rfl : c = 0 := by omega
        go_wp2
        go_roundw
        case rel =>
          refine ⟨i + 1, by omega, by push_cast; rfl, ?_⟩
          obtain ⟨g1, g2, g3⟩ := HW.out
          exact ⟨g1.congr (nextF_zero ys i (by rw [HL.out]; exact hin) HY.out), g2.congr (fun j hj => codeTo_zero ys i j HY.out), g3⟩
        case measure => simp [intOf]; omega
    · obtain rfl : i = L := by omega
      go_wp2
      go_ret2
      obtain ⟨g1, g2, g3⟩ := HW.out
      exact ⟨g, rfl, g3, HE.out.2.2, g2.congr (fun j hj => by simp [codeTo, hj])⟩

end Go.Proofs.Ytfbghchgfbjogaa.Hf

namespace Go.Proofs.Ytfbghchgfbjogaa.Tb
open Go.RowKit
set_option linter.unusedVariables false
set_option linter.unusedSimpArgs false

/-- Block g is a row of n pairs. -/
def Prs (w : World) (g n : Nat) (f : Nat → Nat × Nat) : Prop :=
  ∃ cs : Array Value, w.heap[g]? = some (.cells cs 125 (0, 0)) ∧ cs.size = n * 2 ∧ ∀ i, i < n → cs[i * 2]? = some (.int .i64 ((f i).1 : Int)) ∧ cs[i * 2 + 1]? = some (.int .i64 ((f i).2 : Int))
theorem Prs.lt {w : World} {g n : Nat} {f : Nat → Nat × Nat} (h : Prs w g n f) : g < w.heap.size := by obtain ⟨cs, h1, _⟩ := h; exact lt_of_heap h1
theorem Prs.fst {w : World} {g n : Nat} {f : Nat → Nat × Nat} (h : Prs w g n f) (i : Nat) (hi : i < n) : w.cell? ⟨g, i * 2, none⟩ = some (.int .i64 ((f i).1 : Int)) := by
  obtain ⟨cs, h1, h2, h3⟩ := h; exact cell_of_heap h1 (h3 i hi).1
theorem Prs.snd {w : World} {g n : Nat} {f : Nat → Nat × Nat} (h : Prs w g n f) (i : Nat) (hi : i < n) : w.cell? ⟨g, i * 2 + 1, none⟩ = some (.int .i64 ((f i).2 : Int)) := by
  obtain ⟨cs, h1, h2, h3⟩ := h; exact cell_of_heap h1 (h3 i hi).2
theorem Prs.free {w : World} {g n : Nat} {f : Nat → Nat × Nat} (h : Prs w g n f) (i : Nat) : w.frozen? ⟨g, i, none⟩ = false := by
  obtain ⟨cs, h1, _⟩ := h; exact frozen_of_heap h1
theorem Prs.kept {S : Nat → Prop} {w w' : World} {g n : Nat} {f : Nat → Nat × Nat} (h : Prs w g n f) (hk : Keeps S w w') (hg : ¬ S g) : Prs w' g n f := by
  obtain ⟨cs, h1, r⟩ := h; exact ⟨cs, (hk.block g (lt_of_heap h1) hg).trans h1, r⟩
theorem Prs.keptF {w w' : World} {g n : Nat} {f : Nat → Nat × Nat} (h : Prs w g n f) (hk : Keeps (fun _ => False) w w') : Prs w' g n f := h.kept hk (fun h => h)
theorem Prs.congr {w : World} {g n : Nat} {f f' : Nat → Nat × Nat} (h : Prs w g n f) (e : ∀ i, i < n → f i = f' i) : Prs w g n f' := by
  obtain ⟨cs, h1, h2, h3⟩ := h; exact ⟨cs, h1, h2, fun i hi => by rw [← e i hi]; exact h3 i hi⟩
theorem keeps_setCells {S : Nat → Prop} {a : World} (b : Nat) (hb : b < a.heap.size → S b) : ∀ (vs : List Value) (o : Nat) (w : World), Keeps S a w → Keeps S a (w.setCells b o vs)
  | [], _, _, h => h
  | v :: r, o, w, h => by rw [World.setCells]; exact keeps_setCells b hb r (o + 1) _ (h.setCell hb v)
theorem Prs.set {w : World} {g n : Nat} {f : Nat → Nat × Nat} (h : Prs w g n f) (i : Nat) (hi : i < n) (x y : Nat) : Prs (w.setCells g (i * 2) [.int .i64 (x : Int), .int .i64 (y : Int)]) g n (fun j => if j = i then (x, y) else f j) := by
  show Prs ((w.setCell ⟨g, i * 2, none⟩ (.int .i64 x)).setCell ⟨g, i * 2 + 1, none⟩ (.int .i64 y)) g n _
  obtain ⟨cs, h1, h2, h3⟩ := h
  refine ⟨_, heap_setCell_same (heap_setCell_same h1 _) _, by simp [h2], fun j hj => ?_⟩
  obtain ⟨c1, c2⟩ := h3 j hj
  simp only [Array.getElem?_setIfInBounds, Array.size_setIfInBounds, h2]
  by_cases e : j = i
  · subst e
    rw [if_neg (show ¬ j * 2 + 1 = j * 2 by omega)]
    simp [show j * 2 < n * 2 by omega, show j * 2 + 1 < n * 2 by omega]
  · rw [if_neg (show ¬ i * 2 + 1 = j * 2 by omega), if_neg (show ¬ i * 2 = j * 2 by omega), if_neg (show ¬ i * 2 + 1 = j * 2 + 1 by omega), if_neg (show ¬ i * 2 = j * 2 + 1 by omega), c1, c2]
    simp [e]
set_option maxRecDepth 1000000 in
theorem Prs.made (w : World) (n : Nat) (hn : n ≤ 1000000) : ∃ w1, (Instr.makeSlice 126 (.int .i64 (n : Int)) (.int .i64 (n : Int))).run Try.prog w = .ok (.slice (some ⟨w.heap.size, 0, none⟩) n n) w1 ∧ Prs w1 w.heap.size n (fun _ => (0, 0)) ∧ Keeps (fun _ => False) w w1 := by
  obtain ⟨i, hi, h1, h2, h3⟩ : ∃ i, Try.prog.info? 125 = some i ∧ i.zero = some (.agg #[.int .i64 0, .int .i64 0]) ∧ i.bytes = 16 ∧ i.size = 2 := ⟨Try.t125, Try.type125, rfl, rfl, rfl⟩
  have hr := run_make (P := Try.prog) w 126 125 i _ Try.underlying126 hi h1 .i64 .i64 n n (by omega) (by omega) (by rw [h2]; omega) (by omega)
  refine ⟨_, by simpa using hr, ⟨_, heap_alloc_new _ _, ?_, ?_⟩, (Keeps.refl _ w).alloc _⟩
  · simp [madeCells, h3]
  · intro j hj
    simp only [madeCells, h3, Value.cells]
    refine ⟨?_, ?_⟩
    · rw [Array.getElem?_map, Array.getElem?_range]
      rw [if_pos (by omega)]
      simp [show (j * 2) % 2 = 0 by omega]
    · rw [Array.getElem?_map, Array.getElem?_range]
      rw [if_pos (by omega)]
      simp [show (j * 2 + 1) % 2 = 1 by omega]
theorem wpList_rows {ops : Array Oper} {rest : List Oper} {op : Oper} {a : Act} {w : World} {Q : Exit → Act → World → Prop} (hgd : op.guard = none) (l c : Operand) (ho : op.op = .makeSlice 126 l c) (n : Nat) (hl : a.eval l = .int .i64 (n : Int)) (hc : a.eval c = .int .i64 (n : Int)) (hn : n ≤ 1000000)
    (h : ∀ g w1, Prs w1 g n (fun _ => (0, 0)) → Keeps (fun _ => False) w w1 → w.heap.size ≤ g → wpList Try.prog ops Q rest (a.put op.dst (.slice (some ⟨g, 0, none⟩) n n)) w1) : wpList Try.prog ops Q (op :: rest) a w :=
  wpList_plain hgd fun _ hK => by
    obtain ⟨w1, hr, hC, hk⟩ := Prs.made w n hn
    unfold Oper.wp execOp
    simp only [ho, hl, hc, hr, Sem.run_bind, Sem.run_pure, Result.andThen_ok]
    exact hK _ _ (h w.heap.size _ hC hk (Nat.le_refl _))
theorem size46 : (Try.prog.info? 125).map (·.size) = some 2 := by kernel_rfl
theorem wpList_row {ops : Array Oper} {rest : List Oper} {op : Oper} {a : Act} {w : World} {Q : Exit → Act → World → Prop} (hgd : op.guard = none) (x y : Operand) (ho : op.op = .store 125 x y) (g i : Nat) (p q : Nat) (hx : a.eval x = .pointer (some ⟨g, i * 2, none⟩)) (hy : a.eval y = .agg #[.int .i64 (p : Int), .int .i64 (q : Int)]) (n : Nat) (f : Nat → Nat × Nat) (hC : Prs w g n f) (hi : i < n)
    (h : ∀ w1, Prs w1 g n (fun j => if j = i then (p, q) else f j) → Keeps (fun k => k = g) w w1 → wpList Try.prog ops Q rest (a.put op.dst undef) w1) : wpList Try.prog ops Q (op :: rest) a w :=
  wpList_store_mid hgd 125 x y ho g (i * 2) #[.int .i64 p, .int .i64 q] hx hy (fun j hj => by
      have hj' : j = 0 ∨ j = 1 := by simp at hj; omega
      rcases hj' with rfl | rfl
      · exact ⟨by rw [Nat.add_zero, hC.fst i hi]; rfl, hC.free _⟩
      · exact ⟨by rw [hC.snd i hi]; rfl, hC.free _⟩) size46 (by simp [Value.oneCell']) (h _ (hC.set i hi p q) (keeps_setCells (S := fun k => k = g) g (fun _ => rfl) _ _ _ (Keeps.refl _ w)))

/-- The rows that are reckoned already. -/
def upTo (l a k : Nat) : Nat → Nat × Nat := fun j => if j < k then rowF l a j else (0, 0)
theorem upTo_next (l a k j : Nat) : (if j = k then (lsR l a k, btR a k) else upTo l a k j) = upTo l a (k + 1) j := by
  unfold upTo
  by_cases h1 : j < k
  · rw [if_neg (by omega), if_pos h1, if_pos (by omega)]
  · by_cases h2 : j = k
    · subst h2; rw [if_pos rfl, if_pos (by omega)]; rfl
    · rw [if_neg h2, if_neg h1, if_neg (by omega)]

set_option maxHeartbeats 4000000 in
set_option maxRecDepth 1000000 in
theorem reckon_ok (n l a : Nat) (w : World) (hn : n ≤ 30) (hl : l ≤ 10) (ha : 2 ≤ a) (ha4 : a ≤ 4) :
    Calls Try.prog 86 #[.int .i64 (n : Int), .int .i64 (l : Int), .int .i64 (a : Int)] w fun e w' => ∃ g, e = .returned (.slice (some ⟨g, 0, none⟩) n n) ∧ Keeps (fun _ => False) w w' ∧ w.heap.size ≤ g ∧ Prs w' g n (rowF l a) := by
  go_enter Try.func86, Try.ntmps86
  go_wp2_with (first
    | (refine wpList_rows rfl _ _ rfl n rfl rfl ?hn ?_; (case hn => omega); intro g w1 hP hK hg))
  have HW : Hid (Prs w1 g n (upTo l a 0) ∧ Keeps (fun _ => False) w w1) := ⟨hP.congr (fun i _ => by simp [upTo]), hK⟩
  have HG : Hid (w.heap.size ≤ g) := hg
  clear hP hK hg
  go_loopw [14, 1] (fun s14 s1 w' => ∃ i : Nat, i ≤ n ∧ s14 = .int .i64 (i : Int) ∧ s1 = .int .i64 (lsR l a i : Int) ∧ Hid (Prs w' g n (upTo l a i) ∧ Keeps (fun _ => False) w w')) (fun s14 s1 w' => ((n : Int) - intOf s14).toNat)
  case atStart => exact ⟨0, by omega, rfl, rfl, HW⟩
  case round =>
    clear HW
    obtain ⟨i, hi, rfl, rfl, HW⟩ := hrel
    by_cases hin : i < n
    · have hiz : (i : Int) < (n : Int) := by omega
      have hls := lsR_le l a ha i (by omega)
      have hb := btR_le a i ha (by omega)
      have hp := pow_small _ hb
      have HN : Hid (lsR l a (i + 1) = lsR l a i + 2 ^ btR a i ∧ ∀ j, (if j = i then (lsR l a i, btR a i) else upTo l a i j) = upTo l a (i + 1) j) := ⟨rfl, upTo_next l a i⟩
      obtain ⟨b, hbe⟩ : ∃ b, btR a i = b := ⟨_, rfl⟩
      obtain ⟨q, hq⟩ : ∃ q, i / a = q := ⟨_, rfl⟩
      have hdz : (i : Int) / (a : Int) = (q : Int) := by rw [← hq]; exact (Int.natCast_ediv i a).symm
      have hbq : q - 1 = b := by rw [← hq]; exact hbe
      rw [hbe] at HN hb hp
      obtain ⟨L, hL⟩ : ∃ L, lsR l a i = L := ⟨_, rfl⟩
      rw [hL] at HN hls
      have hLb : L ≤ 600000 := by omega
      rw [hL]
      clear hbe hls hL hq
      have hpz : ((2 ^ b : Nat) : Int) = (2 : Int) ^ b := by simp
      have h2z : (2 : Int) ^ b ≤ 16384 := by rw [← hpz]; omega
      have h2p : (0 : Int) < (2 : Int) ^ b := by rw [← hpz]; have : 0 < 2 ^ b := Nat.pow_pos (by decide); omega
      clear hpz hp
      obtain rfl | rfl | hq : q = 0 ∨ q = 1 ∨ 1 < q := by omega
      · obtain rfl : b = 0 := by omega
        have hd : (i : Int) / (a : Int) = 0 := hdz
        clear hdz hbq
        go_wp2_with (first
          | (refine wpList_row rfl _ _ rfl g i L 0 rfl rfl n (upTo l a i) HW.out.1 hin ?_; intro w2 hP hK; have HW2 : Hid (Prs w2 g n (fun j => if j = i then (L, 0) else upTo l a i j) ∧ Keeps (fun k => k = g) wr w2) := ⟨hP, hK⟩; clear hP hK))
        go_roundw
        case rel => exact ⟨i + 1, by omega, by push_cast; rfl, by rw [HN.out.1]; push_cast; rfl, HW2.out.1.congr (fun j _ => HN.out.2 j), HW.out.2.trans HW2.out.2 (fun k hk e => by have := HG.out; omega)⟩
        case measure => simp [intOf]; omega
      · obtain rfl : b = 0 := by omega
        have hd : (i : Int) / (a : Int) = 1 := hdz
        clear hdz hbq
        go_wp2_with (first
          | (refine wpList_row rfl _ _ rfl g i L 0 rfl rfl n (upTo l a i) HW.out.1 hin ?_; intro w2 hP hK; have HW2 : Hid (Prs w2 g n (fun j => if j = i then (L, 0) else upTo l a i j) ∧ Keeps (fun k => k = g) wr w2) := ⟨hP, hK⟩; clear hP hK))
        go_roundw
        case rel => exact ⟨i + 1, by omega, by push_cast; rfl, by rw [HN.out.1]; push_cast; rfl, HW2.out.1.congr (fun j _ => HN.out.2 j), HW.out.2.trans HW2.out.2 (fun k hk e => by have := HG.out; omega)⟩
        case measure => simp [intOf]; omega
      · have hd : (i : Int) / (a : Int) = (b : Int) + 1 := by omega
        have hbz : 0 < b := by omega
        have hbw : wrap64 ((L : Int) + 2 ^ b) = (L : Int) + 2 ^ b := by unfold wrap64; omega
        clear hdz hbq hq
        go_wp2_with (first
          | (refine wpList_row rfl _ _ rfl g i L b rfl rfl n (upTo l a i) HW.out.1 hin ?_; intro w2 hP hK; have HW2 : Hid (Prs w2 g n (fun j => if j = i then (L, b) else upTo l a i j) ∧ Keeps (fun k => k = g) wr w2) := ⟨hP, hK⟩; clear hP hK))
        go_roundw
        case rel => exact ⟨i + 1, by omega, by push_cast; rfl, by rw [HN.out.1]; push_cast; rfl, HW2.out.1.congr (fun j _ => HN.out.2 j), HW.out.2.trans HW2.out.2 (fun k hk e => by have := HG.out; omega)⟩
        case measure => simp [intOf]; omega
    · obtain rfl : i = n := by omega
      go_wp2
      go_ret
      exact ⟨g, rfl, HW.out.2, HG.out, HW.out.1.congr (fun j hj => by simp [upTo, hj])⟩

set_option maxHeartbeats 4000000 in
set_option maxRecDepth 1000000 in
theorem dists_ok (w : World) : Calls Try.prog 78 #[] w fun e w' => ∃ g, e = .returned (.slice (some ⟨g, 0, none⟩) 30 30) ∧ Keeps (fun _ => False) w w' ∧ w.heap.size ≤ g ∧ Prs w' g 30 dstF := by
  have HC : Hid (Calls Try.prog 86 #[.int .i64 30, .int .i64 1, .int .i64 2] w fun e w' => ∃ g, e = .returned (.slice (some ⟨g, 0, none⟩) 30 30) ∧ Keeps (fun _ => False) w w' ∧ w.heap.size ≤ g ∧ Prs w' g 30 (rowF 1 2)) := reckon_ok 30 1 2 w (by decide) (by decide) (by decide) (by decide)
  go_enter Try.func78, Try.ntmps78
  go_wp2_with (first
    | (go_at_call 86; refine HC.out.mono ?_; rintro e w1 ⟨g, rfl, hK, hg, hP⟩; have HW : Hid (Keeps (fun _ => False) w w1 ∧ w.heap.size ≤ g ∧ Prs w1 g 30 (rowF 1 2)) := ⟨hK, hg, hP⟩; clear hK hg hP))
  go_ret
  exact ⟨g, rfl, HW.out⟩

set_option maxHeartbeats 4000000 in
set_option maxRecDepth 1000000 in
theorem lengths_ok (w : World) : Calls Try.prog 77 #[] w fun e w' => ∃ g, e = .returned (.slice (some ⟨g, 0, none⟩) 29 29) ∧ Keeps (fun _ => False) w w' ∧ w.heap.size ≤ g ∧ Prs w' g 29 lenF := by
  have HC : Hid (Calls Try.prog 86 #[.int .i64 29, .int .i64 3, .int .i64 4] w fun e w' => ∃ g, e = .returned (.slice (some ⟨g, 0, none⟩) 29 29) ∧ Keeps (fun _ => False) w w' ∧ w.heap.size ≤ g ∧ Prs w' g 29 (rowF 3 4)) := reckon_ok 29 3 4 w (by decide) (by decide) (by decide) (by decide)
  go_enter Try.func77, Try.ntmps77
  go_wp2_with (first
    | (go_at_call 86; refine HC.out.mono ?_; rintro e w1 ⟨g, rfl, hK, hg, hP⟩; have HW : Hid (Keeps (fun _ => False) w w1 ∧ w.heap.size ≤ g ∧ Prs w1 g 29 (rowF 3 4)) := ⟨hK, hg, hP⟩; clear hK hg hP)
    | (refine wpList_row rfl _ _ rfl g 28 258 0 rfl rfl 29 (rowF 3 4) HW.out.2.2 (by decide) ?_; intro w2 hP hK; have HW2 : Hid (Prs w2 g 29 (fun j => if j = 28 then (258, 0) else rowF 3 4 j) ∧ Keeps (fun k => k = g) w1 w2) := ⟨hP, hK⟩; clear hP hK))
  go_ret
  exact ⟨g, rfl, HW.out.1.trans HW2.out.2 (fun k hk e => by have := HW.out.2.1; omega), HW.out.2.1, HW2.out.1⟩

end Go.Proofs.Ytfbghchgfbjogaa.Tb

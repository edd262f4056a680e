/-
  The document's own Codes and Find.
-/
import Derived.Test.YtfchkgmepmmnoaaRefm
namespace Go.Proofs.Ytfchkgmepmmnoaa
open Go.RowKit
set_option linter.unusedVariables false
set_option linter.unusedSimpArgs false

/-- The codes that are laid once the lengths below b are done, and of b the first i symbols. -/
def rTo (ys : List Int) (b i : Nat) : Nat → Int × Int := fun j => if 1 ≤ at_ ys j ∧ (at_ ys j < (b : Int) ∨ (at_ ys j = (b : Int) ∧ j < i)) then codeF ys j else (0, 0)
theorem rTo_next (ys : List Int) (b : Nat) (n : Nat) (j : Nat) (hj : j < n) : rTo ys b n j = rTo ys (b + 1) 0 j := by
  unfold rTo
  have e : (1 ≤ at_ ys j ∧ (at_ ys j < (b : Int) ∨ (at_ ys j = (b : Int) ∧ j < n))) ↔ (1 ≤ at_ ys j ∧ (at_ ys j < ((b + 1 : Nat) : Int) ∨ (at_ ys j = ((b + 1 : Nat) : Int) ∧ j < 0))) := by
    constructor
    · rintro ⟨h1, h2⟩; exact ⟨h1, .inl (by omega)⟩
    · rintro ⟨h1, h2⟩
      refine ⟨h1, ?_⟩
      rcases h2 with h2 | ⟨_, h3⟩
      · by_cases e : at_ ys j = (b : Int)
        · exact .inr ⟨e, hj⟩
        · exact .inl (by omega)
      · omega
  by_cases h : (1 ≤ at_ ys j ∧ (at_ ys j < (b : Int) ∨ (at_ ys j = (b : Int) ∧ j < n)))
  · rw [if_pos h, if_pos (e.1 h)]
  · rw [if_neg h, if_neg (fun k => h (e.2 k))]
theorem rTo_start (ys : List Int) (j : Nat) : rTo ys 1 0 j = (0, 0) := by
  unfold rTo; rw [if_neg (by omega)]
theorem rTo_end (ys : List Int) (j : Nat) (h : 0 ≤ at_ ys j ∧ at_ ys j ≤ 15) : rTo ys 16 0 j = codeF ys j := by
  unfold rTo
  by_cases h1 : 1 ≤ at_ ys j
  · rw [if_pos ⟨h1, .inl (by omega)⟩]
  · rw [if_neg (by omega)]
    have e : at_ ys j = 0 := by omega
    unfold codeF codeV; rw [e]; simp
theorem rTo_skip (ys : List Int) (b i j : Nat) (h : ¬ at_ ys i = (b : Int)) : rTo ys b i j = rTo ys b (i + 1) j := by
  unfold rTo
  by_cases e : j = i
  · subst e
    by_cases h1 : 1 ≤ at_ ys j ∧ (at_ ys j < (b : Int) ∨ (at_ ys j = (b : Int) ∧ j < j))
    · rw [if_pos h1, if_pos ⟨h1.1, by omega⟩]
    · rw [if_neg h1, if_neg (by omega)]
  · by_cases h1 : 1 ≤ at_ ys j ∧ (at_ ys j < (b : Int) ∨ (at_ ys j = (b : Int) ∧ j < i))
    · rw [if_pos h1, if_pos ⟨h1.1, by omega⟩]
    · rw [if_neg h1, if_neg (by omega)]
theorem rTo_take (ys : List Int) (b i j : Nat) (hb : 1 ≤ b) (h : at_ ys i = (b : Int)) (q : Nat) (hq : fstC (cn ys) b + cnt (ys.take i) b = q) : (if j = i then ((b : Int), (q : Int)) else rTo ys b i j) = rTo ys b (i + 1) j := by
  by_cases e : j = i
  · subst e
    rw [if_pos rfl]
    unfold rTo
    rw [if_pos ⟨by omega, .inr ⟨h, by omega⟩⟩]
    unfold codeF codeV
    rw [h, decide_eq_true (by omega), cond_true, show ((b : Int)).toNat = b by omega, hq]
  · rw [if_neg e]
    unfold rTo
    by_cases h1 : 1 ≤ at_ ys j ∧ (at_ ys j < (b : Int) ∨ (at_ ys j = (b : Int) ∧ j < i))
    · rw [if_pos h1, if_pos ⟨h1.1, by omega⟩]
    · rw [if_neg h1, if_neg (by omega)]
def nextR (ys : List Int) (b i : Nat) : Nat := fstC (cn ys) b + cnt (ys.take i) b
theorem nextR_le (ys : List Int) (hl : ys.length ≤ 288) (b i : Nat) (hb : b ≤ 15) : nextR ys b i ≤ 20000000 := by
  have h1 := fstC_small ys hl b hb
  have h2 := cnt_le (ys.take i) b
  rw [List.length_take] at h2
  unfold nextR; omega
theorem nextR_zero (ys : List Int) (b : Nat) : nextR ys b 0 = fstC (cn ys) b := by simp [nextR, cnt]
theorem nextR_same (ys : List Int) (b i : Nat) (hi : i < ys.length) (h : ¬ at_ ys i = (b : Int)) : nextR ys b (i + 1) = nextR ys b i := by
  unfold nextR; rw [take_snoc ys i hi, cnt_snoc, if_neg (by rw [← at_eq i hi]; exact h)]; rfl
theorem nextR_more (ys : List Int) (b i : Nat) (hi : i < ys.length) (h : at_ ys i = (b : Int)) : nextR ys b (i + 1) = nextR ys b i + 1 := by
  unfold nextR; rw [take_snoc ys i hi, cnt_snoc, if_pos (by rw [← at_eq i hi]; exact h)]; omega
theorem nextR_all (ys : List Int) (b : Nat) (hb : 1 ≤ b) : 2 * nextR ys b ys.length = fstC (cn ys) (b + 1) := by
  unfold nextR; rw [List.take_length, fstC]
  have : cn ys b = cnt ys b := by unfold cn; rw [if_neg (by omega)]
  omega

theorem errC_bad (ys : List Int) (h : fits ys = false) : errC ys = errF ys ∧ ¬ errC ys = 0 ∧ ¬ errC ys = 302 := by
  unfold fits at h
  unfold errC errF
  cases hm : may ys
  · simp
  · rw [hm] at h
    simp at h
    simp [h]
theorem errC_good (ys : List Int) (h : fits ys = true) : errC ys = 0 ∨ errC ys = 302 := by
  obtain ⟨h1, h2⟩ := fits_true h
  unfold errC
  rw [h1, decide_eq_false (by omega : ¬ 32768 < room ys)]
  by_cases h3 : room ys < 32768
  · right; simp [h3]
  · left; simp [h3]

set_option maxHeartbeats 4000000 in
set_option maxRecDepth 1000000 in
theorem rcodes_bad (a : Option Addr) (ys : List Int) (cap : Nat) (w : World) (hR : Row w a ys) (hl : ys.length ≤ 9223372036854775807) (hf : fits ys = false) :
    Calls Try.prog 11 #[.slice a ys.length cap] w fun e w' => e = .returned (.tuple #[.slice none 0 0, .int .i64 (errF ys)]) ∧ w' = w := by
  obtain ⟨h1, h2, h3⟩ := errC_bad ys hf
  have HC : Hid (Calls Try.prog 17 #[.slice a ys.length cap] w fun e w' => e = .returned (.int .i64 (errC ys)) ∧ w' = w) := rcheck_ok a ys cap w hR hl
  rw [h1] at h2 h3 HC
  generalize errF ys = er at *
  generalize ys.length = L at *
  clear h1 hf hR
  have h2' : (er != 0) = true := bne_iff_ne.2 h2
  have h3' : (er != 302) = true := bne_iff_ne.2 h3
  go_enter Try.func11, Try.ntmps11
  go_wp2_with (first
    | (go_at_call 17; refine HC.out.mono ?_; rintro e w' ⟨rfl, hw⟩; obtain rfl := hw.symm; clear hw))
  go_ret2
  exact ⟨rfl, rfl⟩

set_option maxHeartbeats 4000000 in
set_option maxRecDepth 1000000 in
theorem rcodes_good (a : Option Addr) (ys : List Int) (cap : Nat) (w : World) (hR : Row w a ys) (hl : ys.length ≤ 9223372036854775807) (hf : fits ys = true) :
    Calls Try.prog 11 #[.slice a ys.length cap] w fun e w' => ∃ g, e = .returned (.tuple #[.slice (some ⟨g, 0, none⟩) ys.length ys.length, .int .i64 0]) ∧ Keeps (fun _ => False) w w' ∧ w.heap.size ≤ g ∧ Cds w' g ys.length (codeF ys) := by
  have hm := (fits_true hf).1
  have hlen := may_len hm
  have HC : Hid (Calls Try.prog 17 #[.slice a ys.length cap] w fun e w' => e = .returned (.int .i64 (errC ys)) ∧ w' = w) := rcheck_ok a ys cap w hR hl
  obtain ⟨b, off, rfl, hb, hc⟩ := hR.at (by omega)
  have HCell : Hid (∀ w', Keeps (fun _ => False) w w' → ∀ i, i < ys.length → w'.cell? ⟨b, off + i, none⟩ = some (.int .i64 (at_ ys i))) := hc
  have HY : Hid (∀ i, i < ys.length → 0 ≤ at_ ys i ∧ at_ ys i ≤ 15) := fun i h => by rw [at_eq i h]; exact may_at hm i h
  have HLen : Hid (ys.length ≤ 288) := hlen.2
  have hE := errC_good ys hf
  generalize errC ys = er at *
  clear hc hm hR hf hl
  generalize hL : ys.length = L at *
  have HL : Hid (ys.length = L) := hL
  clear hL
  have key : ∀ er : Int, er = 0 ∨ er = 302 → Hid (Calls Try.prog 17 #[.slice (some ⟨b, off, none⟩) L cap] w fun e w' => e = .returned (.int .i64 er) ∧ w' = w) → Calls Try.prog 11 #[.slice (some ⟨b, off, none⟩) L cap] w fun e w' => ∃ g, e = .returned (.tuple #[.slice (some ⟨g, 0, none⟩) L L, .int .i64 0]) ∧ Keeps (fun _ => False) w w' ∧ w.heap.size ≤ g ∧ Cds w' g L (codeF ys) := by
    clear HC hE er
    intro er hE HC
    rcases hE with rfl | rfl
    all_goals
      go_enter Try.func11, Try.ntmps11
      go_wp2_with (first
        | (go_at_call 17; refine HC.out.mono ?_; rintro e w' ⟨rfl, hw⟩; obtain rfl := hw.symm; clear hw)
        | (refine wpList_codes rfl _ _ rfl L rfl rfl ?hn ?_; (case hn => omega); intro g w8 hG hK8 hg8))
      have HW : Hid (Cds w8 g L (rTo ys 1 0) ∧ Keeps (fun _ => False) w w8 ∧ w.heap.size ≤ g) := ⟨hG.congr (fun j _ => (rTo_start ys j).symm), hK8, hg8⟩
      clear hG hK8 hg8
      go_loopw [6, 7] (fun s6 s7 w' => ∃ bb q : Nat, 1 ≤ bb ∧ bb ≤ 16 ∧ s6 = .int .i64 (q : Int) ∧ s7 = .int .i64 (bb : Int) ∧ Hid (q ≤ 20000000 ∧ (bb ≤ 15 → 2 * q = fstC (cn ys) bb)) ∧ Hid (Cds w' g L (rTo ys bb 0) ∧ Keeps (fun _ => False) w w' ∧ w.heap.size ≤ g)) (fun s6 s7 w' => (16 - intOf s7).toNat)
      case atStart => exact ⟨1, 0, by omega, by omega, rfl, rfl, ⟨by omega, fun _ => by simp [fstC, cn]⟩, HW⟩
      case round =>
        clear HW
        obtain ⟨bb, q, hb1, hb16, rfl, rfl, HQ, HW⟩ := hrel
        by_cases hb15 : bb ≤ 15
        · have hbz : (bb : Int) ≤ 15 := by omega
          have hw2 : IntKind.i64.wrap (2 * (q : Int)) = ((nextR ys bb 0 : Nat) : Int) := by
            rw [nextR_zero, ← HQ.out.2 hb15, wrap_i64_small _ (by omega) (by have := HQ.out.1; omega)]; push_cast; rfl
          have hw2' : wrap64 (2 * (q : Int)) = ((nextR ys bb 0 : Nat) : Int) := by rw [← IntWalk.i64_left]; exact hw2
          go_wp2_with fail
          try rw [hw2']
          clear hw2 hw2'
          go_loopw [6, 8] (fun s6 s8 w' => ∃ i : Nat, i ≤ L ∧ s6 = .int .i64 (nextR ys bb i : Nat) ∧ s8 = .int .i64 (i : Int) ∧ Hid (Cds w' g L (rTo ys bb i) ∧ Keeps (fun _ => False) w w' ∧ w.heap.size ≤ g)) (fun s6 s8 w' => ((L : Int) - intOf s8).toNat)
          case atStart => exact ⟨0, by omega, rfl, rfl, HW⟩
          case round =>
            clear HW
            obtain ⟨i, hi, rfl, rfl, HW⟩ := hrel
            by_cases hin : i < L
            · have hiz : (i : Int) < (L : Int) := by omega
              have hcell := HCell.out wr HW.out.2.1 i hin
              have hil : i < ys.length := by rw [HL.out]; exact hin
              by_cases hyb : at_ ys i = (bb : Int)
              · have hns := nextR_le ys (by rw [HL.out]; exact HLen.out) bb i hb15
                have hnm := nextR_more ys bb i hil hyb
                rw [hyb] at hcell
                obtain ⟨q2, hq2⟩ : ∃ q2, nextR ys bb i = q2 := ⟨_, rfl⟩
                have HT : Hid (∀ j, (if j = i then ((bb : Int), (q2 : Int)) else rTo ys bb i j) = rTo ys bb (i + 1) j) := fun j => rTo_take ys bb i j hb1 hyb q2 hq2
                rw [hq2] at hns hnm
                rw [hq2]
                have HNM : Hid (nextR ys bb (i + 1) = q2 + 1) := hnm
                have hwn : IntKind.i64.wrap ((q2 : Int) + 1) = ((q2 + 1 : Nat) : Int) := by rw [wrap_i64_small _ (by omega) (by omega)]; push_cast; rfl
                clear hyb hnm hq2
                have HG : Hid (Cds wr g L (rTo ys bb i)) := HW.out.1
                go_wp2_with (first
                  | (refine wpList_code rfl _ _ rfl g i (bb : Int) (q2 : Int) rfl rfl L (rTo ys bb i) HG.out hin ?_; intro wa hGa hKa; have HW' : Hid (Cds wa g L (rTo ys bb (i + 1)) ∧ Keeps (fun _ => False) w wa ∧ w.heap.size ≤ g) := ⟨hGa.congr (fun j _ => HT.out j), HW.out.2.1.trans hKa (fun k hk h => absurd hk (by have := HW.out.2.2; omega)), HW.out.2.2⟩; clear hGa hKa))
                go_roundw
                case rel => exact ⟨i + 1, by omega, by rw [HNM.out] <;> (push_cast; rfl), by push_cast; rfl, HW'⟩
                case measure => simp [intOf]; omega
              · have hns := nextR_same ys bb i hil hyb
                have HW' : Hid (Cds wr g L (rTo ys bb (i + 1)) ∧ Keeps (fun _ => False) w wr ∧ w.heap.size ≤ g) := ⟨HW.out.1.congr (fun j _ => rTo_skip ys bb i j hyb), HW.out.2⟩
                have HNS : Hid (nextR ys bb (i + 1) = nextR ys bb i) := hns
                clear hns
                generalize at_ ys i = yy at *
                go_wp2_with fail
                go_roundw
                case rel => exact ⟨i + 1, by omega, by rw [HNS.out], by push_cast; rfl, HW'⟩
                case measure => simp [intOf]; omega
            · obtain rfl : i = L := by omega
              have HW' : Hid (Cds wr g i (rTo ys (bb + 1) 0) ∧ Keeps (fun _ => False) w wr ∧ w.heap.size ≤ g) := ⟨HW.out.1.congr (fun j hj => rTo_next ys bb i j hj), HW.out.2⟩
              have HQ' : Hid (nextR ys bb i ≤ 20000000 ∧ (bb + 1 ≤ 15 → 2 * nextR ys bb i = fstC (cn ys) (bb + 1))) := ⟨nextR_le ys (by rw [HL.out]; exact HLen.out) bb i hb15, fun _ => by rw [← HL.out]; exact nextR_all ys bb hb1⟩
              go_wp2_with fail
              go_roundw
              case rel => exact ⟨bb + 1, nextR ys bb i, by omega, by omega, rfl, by push_cast; rfl, HQ', HW'⟩
              case measure => simp [intOf]; omega
        · obtain rfl : bb = 16 := by omega
          go_wp2_with fail
          go_ret2
          obtain ⟨g1, g2, g3⟩ := HW.out
          exact ⟨g, rfl, g2, g3, g1.congr (fun j hj => rTo_end ys j (HY.out j hj))⟩
  exact key er hE HC

theorem foundL_iff (ys : List Int) (x v : Int) (hf : fits ys = true) (s : Nat) : foundL ys x v = some s ↔ s < ys.length ∧ 0 < at_ ys s ∧ at_ ys s = x ∧ (codeV ys s : Int) = v := by
  unfold foundL; rw [hf, cond_true]; exact findL_some ys x v s (fits_true hf).1

set_option maxHeartbeats 4000000 in
set_option maxRecDepth 1000000 in
theorem rfind_ok (a : Option Addr) (ys : List Int) (cap : Nat) (x v : Int) (w : World) (hR : Row w a ys) (hl : ys.length ≤ 9223372036854775807) :
    Calls Try.prog 13 #[.slice a ys.length cap, .int .i64 x, .int .i64 v] w fun e w' => e = .returned (.tuple #[.int .i64 (((foundL ys x v).getD 0 : Nat) : Int), .bool (foundL ys x v).isSome, .int .i64 (errF ys)]) ∧ Keeps (fun _ => False) w w' := by
  cases hf : fits ys
  · have HC : Hid (Calls Try.prog 11 #[.slice a ys.length cap] w fun e w' => e = .returned (.tuple #[.slice none 0 0, .int .i64 (errF ys)]) ∧ w' = w) := rcodes_bad a ys cap w hR hl hf
    have HO : Hid (foundL ys x v = none) := by show _ = _; simp [foundL, hf]
    have he : ¬ (errF ys = 0) := fun h => by rw [errF_fits.1 h] at hf; exact absurd hf (by decide)
    clear hf hR
    generalize errF ys = er at *
    generalize ys.length = L at *
    go_enter Try.func13, Try.ntmps13
    go_wp2_with (first
      | (go_at_call 11; refine HC.out.mono ?_; rintro e w' ⟨rfl, hw⟩; obtain rfl := hw.symm; clear hw))
    go_ret3
    exact ⟨by rw [HO.out]; rfl, Keeps.refl _ _⟩
  · have HC : Hid (Calls Try.prog 11 #[.slice a ys.length cap] w fun e w' => ∃ g, e = .returned (.tuple #[.slice (some ⟨g, 0, none⟩) ys.length ys.length, .int .i64 0]) ∧ Keeps (fun _ => False) w w' ∧ w.heap.size ≤ g ∧ Cds w' g ys.length (codeF ys)) := rcodes_good a ys cap w hR hl hf
    have HI : Hid (∀ s, foundL ys x v = some s ↔ s < ys.length ∧ 0 < at_ ys s ∧ at_ ys s = x ∧ (codeV ys s : Int) = v) := foundL_iff ys x v hf
    have he : errF ys = 0 := errF_fits.2 hf
    rw [he]
    generalize foundL ys x v = o at *
    clear hf hR he
    generalize ys.length = L at *
    go_enter Try.func13, Try.ntmps13
    go_wp2_with (first
      | (go_at_call 11; refine HC.out.mono ?_; rintro e w2 ⟨g, rfl, hK2, hg2, hC2⟩; have HW : Hid (Keeps (fun _ => False) w w2 ∧ Cds w2 g L (codeF ys)) := ⟨hK2, hC2⟩; clear hK2 hg2 hC2))
    go_loopw [11] (fun s11 w' => ∃ i : Nat, i ≤ L ∧ s11 = .int .i64 (i : Int) ∧ w' = w2 ∧ Hid (∀ t, t < i → o ≠ some t)) (fun s11 w' => ((L : Int) - intOf s11).toNat)
    case atStart => exact ⟨0, by omega, rfl, rfl, fun t ht => absurd ht (by omega)⟩
    case round =>
      obtain ⟨i, hi, rfl, rfl, HB⟩ := hrel
      by_cases hin : i < L
      · have hiz : (i : Int) < (L : Int) := by omega
        have hc1 := HW.out.2.bits i hin
        have hc2 := HW.out.2.value i hin
        simp only [codeF] at hc1 hc2
        have HI2 : Hid (o = some i ↔ 0 < at_ ys i ∧ at_ ys i = x ∧ (codeV ys i : Int) = v) := by
          refine (HI.out i).trans ?_
          constructor
          · intro h; exact h.2
          · intro h; exact ⟨hin, h⟩
        generalize at_ ys i = y at *
        generalize (codeV ys i : Int) = u at *
        have step : ∀ h : o ≠ some i, Hid (∀ t, t < i + 1 → o ≠ some t) := fun h t ht => by
          by_cases e : t = i
          · subst e; exact h
          · exact HB.out t (by omega)
        by_cases hm : 0 < y ∧ y = x ∧ u = v
        · obtain ⟨hm1, rfl, rfl⟩ := hm
          have ho : o = some i := HI2.out.2 ⟨hm1, rfl, rfl⟩
          subst ho
          clear HI2 HB step HI
          go_wp2_with fail
          go_ret3
          exact ⟨rfl, HW.out.1⟩
        · have HB' := step (fun h => hm (HI2.out.1 h))
          clear HI2 HB step
          by_cases h1 : 0 < y
          · by_cases h2 : y = x
            · have h3 : ¬ u = v := fun h => hm ⟨h1, h2, h⟩
              subst h2
              clear hm
              go_wp2_with fail
              go_roundw
              case rel => exact ⟨i + 1, by omega, by push_cast; rfl, trivial, HB'⟩
              case measure => simp [intOf]; omega
            · clear hm
              go_wp2_with fail
              go_roundw
              case rel => exact ⟨i + 1, by omega, by push_cast; rfl, trivial, HB'⟩
              case measure => simp [intOf]; omega
          · clear hm
            go_wp2_with fail
            go_roundw
            case rel => exact ⟨i + 1, by omega, by push_cast; rfl, trivial, HB'⟩
            case measure => simp [intOf]; omega
      · obtain rfl : i = L := by omega
        have ho : o = none := by
          cases o with
          | none => rfl
          | some s => exact absurd rfl (HB.out s ((HI.out s).1 rfl).1)
        subst ho
        clear HI HB
        go_wp2_with fail
        go_ret3
        exact ⟨rfl, HW.out.1⟩

end Go.Proofs.Ytfchkgmepmmnoaa

/-
  The document's own answers on lengths: may they be, their room, Check.
-/
import Derived.Test.YtdbfbijalhknnaaHCodes
namespace Go.Proofs.Ytdbfbijalhknnaa.Hf
open Go.RowKit
set_option linter.unusedVariables false
set_option linter.unusedSimpArgs false

/-- What one length takes. -/
theorem Row.at {w : World} {a : Option Addr} {ys : List Int} (h : Row w a ys) (hn : 0 < ys.length) : ∃ b off, a = some ⟨b, off, none⟩ ∧ b < w.heap.size ∧ ∀ w', Keeps (fun _ => False) w w' → ∀ i, i < ys.length → w'.cell? ⟨b, off + i, none⟩ = some (.int .i64 (at_ ys i)) := by
  obtain ⟨b, off, rfl, hb, hc⟩ := h.spot hn
  refine ⟨b, off, rfl, hb, fun w' hk i hi => ?_⟩
  rw [World.cell?_of_block (hk.block b hb (fun h => h)), hc i hi, at_eq i hi]

def oneRoom (y : Int) : Nat := cond (decide (0 < y)) (2 ^ (15 - y.toNat)) 0
def seqRoom (ys : List Int) (i : Nat) : Nat := ((ys.take i).map oneRoom).sum
theorem sumTo_congr {f g : Nat → Nat} (m : Nat) (hm : m ≤ 16) (h : ∀ i, i < 16 → f i = g i) : sumTo f m = sumTo g m := by
  induction m with
  | zero => rfl
  | succ m ih => rw [sumTo, sumTo, ih (by omega), h m (by omega)]
theorem sumTo_upd (f : Nat → Nat) (n m : Nat) : sumTo (upd f n (f n + 1)) m = sumTo f m + if n < m then 2 ^ (15 - n) else 0 := by
  induction m with
  | zero => simp [sumTo]
  | succ m ih =>
    rw [sumTo, sumTo, ih]
    unfold upd
    by_cases e : m = n
    · subst e
      rw [if_pos rfl, if_neg (by omega), if_pos (by omega), Nat.add_mul]; omega
    · rw [if_neg e]
      by_cases h : n < m
      · rw [if_pos h, if_pos (by omega)]; omega
      · rw [if_neg h, if_neg (by omega)]; omega
theorem seqRoom_all (ys : List Int) (h : ∀ i (hi : i < ys.length), 0 ≤ ys[i] ∧ ys[i] ≤ 15) : ∀ i, i ≤ ys.length → seqRoom ys i = sumTo (cn (ys.take i)) 16 := by
  intro i
  induction i with
  | zero => intro _; unfold seqRoom; simp [sumTo, cn, cnt]
  | succ i ih =>
    intro hi
    have ih' := ih (by omega)
    obtain ⟨h0, h15⟩ := h i (by omega)
    obtain ⟨c, hc⟩ : ∃ c : Nat, ys[i] = (c : Int) := ⟨ys[i].toNat, by omega⟩
    have e : seqRoom ys (i + 1) = seqRoom ys i + oneRoom (c : Int) := by
      unfold seqRoom; rw [take_snoc ys i (by omega), hc]; simp
    rw [e, ih', take_snoc ys i (by omega), hc]
    by_cases hp : 0 < c
    · rw [← sumTo_congr 16 (by omega) (cn_pos (ys.take i) c hp), sumTo_upd, if_pos (by omega)]
      simp [oneRoom, hp]
    · obtain rfl : c = 0 := by omega
      show _ = sumTo (cn (ys.take i ++ [(0 : Int)])) 16
      rw [← sumTo_congr 16 (by omega) (cn_zero (ys.take i))]
      simp [oneRoom]
theorem oneRoom_le (y : Int) : oneRoom y ≤ 32768 := by
  unfold oneRoom
  cases decide (0 < y)
  · simp
  · rw [cond_true]
    have : 2 ^ (15 - y.toNat) ≤ 2 ^ 15 := Nat.pow_le_pow_right (by omega) (by omega)
    omega
theorem seqRoom_snoc (ys : List Int) (i : Nat) (h : i < ys.length) : seqRoom ys (i + 1) = seqRoom ys i + oneRoom ys[i] := by
  unfold seqRoom
  rw [take_snoc ys i h, List.map_append, List.sum_append]
  simp only [List.map_cons, List.map_nil, List.sum_cons, List.sum_nil, Nat.add_zero]
theorem seqRoom_le (ys : List Int) (i : Nat) : seqRoom ys i ≤ 32768 * i := by
  induction i with
  | zero => simp [seqRoom]
  | succ i ih =>
    by_cases h : i < ys.length
    · have e := seqRoom_snoc ys i h
      have := oneRoom_le ys[i]
      rw [e]; omega
    · have e : seqRoom ys (i + 1) = seqRoom ys i := by unfold seqRoom; rw [List.take_of_length_le (by omega), List.take_of_length_le (by omega)]
      rw [e]; omega
theorem seqRoom_succ (ys : List Int) (i : Nat) (h : i < ys.length) : seqRoom ys (i + 1) = seqRoom ys i + oneRoom (at_ ys i) := by
  rw [at_eq i h]; exact seqRoom_snoc ys i h

theorem pow_room (c : Nat) (hc : c ≤ 15) : ∃ P : Nat, wrap64 ((2 : Int) ^ (15 - c)) = (P : Int) ∧ IntKind.i64.wrap ((2 : Int) ^ (15 - c)) = (P : Int) ∧ P = 2 ^ (15 - c) := by
  have hpb : 2 ^ (15 - c) ≤ 2 ^ 15 := Nat.pow_le_pow_right (by omega) (by omega)
  have hPz : (2 : Int) ^ (15 - c) = ((2 ^ (15 - c) : Nat) : Int) := by push_cast; rfl
  obtain ⟨q, hq⟩ : ∃ q : Nat, q = 2 ^ (15 - c) := ⟨_, rfl⟩
  rw [← hq] at hPz hpb
  have hq15 : q ≤ 32768 := by simpa using hpb
  refine ⟨q, ?_, ?_, hq⟩
  · rw [hPz]; exact wrap64_small _ (by omega) (by omega)
  · rw [hPz]; exact wrap_i64_small _ (by omega) (by omega)

set_option maxHeartbeats 4000000 in
set_option maxRecDepth 1000000 in
theorem rmay_ok (a : Option Addr) (ys : List Int) (cap : Nat) (w : World) (hR : Row w a ys) (hl : ys.length ≤ 9223372036854775807) :
    Calls Try.prog 60 #[.slice a ys.length cap] w fun e w' => e = .returned (.bool (may ys)) ∧ w' = w := by
  by_cases hn : 1 ≤ ys.length ∧ ys.length ≤ 288
  · obtain ⟨b, off, rfl, hb, hc⟩ := hR.at (by omega)
    have HC : Hid (∀ i, i < ys.length → w.cell? ⟨b, off + i, none⟩ = some (.int .i64 (at_ ys i))) := hc w (Keeps.refl _ _)
    have HM : Hid (may ys = ys.all fine) := by show _ = _; unfold may; rw [decide_eq_true hn.1, decide_eq_true hn.2]; rfl
    obtain ⟨n, hn'⟩ : ∃ n, ys.length = n := ⟨_, rfl⟩
    have HN : Hid (ys.length = n) := hn'
    rw [hn'] at hn HC ⊢
    clear hR hl hc hn'
    have hn1 : ¬ ((n : Int) < 1) := by omega
    have hn2 : ¬ (288 < (n : Int)) := by omega
    go_enter Try.func60, Try.ntmps60
    go_wp2
    go_loopw [3] (fun s3 w' => ∃ i : Nat, i ≤ n ∧ s3 = .int .i64 (i : Int) ∧ w' = w ∧ Hid ((ys.take i).all fine = true)) (fun s3 w' => ((n : Int) - intOf s3).toNat)
    case atStart => exact ⟨0, by omega, rfl, rfl, rfl⟩
    case round =>
      obtain ⟨i, hi, rfl, rfl, HF⟩ := hrel
      by_cases hin : i < n
      · have hiz : (i : Int) < (n : Int) := by omega
        have hil : i < ys.length := by rw [HN.out]; exact hin
        have hcell := HC.out i hin
        obtain ⟨y, hy⟩ : ∃ y, at_ ys i = y := ⟨_, rfl⟩
        rw [hy] at hcell
        have HY : Hid (ys[i] = y) := by show _ = _; rw [← at_eq i hil]; exact hy
        clear hy
        by_cases hbad : y < 0 ∨ 15 < y
        · have HMf : Hid (may ys = false) := may_bad i hil (by rw [HY.out]; exact hbad)
          rcases hbad with hbad | hbad
          · go_wp2
            go_ret
            exact ⟨by rw [HMf.out]; rfl, rfl⟩
          · have hge : ¬ y < 0 := by omega
            go_wp2
            go_ret
            exact ⟨by rw [HMf.out]; rfl, rfl⟩
        · have hy0 : ¬ y < 0 := by omega
          have hy15 : ¬ 15 < y := by omega
          have HF' : Hid ((ys.take (i + 1)).all fine = true) := by
            show _ = _
            rw [take_snoc ys i hil, List.all_append, HF.out, HY.out]
            simp [fine]; omega
          go_wp2
          go_roundw
          case rel => exact ⟨i + 1, by omega, by push_cast; rfl, trivial, HF'⟩
          case measure => simp [intOf]; omega
      · obtain rfl : i = n := by omega
        have HT : Hid (may ys = true) := by
          show _ = _
          have := HF.out
          rw [List.take_of_length_le (by rw [HN.out]; omega)] at this
          rw [HM.out]; exact this
        go_wp2
        go_ret
        exact ⟨by rw [HT.out]; rfl, rfl⟩
  · have HMf : Hid (may ys = false) := by
      show _ = _
      cases hm : may ys
      · rfl
      · exact absurd (may_len hm) hn
    obtain ⟨n, hn'⟩ : ∃ n, ys.length = n := ⟨_, rfl⟩
    rw [hn'] at hn hl ⊢
    clear hn'
    have hcs : (n : Int) < 1 ∨ (¬ (n : Int) < 1 ∧ 288 < (n : Int)) := by omega
    rcases hcs with hcs | ⟨hcs1, hcs2⟩
    all_goals
      go_enter Try.func60, Try.ntmps60
      go_wp2
      go_ret
      exact ⟨by rw [HMf.out]; rfl, rfl⟩

set_option maxHeartbeats 4000000 in
set_option maxRecDepth 1000000 in
theorem rroom_ok (a : Option Addr) (ys : List Int) (cap : Nat) (w : World) (hR : Row w a ys) (hm : may ys = true) :
    Calls Try.prog 61 #[.slice a ys.length cap] w fun e w' => e = .returned (.int .i64 (room ys : Nat)) ∧ w' = w := by
  have hn := may_len hm
  obtain ⟨b, off, rfl, hb, hc⟩ := hR.at (by omega)
  have HC : Hid (∀ i, i < ys.length → w.cell? ⟨b, off + i, none⟩ = some (.int .i64 (at_ ys i)) ∧ 0 ≤ at_ ys i ∧ at_ ys i ≤ 15) := fun i hi => ⟨hc w (Keeps.refl _ _) i hi, by rw [at_eq i hi]; exact may_at hm i hi⟩
  have HR : Hid (seqRoom ys ys.length = room ys) := by
    show _ = _
    rw [seqRoom_all ys (fun i hi => may_at hm i hi) ys.length (Nat.le_refl _), List.take_length]; rfl
  obtain ⟨n, hn'⟩ : ∃ n, ys.length = n := ⟨_, rfl⟩
  have HN : Hid (ys.length = n) := hn'
  rw [hn'] at hn HC HR ⊢
  clear hR hc hn' hm
  go_enter Try.func61, Try.ntmps61
  go_wp2
  go_loopw [3, 4] (fun s3 s4 w' => ∃ i : Nat, i ≤ n ∧ s3 = .int .i64 (seqRoom ys i : Nat) ∧ s4 = .int .i64 (i : Int) ∧ w' = w) (fun s3 s4 w' => ((n : Int) - intOf s4).toNat)
  case atStart => exact ⟨0, by omega, rfl, rfl, rfl⟩
  case round =>
    obtain ⟨i, hi, rfl, rfl, rfl⟩ := hrel
    by_cases hin : i < n
    · have hiz : (i : Int) < (n : Int) := by omega
      obtain ⟨hcell, hy0, hy15⟩ := HC.out i hin
      have HS : Hid (seqRoom ys (i + 1) = seqRoom ys i + oneRoom (at_ ys i)) := seqRoom_succ ys i (by rw [HN.out]; exact hin)
      have hb := seqRoom_le ys (i + 1)
      obtain ⟨c, hcc⟩ : ∃ c : Nat, at_ ys i = (c : Int) := ⟨(at_ ys i).toNat, by omega⟩
      rw [hcc] at hcell hy0 hy15 HS
      clear hcc
      by_cases hp : 0 < c
      · have hpz : 0 < (c : Int) := by omega
        have hw15 : IntKind.i64.wrap (15 - (c : Int)) = ((15 - c : Nat) : Int) := by rw [wrap_i64_small _ (by omega) (by omega)]; omega
        have hnn : ¬ (((15 - c : Nat) : Int) < 0) := by omega
        obtain ⟨P, hP1, hP2, hPe⟩ := pow_room c (by omega)
        have hone : oneRoom (c : Int) = P := by rw [hPe]; unfold oneRoom; rw [decide_eq_true (by omega)]; rfl
        have hsum : IntKind.i64.wrap ((seqRoom ys i : Int) + (P : Int)) = ((seqRoom ys (i + 1) : Nat) : Int) := by
          rw [HS.out, hone, wrap_i64_small _ (by omega) (by have := HS.out; omega)]; push_cast; rfl
        have hsum' : wrap64 ((seqRoom ys i : Int) + (P : Int)) = ((seqRoom ys (i + 1) : Nat) : Int) := by rw [← IntWalk.i64_left]; exact hsum
        clear hone hPe hb
        go_wp2
        go_roundw
        case rel => exact ⟨i + 1, by omega, by first | rfl | rw [hsum'], by push_cast; rfl, trivial⟩
        case measure => simp [intOf]; omega
      · obtain rfl : c = 0 := by omega
        have he : seqRoom ys (i + 1) = seqRoom ys i := by rw [HS.out]; rfl
        clear HS
        go_wp2
        go_roundw
        case rel => exact ⟨i + 1, by omega, by rw [he], by push_cast; rfl, trivial⟩
        case measure => simp [intOf]; omega
    · obtain rfl : i = n := by omega
      go_wp2
      go_ret
      exact ⟨by rw [← HR.out]; rfl, rfl⟩

set_option maxHeartbeats 4000000 in
set_option maxRecDepth 1000000 in
theorem rcheck_ok (a : Option Addr) (ys : List Int) (cap : Nat) (w : World) (hR : Row w a ys) (hl : ys.length ≤ 9223372036854775807) :
    Calls Try.prog 49 #[.slice a ys.length cap] w fun e w' => e = .returned (.int .i64 (errC ys)) ∧ w' = w := by
  have HM : Hid (Calls Try.prog 60 #[.slice a ys.length cap] w fun e w' => e = .returned (.bool (may ys)) ∧ w' = w) := rmay_ok a ys cap w hR hl
  cases ht : may ys
  · rw [ht] at HM
    have HE : Hid (errC ys = 300) := by show _ = _; simp [errC, ht]
    generalize ys.length = L at *
    clear ht
    go_enter Try.func49, Try.ntmps49
    go_wp2_with (first
      | (go_at_call 60; refine HM.out.mono ?_; rintro e w' ⟨rfl, hw⟩; obtain rfl := hw.symm; clear hw))
    go_ret
    exact ⟨by rw [HE.out]; rfl, rfl⟩
  · rw [ht] at HM
    have HR : Hid (Calls Try.prog 61 #[.slice a ys.length cap] w fun e w' => e = .returned (.int .i64 (room ys : Nat)) ∧ w' = w) := rroom_ok a ys cap w hR ht
    have HE : Hid (errC ys = cond (decide (32768 < room ys)) 301 (cond (decide (room ys < 32768)) 302 0)) := by show _ = _; simp [errC, ht]
    clear ht hR
    generalize room ys = r at *
    generalize ys.length = L at *
    have hcs : (32768 < (r : Int)) ∨ (¬ (32768 < (r : Int)) ∧ (r : Int) < 32768) ∨ (¬ (32768 < (r : Int)) ∧ ¬ (r : Int) < 32768) := by omega
    rcases hcs with h1 | ⟨h1, h2⟩ | ⟨h1, h2⟩
    · go_enter Try.func49, Try.ntmps49
      go_wp2_with (first
        | (go_at_call 60; refine HM.out.mono ?_; rintro e w' ⟨rfl, hw⟩; obtain rfl := hw.symm; clear hw)
        | (go_at_call 61; refine HR.out.mono ?_; rintro e w' ⟨rfl, hw⟩; obtain rfl := hw.symm; clear hw))
      go_ret
      exact ⟨by rw [HE.out, decide_eq_true (show 32768 < r by omega)]; rfl, rfl⟩
    · go_enter Try.func49, Try.ntmps49
      go_wp2_with (first
        | (go_at_call 60; refine HM.out.mono ?_; rintro e w' ⟨rfl, hw⟩; obtain rfl := hw.symm; clear hw)
        | (go_at_call 61; refine HR.out.mono ?_; rintro e w' ⟨rfl, hw⟩; obtain rfl := hw.symm; clear hw))
      go_ret
      exact ⟨by rw [HE.out, decide_eq_false (show ¬ 32768 < r by omega), decide_eq_true (show r < 32768 by omega)]; rfl, rfl⟩
    · go_enter Try.func49, Try.ntmps49
      go_wp2_with (first
        | (go_at_call 60; refine HM.out.mono ?_; rintro e w' ⟨rfl, hw⟩; obtain rfl := hw.symm; clear hw)
        | (go_at_call 61; refine HR.out.mono ?_; rintro e w' ⟨rfl, hw⟩; obtain rfl := hw.symm; clear hw))
      go_ret
      exact ⟨by rw [HE.out, decide_eq_false (show ¬ 32768 < r by omega), decide_eq_false (show ¬ r < 32768 by omega)]; rfl, rfl⟩

end Go.Proofs.Ytdbfbijalhknnaa.Hf

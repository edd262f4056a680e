/-
  The document's own answers on lengths: may they be, their room, Check. The document's own Codes and Find. The document's put: tokens by codes, and 256; upTo and few. Small contracts: Of, Num, wholeBytes and At of package bits, for every world.
-/
import Derived.Test.YtdbfbijalhknnabRows
import Derived.Test.YtdbfbijalhknnabG09
import Derived.WalkKit
import Derived.WalkSpells
import Derived.WalkLawsBesides
namespace Go.Proofs.Ytdbfbijalhknnab.Hf
open Go.RowKit
set_option linter.unusedVariables false
set_option linter.unusedSimpArgs false

/-- What one length takes. -/
theorem Row.at {w : World} {a : Option Addr} {ys : List Int} (h : Row w a ys) (hn : 0 < ys.length) : ∃ b off, a = some ⟨b, off, none⟩ ∧ b < w.heap.size ∧ ∀ w', Keeps (fun _ => False) w w' → ∀ i, i < ys.length → w'.cell? ⟨b, off + i, none⟩ = some (.int .i64 (at_ ys i)) := by
  obtain ⟨b, off, rfl, hb, hc⟩ := h.spot hn
  refine ⟨b, off, rfl, hb, fun w' hk i hi => ?_⟩
  rw [World.cell?_of_block (hk.block b hb (fun h => h)), hc i hi, at_eq i hi]

def oneRoom (y : Int) : Nat := cond (decide (0 < y)) (2 ^ (15 - y.toNat)) 0
def seqRoom (ys : List Int) (i : Nat) : Nat := ((ys.take i).map oneRoom).sum
theorem sumTo_congr {f g : Nat → Nat} (m : Nat) (hm : m ≤ 16) (h : ∀ i, i < 16 → f i = g i) : sumTo f m = sumTo g m := by
  induction m with
  | zero => rfl
  | succ m ih => rw [sumTo, sumTo, ih (by omega), h m (by omega)]
theorem sumTo_upd (f : Nat → Nat) (n m : Nat) : sumTo (upd f n (f n + 1)) m = sumTo f m + if n < m then 2 ^ (15 - n) else 0 := by
  induction m with
  | zero => simp [sumTo]
  | succ m ih =>
    rw [sumTo, sumTo, ih]
    unfold upd
    by_cases e : m = n
    · subst e
      rw [if_pos rfl, if_neg (by omega), if_pos (by omega), Nat.add_mul]; omega
    · rw [if_neg e]
      by_cases h : n < m
      · rw [if_pos h, if_pos (by omega)]; omega
      · rw [if_neg h, if_neg (by omega)]; omega
theorem seqRoom_all (ys : List Int) (h : ∀ i (hi : i < ys.length), 0 ≤ ys[i] ∧ ys[i] ≤ 15) : ∀ i, i ≤ ys.length → seqRoom ys i = sumTo (cn (ys.take i)) 16 := by
  intro i
  induction i with
  | zero => intro _; unfold seqRoom; simp [sumTo, cn, cnt]
  | succ i ih =>
    intro hi
    have ih' := ih (by omega)
    obtain ⟨h0, h15⟩ := h i (by omega)
    obtain ⟨c, hc⟩ : ∃ c : Nat, ys[i] = (c : Int) := ⟨ys[i].toNat, by omega⟩
    have e : seqRoom ys (i + 1) = seqRoom ys i + oneRoom (c : Int) := by
      unfold seqRoom; rw [take_snoc ys i (by omega), hc]; simp
    rw [e, ih', take_snoc ys i (by omega), hc]
    by_cases hp : 0 < c
    · rw [← sumTo_congr 16 (by omega) (cn_pos (ys.take i) c hp), sumTo_upd, if_pos (by omega)]
      simp [oneRoom, hp]
    · obtain rfl : c = 0 := by omega
      show _ = sumTo (cn (ys.take i ++ [(0 : Int)])) 16
      rw [← sumTo_congr 16 (by omega) (cn_zero (ys.take i))]
      simp [oneRoom]
theorem oneRoom_le (y : Int) : oneRoom y ≤ 32768 := by
  unfold oneRoom
  cases decide (0 < y)
  · simp
  · rw [cond_true]
    have : 2 ^ (15 - y.toNat) ≤ 2 ^ 15 := Nat.pow_le_pow_right (by omega) (by omega)
    omega
theorem seqRoom_snoc (ys : List Int) (i : Nat) (h : i < ys.length) : seqRoom ys (i + 1) = seqRoom ys i + oneRoom ys[i] := by
  unfold seqRoom
  rw [take_snoc ys i h, List.map_append, List.sum_append]
  simp only [List.map_cons, List.map_nil, List.sum_cons, List.sum_nil, Nat.add_zero]
theorem seqRoom_le (ys : List Int) (i : Nat) : seqRoom ys i ≤ 32768 * i := by
  induction i with
  | zero => simp [seqRoom]
  | succ i ih =>
    by_cases h : i < ys.length
    · have e := seqRoom_snoc ys i h
      have := oneRoom_le ys[i]
      rw [e]; omega
    · have e : seqRoom ys (i + 1) = seqRoom ys i := by unfold seqRoom; rw [List.take_of_length_le (by omega), List.take_of_length_le (by omega)]
      rw [e]; omega
theorem seqRoom_succ (ys : List Int) (i : Nat) (h : i < ys.length) : seqRoom ys (i + 1) = seqRoom ys i + oneRoom (at_ ys i) := by
  rw [at_eq i h]; exact seqRoom_snoc ys i h

theorem pow_room (c : Nat) (hc : c ≤ 15) : ∃ P : Nat, wrap64 ((2 : Int) ^ (15 - c)) = (P : Int) ∧ IntKind.i64.wrap ((2 : Int) ^ (15 - c)) = (P : Int) ∧ P = 2 ^ (15 - c) := by
  have hpb : 2 ^ (15 - c) ≤ 2 ^ 15 := Nat.pow_le_pow_right (by omega) (by omega)
  have hPz : (2 : Int) ^ (15 - c) = ((2 ^ (15 - c) : Nat) : Int) := by push_cast; rfl
  obtain ⟨q, hq⟩ : ∃ q : Nat, q = 2 ^ (15 - c) := ⟨_, rfl⟩
  rw [← hq] at hPz hpb
  have hq15 : q ≤ 32768 := by simpa using hpb
  refine ⟨q, ?_, ?_, hq⟩
  · rw [hPz]; exact wrap64_small _ (by omega) (by omega)
  · rw [hPz]; exact wrap_i64_small _ (by omega) (by omega)

set_option maxHeartbeats 4000000 in
set_option maxRecDepth 1000000 in
theorem rmay_ok (a : Option Addr) (ys : List Int) (cap : Nat) (w : World) (hR : Row w a ys) (hl : ys.length ≤ 9223372036854775807) :
    Calls Try.prog 37 #[.slice a ys.length cap] w fun e w' => e = .returned (.bool (may ys)) ∧ w' = w := by
  by_cases hn : 1 ≤ ys.length ∧ ys.length ≤ 288
  · obtain ⟨b, off, rfl, hb, hc⟩ := hR.at (by omega)
    have HC : Hid (∀ i, i < ys.length → w.cell? ⟨b, off + i, none⟩ = some (.int .i64 (at_ ys i))) := hc w (Keeps.refl _ _)
    have HM : Hid (may ys = ys.all fine) := by show _ = _; unfold may; rw [decide_eq_true hn.1, decide_eq_true hn.2]; rfl
    obtain ⟨n, hn'⟩ : ∃ n, ys.length = n := ⟨_, rfl⟩
    have HN : Hid (ys.length = n) := hn'
    rw [hn'] at hn HC ⊢
    clear hR hl hc hn'
    have hn1 : ¬ ((n : Int) < 1) := by omega
    have hn2 : ¬ (288 < (n : Int)) := by omega
    go_enter Try.func37, Try.ntmps37
    go_wp2
    go_loopw [3] (fun s3 w' => ∃ i : Nat, i ≤ n ∧ s3 = .int .i64 (i : Int) ∧ w' = w ∧ Hid ((ys.take i).all fine = true)) (fun s3 w' => ((n : Int) - intOf s3).toNat)
    case atStart => exact ⟨0, by omega, rfl, rfl, rfl⟩
    case round =>
      obtain ⟨i, hi, rfl, rfl, HF⟩ := hrel
      by_cases hin : i < n
      · have hiz : (i : Int) < (n : Int) := by omega
        have hil : i < ys.length := by rw [HN.out]; exact hin
        have hcell := HC.out i hin
        obtain ⟨y, hy⟩ : ∃ y, at_ ys i = y := ⟨_, rfl⟩
        rw [hy] at hcell
        have HY : Hid (ys[i] = y) := by show _ = _; rw [← at_eq i hil]; exact hy
        clear hy
        by_cases hbad : y < 0 ∨ 15 < y
        · have HMf : Hid (may ys = false) := may_bad i hil (by rw [HY.out]; exact hbad)
          rcases hbad with hbad | hbad
          · go_wp2
            go_ret
            exact ⟨by rw [HMf.out]; rfl, rfl⟩
          · have hge : ¬ y < 0 := by omega
            go_wp2
            go_ret
            exact ⟨by rw [HMf.out]; rfl, rfl⟩
        · have hy0 : ¬ y < 0 := by omega
          have hy15 : ¬ 15 < y := by omega
          have HF' : Hid ((ys.take (i + 1)).all fine = true) := by
            show _ = _
            rw [take_snoc ys i hil, List.all_append, HF.out, HY.out]
            simp [fine]; omega
          go_wp2
          go_roundw
          case rel => exact ⟨i + 1, by omega, by push_cast; rfl, trivial, HF'⟩
          case measure => simp [intOf]; omega
      · obtain rfl : i = n := by omega
        have HT : Hid (may ys = true) := by
          show _ = _
          have := HF.out
          rw [List.take_of_length_le (by rw [HN.out]; omega)] at this
          rw [HM.out]; exact this
        go_wp2
        go_ret
        exact ⟨by rw [HT.out]; rfl, rfl⟩
  · have HMf : Hid (may ys = false) := by
      show _ = _
      cases hm : may ys
      · rfl
      · exact absurd (may_len hm) hn
    obtain ⟨n, hn'⟩ : ∃ n, ys.length = n := ⟨_, rfl⟩
    rw [hn'] at hn hl ⊢
    clear hn'
    have hcs : (n : Int) < 1 ∨ (¬ (n : Int) < 1 ∧ 288 < (n : Int)) := by omega
    rcases hcs with hcs | ⟨hcs1, hcs2⟩
    all_goals
      go_enter Try.func37, Try.ntmps37
      go_wp2
      go_ret
      exact ⟨by rw [HMf.out]; rfl, rfl⟩

set_option maxHeartbeats 4000000 in
set_option maxRecDepth 1000000 in
theorem rroom_ok (a : Option Addr) (ys : List Int) (cap : Nat) (w : World) (hR : Row w a ys) (hm : may ys = true) :
    Calls Try.prog 38 #[.slice a ys.length cap] w fun e w' => e = .returned (.int .i64 (room ys : Nat)) ∧ w' = w := by
  have hn := may_len hm
  obtain ⟨b, off, rfl, hb, hc⟩ := hR.at (by omega)
  have HC : Hid (∀ i, i < ys.length → w.cell? ⟨b, off + i, none⟩ = some (.int .i64 (at_ ys i)) ∧ 0 ≤ at_ ys i ∧ at_ ys i ≤ 15) := fun i hi => ⟨hc w (Keeps.refl _ _) i hi, by rw [at_eq i hi]; exact may_at hm i hi⟩
  have HR : Hid (seqRoom ys ys.length = room ys) := by
    show _ = _
    rw [seqRoom_all ys (fun i hi => may_at hm i hi) ys.length (Nat.le_refl _), List.take_length]; rfl
  obtain ⟨n, hn'⟩ : ∃ n, ys.length = n := ⟨_, rfl⟩
  have HN : Hid (ys.length = n) := hn'
  rw [hn'] at hn HC HR ⊢
  clear hR hc hn' hm
  go_enter Try.func38, Try.ntmps38
  go_wp2
  go_loopw [3, 4] (fun s3 s4 w' => ∃ i : Nat, i ≤ n ∧ s3 = .int .i64 (seqRoom ys i : Nat) ∧ s4 = .int .i64 (i : Int) ∧ w' = w) (fun s3 s4 w' => ((n : Int) - intOf s4).toNat)
  case atStart => exact ⟨0, by omega, rfl, rfl, rfl⟩
  case round =>
    obtain ⟨i, hi, rfl, rfl, rfl⟩ := hrel
    by_cases hin : i < n
    · have hiz : (i : Int) < (n : Int) := by omega
      obtain ⟨hcell, hy0, hy15⟩ := HC.out i hin
      have HS : Hid (seqRoom ys (i + 1) = seqRoom ys i + oneRoom (at_ ys i)) := seqRoom_succ ys i (by rw [HN.out]; exact hin)
      have hb := seqRoom_le ys (i + 1)
      obtain ⟨c, hcc⟩ : ∃ c : Nat, at_ ys i = (c : Int) := ⟨(at_ ys i).toNat, by omega⟩
      rw [hcc] at hcell hy0 hy15 HS
      clear hcc
      by_cases hp : 0 < c
      · have hpz : 0 < (c : Int) := by omega
        have hw15 : IntKind.i64.wrap (15 - (c : Int)) = ((15 - c : Nat) : Int) := by rw [wrap_i64_small _ (by omega) (by omega)]; omega
        have hnn : ¬ (((15 - c : Nat) : Int) < 0) := by omega
        obtain ⟨P, hP1, hP2, hPe⟩ := pow_room c (by omega)
        have hone : oneRoom (c : Int) = P := by rw [hPe]; unfold oneRoom; rw [decide_eq_true (by omega)]; rfl
        have hsum : IntKind.i64.wrap ((seqRoom ys i : Int) + (P : Int)) = ((seqRoom ys (i + 1) : Nat) : Int) := by
          rw [HS.out, hone, wrap_i64_small _ (by omega) (by have := HS.out; omega)]; push_cast; rfl
        have hsum' : wrap64 ((seqRoom ys i : Int) + (P : Int)) = ((seqRoom ys (i + 1) : Nat) : Int) := by rw [← IntWalk.i64_left]; exact hsum
        clear hone hPe hb
        go_wp2
        go_roundw
        case rel => exact ⟨i + 1, by omega, by first | rfl | rw [hsum'], by push_cast; rfl, trivial⟩
        case measure => simp [intOf]; omega
      · obtain rfl : c = 0 := by omega
        have he : seqRoom ys (i + 1) = seqRoom ys i := by rw [HS.out]; rfl
        clear HS
        go_wp2
        go_roundw
        case rel => exact ⟨i + 1, by omega, by rw [he], by push_cast; rfl, trivial⟩
        case measure => simp [intOf]; omega
    · obtain rfl : i = n := by omega
      go_wp2
      go_ret
      exact ⟨by rw [← HR.out]; rfl, rfl⟩

set_option maxHeartbeats 4000000 in
set_option maxRecDepth 1000000 in
theorem rcheck_ok (a : Option Addr) (ys : List Int) (cap : Nat) (w : World) (hR : Row w a ys) (hl : ys.length ≤ 9223372036854775807) :
    Calls Try.prog 30 #[.slice a ys.length cap] w fun e w' => e = .returned (.int .i64 (errC ys)) ∧ w' = w := by
  have HM : Hid (Calls Try.prog 37 #[.slice a ys.length cap] w fun e w' => e = .returned (.bool (may ys)) ∧ w' = w) := rmay_ok a ys cap w hR hl
  cases ht : may ys
  · rw [ht] at HM
    have HE : Hid (errC ys = 300) := by show _ = _; simp [errC, ht]
    generalize ys.length = L at *
    clear ht
    go_enter Try.func30, Try.ntmps30
    go_wp2_with (first
      | (go_at_call 37; refine HM.out.mono ?_; rintro e w' ⟨rfl, hw⟩; obtain rfl := hw.symm; clear hw))
    go_ret
    exact ⟨by rw [HE.out]; rfl, rfl⟩
  · rw [ht] at HM
    have HR : Hid (Calls Try.prog 38 #[.slice a ys.length cap] w fun e w' => e = .returned (.int .i64 (room ys : Nat)) ∧ w' = w) := rroom_ok a ys cap w hR ht
    have HE : Hid (errC ys = cond (decide (32768 < room ys)) 301 (cond (decide (room ys < 32768)) 302 0)) := by show _ = _; simp [errC, ht]
    clear ht hR
    generalize room ys = r at *
    generalize ys.length = L at *
    have hcs : (32768 < (r : Int)) ∨ (¬ (32768 < (r : Int)) ∧ (r : Int) < 32768) ∨ (¬ (32768 < (r : Int)) ∧ ¬ (r : Int) < 32768) := by omega
    rcases hcs with h1 | ⟨h1, h2⟩ | ⟨h1, h2⟩
    · go_enter Try.func30, Try.ntmps30
      go_wp2_with (first
        | (go_at_call 37; refine HM.out.mono ?_; rintro e w' ⟨rfl, hw⟩; obtain rfl := hw.symm; clear hw)
        | (go_at_call 38; refine HR.out.mono ?_; rintro e w' ⟨rfl, hw⟩; obtain rfl := hw.symm; clear hw))
      go_ret
      exact ⟨by rw [HE.out, decide_eq_true (show 32768 < r by omega)]; rfl, rfl⟩
    · go_enter Try.func30, Try.ntmps30
      go_wp2_with (first
        | (go_at_call 37; refine HM.out.mono ?_; rintro e w' ⟨rfl, hw⟩; obtain rfl := hw.symm; clear hw)
        | (go_at_call 38; refine HR.out.mono ?_; rintro e w' ⟨rfl, hw⟩; obtain rfl := hw.symm; clear hw))
      go_ret
      exact ⟨by rw [HE.out, decide_eq_false (show ¬ 32768 < r by omega), decide_eq_true (show r < 32768 by omega)]; rfl, rfl⟩
    · go_enter Try.func30, Try.ntmps30
      go_wp2_with (first
        | (go_at_call 37; refine HM.out.mono ?_; rintro e w' ⟨rfl, hw⟩; obtain rfl := hw.symm; clear hw)
        | (go_at_call 38; refine HR.out.mono ?_; rintro e w' ⟨rfl, hw⟩; obtain rfl := hw.symm; clear hw))
      go_ret
      exact ⟨by rw [HE.out, decide_eq_false (show ¬ 32768 < r by omega), decide_eq_false (show ¬ r < 32768 by omega)]; rfl, rfl⟩

end Go.Proofs.Ytdbfbijalhknnab.Hf

namespace Go.Proofs.Ytdbfbijalhknnab.Hf
open Go.RowKit
set_option linter.unusedVariables false
set_option linter.unusedSimpArgs false

/-- The codes that are laid once the lengths below b are done, and of b the first i symbols. -/
def rTo (ys : List Int) (b i : Nat) : Nat → Int × Int := fun j => if 1 ≤ at_ ys j ∧ (at_ ys j < (b : Int) ∨ (at_ ys j = (b : Int) ∧ j < i)) then codeF ys j else (0, 0)
theorem rTo_next (ys : List Int) (b : Nat) (n : Nat) (j : Nat) (hj : j < n) : rTo ys b n j = rTo ys (b + 1) 0 j := by
  unfold rTo
  have e : (1 ≤ at_ ys j ∧ (at_ ys j < (b : Int) ∨ (at_ ys j = (b : Int) ∧ j < n))) ↔ (1 ≤ at_ ys j ∧ (at_ ys j < ((b + 1 : Nat) : Int) ∨ (at_ ys j = ((b + 1 : Nat) : Int) ∧ j < 0))) := by
    constructor
    · rintro ⟨h1, h2⟩; exact ⟨h1, .inl (by omega)⟩
    · rintro ⟨h1, h2⟩
      refine ⟨h1, ?_⟩
      rcases h2 with h2 | ⟨_, h3⟩
      · by_cases e : at_ ys j = (b : Int)
        · exact .inr ⟨e, hj⟩
        · exact .inl (by omega)
      · omega
  by_cases h : (1 ≤ at_ ys j ∧ (at_ ys j < (b : Int) ∨ (at_ ys j = (b : Int) ∧ j < n)))
  · rw [if_pos h, if_pos (e.1 h)]
  · rw [if_neg h, if_neg (fun k => h (e.2 k))]
theorem rTo_start (ys : List Int) (j : Nat) : rTo ys 1 0 j = (0, 0) := by
  unfold rTo; rw [if_neg (by omega)]
theorem rTo_end (ys : List Int) (j : Nat) (h : 0 ≤ at_ ys j ∧ at_ ys j ≤ 15) : rTo ys 16 0 j = codeF ys j := by
  unfold rTo
  by_cases h1 : 1 ≤ at_ ys j
  · rw [if_pos ⟨h1, .inl (by omega)⟩]
  · rw [if_neg (by omega)]
    have e : at_ ys j = 0 := by omega
    unfold codeF codeV; rw [e]; simp
theorem rTo_skip (ys : List Int) (b i j : Nat) (h : ¬ at_ ys i = (b : Int)) : rTo ys b i j = rTo ys b (i + 1) j := by
  unfold rTo
  by_cases e : j = i
  · subst e
    by_cases h1 : 1 ≤ at_ ys j ∧ (at_ ys j < (b : Int) ∨ (at_ ys j = (b : Int) ∧ j < j))
    · rw [if_pos h1, if_pos ⟨h1.1, by omega⟩]
    · rw [if_neg h1, if_neg (by omega)]
  · by_cases h1 : 1 ≤ at_ ys j ∧ (at_ ys j < (b : Int) ∨ (at_ ys j = (b : Int) ∧ j < i))
    · rw [if_pos h1, if_pos ⟨h1.1, by omega⟩]
    · rw [if_neg h1, if_neg (by omega)]
theorem rTo_take (ys : List Int) (b i j : Nat) (hb : 1 ≤ b) (h : at_ ys i = (b : Int)) (q : Nat) (hq : fstC (cn ys) b + cnt (ys.take i) b = q) : (if j = i then ((b : Int), (q : Int)) else rTo ys b i j) = rTo ys b (i + 1) j := by
  by_cases e : j = i
  · subst e
    rw [if_pos rfl]
    unfold rTo
    rw [if_pos ⟨by omega, .inr ⟨h, by omega⟩⟩]
    unfold codeF codeV
    rw [h, decide_eq_true (by omega), cond_true, show ((b : Int)).toNat = b by omega, hq]
  · rw [if_neg e]
    unfold rTo
    by_cases h1 : 1 ≤ at_ ys j ∧ (at_ ys j < (b : Int) ∨ (at_ ys j = (b : Int) ∧ j < i))
    · rw [if_pos h1, if_pos ⟨h1.1, by omega⟩]
    · rw [if_neg h1, if_neg (by omega)]
def nextR (ys : List Int) (b i : Nat) : Nat := fstC (cn ys) b + cnt (ys.take i) b
theorem nextR_le (ys : List Int) (hl : ys.length ≤ 288) (b i : Nat) (hb : b ≤ 15) : nextR ys b i ≤ 20000000 := by
  have h1 := fstC_small ys hl b hb
  have h2 := cnt_le (ys.take i) b
  rw [List.length_take] at h2
  unfold nextR; omega
theorem nextR_zero (ys : List Int) (b : Nat) : nextR ys b 0 = fstC (cn ys) b := by simp [nextR, cnt]
theorem nextR_same (ys : List Int) (b i : Nat) (hi : i < ys.length) (h : ¬ at_ ys i = (b : Int)) : nextR ys b (i + 1) = nextR ys b i := by
  unfold nextR; rw [take_snoc ys i hi, cnt_snoc, if_neg (by rw [← at_eq i hi]; exact h)]; rfl
theorem nextR_more (ys : List Int) (b i : Nat) (hi : i < ys.length) (h : at_ ys i = (b : Int)) : nextR ys b (i + 1) = nextR ys b i + 1 := by
  unfold nextR; rw [take_snoc ys i hi, cnt_snoc, if_pos (by rw [← at_eq i hi]; exact h)]; omega
theorem nextR_all (ys : List Int) (b : Nat) (hb : 1 ≤ b) : 2 * nextR ys b ys.length = fstC (cn ys) (b + 1) := by
  unfold nextR; rw [List.take_length, fstC]
  have : cn ys b = cnt ys b := by unfold cn; rw [if_neg (by omega)]
  omega

theorem errC_bad (ys : List Int) (h : fits ys = false) : errC ys = errF ys ∧ ¬ errC ys = 0 ∧ ¬ errC ys = 302 := by
  unfold fits at h
  unfold errC errF
  cases hm : may ys
  · simp
  · rw [hm] at h
    simp at h
    simp [h]
theorem errC_good (ys : List Int) (h : fits ys = true) : errC ys = 0 ∨ errC ys = 302 := by
  obtain ⟨h1, h2⟩ := fits_true h
  unfold errC
  rw [h1, decide_eq_false (by omega : ¬ 32768 < room ys)]
  by_cases h3 : room ys < 32768
  · right; simp [h3]
  · left; simp [h3]

set_option maxHeartbeats 4000000 in
set_option maxRecDepth 1000000 in
theorem rcodes_bad (a : Option Addr) (ys : List Int) (cap : Nat) (w : World) (hR : Row w a ys) (hl : ys.length ≤ 9223372036854775807) (hf : fits ys = false) :
    Calls Try.prog 17 #[.slice a ys.length cap] w fun e w' => e = .returned (.tuple #[.slice none 0 0, .int .i64 (errF ys)]) ∧ w' = w := by
  obtain ⟨h1, h2, h3⟩ := errC_bad ys hf
  have HC : Hid (Calls Try.prog 30 #[.slice a ys.length cap] w fun e w' => e = .returned (.int .i64 (errC ys)) ∧ w' = w) := rcheck_ok a ys cap w hR hl
  rw [h1] at h2 h3 HC
  generalize errF ys = er at *
  generalize ys.length = L at *
  clear h1 hf hR
  have h2' : (er != 0) = true := bne_iff_ne.2 h2
  have h3' : (er != 302) = true := bne_iff_ne.2 h3
  go_enter Try.func17, Try.ntmps17
  go_wp2_with (first
    | (go_at_call 30; refine HC.out.mono ?_; rintro e w' ⟨rfl, hw⟩; obtain rfl := hw.symm; clear hw))
  go_ret2
  exact ⟨rfl, rfl⟩

set_option maxHeartbeats 4000000 in
set_option maxRecDepth 1000000 in
theorem rcodes_good (a : Option Addr) (ys : List Int) (cap : Nat) (w : World) (hR : Row w a ys) (hl : ys.length ≤ 9223372036854775807) (hf : fits ys = true) :
    Calls Try.prog 17 #[.slice a ys.length cap] w fun e w' => ∃ g, e = .returned (.tuple #[.slice (some ⟨g, 0, none⟩) ys.length ys.length, .int .i64 0]) ∧ Keeps (fun _ => False) w w' ∧ w.heap.size ≤ g ∧ Cds w' g ys.length (codeF ys) := by
  have hm := (fits_true hf).1
  have hlen := may_len hm
  have HC : Hid (Calls Try.prog 30 #[.slice a ys.length cap] w fun e w' => e = .returned (.int .i64 (errC ys)) ∧ w' = w) := rcheck_ok a ys cap w hR hl
  obtain ⟨b, off, rfl, hb, hc⟩ := hR.at (by omega)
  have HCell : Hid (∀ w', Keeps (fun _ => False) w w' → ∀ i, i < ys.length → w'.cell? ⟨b, off + i, none⟩ = some (.int .i64 (at_ ys i))) := hc
  have HY : Hid (∀ i, i < ys.length → 0 ≤ at_ ys i ∧ at_ ys i ≤ 15) := fun i h => by rw [at_eq i h]; exact may_at hm i h
  have HLen : Hid (ys.length ≤ 288) := hlen.2
  have hE := errC_good ys hf
  generalize errC ys = er at *
  clear hc hm hR hf hl
  generalize hL : ys.length = L at *
  have HL : Hid (ys.length = L) := hL
  clear hL
  have key : ∀ er : Int, er = 0 ∨ er = 302 → Hid (Calls Try.prog 30 #[.slice (some ⟨b, off, none⟩) L cap] w fun e w' => e = .returned (.int .i64 er) ∧ w' = w) → Calls Try.prog 17 #[.slice (some ⟨b, off, none⟩) L cap] w fun e w' => ∃ g, e = .returned (.tuple #[.slice (some ⟨g, 0, none⟩) L L, .int .i64 0]) ∧ Keeps (fun _ => False) w w' ∧ w.heap.size ≤ g ∧ Cds w' g L (codeF ys) := by
    clear HC hE er
    intro er hE HC
    rcases hE with rfl | rfl
    all_goals
      go_enter Try.func17, Try.ntmps17
      go_wp2_with (first
        | (go_at_call 30; refine HC.out.mono ?_; rintro e w' ⟨rfl, hw⟩; obtain rfl := hw.symm; clear hw)
        | (refine wpList_codes rfl _ _ rfl L rfl rfl ?hn ?_; (case hn => omega); intro g w8 hG hK8 hg8))
      have HW : Hid (Cds w8 g L (rTo ys 1 0) ∧ Keeps (fun _ => False) w w8 ∧ w.heap.size ≤ g) := ⟨hG.congr (fun j _ => (rTo_start ys j).symm), hK8, hg8⟩
      clear hG hK8 hg8
      go_loopw [6, 7] (fun s6 s7 w' => ∃ bb q : Nat, 1 ≤ bb ∧ bb ≤ 16 ∧ s6 = .int .i64 (q : Int) ∧ s7 = .int .i64 (bb : Int) ∧ Hid (q ≤ 20000000 ∧ (bb ≤ 15 → 2 * q = fstC (cn ys) bb)) ∧ Hid (Cds w' g L (rTo ys bb 0) ∧ Keeps (fun _ => False) w w' ∧ w.heap.size ≤ g)) (fun s6 s7 w' => (16 - intOf s7).toNat)
      case atStart => exact ⟨1, 0, by omega, by omega, rfl, rfl, ⟨by omega, fun _ => by simp [fstC, cn]⟩, HW⟩
      case round =>
        clear HW
        obtain ⟨bb, q, hb1, hb16, rfl, rfl, HQ, HW⟩ := hrel
        by_cases hb15 : bb ≤ 15
        · have hbz : (bb : Int) ≤ 15 := by omega
          have hw2 : IntKind.i64.wrap (2 * (q : Int)) = ((nextR ys bb 0 : Nat) : Int) := by
            rw [nextR_zero, ← HQ.out.2 hb15, wrap_i64_small _ (by omega) (by have := HQ.out.1; omega)]; push_cast; rfl
          have hw2' : wrap64 (2 * (q : Int)) = ((nextR ys bb 0 : Nat) : Int) := by rw [← IntWalk.i64_left]; exact hw2
          go_wp2_with fail
          try rw [hw2']
          clear hw2 hw2'
          go_loopw [6, 8] (fun s6 s8 w' => ∃ i : Nat, i ≤ L ∧ s6 = .int .i64 (nextR ys bb i : Nat) ∧ s8 = .int .i64 (i : Int) ∧ Hid (Cds w' g L (rTo ys bb i) ∧ Keeps (fun _ => False) w w' ∧ w.heap.size ≤ g)) (fun s6 s8 w' => ((L : Int) - intOf s8).toNat)
          case atStart => exact ⟨0, by omega, rfl, rfl, HW⟩
          case round =>
            clear HW
            obtain ⟨i, hi, rfl, rfl, HW⟩ := hrel
            by_cases hin : i < L
            · have hiz : (i : Int) < (L : Int) := by omega
              have hcell := HCell.out wr HW.out.2.1 i hin
              have hil : i < ys.length := by rw [HL.out]; exact hin
              by_cases hyb : at_ ys i = (bb : Int)
              · have hns := nextR_le ys (by rw [HL.out]; exact HLen.out) bb i hb15
                have hnm := nextR_more ys bb i hil hyb
                rw [hyb] at hcell
                obtain ⟨q2, hq2⟩ : ∃ q2, nextR ys bb i = q2 := ⟨_, rfl⟩
                have HT : Hid (∀ j, (if j = i then ((bb : Int), (q2 : Int)) else rTo ys bb i j) = rTo ys bb (i + 1) j) := fun j => rTo_take ys bb i j hb1 hyb q2 hq2
                rw [hq2] at hns hnm
                rw [hq2]
                have HNM : Hid (nextR ys bb (i + 1) = q2 + 1) := hnm
                have hwn : IntKind.i64.wrap ((q2 : Int) + 1) = ((q2 + 1 : Nat) : Int) := by rw [wrap_i64_small _ (by omega) (by omega)]; push_cast; rfl
                clear hyb hnm hq2
                have HG : Hid (Cds wr g L (rTo ys bb i)) := HW.out.1
                go_wp2_with (first
                  | (refine wpList_code rfl _ _ rfl g i (bb : Int) (q2 : Int) rfl rfl L (rTo ys bb i) HG.out hin ?_; intro wa hGa hKa; have HW' : Hid (Cds wa g L (rTo ys bb (i + 1)) ∧ Keeps (fun _ => False) w wa ∧ w.heap.size ≤ g) := ⟨hGa.congr (fun j _ => HT.out j), HW.out.2.1.trans hKa (fun k hk h => absurd hk (by have := HW.out.2.2; omega)), HW.out.2.2⟩; clear hGa hKa))
                go_roundw
                case rel => exact ⟨i + 1, by omega, by rw [HNM.out] <;> (push_cast; rfl), by push_cast; rfl, HW'⟩
                case measure => simp [intOf]; omega
              · have hns := nextR_same ys bb i hil hyb
                have HW' : Hid (Cds wr g L (rTo ys bb (i + 1)) ∧ Keeps (fun _ => False) w wr ∧ w.heap.size ≤ g) := ⟨HW.out.1.congr (fun j _ => rTo_skip ys bb i j hyb), HW.out.2⟩
                have HNS : Hid (nextR ys bb (i + 1) = nextR ys bb i) := hns
                clear hns
                generalize at_ ys i = yy at *
                go_wp2_with fail
                go_roundw
                case rel => exact ⟨i + 1, by omega, by rw [HNS.out], by push_cast; rfl, HW'⟩
                case measure => simp [intOf]; omega
            · obtain rfl : i = L := by omega
              have HW' : Hid (Cds wr g i (rTo ys (bb + 1) 0) ∧ Keeps (fun _ => False) w wr ∧ w.heap.size ≤ g) := ⟨HW.out.1.congr (fun j hj => rTo_next ys bb i j hj), HW.out.2⟩
              have HQ' : Hid (nextR ys bb i ≤ 20000000 ∧ (bb + 1 ≤ 15 → 2 * nextR ys bb i = fstC (cn ys) (bb + 1))) := ⟨nextR_le ys (by rw [HL.out]; exact HLen.out) bb i hb15, fun _ => by rw [← HL.out]; exact nextR_all ys bb hb1⟩
              go_wp2_with fail
              go_roundw
              case rel => exact ⟨bb + 1, nextR ys bb i, by omega, by omega, rfl, by push_cast; rfl, HQ', HW'⟩
              case measure => simp [intOf]; omega
        · obtain rfl : bb = 16 := by omega
          go_wp2_with fail
          go_ret2
          obtain ⟨g1, g2, g3⟩ := HW.out
          exact ⟨g, rfl, g2, g3, g1.congr (fun j hj => rTo_end ys j (HY.out j hj))⟩
  exact key er hE HC

theorem foundL_iff (ys : List Int) (x v : Int) (hf : fits ys = true) (s : Nat) : foundL ys x v = some s ↔ s < ys.length ∧ 0 < at_ ys s ∧ at_ ys s = x ∧ (codeV ys s : Int) = v := by
  unfold foundL; rw [hf, cond_true]; exact findL_some ys x v s (fits_true hf).1

end Go.Proofs.Ytdbfbijalhknnab.Hf

namespace Go.Proofs.Ytdbfbijalhknnab.Bk
open Go.RowKit
open Hf Tb
open Mt (Tk RowT TkAt tk tk_eq mayF okT sumZ expF)
set_option linter.unusedVariables false
set_option linter.unusedSimpArgs false

/-- The document's writer, that has been written on since a world. -/
structure WS (w0 w : World) (b : Nat) (o0 o : Option Nat) (L : Bts) : Prop where
  wr : Wr 49 w b o L
  own : o = o0 ∨ ∃ g, o = some g ∧ w0.heap.size ≤ g
  keep : Keeps (fun k => k = b ∨ o0 = some k) w0 w
theorem WS.step {w0 w w' : World} {b : Nat} {o0 o : Option Nat} {L L' : Bts} (h : WS w0 w b o0 o L) (hO : Onto 49 w w' b o L') : ∃ o', WS w0 w' b o0 o' L' := by
  obtain ⟨o', h1, h2, h3⟩ := hO
  have hs := own_step h.own h.keep h2 h3
  exact ⟨o', h1, hs.1, hs.2⟩
theorem WS.keptF {w0 w w' : World} {b : Nat} {o0 o : Option Nat} {L : Bts} (h : WS w0 w b o0 o L) (hk : Keeps (fun _ => False) w w') : WS w0 w' b o0 o L :=
  ⟨h.wr.kept hk (fun h => h) (fun _ _ h => h), h.own, h.keep.trans hk (fun _ _ h => h.elim)⟩
theorem WS.fresh {w0 w w' : World} {b q : Nat} {o0 o : Option Nat} {L : Bts} (h : WS w0 w b o0 o L) (hk : Keeps (fun k => k = q) w w') (hq : w0.heap.size ≤ q) (hb : q ≠ b) (ho : o ≠ some q) : WS w0 w' b o0 o L :=
  ⟨h.wr.kept hk (fun e => hb e.symm) (fun k e e2 => ho (e2 ▸ e)), h.own, h.keep.trans hk (fun k hk2 e => by omega)⟩
/-- What is made behind a world is none of the writer's. -/
theorem WS.new {w0 w : World} {b q : Nat} {o0 o : Option Nat} {L : Bts} (h : WS w0 w b o0 o L) (hq : w.heap.size ≤ q) : q ≠ b ∧ o ≠ some q ∧ w0.heap.size ≤ q := by
  have hb := h.wr.lt
  have ho := h.wr.own
  have hz := h.keep.size
  exact ⟨by omega, fun e => by have := ho _ e; omega, by omega⟩
/-- A symbol that lies in a block of its own stays while the writer is written on. -/
theorem WS.syb {w0 w w' : World} {b q : Nat} {o0 o : Option Nat} {L L' : Bts} {s : Sy} (h : WS w0 w b o0 o L) (hy : Syb w q s) (hb : q ≠ b) (ho : o ≠ some q) (hO : Onto 49 w w' b o L') : ∃ o', WS w0 w' b o0 o' L' ∧ Syb w' q s ∧ o' ≠ some q := by
  obtain ⟨o', h1, h2, h3⟩ := hO
  have hs := own_step h.own h.keep h2 h3
  refine ⟨o', ⟨h1, hs.1, hs.2⟩, hy.kept h3 (by rintro (e | e); exact hb e; exact ho e), ?_⟩
  rcases h2 with e | ⟨g, e, hg⟩
  · rw [e]; exact ho
  · rw [e]; intro e2; cases e2; have := hy.lt; omega
/-- A block that is none of the writer's, and was there. -/
def Off (w0 : World) (b : Nat) (o0 : Option Nat) (g : Nat) : Prop := g < w0.heap.size ∧ g ≠ b ∧ o0 ≠ some g
theorem Off.not {w0 : World} {b : Nat} {o0 : Option Nat} {g : Nat} (h : Off w0 b o0 g) : ¬ (g = b ∨ o0 = some g) := by rintro (e | e); exact h.2.1 e; exact h.2.2 e
theorem WS.cds {w0 w : World} {b : Nat} {o0 o : Option Nat} {L : Bts} (h : WS w0 w b o0 o L) {g n : Nat} {f : Nat → Int × Int} (hc : Cds w0 g n f) (hg : Off w0 b o0 g) : Cds w g n f := hc.kept h.keep hg.not
theorem cds_at {w : World} {g : Nat} {ys : List Int} (h : Cds w g ys.length (codeF ys)) {i c : Nat} (hi : i < ys.length) (hc : at_ ys i = (c : Int)) : w.cell? ⟨g, i * 2, none⟩ = some (.int .i64 (c : Int)) ∧ w.cell? ⟨g, i * 2 + 1, none⟩ = some (.int .i64 (codeV ys i : Int)) := by
  have h1 := h.bits i hi
  have h2 := h.value i hi
  simp only [codeF, hc] at h1 h2; exact ⟨h1, h2⟩
theorem WS.code {w0 w : World} {b : Nat} {o0 o : Option Nat} {L : Bts} (h : WS w0 w b o0 o L) (zs : List Int) (hm : may zs = true) (hr : room zs ≤ 32768) {i c : Nat} (hi : i < zs.length) (hc : at_ zs i = (c : Int)) (h0 : 0 < c) (hL : L.length + 15 ≤ 65536) :
    Calls Try.prog 18 #[.pointer (some ⟨b, 0, none⟩), .agg #[.int .i64 (c : Int), .int .i64 (codeV zs i : Int)]] w fun e w' => e = .returned (.int .i64 0) ∧ ∃ o', WS w0 w' b o0 o' (L ++ codeB zs i) := by
  have h15 := may_at hm i hi
  rw [← at_eq i hi, hc] at h15
  refine (Bt.rcode_ok b o L (codeV zs i) c w (by omega) (by omega) (codeV_pow zs hr i c hi hc h0 (by omega)) (by omega) h.wr).mono ?_
  rintro e w' ⟨rfl, ho⟩
  refine ⟨rfl, h.step ?_⟩
  unfold codeB
  rw [hc, Int.toNat_natCast]; exact ho
theorem WS.put {w0 w : World} {b : Nat} {o0 o : Option Nat} {L : Bts} (h : WS w0 w b o0 o L) (v k : Nat) (hk : k ≤ 16) (hv : v < 2 ^ k) (hL : L.length + k ≤ 65536) :
    Calls Try.prog 16 #[.pointer (some ⟨b, 0, none⟩), .int .i64 (v : Int), .int .i64 (k : Int)] w fun e w' => e = .returned (.int .i64 0) ∧ ∃ o', WS w0 w' b o0 o' (L ++ bitsOf v k) := by
  refine (Bt.rput_ok b o L v k w (by omega) hv hL h.wr).mono ?_
  rintro e w' ⟨rfl, ho⟩
  exact ⟨rfl, h.step ho⟩
/-- A symbol that was made since, and what is written behind it. -/
theorem sym_on {w1 w2 : World} {b q : Nat} {o1 o2 : Option Nat} {L1 L2 : Bts} {s : Sy} (hy : Syb w1 q s) (hb : q ≠ b) (ho : o1 ≠ some q) (h : WS w1 w2 b o1 o2 L2) : Syb w2 q s ∧ o2 ≠ some q := by
  refine ⟨hy.kept h.keep (by rintro (e | e); exact hb e; exact ho e), ?_⟩
  rcases h.own with e | ⟨g, e, hg⟩
  · rw [e]; exact ho
  · rw [e]; intro e2; cases e2; have := hy.lt; omega
def PutPost (ys ds : List Int) (ts : List Tk) (w : World) (b : Nat) (o : Option Nat) (L : Bts) (e : Ending) (w' : World) : Prop :=
  e = .returned (.tuple #[]) ∧ ∃ o', WS w w' b o o' (L ++ (tksB ys ds ts ++ codeB ys 256))

set_option maxHeartbeats 8000000 in
set_option maxRecDepth 100000 in
theorem rputT_ok {w : World} {b : Nat} {o : Option Nat} {L : Bts} (h : Wr 49 w b o L) (g1 n1 c1 g2 n2 c2 : Nat) (ys ds : List Int) (h1 : Cds w g1 ys.length (codeF ys)) (h2 : Cds w g2 ds.length (codeF ds)) (hn1 : ys.length = n1) (hn2 : ds.length = n2) (f1 : Off w b o g1) (f2 : Off w b o g2) (hF : Full ys ds) (a : Option Addr) (cap : Nat) (ts : List Tk) (hR : RowT w a ts) (hN : ts.length ≤ 300) (hok : ∀ t ∈ ts, ∃ a, Mt.okT t a = true) (hh : ∀ t ∈ ts, hasT ys ds t) (h256 : 0 < at_ ys 256) (hL : L.length ≤ 40000) (ha : ts = [] ∨ ∀ x, a = some x → Off w b o x.block) :
    Calls Try.prog 19 #[.pointer (some ⟨b, 0, none⟩), .slice a ts.length cap, .slice (some ⟨g1, 0, none⟩) n1 c1, .slice (some ⟨g2, 0, none⟩) n2 c2] w (PutPost ys ds ts w b o L) := by
  obtain ⟨Q, hQ⟩ : ∃ Q, PutPost ys ds ts w b o L = Q := ⟨_, rfl⟩
  rw [hQ]
  have HQ : Hid (PutPost ys ds ts w b o L = Q) := hQ
  clear hQ
  have HI : Hid (∀ i w' o' L', i < ts.length → WS w w' b o o' L' → ∀ tb off, a = some ⟨tb, off, none⟩ → ∀ w1, Keeps (fun _ => False) w' w1 → TkAt w1 tb (off + i * 3) (tk ts i)) := fun i w' o' L' hi hI tb off e w1 hk => by
    subst e
    have := ha.resolve_left (fun h => by subst h; simp at hi) ⟨tb, off, none⟩ rfl
    exact RowT.cell (RowT.keptN (RowT.keptN hR hI.keep (.inr (fun x e => by cases e; exact this.not))) hk (.inr (fun _ _ h => h))) hi
  have HLen : Hid (∀ (k : Int) (w : World), Calls Try.prog 11 #[.int .i64 k] w fun e w' => e = .returned (.tuple #[syV (symL k), .int .i64 (errB (inL k))]) ∧ Keeps (fun _ => False) w w') := rlength_ok
  have HDis : Hid (∀ (k : Int) (w : World), Calls Try.prog 12 #[.int .i64 k] w fun e w' => e = .returned (.tuple #[syV (symD k), .int .i64 (errB (inD k))]) ∧ Keeps (fun _ => False) w w') := rdist_ok
  have HSp : Hid (0 < ts.length → ∃ tb off, a = some ⟨tb, off, none⟩) := fun hn => by obtain ⟨tb, off, rfl, _⟩ := hR.at hn; exact ⟨tb, off, rfl⟩
  have HB : Hid (Full ys ds ∧ Cds w g1 ys.length (codeF ys) ∧ Cds w g2 ds.length (codeF ds) ∧ Off w b o g1 ∧ Off w b o g2 ∧ ys.length = n1 ∧ ds.length = n2 ∧ 0 < at_ ys 256 ∧ L.length ≤ 40000) := ⟨hF, h1, h2, f1, f2, hn1, hn2, h256, hL⟩
  have HTl : Hid (∀ i, (tksB ys ds (ts.take i)).length ≤ 48 * 300) := fun i => by
    have := tksB_len hF (ts.take i) (fun t ht => hok t (List.mem_of_mem_take ht)) (fun t ht => hh t (List.mem_of_mem_take ht))
    rw [List.length_take] at this; omega
  have HOk : Hid (∀ i, i < ts.length → (∃ c, Mt.okT (tk ts i) c = true) ∧ hasT ys ds (tk ts i)) := fun i hi => by
    rw [tk_eq i hi]; exact ⟨hok _ (List.getElem_mem hi), hh _ (List.getElem_mem hi)⟩
  have HT1 : Hid (∀ i, i < ts.length → tksB ys ds (ts.take (i + 1)) = tksB ys ds (ts.take i) ++ tkB ys ds (tk ts i)) := fun i hi => by rw [take_succ_tk ts i hi, tksB_snoc]
  have HW0 : Hid (∃ o', WS w w b o o' (L ++ tksB ys ds (ts.take 0))) := ⟨o, by simp only [List.take_zero, tksB, List.flatMap_nil, List.append_nil]; exact ⟨h, .inl rfl, Keeps.refl _ w⟩⟩
  have HE : Hid (ts.take ts.length = ts) := List.take_length
  obtain ⟨N, hN2⟩ : ∃ N, ts.length = N := ⟨_, rfl⟩
  rw [hN2] at HI HSp HOk HT1 HE hN ⊢
  clear hN2 hR hok hh h256 hL ha h h1 h2 hF hn1 hn2 f1 f2
  go_enter Try.func19, Try.ntmps19
  go_wp2_with fail
  go_loopw [8] (fun s8 w' => ∃ i : Nat, i ≤ N ∧ s8 = .int .i64 (i : Int) ∧ Hid (∃ o', WS w w' b o o' (L ++ tksB ys ds (ts.take i)))) (fun s8 w' => ((N : Int) - intOf s8).toNat)
  case atStart => exact ⟨0, by omega, rfl, HW0⟩
  case round =>
    clear HW0
    obtain ⟨i, hi, rfl, HW⟩ := hrel
    obtain ⟨o', hS⟩ := HW.out
    have HS := hide hS
    obtain ⟨Li, hLi⟩ : ∃ Li, L ++ tksB ys ds (ts.take i) = Li := ⟨_, rfl⟩
    have HLi : Hid (L ++ tksB ys ds (ts.take i) = Li ∧ Li.length ≤ 54400) := ⟨hLi, by rw [← hLi, List.length_append]; have := HTl.out i; have := HB.out.2.2.2.2.2.2.2.2; omega⟩
    rw [hLi] at HS
    clear HW hS hLi
    by_cases hin : i < N
    · have hiz : (i : Int) < (N : Int) := by omega
      obtain ⟨tb, off, ha⟩ := HSp.out (by omega)
      subst ha
      obtain ⟨⟨l, n, d⟩, ht⟩ : ∃ t, tk ts i = t := ⟨_, rfl⟩
      obtain ⟨⟨c, hc⟩, hx⟩ := HOk.out i hin
      have HTi : Hid (L ++ tksB ys ds (ts.take (i + 1)) = Li ++ tkB ys ds (l, n, d)) := by
        show _ = _
        rw [HT1.out i hin, ht, ← List.append_assoc, HLi.out.1]
      rw [ht] at hc hx
      obtain ⟨t0, t1, t2⟩ := HI.out i wr o' Li hin HS.out tb off rfl wr (Keeps.refl _ _)
      rw [ht] at t0 t1 t2
      simp only at t0 t1 t2
      by_cases hn0 : n = 0
      · subst hn0
        have hb : Mt.isB (l, 0, d) = true := by
          rcases (Mt.okT_iff hc).1 with h1 | h1
          · exact h1
          · have := Mt.isC_iff h1; simp only at this; omega
        have hb2 := Mt.isB_iff hb
        simp only at hb2
        unfold hasT at hx
        rw [if_pos rfl] at hx
        obtain ⟨m, rfl⟩ : ∃ m : Nat, l = (m : Int) := ⟨l.toNat, by omega⟩
        simp only [Int.toNat_natCast] at hx
        have hml := lt_of_at hx
        have h15 := may_at HB.out.1.m1 m hml
        rw [← at_eq m hml] at h15
        obtain ⟨q, hq⟩ : ∃ q : Nat, at_ ys m = (q : Int) := ⟨(at_ ys m).toNat, by omega⟩
        obtain ⟨z1, z2⟩ := cds_at (HS.out.cds HB.out.2.1 HB.out.2.2.2.1) hml hq
        have HC := hide (HS.out.code ys HB.out.1.m1 HB.out.1.r1 hml hq (by omega) (by have := HLi.out.2; omega))
        have e2 : tkB ys ds ((m : Int), 0, d) = codeB ys m := by unfold tkB; rw [if_pos rfl]; rfl
        rw [e2] at HTi
        have hmz : (m : Int) < (n1 : Int) := by have := HB.out.2.2.2.2.2.1; omega
        generalize codeV ys m = V at *
        clear hb hb2 hx hml h15 hq hc ht e2
        go_wp2_with fail
        refine HC.out.mono ?_
        rintro e w6 ⟨rfl, hO6⟩
        have HW6 : Hid (∃ o', WS w w6 b o o' (L ++ tksB ys ds (ts.take (i + 1)))) := by rw [HTi.out]; exact hO6
        clear hO6 HC z1 z2 t0 t1 t2 HS HLi HTi
        go_wp2
        go_roundw
        case rel => exact ⟨i + 1, by omega, by push_cast; rfl, HW6⟩
        case measure => simp [intOf]; omega
      · have hb : Mt.isC (l, n, d) c = true := by
          rcases (Mt.okT_iff hc).1 with h1 | h1
          · have := Mt.isB_iff h1; simp only at this; omega
          · exact h1
        have hb2 := Mt.isC_iff hb
        simp only at hb2
        unfold hasT at hx
        rw [if_neg hn0] at hx
        obtain ⟨x, rfl⟩ : ∃ x : Nat, n = (x : Int) := ⟨n.toNat, by omega⟩
        obtain ⟨y, rfl⟩ : ∃ y : Nat, d = (y : Int) := ⟨d.toNat, by omega⟩
        obtain ⟨j, f, j1, j2, j3, j4, j5⟩ := symL_is x (by omega) (by omega)
        obtain ⟨k, g, k1, k2, k3, k4, k5⟩ := symD_is y (by omega) (by omega)
        have e2 : tkB ys ds (l, (x : Int), (y : Int)) = codeB ys (257 + j) ++ (bitsOf f (lenF j).2 ++ (codeB ds k ++ bitsOf g (dstF k).2)) := by
          unfold tkB
          rw [if_neg hn0]
          simp only [j2, k2, moreB, Int.toNat_natCast]
        simp only [j2, k2, Int.toNat_natCast] at hx
        rw [e2] at HTi
        have HL1 : Hid (∀ (w : World), Calls Try.prog 11 #[.int .i64 (x : Int)] w fun e w' => e = .returned (.tuple #[.agg #[.int .i64 ((257 + j : Nat) : Int), .int .i64 ((lenF j).2 : Int), .int .i64 (f : Int)], .int .i64 (errB (inL (x : Int)))]) ∧ Keeps (fun _ => False) w w') := fun w => by have := HLen.out (x : Int) w; rw [j2] at this; exact this
        have HD1 : Hid (∀ (w : World), Calls Try.prog 12 #[.int .i64 (y : Int)] w fun e w' => e = .returned (.tuple #[.agg #[.int .i64 (k : Int), .int .i64 ((dstF k).2 : Int), .int .i64 (g : Int)], .int .i64 (errB (inD (y : Int)))]) ∧ Keeps (fun _ => False) w w') := fun w => by have := HDis.out (y : Int) w; rw [k2] at this; exact this
        have hml := lt_of_at hx.1
        have hkl := lt_of_at hx.2
        have h15 := may_at HB.out.1.m1 (257 + j) hml
        have h16 := may_at HB.out.1.m2 k hkl
        rw [← at_eq _ hml] at h15
        rw [← at_eq _ hkl] at h16
        obtain ⟨q, hq⟩ : ∃ q : Nat, at_ ys (257 + j) = (q : Int) := ⟨(at_ ys (257 + j)).toNat, by omega⟩
        obtain ⟨r, hr⟩ : ∃ r : Nat, at_ ds k = (r : Int) := ⟨(at_ ds k).toNat, by omega⟩
        have hq15 : 1 ≤ q ∧ q ≤ 15 := by omega
        have hr15 : 1 ≤ r ∧ r ≤ 15 := by omega
        have l1 : (codeB ys (257 + j)).length ≤ 15 := by rw [codeB_length, hq]; omega
        have l2 : (codeB ds k).length ≤ 15 := by rw [codeB_length, hr]; omega
        obtain ⟨I, hI⟩ : ∃ I, 257 + j = I := ⟨_, rfl⟩
        obtain ⟨bl, hbl⟩ : ∃ m, (lenF j).2 = m := ⟨_, rfl⟩
        obtain ⟨bd, hbd⟩ : ∃ m, (dstF k).2 = m := ⟨_, rfl⟩
        rw [hI, hbl] at HL1
        rw [hbd] at HD1
        rw [hI, hbl, hbd] at HTi
        rw [hI] at hq hml l1
        rw [hbl] at j4
        rw [hbd] at k4
        have HCo1 : Hid (∀ w' o'' L'', L''.length + 15 ≤ 65536 → WS w w' b o o'' L'' → (w'.cell? ⟨g1, I * 2, none⟩ = some (.int .i64 (q : Int)) ∧ w'.cell? ⟨g1, I * 2 + 1, none⟩ = some (.int .i64 (codeV ys I : Int))) ∧ Calls Try.prog 18 #[.pointer (some ⟨b, 0, none⟩), .agg #[.int .i64 (q : Int), .int .i64 (codeV ys I : Int)]] w' fun e w'' => e = .returned (.int .i64 0) ∧ Onto 49 w' w'' b o'' (L'' ++ codeB ys I)) := fun w' o'' L'' hl hs => by
          refine ⟨cds_at (hs.cds HB.out.2.1 HB.out.2.2.2.1) hml hq, ?_⟩
          refine (Bt.rcode_ok b o'' L'' (codeV ys I) q w' (by omega) (by omega) (codeV_pow ys HB.out.1.r1 I q hml hq (by omega) (by omega)) (by omega) hs.wr).mono ?_
          rintro e w'' ⟨rfl, ho⟩
          unfold codeB; rw [hq, Int.toNat_natCast]; exact ⟨rfl, ho⟩
        have HCo2 : Hid (∀ w' o'' L'', L''.length + 15 ≤ 65536 → WS w w' b o o'' L'' → (w'.cell? ⟨g2, k * 2, none⟩ = some (.int .i64 (r : Int)) ∧ w'.cell? ⟨g2, k * 2 + 1, none⟩ = some (.int .i64 (codeV ds k : Int))) ∧ Calls Try.prog 18 #[.pointer (some ⟨b, 0, none⟩), .agg #[.int .i64 (r : Int), .int .i64 (codeV ds k : Int)]] w' fun e w'' => e = .returned (.int .i64 0) ∧ Onto 49 w' w'' b o'' (L'' ++ codeB ds k)) := fun w' o'' L'' hl hs => by
          refine ⟨cds_at (hs.cds HB.out.2.2.1 HB.out.2.2.2.2.1) hkl hr, ?_⟩
          refine (Bt.rcode_ok b o'' L'' (codeV ds k) r w' (by omega) (by omega) (codeV_pow ds HB.out.1.r2 k r hkl hr (by omega) (by omega)) (by omega) hs.wr).mono ?_
          rintro e w'' ⟨rfl, ho⟩
          unfold codeB; rw [hr, Int.toNat_natCast]; exact ⟨rfl, ho⟩
        have HPu1 : Hid (∀ w' o'' L'', L''.length + 16 ≤ 65536 → WS w w' b o o'' L'' → Calls Try.prog 16 #[.pointer (some ⟨b, 0, none⟩), .int .i64 (f : Int), .int .i64 (bl : Int)] w' fun e w'' => e = .returned (.int .i64 0) ∧ Onto 49 w' w'' b o'' (L'' ++ bitsOf f bl)) := fun w' o'' L'' hl hs => Bt.rput_ok b o'' L'' f bl w' (by omega) j4 (by omega) hs.wr
        have HPu2 : Hid (∀ w' o'' L'', L''.length + 16 ≤ 65536 → WS w w' b o o'' L'' → Calls Try.prog 16 #[.pointer (some ⟨b, 0, none⟩), .int .i64 (g : Int), .int .i64 (bd : Int)] w' fun e w'' => e = .returned (.int .i64 0) ∧ Onto 49 w' w'' b o'' (L'' ++ bitsOf g bd)) := fun w' o'' L'' hl hs => Bt.rput_ok b o'' L'' g bd w' (by omega) k4 (by omega) hs.wr
        have hIz : (I : Int) < (n1 : Int) := by have := HB.out.2.2.2.2.2.1; omega
        have hkz : (k : Int) < (n2 : Int) := by have := HB.out.2.2.2.2.2.2.1; omega
        have HLs : Hid ((codeB ys I).length ≤ 15 ∧ (codeB ds k).length ≤ 15 ∧ (bitsOf f bl).length ≤ 16 ∧ (bitsOf g bd).length ≤ 16) := ⟨l1, l2, by rw [bitsOf_length]; omega, by rw [bitsOf_length]; omega⟩
        generalize errB (inL (x : Int)) = er1 at *
        generalize errB (inD (y : Int)) = er2 at *
        generalize codeV ys I = V at *
        generalize codeV ds k = W at *
        have HTd : Hid (∀ w' o'' L'', WS w w' b o o'' L'' → w'.cell? ⟨tb, off + i * 3 + 2, none⟩ = some (.int .i64 (y : Int))) := fun w' o'' L'' hs => by
          have := (HI.out i w' o'' L'' hin hs tb off rfl w' (Keeps.refl _ _)).2.2
          rw [ht] at this; exact this
        clear hb hb2 hx hml hkl h15 h16 hq hr hc e2 l1 l2 hI hbl hbd j1 j2 j3 j4 j5 k1 k2 k3 k4 k5 HLen HDis ht
        go_wp2_with fail
        refine (HL1.out wr).mono ?_
        rintro e w1 ⟨rfl, hK1⟩
        have H1 := hide (HS.out.keptF hK1)
        clear hK1 HL1 t0 t1 t2 HS
        go_wp2_with (first
          | (refine Tb.wpList_alloc3 rfl rfl ?_; intro q1 w2 hY2 hK2 hq2)
          | (refine Tb.wpList_store3 rfl _ _ rfl q1 ((I : Int), (bl : Int), (f : Int)) rfl rfl (0, 0, 0) hY2 ?_; intro w3 hY3 hK3; have H3 : Hid (WS w w3 b o o' Li ∧ q1 ≠ b ∧ o' ≠ some q1 ∧ Syb w3 q1 ((I : Int), (bl : Int), (f : Int))) := (by have hn := H1.out.new hq2; exact ⟨(H1.out.keptF hK2).fresh hK3 hn.2.2 hn.1 hn.2.1, hn.1, hn.2.1, hY3⟩); have hs0 := hY3.c0; obtain ⟨⟨z1, z2⟩, hC1⟩ := HCo1.out w3 o' Li (by have := HLi.out.2; omega) H3.out.1; have HC1 := hide hC1; clear hK2 hK3 hY2 hq2 hY3 hC1))
        refine HC1.out.mono ?_
        rintro e w4 ⟨rfl, hO4⟩
        obtain ⟨o4, hW4, hY4, hn4⟩ := H3.out.1.syb H3.out.2.2.2 H3.out.2.1 H3.out.2.2.1 hO4
        have c41 := hY4.c1
        have c42 := hY4.c2
        have H4 : Hid (WS w w4 b o o4 (Li ++ codeB ys I) ∧ q1 ≠ b ∧ o4 ≠ some q1 ∧ Syb w4 q1 ((I : Int), (bl : Int), (f : Int))) := ⟨hW4, H3.out.2.1, hn4, hY4⟩
        have HP4 := hide (HPu1.out w4 o4 _ (by have := HLi.out.2; have := HLs.out; rw [List.length_append]; omega) hW4)
        clear HC1 hO4 hW4 hY4 hn4 H3 H1 z1 z2 hs0 HCo1 HPu1
        go_wp2_with fail
        refine HP4.out.mono ?_
        rintro e w5 ⟨rfl, hO5⟩
        obtain ⟨o5, hW5⟩ := H4.out.1.step hO5
        have td := HTd.out w5 o5 _ hW5
        have H5 := hide hW5
        clear HP4 hO5 hW5 H4 c41 c42
        go_wp2_with fail
        refine (HD1.out w5).mono ?_
        rintro e w6 ⟨rfl, hK6⟩
        have H6 := hide (H5.out.keptF hK6)
        clear hK6 HD1 H5 td HTd
        go_wp2_with (first
          | (refine Tb.wpList_alloc3 rfl rfl ?_; intro q2 w7 hY7 hK7 hq7)
          | (refine Tb.wpList_store3 rfl _ _ rfl q2 ((k : Int), (bd : Int), (g : Int)) rfl rfl (0, 0, 0) hY7 ?_; intro w8 hY8 hK8; have H8 : Hid (WS w w8 b o o5 (Li ++ codeB ys I ++ bitsOf f bl) ∧ q2 ≠ b ∧ o5 ≠ some q2 ∧ Syb w8 q2 ((k : Int), (bd : Int), (g : Int))) := (by have hn := H6.out.new hq7; exact ⟨(H6.out.keptF hK7).fresh hK8 hn.2.2 hn.1 hn.2.1, hn.1, hn.2.1, hY8⟩); have hs0 := hY8.c0; obtain ⟨⟨z1, z2⟩, hC2⟩ := HCo2.out w8 o5 _ (by have := HLi.out.2; have := HLs.out; rw [List.length_append, List.length_append]; omega) H8.out.1; have HC2 := hide hC2; clear hK7 hK8 hY7 hq7 hY8 hC2))
        refine HC2.out.mono ?_
        rintro e w9 ⟨rfl, hO9⟩
        obtain ⟨o9, hW9, hY9, hn9⟩ := H8.out.1.syb H8.out.2.2.2 H8.out.2.1 H8.out.2.2.1 hO9
        have c91 := hY9.c1
        have c92 := hY9.c2
        have H9 := hide hW9
        have HP9 := hide (HPu2.out w9 o9 _ (by have := HLi.out.2; have := HLs.out; rw [List.length_append, List.length_append, List.length_append]; omega) hW9)
        clear HC2 hO9 hW9 hY9 hn9 H8 H6 z1 z2 hs0 HCo2 HPu2
        go_wp2_with fail
        refine HP9.out.mono ?_
        rintro e wa ⟨rfl, hOa⟩
        have HW6 : Hid (∃ o', WS w wa b o o' (L ++ tksB ys ds (ts.take (i + 1)))) := by
          rw [HTi.out]
          obtain ⟨oa, hWa⟩ := H9.out.step hOa
          refine ⟨oa, ?_⟩
          simp only [List.append_assoc] at hWa
          exact hWa
        clear hOa HP9 H9 c91 c92 HTi HLi HLs
        go_wp2
        go_roundw
        case rel => exact ⟨i + 1, by omega, by push_cast; rfl, HW6⟩
        case measure => simp [intOf]; omega
    · obtain rfl : i = N := by omega
      have hml := lt_of_at HB.out.2.2.2.2.2.2.2.1
      have h15 := may_at HB.out.1.m1 256 hml
      rw [← at_eq 256 hml] at h15
      obtain ⟨q, hq⟩ : ∃ q : Nat, at_ ys 256 = (q : Int) := ⟨(at_ ys 256).toNat, by omega⟩
      obtain ⟨z1, z2⟩ := cds_at (HS.out.cds HB.out.2.1 HB.out.2.2.2.1) hml hq
      have HC := hide (HS.out.code ys HB.out.1.m1 HB.out.1.r1 hml hq (by have := HB.out.2.2.2.2.2.2.2.1; omega) (by have := HLi.out.2; omega))
      have h256 : (256 : Int) < (n1 : Int) := by have := HB.out.2.2.2.2.2.1; omega
      have HLe : Hid (Li = L ++ tksB ys ds ts) := by show Li = _; rw [← HLi.out.1, HE.out]
      generalize codeV ys 256 = V at *
      clear hml h15 hq HI HLen HDis HSp HTl HOk HT1 HE HLi HS
      go_wp2_with fail
      refine HC.out.mono ?_
      rintro e w6 ⟨rfl, hO6⟩
      have HF : Hid (PutPost ys ds ts w b o L (.returned (.tuple #[])) w6) := by
        refine ⟨rfl, ?_⟩
        rw [HLe.out, List.append_assoc] at hO6; exact hO6
      clear hO6 HC z1 z2
      go_wp2
      go_end0
      rw [← HQ.out]; exact HF.out

end Go.Proofs.Ytdbfbijalhknnab.Bk

namespace Go.Proofs.Ytdbfbijalhknnab
open Go.RowKit
set_option linter.unusedVariables false
set_option linter.unusedSimpArgs false

set_option maxHeartbeats 400000 in
theorem of_any (s : ByteArray) (w : World) :
    Calls Try.prog 21 #[.string s] w fun e w' => e = .returned (.pointer (some ⟨w.heap.size, 0, none⟩)) ∧ w' = w.alloc (.cells #[.string s, .int .i64 0] 75) := by
  go_enter Try.func21, Try.ntmps21
  go_wp2
  go_ret
  exact ⟨rfl, rfl⟩

set_option maxHeartbeats 400000 in
theorem num_any (n : Int) (w : World) :
    Calls Try.prog 8 #[.int .i64 n] w fun e w' => e = .returned (.int .i64 n) ∧ w' = w := by
  go_enter Try.func8, Try.ntmps8
  go_wp2
  go_ret
  exact ⟨rfl, rfl⟩

set_option maxHeartbeats 400000 in
theorem whole_any (n : Int) (w : World) (h0 : 0 ≤ n) (h1 : n ≤ 4503599627370496) :
    Calls Try.prog 33 #[.int .i64 n] w fun e w' => e = .returned (.int .i64 ((n + 7) / 8 * 8)) ∧ w' = w := by
  go_enter Try.func33, Try.ntmps33
  go_wp2
  go_ret
  exact ⟨rfl, rfl⟩

set_option maxHeartbeats 400000 in
theorem at_any (b : Nat) (n : Int) (w : World) (hc : w.cell? ⟨b, 1, none⟩ = some (.int .i64 n)) :
    Calls Try.prog 24 #[.pointer (some ⟨b, 0, none⟩)] w fun e w' => e = .returned (.int .i64 n) ∧ w' = w := by
  go_enter Try.func24, Try.ntmps24
  go_wp2
  go_ret
  exact ⟨rfl, rfl⟩

end Go.Proofs.Ytdbfbijalhknnab

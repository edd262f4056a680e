/-
  The document's own answers on lengths: may they be, their room, Check. The document's put: tokens by codes, and 256; upTo and few. The document's fives and order (also in Rsmall). The document's upTo, few, Stored and FixedBlock. The document's forest: three rows in a struct; a tree more, and the least free one. The document's forest: the least free tree. The document's depths. The document's lengths: what stands in memory while they are reckoned. The document's Dynamic.
-/
import Derived.Test.YtfbghchgfbjogaaGreatRows
import Derived.Test.YtfbghchgfbjogaaGreatA15
import Derived.BigQuiet
import Derived.BigRegion
import Derived.Deep.RegionWith
namespace Go.Proofs.YtfbghchgfbjogaaGreat.Hf
open Go.RowKit
set_option linter.unusedVariables false
set_option linter.unusedSimpArgs false

/-- What one length takes. -/
theorem Row.at {w : World} {a : Option Addr} {ys : List Int} (h : Row w a ys) (hn : 0 < ys.length) : ∃ b off, a = some ⟨b, off, none⟩ ∧ b < w.heap.size ∧ ∀ w', Keeps (fun _ => False) w w' → ∀ i, i < ys.length → w'.cell? ⟨b, off + i, none⟩ = some (.int .i64 (at_ ys i)) := by
  obtain ⟨b, off, rfl, hb, hc⟩ := h.spot hn
  refine ⟨b, off, rfl, hb, fun w' hk i hi => ?_⟩
  rw [World.cell?_of_block (hk.block b hb (fun h => h)), hc i hi, at_eq i hi]

def oneRoom (y : Int) : Nat := cond (decide (0 < y)) (2 ^ (15 - y.toNat)) 0
def seqRoom (ys : List Int) (i : Nat) : Nat := ((ys.take i).map oneRoom).sum
theorem sumTo_congr {f g : Nat → Nat} (m : Nat) (hm : m ≤ 16) (h : ∀ i, i < 16 → f i = g i) : sumTo f m = sumTo g m := by
  induction m with
  | zero => rfl
  | succ m ih => rw [sumTo, sumTo, ih (by omega), h m (by omega)]
theorem sumTo_upd (f : Nat → Nat) (n m : Nat) : sumTo (upd f n (f n + 1)) m = sumTo f m + if n < m then 2 ^ (15 - n) else 0 := by
  induction m with
  | zero => simp [sumTo]
  | succ m ih =>
    rw [sumTo, sumTo, ih]
    unfold upd
    by_cases e : m = n
    · subst e
      rw [if_pos rfl, if_neg (by omega), if_pos (by omega), Nat.add_mul]; omega
    · rw [if_neg e]
      by_cases h : n < m
      · rw [if_pos h, if_pos (by omega)]; omega
      · rw [if_neg h, if_neg (by omega)]; omega
theorem seqRoom_all (ys : List Int) (h : ∀ i (hi : i < ys.length), 0 ≤ ys[i] ∧ ys[i] ≤ 15) : ∀ i, i ≤ ys.length → seqRoom ys i = sumTo (cn (ys.take i)) 16 := by
  intro i
  induction i with
  | zero => intro _; unfold seqRoom; simp [sumTo, cn, cnt]
  | succ i ih =>
    intro hi
    have ih' := ih (by omega)
    obtain ⟨h0, h15⟩ := h i (by omega)
    obtain ⟨c, hc⟩ : ∃ c : Nat, ys[i] = (c : Int) := ⟨ys[i].toNat, by omega⟩
    have e : seqRoom ys (i + 1) = seqRoom ys i + oneRoom (c : Int) := by
      unfold seqRoom; rw [take_snoc ys i (by omega), hc]; simp
    rw [e, ih', take_snoc ys i (by omega), hc]
    by_cases hp : 0 < c
    · rw [← sumTo_congr 16 (by omega) (cn_pos (ys.take i) c hp), sumTo_upd, if_pos (by omega)]
      simp [oneRoom, hp]
    · obtain rfl : c = 0 := by omega
      show _ = sumTo (cn (ys.take i ++ [(0 : Int)])) 16
      rw [← sumTo_congr 16 (by omega) (cn_zero (ys.take i))]
      simp [oneRoom]
theorem oneRoom_le (y : Int) : oneRoom y ≤ 32768 := by
  unfold oneRoom
  cases decide (0 < y)
  · simp
  · rw [cond_true]
    have : 2 ^ (15 - y.toNat) ≤ 2 ^ 15 := Nat.pow_le_pow_right (by omega) (by omega)
    omega
theorem seqRoom_snoc (ys : List Int) (i : Nat) (h : i < ys.length) : seqRoom ys (i + 1) = seqRoom ys i + oneRoom ys[i] := by
  unfold seqRoom
  rw [take_snoc ys i h, List.map_append, List.sum_append]
  simp only [List.map_cons, List.map_nil, List.sum_cons, List.sum_nil, Nat.add_zero]
theorem seqRoom_le (ys : List Int) (i : Nat) : seqRoom ys i ≤ 32768 * i := by
  induction i with
  | zero => simp [seqRoom]
  | succ i ih =>
    by_cases h : i < ys.length
    · have e := seqRoom_snoc ys i h
      have := oneRoom_le ys[i]
      rw [e]; omega
    · have e : seqRoom ys (i + 1) = seqRoom ys i := by unfold seqRoom; rw [List.take_of_length_le (by omega), List.take_of_length_le (by omega)]
      rw [e]; omega
theorem seqRoom_succ (ys : List Int) (i : Nat) (h : i < ys.length) : seqRoom ys (i + 1) = seqRoom ys i + oneRoom (at_ ys i) := by
  rw [at_eq i h]; exact seqRoom_snoc ys i h

theorem pow_room (c : Nat) (hc : c ≤ 15) : ∃ P : Nat, wrap64 ((2 : Int) ^ (15 - c)) = (P : Int) ∧ IntKind.i64.wrap ((2 : Int) ^ (15 - c)) = (P : Int) ∧ P = 2 ^ (15 - c) := by
  have hpb : 2 ^ (15 - c) ≤ 2 ^ 15 := Nat.pow_le_pow_right (by omega) (by omega)
  have hPz : (2 : Int) ^ (15 - c) = ((2 ^ (15 - c) : Nat) : Int) := by push_cast; rfl
  obtain ⟨q, hq⟩ : ∃ q : Nat, q = 2 ^ (15 - c) := ⟨_, rfl⟩
  rw [← hq] at hPz hpb
  have hq15 : q ≤ 32768 := by simpa using hpb
  refine ⟨q, ?_, ?_, hq⟩
  · rw [hPz]; exact wrap64_small _ (by omega) (by omega)
  · rw [hPz]; exact wrap_i64_small _ (by omega) (by omega)

set_option maxHeartbeats 4000000 in
set_option maxRecDepth 1000000 in
theorem rmay_ok (a : Option Addr) (ys : List Int) (cap : Nat) (w : World) (hR : Row w a ys) (hl : ys.length ≤ 9223372036854775807) :
    Calls Tryz.prog 100 #[.slice a ys.length cap] w fun e w' => e = .returned (.bool (may ys)) ∧ w' = w := by
  by_cases hn : 1 ≤ ys.length ∧ ys.length ≤ 288
  · obtain ⟨b, off, rfl, hb, hc⟩ := hR.at (by omega)
    have HC : Hid (∀ i, i < ys.length → w.cell? ⟨b, off + i, none⟩ = some (.int .i64 (at_ ys i))) := hc w (Keeps.refl _ _)
    have HM : Hid (may ys = ys.all fine) := by show _ = _; unfold may; rw [decide_eq_true hn.1, decide_eq_true hn.2]; rfl
    obtain ⟨n, hn'⟩ : ∃ n, ys.length = n := ⟨_, rfl⟩
    have HN : Hid (ys.length = n) := hn'
    rw [hn'] at hn HC ⊢
    clear hR hl hc hn'
    have hn1 : ¬ ((n : Int) < 1) := by omega
    have hn2 : ¬ (288 < (n : Int)) := by omega
    go_enter Tryz.func100, Tryz.ntmps100
    go_wp2
    go_loopw [3] (fun s3 w' => ∃ i : Nat, i ≤ n ∧ s3 = .int .i64 (i : Int) ∧ w' = w ∧ Hid ((ys.take i).all fine = true)) (fun s3 w' => ((n : Int) - intOf s3).toNat)
    case atStart => exact ⟨0, by omega, rfl, rfl, rfl⟩
    case round =>
      obtain ⟨i, hi, rfl, rfl, HF⟩ := hrel
      by_cases hin : i < n
      · have hiz : (i : Int) < (n : Int) := by omega
        have hil : i < ys.length := by rw [HN.out]; exact hin
        have hcell := HC.out i hin
        obtain ⟨y, hy⟩ : ∃ y, at_ ys i = y := ⟨_, rfl⟩
        rw [hy] at hcell
        have HY : Hid (ys[i] = y) := by show _ = _; rw [← at_eq i hil]; exact hy
        clear hy
        by_cases hbad : y < 0 ∨ 15 < y
        · have HMf : Hid (may ys = false) := may_bad i hil (by rw [HY.out]; exact hbad)
          rcases hbad with hbad | hbad
          · go_wp2
            go_ret
            exact ⟨by rw [HMf.out]; rfl, rfl⟩
          · have hge : ¬ y < 0 := by omega
            go_wp2
            go_ret
            exact ⟨by rw [HMf.out]; rfl, rfl⟩
        · have hy0 : ¬ y < 0 := by omega
          have hy15 : ¬ 15 < y := by omega
          have HF' : Hid ((ys.take (i + 1)).all fine = true) := by
            show _ = _
            rw [take_snoc ys i hil, List.all_append, HF.out, HY.out]
            simp [fine]; omega
          go_wp2
          go_roundw
          case rel => exact ⟨i + 1, by omega, by push_cast; rfl, trivial, HF'⟩
          case measure => simp [intOf]; omega
      · obtain rfl : i = n := by omega
        have HT : Hid (may ys = true) := by
          show _ = _
          have := HF.out
          rw [List.take_of_length_le (by rw [HN.out]; omega)] at this
          rw [HM.out]; exact this
        go_wp2
        go_ret
        exact ⟨by rw [HT.out]; rfl, rfl⟩
  · have HMf : Hid (may ys = false) := by
      show _ = _
      cases hm : may ys
      · rfl
      · exact absurd (may_len hm) hn
    obtain ⟨n, hn'⟩ : ∃ n, ys.length = n := ⟨_, rfl⟩
    rw [hn'] at hn hl ⊢
    clear hn'
    have hcs : (n : Int) < 1 ∨ (¬ (n : Int) < 1 ∧ 288 < (n : Int)) := by omega
    rcases hcs with hcs | ⟨hcs1, hcs2⟩
    all_goals
      go_enter Tryz.func100, Tryz.ntmps100
      go_wp2
      go_ret
      exact ⟨by rw [HMf.out]; rfl, rfl⟩

set_option maxHeartbeats 4000000 in
set_option maxRecDepth 1000000 in
theorem rroom_ok (a : Option Addr) (ys : List Int) (cap : Nat) (w : World) (hR : Row w a ys) (hm : may ys = true) :
    Calls Tryz.prog 101 #[.slice a ys.length cap] w fun e w' => e = .returned (.int .i64 (room ys : Nat)) ∧ w' = w := by
  have hn := may_len hm
  obtain ⟨b, off, rfl, hb, hc⟩ := hR.at (by omega)
  have HC : Hid (∀ i, i < ys.length → w.cell? ⟨b, off + i, none⟩ = some (.int .i64 (at_ ys i)) ∧ 0 ≤ at_ ys i ∧ at_ ys i ≤ 15) := fun i hi => ⟨hc w (Keeps.refl _ _) i hi, by rw [at_eq i hi]; exact may_at hm i hi⟩
  have HR : Hid (seqRoom ys ys.length = room ys) := by
    show _ = _
    rw [seqRoom_all ys (fun i hi => may_at hm i hi) ys.length (Nat.le_refl _), List.take_length]; rfl
  obtain ⟨n, hn'⟩ : ∃ n, ys.length = n := ⟨_, rfl⟩
  have HN : Hid (ys.length = n) := hn'
  rw [hn'] at hn HC HR ⊢
  clear hR hc hn' hm
  go_enter Tryz.func101, Tryz.ntmps101
  go_wp2
  go_loopw [3, 4] (fun s3 s4 w' => ∃ i : Nat, i ≤ n ∧ s3 = .int .i64 (seqRoom ys i : Nat) ∧ s4 = .int .i64 (i : Int) ∧ w' = w) (fun s3 s4 w' => ((n : Int) - intOf s4).toNat)
  case atStart => exact ⟨0, by omega, rfl, rfl, rfl⟩
  case round =>
    obtain ⟨i, hi, rfl, rfl, rfl⟩ := hrel
    by_cases hin : i < n
    · have hiz : (i : Int) < (n : Int) := by omega
      obtain ⟨hcell, hy0, hy15⟩ := HC.out i hin
      have HS : Hid (seqRoom ys (i + 1) = seqRoom ys i + oneRoom (at_ ys i)) := seqRoom_succ ys i (by rw [HN.out]; exact hin)
      have hb := seqRoom_le ys (i + 1)
      obtain ⟨c, hcc⟩ : ∃ c : Nat, at_ ys i = (c : Int) := ⟨(at_ ys i).toNat, by omega⟩
      rw [hcc] at hcell hy0 hy15 HS
      clear hcc
      by_cases hp : 0 < c
      · have hpz : 0 < (c : Int) := by omega
        have hw15 : IntKind.i64.wrap (15 - (c : Int)) = ((15 - c : Nat) : Int) := by rw [wrap_i64_small _ (by omega) (by omega)]; omega
        have hnn : ¬ (((15 - c : Nat) : Int) < 0) := by omega
        obtain ⟨P, hP1, hP2, hPe⟩ := pow_room c (by omega)
        have hone : oneRoom (c : Int) = P := by rw [hPe]; unfold oneRoom; rw [decide_eq_true (by omega)]; rfl
        have hsum : IntKind.i64.wrap ((seqRoom ys i : Int) + (P : Int)) = ((seqRoom ys (i + 1) : Nat) : Int) := by
          rw [HS.out, hone, wrap_i64_small _ (by omega) (by have := HS.out; omega)]; push_cast; rfl
        have hsum' : wrap64 ((seqRoom ys i : Int) + (P : Int)) = ((seqRoom ys (i + 1) : Nat) : Int) := by rw [← IntWalk.i64_left]; exact hsum
        clear hone hPe hb
        go_wp2
        go_roundw
        case rel => exact ⟨i + 1, by omega, by first | rfl | rw [hsum'], by push_cast; rfl, trivial⟩
        case measure => simp [intOf]; omega
      · obtain rfl : c = 0 := by omega
        have he : seqRoom ys (i + 1) = seqRoom ys i := by rw [HS.out]; rfl
        clear HS
        go_wp2
        go_roundw
        case rel => exact ⟨i + 1, by omega, by rw [he], by push_cast; rfl, trivial⟩
        case measure => simp [intOf]; omega
    · obtain rfl : i = n := by omega
      go_wp2
      go_ret
      exact ⟨by rw [← HR.out]; rfl, rfl⟩

set_option maxHeartbeats 4000000 in
set_option maxRecDepth 1000000 in
theorem rcheck_ok (a : Option Addr) (ys : List Int) (cap : Nat) (w : World) (hR : Row w a ys) (hl : ys.length ≤ 9223372036854775807) :
    Calls Tryz.prog 87 #[.slice a ys.length cap] w fun e w' => e = .returned (.int .i64 (errC ys)) ∧ w' = w := by
  have HM : Hid (Calls Tryz.prog 100 #[.slice a ys.length cap] w fun e w' => e = .returned (.bool (may ys)) ∧ w' = w) := rmay_ok a ys cap w hR hl
  cases ht : may ys
  · rw [ht] at HM
    have HE : Hid (errC ys = 300) := by show _ = _; simp [errC, ht]
    generalize ys.length = L at *
    clear ht
    go_enter Tryz.func87, Tryz.ntmps87
    go_wp2_with (first
      | (go_at_call 100; refine HM.out.mono ?_; rintro e w' ⟨rfl, hw⟩; obtain rfl := hw.symm; clear hw))
    go_ret
    exact ⟨by rw [HE.out]; rfl, rfl⟩
  · rw [ht] at HM
    have HR : Hid (Calls Tryz.prog 101 #[.slice a ys.length cap] w fun e w' => e = .returned (.int .i64 (room ys : Nat)) ∧ w' = w) := rroom_ok a ys cap w hR ht
    have HE : Hid (errC ys = cond (decide (32768 < room ys)) 301 (cond (decide (room ys < 32768)) 302 0)) := by show _ = _; simp [errC, ht]
    clear ht hR
    generalize room ys = r at *
    generalize ys.length = L at *
    have hcs : (32768 < (r : Int)) ∨ (¬ (32768 < (r : Int)) ∧ (r : Int) < 32768) ∨ (¬ (32768 < (r : Int)) ∧ ¬ (r : Int) < 32768) := by omega
    rcases hcs with h1 | ⟨h1, h2⟩ | ⟨h1, h2⟩
    · go_enter Tryz.func87, Tryz.ntmps87
      go_wp2_with (first
        | (go_at_call 100; refine HM.out.mono ?_; rintro e w' ⟨rfl, hw⟩; obtain rfl := hw.symm; clear hw)
        | (go_at_call 101; refine HR.out.mono ?_; rintro e w' ⟨rfl, hw⟩; obtain rfl := hw.symm; clear hw))
      go_ret
      exact ⟨by rw [HE.out, decide_eq_true (show 32768 < r by omega)]; rfl, rfl⟩
    · go_enter Tryz.func87, Tryz.ntmps87
      go_wp2_with (first
        | (go_at_call 100; refine HM.out.mono ?_; rintro e w' ⟨rfl, hw⟩; obtain rfl := hw.symm; clear hw)
        | (go_at_call 101; refine HR.out.mono ?_; rintro e w' ⟨rfl, hw⟩; obtain rfl := hw.symm; clear hw))
      go_ret
      exact ⟨by rw [HE.out, decide_eq_false (show ¬ 32768 < r by omega), decide_eq_true (show r < 32768 by omega)]; rfl, rfl⟩
    · go_enter Tryz.func87, Tryz.ntmps87
      go_wp2_with (first
        | (go_at_call 100; refine HM.out.mono ?_; rintro e w' ⟨rfl, hw⟩; obtain rfl := hw.symm; clear hw)
        | (go_at_call 101; refine HR.out.mono ?_; rintro e w' ⟨rfl, hw⟩; obtain rfl := hw.symm; clear hw))
      go_ret
      exact ⟨by rw [HE.out, decide_eq_false (show ¬ 32768 < r by omega), decide_eq_false (show ¬ r < 32768 by omega)]; rfl, rfl⟩

end Go.Proofs.YtfbghchgfbjogaaGreat.Hf

namespace Go.Proofs.YtfbghchgfbjogaaGreat.Bk
open Go.RowKit
open Hf Tb
open Mt (Tk RowT TkAt tk tk_eq mayF okT sumZ expF)
set_option linter.unusedVariables false
set_option linter.unusedSimpArgs false

/-- The document's writer, that has been written on since a world. -/
structure WS (w0 w : World) (b : Nat) (o0 o : Option Nat) (L : Bts) : Prop where
  wr : Wr 99 w b o L
  own : o = o0 ∨ ∃ g, o = some g ∧ w0.heap.size ≤ g
  keep : Keeps (fun k => k = b ∨ o0 = some k) w0 w
theorem WS.step {w0 w w' : World} {b : Nat} {o0 o : Option Nat} {L L' : Bts} (h : WS w0 w b o0 o L) (hO : Onto 99 w w' b o L') : ∃ o', WS w0 w' b o0 o' L' := by
  obtain ⟨o', h1, h2, h3⟩ := hO
  have hs := own_step h.own h.keep h2 h3
  exact ⟨o', h1, hs.1, hs.2⟩
theorem WS.keptF {w0 w w' : World} {b : Nat} {o0 o : Option Nat} {L : Bts} (h : WS w0 w b o0 o L) (hk : Keeps (fun _ => False) w w') : WS w0 w' b o0 o L :=
  ⟨h.wr.kept hk (fun h => h) (fun _ _ h => h), h.own, h.keep.trans hk (fun _ _ h => h.elim)⟩
/-- What is made behind a world is none of the writer's. -/
theorem WS.new {w0 w : World} {b q : Nat} {o0 o : Option Nat} {L : Bts} (h : WS w0 w b o0 o L) (hq : w.heap.size ≤ q) : q ≠ b ∧ o ≠ some q ∧ w0.heap.size ≤ q := by
  have hb := h.wr.lt
  have ho := h.wr.own
  have hz := h.keep.size
  exact ⟨by omega, fun e => by have := ho _ e; omega, by omega⟩
/-- A block that is none of the writer's, and was there. -/
def Off (w0 : World) (b : Nat) (o0 : Option Nat) (g : Nat) : Prop := g < w0.heap.size ∧ g ≠ b ∧ o0 ≠ some g
theorem Off.not {w0 : World} {b : Nat} {o0 : Option Nat} {g : Nat} (h : Off w0 b o0 g) : ¬ (g = b ∨ o0 = some g) := by rintro (e | e); exact h.2.1 e; exact h.2.2 e
theorem WS.put {w0 w : World} {b : Nat} {o0 o : Option Nat} {L : Bts} (h : WS w0 w b o0 o L) (v k : Nat) (hk : k ≤ 16) (hv : v < 2 ^ k) (hL : L.length + k ≤ 65536) :
    Calls Tryz.prog 60 #[.pointer (some ⟨b, 0, none⟩), .int .i64 (v : Int), .int .i64 (k : Int)] w fun e w' => e = .returned (.int .i64 0) ∧ ∃ o', WS w0 w' b o0 o' (L ++ bitsOf v k) := by
  refine (Bt.rput_ok b o L v k w (by omega) hv hL h.wr).mono ?_
  rintro e w' ⟨rfl, ho⟩
  exact ⟨rfl, h.step ho⟩
end Go.Proofs.YtfbghchgfbjogaaGreat.Bk

namespace Go.Proofs.YtfbghchgfbjogaaGreat.Bk
open Go.RowKit
open Hf Tb
set_option linter.unusedVariables false
set_option linter.unusedSimpArgs false

def fiveN (i : Nat) : List Int := List.replicate i 5 ++ List.replicate (30 - i) 0
theorem fiveN_set : ∀ i : Fin 30, (fiveN i.val).set i.val 5 = fiveN (i.val + 1) := by decide +kernel
theorem fiveN_length (i : Nat) (h : i ≤ 30) : (fiveN i).length = 30 := by unfold fiveN; simp; omega

set_option maxHeartbeats 1000000 in
set_option maxRecDepth 100000 in
theorem rfives_ok (w : World) : Calls Tryz.prog 54 #[] w fun e w' => ∃ g, e = .returned (.slice (some ⟨g, 0, none⟩) 30 30) ∧ Blk w' g fiveLs ∧ Keeps (fun _ => False) w w' := by
  go_enter Tryz.func54, Tryz.ntmps54
  go_wp2_with (refine wpList_zeros rfl _ _ rfl 30 rfl rfl (by omega) ?_; intro g w3 hB3 hK3 hg3)
  have H3 : Hid (Blk w3 g (fiveN 0) ∧ Keeps (fun _ => False) w w3 ∧ w.heap.size ≤ g) := ⟨hB3, hK3, hg3⟩
  clear hB3 hK3 hg3
  go_loopw [2] (fun s2 w' => ∃ i : Nat, i ≤ 30 ∧ s2 = .int .i64 (i : Int) ∧ Hid (Blk w' g (fiveN i) ∧ Keeps (fun _ => False) w w' ∧ w.heap.size ≤ g)) (fun s2 _ => (30 - intOf s2).toNat)
  case atStart => exact ⟨0, by omega, rfl, H3⟩
  case round =>
    clear H3
    obtain ⟨i, hi, rfl, HW⟩ := hrel
    by_cases hin : i < 30
    · have hiz : (i : Int) < 30 := by omega
      have hc := HW.out.1.cell i (by rw [fiveN_length i hi]; exact hin)
      have hf := HW.out.1.free i
      generalize (fiveN i)[i]'_ = t at hc
      go_wp2
      go_roundw
      case rel =>
        refine ⟨i + 1, by omega, by push_cast; rfl, ?_, HW.out.2.1.setCell (p := ⟨g, i, none⟩) (fun hx => by have := HW.out.2.2; simp only at hx; omega) _, HW.out.2.2⟩
        have := Blk.set HW.out.1 i 5
        rw [fiveN_set ⟨i, hin⟩] at this; exact this
      case measure => simp [intOf]; omega
    · obtain rfl : i = 30 := by omega
      go_wp2
      go_ret
      exact ⟨g, rfl, HW.out.1, HW.out.2.1⟩

def rowI : List Int := rowL.map (fun (n : Nat) => (n : Int))
set_option maxHeartbeats 1000000 in
set_option maxRecDepth 100000 in
theorem rorder_ok (w : World) : Calls Tryz.prog 70 #[] w fun e w' => ∃ g, e = .returned (.slice (some ⟨g, 0, none⟩) 19 19) ∧ Blk w' g rowI ∧ Keeps (fun _ => False) w w' ∧ w.heap.size ≤ g := by
  go_enter Tryz.func70, Tryz.ntmps70
  go_wp2
  go_ret
  exact ⟨w.heap.size, rfl, Blk.lit w rowI, (Keeps.refl _ w).alloc _, Nat.le_refl _⟩


end Go.Proofs.YtfbghchgfbjogaaGreat.Bk

namespace Go.Proofs.YtfbghchgfbjogaaGreat.Bk
open Go.RowKit
open Hf Tb
open Mt (Tk RowT mayF okT sumZ expF)
set_option linter.unusedVariables false
set_option linter.unusedSimpArgs false

theorem bytesOf_lt8 (s : ByteArray) : ∀ c ∈ bytesOf s, c < 256 := by
  intro c hc
  simp only [bytesOf, List.mem_map] at hc
  obtain ⟨u, _, rfl⟩ := hc
  exact UInt8.toNat_lt _
theorem textOf_bytes8 (s : ByteArray) : textOf (bytesOf s) = s := by
  unfold textOf bytesOf
  rw [List.map_map]
  have : (UInt8.ofNat ∘ UInt8.toNat) = id := by funext u; simp
  rw [this, List.map_id]
theorem bits13 : Bt.alignOf (bitsOf 1 3) = bitsOf 1 8 := by decide
theorem bytes_ext {a b : List Nat} (ha : ∀ y ∈ a, y < 256) (hb : ∀ y ∈ b, y < 256) (h : bitsL a = bitsL b) (hl : a.length = b.length) : a = b := by
  have key : ∀ (a b : List Nat), (∀ y ∈ a, y < 256) → (∀ y ∈ b, y < 256) → a.length = b.length → bitsL a = bitsL b → a = b := by
    intro a
    induction a with
    | nil => intro b _ _ hl _; exact (List.length_eq_zero_iff.1 hl.symm).symm
    | cons x r ih =>
      intro b ha hb hl h
      cases b with
      | nil => simp at hl
      | cons y t =>
        rw [bitsL_cons, bitsL_cons] at h
        obtain ⟨h1, h2⟩ := List.append_inj h (by rw [bitsOf_length, bitsOf_length])
        have e1 : x = y := by
          have := congrArg val h1
          rw [val_bitsOf x 8 (ha x (by simp)), val_bitsOf y 8 (hb y (by simp))] at this; exact this
        rw [e1, ih t (fun z hz => ha z (by simp [hz])) (fun z hz => hb z (by simp [hz])) (by simpa using hl) h2]
  exact key a b ha hb hl h
theorem pack_head (A : Bts) (n : Nat) (s : List Nat) (hA : A.length = 8 * n) (hs : ∀ y ∈ s, y < 256) : pack (A ++ bitsL s) = pack A ++ s := by
  refine bytes_ext (pack_lt _) (fun y hy => ?_) ?_ ?_
  · rw [List.mem_append] at hy
    rcases hy with hy | hy
    · exact pack_lt A y hy
    · exact hs y hy
  · rw [bitsL_append, bitsL_pack8 A n hA, bitsL_pack8 (A ++ bitsL s) (n + s.length) (by rw [List.length_append, hA, bitsL_len]; omega)]
  · rw [pack_length, List.length_append, List.length_append, pack_length, bitsL_len, hA]; omega
theorem text_append (a : List Nat) (s : ByteArray) : textOf (a ++ bytesOf s) = textOf a ++ s := by
  have e := textOf_bytes8 s
  apply ByteArray.ext
  rw [ByteArray.data_append]
  conv => rhs; rw [← e]
  simp [textOf]

theorem WS.begin (w w1 : World) (h : w1.heap[w.heap.size]? = some (.cells #[.slice none 0 0, .int .i64 0] 99 (0, 0))) (hk : Keeps (fun _ => False) w w1) : WS w1 w1 w.heap.size none none [] :=
  ⟨⟨none, 0, h, World.ownsRow_nil _ _ 5 1, rfl⟩, .inl rfl, Keeps.refl _ _⟩

set_option maxHeartbeats 2000000 in
set_option maxRecDepth 100000 in
theorem rstored_ok (s : ByteArray) (w : World) (hs : s.size ≤ 300) :
    Calls Tryz.prog 43 #[.string s] w (StrPost (textOf (pack (storeB (bytesOf s)))) 0 w) := by
  have hz : ¬ 300 < (s.size : Int) := by omega
  have hsz : (s.size : Int) ≤ 300 := by omega
  obtain ⟨T, hT⟩ : ∃ T, textOf (pack (storeB (bytesOf s))) = T := ⟨_, rfl⟩
  rw [hT]
  have HT : Hid (textOf (pack (storeB (bytesOf s))) = T) := hT
  clear hT
  go_enter Tryz.func43, Tryz.ntmps43
  go_wp2_with fail
  generalize hw1 : World.alloc _ _ = w1
  obtain ⟨b, hb⟩ : ∃ b, w.heap.size = b := ⟨_, rfl⟩
  have H1 : Hid (WS w1 w1 b none none [] ∧ Keeps (fun _ => False) w w1) := by
    have hk : Keeps (fun _ => False) w w1 := by rw [← hw1]; exact (Keeps.refl _ w).alloc _
    refine ⟨?_, hk⟩
    rw [← hb]
    exact WS.begin w w1 (by rw [← hw1]; exact heap_alloc_new _ _) hk
  rw [hb]
  have HB : Hid (w.heap.size ≤ b) := by show _ ≤ _; omega
  clear hw1 hb
  have HP1 : Hid (Calls Tryz.prog 60 #[.pointer (some ⟨b, 0, none⟩), .int .i64 1, .int .i64 3] w1 fun e w' => e = .returned (.int .i64 0) ∧ ∃ o', WS w1 w' b none o' (bitsOf 1 3)) := by
    have := H1.out.1.put 1 3 (by omega) (by decide) (by simp)
    rw [List.nil_append] at this; exact this
  refine HP1.out.mono ?_
  rintro e w2 ⟨rfl, o2, hS2⟩
  have HA2 : Hid (Calls Tryz.prog 61 #[.pointer (some ⟨b, 0, none⟩)] w2 fun e w' => e = .returned (.tuple #[]) ∧ ∃ o', WS w1 w' b none o' (bitsOf 1 8)) := by
    refine (Bt.rwalign_ok b o2 (bitsOf 1 3) w2 (by simp [bitsOf_length]) hS2.wr).mono ?_
    rintro e w' ⟨rfl, hO⟩
    rw [bits13] at hO
    exact ⟨rfl, hS2.step hO⟩
  clear HP1 hS2
  go_wp2_with fail
  refine HA2.out.mono ?_
  rintro e w3 ⟨rfl, o3, hS3⟩
  have HP3 : Hid (Calls Tryz.prog 60 #[.pointer (some ⟨b, 0, none⟩), .int .i64 (s.size : Int), .int .i64 16] w3 fun e w' => e = .returned (.int .i64 0) ∧ ∃ o', WS w1 w' b none o' (bitsOf 1 8 ++ bitsOf s.size 16)) := hS3.put s.size 16 (by omega) (by omega) (by simp [bitsOf_length])
  clear HA2 hS3
  go_wp2_with fail
  refine HP3.out.mono ?_
  rintro e w4 ⟨rfl, o4, hS4⟩
  have HP4 : Hid (Calls Tryz.prog 60 #[.pointer (some ⟨b, 0, none⟩), .int .i64 (65535 - (s.size : Int)), .int .i64 16] w4 fun e w' => e = .returned (.int .i64 0) ∧ ∃ o', WS w1 w' b none o' (bitsOf 1 8 ++ bitsOf s.size 16 ++ bitsOf (65535 - s.size) 16)) := by
    have e : ((65535 - s.size : Nat) : Int) = 65535 - (s.size : Int) := by omega
    have h2 := hS4.put (65535 - s.size) 16 (by omega) (by omega) (by simp [bitsOf_length])
    rw [e] at h2; exact h2
  clear HP3 hS4
  go_wp2_with fail
  refine HP4.out.mono ?_
  rintro e w5 ⟨rfl, o5, hS5⟩
  obtain ⟨A, hA⟩ : ∃ A, textOf (pack (bitsOf 1 8 ++ bitsOf s.size 16 ++ bitsOf (65535 - s.size) 16)) = A := ⟨_, rfl⟩
  have HTx : Hid (Calls Tryz.prog 62 #[.pointer (some ⟨b, 0, none⟩)] w5 fun e w' => e = .returned (.string A) ∧ w' = w5) := by
    have := Bt.rtext_ok b o5 _ w5 hS5.wr
    rw [hA] at this; exact this
  have HAs : Hid (A ++ s = T) := by
    show _ = _
    rw [← HT.out, ← hA, ← text_append, ← pack_head _ 5 (bytesOf s) (by simp [bitsOf_length]) (fun y hy => bytesOf_lt8 s y hy)]
    unfold storeB; rw [bytesOf_length]; simp only [List.append_assoc]
  have hAz : A.size ≤ 1000 := by rw [← hA, textOf_size, pack_length]; simp [bitsOf_length]
  have H5 : Hid (Keeps (fun _ => False) w w5) := H1.out.2.trans hS5.keep (fun k hk e => by
    have := HB.out
    rcases e with e | e
    · omega
    · cases e)
  clear HP4 hS5 hA HT
  go_wp2_with fail
  refine HTx.out.mono ?_
  rintro e w6 ⟨rfl, hw⟩
  obtain rfl := hw.symm
  clear hw HTx
  go_wp2
  go_ret2
  rw [HAs.out]
  exact ⟨rfl, H5.out⟩

end Go.Proofs.YtfbghchgfbjogaaGreat.Bk

namespace Go.Proofs.YtfbghchgfbjogaaGreat.Lm
open Go.RowKit
set_option linter.unusedVariables false
set_option linter.unusedSimpArgs false

def boolsV (bs : List Bool) : List Value := bs.map (fun b => Value.bool b)
/-- A slice of bools that a call owns, nil too. -/
def OwnB (w : World) (base : Nat) (v : Value) (bs : List Bool) : Prop := w.ownsRow base 4 1 v bs.length (boolsV bs)
set_option maxRecDepth 100000 in
theorem append_bool (w : World) (base : Nat) (v : Value) (bs : List Bool) (h : OwnB w base v bs) (x : Bool) (b : Nat) (hx : w.heap[b]? = some (.cells #[.bool x] 4 (0, 0))) (hb : base ≤ w.heap.size) (hn : bs.length ≤ 1000000) :
    ∃ g cap w', (Builtin.append_ #[151, 151] 151 #[v, .slice (some ⟨b, 0, none⟩) 1 1]).run Tryz.prog w = .ok (.slice (some ⟨g, 0, none⟩) (bs.length + 1) cap) w' ∧ OwnB w' base (.slice (some ⟨g, 0, none⟩) (bs.length + 1) cap) (bs ++ [x]) ∧ w.grownBy w' v.ownBlock ∧ (v.ownBlock = some g ∨ g = w.heap.size) := by
  obtain ⟨i, hi, h1, h2, h3⟩ : ∃ i, Tryz.prog.info? 4 = some i ∧ i.zero = some (.bool false) ∧ i.bytes = 1 ∧ i.size = 1 := ⟨Tryz.t4, Tryz.type4, rfl, rfl, rfl⟩
  obtain ⟨g, cap, w', hr, ho, hg, hat, hlt⟩ := run_append_lies (P := Tryz.prog) w 151 151 base 4 i (.bool false) 1 1 Tryz.underlying151 hi h1 h3 h2 rfl (by decide) v bs.length (boolsV bs) h ⟨b, 0, none⟩ 1 1 [.bool x] rfl (fun j u hu => by
      have hj : j = 0 := by have := (List.getElem?_eq_some_iff.1 hu).1; simp at this; omega
      subst hj
      simp at hu
      subst hu
      exact cell_of_heap hx rfl) (fun u hu => by simp at hu; subst hu; rfl) (by decide) (by unfold maxLen; omega) (by omega) hb _ rfl
  refine ⟨g, cap, w', hr, ?_, hg, hat⟩
  unfold OwnB
  rw [show boolsV (bs ++ [x]) = boolsV bs ++ [.bool x] by simp [boolsV], List.length_append]
  exact ho
theorem wpList_bool {ops : Array Oper} {rest : List Oper} {o : Oper} {a : Act} {w : World} {Q : Exit → Act → World → Prop} (hgd : o.guard = none) (s x : Operand) (ho : o.op = .call { callee := .builtin .append, args := #[s, x], argTypes := #[151, 151] }) (hty : o.type = 151)
    (base : Nat) (v : Value) (bs : List Bool) (hs : a.eval s = v) (hown : OwnB w base v bs) (b : Nat) (y : Bool) (hx : a.eval x = .slice (some ⟨b, 0, none⟩) 1 1) (hR : w.heap[b]? = some (.cells #[.bool y] 4 (0, 0))) (hb : base ≤ w.heap.size) (hn : bs.length ≤ 1000000)
    (h : ∀ g cap w', OwnB w' base (.slice (some ⟨g, 0, none⟩) (bs.length + 1) cap) (bs ++ [y]) → w.grownBy w' v.ownBlock → (v.ownBlock = some g ∨ g = w.heap.size) → wpList Tryz.prog ops Q rest (a.put o.dst (.slice (some ⟨g, 0, none⟩) (bs.length + 1) cap)) w') : wpList Tryz.prog ops Q (o :: rest) a w :=
  wpList_plain hgd fun _ hK => by
    obtain ⟨g, cap, w', hr, h2, h3, h4⟩ := append_bool w base v bs hown y b hR hb hn
    unfold Oper.wp execOp
    simp only [ho, hty, resolve, invoke, builtin, Sem.run_bind, Sem.run_pure, Result.andThen_ok, List.map_toArray, List.map_cons, List.map_nil, hs, hx, hr]
    exact hK _ _ (h g cap w' h2 h3 h4)

/-- Three rows of a call's own, apart from each other. -/
structure Own3 (w : World) (base : Nat) (vw vu vf : Value) (W U : List Int) (F : List Bool) : Prop where
  ow : OwnV w base vw W
  ou : OwnV w base vu U
  of' : OwnB w base vf F
  wu : ∀ k, vw.ownBlock = some k → vu.ownBlock ≠ some k
  wf : ∀ k, vw.ownBlock = some k → vf.ownBlock ≠ some k
  uf : ∀ k, vu.ownBlock = some k → vf.ownBlock ≠ some k
theorem Own3.kept {S : Nat → Prop} {w w' : World} {base : Nat} {vw vu vf : Value} {W U : List Int} {F : List Bool} (h : Own3 w base vw vu vf W U F) (hk : Keeps S w w') (hs : ∀ b, base ≤ b → ¬ S b) : Own3 w' base vw vu vf W U F :=
  ⟨h.ow.kept hk (fun k e => hs k (World.ownsRow.lt h.ow k e).1), h.ou.kept hk (fun k e => hs k (World.ownsRow.lt h.ou k e).1), owns_heap h.of' (fun k e => hk.block k (World.ownsRow.lt h.of' k e).2 (hs k (World.ownsRow.lt h.of' k e).1)), h.wu, h.wf, h.uf⟩
theorem ownBlock_slice (g n c : Nat) : (Value.slice (some ⟨g, 0, none⟩) n c).ownBlock = some g := rfl
theorem Own3.w {w w' : World} {base g n c : Nat} {vw vu vf : Value} {W U W' : List Int} {F : List Bool} (h : Own3 w base vw vu vf W U F) (ho : OwnV w' base (.slice (some ⟨g, 0, none⟩) n c) W') (hg : w.grownBy w' vw.ownBlock) (ha : vw.ownBlock = some g ∨ g = w.heap.size) : Own3 w' base (.slice (some ⟨g, 0, none⟩) n c) vu vf W' U F := by
  refine ⟨ho, owns_heap h.ou (fun k e => hg.block k (World.ownsRow.lt h.ou k e).2 (fun e' => h.wu k e'.symm e)), owns_heap h.of' (fun k e => hg.block k (World.ownsRow.lt h.of' k e).2 (fun e' => h.wf k e'.symm e)), fun k e e' => ?_, fun k e e' => ?_, h.uf⟩
  · rw [ownBlock_slice] at e
    obtain rfl := Option.some.inj e
    rcases ha with ha | ha
    · exact h.wu g ha e'
    · have := (World.ownsRow.lt h.ou g e').2; omega
  · rw [ownBlock_slice] at e
    obtain rfl := Option.some.inj e
    rcases ha with ha | ha
    · exact h.wf g ha e'
    · have := (World.ownsRow.lt h.of' g e').2; omega
theorem Own3.u {w w' : World} {base g n c : Nat} {vw vu vf : Value} {W U U' : List Int} {F : List Bool} (h : Own3 w base vw vu vf W U F) (ho : OwnV w' base (.slice (some ⟨g, 0, none⟩) n c) U') (hg : w.grownBy w' vu.ownBlock) (ha : vu.ownBlock = some g ∨ g = w.heap.size) : Own3 w' base vw (.slice (some ⟨g, 0, none⟩) n c) vf W U' F := by
  refine ⟨owns_heap h.ow (fun k e => hg.block k (World.ownsRow.lt h.ow k e).2 (fun e' => h.wu k e e'.symm)), ho, owns_heap h.of' (fun k e => hg.block k (World.ownsRow.lt h.of' k e).2 (fun e' => h.uf k e'.symm e)), fun k e e' => ?_, h.wf, fun k e e' => ?_⟩
  · rw [ownBlock_slice] at e'
    obtain rfl := Option.some.inj e'
    rcases ha with ha | ha
    · exact h.wu g e ha
    · have := (World.ownsRow.lt h.ow g e).2; omega
  · rw [ownBlock_slice] at e
    obtain rfl := Option.some.inj e
    rcases ha with ha | ha
    · exact h.uf g ha e'
    · have := (World.ownsRow.lt h.of' g e').2; omega
theorem Own3.f {w w' : World} {base g n c : Nat} {vw vu vf : Value} {W U : List Int} {F F' : List Bool} (h : Own3 w base vw vu vf W U F) (ho : OwnB w' base (.slice (some ⟨g, 0, none⟩) n c) F') (hg : w.grownBy w' vf.ownBlock) (ha : vf.ownBlock = some g ∨ g = w.heap.size) : Own3 w' base vw vu (.slice (some ⟨g, 0, none⟩) n c) W U F' := by
  refine ⟨owns_heap h.ow (fun k e => hg.block k (World.ownsRow.lt h.ow k e).2 (fun e' => h.wf k e e'.symm)), owns_heap h.ou (fun k e => hg.block k (World.ownsRow.lt h.ou k e).2 (fun e' => h.uf k e e'.symm)), ho, h.wu, fun k e e' => ?_, fun k e e' => ?_⟩
  · rw [ownBlock_slice] at e'
    obtain rfl := Option.some.inj e'
    rcases ha with ha | ha
    · exact h.wf g e ha
    · have := (World.ownsRow.lt h.ow g e).2; omega
  · rw [ownBlock_slice] at e'
    obtain rfl := Option.some.inj e'
    rcases ha with ha | ha
    · exact h.uf g e ha
    · have := (World.ownsRow.lt h.ou g e).2; omega
/-- The document's forest in block p: weights, what each is joined into, which are free. -/
structure Rf (w : World) (p : Nat) (vw vu vf : Value) (W : List Nat) (U : List Int) (F : List Bool) : Prop where
  blk : w.heap[p]? = some (.cells #[vw, vu, vf] 153 (0, 0))
  own : Own3 w (p + 1) vw vu vf (ints W) U F
  lenU : U.length = W.length
  lenF : F.length = W.length
theorem Rf.kept {S : Nat → Prop} {w w' : World} {p : Nat} {vw vu vf : Value} {W : List Nat} {U : List Int} {F : List Bool} (h : Rf w p vw vu vf W U F) (hk : Keeps S w w') (hs : ∀ b, p ≤ b → ¬ S b) : Rf w' p vw vu vf W U F :=
  ⟨(hk.block p (lt_of_heap h.blk) (hs p (Nat.le_refl _))).trans h.blk, h.own.kept hk (fun b hb => hs b (by omega)), h.lenU, h.lenF⟩
/-- The struct's block behind an append to one of its rows. -/
theorem blk_grown {w w' : World} {p : Nat} {cs : Array Value} {o : Obj} {r : Option Nat} (h : w.heap[p]? = some (.cells cs 153 (0, 0))) (hg : (w.alloc o).grownBy w' r) (hr : r ≠ some p) : w'.heap[p]? = some (.cells cs 153 (0, 0)) := by
  have hl := lt_of_heap h
  rw [hg.block p (by simp; omega) (fun e => hr e.symm), Below.heap_alloc _ _ _ hl]; exact h
theorem own_ne {w : World} {p : Nat} {e : TypeId} {s : Nat} {v : Value} {n : Nat} {xs : List Value} (h : w.ownsRow (p + 1) e s v n xs) : v.ownBlock ≠ some p := fun e' => by
  have := (World.ownsRow.lt h p e').1; omega

set_option maxHeartbeats 4000000 in
set_option maxRecDepth 1000000 in
theorem add_ok (p : Nat) (vw vu vf : Value) (W : List Nat) (U : List Int) (F : List Bool) (x : Nat) (w : World) (h : Rf w p vw vu vf W U F) (hn : W.length ≤ 1000) :
    Calls Tryz.prog 103 #[.pointer (some ⟨p, 0, none⟩), .int .i64 (x : Int)] w fun e w' => e = .returned (.tuple #[]) ∧ ∃ vw' vu' vf', Rf w' p vw' vu' vf' (W ++ [x]) (U ++ [-1]) (F ++ [true]) ∧ Keeps (fun b => p ≤ b) w w' := by
  have c0 : w.cell? ⟨p, 0, none⟩ = some vw := cell_of_heap h.blk rfl
  have hfr : w.frozen? ⟨p, 0, none⟩ = false := frozen_of_heap h.blk
  have hlt : p < w.heap.size := lt_of_heap h.blk
  have HR : Hid (Rf w p vw vu vf W U F) := h
  clear h
  have stepK : ∀ (u u' : World) (o : Obj) (r : Option Nat), Keeps (fun b => p ≤ b) w u → (u.alloc o).grownBy u' r → (∀ k, r = some k → p ≤ k) → Keeps (fun b => p ≤ b) w u' := fun u u' o r h1 h2 h3 => (h1.alloc o).grown h2 (fun k _ e => h3 k e)
  have HSt : Hid (∀ (u u' : World) (o : Obj) (r : Option Nat), Keeps (fun b => p ≤ b) w u → (u.alloc o).grownBy u' r → (∀ k, r = some k → p ≤ k) → Keeps (fun b => p ≤ b) w u') := stepK
  clear stepK
  have HKs : Hid (∀ (u : World) (i : Nat) (v : Value) (o : Obj), Keeps (fun b => b = p) u ((u.setCell ⟨p, i, none⟩ v).alloc o)) := fun u i v o => ((Keeps.refl (fun b => b = p) u).setCell (p := ⟨p, i, none⟩) (fun _ => rfl) v).alloc o
  have HNw : Hid (∀ (u : World) (i : Nat) (v : Value) (o : Obj), ((u.setCell ⟨p, i, none⟩ v).alloc o).heap[u.heap.size]? = some o) := fun u i v o => by
    have := heap_alloc_new (u.setCell ⟨p, i, none⟩ v) o
    rw [heap_size_setCell] at this; exact this
  have HBs : Hid (∀ (u : World) (i : Nat) (v : Value) (cs : Array Value), u.heap[p]? = some (.cells cs 153 (0, 0)) → (u.setCell ⟨p, i, none⟩ v).heap[p]? = some (.cells (cs.setIfInBounds i v) 153 (0, 0))) := fun u i v cs h => heap_setCell_same h v
  go_enter Tryz.func103, Tryz.ntmps103
  go_wp2_with (first
    | ((fail_if_success (clear H1)); refine wpList_one rfl _ _ rfl rfl (p + 1) vw (ints W) rfl (HR.out.own.ow.kept ((Keeps.refl (fun _ => False) w).alloc _) (fun _ _ h => h)) w.heap.size (x : Int) rfl (heap_alloc_new _ _) ?hb ?hn ?_; (case hb => simp; omega); (case hn => rw [ints_length]; omega); intro gw cw w1 hO1 hG1 hA1; have hb1 := blk_grown HR.out.blk hG1 (own_ne HR.out.own.ow); have H1 : Hid (w1.heap[p]? = some (.cells #[vw, vu, vf] 153 (0, 0)) ∧ Own3 w1 (p + 1) (.slice (some ⟨gw, 0, none⟩) ((ints W).length + 1) cw) vu vf (ints W ++ [(x : Int)]) U F ∧ Keeps (fun b => p ≤ b) w w1) := ⟨hb1, (HR.out.own.kept ((Keeps.refl (fun _ => False) w).alloc _) (fun _ _ h => h)).w hO1 hG1 hA1, HSt.out w w1 _ _ (Keeps.refl _ _) hG1 (fun k e => by (have := (World.ownsRow.lt HR.out.own.ow k e).1; omega))⟩; have d0 : w1.cell? ⟨p, 0, none⟩ = some vw := cell_of_heap hb1 rfl; have d1 : w1.cell? ⟨p, 1, none⟩ = some vu := cell_of_heap hb1 rfl; have df : w1.frozen? ⟨p, 0, none⟩ = false := frozen_of_heap hb1; have dl : p < w1.heap.size := lt_of_heap hb1; clear hO1 hG1 hA1 hb1 c0 hfr hlt)
    | ((fail_if_success (clear H2)); refine wpList_one rfl _ _ rfl rfl (p + 1) vu U rfl (H1.out.2.1.kept (HKs.out w1 0 _ _) (fun b hb e => by omega)).ou w1.heap.size (-1 : Int) rfl (HNw.out w1 0 _ _) ?hb ?hn ?_; (case hb => simp [heap_size_setCell]; omega); (case hn => rw [HR.out.lenU]; omega); intro gu cu w2 hO2 hG2 hA2; have hb2 := blk_grown (HBs.out w1 0 _ _ H1.out.1) hG2 (own_ne (H1.out.2.1.kept (HKs.out w1 0 (.slice (some ⟨gw, 0, none⟩) ((ints W).length + 1) cw) (.cells #[.int .i64 (-1)] 3)) (fun b hb e => by omega)).ou); have H2 : Hid (w2.heap[p]? = some (.cells #[.slice (some ⟨gw, 0, none⟩) ((ints W).length + 1) cw, vu, vf] 153 (0, 0)) ∧ Own3 w2 (p + 1) (.slice (some ⟨gw, 0, none⟩) ((ints W).length + 1) cw) (.slice (some ⟨gu, 0, none⟩) (U.length + 1) cu) vf (ints W ++ [(x : Int)]) (U ++ [-1]) F ∧ Keeps (fun b => p ≤ b) w w2) := ⟨hb2, (H1.out.2.1.kept (HKs.out w1 0 _ _) (fun b hb e => by omega)).u hO2 hG2 hA2, HSt.out _ w2 _ _ (H1.out.2.2.setCell (fun _ => Nat.le_refl p) _) hG2 (fun k e => by (have := (World.ownsRow.lt H1.out.2.1.ou k e).1; omega))⟩; have d0 : w2.cell? ⟨p, 1, none⟩ = some vu := cell_of_heap hb2 rfl; have d1 : w2.cell? ⟨p, 2, none⟩ = some vf := cell_of_heap hb2 rfl; have df : w2.frozen? ⟨p, 1, none⟩ = false := frozen_of_heap hb2; have dl : p < w2.heap.size := lt_of_heap hb2; clear hO2 hG2 hA2 hb2)
    | (refine wpList_bool rfl _ _ rfl rfl (p + 1) vf F rfl (H2.out.2.1.kept (HKs.out w2 1 _ _) (fun b hb e => by omega)).of' w2.heap.size true rfl (HNw.out w2 1 _ _) ?hb ?hn ?_; (case hb => simp [heap_size_setCell]; omega); (case hn => rw [HR.out.lenF]; omega); intro gf cf w3 hO3 hG3 hA3; have hb3 := blk_grown (HBs.out w2 1 _ _ H2.out.1) hG3 (own_ne (H2.out.2.1.kept (HKs.out w2 1 (.slice (some ⟨gu, 0, none⟩) (U.length + 1) cu) (.cells #[.bool true] 4)) (fun b hb e => by omega)).of'); have H3 : Hid (w3.heap[p]? = some (.cells #[.slice (some ⟨gw, 0, none⟩) ((ints W).length + 1) cw, .slice (some ⟨gu, 0, none⟩) (U.length + 1) cu, vf] 153 (0, 0)) ∧ Own3 w3 (p + 1) (.slice (some ⟨gw, 0, none⟩) ((ints W).length + 1) cw) (.slice (some ⟨gu, 0, none⟩) (U.length + 1) cu) (.slice (some ⟨gf, 0, none⟩) (F.length + 1) cf) (ints W ++ [(x : Int)]) (U ++ [-1]) (F ++ [true]) ∧ Keeps (fun b => p ≤ b) w w3) := ⟨hb3, (H2.out.2.1.kept (HKs.out w2 1 _ _) (fun b hb e => by omega)).f hO3 hG3 hA3, HSt.out _ w3 _ _ (H2.out.2.2.setCell (fun _ => Nat.le_refl p) _) hG3 (fun k e => by (have := (World.ownsRow.lt H2.out.2.1.of' k e).1; omega))⟩; have d0 : w3.cell? ⟨p, 2, none⟩ = some vf := cell_of_heap hb3 rfl; have df : w3.frozen? ⟨p, 2, none⟩ = false := frozen_of_heap hb3; clear hO3 hG3 hA3 hb3))
  go_end0
  obtain ⟨e1, e2, e3⟩ := H3.out
  refine ⟨rfl, _, _, _, ⟨HBs.out w3 2 _ _ e1, ?_, by simp [HR.out.lenU], by simp [HR.out.lenF]⟩, e3.setCell (fun _ => Nat.le_refl p) _⟩
  rw [ints_append]
  exact e2.kept ((Keeps.refl (fun b => b = p) w3).setCell (p := ⟨p, 2, none⟩) (fun _ => rfl) _) (fun b hb e => by omega)

end Go.Proofs.YtfbghchgfbjogaaGreat.Lm

namespace Go.Proofs.YtfbghchgfbjogaaGreat.Lm
open Go.RowKit
set_option linter.unusedVariables false
set_option linter.unusedSimpArgs false

/-- S are the trees that are free. -/
def Av (S : List Tr) (W : List Nat) (F : List Bool) : Prop := ∀ t : Tr, t ∈ S ↔ (t.2 < W.length ∧ F.getD t.2 false = true ∧ t.1 = W.getD t.2 0)
theorem getD_set (F : List Bool) (i j : Nat) (b : Bool) (hi : i < F.length) : (F.set i b).getD j false = if i = j then b else F.getD j false := by
  rw [List.getD, List.getElem?_set, List.getD]
  by_cases e : i = j
  · subst e; rw [if_pos rfl, if_pos hi, if_pos rfl]; rfl
  · rw [if_neg e, if_neg e]
theorem Av.take {s : Tr} {S : List Tr} {W : List Nat} {F : List Bool} (h : Av (s :: S) W F) (hs : Srt (s :: S)) (hl : F.length = W.length) : Av S W (F.set s.2 false) := by
  have hss := (h s).1 (by simp)
  intro t
  rw [getD_set F s.2 t.2 false (by omega)]
  constructor
  · intro ht
    have h1 := (h t).1 (by simp [ht])
    have hne : s ≠ t := ne_of_lt' ((List.pairwise_cons.1 hs).1 t ht)
    have : ¬ s.2 = t.2 := fun e => hne (Prod.ext (by rw [hss.2.2, h1.2.2, e]) e)
    rw [if_neg this]; exact h1
  · rintro ⟨h1, h2, h3⟩
    by_cases e : s.2 = t.2
    · rw [if_pos e] at h2; cases h2
    · rw [if_neg e] at h2
      rcases List.mem_cons.1 ((h t).2 ⟨h1, h2, h3⟩) with rfl | hm
      · exact absurd rfl e
      · exact hm
/-- The best one of the first i. -/
def Best (W : List Nat) (F : List Bool) (i : Nat) (z : Int) : Prop :=
  (z = -1 ∧ ∀ j, j < i → F.getD j false = false) ∨ ∃ a : Nat, z = (a : Int) ∧ a < i ∧ F.getD a false = true ∧ ∀ j, j < i → F.getD j false = true → ltb (W.getD j 0, j) (W.getD a 0, a) = false
theorem Best.skip {W : List Nat} {F : List Bool} {i : Nat} {z : Int} (h : Best W F i z) (hf : F.getD i false = false) : Best W F (i + 1) z := by
  rcases h with ⟨e, h⟩ | ⟨a, e, h1, h2, h3⟩
  · refine .inl ⟨e, fun j hj => ?_⟩
    by_cases e' : j = i
    · subst e'; exact hf
    · exact h j (by omega)
  · refine .inr ⟨a, e, by omega, h2, fun j hj hjf => ?_⟩
    by_cases e' : j = i
    · subst e'; rw [hf] at hjf; cases hjf
    · exact h3 j (by omega) hjf
theorem Best.first {W : List Nat} {F : List Bool} {i : Nat} (h : Best W F i (-1)) (hf : F.getD i false = true) : Best W F (i + 1) (i : Int) := by
  rcases h with ⟨_, h⟩ | ⟨a, e, _⟩
  · refine .inr ⟨i, rfl, by omega, hf, fun j hj hjf => ?_⟩
    by_cases e' : j = i
    · subst e'; exact ltb_irrefl _
    · have := h j (by omega); rw [this] at hjf; cases hjf
  · omega
theorem Best.done {W : List Nat} {F : List Bool} {z : Int} {s : Tr} {S : List Tr} (h : Best W F W.length z) (hA : Av (s :: S) W F) (hs : Srt (s :: S)) : z = (s.2 : Int) := by
  have hss := (hA s).1 (by simp)
  rcases h with ⟨_, h⟩ | ⟨a, e, h1, h2, h3⟩
  · rw [h s.2 hss.1] at hss; cases hss.2.1
  · have h4 := h3 s.2 hss.1 hss.2.1
    rw [← hss.2.2] at h4
    have hm := (hA (W.getD a 0, a)).2 ⟨h1, h2, rfl⟩
    rcases List.mem_cons.1 hm with h5 | h5
    · rw [e, ← h5]
    · have := (List.pairwise_cons.1 hs).1 _ h5
      rw [show ((s.1, s.2) : Tr) = s from rfl] at h4
      rw [h4] at this; cases this

end Go.Proofs.YtfbghchgfbjogaaGreat.Lm

namespace Go.Proofs.YtfbghchgfbjogaaGreat.Lm
open Go.RowKit
set_option linter.unusedVariables false
set_option linter.unusedSimpArgs false

/-- What each is joined into, as the document has it. -/
def Ur (U : List Int) (F : List Bool) (into : List Nat) : Prop := ∀ q, q < into.length → at_ U q = if F.getD q false = true then -1 else ((into.getD q 0 : Nat) : Int)
theorem Ur.step {U : List Int} {F : List Bool} {into : List Nat} (h : Ur U F into) (hU : U.length = into.length) (hF : F.length = into.length) (a b : Nat) (ha : a < into.length) (hb : b < into.length) :
    Ur ((U.set a (into.length : Int)).set b (into.length : Int) ++ [-1]) ((F.set a false).set b false ++ [true]) ((into.set a into.length).set b into.length ++ [into.length]) := by
  intro q hq
  have hq' : q < into.length + 1 := by simpa using hq
  by_cases e : q < into.length
  · rw [at_append_left _ _ _ (by simp [hU]; exact e), at_set, at_set]
    have e2 : ((F.set a false).set b false ++ [true]).getD q false = if b = q then false else if a = q then false else F.getD q false := by
      rw [List.getD, List.getElem?_append_left (by simp [hF]; exact e), ← List.getD, getD_set _ _ _ _ (by simp [hF]; exact hb), getD_set _ _ _ _ (by omega)]
    have e3 : ((into.set a into.length).set b into.length ++ [into.length]).getD q 0 = if b = q then into.length else if a = q then into.length else into.getD q 0 := by
      rw [List.getD, List.getElem?_append_left (by simp; exact e), List.getElem?_set, List.getElem?_set]
      by_cases h1 : b = q
      · subst h1; simp [hb]
      · by_cases h2 : a = q
        · subst h2; simp [h1, ha]
        · simp [h1, h2, List.getD]
    rw [e2, e3, h q e]
    by_cases h1 : b = q
    · subst h1; simp [hU, hb]
    · by_cases h2 : a = q
      · subst h2; simp [h1, hU, ha]
      · simp [h1, h2]
  · have : q = into.length := by omega
    subst this
    have hl : ((U.set a (into.length : Int)).set b (into.length : Int)).length = into.length := by simp [hU]
    have := at_append_right ((U.set a (into.length : Int)).set b (into.length : Int)) [-1] 0
    rw [hl, Nat.add_zero] at this
    rw [this]
    have e2 : ((F.set a false).set b false ++ [true]).getD into.length false = true := by
      rw [List.getD, List.getElem?_append_right (by simp [hF])]; simp [hF]
    rw [e2]; rfl

theorem Rf.drew {w : World} {p : Nat} {vw vu vf : Value} {W : List Nat} {U : List Int} {F : List Bool} (h : Rf w p vw vu vf W U F) : Rf w.drew p vw vu vf W U F := h.kept ((Keeps.refl (fun _ => False) w).drew) (fun _ _ h => h)

end Go.Proofs.YtfbghchgfbjogaaGreat.Lm

namespace Go.Proofs.YtfbghchgfbjogaaGreat.Lm
open Go.RowKit
set_option linter.unusedVariables false
set_option linter.unusedSimpArgs false

/-- Two rows of a call's own, apart from each other. -/
structure Own2 (w : World) (base : Nat) (va vb : Value) (A B : List Int) : Prop where
  oa : OwnV w base va A
  ob : OwnV w base vb B
  ab : ∀ k, va.ownBlock = some k → vb.ownBlock ≠ some k
theorem Own2.kept {w w' : World} {base : Nat} {va vb : Value} {A B : List Int} (h : Own2 w base va vb A B) (hk : Keeps (fun _ => False) w w') : Own2 w' base va vb A B :=
  ⟨h.oa.kept hk (fun _ _ h => h), h.ob.kept hk (fun _ _ h => h), h.ab⟩
theorem Own2.a {w w' : World} {base g n c : Nat} {va vb : Value} {A B A' : List Int} (h : Own2 w base va vb A B) (ho : OwnV w' base (.slice (some ⟨g, 0, none⟩) n c) A') (hg : w.grownBy w' va.ownBlock) (ha : va.ownBlock = some g ∨ g = w.heap.size) : Own2 w' base (.slice (some ⟨g, 0, none⟩) n c) vb A' B := by
  refine ⟨ho, owns_heap h.ob (fun k e => hg.block k (World.ownsRow.lt h.ob k e).2 (fun e' => h.ab k e'.symm e)), fun k e e' => ?_⟩
  rw [ownBlock_slice] at e
  obtain rfl := Option.some.inj e
  rcases ha with ha | ha
  · exact h.ab g ha e'
  · have := (World.ownsRow.lt h.ob g e').2; omega
theorem Own2.b {w w' : World} {base g n c : Nat} {va vb : Value} {A B B' : List Int} (h : Own2 w base va vb A B) (ho : OwnV w' base (.slice (some ⟨g, 0, none⟩) n c) B') (hg : w.grownBy w' vb.ownBlock) (ha : vb.ownBlock = some g ∨ g = w.heap.size) : Own2 w' base va (.slice (some ⟨g, 0, none⟩) n c) A B' := by
  refine ⟨owns_heap h.oa (fun k e => hg.block k (World.ownsRow.lt h.oa k e).2 (fun e' => h.ab k e e'.symm)), ho, fun k e e' => ?_⟩
  rw [ownBlock_slice] at e'
  obtain rfl := Option.some.inj e'
  rcases ha with ha | ha
  · exact h.ab g e ha
  · have := (World.ownsRow.lt h.oa g e).2; omega

/-- What stands in memory behind the choice of symbols and weights. -/
structure Tl (w w' : World) (n m : Nat) (a6 a7 : Option Addr) (c7 go : Nat) (U W O : List Nat) : Prop where
  row : Row w' a6 (ints U)
  ws : OwnV w' w.heap.size (.slice a7 m c7) (ints W)
  out : Own w' go n (ints O)
  k : Keeps (fun _ => False) w w'
  ge : w.heap.size ≤ go
  d1 : ∀ x, a6 = some x → x.block ≠ go ∧ w.heap.size ≤ x.block
  d2 : ∀ x, a7 = some x → x.block ≠ go
  d3 : ∀ x y, a6 = some x → a7 = some y → x.block ≠ y.block
theorem Tl.kept {w w' w'' : World} {n m : Nat} {a6 a7 : Option Addr} {c7 go : Nat} {U W O : List Nat} (h : Tl w w' n m a6 a7 c7 go U W O) (hk : Keeps (fun _ => False) w' w'') : Tl w w'' n m a6 a7 c7 go U W O :=
  ⟨h.row.keptF hk, h.ws.kept hk (fun _ _ h => h), h.out.kept hk (fun h => h), h.k.trans hk (fun _ _ h => h), h.ge, h.d1, h.d2, h.d3⟩
theorem Tl.put {w w' : World} {n m : Nat} {a6 a7 : Option Addr} {c7 go : Nat} {U W O : List Nat} (h : Tl w w' n m a6 a7 c7 go U W O) (i v : Nat) : Tl w (w'.setCell ⟨go, i, none⟩ (.int .i64 (v : Int))) n m a6 a7 c7 go U W (O.set i v) ∧ Keeps (fun b => b = go) w' (w'.setCell ⟨go, i, none⟩ (.int .i64 (v : Int))) := by
  have hk : Keeps (fun b => b = go) w' (w'.setCell ⟨go, i, none⟩ (.int .i64 (v : Int))) := (Keeps.refl (fun b => b = go) w').setCell (p := ⟨go, i, none⟩) (fun _ => rfl) _
  refine ⟨⟨h.row.kept hk (fun x e => (h.d1 x e).1), h.ws.kept hk (fun k e => ?_), ?_, h.k.trans hk (fun i hi e => by have := h.ge; omega), h.ge, h.d1, h.d2, h.d3⟩, hk⟩
  · cases a7 with
    | none => cases e
    | some x =>
      have e' : some x.block = some k := e
      have := h.d2 x rfl
      rw [Option.some.inj e'] at this; exact this
  · rw [← ints_set]; exact h.out.set i (v : Int)
theorem Tl.drew {w w' : World} {n m : Nat} {a6 a7 : Option Addr} {c7 go : Nat} {U W O : List Nat} (h : Tl w w' n m a6 a7 c7 go U W O) : Tl w w'.drew n m a6 a7 c7 go U W O := h.kept ((Keeps.refl (fun _ => False) w').drew)
theorem Tl.turn {w w' : World} {n m : Nat} {a6 : Option Addr} {g7 c7 go : Nat} {U W O : List Nat} (h : Tl w w' n m a6 (some ⟨g7, 0, none⟩) c7 go U W O) (hm : W.length = m) (i v : Nat) : Tl w (w'.setCell ⟨g7, i, none⟩ (.int .i64 (v : Int))) n m a6 (some ⟨g7, 0, none⟩) c7 go U (W.set i v) O := by
  have hg7 : w.heap.size ≤ g7 := (World.ownsRow.lt h.ws g7 rfl).1
  have hk : Keeps (fun b => b = g7) w' (w'.setCell ⟨g7, i, none⟩ (.int .i64 (v : Int))) := (Keeps.refl (fun b => b = g7) w').setCell (p := ⟨g7, i, none⟩) (fun _ => rfl) _
  refine ⟨h.row.kept hk (fun x e => h.d3 x _ e rfl), ?_, h.out.kept hk (fun e => h.d2 _ rfl e.symm), h.k.trans hk (fun i hi e => by omega), h.ge, h.d1, h.d2, h.d3⟩
  have ho := h.ws
  unfold OwnV at *
  rw [← ints_set, List.length_set, ← intsV_set]
  rw [ints_length, hm] at *
  exact owns_set ho i _
end Go.Proofs.YtfbghchgfbjogaaGreat.Lm

namespace Go.Proofs.YtfbghchgfbjogaaGreat.Bk
open Go.RowKit
open Hf Tb
open Mt (Tk RowT TkAt tk tk_eq mayF okT sumZ expF)
set_option linter.unusedVariables false
set_option linter.unusedSimpArgs false

theorem blk_put {w : World} {g : Nat} {xs : List Int} (h : Blk w g xs) (i : Nat) (y : Int) : Blk (w.setCell ⟨g, i, none⟩ (.int .i64 y)) g (xs.set i y) := by
  unfold Blk
  rw [heap_setCell_same h]
  congr 2
  simp [intsV, List.map_set]
theorem blk_cnt {w : World} {g n : Nat} {ss : List Nat} (h : Blk w g (cntL n ss)) (i : Nat) (hi : i < n) : w.cell? ⟨g, i, none⟩ = some (.int .i64 ((ss.count i : Nat) : Int)) := by
  have hl : i < (cntL n ss).length := by rw [cntL_length]; exact hi
  have h3 := cntL_get n ss i hi
  rw [List.getElem?_eq_getElem hl] at h3
  rw [h.cell i hl, Option.some.inj h3]
theorem blk_inc {w : World} {g n : Nat} {ss : List Nat} (h : Blk w g (cntL n ss)) (i : Nat) (hi : i < n) : Blk (w.setCell ⟨g, i, none⟩ (.int .i64 (((ss.count i : Nat) : Int) + 1))) g (cntL n (ss ++ [i])) := by
  rw [cntL_snoc n ss i hi]; exact blk_put h i _
/-- The document's counts: the end first. -/
def dA (ts : List Tk) : List Nat := [256] ++ symsA ts
/-- What the document's Dynamic has counted. -/
structure Cou (w0 w : World) (ga gb : Nat) (ts : List Tk) : Prop where
  bA : Blk w ga (cntL 286 (dA ts))
  bB : Blk w gb (cntL 30 (symsB ts))
  keep : Keeps (fun _ => False) w0 w
  fA : w0.heap.size ≤ ga
  fB : w0.heap.size ≤ gb
  ne : ga ≠ gb
theorem Cou.keptF {w0 w w' : World} {ga gb : Nat} {ts : List Tk} (h : Cou w0 w ga gb ts) (hk : Keeps (fun _ => False) w w') : Cou w0 w' ga gb ts :=
  ⟨h.bA.keptF hk, h.bB.keptF hk, h.keep.trans hk (fun _ _ h => h), h.fA, h.fB, h.ne⟩
theorem dA_snoc (ts : List Tk) (t : Tk) : dA (ts ++ [t]) = dA ts ++ [symA t] := by unfold dA; rw [symsA_snoc]; simp
theorem Cou.copy {w0 w : World} {ga gb : Nat} {ts : List Tk} (h : Cou w0 w ga gb ts) (l : Int) (x y I k : Nat) (hx : ¬ (x : Int) = 0) (e1 : symA (l, (x : Int), (y : Int)) = I) (e2 : symB (l, (x : Int), (y : Int)) = [k]) (hI : I < 286) (hk : k < 30) :
    (w.setCell ⟨ga, I, none⟩ (.int .i64 ((((dA ts).count I : Nat) : Int) + 1))).cell? ⟨gb, k, none⟩ = some (.int .i64 (((symsB ts).count k : Nat) : Int)) ∧ (w.setCell ⟨ga, I, none⟩ (.int .i64 ((((dA ts).count I : Nat) : Int) + 1))).frozen? ⟨gb, k, none⟩ = false ∧
    Cou w0 ((w.setCell ⟨ga, I, none⟩ (.int .i64 ((((dA ts).count I : Nat) : Int) + 1))).setCell ⟨gb, k, none⟩ (.int .i64 ((((symsB ts).count k : Nat) : Int) + 1))) ga gb (ts ++ [(l, (x : Int), (y : Int))]) := by
  have kk : Keeps (fun k => k = ga) w (w.setCell ⟨ga, I, none⟩ (.int .i64 ((((dA ts).count I : Nat) : Int) + 1))) := (Keeps.refl (fun k => k = ga) w).setCell (p := ⟨ga, I, none⟩) (fun _ => rfl) _
  have hb2 := h.bB.kept kk (fun e => h.ne e.symm)
  have ha2 := blk_inc h.bA I hI
  generalize w.setCell ⟨ga, I, none⟩ (.int .i64 ((((dA ts).count I : Nat) : Int) + 1)) = v at *
  have k2 : Keeps (fun k => k = gb) v (v.setCell ⟨gb, k, none⟩ (.int .i64 ((((symsB ts).count k : Nat) : Int) + 1))) := (Keeps.refl (fun k => k = gb) v).setCell (p := ⟨gb, k, none⟩) (fun _ => rfl) _
  refine ⟨blk_cnt hb2 k hk, hb2.free k, ?_, ?_, (h.keep.trans kk (fun i hi e => by have := h.fA; omega)).trans k2 (fun i hi e => by have := h.fB; omega), h.fA, h.fB, h.ne⟩
  · rw [dA_snoc, e1]; exact ha2.kept k2 h.ne
  · rw [symsB_snoc, e2]; exact blk_inc hb2 k hk
end Go.Proofs.YtfbghchgfbjogaaGreat.Bk

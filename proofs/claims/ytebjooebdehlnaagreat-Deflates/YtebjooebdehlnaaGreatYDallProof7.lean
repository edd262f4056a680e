/-
  The document's fives, order and sparse. The document's lengths (printed by a script: one tail for each way in which a symbol tells lengths). The document's dynamic (printed by a script: one tail for each way to its end).
-/
import Derived.Test.YtebjooebdehlnaaGreatRows
import Derived.Test.YtebjooebdehlnaaGreatYDallProof6
import Derived.BigQuiet
import Derived.Deep.RegionHeld3
namespace Go.Proofs.YtebjooebdehlnaaGreat
open Go.RowKit
open Hf Tb
set_option linter.unusedVariables false
set_option linter.unusedSimpArgs false

def fiveN (i : Nat) : List Int := List.replicate i 5 ++ List.replicate (30 - i) 0
theorem fiveN_set : ∀ i : Fin 30, (fiveN i.val).set i.val 5 = fiveN (i.val + 1) := by decide +kernel
theorem fiveN_length (i : Nat) (h : i ≤ 30) : (fiveN i).length = 30 := by unfold fiveN; simp; omega

set_option maxHeartbeats 1000000 in
set_option maxRecDepth 100000 in
theorem rfives_ok (w : World) : Calls Tryz.prog 53 #[] w fun e w' => ∃ g, e = .returned (.slice (some ⟨g, 0, none⟩) 30 30) ∧ Blk w' g fiveLs ∧ Keeps (fun _ => False) w w' := by
  go_enter Tryz.func53, Tryz.ntmps53
  go_wp2_with (refine wpList_zeros rfl _ _ rfl 30 rfl rfl (by omega) ?_; intro g w3 hB3 hK3 hg3)
  have H3 : Hid (Blk w3 g (fiveN 0) ∧ Keeps (fun _ => False) w w3 ∧ w.heap.size ≤ g) := ⟨hB3, hK3, hg3⟩
  clear hB3 hK3 hg3
  go_loopw [2] (fun s2 w' => ∃ i : Nat, i ≤ 30 ∧ s2 = .int .i64 (i : Int) ∧ Hid (Blk w' g (fiveN i) ∧ Keeps (fun _ => False) w w' ∧ w.heap.size ≤ g)) (fun s2 _ => (30 - intOf s2).toNat)
  case atStart => exact ⟨0, by omega, rfl, H3⟩
  case round =>
    clear H3
    obtain ⟨i, hi, rfl, HW⟩ := hrel
    by_cases hin : i < 30
    · have hiz : (i : Int) < 30 := by omega
      have hc := HW.out.1.cell i (by rw [fiveN_length i hi]; exact hin)
      have hf := HW.out.1.free i
      generalize (fiveN i)[i]'_ = t at hc
      go_wp2
      go_roundw
      case rel =>
        refine ⟨i + 1, by omega, by push_cast; rfl, ?_, HW.out.2.1.setCell (p := ⟨g, i, none⟩) (fun hx => by have := HW.out.2.2; simp only at hx; omega) _, HW.out.2.2⟩
        have := Blk.set HW.out.1 i 5
        rw [fiveN_set ⟨i, hin⟩] at this; exact this
      case measure => simp [intOf]; omega
    · obtain rfl : i = 30 := by omega
      go_wp2
      go_ret
      exact ⟨g, rfl, HW.out.1, HW.out.2.1⟩

def rowI : List Int := rowL.map (fun (n : Nat) => (n : Int))
set_option maxHeartbeats 1000000 in
set_option maxRecDepth 100000 in
theorem rorder_ok (w : World) : Calls Tryz.prog 59 #[] w fun e w' => ∃ g, e = .returned (.slice (some ⟨g, 0, none⟩) 19 19) ∧ Blk w' g rowI ∧ Keeps (fun _ => False) w w' ∧ w.heap.size ≤ g := by
  go_enter Tryz.func59, Tryz.ntmps59
  go_wp2
  go_ret
  exact ⟨w.heap.size, rfl, Blk.lit w rowI, (Keeps.refl _ w).alloc _, Nat.le_refl _⟩

/-- What is known of lengths of which u are used, the last of them l. -/
def Spr (x : List Int) (u : Nat) (l : Int) : Prop := (u = 0 → x.sum = 0) ∧ (u = 1 → x.sum = l ∧ 1 ≤ l) ∧ (2 ≤ u → 2 ≤ x.sum)
theorem Spr.hit {x : List Int} {u : Nat} {l y : Int} (h : Spr x u l) (hy : 0 < y) : Spr (x ++ [y]) (u + 1) y := by
  obtain ⟨h1, h2, h3⟩ := h
  have e : (x ++ [y]).sum = x.sum + y := by simp
  refine ⟨fun e => by omega, fun e2 => ?_, fun e2 => ?_⟩
  · have := h1 (by omega); omega
  · rw [e]
    by_cases hu : u = 1
    · have := h2 hu; omega
    · have := h3 (by omega); omega
theorem Spr.miss {x : List Int} {u : Nat} {l y : Int} (h : Spr x u l) (hy : y = 0) : Spr (x ++ [y]) u l := by
  subst hy
  have e : (x ++ [(0 : Int)]).sum = x.sum := by simp
  unfold Spr; rw [e]; exact h

set_option maxHeartbeats 2000000 in
set_option maxRecDepth 100000 in
theorem rsparse_ok (a : Option Addr) (x : List Int) (cap : Nat) (w : World) (hR : Row w a x) (hl2 : x.length ≤ 1000) (hx : inR x) :
    Calls Tryz.prog 109 #[.slice a x.length cap] w fun e w' => e = .returned (.bool (decide (x.sum ≤ 1))) ∧ w' = w := by
  obtain ⟨B, hB⟩ : ∃ B, decide (x.sum ≤ 1) = B := ⟨_, rfl⟩
  rw [hB]
  have HB : Hid (decide (x.sum ≤ 1) = B) := hB
  have HR : Hid (Row w a x) := hR
  have HX : Hid (inR x) := hx
  obtain ⟨N, hN⟩ : ∃ N, x.length = N := ⟨_, rfl⟩
  have HN : Hid (x.length = N) := hN
  rw [hN] at hl2 ⊢
  clear hR hB hx hN
  go_enter Tryz.func109, Tryz.ntmps109
  go_wp2
  go_loopw [3, 4, 5] (fun s3 s4 s5 w' => ∃ (j u : Nat) (l : Int), j ≤ N ∧ u ≤ j ∧ s5 = .int .i64 (j : Int) ∧ s3 = .int .i64 (u : Int) ∧ s4 = .int .i64 l ∧ w' = w ∧ Hid (Spr (x.take j) u l)) (fun _ _ s5 _ => ((N : Int) - intOf s5).toNat)
  case atStart => exact ⟨0, 0, 0, by omega, by omega, rfl, rfl, rfl, rfl, by simp, fun e => by omega, fun e => by omega⟩
  case round =>
    obtain ⟨j, u, l, hj, hu, rfl, rfl, rfl, rfl, HS⟩ := hrel
    by_cases hjn : j < N
    · have hjz : (j : Int) < (N : Int) := by omega
      have hjx : j < x.length := by rw [HN.out]; exact hjn
      obtain ⟨g, off, ha, hg, hc⟩ := HR.out.spot (by omega)
      obtain rfl := ha
      have hcell := hc j hjx
      have hv := HX.out x[j] (List.getElem_mem hjx)
      have HT : Hid (x.take (j + 1) = x.take j ++ [x[j]]) := take_snoc x j hjx
      generalize x[j] = y at *
      clear hc
      by_cases hy : 0 < y
      · go_wp2
        go_roundw
        case rel => exact ⟨j + 1, u + 1, y, by omega, by omega, by push_cast; rfl, by push_cast; rfl, rfl, trivial, by rw [HT.out]; exact HS.out.hit hy⟩
        case measure => simp [intOf]; omega
      · go_wp2
        go_roundw
        case rel => exact ⟨j + 1, u, l, by omega, by omega, by push_cast; rfl, rfl, rfl, trivial, by rw [HT.out]; exact HS.out.miss (by omega)⟩
        case measure => simp [intOf]; omega
    · obtain rfl : j = N := by omega
      have HS2 : Hid (Spr x u l) := by
        have := HS.out; rw [List.take_of_length_le (by rw [HN.out]; omega)] at this; exact this
      clear HS
      by_cases h0 : u = 0
      · subst h0
        have e : B = true := by rw [← HB.out, decide_eq_true]; have := HS2.out.1 rfl; omega
        subst e
        go_wp2
        go_ret
        exact ⟨rfl, rfl⟩
      · have h0b : ((u : Int) == 0) = false := by simp; omega
        have h0n : ¬ ((u : Int) = 0) := by omega
        by_cases h1 : u = 1
        · subst h1
          by_cases hl1 : l = 1
          · subst hl1
            have e : B = true := by rw [← HB.out, decide_eq_true]; have := HS2.out.2.1 rfl; omega
            subst e
            go_wp2
            go_ret
            exact ⟨rfl, rfl⟩
          · have hlb : (l == 1) = false := by simp; exact hl1
            have e : B = false := by rw [← HB.out, decide_eq_false]; have := HS2.out.2.1 rfl; omega
            subst e
            go_wp2
            go_ret
            exact ⟨rfl, rfl⟩
        · have h1b : ((u : Int) == 1) = false := by simp; omega
          have h1n : ¬ ((u : Int) = 1) := by omega
          have e : B = false := by rw [← HB.out, decide_eq_false]; have := HS2.out.2.2 (by omega); omega
          subst e
          go_wp2
          go_ret
          exact ⟨rfl, rfl⟩

end Go.Proofs.YtebjooebdehlnaaGreat

namespace Go.Proofs.YtebjooebdehlnaaGreat
open Go.RowKit
open Hf Tb
set_option linter.unusedVariables false
set_option linter.unusedSimpArgs false

theorem FS.keptS {S : Nat → Prop} {w w' : World} {b : Nat} {v : Value} {s : ByteArray} {most : Nat} {L : Bts} {xs : List Nat} {er : Int} (h : FS w b v s most L xs er) (hk : Keeps S w w') (hb : ¬ S b) (hv : ∀ k, v.ownBlock = some k → ¬ S k) : FS w' b v s most L xs er := by
  obtain ⟨p, p1, p2, p3⟩ := h.fl
  exact ⟨⟨p, (hk.block b h.lt hb).trans p1, p2, p3⟩, h.own.kept hk hv, h.sz, h.lim, h.most, h.byt⟩
/-- What get leaves, however the flow stands. -/
def GP (k : Nat) (L : Bts) (er : Int) (w : World) (b : Nat) (v : Value) (s : ByteArray) (most : Nat) (xs : List Nat) (e : Ending) (w' : World) : Prop :=
  ∃ (x : Nat) (er' : Int) (L' : Bts), x < 2 ^ k ∧ e = .returned (.int .i64 (x : Int)) ∧ FS w' b v s most L' xs er' ∧ Keeps (fun k => k = b) w w' ∧ L'.length ≤ L.length ∧
    (er = 0 → (er' = 0 ∧ getL k L = some (x, L')) ∨ (er' = 700 ∧ getL k L = none)) ∧ (er ≠ 0 → er' = er)
theorem get_gen {w : World} {b : Nat} {v : Value} {s : ByteArray} {most : Nat} {L : Bts} {xs : List Nat} {er : Int} (h : FS w b v s most L xs er) (k : Nat) (hk : k ≤ 16) :
    Calls Tryz.prog 62 #[.pointer (some ⟨b, 0, none⟩), .int .i64 (k : Int)] w (GP k L er w b v s most xs) := by
  rcases hg : getL k L with _ | ⟨x, L'⟩
  · by_cases he : er = 0
    · subst he
      refine (get_bad7 h k hk hg).mono ?_
      rintro e w' ⟨rfl, h2, h3⟩
      exact ⟨0, 700, L, Nat.pos_of_ne_zero (by simp), rfl, h2, h3, Nat.le_refl _, fun _ => .inr ⟨rfl, hg⟩, fun e => absurd rfl e⟩
    · refine (get_off7 h he k hk hg).mono ?_
      rintro e w' ⟨rfl, h2, h3⟩
      exact ⟨0, er, L, Nat.pos_of_ne_zero (by simp), rfl, h2, h3, Nat.le_refl _, fun e => absurd e he, fun _ => rfl⟩
  · refine (get_ok7 h k x L' hk hg).mono ?_
    rintro e w' ⟨rfl, h2, h3⟩
    have := getL_len hg
    exact ⟨x, er, L', getL_lt hg, rfl, h2, h3, by omega, fun e => .inl ⟨e, hg⟩, fun _ => rfl⟩

/-- What lengths leaves. -/
def RLen (R : Option (List Int × Bts)) (w : World) (b : Nat) (v : Value) (s : ByteArray) (most : Nat) (xs : List Nat) (e : Ending) (w' : World) : Prop :=
  (R = none → ∃ a n cap L', e = .returned (.slice a n cap) ∧ FS w' b v s most L' xs 700 ∧ Keeps (fun k => k = b) w w') ∧
  ∀ all L', R = some (all, L') → ∃ u, e = .returned u ∧ Own w' w.heap.size u all ∧ FS w' b v s most L' xs 0 ∧ Keeps (fun k => k = b) w w'
theorem RLen.noneI {w : World} {b : Nat} {v : Value} {s : ByteArray} {most : Nat} {xs : List Nat} {w' : World} {a : Option Addr} {n cap : Nat} {L' : Bts} (h : FS w' b v s most L' xs 700) (k : Keeps (fun k => k = b) w w') : RLen none w b v s most xs (.returned (.slice a n cap)) w' :=
  ⟨fun _ => ⟨a, n, cap, L', rfl, h, k⟩, fun _ _ e => by cases e⟩
/-- How lengths stands. -/
def Lst (R : Option (List Int × Bts)) (ys : List Int) (many : Nat) (w : World) (b : Nat) (v : Value) (s : ByteArray) (most : Nat) (xs : List Nat) (w' : World) (a : Option Addr) (n cap : Nat) (L1 : Bts) : Prop :=
  ∃ (er : Int) (out : List Int), out.length = n ∧ ((er = 0 ∧ runs ys many out L1 = R) ∨ (er = 700 ∧ R = none)) ∧ FS w' b v s most L1 xs er ∧ Keeps (fun k => k = b) w w' ∧ Own w' w.heap.size (.slice a n cap) out
theorem own_at {w : World} {base : Nat} {a : Option Addr} {n cap : Nat} {xs : List Int} (h : Own w base (.slice a n cap) xs) (hl : xs.length = n) : Row w a xs := by
  subst hl
  obtain ⟨a', c', e, r, _⟩ := own_row h
  cases e
  exact r

set_option maxHeartbeats 16000000 in
set_option maxRecDepth 100000 in
theorem rlengths_ok {w : World} {b : Nat} {v : Value} {s : ByteArray} {most : Nat} {L : Bts} {xs : List Nat} (h : FS w b v s most L xs 0) {lo hi q : Nat} {ys : List Int} (hB : RBk w lo hi q ys) (ha : b < lo ∨ hi ≤ b) (hl : ys.length ≤ 288) (many : Nat) (hm : many ≤ 1000) :
    Calls Tryz.prog 108 #[.pointer (some ⟨b, 0, none⟩), .pointer (some ⟨q, 0, none⟩), .int .i64 (many : Int)] w (RLen (runs ys many [] L) w b v s most xs) := by
  obtain ⟨R, hR⟩ : ∃ R, runs ys many [] L = R := ⟨_, rfl⟩
  rw [hR]
  have HB : Hid (∀ w', Keeps (fun k => k = b) w w' → RBk w' lo hi q ys) := fun w' k => hB.kept k (fun k h1 h2 e => by omega)
  have HV : Hid (b < w.heap.size ∧ ∀ k, v.ownBlock = some k → k < w.heap.size) := ⟨h.lt, fun k e => (h.ownlt k e).2⟩
  have HX : Hid ((b < lo ∨ hi ≤ b) ∧ ys.length ≤ 288) := ⟨ha, hl⟩
  have H0 : Hid (∃ L1, Lst R ys many w b v s most xs w none 0 0 L1) := ⟨L, 0, [], rfl, .inl ⟨rfl, hR⟩, h, Keeps.refl _ _, World.ownsRow_nil w _ 3 1⟩
  clear h hB ha hl hR
  go_enter Tryz.func108, Tryz.ntmps108
  go_wp2
  go_loopw [7] (fun s7 w' => ∃ (a : Option Addr) (n cap : Nat), s7 = .slice a n cap ∧ n ≤ many ∧ Hid (∃ L1, Lst R ys many w b v s most xs w' a n cap L1)) (fun _ w' => 8 * s.size - posOf w' b)
  case atStart => exact ⟨none, 0, 0, rfl, by omega, H0⟩
  case round =>
    clear H0
    obtain ⟨wo, hwo⟩ : ∃ x, x = wr := ⟨_, rfl⟩
    subst hwo
    obtain ⟨a, n, cap, hs7, hn, HW⟩ := hrel
    obtain rfl := hs7.symm
    clear hs7
    obtain ⟨L1, er, out, hlen, hE, hS, hK, hO⟩ := HW.out
    clear HW
    obtain ⟨c2, c3, c4, cf, p0, c1⟩ := hS.cell
    clear c2 c3 cf c1
    rcases hE with ⟨rfl, hE⟩ | ⟨rfl, rfl⟩
    · by_cases hnm : n < many
      · have hnz : (n : Int) < (many : Int) := by omega
        have HS : Hid (FS wo b v s most L1 xs 0 ∧ Keeps (fun k => k = b) w wo ∧ Own wo w.heap.size (.slice a n cap) out ∧ out.length = n ∧ runs ys many out L1 = R) := ⟨hS, hK, hO, hlen, hE⟩
        have HC : Hid (Calls Tryz.prog 107 #[.pointer (some ⟨b, 0, none⟩), .pointer (some ⟨q, 0, none⟩)] wo (RSym (symN ys L1) wo b v s most xs)) := rsymbol_ok hS (HB.out wo hK) HX.out.1 HX.out.2
        clear hlen hE hS hK hO
        go_wp2_with fail
        refine HC.out.mono ?_
        intro e w2 hP
        clear HC c4
        rcases h1 : symN ys L1 with _ | ⟨i, L2⟩
        · obtain ⟨rfl, ⟨L', hS2⟩, hk⟩ := hP.1 h1
          obtain ⟨c2, c3, c4, cf, p0, c1⟩ := hS2.cell
          have e : R = none := by rw [← HS.out.2.2.2.2, runs_none1 (by rw [HS.out.2.2.2.1]; exact hnm) h1]
          subst e
          have HQ : Hid (FS w2 b v s most L' xs 700 ∧ Keeps (fun k => k = b) w w2) := ⟨hS2, HS.out.2.1.trans hk (fun _ _ h => h)⟩
          clear hP h1 hk hS2 c2 c3 cf c1
          go_wp2
          go_ret
          exact RLen.noneI HQ.out.1 HQ.out.2
        · obtain ⟨rfl, hS2, hk2⟩ := hP.2 i L2 h1
          obtain ⟨c2, c3, c4, cf, p0, c1⟩ := hS2.cell
          have HL : Hid (symN ys L1 = some (i, L2) ∧ L2.length < L1.length) := ⟨h1, symN_len h1⟩
          have hi3 : i ≤ 300 := by have := symN_small h1; have := HX.out.2; omega
          have hbl : ∀ k, (Value.slice a n cap).ownBlock = some k → ¬ k = b := fun k e e2 => by
            have := (World.ownsRow.lt HS.out.2.2.1 k e).1; have := HV.out.1; omega
          have H2 : Hid (FS w2 b v s most L2 xs 0 ∧ Keeps (fun k => k = b) w w2 ∧ Own w2 w.heap.size (.slice a n cap) out ∧ ∀ k, (Value.slice a n cap).ownBlock = some k → ¬ k = b) := ⟨hS2, HS.out.2.1.trans hk2 (fun _ _ h => h), HS.out.2.2.1.kept hk2 hbl, hbl⟩
          clear hP h1 hS2 hk2 c2 c3 cf c1 hbl
          by_cases h16 : i = 16
          · subst h16
            by_cases h0 : n = 0
            · subst h0
              have e : R = none := by rw [← HS.out.2.2.2.2, runs_none2 (by rw [HS.out.2.2.2.1]; exact hnm) HL.out.1 (by unfold rle; rw [if_pos rfl, if_pos HS.out.2.2.2.1]; rfl)]
              subst e
              have HC : Hid (Calls Tryz.prog 67 #[.pointer (some ⟨b, 0, none⟩)] w2 fun e w' => e = .returned (.tuple #[]) ∧ FS w' b v s most L2 xs 700 ∧ Keeps (fun k => k = b) w2 w') := wrong_ok H2.out.1
              go_wp2_with fail
              refine HC.out.mono ?_
              rintro e w4 ⟨rfl, hS4, hK4⟩
              have HQ : Hid (FS w4 b v s most L2 xs 700 ∧ Keeps (fun k => k = b) w w4) := ⟨hS4, H2.out.2.1.trans hK4 (fun _ _ h => h)⟩
              clear HC hS4 hK4 c4
              go_wp2
              go_ret
              exact RLen.noneI HQ.out.1 HQ.out.2
            · have hn0 : ¬ ((n : Int) = 0) := by omega
              have hn0b : ((n : Int) == 0) = false := by simp; omega
              obtain ⟨gq, off, hgq, hq1, hq2⟩ := (own_at H2.out.2.2.1 HS.out.2.2.2.1).spot (by rw [HS.out.2.2.2.1]; omega)
              obtain ⟨jj, hjj⟩ : ∃ jj, n - 1 = jj := ⟨_, rfl⟩
              have hcell := hq2 jj (by rw [HS.out.2.2.2.1]; omega)
              rw [← at_eq jj (by rw [HS.out.2.2.2.1]; omega)] at hcell
              obtain ⟨y, hy⟩ : ∃ y, at_ out jj = y := ⟨_, rfl⟩
              rw [hy] at hcell
              have HRl : Hid (rle 16 out L2 = bnd (aboveL 3 2) (fun m => retL (List.replicate m y)) L2) := by show _ = _; unfold rle; rw [if_pos rfl, if_neg (by rw [HS.out.2.2.2.1]; exact h0), HS.out.2.2.2.1, hjj, hy]
              have hw1 : IntKind.i64.wrap ((n : Int) - 1) = (jj : Int) := by rw [wrap_i64_small _ (by omega) (by omega)]; omega
              have hw2 : wrap64 ((n : Int) - 1) = (jj : Int) := by unfold wrap64; omega
              have hw3 : (n : Int) - 1 = (jj : Int) := by omega
              have hjn : (jj : Int) < (n : Int) := by omega
              obtain rfl := hgq
              clear hq1 hq2 hjj hy
              have HC : Hid (Calls Tryz.prog 62 #[.pointer (some ⟨b, 0, none⟩), .int .i64 2] w2 (GP 2 L2 0 w2 b v s most xs)) := get_gen H2.out.1 2 (by omega)
              go_wp2_with fail
              refine HC.out.mono ?_
              rintro e w3 ⟨x, er3, L3, hx, rfl, hS3, hK3, hL3, hG, _⟩
              have hx7 : x < 4 := hx
              clear hx HC c4
              obtain ⟨c2, c3, c4, cf, p0, c1⟩ := hS3.cell
              clear c2 c3 cf c1
              rcases hG rfl with ⟨rfl, hg⟩ | ⟨rfl, hg⟩
              · have H3 : Hid (runs ys many (out ++ List.replicate (3 + x) y) L3 = R ∧ FS w3 b v s most L3 xs 0 ∧ Keeps (fun k => k = b) w w3 ∧ Own w3 w.heap.size (.slice (some ⟨gq, off, none⟩) n cap) out ∧ L3.length < L1.length) := by
                  refine ⟨?_, hS3, H2.out.2.1.trans hK3 (fun _ _ h => h), H2.out.2.2.1.kept hK3 H2.out.2.2.2, by have := HL.out.2; omega⟩
                  rw [← HS.out.2.2.2.2]
                  exact (runs_next (by rw [HS.out.2.2.2.1]; exact hnm) HL.out.1 (by rw [HRl.out]; unfold aboveL; simp [bnd, hg, retL])).symm
                clear hS3 hK3 hG hg hL3
                by_cases hov : many < n + (3 + x)
                · have hovz : (many : Int) < (n : Int) + (3 + (x : Int)) := by omega
                  have e : R = none := by rw [← H3.out.1]; exact runs_over (by rw [List.length_append, List.length_replicate, HS.out.2.2.2.1]; exact hov)
                  subst e
                  have HC : Hid (Calls Tryz.prog 67 #[.pointer (some ⟨b, 0, none⟩)] w3 fun e w' => e = .returned (.tuple #[]) ∧ FS w' b v s most L3 xs 700 ∧ Keeps (fun k => k = b) w3 w') := wrong_ok H3.out.2.1
                  go_wp2_with fail
                  refine HC.out.mono ?_
                  rintro e w4 ⟨rfl, hS4, hK4⟩
                  obtain ⟨c2, c3, c4', cf, p0, c1⟩ := hS4.cell
                  have H4 : Hid (FS w4 b v s most L3 xs 700 ∧ Keeps (fun k => k = b) w w4 ∧ Own w4 w.heap.size (.slice (some ⟨gq, off, none⟩) n cap) out ∧ out.length = n ∧ L3.length < L1.length) := ⟨hS4, H3.out.2.2.1.trans hK4 (fun _ _ h => h), H3.out.2.2.2.1.kept hK4 H2.out.2.2.2, HS.out.2.2.2.1, H3.out.2.2.2.2⟩
                  clear HC hS4 hK4 c2 c3 cf c1 c4
                  go_wp2
                  go_loopw [7, 11] (fun s7 s11 w' => s7 = .slice (some ⟨gq, off, none⟩) n cap ∧ s11 = .int .i64 0 ∧ w' = w4) (fun _ _ _ => 0)
                  case atStart => exact ⟨rfl, rfl, rfl⟩
                  case round =>
                    obtain ⟨rfl, rfl, rfl⟩ := hrel
                    go_wp2
                    go_roundw
                    case rel =>
                      obtain ⟨k1, k2, k3, k4, k5⟩ := H4.out
                      exact ⟨(some ⟨gq, off, none⟩), n, cap, rfl, by omega, L3, 700, out, k4, .inr ⟨rfl, rfl⟩, k1, k2, k3⟩
                    case measure =>
                      obtain ⟨k1, k2, k3, k4, k5⟩ := H4.out
                      rw [k1.left, HS.out.1.left]; exact k5

                · have hovz : ¬ (many : Int) < (n : Int) + (3 + (x : Int)) := by omega
                  go_wp2
                  go_loopw [7, 11] (fun s7 s11 w' => ∃ (j : Nat) (a' : Option Addr) (cap' : Nat), j ≤ (3 + x) ∧ s11 = .int .i64 (j : Int) ∧ s7 = .slice a' (n + j) cap' ∧ Hid (Own w' w.heap.size (.slice a' (n + j) cap') (out ++ List.replicate j y) ∧ FS w' b v s most L3 xs 0 ∧ Keeps (fun k => k = b) w w')) (fun _ s11 _ => ((((3 + x) : Nat) : Int) - intOf s11).toNat)
                  case atStart => exact ⟨0, (some ⟨gq, off, none⟩), cap, by omega, rfl, rfl, by rw [List.replicate_zero, List.append_nil]; exact H3.out.2.2.2.1, H3.out.2.1, H3.out.2.2.1⟩
                  case round =>
                    clear c4
                    obtain ⟨j, a', cap', hj, rfl, hs7, HW⟩ := hrel
                    obtain rfl := hs7.symm
                    clear hs7
                    obtain ⟨c2, c3, c4, cf, p0, c1⟩ := HW.out.2.1.cell
                    clear c2 c3 cf c1
                    obtain ⟨n', hn'⟩ : ∃ n', n + j = n' := ⟨_, rfl⟩
                    have HO : Hid (wr.ownsRow w.heap.size 3 1 (.slice a' n' cap') n' (intsV (out ++ List.replicate j y))) := by
                      have := HW.out.1
                      unfold Own at this
                      rw [List.length_append, List.length_replicate, HS.out.2.2.2.1, hn'] at this
                      exact this
                    rw [hn'] at HW ⊢
                    have HN : Hid (n + j = n') := hn'
                    have hn2 : n' ≤ 2000 := by omega
                    clear hn'
                    by_cases hjm : j < (3 + x)
                    · have hjz : (j : Int) < (3 + (x : Int)) := by omega
                      go_wp2_with (refine wpList_nat rfl _ _ rfl w.heap.size (.slice a' n' cap') n' (intsV (out ++ List.replicate j y)) rfl (HO.out.alloc _) wr.heap.size y rfl (heap_alloc_new wr _) (by have := HW.out.2.2.size; simp; omega) (by omega) ?_; intro g4 cap4 w6 hown4 hgrow4 hat4 hlt4)
                      go_roundw
                      case rel =>
                        have kk : Keeps (fun x => (Value.slice a' n' cap').ownBlock = some x) wr w6 := (((Keeps.refl _ wr).alloc _)).grown hgrow4 (fun x _ e => e)
                        have hlow : ∀ x, (Value.slice a' n' cap').ownBlock = some x → w.heap.size ≤ x := fun x e => (World.ownsRow.lt HO.out x e).1
                        refine ⟨j + 1, _, cap4, by omega, by push_cast; rfl, by rw [show n + (j + 1) = n' + 1 by have := HN.out; omega], ?_, HW.out.2.1.keptS kk (fun e => by have := hlow b e; have := HV.out.1; omega) (fun k e e2 => by have := hlow k e2; have := HV.out.2 k e; omega), HW.out.2.2.trans kk (fun x hx e => by have := hlow x e; omega)⟩
                        unfold Own
                        rw [List.replicate_succ', ← List.append_assoc, List.length_append, List.length_append, List.length_replicate, HS.out.2.2.2.1, HN.out, show n + (j + 1) = n' + 1 by have := HN.out; omega]
                        simpa [intsV] using hown4
                      case measure => simp [intOf]; omega
                    · obtain rfl : j = (3 + x) := by omega
                      have hjz : ¬ ((((3 + x) : Nat) : Int) < (3 + (x : Int))) := by omega
                      go_wp2
                      go_roundw
                      case rel =>
                        refine ⟨a', n', cap', rfl, by have := HN.out; omega, L3, 0, out ++ List.replicate ((3 + x)) y, ?_, .inl ⟨rfl, H3.out.1⟩, HW.out.2.1, HW.out.2.2, HW.out.1⟩
                        rw [List.length_append, List.length_replicate, HS.out.2.2.2.1, HN.out]
                      case measure => rw [HW.out.2.1.left, HS.out.1.left]; exact H3.out.2.2.2.2

              · have e : R = none := by rw [← HS.out.2.2.2.2, runs_none2 (by rw [HS.out.2.2.2.1]; exact hnm) HL.out.1 (by rw [HRl.out]; unfold aboveL; simp [bnd, hg])]
                subst e
                have H4 : Hid (FS w3 b v s most L3 xs 700 ∧ Keeps (fun k => k = b) w w3 ∧ Own w3 w.heap.size (.slice (some ⟨gq, off, none⟩) n cap) out ∧ out.length = n ∧ L3.length < L1.length) := ⟨hS3, H2.out.2.1.trans hK3 (fun _ _ h => h), H2.out.2.2.1.kept hK3 H2.out.2.2.2, HS.out.2.2.2.1, by have := HL.out.2; omega⟩
                clear hS3 hK3 hG hg hL3
                go_wp2
                go_loopw [7, 11] (fun s7 s11 w' => s7 = .slice (some ⟨gq, off, none⟩) n cap ∧ s11 = .int .i64 0 ∧ w' = w3) (fun _ _ _ => 0)
                case atStart => exact ⟨rfl, rfl, rfl⟩
                case round =>
                  obtain ⟨rfl, rfl, rfl⟩ := hrel
                  go_wp2
                  go_roundw
                  case rel =>
                    obtain ⟨k1, k2, k3, k4, k5⟩ := H4.out
                    exact ⟨(some ⟨gq, off, none⟩), n, cap, rfl, by omega, L3, 700, out, k4, .inr ⟨rfl, rfl⟩, k1, k2, k3⟩
                  case measure =>
                    obtain ⟨k1, k2, k3, k4, k5⟩ := H4.out
                    rw [k1.left, HS.out.1.left]; exact k5
          · have h16n : ¬ ((i : Int) = 16) := by omega
            have h16b : ((i : Int) == 16) = false := by simp; omega
            by_cases h17 : i = 17
            · subst h17
              have HRl : Hid (rle 17 out L2 = bnd (aboveL 3 3) (fun m => retL (List.replicate m 0)) L2) := rfl
              have HC : Hid (Calls Tryz.prog 62 #[.pointer (some ⟨b, 0, none⟩), .int .i64 3] w2 (GP 3 L2 0 w2 b v s most xs)) := get_gen H2.out.1 3 (by omega)
              go_wp2_with fail
              refine HC.out.mono ?_
              rintro e w3 ⟨x, er3, L3, hx, rfl, hS3, hK3, hL3, hG, _⟩
              have hx7 : x < 8 := hx
              clear hx HC c4
              obtain ⟨c2, c3, c4, cf, p0, c1⟩ := hS3.cell
              clear c2 c3 cf c1
              rcases hG rfl with ⟨rfl, hg⟩ | ⟨rfl, hg⟩
              · have H3 : Hid (runs ys many (out ++ List.replicate (3 + x) 0) L3 = R ∧ FS w3 b v s most L3 xs 0 ∧ Keeps (fun k => k = b) w w3 ∧ Own w3 w.heap.size (.slice a n cap) out ∧ L3.length < L1.length) := by
                  refine ⟨?_, hS3, H2.out.2.1.trans hK3 (fun _ _ h => h), H2.out.2.2.1.kept hK3 H2.out.2.2.2, by have := HL.out.2; omega⟩
                  rw [← HS.out.2.2.2.2]
                  exact (runs_next (by rw [HS.out.2.2.2.1]; exact hnm) HL.out.1 (by rw [HRl.out]; unfold aboveL; simp [bnd, hg, retL])).symm
                clear hS3 hK3 hG hg hL3
                by_cases hov : many < n + (3 + x)
                · have hovz : (many : Int) < (n : Int) + (3 + (x : Int)) := by omega
                  have e : R = none := by rw [← H3.out.1]; exact runs_over (by rw [List.length_append, List.length_replicate, HS.out.2.2.2.1]; exact hov)
                  subst e
                  have HC : Hid (Calls Tryz.prog 67 #[.pointer (some ⟨b, 0, none⟩)] w3 fun e w' => e = .returned (.tuple #[]) ∧ FS w' b v s most L3 xs 700 ∧ Keeps (fun k => k = b) w3 w') := wrong_ok H3.out.2.1
                  go_wp2_with fail
                  refine HC.out.mono ?_
                  rintro e w4 ⟨rfl, hS4, hK4⟩
                  obtain ⟨c2, c3, c4', cf, p0, c1⟩ := hS4.cell
                  have H4 : Hid (FS w4 b v s most L3 xs 700 ∧ Keeps (fun k => k = b) w w4 ∧ Own w4 w.heap.size (.slice a n cap) out ∧ out.length = n ∧ L3.length < L1.length) := ⟨hS4, H3.out.2.2.1.trans hK4 (fun _ _ h => h), H3.out.2.2.2.1.kept hK4 H2.out.2.2.2, HS.out.2.2.2.1, H3.out.2.2.2.2⟩
                  clear HC hS4 hK4 c2 c3 cf c1 c4
                  go_wp2
                  go_loopw [7, 11] (fun s7 s11 w' => s7 = .slice a n cap ∧ s11 = .int .i64 0 ∧ w' = w4) (fun _ _ _ => 0)
                  case atStart => exact ⟨rfl, rfl, rfl⟩
                  case round =>
                    obtain ⟨rfl, rfl, rfl⟩ := hrel
                    go_wp2
                    go_roundw
                    case rel =>
                      obtain ⟨k1, k2, k3, k4, k5⟩ := H4.out
                      exact ⟨a, n, cap, rfl, by omega, L3, 700, out, k4, .inr ⟨rfl, rfl⟩, k1, k2, k3⟩
                    case measure =>
                      obtain ⟨k1, k2, k3, k4, k5⟩ := H4.out
                      rw [k1.left, HS.out.1.left]; exact k5

                · have hovz : ¬ (many : Int) < (n : Int) + (3 + (x : Int)) := by omega
                  go_wp2
                  go_loopw [7, 11] (fun s7 s11 w' => ∃ (j : Nat) (a' : Option Addr) (cap' : Nat), j ≤ (3 + x) ∧ s11 = .int .i64 (j : Int) ∧ s7 = .slice a' (n + j) cap' ∧ Hid (Own w' w.heap.size (.slice a' (n + j) cap') (out ++ List.replicate j 0) ∧ FS w' b v s most L3 xs 0 ∧ Keeps (fun k => k = b) w w')) (fun _ s11 _ => ((((3 + x) : Nat) : Int) - intOf s11).toNat)
                  case atStart => exact ⟨0, a, cap, by omega, rfl, rfl, by rw [List.replicate_zero, List.append_nil]; exact H3.out.2.2.2.1, H3.out.2.1, H3.out.2.2.1⟩
                  case round =>
                    clear c4
                    obtain ⟨j, a', cap', hj, rfl, hs7, HW⟩ := hrel
                    obtain rfl := hs7.symm
                    clear hs7
                    obtain ⟨c2, c3, c4, cf, p0, c1⟩ := HW.out.2.1.cell
                    clear c2 c3 cf c1
                    obtain ⟨n', hn'⟩ : ∃ n', n + j = n' := ⟨_, rfl⟩
                    have HO : Hid (wr.ownsRow w.heap.size 3 1 (.slice a' n' cap') n' (intsV (out ++ List.replicate j 0))) := by
                      have := HW.out.1
                      unfold Own at this
                      rw [List.length_append, List.length_replicate, HS.out.2.2.2.1, hn'] at this
                      exact this
                    rw [hn'] at HW ⊢
                    have HN : Hid (n + j = n') := hn'
                    have hn2 : n' ≤ 2000 := by omega
                    clear hn'
                    by_cases hjm : j < (3 + x)
                    · have hjz : (j : Int) < (3 + (x : Int)) := by omega
                      go_wp2_with (refine wpList_nat rfl _ _ rfl w.heap.size (.slice a' n' cap') n' (intsV (out ++ List.replicate j 0)) rfl (HO.out.alloc _) wr.heap.size 0 rfl (heap_alloc_new wr _) (by have := HW.out.2.2.size; simp; omega) (by omega) ?_; intro g4 cap4 w6 hown4 hgrow4 hat4 hlt4)
                      go_roundw
                      case rel =>
                        have kk : Keeps (fun x => (Value.slice a' n' cap').ownBlock = some x) wr w6 := (((Keeps.refl _ wr).alloc _)).grown hgrow4 (fun x _ e => e)
                        have hlow : ∀ x, (Value.slice a' n' cap').ownBlock = some x → w.heap.size ≤ x := fun x e => (World.ownsRow.lt HO.out x e).1
                        refine ⟨j + 1, _, cap4, by omega, by push_cast; rfl, by rw [show n + (j + 1) = n' + 1 by have := HN.out; omega], ?_, HW.out.2.1.keptS kk (fun e => by have := hlow b e; have := HV.out.1; omega) (fun k e e2 => by have := hlow k e2; have := HV.out.2 k e; omega), HW.out.2.2.trans kk (fun x hx e => by have := hlow x e; omega)⟩
                        unfold Own
                        rw [List.replicate_succ', ← List.append_assoc, List.length_append, List.length_append, List.length_replicate, HS.out.2.2.2.1, HN.out, show n + (j + 1) = n' + 1 by have := HN.out; omega]
                        simpa [intsV] using hown4
                      case measure => simp [intOf]; omega
                    · obtain rfl : j = (3 + x) := by omega
                      have hjz : ¬ ((((3 + x) : Nat) : Int) < (3 + (x : Int))) := by omega
                      go_wp2
                      go_roundw
                      case rel =>
                        refine ⟨a', n', cap', rfl, by have := HN.out; omega, L3, 0, out ++ List.replicate ((3 + x)) 0, ?_, .inl ⟨rfl, H3.out.1⟩, HW.out.2.1, HW.out.2.2, HW.out.1⟩
                        rw [List.length_append, List.length_replicate, HS.out.2.2.2.1, HN.out]
                      case measure => rw [HW.out.2.1.left, HS.out.1.left]; exact H3.out.2.2.2.2

              · have e : R = none := by rw [← HS.out.2.2.2.2, runs_none2 (by rw [HS.out.2.2.2.1]; exact hnm) HL.out.1 (by rw [HRl.out]; unfold aboveL; simp [bnd, hg])]
                subst e
                have H4 : Hid (FS w3 b v s most L3 xs 700 ∧ Keeps (fun k => k = b) w w3 ∧ Own w3 w.heap.size (.slice a n cap) out ∧ out.length = n ∧ L3.length < L1.length) := ⟨hS3, H2.out.2.1.trans hK3 (fun _ _ h => h), H2.out.2.2.1.kept hK3 H2.out.2.2.2, HS.out.2.2.2.1, by have := HL.out.2; omega⟩
                clear hS3 hK3 hG hg hL3
                go_wp2
                go_loopw [7, 11] (fun s7 s11 w' => s7 = .slice a n cap ∧ s11 = .int .i64 0 ∧ w' = w3) (fun _ _ _ => 0)
                case atStart => exact ⟨rfl, rfl, rfl⟩
                case round =>
                  obtain ⟨rfl, rfl, rfl⟩ := hrel
                  go_wp2
                  go_roundw
                  case rel =>
                    obtain ⟨k1, k2, k3, k4, k5⟩ := H4.out
                    exact ⟨a, n, cap, rfl, by omega, L3, 700, out, k4, .inr ⟨rfl, rfl⟩, k1, k2, k3⟩
                  case measure =>
                    obtain ⟨k1, k2, k3, k4, k5⟩ := H4.out
                    rw [k1.left, HS.out.1.left]; exact k5
            · have h17n : ¬ ((i : Int) = 17) := by omega
              have h17b : ((i : Int) == 17) = false := by simp; omega
              by_cases h18 : i = 18
              · subst h18
                have HRl : Hid (rle 18 out L2 = bnd (aboveL 11 7) (fun m => retL (List.replicate m 0)) L2) := rfl
                have HC : Hid (Calls Tryz.prog 62 #[.pointer (some ⟨b, 0, none⟩), .int .i64 7] w2 (GP 7 L2 0 w2 b v s most xs)) := get_gen H2.out.1 7 (by omega)
                go_wp2_with fail
                refine HC.out.mono ?_
                rintro e w3 ⟨x, er3, L3, hx, rfl, hS3, hK3, hL3, hG, _⟩
                have hx7 : x < 128 := hx
                clear hx HC c4
                obtain ⟨c2, c3, c4, cf, p0, c1⟩ := hS3.cell
                clear c2 c3 cf c1
                rcases hG rfl with ⟨rfl, hg⟩ | ⟨rfl, hg⟩
                · have H3 : Hid (runs ys many (out ++ List.replicate (11 + x) 0) L3 = R ∧ FS w3 b v s most L3 xs 0 ∧ Keeps (fun k => k = b) w w3 ∧ Own w3 w.heap.size (.slice a n cap) out ∧ L3.length < L1.length) := by
                    refine ⟨?_, hS3, H2.out.2.1.trans hK3 (fun _ _ h => h), H2.out.2.2.1.kept hK3 H2.out.2.2.2, by have := HL.out.2; omega⟩
                    rw [← HS.out.2.2.2.2]
                    exact (runs_next (by rw [HS.out.2.2.2.1]; exact hnm) HL.out.1 (by rw [HRl.out]; unfold aboveL; simp [bnd, hg, retL])).symm
                  clear hS3 hK3 hG hg hL3
                  by_cases hov : many < n + (11 + x)
                  · have hovz : (many : Int) < (n : Int) + (11 + (x : Int)) := by omega
                    have e : R = none := by rw [← H3.out.1]; exact runs_over (by rw [List.length_append, List.length_replicate, HS.out.2.2.2.1]; exact hov)
                    subst e
                    have HC : Hid (Calls Tryz.prog 67 #[.pointer (some ⟨b, 0, none⟩)] w3 fun e w' => e = .returned (.tuple #[]) ∧ FS w' b v s most L3 xs 700 ∧ Keeps (fun k => k = b) w3 w') := wrong_ok H3.out.2.1
                    go_wp2_with fail
                    refine HC.out.mono ?_
                    rintro e w4 ⟨rfl, hS4, hK4⟩
                    obtain ⟨c2, c3, c4', cf, p0, c1⟩ := hS4.cell
                    have H4 : Hid (FS w4 b v s most L3 xs 700 ∧ Keeps (fun k => k = b) w w4 ∧ Own w4 w.heap.size (.slice a n cap) out ∧ out.length = n ∧ L3.length < L1.length) := ⟨hS4, H3.out.2.2.1.trans hK4 (fun _ _ h => h), H3.out.2.2.2.1.kept hK4 H2.out.2.2.2, HS.out.2.2.2.1, H3.out.2.2.2.2⟩
                    clear HC hS4 hK4 c2 c3 cf c1 c4
                    go_wp2
                    go_loopw [7, 11] (fun s7 s11 w' => s7 = .slice a n cap ∧ s11 = .int .i64 0 ∧ w' = w4) (fun _ _ _ => 0)
                    case atStart => exact ⟨rfl, rfl, rfl⟩
                    case round =>
                      obtain ⟨rfl, rfl, rfl⟩ := hrel
                      go_wp2
                      go_roundw
                      case rel =>
                        obtain ⟨k1, k2, k3, k4, k5⟩ := H4.out
                        exact ⟨a, n, cap, rfl, by omega, L3, 700, out, k4, .inr ⟨rfl, rfl⟩, k1, k2, k3⟩
                      case measure =>
                        obtain ⟨k1, k2, k3, k4, k5⟩ := H4.out
                        rw [k1.left, HS.out.1.left]; exact k5

                  · have hovz : ¬ (many : Int) < (n : Int) + (11 + (x : Int)) := by omega
                    go_wp2
                    go_loopw [7, 11] (fun s7 s11 w' => ∃ (j : Nat) (a' : Option Addr) (cap' : Nat), j ≤ (11 + x) ∧ s11 = .int .i64 (j : Int) ∧ s7 = .slice a' (n + j) cap' ∧ Hid (Own w' w.heap.size (.slice a' (n + j) cap') (out ++ List.replicate j 0) ∧ FS w' b v s most L3 xs 0 ∧ Keeps (fun k => k = b) w w')) (fun _ s11 _ => ((((11 + x) : Nat) : Int) - intOf s11).toNat)
                    case atStart => exact ⟨0, a, cap, by omega, rfl, rfl, by rw [List.replicate_zero, List.append_nil]; exact H3.out.2.2.2.1, H3.out.2.1, H3.out.2.2.1⟩
                    case round =>
                      clear c4
                      obtain ⟨j, a', cap', hj, rfl, hs7, HW⟩ := hrel
                      obtain rfl := hs7.symm
                      clear hs7
                      obtain ⟨c2, c3, c4, cf, p0, c1⟩ := HW.out.2.1.cell
                      clear c2 c3 cf c1
                      obtain ⟨n', hn'⟩ : ∃ n', n + j = n' := ⟨_, rfl⟩
                      have HO : Hid (wr.ownsRow w.heap.size 3 1 (.slice a' n' cap') n' (intsV (out ++ List.replicate j 0))) := by
                        have := HW.out.1
                        unfold Own at this
                        rw [List.length_append, List.length_replicate, HS.out.2.2.2.1, hn'] at this
                        exact this
                      rw [hn'] at HW ⊢
                      have HN : Hid (n + j = n') := hn'
                      have hn2 : n' ≤ 2000 := by omega
                      clear hn'
                      by_cases hjm : j < (11 + x)
                      · have hjz : (j : Int) < (11 + (x : Int)) := by omega
                        go_wp2_with (refine wpList_nat rfl _ _ rfl w.heap.size (.slice a' n' cap') n' (intsV (out ++ List.replicate j 0)) rfl (HO.out.alloc _) wr.heap.size 0 rfl (heap_alloc_new wr _) (by have := HW.out.2.2.size; simp; omega) (by omega) ?_; intro g4 cap4 w6 hown4 hgrow4 hat4 hlt4)
                        go_roundw
                        case rel =>
                          have kk : Keeps (fun x => (Value.slice a' n' cap').ownBlock = some x) wr w6 := (((Keeps.refl _ wr).alloc _)).grown hgrow4 (fun x _ e => e)
                          have hlow : ∀ x, (Value.slice a' n' cap').ownBlock = some x → w.heap.size ≤ x := fun x e => (World.ownsRow.lt HO.out x e).1
                          refine ⟨j + 1, _, cap4, by omega, by push_cast; rfl, by rw [show n + (j + 1) = n' + 1 by have := HN.out; omega], ?_, HW.out.2.1.keptS kk (fun e => by have := hlow b e; have := HV.out.1; omega) (fun k e e2 => by have := hlow k e2; have := HV.out.2 k e; omega), HW.out.2.2.trans kk (fun x hx e => by have := hlow x e; omega)⟩
                          unfold Own
                          rw [List.replicate_succ', ← List.append_assoc, List.length_append, List.length_append, List.length_replicate, HS.out.2.2.2.1, HN.out, show n + (j + 1) = n' + 1 by have := HN.out; omega]
                          simpa [intsV] using hown4
                        case measure => simp [intOf]; omega
                      · obtain rfl : j = (11 + x) := by omega
                        have hjz : ¬ ((((11 + x) : Nat) : Int) < (11 + (x : Int))) := by omega
                        go_wp2
                        go_roundw
                        case rel =>
                          refine ⟨a', n', cap', rfl, by have := HN.out; omega, L3, 0, out ++ List.replicate ((11 + x)) 0, ?_, .inl ⟨rfl, H3.out.1⟩, HW.out.2.1, HW.out.2.2, HW.out.1⟩
                          rw [List.length_append, List.length_replicate, HS.out.2.2.2.1, HN.out]
                        case measure => rw [HW.out.2.1.left, HS.out.1.left]; exact H3.out.2.2.2.2

                · have e : R = none := by rw [← HS.out.2.2.2.2, runs_none2 (by rw [HS.out.2.2.2.1]; exact hnm) HL.out.1 (by rw [HRl.out]; unfold aboveL; simp [bnd, hg])]
                  subst e
                  have H4 : Hid (FS w3 b v s most L3 xs 700 ∧ Keeps (fun k => k = b) w w3 ∧ Own w3 w.heap.size (.slice a n cap) out ∧ out.length = n ∧ L3.length < L1.length) := ⟨hS3, H2.out.2.1.trans hK3 (fun _ _ h => h), H2.out.2.2.1.kept hK3 H2.out.2.2.2, HS.out.2.2.2.1, by have := HL.out.2; omega⟩
                  clear hS3 hK3 hG hg hL3
                  go_wp2
                  go_loopw [7, 11] (fun s7 s11 w' => s7 = .slice a n cap ∧ s11 = .int .i64 0 ∧ w' = w3) (fun _ _ _ => 0)
                  case atStart => exact ⟨rfl, rfl, rfl⟩
                  case round =>
                    obtain ⟨rfl, rfl, rfl⟩ := hrel
                    go_wp2
                    go_roundw
                    case rel =>
                      obtain ⟨k1, k2, k3, k4, k5⟩ := H4.out
                      exact ⟨a, n, cap, rfl, by omega, L3, 700, out, k4, .inr ⟨rfl, rfl⟩, k1, k2, k3⟩
                    case measure =>
                      obtain ⟨k1, k2, k3, k4, k5⟩ := H4.out
                      rw [k1.left, HS.out.1.left]; exact k5
              · have h18n : ¬ ((i : Int) = 18) := by omega
                have h18b : ((i : Int) == 18) = false := by simp; omega
                have H3 : Hid (runs ys many (out ++ List.replicate 1 (i : Int)) L2 = R ∧ FS w2 b v s most L2 xs 0 ∧ Keeps (fun k => k = b) w w2 ∧ Own w2 w.heap.size (.slice a n cap) out ∧ L2.length < L1.length) := by
                  refine ⟨?_, H2.out.1, H2.out.2.1, H2.out.2.2.1, HL.out.2⟩
                  rw [← HS.out.2.2.2.2]
                  exact (runs_next (by rw [HS.out.2.2.2.1]; exact hnm) HL.out.1 (by unfold rle; rw [if_neg h16, if_neg h17, if_neg h18]; rfl)).symm
                by_cases hov : many < n + 1
                · exact absurd hov (by omega)
                · have hovz : ¬ (many : Int) < (n : Int) + 1 := by omega
                  go_wp2
                  go_loopw [7, 11] (fun s7 s11 w' => ∃ (j : Nat) (a' : Option Addr) (cap' : Nat), j ≤ 1 ∧ s11 = .int .i64 (j : Int) ∧ s7 = .slice a' (n + j) cap' ∧ Hid (Own w' w.heap.size (.slice a' (n + j) cap') (out ++ List.replicate j (i : Int)) ∧ FS w' b v s most L2 xs 0 ∧ Keeps (fun k => k = b) w w')) (fun _ s11 _ => (((1 : Nat) : Int) - intOf s11).toNat)
                  case atStart => exact ⟨0, a, cap, by omega, rfl, rfl, by rw [List.replicate_zero, List.append_nil]; exact H3.out.2.2.2.1, H3.out.2.1, H3.out.2.2.1⟩
                  case round =>
                    clear c4
                    obtain ⟨j, a', cap', hj, rfl, hs7, HW⟩ := hrel
                    obtain rfl := hs7.symm
                    clear hs7
                    obtain ⟨c2, c3, c4, cf, p0, c1⟩ := HW.out.2.1.cell
                    clear c2 c3 cf c1
                    obtain ⟨n', hn'⟩ : ∃ n', n + j = n' := ⟨_, rfl⟩
                    have HO : Hid (wr.ownsRow w.heap.size 3 1 (.slice a' n' cap') n' (intsV (out ++ List.replicate j (i : Int)))) := by
                      have := HW.out.1
                      unfold Own at this
                      rw [List.length_append, List.length_replicate, HS.out.2.2.2.1, hn'] at this
                      exact this
                    rw [hn'] at HW ⊢
                    have HN : Hid (n + j = n') := hn'
                    have hn2 : n' ≤ 2000 := by omega
                    clear hn'
                    by_cases hjm : j < 1
                    · have hjz : (j : Int) < 1 := by omega
                      go_wp2_with (refine wpList_nat rfl _ _ rfl w.heap.size (.slice a' n' cap') n' (intsV (out ++ List.replicate j (i : Int))) rfl (HO.out.alloc _) wr.heap.size (i : Int) rfl (heap_alloc_new wr _) (by have := HW.out.2.2.size; simp; omega) (by omega) ?_; intro g4 cap4 w6 hown4 hgrow4 hat4 hlt4)
                      go_roundw
                      case rel =>
                        have kk : Keeps (fun x => (Value.slice a' n' cap').ownBlock = some x) wr w6 := (((Keeps.refl _ wr).alloc _)).grown hgrow4 (fun x _ e => e)
                        have hlow : ∀ x, (Value.slice a' n' cap').ownBlock = some x → w.heap.size ≤ x := fun x e => (World.ownsRow.lt HO.out x e).1
                        refine ⟨j + 1, _, cap4, by omega, by push_cast; rfl, by rw [show n + (j + 1) = n' + 1 by have := HN.out; omega], ?_, HW.out.2.1.keptS kk (fun e => by have := hlow b e; have := HV.out.1; omega) (fun k e e2 => by have := hlow k e2; have := HV.out.2 k e; omega), HW.out.2.2.trans kk (fun x hx e => by have := hlow x e; omega)⟩
                        unfold Own
                        rw [List.replicate_succ', ← List.append_assoc, List.length_append, List.length_append, List.length_replicate, HS.out.2.2.2.1, HN.out, show n + (j + 1) = n' + 1 by have := HN.out; omega]
                        simpa [intsV] using hown4
                      case measure => simp [intOf]; omega
                    · obtain rfl : j = 1 := by omega
                      have hjz : ¬ (((1 : Nat) : Int) < 1) := by omega
                      go_wp2
                      go_roundw
                      case rel =>
                        refine ⟨a', n', cap', rfl, by have := HN.out; omega, L2, 0, out ++ List.replicate (1) (i : Int), ?_, .inl ⟨rfl, H3.out.1⟩, HW.out.2.1, HW.out.2.2, HW.out.1⟩
                        rw [List.length_append, List.length_replicate, HS.out.2.2.2.1, HN.out]
                      case measure => rw [HW.out.2.1.left, HS.out.1.left]; exact H3.out.2.2.2.2
      · have hnz : ¬ (n : Int) < (many : Int) := by omega
        obtain rfl : n = many := by omega
        have e : R = some (out, L1) := by rw [← hE, runs_done hlen]
        subst e
        have HP : Hid (RLen (some (out, L1)) w b v s most xs (.returned (.slice a n cap)) wo) := ⟨fun e => by (cases e), fun _ _ e => by cases e; exact ⟨_, rfl, hO, hS, hK⟩⟩
        clear hlen hE hS hK hO
        go_wp2
        go_ret
        exact HP.out
    · have HQ : Hid (FS wo b v s most L1 xs 700 ∧ Keeps (fun k => k = b) w wo) := ⟨hS, hK⟩
      clear hlen hS hK hO
      by_cases hnm : n < many
      · have hnz : (n : Int) < (many : Int) := by omega
        go_wp2
        go_ret
        exact RLen.noneI HQ.out.1 HQ.out.2
      · have hnz : ¬ (n : Int) < (many : Int) := by omega
        go_wp2
        go_ret
        exact RLen.noneI HQ.out.1 HQ.out.2

end Go.Proofs.YtebjooebdehlnaaGreat

namespace Go.Proofs.YtebjooebdehlnaaGreat
open Go.RowKit
open Hf Tb
set_option linter.unusedVariables false
set_option linter.unusedSimpArgs false

theorem RBk.wider {w : World} {lo hi lo' hi' q : Nat} {ys : List Int} (h : RBk w lo hi q ys) (h1 : lo' ≤ lo) (h2 : hi ≤ hi') (h3 : hi' ≤ w.heap.size) : RBk w lo' hi' q ys := by
  obtain ⟨a1, a2, a3, a4, a, cap, a5, a6⟩ := h
  refine ⟨by omega, by omega, h3, a4, a, cap, a5, fun j hj => ?_⟩
  obtain ⟨g, e, g1, g2, g3⟩ := a6 j hj
  exact ⟨g, e, by omega, by omega, g3⟩
theorem FS.drewS {w : World} {b : Nat} {v : Value} {s : ByteArray} {most : Nat} {L : Bts} {xs : List Nat} {er : Int} (h : FS w b v s most L xs er) : FS w.drew b v s most L xs er := h.keptF ((Keeps.refl _ w).drew)
/-- All three numbers were read, or the block tells nothing. -/
theorem dyn3 {L L1 L2 L3 : Bts} {x1 x2 x3 : Nat} {er1 er2 er3 : Int}
    (h1 : (er1 = 0 ∧ getL 5 L = some (x1, L1)) ∨ (er1 = 700 ∧ getL 5 L = none))
    (h2 : er1 = 0 → (er2 = 0 ∧ getL 5 L1 = some (x2, L2)) ∨ (er2 = 700 ∧ getL 5 L1 = none)) (h2n : er1 ≠ 0 → er2 = er1)
    (h3 : er2 = 0 → (er3 = 0 ∧ getL 4 L2 = some (x3, L3)) ∨ (er3 = 700 ∧ getL 4 L2 = none)) (h3n : er2 ≠ 0 → er3 = er2) :
    (er3 = 0 ∧ aboveL 257 5 L = some (257 + x1, L1) ∧ aboveL 1 5 L1 = some (1 + x2, L2) ∧ aboveL 4 4 L2 = some (4 + x3, L3)) ∨ (er3 = 700 ∧ dynH L = none) := by
  have ab : ∀ (a k x : Nat) (L L' : Bts), getL k L = some (x, L') → aboveL a k L = some (a + x, L') := fun a k x L L' h => by unfold aboveL; rw [bnd_eq h]; rfl
  have an : ∀ (a k : Nat) (L : Bts), getL k L = none → aboveL a k L = none := fun a k L h => by unfold aboveL; rw [bnd_none h]
  rcases h1 with ⟨rfl, g1⟩ | ⟨rfl, g1⟩
  · rcases h2 rfl with ⟨rfl, g2⟩ | ⟨rfl, g2⟩
    · rcases h3 rfl with ⟨rfl, g3⟩ | ⟨rfl, g3⟩
      · exact .inl ⟨rfl, ab _ _ _ _ _ g1, ab _ _ _ _ _ g2, ab _ _ _ _ _ g3⟩
      · refine .inr ⟨rfl, ?_⟩
        unfold dynH
        rw [bnd_eq (ab 257 5 _ _ _ g1), bnd_eq (ab 1 5 _ _ _ g2)]
        split
        · rfl
        · exact bnd_none (an 4 4 _ g3)
    · refine .inr ⟨h3n (by decide), ?_⟩
      unfold dynH
      rw [bnd_eq (ab 257 5 _ _ _ g1), bnd_none (an 1 5 _ g2)]
  · have e2 := h2n (by decide)
    subst e2
    refine .inr ⟨h3n (by decide), ?_⟩
    unfold dynH
    rw [bnd_none (an 257 5 _ g1)]
def dynT (a d : Nat) (R : Option (List Int × Bts)) : Option ((List Int × List Int) × Bts) := match R with
  | none => none
  | some (t, L4) => dynC a d t L4
theorem dynT_eq (n a d : Nat) (L : Bts) : bnd (threes n []) (fun t => dynC a d t) L = dynT a d (threes n [] L) := by
  unfold bnd dynT
  rcases threes n [] L with _ | ⟨t, L4⟩ <;> rfl
theorem rowI_at : ∀ i : Fin 19, rowI[i.val]? = some ((rowL.getD i.val 0 : Nat) : Int) := by decide +kernel
theorem mayB_no1 {x : List Int} (h : ¬ errC x = 0) : mayB x = false := by unfold mayB; rw [decide_eq_false h]; rfl
theorem mayB_no2 {x : List Int} (h : at_ x 256 = 0) : mayB x = false := by unfold mayB; rw [h]; simp
theorem mayB_yes {x : List Int} (hi : inR x) (h : errC x = 0) (h2 : ¬ at_ x 256 = 0) : mayB x = true := by
  have := inR_at hi 256
  unfold mayB; rw [decide_eq_true h, decide_eq_true (by omega)]; rfl

set_option maxHeartbeats 16000000 in
set_option maxRecDepth 100000 in
theorem rdynamic_ok {w : World} {b : Nat} {v : Value} {s : ByteArray} {most : Nat} {L : Bts} {xs : List Nat} (h : FS w b v s most L xs 0) :
    Calls Tryz.prog 66 #[.pointer (some ⟨b, 0, none⟩)] w fun e w' => e = .returned (.tuple #[]) ∧ FPost (thenE dynH (fun xy => coded xy.1 xy.2 most) L xs) w b v s most w' := by
  obtain ⟨R, hR⟩ : ∃ R, thenE dynH (fun xy => coded xy.1 xy.2 most) L xs = R := ⟨_, rfl⟩
  rw [hR]
  have HR : Hid (thenE dynH (fun xy => coded xy.1 xy.2 most) L xs = R) := hR
  have HV : Hid (b < w.heap.size ∧ ∀ k, v.ownBlock = some k → k < w.heap.size) := ⟨h.lt, fun k e => (h.ownlt k e).2⟩
  have HC : Hid (Calls Tryz.prog 62 #[.pointer (some ⟨b, 0, none⟩), .int .i64 5] w (GP 5 L 0 w b v s most xs)) := get_gen h 5 (by omega)
  clear h hR
  go_enter Tryz.func66, Tryz.ntmps66
  go_wp2_with fail
  refine HC.out.mono ?_
  rintro e w1 ⟨x1, er1, L1, hx1, rfl, hS1, hK1, _, hG1, _⟩
  have hx1' : x1 < 32 := hx1
  have H1 : Hid (Keeps (fun k => k = b) w w1 ∧ ((er1 = 0 ∧ getL 5 L = some (x1, L1)) ∨ (er1 = 700 ∧ getL 5 L = none))) := ⟨hK1, hG1 rfl⟩
  have HC2 : Hid (Calls Tryz.prog 62 #[.pointer (some ⟨b, 0, none⟩), .int .i64 5] w1 (GP 5 L1 er1 w1 b v s most xs)) := get_gen hS1 5 (by omega)
  clear HC hx1 hS1 hK1 hG1
  go_wp2_with fail
  refine HC2.out.mono ?_
  rintro e w2 ⟨x2, er2, L2, hx2, rfl, hS2, hK2, _, hG2, hG2n⟩
  have hx2' : x2 < 32 := hx2
  have H2 : Hid (Keeps (fun k => k = b) w w2 ∧ (er1 = 0 → (er2 = 0 ∧ getL 5 L1 = some (x2, L2)) ∨ (er2 = 700 ∧ getL 5 L1 = none)) ∧ (er1 ≠ 0 → er2 = er1)) := ⟨H1.out.1.trans hK2 (fun _ _ h => h), hG2, hG2n⟩
  have HC3 : Hid (Calls Tryz.prog 62 #[.pointer (some ⟨b, 0, none⟩), .int .i64 4] w2 (GP 4 L2 er2 w2 b v s most xs)) := get_gen hS2 4 (by omega)
  clear HC2 hx2 hS2 hK2 hG2 hG2n
  go_wp2_with fail
  refine HC3.out.mono ?_
  rintro e w3 ⟨x3, er3, L3, hx3, rfl, hS3, hK3, _, hG3, hG3n⟩
  have hx3' : x3 < 16 := hx3
  have hD := dyn3 H1.out.2 H2.out.2.1 H2.out.2.2 hG3 hG3n
  have H3 : Hid (FS w3 b v s most L3 xs er3 ∧ Keeps (fun k => k = b) w w3) := ⟨hS3, H2.out.1.trans hK3 (fun _ _ h => h)⟩
  obtain ⟨c2, c3, c4, cf, p0, c1⟩ := hS3.cell
  clear HC3 hx3 hS3 hK3 hG3 hG3n H1 H2 c2 c3 cf c1
  rcases hD with ⟨rfl, hA1, hA2, hA3⟩ | ⟨rfl, hD⟩
  · have HA : Hid (aboveL 257 5 L = some (257 + x1, L1) ∧ aboveL 1 5 L1 = some (1 + x2, L2) ∧ aboveL 4 4 L2 = some (4 + x3, L3)) := ⟨hA1, hA2, hA3⟩
    clear hA1 hA2 hA3
    by_cases hbig : 286 < 257 + x1 ∨ 30 < 1 + x2
    · have e : R = .error 700 := by
        rw [← HR.out]
        refine thenE_none ?_
        unfold dynH
        rw [bnd_eq HA.out.1, bnd_eq HA.out.2.1, if_pos hbig]; rfl
      subst e
      have HC : Hid (Calls Tryz.prog 67 #[.pointer (some ⟨b, 0, none⟩)] w3 fun e w' => e = .returned (.tuple #[]) ∧ FS w' b v s most L3 xs 700 ∧ Keeps (fun k => k = b) w3 w') := wrong_ok H3.out.1
      by_cases hb1 : 286 < 257 + x1
      · have hbz : (286 : Int) < 257 + (x1 : Int) := by omega
        go_wp2_with fail
        refine HC.out.mono ?_
        rintro e wz ⟨rfl, hSz, hKz⟩
        have HQ : Hid (FPost (.error 700) w b v s most wz) := FPost.bad hSz (FAdv.ofB v (H3.out.2.trans hKz (fun _ _ h => h)))
        clear HC hSz hKz
        go_wp2
        (try simp only [Exit.inBlock, Exit.then])
        refine bodyPost_ret (results_none rfl _ _ _) rfl ?_
        exact ⟨rfl, HQ.out⟩
      · have hbz : ¬ (286 : Int) < 257 + (x1 : Int) := by omega
        have hdz : (30 : Int) < 1 + (x2 : Int) := by omega
        go_wp2_with fail
        refine HC.out.mono ?_
        rintro e wz ⟨rfl, hSz, hKz⟩
        have HQ : Hid (FPost (.error 700) w b v s most wz) := FPost.bad hSz (FAdv.ofB v (H3.out.2.trans hKz (fun _ _ h => h)))
        clear HC hSz hKz
        go_wp2
        (try simp only [Exit.inBlock, Exit.then])
        refine bodyPost_ret (results_none rfl _ _ _) rfl ?_
        exact ⟨rfl, HQ.out⟩
    · have hbz : ¬ (286 : Int) < 257 + (x1 : Int) := by omega
      have hdz : ¬ (30 : Int) < 1 + (x2 : Int) := by omega
      have hxx1 : x1 ≤ 29 := by omega
      have hxx2 : x2 ≤ 29 := by omega
      have hxx3 : x3 ≤ 15 := by omega
      obtain ⟨R3, hR3⟩ : ∃ R3, threes (4 + x3) [] L3 = R3 := ⟨_, rfl⟩
      have HRT : Hid (dynH L = dynT (257 + x1) (1 + x2) R3) := by
        show _ = _
        unfold dynH
        rw [bnd_eq HA.out.1, bnd_eq HA.out.2.1, if_neg hbig, bnd_eq HA.out.2.2, ← hR3]
        exact dynT_eq _ _ _ _
      have HR3 : Hid (threes (4 + x3) [] L3 = R3) := hR3
      clear hR3 HA hbig
      go_wp2_with (refine wpList_zeros rfl _ _ rfl 19 rfl rfl (by omega) ?_; intro g w4 hB4 hK4 hg4)
      have HO : Hid (Calls Tryz.prog 59 #[] w4 fun e w' => ∃ g, e = .returned (.slice (some ⟨g, 0, none⟩) 19 19) ∧ Blk w' g rowI ∧ Keeps (fun _ => False) w4 w' ∧ w4.heap.size ≤ g) := rorder_ok w4
      refine HO.out.mono ?_
      rintro e w5 ⟨qo, rfl, hB5, hK5, hg5⟩
      have H5 : Hid (∃ acc L4 er, acc.length = 0 ∧ ((er = 0 ∧ threes (4 + x3 - 0) acc L4 = R3) ∨ (er = 700 ∧ R3 = none)) ∧ FS w5 b v s most L4 xs er ∧ Keeps (fun k => k = b) w w5 ∧ Blk w5 g (clOf acc) ∧ Blk w5 qo rowI) := by
        have k1 : Keeps (fun _ => False) w3 w5 := hK4.trans hK5 (fun _ _ h => h)
        exact ⟨[], L3, 0, rfl, .inl ⟨rfl, HR3.out⟩, H3.out.1.keptF k1, H3.out.2.trans (k1.mono (fun _ _ h => h.elim)) (fun _ _ h => h), by rw [clOf_nil]; exact hB4.keptF hK5, hB5⟩
      have HG : Hid (w.heap.size ≤ g ∧ w.heap.size ≤ qo ∧ g ≠ qo) := by
        have := H3.out.2.size; have := hB4.lt; have := hK4.size
        exact ⟨by omega, by omega, by omega⟩
      clear hB4 hK4 hg4 hB5 hK5 hg5 HO H3 HR3 c4
      go_wp2
      go_loopw [7] (fun s7 w' => ∃ i : Nat, i ≤ 4 + x3 ∧ s7 = .int .i64 (i : Int) ∧ Hid (∃ acc L4 er, acc.length = i ∧ ((er = 0 ∧ threes (4 + x3 - i) acc L4 = R3) ∨ (er = 700 ∧ R3 = none)) ∧ FS w' b v s most L4 xs er ∧ Keeps (fun k => k = b) w w' ∧ Blk w' g (clOf acc) ∧ Blk w' qo rowI)) (fun s7 _ => (((4 + x3 : Nat) : Int) - intOf s7).toNat)
      case atStart => exact ⟨0, by omega, rfl, H5⟩
      case round =>
        clear H5
        obtain ⟨i, hi, rfl, HW⟩ := hrel
        by_cases hic : i < 4 + x3
        · have hiz : (i : Int) < 4 + (x3 : Int) := by omega
          have hi19 : (i : Int) < 19 := by omega
          obtain ⟨acc, L4, er, hlen, hE, hS, hK, hB, hQ⟩ := HW.out
          clear HW
          obtain ⟨j, hj⟩ : ∃ j, rowL.getD i 0 = j := ⟨_, rfl⟩
          have hj19 : j < 19 := by rw [← hj]; exact rowL_lt ⟨i, by omega⟩
          have hjz : (j : Int) < 19 := by omega
          have hri : i < rowI.length := by show i < 19; omega
          have hrow : wr.cell? ⟨qo, i, none⟩ = some (.int .i64 (j : Int)) := by
            have e1 := rowI_at ⟨i, by omega⟩
            rw [List.getElem?_eq_getElem hri] at e1
            rw [hQ.cell i hri, Option.some.inj e1, hj]
          have HC : Hid (Calls Tryz.prog 62 #[.pointer (some ⟨b, 0, none⟩), .int .i64 3] wr.drew fun e w' => ∃ x : Nat, e = .returned (.int .i64 (x : Int)) ∧ w'.cell? ⟨qo, i, none⟩ = some (.int .i64 (j : Int)) ∧ (∃ u, w'.cell? ⟨g, j, none⟩ = some u) ∧ w'.frozen? ⟨g, j, none⟩ = false ∧ ∃ acc L4 er, acc.length = i + 1 ∧ ((er = 0 ∧ threes (4 + x3 - (i + 1)) acc L4 = R3) ∨ (er = 700 ∧ R3 = none)) ∧ FS (w'.setCell ⟨g, j, none⟩ (.int .i64 (x : Int))) b v s most L4 xs er ∧ Keeps (fun k => k = b) w (w'.setCell ⟨g, j, none⟩ (.int .i64 (x : Int))) ∧ Blk (w'.setCell ⟨g, j, none⟩ (.int .i64 (x : Int))) g (clOf acc) ∧ Blk (w'.setCell ⟨g, j, none⟩ (.int .i64 (x : Int))) qo rowI) := by
            refine (get_gen hS.drewS 3 (by omega)).mono ?_
            rintro e w' ⟨x, er', L', hx, rfl, hS', hK', _, hG, hGn⟩
            have hbl := HV.out.1
            have hg1 := HG.out
            have hk1 : Keeps (fun k => k = b) wr w' := ((Keeps.refl _ wr).drew).trans hK' (fun _ _ h => h)
            have hB6 : Blk w' g (clOf acc) := hB.kept hk1 (by omega)
            have hQ6 : Blk w' qo rowI := hQ.kept hk1 (by omega)
            have hk7 : Keeps (fun k => k = g) w' (w'.setCell ⟨g, j, none⟩ (.int .i64 (x : Int))) := (Keeps.refl (fun k => k = g) w').setCell (p := ⟨g, j, none⟩) (fun _ => rfl) _
            refine ⟨x, rfl, ?_, ⟨_, hB6.cell j (by rw [clOf_length]; exact hj19)⟩, hB6.free j, acc ++ [(x : Int)], L', er', by simp [hlen], ?_, hS'.keptS hk7 (by omega) (fun k e e2 => by have := HV.out.2 k e; omega), (hK.trans hk1 (fun _ _ h => h)).trans hk7 (fun k hh e => by omega), ?_, hQ6.kept hk7 (fun e => hg1.2.2 e.symm)⟩
            · have e1 := rowI_at ⟨i, by omega⟩
              rw [List.getElem?_eq_getElem hri] at e1
              rw [hQ6.cell i hri, Option.some.inj e1, hj]
            · rcases hE with ⟨rfl, hE⟩ | ⟨rfl, hE⟩
              · have hE2 : bnd (getL 3) (fun x => threes (4 + x3 - (i + 1)) (acc ++ [(x : Int)])) L4 = R3 := by
                  rw [show 4 + x3 - i = (4 + x3 - (i + 1)) + 1 by omega] at hE; exact hE
                rcases hG rfl with ⟨rfl, hg⟩ | ⟨rfl, hg⟩
                · exact .inl ⟨rfl, by rw [← hE2, bnd_eq hg]⟩
                · exact .inr ⟨rfl, by rw [← hE2, bnd_none hg]⟩
              · exact .inr ⟨hGn (by decide), hE⟩
            · rw [← clOf_set acc (x : Int) (by omega), hlen, hj]
              exact Blk.set hB6 j (x : Int)
          clear hE hS hK hB hQ hlen hri hj
          go_wp2
          go_region_with (go_at_call 62; refine HC.out.mono ?_; rintro e w6 ⟨x, rfl, d1, ⟨u, d2⟩, d3, hk6⟩; have H6 : Hid (∃ acc L4 er, acc.length = i + 1 ∧ ((er = 0 ∧ threes (4 + x3 - (i + 1)) acc L4 = R3) ∨ (er = 700 ∧ R3 = none)) ∧ FS (w6.setCell ⟨g, j, none⟩ (.int .i64 (x : Int))) b v s most L4 xs er ∧ Keeps (fun k => k = b) w (w6.setCell ⟨g, j, none⟩ (.int .i64 (x : Int))) ∧ Blk (w6.setCell ⟨g, j, none⟩ (.int .i64 (x : Int))) g (clOf acc) ∧ Blk (w6.setCell ⟨g, j, none⟩ (.int .i64 (x : Int))) qo rowI) := hk6; clear hk6)
          all_goals
            clear HC hrow d1 d2 d3
            go_wp2
            go_roundw
            case rel => exact ⟨i + 1, by omega, by push_cast; rfl, H6⟩
            case measure => simp [intOf]; omega
        · obtain rfl : i = 4 + x3 := by omega
          have hiz : ¬ (((4 + x3 : Nat) : Int) < 4 + (x3 : Int)) := by omega
          have hiz2 : ¬ (4 + (x3 : Int) < 4 + (x3 : Int)) := by omega
          obtain ⟨acc, L4, er, hlen, hE, hS, hK, hB, hQ⟩ := HW.out
          clear HW hQ
          obtain ⟨c2, c3, c4, cf, p0, c1⟩ := hS.cell
          clear c2 c3 cf c1
          have H6 : Hid (FS wr b v s most L4 xs er ∧ Keeps (fun k => k = b) w wr) := ⟨hS, hK⟩
          rcases hE with ⟨rfl, hE⟩ | ⟨rfl, hE⟩
          · rw [Nat.sub_self] at hE
            have e3 : R3 = some (acc, L4) := hE.symm
            have HD : Hid (dynH L = dynC (257 + x1) (1 + x2) acc L4) := by show _ = _; rw [HRT.out, e3]; rfl
            have hrow : Row wr (some ⟨g, 0, none⟩) (clOf acc) := .inr ⟨g, 0, rfl, hB.lt, fun q hq => by rw [Nat.zero_add]; exact hB.cell q hq⟩
            have HC1 : Hid (Calls Tryz.prog 100 #[.slice (some ⟨g, 0, none⟩) 19 19] wr fun e w' => e = .returned (.int .i64 (errC (clOf acc))) ∧ w' = wr) := by
              have := rcheck_ok (some ⟨g, 0, none⟩) (clOf acc) 19 wr hrow (by rw [clOf_length]; omega)
              rw [clOf_length] at this; exact this
            have HC2 : Hid (Calls Tryz.prog 65 #[.slice (some ⟨g, 0, none⟩) 19 19] wr fun e w' => ∃ q, e = .returned (.pointer (some ⟨q, 0, none⟩)) ∧ Keeps (fun _ => False) wr w' ∧ RBk w' wr.heap.size w'.heap.size q (clOf acc)) := by
              have := rbookOf_ok (some ⟨g, 0, none⟩) (clOf acc) 19 wr hrow (by rw [clOf_length]; omega) (by rw [clOf_length]; omega)
              rw [clOf_length] at this; exact this
            have HY : Hid ((clOf acc).length = 19) := clOf_length acc
            clear hlen hE hS hK hB e3 hrow HRT
            unfold dynC at HD
            generalize clOf acc = ys at *
            obtain ⟨ec, hec⟩ : ∃ ec, errC ys = ec := ⟨_, rfl⟩
            rw [hec] at HC1 HD
            clear hec
            go_wp2_with fail
            refine HC1.out.mono ?_
            rintro e w7 ⟨rfl, hw7⟩
            obtain rfl := hw7.symm
            clear hw7 HC1
            by_cases h0 : ec = 0
            · subst h0
              clear c4
              go_wp2_with fail
              refine HC2.out.mono ?_
              rintro e w7 ⟨q, rfl, hK7, hB7⟩
              have HC : Hid (Calls Tryz.prog 108 #[.pointer (some ⟨b, 0, none⟩), .pointer (some ⟨q, 0, none⟩), .int .i64 ((257 + (x1 : Int)) + (1 + (x2 : Int)))] w7 (RLen (runs ys (257 + x1 + (1 + x2)) [] L4) w7 b v s most xs)) := by
                have := rlengths_ok (H6.out.1.keptF hK7) hB7 (.inl (by have := H6.out.2.size; have := HV.out.1; omega)) (by rw [HY.out]; omega) (257 + x1 + (1 + x2)) (by omega)
                rw [show ((257 + x1 + (1 + x2) : Nat) : Int) = (257 + (x1 : Int)) + (1 + (x2 : Int)) by push_cast; rfl] at this
                exact this
              have H7 : Hid (Keeps (fun k => k = b) w w7) := H6.out.2.trans (hK7.mono (fun _ _ h => h.elim)) (fun _ _ h => h)
              clear HC2 hK7 hB7 H6
              go_wp2_with fail
              refine HC.out.mono ?_
              intro e w8 hP
              clear HC
              rcases h4 : runs ys (257 + x1 + (1 + x2)) [] L4 with _ | ⟨all, L5⟩
              · obtain ⟨az, nz, capz, Lz, rfl, hSz, hKz⟩ := hP.1 h4
                have e : R = .error 700 := by rw [← HR.out]; refine thenE_none ?_; rw [HD.out, if_pos trivial]; exact bnd_none h4
                subst e
                obtain ⟨c2, c3, c4, cf, p0, c1⟩ := hSz.cell
                have HQ : Hid (FPost (.error 700) w b v s most w8) := FPost.bad hSz (FAdv.ofB v (H7.out.trans hKz (fun _ _ h => h)))
                clear hP h4 hSz hKz c2 c3 cf c1
                go_wp2
                (try simp only [Exit.inBlock, Exit.then])
                refine bodyPost_ret (results_none rfl _ _ _) rfl ?_
                exact ⟨rfl, HQ.out⟩
              · obtain ⟨u, rfl, hO8, hS8, hK8⟩ := hP.2 all L5 h4
                obtain ⟨ad, cap, rfl, hrow, hcap, _⟩ := own_row hO8
                have hal := (runs_len h4).2
                have hin := runs_in (by rw [HY.out]; omega) h4
                obtain ⟨g8, off, hgo, hgl, hcell⟩ := hrow.spot (by omega)
                obtain rfl := hgo
                obtain ⟨A, hA⟩ : ∃ A, 257 + x1 = A := ⟨_, rfl⟩
                obtain ⟨D, hD⟩ : ∃ D, 1 + x2 = D := ⟨_, rfl⟩
                rw [hA, hD] at hal
                have hA2 : 257 ≤ A ∧ A ≤ 286 := by omega
                have hD2 : 1 ≤ D ∧ D ≤ 30 := by omega
                have hx1 : (all.take A).length = A := by rw [List.length_take]; omega
                have hx2 : (all.drop A).length = D := by rw [List.length_drop]; omega
                have hoff : off = 0 := by
                  rcases hO8.2 with ⟨e, _⟩ | ⟨g', c', cur, e, _⟩
                  · cases e
                  · cases e; rfl
                subst hoff
                have hr1 : Row w8 (some ⟨g8, 0, none⟩) (all.take A) := .inr ⟨g8, 0, rfl, hgl, fun i hi => by
                  rw [List.getElem_take]; exact hcell i (by omega)⟩
                have hr2 : Row w8 (some ⟨g8, A, none⟩) (all.drop A) := .inr ⟨g8, A, rfl, hgl, fun i hi => by
                  rw [List.getElem_drop]; have := hcell (A + i) (by omega); rw [Nat.zero_add] at this; exact this⟩
                have hin1 : inR (all.take A) := fun z hz => hin z (List.mem_of_mem_take hz)
                have hin2 : inR (all.drop A) := fun z hz => hin z (List.mem_of_mem_drop hz)
                have hc256 : w8.cell? ⟨g8, 256, none⟩ = some (.int .i64 (at_ (all.take A) 256)) := by
                  have := hcell 256 (by omega)
                  rw [Nat.zero_add] at this
                  rw [this, at_eq 256 (by omega), List.getElem_take]
                obtain ⟨c2, c3, c4, cf, p0, c1⟩ := hS8.cell
                have H8 : Hid (FS w8 b v s most L5 xs 0 ∧ Keeps (fun k => k = b) w w8) := ⟨hS8, H7.out.trans hK8 (fun _ _ h => h)⟩
                have HD8 : Hid (dynH L = if mayB (all.take A) && mayD (all.drop A) then some ((all.take A, all.drop A), L5) else none) := by
                  show _ = _
                  rw [HD.out, if_pos trivial, bnd_eq h4, hA]
                  unfold dynP
                  split <;> rfl
                rw [hal] at hcap
                rw [hal]
                have hAz : (257 : Int) + (x1 : Int) = (A : Int) := by omega
                have hDz : (1 : Int) + (x2 : Int) = (D : Int) := by omega
                rw [hAz, hDz]
                have HC1 : Hid (Calls Tryz.prog 100 #[.slice (some ⟨g8, 0, none⟩) A cap] w8 fun e w' => e = .returned (.int .i64 (errC (all.take A))) ∧ w' = w8) := by
                  have := rcheck_ok (some ⟨g8, 0, none⟩) (all.take A) cap w8 hr1 (by omega)
                  rw [hx1] at this; exact this
                have HC2 : Hid (Calls Tryz.prog 100 #[.slice (some ⟨g8, A, none⟩) D (cap - A)] w8 fun e w' => e = .returned (.int .i64 (errC (all.drop A))) ∧ w' = w8) := by
                  have := rcheck_ok (some ⟨g8, A, none⟩) (all.drop A) (cap - A) w8 hr2 (by omega)
                  rw [hx2] at this; exact this
                have HC3 : Hid (Calls Tryz.prog 109 #[.slice (some ⟨g8, A, none⟩) D (cap - A)] w8 fun e w' => e = .returned (.bool (decide ((all.drop A).sum ≤ 1))) ∧ w' = w8) := by
                  have := rsparse_ok (some ⟨g8, A, none⟩) (all.drop A) (cap - A) w8 hr2 (by omega) hin2
                  rw [hx2] at this; exact this
                have HBx : Hid (∀ w', Keeps (fun _ => False) w8 w' → Calls Tryz.prog 65 #[.slice (some ⟨g8, 0, none⟩) A cap] w' fun e w'' => ∃ q, e = .returned (.pointer (some ⟨q, 0, none⟩)) ∧ Keeps (fun _ => False) w' w'' ∧ RBk w'' w'.heap.size w''.heap.size q (all.take A)) := fun w' hk => by
                  have := rbookOf_ok (some ⟨g8, 0, none⟩) (all.take A) cap w' (hr1.keptF hk) (by omega) (by omega)
                  rw [hx1] at this; exact this
                have HBy : Hid (∀ w', Keeps (fun _ => False) w8 w' → Calls Tryz.prog 65 #[.slice (some ⟨g8, A, none⟩) D (cap - A)] w' fun e w'' => ∃ q, e = .returned (.pointer (some ⟨q, 0, none⟩)) ∧ Keeps (fun _ => False) w' w'' ∧ RBk w'' w'.heap.size w''.heap.size q (all.drop A)) := fun w' hk => by
                  have := rbookOf_ok (some ⟨g8, A, none⟩) (all.drop A) (cap - A) w' (hr2.keptF hk) (by omega) (by omega)
                  rw [hx2] at this; exact this
                have HCo : Hid (∀ w' q1 q2, Keeps (fun _ => False) w8 w' → RBk w' w8.heap.size w'.heap.size q1 (all.take A) → RBk w' w8.heap.size w'.heap.size q2 (all.drop A) → Calls Tryz.prog 64 #[.pointer (some ⟨b, 0, none⟩), .pointer (some ⟨q1, 0, none⟩), .pointer (some ⟨q2, 0, none⟩)] w' fun e w'' => e = .returned (.tuple #[]) ∧ FPost (coded (all.take A) (all.drop A) most L5 xs) w b v s most w'') := fun w' q1 q2 hk b1 b2 => by
                  have hsz := H8.out.2.size
                  refine (rcoded_ok (H8.out.1.keptF hk) b1 b2 ⟨.inl (by have := HV.out.1; omega), fun k e => .inl (by have := HV.out.2 k e; omega)⟩ (by omega) (by omega)).mono ?_
                  rintro e w'' ⟨he, hP⟩
                  exact ⟨he, FPost.trans (FAdv.ofB v (H8.out.2.trans (hk.mono (fun _ _ h => h.elim)) (fun _ _ h => h))) hP⟩
                have hca : ¬ (cap = A) := by omega
                obtain ⟨N, hN⟩ : ∃ N, A + D = N := ⟨_, rfl⟩
                rw [hN]
                have hn0 : (0 : Int) ≤ (A : Int) := by omega
                have hn1 : (A : Int) ≤ (N : Int) := by omega
                have hn2 : (A : Int) ≤ (cap : Int) := by omega
                have hn3 : (N : Int) ≤ (cap : Int) := by omega
                have hn4 : N - A = D := by omega
                have hn5 : (256 : Int) < (N : Int) := by omega
                have HI : Hid (inR (all.take A)) := hin1
                clear hP h4 hO8 hS8 hK8 hrow hal hin hgl hcell hx1 hx2 hr1 hr2 hin1 hin2 c2 c3 cf c1 HD H7 hAz hDz hA hD hN
                generalize all.take A = x at *
                generalize all.drop A = y at *
                obtain ⟨ex, hex⟩ : ∃ ex, errC x = ex := ⟨_, rfl⟩
                obtain ⟨ey, hey⟩ : ∃ ey, errC y = ey := ⟨_, rfl⟩
                obtain ⟨t, ht⟩ : ∃ t, at_ x 256 = t := ⟨_, rfl⟩
                obtain ⟨sp, hsp⟩ : ∃ sp, decide (y.sum ≤ 1) = sp := ⟨_, rfl⟩
                have HE : Hid (errC x = ex ∧ errC y = ey ∧ at_ x 256 = t ∧ decide (y.sum ≤ 1) = sp) := ⟨hex, hey, ht, hsp⟩
                rw [hex] at HC1
                rw [hey] at HC2
                rw [hsp] at HC3
                rw [ht] at hc256
                clear hex hey ht hsp
                go_wp2_with fail
                refine HC1.out.mono ?_
                rintro e wz ⟨rfl, hwz⟩
                obtain rfl := hwz.symm
                clear hwz HC1
                by_cases hex0 : ex = 0
                · subst hex0
                  by_cases ht0 : t = 0
                  · subst ht0
                    have e : R = .error 700 := by rw [← HR.out]; refine thenE_none ?_; rw [HD8.out, mayB_no2 HE.out.2.2.1]; rfl
                    subst e
                    have HC : Hid (Calls Tryz.prog 67 #[.pointer (some ⟨b, 0, none⟩)] w8 fun e w' => e = .returned (.tuple #[]) ∧ FS w' b v s most L5 xs 700 ∧ Keeps (fun k => k = b) w8 w') := wrong_ok H8.out.1
                    go_wp2_with fail
                    refine HC.out.mono ?_
                    rintro e wz ⟨rfl, hSz, hKz⟩
                    have HQ : Hid (FPost (.error 700) w b v s most wz) := FPost.bad hSz (FAdv.ofB v (H8.out.2.trans hKz (fun _ _ h => h)))
                    clear HC hSz hKz
                    go_wp2
                    (try simp only [Exit.inBlock, Exit.then])
                    refine bodyPost_ret (results_none rfl _ _ _) rfl ?_
                    exact ⟨rfl, HQ.out⟩
                  · have htn : ¬ (t = 0) := ht0
                    have htb : (t == 0) = false := by simp; exact ht0
                    go_wp2_with fail
                    refine HC2.out.mono ?_
                    rintro e wz ⟨rfl, hwz⟩
                    obtain rfl := hwz.symm
                    clear hwz HC2
                    by_cases hey0 : ey = 0
                    · subst hey0
                      have e : R = coded x y most L5 xs := by rw [← HR.out, thenE_eq (HD8.out.trans (by rw [mayB_yes HI.out HE.out.1 (by rw [HE.out.2.2.1]; exact ht0), show mayD y = true by unfold mayD; rw [HE.out.2.1]; simp]; rfl))]
                      subst e
                      go_wp2
                      go_region_held3 (fun w' => True) (go_keep) (first
                        | (go_at_call_of 65 (Value.slice (some ⟨g8, 0, none⟩) A cap); refine (HBx.out w8.drew (Keeps.refl _ w8).drew).mono ?_; rintro e w9 ⟨q1, rfl, hK9, hB9⟩; have H9 : Hid (Keeps (fun _ => False) w8 w9 ∧ RBk w9 w8.heap.size w9.heap.size q1 x) := ⟨((Keeps.refl _ w8).drew).trans hK9 (fun _ _ h => h), hB9⟩; have htr : True := trivial; clear hK9 hB9)
                        | (go_at_call_of 65 (Value.slice (some ⟨g8, A, none⟩) D (cap - A)); refine (HBy.out w9 H9.out.1).mono ?_; rintro e w10 ⟨q2, rfl, hK10, hB10⟩; have H10 : Hid (Keeps (fun _ => False) w8 w10 ∧ RBk w10 w8.heap.size w10.heap.size q1 x ∧ RBk w10 w8.heap.size w10.heap.size q2 y) := ⟨H9.out.1.trans hK10 (fun _ _ h => h), (H9.out.2.kept hK10 (fun _ _ _ h => h)).wider (Nat.le_refl _) hK10.size (Nat.le_refl _), hB10.wider H9.out.1.size (Nat.le_refl _) (Nat.le_refl _)⟩; have htr : True := trivial; clear hK10 hB10)
                        | (go_at_call 64; refine (HCo.out w10 q1 q2 H10.out.1 H10.out.2.1 H10.out.2.2).mono ?_; rintro e w11 ⟨rfl, hP11⟩; have H11 : Hid (FPost (coded x y most L5 xs) w b v s most w11) := hP11; have htr : True := trivial; clear hP11))
                      all_goals
                        go_wp2
                        go_end0
                        exact ⟨rfl, H11.out⟩
                    · have hyn : ¬ (ey = 0) := hey0
                      have hyb : (ey == 0) = false := by simp; exact hey0
                      go_wp2_with fail
                      refine HC3.out.mono ?_
                      rintro e wz ⟨rfl, hwz⟩
                      obtain rfl := hwz.symm
                      clear hwz HC3
                      cases sp
                      · have e : R = .error 700 := by
                          rw [← HR.out]; refine thenE_none ?_
                          have h5 : mayD y = false := by unfold mayD; rw [HE.out.2.2.2, HE.out.2.1, decide_eq_false hey0]; rfl
                          rw [HD8.out, h5, Bool.and_false]; rfl
                        subst e
                        have HC : Hid (Calls Tryz.prog 67 #[.pointer (some ⟨b, 0, none⟩)] w8 fun e w' => e = .returned (.tuple #[]) ∧ FS w' b v s most L5 xs 700 ∧ Keeps (fun k => k = b) w8 w') := wrong_ok H8.out.1
                        go_wp2_with fail
                        refine HC.out.mono ?_
                        rintro e wz ⟨rfl, hSz, hKz⟩
                        have HQ : Hid (FPost (.error 700) w b v s most wz) := FPost.bad hSz (FAdv.ofB v (H8.out.2.trans hKz (fun _ _ h => h)))
                        clear HC hSz hKz
                        go_wp2
                        (try simp only [Exit.inBlock, Exit.then])
                        refine bodyPost_ret (results_none rfl _ _ _) rfl ?_
                        exact ⟨rfl, HQ.out⟩
                      · skip
                        have e : R = coded x y most L5 xs := by rw [← HR.out, thenE_eq (HD8.out.trans (by rw [mayB_yes HI.out HE.out.1 (by rw [HE.out.2.2.1]; exact ht0), show mayD y = true by unfold mayD; rw [HE.out.2.2.2]; rfl]; rfl))]
                        subst e
                        go_wp2
                        go_region_held3 (fun w' => True) (go_keep) (first
                          | (go_at_call_of 65 (Value.slice (some ⟨g8, 0, none⟩) A cap); refine (HBx.out w8.drew (Keeps.refl _ w8).drew).mono ?_; rintro e w9 ⟨q1, rfl, hK9, hB9⟩; have H9 : Hid (Keeps (fun _ => False) w8 w9 ∧ RBk w9 w8.heap.size w9.heap.size q1 x) := ⟨((Keeps.refl _ w8).drew).trans hK9 (fun _ _ h => h), hB9⟩; have htr : True := trivial; clear hK9 hB9)
                          | (go_at_call_of 65 (Value.slice (some ⟨g8, A, none⟩) D (cap - A)); refine (HBy.out w9 H9.out.1).mono ?_; rintro e w10 ⟨q2, rfl, hK10, hB10⟩; have H10 : Hid (Keeps (fun _ => False) w8 w10 ∧ RBk w10 w8.heap.size w10.heap.size q1 x ∧ RBk w10 w8.heap.size w10.heap.size q2 y) := ⟨H9.out.1.trans hK10 (fun _ _ h => h), (H9.out.2.kept hK10 (fun _ _ _ h => h)).wider (Nat.le_refl _) hK10.size (Nat.le_refl _), hB10.wider H9.out.1.size (Nat.le_refl _) (Nat.le_refl _)⟩; have htr : True := trivial; clear hK10 hB10)
                          | (go_at_call 64; refine (HCo.out w10 q1 q2 H10.out.1 H10.out.2.1 H10.out.2.2).mono ?_; rintro e w11 ⟨rfl, hP11⟩; have H11 : Hid (FPost (coded x y most L5 xs) w b v s most w11) := hP11; have htr : True := trivial; clear hP11))
                        all_goals
                          go_wp2
                          go_end0
                          exact ⟨rfl, H11.out⟩
                · have hxn : ¬ (ex = 0) := hex0
                  have hxb : (ex == 0) = false := by simp; exact hex0
                  have e : R = .error 700 := by rw [← HR.out]; refine thenE_none ?_; rw [HD8.out, mayB_no1 (by rw [HE.out.1]; exact hex0)]; rfl
                  subst e
                  have HC : Hid (Calls Tryz.prog 67 #[.pointer (some ⟨b, 0, none⟩)] w8 fun e w' => e = .returned (.tuple #[]) ∧ FS w' b v s most L5 xs 700 ∧ Keeps (fun k => k = b) w8 w') := wrong_ok H8.out.1
                  go_wp2_with fail
                  refine HC.out.mono ?_
                  rintro e wz ⟨rfl, hSz, hKz⟩
                  have HQ : Hid (FPost (.error 700) w b v s most wz) := FPost.bad hSz (FAdv.ofB v (H8.out.2.trans hKz (fun _ _ h => h)))
                  clear HC hSz hKz
                  go_wp2
                  (try simp only [Exit.inBlock, Exit.then])
                  refine bodyPost_ret (results_none rfl _ _ _) rfl ?_
                  exact ⟨rfl, HQ.out⟩
            · have e : R = .error 700 := by rw [← HR.out]; refine thenE_none ?_; rw [HD.out, if_neg h0]; rfl
              subst e
              have hnb : (ec == 0) = false := by simp; exact h0
              have HC : Hid (Calls Tryz.prog 67 #[.pointer (some ⟨b, 0, none⟩)] wr fun e w' => e = .returned (.tuple #[]) ∧ FS w' b v s most L4 xs 700 ∧ Keeps (fun k => k = b) wr w') := wrong_ok H6.out.1
              go_wp2_with fail
              refine HC.out.mono ?_
              rintro e wz ⟨rfl, hSz, hKz⟩
              have HQ : Hid (FPost (.error 700) w b v s most wz) := FPost.bad hSz (FAdv.ofB v (H6.out.2.trans hKz (fun _ _ h => h)))
              clear HC hSz hKz
              go_wp2
              (try simp only [Exit.inBlock, Exit.then])
              refine bodyPost_ret (results_none rfl _ _ _) rfl ?_
              exact ⟨rfl, HQ.out⟩
          · have e : R = .error 700 := by rw [← HR.out]; refine thenE_none ?_; rw [HRT.out, hE]; rfl
            subst e
            have HC : Hid (Calls Tryz.prog 67 #[.pointer (some ⟨b, 0, none⟩)] wr fun e w' => e = .returned (.tuple #[]) ∧ w' = wr) := wrong_no H6.out.1 (by decide)
            clear hlen hE hS hK hB
            go_wp2_with fail
            refine HC.out.mono ?_
            rintro e wz ⟨rfl, hwz⟩
            obtain rfl := hwz.symm
            clear hwz HC
            go_wp2
            (try simp only [Exit.inBlock, Exit.then])
            refine bodyPost_ret (results_none rfl _ _ _) rfl ?_
            exact ⟨rfl, FPost.bad H6.out.1 (FAdv.ofB v H6.out.2)⟩
  · have e : R = .error 700 := by rw [← HR.out]; exact thenE_none hD
    subst e
    have HC : Hid (Calls Tryz.prog 67 #[.pointer (some ⟨b, 0, none⟩)] w3 fun e w' => e = .returned (.tuple #[]) ∧ w' = w3) := wrong_no H3.out.1 (by decide)
    clear hD
    go_wp2_with fail
    refine HC.out.mono ?_
    rintro e wz ⟨rfl, hwz⟩
    obtain rfl := hwz.symm
    clear hwz HC
    go_wp2
    (try simp only [Exit.inBlock, Exit.then])
    refine bodyPost_ret (results_none rfl _ _ _) rfl ?_
    exact ⟨rfl, FPost.bad H3.out.1 (FAdv.ofB v H3.out.2)⟩

end Go.Proofs.YtebjooebdehlnaaGreat

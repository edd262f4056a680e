/-
  The document's lengths (printed by a script: one tail for each way in which a symbol tells lengths).
-/
import Derived.Test.YtfbghchgfbjogaaGreatRows
import Derived.Test.YtfbghchgfbjogaaGreatA18
namespace Go.Proofs.YtfbghchgfbjogaaGreat
open Go.RowKit
open Hf Tb
set_option linter.unusedVariables false
set_option linter.unusedSimpArgs false

theorem FS.keptS {S : Nat → Prop} {w w' : World} {b : Nat} {v : Value} {s : ByteArray} {most : Nat} {L : Bts} {xs : List Nat} {er : Int} (h : FS w b v s most L xs er) (hk : Keeps S w w') (hb : ¬ S b) (hv : ∀ k, v.ownBlock = some k → ¬ S k) : FS w' b v s most L xs er := by
  obtain ⟨p, p1, p2, p3⟩ := h.fl
  exact ⟨⟨p, (hk.block b h.lt hb).trans p1, p2, p3⟩, h.own.kept hk hv, h.sz, h.lim, h.most, h.byt⟩
/-- What get leaves, however the flow stands. -/
def GP (k : Nat) (L : Bts) (er : Int) (w : World) (b : Nat) (v : Value) (s : ByteArray) (most : Nat) (xs : List Nat) (e : Ending) (w' : World) : Prop :=
  ∃ (x : Nat) (er' : Int) (L' : Bts), x < 2 ^ k ∧ e = .returned (.int .i64 (x : Int)) ∧ FS w' b v s most L' xs er' ∧ Keeps (fun k => k = b) w w' ∧ L'.length ≤ L.length ∧
    (er = 0 → (er' = 0 ∧ getL k L = some (x, L')) ∨ (er' = 700 ∧ getL k L = none)) ∧ (er ≠ 0 → er' = er)
theorem get_gen {w : World} {b : Nat} {v : Value} {s : ByteArray} {most : Nat} {L : Bts} {xs : List Nat} {er : Int} (h : FS w b v s most L xs er) (k : Nat) (hk : k ≤ 16) :
    Calls Tryz.prog 49 #[.pointer (some ⟨b, 0, none⟩), .int .i64 (k : Int)] w (GP k L er w b v s most xs) := by
  rcases hg : getL k L with _ | ⟨x, L'⟩
  · by_cases he : er = 0
    · subst he
      refine (get_bad7 h k hk hg).mono ?_
      rintro e w' ⟨rfl, h2, h3⟩
      exact ⟨0, 700, L, Nat.pos_of_ne_zero (by simp), rfl, h2, h3, Nat.le_refl _, fun _ => .inr ⟨rfl, hg⟩, fun e => absurd rfl e⟩
    · refine (get_off7 h he k hk hg).mono ?_
      rintro e w' ⟨rfl, h2, h3⟩
      exact ⟨0, er, L, Nat.pos_of_ne_zero (by simp), rfl, h2, h3, Nat.le_refl _, fun e => absurd e he, fun _ => rfl⟩
  · refine (get_ok7 h k x L' hk hg).mono ?_
    rintro e w' ⟨rfl, h2, h3⟩
    have := getL_len hg
    exact ⟨x, er, L', getL_lt hg, rfl, h2, h3, by omega, fun e => .inl ⟨e, hg⟩, fun _ => rfl⟩

/-- What lengths leaves. -/
def RLen (R : Option (List Int × Bts)) (w : World) (b : Nat) (v : Value) (s : ByteArray) (most : Nat) (xs : List Nat) (e : Ending) (w' : World) : Prop :=
  (R = none → ∃ a n cap L', e = .returned (.slice a n cap) ∧ FS w' b v s most L' xs 700 ∧ Keeps (fun k => k = b) w w') ∧
  ∀ all L', R = some (all, L') → ∃ u, e = .returned u ∧ Own w' w.heap.size u all ∧ FS w' b v s most L' xs 0 ∧ Keeps (fun k => k = b) w w'
theorem RLen.noneI {w : World} {b : Nat} {v : Value} {s : ByteArray} {most : Nat} {xs : List Nat} {w' : World} {a : Option Addr} {n cap : Nat} {L' : Bts} (h : FS w' b v s most L' xs 700) (k : Keeps (fun k => k = b) w w') : RLen none w b v s most xs (.returned (.slice a n cap)) w' :=
  ⟨fun _ => ⟨a, n, cap, L', rfl, h, k⟩, fun _ _ e => by cases e⟩
/-- How lengths stands. -/
def Lst (R : Option (List Int × Bts)) (ys : List Int) (many : Nat) (w : World) (b : Nat) (v : Value) (s : ByteArray) (most : Nat) (xs : List Nat) (w' : World) (a : Option Addr) (n cap : Nat) (L1 : Bts) : Prop :=
  ∃ (er : Int) (out : List Int), out.length = n ∧ ((er = 0 ∧ runs ys many out L1 = R) ∨ (er = 700 ∧ R = none)) ∧ FS w' b v s most L1 xs er ∧ Keeps (fun k => k = b) w w' ∧ Own w' w.heap.size (.slice a n cap) out
theorem own_at {w : World} {base : Nat} {a : Option Addr} {n cap : Nat} {xs : List Int} (h : Own w base (.slice a n cap) xs) (hl : xs.length = n) : Row w a xs := by
  subst hl
  obtain ⟨a', c', e, r, _⟩ := own_row h
  cases e
  exact r

set_option maxHeartbeats 16000000 in
set_option maxRecDepth 100000 in
theorem rlengths_ok {w : World} {b : Nat} {v : Value} {s : ByteArray} {most : Nat} {L : Bts} {xs : List Nat} (h : FS w b v s most L xs 0) {lo hi q : Nat} {ys : List Int} (hB : RBk w lo hi q ys) (ha : b < lo ∨ hi ≤ b) (hl : ys.length ≤ 288) (many : Nat) (hm : many ≤ 1000) :
    Calls Tryz.prog 88 #[.pointer (some ⟨b, 0, none⟩), .pointer (some ⟨q, 0, none⟩), .int .i64 (many : Int)] w (RLen (runs ys many [] L) w b v s most xs) := by
  obtain ⟨R, hR⟩ : ∃ R, runs ys many [] L = R := ⟨_, rfl⟩
  rw [hR]
  have HB : Hid (∀ w', Keeps (fun k => k = b) w w' → RBk w' lo hi q ys) := fun w' k => hB.kept k (fun k h1 h2 e => by omega)
  have HV : Hid (b < w.heap.size ∧ ∀ k, v.ownBlock = some k → k < w.heap.size) := ⟨h.lt, fun k e => (h.ownlt k e).2⟩
  have HX : Hid ((b < lo ∨ hi ≤ b) ∧ ys.length ≤ 288) := ⟨ha, hl⟩
  have H0 : Hid (∃ L1, Lst R ys many w b v s most xs w none 0 0 L1) := ⟨L, 0, [], rfl, .inl ⟨rfl, hR⟩, h, Keeps.refl _ _, World.ownsRow_nil w _ 3 1⟩
  clear h hB ha hl hR
  go_enter Tryz.func88, Tryz.ntmps88
  go_wp2
  go_loopw [7] (fun s7 w' => ∃ (a : Option Addr) (n cap : Nat), s7 = .slice a n cap ∧ n ≤ many ∧ Hid (∃ L1, Lst R ys many w b v s most xs w' a n cap L1)) (fun _ w' => 8 * s.size - posOf w' b)
  case atStart => exact ⟨none, 0, 0, rfl, by omega, H0⟩
  case round =>
    clear H0
    obtain ⟨wo, hwo⟩ : ∃ x, x = wr := ⟨_, rfl⟩
    subst hwo
    obtain ⟨a, n, cap, hs7, hn, HW⟩ := hrel
    obtain rfl := hs7.symm
    clear hs7
    obtain ⟨L1, er, out, hlen, hE, hS, hK, hO⟩ := HW.out
    clear HW
    obtain ⟨c2, c3, c4, cf, p0, c1⟩ := hS.cell
    clear c2 c3 cf c1
    rcases hE with ⟨rfl, hE⟩ | ⟨rfl, rfl⟩
    · by_cases hnm : n < many
      · have hnz : (n : Int) < (many : Int) := by omega
        have HS : Hid (FS wo b v s most L1 xs 0 ∧ Keeps (fun k => k = b) w wo ∧ Own wo w.heap.size (.slice a n cap) out ∧ out.length = n ∧ runs ys many out L1 = R) := ⟨hS, hK, hO, hlen, hE⟩
        have HC : Hid (Calls Tryz.prog 84 #[.pointer (some ⟨b, 0, none⟩), .pointer (some ⟨q, 0, none⟩)] wo (RSym (symN ys L1) wo b v s most xs)) := rsymbol_ok hS (HB.out wo hK) HX.out.1 HX.out.2
        clear hlen hE hS hK hO
        go_wp2_with fail
        refine HC.out.mono ?_
        intro e w2 hP
        clear HC c4
        rcases h1 : symN ys L1 with _ | ⟨i, L2⟩
        · obtain ⟨rfl, ⟨L', hS2⟩, hk⟩ := hP.1 h1
          obtain ⟨c2, c3, c4, cf, p0, c1⟩ := hS2.cell
          have e : R = none := by rw [← HS.out.2.2.2.2, runs_none1 (by rw [HS.out.2.2.2.1]; exact hnm) h1]
          subst e
          have HQ : Hid (FS w2 b v s most L' xs 700 ∧ Keeps (fun k => k = b) w w2) := ⟨hS2, HS.out.2.1.trans hk (fun _ _ h => h)⟩
          clear hP h1 hk hS2 c2 c3 cf c1
          go_wp2
          go_ret
          exact RLen.noneI HQ.out.1 HQ.out.2
        · obtain ⟨rfl, hS2, hk2⟩ := hP.2 i L2 h1
          obtain ⟨c2, c3, c4, cf, p0, c1⟩ := hS2.cell
          have HL : Hid (symN ys L1 = some (i, L2) ∧ L2.length < L1.length) := ⟨h1, symN_len h1⟩
          have hi3 : i ≤ 300 := by have := symN_small h1; have := HX.out.2; omega
          have hbl : ∀ k, (Value.slice a n cap).ownBlock = some k → ¬ k = b := fun k e e2 => by
            have := (World.ownsRow.lt HS.out.2.2.1 k e).1; have := HV.out.1; omega
          have H2 : Hid (FS w2 b v s most L2 xs 0 ∧ Keeps (fun k => k = b) w w2 ∧ Own w2 w.heap.size (.slice a n cap) out ∧ ∀ k, (Value.slice a n cap).ownBlock = some k → ¬ k = b) := ⟨hS2, HS.out.2.1.trans hk2 (fun _ _ h => h), HS.out.2.2.1.kept hk2 hbl, hbl⟩
          clear hP h1 hS2 hk2 c2 c3 cf c1 hbl
          by_cases h16 : i = 16
          · subst h16
            by_cases h0 : n = 0
            · subst h0
              have e : R = none := by rw [← HS.out.2.2.2.2, runs_none2 (by rw [HS.out.2.2.2.1]; exact hnm) HL.out.1 (by unfold rle; rw [if_pos rfl, if_pos HS.out.2.2.2.1]; rfl)]
              subst e
              have HC : Hid (Calls Tryz.prog 56 #[.pointer (some ⟨b, 0, none⟩)] w2 fun e w' => e = .returned (.tuple #[]) ∧ FS w' b v s most L2 xs 700 ∧ Keeps (fun k => k = b) w2 w') := wrong_ok H2.out.1
              go_wp2_with fail
              refine HC.out.mono ?_
              rintro e w4 ⟨rfl, hS4, hK4⟩
              have HQ : Hid (FS w4 b v s most L2 xs 700 ∧ Keeps (fun k => k = b) w w4) := ⟨hS4, H2.out.2.1.trans hK4 (fun _ _ h => h)⟩
              clear HC hS4 hK4 c4
              go_wp2
              go_ret
              exact RLen.noneI HQ.out.1 HQ.out.2
            · have hn0 : ¬ ((n : Int) = 0) := by omega
              have hn0b : ((n : Int) == 0) = false := by simp; omega
              obtain ⟨gq, off, hgq, hq1, hq2⟩ := (own_at H2.out.2.2.1 HS.out.2.2.2.1).spot (by rw [HS.out.2.2.2.1]; omega)
              obtain ⟨jj, hjj⟩ : ∃ jj, n - 1 = jj := ⟨_, rfl⟩
              have hcell := hq2 jj (by rw [HS.out.2.2.2.1]; omega)
              rw [← at_eq jj (by rw [HS.out.2.2.2.1]; omega)] at hcell
              obtain ⟨y, hy⟩ : ∃ y, at_ out jj = y := ⟨_, rfl⟩
              rw [hy] at hcell
              have HRl : Hid (rle 16 out L2 = bnd (aboveL 3 2) (fun m => retL (List.replicate m y)) L2) := by show _ = _; unfold rle; rw [if_pos rfl, if_neg (by rw [HS.out.2.2.2.1]; exact h0), HS.out.2.2.2.1, hjj, hy]
              have hw1 : IntKind.i64.wrap ((n : Int) - 1) = (jj : Int) := by rw [wrap_i64_small _ (by omega) (by omega)]; omega
              have hw2 : wrap64 ((n : Int) - 1) = (jj : Int) := by unfold wrap64; omega
              have hw3 : (n : Int) - 1 = (jj : Int) := by omega
              have hjn : (jj : Int) < (n : Int) := by omega
              obtain rfl := hgq
              clear hq1 hq2 hjj hy
              have HC : Hid (Calls Tryz.prog 49 #[.pointer (some ⟨b, 0, none⟩), .int .i64 2] w2 (GP 2 L2 0 w2 b v s most xs)) := get_gen H2.out.1 2 (by omega)
              go_wp2_with fail
              refine HC.out.mono ?_
              rintro e w3 ⟨x, er3, L3, hx, rfl, hS3, hK3, hL3, hG, _⟩
              have hx7 : x < 4 := hx
              clear hx HC c4
              obtain ⟨c2, c3, c4, cf, p0, c1⟩ := hS3.cell
              clear c2 c3 cf c1
              rcases hG rfl with ⟨rfl, hg⟩ | ⟨rfl, hg⟩
              · have H3 : Hid (runs ys many (out ++ List.replicate (3 + x) y) L3 = R ∧ FS w3 b v s most L3 xs 0 ∧ Keeps (fun k => k = b) w w3 ∧ Own w3 w.heap.size (.slice (some ⟨gq, off, none⟩) n cap) out ∧ L3.length < L1.length) := by
                  refine ⟨?_, hS3, H2.out.2.1.trans hK3 (fun _ _ h => h), H2.out.2.2.1.kept hK3 H2.out.2.2.2, by have := HL.out.2; omega⟩
                  rw [← HS.out.2.2.2.2]
                  exact (runs_next (by rw [HS.out.2.2.2.1]; exact hnm) HL.out.1 (by rw [HRl.out]; unfold aboveL; simp [bnd, hg, retL])).symm
                clear hS3 hK3 hG hg hL3
                by_cases hov : many < n + (3 + x)
                · have hovz : (many : Int) < (n : Int) + (3 + (x : Int)) := by omega
                  have e : R = none := by rw [← H3.out.1]; exact runs_over (by rw [List.length_append, List.length_replicate, HS.out.2.2.2.1]; exact hov)
                  subst e
                  have HC : Hid (Calls Tryz.prog 56 #[.pointer (some ⟨b, 0, none⟩)] w3 fun e w' => e = .returned (.tuple #[]) ∧ FS w' b v s most L3 xs 700 ∧ Keeps (fun k => k = b) w3 w') := wrong_ok H3.out.2.1
                  go_wp2_with fail
                  refine HC.out.mono ?_
                  rintro e w4 ⟨rfl, hS4, hK4⟩
                  obtain ⟨c2, c3, c4', cf, p0, c1⟩ := hS4.cell
                  have H4 : Hid (FS w4 b v s most L3 xs 700 ∧ Keeps (fun k => k = b) w w4 ∧ Own w4 w.heap.size (.slice (some ⟨gq, off, none⟩) n cap) out ∧ out.length = n ∧ L3.length < L1.length) := ⟨hS4, H3.out.2.2.1.trans hK4 (fun _ _ h => h), H3.out.2.2.2.1.kept hK4 H2.out.2.2.2, HS.out.2.2.2.1, H3.out.2.2.2.2⟩
                  clear HC hS4 hK4 c2 c3 cf c1 c4
                  go_wp2
                  go_loopw [7, 11] (fun s7 s11 w' => s7 = .slice (some ⟨gq, off, none⟩) n cap ∧ s11 = .int .i64 0 ∧ w' = w4) (fun _ _ _ => 0)
                  case atStart => exact ⟨rfl, rfl, rfl⟩
                  case round =>
                    obtain ⟨rfl, rfl, rfl⟩ := hrel
                    go_wp2
                    go_roundw
                    case rel =>
                      obtain ⟨k1, k2, k3, k4, k5⟩ := H4.out
                      exact ⟨(some ⟨gq, off, none⟩), n, cap, rfl, by omega, L3, 700, out, k4, .inr ⟨rfl, rfl⟩, k1, k2, k3⟩
                    case measure =>
                      obtain ⟨k1, k2, k3, k4, k5⟩ := H4.out
                      rw [k1.left, HS.out.1.left]; exact k5

                · have hovz : ¬ (many : Int) < (n : Int) + (3 + (x : Int)) := by omega
                  go_wp2
                  go_loopw [7, 11] (fun s7 s11 w' => ∃ (j : Nat) (a' : Option Addr) (cap' : Nat), j ≤ (3 + x) ∧ s11 = .int .i64 (j : Int) ∧ s7 = .slice a' (n + j) cap' ∧ Hid (Own w' w.heap.size (.slice a' (n + j) cap') (out ++ List.replicate j y) ∧ FS w' b v s most L3 xs 0 ∧ Keeps (fun k => k = b) w w')) (fun _ s11 _ => ((((3 + x) : Nat) : Int) - intOf s11).toNat)
                  case atStart => exact ⟨0, (some ⟨gq, off, none⟩), cap, by omega, rfl, rfl, by rw [List.replicate_zero, List.append_nil]; exact H3.out.2.2.2.1, H3.out.2.1, H3.out.2.2.1⟩
                  case round =>
                    clear c4
                    obtain ⟨j, a', cap', hj, rfl, hs7, HW⟩ := hrel
                    obtain rfl := hs7.symm
                    clear hs7
                    obtain ⟨c2, c3, c4, cf, p0, c1⟩ := HW.out.2.1.cell
                    clear c2 c3 cf c1
                    obtain ⟨n', hn'⟩ : ∃ n', n + j = n' := ⟨_, rfl⟩
                    have HO : Hid (wr.ownsRow w.heap.size 3 1 (.slice a' n' cap') n' (intsV (out ++ List.replicate j y))) := by
                      have := HW.out.1
                      unfold Own at this
                      rw [List.length_append, List.length_replicate, HS.out.2.2.2.1, hn'] at this
                      exact this
                    rw [hn'] at HW ⊢
                    have HN : Hid (n + j = n') := hn'
                    have hn2 : n' ≤ 2000 := by omega
                    clear hn'
                    by_cases hjm : j < (3 + x)
                    · have hjz : (j : Int) < (3 + (x : Int)) := by omega
                      go_wp2_with (refine wpList_nat rfl _ _ rfl w.heap.size (.slice a' n' cap') n' (intsV (out ++ List.replicate j y)) rfl (HO.out.alloc _) wr.heap.size y rfl (heap_alloc_new wr _) (by have := HW.out.2.2.size; simp; omega) (by omega) ?_; intro g4 cap4 w6 hown4 hgrow4 hat4 hlt4)
                      go_roundw
                      case rel =>
                        have kk : Keeps (fun x => (Value.slice a' n' cap').ownBlock = some x) wr w6 := (((Keeps.refl _ wr).alloc _)).grown hgrow4 (fun x _ e => e)
                        have hlow : ∀ x, (Value.slice a' n' cap').ownBlock = some x → w.heap.size ≤ x := fun x e => (World.ownsRow.lt HO.out x e).1
                        refine ⟨j + 1, _, cap4, by omega, by push_cast; rfl, by rw [show n + (j + 1) = n' + 1 by have := HN.out; omega], ?_, HW.out.2.1.keptS kk (fun e => by have := hlow b e; have := HV.out.1; omega) (fun k e e2 => by have := hlow k e2; have := HV.out.2 k e; omega), HW.out.2.2.trans kk (fun x hx e => by have := hlow x e; omega)⟩
                        unfold Own
                        rw [List.replicate_succ', ← List.append_assoc, List.length_append, List.length_append, List.length_replicate, HS.out.2.2.2.1, HN.out, show n + (j + 1) = n' + 1 by have := HN.out; omega]
                        simpa [intsV] using hown4
                      case measure => simp [intOf]; omega
                    · obtain rfl : j = (3 + x) := by omega
                      have hjz : ¬ ((((3 + x) : Nat) : Int) < (3 + (x : Int))) := by omega
                      go_wp2
                      go_roundw
                      case rel =>
                        refine ⟨a', n', cap', rfl, by have := HN.out; omega, L3, 0, out ++ List.replicate ((3 + x)) y, ?_, .inl ⟨rfl, H3.out.1⟩, HW.out.2.1, HW.out.2.2, HW.out.1⟩
                        rw [List.length_append, List.length_replicate, HS.out.2.2.2.1, HN.out]
                      case measure => rw [HW.out.2.1.left, HS.out.1.left]; exact H3.out.2.2.2.2

              · have e : R = none := by rw [← HS.out.2.2.2.2, runs_none2 (by rw [HS.out.2.2.2.1]; exact hnm) HL.out.1 (by rw [HRl.out]; unfold aboveL; simp [bnd, hg])]
                subst e
                have H4 : Hid (FS w3 b v s most L3 xs 700 ∧ Keeps (fun k => k = b) w w3 ∧ Own w3 w.heap.size (.slice (some ⟨gq, off, none⟩) n cap) out ∧ out.length = n ∧ L3.length < L1.length) := ⟨hS3, H2.out.2.1.trans hK3 (fun _ _ h => h), H2.out.2.2.1.kept hK3 H2.out.2.2.2, HS.out.2.2.2.1, by have := HL.out.2; omega⟩
                clear hS3 hK3 hG hg hL3
                go_wp2
                go_loopw [7, 11] (fun s7 s11 w' => s7 = .slice (some ⟨gq, off, none⟩) n cap ∧ s11 = .int .i64 0 ∧ w' = w3) (fun _ _ _ => 0)
                case atStart => exact ⟨rfl, rfl, rfl⟩
                case round =>
                  obtain ⟨rfl, rfl, rfl⟩ := hrel
                  go_wp2
                  go_roundw
                  case rel =>
                    obtain ⟨k1, k2, k3, k4, k5⟩ := H4.out
                    exact ⟨(some ⟨gq, off, none⟩), n, cap, rfl, by omega, L3, 700, out, k4, .inr ⟨rfl, rfl⟩, k1, k2, k3⟩
                  case measure =>
                    obtain ⟨k1, k2, k3, k4, k5⟩ := H4.out
                    rw [k1.left, HS.out.1.left]; exact k5
          · have h16n : ¬ ((i : Int) = 16) := by omega
            have h16b : ((i : Int) == 16) = false := by simp; omega
            by_cases h17 : i = 17
            · subst h17
              have HRl : Hid (rle 17 out L2 = bnd (aboveL 3 3) (fun m => retL (List.replicate m 0)) L2) := rfl
              have HC : Hid (Calls Tryz.prog 49 #[.pointer (some ⟨b, 0, none⟩), .int .i64 3] w2 (GP 3 L2 0 w2 b v s most xs)) := get_gen H2.out.1 3 (by omega)
              go_wp2_with fail
              refine HC.out.mono ?_
              rintro e w3 ⟨x, er3, L3, hx, rfl, hS3, hK3, hL3, hG, _⟩
              have hx7 : x < 8 := hx
              clear hx HC c4
              obtain ⟨c2, c3, c4, cf, p0, c1⟩ := hS3.cell
              clear c2 c3 cf c1
              rcases hG rfl with ⟨rfl, hg⟩ | ⟨rfl, hg⟩
              · have H3 : Hid (runs ys many (out ++ List.replicate (3 + x) 0) L3 = R ∧ FS w3 b v s most L3 xs 0 ∧ Keeps (fun k => k = b) w w3 ∧ Own w3 w.heap.size (.slice a n cap) out ∧ L3.length < L1.length) := by
                  refine ⟨?_, hS3, H2.out.2.1.trans hK3 (fun _ _ h => h), H2.out.2.2.1.kept hK3 H2.out.2.2.2, by have := HL.out.2; omega⟩
                  rw [← HS.out.2.2.2.2]
                  exact (runs_next (by rw [HS.out.2.2.2.1]; exact hnm) HL.out.1 (by rw [HRl.out]; unfold aboveL; simp [bnd, hg, retL])).symm
                clear hS3 hK3 hG hg hL3
                by_cases hov : many < n + (3 + x)
                · have hovz : (many : Int) < (n : Int) + (3 + (x : Int)) := by omega
                  have e : R = none := by rw [← H3.out.1]; exact runs_over (by rw [List.length_append, List.length_replicate, HS.out.2.2.2.1]; exact hov)
                  subst e
                  have HC : Hid (Calls Tryz.prog 56 #[.pointer (some ⟨b, 0, none⟩)] w3 fun e w' => e = .returned (.tuple #[]) ∧ FS w' b v s most L3 xs 700 ∧ Keeps (fun k => k = b) w3 w') := wrong_ok H3.out.2.1
                  go_wp2_with fail
                  refine HC.out.mono ?_
                  rintro e w4 ⟨rfl, hS4, hK4⟩
                  obtain ⟨c2, c3, c4', cf, p0, c1⟩ := hS4.cell
                  have H4 : Hid (FS w4 b v s most L3 xs 700 ∧ Keeps (fun k => k = b) w w4 ∧ Own w4 w.heap.size (.slice a n cap) out ∧ out.length = n ∧ L3.length < L1.length) := ⟨hS4, H3.out.2.2.1.trans hK4 (fun _ _ h => h), H3.out.2.2.2.1.kept hK4 H2.out.2.2.2, HS.out.2.2.2.1, H3.out.2.2.2.2⟩
                  clear HC hS4 hK4 c2 c3 cf c1 c4
                  go_wp2
                  go_loopw [7, 11] (fun s7 s11 w' => s7 = .slice a n cap ∧ s11 = .int .i64 0 ∧ w' = w4) (fun _ _ _ => 0)
                  case atStart => exact ⟨rfl, rfl, rfl⟩
                  case round =>
                    obtain ⟨rfl, rfl, rfl⟩ := hrel
                    go_wp2
                    go_roundw
                    case rel =>
                      obtain ⟨k1, k2, k3, k4, k5⟩ := H4.out
                      exact ⟨a, n, cap, rfl, by omega, L3, 700, out, k4, .inr ⟨rfl, rfl⟩, k1, k2, k3⟩
                    case measure =>
                      obtain ⟨k1, k2, k3, k4, k5⟩ := H4.out
                      rw [k1.left, HS.out.1.left]; exact k5

                · have hovz : ¬ (many : Int) < (n : Int) + (3 + (x : Int)) := by omega
                  go_wp2
                  go_loopw [7, 11] (fun s7 s11 w' => ∃ (j : Nat) (a' : Option Addr) (cap' : Nat), j ≤ (3 + x) ∧ s11 = .int .i64 (j : Int) ∧ s7 = .slice a' (n + j) cap' ∧ Hid (Own w' w.heap.size (.slice a' (n + j) cap') (out ++ List.replicate j 0) ∧ FS w' b v s most L3 xs 0 ∧ Keeps (fun k => k = b) w w')) (fun _ s11 _ => ((((3 + x) : Nat) : Int) - intOf s11).toNat)
                  case atStart => exact ⟨0, a, cap, by omega, rfl, rfl, by rw [List.replicate_zero, List.append_nil]; exact H3.out.2.2.2.1, H3.out.2.1, H3.out.2.2.1⟩
                  case round =>
                    clear c4
                    obtain ⟨j, a', cap', hj, rfl, hs7, HW⟩ := hrel
                    obtain rfl := hs7.symm
                    clear hs7
                    obtain ⟨c2, c3, c4, cf, p0, c1⟩ := HW.out.2.1.cell
                    clear c2 c3 cf c1
                    obtain ⟨n', hn'⟩ : ∃ n', n + j = n' := ⟨_, rfl⟩
                    have HO : Hid (wr.ownsRow w.heap.size 3 1 (.slice a' n' cap') n' (intsV (out ++ List.replicate j 0))) := by
                      have := HW.out.1
                      unfold Own at this
                      rw [List.length_append, List.length_replicate, HS.out.2.2.2.1, hn'] at this
                      exact this
                    rw [hn'] at HW ⊢
                    have HN : Hid (n + j = n') := hn'
                    have hn2 : n' ≤ 2000 := by omega
                    clear hn'
                    by_cases hjm : j < (3 + x)
                    · have hjz : (j : Int) < (3 + (x : Int)) := by omega
                      go_wp2_with (refine wpList_nat rfl _ _ rfl w.heap.size (.slice a' n' cap') n' (intsV (out ++ List.replicate j 0)) rfl (HO.out.alloc _) wr.heap.size 0 rfl (heap_alloc_new wr _) (by have := HW.out.2.2.size; simp; omega) (by omega) ?_; intro g4 cap4 w6 hown4 hgrow4 hat4 hlt4)
                      go_roundw
                      case rel =>
                        have kk : Keeps (fun x => (Value.slice a' n' cap').ownBlock = some x) wr w6 := (((Keeps.refl _ wr).alloc _)).grown hgrow4 (fun x _ e => e)
                        have hlow : ∀ x, (Value.slice a' n' cap').ownBlock = some x → w.heap.size ≤ x := fun x e => (World.ownsRow.lt HO.out x e).1
                        refine ⟨j + 1, _, cap4, by omega, by push_cast; rfl, by rw [show n + (j + 1) = n' + 1 by have := HN.out; omega], ?_, HW.out.2.1.keptS kk (fun e => by have := hlow b e; have := HV.out.1; omega) (fun k e e2 => by have := hlow k e2; have := HV.out.2 k e; omega), HW.out.2.2.trans kk (fun x hx e => by have := hlow x e; omega)⟩
                        unfold Own
                        rw [List.replicate_succ', ← List.append_assoc, List.length_append, List.length_append, List.length_replicate, HS.out.2.2.2.1, HN.out, show n + (j + 1) = n' + 1 by have := HN.out; omega]
                        simpa [intsV] using hown4
                      case measure => simp [intOf]; omega
                    · obtain rfl : j = (3 + x) := by omega
                      have hjz : ¬ ((((3 + x) : Nat) : Int) < (3 + (x : Int))) := by omega
                      go_wp2
                      go_roundw
                      case rel =>
                        refine ⟨a', n', cap', rfl, by have := HN.out; omega, L3, 0, out ++ List.replicate ((3 + x)) 0, ?_, .inl ⟨rfl, H3.out.1⟩, HW.out.2.1, HW.out.2.2, HW.out.1⟩
                        rw [List.length_append, List.length_replicate, HS.out.2.2.2.1, HN.out]
                      case measure => rw [HW.out.2.1.left, HS.out.1.left]; exact H3.out.2.2.2.2

              · have e : R = none := by rw [← HS.out.2.2.2.2, runs_none2 (by rw [HS.out.2.2.2.1]; exact hnm) HL.out.1 (by rw [HRl.out]; unfold aboveL; simp [bnd, hg])]
                subst e
                have H4 : Hid (FS w3 b v s most L3 xs 700 ∧ Keeps (fun k => k = b) w w3 ∧ Own w3 w.heap.size (.slice a n cap) out ∧ out.length = n ∧ L3.length < L1.length) := ⟨hS3, H2.out.2.1.trans hK3 (fun _ _ h => h), H2.out.2.2.1.kept hK3 H2.out.2.2.2, HS.out.2.2.2.1, by have := HL.out.2; omega⟩
                clear hS3 hK3 hG hg hL3
                go_wp2
                go_loopw [7, 11] (fun s7 s11 w' => s7 = .slice a n cap ∧ s11 = .int .i64 0 ∧ w' = w3) (fun _ _ _ => 0)
                case atStart => exact ⟨rfl, rfl, rfl⟩
                case round =>
                  obtain ⟨rfl, rfl, rfl⟩ := hrel
                  go_wp2
                  go_roundw
                  case rel =>
                    obtain ⟨k1, k2, k3, k4, k5⟩ := H4.out
                    exact ⟨a, n, cap, rfl, by omega, L3, 700, out, k4, .inr ⟨rfl, rfl⟩, k1, k2, k3⟩
                  case measure =>
                    obtain ⟨k1, k2, k3, k4, k5⟩ := H4.out
                    rw [k1.left, HS.out.1.left]; exact k5
            · have h17n : ¬ ((i : Int) = 17) := by omega
              have h17b : ((i : Int) == 17) = false := by simp; omega
              by_cases h18 : i = 18
              · subst h18
                have HRl : Hid (rle 18 out L2 = bnd (aboveL 11 7) (fun m => retL (List.replicate m 0)) L2) := rfl
                have HC : Hid (Calls Tryz.prog 49 #[.pointer (some ⟨b, 0, none⟩), .int .i64 7] w2 (GP 7 L2 0 w2 b v s most xs)) := get_gen H2.out.1 7 (by omega)
                go_wp2_with fail
                refine HC.out.mono ?_
                rintro e w3 ⟨x, er3, L3, hx, rfl, hS3, hK3, hL3, hG, _⟩
                have hx7 : x < 128 := hx
                clear hx HC c4
                obtain ⟨c2, c3, c4, cf, p0, c1⟩ := hS3.cell
                clear c2 c3 cf c1
                rcases hG rfl with ⟨rfl, hg⟩ | ⟨rfl, hg⟩
                · have H3 : Hid (runs ys many (out ++ List.replicate (11 + x) 0) L3 = R ∧ FS w3 b v s most L3 xs 0 ∧ Keeps (fun k => k = b) w w3 ∧ Own w3 w.heap.size (.slice a n cap) out ∧ L3.length < L1.length) := by
                    refine ⟨?_, hS3, H2.out.2.1.trans hK3 (fun _ _ h => h), H2.out.2.2.1.kept hK3 H2.out.2.2.2, by have := HL.out.2; omega⟩
                    rw [← HS.out.2.2.2.2]
                    exact (runs_next (by rw [HS.out.2.2.2.1]; exact hnm) HL.out.1 (by rw [HRl.out]; unfold aboveL; simp [bnd, hg, retL])).symm
                  clear hS3 hK3 hG hg hL3
                  by_cases hov : many < n + (11 + x)
                  · have hovz : (many : Int) < (n : Int) + (11 + (x : Int)) := by omega
                    have e : R = none := by rw [← H3.out.1]; exact runs_over (by rw [List.length_append, List.length_replicate, HS.out.2.2.2.1]; exact hov)
                    subst e
                    have HC : Hid (Calls Tryz.prog 56 #[.pointer (some ⟨b, 0, none⟩)] w3 fun e w' => e = .returned (.tuple #[]) ∧ FS w' b v s most L3 xs 700 ∧ Keeps (fun k => k = b) w3 w') := wrong_ok H3.out.2.1
                    go_wp2_with fail
                    refine HC.out.mono ?_
                    rintro e w4 ⟨rfl, hS4, hK4⟩
                    obtain ⟨c2, c3, c4', cf, p0, c1⟩ := hS4.cell
                    have H4 : Hid (FS w4 b v s most L3 xs 700 ∧ Keeps (fun k => k = b) w w4 ∧ Own w4 w.heap.size (.slice a n cap) out ∧ out.length = n ∧ L3.length < L1.length) := ⟨hS4, H3.out.2.2.1.trans hK4 (fun _ _ h => h), H3.out.2.2.2.1.kept hK4 H2.out.2.2.2, HS.out.2.2.2.1, H3.out.2.2.2.2⟩
                    clear HC hS4 hK4 c2 c3 cf c1 c4
                    go_wp2
                    go_loopw [7, 11] (fun s7 s11 w' => s7 = .slice a n cap ∧ s11 = .int .i64 0 ∧ w' = w4) (fun _ _ _ => 0)
                    case atStart => exact ⟨rfl, rfl, rfl⟩
                    case round =>
                      obtain ⟨rfl, rfl, rfl⟩ := hrel
                      go_wp2
                      go_roundw
                      case rel =>
                        obtain ⟨k1, k2, k3, k4, k5⟩ := H4.out
                        exact ⟨a, n, cap, rfl, by omega, L3, 700, out, k4, .inr ⟨rfl, rfl⟩, k1, k2, k3⟩
                      case measure =>
                        obtain ⟨k1, k2, k3, k4, k5⟩ := H4.out
                        rw [k1.left, HS.out.1.left]; exact k5

                  · have hovz : ¬ (many : Int) < (n : Int) + (11 + (x : Int)) := by omega
                    go_wp2
                    go_loopw [7, 11] (fun s7 s11 w' => ∃ (j : Nat) (a' : Option Addr) (cap' : Nat), j ≤ (11 + x) ∧ s11 = .int .i64 (j : Int) ∧ s7 = .slice a' (n + j) cap' ∧ Hid (Own w' w.heap.size (.slice a' (n + j) cap') (out ++ List.replicate j 0) ∧ FS w' b v s most L3 xs 0 ∧ Keeps (fun k => k = b) w w')) (fun _ s11 _ => ((((11 + x) : Nat) : Int) - intOf s11).toNat)
                    case atStart => exact ⟨0, a, cap, by omega, rfl, rfl, by rw [List.replicate_zero, List.append_nil]; exact H3.out.2.2.2.1, H3.out.2.1, H3.out.2.2.1⟩
                    case round =>
                      clear c4
                      obtain ⟨j, a', cap', hj, rfl, hs7, HW⟩ := hrel
                      obtain rfl := hs7.symm
                      clear hs7
                      obtain ⟨c2, c3, c4, cf, p0, c1⟩ := HW.out.2.1.cell
                      clear c2 c3 cf c1
                      obtain ⟨n', hn'⟩ : ∃ n', n + j = n' := ⟨_, rfl⟩
                      have HO : Hid (wr.ownsRow w.heap.size 3 1 (.slice a' n' cap') n' (intsV (out ++ List.replicate j 0))) := by
                        have := HW.out.1
                        unfold Own at this
                        rw [List.length_append, List.length_replicate, HS.out.2.2.2.1, hn'] at this
                        exact this
                      rw [hn'] at HW ⊢
                      have HN : Hid (n + j = n') := hn'
                      have hn2 : n' ≤ 2000 := by omega
                      clear hn'
                      by_cases hjm : j < (11 + x)
                      · have hjz : (j : Int) < (11 + (x : Int)) := by omega
                        go_wp2_with (refine wpList_nat rfl _ _ rfl w.heap.size (.slice a' n' cap') n' (intsV (out ++ List.replicate j 0)) rfl (HO.out.alloc _) wr.heap.size 0 rfl (heap_alloc_new wr _) (by have := HW.out.2.2.size; simp; omega) (by omega) ?_; intro g4 cap4 w6 hown4 hgrow4 hat4 hlt4)
                        go_roundw
                        case rel =>
                          have kk : Keeps (fun x => (Value.slice a' n' cap').ownBlock = some x) wr w6 := (((Keeps.refl _ wr).alloc _)).grown hgrow4 (fun x _ e => e)
                          have hlow : ∀ x, (Value.slice a' n' cap').ownBlock = some x → w.heap.size ≤ x := fun x e => (World.ownsRow.lt HO.out x e).1
                          refine ⟨j + 1, _, cap4, by omega, by push_cast; rfl, by rw [show n + (j + 1) = n' + 1 by have := HN.out; omega], ?_, HW.out.2.1.keptS kk (fun e => by have := hlow b e; have := HV.out.1; omega) (fun k e e2 => by have := hlow k e2; have := HV.out.2 k e; omega), HW.out.2.2.trans kk (fun x hx e => by have := hlow x e; omega)⟩
                          unfold Own
                          rw [List.replicate_succ', ← List.append_assoc, List.length_append, List.length_append, List.length_replicate, HS.out.2.2.2.1, HN.out, show n + (j + 1) = n' + 1 by have := HN.out; omega]
                          simpa [intsV] using hown4
                        case measure => simp [intOf]; omega
                      · obtain rfl : j = (11 + x) := by omega
                        have hjz : ¬ ((((11 + x) : Nat) : Int) < (11 + (x : Int))) := by omega
                        go_wp2
                        go_roundw
                        case rel =>
                          refine ⟨a', n', cap', rfl, by have := HN.out; omega, L3, 0, out ++ List.replicate ((11 + x)) 0, ?_, .inl ⟨rfl, H3.out.1⟩, HW.out.2.1, HW.out.2.2, HW.out.1⟩
                          rw [List.length_append, List.length_replicate, HS.out.2.2.2.1, HN.out]
                        case measure => rw [HW.out.2.1.left, HS.out.1.left]; exact H3.out.2.2.2.2

                · have e : R = none := by rw [← HS.out.2.2.2.2, runs_none2 (by rw [HS.out.2.2.2.1]; exact hnm) HL.out.1 (by rw [HRl.out]; unfold aboveL; simp [bnd, hg])]
                  subst e
                  have H4 : Hid (FS w3 b v s most L3 xs 700 ∧ Keeps (fun k => k = b) w w3 ∧ Own w3 w.heap.size (.slice a n cap) out ∧ out.length = n ∧ L3.length < L1.length) := ⟨hS3, H2.out.2.1.trans hK3 (fun _ _ h => h), H2.out.2.2.1.kept hK3 H2.out.2.2.2, HS.out.2.2.2.1, by have := HL.out.2; omega⟩
                  clear hS3 hK3 hG hg hL3
                  go_wp2
                  go_loopw [7, 11] (fun s7 s11 w' => s7 = .slice a n cap ∧ s11 = .int .i64 0 ∧ w' = w3) (fun _ _ _ => 0)
                  case atStart => exact ⟨rfl, rfl, rfl⟩
                  case round =>
                    obtain ⟨rfl, rfl, rfl⟩ := hrel
                    go_wp2
                    go_roundw
                    case rel =>
                      obtain ⟨k1, k2, k3, k4, k5⟩ := H4.out
                      exact ⟨a, n, cap, rfl, by omega, L3, 700, out, k4, .inr ⟨rfl, rfl⟩, k1, k2, k3⟩
                    case measure =>
                      obtain ⟨k1, k2, k3, k4, k5⟩ := H4.out
                      rw [k1.left, HS.out.1.left]; exact k5
              · have h18n : ¬ ((i : Int) = 18) := by omega
                have h18b : ((i : Int) == 18) = false := by simp; omega
                have H3 : Hid (runs ys many (out ++ List.replicate 1 (i : Int)) L2 = R ∧ FS w2 b v s most L2 xs 0 ∧ Keeps (fun k => k = b) w w2 ∧ Own w2 w.heap.size (.slice a n cap) out ∧ L2.length < L1.length) := by
                  refine ⟨?_, H2.out.1, H2.out.2.1, H2.out.2.2.1, HL.out.2⟩
                  rw [← HS.out.2.2.2.2]
                  exact (runs_next (by rw [HS.out.2.2.2.1]; exact hnm) HL.out.1 (by unfold rle; rw [if_neg h16, if_neg h17, if_neg h18]; rfl)).symm
                by_cases hov : many < n + 1
                · exact absurd hov (by omega)
                · have hovz : ¬ (many : Int) < (n : Int) + 1 := by omega
                  go_wp2
                  go_loopw [7, 11] (fun s7 s11 w' => ∃ (j : Nat) (a' : Option Addr) (cap' : Nat), j ≤ 1 ∧ s11 = .int .i64 (j : Int) ∧ s7 = .slice a' (n + j) cap' ∧ Hid (Own w' w.heap.size (.slice a' (n + j) cap') (out ++ List.replicate j (i : Int)) ∧ FS w' b v s most L2 xs 0 ∧ Keeps (fun k => k = b) w w')) (fun _ s11 _ => (((1 : Nat) : Int) - intOf s11).toNat)
                  case atStart => exact ⟨0, a, cap, by omega, rfl, rfl, by rw [List.replicate_zero, List.append_nil]; exact H3.out.2.2.2.1, H3.out.2.1, H3.out.2.2.1⟩
                  case round =>
                    clear c4
                    obtain ⟨j, a', cap', hj, rfl, hs7, HW⟩ := hrel
                    obtain rfl := hs7.symm
                    clear hs7
                    obtain ⟨c2, c3, c4, cf, p0, c1⟩ := HW.out.2.1.cell
                    clear c2 c3 cf c1
                    obtain ⟨n', hn'⟩ : ∃ n', n + j = n' := ⟨_, rfl⟩
                    have HO : Hid (wr.ownsRow w.heap.size 3 1 (.slice a' n' cap') n' (intsV (out ++ List.replicate j (i : Int)))) := by
                      have := HW.out.1
                      unfold Own at this
                      rw [List.length_append, List.length_replicate, HS.out.2.2.2.1, hn'] at this
                      exact this
                    rw [hn'] at HW ⊢
                    have HN : Hid (n + j = n') := hn'
                    have hn2 : n' ≤ 2000 := by omega
                    clear hn'
                    by_cases hjm : j < 1
                    · have hjz : (j : Int) < 1 := by omega
                      go_wp2_with (refine wpList_nat rfl _ _ rfl w.heap.size (.slice a' n' cap') n' (intsV (out ++ List.replicate j (i : Int))) rfl (HO.out.alloc _) wr.heap.size (i : Int) rfl (heap_alloc_new wr _) (by have := HW.out.2.2.size; simp; omega) (by omega) ?_; intro g4 cap4 w6 hown4 hgrow4 hat4 hlt4)
                      go_roundw
                      case rel =>
                        have kk : Keeps (fun x => (Value.slice a' n' cap').ownBlock = some x) wr w6 := (((Keeps.refl _ wr).alloc _)).grown hgrow4 (fun x _ e => e)
                        have hlow : ∀ x, (Value.slice a' n' cap').ownBlock = some x → w.heap.size ≤ x := fun x e => (World.ownsRow.lt HO.out x e).1
                        refine ⟨j + 1, _, cap4, by omega, by push_cast; rfl, by rw [show n + (j + 1) = n' + 1 by have := HN.out; omega], ?_, HW.out.2.1.keptS kk (fun e => by have := hlow b e; have := HV.out.1; omega) (fun k e e2 => by have := hlow k e2; have := HV.out.2 k e; omega), HW.out.2.2.trans kk (fun x hx e => by have := hlow x e; omega)⟩
                        unfold Own
                        rw [List.replicate_succ', ← List.append_assoc, List.length_append, List.length_append, List.length_replicate, HS.out.2.2.2.1, HN.out, show n + (j + 1) = n' + 1 by have := HN.out; omega]
                        simpa [intsV] using hown4
                      case measure => simp [intOf]; omega
                    · obtain rfl : j = 1 := by omega
                      have hjz : ¬ (((1 : Nat) : Int) < 1) := by omega
                      go_wp2
                      go_roundw
                      case rel =>
                        refine ⟨a', n', cap', rfl, by have := HN.out; omega, L2, 0, out ++ List.replicate (1) (i : Int), ?_, .inl ⟨rfl, H3.out.1⟩, HW.out.2.1, HW.out.2.2, HW.out.1⟩
                        rw [List.length_append, List.length_replicate, HS.out.2.2.2.1, HN.out]
                      case measure => rw [HW.out.2.1.left, HS.out.1.left]; exact H3.out.2.2.2.2
      · have hnz : ¬ (n : Int) < (many : Int) := by omega
        obtain rfl : n = many := by omega
        have e : R = some (out, L1) := by rw [← hE, runs_done hlen]
        subst e
        have HP : Hid (RLen (some (out, L1)) w b v s most xs (.returned (.slice a n cap)) wo) := ⟨fun e => by (cases e), fun _ _ e => by cases e; exact ⟨_, rfl, hO, hS, hK⟩⟩
        clear hlen hE hS hK hO
        go_wp2
        go_ret
        exact HP.out
    · have HQ : Hid (FS wo b v s most L1 xs 700 ∧ Keeps (fun k => k = b) w wo) := ⟨hS, hK⟩
      clear hlen hS hK hO
      by_cases hnm : n < many
      · have hnz : (n : Int) < (many : Int) := by omega
        go_wp2
        go_ret
        exact RLen.noneI HQ.out.1 HQ.out.2
      · have hnz : ¬ (n : Int) < (many : Int) := by omega
        go_wp2
        go_ret
        exact RLen.noneI HQ.out.1 HQ.out.2

end Go.Proofs.YtfbghchgfbjogaaGreat

/-
  The document's Dynamic.
-/
import Derived.Test.YtfbghchgfbjogaaGreatRows
import Derived.Test.YtfbghchgfbjogaaGreatF23
import Derived.BigRegion
namespace Go.Proofs.YtfbghchgfbjogaaGreat.Bk
open Go.RowKit
open Hf Tb
open Mt (Tk RowT TkAt tk tk_eq mayF okT sumZ expF)
set_option linter.unusedVariables false
set_option linter.unusedSimpArgs false

theorem cntL_comm (n : Nat) (a b : List Nat) : cntL n (a ++ b) = cntL n (b ++ a) := by
  unfold cntL
  apply List.map_congr_left
  intro i _
  rw [List.count_append, List.count_append, Nat.add_comm]
theorem blk_put {w : World} {g : Nat} {xs : List Int} (h : Blk w g xs) (i : Nat) (y : Int) : Blk (w.setCell ⟨g, i, none⟩ (.int .i64 y)) g (xs.set i y) := by
  unfold Blk
  rw [heap_setCell_same h]
  congr 2
  simp [intsV, List.map_set]
theorem blk_cnt {w : World} {g n : Nat} {ss : List Nat} (h : Blk w g (cntL n ss)) (i : Nat) (hi : i < n) : w.cell? ⟨g, i, none⟩ = some (.int .i64 ((ss.count i : Nat) : Int)) := by
  have hl : i < (cntL n ss).length := by rw [cntL_length]; exact hi
  have h3 := cntL_get n ss i hi
  rw [List.getElem?_eq_getElem hl] at h3
  rw [h.cell i hl, Option.some.inj h3]
theorem blk_inc {w : World} {g n : Nat} {ss : List Nat} (h : Blk w g (cntL n ss)) (i : Nat) (hi : i < n) : Blk (w.setCell ⟨g, i, none⟩ (.int .i64 (((ss.count i : Nat) : Int) + 1))) g (cntL n (ss ++ [i])) := by
  rw [cntL_snoc n ss i hi]; exact blk_put h i _
theorem inc_wrap (v : Nat) (h : v ≤ 1000) : wrap64 ((v : Int) + 1) = (v : Int) + 1 ∧ IntKind.i64.wrap ((v : Int) + 1) = (v : Int) + 1 := ⟨by rw [wrap64_small _ (by omega) (by omega)], by rw [wrap_i64_small _ (by omega) (by omega)]⟩
theorem threeB_snoc8 (xs : List Int) (x : Int) : threeB (xs ++ [x]) = threeB xs ++ bitsOf x.toNat 3 := by simp [threeB]
theorem threeB_len8 (xs : List Int) : (threeB xs).length = 3 * xs.length := by
  induction xs with
  | nil => rfl
  | cons x r ih =>
    have : threeB (x :: r) = bitsOf x.toNat 3 ++ threeB r := by simp [threeB]
    rw [this, List.length_append, ih, bitsOf_length, List.length_cons]; omega
theorem codesB_snoc8 (cl xs : List Int) (x : Int) : codesB cl (xs ++ [x]) = codesB cl xs ++ codeB cl x.toNat := by simp [codesB]
theorem codeB_le8 {cl : List Int} (hm : may cl = true) (i : Nat) : (codeB cl i).length ≤ 15 := by
  rw [codeB_length]
  by_cases hi : i < cl.length
  · have := may_at hm i hi; rw [at_eq i hi]; omega
  · unfold at_; rw [List.getD, List.getElem?_eq_none (by omega)]; simp
theorem codesB_len8 {cl : List Int} (hm : may cl = true) (xs : List Int) : (codesB cl xs).length ≤ 15 * xs.length := by
  induction xs with
  | nil => simp [codesB]
  | cons x r ih =>
    have : codesB cl (x :: r) = codeB cl x.toNat ++ codesB cl r := by simp [codesB]
    have := codeB_le8 hm x.toNat
    rw [‹codesB cl (x :: r) = _›, List.length_append, List.length_cons]; omega

/-- The document's counts: the end first. -/
def dA (ts : List Tk) : List Nat := [256] ++ symsA ts
/-- What the document's Dynamic has counted. -/
structure Cou (w0 w : World) (ga gb : Nat) (ts : List Tk) : Prop where
  bA : Blk w ga (cntL 286 (dA ts))
  bB : Blk w gb (cntL 30 (symsB ts))
  keep : Keeps (fun _ => False) w0 w
  fA : w0.heap.size ≤ ga
  fB : w0.heap.size ≤ gb
  ne : ga ≠ gb
theorem Cou.keptF {w0 w w' : World} {ga gb : Nat} {ts : List Tk} (h : Cou w0 w ga gb ts) (hk : Keeps (fun _ => False) w w') : Cou w0 w' ga gb ts :=
  ⟨h.bA.keptF hk, h.bB.keptF hk, h.keep.trans hk (fun _ _ h => h), h.fA, h.fB, h.ne⟩
theorem dA_snoc (ts : List Tk) (t : Tk) : dA (ts ++ [t]) = dA ts ++ [symA t] := by unfold dA; rw [symsA_snoc]; simp
theorem Cou.byte {w0 w : World} {ga gb : Nat} {ts : List Tk} (h : Cou w0 w ga gb ts) (m : Nat) (d : Int) (hm : m < 286) : Cou w0 (w.setCell ⟨ga, m, none⟩ (.int .i64 ((((dA ts).count m : Nat) : Int) + 1))) ga gb (ts ++ [((m : Int), 0, d)]) := by
  have kk : Keeps (fun k => k = ga) w (w.setCell ⟨ga, m, none⟩ (.int .i64 ((((dA ts).count m : Nat) : Int) + 1))) := (Keeps.refl (fun k => k = ga) w).setCell (p := ⟨ga, m, none⟩) (fun _ => rfl) _
  refine ⟨?_, ?_, h.keep.trans kk (fun k hk e => by have := h.fA; omega), h.fA, h.fB, h.ne⟩
  · rw [dA_snoc, show symA ((m : Int), 0, d) = m by simp [symA]]
    exact blk_inc h.bA m hm
  · rw [symsB_snoc, show symB ((m : Int), 0, d) = [] by simp [symB], List.append_nil]
    exact h.bB.kept kk (fun e => h.ne e.symm)
theorem Cou.copy {w0 w : World} {ga gb : Nat} {ts : List Tk} (h : Cou w0 w ga gb ts) (l : Int) (x y I k : Nat) (hx : ¬ (x : Int) = 0) (e1 : symA (l, (x : Int), (y : Int)) = I) (e2 : symB (l, (x : Int), (y : Int)) = [k]) (hI : I < 286) (hk : k < 30) :
    (w.setCell ⟨ga, I, none⟩ (.int .i64 ((((dA ts).count I : Nat) : Int) + 1))).cell? ⟨gb, k, none⟩ = some (.int .i64 (((symsB ts).count k : Nat) : Int)) ∧ (w.setCell ⟨ga, I, none⟩ (.int .i64 ((((dA ts).count I : Nat) : Int) + 1))).frozen? ⟨gb, k, none⟩ = false ∧
    Cou w0 ((w.setCell ⟨ga, I, none⟩ (.int .i64 ((((dA ts).count I : Nat) : Int) + 1))).setCell ⟨gb, k, none⟩ (.int .i64 ((((symsB ts).count k : Nat) : Int) + 1))) ga gb (ts ++ [(l, (x : Int), (y : Int))]) := by
  have kk : Keeps (fun k => k = ga) w (w.setCell ⟨ga, I, none⟩ (.int .i64 ((((dA ts).count I : Nat) : Int) + 1))) := (Keeps.refl (fun k => k = ga) w).setCell (p := ⟨ga, I, none⟩) (fun _ => rfl) _
  have hb2 := h.bB.kept kk (fun e => h.ne e.symm)
  have ha2 := blk_inc h.bA I hI
  generalize w.setCell ⟨ga, I, none⟩ (.int .i64 ((((dA ts).count I : Nat) : Int) + 1)) = v at *
  have k2 : Keeps (fun k => k = gb) v (v.setCell ⟨gb, k, none⟩ (.int .i64 ((((symsB ts).count k : Nat) : Int) + 1))) := (Keeps.refl (fun k => k = gb) v).setCell (p := ⟨gb, k, none⟩) (fun _ => rfl) _
  refine ⟨blk_cnt hb2 k hk, hb2.free k, ?_, ?_, (h.keep.trans kk (fun i hi e => by have := h.fA; omega)).trans k2 (fun i hi e => by have := h.fB; omega), h.fA, h.fB, h.ne⟩
  · rw [dA_snoc, e1]; exact ha2.kept k2 h.ne
  · rw [symsB_snoc, e2]; exact blk_inc hb2 k hk
theorem rlens_ok (g n cap : Nat) (ss : List Nat) (most : Int) (w : World) (hB : Blk w g (cntL n ss)) (h1 : 2 ≤ n) (h2 : n ≤ 288) (hs : ss.length ≤ 100000) (m1 : 1 ≤ most) (m2 : most ≤ 15) (hp : n ≤ 2 ^ most.toNat) :
    Calls Tryz.prog 68 #[.slice (some ⟨g, 0, none⟩) n cap, .int .i64 most] w fun e w' => ∃ q, e = .returned (.tuple #[.slice (some ⟨q, 0, none⟩) n n, .int .i64 0]) ∧ Pfx w' q (lenL n ss most) ∧ Keeps (fun _ => False) w w' := by
  have := Lm.rlen_good (some ⟨g, 0, none⟩) (cntL n ss) cap most w (Blk.pfx hB).row (fit_cnt n ss most h1 h2 hs m1 m2 hp)
  rw [cntL_length] at this
  refine this.mono ?_
  rintro e w' ⟨q, rfl, hO, hK⟩
  exact ⟨q, rfl, own_pfx hO, hK⟩

set_option maxRecDepth 1000000 in
theorem make_run (n : Nat) (hn : n ≤ 1000000) : ∃ Z : Array Value, (∀ w, (Instr.makeSlice 22 (.int .i64 (n : Int)) (.int .i64 (n : Int))).run Tryz.prog w = .ok (.slice (some ⟨w.heap.size, 0, none⟩) n n) (w.alloc (.cells Z 3))) ∧ Z = (intsV (List.replicate n 0)).toArray := by
  obtain ⟨i, hi, h1, h2, h3⟩ : ∃ i, Tryz.prog.info? 3 = some i ∧ i.zero = some (.int .i64 0) ∧ i.bytes = 8 ∧ i.size = 1 := ⟨Tryz.t3, Tryz.type3, rfl, rfl, rfl⟩
  refine ⟨madeCells (Value.int .i64 0).cells (n * i.size), fun w => ?_, ?_⟩
  · have hr := run_make (P := Tryz.prog) w 22 3 i _ Tryz.underlying22 hi h1 .i64 .i64 n n (by omega) (by omega) (by rw [h2]; omega) (by omega)
    simpa using hr
  · apply Array.ext_getElem?
    intro j
    simp only [madeCells, h3, Value.cells, intsV, List.map_replicate, List.getElem?_toArray]
    rw [Array.getElem?_map, Array.getElem?_range, List.getElem?_replicate]
    by_cases hj : j < n
    · rw [if_pos (by omega), if_pos hj]; simp [Nat.mod_one]
    · rw [if_neg (by omega), if_neg hj]; rfl
set_option maxHeartbeats 16000000 in
set_option maxRecDepth 100000 in
theorem rdynamic_ok8 (a : Option Addr) (ts : List Tk) (cap : Nat) (w : World) (hR : RowT w a ts) (hm : mayT ts = true) :
    Calls Tryz.prog 45 #[.slice a ts.length cap] w (StrPost (textOf (pack (dynOf ts))) 0 w) := by
  obtain ⟨m1, m2, m3, m4⟩ := mayT_is hm
  obtain ⟨T, hT⟩ : ∃ T, textOf (pack (dynOf ts)) = T := ⟨_, rfl⟩
  rw [hT]
  have HTT : Hid (textOf (pack (dynOf ts)) = T) := hT
  clear hT
  have HC := hide (rfew_ok a ts cap w hR (by omega))
  rw [hm] at HC
  have HI : Hid (∀ i w', i < ts.length → Keeps (fun _ => False) w w' → ∀ tb off, a = some ⟨tb, off, none⟩ → TkAt w' tb (off + i * 3) (tk ts i)) := fun i w' hi hk tb off e => by
    subst e; exact RowT.cell (RowT.keptN hR hk (.inr (fun _ _ h => h))) hi
  have HSp : Hid (0 < ts.length → ∃ tb off, a = some ⟨tb, off, none⟩) := fun hn => by obtain ⟨tb, off, rfl, _⟩ := hR.at hn; exact ⟨tb, off, rfl⟩
  have HOk : Hid (∀ i, i < ts.length → (∃ c, Mt.okT (tk ts i) c = true) ∧ ts.take (i + 1) = ts.take i ++ [tk ts i]) := fun i hi => ⟨by rw [tk_eq i hi]; exact m4 _ (List.getElem_mem hi), take_succ_tk ts i hi⟩
  have HLen : Hid (∀ (k : Int) (w : World), Calls Tryz.prog 66 #[.int .i64 k] w fun e w' => e = .returned (.tuple #[syV (symL k), .int .i64 (errB (inL k))]) ∧ Keeps (fun _ => False) w w') := rlength_ok
  have HDis : Hid (∀ (k : Int) (w : World), Calls Tryz.prog 67 #[.int .i64 k] w fun e w' => e = .returned (.tuple #[syV (symD k), .int .i64 (errB (inD k))]) ∧ Keeps (fun _ => False) w w') := rdist_ok
  have HCt : Hid (∀ i m, (dA (ts.take i)).count m ≤ 1000 ∧ (symsB (ts.take i)).count m ≤ 1000) := fun i m => by
    have h1 : (ts.take i).length ≤ 300 := by rw [List.length_take]; omega
    refine ⟨Nat.le_trans List.count_le_length (by unfold dA symsA; simp; omega), Nat.le_trans List.count_le_length (Nat.le_trans (symsB_len _) (by omega))⟩
  have HRow := hide hR
  have HM := hide hm
  obtain ⟨N, hN⟩ : ∃ N, ts.length = N := ⟨_, rfl⟩
  have HN : Hid (ts.length = N ∧ ts.take N = ts) := ⟨hN, by rw [← hN]; exact List.take_length⟩
  rw [hN] at HI HSp HOk m3 HC ⊢
  clear hR hm m1 m2 m4 hN
  go_enter Tryz.func45, Tryz.ntmps45
  go_wp2_with fail
  refine HC.out.mono ?_
  rintro e w1 ⟨rfl, hK1⟩
  have H1 := hide hK1
  clear hK1 HC
  obtain ⟨ZA, hmA, hZA⟩ := make_run 286 (by omega)
  obtain ⟨ZB, hmB, hZB⟩ := make_run 30 (by omega)
  have hmA2 : ∀ w, (Instr.makeSlice 22 (.int .i64 286) (.int .i64 286)).run Tryz.prog w = .ok (.slice (some ⟨w.heap.size, 0, none⟩) 286 286) (w.alloc (.cells ZA 3)) := hmA
  have hmB2 : ∀ w, (Instr.makeSlice 22 (.int .i64 30) (.int .i64 30)).run Tryz.prog w = .ok (.slice (some ⟨w.heap.size, 0, none⟩) 30 30) (w.alloc (.cells ZB 3)) := hmB
  have HZ : Hid (ZA = (intsV (List.replicate 286 0)).toArray ∧ ZB = (intsV (List.replicate 30 0)).toArray) := ⟨hZA, hZB⟩
  clear hmA hmB hZA hZB
  go_wp2_with fail
  go_region
  all_goals
    generalize hwX : World.drew _ = w2
    obtain ⟨q, hq⟩ : ∃ q, w1.heap.size + 1 = q := ⟨_, rfl⟩
    obtain ⟨p, hp⟩ : ∃ p, w1.heap.size = p := ⟨_, rfl⟩
    rw [hq, hp]
    first
      | (have hwY : ((w1.alloc (.cells ZA 3)).alloc (.cells ZB 3)).drew = w2 := hwX
         have H2 : Hid (Blk w2 p (List.replicate 286 0) ∧ Blk w2 q (List.replicate 30 0) ∧ Keeps (fun _ => False) w w2 ∧ w.heap.size ≤ p ∧ w.heap.size ≤ q ∧ p ≠ q) := (by
          have b1 : Blk (w1.alloc (.cells ZA 3)) w1.heap.size (List.replicate 286 0) := by rw [HZ.out.1]; exact Blk.lit w1 _
          have b2 : Blk ((w1.alloc (.cells ZA 3)).alloc (.cells ZB 3)) (w1.alloc (.cells ZA 3)).heap.size (List.replicate 30 0) := by rw [HZ.out.2]; exact Blk.lit _ _
          have k1 : Keeps (fun _ => False) w1 (w1.alloc (.cells ZA 3)) := (Keeps.refl _ w1).alloc _
          have k2 : Keeps (fun _ => False) (w1.alloc (.cells ZA 3)) w2 := by rw [← hwX]; exact ((Keeps.refl _ _).alloc _).drew
          have b1' := b1.keptF k2
          have b2' : Blk w2 (w1.alloc (.cells ZA 3)).heap.size (List.replicate 30 0) := by rw [← hwX]; exact b2
          rw [World.size_alloc, hq] at b2'
          rw [hp] at b1'
          have := H1.out.size
          exact ⟨b1', b2', (H1.out.trans k1 (fun _ _ h => h)).trans k2 (fun _ _ h => h), by omega, by omega, by omega⟩)
         generalize p = ga at *
         generalize q = gb at *)
      | (have hwY : ((w1.alloc (.cells ZB 3)).alloc (.cells ZA 3)).drew = w2 := hwX
         have H2 : Hid (Blk w2 q (List.replicate 286 0) ∧ Blk w2 p (List.replicate 30 0) ∧ Keeps (fun _ => False) w w2 ∧ w.heap.size ≤ q ∧ w.heap.size ≤ p ∧ q ≠ p) := (by
          have b1 : Blk (w1.alloc (.cells ZB 3)) w1.heap.size (List.replicate 30 0) := by rw [HZ.out.2]; exact Blk.lit w1 _
          have b2 : Blk ((w1.alloc (.cells ZB 3)).alloc (.cells ZA 3)) (w1.alloc (.cells ZB 3)).heap.size (List.replicate 286 0) := by rw [HZ.out.1]; exact Blk.lit _ _
          have k1 : Keeps (fun _ => False) w1 (w1.alloc (.cells ZB 3)) := (Keeps.refl _ w1).alloc _
          have k2 : Keeps (fun _ => False) (w1.alloc (.cells ZB 3)) w2 := by rw [← hwX]; exact ((Keeps.refl _ _).alloc _).drew
          have b1' := b1.keptF k2
          have b2' : Blk w2 (w1.alloc (.cells ZB 3)).heap.size (List.replicate 286 0) := by rw [← hwX]; exact b2
          rw [World.size_alloc, hq] at b2'
          rw [hp] at b1'
          have := H1.out.size
          exact ⟨b2', b1', (H1.out.trans k1 (fun _ _ h => h)).trans k2 (fun _ _ h => h), by omega, by omega, by omega⟩)
         generalize q = ga at *
         generalize p = gb at *)
    have hcA := H2.out.1.cell 256 (by simp)
    have hfA := H2.out.1.free 256
    simp only [List.getElem_replicate] at hcA
    have H3 : Hid (Cou w (w2.setCell ⟨ga, 256, none⟩ (.int .i64 1)) ga gb (ts.take 0)) := by
      obtain ⟨b1, b2, b3, b4, b5, b6⟩ := H2.out
      have kk : Keeps (fun k => k = ga) w2 (w2.setCell ⟨ga, 256, none⟩ (.int .i64 1)) := (Keeps.refl (fun k => k = ga) w2).setCell (p := ⟨ga, 256, none⟩) (fun _ => rfl) _
      rw [List.take_zero]
      refine ⟨?_, ?_, b3.trans kk (fun k hk e => by omega), b4, b5, b6⟩
      · rw [← cntL_nil] at b1
        have := blk_inc b1 256 (by omega)
        exact this
      · show Blk _ gb (cntL 30 [])
        rw [cntL_nil]
        exact b2.kept kk (fun e => b6 e.symm)
    clear hwX hwY hq hp H1 hmA2 hmB2 HZ H2
    go_wp2_with fail
    go_loopw [6] (fun s6 w' => ∃ i : Nat, i ≤ N ∧ s6 = .int .i64 (i : Int) ∧ Hid (Cou w w' ga gb (ts.take i))) (fun s6 w' => ((N : Int) - intOf s6).toNat)
    case atStart => exact ⟨0, by omega, rfl, H3⟩
    case round =>
      clear H3 hcA hfA
      obtain ⟨i, hi, rfl, HW⟩ := hrel
      by_cases hin : i < N
      · have hiz : (i : Int) < (N : Int) := by omega
        obtain ⟨tb, off, ha⟩ := HSp.out (by omega)
        subst ha
        obtain ⟨⟨l, n, d⟩, ht⟩ : ∃ t, tk ts i = t := ⟨_, rfl⟩
        obtain ⟨⟨c, hc⟩, htk⟩ := HOk.out i hin
        obtain ⟨t0, t1, t2⟩ := HI.out i wr hin HW.out.keep tb off rfl
        rw [ht] at hc t0 t1 t2 htk
        simp only at t0 t1 t2
        have HTk := hide htk
        clear htk
        by_cases hn0 : n = 0
        · subst hn0
          have hb2 : 0 ≤ l ∧ l ≤ 255 := by
            rcases (Mt.okT_iff hc).1 with h1 | h1
            · have := Mt.isB_iff h1; simp only at this; omega
            · have := Mt.isC_iff h1; simp only at this; omega
          obtain ⟨m, rfl⟩ : ∃ m : Nat, l = (m : Int) := ⟨l.toNat, by omega⟩
          have hcm := blk_cnt HW.out.bA m (by omega)
          have hfm := HW.out.bA.free m
          have hvb := (HCt.out i m).1
          have hcb := HW.out.byte m d (by omega)
          rw [← HTk.out] at hcb
          obtain ⟨v, hv⟩ : ∃ v, (dA (ts.take i)).count m = v := ⟨_, rfl⟩
          rw [hv] at hcm hvb hcb
          have hmz : (m : Int) < 286 := by omega
          obtain ⟨hw1, hw2⟩ := inc_wrap v hvb
          have HW2 := hide hcb
          clear hcb hv hc ht HW HTk
          go_wp2
          go_roundw
          case rel => exact ⟨i + 1, by omega, by push_cast; rfl, HW2⟩
          case measure => simp [intOf]; omega
        · have hb2 : 3 ≤ n ∧ n ≤ 258 ∧ 1 ≤ d ∧ d ≤ 32768 := by
            rcases (Mt.okT_iff hc).1 with h1 | h1
            · have := Mt.isB_iff h1; simp only at this; omega
            · have := Mt.isC_iff h1; simp only at this; omega
          obtain ⟨x, rfl⟩ : ∃ x : Nat, n = (x : Int) := ⟨n.toNat, by omega⟩
          obtain ⟨y, rfl⟩ : ∃ y : Nat, d = (y : Int) := ⟨d.toNat, by omega⟩
          obtain ⟨j, f, j1, j2, j3, j4, j5⟩ := symL_is x (by omega) (by omega)
          obtain ⟨k, g, k1, k2, k3, k4, k5⟩ := symD_is y (by omega) (by omega)
          have HL1 : Hid (∀ (w : World), Calls Tryz.prog 66 #[.int .i64 (x : Int)] w fun e w' => e = .returned (.tuple #[.agg #[.int .i64 ((257 + j : Nat) : Int), .int .i64 ((lenF j).2 : Int), .int .i64 (f : Int)], .int .i64 (errB (inL (x : Int)))]) ∧ Keeps (fun _ => False) w w') := fun w => by have := HLen.out (x : Int) w; rw [j2] at this; exact this
          have HD1 : Hid (∀ (w : World), Calls Tryz.prog 67 #[.int .i64 (y : Int)] w fun e w' => e = .returned (.tuple #[.agg #[.int .i64 (k : Int), .int .i64 ((dstF k).2 : Int), .int .i64 (g : Int)], .int .i64 (errB (inD (y : Int)))]) ∧ Keeps (fun _ => False) w w') := fun w => by have := HDis.out (y : Int) w; rw [k2] at this; exact this
          have e1 : symA (l, (x : Int), (y : Int)) = 257 + j := by unfold symA; rw [if_neg hn0]; simp only [j2, Int.toNat_natCast]
          have e2 : symB (l, (x : Int), (y : Int)) = [k] := by unfold symB; rw [if_neg hn0]; simp only [k2, Int.toNat_natCast]
          obtain ⟨I, hI⟩ : ∃ I, 257 + j = I := ⟨_, rfl⟩
          rw [hI] at e1 HL1
          have HCp : Hid (∀ w', Cou w w' ga gb (ts.take i) → w'.cell? ⟨ga, I, none⟩ = some (.int .i64 (((dA (ts.take i)).count I : Nat) : Int)) ∧ w'.frozen? ⟨ga, I, none⟩ = false ∧ (w'.setCell ⟨ga, I, none⟩ (.int .i64 ((((dA (ts.take i)).count I : Nat) : Int) + 1))).cell? ⟨gb, k, none⟩ = some (.int .i64 (((symsB (ts.take i)).count k : Nat) : Int)) ∧ (w'.setCell ⟨ga, I, none⟩ (.int .i64 ((((dA (ts.take i)).count I : Nat) : Int) + 1))).frozen? ⟨gb, k, none⟩ = false ∧ Cou w ((w'.setCell ⟨ga, I, none⟩ (.int .i64 ((((dA (ts.take i)).count I : Nat) : Int) + 1))).setCell ⟨gb, k, none⟩ (.int .i64 ((((symsB (ts.take i)).count k : Nat) : Int) + 1))) ga gb (ts.take (i + 1))) := fun w' h => by
            have h2 := h.copy l x y I k hn0 e1 e2 (by omega) (by omega)
            rw [HTk.out]
            exact ⟨blk_cnt h.bA I (by omega), h.bA.free I, h2.1, h2.2.1, h2.2.2⟩
          have hub := (HCt.out i I).1
          have hvb := (HCt.out i k).2
          obtain ⟨u, hu⟩ : ∃ v, (dA (ts.take i)).count I = v := ⟨_, rfl⟩
          obtain ⟨v, hv⟩ : ∃ v, (symsB (ts.take i)).count k = v := ⟨_, rfl⟩
          rw [hu] at hub HCp
          rw [hv] at hvb HCp
          have hIz : (I : Int) < 286 := by omega
          have hkz : (k : Int) < 30 := by omega
          obtain ⟨hw1, hw2⟩ := inc_wrap u hub
          obtain ⟨hw3, hw4⟩ := inc_wrap v hvb
          generalize errB (inL (x : Int)) = er1 at *
          generalize errB (inD (y : Int)) = er2 at *
          generalize (lenF j).2 = bl at *
          generalize (dstF k).2 = bd at *
          have HTd : Hid (∀ w', Keeps (fun _ => False) w w' → w'.cell? ⟨tb, off + i * 3 + 2, none⟩ = some (.int .i64 (y : Int))) := fun w' hk => by
            have := (HI.out i w' hin hk tb off rfl).2.2
            rw [ht] at this; exact this
          clear hc ht hb2 j1 j2 j3 j4 j5 k1 k2 k3 k4 k5 e1 e2 hu hv hI HTk
          go_wp2_with fail
          refine (HL1.out wr).mono ?_
          rintro e w4 ⟨rfl, hK4⟩
          have H4 := hide (HW.out.keptF hK4)
          clear hK4 HL1 t0 t1 t2 HW
          go_wp2_with (first
            | (refine Tb.wpList_alloc3 rfl rfl ?_; intro q1 w5 hY5 hK5 hq5)
            | (refine Tb.wpList_store3 rfl _ _ rfl q1 ((I : Int), (bl : Int), (f : Int)) rfl rfl (0, 0, 0) hY5 ?_; intro w6 hY6 hK6; have H6 : Hid (Cou w w6 ga gb (ts.take i) ∧ Syb w6 q1 ((I : Int), (bl : Int), (f : Int)) ∧ q1 ≠ ga ∧ q1 ≠ gb) := (by
                have l1 := H4.out.bA.lt
                have l2 := H4.out.bB.lt
                have hz := H4.out.keep.size
                have h5 := H4.out.keptF hK5
                exact ⟨⟨h5.bA.kept hK6 (by omega), h5.bB.kept hK6 (by omega), h5.keep.trans hK6 (fun k hk e => by omega), h5.fA, h5.fB, h5.ne⟩, hY6, by omega, by omega⟩); have td := HTd.out w6 H6.out.1.keep; clear hK5 hK6 hY5 hq5 hY6))
          refine (HD1.out w6).mono ?_
          rintro e w7 ⟨rfl, hK7⟩
          have H7 : Hid (Cou w w7 ga gb (ts.take i) ∧ Syb w7 q1 ((I : Int), (bl : Int), (f : Int)) ∧ q1 ≠ ga ∧ q1 ≠ gb) := ⟨H6.out.1.keptF hK7, H6.out.2.1.keptF hK7, H6.out.2.2.1, H6.out.2.2.2⟩
          clear hK7 HD1 H6 td HTd H4
          go_wp2_with (first
            | (refine Tb.wpList_alloc3 rfl rfl ?_; intro q2 w8 hY8 hK8 hq8)
            | (refine Tb.wpList_store3 rfl _ _ rfl q2 ((k : Int), (bd : Int), (g : Int)) rfl rfl (0, 0, 0) hY8 ?_; intro w9 hY9 hK9; have H9 : Hid (Cou w w9 ga gb (ts.take i) ∧ Syb w9 q1 ((I : Int), (bl : Int), (f : Int)) ∧ Syb w9 q2 ((k : Int), (bd : Int), (g : Int)) ∧ q1 ≠ ga ∧ q1 ≠ gb ∧ q2 ≠ ga ∧ q2 ≠ gb) := (by
                have l1 := H7.out.1.bA.lt
                have l2 := H7.out.1.bB.lt
                have l3 := H7.out.2.1.lt
                have hz := H7.out.1.keep.size
                have h5 := H7.out.1.keptF hK8
                exact ⟨⟨h5.bA.kept hK9 (by omega), h5.bB.kept hK9 (by omega), h5.keep.trans hK9 (fun k hk e => by omega), h5.fA, h5.fB, h5.ne⟩, (H7.out.2.1.keptF hK8).kept hK9 (by omega), hY9, H7.out.2.2.1, H7.out.2.2.2, by omega, by omega⟩); have hs1 := H9.out.2.1.c0; have hs2 : (w9.setCell ⟨ga, I, none⟩ (.int .i64 ((u : Int) + 1))).cell? ⟨q2, 0, none⟩ = some (.int .i64 (k : Int)) := (by rw [World.cell?_of_block (Below.heap_setCell _ _ _ _ (fun e => H9.out.2.2.2.2.2.1 (by simpa using e)))]; exact hY9.c0); obtain ⟨z1, z2, z3, z4, z5⟩ := HCp.out w9 H9.out.1; have HW2 := hide z5; clear hK8 hK9 hY8 hq8 hY9 z5))
          go_roundw
          case rel => exact ⟨i + 1, by omega, by push_cast; rfl, HW2⟩
          case measure => simp [intOf]; omega
      · obtain rfl : i = N := by omega
        have hCt := HW.out
        rw [HN.out.2] at hCt
        have hTl : ts.length ≤ 300 := by have := HN.out.1; omega
        have hD := dyn3_of ts (by omega)
        have eA : lenL 286 (dA ts) 15 = lenA ts := by unfold lenL lenA dA lenL; rw [cntL_comm]
        have HLA : Hid (Calls Tryz.prog 68 #[.slice (some ⟨ga, 0, none⟩) 286 286, .int .i64 15] wr fun e w' => ∃ q, e = .returned (.tuple #[.slice (some ⟨q, 0, none⟩) 286 286, .int .i64 0]) ∧ Pfx w' q (lenA ts) ∧ Keeps (fun _ => False) wr w') := by
          have := rlens_ok ga 286 286 (dA ts) 15 wr hCt.bA (by omega) (by omega) (by unfold dA symsA; simp; omega) (by omega) (by omega) (by decide)
          rw [eA] at this; exact this
        have HLB : Hid (∀ w', Keeps (fun _ => False) wr w' → Calls Tryz.prog 68 #[.slice (some ⟨gb, 0, none⟩) 30 30, .int .i64 15] w' fun e w'' => ∃ q, e = .returned (.tuple #[.slice (some ⟨q, 0, none⟩) 30 30, .int .i64 0]) ∧ Pfx w'' q (lenB ts) ∧ Keeps (fun _ => False) w' w'') := fun w' hk => rlens_ok gb 30 30 (symsB ts) 15 w' (hCt.bB.keptF hk) (by omega) (by omega) (by have := symsB_len ts; omega) (by omega) (by omega) (by decide)
        have HH := hide (show dynOf ts = bitsOf 1 1 ++ (bitsOf 2 2 ++ (hdrB (lenA ts) (lenB ts) (lenC ts) ++ (tksB (lenA ts) (lenB ts) ts ++ codeB (lenA ts) 256))) from rfl)
        have HHas : Hid (∀ t ∈ ts, hasT (lenA ts) (lenB ts) t) := fun t ht => by obtain ⟨c, hc⟩ := (mayT_is HM.out).2.2.2 t ht; exact hasT_of ts (by omega) t ht c hc
        have hCC : lenC ts = lenL 19 ((cutL (lenA ts) 257 ++ cutL (lenB ts) 1).map Int.toNat) 7 := rfl
        generalize lenA ts = A at *
        generalize lenB ts = B at *
        obtain ⟨C, hC⟩ : ∃ C, lenC ts = C := ⟨_, rfl⟩
        rw [hC] at hD HH hCC
        have a1 := upL_ge A 257 (by rw [hD.lA]; decide)
        have a2 := upL_le A 257
        have b1 := upL_ge B 1 (by rw [hD.lB]; decide)
        have b2 := upL_le B 1
        have r1 := upL_ge (rowOf C) 4 (by rw [rowOf_length]; decide)
        have r2 := upL_le (rowOf C) 4
        rw [hD.lA] at a2
        rw [hD.lB] at b2
        rw [rowOf_length] at r2
        have hxl : (cutL A 257).length = upL A 257 := cutL_length A 257
        have hyl : (cutL B 1).length = upL B 1 := cutL_length B 1
        have hrl : (cutL (rowOf C) 4).length = upL (rowOf C) 4 := cutL_length _ 4
        obtain ⟨X, hX⟩ : ∃ X, cutL A 257 = X := ⟨_, rfl⟩
        obtain ⟨Y, hY⟩ : ∃ Y, cutL B 1 = Y := ⟨_, rfl⟩
        obtain ⟨R, hR⟩ : ∃ R, cutL (rowOf C) 4 = R := ⟨_, rfl⟩
        obtain ⟨nx, hnx⟩ : ∃ n, upL A 257 = n := ⟨_, rfl⟩
        obtain ⟨ny, hny⟩ : ∃ n, upL B 1 = n := ⟨_, rfl⟩
        obtain ⟨nr, hnr⟩ : ∃ n, upL (rowOf C) 4 = n := ⟨_, rfl⟩
        have HU1 : Hid (∀ g w', Pfx w' g A → (Calls Tryz.prog 69 #[.slice (some ⟨g, 0, none⟩) 286 286, .int .i64 257] w' fun e w'' => e = .returned (.int .i64 (nx : Int)) ∧ Keeps (fun _ => False) w' w'') ∧ Pfx w' g X) := fun g w' hp => by
          refine ⟨?_, by rw [← hX]; exact hp.take _⟩
          have := rupTo_ok g 286 286 257 A w' hp hD.lA (fun y hy => by obtain ⟨i, hi, rfl⟩ := List.mem_iff_getElem.1 hy; exact (may_at hD.mA i hi).1) (by omega) (by omega) (by omega)
          rw [hnx] at this; exact this
        have HU2 : Hid (∀ g w', Pfx w' g B → (Calls Tryz.prog 69 #[.slice (some ⟨g, 0, none⟩) 30 30, .int .i64 1] w' fun e w'' => e = .returned (.int .i64 (ny : Int)) ∧ Keeps (fun _ => False) w' w'') ∧ Pfx w' g Y) := fun g w' hp => by
          refine ⟨?_, by rw [← hY]; exact hp.take _⟩
          have := rupTo_ok g 30 30 1 B w' hp hD.lB (fun y hy => by obtain ⟨i, hi, rfl⟩ := List.mem_iff_getElem.1 hy; exact (may_at hD.mB i hi).1) (by omega) (by omega) (by omega)
          rw [hny] at this; exact this
        have HU3 : Hid (∀ g w', Pfx w' g (rowOf C) → (Calls Tryz.prog 69 #[.slice (some ⟨g, 0, none⟩) 19 19, .int .i64 4] w' fun e w'' => e = .returned (.int .i64 (nr : Int)) ∧ Keeps (fun _ => False) w' w'') ∧ Pfx w' g R) := fun g w' hp => by
          refine ⟨?_, by rw [← hR]; exact hp.take _⟩
          have hCn : ∀ j, 0 ≤ at_ C j := fun j => by
            by_cases hj : j < C.length
            · rw [at_eq j hj]; exact (may_at hD.mC j hj).1
            · rw [at_out C j (by omega)]; omega
          have := rupTo_ok g 19 19 4 (rowOf C) w' hp (rowOf_length C) (fun y hy => by simp only [rowOf, List.mem_map] at hy; obtain ⟨j, _, rfl⟩ := hy; exact hCn j) (by omega) (by omega) (by omega)
          rw [hnr] at this; exact this
        have hall : ∀ y ∈ X ++ Y, 0 ≤ y ∧ y < 16 := by
          intro y hy
          rw [← hX, ← hY, List.mem_append] at hy
          rcases hy with hy | hy
          · obtain ⟨i, hi, rfl⟩ := List.mem_iff_getElem.1 (List.mem_of_mem_take hy)
            have := may_at hD.mA i hi; omega
          · obtain ⟨i, hi, rfl⟩ := List.mem_iff_getElem.1 (List.mem_of_mem_take hy)
            have := may_at hD.mB i hi; omega
        have hXl : X.length = nx := by rw [← hX, hxl, hnx]
        have hYl : Y.length = ny := by rw [← hY, hyl, hny]
        have hRl : R.length = nr := by rw [← hR, hrl, hnr]
        rw [hnx] at a1 a2
        rw [hny] at b1 b2
        rw [hnr] at r1 r2
        have HDF : Hid (Dyn3 A B C ∧ X = cutL A 257 ∧ Y = cutL B 1 ∧ R = cutL (rowOf C) 4 ∧ nx = upL A 257 ∧ ny = upL B 1 ∧ nr = upL (rowOf C) 4 ∧ C = lenL 19 ((X ++ Y).map Int.toNat) 7) := ⟨hD, hX.symm, hY.symm, hR.symm, hnx.symm, hny.symm, hnr.symm, by rw [← hX, ← hY]; exact hCC⟩
        have HL : Hid (X.length = nx ∧ Y.length = ny ∧ R.length = nr ∧ ∀ y ∈ X ++ Y, 0 ≤ y ∧ y < 16) := ⟨hXl, hYl, hRl, hall⟩
        have HK : Hid (Keeps (fun _ => False) w wr) := hCt.keep
        have hnx2 : (nx : Int) ≤ 286 := by omega
        have hny2 : (ny : Int) ≤ 30 := by omega
        clear hX hY hR hnx hny hnr hxl hyl hrl hall hCC hC hD eA hCt HW hXl hYl hRl HI HSp HOk HLen HDis HCt
        go_wp2_with fail
        refine HLA.out.mono ?_
        rintro e w4 ⟨gl, rfl, hP4, hK4⟩
        have H4 : Hid (Pfx w4 gl A ∧ Keeps (fun _ => False) wr w4) := ⟨hP4, hK4⟩
        clear hP4 hK4 HLA
        go_wp2_with fail
        refine (HLB.out w4 H4.out.2).mono ?_
        rintro e w5 ⟨gd, rfl, hP5, hK5⟩
        have H5 : Hid (Pfx w5 gl A ∧ Pfx w5 gd B ∧ Keeps (fun _ => False) w w5) := ⟨H4.out.1.keptF hK5, hP5, (HK.out.trans H4.out.2 (fun _ _ h => h)).trans hK5 (fun _ _ h => h)⟩
        clear hP5 hK5 HLB H4 HK
        go_wp2_with fail
        refine (HU1.out gl w5 H5.out.1).1.mono ?_
        rintro e w6 ⟨rfl, hK6⟩
        have H6 : Hid (Pfx w6 gl X ∧ Pfx w6 gd B ∧ Keeps (fun _ => False) w w6) := ⟨(HU1.out gl w5 H5.out.1).2.keptF hK6, H5.out.2.1.keptF hK6, H5.out.2.2.trans hK6 (fun _ _ h => h)⟩
        clear hK6 HU1 H5
        go_wp2_with fail
        refine (HU2.out gd w6 H6.out.2.1).1.mono ?_
        rintro e w7 ⟨rfl, hK7⟩
        have H7 : Hid (Pfx w7 gl X ∧ Pfx w7 gd Y ∧ Keeps (fun _ => False) w w7) := ⟨H6.out.1.keptF hK7, (HU2.out gd w6 H6.out.2.1).2.keptF hK7, H6.out.2.2.trans hK7 (fun _ _ h => h)⟩
        clear hK7 HU2 H6
        go_wp2_with (first
          | (refine wpList_joinP rfl _ _ rfl rfl w7.heap.size v8 X rfl H8.out.1 gd ny 30 Y rfl HL.out.2.1 H8.out.2.2.1 H8.out.2.2.2.2 (by have := HL.out.1; have := HL.out.2.1; omega) ?_; intro v9 w9 hO9 hG9; have H9 : Hid (Own w9 w7.heap.size v9 (X ++ Y) ∧ Pfx w9 gl X ∧ Pfx w9 gd Y ∧ Keeps (fun _ => False) w w9) := (by
              have hlt := World.ownsRow.lt H8.out.1
              have kk : Keeps (fun k => v8.ownBlock = some k) w8 w9 := (Keeps.refl _ w8).grown hG9 (fun k _ e => e)
              have l1 := H7.out.1.1
              have l2 := H7.out.2.1.1
              have l3 := H7.out.2.2.size
              exact ⟨hO9, H8.out.2.1.kept kk (fun e => by have := (hlt _ e).1; omega), H8.out.2.2.1.kept kk (fun e => by have := (hlt _ e).1; omega), H8.out.2.2.2.1.trans kk (fun k hk e => by have := (hlt _ e).1; omega)⟩); clear hO9 hG9)
          | (refine wpList_joinP rfl _ _ rfl rfl w7.heap.size (.slice (some ⟨w7.heap.size, 0, none⟩) 0 0) [] rfl ?hown gl nx 286 X rfl HL.out.1 (H7.out.1.keptF ((Keeps.refl _ _).alloc _)) (by simp) (by have := HL.out.1; simp; omega) ?_; (case hown => exact ⟨rfl, .inr ⟨w7.heap.size, 0, #[], rfl, Nat.le_refl _, heap_alloc_new _ _, Nat.le_refl _, Nat.zero_le _, rfl, rfl⟩⟩); intro v8 w8 hO8 hG8; have H8 : Hid (Own w8 w7.heap.size v8 X ∧ Pfx w8 gl X ∧ Pfx w8 gd Y ∧ Keeps (fun _ => False) w w8 ∧ w7.heap.size ≤ w8.heap.size) := (by
              have kk : Keeps (fun k => k = w7.heap.size) w7 w8 := ((Keeps.refl _ w7).alloc _).grown hG8 (fun k _ e => by simp [Value.ownBlock] at e; exact e.symm)
              have l1 := H7.out.1.1
              have l2 := H7.out.2.1.1
              have l3 := H7.out.2.2.size
              exact ⟨hO8, H7.out.1.kept kk (by omega), H7.out.2.1.kept kk (by omega), H7.out.2.2.trans kk (fun k hk e => by omega), kk.size⟩); clear hO8 hG8)
          | (refine wpList_zeros rfl _ _ rfl 19 rfl rfl (by omega) ?_; intro gc w10 hB10 hK10 hg10))
        obtain ⟨ba, cb, hv9, hPb, hbb⟩ := own_first H9.out.1 (by rw [List.length_append, HL.out.1, HL.out.2.1]; omega)
        have hMl : (X ++ Y).length = nx + ny := by rw [List.length_append, HL.out.1, HL.out.2.1]
        obtain ⟨M, hM⟩ : ∃ M, nx + ny = M := ⟨_, rfl⟩
        rw [hMl, hM] at hv9
        rw [hM] at hMl
        subst hv9
        have H10 : Hid (Pfx w10 ba (X ++ Y) ∧ Pfx w10 gl X ∧ Pfx w10 gd Y ∧ Keeps (fun _ => False) w w10 ∧ gc ≠ ba ∧ gc ≠ gl ∧ gc ≠ gd ∧ w.heap.size ≤ gc) := by
          have l1 := hPb.1
          have l2 := H9.out.2.1.1
          have l3 := H9.out.2.2.1.1
          have l4 := H9.out.2.2.2.size
          exact ⟨hPb.keptF hK10, H9.out.2.1.keptF hK10, H9.out.2.2.1.keptF hK10, H9.out.2.2.2.trans hK10 (fun _ _ h => h), by omega, by omega, by omega, by omega⟩
        have H10b : Hid (Blk w10 gc (cntL 19 (((X ++ Y).take 0).map Int.toNat)) ∧ Keeps (fun k => k = gc) w10 w10) := ⟨by rw [List.take_zero, List.map_nil, cntL_nil]; exact hB10, Keeps.refl _ _⟩
        have HMl := hide hMl
        have hMb : M ≤ 316 := by omega
        clear hB10 hK10 hg10 hPb hbb H9 H8 H7 hMl
        go_loopw [17] (fun s17 w' => ∃ j : Nat, j ≤ M ∧ s17 = .int .i64 (j : Int) ∧ Hid (Blk w' gc (cntL 19 (((X ++ Y).take j).map Int.toNat)) ∧ Keeps (fun k => k = gc) w10 w')) (fun s17 w' => ((M : Int) - intOf s17).toNat)
        case atStart => exact ⟨0, by omega, rfl, H10b⟩
        case round =>
          clear H10b
          obtain ⟨j, hj, rfl, HW⟩ := hrel
          by_cases hjn : j < M
          · have hjz : (j : Int) < (M : Int) := by omega
            have hjl : j < (X ++ Y).length := by rw [HMl.out]; exact hjn
            have hc := (H10.out.1.kept HW.out.2 (fun e => H10.out.2.2.2.2.1 e.symm)).2 j hjl
            obtain ⟨x, hx⟩ : ∃ x : Nat, (X ++ Y)[j] = (x : Int) := ⟨((X ++ Y)[j]).toNat, by have := HL.out.2.2.2 _ (List.getElem_mem hjl); omega⟩
            have hx19 : x < 19 := by have := HL.out.2.2.2 _ (List.getElem_mem hjl); omega
            rw [hx] at hc
            have hcv := blk_cnt HW.out.1 x hx19
            have hfv := HW.out.1.free x
            have hin2 := blk_inc HW.out.1 x hx19
            have hvb : (((X ++ Y).take j).map Int.toNat).count x ≤ 1000 := Nat.le_trans List.count_le_length (by simp; omega)
            have et : ((X ++ Y).take (j + 1)).map Int.toNat = ((X ++ Y).take j).map Int.toNat ++ [x] := by rw [List.take_add_one, List.getElem?_eq_getElem hjl, hx]; simp
            rw [← et] at hin2
            obtain ⟨v, hv⟩ : ∃ v, (((X ++ Y).take j).map Int.toNat).count x = v := ⟨_, rfl⟩
            rw [hv] at hcv hin2 hvb
            obtain ⟨hw1, hw2⟩ := inc_wrap v hvb
            have hxz : (x : Int) < 19 := by omega
            have hne : ba ≠ gc := fun e => H10.out.2.2.2.2.1 e.symm
            have HW2 : Hid (Blk (wr.setCell ⟨gc, x, none⟩ (.int .i64 ((v : Int) + 1))) gc (cntL 19 (((X ++ Y).take (j + 1)).map Int.toNat)) ∧ Keeps (fun k => k = gc) w10 (wr.setCell ⟨gc, x, none⟩ (.int .i64 ((v : Int) + 1)))) := ⟨hin2, HW.out.2.setCell (p := ⟨gc, x, none⟩) (fun _ => rfl) _⟩
            clear hin2 et hv HW hx hjl
            go_wp2
            go_roundw
            case rel => exact ⟨j + 1, by omega, by push_cast; rfl, HW2⟩
            case measure => simp [intOf]; omega
          · obtain rfl : j = M := by omega
            have et : (X ++ Y).take j = X ++ Y := List.take_of_length_le (by rw [HMl.out]; omega)
            have hBc := HW.out.1
            rw [et] at hBc
            have HLC : Hid (Calls Tryz.prog 68 #[.slice (some ⟨gc, 0, none⟩) 19 19, .int .i64 7] wr fun e w' => ∃ q, e = .returned (.tuple #[.slice (some ⟨q, 0, none⟩) 19 19, .int .i64 0]) ∧ Pfx w' q C ∧ Keeps (fun _ => False) wr w') := by
              have := rlens_ok gc 19 19 ((X ++ Y).map Int.toNat) 7 wr hBc (by omega) (by omega) (by rw [List.length_map, HMl.out]; omega) (by omega) (by omega) (by decide)
              rw [← HDF.out.2.2.2.2.2.2.2] at this; exact this
            have H11 : Hid (Pfx wr ba (X ++ Y) ∧ Pfx wr gl X ∧ Pfx wr gd Y ∧ Keeps (fun _ => False) w wr) := by
              obtain ⟨z1, z2, z3, z4, z5, z6, z7, z8⟩ := H10.out
              exact ⟨z1.kept HW.out.2 (fun e => z5 e.symm), z2.kept HW.out.2 (fun e => z6 e.symm), z3.kept HW.out.2 (fun e => z7 e.symm), z4.trans HW.out.2 (fun k hk e => by omega)⟩
            clear hBc et HW H10
            go_wp2_with fail
            refine HLC.out.mono ?_
            rintro e w12 ⟨gq, rfl, hP12, hK12⟩
            have H12 : Hid (Pfx w12 ba (X ++ Y) ∧ Pfx w12 gl X ∧ Pfx w12 gd Y ∧ Pfx w12 gq C ∧ Keeps (fun _ => False) w w12) := ⟨H11.out.1.keptF hK12, H11.out.2.1.keptF hK12, H11.out.2.2.1.keptF hK12, hP12, H11.out.2.2.2.trans hK12 (fun _ _ h => h)⟩
            have HOr := hide (rorder_ok w12)
            clear hP12 hK12 HLC H11
            go_wp2_with fail
            refine HOr.out.mono ?_
            rintro e w13 ⟨go, rfl, hB13, hK13, hg13⟩
            have H13 : Hid (Pfx w13 ba (X ++ Y) ∧ Pfx w13 gl X ∧ Pfx w13 gd Y ∧ Pfx w13 gq C ∧ Pfx w13 go rowI ∧ Keeps (fun _ => False) w w13) := ⟨H12.out.1.keptF hK13, H12.out.2.1.keptF hK13, H12.out.2.2.1.keptF hK13, H12.out.2.2.2.1.keptF hK13, Blk.pfx hB13, H12.out.2.2.2.2.trans hK13 (fun _ _ h => h)⟩
            clear hB13 hK13 hg13 HOr H12
            go_wp2_with (refine wpList_zeros rfl _ _ rfl 19 rfl rfl (by omega) ?_; intro gi w14 hB14 hK14 hg14)
            have H14 : Hid (Pfx w14 ba (X ++ Y) ∧ Pfx w14 gl X ∧ Pfx w14 gd Y ∧ Pfx w14 gq C ∧ Pfx w14 go rowI ∧ Keeps (fun _ => False) w w14 ∧ gi ≠ ba ∧ gi ≠ gl ∧ gi ≠ gd ∧ gi ≠ gq ∧ gi ≠ go ∧ w.heap.size ≤ gi) := by
              obtain ⟨z1, z2, z3, z4, z5, z6⟩ := H13.out
              have l1 := z1.1; have l2 := z2.1; have l3 := z3.1; have l4 := z4.1; have l5 := z5.1; have l6 := z6.size
              exact ⟨z1.keptF hK14, z2.keptF hK14, z3.keptF hK14, z4.keptF hK14, z5.keptF hK14, z6.trans hK14 (fun _ _ h => h), by omega, by omega, by omega, by omega, by omega, by omega⟩
            have H14b : Hid (Blk w14 gi ((rowOf C).take 0 ++ List.replicate (19 - 0) 0) ∧ Keeps (fun k => k = gi) w14 w14) := ⟨by rw [List.take_zero]; exact hB14, Keeps.refl _ _⟩
            clear hB14 hK14 hg14 H13
            go_loopw [22] (fun s22 w' => ∃ t : Nat, t ≤ 19 ∧ s22 = .int .i64 (t : Int) ∧ Hid (Blk w' gi ((rowOf C).take t ++ List.replicate (19 - t) 0) ∧ Keeps (fun k => k = gi) w14 w')) (fun s22 w' => ((19 : Int) - intOf s22).toNat)
            case atStart => exact ⟨0, by omega, rfl, H14b⟩
            case round =>
              clear H14b
              obtain ⟨t, ht, rfl, HW⟩ := hrel
              by_cases htn : t < 19
              · have htz : (t : Int) < 19 := by omega
                obtain ⟨x, hx⟩ : ∃ x, rowL.getD t 0 = x := ⟨_, rfl⟩
                have hx19 : x < 19 := by
                  rw [← hx]
                  have : ∀ i : Fin 19, rowL.getD i.val 0 < 19 := by decide
                  exact this ⟨t, htn⟩
                have hC19 : C.length = 19 := HDF.out.1.lC
                have hc1 : wr.cell? ⟨go, t, none⟩ = some (.int .i64 (x : Int)) := by
                  have hl : t < rowI.length := by show t < 19; exact htn
                  rw [(H14.out.2.2.2.2.1.kept HW.out.2 (fun e => H14.out.2.2.2.2.2.2.2.2.2.2.1 e.symm)).2 t hl]
                  have : ∀ i : Fin 19, ∀ h : i.val < rowI.length, rowI[i.val] = ((rowL.getD i.val 0 : Nat) : Int) := by decide
                  rw [this ⟨t, htn⟩ hl, hx]
                have hc2 : wr.cell? ⟨gq, x, none⟩ = some (.int .i64 (at_ C x)) := by
                  rw [(H14.out.2.2.2.1.kept HW.out.2 (fun e => H14.out.2.2.2.2.2.2.2.2.2.1 e.symm)).2 x (by rw [hC19]; exact hx19), at_eq x (by rw [hC19]; exact hx19)]
                have hl3 : ((rowOf C).take t ++ List.replicate (19 - t) 0).length = 19 := by rw [List.length_append, List.length_take, rowOf_length, List.length_replicate]; omega
                have hc3 := HW.out.1.cell t (by rw [hl3]; exact htn)
                have hf3 := HW.out.1.free t
                generalize ((rowOf C).take t ++ List.replicate (19 - t) 0)[t]'_ = old at hc3
                have HW2 : Hid (Blk (wr.setCell ⟨gi, t, none⟩ (.int .i64 (at_ C x))) gi ((rowOf C).take (t + 1) ++ List.replicate (19 - (t + 1)) 0) ∧ Keeps (fun k => k = gi) w14 (wr.setCell ⟨gi, t, none⟩ (.int .i64 (at_ C x)))) := by
                  refine ⟨?_, HW.out.2.setCell (p := ⟨gi, t, none⟩) (fun _ => rfl) _⟩
                  have h2 := blk_put HW.out.1 t (at_ C x)
                  have hlt : ((rowOf C).take t).length = t := by rw [List.length_take, rowOf_length]; omega
                  have e : ((rowOf C).take t ++ List.replicate (19 - t) 0).set t (at_ C x) = (rowOf C).take (t + 1) ++ List.replicate (19 - (t + 1)) 0 := by
                    rw [List.set_append_right _ _ (by omega), hlt, Nat.sub_self, show 19 - t = (19 - (t + 1)) + 1 by omega, List.replicate_succ, List.set_cons_zero, List.take_add_one, rowOf_get C t htn, hx]
                    simp
                  rw [e] at h2; exact h2
                have hxz : (x : Int) < 19 := by omega
                generalize at_ C x = val0 at *
                clear HW hx hl3 hC19
                go_wp2
                go_roundw
                case rel => exact ⟨t + 1, by omega, by push_cast; rfl, HW2⟩
                case measure => simp [intOf]; omega
              · obtain rfl : t = 19 := by omega
                have hPi : Pfx wr gi (rowOf C) := by
                  have h2 := HW.out.1
                  rw [List.take_of_length_le (by rw [rowOf_length]; omega), Nat.sub_self, List.replicate_zero, List.append_nil] at h2
                  exact Blk.pfx h2
                have hU := HU3.out gi wr hPi
                have HUc := hide hU.1
                have H15 : Hid (Pfx wr ba (X ++ Y) ∧ Pfx wr gl X ∧ Pfx wr gd Y ∧ Pfx wr gq C ∧ Pfx wr gi R ∧ Keeps (fun _ => False) w wr) := by
                  obtain ⟨z1, z2, z3, z4, z5, z6, n1, n2, n3, n4, n5, n6⟩ := H14.out
                  exact ⟨z1.kept HW.out.2 (fun e => n1 e.symm), z2.kept HW.out.2 (fun e => n2 e.symm), z3.kept HW.out.2 (fun e => n3 e.symm), z4.kept HW.out.2 (fun e => n4 e.symm), hU.2, z6.trans HW.out.2 (fun k hk e => by omega)⟩
                clear hPi hU HW H14 HU3
                go_wp2_with fail
                refine HUc.out.mono ?_
                rintro e w15 ⟨rfl, hK15⟩
                have H15b : Hid (Pfx w15 ba (X ++ Y) ∧ Pfx w15 gl X ∧ Pfx w15 gd Y ∧ Pfx w15 gq C ∧ Pfx w15 gi R ∧ Keeps (fun _ => False) w w15) := by
                  obtain ⟨z1, z2, z3, z4, z5, z6⟩ := H15.out
                  exact ⟨z1.keptF hK15, z2.keptF hK15, z3.keptF hK15, z4.keptF hK15, z5.keptF hK15, z6.trans hK15 (fun _ _ h => h)⟩
                clear hK15 HUc H15
                go_wp2_with fail
                generalize hw16 : World.alloc _ _ = w16
                obtain ⟨b, hb⟩ : ∃ b, w15.heap.size = b := ⟨_, rfl⟩
                have H16 : Hid (WS w16 w16 b none none [] ∧ (Pfx w16 ba (X ++ Y) ∧ Off w16 b none ba) ∧ (Pfx w16 gl X ∧ Off w16 b none gl) ∧ (Pfx w16 gd Y ∧ Off w16 b none gd) ∧ (Pfx w16 gq C ∧ Off w16 b none gq) ∧ (Pfx w16 gi R ∧ Off w16 b none gi) ∧ Keeps (fun _ => False) w w16 ∧ w.heap.size ≤ b) := by
                  obtain ⟨z1, z2, z3, z4, z5, z6⟩ := H15b.out
                  have hk : Keeps (fun _ => False) w15 w16 := by rw [← hw16]; exact (Keeps.refl _ w15).alloc _
                  have off : ∀ {g ys}, Pfx w15 g ys → Pfx w16 g ys ∧ Off w16 b none g := fun h => ⟨h.keptF hk, by have := h.1; have := hk.size; omega, by have := h.1; omega, by simp⟩
                  refine ⟨?_, off z1, off z2, off z3, off z4, off z5, z6.trans hk (fun _ _ h => h), by have := z6.size; omega⟩
                  rw [← hb]
                  exact WS.begin w15 w16 (by rw [← hw16]; exact heap_alloc_new _ _) hk
                rw [hb]
                clear hw16 hb H15b
                have HP1 : Hid (Calls Tryz.prog 60 #[.pointer (some ⟨b, 0, none⟩), .int .i64 5, .int .i64 3] w16 fun e w' => e = .returned (.int .i64 0) ∧ ∃ o', WS w16 w' b none o' (bitsOf 5 3)) := by
                  have := H16.out.1.put 5 3 (by omega) (by decide) (by simp)
                  rw [List.nil_append] at this; exact this
                refine HP1.out.mono ?_
                rintro e w17 ⟨rfl, o17, hS17⟩
                have HP2 : Hid (Calls Tryz.prog 60 #[.pointer (some ⟨b, 0, none⟩), .int .i64 ((nx : Int) - 257), .int .i64 5] w17 fun e w' => e = .returned (.int .i64 0) ∧ ∃ o', WS w16 w' b none o' (bitsOf 5 3 ++ bitsOf (nx - 257) 5)) := by
                  have e : ((nx - 257 : Nat) : Int) = (nx : Int) - 257 := by omega
                  have h2 := hS17.put (nx - 257) 5 (by omega) (by omega) (by simp [bitsOf_length])
                  rw [e] at h2; exact h2
                clear HP1 hS17
                go_wp2_with fail
                refine HP2.out.mono ?_
                rintro e w18 ⟨rfl, o18, hS18⟩
                have HP3 : Hid (Calls Tryz.prog 60 #[.pointer (some ⟨b, 0, none⟩), .int .i64 ((ny : Int) - 1), .int .i64 5] w18 fun e w' => e = .returned (.int .i64 0) ∧ ∃ o', WS w16 w' b none o' (bitsOf 5 3 ++ bitsOf (nx - 257) 5 ++ bitsOf (ny - 1) 5)) := by
                  have e : ((ny - 1 : Nat) : Int) = (ny : Int) - 1 := by omega
                  have h2 := hS18.put (ny - 1) 5 (by omega) (by omega) (by simp [bitsOf_length])
                  rw [e] at h2; exact h2
                clear HP2 hS18
                go_wp2_with fail
                refine HP3.out.mono ?_
                rintro e w19 ⟨rfl, o19, hS19⟩
                have HP4 : Hid (Calls Tryz.prog 60 #[.pointer (some ⟨b, 0, none⟩), .int .i64 ((nr : Int) - 4), .int .i64 4] w19 fun e w' => e = .returned (.int .i64 0) ∧ ∃ o', WS w16 w' b none o' (bitsOf 5 3 ++ bitsOf (nx - 257) 5 ++ bitsOf (ny - 1) 5 ++ bitsOf (nr - 4) 4)) := by
                  have e : ((nr - 4 : Nat) : Int) = (nr : Int) - 4 := by omega
                  have h2 := hS19.put (nr - 4) 4 (by omega) (by omega) (by simp [bitsOf_length])
                  rw [e] at h2; exact h2
                clear HP3 hS19
                go_wp2_with fail
                refine HP4.out.mono ?_
                rintro e w20 ⟨rfl, o20, hS20⟩
                obtain ⟨L3, hL3⟩ : ∃ L3, bitsOf 5 3 ++ bitsOf (nx - 257) 5 ++ bitsOf (ny - 1) 5 ++ bitsOf (nr - 4) 4 = L3 := ⟨_, rfl⟩
                rw [hL3] at hS20
                have HL3 : Hid (L3.length = 17 ∧ bitsOf 5 3 ++ bitsOf (nx - 257) 5 ++ bitsOf (ny - 1) 5 ++ bitsOf (nr - 4) 4 = L3) := ⟨by rw [← hL3]; simp [bitsOf_length], hL3⟩
                have H20 : Hid (∃ o', WS w16 w20 b none o' (L3 ++ threeB (R.take 0))) := ⟨o20, by simp only [List.take_zero, threeB, List.flatMap_nil, List.append_nil]; exact hS20⟩
                have HRv : Hid (∀ y ∈ R, 0 ≤ y ∧ y < 8) := fun y hy => by
                  rw [HDF.out.2.2.2.1] at hy
                  have hn2 : y ∈ rowOf C := List.mem_of_mem_take hy
                  simp only [rowOf, List.mem_map] at hn2
                  obtain ⟨j, hj, rfl⟩ := hn2
                  have hj19 : j < 19 := by
                    have : ∀ j ∈ rowL, j < 19 := by decide
                    exact this j hj
                  rw [at_eq j (by rw [HDF.out.1.lC]; exact hj19)]
                  have := may_at HDF.out.1.mC j (by rw [HDF.out.1.lC]; exact hj19)
                  exact ⟨this.1, HDF.out.1.sC _ (List.getElem_mem _)⟩
                clear HP4 hS20 hL3
                go_wp2_with fail
                go_loopw [25] (fun s25 w' => ∃ t : Nat, t ≤ nr ∧ s25 = .int .i64 (t : Int) ∧ Hid (∃ o', WS w16 w' b none o' (L3 ++ threeB (R.take t)))) (fun s25 w' => ((nr : Int) - intOf s25).toNat)
                case atStart => exact ⟨0, by omega, rfl, H20⟩
                case round =>
                  clear H20
                  obtain ⟨t, ht, rfl, HW⟩ := hrel
                  obtain ⟨o', hS⟩ := HW.out
                  by_cases htn : t < nr
                  · have htz : (t : Int) < (nr : Int) := by omega
                    have hil : t < R.length := by rw [HL.out.2.2.1]; exact htn
                    have hcr := (H16.out.2.2.2.2.2.1.1.kept hS.keep H16.out.2.2.2.2.2.1.2.not).2 t hil
                    obtain ⟨x, hx⟩ : ∃ x : Nat, R[t] = (x : Int) := ⟨(R[t]).toNat, by have := HRv.out _ (List.getElem_mem hil); omega⟩
                    have hx8 : x < 8 := by have := HRv.out _ (List.getElem_mem hil); omega
                    rw [hx] at hcr
                    have HPt : Hid (Calls Tryz.prog 60 #[.pointer (some ⟨b, 0, none⟩), .int .i64 (x : Int), .int .i64 3] wr fun e w' => e = .returned (.int .i64 0) ∧ ∃ o', WS w16 w' b none o' (L3 ++ threeB (R.take t) ++ bitsOf x 3)) := hS.put x 3 (by omega) (by omega) (by have := HL3.out.1; rw [List.length_append, threeB_len8, List.length_take]; omega)
                    have HT : Hid (L3 ++ threeB (R.take t) ++ bitsOf x 3 = L3 ++ threeB (R.take (t + 1))) := by
                      show _ = _
                      rw [List.take_add_one, List.getElem?_eq_getElem hil, hx]
                      rw [show (some ((x : Int))).toList = [(x : Int)] from rfl, threeB_snoc8, Int.toNat_natCast, List.append_assoc]
                    have ht19 : (t : Int) < 19 := by omega
                    clear hS HW hx hil
                    go_wp2_with fail
                    refine HPt.out.mono ?_
                    rintro e w21 ⟨rfl, hO21⟩
                    have HW2 : Hid (∃ o', WS w16 w21 b none o' (L3 ++ threeB (R.take (t + 1)))) := by rw [← HT.out]; exact hO21
                    clear hO21 HPt HT hcr
                    go_wp2
                    go_roundw
                    case rel => exact ⟨t + 1, by omega, by push_cast; rfl, HW2⟩
                    case measure => simp [intOf]; omega
                  · obtain rfl : t = nr := by omega
                    have et : R.take t = R := List.take_of_length_le (by rw [HL.out.2.2.1]; omega)
                    rw [et] at hS
                    obtain ⟨L4, hL4⟩ : ∃ L4, L3 ++ threeB R = L4 := ⟨_, rfl⟩
                    rw [hL4] at hS
                    have HL4 : Hid (L4.length ≤ 100 ∧ L3 ++ threeB R = L4) := ⟨by rw [← hL4, List.length_append, threeB_len8]; have := HL3.out.1; have := HL.out.2.2.1; omega, hL4⟩
                    have HCo := hide (rcodes_pfx gq 19 19 C wr (H16.out.2.2.2.2.1.1.kept hS.keep H16.out.2.2.2.2.1.2.not) HDF.out.1.lC HDF.out.1.mC (by rw [HDF.out.1.rC]; exact Nat.le_refl _))
                    have HS := hide hS
                    clear hS HW et hL4
                    go_wp2_with fail
                    refine HCo.out.mono ?_
                    rintro e w22 ⟨gx, rfl, hK22, hg22, hD22⟩
                    have H22 : Hid (WS w22 w22 b o' o' L4 ∧ (Cds w22 gx C.length (codeF C) ∧ Off w22 b o' gx) ∧ (Pfx w22 ba (X ++ Y) ∧ Off w22 b o' ba) ∧ (Pfx w22 gl X ∧ Off w22 b o' gl) ∧ (Pfx w22 gd Y ∧ Off w22 b o' gd) ∧ Keeps (fun _ => False) w w22 ∧ w.heap.size ≤ b ∧ (∀ k, o' = some k → w.heap.size ≤ k)) := by
                      have hS22 := HS.out.keptF hK22
                      have hn := HS.out.new hg22
                      have z16 := H16.out.2.2.2.2.2.2.1.size
                      have off : ∀ {g ys}, Pfx w16 g ys ∧ Off w16 b none g → Pfx w22 g ys ∧ Off w22 b o' g := fun {g ys} h => by
                        have hp := h.1.kept hS22.keep h.2.not
                        refine ⟨hp, hp.1, h.2.2.1, fun e => ?_⟩
                        rcases HS.out.own with e2 | ⟨q, e2, e3⟩
                        · rw [e2] at e; cases e
                        · rw [e2] at e; cases e; have := h.2.1; omega
                      refine ⟨⟨hS22.wr, .inl rfl, Keeps.refl _ _⟩, ⟨hD22, hD22.lt, hn.1, hn.2.1⟩, off H16.out.2.1, off H16.out.2.2.1, off H16.out.2.2.2.1, H16.out.2.2.2.2.2.2.1.trans hS22.keep (fun k hk e => ?_), H16.out.2.2.2.2.2.2.2, fun k e => ?_⟩
                      · have := H16.out.2.2.2.2.2.2.2
                        rcases e with e | e
                        · omega
                        · cases e
                      · rcases HS.out.own with e2 | ⟨q, e2, e3⟩
                        · rw [e2] at e; cases e
                        · rw [e2] at e; cases e; omega
                    have H22b : Hid (∃ o2, WS w22 w22 b o' o2 (L4 ++ codesB C ((X ++ Y).take 0))) := ⟨o', by simp only [List.take_zero, codesB, List.flatMap_nil, List.append_nil]; exact H22.out.1⟩
                    clear hK22 hg22 hD22 HCo HS H16
                    go_wp2_with fail
                    go_loopw [28] (fun s28 w' => ∃ j2 : Nat, j2 ≤ j ∧ s28 = .int .i64 (j2 : Int) ∧ Hid (∃ o2, WS w22 w' b o' o2 (L4 ++ codesB C ((X ++ Y).take j2)))) (fun s28 w' => ((j : Int) - intOf s28).toNat)
                    case atStart => exact ⟨0, by omega, rfl, H22b⟩
                    case round =>
                      clear H22b
                      obtain ⟨j2, hj2, rfl, HW⟩ := hrel
                      obtain ⟨o2, hS⟩ := HW.out
                      by_cases hjn2 : j2 < j
                      · have hjz2 : (j2 : Int) < (j : Int) := by omega
                        have hjl : j2 < (X ++ Y).length := by rw [HMl.out]; exact hjn2
                        have hcr := (H22.out.2.2.1.1.kept hS.keep H22.out.2.2.1.2.not).2 j2 hjl
                        have hpos : 0 < at_ C ((X ++ Y)[j2]).toNat := HDF.out.1.hC _ (by rw [← HDF.out.2.1, ← HDF.out.2.2.1]; exact List.getElem_mem hjl)
                        have hxl := lt_of_at hpos
                        obtain ⟨x, hx⟩ : ∃ x : Nat, (X ++ Y)[j2] = (x : Int) := ⟨((X ++ Y)[j2]).toNat, by have := HL.out.2.2.2 _ (List.getElem_mem hjl); omega⟩
                        rw [hx, Int.toNat_natCast] at hpos hxl
                        rw [hx] at hcr
                        have hc15 := may_at HDF.out.1.mC x hxl
                        rw [← at_eq x hxl] at hc15
                        obtain ⟨q, hq⟩ : ∃ q : Nat, at_ C x = (q : Int) := ⟨(at_ C x).toNat, by omega⟩
                        obtain ⟨z1, z2⟩ := cds_at (hS.cds H22.out.2.1.1 H22.out.2.1.2) hxl hq
                        have hlen := codesB_len8 HDF.out.1.mC ((X ++ Y).take j2)
                        rw [List.length_take] at hlen
                        have HCc := hide (hS.code C HDF.out.1.mC (by rw [HDF.out.1.rC]; exact Nat.le_refl _) hxl hq (by omega) (by have := HL4.out.1; rw [List.length_append]; omega))
                        have HT : Hid (L4 ++ codesB C ((X ++ Y).take j2) ++ codeB C x = L4 ++ codesB C ((X ++ Y).take (j2 + 1))) := by
                          show _ = _
                          rw [List.take_add_one, List.getElem?_eq_getElem hjl, hx]
                          rw [show (some ((x : Int))).toList = [(x : Int)] from rfl, codesB_snoc8, Int.toNat_natCast, List.append_assoc]
                        have hx19 : (x : Int) < 19 := by have := HDF.out.1.lC; omega
                        generalize codeV C x = V at *
                        clear hS HW hx hjl hpos hxl hc15 hq hlen
                        go_wp2_with fail
                        refine HCc.out.mono ?_
                        rintro e w23 ⟨rfl, hO23⟩
                        have HW2 : Hid (∃ o2, WS w22 w23 b o' o2 (L4 ++ codesB C ((X ++ Y).take (j2 + 1)))) := by rw [← HT.out]; exact hO23
                        clear hO23 HCc HT hcr z1 z2
                        go_wp2
                        go_roundw
                        case rel => exact ⟨j2 + 1, by omega, by push_cast; rfl, HW2⟩
                        case measure => simp [intOf]; omega
                      · obtain rfl : j2 = j := by omega
                        have et : (X ++ Y).take j2 = X ++ Y := List.take_of_length_le (by rw [HMl.out]; omega)
                        rw [et] at hS
                        have hF := HDF.out.1.full
                        rw [← HDF.out.2.1, ← HDF.out.2.2.1] at hF
                        have HFu := hide hF
                        have HC1 := hide (rcodes_pfx gl nx 286 X wr (H22.out.2.2.2.1.1.kept hS.keep H22.out.2.2.2.1.2.not) HL.out.1 hF.m1 hF.r1)
                        have HS := hide hS
                        clear hS HW et hF
                        go_wp2_with fail
                        refine HC1.out.mono ?_
                        rintro e w24 ⟨g1, rfl, hK24, hg24, hD24⟩
                        have HC2 := hide (rcodes_pfx gd ny 30 Y w24 ((H22.out.2.2.2.2.1.1.kept HS.out.keep H22.out.2.2.2.2.1.2.not).keptF hK24) HL.out.2.1 HFu.out.m2 HFu.out.r2)
                        have H24 : Hid (Keeps (fun _ => False) wr w24 ∧ wr.heap.size ≤ g1 ∧ Cds w24 g1 X.length (codeF X)) := ⟨hK24, hg24, hD24⟩
                        clear hK24 hg24 hD24 HC1
                        go_wp2_with fail
                        refine HC2.out.mono ?_
                        rintro e w25 ⟨g2, rfl, hK25, hg25, hD25⟩
                        obtain ⟨L5, hL5⟩ : ∃ L5, L4 ++ codesB C (X ++ Y) = L5 := ⟨_, rfl⟩
                        have hS25 := (HS.out.keptF H24.out.1).keptF hK25
                        rw [hL5] at hS25
                        have hKw : Keeps (fun _ => False) w w25 := H22.out.2.2.2.2.2.1.trans hS25.keep (fun k hk e => by
                          have := H22.out.2.2.2.2.2.2.1
                          rcases e with e | e
                          · omega
                          · have := H22.out.2.2.2.2.2.2.2 _ e; omega)
                        have hon : ∀ k, o2 = some k → w.heap.size ≤ k := fun k e => by
                          rcases HS.out.own with e2 | ⟨q, e2, e3⟩
                          · rw [e2] at e; exact H22.out.2.2.2.2.2.2.2 _ e
                          · rw [e2] at e; cases e; have := H22.out.2.2.2.2.2.1.size; omega
                        have HPu : Hid (Calls Tryz.prog 65 #[.pointer (some ⟨b, 0, none⟩), .slice a i cap, .slice (some ⟨g1, 0, none⟩) nx nx, .slice (some ⟨g2, 0, none⟩) ny ny] w25 (PutPost X Y ts w25 b o2 L5)) := by
                          have hc1 := H24.out.2.2.kept hK25 (fun h => h)
                          have n1 := HS.out.new H24.out.2.1
                          have n2 := HS.out.new (show wr.heap.size ≤ g2 by have := H24.out.1.size; omega)
                          have hl5 : L5.length ≤ 40000 := by
                            rw [← hL5, List.length_append]
                            have := codesB_len8 HDF.out.1.mC (X ++ Y)
                            rw [HMl.out] at this
                            have := HL4.out.1; omega
                          have := rputT_ok hS25.wr g1 nx nx g2 ny ny X Y hc1 hD25 HL.out.1 HL.out.2.1 ⟨hc1.lt, n1.1, n1.2.1⟩ ⟨hD25.lt, n2.1, n2.2.1⟩ HFu.out a cap ts (RowT.keptN HRow.out hKw (.inr (fun _ _ h => h))) (by omega) (mayT_is HM.out).2.2.2 (fun t ht => by rw [HDF.out.2.1, HDF.out.2.2.1]; exact cut_hasT (HHas.out t ht)) (by rw [HDF.out.2.1, cut_at]; exact HDF.out.1.eA) hl5 ((RowT.low HRow.out).imp id (fun ha x e => by
                            have h1 := ha x e
                            have h2 := hKw.size
                            have h3 := H22.out.2.2.2.2.2.2.1
                            refine ⟨by omega, by omega, fun e2 => ?_⟩
                            have := hon _ e2; omega))
                          rw [HN.out.1] at this; exact this
                        have H25 : Hid (Keeps (fun _ => False) w w25 ∧ w.heap.size ≤ b ∧ (∀ k, o2 = some k → w.heap.size ≤ k)) := ⟨hKw, H22.out.2.2.2.2.2.2.1, hon⟩
                        have HL5 : Hid (L5 ++ (tksB X Y ts ++ codeB X 256) = dynOf ts) := by
                          show _ = _
                          rw [HH.out, ← hL5, ← HL4.out.2, ← HL3.out.2, bits53, HDF.out.2.1, HDF.out.2.2.1, HDF.out.2.2.2.1, cut_tksB, cut_codeB]
                          unfold hdrB
                          rw [← HDF.out.2.2.2.2.1, ← HDF.out.2.2.2.2.2.1, ← HDF.out.2.2.2.2.2.2.1]
                          simp only [List.append_assoc]
                        clear hK25 hg25 hD25 HC2 hS25 hKw hon H24 HS H22 hL5 HL4 HL3 HRv
                        go_wp2_with fail
                        refine HPu.out.mono ?_
                        rintro e w26 ⟨rfl, o26, hS26⟩
                        have HTx : Hid (Calls Tryz.prog 62 #[.pointer (some ⟨b, 0, none⟩)] w26 fun e w' => e = .returned (.string T) ∧ w' = w26) := by
                          have := Bt.rtext_ok b o26 _ w26 hS26.wr
                          rw [HL5.out, HTT.out] at this; exact this
                        have H26 : Hid (Keeps (fun _ => False) w w26) := H25.out.1.trans hS26.keep (fun k hk e => by
                          have := H25.out.2.1
                          rcases e with e | e
                          · omega
                          · have := H25.out.2.2 _ e; omega)
                        clear hS26 HPu H25 HL5
                        go_wp2_with fail
                        refine HTx.out.mono ?_
                        rintro e w27 ⟨rfl, hw⟩
                        obtain rfl := hw.symm
                        clear hw HTx
                        go_wp2
                        go_ret2
                        exact ⟨rfl, H26.out⟩

end Go.Proofs.YtfbghchgfbjogaaGreat.Bk

/-
  The document's dynamic (printed by a script: one tail for each way to its end). The document's Inflate, and the law that both answer alike (printed by a script). The document's Deflate, Pack and Unpack: what they answer. The document's PutExtra.
-/
import Derived.Test.YtfbghchgfbjogaaGreatRows
import Derived.Test.YtfbghchgfbjogaaGreatA19
import Derived.BigQuiet
import Derived.Deep.RegionHeld3
namespace Go.Proofs.YtfbghchgfbjogaaGreat
open Go.RowKit
open Hf Tb
set_option linter.unusedVariables false
set_option linter.unusedSimpArgs false

theorem RBk.wider {w : World} {lo hi lo' hi' q : Nat} {ys : List Int} (h : RBk w lo hi q ys) (h1 : lo' ≤ lo) (h2 : hi ≤ hi') (h3 : hi' ≤ w.heap.size) : RBk w lo' hi' q ys := by
  obtain ⟨a1, a2, a3, a4, a, cap, a5, a6⟩ := h
  refine ⟨by omega, by omega, h3, a4, a, cap, a5, fun j hj => ?_⟩
  obtain ⟨g, e, g1, g2, g3⟩ := a6 j hj
  exact ⟨g, e, by omega, by omega, g3⟩
theorem FS.drewS {w : World} {b : Nat} {v : Value} {s : ByteArray} {most : Nat} {L : Bts} {xs : List Nat} {er : Int} (h : FS w b v s most L xs er) : FS w.drew b v s most L xs er := h.keptF ((Keeps.refl _ w).drew)
/-- All three numbers were read, or the block tells nothing. -/
theorem dyn3 {L L1 L2 L3 : Bts} {x1 x2 x3 : Nat} {er1 er2 er3 : Int}
    (h1 : (er1 = 0 ∧ getL 5 L = some (x1, L1)) ∨ (er1 = 700 ∧ getL 5 L = none))
    (h2 : er1 = 0 → (er2 = 0 ∧ getL 5 L1 = some (x2, L2)) ∨ (er2 = 700 ∧ getL 5 L1 = none)) (h2n : er1 ≠ 0 → er2 = er1)
    (h3 : er2 = 0 → (er3 = 0 ∧ getL 4 L2 = some (x3, L3)) ∨ (er3 = 700 ∧ getL 4 L2 = none)) (h3n : er2 ≠ 0 → er3 = er2) :
    (er3 = 0 ∧ aboveL 257 5 L = some (257 + x1, L1) ∧ aboveL 1 5 L1 = some (1 + x2, L2) ∧ aboveL 4 4 L2 = some (4 + x3, L3)) ∨ (er3 = 700 ∧ dynH L = none) := by
  have ab : ∀ (a k x : Nat) (L L' : Bts), getL k L = some (x, L') → aboveL a k L = some (a + x, L') := fun a k x L L' h => by unfold aboveL; rw [bnd_eq h]; rfl
  have an : ∀ (a k : Nat) (L : Bts), getL k L = none → aboveL a k L = none := fun a k L h => by unfold aboveL; rw [bnd_none h]
  rcases h1 with ⟨rfl, g1⟩ | ⟨rfl, g1⟩
  · rcases h2 rfl with ⟨rfl, g2⟩ | ⟨rfl, g2⟩
    · rcases h3 rfl with ⟨rfl, g3⟩ | ⟨rfl, g3⟩
      · exact .inl ⟨rfl, ab _ _ _ _ _ g1, ab _ _ _ _ _ g2, ab _ _ _ _ _ g3⟩
      · refine .inr ⟨rfl, ?_⟩
        unfold dynH
        rw [bnd_eq (ab 257 5 _ _ _ g1), bnd_eq (ab 1 5 _ _ _ g2)]
        split
        · rfl
        · exact bnd_none (an 4 4 _ g3)
    · refine .inr ⟨h3n (by decide), ?_⟩
      unfold dynH
      rw [bnd_eq (ab 257 5 _ _ _ g1), bnd_none (an 1 5 _ g2)]
  · have e2 := h2n (by decide)
    subst e2
    refine .inr ⟨h3n (by decide), ?_⟩
    unfold dynH
    rw [bnd_none (an 257 5 _ g1)]
def dynT (a d : Nat) (R : Option (List Int × Bts)) : Option ((List Int × List Int) × Bts) := match R with
  | none => none
  | some (t, L4) => dynC a d t L4
theorem dynT_eq (n a d : Nat) (L : Bts) : bnd (threes n []) (fun t => dynC a d t) L = dynT a d (threes n [] L) := by
  unfold bnd dynT
  rcases threes n [] L with _ | ⟨t, L4⟩ <;> rfl
theorem rowI_at : ∀ i : Fin 19, rowI[i.val]? = some ((rowL.getD i.val 0 : Nat) : Int) := by decide +kernel
theorem mayB_no1 {x : List Int} (h : ¬ errC x = 0) : mayB x = false := by unfold mayB; rw [decide_eq_false h]; rfl
theorem mayB_no2 {x : List Int} (h : at_ x 256 = 0) : mayB x = false := by unfold mayB; rw [h]; simp
theorem mayB_yes {x : List Int} (hi : inR x) (h : errC x = 0) (h2 : ¬ at_ x 256 = 0) : mayB x = true := by
  have := inR_at hi 256
  unfold mayB; rw [decide_eq_true h, decide_eq_true (by omega)]; rfl

set_option maxHeartbeats 16000000 in
set_option maxRecDepth 100000 in
theorem rdynamic_ok {w : World} {b : Nat} {v : Value} {s : ByteArray} {most : Nat} {L : Bts} {xs : List Nat} (h : FS w b v s most L xs 0) :
    Calls Tryz.prog 55 #[.pointer (some ⟨b, 0, none⟩)] w fun e w' => e = .returned (.tuple #[]) ∧ FPost (thenE dynH (fun xy => coded xy.1 xy.2 most) L xs) w b v s most w' := by
  obtain ⟨R, hR⟩ : ∃ R, thenE dynH (fun xy => coded xy.1 xy.2 most) L xs = R := ⟨_, rfl⟩
  rw [hR]
  have HR : Hid (thenE dynH (fun xy => coded xy.1 xy.2 most) L xs = R) := hR
  have HV : Hid (b < w.heap.size ∧ ∀ k, v.ownBlock = some k → k < w.heap.size) := ⟨h.lt, fun k e => (h.ownlt k e).2⟩
  have HC : Hid (Calls Tryz.prog 49 #[.pointer (some ⟨b, 0, none⟩), .int .i64 5] w (GP 5 L 0 w b v s most xs)) := get_gen h 5 (by omega)
  clear h hR
  go_enter Tryz.func55, Tryz.ntmps55
  go_wp2_with fail
  refine HC.out.mono ?_
  rintro e w1 ⟨x1, er1, L1, hx1, rfl, hS1, hK1, _, hG1, _⟩
  have hx1' : x1 < 32 := hx1
  have H1 : Hid (Keeps (fun k => k = b) w w1 ∧ ((er1 = 0 ∧ getL 5 L = some (x1, L1)) ∨ (er1 = 700 ∧ getL 5 L = none))) := ⟨hK1, hG1 rfl⟩
  have HC2 : Hid (Calls Tryz.prog 49 #[.pointer (some ⟨b, 0, none⟩), .int .i64 5] w1 (GP 5 L1 er1 w1 b v s most xs)) := get_gen hS1 5 (by omega)
  clear HC hx1 hS1 hK1 hG1
  go_wp2_with fail
  refine HC2.out.mono ?_
  rintro e w2 ⟨x2, er2, L2, hx2, rfl, hS2, hK2, _, hG2, hG2n⟩
  have hx2' : x2 < 32 := hx2
  have H2 : Hid (Keeps (fun k => k = b) w w2 ∧ (er1 = 0 → (er2 = 0 ∧ getL 5 L1 = some (x2, L2)) ∨ (er2 = 700 ∧ getL 5 L1 = none)) ∧ (er1 ≠ 0 → er2 = er1)) := ⟨H1.out.1.trans hK2 (fun _ _ h => h), hG2, hG2n⟩
  have HC3 : Hid (Calls Tryz.prog 49 #[.pointer (some ⟨b, 0, none⟩), .int .i64 4] w2 (GP 4 L2 er2 w2 b v s most xs)) := get_gen hS2 4 (by omega)
  clear HC2 hx2 hS2 hK2 hG2 hG2n
  go_wp2_with fail
  refine HC3.out.mono ?_
  rintro e w3 ⟨x3, er3, L3, hx3, rfl, hS3, hK3, _, hG3, hG3n⟩
  have hx3' : x3 < 16 := hx3
  have hD := dyn3 H1.out.2 H2.out.2.1 H2.out.2.2 hG3 hG3n
  have H3 : Hid (FS w3 b v s most L3 xs er3 ∧ Keeps (fun k => k = b) w w3) := ⟨hS3, H2.out.1.trans hK3 (fun _ _ h => h)⟩
  obtain ⟨c2, c3, c4, cf, p0, c1⟩ := hS3.cell
  clear HC3 hx3 hS3 hK3 hG3 hG3n H1 H2 c2 c3 cf c1
  rcases hD with ⟨rfl, hA1, hA2, hA3⟩ | ⟨rfl, hD⟩
  · have HA : Hid (aboveL 257 5 L = some (257 + x1, L1) ∧ aboveL 1 5 L1 = some (1 + x2, L2) ∧ aboveL 4 4 L2 = some (4 + x3, L3)) := ⟨hA1, hA2, hA3⟩
    clear hA1 hA2 hA3
    by_cases hbig : 286 < 257 + x1 ∨ 30 < 1 + x2
    · have e : R = .error 700 := by
        rw [← HR.out]
        refine thenE_none ?_
        unfold dynH
        rw [bnd_eq HA.out.1, bnd_eq HA.out.2.1, if_pos hbig]; rfl
      subst e
      have HC : Hid (Calls Tryz.prog 56 #[.pointer (some ⟨b, 0, none⟩)] w3 fun e w' => e = .returned (.tuple #[]) ∧ FS w' b v s most L3 xs 700 ∧ Keeps (fun k => k = b) w3 w') := wrong_ok H3.out.1
      by_cases hb1 : 286 < 257 + x1
      · have hbz : (286 : Int) < 257 + (x1 : Int) := by omega
        go_wp2_with fail
        refine HC.out.mono ?_
        rintro e wz ⟨rfl, hSz, hKz⟩
        have HQ : Hid (FPost (.error 700) w b v s most wz) := FPost.bad hSz (FAdv.ofB v (H3.out.2.trans hKz (fun _ _ h => h)))
        clear HC hSz hKz
        go_wp2
        (try simp only [Exit.inBlock, Exit.then])
        refine bodyPost_ret (results_none rfl _ _ _) rfl ?_
        exact ⟨rfl, HQ.out⟩
      · have hbz : ¬ (286 : Int) < 257 + (x1 : Int) := by omega
        have hdz : (30 : Int) < 1 + (x2 : Int) := by omega
        go_wp2_with fail
        refine HC.out.mono ?_
        rintro e wz ⟨rfl, hSz, hKz⟩
        have HQ : Hid (FPost (.error 700) w b v s most wz) := FPost.bad hSz (FAdv.ofB v (H3.out.2.trans hKz (fun _ _ h => h)))
        clear HC hSz hKz
        go_wp2
        (try simp only [Exit.inBlock, Exit.then])
        refine bodyPost_ret (results_none rfl _ _ _) rfl ?_
        exact ⟨rfl, HQ.out⟩
    · have hbz : ¬ (286 : Int) < 257 + (x1 : Int) := by omega
      have hdz : ¬ (30 : Int) < 1 + (x2 : Int) := by omega
      have hxx1 : x1 ≤ 29 := by omega
      have hxx2 : x2 ≤ 29 := by omega
      have hxx3 : x3 ≤ 15 := by omega
      obtain ⟨R3, hR3⟩ : ∃ R3, threes (4 + x3) [] L3 = R3 := ⟨_, rfl⟩
      have HRT : Hid (dynH L = dynT (257 + x1) (1 + x2) R3) := by
        show _ = _
        unfold dynH
        rw [bnd_eq HA.out.1, bnd_eq HA.out.2.1, if_neg hbig, bnd_eq HA.out.2.2, ← hR3]
        exact dynT_eq _ _ _ _
      have HR3 : Hid (threes (4 + x3) [] L3 = R3) := hR3
      clear hR3 HA hbig
      go_wp2_with (refine wpList_zeros rfl _ _ rfl 19 rfl rfl (by omega) ?_; intro g w4 hB4 hK4 hg4)
      have HO : Hid (Calls Tryz.prog 70 #[] w4 fun e w' => ∃ g, e = .returned (.slice (some ⟨g, 0, none⟩) 19 19) ∧ Blk w' g rowI ∧ Keeps (fun _ => False) w4 w' ∧ w4.heap.size ≤ g) := rorder_ok w4
      refine HO.out.mono ?_
      rintro e w5 ⟨qo, rfl, hB5, hK5, hg5⟩
      have H5 : Hid (∃ acc L4 er, acc.length = 0 ∧ ((er = 0 ∧ threes (4 + x3 - 0) acc L4 = R3) ∨ (er = 700 ∧ R3 = none)) ∧ FS w5 b v s most L4 xs er ∧ Keeps (fun k => k = b) w w5 ∧ Blk w5 g (clOf acc) ∧ Blk w5 qo rowI) := by
        have k1 : Keeps (fun _ => False) w3 w5 := hK4.trans hK5 (fun _ _ h => h)
        exact ⟨[], L3, 0, rfl, .inl ⟨rfl, HR3.out⟩, H3.out.1.keptF k1, H3.out.2.trans (k1.mono (fun _ _ h => h.elim)) (fun _ _ h => h), by rw [clOf_nil]; exact hB4.keptF hK5, hB5⟩
      have HG : Hid (w.heap.size ≤ g ∧ w.heap.size ≤ qo ∧ g ≠ qo) := by
        have := H3.out.2.size; have := hB4.lt; have := hK4.size
        exact ⟨by omega, by omega, by omega⟩
      clear hB4 hK4 hg4 hB5 hK5 hg5 HO H3 HR3 c4
      go_wp2
      go_loopw [7] (fun s7 w' => ∃ i : Nat, i ≤ 4 + x3 ∧ s7 = .int .i64 (i : Int) ∧ Hid (∃ acc L4 er, acc.length = i ∧ ((er = 0 ∧ threes (4 + x3 - i) acc L4 = R3) ∨ (er = 700 ∧ R3 = none)) ∧ FS w' b v s most L4 xs er ∧ Keeps (fun k => k = b) w w' ∧ Blk w' g (clOf acc) ∧ Blk w' qo rowI)) (fun s7 _ => (((4 + x3 : Nat) : Int) - intOf s7).toNat)
      case atStart => exact ⟨0, by omega, rfl, H5⟩
      case round =>
        clear H5
        obtain ⟨i, hi, rfl, HW⟩ := hrel
        by_cases hic : i < 4 + x3
        · have hiz : (i : Int) < 4 + (x3 : Int) := by omega
          have hi19 : (i : Int) < 19 := by omega
          obtain ⟨acc, L4, er, hlen, hE, hS, hK, hB, hQ⟩ := HW.out
          clear HW
          obtain ⟨j, hj⟩ : ∃ j, rowL.getD i 0 = j := ⟨_, rfl⟩
          have hj19 : j < 19 := by rw [← hj]; exact rowL_lt ⟨i, by omega⟩
          have hjz : (j : Int) < 19 := by omega
          have hri : i < rowI.length := by show i < 19; omega
          have hrow : wr.cell? ⟨qo, i, none⟩ = some (.int .i64 (j : Int)) := by
            have e1 := rowI_at ⟨i, by omega⟩
            rw [List.getElem?_eq_getElem hri] at e1
            rw [hQ.cell i hri, Option.some.inj e1, hj]
          have HC : Hid (Calls Tryz.prog 49 #[.pointer (some ⟨b, 0, none⟩), .int .i64 3] wr.drew fun e w' => ∃ x : Nat, e = .returned (.int .i64 (x : Int)) ∧ w'.cell? ⟨qo, i, none⟩ = some (.int .i64 (j : Int)) ∧ (∃ u, w'.cell? ⟨g, j, none⟩ = some u) ∧ w'.frozen? ⟨g, j, none⟩ = false ∧ ∃ acc L4 er, acc.length = i + 1 ∧ ((er = 0 ∧ threes (4 + x3 - (i + 1)) acc L4 = R3) ∨ (er = 700 ∧ R3 = none)) ∧ FS (w'.setCell ⟨g, j, none⟩ (.int .i64 (x : Int))) b v s most L4 xs er ∧ Keeps (fun k => k = b) w (w'.setCell ⟨g, j, none⟩ (.int .i64 (x : Int))) ∧ Blk (w'.setCell ⟨g, j, none⟩ (.int .i64 (x : Int))) g (clOf acc) ∧ Blk (w'.setCell ⟨g, j, none⟩ (.int .i64 (x : Int))) qo rowI) := by
            refine (get_gen hS.drewS 3 (by omega)).mono ?_
            rintro e w' ⟨x, er', L', hx, rfl, hS', hK', _, hG, hGn⟩
            have hbl := HV.out.1
            have hg1 := HG.out
            have hk1 : Keeps (fun k => k = b) wr w' := ((Keeps.refl _ wr).drew).trans hK' (fun _ _ h => h)
            have hB6 : Blk w' g (clOf acc) := hB.kept hk1 (by omega)
            have hQ6 : Blk w' qo rowI := hQ.kept hk1 (by omega)
            have hk7 : Keeps (fun k => k = g) w' (w'.setCell ⟨g, j, none⟩ (.int .i64 (x : Int))) := (Keeps.refl (fun k => k = g) w').setCell (p := ⟨g, j, none⟩) (fun _ => rfl) _
            refine ⟨x, rfl, ?_, ⟨_, hB6.cell j (by rw [clOf_length]; exact hj19)⟩, hB6.free j, acc ++ [(x : Int)], L', er', by simp [hlen], ?_, hS'.keptS hk7 (by omega) (fun k e e2 => by have := HV.out.2 k e; omega), (hK.trans hk1 (fun _ _ h => h)).trans hk7 (fun k hh e => by omega), ?_, hQ6.kept hk7 (fun e => hg1.2.2 e.symm)⟩
            · have e1 := rowI_at ⟨i, by omega⟩
              rw [List.getElem?_eq_getElem hri] at e1
              rw [hQ6.cell i hri, Option.some.inj e1, hj]
            · rcases hE with ⟨rfl, hE⟩ | ⟨rfl, hE⟩
              · have hE2 : bnd (getL 3) (fun x => threes (4 + x3 - (i + 1)) (acc ++ [(x : Int)])) L4 = R3 := by
                  rw [show 4 + x3 - i = (4 + x3 - (i + 1)) + 1 by omega] at hE; exact hE
                rcases hG rfl with ⟨rfl, hg⟩ | ⟨rfl, hg⟩
                · exact .inl ⟨rfl, by rw [← hE2, bnd_eq hg]⟩
                · exact .inr ⟨rfl, by rw [← hE2, bnd_none hg]⟩
              · exact .inr ⟨hGn (by decide), hE⟩
            · rw [← clOf_set acc (x : Int) (by omega), hlen, hj]
              exact Blk.set hB6 j (x : Int)
          clear hE hS hK hB hQ hlen hri hj
          go_wp2
          go_region_with (go_at_call 49; refine HC.out.mono ?_; rintro e w6 ⟨x, rfl, d1, ⟨u, d2⟩, d3, hk6⟩; have H6 : Hid (∃ acc L4 er, acc.length = i + 1 ∧ ((er = 0 ∧ threes (4 + x3 - (i + 1)) acc L4 = R3) ∨ (er = 700 ∧ R3 = none)) ∧ FS (w6.setCell ⟨g, j, none⟩ (.int .i64 (x : Int))) b v s most L4 xs er ∧ Keeps (fun k => k = b) w (w6.setCell ⟨g, j, none⟩ (.int .i64 (x : Int))) ∧ Blk (w6.setCell ⟨g, j, none⟩ (.int .i64 (x : Int))) g (clOf acc) ∧ Blk (w6.setCell ⟨g, j, none⟩ (.int .i64 (x : Int))) qo rowI) := hk6; clear hk6)
          all_goals
            clear HC hrow d1 d2 d3
            go_wp2
            go_roundw
            case rel => exact ⟨i + 1, by omega, by push_cast; rfl, H6⟩
            case measure => simp [intOf]; omega
        · obtain rfl : i = 4 + x3 := by omega
          have hiz : ¬ (((4 + x3 : Nat) : Int) < 4 + (x3 : Int)) := by omega
          have hiz2 : ¬ (4 + (x3 : Int) < 4 + (x3 : Int)) := by omega
          obtain ⟨acc, L4, er, hlen, hE, hS, hK, hB, hQ⟩ := HW.out
          clear HW hQ
          obtain ⟨c2, c3, c4, cf, p0, c1⟩ := hS.cell
          clear c2 c3 cf c1
          have H6 : Hid (FS wr b v s most L4 xs er ∧ Keeps (fun k => k = b) w wr) := ⟨hS, hK⟩
          rcases hE with ⟨rfl, hE⟩ | ⟨rfl, hE⟩
          · rw [Nat.sub_self] at hE
            have e3 : R3 = some (acc, L4) := hE.symm
            have HD : Hid (dynH L = dynC (257 + x1) (1 + x2) acc L4) := by show _ = _; rw [HRT.out, e3]; rfl
            have hrow : Row wr (some ⟨g, 0, none⟩) (clOf acc) := .inr ⟨g, 0, rfl, hB.lt, fun q hq => by rw [Nat.zero_add]; exact hB.cell q hq⟩
            have HC1 : Hid (Calls Tryz.prog 87 #[.slice (some ⟨g, 0, none⟩) 19 19] wr fun e w' => e = .returned (.int .i64 (errC (clOf acc))) ∧ w' = wr) := by
              have := rcheck_ok (some ⟨g, 0, none⟩) (clOf acc) 19 wr hrow (by rw [clOf_length]; omega)
              rw [clOf_length] at this; exact this
            have HC2 : Hid (Calls Tryz.prog 52 #[.slice (some ⟨g, 0, none⟩) 19 19] wr fun e w' => ∃ q, e = .returned (.pointer (some ⟨q, 0, none⟩)) ∧ Keeps (fun _ => False) wr w' ∧ RBk w' wr.heap.size w'.heap.size q (clOf acc)) := by
              have := rbookOf_ok (some ⟨g, 0, none⟩) (clOf acc) 19 wr hrow (by rw [clOf_length]; omega) (by rw [clOf_length]; omega)
              rw [clOf_length] at this; exact this
            have HY : Hid ((clOf acc).length = 19) := clOf_length acc
            clear hlen hE hS hK hB e3 hrow HRT
            unfold dynC at HD
            generalize clOf acc = ys at *
            obtain ⟨ec, hec⟩ : ∃ ec, errC ys = ec := ⟨_, rfl⟩
            rw [hec] at HC1 HD
            clear hec
            go_wp2_with fail
            refine HC1.out.mono ?_
            rintro e w7 ⟨rfl, hw7⟩
            obtain rfl := hw7.symm
            clear hw7 HC1
            by_cases h0 : ec = 0
            · subst h0
              clear c4
              go_wp2_with fail
              refine HC2.out.mono ?_
              rintro e w7 ⟨q, rfl, hK7, hB7⟩
              have HC : Hid (Calls Tryz.prog 88 #[.pointer (some ⟨b, 0, none⟩), .pointer (some ⟨q, 0, none⟩), .int .i64 ((257 + (x1 : Int)) + (1 + (x2 : Int)))] w7 (RLen (runs ys (257 + x1 + (1 + x2)) [] L4) w7 b v s most xs)) := by
                have := rlengths_ok (H6.out.1.keptF hK7) hB7 (.inl (by have := H6.out.2.size; have := HV.out.1; omega)) (by rw [HY.out]; omega) (257 + x1 + (1 + x2)) (by omega)
                rw [show ((257 + x1 + (1 + x2) : Nat) : Int) = (257 + (x1 : Int)) + (1 + (x2 : Int)) by push_cast; rfl] at this
                exact this
              have H7 : Hid (Keeps (fun k => k = b) w w7) := H6.out.2.trans (hK7.mono (fun _ _ h => h.elim)) (fun _ _ h => h)
              clear HC2 hK7 hB7 H6
              go_wp2_with fail
              refine HC.out.mono ?_
              intro e w8 hP
              clear HC
              rcases h4 : runs ys (257 + x1 + (1 + x2)) [] L4 with _ | ⟨all, L5⟩
              · obtain ⟨az, nz, capz, Lz, rfl, hSz, hKz⟩ := hP.1 h4
                have e : R = .error 700 := by rw [← HR.out]; refine thenE_none ?_; rw [HD.out, if_pos trivial]; exact bnd_none h4
                subst e
                obtain ⟨c2, c3, c4, cf, p0, c1⟩ := hSz.cell
                have HQ : Hid (FPost (.error 700) w b v s most w8) := FPost.bad hSz (FAdv.ofB v (H7.out.trans hKz (fun _ _ h => h)))
                clear hP h4 hSz hKz c2 c3 cf c1
                go_wp2
                (try simp only [Exit.inBlock, Exit.then])
                refine bodyPost_ret (results_none rfl _ _ _) rfl ?_
                exact ⟨rfl, HQ.out⟩
              · obtain ⟨u, rfl, hO8, hS8, hK8⟩ := hP.2 all L5 h4
                obtain ⟨ad, cap, rfl, hrow, hcap, _⟩ := own_row hO8
                have hal := (runs_len h4).2
                have hin := runs_in (by rw [HY.out]; omega) h4
                obtain ⟨g8, off, hgo, hgl, hcell⟩ := hrow.spot (by omega)
                obtain rfl := hgo
                obtain ⟨A, hA⟩ : ∃ A, 257 + x1 = A := ⟨_, rfl⟩
                obtain ⟨D, hD⟩ : ∃ D, 1 + x2 = D := ⟨_, rfl⟩
                rw [hA, hD] at hal
                have hA2 : 257 ≤ A ∧ A ≤ 286 := by omega
                have hD2 : 1 ≤ D ∧ D ≤ 30 := by omega
                have hx1 : (all.take A).length = A := by rw [List.length_take]; omega
                have hx2 : (all.drop A).length = D := by rw [List.length_drop]; omega
                have hoff : off = 0 := by
                  rcases hO8.2 with ⟨e, _⟩ | ⟨g', c', cur, e, _⟩
                  · cases e
                  · cases e; rfl
                subst hoff
                have hr1 : Row w8 (some ⟨g8, 0, none⟩) (all.take A) := .inr ⟨g8, 0, rfl, hgl, fun i hi => by
                  rw [List.getElem_take]; exact hcell i (by omega)⟩
                have hr2 : Row w8 (some ⟨g8, A, none⟩) (all.drop A) := .inr ⟨g8, A, rfl, hgl, fun i hi => by
                  rw [List.getElem_drop]; have := hcell (A + i) (by omega); rw [Nat.zero_add] at this; exact this⟩
                have hin1 : inR (all.take A) := fun z hz => hin z (List.mem_of_mem_take hz)
                have hin2 : inR (all.drop A) := fun z hz => hin z (List.mem_of_mem_drop hz)
                have hc256 : w8.cell? ⟨g8, 256, none⟩ = some (.int .i64 (at_ (all.take A) 256)) := by
                  have := hcell 256 (by omega)
                  rw [Nat.zero_add] at this
                  rw [this, at_eq 256 (by omega), List.getElem_take]
                obtain ⟨c2, c3, c4, cf, p0, c1⟩ := hS8.cell
                have H8 : Hid (FS w8 b v s most L5 xs 0 ∧ Keeps (fun k => k = b) w w8) := ⟨hS8, H7.out.trans hK8 (fun _ _ h => h)⟩
                have HD8 : Hid (dynH L = if mayB (all.take A) && mayD (all.drop A) then some ((all.take A, all.drop A), L5) else none) := by
                  show _ = _
                  rw [HD.out, if_pos trivial, bnd_eq h4, hA]
                  unfold dynP
                  split <;> rfl
                rw [hal] at hcap
                rw [hal]
                have hAz : (257 : Int) + (x1 : Int) = (A : Int) := by omega
                have hDz : (1 : Int) + (x2 : Int) = (D : Int) := by omega
                rw [hAz, hDz]
                have HC1 : Hid (Calls Tryz.prog 87 #[.slice (some ⟨g8, 0, none⟩) A cap] w8 fun e w' => e = .returned (.int .i64 (errC (all.take A))) ∧ w' = w8) := by
                  have := rcheck_ok (some ⟨g8, 0, none⟩) (all.take A) cap w8 hr1 (by omega)
                  rw [hx1] at this; exact this
                have HC2 : Hid (Calls Tryz.prog 87 #[.slice (some ⟨g8, A, none⟩) D (cap - A)] w8 fun e w' => e = .returned (.int .i64 (errC (all.drop A))) ∧ w' = w8) := by
                  have := rcheck_ok (some ⟨g8, A, none⟩) (all.drop A) (cap - A) w8 hr2 (by omega)
                  rw [hx2] at this; exact this
                have HC3 : Hid (Calls Tryz.prog 89 #[.slice (some ⟨g8, A, none⟩) D (cap - A)] w8 fun e w' => e = .returned (.bool (decide ((all.drop A).sum ≤ 1))) ∧ w' = w8) := by
                  have := rsparse_ok (some ⟨g8, A, none⟩) (all.drop A) (cap - A) w8 hr2 (by omega) hin2
                  rw [hx2] at this; exact this
                have HBx : Hid (∀ w', Keeps (fun _ => False) w8 w' → Calls Tryz.prog 52 #[.slice (some ⟨g8, 0, none⟩) A cap] w' fun e w'' => ∃ q, e = .returned (.pointer (some ⟨q, 0, none⟩)) ∧ Keeps (fun _ => False) w' w'' ∧ RBk w'' w'.heap.size w''.heap.size q (all.take A)) := fun w' hk => by
                  have := rbookOf_ok (some ⟨g8, 0, none⟩) (all.take A) cap w' (hr1.keptF hk) (by omega) (by omega)
                  rw [hx1] at this; exact this
                have HBy : Hid (∀ w', Keeps (fun _ => False) w8 w' → Calls Tryz.prog 52 #[.slice (some ⟨g8, A, none⟩) D (cap - A)] w' fun e w'' => ∃ q, e = .returned (.pointer (some ⟨q, 0, none⟩)) ∧ Keeps (fun _ => False) w' w'' ∧ RBk w'' w'.heap.size w''.heap.size q (all.drop A)) := fun w' hk => by
                  have := rbookOf_ok (some ⟨g8, A, none⟩) (all.drop A) (cap - A) w' (hr2.keptF hk) (by omega) (by omega)
                  rw [hx2] at this; exact this
                have HCo : Hid (∀ w' q1 q2, Keeps (fun _ => False) w8 w' → RBk w' w8.heap.size w'.heap.size q1 (all.take A) → RBk w' w8.heap.size w'.heap.size q2 (all.drop A) → Calls Tryz.prog 51 #[.pointer (some ⟨b, 0, none⟩), .pointer (some ⟨q1, 0, none⟩), .pointer (some ⟨q2, 0, none⟩)] w' fun e w'' => e = .returned (.tuple #[]) ∧ FPost (coded (all.take A) (all.drop A) most L5 xs) w b v s most w'') := fun w' q1 q2 hk b1 b2 => by
                  have hsz := H8.out.2.size
                  refine (rcoded_ok (H8.out.1.keptF hk) b1 b2 ⟨.inl (by have := HV.out.1; omega), fun k e => .inl (by have := HV.out.2 k e; omega)⟩ (by omega) (by omega)).mono ?_
                  rintro e w'' ⟨he, hP⟩
                  exact ⟨he, FPost.trans (FAdv.ofB v (H8.out.2.trans (hk.mono (fun _ _ h => h.elim)) (fun _ _ h => h))) hP⟩
                have hca : ¬ (cap = A) := by omega
                obtain ⟨N, hN⟩ : ∃ N, A + D = N := ⟨_, rfl⟩
                rw [hN]
                have hn0 : (0 : Int) ≤ (A : Int) := by omega
                have hn1 : (A : Int) ≤ (N : Int) := by omega
                have hn2 : (A : Int) ≤ (cap : Int) := by omega
                have hn3 : (N : Int) ≤ (cap : Int) := by omega
                have hn4 : N - A = D := by omega
                have hn5 : (256 : Int) < (N : Int) := by omega
                have HI : Hid (inR (all.take A)) := hin1
                clear hP h4 hO8 hS8 hK8 hrow hal hin hgl hcell hx1 hx2 hr1 hr2 hin1 hin2 c2 c3 cf c1 HD H7 hAz hDz hA hD hN
                generalize all.take A = x at *
                generalize all.drop A = y at *
                obtain ⟨ex, hex⟩ : ∃ ex, errC x = ex := ⟨_, rfl⟩
                obtain ⟨ey, hey⟩ : ∃ ey, errC y = ey := ⟨_, rfl⟩
                obtain ⟨t, ht⟩ : ∃ t, at_ x 256 = t := ⟨_, rfl⟩
                obtain ⟨sp, hsp⟩ : ∃ sp, decide (y.sum ≤ 1) = sp := ⟨_, rfl⟩
                have HE : Hid (errC x = ex ∧ errC y = ey ∧ at_ x 256 = t ∧ decide (y.sum ≤ 1) = sp) := ⟨hex, hey, ht, hsp⟩
                rw [hex] at HC1
                rw [hey] at HC2
                rw [hsp] at HC3
                rw [ht] at hc256
                clear hex hey ht hsp
                go_wp2_with fail
                refine HC1.out.mono ?_
                rintro e wz ⟨rfl, hwz⟩
                obtain rfl := hwz.symm
                clear hwz HC1
                by_cases hex0 : ex = 0
                · subst hex0
                  by_cases ht0 : t = 0
                  · subst ht0
                    have e : R = .error 700 := by rw [← HR.out]; refine thenE_none ?_; rw [HD8.out, mayB_no2 HE.out.2.2.1]; rfl
                    subst e
                    have HC : Hid (Calls Tryz.prog 56 #[.pointer (some ⟨b, 0, none⟩)] w8 fun e w' => e = .returned (.tuple #[]) ∧ FS w' b v s most L5 xs 700 ∧ Keeps (fun k => k = b) w8 w') := wrong_ok H8.out.1
                    go_wp2_with fail
                    refine HC.out.mono ?_
                    rintro e wz ⟨rfl, hSz, hKz⟩
                    have HQ : Hid (FPost (.error 700) w b v s most wz) := FPost.bad hSz (FAdv.ofB v (H8.out.2.trans hKz (fun _ _ h => h)))
                    clear HC hSz hKz
                    go_wp2
                    (try simp only [Exit.inBlock, Exit.then])
                    refine bodyPost_ret (results_none rfl _ _ _) rfl ?_
                    exact ⟨rfl, HQ.out⟩
                  · have htn : ¬ (t = 0) := ht0
                    have htb : (t == 0) = false := by simp; exact ht0
                    go_wp2_with fail
                    refine HC2.out.mono ?_
                    rintro e wz ⟨rfl, hwz⟩
                    obtain rfl := hwz.symm
                    clear hwz HC2
                    by_cases hey0 : ey = 0
                    · subst hey0
                      have e : R = coded x y most L5 xs := by rw [← HR.out, thenE_eq (HD8.out.trans (by rw [mayB_yes HI.out HE.out.1 (by rw [HE.out.2.2.1]; exact ht0), show mayD y = true by unfold mayD; rw [HE.out.2.1]; simp]; rfl))]
                      subst e
                      go_wp2
                      go_region_held3 (fun w' => True) (go_keep) (first
                        | (go_at_call_of 52 (Value.slice (some ⟨g8, 0, none⟩) A cap); refine (HBx.out w8.drew (Keeps.refl _ w8).drew).mono ?_; rintro e w9 ⟨q1, rfl, hK9, hB9⟩; have H9 : Hid (Keeps (fun _ => False) w8 w9 ∧ RBk w9 w8.heap.size w9.heap.size q1 x) := ⟨((Keeps.refl _ w8).drew).trans hK9 (fun _ _ h => h), hB9⟩; have htr : True := trivial; clear hK9 hB9)
                        | (go_at_call_of 52 (Value.slice (some ⟨g8, A, none⟩) D (cap - A)); refine (HBy.out w9 H9.out.1).mono ?_; rintro e w10 ⟨q2, rfl, hK10, hB10⟩; have H10 : Hid (Keeps (fun _ => False) w8 w10 ∧ RBk w10 w8.heap.size w10.heap.size q1 x ∧ RBk w10 w8.heap.size w10.heap.size q2 y) := ⟨H9.out.1.trans hK10 (fun _ _ h => h), (H9.out.2.kept hK10 (fun _ _ _ h => h)).wider (Nat.le_refl _) hK10.size (Nat.le_refl _), hB10.wider H9.out.1.size (Nat.le_refl _) (Nat.le_refl _)⟩; have htr : True := trivial; clear hK10 hB10)
                        | (go_at_call 51; refine (HCo.out w10 q1 q2 H10.out.1 H10.out.2.1 H10.out.2.2).mono ?_; rintro e w11 ⟨rfl, hP11⟩; have H11 : Hid (FPost (coded x y most L5 xs) w b v s most w11) := hP11; have htr : True := trivial; clear hP11))
                      all_goals
                        go_wp2
                        go_end0
                        exact ⟨rfl, H11.out⟩
                    · have hyn : ¬ (ey = 0) := hey0
                      have hyb : (ey == 0) = false := by simp; exact hey0
                      go_wp2_with fail
                      refine HC3.out.mono ?_
                      rintro e wz ⟨rfl, hwz⟩
                      obtain rfl := hwz.symm
                      clear hwz HC3
                      cases sp
                      · have e : R = .error 700 := by
                          rw [← HR.out]; refine thenE_none ?_
                          have h5 : mayD y = false := by unfold mayD; rw [HE.out.2.2.2, HE.out.2.1, decide_eq_false hey0]; rfl
                          rw [HD8.out, h5, Bool.and_false]; rfl
                        subst e
                        have HC : Hid (Calls Tryz.prog 56 #[.pointer (some ⟨b, 0, none⟩)] w8 fun e w' => e = .returned (.tuple #[]) ∧ FS w' b v s most L5 xs 700 ∧ Keeps (fun k => k = b) w8 w') := wrong_ok H8.out.1
                        go_wp2_with fail
                        refine HC.out.mono ?_
                        rintro e wz ⟨rfl, hSz, hKz⟩
                        have HQ : Hid (FPost (.error 700) w b v s most wz) := FPost.bad hSz (FAdv.ofB v (H8.out.2.trans hKz (fun _ _ h => h)))
                        clear HC hSz hKz
                        go_wp2
                        (try simp only [Exit.inBlock, Exit.then])
                        refine bodyPost_ret (results_none rfl _ _ _) rfl ?_
                        exact ⟨rfl, HQ.out⟩
                      · skip
                        have e : R = coded x y most L5 xs := by rw [← HR.out, thenE_eq (HD8.out.trans (by rw [mayB_yes HI.out HE.out.1 (by rw [HE.out.2.2.1]; exact ht0), show mayD y = true by unfold mayD; rw [HE.out.2.2.2]; rfl]; rfl))]
                        subst e
                        go_wp2
                        go_region_held3 (fun w' => True) (go_keep) (first
                          | (go_at_call_of 52 (Value.slice (some ⟨g8, 0, none⟩) A cap); refine (HBx.out w8.drew (Keeps.refl _ w8).drew).mono ?_; rintro e w9 ⟨q1, rfl, hK9, hB9⟩; have H9 : Hid (Keeps (fun _ => False) w8 w9 ∧ RBk w9 w8.heap.size w9.heap.size q1 x) := ⟨((Keeps.refl _ w8).drew).trans hK9 (fun _ _ h => h), hB9⟩; have htr : True := trivial; clear hK9 hB9)
                          | (go_at_call_of 52 (Value.slice (some ⟨g8, A, none⟩) D (cap - A)); refine (HBy.out w9 H9.out.1).mono ?_; rintro e w10 ⟨q2, rfl, hK10, hB10⟩; have H10 : Hid (Keeps (fun _ => False) w8 w10 ∧ RBk w10 w8.heap.size w10.heap.size q1 x ∧ RBk w10 w8.heap.size w10.heap.size q2 y) := ⟨H9.out.1.trans hK10 (fun _ _ h => h), (H9.out.2.kept hK10 (fun _ _ _ h => h)).wider (Nat.le_refl _) hK10.size (Nat.le_refl _), hB10.wider H9.out.1.size (Nat.le_refl _) (Nat.le_refl _)⟩; have htr : True := trivial; clear hK10 hB10)
                          | (go_at_call 51; refine (HCo.out w10 q1 q2 H10.out.1 H10.out.2.1 H10.out.2.2).mono ?_; rintro e w11 ⟨rfl, hP11⟩; have H11 : Hid (FPost (coded x y most L5 xs) w b v s most w11) := hP11; have htr : True := trivial; clear hP11))
                        all_goals
                          go_wp2
                          go_end0
                          exact ⟨rfl, H11.out⟩
                · have hxn : ¬ (ex = 0) := hex0
                  have hxb : (ex == 0) = false := by simp; exact hex0
                  have e : R = .error 700 := by rw [← HR.out]; refine thenE_none ?_; rw [HD8.out, mayB_no1 (by rw [HE.out.1]; exact hex0)]; rfl
                  subst e
                  have HC : Hid (Calls Tryz.prog 56 #[.pointer (some ⟨b, 0, none⟩)] w8 fun e w' => e = .returned (.tuple #[]) ∧ FS w' b v s most L5 xs 700 ∧ Keeps (fun k => k = b) w8 w') := wrong_ok H8.out.1
                  go_wp2_with fail
                  refine HC.out.mono ?_
                  rintro e wz ⟨rfl, hSz, hKz⟩
                  have HQ : Hid (FPost (.error 700) w b v s most wz) := FPost.bad hSz (FAdv.ofB v (H8.out.2.trans hKz (fun _ _ h => h)))
                  clear HC hSz hKz
                  go_wp2
                  (try simp only [Exit.inBlock, Exit.then])
                  refine bodyPost_ret (results_none rfl _ _ _) rfl ?_
                  exact ⟨rfl, HQ.out⟩
            · have e : R = .error 700 := by rw [← HR.out]; refine thenE_none ?_; rw [HD.out, if_neg h0]; rfl
              subst e
              have hnb : (ec == 0) = false := by simp; exact h0
              have HC : Hid (Calls Tryz.prog 56 #[.pointer (some ⟨b, 0, none⟩)] wr fun e w' => e = .returned (.tuple #[]) ∧ FS w' b v s most L4 xs 700 ∧ Keeps (fun k => k = b) wr w') := wrong_ok H6.out.1
              go_wp2_with fail
              refine HC.out.mono ?_
              rintro e wz ⟨rfl, hSz, hKz⟩
              have HQ : Hid (FPost (.error 700) w b v s most wz) := FPost.bad hSz (FAdv.ofB v (H6.out.2.trans hKz (fun _ _ h => h)))
              clear HC hSz hKz
              go_wp2
              (try simp only [Exit.inBlock, Exit.then])
              refine bodyPost_ret (results_none rfl _ _ _) rfl ?_
              exact ⟨rfl, HQ.out⟩
          · have e : R = .error 700 := by rw [← HR.out]; refine thenE_none ?_; rw [HRT.out, hE]; rfl
            subst e
            have HC : Hid (Calls Tryz.prog 56 #[.pointer (some ⟨b, 0, none⟩)] wr fun e w' => e = .returned (.tuple #[]) ∧ w' = wr) := wrong_no H6.out.1 (by decide)
            clear hlen hE hS hK hB
            go_wp2_with fail
            refine HC.out.mono ?_
            rintro e wz ⟨rfl, hwz⟩
            obtain rfl := hwz.symm
            clear hwz HC
            go_wp2
            (try simp only [Exit.inBlock, Exit.then])
            refine bodyPost_ret (results_none rfl _ _ _) rfl ?_
            exact ⟨rfl, FPost.bad H6.out.1 (FAdv.ofB v H6.out.2)⟩
  · have e : R = .error 700 := by rw [← HR.out]; exact thenE_none hD
    subst e
    have HC : Hid (Calls Tryz.prog 56 #[.pointer (some ⟨b, 0, none⟩)] w3 fun e w' => e = .returned (.tuple #[]) ∧ w' = w3) := wrong_no H3.out.1 (by decide)
    clear hD
    go_wp2_with fail
    refine HC.out.mono ?_
    rintro e wz ⟨rfl, hwz⟩
    obtain rfl := hwz.symm
    clear hwz HC
    go_wp2
    (try simp only [Exit.inBlock, Exit.then])
    refine bodyPost_ret (results_none rfl _ _ _) rfl ?_
    exact ⟨rfl, FPost.bad H3.out.1 (FAdv.ofB v H3.out.2)⟩

end Go.Proofs.YtfbghchgfbjogaaGreat

namespace Go.Proofs.YtfbghchgfbjogaaGreat
open Go.RowKit
open Hf Tb
set_option linter.unusedVariables false
set_option linter.unusedSimpArgs false

def errAt (w : World) (b : Nat) : Int := match w.cell? ⟨b, 4, none⟩ with | some (.int _ e) => e | _ => 0
theorem FS.errAt {w : World} {b : Nat} {v : Value} {s : ByteArray} {most : Nat} {L : Bts} {xs : List Nat} {er : Int} (h : FS w b v s most L xs er) : errAt w b = er := by
  obtain ⟨c2, c3, c4, cf, p0, c1⟩ := h.cell
  show (match w.cell? ⟨b, 4, none⟩ with | some (.int _ e) => e | _ => 0) = er
  rw [c4]
/-- How the document's Inflate stands: T is what the blocks come to. -/
def Ist (T : Rs) (m : Nat) (w3 : World) (b : Nat) (s : ByteArray) (l : Nat) (w' : World) : Prop :=
  ∃ L1 x1 v1 er, FS w' b v1 s m L1 x1 er ∧ FAdv w3 w' b (.slice none 0 0) v1 ∧ ((er = 0 ∧ (l ≠ 0 → T = .ok (L1, x1)) ∧ (l = 0 → T = blocks m L1 x1)) ∨ (er ≠ 0 ∧ T = .error er))
theorem Ist.after {T : Rs} {m : Nat} {w3 w4 w5 : World} {b : Nat} {s : ByteArray} {l k : Nat} {L1 L2 L3 : Bts} {x1 : List Nat} {v1 : Value} (hT : T = blocks m L1 x1) (h1 : getL 1 L1 = some (l, L2)) (h2 : getL 2 L2 = some (k, L3)) (hA : FAdv w3 w4 b (.slice none 0 0) v1) (hP : FPost (inside m k L3 x1) w4 b v1 s m w5) : Ist T m w3 b s l w5 ∧ (l = 0 → errAt w5 b = 0 → 8 * s.size - posOf w5 b < L1.length) := by
  have hl1 := getL_len h1
  have hl2 := getL_len h2
  rcases h3 : inside m k L3 x1 with er | ⟨L', o'⟩
  · obtain ⟨v', L', o', hS, hA2⟩ := hP.1 er h3
    have hne := (inside_err h3).ne
    refine ⟨⟨L', o', v', er, hS, hA.trans hA2, .inr ⟨hne, by rw [hT, blocks_bad h1 h2 h3]⟩⟩, fun _ e => absurd (hS.errAt.symm.trans e) hne⟩
  · obtain ⟨v', hS, hA2⟩ := hP.2 L' o' h3
    have hl3 := inside_len h3
    refine ⟨⟨L', o', v', 0, hS, hA.trans hA2, .inl ⟨rfl, fun hl => ?_, fun hl => ?_⟩⟩, fun _ _ => by rw [hS.left]; simp only at hl3; omega⟩
    · have : l = 1 := by have := getL_lt h1; omega
      subst this
      rw [hT, blocks_last h1 h2 h3]
    · rw [hT, blocks_next h1 (by omega) h2 h3]

set_option maxHeartbeats 16000000 in
set_option maxRecDepth 100000 in
theorem rinflate_ok (s : ByteArray) (most : Int) (w : World) (hs : s.size ≤ 281474976710656) :
    Calls Tryz.prog 35 #[.string s, .int .i64 most] w (InfPost (inflP (bytesOf s) most) w) := by
  obtain ⟨R, hR⟩ : ∃ R, inflP (bytesOf s) most = R := ⟨_, rfl⟩
  rw [hR]
  by_cases hm0 : most < 0
  · have e : R = .error 700 := by rw [← hR]; unfold inflP; rw [if_neg (by omega)]
    subst e
    clear hR
    go_enter Tryz.func35, Tryz.ntmps35
    go_wp2
    go_ret3
    exact InfPost.bad (Keeps.refl _ _)
  · by_cases hm1 : 8192 < most
    · have e : R = .error 700 := by rw [← hR]; unfold inflP; rw [if_neg (by omega)]
      subst e
      clear hR
      go_enter Tryz.func35, Tryz.ntmps35
      go_wp2
      go_ret3
      exact InfPost.bad (Keeps.refl _ _)
    · obtain ⟨m, rfl⟩ := Int.eq_ofNat_of_zero_le (show 0 ≤ most by omega)
      have hR2 : inflB (bytesOf s) m = R := by rw [← hR]; unfold inflP; rw [if_pos (by omega)]; rfl
      have hm2 : m ≤ 8192 := by omega
      obtain ⟨T, hT⟩ : ∃ T, blocks m (bitsL (bytesOf s)) [] = T := ⟨_, rfl⟩
      have HR : Hid ((∀ e, T = .error e → R = .error e) ∧ ∀ L1 x1, T = .ok (L1, x1) → R = .ok (x1, s.size - L1.length / 8)) := by
        rw [← hR2]
        unfold inflB
        rw [hT]
        exact ⟨fun e h => by rw [h], fun L1 x1 h => by rw [h]; simp only; rw [bytesOf_length]⟩
      have HS : Hid (s.size ≤ 281474976710656 ∧ blocks m (bitsL (bytesOf s)) [] = T) := ⟨hs, hT⟩
      clear hR hR2 hs hT
      go_enter Tryz.func35, Tryz.ntmps35
      go_wp2
      generalize hw3 : World.alloc _ _ = w3
      obtain ⟨b, hb⟩ : ∃ b, w.heap.size = b := ⟨_, rfl⟩
      rw [hb]
      have H3 : Hid (Ist T m w3 b s 0 w3 ∧ Keeps (fun _ => False) w w3 ∧ w.heap.size ≤ b) := by
        have hk : Keeps (fun _ => False) w w3 := by rw [← hw3]; exact (Keeps.refl _ w).alloc _
        refine ⟨⟨bitsL (bytesOf s), [], .slice none 0 0, 0, ⟨⟨0, ?_, by omega, by simp⟩, OwnB.nil _ _, HS.out.1, Nat.zero_le _, hm2, fun x hx => by cases hx⟩, FAdv.refl _ _ _, .inl ⟨rfl, fun e => absurd rfl e, fun _ => HS.out.2.symm⟩⟩, hk, by omega⟩
        unfold Fl
        rw [← hw3, ← hb]; exact heap_alloc_new _ _
      clear hw3 hb
      have HKw : Hid (∀ w' v1, FAdv w3 w' b (.slice none 0 0) v1 → Keeps (fun _ => False) w w') := fun w' v1 k => by
        refine H3.out.2.1.trans k.keep ?_
        rintro i hi (e | e)
        · have := H3.out.2.2; omega
        · cases e
      go_loopw [8] (fun s8 w' => ∃ l : Nat, l ≤ 1 ∧ s8 = .int .i64 (l : Int) ∧ Hid (Ist T m w3 b s l w')) (fun s8 w' => if intOf s8 = 0 ∧ errAt w' b = 0 then 1 + (8 * s.size - posOf w' b) else 0)
      case atStart => exact ⟨0, by omega, rfl, H3.out.1⟩
      case round =>
        obtain ⟨l, hl, rfl, HW⟩ := hrel
        obtain ⟨L1, x1, v1, er, hS, hA, hC⟩ := HW.out
        clear HW
        obtain ⟨c2, c3, c4, cf, p0, c1⟩ := hS.cell
        rcases hC with ⟨rfl, hok, hno⟩ | ⟨her, hbad⟩
        · by_cases hl0 : l = 0
          · subst hl0
            have HS1 : Hid (FS wr b v1 s m L1 x1 0 ∧ FAdv w3 wr b (.slice none 0 0) v1 ∧ T = blocks m L1 x1 ∧ errAt wr b = 0) := ⟨hS, hA, hno rfl, hS.errAt⟩
            have HC : Hid (Calls Tryz.prog 49 #[.pointer (some ⟨b, 0, none⟩), .int .i64 1] wr (GP 1 L1 0 wr b v1 s m x1)) := get_gen hS 1 (by omega)
            clear hS hA hok hno c2 c3 cf c1
            go_wp2_with fail
            refine HC.out.mono ?_
            rintro e w4 ⟨l, er4, L2, hx, rfl, hS4, hK4, _, hG4, _⟩
            have hl2 : l < 2 := hx
            have H4 : Hid (Keeps (fun k => k = b) wr w4 ∧ ((er4 = 0 ∧ getL 1 L1 = some (l, L2)) ∨ (er4 = 700 ∧ getL 1 L1 = none))) := ⟨hK4, hG4 rfl⟩
            have HC2 : Hid (Calls Tryz.prog 49 #[.pointer (some ⟨b, 0, none⟩), .int .i64 2] w4 (GP 2 L2 er4 w4 b v1 s m x1)) := get_gen hS4 2 (by omega)
            clear HC hx hS4 hK4 hG4 c4
            go_wp2_with fail
            refine HC2.out.mono ?_
            rintro e w5 ⟨k, er5, L3, hx, rfl, hS5, hK5, _, hG5, hG5n⟩
            have hk4 : k < 4 := hx
            obtain ⟨c2, c3, c4, cf, p0, c1⟩ := hS5.cell
            have hD : (er5 = 0 ∧ getL 1 L1 = some (l, L2) ∧ getL 2 L2 = some (k, L3)) ∨ (er5 = 700 ∧ T = .error 700) := by
              rcases H4.out.2 with ⟨rfl, g1⟩ | ⟨rfl, g1⟩
              · rcases hG5 rfl with ⟨rfl, g2⟩ | ⟨rfl, g2⟩
                · exact .inl ⟨rfl, g1, g2⟩
                · exact .inr ⟨rfl, by rw [HS1.out.2.2.1, blocks_none2 g1 g2]⟩
              · exact .inr ⟨hG5n (by decide), by rw [HS1.out.2.2.1, blocks_none1 g1]⟩
            have H5 : Hid (FS w5 b v1 s m L3 x1 er5 ∧ FAdv w3 w5 b (.slice none 0 0) v1) := ⟨hS5, HS1.out.2.1.trans (FAdv.ofB v1 (H4.out.1.trans hK5 (fun _ _ h => h)))⟩
            clear HC2 hx hS5 hK5 hG5 hG5n H4 c2 c3 cf c1
            rcases hD with ⟨rfl, g1, g2⟩ | ⟨rfl, hbad⟩
            · have HA : Hid (∀ w6, FPost (inside m k L3 x1) w5 b v1 s m w6 → Ist T m w3 b s l w6 ∧ (l = 0 → errAt w6 b = 0 → 8 * s.size - posOf w6 b < L1.length)) := fun w6 hP => Ist.after HS1.out.2.2.1 g1 g2 H5.out.2 hP
              clear g1 g2
              obtain rfl | rfl | rfl | rfl : k = 0 ∨ k = 1 ∨ k = 2 ∨ k = 3 := by omega
              · have HC : Hid (Calls Tryz.prog 50 #[.pointer (some ⟨b, 0, none⟩)] w5 fun e w' => e = .returned (.tuple #[]) ∧ FPost (inside m 0 L3 x1) w5 b v1 s m w') := rstored_ok H5.out.1
                go_wp2_with fail
                refine HC.out.mono ?_
                rintro e w6 ⟨rfl, hP6⟩
                have H6 : Hid (Ist T m w3 b s l w6 ∧ (l = 0 → errAt w6 b = 0 → 8 * s.size - posOf w6 b < L1.length)) := HA.out w6 hP6
                clear HC hP6
                go_wp2
                go_roundw
                case rel => exact ⟨l, by omega, rfl, H6.out.1⟩
                case measure =>
                  have h7 := HS1.out.1.left
                  have h8 := HS1.out.2.2.2
                  have h9 := H6.out.2
                  by_cases hc : (l : Int) = 0 ∧ errAt w6 b = 0
                  · have := h9 (by omega) hc.2
                    simp only [intOf, h8, hc.1, hc.2]; simp; omega
                  · have hc' : ¬ (l = 0 ∧ errAt w6 b = 0) := fun e => hc ⟨by have := e.1; omega, e.2⟩
                    simp only [intOf, h8]; simp; rw [if_neg hc']; omega
              · have HC1 : Hid (Calls Tryz.prog 53 #[] w5 fun e w' => ∃ v, e = .returned v ∧ Own w' w5.heap.size v fixL ∧ Keeps (fun _ => False) w5 w') := rfixed_ok w5
                go_wp2_with fail
                refine HC1.out.mono ?_
                rintro e w6 ⟨u, rfl, hO6, hK6⟩
                obtain ⟨a, cap, rfl, hrow6, _, _⟩ := own_row hO6
                have HC2 : Hid (Calls Tryz.prog 52 #[.slice a 288 cap] w6 fun e w' => ∃ q, e = .returned (.pointer (some ⟨q, 0, none⟩)) ∧ Keeps (fun _ => False) w6 w' ∧ RBk w' w6.heap.size w'.heap.size q fixLs) := by
                  have := rbookOf_ok a fixLs cap w6 hrow6 (by rw [fixLs_length]; omega) (by rw [fixLs_length]; omega)
                  rw [fixLs_length] at this; exact this
                rw [show fixL.length = 288 from fixLs_length]
                have HK6 : Hid (Keeps (fun _ => False) w5 w6) := hK6
                clear HC1 hO6 hrow6 hK6
                go_wp2_with fail
                refine HC2.out.mono ?_
                rintro e w7 ⟨q1, rfl, hK7, hB7⟩
                have H7 : Hid (Keeps (fun _ => False) w5 w7 ∧ RBk w7 w5.heap.size w7.heap.size q1 fixLs) := ⟨HK6.out.trans hK7 (fun _ _ h => h), hB7.wider HK6.out.size (Nat.le_refl _) (Nat.le_refl _)⟩
                have HC3 : Hid (Calls Tryz.prog 54 #[] w7 fun e w' => ∃ g, e = .returned (.slice (some ⟨g, 0, none⟩) 30 30) ∧ Blk w' g fiveLs ∧ Keeps (fun _ => False) w7 w') := rfives_ok w7
                clear HC2 hK7 hB7 HK6
                go_wp2_with fail
                refine HC3.out.mono ?_
                rintro e w8 ⟨g, rfl, hB8, hK8⟩
                have hrow8 : Row w8 (some ⟨g, 0, none⟩) fiveLs := .inr ⟨g, 0, rfl, hB8.lt, fun q hq => by rw [Nat.zero_add]; exact hB8.cell q hq⟩
                have H8 : Hid (Keeps (fun _ => False) w5 w8 ∧ RBk w8 w5.heap.size w8.heap.size q1 fixLs) := ⟨H7.out.1.trans hK8 (fun _ _ h => h), (H7.out.2.kept hK8 (fun _ _ _ h => h)).wider (Nat.le_refl _) hK8.size (Nat.le_refl _)⟩
                have HC4 : Hid (Calls Tryz.prog 52 #[.slice (some ⟨g, 0, none⟩) 30 30] w8 fun e w' => ∃ q, e = .returned (.pointer (some ⟨q, 0, none⟩)) ∧ Keeps (fun _ => False) w8 w' ∧ RBk w' w8.heap.size w'.heap.size q fiveLs) := rbookOf_ok (some ⟨g, 0, none⟩) fiveLs 30 w8 hrow8 (by decide) (by decide)
                clear HC3 hB8 hK8 hrow8 H7
                go_wp2_with fail
                refine HC4.out.mono ?_
                rintro e w9 ⟨q2, rfl, hK9, hB9⟩
                have H9 : Hid (Keeps (fun _ => False) w5 w9 ∧ RBk w9 w5.heap.size w9.heap.size q1 fixLs ∧ RBk w9 w5.heap.size w9.heap.size q2 fiveLs) := ⟨H8.out.1.trans hK9 (fun _ _ h => h), (H8.out.2.kept hK9 (fun _ _ _ h => h)).wider (Nat.le_refl _) hK9.size (Nat.le_refl _), hB9.wider H8.out.1.size (Nat.le_refl _) (Nat.le_refl _)⟩
                have HC : Hid (Calls Tryz.prog 51 #[.pointer (some ⟨b, 0, none⟩), .pointer (some ⟨q1, 0, none⟩), .pointer (some ⟨q2, 0, none⟩)] w9 fun e w' => e = .returned (.tuple #[]) ∧ FPost (inside m 1 L3 x1) w5 b v1 s m w') := by
                  refine (rcoded_ok (H5.out.1.keptF H9.out.1) H9.out.2.1 H9.out.2.2 ⟨.inl H5.out.1.lt, fun k e => .inl (H5.out.1.ownlt k e).2⟩ (by rw [fixLs_length]; omega) (by decide)).mono ?_
                  rintro e w' ⟨he, hP⟩
                  exact ⟨he, FPost.trans (FAdv.ofF b v1 H9.out.1) hP⟩
                clear HC4 hK9 hB9 H8 H9
                go_wp2_with fail
                refine HC.out.mono ?_
                rintro e w6 ⟨rfl, hP6⟩
                have H6 : Hid (Ist T m w3 b s l w6 ∧ (l = 0 → errAt w6 b = 0 → 8 * s.size - posOf w6 b < L1.length)) := HA.out w6 hP6
                clear HC hP6
                go_wp2
                go_roundw
                case rel => exact ⟨l, by omega, rfl, H6.out.1⟩
                case measure =>
                  have h7 := HS1.out.1.left
                  have h8 := HS1.out.2.2.2
                  have h9 := H6.out.2
                  by_cases hc : (l : Int) = 0 ∧ errAt w6 b = 0
                  · have := h9 (by omega) hc.2
                    simp only [intOf, h8, hc.1, hc.2]; simp; omega
                  · have hc' : ¬ (l = 0 ∧ errAt w6 b = 0) := fun e => hc ⟨by have := e.1; omega, e.2⟩
                    simp only [intOf, h8]; simp; rw [if_neg hc']; omega
              · have HC : Hid (Calls Tryz.prog 55 #[.pointer (some ⟨b, 0, none⟩)] w5 fun e w' => e = .returned (.tuple #[]) ∧ FPost (inside m 2 L3 x1) w5 b v1 s m w') := rdynamic_ok H5.out.1
                go_wp2_with fail
                refine HC.out.mono ?_
                rintro e w6 ⟨rfl, hP6⟩
                have H6 : Hid (Ist T m w3 b s l w6 ∧ (l = 0 → errAt w6 b = 0 → 8 * s.size - posOf w6 b < L1.length)) := HA.out w6 hP6
                clear HC hP6
                go_wp2
                go_roundw
                case rel => exact ⟨l, by omega, rfl, H6.out.1⟩
                case measure =>
                  have h7 := HS1.out.1.left
                  have h8 := HS1.out.2.2.2
                  have h9 := H6.out.2
                  by_cases hc : (l : Int) = 0 ∧ errAt w6 b = 0
                  · have := h9 (by omega) hc.2
                    simp only [intOf, h8, hc.1, hc.2]; simp; omega
                  · have hc' : ¬ (l = 0 ∧ errAt w6 b = 0) := fun e => hc ⟨by have := e.1; omega, e.2⟩
                    simp only [intOf, h8]; simp; rw [if_neg hc']; omega
              · have HC : Hid (Calls Tryz.prog 56 #[.pointer (some ⟨b, 0, none⟩)] w5 fun e w' => e = .returned (.tuple #[]) ∧ FPost (inside m 3 L3 x1) w5 b v1 s m w') := by
                  refine (wrong_ok H5.out.1).mono ?_
                  rintro e w' ⟨he, hS', hK'⟩
                  exact ⟨he, FPost.bad hS' (FAdv.ofB v1 hK')⟩
                go_wp2_with fail
                refine HC.out.mono ?_
                rintro e w6 ⟨rfl, hP6⟩
                have H6 : Hid (Ist T m w3 b s l w6 ∧ (l = 0 → errAt w6 b = 0 → 8 * s.size - posOf w6 b < L1.length)) := HA.out w6 hP6
                clear HC hP6
                go_wp2
                go_roundw
                case rel => exact ⟨l, by omega, rfl, H6.out.1⟩
                case measure =>
                  have h7 := HS1.out.1.left
                  have h8 := HS1.out.2.2.2
                  have h9 := H6.out.2
                  by_cases hc : (l : Int) = 0 ∧ errAt w6 b = 0
                  · have := h9 (by omega) hc.2
                    simp only [intOf, h8, hc.1, hc.2]; simp; omega
                  · have hc' : ¬ (l = 0 ∧ errAt w6 b = 0) := fun e => hc ⟨by have := e.1; omega, e.2⟩
                    simp only [intOf, h8]; simp; rw [if_neg hc']; omega
            · have e : R = .error 700 := HR.out.1 700 hbad
              subst e
              have HKK : Hid (Keeps (fun _ => False) w w5) := HKw.out w5 v1 H5.out.2
              have her : ¬ ((700 : Int) = 0) := by decide
              clear hbad
              go_wp2
              go_quiet (fail)
              go_wp2
              go_ret3
              exact InfPost.bad (HKK.out.drewN _)
          · obtain ⟨q, hq⟩ : ∃ q, s.size - L1.length / 8 = q := ⟨_, rfl⟩
            have e : R = .ok (x1, q) := by rw [← hq]; exact HR.out.2 L1 x1 (hok hl0)
            subst e
            have hlz : ¬ ((l : Int) = 0) := by omega
            have hlb : ((l : Int) == 0) = false := by simp; omega
            obtain ⟨p, p1, p2, p3⟩ := hS.fl
            have hpl : L1.length = 8 * s.size - p := by rw [p3, List.length_drop, bitsL_length, bytesOf_length]
            have hcp : wr.cell? ⟨b, 1, none⟩ = some (.int .i64 (p : Int)) := cell_of_heap p1 rfl
            have hz := hS.sz
            have hd1 : ((p : Int) + 7) / 8 = (q : Int) := by omega
            have hd2 : ((p : Int) + 7).tdiv 8 = (q : Int) := by rw [Int.tdiv_eq_ediv_of_nonneg (by omega)]; exact hd1
            have hd3 : IntKind.i64.wrap (q : Int) = (q : Int) := wrap_i64_small _ (by omega) (by omega)
            have hd4 : IntKind.i64.wrap ((p : Int) + 7) = (p : Int) + 7 := wrap_i64_small _ (by omega) (by omega)
            have hcv : ∀ n, (convert 84 9 v1).run Tryz.prog (wr.drewN n) = .ok (.string (textOf x1)) (wr.drewN n) := fun n => OwnB.text Tryz.underlying84 (show OwnB (wr.drewN n) (b + 1) v1 x1 from hS.own) hS.byt
            have HKK : Hid (Keeps (fun _ => False) w wr) := HKw.out wr v1 hA
            obtain ⟨av, cv, hv1⟩ := hS.own.form
            have HV : Hid (v1 = .slice av x1.length cv) := hv1
            clear hS hA hok hno c3 cf c1 hq p1 p2 p3 hpl hv1
            go_wp2
            go_quiet (fail)
            go_wp2
            go_ret3
            exact ⟨rfl, HKK.out.drewN _⟩
        · have e : R = .error er := HR.out.1 er hbad
          subst e
          have heb : (er == 0) = false := by simp; exact her
          have hen : ¬ (er = 0) := her
          have HKK : Hid (Keeps (fun _ => False) w wr) := HKw.out wr v1 hA
          clear hS hA c2 c3 cf c1 hbad her
          by_cases hl0 : l = 0
          · subst hl0
            go_wp2
            go_quiet (fail)
            go_wp2
            go_ret3
            exact InfPost.bad (HKK.out.drewN _)
          · have hlz : ¬ ((l : Int) = 0) := by omega
            have hlb : ((l : Int) == 0) = false := by simp; omega
            go_wp2
            go_quiet (fail)
            go_wp2
            go_ret3
            exact InfPost.bad (HKK.out.drewN _)

end Go.Proofs.YtfbghchgfbjogaaGreat

namespace Go.Proofs.YtfbghchgfbjogaaGreat.Bk
open Go.RowKit
open Hf Tb
open Mt (Tk RowT mayF okT sumZ expF toksN)
set_option linter.unusedVariables false
set_option linter.unusedSimpArgs false

set_option maxHeartbeats 2000000 in
set_option maxRecDepth 100000 in
theorem runpack_ok (m : Int) (p : ByteArray) (n : Int) (w : World) (hp : p.size ≤ 281474976710656) :
    Calls Tryz.prog 20 #[.int .i64 m, .string p, .int .i64 n] w (StrPost (unT m p n).1 (unT m p n).2 w) := by
  have HI : Hid (∀ w, Calls Tryz.prog 35 #[.string p, .int .i64 n] w fun e w' => e = .returned (.tuple #[.string (infT p n), .int .i64 (infK p n), .int .i64 (infE p n)]) ∧ Keeps (fun _ => False) w w') := fun w => rinflate_ok p n w hp
  unfold unT
  by_cases h1 : n < 0
  · rw [if_pos (.inl h1)]
    clear HI
    go_enter Tryz.func20, Tryz.ntmps20
    go_wp2
    go_ret2
    exact ⟨rfl, Keeps.refl _ w⟩
  · by_cases h2 : 300 < n
    · rw [if_pos (.inr h2)]
      clear HI
      go_enter Tryz.func20, Tryz.ntmps20
      go_wp2
      go_ret2
      exact ⟨rfl, Keeps.refl _ w⟩
    · rw [if_neg (by omega)]
      by_cases h3 : m = 0
      · subst h3
        rw [if_pos rfl]
        clear HI
        by_cases h4 : (p.size : Int) = n
        · rw [if_pos h4]
          go_enter Tryz.func20, Tryz.ntmps20
          go_wp2
          go_ret2
          exact ⟨rfl, Keeps.refl _ w⟩
        · rw [if_neg h4]
          go_enter Tryz.func20, Tryz.ntmps20
          go_wp2
          go_ret2
          exact ⟨rfl, Keeps.refl _ w⟩
      · rw [if_neg h3]
        by_cases h4 : m = 8
        · subst h4
          rw [if_pos rfl]
          generalize infT p n = X at *
          generalize infK p n = T at *
          generalize infE p n = E at *
          by_cases e1 : E = 0
          · subst e1
            by_cases e2 : T = (p.size : Int)
            · subst e2
              by_cases e3 : (X.size : Int) = n
              · rw [if_pos ⟨rfl, rfl, e3⟩]
                go_enter Tryz.func20, Tryz.ntmps20
                go_wp2_with fail
                refine (HI.out w).mono ?_
                rintro e w1 ⟨rfl, hk1⟩
                have H1 := hide hk1
                clear hk1 HI
                go_wp2
                all_goals go_ret2
                all_goals exact ⟨rfl, H1.out⟩
              · rw [if_neg (fun h => e3 h.2.2)]
                go_enter Tryz.func20, Tryz.ntmps20
                go_wp2_with fail
                refine (HI.out w).mono ?_
                rintro e w1 ⟨rfl, hk1⟩
                have H1 := hide hk1
                clear hk1 HI
                go_wp2
                all_goals go_ret2
                all_goals exact ⟨rfl, H1.out⟩
            · rw [if_neg (fun h => e2 h.2.1)]
              go_enter Tryz.func20, Tryz.ntmps20
              go_wp2_with fail
              refine (HI.out w).mono ?_
              rintro e w1 ⟨rfl, hk1⟩
              have H1 := hide hk1
              clear hk1 HI
              go_wp2
              all_goals go_ret2
              all_goals exact ⟨rfl, H1.out⟩
          · rw [if_neg (fun h => e1 h.1)]
            go_enter Tryz.func20, Tryz.ntmps20
            go_wp2_with fail
            refine (HI.out w).mono ?_
            rintro e w1 ⟨rfl, hk1⟩
            have H1 := hide hk1
            clear hk1 HI
            go_wp2
            all_goals go_ret2
            all_goals exact ⟨rfl, H1.out⟩
        · rw [if_neg h4]
          clear HI
          go_enter Tryz.func20, Tryz.ntmps20
          go_wp2
          go_ret2
          exact ⟨rfl, Keeps.refl _ w⟩

end Go.Proofs.YtfbghchgfbjogaaGreat.Bk

namespace Go.Proofs.YtfbghchgfbjogaaGreat.Zp
open Go.RowKit
set_option linter.unusedVariables false
set_option linter.unusedSimpArgs false

set_option maxHeartbeats 4000000 in
set_option maxRecDepth 1000000 in
theorem rhead_ok (e : Ent) (ys : List Int) (w : World) (hv : e.vn = ys.length) (hR : Row w e.va ys) (hn : ys.length ≤ 1125899906842624) :
    Calls Tryz.prog 41 #[.agg #[.string e.nm, .bool e.gn, .slice e.va e.vn e.vc, .int .i64 e.st, .int .i64 e.nd, .int .i64 e.mt, .string e.pk, .int .i64 e.sz, .int .i64 e.cr]] w fun r w' => r = .returned (.bool (headB ys e.st e.nd)) ∧ Keeps (fun _ => False) w w' := by
  have HM : Hid (∀ w', Keeps (fun _ => False) w w' → Calls Tryz.prog 39 #[.slice e.va e.vn e.vc] w' fun r w'' => r = .returned (.bool (mayB ys)) ∧ w'' = w') := fun w' hk => by rw [hv]; exact rmay_ok _ ys _ w' (hR.keptF hk) hn
  have HN := @headB_no ys e.st e.nd
  have HY := @headB_of ys e.st e.nd
  clear hv hR hn
  cases hm : mayB ys
  · rw [HN (.inl hm)]
    rw [hm] at HM
    clear HN HY hm
    go_enter Tryz.func41, Tryz.ntmps41
    go_wp2_with (first
      | (refine wpList_box9 rfl _ rfl e rfl ?_; intro b w1 hE hK hb; have HK : Hid (Keeps (fun _ => False) w w1) := hK; have c2 := hE.c2; clear hK hb hE)
      | (go_at_call 39; refine (HM.out w1 HK.out).mono ?_; rintro r w' ⟨rfl, hw⟩; obtain rfl := hw.symm; clear hw))
    go_ret
    exact ⟨rfl, HK.out⟩
  · rw [hm] at HM
    have hall : (¬ 1 ≤ e.st) ∨ (1 ≤ e.st ∧ ¬ e.st ≤ 1048576) ∨ (1 ≤ e.st ∧ e.st ≤ 1048576 ∧ ¬ 0 ≤ e.nd) ∨ (1 ≤ e.st ∧ e.st ≤ 1048576 ∧ 0 ≤ e.nd ∧ ¬ e.nd < 4) ∨ (1 ≤ e.st ∧ e.st ≤ 1048576 ∧ 0 ≤ e.nd ∧ e.nd < 4) := by omega
    rcases hall with h | ⟨h1, h⟩ | ⟨h1, h2, h⟩ | ⟨h1, h2, h3, h⟩ | ⟨h1, h2, h3, h4⟩
    all_goals
      first
        | rw [HN (by omega)]
        | rw [HY hm ⟨h1, h2⟩ ⟨h3, h4⟩]
      clear HN HY hm
      go_enter Tryz.func41, Tryz.ntmps41
      go_wp2_with (first
        | (refine wpList_box9 rfl _ rfl e rfl ?_; intro b w1 hE hK hb; have HK : Hid (Keeps (fun _ => False) w w1) := hK; have c2 := hE.c2; have c3 := hE.c3; have c4 := hE.c4; clear hK hb hE)
        | (go_at_call 39; refine (HM.out w1 HK.out).mono ?_; rintro r w' ⟨rfl, hw⟩; obtain rfl := hw.symm; clear hw))
      go_ret
      exact ⟨by first | rfl | (show Ending.returned (.bool (decide (e.nd < 4))) = _; rw [decide_eq_false (by omega)]), HK.out⟩

end Go.Proofs.YtfbghchgfbjogaaGreat.Zp

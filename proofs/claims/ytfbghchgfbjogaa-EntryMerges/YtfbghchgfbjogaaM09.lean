/-
  lengthFinder of package inflate: the codes by which a dynamic block tells all lengths. lengths of package inflate: what a dynamic block tells ahead of its bytes and copies. fixedBook, dynamic, inside, block and Inflate of package inflate.
-/
import Derived.Test.YtfbghchgfbjogaaRows
import Derived.Test.YtfbghchgfbjogaaM08
import Derived.OwnWalk
namespace Go.Proofs.Ytfbghchgfbjogaa
open Go.RowKit
open Hf Tb
set_option linter.unusedVariables false
set_option linter.unusedSimpArgs false

theorem rowL_pos : ∀ i : Fin 19, ∀ j : Fin 19, (rowL.getD i.val 0 = j.val ↔ posR j.val = i.val) := by decide +kernel
theorem rowL_lt : ∀ i : Fin 19, rowL.getD i.val 0 < 19 := by decide +kernel
theorem clOf_length (t : List Int) : (clOf t).length = 19 := by simp [clOf]
theorem clOf_get (t : List Int) (j : Nat) (h : j < 19) : (clOf t)[j]? = some (t.getD (posR j) 0) := by
  simp [clOf, List.getElem?_map, List.getElem?_range h]
theorem clOf_set (acc : List Int) (x : Int) (h : acc.length < 19) : (clOf acc).set (rowL.getD acc.length 0) x = clOf (acc ++ [x]) := by
  apply List.ext_getElem?
  intro j
  have hr := rowL_lt ⟨acc.length, h⟩
  simp only at hr
  by_cases hj : j < 19
  · have hp := rowL_pos ⟨acc.length, h⟩ ⟨j, hj⟩
    simp only at hp
    rw [clOf_get _ j hj, List.getElem?_set]
    by_cases e : rowL.getD acc.length 0 = j
    · rw [if_pos e, clOf_length, if_pos hr, hp.1 e]
      simp [List.getD]
    · rw [if_neg e, clOf_get _ j hj]
      have hne : posR j ≠ acc.length := fun k => e (hp.2 k)
      congr 1
      simp only [List.getD, List.getElem?_append]
      by_cases hlt : posR j < acc.length
      · rw [if_pos hlt]
      · rw [if_neg hlt, List.getElem?_eq_none (by omega), List.getElem?_eq_none (by simp; omega)]
  · rw [List.getElem?_eq_none (by rw [List.length_set, clOf_length]; omega), List.getElem?_eq_none (by rw [clOf_length]; omega)]
theorem clOf_nil : clOf [] = List.replicate 19 0 := by decide
theorem Blk.set {w : World} {g : Nat} {xs : List Int} (h : Blk w g xs) (i : Nat) (y : Int) : Blk (w.setCell ⟨g, i, none⟩ (.int .i64 y)) g (xs.set i y) := by
  unfold Blk
  rw [heap_setCell_same h]
  congr 2
  simp [intsV, List.map_set]

/-- The codes of the lengths. -/
def lfP : Bts → Option (List Int × Bts) := bnd (aboveL 4 4) fun c => bnd (threes c []) fun t => if errC (clOf t) = 0 then retL (clOf t) else noL
def lfT (R : Option (List Int × Bts)) : Option (List Int × Bts) := match R with
  | none => none
  | some (t, L2) => if errC (clOf t) = 0 then some (clOf t, L2) else none
theorem lfP_of {L L1 : Bts} {c : Nat} (h1 : aboveL 4 4 L = some (c, L1)) : lfP L = lfT (threes c [] L1) := by
  unfold lfP
  rw [bnd_eq h1]
  rcases h2 : threes c [] L1 with _ | ⟨t, L2⟩
  · rw [bnd_none h2]; rfl
  · rw [bnd_eq h2]; unfold lfT; simp only
    split <;> rfl
theorem lfP_dyn (a b : Nat) (L : Bts) : bnd (aboveL 4 4) (fun c => bnd (threes c []) fun t => dynC a b t) L = bnd lfP (fun ys => bnd (runs ys (a + b) []) fun all => dynP a all) L := by
  rcases h1 : aboveL 4 4 L with _ | ⟨c, L1⟩
  · have e : lfP L = none := by unfold lfP; exact bnd_none h1
    rw [bnd_none h1, bnd_none e]
  · have e := lfP_of h1
    rw [bnd_eq h1]
    rcases h2 : threes c [] L1 with _ | ⟨t, L2⟩
    · rw [h2] at e
      rw [bnd_none h2, bnd_none e]
    · rw [h2] at e
      rw [bnd_eq h2]
      unfold dynC
      unfold lfT at e
      by_cases he : errC (clOf t) = 0
      · simp only [if_pos he] at e
        rw [if_pos he, bnd_eq e]
      · simp only [if_neg he] at e
        rw [if_neg he, bnd_none e]; rfl
def FinPost (R : Option (List Int × Bts)) (w : World) (b r : Nat) (v : Value) (s : ByteArray) (most : Nat) (xs : List Nat) (e : Ending) (w' : World) : Prop :=
  (R = none → e = .returned (.tuple #[.pointer none, .int .i64 700]) ∧ Keeps (Own3 b r v) w w') ∧
  ∀ ys L', R = some (ys, L') → ∃ f, e = .returned (.tuple #[.pointer (some ⟨f, 0, none⟩), .int .i64 0]) ∧ Fnd w' w.heap.size w'.heap.size f ys ∧ St w' b r v s most L' xs ∧ Rdv w w' b r v
theorem FinPost.noneI {w : World} {b r : Nat} {v : Value} {s : ByteArray} {most : Nat} {xs : List Nat} {w' : World} (h : Keeps (Own3 b r v) w w') : FinPost none w b r v s most xs (.returned (.tuple #[.pointer none, .int .i64 700])) w' :=
  ⟨fun _ => ⟨rfl, h⟩, fun _ _ e => by cases e⟩

set_option maxHeartbeats 4000000 in
set_option maxRecDepth 100000 in
theorem lengthFinder_ok {w : World} {b r : Nat} {v : Value} {s : ByteArray} {most : Nat} {L : Bts} {xs : List Nat} (h : St w b r v s most L xs) :
    Calls Try.prog 73 #[.pointer (some ⟨b, 0, none⟩)] w (FinPost (lfP L) w b r v s most xs) := by
  obtain ⟨R, hR⟩ : ∃ R, lfP L = R := ⟨_, rfl⟩
  rw [hR]
  have HS0 : Hid (St w b r v s most L xs) := h
  rcases h1 : aboveL 4 4 L with _ | ⟨c, L1⟩
  · have e : R = none := by rw [← hR]; unfold lfP; exact bnd_none h1
    subst e
    have HC : Hid (Calls Try.prog 72 #[.pointer (some ⟨b, 0, none⟩), .int .i64 4, .int .i64 4] w fun e w' => e = .returned (.tuple #[.int .i64 0, .int .i64 700]) ∧ Keeps (Own3 b r v) w w') := above_none h 4 4 (by omega) h1
    clear h h1 hR
    go_enter Try.func73, Try.ntmps73
    go_wp2_with fail
    refine HC.out.mono ?_
    rintro e w2 ⟨rfl, hk⟩
    have HK : Hid (Keeps (Own3 b r v) w w2) := hk
    clear hk HC
    go_wp2
    go_ret2
    exact FinPost.noneI HK.out
  · have HC : Hid (Calls Try.prog 72 #[.pointer (some ⟨b, 0, none⟩), .int .i64 4, .int .i64 4] w fun e w' => e = .returned (.tuple #[.int .i64 (c : Int), .int .i64 0]) ∧ St w' b r v s most L1 xs ∧ Rdv w w' b r v) := above_some h 4 4 c L1 (by omega) (by omega) h1
    have hc : c ≤ 19 := by
      obtain ⟨q, hq, rfl⟩ := aboveL_some h1
      have h2 := getL_lt hq
      omega
    obtain ⟨R3, hR3⟩ : ∃ R3, threes c [] L1 = R3 := ⟨_, rfl⟩
    have HR : Hid (R = lfT R3) := by show R = _; rw [← hR, ← hR3]; exact lfP_of h1
    have HR3 : Hid (threes c [] L1 = R3) := hR3
    clear h h1 hR hR3
    go_enter Try.func73, Try.ntmps73
    go_wp2_with fail
    refine HC.out.mono ?_
    rintro e w2 ⟨rfl, hS2, hA2⟩
    have H2 : Hid (St w2 b r v s most L1 xs ∧ Rdv w w2 b r v) := ⟨hS2, hA2⟩
    clear hS2 hA2 HC
    have HCr : Hid (∀ w, Calls Try.prog 83 #[] w fun e w' => e = .returned (.agg (intsV rowZ).toArray) ∧ Keeps (fun _ => False) w w') := row_ok
    go_wp2_with fail
    refine (HCr.out w2).mono ?_
    rintro e w2a ⟨rfl, hKa⟩
    go_wp2_with (first
      | (refine wpList_alloc19 rfl rfl ?_; intro q w2b hAb hKb hqb)
      | (refine wpList_store19 rfl _ _ rfl q rowZ rfl rfl rfl (List.replicate 19 0) (by decide) ?hA ?_; (case hA => assumption); intro w2c hAc hKc)
      | (refine wpList_zeros rfl _ _ rfl 19 rfl rfl (by omega) ?_; intro g w3 hB3 hK3 hg3))
    have HQ : Hid (w.heap.size ≤ q ∧ q ≠ g) := ⟨by have := H2.out.2.only.size; have := hKa.size; omega, by have := hAc.lt; omega⟩
    have H3 : Hid (∃ acc L4, acc.length = 0 ∧ threes (c - 0) acc L4 = R3 ∧ St w3 b r v s most L4 xs ∧ Rdv w w3 b r v ∧ Blk w3 g (clOf acc) ∧ w.heap.size ≤ g ∧ Ary 137 w3 q rowZ) := by
      have k2c : Keeps (fun _ => False) w2 w2c := (hKa.trans hKb (fun _ _ h => h)).trans hKc (fun i hi e => by have := hKa.size; omega)
      have k23 : Keeps (fun _ => False) w2 w3 := k2c.trans hK3 (fun _ _ h => h)
      refine ⟨[], L1, rfl, HR3.out, H2.out.1.keptF k23, H2.out.2.trans (Rdv.ofF b r v k23), by rw [clOf_nil]; exact hB3, by have := H2.out.2.only.size; have := k2c.size; omega, hAc.keptF hK3⟩
    clear hB3 hK3 hg3 H2 HR3 hKa hAb hKb hqb hAc hKc HCr
    go_loopw [20] (fun s18 w' => ∃ i : Nat, i ≤ c ∧ s18 = .int .i64 (i : Int) ∧ Hid (∃ acc L4, acc.length = i ∧ threes (c - i) acc L4 = R3 ∧ St w' b r v s most L4 xs ∧ Rdv w w' b r v ∧ Blk w' g (clOf acc) ∧ w.heap.size ≤ g ∧ Ary 137 w' q rowZ)) (fun s18 _ => ((c : Int) - intOf s18).toNat)
    case atStart => exact ⟨0, by omega, rfl, H3⟩
    case round =>
      clear H3
      obtain ⟨i, hi, rfl, HW⟩ := hrel
      by_cases hic : i < c
      · have hiz : (i : Int) < (c : Int) := by omega
        have hi19 : (i : Int) < 19 := by omega
        obtain ⟨acc, L4, hlen, hE, hS, hA, hB, hg, hQ⟩ := HW.out
        clear HW
        obtain ⟨j, hj⟩ : ∃ j, rowL.getD i 0 = j := ⟨_, rfl⟩
        have hj19 : j < 19 := by rw [← hj]; exact rowL_lt ⟨i, by omega⟩
        have hjz : (j : Int) < 19 := by omega
        have hE2 : bnd (getL 3) (fun x => threes (c - (i + 1)) (acc ++ [(x : Int)])) L4 = R3 := by
          rw [show c - i = (c - (i + 1)) + 1 by omega] at hE; exact hE
        have hS1 : St wr.drew b r v s most L4 xs := ⟨hS.blk, hS.rd, hS.own, hS.rb, hS.sz, hS.lim, hS.most, hS.byt⟩
        have hrow : wr.cell? ⟨q, i, none⟩ = some (.int .i64 (j : Int)) := by
          have h19 : i < rowZ.length := by show i < 19; omega
          have e := rowZ_get ⟨i, h19⟩
          simp only at e
          rw [List.getElem?_eq_getElem h19] at e
          rw [hQ.cell i h19, Option.some.inj e, hj]
        have hql : q < wr.heap.size := hQ.lt
        have hgr : g ≠ r := by have := HS0.out.rb; have := HS0.out.lt; omega
        have hr0 : q ≠ r := by have := HS0.out.rb; have := HS0.out.lt; have := HQ.out; omega
        have hqn : ¬ Own3 b r v q := fun e => by have := HS0.out.above3 q e; have := HQ.out; omega
        rcases h4 : getL 3 L4 with _ | ⟨x, L5⟩
        · have e : R3 = none := by rw [← hE2, bnd_none h4]
          have e2 : R = none := by rw [HR.out, e]; rfl
          subst e2
          have HC : Hid (Calls Try.prog 45 #[.pointer (some ⟨b, 0, none⟩), .int .i64 3] wr.drew fun e w' => e = .returned (.tuple #[.int .i64 0, .int .i64 700]) ∧ w'.cell? ⟨q, i, none⟩ = some (.int .i64 (j : Int)) ∧ (∃ u, w'.cell? ⟨g, j, none⟩ = some u) ∧ w'.frozen? ⟨g, j, none⟩ = false ∧ Keeps (Own3 b r v) w w') := by
            refine (number_none hS1 3 (by omega) h4).mono ?_
            rintro e w' ⟨rfl, hk⟩
            have hgl : g < wr.drew.heap.size := hB.lt
            have hn : ¬ Own3 b r v g := fun e => by have := HS0.out.above3 g e; omega
            refine ⟨rfl, ?_, ?_, ?_, (⟨hA.only.drew⟩ : Rdv w wr.drew b r v).lost hk⟩
            · rw [World.cell?_of_block (hk.block q hql hqn)]; exact hrow
            · rw [World.cell?_of_block (hk.block g hgl hn)]; exact ⟨_, hB.cell j (by rw [clOf_length]; exact hj19)⟩
            · rw [World.frozen?_of_block (hk.block g hgl hn)]; exact hB.free j
          clear hE hE2 hS hA hB hS1 hlen h4 e HR hQ
          go_wp2
          go_region_with (go_at_call 45; refine HC.out.mono ?_; rintro e w5 ⟨rfl, d1, ⟨u, d2⟩, d3, hk5⟩; have H5 : Hid (Keeps (Own3 b r v) w w5) := hk5; clear hk5)
          all_goals
            go_wp2
            go_ret2
            exact FinPost.noneI (H5.out.setCell (p := ⟨g, j, none⟩) (fun hh => by simp only at hh; omega) _)
        · have HC : Hid (Calls Try.prog 45 #[.pointer (some ⟨b, 0, none⟩), .int .i64 3] wr.drew fun e w' => e = .returned (.tuple #[.int .i64 (x : Int), .int .i64 0]) ∧ w'.cell? ⟨q, i, none⟩ = some (.int .i64 (j : Int)) ∧ (∃ u, w'.cell? ⟨g, j, none⟩ = some u) ∧ w'.frozen? ⟨g, j, none⟩ = false ∧ ∃ acc L4, acc.length = i + 1 ∧ threes (c - (i + 1)) acc L4 = R3 ∧ St (w'.setCell ⟨g, j, none⟩ (.int .i64 (x : Int))) b r v s most L4 xs ∧ Rdv w (w'.setCell ⟨g, j, none⟩ (.int .i64 (x : Int))) b r v ∧ Blk (w'.setCell ⟨g, j, none⟩ (.int .i64 (x : Int))) g (clOf acc) ∧ w.heap.size ≤ g ∧ Ary 137 (w'.setCell ⟨g, j, none⟩ (.int .i64 (x : Int))) q rowZ) := by
            refine (number_some hS1 3 x L5 (by omega) h4).mono ?_
            rintro e w' ⟨rfl, hS6, hk⟩
            have hgl : g < wr.drew.heap.size := hB.lt
            have hB6 : Blk w' g (clOf acc) := hB.kept (S := fun k => k = r) (⟨hk.only.os, hk.only.tape, hk.only.output, hk.only.size, hk.only.block⟩ : Keeps (fun k => k = r) wr w') hgr
            have hk7 : Keeps (fun k => k = g) w' (w'.setCell ⟨g, j, none⟩ (.int .i64 (x : Int))) := (Keeps.refl (fun k => k = g) w').setCell (p := ⟨g, j, none⟩) (fun _ => rfl) _
            have hR7 : Rdv w (w'.setCell ⟨g, j, none⟩ (.int .i64 (x : Int))) b r v := ⟨((hA.only.drew).trans hk.only (fun _ _ e => e)).trans hk7 (fun k hh e => by omega)⟩
            obtain ⟨p, p1, p2, p3⟩ := hS6.rd
            have hS7 := (HS0.out.read (p := p) ⟨p1.kept hk7 (fun e => hgr e.symm), hR7.only⟩ p2).1
            rw [← p3] at hS7
            refine ⟨rfl, ?_, ?_, ?_, acc ++ [(x : Int)], L5, by simp [hlen], by rw [← hE2, bnd_eq h4], hS7, hR7, ?_, hg, (hQ.kept (S := fun k => k = r) (⟨hk.only.os, hk.only.tape, hk.only.output, hk.only.size, hk.only.block⟩ : Keeps (fun k => k = r) wr w') hr0).kept hk7 HQ.out.2⟩
            · rw [World.cell?_of_block (hk.only.block q hql hr0)]; exact hrow
            · exact ⟨_, hB6.cell j (by rw [clOf_length]; exact hj19)⟩
            · exact hB6.free j
            · rw [← clOf_set acc (x : Int) (by omega), hlen, hj]
              exact Blk.set hB6 j (x : Int)
          clear hE hE2 hS hA hB hS1 hlen h4 hQ
          go_wp2
          go_region_with (go_at_call 45; refine HC.out.mono ?_; rintro e w5 ⟨rfl, d1, ⟨u, d2⟩, d3, hk5⟩; have H5 : Hid (∃ acc L4, acc.length = i + 1 ∧ threes (c - (i + 1)) acc L4 = R3 ∧ St (w5.setCell ⟨g, j, none⟩ (.int .i64 (x : Int))) b r v s most L4 xs ∧ Rdv w (w5.setCell ⟨g, j, none⟩ (.int .i64 (x : Int))) b r v ∧ Blk (w5.setCell ⟨g, j, none⟩ (.int .i64 (x : Int))) g (clOf acc) ∧ w.heap.size ≤ g ∧ Ary 137 (w5.setCell ⟨g, j, none⟩ (.int .i64 (x : Int))) q rowZ) := hk5; clear hk5)
          all_goals
            clear HC hrow d1 d2 d3
            go_wp2
            go_roundw
            case rel => exact ⟨i + 1, by omega, by push_cast; rfl, H5⟩
            case measure => simp [intOf]; omega
      · obtain rfl : i = c := by omega
        obtain ⟨acc, L4, hlen, hE, hS, hA, hB, hg, hQ⟩ := HW.out
        rw [Nat.sub_self] at hE
        have e3 : R3 = some (acc, L4) := hE.symm
        have HR2 : Hid (R = if errC (clOf acc) = 0 then some (clOf acc, L4) else none) := by rw [HR.out, e3]; exact rfl
        have hrow : Row wr (some ⟨g, 0, none⟩) (clOf acc) := .inr ⟨g, 0, rfl, hB.lt, fun q hq => by rw [Nat.zero_add]; exact hB.cell q hq⟩
        have HC1 : Hid (Calls Try.prog 84 #[.slice (some ⟨g, 0, none⟩) 19 19] wr fun e w' => e = .returned (.int .i64 (errC (clOf acc))) ∧ Keeps (fun _ => False) wr w') := by
          have := check_ok (some ⟨g, 0, none⟩) (clOf acc) 19 wr hrow (by rw [clOf_length]; omega)
          rw [clOf_length] at this; exact this
        have HC2 : Hid (fits (clOf acc) = true → ∀ w', Keeps (fun _ => False) wr w' → Calls Try.prog 69 #[.slice (some ⟨g, 0, none⟩) 19 19] w' fun e w'' => ∃ f, e = .returned (.pointer (some ⟨f, 0, none⟩)) ∧ Keeps (fun _ => False) w' w'' ∧ Fnd w'' w'.heap.size w''.heap.size f (clOf acc)) := fun hf w' hk => by
          have := finderOf_ok (some ⟨g, 0, none⟩) (clOf acc) 19 w' (hrow.keptF hk) hf
          rw [clOf_length] at this; exact this
        have HF : Hid (errC (clOf acc) = 0 → fits (clOf acc) = true) := fun e => by
          have := errC_zero e
          unfold fits; rw [this.1, this.2]; rfl
        have HS : Hid (St wr b r v s most L4 xs ∧ Rdv w wr b r v) := ⟨hS, hA⟩
        clear HW hlen hE hS hA hB hg e3 HR hrow hQ HQ
        obtain ⟨er, her⟩ : ∃ er, errC (clOf acc) = er := ⟨_, rfl⟩
        rw [her] at HR2 HC1 HF
        generalize clOf acc = ys at *
        clear her
        go_wp2_with fail
        refine HC1.out.mono ?_
        rintro e w4 ⟨rfl, hK4⟩
        have HK4 : Hid (Keeps (fun _ => False) wr w4) := hK4
        clear hK4 HC1
        by_cases h0 : er = 0
        · subst h0
          have e : R = some (ys, L4) := by rw [HR2.out, if_pos rfl]
          subst e
          go_wp2_with fail
          refine (HC2.out (HF.out (by first | rfl | trivial)) w4 HK4.out).mono ?_
          rintro e w5 ⟨f, rfl, hK5, hF5⟩
          have HP : Hid (FinPost (some (ys, L4)) w b r v s most xs (.returned (.tuple #[.pointer (some ⟨f, 0, none⟩), .int .i64 0])) w5) := by
            have k45 : Keeps (fun _ => False) wr w5 := HK4.out.trans hK5 (fun _ _ h => h)
            refine ⟨fun e => by (cases e), fun _ _ e => by
              cases e
              exact ⟨f, rfl, hF5.wider (by have := HS.out.2.only.size; have := HK4.out.size; omega) (Nat.le_refl _) (Nat.le_refl _), HS.out.1.keptF k45, HS.out.2.trans (Rdv.ofF b r v k45)⟩⟩
          clear hK5 hF5 HC2
          go_wp2
          go_ret2
          exact HP.out
        · have e : R = none := by rw [HR2.out, if_neg h0]
          subst e
          have hnb : (er == 0) = false := by simp; exact h0
          have HK : Hid (Keeps (Own3 b r v) w w4) := HS.out.2.lost (HK4.out.mono (fun _ _ h => h.elim))
          clear HC2
          go_wp2
          go_ret2
          exact FinPost.noneI HK.out

end Go.Proofs.Ytfbghchgfbjogaa

namespace Go.Proofs.Ytfbghchgfbjogaa
open Go.RowKit
open Hf Tb
set_option linter.unusedVariables false
set_option linter.unusedSimpArgs false

def inR (l : List Int) : Prop := ∀ z ∈ l, 0 ≤ z ∧ z ≤ 15
theorem inR_at {l : List Int} (h : inR l) (i : Nat) : 0 ≤ at_ l i ∧ at_ l i ≤ 15 := by
  unfold at_
  by_cases hi : i < l.length
  · rw [List.getD_eq_getElem?_getD, List.getElem?_eq_getElem hi]; exact h _ (List.getElem_mem hi)
  · rw [List.getD_eq_getElem?_getD, List.getElem?_eq_none (by omega)]; simp
theorem inR_rep (m : Nat) (y : Int) (h : 0 ≤ y ∧ y ≤ 15) : inR (List.replicate m y) := fun z hz => by rw [(List.mem_replicate.1 hz).2]; exact h
theorem rle_in {i : Nat} {out r : List Int} {L L' : Bts} (hi : i < 19) (ho : inR out) (h : rle i out L = some (r, L')) : inR r := by
  unfold rle at h
  split at h
  · split at h
    · simp [noL] at h
    · obtain ⟨m, L1, h1, h2⟩ := bnd_some h
      simp [retL] at h2
      rw [← h2.1]; exact inR_rep _ _ (inR_at ho _)
  · split at h
    · obtain ⟨m, L1, h1, h2⟩ := bnd_some h
      simp [retL] at h2
      rw [← h2.1]; exact inR_rep _ _ (by decide)
    · split at h
      · obtain ⟨m, L1, h1, h2⟩ := bnd_some h
        simp [retL] at h2
        rw [← h2.1]; exact inR_rep _ _ (by decide)
      · simp [retL] at h; rw [← h.1]
        intro z hz
        rw [List.mem_singleton] at hz
        omega
theorem runsF_in (ys : List Int) (hy : ys.length ≤ 19) (many : Nat) : ∀ (n : Nat) (out : List Int) (L : Bts) (all : List Int) (L' : Bts), inR out → runsF ys many n out L = some (all, L') → inR all
  | 0, _, _, _, _, _, h => by simp [runsF, noL] at h
  | n + 1, out, L, all, L', ho, h => by
    rw [runsF] at h
    split at h
    · obtain ⟨i, L1, h1, h2⟩ := bnd_some h
      obtain ⟨r, L2, h3, h4⟩ := bnd_some h2
      have h5 := rle_in (by have := symN_small h1; omega) ho h3
      refine runsF_in ys hy many n _ _ _ _ (fun z hz => ?_) h4
      rcases List.mem_append.1 hz with hz | hz
      · exact ho z hz
      · exact h5 z hz
    · split at h
      · simp [retL] at h; rw [← h.1]; exact ho
      · simp [noL] at h
theorem runs_in {ys : List Int} (hy : ys.length ≤ 19) {many : Nat} {L L' : Bts} {all : List Int} (h : runs ys many [] L = some (all, L')) : inR all :=
  runsF_in ys hy many _ [] L all L' (fun z hz => by cases hz) h
theorem inR_may {l : List Int} (h : inR l) (h1 : 1 ≤ l.length) (h2 : l.length ≤ 288) : may l = true := by
  unfold may
  rw [decide_eq_true h1, decide_eq_true h2, Bool.true_and, Bool.true_and, List.all_eq_true]
  intro z hz
  have := h z hz
  unfold fine
  rw [decide_eq_true this.1, decide_eq_true this.2]; rfl
theorem cnt_sum (k : Nat) : ∀ l : List Int, inR l → 0 ≤ l.sum ∧ (k : Int) * (cnt l k : Int) ≤ l.sum
  | [], _ => by simp [cnt]
  | y :: r, h => by
    have h1 := cnt_sum k r (fun z hz => h z (List.mem_cons_of_mem _ hz))
    have h2 := h y (List.mem_cons_self ..)
    unfold cnt at *
    rw [List.sum_cons]
    by_cases e : y = (k : Int)
    · rw [List.countP_cons_of_pos (by simpa using e)]
      push_cast
      rw [Int.mul_add]
      omega
    · rw [List.countP_cons_of_neg (by simpa using e)]
      omega
theorem sparse_fits {l : List Int} (h : inR l) (h1 : 1 ≤ l.length) (h2 : l.length ≤ 288) (hs : l.sum ≤ 1) : fits l = true := by
  unfold fits
  rw [inR_may h h1 h2, Bool.true_and]
  have c : ∀ k : Nat, 2 ≤ k → cn l k = 0 := fun k hk => by
    have := (cnt_sum k l h).2
    unfold cn
    rw [if_neg (by omega)]
    rcases Nat.eq_zero_or_pos (cnt l k) with e | e
    · exact e
    · exfalso
      have : (k : Int) * 1 ≤ (k : Int) * (cnt l k : Int) := Int.mul_le_mul_of_nonneg_left (by omega) (by omega)
      omega
  have c1 : cn l 1 ≤ 1 := by
    have := (cnt_sum 1 l h).2
    unfold cn; rw [if_neg (by omega)]; omega
  have c0 : cn l 0 = 0 := rfl
  have : room l ≤ 32768 := by
    unfold room
    simp only [sumTo]
    rw [c0, c 2 (by omega), c 3 (by omega), c 4 (by omega), c 5 (by omega), c 6 (by omega), c 7 (by omega), c 8 (by omega), c 9 (by omega), c 10 (by omega), c 11 (by omega), c 12 (by omega), c 13 (by omega), c 14 (by omega), c 15 (by omega)]
    omega
  exact decide_eq_true this
theorem full_fits {l : List Int} (h : errC l = 0) : fits l = true := by
  have := errC_zero h
  unfold fits; rw [this.1, this.2]; rfl
theorem mayB_fits {l : List Int} (h : mayB l = true) : fits l = true := by
  unfold mayB at h
  rw [Bool.and_eq_true, decide_eq_true_eq] at h
  exact full_fits h.1
theorem mayD_fits {l : List Int} (hr : inR l) (h1 : 1 ≤ l.length) (h2 : l.length ≤ 288) (h : mayD l = true) : fits l = true := by
  unfold mayD at h
  rw [Bool.or_eq_true, decide_eq_true_eq, decide_eq_true_eq] at h
  rcases h with h | h
  · exact sparse_fits hr h1 h2 h
  · exact full_fits h

/-- What lengths leaves. -/
def LenPost (R : Option ((List Int × List Int) × Bts)) (w : World) (b r : Nat) (v : Value) (s : ByteArray) (most : Nat) (xs : List Nat) (e : Ending) (w' : World) : Prop :=
  (R = none → e = .returned (.tuple #[.slice none 0 0, .slice none 0 0, .int .i64 700]) ∧ Keeps (Own3 b r v) w w') ∧
  ∀ xy L', R = some (xy, L') → ∃ a1 c1 a2 c2, e = .returned (.tuple #[.slice a1 xy.1.length c1, .slice a2 xy.2.length c2, .int .i64 0]) ∧ Row w' a1 xy.1 ∧ Row w' a2 xy.2 ∧ fits xy.1 = true ∧ fits xy.2 = true ∧ St w' b r v s most L' xs ∧ Rdv w w' b r v
theorem LenPost.noneI {w : World} {b r : Nat} {v : Value} {s : ByteArray} {most : Nat} {xs : List Nat} {w' : World} (h : Keeps (Own3 b r v) w w') : LenPost none w b r v s most xs (.returned (.tuple #[.slice none 0 0, .slice none 0 0, .int .i64 700])) w' :=
  ⟨fun _ => ⟨rfl, h⟩, fun _ _ e => by cases e⟩
theorem St.awayNew {w : World} {b r : Nat} {v : Value} {s : ByteArray} {most : Nat} {L : Bts} {xs : List Nat} (h : St w b r v s most L xs) (lo hi : Nat) (hl : w.heap.size ≤ lo) : Away lo hi b r v :=
  ⟨.inl (by have := h.lt; omega), .inl (by have := h.lt; have := h.rb; omega), fun k e => .inl (by have := (h.ownlt k e).2; omega)⟩

set_option maxHeartbeats 4000000 in
set_option maxRecDepth 100000 in
theorem lengths_ok7 {w : World} {b r : Nat} {v : Value} {s : ByteArray} {most : Nat} {L : Bts} {xs : List Nat} (h : St w b r v s most L xs) :
    Calls Try.prog 63 #[.pointer (some ⟨b, 0, none⟩)] w (LenPost (dynH L) w b r v s most xs) := by
  obtain ⟨R, hR⟩ : ∃ R, dynH L = R := ⟨_, rfl⟩
  rw [hR]
  unfold dynH at hR
  have HS : Hid (St w b r v s most L xs) := h
  rcases h1 : aboveL 257 5 L with _ | ⟨a, L1⟩
  · have e : R = none := by rw [← hR, bnd_none h1]
    subst e
    have HC : Hid (Calls Try.prog 72 #[.pointer (some ⟨b, 0, none⟩), .int .i64 257, .int .i64 5] w fun e w' => e = .returned (.tuple #[.int .i64 0, .int .i64 700]) ∧ Keeps (Own3 b r v) w w') := above_none h 257 5 (by omega) h1
    clear h h1 hR
    go_enter Try.func63, Try.ntmps63
    go_wp2_with fail
    refine HC.out.mono ?_
    rintro e w2 ⟨rfl, hk⟩
    have HK : Hid (Keeps (Own3 b r v) w w2) := hk
    clear hk HC
    go_wp2
    go_ret3
    exact LenPost.noneI HK.out
  · rw [bnd_eq h1] at hR
    have HR1 : Hid (bnd (aboveL 1 5) (fun b => if 286 < a ∨ 30 < b then noL else bnd (aboveL 4 4) fun c => bnd (threes c []) fun t => dynC a b t) L1 = R) := hR
    have HC : Hid (Calls Try.prog 72 #[.pointer (some ⟨b, 0, none⟩), .int .i64 257, .int .i64 5] w fun e w' => e = .returned (.tuple #[.int .i64 (a : Int), .int .i64 0]) ∧ St w' b r v s most L1 xs ∧ Rdv w w' b r v) := above_some h 257 5 a L1 (by omega) (by omega) h1
    have ha : 257 ≤ a ∧ a ≤ 288 := by
      obtain ⟨q, hq, rfl⟩ := aboveL_some h1
      have h2 := getL_lt hq
      omega
    clear h h1 hR
    go_enter Try.func63, Try.ntmps63
    go_wp2_with fail
    refine HC.out.mono ?_
    rintro e w1 ⟨rfl, hS1, hA1⟩
    have H1 : Hid (St w1 b r v s most L1 xs ∧ Rdv w w1 b r v) := ⟨hS1, hA1⟩
    clear hS1 hA1 HC
    rcases h2 : aboveL 1 5 L1 with _ | ⟨d, L2⟩
    · have e : R = none := by rw [← HR1.out, bnd_none h2]
      subst e
      have HC : Hid (Calls Try.prog 72 #[.pointer (some ⟨b, 0, none⟩), .int .i64 1, .int .i64 5] w1 fun e w' => e = .returned (.tuple #[.int .i64 0, .int .i64 700]) ∧ Keeps (Own3 b r v) w1 w') := above_none H1.out.1 1 5 (by omega) h2
      clear h2 HR1
      go_wp2_with fail
      refine HC.out.mono ?_
      rintro e w2 ⟨rfl, hk⟩
      have HK : Hid (Keeps (Own3 b r v) w w2) := H1.out.2.lost hk
      clear hk HC
      go_wp2
      go_ret3
      exact LenPost.noneI HK.out
    · have HR2 : Hid ((if 286 < a ∨ 30 < d then noL else bnd (aboveL 4 4) fun c => bnd (threes c []) fun t => dynC a d t) L2 = R) := by
        have := HR1.out; rw [bnd_eq h2] at this; exact this
      have HC : Hid (Calls Try.prog 72 #[.pointer (some ⟨b, 0, none⟩), .int .i64 1, .int .i64 5] w1 fun e w' => e = .returned (.tuple #[.int .i64 (d : Int), .int .i64 0]) ∧ St w' b r v s most L2 xs ∧ Rdv w1 w' b r v) := above_some H1.out.1 1 5 d L2 (by omega) (by omega) h2
      have hd : 1 ≤ d ∧ d ≤ 32 := by
        obtain ⟨q, hq, rfl⟩ := aboveL_some h2
        have h3 := getL_lt hq
        omega
      clear h2 HR1
      go_wp2_with fail
      refine HC.out.mono ?_
      rintro e w2 ⟨rfl, hS2, hA2⟩
      have H2 : Hid (St w2 b r v s most L2 xs ∧ Rdv w w2 b r v) := ⟨hS2, H1.out.2.trans hA2⟩
      clear hS2 hA2 HC H1
      by_cases hbig : 286 < a ∨ 30 < d
      · have e : R = none := by have := HR2.out; rw [if_pos hbig] at this; exact this.symm
        subst e
        clear HR2
        by_cases hb1 : 286 < a
        · have hbz : 286 < (a : Int) := by omega
          go_wp2
          go_ret3
          exact LenPost.noneI H2.out.2.keep
        · have hbz : ¬ 286 < (a : Int) := by omega
          have hdz : 30 < (d : Int) := by omega
          go_wp2
          go_ret3
          exact LenPost.noneI H2.out.2.keep
      · have hbz : ¬ 286 < (a : Int) := by omega
        have hdz : ¬ 30 < (d : Int) := by omega
        have HR3 : Hid (bnd lfP (fun ys => bnd (runs ys (a + d) []) fun all => dynP a all) L2 = R) := by
          have := HR2.out; rw [if_neg hbig, lfP_dyn] at this; exact this
        have HC : Hid (Calls Try.prog 73 #[.pointer (some ⟨b, 0, none⟩)] w2 (FinPost (lfP L2) w2 b r v s most xs)) := lengthFinder_ok H2.out.1
        clear HR2 hbig
        go_wp2_with fail
        refine HC.out.mono ?_
        intro e w3 hP
        clear HC
        rcases h3 : lfP L2 with _ | ⟨ys, L3⟩
        · obtain ⟨rfl, hk⟩ := hP.1 h3
          have HK : Hid (Keeps (Own3 b r v) w w3) := H2.out.2.lost hk
          have e : R = none := by rw [← HR3.out, bnd_none h3]
          subst e
          clear hP h3 hk
          go_wp2
          go_ret3
          exact LenPost.noneI HK.out
        · obtain ⟨f, rfl, hF3, hS3, hA3⟩ := hP.2 ys L3 h3
          have hyl : ys.length = 19 := by
            unfold lfP at h3
            obtain ⟨c, L5, h5, h6⟩ := bnd_some h3
            obtain ⟨t, L6, h7, h8⟩ := bnd_some h6
            split at h8
            · simp [retL] at h8; rw [← h8.1]; exact clOf_length t
            · simp [noL] at h8
          have H3 : Hid (St w3 b r v s most L3 xs ∧ Rdv w w3 b r v ∧ bnd (runs ys (a + d) []) (fun all => dynP a all) L3 = R ∧ ys.length = 19) := ⟨hS3, H2.out.2.trans hA3, by rw [← HR3.out, bnd_eq h3], hyl⟩
          have HC : Hid (Calls Try.prog 74 #[.pointer (some ⟨b, 0, none⟩), .pointer (some ⟨f, 0, none⟩), .int .i64 ((a : Int) + (d : Int))] w3 (RowPost (runs ys (a + d) [] L3) w3 b r v s most xs)) := by
            have := runs_ok hS3 hF3 (H2.out.1.awayNew _ _ (Nat.le_refl _)) (by omega) (a + d) (by omega)
            rw [show ((a + d : Nat) : Int) = (a : Int) + (d : Int) by push_cast; rfl] at this
            exact this
          clear hP h3 hF3 hS3 hA3 HR3 H2 hyl
          go_wp2_with fail
          refine HC.out.mono ?_
          intro e w4 hP
          clear HC
          rcases h4 : runs ys (a + d) [] L3 with _ | ⟨all, L4⟩
          · obtain ⟨rfl, hk⟩ := hP.1 h4
            have HK : Hid (Keeps (Own3 b r v) w w4) := H3.out.2.1.lost hk
            have e : R = none := by rw [← H3.out.2.2.1, bnd_none h4]
            subst e
            clear hP h4 hk
            go_wp2
            go_ret3
            exact LenPost.noneI HK.out
          · obtain ⟨u, rfl, hO4, hS4, hA4⟩ := hP.2 all L4 h4
            obtain ⟨ad, cap, rfl, hrow, hcap, _⟩ := own_row hO4
            have hal := (runs_len h4).2
            have hin := runs_in (by rw [H3.out.2.2.2]; omega) h4
            obtain ⟨g, off, hgo, hgl, hcell⟩ := hrow.spot (by omega)
            obtain rfl := hgo
            have hx1 : (all.take a).length = a := by rw [List.length_take]; omega
            have hx2 : (all.drop a).length = d := by rw [List.length_drop]; omega
            have hoff : off = 0 := by
              rcases hO4.2 with ⟨e, _⟩ | ⟨g', c', cur, e, _⟩
              · cases e
              · cases e; rfl
            subst hoff
            have hr1 : Row w4 (some ⟨g, 0, none⟩) (all.take a) := .inr ⟨g, 0, rfl, hgl, fun i hi => by
              rw [List.getElem_take]; exact hcell i (by omega)⟩
            have hr2 : Row w4 (some ⟨g, a, none⟩) (all.drop a) := .inr ⟨g, a, rfl, hgl, fun i hi => by
              rw [List.getElem_drop]; have := hcell (a + i) (by omega); rw [Nat.zero_add] at this; exact this⟩
            have hin1 : inR (all.take a) := fun z hz => hin z (List.mem_of_mem_take hz)
            have hin2 : inR (all.drop a) := fun z hz => hin z (List.mem_of_mem_drop hz)
            have H4 : Hid (St w4 b r v s most L4 xs ∧ Rdv w w4 b r v ∧ dynP a all L4 = R) := ⟨hS4, H3.out.2.1.trans hA4, by rw [← H3.out.2.2.1, bnd_eq h4]⟩
            rw [hal] at hcap
            rw [hal]
            have HC1 : Hid (∀ w', Keeps (fun _ => False) w4 w' → Calls Try.prog 75 #[.slice (some ⟨g, 0, none⟩) a cap] w' fun e w'' => e = .returned (.bool (mayB (all.take a))) ∧ Keeps (fun _ => False) w' w'') := fun w' hk => by
              have := mayTellBytes_ok (some ⟨g, 0, none⟩) (all.take a) cap w' (hr1.keptF hk) (by omega) (by omega)
              rw [hx1] at this; exact this
            have HC2 : Hid (∀ w', Keeps (fun _ => False) w4 w' → Calls Try.prog 76 #[.slice (some ⟨g, a, none⟩) d (cap - a)] w' fun e w'' => e = .returned (.bool (mayD (all.drop a))) ∧ Keeps (fun _ => False) w' w'') := fun w' hk => by
              have := mayTellDists_ok (some ⟨g, a, none⟩) (all.drop a) (cap - a) w' (hr2.keptF hk) (by omega) (fun i hi => hin2 _ (List.getElem_mem hi))
              rw [hx2] at this; exact this
            have HX : Hid ((all.take a).length = a ∧ (all.drop a).length = d ∧ Row w4 (some ⟨g, 0, none⟩) (all.take a) ∧ Row w4 (some ⟨g, a, none⟩) (all.drop a) ∧ inR (all.take a) ∧ inR (all.drop a)) := ⟨hx1, hx2, hr1, hr2, hin1, hin2⟩
            have hca : ¬ (cap = a) := by omega
            have hn1 : (a : Int) ≤ ((a + d : Nat) : Int) := by omega
            have hn2 : (a : Int) ≤ (cap : Int) := by omega
            have hn3 : ((a + d : Nat) : Int) ≤ (cap : Int) := by omega
            have hn4 : a + d - a = d := by omega
            clear hP h4 hO4 hS4 hA4 hrow hal hin hgl hcell hx1 hx2 hr1 hr2 hin1 hin2 H3
            obtain ⟨x, hx⟩ : ∃ x, all.take a = x := ⟨_, rfl⟩
            obtain ⟨y, hy⟩ : ∃ y, all.drop a = y := ⟨_, rfl⟩
            have HR5 : Hid (R = if mayB x && mayD y then some ((x, y), L4) else none) := by
              show R = _
              rw [← H4.out.2.2, ← hx, ← hy]
              unfold dynP
              split <;> rfl
            rw [hx, hy] at HX
            rw [hx] at HC1
            rw [hy] at HC2
            clear hx hy
            obtain ⟨p, hp⟩ : ∃ p, mayB x = p := ⟨_, rfl⟩
            obtain ⟨q, hq⟩ : ∃ q, mayD y = q := ⟨_, rfl⟩
            have HPQ : Hid (mayB x = p ∧ mayD y = q) := ⟨hp, hq⟩
            rw [hp] at HC1 HR5
            rw [hq] at HC2 HR5
            clear hp hq
            go_wp2
            go_quiet (fail)
            go_wp2_with fail
            refine (HC1.out (w4.drewN nq) ((Keeps.refl _ w4).drewN nq)).mono ?_
            rintro e w5 ⟨rfl, hK5⟩
            have HK5 : Hid (Keeps (fun _ => False) w4 w5) := ((Keeps.refl _ w4).drewN nq).trans hK5 (fun _ _ h => h)
            clear hK5 HC1
            cases p
            · have e : R = none := by rw [HR5.out]; rfl
              subst e
              have HK : Hid (Keeps (Own3 b r v) w w5) := H4.out.2.1.lost (HK5.out.mono (fun _ _ h => h.elim))
              clear HC2
              go_wp2
              go_ret3
              exact LenPost.noneI HK.out
            · go_wp2_with fail
              refine (HC2.out w5 HK5.out).mono ?_
              rintro e w6 ⟨rfl, hK6⟩
              have HK6 : Hid (Keeps (fun _ => False) w4 w6) := HK5.out.trans hK6 (fun _ _ h => h)
              clear hK6 HC2
              cases q
              · have e : R = none := by rw [HR5.out]; rfl
                subst e
                have HK : Hid (Keeps (Own3 b r v) w w6) := H4.out.2.1.lost (HK6.out.mono (fun _ _ h => h.elim))
                go_wp2
                go_ret3
                exact LenPost.noneI HK.out
              · have e : R = some ((x, y), L4) := by rw [HR5.out]; rfl
                subst e
                have HP : Hid (LenPost (some ((x, y), L4)) w b r v s most xs (.returned (.tuple #[.slice (some ⟨g, 0, none⟩) a cap, .slice (some ⟨g, a, none⟩) d (cap - a), .int .i64 0])) w6) := by
                  obtain ⟨x1, x2, r1, r2, i1, i2⟩ := HX.out
                  refine ⟨fun e => by (cases e), fun _ _ e => ?_⟩
                  cases e
                  exact ⟨_, cap, _, cap - a, by simp only [x1, x2], r1.keptF HK6.out, r2.keptF HK6.out, mayB_fits HPQ.out.1, mayD_fits i2 (show 1 ≤ y.length by omega) (show y.length ≤ 288 by omega) HPQ.out.2, H4.out.1.keptF HK6.out, H4.out.2.1.trans (Rdv.ofF b r v HK6.out)⟩
                go_wp2
                go_ret3
                exact HP.out

end Go.Proofs.Ytfbghchgfbjogaa

namespace Go.Proofs.Ytfbghchgfbjogaa
open Go.RowKit
open Hf Tb
set_option linter.unusedVariables false
set_option linter.unusedSimpArgs false

theorem fixLs_length : fixLs.length = 288 := fixL_length
theorem fix_fits : fits fixLs = true := by decide +kernel
theorem five_fits : fits fiveLs = true := by decide +kernel
theorem St.setFix {w : World} {b r : Nat} {v : Value} {s : ByteArray} {most : Nat} {L : Bts} {xs : List Nat} (h : St w b r v s most L xs) (q lo hi : Nat) (hB : Book w lo hi q fixLs fiveLs) (hA : Away lo hi b r v) :
    St (w.setCell ⟨b, 3, none⟩ (.pointer (some ⟨q, 0, none⟩))) b r v s most L xs ∧ Adv w (w.setCell ⟨b, 3, none⟩ (.pointer (some ⟨q, 0, none⟩))) b r v v := by
  have hk : Keeps (fun k => k = b) w (w.setCell ⟨b, 3, none⟩ (.pointer (some ⟨q, 0, none⟩))) := (Keeps.refl (fun k => k = b) w).setCell (p := ⟨b, 3, none⟩) (fun _ => rfl) _
  have ha : Adv w (w.setCell ⟨b, 3, none⟩ (.pointer (some ⟨q, 0, none⟩))) b r v v := ⟨hk.mono (fun _ _ e => .inl e), .inl rfl⟩
  obtain ⟨u, h1, h2⟩ := h.blk
  obtain ⟨p, p1, p2, p3⟩ := h.rd
  have hrb := h.rb
  refine ⟨⟨⟨_, ?_, .inr ⟨q, lo, hi, rfl, hB.kept ha.keep hA.not, hA⟩⟩, ⟨p, p1.kept hk (by omega), p2, p3⟩, h.own.kept hk (fun k e e2 => by have := (h.ownlt k e).1; omega), h.rb, h.sz, h.lim, h.most, h.byt⟩, ha⟩
  rw [heap_setCell_same h1]; rfl

set_option maxHeartbeats 4000000 in
set_option maxRecDepth 100000 in
theorem fixedBook_ok {w : World} {b r : Nat} {v : Value} {s : ByteArray} {most : Nat} {L : Bts} {xs : List Nat} (h : St w b r v s most L xs) :
    Calls Try.prog 53 #[.pointer (some ⟨b, 0, none⟩)] w fun e w' => ∃ q lo hi, e = .returned (.pointer (some ⟨q, 0, none⟩)) ∧ Book w' lo hi q fixLs fiveLs ∧ Away lo hi b r v ∧ St w' b r v s most L xs ∧ Adv w w' b r v v := by
  obtain ⟨u, h1, h2⟩ := h.blk
  have hc3 : w.cell? ⟨b, 3, none⟩ = some u := cell_of_heap h1 rfl
  rcases h2 with rfl | ⟨q, lo, hi, rfl, hB, hA⟩
  · have hf3 := h.free 3
    have HS : Hid (St w b r v s most L xs) := h
    have hbl := h.lt
    have HC1 : Hid (Calls Try.prog 61 #[] w fun e w' => ∃ v, e = .returned v ∧ Own w' w.heap.size v fixLs ∧ Keeps (fun _ => False) w w') := fixed_ok w
    clear h h1
    go_enter Try.func53, Try.ntmps53
    go_wp2_with fail
    refine HC1.out.mono ?_
    rintro e w2 ⟨u2, rfl, hO2, hK2⟩
    obtain ⟨a, cap, rfl, hrow, _, _⟩ := own_row hO2
    rw [fixLs_length]
    have H2 : Hid (Keeps (fun _ => False) w w2 ∧ Row w2 a fixLs) := ⟨hK2, hrow⟩
    clear HC1 hO2 hK2 hrow
    have HC2 : Hid (Calls Try.prog 62 #[] w2 fun e w' => ∃ g, e = .returned (.slice (some ⟨g, 0, none⟩) 30 30) ∧ Keeps (fun _ => False) w2 w' ∧ w2.heap.size ≤ g ∧ Blk w' g (List.replicate 30 5)) := fixedDists_ok w2
    go_wp2_with fail
    refine HC2.out.mono ?_
    rintro e w3 ⟨g, rfl, hK3, hg3, hB3⟩
    have k23 : Keeps (fun _ => False) w2 w3 := hK3
    have hrow3 : Row w3 (some ⟨g, 0, none⟩) fiveLs := .inr ⟨g, 0, rfl, hB3.lt, fun q hq => by rw [Nat.zero_add]; exact hB3.cell q hq⟩
    have HC3 : Hid (Calls Try.prog 60 #[.slice a 288 cap, .slice (some ⟨g, 0, none⟩) 30 30] w3 fun e w' => ∃ q, e = .returned (.pointer (some ⟨q, 0, none⟩)) ∧ Keeps (fun _ => False) w3 w' ∧ Book w' w3.heap.size w'.heap.size q fixLs fiveLs) := by
      have := bookOf_ok a (some ⟨g, 0, none⟩) fixLs fiveLs cap 30 w3 (H2.out.2.keptF k23) fix_fits hrow3 five_fits
      rw [fixLs_length] at this; exact this
    have H3 : Hid (Keeps (fun _ => False) w w3) := H2.out.1.trans k23 (fun _ _ h => h)
    clear HC2 H2 hK3 hg3 hB3 k23 hrow3
    go_wp2_with fail
    refine HC3.out.mono ?_
    rintro e w4 ⟨q, rfl, hK4, hB4⟩
    have H4 : Hid (Keeps (fun _ => False) w w4 ∧ Book w4 w3.heap.size w4.heap.size q fixLs fiveLs ∧ w.heap.size ≤ w3.heap.size) := ⟨H3.out.trans hK4 (fun _ _ h => h), hB4, H3.out.size⟩
    have k4 : w4.cell? ⟨b, 3, none⟩ = some (.pointer none) := (World.cell?_of_block (H4.out.1.block b hbl (fun h => h))).trans hc3
    have f4 : w4.frozen? ⟨b, 3, none⟩ = false := (World.frozen?_of_block (H4.out.1.block b hbl (fun h => h))).trans hf3
    clear HC3 hK4 hB4 hc3 hf3
    go_wp2
    go_ret
    have hA : Away w3.heap.size w4.heap.size b r v := HS.out.awayNew _ _ H4.out.2.2
    have hS4 := HS.out.keptF H4.out.1
    have h5 := hS4.setFix q _ _ H4.out.2.1 hA
    exact ⟨q, _, _, rfl, H4.out.2.1.kept h5.2.keep hA.not, hA, h5.1, (Adv.ofF b r v H4.out.1).trans h5.2⟩
  · have HP : Hid (Book w lo hi q fixLs fiveLs ∧ Away lo hi b r v ∧ St w b r v s most L xs) := ⟨hB, hA, h⟩
    clear hB hA h h1
    go_enter Try.func53, Try.ntmps53
    go_wp2
    go_ret
    exact ⟨q, lo, hi, rfl, HP.out.1, HP.out.2.1, HP.out.2.2, Adv.refl _ _ _ _⟩

set_option maxHeartbeats 2000000 in
set_option maxRecDepth 100000 in
theorem dynamic_ok {w : World} {b r : Nat} {v : Value} {s : ByteArray} {most : Nat} {L : Bts} {xs : List Nat} (h : St w b r v s most L xs) :
    Calls Try.prog 54 #[.pointer (some ⟨b, 0, none⟩)] w (RsPost (thenE dynH (fun xy => coded xy.1 xy.2 most) L xs) w b r v s most) := by
  obtain ⟨R, hR⟩ : ∃ R, thenE dynH (fun xy => coded xy.1 xy.2 most) L xs = R := ⟨_, rfl⟩
  rw [hR]
  have HR : Hid (thenE dynH (fun xy => coded xy.1 xy.2 most) L xs = R) := hR
  have HC : Hid (Calls Try.prog 63 #[.pointer (some ⟨b, 0, none⟩)] w (LenPost (dynH L) w b r v s most xs)) := lengths_ok7 h
  clear h hR
  go_enter Try.func54, Try.ntmps54
  go_wp2_with fail
  refine HC.out.mono ?_
  intro e w2 hP
  clear HC
  rcases h1 : dynH L with _ | ⟨xy, L1⟩
  · obtain ⟨rfl, hk⟩ := hP.1 h1
    have HK : Hid (Keeps (Own3 b r v) w w2) := hk
    have e : R = .error 700 := by rw [← HR.out, thenE_none h1]
    subst e
    clear hP h1 hk
    go_wp2
    go_ret
    exact RsPost.bad HK.out
  · obtain ⟨a1, c1, a2, c2, rfl, hr1, hr2, hf1, hf2, hS2, hA2⟩ := hP.2 xy L1 h1
    obtain ⟨x, y⟩ := xy
    simp only at hr1 hr2 hf1 hf2
    have hxl : x.length ≤ 288 := (may_len (fits_true hf1).1).2
    have HR2 : Hid (coded x y most L1 xs = R) := by
      have := HR.out; rw [thenE_eq h1] at this; exact this
    have HC2 : Hid (Calls Try.prog 60 #[.slice a1 x.length c1, .slice a2 y.length c2] w2 fun e w' => ∃ q, e = .returned (.pointer (some ⟨q, 0, none⟩)) ∧ Keeps (fun _ => False) w2 w' ∧ Book w' w2.heap.size w'.heap.size q x y) := bookOf_ok a1 a2 x y c1 c2 w2 hr1 hf1 hr2 hf2
    have H2 : Hid (St w2 b r v s most L1 xs ∧ Rdv w w2 b r v ∧ x.length ≤ 288) := ⟨hS2, hA2, hxl⟩
    clear hP h1 hr1 hr2 hf1 hf2 hS2 hA2 HR hxl
    simp only
    generalize x.length = N1 at HC2 ⊢
    generalize y.length = N2 at HC2 ⊢
    go_wp2_with fail
    refine HC2.out.mono ?_
    rintro e w3 ⟨q, rfl, hK3, hB3⟩
    have HC3 : Hid (Calls Try.prog 52 #[.pointer (some ⟨b, 0, none⟩), .pointer (some ⟨q, 0, none⟩)] w3 (RsPost R w3 b r v s most)) := by
      have hS3 := H2.out.1.keptF hK3
      have := coded_ok hS3 hB3 (H2.out.1.awayNew _ _ (Nat.le_refl _)) (by have := H2.out.2.2; omega)
      rw [HR2.out] at this; exact this
    have H3 : Hid (Adv w w3 b r v v) := H2.out.2.1.adv.trans (Adv.ofF b r v hK3)
    clear hK3 hB3 HC2 H2 HR2
    go_wp2_with fail
    refine HC3.out.mono ?_
    intro e w4 hP
    have HP : Hid (RsPost R w b r v s most e w4) := hP.trans H3.out
    rcases R with er | ⟨L', o'⟩
    · obtain ⟨rfl, _⟩ := hP.1 er rfl
      clear hP HC3
      go_wp2
      go_ret
      exact HP.out
    · obtain ⟨rfl, _⟩ := hP.2 L' o' rfl
      clear hP HC3
      go_wp2
      go_ret
      exact HP.out

set_option maxHeartbeats 2000000 in
set_option maxRecDepth 100000 in
theorem inside_ok {w : World} {b r : Nat} {v : Value} {s : ByteArray} {most : Nat} {L : Bts} {xs : List Nat} (h : St w b r v s most L xs) (k : Nat) (hk : k ≤ 10) :
    Calls Try.prog 46 #[.pointer (some ⟨b, 0, none⟩), .int .i64 (k : Int)] w (RsPost (inside most k L xs) w b r v s most) := by
  obtain ⟨R, hR⟩ : ∃ R, inside most k L xs = R := ⟨_, rfl⟩
  rw [hR]
  unfold inside at hR
  by_cases h0 : k = 0
  · subst h0
    rw [if_pos rfl] at hR
    have HC : Hid (Calls Try.prog 51 #[.pointer (some ⟨b, 0, none⟩)] w (RsPost R w b r v s most)) := by rw [← hR]; exact stored_ok h
    clear h hR
    go_enter Try.func46, Try.ntmps46
    go_wp2_with fail
    refine HC.out.mono ?_
    intro e w4 hP
    have HP : Hid (RsPost R w b r v s most e w4) := hP
    rcases R with er | ⟨L', o'⟩
    · obtain ⟨rfl, _⟩ := hP.1 er rfl
      clear hP HC
      go_wp2
      go_ret
      exact HP.out
    · obtain ⟨rfl, _⟩ := hP.2 L' o' rfl
      clear hP HC
      go_wp2
      go_ret
      exact HP.out
  · rw [if_neg h0] at hR
    have h0z : ¬ ((k : Int) = 0) := by omega
    by_cases h1 : k = 1
    · subst h1
      rw [if_pos rfl] at hR
      have HC : Hid (Calls Try.prog 53 #[.pointer (some ⟨b, 0, none⟩)] w fun e w' => ∃ q lo hi, e = .returned (.pointer (some ⟨q, 0, none⟩)) ∧ Book w' lo hi q fixLs fiveLs ∧ Away lo hi b r v ∧ St w' b r v s most L xs ∧ Adv w w' b r v v) := fixedBook_ok h
      have HR : Hid (coded fixLs fiveLs most L xs = R) := hR
      clear h hR
      go_enter Try.func46, Try.ntmps46
      go_wp2_with fail
      refine HC.out.mono ?_
      rintro e w2 ⟨q, lo, hi, rfl, hB, hA, hS2, hA2⟩
      have HC2 : Hid (Calls Try.prog 52 #[.pointer (some ⟨b, 0, none⟩), .pointer (some ⟨q, 0, none⟩)] w2 (RsPost R w2 b r v s most)) := by
        have := coded_ok hS2 hB hA (by rw [fixLs_length]; omega)
        rw [HR.out] at this; exact this
      have H2 : Hid (Adv w w2 b r v v) := hA2
      clear hB hA hS2 hA2 HC HR
      go_wp2_with fail
      refine HC2.out.mono ?_
      intro e w4 hP
      have HP : Hid (RsPost R w b r v s most e w4) := hP.trans H2.out
      rcases R with er | ⟨L', o'⟩
      · obtain ⟨rfl, _⟩ := hP.1 er rfl
        clear hP HC2
        go_wp2
        go_ret
        exact HP.out
      · obtain ⟨rfl, _⟩ := hP.2 L' o' rfl
        clear hP HC2
        go_wp2
        go_ret
        exact HP.out
    · rw [if_neg h1] at hR
      have h1z : ¬ ((k : Int) = 1) := by omega
      by_cases h2 : k = 2
      · subst h2
        rw [if_pos rfl] at hR
        have HC : Hid (Calls Try.prog 54 #[.pointer (some ⟨b, 0, none⟩)] w (RsPost R w b r v s most)) := by rw [← hR]; exact dynamic_ok h
        clear h hR
        go_enter Try.func46, Try.ntmps46
        go_wp2_with fail
        refine HC.out.mono ?_
        intro e w4 hP
        have HP : Hid (RsPost R w b r v s most e w4) := hP
        rcases R with er | ⟨L', o'⟩
        · obtain ⟨rfl, _⟩ := hP.1 er rfl
          clear hP HC
          go_wp2
          go_ret
          exact HP.out
        · obtain ⟨rfl, _⟩ := hP.2 L' o' rfl
          clear hP HC
          go_wp2
          go_ret
          exact HP.out
      · rw [if_neg h2] at hR
        have h2z : ¬ ((k : Int) = 2) := by omega
        have e : R = .error 700 := hR.symm
        subst e
        clear h hR
        go_enter Try.func46, Try.ntmps46
        go_wp2
        go_ret
        exact RsPost.bad (Keeps.refl _ _)

/-- What a block leaves: was it the last one, and how it went. -/
def BlkPost (L : Bts) (xs : List Nat) (w : World) (b r : Nat) (v : Value) (s : ByteArray) (most : Nat) (e : Ending) (w' : World) : Prop :=
  (∃ er t, blocks most L xs = .error er ∧ Er er ∧ e = .returned (.tuple #[.bool t, .int .i64 er]) ∧ Keeps (Own3 b r v) w w') ∨
  ∃ t L' o' v', e = .returned (.tuple #[.bool t, .int .i64 0]) ∧ St w' b r v' s most L' o' ∧ Adv w w' b r v v' ∧ (t = true → blocks most L xs = .ok (L', o')) ∧ (t = false → blocks most L xs = blocks most L' o' ∧ L'.length < L.length)

set_option maxHeartbeats 2000000 in
set_option maxRecDepth 100000 in
theorem block_ok {w : World} {b r : Nat} {v : Value} {s : ByteArray} {most : Nat} {L : Bts} {xs : List Nat} (h : St w b r v s most L xs) :
    Calls Try.prog 37 #[.pointer (some ⟨b, 0, none⟩)] w (BlkPost L xs w b r v s most) := by
  rcases h1 : getL 1 L with _ | ⟨l, L1⟩
  · have HC : Hid (Calls Try.prog 45 #[.pointer (some ⟨b, 0, none⟩), .int .i64 1] w fun e w' => e = .returned (.tuple #[.int .i64 0, .int .i64 700]) ∧ Keeps (Own3 b r v) w w') := number_none h 1 (by omega) h1
    have HB : Hid (blocks most L xs = .error 700) := blocks_none1 h1
    clear h h1
    go_enter Try.func37, Try.ntmps37
    go_wp2_with fail
    refine HC.out.mono ?_
    rintro e w2 ⟨rfl, hk⟩
    have HK : Hid (Keeps (Own3 b r v) w w2) := hk
    clear hk HC
    go_wp2
    go_ret2
    exact .inl ⟨700, false, HB.out, .inl rfl, rfl, HK.out⟩
  · have HC : Hid (Calls Try.prog 45 #[.pointer (some ⟨b, 0, none⟩), .int .i64 1] w fun e w' => e = .returned (.tuple #[.int .i64 (l : Int), .int .i64 0]) ∧ St w' b r v s most L1 xs ∧ Rdv w w' b r v) := number_some h 1 l L1 (by omega) h1
    have H1 : Hid (getL 1 L = some (l, L1)) := h1
    clear h h1
    go_enter Try.func37, Try.ntmps37
    go_wp2_with fail
    refine HC.out.mono ?_
    rintro e w2 ⟨rfl, hS2, hA2⟩
    have HS2 : Hid (St w2 b r v s most L1 xs ∧ Rdv w w2 b r v) := ⟨hS2, hA2⟩
    clear hS2 hA2 HC
    rcases h2 : getL 2 L1 with _ | ⟨k, L2⟩
    · have HC : Hid (Calls Try.prog 45 #[.pointer (some ⟨b, 0, none⟩), .int .i64 2] w2 fun e w' => e = .returned (.tuple #[.int .i64 0, .int .i64 700]) ∧ Keeps (Own3 b r v) w2 w') := number_none HS2.out.1 2 (by omega) h2
      have HB : Hid (blocks most L xs = .error 700) := blocks_none2 H1.out h2
      clear h2
      go_wp2_with fail
      refine HC.out.mono ?_
      rintro e w3 ⟨rfl, hk⟩
      have HK : Hid (Keeps (Own3 b r v) w w3) := HS2.out.2.lost hk
      clear hk HC
      go_wp2
      go_ret2
      exact .inl ⟨700, false, HB.out, .inl rfl, rfl, HK.out⟩
    · have HC : Hid (Calls Try.prog 45 #[.pointer (some ⟨b, 0, none⟩), .int .i64 2] w2 fun e w' => e = .returned (.tuple #[.int .i64 (k : Int), .int .i64 0]) ∧ St w' b r v s most L2 xs ∧ Rdv w2 w' b r v) := number_some HS2.out.1 2 k L2 (by omega) h2
      have H2 : Hid (getL 2 L1 = some (k, L2)) := h2
      have hk4 : k < 4 := getL_lt h2
      clear h2
      go_wp2_with fail
      refine HC.out.mono ?_
      rintro e w3 ⟨rfl, hS3, hA3⟩
      have HS3 : Hid (St w3 b r v s most L2 xs ∧ Rdv w w3 b r v) := ⟨hS3, HS2.out.2.trans hA3⟩
      clear hS3 hA3 HC HS2
      have HC : Hid (Calls Try.prog 46 #[.pointer (some ⟨b, 0, none⟩), .int .i64 (k : Int)] w3 (RsPost (inside most k L2 xs) w3 b r v s most)) := inside_ok HS3.out.1 k (by omega)
      go_wp2_with fail
      refine HC.out.mono ?_
      intro e w4 hP
      clear HC
      rcases h3 : inside most k L2 xs with er | ⟨L', o'⟩
      · obtain ⟨rfl, hk⟩ := hP.1 er h3
        have HB : Hid (blocks most L xs = .error er ∧ Er er ∧ Keeps (Own3 b r v) w w4) := ⟨blocks_bad H1.out H2.out h3, inside_err h3, HS3.out.2.lost hk⟩
        clear hP h3 hk
        go_wp2
        go_ret2
        exact .inl ⟨er, _, HB.out.1, HB.out.2.1, rfl, HB.out.2.2⟩
      · obtain ⟨rfl, v', hS4, hA4⟩ := hP.2 L' o' h3
        have HB : Hid (inside most k L2 xs = .ok (L', o')) := h3
        have H4 : Hid (St w4 b r v' s most L' o' ∧ Adv w w4 b r v v') := ⟨hS4, HS3.out.2.adv.trans hA4⟩
        clear hP h3 hS4 hA4
        by_cases hl : l = 1
        · subst hl
          go_wp2
          go_ret2
          refine .inr ⟨true, L', o', v', rfl, H4.out.1, H4.out.2, fun _ => blocks_last H1.out H2.out HB.out, fun e => by cases e⟩
        · have hlz : ((l : Int) == 1) = false := by simp; omega
          have hlz2 : ¬ ((l : Int) = 1) := by omega
          go_wp2
          go_ret2
          refine .inr ⟨false, L', o', v', rfl, H4.out.1, H4.out.2, fun e => by (cases e), fun _ => ⟨blocks_next H1.out hl H2.out HB.out, ?_⟩⟩
          have e1 := getL_len H1.out; have e2 := getL_len H2.out; have e3 := inside_len HB.out
          simp only at e3
          omega

end Go.Proofs.Ytfbghchgfbjogaa

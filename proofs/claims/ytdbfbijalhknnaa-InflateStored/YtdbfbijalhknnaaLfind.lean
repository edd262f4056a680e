/-
  lengthFinder of package inflate: the codes by which a dynamic block tells all lengths.
-/
import Derived.Test.YtdbfbijalhknnaaLens
import Derived.Test.YtdbfbijalhknnaaLrow
namespace Go.Proofs.Ytdbfbijalhknnaa
open Go.RowKit
open Hf Tb
set_option linter.unusedVariables false
set_option linter.unusedSimpArgs false

/-! ### The row of the lengths' lengths -/
theorem rowL_pos : ∀ i : Fin 19, ∀ j : Fin 19, (rowL.getD i.val 0 = j.val ↔ posR j.val = i.val) := by decide +kernel
theorem rowL_lt : ∀ i : Fin 19, rowL.getD i.val 0 < 19 := by decide +kernel
theorem clOf_length (t : List Int) : (clOf t).length = 19 := by simp [clOf]
theorem clOf_get (t : List Int) (j : Nat) (h : j < 19) : (clOf t)[j]? = some (t.getD (posR j) 0) := by
  simp [clOf, List.getElem?_map, List.getElem?_range h]
theorem clOf_set (acc : List Int) (x : Int) (h : acc.length < 19) : (clOf acc).set (rowL.getD acc.length 0) x = clOf (acc ++ [x]) := by
  apply List.ext_getElem?
  intro j
  have hr := rowL_lt ⟨acc.length, h⟩
  simp only at hr
  by_cases hj : j < 19
  · have hp := rowL_pos ⟨acc.length, h⟩ ⟨j, hj⟩
    simp only at hp
    rw [clOf_get _ j hj, List.getElem?_set]
    by_cases e : rowL.getD acc.length 0 = j
    · rw [if_pos e, clOf_length, if_pos hr, hp.1 e]
      simp [List.getD]
    · rw [if_neg e, clOf_get _ j hj]
      have hne : posR j ≠ acc.length := fun k => e (hp.2 k)
      congr 1
      simp only [List.getD, List.getElem?_append]
      by_cases hlt : posR j < acc.length
      · rw [if_pos hlt]
      · rw [if_neg hlt, List.getElem?_eq_none (by omega), List.getElem?_eq_none (by simp; omega)]
  · rw [List.getElem?_eq_none (by rw [List.length_set, clOf_length]; omega), List.getElem?_eq_none (by rw [clOf_length]; omega)]
theorem clOf_nil : clOf [] = List.replicate 19 0 := by decide
theorem Blk.set {w : World} {g : Nat} {xs : List Int} (h : Blk w g xs) (i : Nat) (y : Int) : Blk (w.setCell ⟨g, i, none⟩ (.int .i64 y)) g (xs.set i y) := by
  unfold Blk
  rw [heap_setCell_same h]
  congr 2
  simp [intsV, List.map_set]

/-- The codes of the lengths. -/
def lfP : Bts → Option (List Int × Bts) := bnd (aboveL 4 4) fun c => bnd (threes c []) fun t => if errC (clOf t) = 0 then retL (clOf t) else noL
def lfT (R : Option (List Int × Bts)) : Option (List Int × Bts) := match R with
  | none => none
  | some (t, L2) => if errC (clOf t) = 0 then some (clOf t, L2) else none
theorem lfP_of {L L1 : Bts} {c : Nat} (h1 : aboveL 4 4 L = some (c, L1)) : lfP L = lfT (threes c [] L1) := by
  unfold lfP
  rw [bnd_eq h1]
  rcases h2 : threes c [] L1 with _ | ⟨t, L2⟩
  · rw [bnd_none h2]; rfl
  · rw [bnd_eq h2]; unfold lfT; simp only
    split <;> rfl
theorem lfP_dyn (a b : Nat) (L : Bts) : bnd (aboveL 4 4) (fun c => bnd (threes c []) fun t => dynC a b t) L = bnd lfP (fun ys => bnd (runs ys (a + b) []) fun all => dynP a all) L := by
  rcases h1 : aboveL 4 4 L with _ | ⟨c, L1⟩
  · have e : lfP L = none := by unfold lfP; exact bnd_none h1
    rw [bnd_none h1, bnd_none e]
  · have e := lfP_of h1
    rw [bnd_eq h1]
    rcases h2 : threes c [] L1 with _ | ⟨t, L2⟩
    · rw [h2] at e
      rw [bnd_none h2, bnd_none e]
    · rw [h2] at e
      rw [bnd_eq h2]
      unfold dynC
      unfold lfT at e
      by_cases he : errC (clOf t) = 0
      · simp only [if_pos he] at e
        rw [if_pos he, bnd_eq e]
      · simp only [if_neg he] at e
        rw [if_neg he, bnd_none e]; rfl
theorem threes_le : ∀ (n : Nat) (acc : List Int) (L : Bts) (t : List Int) (L' : Bts), threes n acc L = some (t, L') → t.length = n + acc.length := fun n acc L t L' h => (threes_len n acc L t L' h).2

def FinPost (R : Option (List Int × Bts)) (w : World) (b r : Nat) (v : Value) (s : ByteArray) (most : Nat) (xs : List Nat) (e : Ending) (w' : World) : Prop :=
  (R = none → e = .returned (.tuple #[.pointer none, .int .i64 700]) ∧ Keeps (Own3 b r v) w w') ∧
  ∀ ys L', R = some (ys, L') → ∃ f, e = .returned (.tuple #[.pointer (some ⟨f, 0, none⟩), .int .i64 0]) ∧ Fnd w' w.heap.size w'.heap.size f ys ∧ St w' b r v s most L' xs ∧ Rdv w w' b r v
theorem FinPost.noneI {w : World} {b r : Nat} {v : Value} {s : ByteArray} {most : Nat} {xs : List Nat} {w' : World} (h : Keeps (Own3 b r v) w w') : FinPost none w b r v s most xs (.returned (.tuple #[.pointer none, .int .i64 700])) w' :=
  ⟨fun _ => ⟨rfl, h⟩, fun _ _ e => by cases e⟩

set_option maxHeartbeats 4000000 in
set_option maxRecDepth 100000 in
theorem lengthFinder_ok {w : World} {b r : Nat} {v : Value} {s : ByteArray} {most : Nat} {L : Bts} {xs : List Nat} (h : St w b r v s most L xs) :
    Calls Try.prog 83 #[.pointer (some ⟨b, 0, none⟩)] w (FinPost (lfP L) w b r v s most xs) := by
  obtain ⟨R, hR⟩ : ∃ R, lfP L = R := ⟨_, rfl⟩
  rw [hR]
  have HS0 : Hid (St w b r v s most L xs) := h
  rcases h1 : aboveL 4 4 L with _ | ⟨c, L1⟩
  · have e : R = none := by rw [← hR]; unfold lfP; exact bnd_none h1
    subst e
    have HC : Hid (Calls Try.prog 82 #[.pointer (some ⟨b, 0, none⟩), .int .i64 4, .int .i64 4] w fun e w' => e = .returned (.tuple #[.int .i64 0, .int .i64 700]) ∧ Keeps (Own3 b r v) w w') := above_none h 4 4 (by omega) h1
    clear h h1 hR
    go_enter Try.func83, Try.ntmps83
    go_wp2_with fail
    refine HC.out.mono ?_
    rintro e w2 ⟨rfl, hk⟩
    have HK : Hid (Keeps (Own3 b r v) w w2) := hk
    clear hk HC
    go_wp2
    go_ret2
    exact FinPost.noneI HK.out
  · have HC : Hid (Calls Try.prog 82 #[.pointer (some ⟨b, 0, none⟩), .int .i64 4, .int .i64 4] w fun e w' => e = .returned (.tuple #[.int .i64 (c : Int), .int .i64 0]) ∧ St w' b r v s most L1 xs ∧ Rdv w w' b r v) := above_some h 4 4 c L1 (by omega) (by omega) h1
    have hc : c ≤ 19 := by
      obtain ⟨q, hq, rfl⟩ := aboveL_some h1
      have h2 := getL_lt hq
      omega
    obtain ⟨R3, hR3⟩ : ∃ R3, threes c [] L1 = R3 := ⟨_, rfl⟩
    have HR : Hid (R = lfT R3) := by show R = _; rw [← hR, ← hR3]; exact lfP_of h1
    have HR3 : Hid (threes c [] L1 = R3) := hR3
    clear h h1 hR hR3
    go_enter Try.func83, Try.ntmps83
    go_wp2_with fail
    refine HC.out.mono ?_
    rintro e w2 ⟨rfl, hS2, hA2⟩
    have H2 : Hid (St w2 b r v s most L1 xs ∧ Rdv w w2 b r v) := ⟨hS2, hA2⟩
    clear hS2 hA2 HC
    have HCr : Hid (∀ w, Calls Try.prog 93 #[] w fun e w' => e = .returned (.agg (intsV rowZ).toArray) ∧ Keeps (fun _ => False) w w') := row_ok
    go_wp2_with fail
    refine (HCr.out w2).mono ?_
    rintro e w2a ⟨rfl, hKa⟩
    go_wp2_with (first
      | (refine wpList_alloc19 rfl rfl ?_; intro q w2b hAb hKb hqb)
      | (refine wpList_store19 rfl _ _ rfl q rowZ rfl rfl rfl (List.replicate 19 0) (by decide) ?hA ?_; (case hA => assumption); intro w2c hAc hKc)
      | (refine wpList_zeros rfl _ _ rfl 19 rfl rfl (by omega) ?_; intro g w3 hB3 hK3 hg3))
    have HQ : Hid (w.heap.size ≤ q ∧ q ≠ g) := ⟨by have := H2.out.2.only.size; have := hKa.size; omega, by have := hAc.lt; omega⟩
    have H3 : Hid (∃ acc L4, acc.length = 0 ∧ threes (c - 0) acc L4 = R3 ∧ St w3 b r v s most L4 xs ∧ Rdv w w3 b r v ∧ Blk w3 g (clOf acc) ∧ w.heap.size ≤ g ∧ Ary 150 w3 q rowZ) := by
      have k2c : Keeps (fun _ => False) w2 w2c := (hKa.trans hKb (fun _ _ h => h)).trans hKc (fun i hi e => by have := hKa.size; omega)
      have k23 : Keeps (fun _ => False) w2 w3 := k2c.trans hK3 (fun _ _ h => h)
      refine ⟨[], L1, rfl, HR3.out, H2.out.1.keptF k23, H2.out.2.trans (Rdv.ofF b r v k23), by rw [clOf_nil]; exact hB3, by have := H2.out.2.only.size; have := k2c.size; omega, hAc.keptF hK3⟩
    clear hB3 hK3 hg3 H2 HR3 hKa hAb hKb hqb hAc hKc HCr
    go_loopw [20] (fun s18 w' => ∃ i : Nat, i ≤ c ∧ s18 = .int .i64 (i : Int) ∧ Hid (∃ acc L4, acc.length = i ∧ threes (c - i) acc L4 = R3 ∧ St w' b r v s most L4 xs ∧ Rdv w w' b r v ∧ Blk w' g (clOf acc) ∧ w.heap.size ≤ g ∧ Ary 150 w' q rowZ)) (fun s18 _ => ((c : Int) - intOf s18).toNat)
    case atStart => exact ⟨0, by omega, rfl, H3⟩
    case round =>
      clear H3
      obtain ⟨i, hi, rfl, HW⟩ := hrel
      by_cases hic : i < c
      · have hiz : (i : Int) < (c : Int) := by omega
        have hi19 : (i : Int) < 19 := by omega
        obtain ⟨acc, L4, hlen, hE, hS, hA, hB, hg, hQ⟩ := HW.out
        clear HW
        obtain ⟨j, hj⟩ : ∃ j, rowL.getD i 0 = j := ⟨_, rfl⟩
        have hj19 : j < 19 := by rw [← hj]; exact rowL_lt ⟨i, by omega⟩
        have hjz : (j : Int) < 19 := by omega
        have hE2 : bnd (getL 3) (fun x => threes (c - (i + 1)) (acc ++ [(x : Int)])) L4 = R3 := by
          rw [show c - i = (c - (i + 1)) + 1 by omega] at hE; exact hE
        have hS1 : St wr.drew b r v s most L4 xs := ⟨hS.blk, hS.rd, hS.own, hS.rb, hS.sz, hS.lim, hS.most, hS.byt⟩
        have hrow : wr.cell? ⟨q, i, none⟩ = some (.int .i64 (j : Int)) := by
          have h19 : i < rowZ.length := by show i < 19; omega
          have e := rowZ_get ⟨i, h19⟩
          simp only at e
          rw [List.getElem?_eq_getElem h19] at e
          rw [hQ.cell i h19, Option.some.inj e, hj]
        have hql : q < wr.heap.size := hQ.lt
        have hgr : g ≠ r := by have := HS0.out.rb; have := HS0.out.lt; omega
        have hr0 : q ≠ r := by have := HS0.out.rb; have := HS0.out.lt; have := HQ.out; omega
        have hqn : ¬ Own3 b r v q := fun e => by have := HS0.out.above3 q e; have := HQ.out; omega
        rcases h4 : getL 3 L4 with _ | ⟨x, L5⟩
        · have e : R3 = none := by rw [← hE2, bnd_none h4]
          have e2 : R = none := by rw [HR.out, e]; rfl
          subst e2
          have HC : Hid (Calls Try.prog 40 #[.pointer (some ⟨b, 0, none⟩), .int .i64 3] wr.drew fun e w' => e = .returned (.tuple #[.int .i64 0, .int .i64 700]) ∧ w'.cell? ⟨q, i, none⟩ = some (.int .i64 (j : Int)) ∧ (∃ u, w'.cell? ⟨g, j, none⟩ = some u) ∧ w'.frozen? ⟨g, j, none⟩ = false ∧ Keeps (Own3 b r v) w w') := by
            refine (number_none hS1 3 (by omega) h4).mono ?_
            rintro e w' ⟨rfl, hk⟩
            have hgl : g < wr.drew.heap.size := hB.lt
            have hn : ¬ Own3 b r v g := fun e => by have := HS0.out.above3 g e; omega
            refine ⟨rfl, ?_, ?_, ?_, (⟨hA.only.drew⟩ : Rdv w wr.drew b r v).lost hk⟩
            · rw [World.cell?_of_block (hk.block q hql hqn)]; exact hrow
            · rw [World.cell?_of_block (hk.block g hgl hn)]; exact ⟨_, hB.cell j (by rw [clOf_length]; exact hj19)⟩
            · rw [World.frozen?_of_block (hk.block g hgl hn)]; exact hB.free j
          clear hE hE2 hS hA hB hS1 hlen h4 e HR hQ
          go_wp2
          go_region_with (go_at_call 40; refine HC.out.mono ?_; rintro e w5 ⟨rfl, d1, ⟨u, d2⟩, d3, hk5⟩; have H5 : Hid (Keeps (Own3 b r v) w w5) := hk5; clear hk5)
          all_goals
            go_wp2
            go_ret2
            exact FinPost.noneI (H5.out.setCell (p := ⟨g, j, none⟩) (fun hh => by simp only at hh; omega) _)
        · have HC : Hid (Calls Try.prog 40 #[.pointer (some ⟨b, 0, none⟩), .int .i64 3] wr.drew fun e w' => e = .returned (.tuple #[.int .i64 (x : Int), .int .i64 0]) ∧ w'.cell? ⟨q, i, none⟩ = some (.int .i64 (j : Int)) ∧ (∃ u, w'.cell? ⟨g, j, none⟩ = some u) ∧ w'.frozen? ⟨g, j, none⟩ = false ∧ ∃ acc L4, acc.length = i + 1 ∧ threes (c - (i + 1)) acc L4 = R3 ∧ St (w'.setCell ⟨g, j, none⟩ (.int .i64 (x : Int))) b r v s most L4 xs ∧ Rdv w (w'.setCell ⟨g, j, none⟩ (.int .i64 (x : Int))) b r v ∧ Blk (w'.setCell ⟨g, j, none⟩ (.int .i64 (x : Int))) g (clOf acc) ∧ w.heap.size ≤ g ∧ Ary 150 (w'.setCell ⟨g, j, none⟩ (.int .i64 (x : Int))) q rowZ) := by
            refine (number_some hS1 3 x L5 (by omega) h4).mono ?_
            rintro e w' ⟨rfl, hS6, hk⟩
            have hgl : g < wr.drew.heap.size := hB.lt
            have hB6 : Blk w' g (clOf acc) := hB.kept (S := fun k => k = r) (⟨hk.only.os, hk.only.tape, hk.only.output, hk.only.size, hk.only.block⟩ : Keeps (fun k => k = r) wr w') hgr
            have hk7 : Keeps (fun k => k = g) w' (w'.setCell ⟨g, j, none⟩ (.int .i64 (x : Int))) := (Keeps.refl (fun k => k = g) w').setCell (p := ⟨g, j, none⟩) (fun _ => rfl) _
            have hR7 : Rdv w (w'.setCell ⟨g, j, none⟩ (.int .i64 (x : Int))) b r v := ⟨((hA.only.drew).trans hk.only (fun _ _ e => e)).trans hk7 (fun k hh e => by omega)⟩
            obtain ⟨p, p1, p2, p3⟩ := hS6.rd
            have hS7 := (HS0.out.read (p := p) ⟨p1.kept hk7 (fun e => hgr e.symm), hR7.only⟩ p2).1
            rw [← p3] at hS7
            refine ⟨rfl, ?_, ?_, ?_, acc ++ [(x : Int)], L5, by simp [hlen], by rw [← hE2, bnd_eq h4], hS7, hR7, ?_, hg, (hQ.kept (S := fun k => k = r) (⟨hk.only.os, hk.only.tape, hk.only.output, hk.only.size, hk.only.block⟩ : Keeps (fun k => k = r) wr w') hr0).kept hk7 HQ.out.2⟩
            · rw [World.cell?_of_block (hk.only.block q hql hr0)]; exact hrow
            · exact ⟨_, hB6.cell j (by rw [clOf_length]; exact hj19)⟩
            · exact hB6.free j
            · rw [← clOf_set acc (x : Int) (by omega), hlen, hj]
              exact Blk.set hB6 j (x : Int)
          clear hE hE2 hS hA hB hS1 hlen h4 hQ
          go_wp2
          go_region_with (go_at_call 40; refine HC.out.mono ?_; rintro e w5 ⟨rfl, d1, ⟨u, d2⟩, d3, hk5⟩; have H5 : Hid (∃ acc L4, acc.length = i + 1 ∧ threes (c - (i + 1)) acc L4 = R3 ∧ St (w5.setCell ⟨g, j, none⟩ (.int .i64 (x : Int))) b r v s most L4 xs ∧ Rdv w (w5.setCell ⟨g, j, none⟩ (.int .i64 (x : Int))) b r v ∧ Blk (w5.setCell ⟨g, j, none⟩ (.int .i64 (x : Int))) g (clOf acc) ∧ w.heap.size ≤ g ∧ Ary 150 (w5.setCell ⟨g, j, none⟩ (.int .i64 (x : Int))) q rowZ) := hk5; clear hk5)
          all_goals
            clear HC hrow d1 d2 d3
            go_wp2
            go_roundw
            case rel => exact ⟨i + 1, by omega, by push_cast; rfl, H5⟩
            case measure => simp [intOf]; omega
      · obtain rfl : i = c := by omega
        obtain ⟨acc, L4, hlen, hE, hS, hA, hB, hg, hQ⟩ := HW.out
        rw [Nat.sub_self] at hE
        have e3 : R3 = some (acc, L4) := hE.symm
        have HR2 : Hid (R = if errC (clOf acc) = 0 then some (clOf acc, L4) else none) := by rw [HR.out, e3]; exact rfl
        have hrow : Row wr (some ⟨g, 0, none⟩) (clOf acc) := .inr ⟨g, 0, rfl, hB.lt, fun q hq => by rw [Nat.zero_add]; exact hB.cell q hq⟩
        have HC1 : Hid (Calls Try.prog 94 #[.slice (some ⟨g, 0, none⟩) 19 19] wr fun e w' => e = .returned (.int .i64 (errC (clOf acc))) ∧ Keeps (fun _ => False) wr w') := by
          have := check_ok (some ⟨g, 0, none⟩) (clOf acc) 19 wr hrow (by rw [clOf_length]; omega)
          rw [clOf_length] at this; exact this
        have HC2 : Hid (fits (clOf acc) = true → ∀ w', Keeps (fun _ => False) wr w' → Calls Try.prog 79 #[.slice (some ⟨g, 0, none⟩) 19 19] w' fun e w'' => ∃ f, e = .returned (.pointer (some ⟨f, 0, none⟩)) ∧ Keeps (fun _ => False) w' w'' ∧ Fnd w'' w'.heap.size w''.heap.size f (clOf acc)) := fun hf w' hk => by
          have := finderOf_ok (some ⟨g, 0, none⟩) (clOf acc) 19 w' (hrow.keptF hk) hf
          rw [clOf_length] at this; exact this
        have HF : Hid (errC (clOf acc) = 0 → fits (clOf acc) = true) := fun e => by
          have := errC_zero e
          unfold fits; rw [this.1, this.2]; rfl
        have HS : Hid (St wr b r v s most L4 xs ∧ Rdv w wr b r v) := ⟨hS, hA⟩
        clear HW hlen hE hS hA hB hg e3 HR hrow hQ HQ
        obtain ⟨er, her⟩ : ∃ er, errC (clOf acc) = er := ⟨_, rfl⟩
        rw [her] at HR2 HC1 HF
        generalize clOf acc = ys at *
        clear her
        go_wp2_with fail
        refine HC1.out.mono ?_
        rintro e w4 ⟨rfl, hK4⟩
        have HK4 : Hid (Keeps (fun _ => False) wr w4) := hK4
        clear hK4 HC1
        by_cases h0 : er = 0
        · subst h0
          have e : R = some (ys, L4) := by rw [HR2.out, if_pos rfl]
          subst e
          go_wp2_with fail
          refine (HC2.out (HF.out (by first | rfl | trivial)) w4 HK4.out).mono ?_
          rintro e w5 ⟨f, rfl, hK5, hF5⟩
          have HP : Hid (FinPost (some (ys, L4)) w b r v s most xs (.returned (.tuple #[.pointer (some ⟨f, 0, none⟩), .int .i64 0])) w5) := by
            have k45 : Keeps (fun _ => False) wr w5 := HK4.out.trans hK5 (fun _ _ h => h)
            refine ⟨fun e => by (cases e), fun _ _ e => by
              cases e
              exact ⟨f, rfl, hF5.wider (by have := HS.out.2.only.size; have := HK4.out.size; omega) (Nat.le_refl _) (Nat.le_refl _), HS.out.1.keptF k45, HS.out.2.trans (Rdv.ofF b r v k45)⟩⟩
          clear hK5 hF5 HC2
          go_wp2
          go_ret2
          exact HP.out
        · have e : R = none := by rw [HR2.out, if_neg h0]
          subst e
          have hnb : (er == 0) = false := by simp; exact h0
          have HK : Hid (Keeps (Own3 b r v) w w4) := HS.out.2.lost (HK4.out.mono (fun _ _ h => h.elim))
          clear HC2
          go_wp2
          go_ret2
          exact FinPost.noneI HK.out

end Go.Proofs.Ytdbfbijalhknnaa

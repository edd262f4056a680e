/-
  upToLast, smallLengths, inRow and count of package block. The lengths of a dynamic block's codes, in plain numbers (over what Lengths answers): they leave no room, and each symbol that comes has a code. tokens of package block: tokens by codes of given lengths, and the end. Small contracts: Of, Num, wholeBytes and At of package bits, for every world. next, gather, Get, Align and At of a reader, for every text of at most 2^48 bytes.
-/
import Derived.Test.YtdbfbijalhknnabGreatRows
import Derived.Test.YtdbfbijalhknnabGreatG14
import Derived.WalkKit
import Derived.WalkSpells
import Derived.WalkLawsBesides
import Derived.BigQuiet
namespace Go.Proofs.YtdbfbijalhknnabGreat.Bk
open Go.RowKit
open Hf Tb
open Mt (Tk RowT)
set_option linter.unusedVariables false
set_option linter.unusedSimpArgs false

theorem upN_stay (ys : List Int) (least m : Nat) (h : m ≤ least) : upN ys least m = m := by
  cases m with
  | zero => rfl
  | succ m => rw [upN, if_neg (by omega)]

set_option maxHeartbeats 2000000 in
set_option maxRecDepth 100000 in
theorem upToLast_ok (g n cap least : Nat) (ys : List Int) (w : World) (hP : Pfx w g ys) (hn : ys.length = n) (hl : least ≤ n) (hl1 : 1 ≤ least) (hcap : n ≤ cap) (hn2 : n ≤ 1000) :
    Calls Tryz.prog 76 #[.slice (some ⟨g, 0, none⟩) n cap, .int .i64 (least : Int)] w fun e w' => e = .returned (.slice (some ⟨g, 0, none⟩) (upL ys least) cap) ∧ Keeps (fun _ => False) w w' := by
  have HP : Hid (Pfx w g ys ∧ ys.length = n) := ⟨hP, hn⟩
  have HE : Hid (upN ys least n = upL ys least) := by show upN ys least n = upL ys least; rw [← hn]; rfl
  clear hP hn
  obtain ⟨U, hU⟩ : ∃ U, upL ys least = U := ⟨_, rfl⟩
  rw [hU] at HE ⊢
  clear hU
  go_enter Tryz.func76, Tryz.ntmps76
  go_wp2
  go_loopw [5] (fun s5 w' => ∃ m : Nat, least ≤ m ∧ m ≤ n ∧ s5 = .int .i64 (m : Int) ∧ Hid (upN ys least m = U ∧ Keeps (fun _ => False) w w')) (fun s5 w' => (intOf s5).toNat)
  case atStart => exact ⟨n, hl, Nat.le_refl _, rfl, HE.out, Keeps.refl _ w⟩
  case round =>
    obtain ⟨m, hm1, hm2, rfl, HW⟩ := hrel
    by_cases hml : m = least
    · subst hml
      have e : m = U := by rw [← HW.out.1]; exact (upN_stay ys m m (Nat.le_refl _)).symm
      subst e
      have hz : ¬ ((m : Int) < (m : Int)) := by omega
      have hz2 : (m : Int) ≤ (cap : Int) := by omega
      have hmc : m ≤ cap := by omega
      go_wp2
      go_ret
      exact ⟨rfl, HW.out.2⟩
    · obtain ⟨k, rfl⟩ : ∃ k, m = k + 1 := ⟨m - 1, by omega⟩
      have hk1 : (least : Int) < ((k + 1 : Nat) : Int) := by omega
      have hw1 : wrap64 (((k + 1 : Nat) : Int) - 1) = (k : Int) := by rw [wrap64_small _ (by omega) (by omega)]; omega
      have hw2 : IntKind.i64.wrap (((k + 1 : Nat) : Int) - 1) = (k : Int) := by rw [wrap_i64_small _ (by omega) (by omega)]; omega
      have hkn : (k : Int) < (n : Int) := by omega
      have hkl : k < ys.length := by rw [HP.out.2]; omega
      have hc : wr.cell? ⟨g, k, none⟩ = some (.int .i64 (at_ ys k)) := by rw [(HP.out.1.keptF HW.out.2).2 k hkl, at_eq k hkl]
      have HU : Hid (upN ys least (k + 1) = if at_ ys k = 0 then upN ys least k else k + 1) := by
        show upN ys least (k + 1) = _
        rw [upN]
        by_cases e : at_ ys k = 0
        · rw [if_pos ⟨by omega, e⟩, if_pos e]
        · rw [if_neg (fun h => e h.2), if_neg e]
      generalize at_ ys k = x at *
      clear hkl
      by_cases hx : x = 0
      · subst hx
        have HW2 : Hid (upN ys least k = U ∧ Keeps (fun _ => False) w wr) := ⟨by rw [← HW.out.1, HU.out, if_pos rfl], HW.out.2⟩
        clear HW HU
        go_wp2
        go_roundw
        case rel => exact ⟨k, by omega, by omega, rfl, HW2⟩
        case measure => simp [intOf]
      · have e : k + 1 = U := by rw [← HW.out.1, HU.out, if_neg hx]
        subst e
        have hxb : (x == 0) = false := by simpa using hx
        have hz2 : ((k + 1 : Nat) : Int) ≤ (cap : Int) := by omega
        have hmc : k + 1 ≤ cap := by omega
        clear HU
        go_wp2
        go_ret
        exact ⟨rfl, HW.out.2⟩

/-! ### Counts that Lengths takes -/
theorem cnt_nn (n : Nat) (ss : List Nat) : ∀ y ∈ cntL n ss, 0 ≤ y ∧ y ≤ (ss.length : Int) := by
  intro y hy
  simp only [cntL, List.mem_map] at hy
  obtain ⟨i, _, rfl⟩ := hy
  have : ss.count i ≤ ss.length := List.count_le_length
  omega
theorem fit_cnt (n : Nat) (ss : List Nat) (most : Int) (h1 : 2 ≤ n) (h2 : n ≤ 288) (hs : ss.length ≤ 100000) (m1 : 1 ≤ most) (m2 : most ≤ 15) (hp : n ≤ 2 ^ most.toNat) : Lm.fitL (cntL n ss) most = true := by
  have hm : Lm.mayL (cntL n ss) = true := by
    simp only [Lm.mayL, Bool.and_eq_true, decide_eq_true_eq, List.all_eq_true, cntL_length]
    refine ⟨h1, h2, fun y hy => ?_⟩
    have := cnt_nn n ss y hy; omega
  have hu : (Lm.usedL 0 (Lm.ownL (cntL n ss))).length ≤ n := by
    rw [Lm.usedL_length]
    have := Lm.wsOf_le (Lm.ownL (cntL n ss))
    rw [Lm.ownL_length, cntL_length] at this; exact this
  simp only [Lm.fitL, Bool.and_eq_true, decide_eq_true_eq]
  exact ⟨hm, m1, m2, by omega⟩
/-- The lengths of codes for symbols that come so often. -/
def lenL (n : Nat) (ss : List Nat) (most : Int) : List Int := Lm.ints (Lm.resL (cntL n ss) most)
theorem ints_get (xs : List Nat) (i : Nat) : at_ (Lm.ints xs) i = ((xs.getD i 0 : Nat) : Int) := by
  unfold at_ Lm.ints
  rw [List.getD, List.getD, List.getElem?_map]
  cases xs[i]? <;> rfl
theorem ints_length (xs : List Nat) : (Lm.ints xs).length = xs.length := by simp [Lm.ints]
theorem own_pfx {w : World} {g cap : Nat} {ys : List Int} (h : Lm.Own w g cap ys) : Pfx w g ys := ⟨h.lt, fun j hj => by rw [h.cell j hj, Lm.at_eq j hj]⟩
/-- Lengths, where the counts are of symbols. -/
theorem lens_ok (a : Option Addr) (n cap : Nat) (ss : List Nat) (most : Int) (w : World) (hR : Row w a (cntL n ss)) (h1 : 2 ≤ n) (h2 : n ≤ 288) (hs : ss.length ≤ 100000) (m1 : 1 ≤ most) (m2 : most ≤ 15) (hp : n ≤ 2 ^ most.toNat) :
    Calls Tryz.prog 38 #[.slice a n cap, .int .i64 most] w fun e w' => ∃ g, e = .returned (.tuple #[.slice (some ⟨g, 0, none⟩) n n, .int .i64 0]) ∧ Pfx w' g (lenL n ss most) ∧ Keeps (fun _ => False) w w' ∧ w.heap.size ≤ g := by
  have := Lm.lengths_good a (cntL n ss) cap most w hR (fit_cnt n ss most h1 h2 hs m1 m2 hp)
  rw [cntL_length] at this
  refine this.mono ?_
  rintro e w' ⟨g, rfl, hO, hK, hg⟩
  exact ⟨g, rfl, own_pfx hO, hK, hg⟩

set_option maxHeartbeats 2000000 in
set_option maxRecDepth 100000 in
theorem smallLengths_ok (a : Option Addr) (n cap : Nat) (all : List Int) (w : World) (hR : Row w a all) (hn : all.length = n) (hn2 : n ≤ 1000) (hn0 : 0 < n) (ha : ∀ y ∈ all, 0 ≤ y ∧ y < 19) :
    Calls Tryz.prog 77 #[.slice a n cap] w fun e w' => ∃ g, e = .returned (.slice (some ⟨g, 0, none⟩) 19 19) ∧ Pfx w' g (lenL 19 (all.map Int.toNat) 7) ∧ Keeps (fun _ => False) w w' ∧ w.heap.size ≤ g := by
  obtain ⟨b, off, rfl, hb, hcell⟩ := hR.spot (by omega)
  have HR : Hid (all.length = n ∧ (∀ i (h : i < all.length), w.cell? ⟨b, off + i, none⟩ = some (.int .i64 all[i])) ∧ ∀ y ∈ all, 0 ≤ y ∧ y < 19) := ⟨hn, hcell, ha⟩
  clear hR hcell ha hn
  go_enter Tryz.func77, Tryz.ntmps77
  go_wp2_with (refine wpList_alloc19 rfl rfl ?_; intro q w1 hA1 hK1 hq1)
  have H1 : Hid (Ary 144 w1 q (cntL 19 ((all.take 0).map Int.toNat)) ∧ Keeps (fun _ => False) w w1 ∧ w.heap.size ≤ q) := by
    refine ⟨?_, hK1, hq1⟩
    have e : cntL 19 ((all.take 0).map Int.toNat) = List.replicate 19 0 := by simp only [List.take_zero, List.map_nil]; rfl
    rw [e]; exact hA1
  clear hA1 hK1 hq1
  go_loopw [10] (fun s10 w' => ∃ i : Nat, i ≤ n ∧ s10 = .int .i64 (i : Int) ∧ Hid (Ary 144 w' q (cntL 19 ((all.take i).map Int.toNat)) ∧ Keeps (fun _ => False) w w' ∧ w.heap.size ≤ q)) (fun s10 w' => ((n : Int) - intOf s10).toNat)
  case atStart => exact ⟨0, by omega, rfl, H1⟩
  case round =>
    clear H1
    obtain ⟨i, hi, rfl, HW⟩ := hrel
    by_cases hin : i < n
    · have hiz : (i : Int) < (n : Int) := by omega
      have hil : i < all.length := by rw [HR.out.1]; exact hin
      have hc : wr.cell? ⟨b, off + i, none⟩ = some (.int .i64 all[i]) := (World.cell?_of_block (HW.out.2.1.block b hb (fun h => h))).trans (HR.out.2.1 i hil)
      obtain ⟨x, hx⟩ : ∃ x : Nat, all[i] = (x : Int) := ⟨(all[i]).toNat, by have := HR.out.2.2 _ (List.getElem_mem hil); omega⟩
      have hx19 : x < 19 := by have := HR.out.2.2 _ (List.getElem_mem hil); omega
      rw [hx] at hc
      obtain ⟨v, hv⟩ : ∃ v, ((all.take i).map Int.toNat).count x = v := ⟨_, rfl⟩
      have hvb : v ≤ 1000 := by rw [← hv]; exact Nat.le_trans List.count_le_length (by simp; omega)
      have hcv : wr.cell? ⟨q, x, none⟩ = some (.int .i64 (v : Int)) := by
        have hl2 : x < (cntL 19 ((all.take i).map Int.toNat)).length := by rw [cntL_length]; exact hx19
        have h2 := HW.out.1.cell x hl2
        have h3 := cntL_get 19 ((all.take i).map Int.toNat) x hx19
        rw [List.getElem?_eq_getElem hl2] at h3
        rw [h2, Option.some.inj h3, hv]
      have hfv := HW.out.1.free x
      have hxz : (x : Int) < 19 := by omega
      have hw1 : wrap64 ((v : Int) + 1) = (v : Int) + 1 := by rw [wrap64_small _ (by omega) (by omega)]
      have hw2 : IntKind.i64.wrap ((v : Int) + 1) = (v : Int) + 1 := by rw [wrap_i64_small _ (by omega) (by omega)]
      have HW2 : Hid (Ary 144 (wr.setCell ⟨q, x, none⟩ (.int .i64 ((v : Int) + 1))) q (cntL 19 ((all.take (i + 1)).map Int.toNat)) ∧ Keeps (fun _ => False) w (wr.setCell ⟨q, x, none⟩ (.int .i64 ((v : Int) + 1))) ∧ w.heap.size ≤ q) := by
        obtain ⟨h1, h2, h3⟩ := HW.out
        refine ⟨?_, h2.setCell (p := ⟨q, x, none⟩) (fun hh => by simp only at hh; omega) _, h3⟩
        have e : (all.take (i + 1)).map Int.toNat = (all.take i).map Int.toNat ++ [x] := by
          rw [List.take_add_one, List.getElem?_eq_getElem hil, hx]; simp
        rw [e, cntL_snoc 19 _ x hx19, hv]
        exact h1.set x _
      clear HW hv hx hil
      go_wp2
      go_roundw
      case rel => exact ⟨i + 1, by omega, by push_cast; rfl, HW2⟩
      case measure => simp [intOf]; omega
    · obtain rfl : i = n := by omega
      have et : all.take i = all := List.take_of_length_le (by rw [HR.out.1]; omega)
      have HC : Hid (Calls Tryz.prog 38 #[.slice (some ⟨q, 0, none⟩) 19 19, .int .i64 7] wr fun e w' => ∃ g, e = .returned (.tuple #[.slice (some ⟨g, 0, none⟩) 19 19, .int .i64 0]) ∧ Pfx w' g (lenL 19 (all.map Int.toNat) 7) ∧ Keeps (fun _ => False) wr w' ∧ wr.heap.size ≤ g) := by
        have hA := HW.out.1
        rw [et] at hA
        refine lens_ok (some ⟨q, 0, none⟩) 19 19 (all.map Int.toNat) 7 wr (.inr ⟨q, 0, rfl, hA.lt, fun j hj => ?_⟩) (by omega) (by omega) (by simp; rw [HR.out.1]; omega) (by omega) (by omega) (by decide)
        rw [Nat.zero_add]; exact hA.cell j hj
      clear et
      go_wp2_with fail
      refine HC.out.mono ?_
      rintro e w2 ⟨g, rfl, hP, hK, hg⟩
      have H2 : Hid (Pfx w2 g (lenL 19 (all.map Int.toNat) 7) ∧ Keeps (fun _ => False) w w2 ∧ w.heap.size ≤ g) := ⟨hP, HW.out.2.1.trans hK (fun _ _ h => h), by have := HW.out.2.1.size; omega⟩
      clear hP hK hg HC HW
      go_wp2
      go_ret
      exact ⟨g, rfl, H2.out⟩

theorem ary_index (xs : List Int) (hl : xs.length = 19) (i : Nat) (h : i < 19) (x : Int) (hx : xs[i]? = some x) (w : World) : (Instr.index 144 (.agg (intsV xs).toArray) (.int .i64 (i : Int))).run Tryz.prog w = .ok (.int .i64 x) w := by
  have hg : (intsV xs)[i]? = some (.int .i64 x) := by rw [intsV, List.getElem?_map, hx]; rfl
  have hi : (0 : Int) ≤ i ∧ (i : Int) < 19 := by omega
  generalize intsV xs = A at *
  simp [Instr.index, asIntOf, Sem.run_bind, Tryz.runUnderlying144, Tryz.sizeOf3, Tryz.isAgg3, part, hi, hg]
  omega

theorem rowOf_get (cl : List Int) (i : Nat) (h : i < 19) : (rowOf cl)[i]? = some (at_ cl (rowL.getD i 0)) := by
  have hr : i < rowL.length := by rw [rowL_len]; exact h
  unfold rowOf
  rw [List.getElem?_map, List.getD, List.getElem?_eq_getElem hr]; rfl
set_option maxHeartbeats 2000000 in
set_option maxRecDepth 100000 in
theorem inRow_ok (g cap : Nat) (cl : List Int) (w : World) (hP : Pfx w g cl) (hn : cl.length = 19) :
    Calls Tryz.prog 78 #[.slice (some ⟨g, 0, none⟩) 19 cap] w fun e w' => ∃ r c, e = .returned (.slice (some ⟨r, 0, none⟩) 19 c) ∧ Pfx w' r (rowOf cl) ∧ 19 ≤ c ∧ Keeps (fun _ => False) w w' ∧ w.heap.size ≤ r := by
  have HP : Hid (Pfx w g cl ∧ cl.length = 19) := ⟨hP, hn⟩
  have HC : Hid (Calls Tryz.prog 105 #[] w fun e w' => e = .returned (.agg (intsV rowZ).toArray) ∧ Keeps (fun _ => False) w w') := row_ok w
  clear hP hn
  go_enter Tryz.func78, Tryz.ntmps78
  go_wp2_with fail
  refine HC.out.mono ?_
  rintro e w1 ⟨rfl, hK1⟩
  have H1 : Hid (Lm.OwnV w1 w.heap.size (.slice none 0 0) ((rowOf cl).take 0) ∧ Keeps (fun _ => False) w w1) := ⟨Lm.OwnV.nil _ _, hK1⟩
  clear hK1 HC
  obtain ⟨A, hA⟩ : ∃ A, (intsV rowZ).toArray = A := ⟨_, rfl⟩
  have HX : Hid (∀ (i : Nat) (x : Int), i < 19 → rowZ[i]? = some x → ∀ w, (Instr.index 144 (.agg A) (.int .i64 (i : Int))).run Tryz.prog w = .ok (.int .i64 x) w) := fun i x hi hx w => by rw [← hA]; exact ary_index rowZ rfl i hi x hx w
  rw [hA]
  clear hA
  go_wp2_with fail
  go_loopw [7, 3] (fun s7 s3 w' => ∃ (i : Nat) (u : Value), i ≤ 19 ∧ s7 = .int .i64 (i : Int) ∧ s3 = u ∧ Hid (Lm.OwnV w' w.heap.size u ((rowOf cl).take i) ∧ Keeps (fun _ => False) w w')) (fun s7 s3 w' => ((19 : Int) - intOf s7).toNat)
  case atStart => exact ⟨0, _, by omega, rfl, rfl, H1⟩
  case round =>
    clear H1
    obtain ⟨i, u, hi, rfl, hu, HW⟩ := hrel
    obtain rfl := hu.symm
    clear hu
    by_cases hin : i < 19
    · have hiz : (i : Int) < 19 := by omega
      obtain ⟨x, hx⟩ : ∃ x, rowL.getD i 0 = x := ⟨_, rfl⟩
      have hx19 : x < 19 := by rw [← hx]; have : ∀ i : Fin 19, rowL.getD i.val 0 < 19 := by decide
                               exact this ⟨i, hin⟩
      have hxz : (x : Int) < 19 := by omega
      have hix := HX.out i (x : Int) hin (by have := rowZ_get ⟨i, hin⟩; simp only at this; rw [this, hx])
      have hxl : x < cl.length := by rw [HP.out.2]; exact hx19
      have hc : wr.cell? ⟨g, x, none⟩ = some (.int .i64 (at_ cl x)) := by rw [(HP.out.1.keptF HW.out.2).2 x hxl, at_eq x hxl]
      have HT : Hid ((rowOf cl).take (i + 1) = (rowOf cl).take i ++ [at_ cl x]) := by
        show _ = _
        rw [List.take_add_one, rowOf_get cl i hin, hx]; rfl
      have HL : Hid (((rowOf cl).take i).length ≤ 19) := by show _ ≤ _; rw [List.length_take]; omega
      generalize at_ cl x = y at *
      clear hxl hx
      go_wp2_with (refine Lm.wpList_one rfl _ _ rfl rfl w.heap.size u ((rowOf cl).take i) rfl (HW.out.1.kept ((Keeps.refl (fun _ => False) wr).alloc _) (fun _ _ h => h)) wr.heap.size y rfl (heap_alloc_new _ _) ?hb ?hn ?_; (case hb => have := HW.out.2.size; simp; omega); (case hn => have := HL.out; omega); intro gt ct w3 hO3 hG3 hA3)
      have HW3 : Hid (Lm.OwnV w3 w.heap.size (.slice (some ⟨gt, 0, none⟩) (((rowOf cl).take i).length + 1) ct) ((rowOf cl).take (i + 1)) ∧ Keeps (fun _ => False) w w3) := by
        refine ⟨by rw [HT.out]; exact hO3, (HW.out.2.alloc _).grown hG3 (fun k hk e => ?_)⟩
        have := (World.ownsRow.lt HW.out.1 k e).1; omega
      clear hO3 hG3 hA3 HW hix hc
      go_roundw
      case rel => exact ⟨i + 1, _, by omega, by push_cast; rfl, rfl, by have := HW3.out; rw [List.length_take] at this; exact this⟩
      case measure => simp [intOf]; omega
    · obtain rfl : i = 19 := by omega
      have et : (rowOf cl).take 19 = rowOf cl := List.take_of_length_le (by rw [rowOf_length]; omega)
      have HF : Hid (∃ r c, u = .slice (some ⟨r, 0, none⟩) 19 c ∧ Pfx wr r (rowOf cl) ∧ 19 ≤ c ∧ Keeps (fun _ => False) w wr ∧ w.heap.size ≤ r) := by
        have h1 := HW.out.1
        rw [et] at h1
        rcases h1.form with ⟨_, e⟩ | ⟨r, c, e, hr, ho⟩
        · have := rowOf_length cl; rw [e] at this; simp at this
        · have hc := ho.cap
          rw [rowOf_length] at e hc
          exact ⟨r, c, e, own_pfx ho, hc, HW.out.2, hr⟩
      clear HW et
      obtain ⟨r, c, rfl, hF⟩ := HF.out
      have HF2 := hide hF
      clear HF hF
      go_wp2
      go_ret
      exact ⟨r, c, rfl, HF2.out⟩

theorem cntL_nil (n : Nat) : cntL n [] = List.replicate n 0 := by
  apply List.ext_getElem?
  intro j
  by_cases hj : j < n
  · rw [cntL_get n [] j hj, List.getElem?_replicate, if_pos hj]; rfl
  · rw [List.getElem?_eq_none (by rw [cntL_length]; omega), List.getElem?_eq_none (by simp; omega)]
def CouPost (ts : List Tk) (w : World) (e : Ending) (w' : World) : Prop :=
  ∃ q, e = .returned (.pointer (some ⟨q, 0, none⟩)) ∧ Ary 71 w' q (cntL 286 (symsA ts ++ [256]) ++ cntL 30 (symsB ts)) ∧ Keeps (fun _ => False) w w' ∧ w.heap.size ≤ q
set_option maxRecDepth 100000 in
theorem zeroC : Tryz.zeroCells71 = (intsV (List.replicate 316 0)).toArray := by kernel_rfl
set_option maxHeartbeats 4000000 in
set_option maxRecDepth 100000 in
theorem count_ok (a : Option Addr) (ts : List Tk) (cap : Nat) (w : World) (hR : RowT w a ts) (hN : ts.length ≤ 300) (hok : ∀ t ∈ ts, ∃ a, Mt.okT t a = true) (ha : ts = [] ∨ ∀ x, a = some x → x.block < w.heap.size) :
    Calls Tryz.prog 37 #[.slice a ts.length cap] w (CouPost ts w) := by
  obtain ⟨Q, hQ⟩ : ∃ Q, CouPost ts w = Q := ⟨_, rfl⟩
  rw [hQ]
  have HQ : Hid (CouPost ts w = Q) := hQ
  clear hQ
  have hmf : ∀ (fn : Fn) (first cap : Array Value) (w : World), (Instr.makeFunc fn first cap).run Tryz.prog w = .ok (.func fn first cap) w := fun _ _ _ _ => rfl
  have HE : Hid (∀ q w1, Keeps (fun _ => False) w w1 → Cnt w1 q [] → w.heap.size ≤ q → Calls Tryz.prog 61 #[.slice a ts.length cap, .func (.func 68) #[.pointer (some ⟨q, 0, none⟩)] #[], .func (.func 69) #[.pointer (some ⟨q, 0, none⟩)] #[]] w1 fun e w' => e = .returned (.tuple #[]) ∧ Cnt w' q ts ∧ Keeps (fun k => k = q) w1 w') := fun q w1 hk hc hq => eachC_ok hc (hR.kept hk (fun _ _ h => h)) hN hok (ha.imp id (fun ha x e => by have := ha x e; omega))
  have HB : Hid (∀ q w1, Cnt w1 q ts → Calls Tryz.prog 68 #[.pointer (some ⟨q, 0, none⟩), .int .i64 256] w1 fun e w' => e = .returned (.tuple #[]) ∧ Ary 71 w' q (cntL 286 (symsA ts ++ [256]) ++ cntL 30 (symsB ts)) ∧ Keeps (fun k => k = q) w1 w') := fun q w1 hc => by
    refine (Cnt.byte hc hN 256 0 (by omega)).mono ?_
    rintro e w' ⟨rfl, h1, h2⟩
    refine ⟨rfl, ?_, h2⟩
    unfold Cnt at h1
    rw [symsA_snoc, symsB_snoc] at h1
    have e1 : symA (((256 : Nat) : Int), 0, 0) = 256 := by simp [symA]
    have e2 : symB (((256 : Nat) : Int), 0, 0) = [] := by simp [symB]
    rw [e1, e2, List.append_nil] at h1; exact h1
  generalize ts.length = N at *
  clear hR hN hok ha
  go_enter Tryz.func37, Tryz.ntmps37
  go_wp2_with fail
  generalize hw1 : World.alloc _ _ = w1
  obtain ⟨q, hq⟩ : ∃ q, w.heap.size = q := ⟨_, rfl⟩
  have H1 : Hid (Cnt w1 q [] ∧ Keeps (fun _ => False) w w1 ∧ w.heap.size ≤ q) := by
    refine ⟨?_, by rw [← hw1]; exact (Keeps.refl _ w).alloc _, by omega⟩
    have e : cntL 286 (symsA []) ++ cntL 30 (symsB []) = List.replicate 316 0 := by
      rw [show symsA [] = [] from rfl, show symsB [] = [] from rfl, cntL_nil, cntL_nil]
      simp
    unfold Cnt
    rw [e, ← hw1, ← hq]
    have := Ary.new 71 w (List.replicate 316 0)
    rw [← zeroC] at this
    unfold Ary at this ⊢
    rw [this]
  rw [hq]
  clear hw1
  have HC1 := hide (HE.out q w1 H1.out.2.1 H1.out.1 H1.out.2.2)
  refine HC1.out.mono ?_
  rintro e w2 ⟨rfl, hC2, hK2⟩
  have HC2 := hide (HB.out q w2 hC2)
  have H2 : Hid (Keeps (fun k => k = q) w1 w2) := hK2
  clear HC1 hC2 hK2 HE HB
  go_wp2_with fail
  refine HC2.out.mono ?_
  rintro e w3 ⟨rfl, hA3, hK3⟩
  have H3 : Hid (CouPost ts w (.returned (.pointer (some ⟨q, 0, none⟩))) w3) :=
    ⟨q, rfl, hA3, (H1.out.2.1.trans H2.out (fun i hi e => by omega)).trans hK3 (fun i hi e => by omega), by omega⟩
  clear hA3 hK3 HC2
  go_wp2
  show Q (.returned (.pointer (some ⟨q, 0, none⟩))) w3
  rw [← HQ.out]
  exact H3.out

end Go.Proofs.YtdbfbijalhknnabGreat.Bk

namespace Go.Proofs.YtdbfbijalhknnabGreat.Bk
open Hf Tb
open Mt (Tk mayF okT sumZ sz expF)
set_option linter.unusedVariables false
set_option linter.unusedSimpArgs false

theorem sumTo_add (f g : Nat → Nat) : ∀ n, sumTo (fun i => f i + g i) n = sumTo f n + sumTo g n
  | 0 => rfl
  | n + 1 => by simp only [sumTo, sumTo_add f g n, Nat.add_mul]; omega
theorem sumTo_congr {f g : Nat → Nat} : ∀ n, (∀ i, i < n → f i = g i) → sumTo f n = sumTo g n
  | 0, _ => rfl
  | n + 1, h => by rw [sumTo, sumTo, sumTo_congr n (fun i hi => h i (by omega)), h n (by omega)]
def oneF (l n : Nat) : Nat := if n ≠ 0 ∧ n = l then 1 else 0
theorem oneF_sum : ∀ l : Fin 16, sumTo (oneF l.val) 16 = Lm.rm l.val := by decide +kernel
theorem cn_cons (l : Nat) (r : List Int) (n : Nat) : cn ((l : Int) :: r) n = cn r n + oneF l n := by
  unfold cn oneF cnt
  by_cases hn : n = 0
  · subst hn; simp
  · rw [if_neg hn, if_neg hn, List.countP_cons]
    by_cases e : n = l
    · subst e; simp [hn]
    · have : ¬ ((l : Int) = (n : Int)) := by omega
      simp [hn, e, this]
theorem room_ints : ∀ (ls : List Nat), (∀ l ∈ ls, l ≤ 15) → room (Lm.ints ls) = (ls.map Lm.rm).sum
  | [], _ => by decide
  | l :: r, h => by
    have ih := room_ints r (fun x hx => h x (by simp [hx]))
    have hl := h l (by simp)
    have e : Lm.ints (l :: r) = (l : Int) :: Lm.ints r := rfl
    have hs := oneF_sum ⟨l, by omega⟩
    simp only at hs
    rw [e, List.map_cons, List.sum_cons, ← ih, ← hs]
    unfold room
    rw [sumTo_congr 16 (fun i _ => cn_cons l (Lm.ints r) i), sumTo_add]; omega
theorem pos_zero : ∀ (ls : List Nat), (ls.map Lm.pos1).sum = 0 → ∀ l ∈ ls, l = 0
  | [], _, l, hl => by cases hl
  | x :: r, h, l, hl => by
    rw [List.map_cons, List.sum_cons] at h
    rcases List.mem_cons.1 hl with rfl | hl
    · have : Lm.pos1 l = 0 := by omega
      unfold Lm.pos1 at this; split at this <;> omega
    · exact pos_zero r (by omega) l hl
structure LenF (n : Nat) (ss : List Nat) (most : Int) (A : List Int) : Prop where
  len : A.length = n
  may : may A = true
  le : ∀ y ∈ A, y ≤ most
  pos : ∀ i ∈ ss, i < n → 0 < at_ A i
  room : room A = 32768 ∨ ∀ y ∈ A, y = 0
theorem lenL_facts (n : Nat) (ss : List Nat) (most : Int) (h1 : 2 ≤ n) (h2 : n ≤ 288) (hs : ss.length ≤ 100000) (m1 : 1 ≤ most) (m2 : most ≤ 15) (hp : n ≤ 2 ^ most.toNat) : LenF n ss most (lenL n ss most) := by
  obtain ⟨q1, q2, q3, q4, _, _⟩ := Lm.res_all (cntL n ss) most (fit_cnt n ss most h1 h2 hs m1 m2 hp)
  rw [cntL_length] at q1
  have hle : ∀ y ∈ lenL n ss most, 0 ≤ y ∧ y ≤ most := by
    intro y hy
    simp only [lenL, Lm.ints, List.mem_map] at hy
    obtain ⟨l, hl, rfl⟩ := hy
    have := q2 l hl; omega
  have hlen : (lenL n ss most).length = n := by unfold lenL; rw [ints_length, q1]
  refine ⟨hlen, ?_, fun y hy => (hle y hy).2, ?_, ?_⟩
  · simp only [Hf.may, Bool.and_eq_true, decide_eq_true_eq, List.all_eq_true, hlen, fine]
    exact ⟨⟨by omega, by omega⟩, fun y hy => by have := hle y hy; omega⟩
  · intro i hi hin
    have hc : 0 < (Lm.nats (cntL n ss)).getD i 0 := by
      unfold Lm.nats
      rw [List.getD, List.getElem?_map, cntL_get n ss i hin]
      have : 0 < ss.count i := List.count_pos_iff.2 hi
      simp only [Option.map_some, Option.getD_some]; omega
    have := q3 i hc
    unfold lenL
    rw [ints_get]; omega
  · rcases q4 with ⟨z1, z2⟩ | ⟨z1, z2⟩
    · right
      intro y hy
      simp only [lenL, Lm.ints, List.mem_map] at hy
      obtain ⟨l, hl, rfl⟩ := hy
      rw [pos_zero _ z1 l hl]; rfl
    · left
      unfold lenL
      rw [room_ints _ (fun l hl => by have := q2 l hl; omega)]; exact z2

/-! ### A dynamic block's lengths -/
def lenA (ts : List Tk) : List Int := lenL 286 (symsA ts ++ [256]) 15
def lenB (ts : List Tk) : List Int := lenL 30 (symsB ts) 15
def lenC (ts : List Tk) : List Int := lenL 19 ((cutL (lenA ts) 257 ++ cutL (lenB ts) 1).map Int.toNat) 7
def dynOf (ts : List Tk) : Bts := dynB (lenA ts) (lenB ts) (lenC ts) ts
theorem factsA (ts : List Tk) (h : ts.length ≤ 1000) : LenF 286 (symsA ts ++ [256]) 15 (lenA ts) := lenL_facts 286 _ 15 (by omega) (by omega) (by simp [symsA]; omega) (by omega) (by omega) (by decide)
theorem factsB (ts : List Tk) (h : ts.length ≤ 1000) : LenF 30 (symsB ts) 15 (lenB ts) := lenL_facts 30 _ 15 (by omega) (by omega) (by have := symsB_len ts; omega) (by omega) (by omega) (by decide)
theorem factsC (ts : List Tk) (h : ts.length ≤ 1000) : LenF 19 ((cutL (lenA ts) 257 ++ cutL (lenB ts) 1).map Int.toNat) 7 (lenC ts) := by
  refine lenL_facts 19 _ 7 (by omega) (by omega) ?_ (by omega) (by omega) (by decide)
  have a2 := upL_le (lenA ts) 257
  have b2 := upL_le (lenB ts) 1
  rw [(factsA ts h).len] at a2
  rw [(factsB ts h).len] at b2
  rw [List.length_map, List.length_append, cutL_length, cutL_length]; omega
theorem dyn3_of (ts : List Tk) (h : ts.length ≤ 1000) : Dyn3 (lenA ts) (lenB ts) (lenC ts) := by
  have fA := factsA ts h
  have fB := factsB ts h
  have fC := factsC ts h
  have e256 : 0 < at_ (lenA ts) 256 := fA.pos 256 (by simp) (by omega)
  have a1 := upL_ge (lenA ts) 257 (by rw [fA.len]; decide)
  have hx : ∀ n ∈ cutL (lenA ts) 257 ++ cutL (lenB ts) 1, 0 ≤ n ∧ n < 16 := by
    intro y hy
    rw [List.mem_append] at hy
    rcases hy with hy | hy
    · obtain ⟨i, hi, rfl⟩ := List.mem_iff_getElem.1 (List.mem_of_mem_take hy)
      have := may_at fA.may i hi; omega
    · obtain ⟨i, hi, rfl⟩ := List.mem_iff_getElem.1 (List.mem_of_mem_take hy)
      have := may_at fB.may i hi; omega
  have hC : ∀ n ∈ cutL (lenA ts) 257 ++ cutL (lenB ts) 1, 0 < at_ (lenC ts) n.toNat := fun n hn => fC.pos n.toNat (List.mem_map_of_mem hn) (by have := hx n hn; omega)
  refine ⟨fA.len, fA.may, ?_, e256, fB.len, fB.may, fB.room, fC.len, fC.may, ?_, fun n hn => by have := fC.le n hn; omega, hC⟩
  · rcases fA.room with e | e
    · exact e
    · have hl : 256 < (lenA ts).length := by rw [fA.len]; omega
      rw [at_eq 256 hl, e _ (List.getElem_mem hl)] at e256
      omega
  · rcases fC.room with e | e
    · exact e
    · exfalso
      have hl : 0 < (cutL (lenA ts) 257 ++ cutL (lenB ts) 1).length := by rw [List.length_append, cutL_length]; omega
      have h0 := hC _ (List.getElem_mem hl)
      have hl2 := lt_of_at h0
      rw [at_eq _ hl2, e _ (List.getElem_mem hl2)] at h0
      omega
theorem hasT_of (ts : List Tk) (h : ts.length ≤ 1000) (t : Tk) (ht : t ∈ ts) (a : Int) (ho : okT t a = true) : hasT (lenA ts) (lenB ts) t := by
  have fA := factsA ts h
  have fB := factsB ts h
  have hA : symA t ∈ symsA ts ++ [256] := by rw [List.mem_append]; left; exact List.mem_map_of_mem ht
  obtain ⟨h1, h2⟩ := Mt.okT_iff ho
  unfold hasT
  rcases h1 with h1 | h1
  · have hb := Mt.isB_iff h1
    rw [if_pos hb.2.2.1]
    have e : symA t = t.1.toNat := by unfold symA; rw [if_pos hb.2.2.1]
    rw [e] at hA
    exact fA.pos _ hA (by omega)
  · have hb := Mt.isC_iff h1
    have hne : ¬ t.2.1 = 0 := by omega
    rw [if_neg hne]
    have e : symA t = (symL t.2.1).1.toNat := by unfold symA; rw [if_neg hne]
    have hB : (symD t.2.2).1.toNat ∈ symsB ts := by
      unfold symsB
      rw [List.mem_flatMap]
      exact ⟨t, ht, by unfold symB; rw [if_neg hne]; simp⟩
    rw [e] at hA
    obtain ⟨x, hx⟩ : ∃ x : Nat, t.2.1 = (x : Int) := ⟨t.2.1.toNat, by omega⟩
    obtain ⟨y, hy⟩ : ∃ y : Nat, t.2.2 = (y : Int) := ⟨t.2.2.toNat, by omega⟩
    obtain ⟨j, f, j1, j2, j3, j4, j5⟩ := symL_is x (by omega) (by omega)
    obtain ⟨k, g, k1, k2, k3, k4, k5⟩ := symD_is y (by omega) (by omega)
    rw [hx, j2] at hA ⊢
    rw [hy, k2] at hB ⊢
    simp only [Int.toNat_natCast] at hA hB ⊢
    exact ⟨fA.pos _ hA (by omega), fB.pos _ hB (by omega)⟩

/-! ### Tokens of a text that is not too long -/
def mayT (ts : List Tk) : Bool := mayF 0 ts && decide (sumZ ts ≤ 300)
theorem sumZ_len : ∀ (ts : List Tk), (ts.length : Int) ≤ sumZ ts
  | [] => by simp [sumZ]
  | t :: r => by
    have := sumZ_len r
    have h1 : (1 : Int) ≤ sz t := by unfold sz; omega
    simp only [sumZ, List.length_cons]; omega
theorem mayT_is {ts : List Tk} (h : mayT ts = true) : mayF 0 ts = true ∧ sumZ ts ≤ 300 ∧ ts.length ≤ 300 ∧ ∀ t ∈ ts, ∃ a, okT t a = true := by
  simp only [mayT, Bool.and_eq_true, decide_eq_true_eq] at h
  have := sumZ_len ts
  exact ⟨h.1, h.2, by omega, mayF_ok ts 0 h.1⟩
/-- What a dynamic block tells is inflated again. -/
theorem dyn_back {ts : List Tk} (h : mayT ts = true) (most : Nat) (hm : sumZ ts ≤ most) (h8 : most ≤ 8192) (more : List Nat) : inflP (pack (dynOf ts) ++ more) (most : Int) = .ok (expF [] ts, (pack (dynOf ts)).length) := by
  obtain ⟨h1, h2, h3, h4⟩ := mayT_is h
  exact inflB_of (dynOf ts) most (expF [] ts) more (fun M => dyn_read (dyn3_of ts (by omega)) most ts h1 (fun t ht => by obtain ⟨a, ha⟩ := h4 t ht; exact hasT_of ts (by omega) t ht a ha) hm M) most rfl h8
theorem fix_back {ts : List Tk} (h : mayT ts = true) (most : Nat) (hm : sumZ ts ≤ most) (h8 : most ≤ 8192) (more : List Nat) : inflP (pack (fixedB ts) ++ more) (most : Int) = .ok (expF [] ts, (pack (fixedB ts)).length) := by
  obtain ⟨h1, h2, h3, h4⟩ := mayT_is h
  exact inflB_of (fixedB ts) most (expF [] ts) more (fun M => fixed_read most ts h1 hm M) most rfl h8

end Go.Proofs.YtdbfbijalhknnabGreat.Bk

namespace Go.Proofs.YtdbfbijalhknnabGreat.Bk
open Go.RowKit
open Hf Tb
open Mt (Tk RowT)
set_option linter.unusedVariables false
set_option linter.unusedSimpArgs false

theorem Pg.set1 {w : World} {p b : Nat} {o : Option Nat} {L : Bts} {u1 u2 : Value} (h : Pg w p b o L u1 u2) (v : Value) : Pg (w.setCell ⟨p, 1, none⟩ v) p b o L v u2 ∧ Keeps (fun k => k = p) w (w.setCell ⟨p, 1, none⟩ v) := by
  have hk : Keeps (fun k => k = p) w (w.setCell ⟨p, 1, none⟩ v) := (Keeps.refl (fun k => k = p) w).setCell (p := ⟨p, 1, none⟩) (fun _ => rfl) _
  exact ⟨⟨by rw [heap_setCell_same h.blk]; rfl, h.wr.kept hk (fun e => h.pb e.symm) (fun k e e2 => h.po (e2 ▸ e)), h.pb, h.po⟩, hk⟩
theorem Pg.set2 {w : World} {p b : Nat} {o : Option Nat} {L : Bts} {u1 u2 : Value} (h : Pg w p b o L u1 u2) (v : Value) : Pg (w.setCell ⟨p, 2, none⟩ v) p b o L u1 v ∧ Keeps (fun k => k = p) w (w.setCell ⟨p, 2, none⟩ v) := by
  have hk : Keeps (fun k => k = p) w (w.setCell ⟨p, 2, none⟩ v) := (Keeps.refl (fun k => k = p) w).setCell (p := ⟨p, 2, none⟩) (fun _ => rfl) _
  exact ⟨⟨by rw [heap_setCell_same h.blk]; rfl, h.wr.kept hk (fun e => h.pb e.symm) (fun k e e2 => h.po (e2 ▸ e)), h.pb, h.po⟩, hk⟩
theorem fits_of {ys : List Int} (hm : may ys = true) (hr : room ys ≤ 32768) : fits ys = true := by unfold fits; rw [hm, decide_eq_true hr]; rfl
/-- Codes of lengths that lie at a block's beginning. -/
theorem codes_pfx (g n cap : Nat) (ys : List Int) (w : World) (hP : Pfx w g ys) (hn : ys.length = n) (hm : may ys = true) (hr : room ys ≤ 32768) :
    Calls Tryz.prog 60 #[.slice (some ⟨g, 0, none⟩) n cap] w fun e w' => ∃ q, e = .returned (.tuple #[.slice (some ⟨q, 0, none⟩) n n, .int .i64 0]) ∧ Keeps (fun _ => False) w w' ∧ w.heap.size ≤ q ∧ Cds w' q ys.length (codeF ys) := by
  have := codes_good (some ⟨g, 0, none⟩) ys cap w hP.row (by have := (may_len hm).2; omega) (fits_of hm hr)
  rw [hn] at this ⊢; exact this
def TokPost (ys ds : List Int) (ts : List Tk) (w : World) (p b : Nat) (o : Option Nat) (L : Bts) (e : Ending) (w' : World) : Prop :=
  e = .returned (.tuple #[]) ∧ ∃ o' v1 v2, Pg w' p b o' (L ++ (tksB ys ds ts ++ codeB ys 256)) v1 v2 ∧ Keeps (fun k => k = p ∨ k = b ∨ o = some k) w w'

set_option maxHeartbeats 4000000 in
set_option maxRecDepth 100000 in
theorem tokensP_ok {w : World} {p b : Nat} {o : Option Nat} {L : Bts} {u1 u2 : Value} (h : Pg w p b o L u1 u2) (ga na ca gb nb cb : Nat) (ys ds : List Int) (hA : Pfx w ga ys) (hB : Pfx w gb ds) (hna : ys.length = na) (hnb : ds.length = nb) (hF : Full ys ds) (hbp : gb ≠ p) (a : Option Addr) (cap : Nat) (ts : List Tk) (hR : RowT w a ts) (hN : ts.length ≤ 300) (hok : ∀ t ∈ ts, ∃ a, Mt.okT t a = true) (hh : ∀ t ∈ ts, hasT ys ds t) (h256 : 0 < at_ ys 256) (hL : L.length ≤ 40000) (ha : ts = [] ∨ ∀ x, a = some x → x.block ≠ p ∧ x.block ≠ b ∧ o ≠ some x.block) :
    Calls Tryz.prog 29 #[.pointer (some ⟨p, 0, none⟩), .slice a ts.length cap, .slice (some ⟨ga, 0, none⟩) na ca, .slice (some ⟨gb, 0, none⟩) nb cb] w (TokPost ys ds ts w p b o L) := by
  obtain ⟨Q, hQ⟩ : ∃ Q, TokPost ys ds ts w p b o L = Q := ⟨_, rfl⟩
  rw [hQ]
  have HQ : Hid (TokPost ys ds ts w p b o L = Q) := hQ
  clear hQ
  have hmf : ∀ (fn : Fn) (first cap : Array Value) (w : World), (Instr.makeFunc fn first cap).run Tryz.prog w = .ok (.func fn first cap) w := fun _ _ _ _ => rfl
  have HC1 := hide (codes_pfx ga na ca ys w hA hna hF.m1 hF.r1)
  have HC2 : Hid (∀ w', Keeps (fun k => k = p) w w' → Calls Tryz.prog 60 #[.slice (some ⟨gb, 0, none⟩) nb cb] w' fun e w'' => ∃ q, e = .returned (.tuple #[.slice (some ⟨q, 0, none⟩) nb nb, .int .i64 0]) ∧ Keeps (fun _ => False) w' w'' ∧ w'.heap.size ≤ q ∧ Cds w'' q ds.length (codeF ds)) := fun w' hk => codes_pfx gb nb cb ds w' (hB.kept hk hbp) hnb hF.m2 hF.r2
  have HE : Hid (∀ w' g1 g2, Keeps (fun k => k = p) w w' → Pc w' p b o L g1 ys g2 ds → Calls Tryz.prog 61 #[.slice a ts.length cap, .func (.func 62) #[.pointer (some ⟨p, 0, none⟩)] #[], .func (.func 63) #[.pointer (some ⟨p, 0, none⟩)] #[]] w' fun e w'' => e = .returned (.tuple #[]) ∧ PcOn w' w'' p b o (L ++ tksB ys ds ts) g1 ys g2 ds) := fun w' g1 g2 hk hpc => eachP_ok hpc hF (RowT.keptN hR hk (ha.imp id (fun ha x e => (ha x e).1))) hN hok hh hL (ha.imp id (fun ha x e => (ha x e).2))
  have hlen := tksB_len hF ts hok hh
  have HB : Hid (∀ w' o' g1 g2, Pc w' p b o' (L ++ tksB ys ds ts) g1 ys g2 ds → Calls Tryz.prog 62 #[.pointer (some ⟨p, 0, none⟩), .int .i64 256] w' fun e w'' => e = .returned (.tuple #[]) ∧ PcOn w' w'' p b o' (L ++ tksB ys ds ts ++ codeB ys 256) g1 ys g2 ds) := fun w' o' g1 g2 hpc => putByteP_ok hpc hF.m1 hF.r1 256 h256 (by rw [List.length_append]; omega)
  have HG : Hid (Pg w p b o L u1 u2 ∧ ys.length = na ∧ ds.length = nb) := ⟨h, hna, hnb⟩
  generalize ts.length = N at *
  clear hA hB hF hbp hR hN hok hh h256 hL ha h hna hnb hlen
  go_enter Tryz.func29, Tryz.ntmps29
  go_wp2_with fail
  refine HC1.out.mono ?_
  rintro e w1 ⟨g1, rfl, hK1, hg1, hD1⟩
  have hP1 := HG.out.1.keptF hK1
  have c1 := hP1.c1
  have f1 := hP1.free 1
  have HS1 := hide (hP1.set1 (.slice (some ⟨g1, 0, none⟩) na na))
  have H1 : Hid (Keeps (fun _ => False) w w1 ∧ w.heap.size ≤ g1 ∧ Cds w1 g1 ys.length (codeF ys)) := ⟨hK1, hg1, hD1⟩
  clear hK1 hg1 hD1 hP1 HC1
  go_wp2_with fail
  generalize hw2 : World.setCell w1 _ _ = w2 at *
  have HK2 : Hid (Keeps (fun k => k = p) w w2) := (H1.out.1.mono (fun _ _ h => h.elim)).trans HS1.out.2 (fun _ _ h => h)
  refine (HC2.out w2 HK2.out).mono ?_
  rintro e w3 ⟨g2, rfl, hK3, hg2, hD2⟩
  have hP3 := HS1.out.1.keptF hK3
  have c2 := hP3.c2
  have f2 := hP3.free 2
  have HS2 := hide (hP3.set2 (.slice (some ⟨g2, 0, none⟩) nb nb))
  have H3 : Hid (Keeps (fun k => k = p) w w3 ∧ w2.heap.size ≤ g2 ∧ Cds w3 g2 ds.length (codeF ds) ∧ Cds w3 g1 ys.length (codeF ys) ∧ w.heap.size ≤ g1) := by
    refine ⟨HK2.out.trans hK3 (fun _ _ h => h.elim), hg2, hD2, (H1.out.2.2.kept HS1.out.2 ?_).kept hK3 (fun h => h), H1.out.2.1⟩
    have := HG.out.1.lt; have := H1.out.2.1; omega
  clear hK3 hg2 hD2 hP3 HC2 H1
  go_wp2_with fail
  generalize hw4 : World.setCell w3 _ _ = w4 at *
  have HP4 : Hid (Pc w4 p b o L g1 ys g2 ds ∧ Keeps (fun k => k = p) w w4) := by
    have l0 := HG.out.1.lt
    have lb := HG.out.1.wr.lt
    have lo := HG.out.1.wr.own
    obtain ⟨k1, k2, k3, k4, k5⟩ := H3.out
    have z2 := HK2.out.size
    have hpg := HS2.out.1
    rw [← HG.out.2.1, ← HG.out.2.2] at hpg
    refine ⟨⟨hpg, k4.kept HS2.out.2 (by omega), k3.kept HS2.out.2 (by omega), ⟨by omega, fun e => ?_⟩, ⟨by omega, fun e => ?_⟩⟩, k1.trans HS2.out.2 (fun _ _ h => h)⟩
    · have := lo _ e; omega
    · have := lo _ e; omega
  clear HS1 HS2 H3 hw2 hw4 HK2
  refine (HE.out w4 g1 g2 HP4.out.2 HP4.out.1).mono ?_
  rintro e w5 ⟨rfl, hO5⟩
  obtain ⟨o5, q1, q2, q3⟩ := hO5
  have H5 : Hid ((o5 = o ∨ ∃ g, o5 = some g ∧ w4.heap.size ≤ g) ∧ Keeps (fun k => k = b ∨ o = some k) w4 w5) := ⟨q2, q3⟩
  have HB2 := hide (HB.out w5 o5 g1 g2 q1)
  clear q1 q2 q3 HE HB
  go_wp2_with fail
  refine HB2.out.mono ?_
  rintro e w6 ⟨rfl, hO6⟩
  have H6 : Hid (TokPost ys ds ts w p b o L (.returned (.tuple #[])) w6) := by
    obtain ⟨o6, r1, r2, r3⟩ := hO6
    have hs := own_step H5.out.1 H5.out.2 r2 r3
    refine ⟨rfl, o6, _, _, by rw [← List.append_assoc]; exact r1.pg, ?_⟩
    exact (HP4.out.2.mono (fun _ _ h => .inl h)).trans hs.2 (fun _ _ h => .inr h)
  clear hO6 HB2
  go_wp2
  go_end0
  rw [← HQ.out]
  exact H6.out

end Go.Proofs.YtdbfbijalhknnabGreat.Bk

namespace Go.Proofs.YtdbfbijalhknnabGreat
open Go.RowKit
set_option linter.unusedVariables false
set_option linter.unusedSimpArgs false

set_option maxHeartbeats 400000 in
theorem of_any (s : ByteArray) (w : World) :
    Calls Tryz.prog 48 #[.string s] w fun e w' => e = .returned (.pointer (some ⟨w.heap.size, 0, none⟩)) ∧ w' = w.alloc (.cells #[.string s, .int .i64 0] 120) := by
  go_enter Tryz.func48, Tryz.ntmps48
  go_wp2
  go_ret
  exact ⟨rfl, rfl⟩

set_option maxHeartbeats 400000 in
theorem num_any (n : Int) (w : World) :
    Calls Tryz.prog 15 #[.int .i64 n] w fun e w' => e = .returned (.int .i64 n) ∧ w' = w := by
  go_enter Tryz.func15, Tryz.ntmps15
  go_wp2
  go_ret
  exact ⟨rfl, rfl⟩

set_option maxHeartbeats 400000 in
theorem whole_any (n : Int) (w : World) (h0 : 0 ≤ n) (h1 : n ≤ 4503599627370496) :
    Calls Tryz.prog 55 #[.int .i64 n] w fun e w' => e = .returned (.int .i64 ((n + 7) / 8 * 8)) ∧ w' = w := by
  go_enter Tryz.func55, Tryz.ntmps55
  go_wp2
  go_ret
  exact ⟨rfl, rfl⟩

set_option maxHeartbeats 400000 in
theorem at_any (b : Nat) (n : Int) (w : World) (hc : w.cell? ⟨b, 1, none⟩ = some (.int .i64 n)) :
    Calls Tryz.prog 51 #[.pointer (some ⟨b, 0, none⟩)] w fun e w' => e = .returned (.int .i64 n) ∧ w' = w := by
  go_enter Tryz.func51, Tryz.ntmps51
  go_wp2
  go_ret
  exact ⟨rfl, rfl⟩

end Go.Proofs.YtdbfbijalhknnabGreat

namespace Go.Proofs.YtdbfbijalhknnabGreat
open Go.RowKit
set_option linter.unusedVariables false
set_option linter.unusedSimpArgs false

/-- A reader lies in block b, reads s and stands at bit p. -/
def Rd (T : TypeId) (w : World) (b : Nat) (s : ByteArray) (p : Nat) : Prop := w.heap[b]? = some (.cells #[.string s, .int .i64 p] T (0, 0))


set_option maxHeartbeats 400000 in
set_option maxRecDepth 100000 in
theorem next_at (b p q r : Nat) (s : ByteArray) (w : World) (hs : (s.size : Int) ≤ 281474976710656) (hp : (p : Int) < 8 * s.size) (hpq : (p : Int) / 8 = (q : Int)) (hpr : (p : Int) % 8 = (r : Int)) (htq : (p : Int).tdiv 8 = (q : Int)) (htr : (p : Int).tmod 8 = (r : Int)) (hwq : IntKind.i64.wrap (q : Int) = q) (hwr : IntKind.i64.wrap (r : Int) = r) (hr : (r : Int) < 8) (hr1 : (0 : Int) ≤ r) (hq0 : (0 : Int) ≤ q) (hq : (q : Int) < s.size) (hq' : q < s.size)
    (h0 : w.cell? ⟨b, 0, none⟩ = some (.string s)) (h1 : w.cell? ⟨b, 1, none⟩ = some (.int .i64 p)) (f1 : w.frozen? ⟨b, 1, none⟩ = false) :
    Calls Tryz.prog 128 #[.pointer (some ⟨b, 0, none⟩)] w fun e w' => e = .returned (.int .i64 (bits BinOp.and IntKind.i64 (wrap64 (s[q].toNat : Int) / 2 ^ r) 1)) ∧ ∃ n, w' = (w.drewN n).setCell ⟨b, 1, none⟩ (.int .i64 (p + 1)) := by
  go_enter Tryz.func128, Tryz.ntmps128
  go_wp2
  go_quiet (fail)
  go_wp2
  go_ret
  exact ⟨rfl, _, rfl⟩

/-- What a call on a reader leaves. -/
def Read (T : TypeId) (w w' : World) (b : Nat) (s : ByteArray) (p : Nat) : Prop := Rd T w' b s p ∧ Keeps (fun k => k = b) w w'

theorem Read.trans {T : TypeId} {w w' w'' : World} {b : Nat} {s : ByteArray} {p p' : Nat} (h : Read T w w' b s p) (h' : Read T w' w'' b s p') : Read T w w'' b s p' := ⟨h'.1, h.2.trans h'.2 (fun _ _ h => h)⟩

theorem next_ok (b p : Nat) (s : ByteArray) (w : World) (hs : s.size ≤ 281474976710656) (hp : p < 8 * s.size) (hR : Rd 120 w b s p) :
    Calls Tryz.prog 128 #[.pointer (some ⟨b, 0, none⟩)] w fun e w' => e = .returned (.int .i64 ((bitAt (bytesOf s) p).toNat : Int)) ∧ Read 120 w w' b s (p + 1) := by
  have hq' : p / 8 < s.size := by omega
  refine (next_at b p (p / 8) (p % 8) s w (by omega) (by omega) (by omega) (by omega) (by rw [Int.tdiv_eq_ediv_of_nonneg (by omega)]; omega) (by rw [Int.tmod_eq_emod_of_nonneg (by omega)]; omega) (wrap_i64_small _ (by omega) (by omega)) (wrap_i64_small _ (by omega) (by omega)) (by omega) (by omega) (by omega) (by omega) hq' (cell_of_heap (i := 0) hR rfl) (cell_of_heap (i := 1) hR rfl) (frozen_of_heap (i := 1) hR)).mono ?_
  rintro e w' ⟨rfl, n, rfl⟩
  have hb : s[p / 8].toNat < 256 := UInt8.toNat_lt _
  refine ⟨?_, ?_, ?_⟩
  · rw [show wrap64 (s[p / 8].toNat : Int) = (s[p / 8].toNat : Int) by simp only [wrap64]; omega, i64_bit _ _ (by omega)]
    unfold bitAt
    rw [bytesOf_get s (p / 8) hq']
  · show ((w.drewN n).setCell ⟨b, 1, none⟩ _).heap[b]? = _
    rw [heap_setCell_same (i := 1) (w := w.drewN n) (show (w.drewN n).heap[b]? = _ from hR)]
    simp
  · exact ((Keeps.refl (fun k => k = b) w).drewN n).setCell (p := ⟨b, 1, none⟩) (fun _ => rfl) _

set_option maxHeartbeats 1000000 in
set_option maxRecDepth 100000 in
theorem gather_ok (b p k : Nat) (s : ByteArray) (w : World) (hk : (k : Int) ≤ 16) (hs : s.size ≤ 281474976710656) (hp : p + k ≤ 8 * s.size) (hR : Hid (Rd 120 w b s p)) :
    Calls Tryz.prog 127 #[.int .i64 k, .func (.func 128) #[.pointer (some ⟨b, 0, none⟩)] #[]] w fun e w' => e = .returned (.int .i64 ((val (readBits (bytesOf s) p k) : Nat) : Int)) ∧ Read 120 w w' b s (p + k) := by
  have HS : Hid (s.size ≤ 281474976710656) := hs
  have HP : Hid (p + k ≤ 8 * s.size) := hp
  clear hs hp
  go_enter Tryz.func127, Tryz.ntmps127
  go_wp2
  go_loopw [5, 8] (fun x i w' => ∃ j : Nat, j ≤ k ∧ i = .int .i64 j ∧ x = .int .i64 ((val (readBits (bytesOf s) p j) : Nat) : Int) ∧ Read 120 w w' b s (p + j)) (fun _ i _ => k - (intOf i).toNat)
  case atStart => exact ⟨0, Nat.zero_le _, rfl, rfl, hR.out, Keeps.refl _ _⟩
  case round =>
    obtain ⟨j, hj, rfl, rfl, hrd⟩ := hrel
    have HR : Hid (Read 120 w wr b s (p + j)) := hrd
    clear hrd
    by_cases hlt : j < k
    · go_wp2_with fail
      refine (next_ok b (p + j) s wr HS.out (by have := HP.out; omega) HR.out.1).mono ?_
      rintro e w2 ⟨rfl, h2⟩
      have H2 : Hid (Read 120 w w2 b s (p + (j + 1))) := HR.out.trans h2
      clear h2
      go_wp2
      go_roundw
      case rel =>
        refine ⟨j + 1, by omega, by go_num, ?_, H2.out⟩
        rw [i64_or_low _ j _ (by have := val_lt (readBits (bytesOf s) p j); rw [readBits_length] at this; exact this) (by omega), readBits_succ, val_append, readBits_length]
        simp [val]
      case measure => simp [intOf]; omega
    · go_wp2
      go_ret
      have : j = k := by omega
      subst this
      exact ⟨rfl, HR.out⟩


set_option maxHeartbeats 400000 in
theorem get_nil (k : Int) (w : World) :
    Calls Tryz.prog 110 #[.pointer none, .int .i64 k] w fun e w' => e = .returned (.tuple #[.int .i64 0, .int .i64 1]) ∧ w' = w := by
  go_enter Tryz.func110, Tryz.ntmps110
  go_wp2
  go_ret2
  exact ⟨rfl, rfl⟩

set_option maxHeartbeats 400000 in
theorem get_out (b : Nat) (k : Int) (w : World) (h : k < 0 ∨ 16 < k) :
    Calls Tryz.prog 110 #[.pointer (some ⟨b, 0, none⟩), .int .i64 k] w fun e w' => e = .returned (.tuple #[.int .i64 0, .int .i64 100]) ∧ w' = w := by
  by_cases h1 : k < 0
  · go_enter Tryz.func110, Tryz.ntmps110
    go_wp2
    go_ret2
    exact ⟨rfl, rfl⟩
  · have h2 : 16 < k := by omega
    go_enter Tryz.func110, Tryz.ntmps110
    go_wp2
    go_ret2
    exact ⟨rfl, rfl⟩

set_option maxHeartbeats 400000 in
set_option maxRecDepth 100000 in
theorem get_end_at (b p k : Nat) (s : ByteArray) (w : World) (hk : (k : Int) ≤ 16) (hs : (s.size : Int) ≤ 281474976710656) (hp : (p : Int) ≤ 8 * s.size) (h : 8 * (s.size : Int) - p < k)
    (h0 : w.cell? ⟨b, 0, none⟩ = some (.string s)) (h1 : w.cell? ⟨b, 1, none⟩ = some (.int .i64 p)) :
    Calls Tryz.prog 110 #[.pointer (some ⟨b, 0, none⟩), .int .i64 k] w fun e w' => e = .returned (.tuple #[.int .i64 0, .int .i64 101]) ∧ ∃ n, w' = w.drewN n := by
  have h2 : ¬ (k : Int) < 0 := by omega
  have h3 : ¬ 16 < (k : Int) := by omega
  go_enter Tryz.func110, Tryz.ntmps110
  go_wp2
  go_quiet (fail)
  go_wp2
  go_ret2
  exact ⟨rfl, _, rfl⟩

set_option maxHeartbeats 400000 in
set_option maxRecDepth 100000 in
theorem get_ok (b p k : Nat) (s : ByteArray) (w : World) (hk : (k : Int) ≤ 16) (hs : (s.size : Int) ≤ 281474976710656) (hp : (p : Int) + k ≤ 8 * s.size) (hR : Hid (Rd 120 w b s p)) :
    Calls Tryz.prog 110 #[.pointer (some ⟨b, 0, none⟩), .int .i64 k] w fun e w' => e = .returned (.tuple #[.int .i64 ((val (readBits (bytesOf s) p k) : Nat) : Int), .int .i64 0]) ∧ Read 120 w w' b s (p + k) := by
  have h2 : ¬ (k : Int) < 0 := by omega
  have h3 : ¬ 16 < (k : Int) := by omega
  have h4 : ¬ 8 * (s.size : Int) - p < k := by omega
  have h0 : w.cell? ⟨b, 0, none⟩ = some (.string s) := cell_of_heap (i := 0) hR.out rfl
  have h1 : w.cell? ⟨b, 1, none⟩ = some (.int .i64 p) := cell_of_heap (i := 1) hR.out rfl
  have hmf : ∀ (fn : Fn) (first cap : Array Value) (w : World), (Instr.makeFunc fn first cap).run Tryz.prog w = .ok (.func fn first cap) w := fun _ _ _ _ => rfl
  go_enter Tryz.func110, Tryz.ntmps110
  go_wp2
  go_quiet (fail)
  go_wp2_with fail
  refine (gather_ok b p k s (w.drewN nq) hk (by omega) (by omega) (show Rd 120 (w.drewN nq) b s p from hR.out)).mono ?_
  rintro e w' ⟨rfl, hrd⟩
  have HN : Hid (Read 120 w w' b s (p + k)) := ⟨hrd.1, ((Keeps.refl (fun k => k = b) w).drewN nq).trans hrd.2 (fun _ _ h => h)⟩
  clear hrd h0 h1
  go_wp2
  go_ret2
  exact ⟨rfl, HN.out⟩

theorem get_end (b p : Nat) (k : Int) (s : ByteArray) (w : World) (hk0 : 0 ≤ k) (hk : k ≤ 16) (hs : s.size ≤ 281474976710656) (hp : p ≤ 8 * s.size) (h : 8 * (s.size : Int) - p < k) (hR : Rd 120 w b s p) :
    Calls Tryz.prog 110 #[.pointer (some ⟨b, 0, none⟩), .int .i64 k] w fun e w' => e = .returned (.tuple #[.int .i64 0, .int .i64 101]) ∧ Read 120 w w' b s p := by
  obtain ⟨n, rfl⟩ := Int.eq_ofNat_of_zero_le hk0
  refine (get_end_at b p n s w hk (by omega) (by omega) h (cell_of_heap (i := 0) hR rfl) (cell_of_heap (i := 1) hR rfl)).mono ?_
  rintro e w' ⟨rfl, m, rfl⟩
  exact ⟨rfl, show Rd 120 (w.drewN m) b s p from hR, (Keeps.refl _ w).drewN m⟩

set_option maxHeartbeats 400000 in
theorem ralign_at (b n : Nat) (w : World) (hn : (n : Int) ≤ 4503599627370496) (hc : w.cell? ⟨b, 1, none⟩ = some (.int .i64 n)) (hf : w.frozen? ⟨b, 1, none⟩ = false) :
    Calls Tryz.prog 50 #[.pointer (some ⟨b, 0, none⟩)] w fun e w' => e = .returned (.int .i64 0) ∧ w' = w.setCell ⟨b, 1, none⟩ (.int .i64 (((n : Int) + 7) / 8 * 8)) := by
  go_enter Tryz.func50, Tryz.ntmps50
  go_wp2_with fail
  refine (whole_any (n : Int) _ (by omega) (by omega)).mono ?_
  rintro e w' ⟨rfl, hw⟩
  obtain rfl := hw.symm
  go_wp2
  go_ret
  exact ⟨rfl, rfl⟩

theorem ralign_ok (b p : Nat) (s : ByteArray) (w : World) (hs : s.size ≤ 281474976710656) (hp : p ≤ 8 * s.size) (hR : Rd 120 w b s p) :
    Calls Tryz.prog 50 #[.pointer (some ⟨b, 0, none⟩)] w fun e w' => e = .returned (.int .i64 0) ∧ Read 120 w w' b s ((p + 7) / 8 * 8) := by
  refine (ralign_at b p w (by omega) (cell_of_heap (i := 1) hR rfl) (frozen_of_heap (i := 1) hR)).mono ?_
  rintro e w' ⟨rfl, rfl⟩
  refine ⟨rfl, ?_, (Keeps.refl (fun k => k = b) w).setCell (p := ⟨b, 1, none⟩) (fun _ => rfl) _⟩
  show (w.setCell ⟨b, 1, none⟩ _).heap[b]? = _
  rw [heap_setCell_same (i := 1) hR]
  simp

theorem at_ok (b p : Nat) (s : ByteArray) (w : World) (hR : Rd 120 w b s p) :
    Calls Tryz.prog 51 #[.pointer (some ⟨b, 0, none⟩)] w fun e w' => e = .returned (.int .i64 p) ∧ w' = w :=
  at_any b _ w (cell_of_heap (i := 1) hR rfl)

theorem Rd.lt {T : TypeId} {w : World} {b : Nat} {s : ByteArray} {p : Nat} (h : Rd T w b s p) : b < w.heap.size := lt_of_heap h
theorem Rd.kept {T : TypeId} {S : Nat → Prop} {w w' : World} {b : Nat} {s : ByteArray} {p : Nat} (h : Rd T w b s p) (hk : Keeps S w w') (hb : ¬ S b) : Rd T w' b s p := (hk.block b h.lt hb).trans h

end Go.Proofs.YtdbfbijalhknnabGreat

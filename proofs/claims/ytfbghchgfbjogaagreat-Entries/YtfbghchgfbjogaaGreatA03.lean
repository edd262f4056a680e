/-
  The program's Put: may, flagOf, the maker's head, Put itself. The program's Get: the taker's head, Get itself. Entries copied, held against each other, written over. The symbols of lengths and distances in plain numbers (no program in sight). Rows of a reckoned table: blocks of pairs, and the calls that make them. Numbers multiplied as Repeat does it, and a row of one number repeated.
-/
import Derived.Test.YtfbghchgfbjogaaGreatRows
import Derived.Test.YtfbghchgfbjogaaGreatA02
import Derived.WalkKit
import Derived.WalkSpells
import Derived.WalkLawsBesides
import Derived.Deep.MidRow
import Derived.Laws.ResultCell
import Derived.BigQuiet
import Derived.BigRegion
import Derived.OwnWalk
import Derived.Laws.CopyOwn
import Derived.Laws.OwnMore
import Derived.Laws.Bits64b
namespace Go.Proofs.YtfbghchgfbjogaaGreat.Zp
open Go.RowKit
set_option linter.unusedVariables false
set_option linter.unusedSimpArgs false

theorem headB_no {ys : List Int} {st nd : Int} (h : mayB ys = false ∨ st < 1 ∨ 1048576 < st ∨ nd < 0 ∨ 4 ≤ nd) : headB ys st nd = false := by
  cases e : headB ys st nd
  · rfl
  · have h1 := headB_may e
    have h2 := headB_st e
    rcases h with h | h | h | h | h
    · rw [h1] at h; cases h
    all_goals omega

set_option maxHeartbeats 4000000 in
set_option maxRecDepth 1000000 in
theorem xmay_ok (e : Ent) (ys : List Int) (w : World) (hv : e.vn = ys.length) (hR : Row w e.va ys) (hn : ys.length ≤ 1125899906842624) :
    Calls Tryz.prog 93 #[.agg #[.string e.nm, .bool e.gn, .slice e.va e.vn e.vc, .int .i64 e.st, .int .i64 e.nd, .int .i64 e.mt, .string e.pk, .int .i64 e.sz, .int .i64 e.cr]] w fun r w' => r = .returned (.bool (headB ys e.st e.nd)) ∧ Keeps (fun _ => False) w w' := by
  have HM : Hid (∀ w', Keeps (fun _ => False) w w' → Calls Tryz.prog 38 #[.slice e.va e.vn e.vc] w' fun r w'' => r = .returned (.bool (mayB ys)) ∧ w'' = w') := fun w' hk => by rw [hv]; exact may_ok _ ys _ w' (hR.keptF hk) hn
  have HN := @headB_no ys e.st e.nd
  have HY := @headB_of ys e.st e.nd
  clear hv hR hn
  cases hm : mayB ys
  · rw [HN (.inl hm)]
    rw [hm] at HM
    clear HN HY hm
    go_enter Tryz.func93, Tryz.ntmps93
    go_wp2_with (first
      | (refine wpList_box9 rfl _ rfl e rfl ?_; intro b w1 hE hK hb; have HK : Hid (Keeps (fun _ => False) w w1) := hK; have c2 := hE.c2; clear hK hb hE)
      | (go_at_call 38; refine (HM.out w1 HK.out).mono ?_; rintro r w' ⟨rfl, hw⟩; obtain rfl := hw.symm; clear hw))
    go_ret
    exact ⟨rfl, HK.out⟩
  · rw [hm] at HM
    have hall : (¬ 1 ≤ e.st) ∨ (1 ≤ e.st ∧ ¬ e.st ≤ 1048576) ∨ (1 ≤ e.st ∧ e.st ≤ 1048576 ∧ ¬ 0 ≤ e.nd) ∨ (1 ≤ e.st ∧ e.st ≤ 1048576 ∧ 0 ≤ e.nd ∧ ¬ e.nd < 4) ∨ (1 ≤ e.st ∧ e.st ≤ 1048576 ∧ 0 ≤ e.nd ∧ e.nd < 4) := by omega
    rcases hall with h | ⟨h1, h⟩ | ⟨h1, h2, h⟩ | ⟨h1, h2, h3, h⟩ | ⟨h1, h2, h3, h4⟩
    all_goals
      first
        | rw [HN (by omega)]
        | rw [HY hm ⟨h1, h2⟩ ⟨h3, h4⟩]
      clear HN HY hm
      go_enter Tryz.func93, Tryz.ntmps93
      go_wp2_with (first
        | (refine wpList_box9 rfl _ rfl e rfl ?_; intro b w1 hE hK hb; have HK : Hid (Keeps (fun _ => False) w w1) := hK; have c2 := hE.c2; have c3 := hE.c3; have c4 := hE.c4; clear hK hb hE)
        | (go_at_call 38; refine (HM.out w1 HK.out).mono ?_; rintro r w' ⟨rfl, hw⟩; obtain rfl := hw.symm; clear hw))
      go_ret
      exact ⟨by first | rfl | (show Ending.returned (.bool (decide (e.nd < 4))) = _; rw [decide_eq_false (by omega)]), HK.out⟩

set_option maxHeartbeats 400000 in
theorem flag_ok (g : Bool) (w : World) : Calls Tryz.prog 106 #[.bool g] w fun r w' => r = .returned (.int .i64 (g.toNat : Int)) ∧ w' = w := by
  cases g <;>
    (go_enter Tryz.func106, Tryz.ntmps106
     go_wp2
     go_ret
     exact ⟨rfl, rfl⟩)

/-- A count of a row that may be, as a natural number. -/
theorem may_nat {ys : List Int} (h : mayB ys = true) (i : Nat) : at_ ys i = ((at_ ys i).toNat : Int) ∧ (at_ ys i).toNat < 1099511627776 := by
  have := mayB_cnt h i; omega
theorem vecS_take {ys : List Int} (i : Nat) (hi : i < ys.length) : vecS (ys.take (i + 1)) = vecS (ys.take i) ++ le 4 (at_ ys i).toNat := by
  rw [List.take_succ_eq_append_getElem hi, vecS_snoc, at_eq i hi]
theorem numb_on {T : Lay} {p : Nat} {v : Value} {L : List Nat} {w1 w' : World} (n k : Nat) (h : OntoT T w1 w' p v L) (hn : n < 1099511627776) (hL : L.length + k ≤ 100000) :
    Calls Tryz.prog 105 #[.pointer (some ⟨p, 0, none⟩), .int .i64 (n : Int), .int .i64 (k : Int)] w' fun r w'' => r = .returned (.tuple #[]) ∧ OntoT T w1 w'' p v (L ++ le k n) := by
  obtain ⟨v', hT, hb, hk⟩ := h
  refine (numb_ok T p n k v' L w' hn hL hT).mono ?_
  rintro r w'' ⟨rfl, h⟩
  exact ⟨rfl, OntoT.tr hb hk h⟩
theorem OntoT.cells {T : Lay} {p : Nat} {v : Value} {L : List Nat} {w1 w' : World} (h : OntoT T w1 w' p v L) {x : Addr} (hx : x.block < w1.heap.size) (hp : x.block ≠ p) (hv : v.ownBlock ≠ some x.block) : w'.cell? x = w1.cell? x := by
  obtain ⟨_, _, _, hk⟩ := h
  exact World.cell?_of_block (hk.block x.block hx (fun h => by rcases h with h | h; exact hp h; exact hv h))

theorem OntoT.drew {T : Lay} {p : Nat} {v : Value} {L : List Nat} {w1 w' : World} (h : OntoT T w1 w' p v L) : OntoT T w1 w'.drew p v L := by
  obtain ⟨v', h1, h2, h3⟩ := h
  exact ⟨v', h1, h2, h3.drew⟩
set_option maxHeartbeats 4000000 in
set_option maxRecDepth 1000000 in
/-- What the maker's head puts. -/
theorem mhead_ok (p : Nat) (v : Value) (e : Ent) (ys : List Int) (w : World) (hv : e.vn = ys.length) (hR : Row w e.va ys) (hH : headB ys e.st e.nd = true) (hRp : ∀ x, e.va = some x → x.block ≠ p ∧ v.ownBlock ≠ some x.block) (hT : Txt 142 w p v []) :
    Calls Tryz.prog 94 #[.pointer (some ⟨p, 0, none⟩), .agg #[.string e.nm, .bool e.gn, .slice e.va e.vn e.vc, .int .i64 e.st, .int .i64 e.nd, .int .i64 e.mt, .string e.pk, .int .i64 e.sz, .int .i64 e.cr]] w fun r w' => r = .returned (.tuple #[]) ∧ OntoT 142 w w' p v (putL ys e.st e.nd e.gn) := by
  have hm := headB_may hH
  obtain ⟨hs, hd⟩ := headB_st hH
  have hl := mayB_len hm
  obtain ⟨b, off, hva, hb, hc⟩ := hR.at (by omega)
  obtain ⟨hbp, hbv⟩ := hRp _ hva
  obtain ⟨snat, hsn⟩ : ∃ n : Nat, e.st = (n : Int) := ⟨e.st.toNat, by omega⟩
  obtain ⟨dnat, hdn⟩ : ∃ n : Nat, e.nd = (n : Int) := ⟨e.nd.toNat, by omega⟩
  have HP : Hid (∀ L, L = (le 2 20592 ++ le 2 22) ++ vecS (ys.take 4) ++ le 4 snat ++ le 1 dnat ++ le 1 e.gn.toNat → putL ys e.st e.nd e.gn = L) := by
    refine (fun L hL => ?_ : ∀ L, L = (le 2 20592 ++ le 2 22) ++ vecS (ys.take 4) ++ le 4 snat ++ le 1 dnat ++ le 1 e.gn.toNat → putL ys e.st e.nd e.gn = L)
    rw [hL, putL, hsn, hdn, List.take_of_length_le (by omega)]
    simp [List.append_assoc]
  have HX : Hid (∀ b1 w1 w' L, Entb w1 b1 e → Keeps (fun _ => False) w w1 → w.heap.size ≤ b1 → OntoT 142 w1 w' p v L → (w'.cell? ⟨b1, 1, none⟩ = some (.bool e.gn) ∧ w'.cell? ⟨b1, 2, none⟩ = some (.slice (some ⟨b, off, none⟩) 4 e.vc) ∧ w'.cell? ⟨b1, 3, none⟩ = some (.int .i64 (snat : Int)) ∧ w'.cell? ⟨b1, 4, none⟩ = some (.int .i64 (dnat : Int))) ∧ ∀ i, i < 4 → w'.cell? ⟨b, off + i, none⟩ = some (.int .i64 ((at_ ys i).toNat : Int))) := by
    refine (fun b1 w1 w' L hE hK hb1 hO => ?_ : ∀ b1 w1 w' L, Entb w1 b1 e → Keeps (fun _ => False) w w1 → w.heap.size ≤ b1 → OntoT 142 w1 w' p v L → (w'.cell? ⟨b1, 1, none⟩ = some (.bool e.gn) ∧ w'.cell? ⟨b1, 2, none⟩ = some (.slice (some ⟨b, off, none⟩) 4 e.vc) ∧ w'.cell? ⟨b1, 3, none⟩ = some (.int .i64 (snat : Int)) ∧ w'.cell? ⟨b1, 4, none⟩ = some (.int .i64 (dnat : Int))) ∧ ∀ i, i < 4 → w'.cell? ⟨b, off + i, none⟩ = some (.int .i64 ((at_ ys i).toNat : Int)))
    have hp := hT.lt
    have hne : v.ownBlock ≠ some b1 := fun h => by have := (World.ownsRow.lt hT.2 b1 h).2; omega
    have hlt := hE.lt
    refine ⟨⟨(hO.cells (x := ⟨b1, 1, none⟩) hlt (by show b1 ≠ p; omega) hne).trans hE.c1, ?_, ?_, ?_⟩, fun i hi => ?_⟩
    · rw [hO.cells (x := ⟨b1, 2, none⟩) hlt (by show b1 ≠ p; omega) hne, hE.c2, hva, hv, hl]
    · rw [hO.cells (x := ⟨b1, 3, none⟩) hlt (by show b1 ≠ p; omega) hne, hE.c3, hsn]
    · rw [hO.cells (x := ⟨b1, 4, none⟩) hlt (by show b1 ≠ p; omega) hne, hE.c4, hdn]
    · rw [hO.cells (x := ⟨b, off + i, none⟩) (Nat.lt_of_lt_of_le hb hK.size) hbp hbv, hc w1 hK i (by omega)]
      rw [← (may_nat hm i).1]
  have HT : Hid (Txt 142 w p v []) := hT
  have HV : Hid (∀ i, i < 4 → vecS (ys.take (i + 1)) = vecS (ys.take i) ++ le 4 (at_ ys i).toNat) := fun i hi => vecS_take i (by omega)
  have HL : Hid (∀ i, i ≤ 4 → (vecS (ys.take i)).length ≤ 16) := fun i hi => by
    show (vecS (ys.take i)).length ≤ 16
    rw [vecS_len, List.length_take]; omega
  have HN : Hid (∀ i, (at_ ys i).toNat < 1099511627776) := fun i => (may_nat hm i).2
  have hs2 : snat < 1099511627776 := by omega
  have hd2 : dnat < 1099511627776 := by omega
  have HG : Hid (e.gn.toNat < 1099511627776) := (by cases e.gn <;> decide : e.gn.toNat < 1099511627776)
  have HF : Hid (∀ w0 L, OntoT 142 w0 w0 p v L → Keeps (fun _ => False) w w0 → True) := fun _ _ _ _ => trivial
  clear HF hT hR hH hm hs hd hc hbp hbv hRp hl hva hsn hdn hv hb
  go_enter Tryz.func94, Tryz.ntmps94
  go_wp2_with (first
    | (refine wpList_box9 rfl _ rfl e rfl ?_; intro b1 w1 hE hK hb; have HE : Hid (Entb w1 b1 e ∧ Keeps (fun _ => False) w w1 ∧ w.heap.size ≤ b1) := ⟨hE, hK, hb⟩; have HO : Hid (OntoT 142 w1 w1 p v []) := OntoT.refl (HT.out.keptF hK); clear hE hK hb)
    | (go_at_call 105; (fail_if_success (clear M1)); refine (numb_on 20592 2 HO.out (by decide) (by decide)).mono ?_; rintro r w2 ⟨rfl, h⟩; clear HO; have HO : Hid (OntoT 142 w1 w2 p v (le 2 20592)) := h; have M1 : Hid True := trivial; clear h)
    | (go_at_call 105; (fail_if_success (clear M2)); refine (numb_on 22 2 HO.out (by decide) (by decide)).mono ?_; rintro r w3 ⟨rfl, h⟩; clear HO; have HO : Hid (OntoT 142 w1 w3 p v (le 2 20592 ++ le 2 22)) := h; have M2 : Hid True := trivial; clear h; obtain ⟨⟨d1, d2, d3, d4⟩, _⟩ := HX.out b1 w1 w3 _ HE.out.1 HE.out.2.1 HE.out.2.2 HO.out))
  clear d1 d2 d3 d4
  go_loopw [17] (fun s17 w' => ∃ i : Nat, i ≤ 4 ∧ s17 = .int .i64 (i : Int) ∧ Hid (OntoT 142 w1 w' p v ((le 2 20592 ++ le 2 22) ++ vecS (ys.take i)))) (fun s17 _ => (4 - intOf s17).toNat)
  case atStart => exact ⟨0, by omega, rfl, by (have h : OntoT 142 w1 w3 p v (le 2 20592 ++ le 2 22 ++ vecS (ys.take 0)) := by simpa [vecS] using HO.out); exact h⟩
  case round =>
    clear HO
    obtain ⟨i, hi, rfl, HO⟩ := hrel
    obtain ⟨⟨d1, d2, d3, d4⟩, hc⟩ := HX.out b1 w1 wr _ HE.out.1 HE.out.2.1 HE.out.2.2 HO.out
    have hl := HL.out i hi
    by_cases hin : i < 4
    · have hiz : (i : Int) < 4 := by omega
      have hci := hc i hin
      have HV1 := HV.out i hin
      have hn := HN.out i
      clear d1 d2 d3 d4 hc
      generalize (at_ ys i).toNat = n at *
      have HV2 : Hid (vecS (ys.take (i + 1)) = vecS (ys.take i) ++ le 4 n) := HV1
      clear HV1
      go_wp2_with (go_at_call 105; refine (numb_on n 4 HO.out hn (by simp [le_len]; omega)).mono ?_; rintro r w4 ⟨rfl, h⟩; have HO4 : Hid (OntoT 142 w1 w4 p v ((le 2 20592 ++ le 2 22) ++ vecS (ys.take (i + 1)))) := (by rw [HV2.out, ← List.append_assoc]; exact h : OntoT 142 w1 w4 p v ((le 2 20592 ++ le 2 22) ++ vecS (ys.take (i + 1)))); clear h)
      go_roundw
      case rel => exact ⟨i + 1, by omega, by push_cast; rfl, HO4⟩
      case measure => simp [intOf]; omega
    · obtain rfl : i = 4 := by omega
      clear hc
      obtain ⟨L, hL⟩ : ∃ L, (le 2 20592 ++ le 2 22) ++ vecS (ys.take 4) = L := ⟨_, rfl⟩
      have hLl : L.length ≤ 20 := by rw [← hL]; simp only [List.length_append, le_len]; omega
      have HD : Hid (OntoT 142 w1 wr.drew p v L) := (by rw [← hL]; exact HO.out.drew : OntoT 142 w1 wr.drew p v L)
      have HPL : Hid ((le 2 20592 ++ le 2 22) ++ vecS (ys.take 4) = L) := hL
      clear HO hl hL
      go_wp2
      go_region_held3 (fun w' => w'.cell? ⟨b1, 3, none⟩ = some (.int .i64 (snat : Int))) (go_keep)
        (first | (go_at_call 105; refine (numb_on snat 4 HD.out hs2 (by omega)).mono ?_; rintro r w4 ⟨rfl, h⟩; obtain ⟨⟨q1, q2, q3, q4⟩, _⟩ := HX.out b1 w1 w4 _ HE.out.1 HE.out.2.1 HE.out.2.2 h; have HO4 : Hid (OntoT 142 w1 w4 p v (L ++ le 4 snat)) := h; clear h))
      go_wp2
      have HD4 : Hid (OntoT 142 w1 w4.drew p v (L ++ le 4 snat)) := HO4.out.drew
      clear HO4 HD d1 d2 d3 d4
      go_region_held3 (fun w' => w'.cell? ⟨b1, 4, none⟩ = some (.int .i64 (dnat : Int))) (go_keep)
        (first | (go_at_call 105; refine (numb_on dnat 1 HD4.out hd2 (by simp [le_len]; omega)).mono ?_; rintro r w5 ⟨rfl, h⟩; obtain ⟨⟨t1, t2, t3, t4⟩, _⟩ := HX.out b1 w1 w5 _ HE.out.1 HE.out.2.1 HE.out.2.2 h; have HO5 : Hid (OntoT 142 w1 w5 p v (L ++ le 4 snat ++ le 1 dnat)) := h; clear h))
      go_wp2
      have HD5 : Hid (OntoT 142 w1 w5.drew p v (L ++ le 4 snat ++ le 1 dnat)) := HO5.out.drew
      clear HO5 HD4 q1 q2 q3 q4
      go_region_held3 (fun w' => w'.cell? ⟨b1, 1, none⟩ = some (.bool e.gn)) (go_keep)
        (first | (go_at_call 106; refine (flag_ok _ _).mono ?_; rintro r w' ⟨rfl, hw⟩; obtain rfl := hw.symm; clear hw)
               | (go_at_call 105; refine (numb_on e.gn.toNat 1 HD5.out HG.out (by simp [le_len]; omega)).mono ?_; rintro r w6 ⟨rfl, h⟩; obtain ⟨⟨r1, r2, r3, r4⟩, _⟩ := HX.out b1 w1 w6 _ HE.out.1 HE.out.2.1 HE.out.2.2 h; have HO6 : Hid (OntoT 142 w1 w6 p v (L ++ le 4 snat ++ le 1 dnat ++ le 1 e.gn.toNat)) := h; clear h))
      go_wp2
      go_end0
      refine ⟨rfl, ?_⟩
      rw [HP.out _ rfl, HPL.out]
      obtain ⟨v', g1, g2, g3⟩ := HO6.out
      refine ⟨v', g1, ?_, (HE.out.2.1.mono (fun _ _ h => h.elim)).trans g3 (fun i hi h => h)⟩
      rcases g2 with g2 | ⟨g, e1, e2⟩
      · exact .inl g2
      · exact .inr ⟨g, e1, Nat.le_trans HE.out.2.1.size e2⟩

theorem Row.lt {w : World} {a : Option Addr} {ys : List Int} (h : Row w a ys) (hn : 0 < ys.length) : ∀ x, a = some x → x.block < w.heap.size := by
  intro x hx
  obtain ⟨b, off, e, hb, _⟩ := h.spot hn
  rw [hx] at e
  cases e
  exact hb

set_option maxHeartbeats 4000000 in
set_option maxRecDepth 1000000 in
theorem put_ok (e : Ent) (ys : List Int) (w : World) (hv : e.vn = ys.length) (hR : Row w e.va ys) (hn : ys.length ≤ 1125899906842624) :
    Calls Tryz.prog 72 #[.agg #[.string e.nm, .bool e.gn, .slice e.va e.vn e.vc, .int .i64 e.st, .int .i64 e.nd, .int .i64 e.mt, .string e.pk, .int .i64 e.sz, .int .i64 e.cr]] w fun r w' => r = .returned (.tuple #[.string (putT ys e.st e.nd e.gn), .int .i64 (pErr ys e.st e.nd)]) ∧ Keeps (fun _ => False) w w' := by
  have HM : Hid (∀ w', Keeps (fun _ => False) w w' → Calls Tryz.prog 93 #[.agg #[.string e.nm, .bool e.gn, .slice e.va e.vn e.vc, .int .i64 e.st, .int .i64 e.nd, .int .i64 e.mt, .string e.pk, .int .i64 e.sz, .int .i64 e.cr]] w' fun r w'' => r = .returned (.bool (headB ys e.st e.nd)) ∧ Keeps (fun _ => False) w' w'') := fun w' hk => xmay_ok e ys w' hv (hR.keptF hk) hn
  cases hh : headB ys e.st e.nd
  · have E1 : putT ys e.st e.nd e.gn = ⟨#[]⟩ := by simp [putT, hh, textOf]
    have E2 : pErr ys e.st e.nd = 1200 := by simp [pErr, hh]
    rw [hh] at HM
    rw [E1, E2]
    clear hh E1 E2 hv hR hn
    go_enter Tryz.func72, Tryz.ntmps72
    go_wp2_with (first
      | (refine wpList_box9 rfl _ rfl e rfl ?_; intro b w1 hE hK hb; have HE : Hid (Entb w1 b e ∧ Keeps (fun _ => False) w w1) := ⟨hE, hK⟩; clear hE hK hb)
      | (refine wpList_load9 rfl _ rfl b 0 rfl e ?hA ?_; (case hA => exact HE.out.1.at))
      | (go_at_call 93; refine (HM.out w1 HE.out.2).mono ?_; rintro r w2 ⟨rfl, h⟩; have HK2 : Hid (Keeps (fun _ => False) w w2) := HE.out.2.trans h (fun _ _ h => h); clear h))
    go_ret2
    exact ⟨rfl, HK2.out⟩
  · have hl := mayB_len (headB_may hh)
    have E1 : putT ys e.st e.nd e.gn = textOf (putL ys e.st e.nd e.gn) := by simp [putT, hh]
    have E2 : pErr ys e.st e.nd = 0 := by simp [pErr, hh]
    have HH : Hid (∀ w2, Keeps (fun _ => False) w w2 → Calls Tryz.prog 94 #[.pointer (some ⟨w2.heap.size, 0, none⟩), .agg #[.string e.nm, .bool e.gn, .slice e.va e.vn e.vc, .int .i64 e.st, .int .i64 e.nd, .int .i64 e.mt, .string e.pk, .int .i64 e.sz, .int .i64 e.cr]] (w2.alloc (.cells #[.slice none 0 0] 142)) fun r w' => r = .returned (.tuple #[]) ∧ ∃ v', Txt 142 w' w2.heap.size v' (putL ys e.st e.nd e.gn) ∧ Keeps (fun _ => False) w w') := by
      refine (fun w2 hk => ?_ : ∀ w2, Keeps (fun _ => False) w w2 → Calls Tryz.prog 94 #[.pointer (some ⟨w2.heap.size, 0, none⟩), .agg #[.string e.nm, .bool e.gn, .slice e.va e.vn e.vc, .int .i64 e.st, .int .i64 e.nd, .int .i64 e.mt, .string e.pk, .int .i64 e.sz, .int .i64 e.cr]] (w2.alloc (.cells #[.slice none 0 0] 142)) fun r w' => r = .returned (.tuple #[]) ∧ ∃ v', Txt 142 w' w2.heap.size v' (putL ys e.st e.nd e.gn) ∧ Keeps (fun _ => False) w w')
      refine (mhead_ok w2.heap.size (.slice none 0 0) e ys _ hv (hR.keptF (hk.alloc _)) hh (fun x hx => ⟨?_, by simp [Value.ownBlock]⟩) (Txt.new _ w2)).mono ?_
      · have := hR.lt (by omega) x hx
        have := hk.size
        omega
      · rintro r w' ⟨rfl, v', g1, _, g3⟩
        refine ⟨rfl, v', g1, (hk.alloc _).trans g3 (fun i hi h => ?_)⟩
        have := hk.size
        rcases h with h | h
        · omega
        · simp [Value.ownBlock] at h
    have HB : Hid (∀ y ∈ putL ys e.st e.nd e.gn, y < 256) := putL_lt _ _ _ _
    rw [hh] at HM
    rw [E1, E2]
    generalize putL ys e.st e.nd e.gn = L at *
    clear hh E1 E2 hv hR hn hl
    go_enter Tryz.func72, Tryz.ntmps72
    go_wp2_with (first
      | (refine wpList_box9 rfl _ rfl e rfl ?_; intro b w1 hE hK hb; have HE : Hid (Entb w1 b e ∧ Keeps (fun _ => False) w w1) := ⟨hE, hK⟩; clear hE hK hb)
      | (refine wpList_load9 rfl _ rfl b 0 rfl e ?hA ?_; (case hA => first | exact HE.out.1.at | exact ((HE.out.1.keptF HK2.out.1).keptF ((Keeps.refl _ _).alloc _)).at))
      | (go_at_call 93; refine (HM.out w1 HE.out.2).mono ?_; rintro r w2 ⟨rfl, h⟩; have HK2 : Hid (Keeps (fun _ => False) w1 w2 ∧ Keeps (fun _ => False) w w2) := ⟨h, HE.out.2.trans h (fun _ _ h => h)⟩; clear h)
      | (go_at_call 94; refine (HH.out w2 HK2.out.2).mono ?_; rintro r w3 ⟨rfl, v', h1, h2⟩; have H3 : Hid (Txt 142 w3 w2.heap.size v' L ∧ Keeps (fun _ => False) w w3) := ⟨h1, h2⟩; clear h1 h2)
      | (go_at_call 95; refine (told_ok _ _ v' L w3 HB.out H3.out.1).mono ?_; rintro r w' ⟨rfl, hw⟩; obtain rfl := hw.symm; clear hw))
    go_ret2
    exact ⟨rfl, H3.out.2⟩

end Go.Proofs.YtfbghchgfbjogaaGreat.Zp

namespace Go.Proofs.YtfbghchgfbjogaaGreat.Zp
open Go.RowKit
set_option linter.unusedVariables false
set_option linter.unusedSimpArgs false

def Ent.row (g : Nat) (st nd : Int) (gn : Bool) : Ent := ⟨⟨#[]⟩, gn, some ⟨g, 0, none⟩, 4, 4, st, nd, 0, ⟨#[]⟩, 0, 0⟩

end Go.Proofs.YtfbghchgfbjogaaGreat.Zp

namespace Go.Proofs.YtfbghchgfbjogaaGreat.Zp
open Go.RowKit
set_option linter.unusedVariables false
set_option linter.unusedSimpArgs false

/-- An entry with another vector's slice. -/
def Ent.vec (e : Ent) (a : Option Addr) (n c : Nat) : Ent := ⟨e.nm, e.gn, a, n, c, e.st, e.nd, e.mt, e.pk, e.sz, e.cr⟩

set_option maxHeartbeats 4000000 in
set_option maxRecDepth 1000000 in
theorem copyE_ok (e : Ent) (ys : List Int) (w : World) (hv : e.vn = ys.length) (hR : Row w e.va ys) (hA : Came e.va ys.length e.vc) (hsz : ys.length * 8 ≤ 140737488355328) :
    Calls Tryz.prog 6 #[.agg #[.string e.nm, .bool e.gn, .slice e.va e.vn e.vc, .int .i64 e.st, .int .i64 e.nd, .int .i64 e.mt, .string e.pk, .int .i64 e.sz, .int .i64 e.cr]] w fun r w' => ∃ a n c, r = .returned (.agg #[.string (e.vec a n c).nm, .bool (e.vec a n c).gn, .slice (e.vec a n c).va (e.vec a n c).vn (e.vec a n c).vc, .int .i64 (e.vec a n c).st, .int .i64 (e.vec a n c).nd, .int .i64 (e.vec a n c).mt, .string (e.vec a n c).pk, .int .i64 (e.vec a n c).sz, .int .i64 (e.vec a n c).cr]) ∧ OwnV w' w.heap.size (.slice a n c) ys ∧ n = ys.length ∧ Keeps (fun _ => False) w w' := by
  have HR : Hid (Row w e.va ys) := hR
  have HA : Hid (Came e.va ys.length e.vc) := hA
  have HV : Hid (e.vn = ys.length) := hv
  clear hR hA hv
  go_enter Tryz.func6, Tryz.ntmps6
  go_wp2_with (first
    | (refine wpList_box9 rfl _ rfl e rfl ?_; intro b1 w1 hE hK hb; have H1 : Hid (Entb w1 b1 e ∧ Keeps (fun _ => False) w w1 ∧ w.heap.size ≤ b1) := ⟨hE, hK, hb⟩; clear hE hK hb)
    | (refine wpList_alloc9 rfl rfl ?_; intro b2 w2 hE hK hb; have H2 : Hid (Entb w2 b1 e ∧ Entb w2 b2 Ent.zero ∧ Keeps (fun _ => False) w w2 ∧ w.heap.size ≤ b1 ∧ w.heap.size ≤ b2 ∧ b1 ≠ b2) := ⟨H1.out.1.keptF hK, hE, H1.out.2.1.trans hK (fun _ _ h => h), H1.out.2.2, Nat.le_trans H1.out.2.1.size hb, (by have := H1.out.1.lt; omega)⟩; clear hE hK hb; have q2 : w2.cell? ⟨b1, 2, none⟩ = some (.slice e.va ys.length e.vc) := (by rw [H2.out.1.c2, HV.out]); have hbl : b1 < w2.heap.size := H2.out.1.lt)
    | (refine wpList_append rfl _ _ rfl rfl w2.heap.size (.slice (some ⟨w2.heap.size, 0, none⟩) 0 0) 0 [] rfl ?hown e.va ys e.vc rfl ((HR.out.keptF H2.out.2.2.1).keptF ((Keeps.refl _ w2).alloc _)) HA.out ?hb ?hsz ?_; (case hown => exact World.ownsRow_lit w2 #[] _ (Nat.le_refl _) (by decide) rfl); (case hb => simp); (case hsz => omega); intro v w3 hO hG; have hK3 : Keeps (fun _ => False) w2 w3 := ((Keeps.refl (fun _ => False) w2).alloc (Obj.cells #[] 3)).grown hG (fun k hk e => by simp [Value.ownBlock] at e; omega); have H3 : Hid (Entb w3 b1 e ∧ Entb w3 b2 Ent.zero ∧ Keeps (fun _ => False) w w3 ∧ OwnV w3 w2.heap.size v ys) := ⟨H2.out.1.keptF hK3, H2.out.2.1.keptF hK3, H2.out.2.2.1.trans hK3 (fun _ _ h => h), (by simpa [OwnV] using hO)⟩; obtain ⟨a3, c3, hv3⟩ : ∃ a c, v = .slice a ys.length c := (by obtain ⟨a, c, h, _⟩ := H3.out.2.2.2.row; exact ⟨a, c, h⟩); subst hv3; have q3 := H3.out.1.c2; have f3 := H3.out.1.free 2; clear hO hG hK3)
    | (refine wpList_load9 rfl _ rfl b1 0 rfl (e.vec a3 ys.length c3) ?hA ?_; (case hA => exact (H3.out.1.setC 2 (.slice a3 ys.length c3) (e.vec a3 ys.length c3) rfl).at))
    | (refine wpList_store9 rfl _ _ rfl b2 (e.vec a3 ys.length c3) rfl rfl Ent.zero ?hA ?_; (case hA => exact H3.out.2.1.kept ((Keeps.refl (fun x => x = b1) w3).setCell (p := ⟨b1, 2, none⟩) (fun _ => rfl) _) (fun e => H2.out.2.2.2.2.2 e.symm)); intro w4 hE hK; have H4 : Hid (Entb w4 b2 (e.vec a3 ys.length c3) ∧ Keeps (fun x => x = b2) (w3.setCell ⟨b1, 2, none⟩ (.slice a3 ys.length c3)) w4) := ⟨hE, hK⟩; clear hE hK))
  (try simp only [Exit.inBlock, Exit.then])
  have hk1 : Keeps (fun x => x = b1) w3 (w3.setCell ⟨b1, 2, none⟩ (.slice a3 ys.length c3)) := (Keeps.refl (fun x => x = b1) w3).setCell (p := ⟨b1, 2, none⟩) (fun _ => rfl) _
  have h1 := H2.out.1.lt
  have h2 := H2.out.2.1.lt
  obtain ⟨_, _, _, g1, g2, _⟩ := H2.out
  have hge := H3.out.2.2.2.lo
  refine bodyPost_ret (v := .agg #[.string (e.vec a3 ys.length c3).nm, .bool (e.vec a3 ys.length c3).gn, .slice (e.vec a3 ys.length c3).va (e.vec a3 ys.length c3).vn (e.vec a3 ys.length c3).vc, .int .i64 (e.vec a3 ys.length c3).st, .int .i64 (e.vec a3 ys.length c3).nd, .int .i64 (e.vec a3 ys.length c3).mt, .string (e.vec a3 ys.length c3).pk, .int .i64 (e.vec a3 ys.length c3).sz, .int .i64 (e.vec a3 ys.length c3).cr]) (H4.out.1.res1 rfl rfl) rfl ⟨a3, ys.length, c3, rfl, ?_, rfl, (H3.out.2.2.1.trans hk1 (fun i hi h => by omega)).trans H4.out.2 (fun i hi h => by omega)⟩
  exact ((H3.out.2.2.2.kept hk1 (fun k hk e => by have := (hge k hk).1; omega)).kept H4.out.2 (fun k hk e => by have := (hge k hk).1; omega)).mono H2.out.2.2.1.size

set_option maxHeartbeats 4000000 in
set_option maxRecDepth 1000000 in
theorem spoilE_ok (base : Nat) (e : Ent) (ys : List Int) (w : World) (hb : base ≤ w.heap.size) (h : OwnV w base (.slice e.va e.vn e.vc) ys) (hn : ys.length ≤ 1000000) :
    Calls Tryz.prog 15 #[.agg #[.string e.nm, .bool e.gn, .slice e.va e.vn e.vc, .int .i64 e.st, .int .i64 e.nd, .int .i64 e.mt, .string e.pk, .int .i64 e.sz, .int .i64 e.cr]] w fun r w' => r = .returned (.tuple #[]) ∧ Keeps (fun b => base ≤ b) w w' := by
  have HO : Hid (OwnV w base (.slice e.va e.vn e.vc) ys) := h
  clear h
  go_enter Tryz.func15, Tryz.ntmps15
  go_wp2_with (first
    | (refine wpList_box9 rfl _ rfl e rfl ?_; intro b1 w1 hE hK hb; have H1 : Hid (Entb w1 b1 e ∧ Keeps (fun _ => False) w w1) := ⟨hE, hK⟩; have q1 := hE.c2; clear hE hK hb)
    | (go_at_call 28; refine (spoil_any base _ ys w1 (HO.out.keptF H1.out.2) hn).mono ?_; rintro r w2 ⟨rfl, h⟩; have H2 : Hid (Keeps (fun b => base ≤ b) w w2) := (H1.out.2.mono (fun _ _ h => h.elim)).trans h (fun i hi h => h.1); clear h))
  go_end0
  exact ⟨rfl, H2.out⟩

set_option maxHeartbeats 4000000 in
set_option maxRecDepth 1000000 in
/-- Two entries that are the same. -/
theorem sameE_yes (e f : Ent) (ys : List Int) (w : World) (hf : f = e.vec f.va f.vn f.vc) (hv : e.vn = ys.length) (hv' : f.vn = ys.length) (hR : Row w e.va ys) (hR' : Row w f.va ys) (hn : ys.length ≤ 1125899906842624) :
    Calls Tryz.prog 12 #[.agg #[.string e.nm, .bool e.gn, .slice e.va e.vn e.vc, .int .i64 e.st, .int .i64 e.nd, .int .i64 e.mt, .string e.pk, .int .i64 e.sz, .int .i64 e.cr], .agg #[.string f.nm, .bool f.gn, .slice f.va f.vn f.vc, .int .i64 f.st, .int .i64 f.nd, .int .i64 f.mt, .string f.pk, .int .i64 f.sz, .int .i64 f.cr]] w fun r w' => r = .returned (.bool true) ∧ Keeps (fun _ => False) w w' := by
  have HS : Hid (∀ w', Keeps (fun _ => False) w w' → Calls Tryz.prog 26 #[.slice e.va e.vn e.vc, .slice f.va f.vn f.vc] w' fun r w'' => r = .returned (.bool true) ∧ Keeps (fun _ => False) w' w'') := fun w' hk => by
    rw [hv, hv']; exact sameInts_yes _ _ ys _ _ w' (hR.keptF hk) (hR'.keptF hk) hn
  obtain ⟨nm, gn, va, vn, vc, st, nd, mt, pk, sz, cr⟩ := e
  obtain ⟨nm', gn', va', vn', vc', st', nd', mt', pk', sz', cr'⟩ := f
  simp only [Ent.vec, Ent.mk.injEq, true_and, and_true] at hf
  obtain ⟨rfl, rfl, rfl, rfl, rfl, rfl, rfl, rfl⟩ := hf
  clear hv hv' hR hR' hn
  simp only at HS ⊢
  have e1 : (nm'.toList == nm'.toList) = true := by simp
  have e2 : (pk'.toList == pk'.toList) = true := by simp
  cases gn'
  all_goals
    go_enter Tryz.func12, Tryz.ntmps12
    go_wp2_with (first
      | (refine wpList_box9 rfl _ rfl ⟨nm', _, va, vn, vc, st', nd', mt', pk', sz', cr'⟩ rfl ?_; (fail_if_success (clear H1)); intro b1 w1 hE hK hb; have H1 : Hid (Entb w1 b1 _ ∧ Keeps (fun _ => False) w w1) := ⟨hE, hK⟩; clear hE hK hb)
      | (refine wpList_box9 rfl _ rfl ⟨nm', _, va', vn', vc', st', nd', mt', pk', sz', cr'⟩ rfl ?_; intro b2 w2 hE hK hb; have H2 : Hid (Entb w2 b1 _ ∧ Entb w2 b2 _ ∧ Keeps (fun _ => False) w w2) := ⟨H1.out.1.keptF hK, hE, H1.out.2.trans hK (fun _ _ h => h)⟩; have q0 := H2.out.1.c0; have q1 := H2.out.1.c1; have q2 := H2.out.1.c2; have r0 := H2.out.2.1.c0; have r1 := H2.out.2.1.c1; have r2 := H2.out.2.1.c2; clear hE hK hb)
      | (go_at_call 26; refine (HS.out w2 H2.out.2.2).mono ?_; rintro r w3 ⟨rfl, h⟩; have H3 : Hid (Entb w3 b1 _ ∧ Entb w3 b2 _ ∧ Keeps (fun _ => False) w w3) := ⟨H2.out.1.keptF h, H2.out.2.1.keptF h, H2.out.2.2.trans h (fun _ _ h => h)⟩; have q3 := H3.out.1.c3; have q4 := H3.out.1.c4; have q5 := H3.out.1.c5; have q6 := H3.out.1.c6; have q7 := H3.out.1.c7; have q8 := H3.out.1.c8; have r3 := H3.out.2.1.c3; have r4 := H3.out.2.1.c4; have r5 := H3.out.2.1.c5; have r6 := H3.out.2.1.c6; have r7 := H3.out.2.1.c7; have r8 := H3.out.2.1.c8; clear h q0 q1 q2 r0 r1 r2))
    go_ret
    exact ⟨rfl, H3.out.2.2⟩

end Go.Proofs.YtfbghchgfbjogaaGreat.Zp

namespace Go.Proofs.YtfbghchgfbjogaaGreat.Tb
open Go.RowKit
set_option linter.unusedVariables false
set_option linter.unusedSimpArgs false

/-- The extra bits of row i, where as many as 'a' are alike. -/
def btR (a i : Nat) : Nat := i / a - 1
/-- Where row i begins. -/
def lsR (l a : Nat) : Nat → Nat
  | 0 => l
  | i + 1 => lsR l a i + 2 ^ btR a i
def rowF (l a i : Nat) : Nat × Nat := (lsR l a i, btR a i)
def lenF (i : Nat) : Nat × Nat := if i = 28 then (258, 0) else rowF 3 4 i
def dstF (i : Nat) : Nat × Nat := rowF 1 2 i
theorem btR_le (a i : Nat) (ha : 2 ≤ a) (hi : i ≤ 30) : btR a i ≤ 14 := by
  unfold btR
  have : i / a ≤ i / 2 := Nat.div_le_div_left ha (by decide)
  omega
theorem pow_small (b : Nat) (h : b ≤ 14) : 2 ^ b ≤ 16384 := Nat.pow_le_pow_right (by decide) h
theorem lsR_le (l a : Nat) (ha : 2 ≤ a) : ∀ i, i ≤ 30 → lsR l a i ≤ l + i * 16384
  | 0, _ => by simp [lsR]
  | i + 1, h => by
    have h1 := lsR_le l a ha i (by omega)
    have h2 := pow_small _ (btR_le a i ha (by omega))
    simp only [lsR]; omega

/-- The last one of the rows up to m that begins no later than at n. -/
def lastLe (f : Nat → Nat × Nat) (n : Nat) : Nat → Nat
  | 0 => 0
  | m + 1 => if (f (m + 1)).1 ≤ n then m + 1 else lastLe f n m
/-- What a call tells of a number: symbol, extra bits, their value. -/
abbrev Sy := Int × Int × Int
def symF (f : Nat → Nat × Nat) (m first : Nat) (n : Nat) : Sy := ((first : Int) + (lastLe f n m : Int), ((f (lastLe f n m)).2 : Int), (n : Int) - ((f (lastLe f n m)).1 : Int))
def inL (k : Int) : Bool := decide (3 ≤ k ∧ k ≤ 258)
def inD (k : Int) : Bool := decide (1 ≤ k ∧ k ≤ 32768)
def inLS (k : Int) : Bool := decide (257 ≤ k ∧ k ≤ 285)
def inDS (k : Int) : Bool := decide (0 ≤ k ∧ k ≤ 29)
def symL (k : Int) : Sy := if inL k then symF lenF 28 257 k.toNat else (0, 0, 0)
def symD (k : Int) : Sy := if inD k then symF dstF 29 0 k.toNat else (0, 0, 0)
def errB (b : Bool) : Int := if b then 0 else 600
def ofL (k : Int) : Int × Int := if inLS k then (((lenF (k - 257).toNat).1 : Int), ((lenF (k - 257).toNat).2 : Int)) else (0, 0)
def ofD (k : Int) : Int × Int := if inDS k then (((dstF k.toNat).1 : Int), ((dstF k.toNat).2 : Int)) else (0, 0)

def lenG (i : Nat) : Nat × Nat := if i = 28 then (258, 0) else if i < 8 then (i + 3, 0) else (3 + (4 + (i - 4) % 4) * 2 ^ ((i - 4) / 4), (i - 4) / 4)
def dstG (i : Nat) : Nat × Nat := if i < 4 then (i + 1, 0) else (1 + (2 + i % 2) * 2 ^ ((i - 2) / 2), (i - 2) / 2)
theorem lenG_all : ∀ i : Fin 29, lenG i.val = lenF i.val := by decide +kernel
theorem dstG_all : ∀ i : Fin 30, dstG i.val = dstF i.val := by decide +kernel
theorem lenG_eq (i : Nat) (h : i ≤ 28) : lenG i = lenF i := lenG_all ⟨i, by omega⟩
theorem dstG_eq (i : Nat) (h : i ≤ 29) : dstG i = dstF i := dstG_all ⟨i, by omega⟩
theorem lenF_small : ∀ i : Fin 29, (lenF i.val).1 ≤ 258 ∧ (lenF i.val).2 ≤ 5 := by decide +kernel
theorem dstF_small : ∀ i : Fin 30, (dstF i.val).1 ≤ 24577 ∧ (dstF i.val).2 ≤ 13 := by decide +kernel
theorem lenF_le (i : Nat) (h : i ≤ 28) : (lenF i).1 ≤ 258 ∧ (lenF i).2 ≤ 5 := lenF_small ⟨i, by omega⟩
theorem dstF_le (i : Nat) (h : i ≤ 29) : (dstF i).1 ≤ 24577 ∧ (dstF i).2 ≤ 13 := dstF_small ⟨i, by omega⟩
end Go.Proofs.YtfbghchgfbjogaaGreat.Tb

namespace Go.Proofs.YtfbghchgfbjogaaGreat.Tb
open Go.RowKit
set_option linter.unusedVariables false
set_option linter.unusedSimpArgs false

/-- Block g is a row of n pairs. -/
def Prs (w : World) (g n : Nat) (f : Nat → Nat × Nat) : Prop :=
  ∃ cs : Array Value, w.heap[g]? = some (.cells cs 187 (0, 0)) ∧ cs.size = n * 2 ∧ ∀ i, i < n → cs[i * 2]? = some (.int .i64 ((f i).1 : Int)) ∧ cs[i * 2 + 1]? = some (.int .i64 ((f i).2 : Int))
theorem Prs.lt {w : World} {g n : Nat} {f : Nat → Nat × Nat} (h : Prs w g n f) : g < w.heap.size := by obtain ⟨cs, h1, _⟩ := h; exact lt_of_heap h1
theorem Prs.fst {w : World} {g n : Nat} {f : Nat → Nat × Nat} (h : Prs w g n f) (i : Nat) (hi : i < n) : w.cell? ⟨g, i * 2, none⟩ = some (.int .i64 ((f i).1 : Int)) := by
  obtain ⟨cs, h1, h2, h3⟩ := h; exact cell_of_heap h1 (h3 i hi).1
theorem Prs.snd {w : World} {g n : Nat} {f : Nat → Nat × Nat} (h : Prs w g n f) (i : Nat) (hi : i < n) : w.cell? ⟨g, i * 2 + 1, none⟩ = some (.int .i64 ((f i).2 : Int)) := by
  obtain ⟨cs, h1, h2, h3⟩ := h; exact cell_of_heap h1 (h3 i hi).2
theorem Prs.free {w : World} {g n : Nat} {f : Nat → Nat × Nat} (h : Prs w g n f) (i : Nat) : w.frozen? ⟨g, i, none⟩ = false := by
  obtain ⟨cs, h1, _⟩ := h; exact frozen_of_heap h1
theorem Prs.kept {S : Nat → Prop} {w w' : World} {g n : Nat} {f : Nat → Nat × Nat} (h : Prs w g n f) (hk : Keeps S w w') (hg : ¬ S g) : Prs w' g n f := by
  obtain ⟨cs, h1, r⟩ := h; exact ⟨cs, (hk.block g (lt_of_heap h1) hg).trans h1, r⟩
theorem Prs.keptF {w w' : World} {g n : Nat} {f : Nat → Nat × Nat} (h : Prs w g n f) (hk : Keeps (fun _ => False) w w') : Prs w' g n f := h.kept hk (fun h => h)
theorem Prs.congr {w : World} {g n : Nat} {f f' : Nat → Nat × Nat} (h : Prs w g n f) (e : ∀ i, i < n → f i = f' i) : Prs w g n f' := by
  obtain ⟨cs, h1, h2, h3⟩ := h; exact ⟨cs, h1, h2, fun i hi => by rw [← e i hi]; exact h3 i hi⟩
theorem keeps_setCells {S : Nat → Prop} {a : World} (b : Nat) (hb : b < a.heap.size → S b) : ∀ (vs : List Value) (o : Nat) (w : World), Keeps S a w → Keeps S a (w.setCells b o vs)
  | [], _, _, h => h
  | v :: r, o, w, h => by rw [World.setCells]; exact keeps_setCells b hb r (o + 1) _ (h.setCell hb v)
theorem Prs.set {w : World} {g n : Nat} {f : Nat → Nat × Nat} (h : Prs w g n f) (i : Nat) (hi : i < n) (x y : Nat) : Prs (w.setCells g (i * 2) [.int .i64 (x : Int), .int .i64 (y : Int)]) g n (fun j => if j = i then (x, y) else f j) := by
  show Prs ((w.setCell ⟨g, i * 2, none⟩ (.int .i64 x)).setCell ⟨g, i * 2 + 1, none⟩ (.int .i64 y)) g n _
  obtain ⟨cs, h1, h2, h3⟩ := h
  refine ⟨_, heap_setCell_same (heap_setCell_same h1 _) _, by simp [h2], fun j hj => ?_⟩
  obtain ⟨c1, c2⟩ := h3 j hj
  simp only [Array.getElem?_setIfInBounds, Array.size_setIfInBounds, h2]
  by_cases e : j = i
  · subst e
    rw [if_neg (show ¬ j * 2 + 1 = j * 2 by omega)]
    simp [show j * 2 < n * 2 by omega, show j * 2 + 1 < n * 2 by omega]
  · rw [if_neg (show ¬ i * 2 + 1 = j * 2 by omega), if_neg (show ¬ i * 2 = j * 2 by omega), if_neg (show ¬ i * 2 + 1 = j * 2 + 1 by omega), if_neg (show ¬ i * 2 = j * 2 + 1 by omega), c1, c2]
    simp [e]
set_option maxRecDepth 1000000 in
theorem Prs.made (w : World) (n : Nat) (hn : n ≤ 1000000) : ∃ w1, (Instr.makeSlice 188 (.int .i64 (n : Int)) (.int .i64 (n : Int))).run Tryz.prog w = .ok (.slice (some ⟨w.heap.size, 0, none⟩) n n) w1 ∧ Prs w1 w.heap.size n (fun _ => (0, 0)) ∧ Keeps (fun _ => False) w w1 := by
  obtain ⟨i, hi, h1, h2, h3⟩ : ∃ i, Tryz.prog.info? 187 = some i ∧ i.zero = some (.agg #[.int .i64 0, .int .i64 0]) ∧ i.bytes = 16 ∧ i.size = 2 := ⟨Tryz.t187, Tryz.type187, rfl, rfl, rfl⟩
  have hr := run_make (P := Tryz.prog) w 188 187 i _ Tryz.underlying188 hi h1 .i64 .i64 n n (by omega) (by omega) (by rw [h2]; omega) (by omega)
  refine ⟨_, by simpa using hr, ⟨_, heap_alloc_new _ _, ?_, ?_⟩, (Keeps.refl _ w).alloc _⟩
  · simp [madeCells, h3]
  · intro j hj
    simp only [madeCells, h3, Value.cells]
    refine ⟨?_, ?_⟩
    · rw [Array.getElem?_map, Array.getElem?_range]
      rw [if_pos (by omega)]
      simp [show (j * 2) % 2 = 0 by omega]
    · rw [Array.getElem?_map, Array.getElem?_range]
      rw [if_pos (by omega)]
      simp [show (j * 2 + 1) % 2 = 1 by omega]
theorem wpList_rows {ops : Array Oper} {rest : List Oper} {op : Oper} {a : Act} {w : World} {Q : Exit → Act → World → Prop} (hgd : op.guard = none) (l c : Operand) (ho : op.op = .makeSlice 188 l c) (n : Nat) (hl : a.eval l = .int .i64 (n : Int)) (hc : a.eval c = .int .i64 (n : Int)) (hn : n ≤ 1000000)
    (h : ∀ g w1, Prs w1 g n (fun _ => (0, 0)) → Keeps (fun _ => False) w w1 → w.heap.size ≤ g → wpList Tryz.prog ops Q rest (a.put op.dst (.slice (some ⟨g, 0, none⟩) n n)) w1) : wpList Tryz.prog ops Q (op :: rest) a w :=
  wpList_plain hgd fun _ hK => by
    obtain ⟨w1, hr, hC, hk⟩ := Prs.made w n hn
    unfold Oper.wp execOp
    simp only [ho, hl, hc, hr, Sem.run_bind, Sem.run_pure, Result.andThen_ok]
    exact hK _ _ (h w.heap.size _ hC hk (Nat.le_refl _))
theorem size46 : (Tryz.prog.info? 187).map (·.size) = some 2 := by kernel_rfl
theorem wpList_row {ops : Array Oper} {rest : List Oper} {op : Oper} {a : Act} {w : World} {Q : Exit → Act → World → Prop} (hgd : op.guard = none) (x y : Operand) (ho : op.op = .store 187 x y) (g i : Nat) (p q : Nat) (hx : a.eval x = .pointer (some ⟨g, i * 2, none⟩)) (hy : a.eval y = .agg #[.int .i64 (p : Int), .int .i64 (q : Int)]) (n : Nat) (f : Nat → Nat × Nat) (hC : Prs w g n f) (hi : i < n)
    (h : ∀ w1, Prs w1 g n (fun j => if j = i then (p, q) else f j) → Keeps (fun k => k = g) w w1 → wpList Tryz.prog ops Q rest (a.put op.dst undef) w1) : wpList Tryz.prog ops Q (op :: rest) a w :=
  wpList_store_mid hgd 187 x y ho g (i * 2) #[.int .i64 p, .int .i64 q] hx hy (fun j hj => by
      have hj' : j = 0 ∨ j = 1 := by simp at hj; omega
      rcases hj' with rfl | rfl
      · exact ⟨by rw [Nat.add_zero, hC.fst i hi]; rfl, hC.free _⟩
      · exact ⟨by rw [hC.snd i hi]; rfl, hC.free _⟩) size46 (by simp [Value.oneCell']) (h _ (hC.set i hi p q) (keeps_setCells (S := fun k => k = g) g (fun _ => rfl) _ _ _ (Keeps.refl _ w)))

/-- The rows that are reckoned already. -/
def upTo (l a k : Nat) : Nat → Nat × Nat := fun j => if j < k then rowF l a j else (0, 0)
theorem upTo_next (l a k j : Nat) : (if j = k then (lsR l a k, btR a k) else upTo l a k j) = upTo l a (k + 1) j := by
  unfold upTo
  by_cases h1 : j < k
  · rw [if_neg (by omega), if_pos h1, if_pos (by omega)]
  · by_cases h2 : j = k
    · subst h2; rw [if_pos rfl, if_pos (by omega)]; rfl
    · rw [if_neg h2, if_neg h1, if_neg (by omega)]

set_option maxHeartbeats 4000000 in
set_option maxRecDepth 1000000 in
theorem reckon_ok (n l a : Nat) (w : World) (hn : n ≤ 30) (hl : l ≤ 10) (ha : 2 ≤ a) (ha4 : a ≤ 4) :
    Calls Tryz.prog 143 #[.int .i64 (n : Int), .int .i64 (l : Int), .int .i64 (a : Int)] w fun e w' => ∃ g, e = .returned (.slice (some ⟨g, 0, none⟩) n n) ∧ Keeps (fun _ => False) w w' ∧ w.heap.size ≤ g ∧ Prs w' g n (rowF l a) := by
  go_enter Tryz.func143, Tryz.ntmps143
  go_wp2_with (first
    | (refine wpList_rows rfl _ _ rfl n rfl rfl ?hn ?_; (case hn => omega); intro g w1 hP hK hg))
  have HW : Hid (Prs w1 g n (upTo l a 0) ∧ Keeps (fun _ => False) w w1) := ⟨hP.congr (fun i _ => by simp [upTo]), hK⟩
  have HG : Hid (w.heap.size ≤ g) := hg
  clear hP hK hg
  go_loopw [14, 1] (fun s14 s1 w' => ∃ i : Nat, i ≤ n ∧ s14 = .int .i64 (i : Int) ∧ s1 = .int .i64 (lsR l a i : Int) ∧ Hid (Prs w' g n (upTo l a i) ∧ Keeps (fun _ => False) w w')) (fun s14 s1 w' => ((n : Int) - intOf s14).toNat)
  case atStart => exact ⟨0, by omega, rfl, rfl, HW⟩
  case round =>
    clear HW
    obtain ⟨i, hi, rfl, rfl, HW⟩ := hrel
    by_cases hin : i < n
    · have hiz : (i : Int) < (n : Int) := by omega
      have hls := lsR_le l a ha i (by omega)
      have hb := btR_le a i ha (by omega)
      have hp := pow_small _ hb
      have HN : Hid (lsR l a (i + 1) = lsR l a i + 2 ^ btR a i ∧ ∀ j, (if j = i then (lsR l a i, btR a i) else upTo l a i j) = upTo l a (i + 1) j) := ⟨rfl, upTo_next l a i⟩
      obtain ⟨b, hbe⟩ : ∃ b, btR a i = b := ⟨_, rfl⟩
      obtain ⟨q, hq⟩ : ∃ q, i / a = q := ⟨_, rfl⟩
      have hdz : (i : Int) / (a : Int) = (q : Int) := by rw [← hq]; exact (Int.natCast_ediv i a).symm
      have hbq : q - 1 = b := by rw [← hq]; exact hbe
      rw [hbe] at HN hb hp
      obtain ⟨L, hL⟩ : ∃ L, lsR l a i = L := ⟨_, rfl⟩
      rw [hL] at HN hls
      have hLb : L ≤ 600000 := by omega
      rw [hL]
      clear hbe hls hL hq
      have hpz : ((2 ^ b : Nat) : Int) = (2 : Int) ^ b := by simp
      have h2z : (2 : Int) ^ b ≤ 16384 := by rw [← hpz]; omega
      have h2p : (0 : Int) < (2 : Int) ^ b := by rw [← hpz]; have : 0 < 2 ^ b := Nat.pow_pos (by decide); omega
      clear hpz hp
      obtain rfl | rfl | hq : q = 0 ∨ q = 1 ∨ 1 < q := by omega
      · obtain rfl : b = 0 := by omega
        have hd : (i : Int) / (a : Int) = 0 := hdz
        clear hdz hbq
        go_wp2_with (first
          | (refine wpList_row rfl _ _ rfl g i L 0 rfl rfl n (upTo l a i) HW.out.1 hin ?_; intro w2 hP hK; have HW2 : Hid (Prs w2 g n (fun j => if j = i then (L, 0) else upTo l a i j) ∧ Keeps (fun k => k = g) wr w2) := ⟨hP, hK⟩; clear hP hK))
        go_roundw
        case rel => exact ⟨i + 1, by omega, by push_cast; rfl, by rw [HN.out.1]; push_cast; rfl, HW2.out.1.congr (fun j _ => HN.out.2 j), HW.out.2.trans HW2.out.2 (fun k hk e => by have := HG.out; omega)⟩
        case measure => simp [intOf]; omega
      · obtain rfl : b = 0 := by omega
        have hd : (i : Int) / (a : Int) = 1 := hdz
        clear hdz hbq
        go_wp2_with (first
          | (refine wpList_row rfl _ _ rfl g i L 0 rfl rfl n (upTo l a i) HW.out.1 hin ?_; intro w2 hP hK; have HW2 : Hid (Prs w2 g n (fun j => if j = i then (L, 0) else upTo l a i j) ∧ Keeps (fun k => k = g) wr w2) := ⟨hP, hK⟩; clear hP hK))
        go_roundw
        case rel => exact ⟨i + 1, by omega, by push_cast; rfl, by rw [HN.out.1]; push_cast; rfl, HW2.out.1.congr (fun j _ => HN.out.2 j), HW.out.2.trans HW2.out.2 (fun k hk e => by have := HG.out; omega)⟩
        case measure => simp [intOf]; omega
      · have hd : (i : Int) / (a : Int) = (b : Int) + 1 := by omega
        have hbz : 0 < b := by omega
        have hbw : wrap64 ((L : Int) + 2 ^ b) = (L : Int) + 2 ^ b := by unfold wrap64; omega
        clear hdz hbq hq
        go_wp2_with (first
          | (refine wpList_row rfl _ _ rfl g i L b rfl rfl n (upTo l a i) HW.out.1 hin ?_; intro w2 hP hK; have HW2 : Hid (Prs w2 g n (fun j => if j = i then (L, b) else upTo l a i j) ∧ Keeps (fun k => k = g) wr w2) := ⟨hP, hK⟩; clear hP hK))
        go_roundw
        case rel => exact ⟨i + 1, by omega, by push_cast; rfl, by rw [HN.out.1]; push_cast; rfl, HW2.out.1.congr (fun j _ => HN.out.2 j), HW.out.2.trans HW2.out.2 (fun k hk e => by have := HG.out; omega)⟩
        case measure => simp [intOf]; omega
    · obtain rfl : i = n := by omega
      go_wp2
      go_ret
      exact ⟨g, rfl, HW.out.2, HG.out, HW.out.1.congr (fun j hj => by simp [upTo, hj])⟩

set_option maxHeartbeats 4000000 in
set_option maxRecDepth 1000000 in
theorem dists_ok (w : World) : Calls Tryz.prog 135 #[] w fun e w' => ∃ g, e = .returned (.slice (some ⟨g, 0, none⟩) 30 30) ∧ Keeps (fun _ => False) w w' ∧ w.heap.size ≤ g ∧ Prs w' g 30 dstF := by
  have HC : Hid (Calls Tryz.prog 143 #[.int .i64 30, .int .i64 1, .int .i64 2] w fun e w' => ∃ g, e = .returned (.slice (some ⟨g, 0, none⟩) 30 30) ∧ Keeps (fun _ => False) w w' ∧ w.heap.size ≤ g ∧ Prs w' g 30 (rowF 1 2)) := reckon_ok 30 1 2 w (by decide) (by decide) (by decide) (by decide)
  go_enter Tryz.func135, Tryz.ntmps135
  go_wp2_with (first
    | (go_at_call 143; refine HC.out.mono ?_; rintro e w1 ⟨g, rfl, hK, hg, hP⟩; have HW : Hid (Keeps (fun _ => False) w w1 ∧ w.heap.size ≤ g ∧ Prs w1 g 30 (rowF 1 2)) := ⟨hK, hg, hP⟩; clear hK hg hP))
  go_ret
  exact ⟨g, rfl, HW.out⟩

set_option maxHeartbeats 4000000 in
set_option maxRecDepth 1000000 in
theorem lengths_ok (w : World) : Calls Tryz.prog 134 #[] w fun e w' => ∃ g, e = .returned (.slice (some ⟨g, 0, none⟩) 29 29) ∧ Keeps (fun _ => False) w w' ∧ w.heap.size ≤ g ∧ Prs w' g 29 lenF := by
  have HC : Hid (Calls Tryz.prog 143 #[.int .i64 29, .int .i64 3, .int .i64 4] w fun e w' => ∃ g, e = .returned (.slice (some ⟨g, 0, none⟩) 29 29) ∧ Keeps (fun _ => False) w w' ∧ w.heap.size ≤ g ∧ Prs w' g 29 (rowF 3 4)) := reckon_ok 29 3 4 w (by decide) (by decide) (by decide) (by decide)
  go_enter Tryz.func134, Tryz.ntmps134
  go_wp2_with (first
    | (go_at_call 143; refine HC.out.mono ?_; rintro e w1 ⟨g, rfl, hK, hg, hP⟩; have HW : Hid (Keeps (fun _ => False) w w1 ∧ w.heap.size ≤ g ∧ Prs w1 g 29 (rowF 3 4)) := ⟨hK, hg, hP⟩; clear hK hg hP)
    | (refine wpList_row rfl _ _ rfl g 28 258 0 rfl rfl 29 (rowF 3 4) HW.out.2.2 (by decide) ?_; intro w2 hP hK; have HW2 : Hid (Prs w2 g 29 (fun j => if j = 28 then (258, 0) else rowF 3 4 j) ∧ Keeps (fun k => k = g) w1 w2) := ⟨hP, hK⟩; clear hP hK))
  go_ret
  exact ⟨g, rfl, HW.out.1.trans HW2.out.2 (fun k hk e => by have := HW.out.2.1; omega), HW.out.2.1, HW2.out.1⟩

end Go.Proofs.YtfbghchgfbjogaaGreat.Tb

namespace Go.Proofs.YtfbghchgfbjogaaGreat.Tb
open Go.RowKit
set_option linter.unusedVariables false
set_option linter.unusedSimpArgs false

set_option maxRecDepth 1000000 in
theorem and_low (c : Nat) (h : c ≤ 1000) : bits .and .u64 (c : Int) 4294967295 = (c : Int) := by
  have h := bits_and_u64_nat c 4294967295 (by omega) (by omega)
  have e : c &&& 4294967295 = c % 4294967296 := Nat.and_two_pow_sub_one_eq_mod c 32
  rw [e, Nat.mod_eq_of_lt (by omega)] at h
  exact h

set_option maxHeartbeats 4000000 in
set_option maxRecDepth 1000000 in
theorem mul64_ok (c : Nat) (w : World) (hc : c ≤ 1000) : Calls Tryz.prog 147 #[.int .u64 1, .int .u64 (c : Int)] w fun e w' => e = .returned (.tuple #[.int .u64 0, .int .u64 (c : Int)]) ∧ w' = w := by
  have a1 : bits .and .u64 1 4294967295 = 1 := by decide
  have a0 : bits .and .u64 0 4294967295 = 0 := by decide
  have a2 := and_low c hc
  have d1 : (c : Int) / 4294967296 = 0 := by omega
  go_enter Tryz.func147, Tryz.ntmps147
  go_wp2
  go_ret2
  exact ⟨rfl, rfl⟩

set_option maxHeartbeats 4000000 in
set_option maxRecDepth 1000000 in
theorem mul_ok (c : Nat) (w : World) (hc : c ≤ 1000) : Calls Tryz.prog 139 #[.int .u64 1, .int .u64 (c : Int)] w fun e w' => e = .returned (.tuple #[.int .u64 0, .int .u64 (c : Int)]) ∧ w' = w := by
  have HC : Hid (∀ w, Calls Tryz.prog 147 #[.int .u64 1, .int .u64 (c : Int)] w fun e w' => e = .returned (.tuple #[.int .u64 0, .int .u64 (c : Int)]) ∧ w' = w) := fun w => mul64_ok c w hc
  go_enter Tryz.func139, Tryz.ntmps139
  go_wp2_with (first
    | (go_at_call 147; refine (HC.out _).mono ?_; rintro e w1 ⟨rfl, hw⟩; obtain rfl := hw.symm; clear hw))
  go_ret2
  exact ⟨rfl, rfl⟩

def intsV (ys : List Int) : List Value := ys.map (fun y => Value.int .i64 y)
set_option maxRecDepth 1000000 in
theorem intsV_length (ys : List Int) : (intsV ys).length = ys.length := by simp [intsV]
set_option maxRecDepth 1000000 in
theorem intsV_append (xs ys : List Int) : intsV (xs ++ ys) = intsV xs ++ intsV ys := by simp [intsV]
set_option maxRecDepth 1000000 in
theorem intsV_one (ys : List Int) : ∀ v ∈ intsV ys, v.oneCell' = true := fun v hv => by
  simp only [intsV, List.mem_map] at hv
  obtain ⟨y, _, rfl⟩ := hv
  rfl
/-- Block g is a row of ints. -/
def Blk (w : World) (g : Nat) (xs : List Int) : Prop := w.heap[g]? = some (.cells (intsV xs).toArray 3 (0, 0))
set_option maxRecDepth 1000000 in
theorem Blk.lt {w : World} {g : Nat} {xs : List Int} (h : Blk w g xs) : g < w.heap.size := lt_of_heap h
set_option maxRecDepth 1000000 in
theorem Blk.kept {S : Nat → Prop} {w w' : World} {g : Nat} {xs : List Int} (h : Blk w g xs) (hk : Keeps S w w') (hg : ¬ S g) : Blk w' g xs := (hk.block g h.lt hg).trans h
set_option maxRecDepth 1000000 in
theorem Blk.keptF {w w' : World} {g : Nat} {xs : List Int} (h : Blk w g xs) (hk : Keeps (fun _ => False) w w') : Blk w' g xs := h.kept hk (fun h => h)
set_option maxRecDepth 1000000 in
theorem Blk.cell {w : World} {g : Nat} {xs : List Int} (h : Blk w g xs) (j : Nat) (hj : j < xs.length) : w.cell? ⟨g, j, none⟩ = some (.int .i64 xs[j]) :=
  cell_of_heap h (by rw [List.getElem?_toArray, intsV, List.getElem?_map, List.getElem?_eq_getElem hj]; rfl)
set_option maxRecDepth 1000000 in
theorem Blk.free {w : World} {g : Nat} {xs : List Int} (h : Blk w g xs) (j : Nat) : w.frozen? ⟨g, j, none⟩ = false := frozen_of_heap h
set_option maxRecDepth 1000000 in
theorem Blk.lit (w : World) (xs : List Int) : Blk (w.alloc (.cells (intsV xs).toArray 3)) w.heap.size xs := heap_alloc_new _ _
/-- A row with others laid over it. -/
def over (xs : List Int) (o : Nat) (ys : List Int) : List Int := xs.take o ++ (ys ++ xs.drop (o + ys.length))
set_option maxRecDepth 1000000 in
theorem size3 : (Tryz.prog.info? 3).map (·.size) = some 1 := by kernel_rfl
set_option maxRecDepth 1000000 in
theorem keeps_setRow (w : World) (g : Nat) (cs : Array Value) : Keeps (fun k => k = g) w (w.setRow g cs) :=
  ⟨rfl, rfl, rfl, by simp [World.setRow], fun k hk hn => setRow_other w g k cs hn⟩
set_option maxRecDepth 1000000 in
theorem run_copyB (w : World) (ty : TypeId) (g o dl dc b so sl sc : Nat) (xs ys : List Int) (hB : Blk w g xs) (hsrc : ∀ j (h : j < ys.length), w.cell? ⟨b, so + j, none⟩ = some (.int .i64 ys[j])) (hn : ys.length = Nat.min sl dl) (hfit : o + ys.length ≤ xs.length) :
    ∃ w', (Builtin.copy_ #[22, 22] ty #[.slice (some ⟨g, o, none⟩) dl dc, .slice (some ⟨b, so, none⟩) sl sc]).run Tryz.prog w = .ok (goInt ys.length) w' ∧ Blk w' g (over xs o ys) ∧ Keeps (fun k => k = g) w w' := by
  have hr := run_copy_row (P := Tryz.prog) w 22 22 ty 3 g o dl dc ⟨b, so, none⟩ sl sc (intsV xs).toArray 3 (intsV ys) Tryz.underlying22 size3 hB (by rw [intsV_length]; exact hn) (fun j v hv => by
    have hj : j < ys.length := by have := (List.getElem?_eq_some_iff.1 hv).1; rwa [intsV_length] at this
    rw [Addr.add_mid, hsrc j hj, ← hv, intsV, List.getElem?_map, List.getElem?_eq_getElem hj]; rfl) (by simp only [List.size_toArray, intsV_length]; exact hfit) (intsV_one ys)
  rw [intsV_length] at hr
  refine ⟨_, hr, ?_, keeps_setRow _ _ _⟩
  have := setRow_heap w g (intsV xs).toArray ((intsV xs).toArray.toList.take o ++ intsV ys ++ (intsV xs).toArray.toList.drop (o + ys.length)).toArray 3 (0, 0) hB
  unfold Blk
  rw [this]
  congr 2
  simp [over, intsV]
set_option maxRecDepth 1000000 in
theorem wpList_copyB {ops : Array Oper} {rest : List Oper} {op : Oper} {a : Act} {w : World} {Q : Exit → Act → World → Prop} (hgd : op.guard = none) (d s : Operand) (ho : op.op = .call { callee := .builtin .copy, args := #[d, s], argTypes := #[22, 22] })
    (g o dl dc b so sl sc : Nat) (hd : a.eval d = .slice (some ⟨g, o, none⟩) dl dc) (hs : a.eval s = .slice (some ⟨b, so, none⟩) sl sc) (xs ys : List Int) (hB : Blk w g xs) (hsrc : ∀ j (h : j < ys.length), w.cell? ⟨b, so + j, none⟩ = some (.int .i64 ys[j])) (hn : ys.length = Nat.min sl dl) (hfit : o + ys.length ≤ xs.length)
    (h : ∀ w', Blk w' g (over xs o ys) → Keeps (fun k => k = g) w w' → wpList Tryz.prog ops Q rest (a.put op.dst (goInt ys.length)) w') : wpList Tryz.prog ops Q (op :: rest) a w :=
  wpList_plain hgd fun _ hK => by
    obtain ⟨w', hr, h1, h2⟩ := run_copyB w op.type g o dl dc b so sl sc xs ys hB hsrc hn hfit
    unfold Oper.wp
    simp [execOp, ho, resolve, invoke, builtin, hd, hs, hr, Result.andThen]
    exact hK _ _ (h w' h1 h2)
set_option maxRecDepth 1000000 in
theorem step_copyB {ops : Array Oper} {op : Oper} {a : Act} {w : World} {K : Act → World → Prop} {Q : Exit → Act → World → Prop} {E : Prop} (hgd : op.guard = none) (d s : Operand) (ho : op.op = .call { callee := .builtin .copy, args := #[d, s], argTypes := #[22, 22] })
    (g o dl dc b so sl sc : Nat) (hd : a.eval d = .slice (some ⟨g, o, none⟩) dl dc) (hs : a.eval s = .slice (some ⟨b, so, none⟩) sl sc) (xs ys : List Int) (hB : Blk w g xs) (hsrc : ∀ j (h : j < ys.length), w.cell? ⟨b, so + j, none⟩ = some (.int .i64 ys[j])) (hn : ys.length = Nat.min sl dl) (hfit : o + ys.length ≤ xs.length)
    (h : ∀ w', Blk w' g (over xs o ys) → Keeps (fun k => k = g) w w' → K (a.put op.dst (goInt ys.length)) w') :
    if Region.wanted op (yielded ops a.tmps) = true then Oper.wp Tryz.prog op a w K Q else E := by
  have hw : Region.wanted op (yielded ops a.tmps) = true := by simp [Region.wanted, hgd]
  rw [if_pos hw]
  obtain ⟨w', hr, h1, h2⟩ := run_copyB w op.type g o dl dc b so sl sc xs ys hB hsrc hn hfit
  unfold Oper.wp
  simp [execOp, ho, resolve, invoke, builtin, hd, hs, hr, Result.andThen]
  exact h w' h1 h2
set_option maxRecDepth 1000000 in
theorem Blk.made (w : World) (n : Nat) (hn : n ≤ 1000000) : ∃ w1, (Instr.makeSlice 22 (.int .i64 (n : Int)) (.int .i64 (n : Int))).run Tryz.prog w = .ok (.slice (some ⟨w.heap.size, 0, none⟩) n n) w1 ∧ Blk w1 w.heap.size (List.replicate n 0) ∧ Keeps (fun _ => False) w w1 := by
  obtain ⟨i, hi, h1, h2, h3⟩ : ∃ i, Tryz.prog.info? 3 = some i ∧ i.zero = some (.int .i64 0) ∧ i.bytes = 8 ∧ i.size = 1 := ⟨Tryz.t3, Tryz.type3, rfl, rfl, rfl⟩
  have hr := run_make (P := Tryz.prog) w 22 3 i _ Tryz.underlying22 hi h1 .i64 .i64 n n (by omega) (by omega) (by rw [h2]; omega) (by omega)
  refine ⟨_, by simpa using hr, ?_, (Keeps.refl _ w).alloc _⟩
  unfold Blk
  rw [heap_alloc_new]
  congr 2
  apply Array.ext_getElem?
  intro j
  simp only [madeCells, h3, Value.cells, intsV, List.map_replicate, List.getElem?_toArray]
  rw [Array.getElem?_map, Array.getElem?_range, List.getElem?_replicate]
  by_cases hj : j < n
  · rw [if_pos (by omega), if_pos hj]; simp [Nat.mod_one]
  · rw [if_neg (by omega), if_neg hj]; rfl
set_option maxRecDepth 1000000 in
theorem wpList_zeros {ops : Array Oper} {rest : List Oper} {op : Oper} {a : Act} {w : World} {Q : Exit → Act → World → Prop} (hgd : op.guard = none) (l c : Operand) (ho : op.op = .makeSlice 22 l c) (n : Nat) (hl : a.eval l = .int .i64 (n : Int)) (hc : a.eval c = .int .i64 (n : Int)) (hn : n ≤ 1000000)
    (h : ∀ g w1, Blk w1 g (List.replicate n 0) → Keeps (fun _ => False) w w1 → w.heap.size ≤ g → wpList Tryz.prog ops Q rest (a.put op.dst (.slice (some ⟨g, 0, none⟩) n n)) w1) : wpList Tryz.prog ops Q (op :: rest) a w :=
  wpList_plain hgd fun _ hK => by
    obtain ⟨w1, hr, hC, hk⟩ := Blk.made w n hn
    unfold Oper.wp execOp
    simp only [ho, hl, hc, hr, Sem.run_bind, Sem.run_pure, Result.andThen_ok]
    exact hK _ _ (h w.heap.size _ hC hk (Nat.le_refl _))

/-- A number n times, then zeros. -/
def fil (v : Int) (n c : Nat) : List Int := List.replicate n v ++ List.replicate (c - n) 0
set_option maxRecDepth 1000000 in
theorem fil_length (v : Int) (n c : Nat) (h : n ≤ c) : (fil v n c).length = c := by simp [fil]; omega
set_option maxRecDepth 1000000 in
theorem fil_zero (v : Int) (c : Nat) : fil v 0 c = List.replicate c 0 := by simp [fil]
set_option maxRecDepth 1000000 in
theorem fil_all (v : Int) (c : Nat) : fil v c c = List.replicate c v := by simp [fil]
set_option maxRecDepth 1000000 in
theorem fil_get (v : Int) (n c j : Nat) (hj : j < n) (h : j < (fil v n c).length) : (fil v n c)[j] = v := by
  simp only [fil]; rw [List.getElem_append_left (by simpa using hj)]; simp
set_option maxRecDepth 1000000 in
theorem over_fil (v : Int) (n m c : Nat) (h : n + m ≤ c) : over (fil v n c) n (List.replicate m v) = fil v (n + m) c := by
  unfold over fil
  have e1 : (List.replicate n v ++ List.replicate (c - n) (0 : Int)).take n = List.replicate n v := by
    rw [List.take_append_of_le_length (by simp)]; simp
  have e2 : (List.replicate n v ++ List.replicate (c - n) (0 : Int)).drop (n + (List.replicate m v).length) = List.replicate (c - (n + m)) 0 := by
    rw [List.drop_append, List.drop_eq_nil_of_le (by simp)]
    simp only [List.length_replicate, List.drop_replicate, List.nil_append]
    congr 1; omega
  rw [e1, e2, ← List.append_assoc, List.replicate_append_replicate]

set_option maxHeartbeats 4000000 in
set_option maxRecDepth 1000000 in
theorem repeat_ok (v : Int) (b c : Nat) (w : World) (hv : Blk w b [v]) (hc1 : 1 ≤ c) (hc : c ≤ 300) :
    Calls Tryz.prog 128 #[.slice (some ⟨b, 0, none⟩) 1 1, .int .i64 (c : Int)] w fun e w' => ∃ g, e = .returned (.slice (some ⟨g, 0, none⟩) c c) ∧ Keeps (fun _ => False) w w' ∧ w.heap.size ≤ g ∧ Blk w' g (List.replicate c v) := by
  have HC : Hid (∀ w, Calls Tryz.prog 139 #[.int .u64 1, .int .u64 (c : Int)] w fun e w' => e = .returned (.tuple #[.int .u64 0, .int .u64 (c : Int)]) ∧ w' = w) := fun w => mul_ok c w (by omega)
  have HB : Hid (Blk w b [v]) := hv
  have hz1 : ¬ ((c : Int) < 0) := by omega
  have hz2 : decide (9223372036854775807 < (c : Int)) = false := decide_eq_false (by omega)
  have HN : Hid ([v].length = Nat.min 1 c) := show 1 = min 1 c by omega
  have HF : Hid (0 + [v].length ≤ (List.replicate c (0 : Int)).length ∧ over (List.replicate c 0) 0 [v] = fil v 1 c) := ⟨by simp; omega, by
    have := over_fil v 0 1 c (by omega)
    rw [fil_zero, Nat.zero_add] at this
    exact this⟩
  clear hv
  go_enter Tryz.func128, Tryz.ntmps128
  go_wp2_with (first
    | (go_at_call 139; refine (HC.out _).mono ?_; rintro e w1 ⟨rfl, hw⟩; obtain rfl := hw.symm; clear hw)
    | (refine wpList_zeros rfl _ _ rfl c rfl rfl (by omega) ?_; intro g w2 hB hK hg; have HW : Hid (Blk w2 g (List.replicate c 0) ∧ Keeps (fun _ => False) w w2 ∧ w.heap.size ≤ g) := ⟨hB, hK, hg⟩; clear hB hK hg)
    | (refine wpList_copyB rfl _ _ rfl g 0 c c b 0 1 1 rfl rfl (List.replicate c 0) [v] HW.out.1 (fun j hj => (by have e := (HB.out.keptF HW.out.2.1).cell j hj; rw [Nat.zero_add]; exact e)) HN.out HF.out.1 ?_; intro w3 hB3 hK3; rw [HF.out.2] at hB3; have HW3 : Hid (Blk w3 g (fil v 1 c) ∧ Keeps (fun _ => False) w w3) := ⟨hB3, HW.out.2.1.trans hK3 (fun i hi e => by have := HW.out.2.2; omega)⟩; clear hB3 hK3))
  clear hz1 hz2
  have HG : Hid (w.heap.size ≤ g) := HW.out.2.2
  clear HW HB HC HN HF
  go_loopw [8] (fun s8 w' => ∃ n : Nat, 1 ≤ n ∧ n ≤ c ∧ s8 = .int .i64 (n : Int) ∧ Hid (Blk w' g (fil v n c) ∧ Keeps (fun _ => False) w w')) (fun s8 w' => ((c : Int) - intOf s8).toNat)
  case atStart => exact ⟨1, by omega, by omega, rfl, HW3⟩
  case round =>
    clear HW3
    obtain ⟨n, hn1, hn, rfl, HW⟩ := hrel
    by_cases hin : n < c
    · have hiz : (n : Int) < (c : Int) := by omega
      have hne : ¬ (c = n) := by omega
      obtain ⟨m, hm⟩ : ∃ m, m = Nat.min n (c - n) := ⟨_, rfl⟩
      have hm1 : 1 ≤ m ∧ n + m ≤ c := by
        have e1 : Nat.min n (c - n) = min n (c - n) := rfl
        omega
      have HM : Hid ((List.replicate m v).length = Nat.min n (c - n) ∧ n + (List.replicate m v).length ≤ (fil v n c).length) := ⟨by rw [List.length_replicate]; exact hm, by rw [fil_length _ _ _ hn, List.length_replicate]; exact hm1.2⟩
      have HD : Hid (Blk wr.drew g (fil v n c)) := by
        have e := HW.out.1
        unfold Blk at e
        show Blk _ _ _
        unfold Blk
        exact e
      have HX : Hid (∀ w', Blk w' g (fil v n c) → ∀ j (h : j < (List.replicate m v).length), w'.cell? ⟨g, 0 + j, none⟩ = some (.int .i64 (List.replicate m v)[j])) := fun w' hB j hj => by
        rw [List.length_replicate] at hj
        have e1 : Nat.min n (c - n) = min n (c - n) := rfl
        have e := hB.cell j (by rw [fil_length _ _ _ hn]; omega)
        rw [fil_get v n c j (by omega)] at e
        rw [Nat.zero_add, List.getElem_replicate]; exact e
      clear hm
      go_wp2
      go_region_law ((refine step_copyB (by rfl) (.tmp 41) (.tmp 44) (by rfl) g n (c - n) (c - n) g 0 n c (by simp [Act.eval, Act.put]) (by simp [Act.eval, Act.put]) (fil v n c) (List.replicate m v) HD.out (HX.out _ HD.out) HM.out.1 HM.out.2 ?_; intro w4 hB4 hK4; rw [over_fil v n m c hm1.2] at hB4; have HW4 : Hid (Blk w4 g (fil v (n + m) c) ∧ Keeps (fun _ => False) w w4) := ⟨hB4, HW.out.2.drew.trans hK4 (fun i hi e => by have := HG.out; omega)⟩; clear hB4 hK4))
      have hwm : IntKind.i64.wrap ((n : Int) + (m : Int)) = ((n + m : Nat) : Int) := by rw [wrap_i64_small _ (by omega) (by omega)]; push_cast; rfl
      go_simp
      go_wp2
      go_roundw
      case rel => exact ⟨n + m, by omega, by omega, by push_cast; rfl, HW4⟩
      case measure => simp [intOf]; omega
    · obtain rfl : n = c := by omega
      go_wp2
      go_ret
      exact ⟨g, rfl, HW.out.2, HG.out, by have := HW.out.1; rw [fil_all] at this; exact this⟩

end Go.Proofs.YtfbghchgfbjogaaGreat.Tb

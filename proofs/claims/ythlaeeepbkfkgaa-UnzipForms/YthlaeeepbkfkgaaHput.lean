/-
  The program's Put: may, flagOf, the maker's head, Put itself.
-/
import Derived.Test.YthlaeeepbkfkgaaWtak
import Derived.Test.YthlaeeepbkfkgaaHd
namespace Go.Proofs.Ythlaeeepbkfkgaa
open Go.RowKit
set_option linter.unusedVariables false
set_option linter.unusedSimpArgs false

theorem headB_no {ys : List Int} {st nd : Int} (h : mayB ys = false ∨ st < 1 ∨ 1048576 < st ∨ nd < 0 ∨ 4 ≤ nd) : headB ys st nd = false := by
  cases e : headB ys st nd
  · rfl
  · have h1 := headB_may e
    have h2 := headB_st e
    rcases h with h | h | h | h | h
    · rw [h1] at h; cases h
    all_goals omega

set_option maxHeartbeats 4000000 in
set_option maxRecDepth 1000000 in
theorem xmay_ok (e : Ent) (ys : List Int) (w : World) (hv : e.vn = ys.length) (hR : Row w e.va ys) (hn : ys.length ≤ 1125899906842624) :
    Calls Try.prog 61 #[.agg #[.string e.nm, .bool e.gn, .slice e.va e.vn e.vc, .int .i64 e.st, .int .i64 e.nd, .int .i64 e.mt, .string e.pk, .int .i64 e.sz, .int .i64 e.cr]] w fun r w' => r = .returned (.bool (headB ys e.st e.nd)) ∧ Keeps (fun _ => False) w w' := by
  have HM : Hid (∀ w', Keeps (fun _ => False) w w' → Calls Try.prog 70 #[.slice e.va e.vn e.vc] w' fun r w'' => r = .returned (.bool (mayB ys)) ∧ w'' = w') := fun w' hk => by rw [hv]; exact may_ok _ ys _ w' (hR.keptF hk) hn
  have HN := @headB_no ys e.st e.nd
  have HY := @headB_of ys e.st e.nd
  clear hv hR hn
  cases hm : mayB ys
  · rw [HN (.inl hm)]
    rw [hm] at HM
    clear HN HY hm
    go_enter Try.func61, Try.ntmps61
    go_wp2_with (first
      | (refine wpList_box9 rfl _ rfl e rfl ?_; intro b w1 hE hK hb; have HK : Hid (Keeps (fun _ => False) w w1) := hK; have c2 := hE.c2; clear hK hb hE)
      | (go_at_call 70; refine (HM.out w1 HK.out).mono ?_; rintro r w' ⟨rfl, hw⟩; obtain rfl := hw.symm; clear hw))
    go_ret
    exact ⟨rfl, HK.out⟩
  · rw [hm] at HM
    have hall : (¬ 1 ≤ e.st) ∨ (1 ≤ e.st ∧ ¬ e.st ≤ 1048576) ∨ (1 ≤ e.st ∧ e.st ≤ 1048576 ∧ ¬ 0 ≤ e.nd) ∨ (1 ≤ e.st ∧ e.st ≤ 1048576 ∧ 0 ≤ e.nd ∧ ¬ e.nd < 4) ∨ (1 ≤ e.st ∧ e.st ≤ 1048576 ∧ 0 ≤ e.nd ∧ e.nd < 4) := by omega
    rcases hall with h | ⟨h1, h⟩ | ⟨h1, h2, h⟩ | ⟨h1, h2, h3, h⟩ | ⟨h1, h2, h3, h4⟩
    all_goals
      first
        | rw [HN (by omega)]
        | rw [HY hm ⟨h1, h2⟩ ⟨h3, h4⟩]
      clear HN HY hm
      go_enter Try.func61, Try.ntmps61
      go_wp2_with (first
        | (refine wpList_box9 rfl _ rfl e rfl ?_; intro b w1 hE hK hb; have HK : Hid (Keeps (fun _ => False) w w1) := hK; have c2 := hE.c2; have c3 := hE.c3; have c4 := hE.c4; clear hK hb hE)
        | (go_at_call 70; refine (HM.out w1 HK.out).mono ?_; rintro r w' ⟨rfl, hw⟩; obtain rfl := hw.symm; clear hw))
      go_ret
      exact ⟨by first | rfl | (show Ending.returned (.bool (decide (e.nd < 4))) = _; rw [decide_eq_false (by omega)]), HK.out⟩

set_option maxHeartbeats 400000 in
theorem flag_ok (g : Bool) (w : World) : Calls Try.prog 71 #[.bool g] w fun r w' => r = .returned (.int .i64 (g.toNat : Int)) ∧ w' = w := by
  cases g <;>
    (go_enter Try.func71, Try.ntmps71
     go_wp2
     go_ret
     exact ⟨rfl, rfl⟩)

/-- A count of a row that may be, as a natural number. -/
theorem may_nat {ys : List Int} (h : mayB ys = true) (i : Nat) : at_ ys i = ((at_ ys i).toNat : Int) ∧ (at_ ys i).toNat < 1099511627776 := by
  have := mayB_cnt h i; omega
theorem vecS_take {ys : List Int} (i : Nat) (hi : i < ys.length) : vecS (ys.take (i + 1)) = vecS (ys.take i) ++ le 4 (at_ ys i).toNat := by
  rw [List.take_succ_eq_append_getElem hi, vecS_snoc, at_eq i hi]
theorem own_fresh {T : Lay} {w w' : World} {p : Nat} {v : Value} {xs zs : List Nat} (h : OntoT T w w' p v xs) (hT : Txt T w p v zs) {b : Nat} (hb : b < w.heap.size) (hp : b ≠ p) (hv : ∀ k, v.ownBlock = some k → b ≠ k) : w'.heap[b]? = w.heap[b]? := by
  obtain ⟨_, _, _, hk⟩ := h
  exact hk.block b hb (fun h => by rcases h with h | h; exact hp h; exact hv b h rfl)

theorem numb_on {T : Lay} {p : Nat} {v : Value} {L : List Nat} {w1 w' : World} (n k : Nat) (h : OntoT T w1 w' p v L) (hn : n < 1099511627776) (hL : L.length + k ≤ 100000) :
    Calls Try.prog 59 #[.pointer (some ⟨p, 0, none⟩), .int .i64 (n : Int), .int .i64 (k : Int)] w' fun r w'' => r = .returned (.tuple #[]) ∧ OntoT T w1 w'' p v (L ++ le k n) := by
  obtain ⟨v', hT, hb, hk⟩ := h
  refine (numb_ok T p n k v' L w' hn hL hT).mono ?_
  rintro r w'' ⟨rfl, h⟩
  exact ⟨rfl, OntoT.tr hb hk h⟩
theorem OntoT.cells {T : Lay} {p : Nat} {v : Value} {L : List Nat} {w1 w' : World} (h : OntoT T w1 w' p v L) {x : Addr} (hx : x.block < w1.heap.size) (hp : x.block ≠ p) (hv : v.ownBlock ≠ some x.block) : w'.cell? x = w1.cell? x := by
  obtain ⟨_, _, _, hk⟩ := h
  exact World.cell?_of_block (hk.block x.block hx (fun h => by rcases h with h | h; exact hp h; exact hv h))

theorem OntoT.drew {T : Lay} {p : Nat} {v : Value} {L : List Nat} {w1 w' : World} (h : OntoT T w1 w' p v L) : OntoT T w1 w'.drew p v L := by
  obtain ⟨v', h1, h2, h3⟩ := h
  exact ⟨v', h1, h2, h3.drew⟩
set_option maxHeartbeats 4000000 in
set_option maxRecDepth 1000000 in
/-- What the maker's head puts. -/
theorem mhead_ok (p : Nat) (v : Value) (e : Ent) (ys : List Int) (w : World) (hv : e.vn = ys.length) (hR : Row w e.va ys) (hH : headB ys e.st e.nd = true) (hRp : ∀ x, e.va = some x → x.block ≠ p ∧ v.ownBlock ≠ some x.block) (hT : Txt 93 w p v []) :
    Calls Try.prog 62 #[.pointer (some ⟨p, 0, none⟩), .agg #[.string e.nm, .bool e.gn, .slice e.va e.vn e.vc, .int .i64 e.st, .int .i64 e.nd, .int .i64 e.mt, .string e.pk, .int .i64 e.sz, .int .i64 e.cr]] w fun r w' => r = .returned (.tuple #[]) ∧ OntoT 93 w w' p v (putL ys e.st e.nd e.gn) := by
  have hm := headB_may hH
  obtain ⟨hs, hd⟩ := headB_st hH
  have hl := mayB_len hm
  obtain ⟨b, off, hva, hb, hc⟩ := hR.at (by omega)
  obtain ⟨hbp, hbv⟩ := hRp _ hva
  obtain ⟨snat, hsn⟩ : ∃ n : Nat, e.st = (n : Int) := ⟨e.st.toNat, by omega⟩
  obtain ⟨dnat, hdn⟩ : ∃ n : Nat, e.nd = (n : Int) := ⟨e.nd.toNat, by omega⟩
  have HP : Hid (∀ L, L = (le 2 20592 ++ le 2 22) ++ vecS (ys.take 4) ++ le 4 snat ++ le 1 dnat ++ le 1 e.gn.toNat → putL ys e.st e.nd e.gn = L) := by
    refine (fun L hL => ?_ : ∀ L, L = (le 2 20592 ++ le 2 22) ++ vecS (ys.take 4) ++ le 4 snat ++ le 1 dnat ++ le 1 e.gn.toNat → putL ys e.st e.nd e.gn = L)
    rw [hL, putL, hsn, hdn, List.take_of_length_le (by omega)]
    simp [List.append_assoc]
  have HX : Hid (∀ b1 w1 w' L, Entb w1 b1 e → Keeps (fun _ => False) w w1 → w.heap.size ≤ b1 → OntoT 93 w1 w' p v L → (w'.cell? ⟨b1, 1, none⟩ = some (.bool e.gn) ∧ w'.cell? ⟨b1, 2, none⟩ = some (.slice (some ⟨b, off, none⟩) 4 e.vc) ∧ w'.cell? ⟨b1, 3, none⟩ = some (.int .i64 (snat : Int)) ∧ w'.cell? ⟨b1, 4, none⟩ = some (.int .i64 (dnat : Int))) ∧ ∀ i, i < 4 → w'.cell? ⟨b, off + i, none⟩ = some (.int .i64 ((at_ ys i).toNat : Int))) := by
    refine (fun b1 w1 w' L hE hK hb1 hO => ?_ : ∀ b1 w1 w' L, Entb w1 b1 e → Keeps (fun _ => False) w w1 → w.heap.size ≤ b1 → OntoT 93 w1 w' p v L → (w'.cell? ⟨b1, 1, none⟩ = some (.bool e.gn) ∧ w'.cell? ⟨b1, 2, none⟩ = some (.slice (some ⟨b, off, none⟩) 4 e.vc) ∧ w'.cell? ⟨b1, 3, none⟩ = some (.int .i64 (snat : Int)) ∧ w'.cell? ⟨b1, 4, none⟩ = some (.int .i64 (dnat : Int))) ∧ ∀ i, i < 4 → w'.cell? ⟨b, off + i, none⟩ = some (.int .i64 ((at_ ys i).toNat : Int)))
    have hp := hT.lt
    have hne : v.ownBlock ≠ some b1 := fun h => by have := (World.ownsRow.lt hT.2 b1 h).2; omega
    have hlt := hE.lt
    refine ⟨⟨(hO.cells (x := ⟨b1, 1, none⟩) hlt (by show b1 ≠ p; omega) hne).trans hE.c1, ?_, ?_, ?_⟩, fun i hi => ?_⟩
    · rw [hO.cells (x := ⟨b1, 2, none⟩) hlt (by show b1 ≠ p; omega) hne, hE.c2, hva, hv, hl]
    · rw [hO.cells (x := ⟨b1, 3, none⟩) hlt (by show b1 ≠ p; omega) hne, hE.c3, hsn]
    · rw [hO.cells (x := ⟨b1, 4, none⟩) hlt (by show b1 ≠ p; omega) hne, hE.c4, hdn]
    · rw [hO.cells (x := ⟨b, off + i, none⟩) (Nat.lt_of_lt_of_le hb hK.size) hbp hbv, hc w1 hK i (by omega)]
      rw [← (may_nat hm i).1]
  have HT : Hid (Txt 93 w p v []) := hT
  have HV : Hid (∀ i, i < 4 → vecS (ys.take (i + 1)) = vecS (ys.take i) ++ le 4 (at_ ys i).toNat) := fun i hi => vecS_take i (by omega)
  have HL : Hid (∀ i, i ≤ 4 → (vecS (ys.take i)).length ≤ 16) := fun i hi => by
    show (vecS (ys.take i)).length ≤ 16
    rw [vecS_len, List.length_take]; omega
  have HN : Hid (∀ i, (at_ ys i).toNat < 1099511627776) := fun i => (may_nat hm i).2
  have hs2 : snat < 1099511627776 := by omega
  have hd2 : dnat < 1099511627776 := by omega
  have HG : Hid (e.gn.toNat < 1099511627776) := (by cases e.gn <;> decide : e.gn.toNat < 1099511627776)
  have HF : Hid (∀ w0 L, OntoT 93 w0 w0 p v L → Keeps (fun _ => False) w w0 → True) := fun _ _ _ _ => trivial
  clear HF hT hR hH hm hs hd hc hbp hbv hRp hl hva hsn hdn hv hb
  go_enter Try.func62, Try.ntmps62
  go_wp2_with (first
    | (refine wpList_box9 rfl _ rfl e rfl ?_; intro b1 w1 hE hK hb; have HE : Hid (Entb w1 b1 e ∧ Keeps (fun _ => False) w w1 ∧ w.heap.size ≤ b1) := ⟨hE, hK, hb⟩; have HO : Hid (OntoT 93 w1 w1 p v []) := OntoT.refl (HT.out.keptF hK); clear hE hK hb)
    | (go_at_call 59; (fail_if_success (clear M1)); refine (numb_on 20592 2 HO.out (by decide) (by decide)).mono ?_; rintro r w2 ⟨rfl, h⟩; clear HO; have HO : Hid (OntoT 93 w1 w2 p v (le 2 20592)) := h; have M1 : Hid True := trivial; clear h)
    | (go_at_call 59; (fail_if_success (clear M2)); refine (numb_on 22 2 HO.out (by decide) (by decide)).mono ?_; rintro r w3 ⟨rfl, h⟩; clear HO; have HO : Hid (OntoT 93 w1 w3 p v (le 2 20592 ++ le 2 22)) := h; have M2 : Hid True := trivial; clear h; obtain ⟨⟨d1, d2, d3, d4⟩, _⟩ := HX.out b1 w1 w3 _ HE.out.1 HE.out.2.1 HE.out.2.2 HO.out))
  clear d1 d2 d3 d4
  go_loopw [17] (fun s17 w' => ∃ i : Nat, i ≤ 4 ∧ s17 = .int .i64 (i : Int) ∧ Hid (OntoT 93 w1 w' p v ((le 2 20592 ++ le 2 22) ++ vecS (ys.take i)))) (fun s17 _ => (4 - intOf s17).toNat)
  case atStart => exact ⟨0, by omega, rfl, by (have h : OntoT 93 w1 w3 p v (le 2 20592 ++ le 2 22 ++ vecS (ys.take 0)) := by simpa [vecS] using HO.out); exact h⟩
  case round =>
    clear HO
    obtain ⟨i, hi, rfl, HO⟩ := hrel
    obtain ⟨⟨d1, d2, d3, d4⟩, hc⟩ := HX.out b1 w1 wr _ HE.out.1 HE.out.2.1 HE.out.2.2 HO.out
    have hl := HL.out i hi
    by_cases hin : i < 4
    · have hiz : (i : Int) < 4 := by omega
      have hci := hc i hin
      have HV1 := HV.out i hin
      have hn := HN.out i
      clear d1 d2 d3 d4 hc
      generalize (at_ ys i).toNat = n at *
      have HV2 : Hid (vecS (ys.take (i + 1)) = vecS (ys.take i) ++ le 4 n) := HV1
      clear HV1
      go_wp2_with (go_at_call 59; refine (numb_on n 4 HO.out hn (by simp [le_len]; omega)).mono ?_; rintro r w4 ⟨rfl, h⟩; have HO4 : Hid (OntoT 93 w1 w4 p v ((le 2 20592 ++ le 2 22) ++ vecS (ys.take (i + 1)))) := (by rw [HV2.out, ← List.append_assoc]; exact h : OntoT 93 w1 w4 p v ((le 2 20592 ++ le 2 22) ++ vecS (ys.take (i + 1)))); clear h)
      go_roundw
      case rel => exact ⟨i + 1, by omega, by push_cast; rfl, HO4⟩
      case measure => simp [intOf]; omega
    · obtain rfl : i = 4 := by omega
      clear hc
      obtain ⟨L, hL⟩ : ∃ L, (le 2 20592 ++ le 2 22) ++ vecS (ys.take 4) = L := ⟨_, rfl⟩
      have hLl : L.length ≤ 20 := by rw [← hL]; simp only [List.length_append, le_len]; omega
      have HD : Hid (OntoT 93 w1 wr.drew p v L) := (by rw [← hL]; exact HO.out.drew : OntoT 93 w1 wr.drew p v L)
      have HPL : Hid ((le 2 20592 ++ le 2 22) ++ vecS (ys.take 4) = L) := hL
      clear HO hl hL
      go_wp2
      go_region_held3 (fun w' => w'.cell? ⟨b1, 3, none⟩ = some (.int .i64 (snat : Int))) (go_keep)
        (first | (go_at_call 59; refine (numb_on snat 4 HD.out hs2 (by omega)).mono ?_; rintro r w4 ⟨rfl, h⟩; obtain ⟨⟨q1, q2, q3, q4⟩, _⟩ := HX.out b1 w1 w4 _ HE.out.1 HE.out.2.1 HE.out.2.2 h; have HO4 : Hid (OntoT 93 w1 w4 p v (L ++ le 4 snat)) := h; clear h))
      go_wp2
      have HD4 : Hid (OntoT 93 w1 w4.drew p v (L ++ le 4 snat)) := HO4.out.drew
      clear HO4 HD d1 d2 d3 d4
      go_region_held3 (fun w' => w'.cell? ⟨b1, 4, none⟩ = some (.int .i64 (dnat : Int))) (go_keep)
        (first | (go_at_call 59; refine (numb_on dnat 1 HD4.out hd2 (by simp [le_len]; omega)).mono ?_; rintro r w5 ⟨rfl, h⟩; obtain ⟨⟨t1, t2, t3, t4⟩, _⟩ := HX.out b1 w1 w5 _ HE.out.1 HE.out.2.1 HE.out.2.2 h; have HO5 : Hid (OntoT 93 w1 w5 p v (L ++ le 4 snat ++ le 1 dnat)) := h; clear h))
      go_wp2
      have HD5 : Hid (OntoT 93 w1 w5.drew p v (L ++ le 4 snat ++ le 1 dnat)) := HO5.out.drew
      clear HO5 HD4 q1 q2 q3 q4
      go_region_held3 (fun w' => w'.cell? ⟨b1, 1, none⟩ = some (.bool e.gn)) (go_keep)
        (first | (go_at_call 71; refine (flag_ok _ _).mono ?_; rintro r w' ⟨rfl, hw⟩; obtain rfl := hw.symm; clear hw)
               | (go_at_call 59; refine (numb_on e.gn.toNat 1 HD5.out HG.out (by simp [le_len]; omega)).mono ?_; rintro r w6 ⟨rfl, h⟩; obtain ⟨⟨r1, r2, r3, r4⟩, _⟩ := HX.out b1 w1 w6 _ HE.out.1 HE.out.2.1 HE.out.2.2 h; have HO6 : Hid (OntoT 93 w1 w6 p v (L ++ le 4 snat ++ le 1 dnat ++ le 1 e.gn.toNat)) := h; clear h))
      go_wp2
      go_end0
      refine ⟨rfl, ?_⟩
      rw [HP.out _ rfl, HPL.out]
      obtain ⟨v', g1, g2, g3⟩ := HO6.out
      refine ⟨v', g1, ?_, (HE.out.2.1.mono (fun _ _ h => h.elim)).trans g3 (fun i hi h => h)⟩
      rcases g2 with g2 | ⟨g, e1, e2⟩
      · exact .inl g2
      · exact .inr ⟨g, e1, Nat.le_trans HE.out.2.1.size e2⟩

theorem Row.lt {w : World} {a : Option Addr} {ys : List Int} (h : Row w a ys) (hn : 0 < ys.length) : ∀ x, a = some x → x.block < w.heap.size := by
  intro x hx
  obtain ⟨b, off, e, hb, _⟩ := h.spot hn
  rw [hx] at e
  cases e
  exact hb

set_option maxHeartbeats 4000000 in
set_option maxRecDepth 1000000 in
theorem put_ok (e : Ent) (ys : List Int) (w : World) (hv : e.vn = ys.length) (hR : Row w e.va ys) (hn : ys.length ≤ 1125899906842624) :
    Calls Try.prog 46 #[.agg #[.string e.nm, .bool e.gn, .slice e.va e.vn e.vc, .int .i64 e.st, .int .i64 e.nd, .int .i64 e.mt, .string e.pk, .int .i64 e.sz, .int .i64 e.cr]] w fun r w' => r = .returned (.tuple #[.string (putT ys e.st e.nd e.gn), .int .i64 (pErr ys e.st e.nd)]) ∧ Keeps (fun _ => False) w w' := by
  have HM : Hid (∀ w', Keeps (fun _ => False) w w' → Calls Try.prog 61 #[.agg #[.string e.nm, .bool e.gn, .slice e.va e.vn e.vc, .int .i64 e.st, .int .i64 e.nd, .int .i64 e.mt, .string e.pk, .int .i64 e.sz, .int .i64 e.cr]] w' fun r w'' => r = .returned (.bool (headB ys e.st e.nd)) ∧ Keeps (fun _ => False) w' w'') := fun w' hk => xmay_ok e ys w' hv (hR.keptF hk) hn
  cases hh : headB ys e.st e.nd
  · have E1 : putT ys e.st e.nd e.gn = ⟨#[]⟩ := by simp [putT, hh, textOf]
    have E2 : pErr ys e.st e.nd = 1200 := by simp [pErr, hh]
    rw [hh] at HM
    rw [E1, E2]
    clear hh E1 E2 hv hR hn
    go_enter Try.func46, Try.ntmps46
    go_wp2_with (first
      | (refine wpList_box9 rfl _ rfl e rfl ?_; intro b w1 hE hK hb; have HE : Hid (Entb w1 b e ∧ Keeps (fun _ => False) w w1) := ⟨hE, hK⟩; clear hE hK hb)
      | (refine wpList_load9 rfl _ rfl b 0 rfl e ?hA ?_; (case hA => exact HE.out.1.at))
      | (go_at_call 61; refine (HM.out w1 HE.out.2).mono ?_; rintro r w2 ⟨rfl, h⟩; have HK2 : Hid (Keeps (fun _ => False) w w2) := HE.out.2.trans h (fun _ _ h => h); clear h))
    go_ret2
    exact ⟨rfl, HK2.out⟩
  · have hl := mayB_len (headB_may hh)
    have E1 : putT ys e.st e.nd e.gn = textOf (putL ys e.st e.nd e.gn) := by simp [putT, hh]
    have E2 : pErr ys e.st e.nd = 0 := by simp [pErr, hh]
    have HH : Hid (∀ w2, Keeps (fun _ => False) w w2 → Calls Try.prog 62 #[.pointer (some ⟨w2.heap.size, 0, none⟩), .agg #[.string e.nm, .bool e.gn, .slice e.va e.vn e.vc, .int .i64 e.st, .int .i64 e.nd, .int .i64 e.mt, .string e.pk, .int .i64 e.sz, .int .i64 e.cr]] (w2.alloc (.cells #[.slice none 0 0] 93)) fun r w' => r = .returned (.tuple #[]) ∧ ∃ v', Txt 93 w' w2.heap.size v' (putL ys e.st e.nd e.gn) ∧ Keeps (fun _ => False) w w') := by
      refine (fun w2 hk => ?_ : ∀ w2, Keeps (fun _ => False) w w2 → Calls Try.prog 62 #[.pointer (some ⟨w2.heap.size, 0, none⟩), .agg #[.string e.nm, .bool e.gn, .slice e.va e.vn e.vc, .int .i64 e.st, .int .i64 e.nd, .int .i64 e.mt, .string e.pk, .int .i64 e.sz, .int .i64 e.cr]] (w2.alloc (.cells #[.slice none 0 0] 93)) fun r w' => r = .returned (.tuple #[]) ∧ ∃ v', Txt 93 w' w2.heap.size v' (putL ys e.st e.nd e.gn) ∧ Keeps (fun _ => False) w w')
      refine (mhead_ok w2.heap.size (.slice none 0 0) e ys _ hv (hR.keptF (hk.alloc _)) hh (fun x hx => ⟨?_, by simp [Value.ownBlock]⟩) (Txt.new _ w2)).mono ?_
      · have := hR.lt (by omega) x hx
        have := hk.size
        omega
      · rintro r w' ⟨rfl, v', g1, _, g3⟩
        refine ⟨rfl, v', g1, (hk.alloc _).trans g3 (fun i hi h => ?_)⟩
        have := hk.size
        rcases h with h | h
        · omega
        · simp [Value.ownBlock] at h
    have HB : Hid (∀ y ∈ putL ys e.st e.nd e.gn, y < 256) := putL_lt _ _ _ _
    rw [hh] at HM
    rw [E1, E2]
    generalize putL ys e.st e.nd e.gn = L at *
    clear hh E1 E2 hv hR hn hl
    go_enter Try.func46, Try.ntmps46
    go_wp2_with (first
      | (refine wpList_box9 rfl _ rfl e rfl ?_; intro b w1 hE hK hb; have HE : Hid (Entb w1 b e ∧ Keeps (fun _ => False) w w1) := ⟨hE, hK⟩; clear hE hK hb)
      | (refine wpList_load9 rfl _ rfl b 0 rfl e ?hA ?_; (case hA => first | exact HE.out.1.at | exact ((HE.out.1.keptF HK2.out.1).keptF ((Keeps.refl _ _).alloc _)).at))
      | (go_at_call 61; refine (HM.out w1 HE.out.2).mono ?_; rintro r w2 ⟨rfl, h⟩; have HK2 : Hid (Keeps (fun _ => False) w1 w2 ∧ Keeps (fun _ => False) w w2) := ⟨h, HE.out.2.trans h (fun _ _ h => h)⟩; clear h)
      | (go_at_call 62; refine (HH.out w2 HK2.out.2).mono ?_; rintro r w3 ⟨rfl, v', h1, h2⟩; have H3 : Hid (Txt 93 w3 w2.heap.size v' L ∧ Keeps (fun _ => False) w w3) := ⟨h1, h2⟩; clear h1 h2)
      | (go_at_call 44; refine (told_ok _ _ v' L w3 HB.out H3.out.1).mono ?_; rintro r w' ⟨rfl, hw⟩; obtain rfl := hw.symm; clear hw))
    go_ret2
    exact ⟨rfl, H3.out.2⟩

end Go.Proofs.Ythlaeeepbkfkgaa

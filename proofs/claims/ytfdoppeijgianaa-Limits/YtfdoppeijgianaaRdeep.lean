/-
  The document's depths.
-/
import Derived.Test.YtfdoppeijgianaaRleast
import Derived.BigRegion
import Derived.Deep.RegionWith
namespace Go.Proofs.Ytfdoppeijgianaa
open Go.RowKit
set_option linter.unusedVariables false
set_option linter.unusedSimpArgs false

theorem Av.push {S : List Tr} {W : List Nat} {F : List Bool} (h : Av S W F) (hl : F.length = W.length) (x : Nat) : Av (ins (x, W.length) S) (W ++ [x]) (F ++ [true]) := by
  intro t
  rw [mem_ins, h t]
  by_cases e : t.2 < W.length
  · have e1 : (W ++ [x]).getD t.2 0 = W.getD t.2 0 := by rw [List.getD, List.getElem?_append_left e, List.getD]
    have e2 : (F ++ [true]).getD t.2 false = F.getD t.2 false := by rw [List.getD, List.getElem?_append_left (by omega), List.getD]
    rw [e1, e2]
    constructor
    · rintro (rfl | ⟨h1, h2⟩)
      · simp at e
      · exact ⟨by simp; omega, h2⟩
    · rintro ⟨_, h2⟩; exact .inr ⟨e, h2⟩
  · constructor
    · rintro (rfl | ⟨h1, _⟩)
      · refine ⟨by simp, ?_, ?_⟩
        · simp only [List.getD]; rw [List.getElem?_append_right (by omega), hl]; simp
        · simp only [List.getD]; rw [List.getElem?_append_right (by omega)]; simp
      · exact absurd h1 e
    · rintro ⟨h1, h2, h3⟩
      have : t.2 = W.length := by simp at h1; omega
      left
      refine Prod.ext ?_ this
      rw [h3, this, List.getD, List.getElem?_append_right (Nat.le_refl _)]; simp
/-- What each is joined into, as the document has it. -/
def Ur (U : List Int) (F : List Bool) (into : List Nat) : Prop := ∀ q, q < into.length → at_ U q = if F.getD q false = true then -1 else ((into.getD q 0 : Nat) : Int)
theorem Ur.step {U : List Int} {F : List Bool} {into : List Nat} (h : Ur U F into) (hU : U.length = into.length) (hF : F.length = into.length) (a b : Nat) (ha : a < into.length) (hb : b < into.length) :
    Ur ((U.set a (into.length : Int)).set b (into.length : Int) ++ [-1]) ((F.set a false).set b false ++ [true]) ((into.set a into.length).set b into.length ++ [into.length]) := by
  intro q hq
  have hq' : q < into.length + 1 := by simpa using hq
  by_cases e : q < into.length
  · rw [at_append_left _ _ _ (by simp [hU]; exact e), at_set, at_set]
    have e2 : ((F.set a false).set b false ++ [true]).getD q false = if b = q then false else if a = q then false else F.getD q false := by
      rw [List.getD, List.getElem?_append_left (by simp [hF]; exact e), ← List.getD, getD_set _ _ _ _ (by simp [hF]; exact hb), getD_set _ _ _ _ (by omega)]
    have e3 : ((into.set a into.length).set b into.length ++ [into.length]).getD q 0 = if b = q then into.length else if a = q then into.length else into.getD q 0 := by
      rw [List.getD, List.getElem?_append_left (by simp; exact e), List.getElem?_set, List.getElem?_set]
      by_cases h1 : b = q
      · subst h1; simp [hb]
      · by_cases h2 : a = q
        · subst h2; simp [h1, ha]
        · simp [h1, h2, List.getD]
    rw [e2, e3, h q e]
    by_cases h1 : b = q
    · subst h1; simp [hU, hb]
    · by_cases h2 : a = q
      · subst h2; simp [h1, hU, ha]
      · simp [h1, h2]
  · have : q = into.length := by omega
    subst this
    have hl : ((U.set a (into.length : Int)).set b (into.length : Int)).length = into.length := by simp [hU]
    have := at_append_right ((U.set a (into.length : Int)).set b (into.length : Int)) [-1] 0
    rw [hl, Nat.add_zero] at this
    rw [this]
    have e2 : ((F.set a false).set b false ++ [true]).getD into.length false = true := by
      rw [List.getD, List.getElem?_append_right (by simp [hF])]; simp [hF]
    rw [e2]; rfl

theorem rf_set {w : World} {p gu n c : Nat} {vw vf : Value} {W : List Nat} {U : List Int} {F : List Bool} (h : Rf w p vw (.slice (some ⟨gu, 0, none⟩) n c) vf W U F) (hn : U.length = n) (i : Nat) (v : Int) :
    Rf (w.setCell ⟨gu, i, none⟩ (.int .i64 v)) p vw (.slice (some ⟨gu, 0, none⟩) n c) vf W (U.set i v) F ∧ Keeps (fun b => p ≤ b) w (w.setCell ⟨gu, i, none⟩ (.int .i64 v)) := by
  have hg : p + 1 ≤ gu := (World.ownsRow.lt h.own.ou gu rfl).1
  refine ⟨⟨?_, ⟨owns_far h.own.ow (fun e => h.own.wu gu e rfl) _, ?_, owns_far h.own.of' (fun e => h.own.uf gu rfl e) _, h.own.wu, h.own.wf, h.own.uf⟩, by rw [List.length_set]; exact h.lenU, h.lenF⟩, (Keeps.refl (fun b => p ≤ b) w).setCell (p := ⟨gu, i, none⟩) (fun _ => by show p ≤ gu; omega) _⟩
  · rw [Below.heap_setCell _ _ _ _ (by show p ≠ gu; omega)]; exact h.blk
  · subst hn
    have := owns_set h.own.ou i (.int .i64 v)
    unfold OwnV
    rw [List.length_set, ← intsV_set]; exact this
theorem Rf.drew {w : World} {p : Nat} {vw vu vf : Value} {W : List Nat} {U : List Int} {F : List Bool} (h : Rf w p vw vu vf W U F) : Rf w.drew p vw vu vf W U F := h.kept ((Keeps.refl (fun _ => False) w).drew) (fun _ _ h => h)

def upM (N : Nat) (z : Int) : Nat := if z < 0 then 0 else ((N : Int) - z).toNat
theorem upM_lt (N q : Nat) (z : Int) (h : z = -1 ∨ (q : Int) < z) (hz : z < (N : Int)) (hq : q < N) : upM N z < upM N (q : Int) := by
  unfold upM
  rw [if_neg (show ¬ (q : Int) < 0 by omega)]
  split <;> omega
/-- Where the document's joining stands. -/
structure Jr (w' : World) (p : Nat) (R : List Nat) (k : Nat) (S : List Tr) (into W : List Nat) (U : List Int) (F : List Bool) (vw vu vf : Value) : Prop where
  len : S.length = k + 1
  al : Al S into.length
  lenW : W.length = into.length
  av : Av S W F
  ur : Ur U F into
  run : runI k S into = R
  sum : (S.map Prod.fst).sum ≤ 1099511627776
  rf : Rf w' p vw vu vf W U F

theorem jr_next {w0 w5 : World} {p n : Nat} {R : List Nat} {t1 t2 : Tr} {S2 : List Tr} {into W : List Nat} {U : List Int} {F : List Bool} {vw vu vf vw' vu' vf' : Value} {L : Nat} (hJ : Jr w0 p R (n + 1) (t1 :: t2 :: S2) into W U F vw vu vf) (hL : into.length = L)
    (h : Rf w5 p vw' vu' vf' (W ++ [t1.1 + t2.1]) ((U.set t1.2 (L : Int)).set t2.2 (L : Int) ++ [-1]) ((F.set t1.2 false).set t2.2 false ++ [true])) :
    Jr w5 p R n (ins (t1.1 + t2.1, L) S2) ((into.set t1.2 L).set t2.2 L ++ [L]) (W ++ [t1.1 + t2.1]) ((U.set t1.2 (L : Int)).set t2.2 (L : Int) ++ [-1]) ((F.set t1.2 false).set t2.2 false ++ [true]) vw' vu' vf' := by
  have hsrt := hJ.al.srt
  have hal := hJ.al
  have hsum := hJ.sum
  have hrun := hJ.run
  have hlen := hJ.len
  obtain ⟨n1, n2, n3, n4⟩ := hal.two
  have hLn : ((into.set t1.2 L).set t2.2 L ++ [L]).length = L + 1 := by simp [hL]
  have l3 : W.length = L := by rw [hJ.lenW, hL]
  have lf : F.length = L := by rw [hJ.rf.lenF, l3]
  have lu : U.length = L := by rw [hJ.rf.lenU, l3]
  refine ⟨?_, ?_, ?_, ?_, ?_, ?_, ?_, h⟩
  · rw [length_ins]; simpa using hlen
  · rw [hLn]; rw [hL] at hal; exact hal.step
  · rw [hLn]; simp [l3]
  · have a1 := (hJ.av.take hsrt hJ.rf.lenF).take (List.pairwise_cons.1 hsrt).2 (by rw [List.length_set]; exact hJ.rf.lenF)
    have a2 := a1.push (by rw [List.length_set, List.length_set]; exact hJ.rf.lenF) (t1.1 + t2.1)
    rw [l3] at a2; exact a2
  · have := hJ.ur.step (by rw [hL, lu]) (by rw [hL, lf]) t1.2 t2.2 n3 n4
    rw [hL] at this; exact this
  · rw [← hrun, runI, hL]
  · rw [sum_ins]; simp only [List.map_cons, List.sum_cons] at hsum; simp only; omega

set_option maxHeartbeats 4000000 in
set_option maxRecDepth 1000000 in
theorem rdepths_none (cap : Nat) (a : Option Addr) (w : World) : Calls Try.prog 23 #[.slice a 0 cap] w fun e w' => e = .returned (.slice none 0 0) ∧ Keeps (fun _ => False) w w' := by
  go_enter Try.func23, Try.ntmps23
  go_wp2
  go_loopw [4] (fun s4 w' => s4 = .int .i64 0 ∧ Hid (Keeps (fun _ => False) w w')) (fun s4 w' => 0)
  case atStart => exact ⟨rfl, (Keeps.refl _ w).alloc _⟩
  case round =>
    obtain ⟨rfl, HK⟩ := hrel
    go_wp2
    go_loopw [5] (fun s5 w' => s5 = .int .i64 1 ∧ Hid (Keeps (fun _ => False) w w')) (fun s5 w' => 0)
    case atStart => exact ⟨rfl, HK⟩
    case round =>
      clear HK
      obtain ⟨rfl, HK⟩ := hrel
      go_wp2
      go_loopw [8, 9] (fun s8 s9 w' => s9 = .int .i64 0 ∧ s8 = .slice none 0 0 ∧ Hid (Keeps (fun _ => False) w w')) (fun s8 s9 w' => 0)
      case atStart => exact ⟨rfl, rfl, HK⟩
      case round =>
        clear HK
        obtain ⟨rfl, rfl, HK⟩ := hrel
        go_wp2
        go_ret
        exact ⟨rfl, HK.out⟩

set_option maxHeartbeats 4000000 in
set_option maxRecDepth 1000000 in
theorem rdepths_some (a : Option Addr) (ws : List Nat) (cap : Nat) (w : World) (hR : Row w a (ints ws)) (hl1 : 1 ≤ ws.length) (hl : ws.length ≤ 288) (hsum : ws.sum ≤ 1099511627776) :
    Calls Try.prog 23 #[.slice a ws.length cap] w fun e w' => ∃ v, e = .returned v ∧ OwnV w' w.heap.size v (ints (dsOf ws)) ∧ Keeps (fun _ => False) w w' := by
  obtain ⟨b0, off0, rfl, hb0, hc0⟩ := hR.at (by rw [ints_length]; omega)
  have HC : Hid (∀ i (h : i < ws.length), ∀ w', Keeps (fun _ => False) w w' → w'.cell? ⟨b0, off0 + i, none⟩ = some (.int .i64 ((ws[i] : Nat) : Int))) := fun i h w' hk => by
    rw [hc0 w' hk i (by rw [ints_length]; exact h), ints_get ws i h]
  have HS : Hid (ws.sum ≤ 1099511627776) := hsum
  clear hc0 hR hsum
  obtain ⟨m, hm⟩ : ∃ m, ws.length = m := ⟨_, rfl⟩
  rw [hm] at hl hl1
  rw [hm]
  have HM : Hid (ws.length = m) := hm
  clear hm
  go_enter Try.func23, Try.ntmps23
  go_wp2
  go_loopw [4] (fun s4 w' => ∃ i : Nat, i ≤ m ∧ s4 = .int .i64 (i : Int) ∧ Hid ((∃ vw vu vf, Rf w' w.heap.size vw vu vf (ws.take i) (List.replicate i (-1)) (List.replicate i true)) ∧ Keeps (fun _ => False) w w')) (fun s4 w' => ((m : Int) - intOf s4).toNat)
  case atStart =>
    refine ⟨0, by omega, rfl, ⟨.slice none 0 0, .slice none 0 0, .slice none 0 0, ⟨heap_alloc_new _ _, ⟨World.ownsRow_nil _ _ _ _, World.ownsRow_nil _ _ _ _, World.ownsRow_nil _ _ _ _, ?_, ?_, ?_⟩, rfl, rfl⟩⟩, (Keeps.refl _ w).alloc _⟩
    all_goals intro k e; cases e
  case round =>
    obtain ⟨i, hi, rfl, HI⟩ := hrel
    by_cases him : i < m
    · have hiz : (i : Int) < (m : Int) := by omega
      have hil : i < ws.length := by rw [HM.out]; exact him
      have hc := HC.out i hil wr HI.out.2
      have HA : Hid (Calls Try.prog 29 #[.pointer (some ⟨w.heap.size, 0, none⟩), .int .i64 ((ws[i] : Nat) : Int)] wr fun e w' => e = .returned (.tuple #[]) ∧ (∃ vw vu vf, Rf w' w.heap.size vw vu vf (ws.take (i + 1)) (List.replicate (i + 1) (-1)) (List.replicate (i + 1) true)) ∧ Keeps (fun _ => False) w w') := by
        obtain ⟨⟨vw, vu, vf, hr⟩, hk⟩ := HI.out
        refine (add_ok w.heap.size vw vu vf _ _ _ ws[i] wr hr (by rw [List.length_take]; omega)).mono ?_
        rintro e w' ⟨rfl, vw', vu', vf', h1, h2⟩
        rw [← take_snoc_nat ws i hil, ← List.replicate_succ', ← List.replicate_succ'] at h1
        exact ⟨rfl, ⟨vw', vu', vf', h1⟩, hk.trans h2 (fun i hi h => by omega)⟩
      generalize ws[i] = x at *
      clear HI
      go_wp2_with (go_at_call 29; refine HA.out.mono ?_; rintro e w1 ⟨rfl, h1⟩; have H1 : Hid ((∃ vw vu vf, Rf w1 w.heap.size vw vu vf (ws.take (i + 1)) (List.replicate (i + 1) (-1)) (List.replicate (i + 1) true)) ∧ Keeps (fun _ => False) w w1) := h1; clear h1)
      go_roundw
      case rel => exact ⟨i + 1, by omega, by push_cast; rfl, H1.out⟩
      case measure => simp [intOf]; omega
    · obtain rfl : i = m := by omega
      clear him hi
      obtain ⟨R, hR⟩ : ∃ R, runI (i - 1) (sort0 ws) (List.replicate i 0) = R := ⟨_, rfl⟩
      have HRn : Hid (runI (i - 1) (sort0 ws) (List.replicate i 0) = R) := hR
      clear hR
      have HJ0 : Hid ((∃ k S into W U F vw vu vf, k + 1 = i ∧ into.length + 1 = i + 1 ∧ Jr wr w.heap.size R k S into W U F vw vu vf) ∧ Keeps (fun _ => False) w wr) := by
        obtain ⟨⟨vw, vu, vf, hr⟩, hk⟩ := HI.out
        rw [List.take_of_length_le (by rw [HM.out]; omega)] at hr
        refine ⟨⟨i - 1, sort0 ws, List.replicate i 0, ws, _, _, vw, vu, vf, by omega, by simp, ⟨by rw [sort0_length, HM.out]; omega, ?_, by rw [HM.out]; simp, ?_, ?_, HRn.out, by rw [weight0]; exact HS.out, hr⟩⟩, hk⟩
        · rw [List.length_replicate, ← HM.out]; exact al0 ws (by rw [HM.out]; omega)
        · intro t
          rw [mem_sort0]
          constructor
          · rintro ⟨q, hq, rfl⟩
            have : q < i := by rw [← HM.out]; exact hq
            exact ⟨hq, by simp [List.getD, this], rfl⟩
          · rintro ⟨h1, _, h3⟩
            exact ⟨t.2, h1, Prod.ext h3 rfl⟩
        · intro q hq
          rw [List.length_replicate] at hq
          simp [at_, List.getD, hq]
      clear HI
      go_wp2
      go_loopw [5] (fun s5 w' => ∃ j : Nat, 1 ≤ j ∧ j ≤ i ∧ s5 = .int .i64 (j : Int) ∧ Hid ((∃ k S into W U F vw vu vf, k + j = i ∧ into.length + 1 = i + j ∧ Jr w' w.heap.size R k S into W U F vw vu vf) ∧ Keeps (fun _ => False) w w')) (fun s5 w' => ((i : Int) - intOf s5).toNat)
      case atStart => exact ⟨1, by omega, by omega, rfl, HJ0⟩
      case round =>
        clear HJ0
        obtain ⟨j, hj1, hj2, rfl, HJ⟩ := hrel
        by_cases hji : j < i
        · have hjz : (j : Int) < (i : Int) := by omega
          obtain ⟨⟨k, S, into, W, U, F, vw, vu, vf, hk, hil, hJ⟩, hK⟩ := HJ.out
          obtain ⟨n, rfl⟩ : ∃ n, k = n + 1 := ⟨k - 1, by omega⟩
          match S, hJ with
          | t1 :: t2 :: S2, hJ =>
          have hlen := hJ.len
          obtain ⟨n1, n2, n3, n4⟩ := hJ.al.two
          have hsrt := hJ.al.srt
          have hWl : W.length ≤ 600 := by rw [hJ.lenW]; omega
          have HL1 : Hid (Calls Try.prog 30 #[.pointer (some ⟨w.heap.size, 0, none⟩)] wr fun e w' => e = .returned (.int .i64 (t1.2 : Int)) ∧ Rf w' w.heap.size vw vu vf W U (F.set t1.2 false) ∧ Keeps (fun b => w.heap.size ≤ b) wr w') := least_ok w.heap.size vw vu vf W U F t1 (t2 :: S2) wr hJ.rf hJ.av hsrt (by omega)
          have HL2 : Hid (∀ w1, Rf w1 w.heap.size vw vu vf W U (F.set t1.2 false) → Calls Try.prog 30 #[.pointer (some ⟨w.heap.size, 0, none⟩)] w1 fun e w' => e = .returned (.int .i64 (t2.2 : Int)) ∧ Rf w' w.heap.size vw vu vf W U ((F.set t1.2 false).set t2.2 false) ∧ Keeps (fun b => w.heap.size ≤ b) w1 w') := fun w1 h1 => least_ok w.heap.size vw vu vf W U (F.set t1.2 false) t2 S2 w1 h1 (hJ.av.take hsrt hJ.rf.lenF) (List.pairwise_cons.1 hsrt).2 (by omega)
          have HJ' : Hid (Jr wr w.heap.size R (n + 1) (t1 :: t2 :: S2) into W U F vw vu vf ∧ Keeps (fun _ => False) w wr) := ⟨hJ, hK⟩
          clear HJ hJ hK hsrt n2
          go_wp2_with (first
            | (go_at_call 30; (fail_if_success (clear H1)); refine HL1.out.mono ?_; rintro e w1 ⟨rfl, h1, h2⟩; have H1 : Hid (Rf w1 w.heap.size vw vu vf W U (F.set t1.2 false) ∧ Keeps (fun b => w.heap.size ≤ b) wr w1) := ⟨h1, h2⟩; clear h1 h2)
            | (go_at_call 30; refine (HL2.out w1 H1.out.1).mono ?_; rintro e w2 ⟨rfl, h1, h2⟩; have H2 : Hid (Rf w2 w.heap.size vw vu vf W U ((F.set t1.2 false).set t2.2 false) ∧ Keeps (fun b => w.heap.size ≤ b) wr w2) := ⟨h1, H1.out.2.trans h2 (fun _ _ h => h)⟩; clear h1 h2))
          obtain ⟨L, hL⟩ : ∃ L, into.length = L := ⟨_, rfl⟩
          rw [hL] at n3 n4 hil
          have hUl : U.length = L := by rw [H2.out.1.lenU, HJ'.out.1.lenW, hL]
          have hWL : W.length = L := by rw [HJ'.out.1.lenW, hL]
          obtain ⟨gu, cu, rfl, _, _⟩ := World.ownsRow.form H2.out.1.own.ou (by omega)
          obtain ⟨gw, cw, rfl, _, _⟩ := World.ownsRow.form H2.out.1.own.ow (by rw [ints_length]; omega)
          rw [ints_length, hWL, hUl] at H2 HJ'
          have hgu : w.heap.size + 1 ≤ gu := (World.ownsRow.lt H2.out.1.own.ou gu rfl).1
          have hL600 : (L : Int) ≤ 600 := by omega
          have z1 : (t1.2 : Int) < (L : Int) := by omega
          have z2 : (t2.2 : Int) < (L : Int) := by omega
          have q1 : ¬ w.heap.size = gu := by omega
          have q2 : ¬ gu = w.heap.size := by omega
          have HLL : Hid (into.length = L ∧ U.length = L ∧ W.length = L) := ⟨hL, hUl, hWL⟩
          have hc1 : w2.cell? ⟨w.heap.size, 1, none⟩ = some (.slice (some ⟨gu, 0, none⟩) L cu) := cell_of_heap H2.out.1.blk rfl
          have hca : w2.cell? ⟨gu, t1.2, none⟩ = some (.int .i64 (at_ U t1.2)) ∧ w2.frozen? ⟨gu, t1.2, none⟩ = false := by
            have ho := H2.out.1.own.ou
            unfold OwnV at ho
            rw [hUl] at ho
            exact owns_cell ho t1.2 _ (intsV_get U t1.2 (by omega))
          obtain ⟨hca, hfa⟩ := hca
          clear HL1 HL2 H1 hL hUl hWL
          generalize at_ U t1.2 = v1 at *
          go_region
          clear hc1 hca hfa
          generalize hw3 : (w2.setCell _ _).drew = w3
          have H3 : Hid (Rf w3 w.heap.size (.slice (some ⟨gw, 0, none⟩) L cw) (.slice (some ⟨gu, 0, none⟩) L cu) vf W (U.set t1.2 (L : Int)) ((F.set t1.2 false).set t2.2 false) ∧ Keeps (fun b => w.heap.size ≤ b) wr w3) := by
            obtain ⟨k1, k2⟩ := rf_set H2.out.1 HLL.out.2.1 t1.2 (L : Int)
            rw [← hw3]
            exact ⟨k1.drew, (H2.out.2.trans k2 (fun _ _ h => h)).drew⟩
          clear hw3 H2
          have hc1 : w3.cell? ⟨w.heap.size, 1, none⟩ = some (.slice (some ⟨gu, 0, none⟩) L cu) := cell_of_heap H3.out.1.blk rfl
          have hcb : w3.cell? ⟨gu, t2.2, none⟩ = some (.int .i64 (at_ (U.set t1.2 (L : Int)) t2.2)) ∧ w3.frozen? ⟨gu, t2.2, none⟩ = false := by
            have ho := H3.out.1.own.ou
            unfold OwnV at ho
            have hUl := HLL.out.2.1
            rw [List.length_set, hUl] at ho
            exact owns_cell ho t2.2 _ (intsV_get _ t2.2 (by simp; omega))
          obtain ⟨hcb, hfb⟩ := hcb
          generalize at_ (U.set t1.2 (L : Int)) t2.2 = v2 at *
          go_wp2
          go_region
          clear hc1 hcb hfb
          generalize hw4 : (w3.setCell _ _).drew = w4
          have H4 : Hid (Rf w4 w.heap.size (.slice (some ⟨gw, 0, none⟩) L cw) (.slice (some ⟨gu, 0, none⟩) L cu) vf W ((U.set t1.2 (L : Int)).set t2.2 (L : Int)) ((F.set t1.2 false).set t2.2 false) ∧ Keeps (fun b => w.heap.size ≤ b) wr w4) := by
            obtain ⟨k1, k2⟩ := rf_set H3.out.1 (by rw [List.length_set]; exact HLL.out.2.1) t2.2 (L : Int)
            rw [← hw4]
            exact ⟨k1.drew, (H3.out.2.trans k2 (fun _ _ h => h)).drew⟩
          clear hw4 H3
          have hp0 : w4.cell? ⟨w.heap.size, 0, none⟩ = some (.slice (some ⟨gw, 0, none⟩) L cw) := cell_of_heap H4.out.1.blk rfl
          have hwt : ∀ t : Tr, t ∈ t1 :: t2 :: S2 → w4.cell? ⟨gw, t.2, none⟩ = some (.int .i64 (t.1 : Int)) := fun t ht => by
            have hav := (HJ'.out.1.av t).1 ht
            have ho := H4.out.1.own.ow
            unfold OwnV at ho
            rw [ints_length, HLL.out.2.2] at ho
            rw [(owns_cell ho t.2 _ (nats_get W t.2 hav.1)).1, ← hav.2.2]
          have hw1 := hwt t1 (by simp)
          have hw2 := hwt t2 (by simp)
          clear hwt
          have hsm : (t1.1 : Int) + (t2.1 : Int) ≤ 1099511627776 := by
            have := HJ'.out.1.sum
            simp only [List.map_cons, List.sum_cons] at this; omega
          have hsw : wrap64 ((t1.1 : Int) + (t2.1 : Int)) = (t1.1 : Int) + (t2.1 : Int) := by simp only [wrap64]; omega
          have hsw' : IntKind.i64.wrap ((t1.1 : Int) + (t2.1 : Int)) = (t1.1 : Int) + (t2.1 : Int) := by rw [IntWalk.i64_left]; exact hsw
          have HAd : Hid (Calls Try.prog 29 #[.pointer (some ⟨w.heap.size, 0, none⟩), .int .i64 ((t1.1 : Int) + (t2.1 : Int))] w4.drew fun e w' => e = .returned (.tuple #[]) ∧ ∃ vw' vu' vf', Rf w' w.heap.size vw' vu' vf' (W ++ [t1.1 + t2.1]) ((U.set t1.2 (L : Int)).set t2.2 (L : Int) ++ [-1]) ((F.set t1.2 false).set t2.2 false ++ [true]) ∧ Keeps (fun b => w.heap.size ≤ b) w4.drew w') := by
            have := add_ok w.heap.size _ _ _ _ _ _ (t1.1 + t2.1) w4.drew H4.out.1.drew (by have := HLL.out.2.2; omega)
            rw [show (((t1.1 + t2.1 : Nat)) : Int) = (t1.1 : Int) + (t2.1 : Int) by push_cast; rfl] at this
            exact this
          have HFin : Hid (∀ w5 vw' vu' vf', Rf w5 w.heap.size vw' vu' vf' (W ++ [t1.1 + t2.1]) ((U.set t1.2 (L : Int)).set t2.2 (L : Int) ++ [-1]) ((F.set t1.2 false).set t2.2 false ++ [true]) → Keeps (fun b => w.heap.size ≤ b) w4.drew w5 → ((∃ k S into W U F vw vu vf, k + (j + 1) = i ∧ into.length + 1 = i + (j + 1) ∧ Jr w5 w.heap.size R k S into W U F vw vu vf) ∧ Keeps (fun _ => False) w w5)) := fun w5 vw' vu' vf' h1 h2 => by
            obtain ⟨hJ, hK⟩ := HJ'.out
            have l1 := HLL.out.1
            have hLn : ((into.set t1.2 L).set t2.2 L ++ [L]).length = L + 1 := by simp [l1]
            exact ⟨⟨n, _, _, _, _, _, vw', vu', vf', by omega, by rw [hLn]; omega, jr_next hJ l1 h1⟩, hK.trans (H4.out.2.drew.trans h2 (fun _ _ h => h)) (fun i hi h => by omega)⟩
          have HGoal : Hid (j + 1 ≤ i) := hji
          clear HLL H4 HJ' hlen hil n1 q1 q2 hgu hk hWl
          go_wp2

          go_region_with (go_at_call 29; refine HAd.out.mono ?_; rintro e w5 ⟨rfl, vw', vu', vf', h1, h2⟩; have H5 : Hid ((∃ k S into W U F vw vu vf, k + (j + 1) = i ∧ into.length + 1 = i + (j + 1) ∧ Jr w5 w.heap.size R k S into W U F vw vu vf) ∧ Keeps (fun _ => False) w w5) := HFin.out w5 vw' vu' vf' h1 h2; clear h1 h2)
          all_goals
            clear HAd HFin hp0 hw1 hw2 hsw hsw'
            go_wp2
            go_roundw
            case rel => exact ⟨j + 1, by omega, HGoal.out, by push_cast; rfl, H5.out⟩
            case measure => simp [intOf]; omega
        · obtain rfl : j = i := by omega
          clear hji hj2 hj1
          obtain ⟨w0, rfl⟩ : ∃ w0, w0 = wr := ⟨_, rfl⟩
          obtain ⟨N, hN⟩ : ∃ N, 2 * j - 1 = N := ⟨_, rfl⟩
          have hN5 : N ≤ 575 := by omega
          have hjN : j ≤ N := by omega
          obtain ⟨gu, cu, hgu, HU⟩ : ∃ gu cu, gu < w0.heap.size ∧ Hid (Keeps (fun _ => False) w w0 ∧ Chain N R (dAll ws) ∧ w.heap.size < w0.heap.size ∧ ∀ w', Keeps (fun b => w0.heap.size ≤ b) w0 w' → w'.cell? ⟨w.heap.size, 1, none⟩ = some (.slice (some ⟨gu, 0, none⟩) N cu) ∧ ∀ q, q < N → w'.cell? ⟨gu, q, none⟩ = some (.int .i64 (if q + 1 = N then -1 else ((R.getD q 0 : Nat) : Int)))) := by
            obtain ⟨⟨k, S, into, W, U, F, vw, vu, vf, hk, hil, hJ⟩, hK⟩ := HJ.out
            obtain rfl : k = 0 := by omega
            have hIN : into.length = N := by omega
            have hUN : U.length = N := by rw [hJ.rf.lenU, hJ.lenW, hIN]
            match S, hJ with
            | [t], hJ =>
            have hRi : into = R := by rw [← hJ.run]; rfl
            obtain ⟨t', ht', hlast⟩ := hJ.al.last
            simp at ht'
            subst ht'
            obtain ⟨gu, cu, rfl, h1, h2⟩ := World.ownsRow.form hJ.rf.own.ou (by omega)
            have hch := chain_of ws (by rw [HM.out]; omega)
            rw [HM.out, HRn.out, hN] at hch
            have hpl : w.heap.size < w0.heap.size := lt_of_heap hJ.rf.blk
            refine ⟨gu, cu, h2, hK, hch, hpl, fun w' hk => ?_⟩
            have b1 := (hk.block w.heap.size hpl (by omega)).trans hJ.rf.blk
            refine ⟨by rw [← hUN]; exact cell_of_heap b1 rfl, fun q hq => ?_⟩
            rw [World.cell?_of_block (hk.block gu h2 (by omega)), (owns_cell hJ.rf.own.ou q _ (intsV_get U q (by omega))).1, hJ.ur q (by omega), hRi]
            by_cases e : q + 1 = N
            · have hft := ((hJ.av t').1 (by simp)).2.1
              rw [show t'.2 = q by omega] at hft
              rw [if_pos hft, if_pos e]
            · have : ¬ F.getD q false = true := fun hf => by
                have hm := List.mem_singleton.1 ((hJ.av (W.getD q 0, q)).2 ⟨by rw [hJ.lenW]; show q < _; omega, hf, rfl⟩)
                have e2 : q = t'.2 := congrArg Prod.snd hm
                omega
              rw [if_neg this, if_neg e]
          clear HJ HRn
          have HD : Hid (∀ e, e < j → (dsOf ws)[e]? = some (dAll ws e)) := fun e he => dsOf_get ws e (by rw [HM.out]; exact he)
          go_wp2
          go_loopw [8, 9] (fun s8 s9 w' => ∃ e : Nat, e ≤ j ∧ s9 = .int .i64 (e : Int) ∧ Hid (OwnV w' w0.heap.size s8 (ints ((dsOf ws).take e)) ∧ Keeps (fun b => w0.heap.size ≤ b) w0 w')) (fun s8 s9 w' => ((j : Int) - intOf s9).toNat)
          case atStart => exact ⟨0, by omega, rfl, OwnV.nil _ _, Keeps.refl _ _⟩
          case round =>
            obtain ⟨e, he, rfl, HE⟩ := hrel
            by_cases hej : e < j
            · have hez : (e : Int) < (j : Int) := by omega
              have heN : (e : Int) < (N : Int) := by omega
              obtain ⟨w6, rfl⟩ : ∃ w6, w6 = wr := ⟨_, rfl⟩
              obtain ⟨cu1, cuq⟩ := HU.out.2.2.2 w6 HE.out.2
              have cue := cuq e (by omega)
              have HQ : Hid (∀ q, q < N → w6.cell? ⟨gu, q, none⟩ = some (.int .i64 (if q + 1 = N then -1 else ((R.getD q 0 : Nat) : Int)))) := cuq
              have HStep : Hid (∀ q, q < N → ((q + 1 = N ∧ dAll ws q = 0) ∨ ∃ u, R.getD q 0 = u ∧ ¬ q + 1 = N ∧ q < u ∧ u < N ∧ dAll ws q = dAll ws u + 1)) := fun q hq => by
                by_cases e1 : q + 1 = N
                · left; refine ⟨e1, ?_⟩
                  have := HU.out.2.1.top
                  rw [show N - 1 = q by omega] at this; exact this
                · right
                  obtain ⟨u, u1, u2, u3, u4⟩ := HU.out.2.1.up q (by omega)
                  exact ⟨u, by rw [List.getD, u1]; rfl, e1, u2, u3, u4⟩
              obtain ⟨z0, hz0, HZ⟩ : ∃ z0 : Int, (if e + 1 = N then (-1 : Int) else ((R.getD e 0 : Nat) : Int)) = z0 ∧ Hid ((z0 = -1 ∧ 0 = dAll ws e) ∨ ∃ q : Nat, z0 = (q : Int) ∧ q < N ∧ 0 + 1 + dAll ws q = dAll ws e) := by
                refine ⟨_, rfl, ?_⟩
                rcases HStep.out e (by omega) with ⟨e1, e2⟩ | ⟨u, e1, e2, e3, e4, e5⟩
                · rw [if_pos e1]; exact .inl ⟨rfl, e2.symm⟩
                · rw [if_neg e2, e1]; exact .inr ⟨u, rfl, e4, by omega⟩
              rw [hz0] at cue
              have HDe : Hid (dAll ws e ≤ 575) := by
                have := HU.out.2.1.le e (by omega); show dAll ws e ≤ 575; omega
              have HTk : Hid (ints ((dsOf ws).take (e + 1)) = ints ((dsOf ws).take e) ++ [((dAll ws e : Nat) : Int)] ∧ (ints ((dsOf ws).take e)).length ≤ 600) := by
                have hel : e < (dsOf ws).length := by rw [dsOf_length, HM.out]; exact hej
                have := HD.out e hej
                rw [List.getElem?_eq_getElem hel] at this
                refine ⟨?_, by rw [ints_length, List.length_take]; omega⟩
                rw [List.take_succ_eq_append_getElem hel, ints_append, Option.some.inj this]; rfl
              clear cuq hz0
              generalize dAll ws e = De at *
              go_wp2
              go_loopw [10, 11] (fun s10 s11 w' => ∃ (kk : Nat) (jj : Int), s10 = .int .i64 (kk : Int) ∧ s11 = .int .i64 jj ∧ Hid ((jj = -1 ∧ kk = De) ∨ ∃ q : Nat, jj = (q : Int) ∧ q < N ∧ kk + 1 + dAll ws q = De) ∧ w' = w6) (fun s10 s11 w' => upM N (intOf s11))
              case atStart => exact ⟨0, z0, rfl, rfl, HZ, rfl⟩
              case round =>
                clear HZ cue
                obtain ⟨kk, jj, rfl, rfl, HZ, rfl⟩ := hrel
                by_cases hjj : jj < 0
                · obtain ⟨rfl, hkk⟩ : jj = -1 ∧ kk = De := by
                    rcases HZ.out with h | ⟨q, h1, _⟩
                    · exact h
                    · omega
                  subst hkk
                  go_wp2_with (refine wpList_one rfl _ _ rfl rfl w0.heap.size u8 (ints ((dsOf ws).take e)) rfl (HE.out.1.kept ((Keeps.refl (fun _ => False) wr).alloc _) (fun _ _ h => h)) wr.heap.size (kk : Int) rfl (heap_alloc_new _ _) ?hb ?hn ?_; (case hb => have := HE.out.2.size; simp; omega); (case hn => have := HTk.out.2; omega); intro gt ct w7 hO7 hG7 hA7)
                  go_roundw
                  case rel =>
                    refine ⟨e + 1, by omega, by push_cast; rfl, by rw [HTk.out.1]; exact hO7, (HE.out.2.alloc _).grown hG7 (fun k hk e => ?_)⟩
                    exact (World.ownsRow.lt HE.out.1 k e).1
                  case measure => simp [intOf]; omega
                · obtain ⟨q, rfl, hq, hkq⟩ : ∃ q : Nat, jj = (q : Int) ∧ q < N ∧ kk + 1 + dAll ws q = De := by
                    rcases HZ.out with h | h
                    · omega
                    · exact h
                  have cq := HQ.out q hq
                  have hqz : (q : Int) < (N : Int) := by omega
                  have hks : kk ≤ 575 := by have := HDe.out; omega
                  obtain ⟨z1, hz1, HZ1⟩ : ∃ z1 : Int, (if q + 1 = N then (-1 : Int) else ((R.getD q 0 : Nat) : Int)) = z1 ∧ Hid (((z1 = -1 ∧ kk + 1 = De) ∨ ∃ q' : Nat, z1 = (q' : Int) ∧ q' < N ∧ kk + 1 + 1 + dAll ws q' = De) ∧ (z1 = -1 ∨ (q : Int) < z1)) := by
                    refine ⟨_, rfl, ?_⟩
                    rcases HStep.out q hq with ⟨e1, e2⟩ | ⟨u, e1, e2, e3, e4, e5⟩
                    · rw [if_pos e1]; exact ⟨.inl ⟨rfl, by omega⟩, .inl rfl⟩
                    · rw [if_neg e2, e1]; exact ⟨.inr ⟨u, rfl, e4, by omega⟩, .inr (by omega)⟩
                  rw [hz1] at cq
                  clear hz1 HZ
                  go_wp2
                  go_roundw
                  case rel => exact ⟨kk + 1, z1, by push_cast; rfl, rfl, HZ1.out.1, trivial⟩
                  case measure =>
                    have h2 := HZ1.out.2
                    have h1 : z1 < (N : Int) := by rcases HZ1.out.1 with ⟨h, _⟩ | ⟨q', h, h', _⟩ <;> omega
                    exact upM_lt N q z1 h2 h1 hq
            · obtain rfl : e = j := by omega
              go_wp2
              go_ret
              obtain ⟨o1, o2⟩ := HE.out
              obtain ⟨k1, k2, k3, _⟩ := HU.out
              rw [List.take_of_length_le (by rw [dsOf_length, HM.out]; omega)] at o1
              refine ⟨_, rfl, ⟨o1.1, ?_⟩, k1.trans o2 (fun i hi h => by omega)⟩
              rcases o1.2 with h | ⟨g', c', cur, h1, h2, h3⟩
              · exact .inl h
              · exact .inr ⟨g', c', cur, h1, by omega, h3⟩

end Go.Proofs.Ytfdoppeijgianaa

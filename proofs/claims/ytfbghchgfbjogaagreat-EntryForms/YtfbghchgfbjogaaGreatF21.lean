/-
  The document's forest: the least free tree. The document's depths. The document's lengths, in plain numbers: its symbols and weights are those of the counts with a second one used. The document's lengths: what stands in memory while they are reckoned.
-/
import Derived.Test.YtfbghchgfbjogaaGreatRows
import Derived.Test.YtfbghchgfbjogaaGreatF20
import Derived.BigRegion
import Derived.Deep.RegionWith
namespace Go.Proofs.YtfbghchgfbjogaaGreat.Lm
open Go.RowKit
set_option linter.unusedVariables false
set_option linter.unusedSimpArgs false

/-- S are the trees that are free. -/
def Av (S : List Tr) (W : List Nat) (F : List Bool) : Prop := ∀ t : Tr, t ∈ S ↔ (t.2 < W.length ∧ F.getD t.2 false = true ∧ t.1 = W.getD t.2 0)
theorem getD_set (F : List Bool) (i j : Nat) (b : Bool) (hi : i < F.length) : (F.set i b).getD j false = if i = j then b else F.getD j false := by
  rw [List.getD, List.getElem?_set, List.getD]
  by_cases e : i = j
  · subst e; rw [if_pos rfl, if_pos hi, if_pos rfl]; rfl
  · rw [if_neg e, if_neg e]
theorem Av.take {s : Tr} {S : List Tr} {W : List Nat} {F : List Bool} (h : Av (s :: S) W F) (hs : Srt (s :: S)) (hl : F.length = W.length) : Av S W (F.set s.2 false) := by
  have hss := (h s).1 (by simp)
  intro t
  rw [getD_set F s.2 t.2 false (by omega)]
  constructor
  · intro ht
    have h1 := (h t).1 (by simp [ht])
    have hne : s ≠ t := ne_of_lt' ((List.pairwise_cons.1 hs).1 t ht)
    have : ¬ s.2 = t.2 := fun e => hne (Prod.ext (by rw [hss.2.2, h1.2.2, e]) e)
    rw [if_neg this]; exact h1
  · rintro ⟨h1, h2, h3⟩
    by_cases e : s.2 = t.2
    · rw [if_pos e] at h2; cases h2
    · rw [if_neg e] at h2
      rcases List.mem_cons.1 ((h t).2 ⟨h1, h2, h3⟩) with rfl | hm
      · exact absurd rfl e
      · exact hm
/-- The best one of the first i. -/
def Best (W : List Nat) (F : List Bool) (i : Nat) (z : Int) : Prop :=
  (z = -1 ∧ ∀ j, j < i → F.getD j false = false) ∨ ∃ a : Nat, z = (a : Int) ∧ a < i ∧ F.getD a false = true ∧ ∀ j, j < i → F.getD j false = true → ltb (W.getD j 0, j) (W.getD a 0, a) = false
theorem Best.skip {W : List Nat} {F : List Bool} {i : Nat} {z : Int} (h : Best W F i z) (hf : F.getD i false = false) : Best W F (i + 1) z := by
  rcases h with ⟨e, h⟩ | ⟨a, e, h1, h2, h3⟩
  · refine .inl ⟨e, fun j hj => ?_⟩
    by_cases e' : j = i
    · subst e'; exact hf
    · exact h j (by omega)
  · refine .inr ⟨a, e, by omega, h2, fun j hj hjf => ?_⟩
    by_cases e' : j = i
    · subst e'; rw [hf] at hjf; cases hjf
    · exact h3 j (by omega) hjf
theorem Best.first {W : List Nat} {F : List Bool} {i : Nat} (h : Best W F i (-1)) (hf : F.getD i false = true) : Best W F (i + 1) (i : Int) := by
  rcases h with ⟨_, h⟩ | ⟨a, e, _⟩
  · refine .inr ⟨i, rfl, by omega, hf, fun j hj hjf => ?_⟩
    by_cases e' : j = i
    · subst e'; exact ltb_irrefl _
    · have := h j (by omega); rw [this] at hjf; cases hjf
  · omega
theorem Best.less {W : List Nat} {F : List Bool} {i a : Nat} (h : Best W F i (a : Int)) (hf : F.getD i false = true) (hl : W.getD i 0 < W.getD a 0) : Best W F (i + 1) (i : Int) := by
  rcases h with ⟨e, h⟩ | ⟨a', e, h1, h2, h3⟩
  · omega
  · obtain rfl : a = a' := by omega
    refine .inr ⟨i, rfl, by omega, hf, fun j hj hjf => ?_⟩
    by_cases e' : j = i
    · subst e'; exact ltb_irrefl _
    · exact le_trans' (b := (W.getD a 0, a)) (by rw [ltb_false]; left; exact hl) (h3 j (by omega) hjf)
theorem Best.more {W : List Nat} {F : List Bool} {i a : Nat} (h : Best W F i (a : Int)) (hf : F.getD i false = true) (hl : ¬ W.getD i 0 < W.getD a 0) : Best W F (i + 1) (a : Int) := by
  rcases h with ⟨e, h⟩ | ⟨a', e, h1, h2, h3⟩
  · omega
  · obtain rfl : a = a' := by omega
    refine .inr ⟨a, rfl, by omega, h2, fun j hj hjf => ?_⟩
    by_cases e' : j = i
    · subst e'; rw [ltb_false]; simp only; omega
    · exact h3 j (by omega) hjf
theorem Best.done {W : List Nat} {F : List Bool} {z : Int} {s : Tr} {S : List Tr} (h : Best W F W.length z) (hA : Av (s :: S) W F) (hs : Srt (s :: S)) : z = (s.2 : Int) := by
  have hss := (hA s).1 (by simp)
  rcases h with ⟨_, h⟩ | ⟨a, e, h1, h2, h3⟩
  · rw [h s.2 hss.1] at hss; cases hss.2.1
  · have h4 := h3 s.2 hss.1 hss.2.1
    rw [← hss.2.2] at h4
    have hm := (hA (W.getD a 0, a)).2 ⟨h1, h2, rfl⟩
    rcases List.mem_cons.1 hm with h5 | h5
    · rw [e, ← h5]
    · have := (List.pairwise_cons.1 hs).1 _ h5
      rw [show ((s.1, s.2) : Tr) = s from rfl] at h4
      rw [h4] at this; cases this

theorem boolsV_get (bs : List Bool) (i : Nat) (h : i < bs.length) : (boolsV bs)[i]? = some (.bool (bs.getD i false)) := by
  simp [boolsV, List.getD, List.getElem?_eq_getElem h]
theorem nats_get (W : List Nat) (i : Nat) (h : i < W.length) : (intsV (ints W))[i]? = some (.int .i64 ((W.getD i 0 : Nat) : Int)) := by
  rw [intsV_get _ _ (by rw [ints_length]; exact h), ints_at]

set_option maxHeartbeats 4000000 in
set_option maxRecDepth 1000000 in
theorem least_ok (p : Nat) (vw vu vf : Value) (W : List Nat) (U : List Int) (F : List Bool) (s : Tr) (S : List Tr) (w : World) (h : Rf w p vw vu vf W U F) (hA : Av (s :: S) W F) (hs : Srt (s :: S)) (hn : W.length ≤ 1000) :
    Calls Tryz.prog 104 #[.pointer (some ⟨p, 0, none⟩)] w fun e w' => e = .returned (.int .i64 (s.2 : Int)) ∧ Rf w' p vw vu vf W U (F.set s.2 false) ∧ Keeps (fun b => p ≤ b) w w' := by
  have hsl := ((hA s).1 (by simp)).1
  obtain ⟨gw, cw, rfl, _, _⟩ := World.ownsRow.form h.own.ow (by rw [ints_length]; omega)
  obtain ⟨gf, cf, rfl, _, _⟩ := World.ownsRow.form h.own.of' (by rw [h.lenF]; omega)
  have HW : Hid (∀ w', Keeps (fun _ => False) w w' → (w'.cell? ⟨p, 0, none⟩ = some (.slice (some ⟨gw, 0, none⟩) W.length cw) ∧ w'.cell? ⟨p, 2, none⟩ = some (.slice (some ⟨gf, 0, none⟩) W.length cf)) ∧ ∀ i, i < W.length → w'.cell? ⟨gw, i, none⟩ = some (.int .i64 ((W.getD i 0 : Nat) : Int)) ∧ w'.cell? ⟨gf, i, none⟩ = some (.bool (F.getD i false))) := fun w' hk => by
    have h' := h.kept hk (fun _ _ h => h)
    have e1 : (ints W).length = W.length := ints_length W
    have e2 := h.lenF
    refine ⟨⟨?_, ?_⟩, fun i hi => ⟨?_, ?_⟩⟩
    · rw [← e1]; exact cell_of_heap h'.blk rfl
    · rw [← e2]; exact cell_of_heap h'.blk rfl
    · exact (owns_cell h'.own.ow i _ (nats_get W i hi)).1
    · exact (owns_cell h'.own.of' i _ (boolsV_get F i (by omega))).1
  have HR : Hid (Rf w p (.slice (some ⟨gw, 0, none⟩) (ints W).length cw) vu (.slice (some ⟨gf, 0, none⟩) F.length cf) W U F ∧ Av (s :: S) W F ∧ Srt (s :: S)) := ⟨h, hA, hs⟩
  clear h hA hs
  obtain ⟨L, hL⟩ : ∃ L, W.length = L := ⟨_, rfl⟩
  rw [hL] at HW hn hsl
  have HL : Hid (W.length = L) := hL
  clear hL
  go_enter Tryz.func104, Tryz.ntmps104
  go_wp2
  go_loopw [3, 4] (fun s3 s4 w' => ∃ (i : Nat) (z : Int), i ≤ L ∧ s4 = .int .i64 (i : Int) ∧ s3 = .int .i64 z ∧ Hid (Best W F i z ∧ Keeps (fun _ => False) w w')) (fun s3 s4 w' => ((L : Int) - intOf s4).toNat)
  case atStart => exact ⟨0, -1, by omega, rfl, rfl, .inl ⟨rfl, fun j hj => by omega⟩, Keeps.refl _ _⟩
  case round =>
    obtain ⟨i, z, hi, rfl, rfl, HI⟩ := hrel
    obtain ⟨⟨cw0, cf0⟩, hcell⟩ := HW.out wr HI.out.2
    by_cases hin : i < L
    · have hiz : (i : Int) < (L : Int) := by omega
      obtain ⟨ci, cfi⟩ := hcell i hin
      cases hf : F.getD i false with
      | false =>
        rw [hf] at cfi
        have HB : Hid (Best W F (i + 1) z) := HI.out.1.skip hf
        clear hcell
        go_wp2
        go_quiet (fail)
        have HK' : Hid (Keeps (fun _ => False) w (wr.drewN nq)) := HI.out.2.drewN nq
        generalize wr.drewN nq = wn at *
        clear ci cfi cw0 cf0 HI
        go_wp2
        go_roundw
        case rel => exact ⟨i + 1, z, by omega, by push_cast; rfl, rfl, HB.out, HK'.out⟩
        case measure => simp [intOf]; omega
      | true =>
        rw [hf] at cfi
        by_cases hz : z < 0
        · have hz1 : z = -1 := by rcases HI.out.1 with ⟨e, _⟩ | ⟨a, e, _⟩; exact e; omega
          subst hz1
          have HB : Hid (Best W F (i + 1) (i : Int)) := HI.out.1.first hf
          clear hcell hz
          go_wp2
          go_quiet (fail)
          have HK' : Hid (Keeps (fun _ => False) w (wr.drewN nq)) := HI.out.2.drewN nq
          generalize wr.drewN nq = wn at *
          clear ci cfi cw0 cf0 HI
          go_wp2
          go_roundw
          case rel => exact ⟨i + 1, (i : Int), by omega, by push_cast; rfl, rfl, HB.out, HK'.out⟩
          case measure => simp [intOf]; omega
        · obtain ⟨a, rfl, hai⟩ : ∃ a : Nat, z = (a : Int) ∧ a < i := by rcases HI.out.1 with ⟨e, _⟩ | ⟨a, e, h1, _⟩; omega; exact ⟨a, e, h1⟩
          have caw := (hcell a (by omega)).1
          have haz : (a : Int) < (L : Int) := by omega
          have hd0 : decide ((a : Int) < 0) = false := by simp
          clear hz hcell
          by_cases hlt : W.getD i 0 < W.getD a 0
          · have HB : Hid (Best W F (i + 1) (i : Int)) := HI.out.1.less hf hlt
            have hdl : decide (((W.getD i 0 : Nat) : Int) < ((W.getD a 0 : Nat) : Int)) = true := by simp only [decide_eq_true_eq]; omega
            generalize W.getD i 0 = wi at *
            generalize W.getD a 0 = wa at *
            go_wp2
            go_quiet (fail)
            have HK' : Hid (Keeps (fun _ => False) w (wr.drewN nq)) := HI.out.2.drewN nq
            generalize wr.drewN nq = wn at *
            clear ci cfi cw0 cf0 HI caw
            go_wp2
            go_roundw
            case rel => exact ⟨i + 1, (i : Int), by omega, by push_cast; rfl, rfl, HB.out, HK'.out⟩
            case measure => simp [intOf]; omega
          · have HB : Hid (Best W F (i + 1) (a : Int)) := HI.out.1.more hf hlt
            have hdl : decide (((W.getD i 0 : Nat) : Int) < ((W.getD a 0 : Nat) : Int)) = false := by simp only [decide_eq_false_iff_not]; omega
            generalize W.getD i 0 = wi at *
            generalize W.getD a 0 = wa at *
            go_wp2
            go_quiet (fail)
            have HK' : Hid (Keeps (fun _ => False) w (wr.drewN nq)) := HI.out.2.drewN nq
            generalize wr.drewN nq = wn at *
            clear ci cfi cw0 cf0 HI caw
            go_wp2
            go_roundw
            case rel => exact ⟨i + 1, (a : Int), by omega, by push_cast; rfl, rfl, HB.out, HK'.out⟩
            case measure => simp [intOf]; omega
    · obtain rfl : i = L := by omega
      obtain rfl : z = (s.2 : Int) := by
        have hB := HI.out.1
        rw [← HL.out] at hB
        exact hB.done HR.out.2.1 HR.out.2.2
      have hcs := (hcell s.2 hsl).2
      have hfs : wr.frozen? ⟨gf, s.2, none⟩ = false := by
        have h' := HR.out.1.kept HI.out.2 (fun _ _ h => h)
        exact (owns_cell h'.own.of' s.2 _ (boolsV_get F s.2 (by rw [h'.lenF, HL.out]; exact hsl))).2
      have hsz : (s.2 : Int) < (i : Int) := by omega
      clear hcell
      generalize F.getD s.2 false = b0 at *
      go_wp2
      go_ret
      have h' := HR.out.1.kept HI.out.2 (fun _ _ h => h)
      have hgf : p + 1 ≤ gf := (World.ownsRow.lt h'.own.of' gf rfl).1
      refine ⟨rfl, ⟨?_, ⟨?_, ?_, ?_, h'.own.wu, h'.own.wf, h'.own.uf⟩, h'.lenU, by rw [List.length_set]; exact h'.lenF⟩, HI.out.2.mono (fun _ _ h => h.elim) |>.setCell (fun _ => by show p ≤ gf; omega) _⟩
      · rw [Below.heap_setCell _ _ _ _ (by show p ≠ gf; omega)]; exact h'.blk
      · exact owns_far h'.own.ow (fun e => h'.own.wf gf e rfl) _
      · exact owns_far h'.own.ou (fun e => h'.own.uf gf e rfl) _
      · have := owns_set h'.own.of' s.2 (.bool false)
        unfold OwnB
        rw [List.length_set, show boolsV (F.set s.2 false) = (boolsV F).set s.2 (.bool false) by simp [boolsV, List.map_set]]
        exact this

end Go.Proofs.YtfbghchgfbjogaaGreat.Lm

namespace Go.Proofs.YtfbghchgfbjogaaGreat.Lm
open Go.RowKit
set_option linter.unusedVariables false
set_option linter.unusedSimpArgs false

theorem Av.push {S : List Tr} {W : List Nat} {F : List Bool} (h : Av S W F) (hl : F.length = W.length) (x : Nat) : Av (ins (x, W.length) S) (W ++ [x]) (F ++ [true]) := by
  intro t
  rw [mem_ins, h t]
  by_cases e : t.2 < W.length
  · have e1 : (W ++ [x]).getD t.2 0 = W.getD t.2 0 := by rw [List.getD, List.getElem?_append_left e, List.getD]
    have e2 : (F ++ [true]).getD t.2 false = F.getD t.2 false := by rw [List.getD, List.getElem?_append_left (by omega), List.getD]
    rw [e1, e2]
    constructor
    · rintro (rfl | ⟨h1, h2⟩)
      · simp at e
      · exact ⟨by simp; omega, h2⟩
    · rintro ⟨_, h2⟩; exact .inr ⟨e, h2⟩
  · constructor
    · rintro (rfl | ⟨h1, _⟩)
      · refine ⟨by simp, ?_, ?_⟩
        · simp only [List.getD]; rw [List.getElem?_append_right (by omega), hl]; simp
        · simp only [List.getD]; rw [List.getElem?_append_right (by omega)]; simp
      · exact absurd h1 e
    · rintro ⟨h1, h2, h3⟩
      have : t.2 = W.length := by simp at h1; omega
      left
      refine Prod.ext ?_ this
      rw [h3, this, List.getD, List.getElem?_append_right (Nat.le_refl _)]; simp
/-- What each is joined into, as the document has it. -/
def Ur (U : List Int) (F : List Bool) (into : List Nat) : Prop := ∀ q, q < into.length → at_ U q = if F.getD q false = true then -1 else ((into.getD q 0 : Nat) : Int)
theorem Ur.step {U : List Int} {F : List Bool} {into : List Nat} (h : Ur U F into) (hU : U.length = into.length) (hF : F.length = into.length) (a b : Nat) (ha : a < into.length) (hb : b < into.length) :
    Ur ((U.set a (into.length : Int)).set b (into.length : Int) ++ [-1]) ((F.set a false).set b false ++ [true]) ((into.set a into.length).set b into.length ++ [into.length]) := by
  intro q hq
  have hq' : q < into.length + 1 := by simpa using hq
  by_cases e : q < into.length
  · rw [at_append_left _ _ _ (by simp [hU]; exact e), at_set, at_set]
    have e2 : ((F.set a false).set b false ++ [true]).getD q false = if b = q then false else if a = q then false else F.getD q false := by
      rw [List.getD, List.getElem?_append_left (by simp [hF]; exact e), ← List.getD, getD_set _ _ _ _ (by simp [hF]; exact hb), getD_set _ _ _ _ (by omega)]
    have e3 : ((into.set a into.length).set b into.length ++ [into.length]).getD q 0 = if b = q then into.length else if a = q then into.length else into.getD q 0 := by
      rw [List.getD, List.getElem?_append_left (by simp; exact e), List.getElem?_set, List.getElem?_set]
      by_cases h1 : b = q
      · subst h1; simp [hb]
      · by_cases h2 : a = q
        · subst h2; simp [h1, ha]
        · simp [h1, h2, List.getD]
    rw [e2, e3, h q e]
    by_cases h1 : b = q
    · subst h1; simp [hU, hb]
    · by_cases h2 : a = q
      · subst h2; simp [h1, hU, ha]
      · simp [h1, h2]
  · have : q = into.length := by omega
    subst this
    have hl : ((U.set a (into.length : Int)).set b (into.length : Int)).length = into.length := by simp [hU]
    have := at_append_right ((U.set a (into.length : Int)).set b (into.length : Int)) [-1] 0
    rw [hl, Nat.add_zero] at this
    rw [this]
    have e2 : ((F.set a false).set b false ++ [true]).getD into.length false = true := by
      rw [List.getD, List.getElem?_append_right (by simp [hF])]; simp [hF]
    rw [e2]; rfl

theorem rf_set {w : World} {p gu n c : Nat} {vw vf : Value} {W : List Nat} {U : List Int} {F : List Bool} (h : Rf w p vw (.slice (some ⟨gu, 0, none⟩) n c) vf W U F) (hn : U.length = n) (i : Nat) (v : Int) :
    Rf (w.setCell ⟨gu, i, none⟩ (.int .i64 v)) p vw (.slice (some ⟨gu, 0, none⟩) n c) vf W (U.set i v) F ∧ Keeps (fun b => p ≤ b) w (w.setCell ⟨gu, i, none⟩ (.int .i64 v)) := by
  have hg : p + 1 ≤ gu := (World.ownsRow.lt h.own.ou gu rfl).1
  refine ⟨⟨?_, ⟨owns_far h.own.ow (fun e => h.own.wu gu e rfl) _, ?_, owns_far h.own.of' (fun e => h.own.uf gu rfl e) _, h.own.wu, h.own.wf, h.own.uf⟩, by rw [List.length_set]; exact h.lenU, h.lenF⟩, (Keeps.refl (fun b => p ≤ b) w).setCell (p := ⟨gu, i, none⟩) (fun _ => by show p ≤ gu; omega) _⟩
  · rw [Below.heap_setCell _ _ _ _ (by show p ≠ gu; omega)]; exact h.blk
  · subst hn
    have := owns_set h.own.ou i (.int .i64 v)
    unfold OwnV
    rw [List.length_set, ← intsV_set]; exact this
theorem Rf.drew {w : World} {p : Nat} {vw vu vf : Value} {W : List Nat} {U : List Int} {F : List Bool} (h : Rf w p vw vu vf W U F) : Rf w.drew p vw vu vf W U F := h.kept ((Keeps.refl (fun _ => False) w).drew) (fun _ _ h => h)

def upM (N : Nat) (z : Int) : Nat := if z < 0 then 0 else ((N : Int) - z).toNat
theorem upM_lt (N q : Nat) (z : Int) (h : z = -1 ∨ (q : Int) < z) (hz : z < (N : Int)) (hq : q < N) : upM N z < upM N (q : Int) := by
  unfold upM
  rw [if_neg (show ¬ (q : Int) < 0 by omega)]
  split <;> omega
/-- Where the document's joining stands. -/
structure Jr (w' : World) (p : Nat) (R : List Nat) (k : Nat) (S : List Tr) (into W : List Nat) (U : List Int) (F : List Bool) (vw vu vf : Value) : Prop where
  len : S.length = k + 1
  al : Al S into.length
  lenW : W.length = into.length
  av : Av S W F
  ur : Ur U F into
  run : runI k S into = R
  sum : (S.map Prod.fst).sum ≤ 1099511627776
  rf : Rf w' p vw vu vf W U F

theorem jr_next {w0 w5 : World} {p n : Nat} {R : List Nat} {t1 t2 : Tr} {S2 : List Tr} {into W : List Nat} {U : List Int} {F : List Bool} {vw vu vf vw' vu' vf' : Value} {L : Nat} (hJ : Jr w0 p R (n + 1) (t1 :: t2 :: S2) into W U F vw vu vf) (hL : into.length = L)
    (h : Rf w5 p vw' vu' vf' (W ++ [t1.1 + t2.1]) ((U.set t1.2 (L : Int)).set t2.2 (L : Int) ++ [-1]) ((F.set t1.2 false).set t2.2 false ++ [true])) :
    Jr w5 p R n (ins (t1.1 + t2.1, L) S2) ((into.set t1.2 L).set t2.2 L ++ [L]) (W ++ [t1.1 + t2.1]) ((U.set t1.2 (L : Int)).set t2.2 (L : Int) ++ [-1]) ((F.set t1.2 false).set t2.2 false ++ [true]) vw' vu' vf' := by
  have hsrt := hJ.al.srt
  have hal := hJ.al
  have hsum := hJ.sum
  have hrun := hJ.run
  have hlen := hJ.len
  obtain ⟨n1, n2, n3, n4⟩ := hal.two
  have hLn : ((into.set t1.2 L).set t2.2 L ++ [L]).length = L + 1 := by simp [hL]
  have l3 : W.length = L := by rw [hJ.lenW, hL]
  have lf : F.length = L := by rw [hJ.rf.lenF, l3]
  have lu : U.length = L := by rw [hJ.rf.lenU, l3]
  refine ⟨?_, ?_, ?_, ?_, ?_, ?_, ?_, h⟩
  · rw [length_ins]; simpa using hlen
  · rw [hLn]; rw [hL] at hal; exact hal.step
  · rw [hLn]; simp [l3]
  · have a1 := (hJ.av.take hsrt hJ.rf.lenF).take (List.pairwise_cons.1 hsrt).2 (by rw [List.length_set]; exact hJ.rf.lenF)
    have a2 := a1.push (by rw [List.length_set, List.length_set]; exact hJ.rf.lenF) (t1.1 + t2.1)
    rw [l3] at a2; exact a2
  · have := hJ.ur.step (by rw [hL, lu]) (by rw [hL, lf]) t1.2 t2.2 n3 n4
    rw [hL] at this; exact this
  · rw [← hrun, runI, hL]
  · rw [sum_ins]; simp only [List.map_cons, List.sum_cons] at hsum; simp only; omega

set_option maxHeartbeats 4000000 in
set_option maxRecDepth 1000000 in
theorem rdepths_none (cap : Nat) (a : Option Addr) (w : World) : Calls Tryz.prog 92 #[.slice a 0 cap] w fun e w' => e = .returned (.slice none 0 0) ∧ Keeps (fun _ => False) w w' := by
  go_enter Tryz.func92, Tryz.ntmps92
  go_wp2
  go_loopw [4] (fun s4 w' => s4 = .int .i64 0 ∧ Hid (Keeps (fun _ => False) w w')) (fun s4 w' => 0)
  case atStart => exact ⟨rfl, (Keeps.refl _ w).alloc _⟩
  case round =>
    obtain ⟨rfl, HK⟩ := hrel
    go_wp2
    go_loopw [5] (fun s5 w' => s5 = .int .i64 1 ∧ Hid (Keeps (fun _ => False) w w')) (fun s5 w' => 0)
    case atStart => exact ⟨rfl, HK⟩
    case round =>
      clear HK
      obtain ⟨rfl, HK⟩ := hrel
      go_wp2
      go_loopw [8, 9] (fun s8 s9 w' => s9 = .int .i64 0 ∧ s8 = .slice none 0 0 ∧ Hid (Keeps (fun _ => False) w w')) (fun s8 s9 w' => 0)
      case atStart => exact ⟨rfl, rfl, HK⟩
      case round =>
        clear HK
        obtain ⟨rfl, rfl, HK⟩ := hrel
        go_wp2
        go_ret
        exact ⟨rfl, HK.out⟩

set_option maxHeartbeats 4000000 in
set_option maxRecDepth 1000000 in
theorem rdepths_some (a : Option Addr) (ws : List Nat) (cap : Nat) (w : World) (hR : Row w a (ints ws)) (hl1 : 1 ≤ ws.length) (hl : ws.length ≤ 288) (hsum : ws.sum ≤ 1099511627776) :
    Calls Tryz.prog 92 #[.slice a ws.length cap] w fun e w' => ∃ v, e = .returned v ∧ OwnV w' w.heap.size v (ints (dsOf ws)) ∧ Keeps (fun _ => False) w w' := by
  obtain ⟨b0, off0, rfl, hb0, hc0⟩ := hR.at (by rw [ints_length]; omega)
  have HC : Hid (∀ i (h : i < ws.length), ∀ w', Keeps (fun _ => False) w w' → w'.cell? ⟨b0, off0 + i, none⟩ = some (.int .i64 ((ws[i] : Nat) : Int))) := fun i h w' hk => by
    rw [hc0 w' hk i (by rw [ints_length]; exact h), ints_get ws i h]
  have HS : Hid (ws.sum ≤ 1099511627776) := hsum
  clear hc0 hR hsum
  obtain ⟨m, hm⟩ : ∃ m, ws.length = m := ⟨_, rfl⟩
  rw [hm] at hl hl1
  rw [hm]
  have HM : Hid (ws.length = m) := hm
  clear hm
  go_enter Tryz.func92, Tryz.ntmps92
  go_wp2
  go_loopw [4] (fun s4 w' => ∃ i : Nat, i ≤ m ∧ s4 = .int .i64 (i : Int) ∧ Hid ((∃ vw vu vf, Rf w' w.heap.size vw vu vf (ws.take i) (List.replicate i (-1)) (List.replicate i true)) ∧ Keeps (fun _ => False) w w')) (fun s4 w' => ((m : Int) - intOf s4).toNat)
  case atStart =>
    refine ⟨0, by omega, rfl, ⟨.slice none 0 0, .slice none 0 0, .slice none 0 0, ⟨heap_alloc_new _ _, ⟨World.ownsRow_nil _ _ _ _, World.ownsRow_nil _ _ _ _, World.ownsRow_nil _ _ _ _, ?_, ?_, ?_⟩, rfl, rfl⟩⟩, (Keeps.refl _ w).alloc _⟩
    all_goals intro k e; cases e
  case round =>
    obtain ⟨i, hi, rfl, HI⟩ := hrel
    by_cases him : i < m
    · have hiz : (i : Int) < (m : Int) := by omega
      have hil : i < ws.length := by rw [HM.out]; exact him
      have hc := HC.out i hil wr HI.out.2
      have HA : Hid (Calls Tryz.prog 103 #[.pointer (some ⟨w.heap.size, 0, none⟩), .int .i64 ((ws[i] : Nat) : Int)] wr fun e w' => e = .returned (.tuple #[]) ∧ (∃ vw vu vf, Rf w' w.heap.size vw vu vf (ws.take (i + 1)) (List.replicate (i + 1) (-1)) (List.replicate (i + 1) true)) ∧ Keeps (fun _ => False) w w') := by
        obtain ⟨⟨vw, vu, vf, hr⟩, hk⟩ := HI.out
        refine (add_ok w.heap.size vw vu vf _ _ _ ws[i] wr hr (by rw [List.length_take]; omega)).mono ?_
        rintro e w' ⟨rfl, vw', vu', vf', h1, h2⟩
        rw [← take_snoc_nat ws i hil, ← List.replicate_succ', ← List.replicate_succ'] at h1
        exact ⟨rfl, ⟨vw', vu', vf', h1⟩, hk.trans h2 (fun i hi h => by omega)⟩
      generalize ws[i] = x at *
      clear HI
      go_wp2_with (go_at_call 103; refine HA.out.mono ?_; rintro e w1 ⟨rfl, h1⟩; have H1 : Hid ((∃ vw vu vf, Rf w1 w.heap.size vw vu vf (ws.take (i + 1)) (List.replicate (i + 1) (-1)) (List.replicate (i + 1) true)) ∧ Keeps (fun _ => False) w w1) := h1; clear h1)
      go_roundw
      case rel => exact ⟨i + 1, by omega, by push_cast; rfl, H1.out⟩
      case measure => simp [intOf]; omega
    · obtain rfl : i = m := by omega
      clear him hi
      obtain ⟨R, hR⟩ : ∃ R, runI (i - 1) (sort0 ws) (List.replicate i 0) = R := ⟨_, rfl⟩
      have HRn : Hid (runI (i - 1) (sort0 ws) (List.replicate i 0) = R) := hR
      clear hR
      have HJ0 : Hid ((∃ k S into W U F vw vu vf, k + 1 = i ∧ into.length + 1 = i + 1 ∧ Jr wr w.heap.size R k S into W U F vw vu vf) ∧ Keeps (fun _ => False) w wr) := by
        obtain ⟨⟨vw, vu, vf, hr⟩, hk⟩ := HI.out
        rw [List.take_of_length_le (by rw [HM.out]; omega)] at hr
        refine ⟨⟨i - 1, sort0 ws, List.replicate i 0, ws, _, _, vw, vu, vf, by omega, by simp, ⟨by rw [sort0_length, HM.out]; omega, ?_, by rw [HM.out]; simp, ?_, ?_, HRn.out, by rw [weight0]; exact HS.out, hr⟩⟩, hk⟩
        · rw [List.length_replicate, ← HM.out]; exact al0 ws (by rw [HM.out]; omega)
        · intro t
          rw [mem_sort0]
          constructor
          · rintro ⟨q, hq, rfl⟩
            have : q < i := by rw [← HM.out]; exact hq
            exact ⟨hq, by simp [List.getD, this], rfl⟩
          · rintro ⟨h1, _, h3⟩
            exact ⟨t.2, h1, Prod.ext h3 rfl⟩
        · intro q hq
          rw [List.length_replicate] at hq
          simp [at_, List.getD, hq]
      clear HI
      go_wp2
      go_loopw [5] (fun s5 w' => ∃ j : Nat, 1 ≤ j ∧ j ≤ i ∧ s5 = .int .i64 (j : Int) ∧ Hid ((∃ k S into W U F vw vu vf, k + j = i ∧ into.length + 1 = i + j ∧ Jr w' w.heap.size R k S into W U F vw vu vf) ∧ Keeps (fun _ => False) w w')) (fun s5 w' => ((i : Int) - intOf s5).toNat)
      case atStart => exact ⟨1, by omega, by omega, rfl, HJ0⟩
      case round =>
        clear HJ0
        obtain ⟨j, hj1, hj2, rfl, HJ⟩ := hrel
        by_cases hji : j < i
        · have hjz : (j : Int) < (i : Int) := by omega
          obtain ⟨⟨k, S, into, W, U, F, vw, vu, vf, hk, hil, hJ⟩, hK⟩ := HJ.out
          obtain ⟨n, rfl⟩ : ∃ n, k = n + 1 := ⟨k - 1, by omega⟩
          match S, hJ with
          | t1 :: t2 :: S2, hJ =>
          have hlen := hJ.len
          obtain ⟨n1, n2, n3, n4⟩ := hJ.al.two
          have hsrt := hJ.al.srt
          have hWl : W.length ≤ 600 := by rw [hJ.lenW]; omega
          have HL1 : Hid (Calls Tryz.prog 104 #[.pointer (some ⟨w.heap.size, 0, none⟩)] wr fun e w' => e = .returned (.int .i64 (t1.2 : Int)) ∧ Rf w' w.heap.size vw vu vf W U (F.set t1.2 false) ∧ Keeps (fun b => w.heap.size ≤ b) wr w') := least_ok w.heap.size vw vu vf W U F t1 (t2 :: S2) wr hJ.rf hJ.av hsrt (by omega)
          have HL2 : Hid (∀ w1, Rf w1 w.heap.size vw vu vf W U (F.set t1.2 false) → Calls Tryz.prog 104 #[.pointer (some ⟨w.heap.size, 0, none⟩)] w1 fun e w' => e = .returned (.int .i64 (t2.2 : Int)) ∧ Rf w' w.heap.size vw vu vf W U ((F.set t1.2 false).set t2.2 false) ∧ Keeps (fun b => w.heap.size ≤ b) w1 w') := fun w1 h1 => least_ok w.heap.size vw vu vf W U (F.set t1.2 false) t2 S2 w1 h1 (hJ.av.take hsrt hJ.rf.lenF) (List.pairwise_cons.1 hsrt).2 (by omega)
          have HJ' : Hid (Jr wr w.heap.size R (n + 1) (t1 :: t2 :: S2) into W U F vw vu vf ∧ Keeps (fun _ => False) w wr) := ⟨hJ, hK⟩
          clear HJ hJ hK hsrt n2
          go_wp2_with (first
            | (go_at_call 104; (fail_if_success (clear H1)); refine HL1.out.mono ?_; rintro e w1 ⟨rfl, h1, h2⟩; have H1 : Hid (Rf w1 w.heap.size vw vu vf W U (F.set t1.2 false) ∧ Keeps (fun b => w.heap.size ≤ b) wr w1) := ⟨h1, h2⟩; clear h1 h2)
            | (go_at_call 104; refine (HL2.out w1 H1.out.1).mono ?_; rintro e w2 ⟨rfl, h1, h2⟩; have H2 : Hid (Rf w2 w.heap.size vw vu vf W U ((F.set t1.2 false).set t2.2 false) ∧ Keeps (fun b => w.heap.size ≤ b) wr w2) := ⟨h1, H1.out.2.trans h2 (fun _ _ h => h)⟩; clear h1 h2))
          obtain ⟨L, hL⟩ : ∃ L, into.length = L := ⟨_, rfl⟩
          rw [hL] at n3 n4 hil
          have hUl : U.length = L := by rw [H2.out.1.lenU, HJ'.out.1.lenW, hL]
          have hWL : W.length = L := by rw [HJ'.out.1.lenW, hL]
          obtain ⟨gu, cu, rfl, _, _⟩ := World.ownsRow.form H2.out.1.own.ou (by omega)
          obtain ⟨gw, cw, rfl, _, _⟩ := World.ownsRow.form H2.out.1.own.ow (by rw [ints_length]; omega)
          rw [ints_length, hWL, hUl] at H2 HJ'
          have hgu : w.heap.size + 1 ≤ gu := (World.ownsRow.lt H2.out.1.own.ou gu rfl).1
          have hL600 : (L : Int) ≤ 600 := by omega
          have z1 : (t1.2 : Int) < (L : Int) := by omega
          have z2 : (t2.2 : Int) < (L : Int) := by omega
          have q1 : ¬ w.heap.size = gu := by omega
          have q2 : ¬ gu = w.heap.size := by omega
          have HLL : Hid (into.length = L ∧ U.length = L ∧ W.length = L) := ⟨hL, hUl, hWL⟩
          have hc1 : w2.cell? ⟨w.heap.size, 1, none⟩ = some (.slice (some ⟨gu, 0, none⟩) L cu) := cell_of_heap H2.out.1.blk rfl
          have hca : w2.cell? ⟨gu, t1.2, none⟩ = some (.int .i64 (at_ U t1.2)) ∧ w2.frozen? ⟨gu, t1.2, none⟩ = false := by
            have ho := H2.out.1.own.ou
            unfold OwnV at ho
            rw [hUl] at ho
            exact owns_cell ho t1.2 _ (intsV_get U t1.2 (by omega))
          obtain ⟨hca, hfa⟩ := hca
          clear HL1 HL2 H1 hL hUl hWL
          generalize at_ U t1.2 = v1 at *
          go_region
          clear hc1 hca hfa
          generalize hw3 : (w2.setCell _ _).drew = w3
          have H3 : Hid (Rf w3 w.heap.size (.slice (some ⟨gw, 0, none⟩) L cw) (.slice (some ⟨gu, 0, none⟩) L cu) vf W (U.set t1.2 (L : Int)) ((F.set t1.2 false).set t2.2 false) ∧ Keeps (fun b => w.heap.size ≤ b) wr w3) := by
            obtain ⟨k1, k2⟩ := rf_set H2.out.1 HLL.out.2.1 t1.2 (L : Int)
            rw [← hw3]
            exact ⟨k1.drew, (H2.out.2.trans k2 (fun _ _ h => h)).drew⟩
          clear hw3 H2
          have hc1 : w3.cell? ⟨w.heap.size, 1, none⟩ = some (.slice (some ⟨gu, 0, none⟩) L cu) := cell_of_heap H3.out.1.blk rfl
          have hcb : w3.cell? ⟨gu, t2.2, none⟩ = some (.int .i64 (at_ (U.set t1.2 (L : Int)) t2.2)) ∧ w3.frozen? ⟨gu, t2.2, none⟩ = false := by
            have ho := H3.out.1.own.ou
            unfold OwnV at ho
            have hUl := HLL.out.2.1
            rw [List.length_set, hUl] at ho
            exact owns_cell ho t2.2 _ (intsV_get _ t2.2 (by simp; omega))
          obtain ⟨hcb, hfb⟩ := hcb
          generalize at_ (U.set t1.2 (L : Int)) t2.2 = v2 at *
          go_wp2
          go_region
          clear hc1 hcb hfb
          generalize hw4 : (w3.setCell _ _).drew = w4
          have H4 : Hid (Rf w4 w.heap.size (.slice (some ⟨gw, 0, none⟩) L cw) (.slice (some ⟨gu, 0, none⟩) L cu) vf W ((U.set t1.2 (L : Int)).set t2.2 (L : Int)) ((F.set t1.2 false).set t2.2 false) ∧ Keeps (fun b => w.heap.size ≤ b) wr w4) := by
            obtain ⟨k1, k2⟩ := rf_set H3.out.1 (by rw [List.length_set]; exact HLL.out.2.1) t2.2 (L : Int)
            rw [← hw4]
            exact ⟨k1.drew, (H3.out.2.trans k2 (fun _ _ h => h)).drew⟩
          clear hw4 H3
          have hp0 : w4.cell? ⟨w.heap.size, 0, none⟩ = some (.slice (some ⟨gw, 0, none⟩) L cw) := cell_of_heap H4.out.1.blk rfl
          have hwt : ∀ t : Tr, t ∈ t1 :: t2 :: S2 → w4.cell? ⟨gw, t.2, none⟩ = some (.int .i64 (t.1 : Int)) := fun t ht => by
            have hav := (HJ'.out.1.av t).1 ht
            have ho := H4.out.1.own.ow
            unfold OwnV at ho
            rw [ints_length, HLL.out.2.2] at ho
            rw [(owns_cell ho t.2 _ (nats_get W t.2 hav.1)).1, ← hav.2.2]
          have hw1 := hwt t1 (by simp)
          have hw2 := hwt t2 (by simp)
          clear hwt
          have hsm : (t1.1 : Int) + (t2.1 : Int) ≤ 1099511627776 := by
            have := HJ'.out.1.sum
            simp only [List.map_cons, List.sum_cons] at this; omega
          have hsw : wrap64 ((t1.1 : Int) + (t2.1 : Int)) = (t1.1 : Int) + (t2.1 : Int) := by simp only [wrap64]; omega
          have hsw' : IntKind.i64.wrap ((t1.1 : Int) + (t2.1 : Int)) = (t1.1 : Int) + (t2.1 : Int) := by rw [IntWalk.i64_left]; exact hsw
          have HAd : Hid (Calls Tryz.prog 103 #[.pointer (some ⟨w.heap.size, 0, none⟩), .int .i64 ((t1.1 : Int) + (t2.1 : Int))] w4.drew fun e w' => e = .returned (.tuple #[]) ∧ ∃ vw' vu' vf', Rf w' w.heap.size vw' vu' vf' (W ++ [t1.1 + t2.1]) ((U.set t1.2 (L : Int)).set t2.2 (L : Int) ++ [-1]) ((F.set t1.2 false).set t2.2 false ++ [true]) ∧ Keeps (fun b => w.heap.size ≤ b) w4.drew w') := by
            have := add_ok w.heap.size _ _ _ _ _ _ (t1.1 + t2.1) w4.drew H4.out.1.drew (by have := HLL.out.2.2; omega)
            rw [show (((t1.1 + t2.1 : Nat)) : Int) = (t1.1 : Int) + (t2.1 : Int) by push_cast; rfl] at this
            exact this
          have HFin : Hid (∀ w5 vw' vu' vf', Rf w5 w.heap.size vw' vu' vf' (W ++ [t1.1 + t2.1]) ((U.set t1.2 (L : Int)).set t2.2 (L : Int) ++ [-1]) ((F.set t1.2 false).set t2.2 false ++ [true]) → Keeps (fun b => w.heap.size ≤ b) w4.drew w5 → ((∃ k S into W U F vw vu vf, k + (j + 1) = i ∧ into.length + 1 = i + (j + 1) ∧ Jr w5 w.heap.size R k S into W U F vw vu vf) ∧ Keeps (fun _ => False) w w5)) := fun w5 vw' vu' vf' h1 h2 => by
            obtain ⟨hJ, hK⟩ := HJ'.out
            have l1 := HLL.out.1
            have hLn : ((into.set t1.2 L).set t2.2 L ++ [L]).length = L + 1 := by simp [l1]
            exact ⟨⟨n, _, _, _, _, _, vw', vu', vf', by omega, by rw [hLn]; omega, jr_next hJ l1 h1⟩, hK.trans (H4.out.2.drew.trans h2 (fun _ _ h => h)) (fun i hi h => by omega)⟩
          have HGoal : Hid (j + 1 ≤ i) := hji
          clear HLL H4 HJ' hlen hil n1 q1 q2 hgu hk hWl
          go_wp2

          go_region_with (go_at_call 103; refine HAd.out.mono ?_; rintro e w5 ⟨rfl, vw', vu', vf', h1, h2⟩; have H5 : Hid ((∃ k S into W U F vw vu vf, k + (j + 1) = i ∧ into.length + 1 = i + (j + 1) ∧ Jr w5 w.heap.size R k S into W U F vw vu vf) ∧ Keeps (fun _ => False) w w5) := HFin.out w5 vw' vu' vf' h1 h2; clear h1 h2)
          all_goals
            clear HAd HFin hp0 hw1 hw2 hsw hsw'
            go_wp2
            go_roundw
            case rel => exact ⟨j + 1, by omega, HGoal.out, by push_cast; rfl, H5.out⟩
            case measure => simp [intOf]; omega
        · obtain rfl : j = i := by omega
          clear hji hj2 hj1
          obtain ⟨w0, rfl⟩ : ∃ w0, w0 = wr := ⟨_, rfl⟩
          obtain ⟨N, hN⟩ : ∃ N, 2 * j - 1 = N := ⟨_, rfl⟩
          have hN5 : N ≤ 575 := by omega
          have hjN : j ≤ N := by omega
          obtain ⟨gu, cu, hgu, HU⟩ : ∃ gu cu, gu < w0.heap.size ∧ Hid (Keeps (fun _ => False) w w0 ∧ Chain N R (dAll ws) ∧ w.heap.size < w0.heap.size ∧ ∀ w', Keeps (fun b => w0.heap.size ≤ b) w0 w' → w'.cell? ⟨w.heap.size, 1, none⟩ = some (.slice (some ⟨gu, 0, none⟩) N cu) ∧ ∀ q, q < N → w'.cell? ⟨gu, q, none⟩ = some (.int .i64 (if q + 1 = N then -1 else ((R.getD q 0 : Nat) : Int)))) := by
            obtain ⟨⟨k, S, into, W, U, F, vw, vu, vf, hk, hil, hJ⟩, hK⟩ := HJ.out
            obtain rfl : k = 0 := by omega
            have hIN : into.length = N := by omega
            have hUN : U.length = N := by rw [hJ.rf.lenU, hJ.lenW, hIN]
            match S, hJ with
            | [t], hJ =>
            have hRi : into = R := by rw [← hJ.run]; rfl
            obtain ⟨t', ht', hlast⟩ := hJ.al.last
            simp at ht'
            subst ht'
            obtain ⟨gu, cu, rfl, h1, h2⟩ := World.ownsRow.form hJ.rf.own.ou (by omega)
            have hch := chain_of ws (by rw [HM.out]; omega)
            rw [HM.out, HRn.out, hN] at hch
            have hpl : w.heap.size < w0.heap.size := lt_of_heap hJ.rf.blk
            refine ⟨gu, cu, h2, hK, hch, hpl, fun w' hk => ?_⟩
            have b1 := (hk.block w.heap.size hpl (by omega)).trans hJ.rf.blk
            refine ⟨by rw [← hUN]; exact cell_of_heap b1 rfl, fun q hq => ?_⟩
            rw [World.cell?_of_block (hk.block gu h2 (by omega)), (owns_cell hJ.rf.own.ou q _ (intsV_get U q (by omega))).1, hJ.ur q (by omega), hRi]
            by_cases e : q + 1 = N
            · have hft := ((hJ.av t').1 (by simp)).2.1
              rw [show t'.2 = q by omega] at hft
              rw [if_pos hft, if_pos e]
            · have : ¬ F.getD q false = true := fun hf => by
                have hm := List.mem_singleton.1 ((hJ.av (W.getD q 0, q)).2 ⟨by rw [hJ.lenW]; show q < _; omega, hf, rfl⟩)
                have e2 : q = t'.2 := congrArg Prod.snd hm
                omega
              rw [if_neg this, if_neg e]
          clear HJ HRn
          have HD : Hid (∀ e, e < j → (dsOf ws)[e]? = some (dAll ws e)) := fun e he => dsOf_get ws e (by rw [HM.out]; exact he)
          go_wp2
          go_loopw [8, 9] (fun s8 s9 w' => ∃ e : Nat, e ≤ j ∧ s9 = .int .i64 (e : Int) ∧ Hid (OwnV w' w0.heap.size s8 (ints ((dsOf ws).take e)) ∧ Keeps (fun b => w0.heap.size ≤ b) w0 w')) (fun s8 s9 w' => ((j : Int) - intOf s9).toNat)
          case atStart => exact ⟨0, by omega, rfl, OwnV.nil _ _, Keeps.refl _ _⟩
          case round =>
            obtain ⟨e, he, rfl, HE⟩ := hrel
            by_cases hej : e < j
            · have hez : (e : Int) < (j : Int) := by omega
              have heN : (e : Int) < (N : Int) := by omega
              obtain ⟨w6, rfl⟩ : ∃ w6, w6 = wr := ⟨_, rfl⟩
              obtain ⟨cu1, cuq⟩ := HU.out.2.2.2 w6 HE.out.2
              have cue := cuq e (by omega)
              have HQ : Hid (∀ q, q < N → w6.cell? ⟨gu, q, none⟩ = some (.int .i64 (if q + 1 = N then -1 else ((R.getD q 0 : Nat) : Int)))) := cuq
              have HStep : Hid (∀ q, q < N → ((q + 1 = N ∧ dAll ws q = 0) ∨ ∃ u, R.getD q 0 = u ∧ ¬ q + 1 = N ∧ q < u ∧ u < N ∧ dAll ws q = dAll ws u + 1)) := fun q hq => by
                by_cases e1 : q + 1 = N
                · left; refine ⟨e1, ?_⟩
                  have := HU.out.2.1.top
                  rw [show N - 1 = q by omega] at this; exact this
                · right
                  obtain ⟨u, u1, u2, u3, u4⟩ := HU.out.2.1.up q (by omega)
                  exact ⟨u, by rw [List.getD, u1]; rfl, e1, u2, u3, u4⟩
              obtain ⟨z0, hz0, HZ⟩ : ∃ z0 : Int, (if e + 1 = N then (-1 : Int) else ((R.getD e 0 : Nat) : Int)) = z0 ∧ Hid ((z0 = -1 ∧ 0 = dAll ws e) ∨ ∃ q : Nat, z0 = (q : Int) ∧ q < N ∧ 0 + 1 + dAll ws q = dAll ws e) := by
                refine ⟨_, rfl, ?_⟩
                rcases HStep.out e (by omega) with ⟨e1, e2⟩ | ⟨u, e1, e2, e3, e4, e5⟩
                · rw [if_pos e1]; exact .inl ⟨rfl, e2.symm⟩
                · rw [if_neg e2, e1]; exact .inr ⟨u, rfl, e4, by omega⟩
              rw [hz0] at cue
              have HDe : Hid (dAll ws e ≤ 575) := by
                have := HU.out.2.1.le e (by omega); show dAll ws e ≤ 575; omega
              have HTk : Hid (ints ((dsOf ws).take (e + 1)) = ints ((dsOf ws).take e) ++ [((dAll ws e : Nat) : Int)] ∧ (ints ((dsOf ws).take e)).length ≤ 600) := by
                have hel : e < (dsOf ws).length := by rw [dsOf_length, HM.out]; exact hej
                have := HD.out e hej
                rw [List.getElem?_eq_getElem hel] at this
                refine ⟨?_, by rw [ints_length, List.length_take]; omega⟩
                rw [List.take_succ_eq_append_getElem hel, ints_append, Option.some.inj this]; rfl
              clear cuq hz0
              generalize dAll ws e = De at *
              go_wp2
              go_loopw [10, 11] (fun s10 s11 w' => ∃ (kk : Nat) (jj : Int), s10 = .int .i64 (kk : Int) ∧ s11 = .int .i64 jj ∧ Hid ((jj = -1 ∧ kk = De) ∨ ∃ q : Nat, jj = (q : Int) ∧ q < N ∧ kk + 1 + dAll ws q = De) ∧ w' = w6) (fun s10 s11 w' => upM N (intOf s11))
              case atStart => exact ⟨0, z0, rfl, rfl, HZ, rfl⟩
              case round =>
                clear HZ cue
                obtain ⟨kk, jj, rfl, rfl, HZ, rfl⟩ := hrel
                by_cases hjj : jj < 0
                · obtain ⟨rfl, hkk⟩ : jj = -1 ∧ kk = De := by
                    rcases HZ.out with h | ⟨q, h1, _⟩
                    · exact h
                    · omega
                  subst hkk
                  go_wp2_with (refine wpList_one rfl _ _ rfl rfl w0.heap.size u8 (ints ((dsOf ws).take e)) rfl (HE.out.1.kept ((Keeps.refl (fun _ => False) wr).alloc _) (fun _ _ h => h)) wr.heap.size (kk : Int) rfl (heap_alloc_new _ _) ?hb ?hn ?_; (case hb => have := HE.out.2.size; simp; omega); (case hn => have := HTk.out.2; omega); intro gt ct w7 hO7 hG7 hA7)
                  go_roundw
                  case rel =>
                    refine ⟨e + 1, by omega, by push_cast; rfl, by rw [HTk.out.1]; exact hO7, (HE.out.2.alloc _).grown hG7 (fun k hk e => ?_)⟩
                    exact (World.ownsRow.lt HE.out.1 k e).1
                  case measure => simp [intOf]; omega
                · obtain ⟨q, rfl, hq, hkq⟩ : ∃ q : Nat, jj = (q : Int) ∧ q < N ∧ kk + 1 + dAll ws q = De := by
                    rcases HZ.out with h | h
                    · omega
                    · exact h
                  have cq := HQ.out q hq
                  have hqz : (q : Int) < (N : Int) := by omega
                  have hks : kk ≤ 575 := by have := HDe.out; omega
                  obtain ⟨z1, hz1, HZ1⟩ : ∃ z1 : Int, (if q + 1 = N then (-1 : Int) else ((R.getD q 0 : Nat) : Int)) = z1 ∧ Hid (((z1 = -1 ∧ kk + 1 = De) ∨ ∃ q' : Nat, z1 = (q' : Int) ∧ q' < N ∧ kk + 1 + 1 + dAll ws q' = De) ∧ (z1 = -1 ∨ (q : Int) < z1)) := by
                    refine ⟨_, rfl, ?_⟩
                    rcases HStep.out q hq with ⟨e1, e2⟩ | ⟨u, e1, e2, e3, e4, e5⟩
                    · rw [if_pos e1]; exact ⟨.inl ⟨rfl, by omega⟩, .inl rfl⟩
                    · rw [if_neg e2, e1]; exact ⟨.inr ⟨u, rfl, e4, by omega⟩, .inr (by omega)⟩
                  rw [hz1] at cq
                  clear hz1 HZ
                  go_wp2
                  go_roundw
                  case rel => exact ⟨kk + 1, z1, by push_cast; rfl, rfl, HZ1.out.1, trivial⟩
                  case measure =>
                    have h2 := HZ1.out.2
                    have h1 : z1 < (N : Int) := by rcases HZ1.out.1 with ⟨h, _⟩ | ⟨q', h, h', _⟩ <;> omega
                    exact upM_lt N q z1 h2 h1 hq
            · obtain rfl : e = j := by omega
              go_wp2
              go_ret
              obtain ⟨o1, o2⟩ := HE.out
              obtain ⟨k1, k2, k3, _⟩ := HU.out
              rw [List.take_of_length_le (by rw [dsOf_length, HM.out]; omega)] at o1
              refine ⟨_, rfl, ⟨o1.1, ?_⟩, k1.trans o2 (fun i hi h => by omega)⟩
              rcases o1.2 with h | ⟨g', c', cur, h1, h2, h3⟩
              · exact .inl h
              · exact .inr ⟨g', c', cur, h1, by omega, h3⟩

end Go.Proofs.YtfbghchgfbjogaaGreat.Lm

namespace Go.Proofs.YtfbghchgfbjogaaGreat.Lm
set_option linter.unusedVariables false
set_option linter.unusedSimpArgs false

/-- Just one is used, and not the first. -/
theorem one_back (zs : List Nat) (h2 : 2 ≤ zs.length) (s c : Nat) (hs : 0 < s) (hu : usedL 0 zs = [s]) (hw : wsOf zs = [c]) : usedL 0 (pairedL zs) = [0, s] ∧ wsOf (pairedL zs) = [1, c] := by
  unfold pairedL
  rw [hu]
  simp only [List.length_cons, List.length_nil, Nat.zero_add, beq_self_eq_true, cond_true]
  match zs, h2 with
  | 0 :: r, _ =>
    simp only [usedL, Nat.zero_add] at hu
    simp only [wsOf] at hw
    simp [idx0, usedL, wsOf, hu, hw]
  | (z + 1) :: r, _ =>
    simp only [usedL] at hu
    simp at hu; omega
/-- Just the first is used. -/
theorem one_first (zs : List Nat) (h2 : 2 ≤ zs.length) (c : Nat) (hu : usedL 0 zs = [0]) (hw : wsOf zs = [c]) : usedL 0 (pairedL zs) = [0, 1] ∧ wsOf (pairedL zs) = [c, 1] := by
  unfold pairedL
  rw [hu]
  simp only [List.length_cons, List.length_nil, Nat.zero_add, beq_self_eq_true, cond_true]
  match zs, h2 with
  | 0 :: r, _ =>
    simp only [usedL, Nat.zero_add] at hu
    have := usedL_lt r 1 0 (by rw [hu]; simp)
    omega
  | (z + 1) :: 0 :: r, _ =>
    simp only [usedL, wsOf, Nat.zero_add, List.cons.injEq, true_and] at hu hw
    have hu' : usedL 2 r = [] := hu
    obtain ⟨rfl, hw⟩ := hw
    simp [idx0, usedL, wsOf, hu', hw]
  | (z + 1) :: (y + 1) :: r, _ => simp [usedL] at hu
theorem not_one (zs : List Nat) (h : ¬ (usedL 0 zs).length = 1) : pairedL zs = zs := by
  unfold pairedL
  rw [show ((usedL 0 zs).length == 1) = false by simpa using h]; rfl
theorem spread_setk : ∀ (ys : List Nat) (i : Nat) (ds : List Nat) (k d : Nat) (hk : k < ds.length) (hu : k < (usedL i ys).length), (spread ys ds).set ((usedL i ys)[k] - i) d = spread ys (ds.set k d)
  | [], _, _, _, _, _, hu => by simp [usedL] at hu
  | 0 :: r, i, ds, k, d, hk, hu => by
    have := spread_setk r (i + 1) ds k d hk hu
    have h2 := (usedL_lt r (i + 1) _ (List.getElem_mem (show k < (usedL (i + 1) r).length from hu))).1
    simp only [usedL, spread]
    rw [show (usedL (i + 1) r)[k] - i = (usedL (i + 1) r)[k] - (i + 1) + 1 by omega, List.set_cons_succ, this]
  | (c + 1) :: r, i, x :: ds, 0, d, hk, hu => by simp [usedL, spread]
  | (c + 1) :: r, i, x :: ds, k + 1, d, hk, hu => by
    have h' : k < (usedL (i + 1) r).length := by simpa [usedL] using hu
    have := spread_setk r (i + 1) ds k d (by simpa using hk) h'
    have h2 := (usedL_lt r (i + 1) _ (List.getElem_mem h')).1
    simp only [usedL, spread, List.getElem_cons_succ, List.set_cons_succ]
    rw [show (usedL (i + 1) r)[k] - i = (usedL (i + 1) r)[k] - (i + 1) + 1 by omega, List.set_cons_succ, this]
theorem spread_zero : ∀ (ys : List Nat) (m : Nat), spread ys (List.replicate m 0) = List.replicate ys.length 0
  | [], _ => rfl
  | 0 :: r, m => by simp [spread, spread_zero r, List.replicate_succ]
  | (c + 1) :: r, 0 => by simpa [spread, List.replicate_succ] using spread_nil r
  | (c + 1) :: r, m + 1 => by simp [spread, spread_zero r, List.replicate_succ]
theorem spread_max : ∀ (ys ds : List Nat), ds.length = (wsOf ys).length → maxL (spread ys ds) = maxL ds
  | [], ds, h => by rw [List.length_eq_zero_iff.1 h]; rfl
  | 0 :: r, ds, h => by simp only [spread, maxL, spread_max r ds h]; omega
  | (c + 1) :: r, d :: ds, h => by simp only [spread, maxL]; rw [spread_max r ds (by simpa [wsOf] using h)]
  | (c + 1) :: r, [], h => by simp [wsOf] at h
/-- The first t are new. -/
def mixL (ds A : List Nat) (t : Nat) : List Nat := ds.take t ++ A.drop t
theorem mixL_set (ds A : List Nat) (t : Nat) (h : t < ds.length) (hA : A.length = ds.length) : (mixL ds A t).set t ds[t] = mixL ds A (t + 1) := by
  unfold mixL
  have hl : (ds.take t).length = t := by rw [List.length_take]; omega
  rw [List.set_append_right _ _ (by omega), hl, Nat.sub_self, List.drop_eq_getElem_cons (by omega), List.set_cons_zero, List.take_succ_eq_append_getElem h, List.append_assoc]
  rfl
theorem mixL_length (ds A : List Nat) (t : Nat) (h : t ≤ ds.length) (hA : A.length = ds.length) : (mixL ds A t).length = ds.length := by
  unfold mixL; simp; omega
theorem len_one {l : List Nat} (h : l.length = 1) : ∃ x, l = [x] := by
  match l, h with
  | [x], _ => exact ⟨x, rfl⟩

end Go.Proofs.YtfbghchgfbjogaaGreat.Lm

namespace Go.Proofs.YtfbghchgfbjogaaGreat.Lm
open Go.RowKit
set_option linter.unusedVariables false
set_option linter.unusedSimpArgs false

theorem rdepths_any (a : Option Addr) (ws : List Nat) (cap : Nat) (w : World) (hR : Row w a (ints ws)) (hl : ws.length ≤ 288) (hsum : ws.sum ≤ 1099511627776) :
    Calls Tryz.prog 92 #[.slice a ws.length cap] w fun e w' => ∃ a' c', e = .returned (.slice a' ws.length c') ∧ Row w' a' (ints (dsOf ws)) ∧ (∀ x, a' = some x → w.heap.size ≤ x.block) ∧ Keeps (fun _ => False) w w' := by
  by_cases h0 : ws.length = 0
  · obtain rfl := List.length_eq_zero_iff.1 h0
    refine (rdepths_none cap a w).mono ?_
    rintro e w' ⟨rfl, hk⟩
    exact ⟨none, 0, rfl, .inl rfl, by simp, hk⟩
  · refine (rdepths_some a ws cap w hR (by omega) hl hsum).mono ?_
    rintro e w' ⟨v, rfl, hv, hk⟩
    obtain ⟨a', c', rfl, h1, h2⟩ := hv.row
    exact ⟨a', c', by rw [ints_length, dsOf_length], h1, h2, hk⟩

/-- Two rows of a call's own, apart from each other. -/
structure Own2 (w : World) (base : Nat) (va vb : Value) (A B : List Int) : Prop where
  oa : OwnV w base va A
  ob : OwnV w base vb B
  ab : ∀ k, va.ownBlock = some k → vb.ownBlock ≠ some k
theorem Own2.kept {w w' : World} {base : Nat} {va vb : Value} {A B : List Int} (h : Own2 w base va vb A B) (hk : Keeps (fun _ => False) w w') : Own2 w' base va vb A B :=
  ⟨h.oa.kept hk (fun _ _ h => h), h.ob.kept hk (fun _ _ h => h), h.ab⟩
theorem Own2.a {w w' : World} {base g n c : Nat} {va vb : Value} {A B A' : List Int} (h : Own2 w base va vb A B) (ho : OwnV w' base (.slice (some ⟨g, 0, none⟩) n c) A') (hg : w.grownBy w' va.ownBlock) (ha : va.ownBlock = some g ∨ g = w.heap.size) : Own2 w' base (.slice (some ⟨g, 0, none⟩) n c) vb A' B := by
  refine ⟨ho, owns_heap h.ob (fun k e => hg.block k (World.ownsRow.lt h.ob k e).2 (fun e' => h.ab k e'.symm e)), fun k e e' => ?_⟩
  rw [ownBlock_slice] at e
  obtain rfl := Option.some.inj e
  rcases ha with ha | ha
  · exact h.ab g ha e'
  · have := (World.ownsRow.lt h.ob g e').2; omega
theorem Own2.b {w w' : World} {base g n c : Nat} {va vb : Value} {A B B' : List Int} (h : Own2 w base va vb A B) (ho : OwnV w' base (.slice (some ⟨g, 0, none⟩) n c) B') (hg : w.grownBy w' vb.ownBlock) (ha : vb.ownBlock = some g ∨ g = w.heap.size) : Own2 w' base va (.slice (some ⟨g, 0, none⟩) n c) A B' := by
  refine ⟨owns_heap h.oa (fun k e => hg.block k (World.ownsRow.lt h.oa k e).2 (fun e' => h.ab k e e'.symm)), ho, fun k e e' => ?_⟩
  rw [ownBlock_slice] at e'
  obtain rfl := Option.some.inj e'
  rcases ha with ha | ha
  · exact h.ab g e ha
  · have := (World.ownsRow.lt h.oa g e).2; omega

/-- What stands in memory behind the choice of symbols and weights. -/
structure Tl (w w' : World) (n m : Nat) (a6 a7 : Option Addr) (c7 go : Nat) (U W O : List Nat) : Prop where
  row : Row w' a6 (ints U)
  ws : OwnV w' w.heap.size (.slice a7 m c7) (ints W)
  out : Own w' go n (ints O)
  k : Keeps (fun _ => False) w w'
  ge : w.heap.size ≤ go
  d1 : ∀ x, a6 = some x → x.block ≠ go ∧ w.heap.size ≤ x.block
  d2 : ∀ x, a7 = some x → x.block ≠ go
  d3 : ∀ x y, a6 = some x → a7 = some y → x.block ≠ y.block
theorem Tl.kept {w w' w'' : World} {n m : Nat} {a6 a7 : Option Addr} {c7 go : Nat} {U W O : List Nat} (h : Tl w w' n m a6 a7 c7 go U W O) (hk : Keeps (fun _ => False) w' w'') : Tl w w'' n m a6 a7 c7 go U W O :=
  ⟨h.row.keptF hk, h.ws.kept hk (fun _ _ h => h), h.out.kept hk (fun h => h), h.k.trans hk (fun _ _ h => h), h.ge, h.d1, h.d2, h.d3⟩
theorem Tl.put {w w' : World} {n m : Nat} {a6 a7 : Option Addr} {c7 go : Nat} {U W O : List Nat} (h : Tl w w' n m a6 a7 c7 go U W O) (i v : Nat) : Tl w (w'.setCell ⟨go, i, none⟩ (.int .i64 (v : Int))) n m a6 a7 c7 go U W (O.set i v) ∧ Keeps (fun b => b = go) w' (w'.setCell ⟨go, i, none⟩ (.int .i64 (v : Int))) := by
  have hk : Keeps (fun b => b = go) w' (w'.setCell ⟨go, i, none⟩ (.int .i64 (v : Int))) := (Keeps.refl (fun b => b = go) w').setCell (p := ⟨go, i, none⟩) (fun _ => rfl) _
  refine ⟨⟨h.row.kept hk (fun x e => (h.d1 x e).1), h.ws.kept hk (fun k e => ?_), ?_, h.k.trans hk (fun i hi e => by have := h.ge; omega), h.ge, h.d1, h.d2, h.d3⟩, hk⟩
  · cases a7 with
    | none => cases e
    | some x =>
      have e' : some x.block = some k := e
      have := h.d2 x rfl
      rw [Option.some.inj e'] at this; exact this
  · rw [← ints_set]; exact h.out.set i (v : Int)
theorem Tl.drew {w w' : World} {n m : Nat} {a6 a7 : Option Addr} {c7 go : Nat} {U W O : List Nat} (h : Tl w w' n m a6 a7 c7 go U W O) : Tl w w'.drew n m a6 a7 c7 go U W O := h.kept ((Keeps.refl (fun _ => False) w').drew)
theorem Tl.turn {w w' : World} {n m : Nat} {a6 : Option Addr} {g7 c7 go : Nat} {U W O : List Nat} (h : Tl w w' n m a6 (some ⟨g7, 0, none⟩) c7 go U W O) (hm : W.length = m) (i v : Nat) : Tl w (w'.setCell ⟨g7, i, none⟩ (.int .i64 (v : Int))) n m a6 (some ⟨g7, 0, none⟩) c7 go U (W.set i v) O := by
  have hg7 : w.heap.size ≤ g7 := (World.ownsRow.lt h.ws g7 rfl).1
  have hk : Keeps (fun b => b = g7) w' (w'.setCell ⟨g7, i, none⟩ (.int .i64 (v : Int))) := (Keeps.refl (fun b => b = g7) w').setCell (p := ⟨g7, i, none⟩) (fun _ => rfl) _
  refine ⟨h.row.kept hk (fun x e => h.d3 x _ e rfl), ?_, h.out.kept hk (fun e => h.d2 _ rfl e.symm), h.k.trans hk (fun i hi e => by omega), h.ge, h.d1, h.d2, h.d3⟩
  have ho := h.ws
  unfold OwnV at *
  rw [← ints_set, List.length_set, ← intsV_set]
  rw [ints_length, hm] at *
  exact owns_set ho i _
def aSum (w : World) (a : Option Addr) (m : Nat) : Nat := match a with
  | some x => blkSum w x.block m
  | none => 0
theorem aSum_tl {w w' : World} {n m : Nat} {a6 a7 : Option Addr} {c7 go : Nat} {U W O : List Nat} (h : Tl w w' n m a6 a7 c7 go U W O) (hm : W.length = m) : aSum w' a7 m = W.sum := by
  rcases h.ws.form with ⟨e, e'⟩ | ⟨g, c, e, _, ho⟩
  · have : W = [] := by cases W with
      | nil => rfl
      | cons x r => simp [ints] at e'
    subst this
    cases a7 with
    | none => rfl
    | some x => cases e
  · simp only [Value.slice.injEq] at e
    obtain ⟨rfl, _, rfl⟩ := e
    exact blkSum_own ho hm

end Go.Proofs.YtfbghchgfbjogaaGreat.Lm

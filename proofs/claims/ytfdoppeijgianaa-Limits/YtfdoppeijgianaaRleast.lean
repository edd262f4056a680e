/-
  The document's forest: the least free tree.
-/
import Derived.Test.YtfdoppeijgianaaRforest
namespace Go.Proofs.Ytfdoppeijgianaa
open Go.RowKit
set_option linter.unusedVariables false
set_option linter.unusedSimpArgs false

/-- S are the trees that are free. -/
def Av (S : List Tr) (W : List Nat) (F : List Bool) : Prop := ∀ t : Tr, t ∈ S ↔ (t.2 < W.length ∧ F.getD t.2 false = true ∧ t.1 = W.getD t.2 0)
theorem getD_set (F : List Bool) (i j : Nat) (b : Bool) (hi : i < F.length) : (F.set i b).getD j false = if i = j then b else F.getD j false := by
  rw [List.getD, List.getElem?_set, List.getD]
  by_cases e : i = j
  · subst e; rw [if_pos rfl, if_pos hi, if_pos rfl]; rfl
  · rw [if_neg e, if_neg e]
theorem Av.take {s : Tr} {S : List Tr} {W : List Nat} {F : List Bool} (h : Av (s :: S) W F) (hs : Srt (s :: S)) (hl : F.length = W.length) : Av S W (F.set s.2 false) := by
  have hss := (h s).1 (by simp)
  intro t
  rw [getD_set F s.2 t.2 false (by omega)]
  constructor
  · intro ht
    have h1 := (h t).1 (by simp [ht])
    have hne : s ≠ t := ne_of_lt' ((List.pairwise_cons.1 hs).1 t ht)
    have : ¬ s.2 = t.2 := fun e => hne (Prod.ext (by rw [hss.2.2, h1.2.2, e]) e)
    rw [if_neg this]; exact h1
  · rintro ⟨h1, h2, h3⟩
    by_cases e : s.2 = t.2
    · rw [if_pos e] at h2; cases h2
    · rw [if_neg e] at h2
      rcases List.mem_cons.1 ((h t).2 ⟨h1, h2, h3⟩) with rfl | hm
      · exact absurd rfl e
      · exact hm
/-- The best one of the first i. -/
def Best (W : List Nat) (F : List Bool) (i : Nat) (z : Int) : Prop :=
  (z = -1 ∧ ∀ j, j < i → F.getD j false = false) ∨ ∃ a : Nat, z = (a : Int) ∧ a < i ∧ F.getD a false = true ∧ ∀ j, j < i → F.getD j false = true → ltb (W.getD j 0, j) (W.getD a 0, a) = false
theorem Best.skip {W : List Nat} {F : List Bool} {i : Nat} {z : Int} (h : Best W F i z) (hf : F.getD i false = false) : Best W F (i + 1) z := by
  rcases h with ⟨e, h⟩ | ⟨a, e, h1, h2, h3⟩
  · refine .inl ⟨e, fun j hj => ?_⟩
    by_cases e' : j = i
    · subst e'; exact hf
    · exact h j (by omega)
  · refine .inr ⟨a, e, by omega, h2, fun j hj hjf => ?_⟩
    by_cases e' : j = i
    · subst e'; rw [hf] at hjf; cases hjf
    · exact h3 j (by omega) hjf
theorem Best.first {W : List Nat} {F : List Bool} {i : Nat} (h : Best W F i (-1)) (hf : F.getD i false = true) : Best W F (i + 1) (i : Int) := by
  rcases h with ⟨_, h⟩ | ⟨a, e, _⟩
  · refine .inr ⟨i, rfl, by omega, hf, fun j hj hjf => ?_⟩
    by_cases e' : j = i
    · subst e'; exact ltb_irrefl _
    · have := h j (by omega); rw [this] at hjf; cases hjf
  · omega
theorem Best.less {W : List Nat} {F : List Bool} {i a : Nat} (h : Best W F i (a : Int)) (hf : F.getD i false = true) (hl : W.getD i 0 < W.getD a 0) : Best W F (i + 1) (i : Int) := by
  rcases h with ⟨e, h⟩ | ⟨a', e, h1, h2, h3⟩
  · omega
  · obtain rfl : a = a' := by omega
    refine .inr ⟨i, rfl, by omega, hf, fun j hj hjf => ?_⟩
    by_cases e' : j = i
    · subst e'; exact ltb_irrefl _
    · exact le_trans' (b := (W.getD a 0, a)) (by rw [ltb_false]; left; exact hl) (h3 j (by omega) hjf)
theorem Best.more {W : List Nat} {F : List Bool} {i a : Nat} (h : Best W F i (a : Int)) (hf : F.getD i false = true) (hl : ¬ W.getD i 0 < W.getD a 0) : Best W F (i + 1) (a : Int) := by
  rcases h with ⟨e, h⟩ | ⟨a', e, h1, h2, h3⟩
  · omega
  · obtain rfl : a = a' := by omega
    refine .inr ⟨a, rfl, by omega, h2, fun j hj hjf => ?_⟩
    by_cases e' : j = i
    · subst e'; rw [ltb_false]; simp only; omega
    · exact h3 j (by omega) hjf
theorem Best.done {W : List Nat} {F : List Bool} {z : Int} {s : Tr} {S : List Tr} (h : Best W F W.length z) (hA : Av (s :: S) W F) (hs : Srt (s :: S)) : z = (s.2 : Int) := by
  have hss := (hA s).1 (by simp)
  rcases h with ⟨_, h⟩ | ⟨a, e, h1, h2, h3⟩
  · rw [h s.2 hss.1] at hss; cases hss.2.1
  · have h4 := h3 s.2 hss.1 hss.2.1
    rw [← hss.2.2] at h4
    have hm := (hA (W.getD a 0, a)).2 ⟨h1, h2, rfl⟩
    rcases List.mem_cons.1 hm with h5 | h5
    · rw [e, ← h5]
    · have := (List.pairwise_cons.1 hs).1 _ h5
      rw [show ((s.1, s.2) : Tr) = s from rfl] at h4
      rw [h4] at this; cases this

theorem boolsV_get (bs : List Bool) (i : Nat) (h : i < bs.length) : (boolsV bs)[i]? = some (.bool (bs.getD i false)) := by
  simp [boolsV, List.getD, List.getElem?_eq_getElem h]
theorem nats_get (W : List Nat) (i : Nat) (h : i < W.length) : (intsV (ints W))[i]? = some (.int .i64 ((W.getD i 0 : Nat) : Int)) := by
  rw [intsV_get _ _ (by rw [ints_length]; exact h), ints_at]

set_option maxHeartbeats 4000000 in
set_option maxRecDepth 1000000 in
theorem least_ok (p : Nat) (vw vu vf : Value) (W : List Nat) (U : List Int) (F : List Bool) (s : Tr) (S : List Tr) (w : World) (h : Rf w p vw vu vf W U F) (hA : Av (s :: S) W F) (hs : Srt (s :: S)) (hn : W.length ≤ 1000) :
    Calls Try.prog 30 #[.pointer (some ⟨p, 0, none⟩)] w fun e w' => e = .returned (.int .i64 (s.2 : Int)) ∧ Rf w' p vw vu vf W U (F.set s.2 false) ∧ Keeps (fun b => p ≤ b) w w' := by
  have hsl := ((hA s).1 (by simp)).1
  obtain ⟨gw, cw, rfl, _, _⟩ := World.ownsRow.form h.own.ow (by rw [ints_length]; omega)
  obtain ⟨gf, cf, rfl, _, _⟩ := World.ownsRow.form h.own.of' (by rw [h.lenF]; omega)
  have HW : Hid (∀ w', Keeps (fun _ => False) w w' → (w'.cell? ⟨p, 0, none⟩ = some (.slice (some ⟨gw, 0, none⟩) W.length cw) ∧ w'.cell? ⟨p, 2, none⟩ = some (.slice (some ⟨gf, 0, none⟩) W.length cf)) ∧ ∀ i, i < W.length → w'.cell? ⟨gw, i, none⟩ = some (.int .i64 ((W.getD i 0 : Nat) : Int)) ∧ w'.cell? ⟨gf, i, none⟩ = some (.bool (F.getD i false))) := fun w' hk => by
    have h' := h.kept hk (fun _ _ h => h)
    have e1 : (ints W).length = W.length := ints_length W
    have e2 := h.lenF
    refine ⟨⟨?_, ?_⟩, fun i hi => ⟨?_, ?_⟩⟩
    · rw [← e1]; exact cell_of_heap h'.blk rfl
    · rw [← e2]; exact cell_of_heap h'.blk rfl
    · exact (owns_cell h'.own.ow i _ (nats_get W i hi)).1
    · exact (owns_cell h'.own.of' i _ (boolsV_get F i (by omega))).1
  have HR : Hid (Rf w p (.slice (some ⟨gw, 0, none⟩) (ints W).length cw) vu (.slice (some ⟨gf, 0, none⟩) F.length cf) W U F ∧ Av (s :: S) W F ∧ Srt (s :: S)) := ⟨h, hA, hs⟩
  clear h hA hs
  obtain ⟨L, hL⟩ : ∃ L, W.length = L := ⟨_, rfl⟩
  rw [hL] at HW hn hsl
  have HL : Hid (W.length = L) := hL
  clear hL
  go_enter Try.func30, Try.ntmps30
  go_wp2
  go_loopw [3, 4] (fun s3 s4 w' => ∃ (i : Nat) (z : Int), i ≤ L ∧ s4 = .int .i64 (i : Int) ∧ s3 = .int .i64 z ∧ Hid (Best W F i z ∧ Keeps (fun _ => False) w w')) (fun s3 s4 w' => ((L : Int) - intOf s4).toNat)
  case atStart => exact ⟨0, -1, by omega, rfl, rfl, .inl ⟨rfl, fun j hj => by omega⟩, Keeps.refl _ _⟩
  case round =>
    obtain ⟨i, z, hi, rfl, rfl, HI⟩ := hrel
    obtain ⟨⟨cw0, cf0⟩, hcell⟩ := HW.out wr HI.out.2
    by_cases hin : i < L
    · have hiz : (i : Int) < (L : Int) := by omega
      obtain ⟨ci, cfi⟩ := hcell i hin
      cases hf : F.getD i false with
      | false =>
        rw [hf] at cfi
        have HB : Hid (Best W F (i + 1) z) := HI.out.1.skip hf
        clear hcell
        go_wp2
        go_quiet (fail)
        have HK' : Hid (Keeps (fun _ => False) w (wr.drewN nq)) := HI.out.2.drewN nq
        generalize wr.drewN nq = wn at *
        clear ci cfi cw0 cf0 HI
        go_wp2
        go_roundw
        case rel => exact ⟨i + 1, z, by omega, by push_cast; rfl, rfl, HB.out, HK'.out⟩
        case measure => simp [intOf]; omega
      | true =>
        rw [hf] at cfi
        by_cases hz : z < 0
        · have hz1 : z = -1 := by rcases HI.out.1 with ⟨e, _⟩ | ⟨a, e, _⟩; exact e; omega
          subst hz1
          have HB : Hid (Best W F (i + 1) (i : Int)) := HI.out.1.first hf
          clear hcell hz
          go_wp2
          go_quiet (fail)
          have HK' : Hid (Keeps (fun _ => False) w (wr.drewN nq)) := HI.out.2.drewN nq
          generalize wr.drewN nq = wn at *
          clear ci cfi cw0 cf0 HI
          go_wp2
          go_roundw
          case rel => exact ⟨i + 1, (i : Int), by omega, by push_cast; rfl, rfl, HB.out, HK'.out⟩
          case measure => simp [intOf]; omega
        · obtain ⟨a, rfl, hai⟩ : ∃ a : Nat, z = (a : Int) ∧ a < i := by rcases HI.out.1 with ⟨e, _⟩ | ⟨a, e, h1, _⟩; omega; exact ⟨a, e, h1⟩
          have caw := (hcell a (by omega)).1
          have haz : (a : Int) < (L : Int) := by omega
          have hd0 : decide ((a : Int) < 0) = false := by simp
          clear hz hcell
          by_cases hlt : W.getD i 0 < W.getD a 0
          · have HB : Hid (Best W F (i + 1) (i : Int)) := HI.out.1.less hf hlt
            have hdl : decide (((W.getD i 0 : Nat) : Int) < ((W.getD a 0 : Nat) : Int)) = true := by simp only [decide_eq_true_eq]; omega
            generalize W.getD i 0 = wi at *
            generalize W.getD a 0 = wa at *
            go_wp2
            go_quiet (fail)
            have HK' : Hid (Keeps (fun _ => False) w (wr.drewN nq)) := HI.out.2.drewN nq
            generalize wr.drewN nq = wn at *
            clear ci cfi cw0 cf0 HI caw
            go_wp2
            go_roundw
            case rel => exact ⟨i + 1, (i : Int), by omega, by push_cast; rfl, rfl, HB.out, HK'.out⟩
            case measure => simp [intOf]; omega
          · have HB : Hid (Best W F (i + 1) (a : Int)) := HI.out.1.more hf hlt
            have hdl : decide (((W.getD i 0 : Nat) : Int) < ((W.getD a 0 : Nat) : Int)) = false := by simp only [decide_eq_false_iff_not]; omega
            generalize W.getD i 0 = wi at *
            generalize W.getD a 0 = wa at *
            go_wp2
            go_quiet (fail)
            have HK' : Hid (Keeps (fun _ => False) w (wr.drewN nq)) := HI.out.2.drewN nq
            generalize wr.drewN nq = wn at *
            clear ci cfi cw0 cf0 HI caw
            go_wp2
            go_roundw
            case rel => exact ⟨i + 1, (a : Int), by omega, by push_cast; rfl, rfl, HB.out, HK'.out⟩
            case measure => simp [intOf]; omega
    · obtain rfl : i = L := by omega
      obtain rfl : z = (s.2 : Int) := by
        have hB := HI.out.1
        rw [← HL.out] at hB
        exact hB.done HR.out.2.1 HR.out.2.2
      have hcs := (hcell s.2 hsl).2
      have hfs : wr.frozen? ⟨gf, s.2, none⟩ = false := by
        have h' := HR.out.1.kept HI.out.2 (fun _ _ h => h)
        exact (owns_cell h'.own.of' s.2 _ (boolsV_get F s.2 (by rw [h'.lenF, HL.out]; exact hsl))).2
      have hsz : (s.2 : Int) < (i : Int) := by omega
      clear hcell
      generalize F.getD s.2 false = b0 at *
      go_wp2
      go_ret
      have h' := HR.out.1.kept HI.out.2 (fun _ _ h => h)
      have hgf : p + 1 ≤ gf := (World.ownsRow.lt h'.own.of' gf rfl).1
      refine ⟨rfl, ⟨?_, ⟨?_, ?_, ?_, h'.own.wu, h'.own.wf, h'.own.uf⟩, h'.lenU, by rw [List.length_set]; exact h'.lenF⟩, HI.out.2.mono (fun _ _ h => h.elim) |>.setCell (fun _ => by show p ≤ gf; omega) _⟩
      · rw [Below.heap_setCell _ _ _ _ (by show p ≠ gf; omega)]; exact h'.blk
      · exact owns_far h'.own.ow (fun e => h'.own.wf gf e rfl) _
      · exact owns_far h'.own.ou (fun e => h'.own.uf gf e rfl) _
      · have := owns_set h'.own.of' s.2 (.bool false)
        unfold OwnB
        rw [List.length_set, show boolsV (F.set s.2 false) = (boolsV F).set s.2 (.bool false) by simp [boolsV, List.map_set]]
        exact this

end Go.Proofs.Ytfdoppeijgianaa

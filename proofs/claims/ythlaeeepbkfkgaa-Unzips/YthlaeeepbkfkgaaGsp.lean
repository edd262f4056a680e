/-
  Folders that are written over: SpoilInts, SpoilEntries, SpoilFolder.
-/
import Derived.Test.YthlaeeepbkfkgaaGget
import Derived.Test.YthlaeeepbkfkgaaFsz
namespace Go.Proofs.Ythlaeeepbkfkgaa
open Go.RowKit
set_option linter.unusedVariables false
set_option linter.unusedSimpArgs false

set_option maxHeartbeats 8000000 in
set_option maxRecDepth 1000000 in
theorem spoilI_ok (base : Nat) (a : Option Addr) (cap : Nat) (ys : List Int) (w : World) (h : OwnV w base (.slice a ys.length cap) ys) (hn : ys.length ≤ 1125899906842624) :
    Calls Try.prog 54 #[.slice a ys.length cap] w fun r w' => r = .returned (.tuple #[]) ∧ Keeps (fun k => (Value.slice a ys.length cap).ownBlock = some k) w w' := by
  rcases h.form with ⟨e, h0⟩ | ⟨g, cap', e, hb, ho⟩
  · subst h0
    cases e
    go_enter Try.func54, Try.ntmps54
    go_wp2
    go_loopw [2] (fun s2 w' => s2 = .int .i64 0 ∧ w' = w) (fun _ _ => 0)
    case atStart => exact ⟨rfl, rfl⟩
    case round =>
      obtain ⟨rfl, rfl⟩ := hrel
      go_wp2
      go_end0
      exact ⟨rfl, Keeps.refl _ _⟩
  · cases e
    have HT : Hid (∃ zs : List Int, zs.length = ys.length ∧ Own w g cap zs ∧ Keeps (fun k => k = g) w w) := ⟨ys, rfl, ho, Keeps.refl _ _⟩
    generalize ys.length = n at *
    clear h hb ho
    have hnz : (n : Int) ≤ 1125899906842624 := by omega
    go_enter Try.func54, Try.ntmps54
    go_wp2
    go_loopw [2] (fun s2 w' => ∃ i : Nat, i ≤ n ∧ s2 = .int .i64 (i : Int) ∧ Hid (∃ zs : List Int, zs.length = n ∧ Own w' g cap zs ∧ Keeps (fun k => k = g) w w')) (fun s2 _ => ((n : Int) - intOf s2).toNat)
    case atStart => exact ⟨0, by omega, rfl, HT⟩
    case round =>
      clear HT
      obtain ⟨i, hi, rfl, HT⟩ := hrel
      by_cases hin : i < n
      · have hiz : (i : Int) < (n : Int) := by omega
        obtain ⟨zs, hl, ho, hk⟩ := HT.out
        have hil : i < zs.length := by omega
        have hc := ho.cell i hil
        have hf := ho.free i hil
        have HO : Hid (∀ x : Int, ∃ zs : List Int, zs.length = n ∧ Own (wr.setCell ⟨g, i, none⟩ (.int .i64 x)) g cap zs ∧ Keeps (fun k => k = g) w (wr.setCell ⟨g, i, none⟩ (.int .i64 x))) := fun x => ⟨zs.set i x, by rw [List.length_set]; exact hl, ho.set i x, hk.trans ((Keeps.refl (fun k => k = g) wr).setCell (p := ⟨g, i, none⟩) (fun _ => rfl) _) (fun _ _ q => q)⟩
        clear hl ho hk HT
        generalize at_ zs i = y at *
        go_wp2
        go_roundw
        case rel => exact ⟨i + 1, by omega, by push_cast; rfl, HO.out _⟩
        case measure => simp [intOf]; omega
      · obtain rfl : i = n := by omega
        obtain ⟨zs, hl, ho, hk⟩ := HT.out
        go_wp2
        go_end0
        exact ⟨rfl, hk.mono (fun k _ q => by rw [q]; rfl)⟩

def setN (x : It) (v : ByteArray) : It := (⟨v, x.1.gn, x.1.va, x.1.vn, x.1.vc, x.1.st, x.1.nd, x.1.mt, x.1.pk, x.1.sz, x.1.cr⟩, x.2)
theorem entV_set : ∀ (es : List It) (i : Nat) (hi : i < es.length) (v : ByteArray), (entV es).set (i * 9) (.string v) = entV (es.set i (setN es[i] v))
  | [], _, h, _ => by simp at h
  | x :: r, 0, _, v => rfl
  | x :: r, i + 1, h, v => by
    have hl := ecs_len x.1
    rw [entV, List.set_cons_succ, entV, List.set_append_right _ _ (by rw [hl]; omega), hl, show (i + 1) * 9 - 9 = i * 9 by omega, entV_set r i (by simpa using h) v]
    rfl
theorem OwnF.setName {w : World} {base g n cap : Nat} {fs : List It} (h : OwnF w base (.slice (some ⟨g, 0, none⟩) n cap) fs) (i : Nat) (hi : i < fs.length) (v : ByteArray) : OwnF (w.setCell ⟨g, i * 9, none⟩ (.string v)) base (.slice (some ⟨g, 0, none⟩) n cap) (fs.set i (setN fs[i] v)) := by
  unfold OwnF at h ⊢
  rw [← entV_set fs i hi v]
  obtain ⟨h1, h2⟩ := h
  refine ⟨by rw [List.length_set, List.length_set]; exact h1, ?_⟩
  rcases h2 with ⟨q, _⟩ | ⟨g', cap', cur, q, hb, hh, h3, h4, h5, h6⟩
  · cases q
  · cases q
    refine .inr ⟨g, cap, cur.setIfInBounds (i * 9) (.string v), by rw [List.length_set], hb, heap_setCell_same hh _, by rw [List.length_set]; exact h3, h4, by simpa using h5, ?_⟩
    rw [List.length_set, Array.toList_setIfInBounds, List.take_set, h6]
/-- Entries whose names were told on. -/
structure Sp (w w' : World) (lim base : Nat) (g cap : Nat) (es : List It) (i : Nat) : Prop where
  ow : ∃ fs : List It, fs.length = es.length ∧ OwnF w' base (.slice (some ⟨g, 0, none⟩) es.length cap) fs ∧ (∀ j (h : j < es.length) (h' : j < fs.length), i ≤ j → fs[j].1 = es[j].1)
  ve : ∀ j (h : j < es.length), i ≤ j → OwnV w' base (slV es[j]) es[j].2
  kp : Keeps (fun k => base ≤ k ∧ k < lim) w w'

set_option maxHeartbeats 8000000 in
set_option maxRecDepth 1000000 in
theorem spoilE_ok (lim base : Nat) (a : Option Addr) (cap : Nat) (es : List It) (w w0 : World) (h : FolO w base (.slice a es.length cap) es) (h0 : FolO w0 base (.slice a es.length cap) es) (hl : w0.heap.size ≤ lim) (hz : ∀ x ∈ es, Fit x) (h6 : es.length ≤ 6) :
    Calls Try.prog 36 #[.slice a es.length cap] w fun r w' => r = .returned (.tuple #[]) ∧ Keeps (fun k => base ≤ k ∧ k < lim) w w' := by
  obtain ⟨a', cap', e, hat⟩ := h.1.at
  cases e
  rcases hat with hn0 | ⟨g, rfl, hob, hbg, hgl, _⟩
  · subst hn0
    go_enter Try.func36, Try.ntmps36
    go_wp2
    go_loopw [2] (fun s2 w' => s2 = .int .i64 0 ∧ w' = w) (fun _ _ => 0)
    case atStart => exact ⟨rfl, rfl⟩
    case round =>
      obtain ⟨rfl, rfl⟩ := hrel
      go_wp2
      go_end0
      exact ⟨rfl, Keeps.refl _ _⟩
  · have HT : Hid (Sp w w lim base g cap es 0) := ⟨⟨es, rfl, h.1, fun j h h' _ => rfl⟩, fun j hj _ => (h.2.1 _ (List.getElem_mem hj)).2, Keeps.refl _ _⟩
    have HV : Hid (∀ j (hj : j < es.length), es[j].1.vn = es[j].2.length ∧ es[j].2.length ≤ 1125899906842624 ∧ es[j].1.nm.size + 4096 ≤ 140737488355328 ∧ ∀ k, (slV es[j]).ownBlock = some k → base ≤ k ∧ k < lim ∧ k ≠ g ∧ ∀ i (hi : i < es.length), j < i → (slV es[i]).ownBlock ≠ some k) := fun j hj => by
      have hm := List.getElem_mem hj
      obtain ⟨q1, q2⟩ := h.2.1 _ hm
      have hf := hz _ hm
      refine ⟨q1, by have := hf.1; omega, hf.2.1, fun k hk => ⟨(q2.lo k hk).1, Nat.lt_of_lt_of_le ((h0.2.1 _ hm).2.lo k hk).2 hl, fun q => apart_types h.1 q2 hob (by rw [← q]; exact hk), fun i hi hji => ?_⟩⟩
      exact List.pairwise_iff_getElem.1 h.2.2 j i hj hi hji k hk
    have HG : Hid (base ≤ g ∧ g < lim) := ⟨hbg, Nat.lt_of_lt_of_le (h0.1.lo g hob).2 hl⟩
    have h6z : (es.length : Int) ≤ 6 := by omega
    clear h h0 hl hz h6 hob hbg hgl
    go_enter Try.func36, Try.ntmps36
    go_wp2
    go_loopw [2] (fun s2 w' => ∃ i : Nat, i ≤ es.length ∧ s2 = .int .i64 (i : Int) ∧ Hid (Sp w w' lim base g cap es i)) (fun s2 _ => ((es.length : Int) - intOf s2).toNat)
    case atStart => exact ⟨0, by omega, rfl, HT⟩
    case round =>
      clear HT
      obtain ⟨i, hi, rfl, HH⟩ := hrel
      by_cases hin : i < es.length
      · have hiz : (i : Int) < (es.length : Int) := by omega
        obtain ⟨fs, hfl, hfo, hfe⟩ := HH.out.ow
        obtain ⟨a2, cap2, e2, hat2⟩ := hfo.at
        have hA : EntAt wr g (0 + i * 9) es[i].1 := by
          rcases hat2 with q | ⟨g2, q1, _, _, _, q2⟩
          · rw [q] at hfl; simp at hfl; omega
          · rw [Value.slice.injEq] at e2
            have : g2 = g := by
              have q3 := e2.1.symm.trans rfl
              rw [q1] at e2
              have := e2.1
              simp at this; exact this.symm
            subst this
            have := q2 i (by omega)
            rwa [hfe i hin (by omega) (Nat.le_refl _)] at this
        rw [Nat.zero_add] at hA
        obtain ⟨hvn, hvl, hnl, hvb⟩ := HV.out i hin
        have hov := HH.out.ve i hin (Nat.le_refl _)
        obtain ⟨e, he⟩ : ∃ e, es[i].1 = e := ⟨_, rfl⟩
        have hsl : slV es[i] = .slice e.va es[i].2.length e.vc := by rw [slV, hvn, he]
        have c0 : wr.cell? ⟨g, i * 9, none⟩ = some (.string e.nm) := by rw [← he]; exact hA 0 _ rfl
        have c2 : wr.cell? ⟨g, i * 9 + 2, none⟩ = some (.slice e.va es[i].2.length e.vc) := by rw [← hsl, slV]; exact hA 2 _ rfl
        have HS : Hid (Calls Try.prog 54 #[.slice e.va es[i].2.length e.vc] wr fun r w' => r = .returned (.tuple #[]) ∧ Keeps (fun k => (slV es[i]).ownBlock = some k) wr w') := by
          rw [hsl] at hov ⊢
          exact spoilI_ok base e.va e.vc es[i].2 wr hov hvl
        have hgf : wr.frozen? ⟨g, i * 9, none⟩ = false := by
          rcases hfo.2 with ⟨q, _⟩ | ⟨g3, c3, cur3, q, _, q2, _⟩
          · cases q
          · have q' := congrArg Value.ownBlock q
            simp [Value.ownBlock] at q'
            subst q'; exact frozen_of_heap q2
        have HHg : Hid (g < wr.heap.size) := World.block_lt_of_cell? wr _ c0
        have HN : Hid (∀ w6 v, Keeps (fun k => (slV es[i]).ownBlock = some k) wr w6 → Sp w (w6.setCell ⟨g, i * 9, none⟩ (.string v)) lim base g cap es (i + 1) ∧ w6.cell? ⟨g, i * 9, none⟩ = some (.string e.nm) ∧ w6.frozen? ⟨g, i * 9, none⟩ = false) := fun w6 v hk6 => by
          have hk7 : Keeps (fun k => k = g) w6 (w6.setCell ⟨g, i * 9, none⟩ (.string v)) := (Keeps.refl (fun k => k = g) w6).setCell (p := ⟨g, i * 9, none⟩) (fun _ => rfl) _
          have hng : ∀ k, (slV es[i]).ownBlock = some k → k ≠ g := fun k q => (hvb k q).2.2.1
          refine ⟨⟨?_, fun j hj hij => ?_, ?_⟩, (World.cell?_of_block (hk6.block g HHg.out (fun q => hng g q rfl))).trans c0, (World.frozen?_of_block (hk6.block g HHg.out (fun q => hng g q rfl))).trans hgf⟩
          · refine ⟨fs.set i (setN fs[i] v), by rw [List.length_set]; exact hfl, ?_, fun j h h' hj => ?_⟩
            · exact OwnF.setName (hfo.kept hk6 (fun k q q2 => hng k q2 (by simpa [Value.ownBlock] using q.symm))) i (by omega) v
            · rw [List.getElem_set_ne (by omega)]; exact hfe j h (by rw [List.length_set] at h'; exact h') (by omega)
          · exact ((HH.out.ve j hj (by omega)).kept hk6 (fun k q q2 => (hvb k q2).2.2.2 j hj (by omega) q)).kept hk7 (fun k q q2 => (HV.out j hj).2.2.2 k q |>.2.2.1 q2)
          · exact (HH.out.kp.trans hk6 (fun k _ q => ⟨(hvb k q).1, (hvb k q).2.1⟩)).trans hk7 (fun k _ q => by rw [q]; exact HG.out)
        have hz1 : ¬ 9223372036854775807 < e.nm.size + 1 := by rw [he] at hnl; omega
        have hz2 : ¬ 9223372036854775807 < e.nm.size + (ByteArray.mk #[33]).size := by rw [he] at hnl; show ¬ _ < e.nm.size + 1; omega
        clear hfl hfo hfe hat2 hA hvn hvl hnl hvb hov hsl HH e2
        generalize es[i].2.length = vl at *
        go_wp2_with (first
          | (go_at_call 54; refine HS.out.mono ?_; rintro r w6 ⟨rfl, h⟩; have K6 : Hid (Keeps (fun k => (slV es[i]).ownBlock = some k) wr w6) := h; obtain ⟨_, d0, d1⟩ := HN.out w6 e.nm h; clear h))
        go_roundw
        case rel => exact ⟨i + 1, by omega, by push_cast; rfl, (HN.out w6 _ K6.out).1⟩
        case measure => simp [intOf]; omega
      · obtain rfl : i = es.length := by omega
        go_wp2
        go_end0
        exact ⟨rfl, HH.out.kp⟩

set_option maxHeartbeats 8000000 in
set_option maxRecDepth 1000000 in
theorem spoilF_ok (lim base : Nat) (a : Option Addr) (cap : Nat) (es : List It) (w w0 : World) (h : FolO w base (.slice a es.length cap) es) (h0 : FolO w0 base (.slice a es.length cap) es) (hl : w0.heap.size ≤ lim) (hz : ∀ x ∈ es, Fit x) (h6 : es.length ≤ 6) :
    Calls Try.prog 20 #[.agg #[.slice a es.length cap]] w fun r w' => r = .returned (.tuple #[]) ∧ Keeps (fun k => base ≤ k ∧ k < lim) w w' := by
  have HC : Hid (Calls Try.prog 36 #[.slice a es.length cap] (w.alloc (.cells #[.slice a es.length cap] 24)) fun r w' => r = .returned (.tuple #[]) ∧ Keeps (fun k => base ≤ k ∧ k < lim) (w.alloc (.cells #[.slice a es.length cap] 24)) w') :=
    spoilE_ok lim base a cap es _ w0 (h.keptF ((Keeps.refl (fun _ => False) w).alloc _)) h0 hl hz h6
  clear h h0 hl hz h6
  go_enter Try.func20, Try.ntmps20
  go_wp2_with (first
    | (go_at_call 36; refine HC.out.mono ?_; rintro r w1 ⟨rfl, h⟩; have H1 : Hid (Keeps (fun k => base ≤ k ∧ k < lim) w w1) := (((Keeps.refl (fun _ => False) w).alloc _).mono (fun _ _ h => h.elim)).trans h (fun k q1 q => q); clear h))
  go_end0
  exact ⟨rfl, H1.out⟩

end Go.Proofs.Ythlaeeepbkfkgaa

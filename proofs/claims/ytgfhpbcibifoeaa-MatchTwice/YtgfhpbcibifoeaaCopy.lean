/-
  A copy behind a text, byte by byte.
-/
import Derived.Test.YtgfhpbcibifoeaaPut
namespace Go.Proofs.Ytgfhpbcibifoeaa
open Go.RowKit
set_option linter.unusedVariables false
set_option linter.unusedSimpArgs false

theorem OntoT.trans {w w' w'' : World} {p : Nat} {v v' : Value} {xs : List Nat} (ho : v'.ownBlock = v.ownBlock ∨ ∃ g, v'.ownBlock = some g ∧ w.heap.size ≤ g) (hk : Keeps (fun k => k = p ∨ v.ownBlock = some k) w w') (h : OntoT w' w'' p v' xs) : OntoT w w'' p v xs := by
  obtain ⟨v2, h1, h2, h3⟩ := h
  refine ⟨v2, h1, ?_, hk.trans h3 ?_⟩
  · rcases h2 with h2 | ⟨g, h2, hg⟩
    · rw [h2]; exact ho
    · exact .inr ⟨g, h2, Nat.le_trans hk.size hg⟩
  · intro i hi h
    rcases h with h | h
    · exact .inl h
    · rcases ho with ho | ⟨g, ho, hg⟩
      · rw [ho] at h; exact .inr h
      · rw [ho] at h; cases h; omega
theorem OntoT.refl {w : World} {p : Nat} {v : Value} {xs : List Nat} (h : Txt w p v xs) : OntoT w w p v xs := ⟨v, h, .inl rfl, Keeps.refl _ _⟩

theorem copy_next {p g L cap g4 cap4 b3 y : Nat} {v : Value} {ys : List Nat} {t : Tk} {w wr w4 : World} {o : Obj} (hT : Txt wr p (.slice (some ⟨g, 0, none⟩) L cap) ys) (hL : ys.length = L)
    (hown : w4.ownsRow (p + 1) 5 1 (.slice (some ⟨g4, 0, none⟩) (L + 1) cap4) (L + 1) (ys.map byteV ++ [.int .u8 (y : Int)])) (hgrow : (wr.alloc o).drew.grownBy w4 (Value.slice (some ⟨g, 0, none⟩) L cap).ownBlock)
    (hat : (Value.slice (some ⟨g, 0, none⟩) L cap).ownBlock = some g4 ∨ g4 = wr.heap.size + 1)
    (hV : ((Value.slice (some ⟨g, 0, none⟩) L cap).ownBlock = v.ownBlock ∨ ∃ h, (Value.slice (some ⟨g, 0, none⟩) L cap).ownBlock = some h ∧ w.heap.size ≤ h) ∧ Keeps (fun k => k = p ∨ v.ownBlock = some k) w wr)
    (hS : b3 ≠ p ∧ v.ownBlock ≠ some b3 ∧ b3 < w.heap.size) (hk : Tkb wr b3 t) :
    OntoT w (w4.setCell ⟨p, 0, none⟩ (.slice (some ⟨g4, 0, none⟩) (L + 1) cap4)) p v (ys ++ [y]) ∧ Tkb (w4.setCell ⟨p, 0, none⟩ (.slice (some ⟨g4, 0, none⟩) (L + 1) cap4)) b3 t := by
  subst hL
  have hk4 : Keeps (fun k => (Value.slice (some ⟨g, 0, none⟩) ys.length cap).ownBlock = some k) wr w4 := (((Keeps.refl _ wr).alloc _).drew).grown hgrow (fun k _ e => e)
  have hO := onto_byte (c := y) (lt_of_heap hT.1) hT hown hk4 (by rcases hat with h | h; exact .inl h; exact .inr (by omega)) rfl
  refine ⟨OntoT.trans hV.1 hV.2 hO, ?_⟩
  obtain ⟨_, _, _, hk5⟩ := hO
  refine hk.kept hk5 ?_
  rintro (h | h)
  · exact hS.1 h
  · rcases hV.1 with e | ⟨q, e, hq⟩
    · rw [e] at h; exact hS.2.1 h
    · rw [e] at h; cases h; omega

set_option maxHeartbeats 8000000 in
set_option maxRecDepth 1000000 in
theorem putCopy_ok (p N D : Nat) (l : Int) (v : Value) (xs : List Nat) (w : World) (hN : N ≤ 258) (hD : 1 ≤ D) (hDx : D ≤ xs.length) (hx : xs.length ≤ 8192) (hT : Txt w p v xs) :
    Calls Try.prog 29 #[.pointer (some ⟨p, 0, none⟩), .agg #[.int .i64 l, .int .i64 (N : Int), .int .i64 (D : Int)]] w fun e w' => e = .returned (.tuple #[]) ∧ OntoT w w' p v (cop xs D N) := by
  have hlt := lt_of_heap hT.1
  have hown := World.ownsRow.lt hT.2
  obtain ⟨i0, hi, hz0, hz1, hz2⟩ := info_parts info5
  have HT : Hid (Txt w p v xs) := hT
  clear hT
  go_enter Try.func29, Try.ntmps29
  go_wp2_with (first
    | (refine wpList_box3 rfl _ rfl (l, (N : Int), (D : Int)) rfl ?_; intro b3 w3 hT3 hK3 hb3; have c1 : w3.cell? ⟨b3, 1, none⟩ = some (.int .i64 (N : Int)) := hT3.c1))
  have HB : Hid (OntoT w3 w3 p v (cop xs D 0) ∧ Tkb w3 b3 (l, (N : Int), (D : Int))) := ⟨OntoT.refl ⟨(hK3.block p hlt (fun h => h)).trans HT.out.1, HT.out.2.keptF hK3⟩, hT3⟩
  have HS : Hid (b3 ≠ p ∧ v.ownBlock ≠ some b3 ∧ b3 < w3.heap.size) := ⟨by omega, fun h => by have := (hown b3 h).2; omega, hT3.lt⟩
  have HK3 : Hid (Keeps (fun _ => False) w w3) := hK3
  clear hT3 hK3 c1 HT hown
  go_loopw [6] (fun s6 w' => ∃ i : Nat, i ≤ N ∧ s6 = .int .i64 (i : Int) ∧ Hid (OntoT w3 w' p v (cop xs D i) ∧ Tkb w' b3 (l, (N : Int), (D : Int)))) (fun s6 w' => ((N : Int) - intOf s6).toNat)
  case atStart => exact ⟨0, by omega, rfl, HB⟩
  case round =>
    clear HB
    obtain ⟨i, hin, rfl, HB⟩ := hrel
    by_cases hi2 : i < N
    · have hiz : (i : Int) < (N : Int) := by omega
      have hcl := cop_len xs D i
      obtain ⟨v', hT', hv', hK'⟩ := HB.out.1
      have HV : Hid ((v'.ownBlock = v.ownBlock ∨ ∃ g, v'.ownBlock = some g ∧ w3.heap.size ≤ g) ∧ Keeps (fun k => k = p ∨ v.ownBlock = some k) w3 wr) := ⟨hv', hK'⟩
      have HTk : Hid (Tkb wr b3 (l, (N : Int), (D : Int))) := HB.out.2
      have HX : Hid (cop xs D (i + 1) = cop xs D i ++ [yb (cop xs D i) ((cop xs D i).length - D)]) := rfl
      obtain ⟨r, hr⟩ : ∃ r, r = (cop xs D i).length - D := ⟨_, rfl⟩
      rw [← hr] at HX
      obtain ⟨g, cap, rfl, cy⟩ := hT'.2.cell r (by omega)
      have hw2 : IntKind.i64.wrap (((cop xs D i).length : Int) - (D : Int)) = (r : Int) := by rw [wrap_i64_small _ (by omega) (by omega)]; omega
      have k3 : wr.cell? ⟨p, 0, none⟩ = some (.slice (some ⟨g, 0, none⟩) (cop xs D i).length cap) := cell_of_heap hT'.1 rfl
      have g3 : wr.frozen? ⟨p, 0, none⟩ = false := frozen_of_heap hT'.1
      have hb3' : p < wr.heap.size := lt_of_heap hT'.1
      have d3 : wr.cell? ⟨b3, 2, none⟩ = some (.int .i64 (D : Int)) := HB.out.2.c2
      have hr0 : (0 : Int) ≤ (r : Int) := by omega
      have hrl : (r : Int) < ((cop xs D i).length : Int) := by omega
      have hL9 : (cop xs D i).length ≤ 10000 := by omega
      have hge : p + 1 ≤ g := (World.ownsRow.lt hT'.2 g rfl).1
      have hne : some p ≠ (Value.slice (some ⟨g, 0, none⟩) (cop xs D i).length cap).ownBlock := fun h => by simp [Value.ownBlock] at h; omega
      have HT' : Hid (Txt wr p (.slice (some ⟨g, 0, none⟩) (cop xs D i).length cap) (cop xs D i)) := hT'
      generalize cop xs D i = ys at *
      generalize yb ys r = y at *
      generalize hL : ys.length = L at *
      have HL : Hid (ys.length = L) := hL
      clear hL hT' hv' hK' hr hcl HB
      go_wp2
      go_region_law ((refine step_append_lies _ (by rfl) _ _ _ (by rfl) (p + 1) 5 i0 _ 1 1 Try.underlying48 hi hz0 hz1 hz2 rfl (by omega) (.slice (some ⟨g, 0, none⟩) L cap) L (ys.map byteV) (by rfl) (((by have := HT'.out.2; unfold OwnB at this; rw [HL.out] at this; exact this : wr.ownsRow (p + 1) 5 1 (.slice (some ⟨g, 0, none⟩) L cap) L (ys.map byteV)).alloc _).drew) ⟨wr.heap.size, 0, none⟩ 1 1 [.int .u8 (y : Int)] (by rfl) (by rfl) (World.news_of_block (cs := #[.int .u8 (y : Int)]) (t := 5) (fr := (0, 0)) (heap_alloc_new wr _)) (by simp [Value.oneCell']) (by omega) (by unfold maxLen; omega) (by omega) (by simp; omega) (wr.heap.size + 1) (by simp) ?_; intro g4 cap4 w4 hown4 hgrow4 hat4 hlt4; have k4 : w4.cell? ⟨p, 0, none⟩ = some (.slice (some ⟨g, 0, none⟩) L cap) := (hgrow4.cell_far ⟨p, 0, none⟩ (by simp; omega) hne).trans (by simp [World.cell?_alloc_past _ _ _ hb3']; exact k3); have e4 : w4.frozen? ⟨p, 0, none⟩ = false := (hgrow4.frozen_far ⟨p, 0, none⟩ (by simp; omega) hne).trans (by simp [World.frozen?_alloc_past _ _ _ hb3']; exact g3)))
      all_goals
        have HN : Hid (OntoT w3 (w4.setCell ⟨p, 0, none⟩ (.slice (some ⟨g4, 0, none⟩) (L + 1) cap4)) p v (cop xs D (i + 1)) ∧ Tkb (w4.setCell ⟨p, 0, none⟩ (.slice (some ⟨g4, 0, none⟩) (L + 1) cap4)) b3 (l, (N : Int), (D : Int))) := by
          rw [HX.out]
          exact copy_next HT'.out HL.out hown4 hgrow4 hat4 HV.out HS.out HTk.out
        generalize w4.setCell ⟨p, 0, none⟩ (.slice (some ⟨g4, 0, none⟩) (L + 1) cap4) = w5 at *
        clear k4 e4 hown4 hgrow4 hat4 hlt4 hne k3 g3 d3 cy hw2 HV HT' HX HTk hi hz0 hz1 hz2
        go_wp2
        go_roundw
      all_goals first | (exact ⟨i + 1, by omega, by push_cast; rfl, HN⟩) | (simp [intOf]; omega)
    · obtain rfl : i = N := by omega
      go_wp2
      go_end0
      exact ⟨rfl, OntoT.trans (.inl rfl) (HK3.out.mono (fun _ _ h => h.elim)) HB.out.1⟩

end Go.Proofs.Ytgfhpbcibifoeaa

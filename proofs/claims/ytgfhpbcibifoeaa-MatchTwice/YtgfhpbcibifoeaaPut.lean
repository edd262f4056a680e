/-
  A text that grows: one byte behind it, and a copy behind it.
-/
import Derived.Test.YtgfhpbcibifoeaaRmay
import Derived.Deep.RegionLaw
namespace Go.Proofs.Ytgfhpbcibifoeaa
open Go.RowKit
set_option linter.unusedVariables false
set_option linter.unusedSimpArgs false

/-- Bytes that a call owns. -/
def OwnB (w : World) (base : Nat) (v : Value) (xs : List Nat) : Prop := w.ownsRow base 5 1 v xs.length (xs.map byteV)
theorem OwnB.nil (w : World) (base : Nat) : OwnB w base (.slice none 0 0) [] := World.ownsRow_nil w base 5 1
theorem OwnB.kept {S : Nat → Prop} {w w' : World} {base : Nat} {v : Value} {xs : List Nat} (h : OwnB w base v xs) (hk : Keeps S w w') (hb : ∀ k, v.ownBlock = some k → ¬ S k) : OwnB w' base v xs :=
  owns_heap3 h (fun k e => hk.block k (World.ownsRow.lt h k e).2 (hb k e))
theorem OwnB.keptF {w w' : World} {base : Nat} {v : Value} {xs : List Nat} (h : OwnB w base v xs) (hk : Keeps (fun _ => False) w w') : OwnB w' base v xs := h.kept hk (fun _ _ h => h)
theorem OwnB.cell {w : World} {base : Nat} {v : Value} {xs : List Nat} (h : OwnB w base v xs) (i : Nat) (hi : i < xs.length) : ∃ g cap, v = .slice (some ⟨g, 0, none⟩) xs.length cap ∧ w.cell? ⟨g, i, none⟩ = some (.int .u8 (yb xs i : Int)) := by
  obtain ⟨g, cap, rfl, _, _⟩ := World.ownsRow.form h (by omega)
  refine ⟨g, cap, rfl, (owns_cell h i _ ?_).1⟩
  rw [List.getElem?_map, List.getElem?_eq_getElem hi, yb_eq i hi]; rfl

/-- A text of bytes lies in block p. -/
def Txt (w : World) (p : Nat) (v : Value) (xs : List Nat) : Prop := w.heap[p]? = some (.cells #[v] 48 (0, 0)) ∧ OwnB w (p + 1) v xs
/-- What a call on a text leaves. -/
def OntoT (w w' : World) (p : Nat) (v : Value) (xs : List Nat) : Prop :=
  ∃ v', Txt w' p v' xs ∧ (v'.ownBlock = v.ownBlock ∨ ∃ g, v'.ownBlock = some g ∧ w.heap.size ≤ g) ∧ Keeps (fun k => k = p ∨ v.ownBlock = some k) w w'
theorem info5 : (Try.prog.info? 5).map (fun i => (i.zero, i.size, i.bytes)) = some (some (.int .u8 0), 1, 1) := by kernel_rfl

set_option maxHeartbeats 4000000 in
set_option maxRecDepth 1000000 in
theorem putByte_run (p c m cap0 : Nat) (n d : Int) (a : Option Addr) (xs : List Value) (w : World) (hc : IntKind.u8.wrap (c : Int) = (c : Int)) (hm : m ≤ 100000)
    (hb : p < w.heap.size) (h0 : w.cell? ⟨p, 0, none⟩ = some (.slice a m cap0)) (f0 : w.frozen? ⟨p, 0, none⟩ = false) (hown : w.ownsRow (p + 1) 5 1 (.slice a m cap0) m xs) :
    Calls Try.prog 28 #[.pointer (some ⟨p, 0, none⟩), .agg #[.int .i64 (c : Int), .int .i64 n, .int .i64 d]] w fun e w' => e = .returned (.tuple #[]) ∧
      ∃ g cap w1, w1.ownsRow (p + 1) 5 1 (.slice (some ⟨g, 0, none⟩) (m + 1) cap) (m + 1) (xs ++ [.int .u8 (c : Int)]) ∧ Keeps (fun k => (Value.slice a m cap0).ownBlock = some k) w w1 ∧
        ((Value.slice a m cap0).ownBlock = some g ∨ w.heap.size ≤ g) ∧ g < w1.heap.size ∧ w' = w1.setCell ⟨p, 0, none⟩ (.slice (some ⟨g, 0, none⟩) (m + 1) cap) := by
  obtain ⟨i0, hi, hz0, hz1, hz2⟩ := info_parts info5
  have hlow : ∀ k, (Value.slice a m cap0).ownBlock = some k → p + 1 ≤ k := fun k hk => (hown.lt k hk).1
  have hne : some p ≠ (Value.slice a m cap0).ownBlock := fun h => by have := hlow p h.symm; omega
  have HO : Hid (w.ownsRow (p + 1) 5 1 (.slice a m cap0) m xs) := hown
  clear hown hlow
  go_enter Try.func28, Try.ntmps28
  go_wp2_with (first
    | (refine wpList_box3 rfl _ rfl ((c : Int), n, d) rfl ?_; intro b3 w3 hT3 hK3 hb3; have c3 : w3.cell? ⟨b3, 0, none⟩ = some (.int .i64 (c : Int)) := hT3.c0; have k3 : w3.cell? ⟨p, 0, none⟩ = some (.slice a m cap0) := (World.cell?_of_block (hK3.block p hb (fun h => h))).trans h0; have g3 : w3.frozen? ⟨p, 0, none⟩ = false := (World.frozen?_of_block (hK3.block p hb (fun h => h))).trans f0; have HO3 : Hid (w3.ownsRow (p + 1) 5 1 (.slice a m cap0) m xs) := owns_heap3 HO.out (fun k e => hK3.block k (HO.out.lt k e).2 (fun h => h)); have HK3 : Hid (Keeps (fun _ => False) w w3) := hK3; have hb3' : p < w3.heap.size := Nat.lt_of_lt_of_le hb hK3.size; clear hK3 hT3 HO h0 f0)
    )
  go_region_law ((refine step_append_lies _ (by rfl) _ _ _ (by rfl) (p + 1) 5 i0 _ 1 1 Try.underlying48 hi hz0 hz1 hz2 rfl (by omega) (.slice a m cap0) m xs (by rfl) ((HO3.out.alloc _).drew) ⟨w3.heap.size, 0, none⟩ 1 1 [.int .u8 (c : Int)] (by rfl) (by rfl) (World.news_of_block (cs := #[.int .u8 (c : Int)]) (t := 5) (fr := (0, 0)) (heap_alloc_new w3 _)) (by simp [Value.oneCell']) (by omega) (by unfold maxLen; omega) (by omega) (by simp; omega) (w3.heap.size + 1) (by simp) ?_; intro g cap w4 hown4 hgrow4 hat4 hlt4; have k4 : w4.cell? ⟨p, 0, none⟩ = some (.slice a m cap0) := (hgrow4.cell_far ⟨p, 0, none⟩ (by simp; omega) hne).trans (by simp [World.cell?_alloc_past _ _ _ hb3']; exact k3); have e4 : w4.frozen? ⟨p, 0, none⟩ = false := (hgrow4.frozen_far ⟨p, 0, none⟩ (by simp; omega) hne).trans (by simp [World.frozen?_alloc_past _ _ _ hb3']; exact g3)))
  all_goals
    go_wp2
    go_end0
    refine ⟨rfl, g, cap, w4, hown4, ?_, ?_, hlt4, rfl⟩
    · exact (((HK3.out.mono (fun _ _ h => h.elim)).alloc _).drew).grown hgrow4 (fun k _ e => e)
    · rcases hat4 with h | h
      · exact .inl h
      · exact .inr (by have := HK3.out.size; omega)

theorem onto_byte {p c : Nat} {xs : List Nat} {a : Option Addr} {cap0 : Nat} {w w1 w2 : World} {g cap : Nat} (hlt : p < w.heap.size) (hT : Txt w p (.slice a xs.length cap0) xs) (ho : w1.ownsRow (p + 1) 5 1 (.slice (some ⟨g, 0, none⟩) (xs.length + 1) cap) (xs.length + 1) (xs.map byteV ++ [.int .u8 (c : Int)]))
    (hk : Keeps (fun k => (Value.slice a xs.length cap0).ownBlock = some k) w w1) (hg : (Value.slice a xs.length cap0).ownBlock = some g ∨ w.heap.size ≤ g) (h2 : w2 = w1.setCell ⟨p, 0, none⟩ (.slice (some ⟨g, 0, none⟩) (xs.length + 1) cap)) :
    OntoT w w2 p (.slice a xs.length cap0) (xs ++ [c]) := by
  have hlow : ∀ k, (Value.slice a xs.length cap0).ownBlock = some k → p + 1 ≤ k := fun k e => (World.ownsRow.lt hT.2 k e).1
  have hp1 : w1.heap[p]? = some (.cells #[.slice a xs.length cap0] 48 (0, 0)) := (hk.block p hlt (fun e => by have := hlow p e; omega)).trans hT.1
  have hgp : p + 1 ≤ g := by
    rcases hg with h | h
    · exact hlow g h
    · omega
  subst h2
  refine ⟨.slice (some ⟨g, 0, none⟩) (xs.length + 1) cap, ⟨?_, ?_⟩, ?_, ?_⟩
  · show (w1.setCell ⟨p, 0, none⟩ _).heap[p]? = _
    rw [heap_setCell_same hp1]; rfl
  · have := owns_far ho (p := ⟨p, 0, none⟩) (by simp [Value.ownBlock]; omega) (.slice (some ⟨g, 0, none⟩) (xs.length + 1) cap)
    unfold OwnB
    rw [List.map_append, List.length_append]
    exact this
  · rcases hg with h | h
    · exact .inl h.symm
    · exact .inr ⟨g, rfl, h⟩
  · exact (hk.mono (fun _ _ h => .inr h)).setCell (fun _ => .inl rfl) _

theorem putByte_ok (p c : Nat) (n d : Int) (v : Value) (xs : List Nat) (w : World) (hc : c < 256) (hx : xs.length ≤ 100000) (hT : Txt w p v xs) :
    Calls Try.prog 28 #[.pointer (some ⟨p, 0, none⟩), .agg #[.int .i64 (c : Int), .int .i64 n, .int .i64 d]] w fun e w' => e = .returned (.tuple #[]) ∧ OntoT w w' p v (xs ++ [c]) := by
  have hlt := lt_of_heap hT.1
  obtain ⟨a, cap0, rfl⟩ : ∃ a cap0, v = .slice a xs.length cap0 := by
    rcases hT.2.2 with ⟨rfl, h⟩ | ⟨g, cap, cur, rfl, _⟩
    · exact ⟨none, 0, by rw [h]⟩
    · exact ⟨_, cap, rfl⟩
  refine (putByte_run p c xs.length cap0 n d a (xs.map byteV) w (by simp [IntKind.wrap, IntKind.bits, IntKind.signed]; omega) hx hlt (cell_of_heap hT.1 rfl) (frozen_of_heap hT.1) hT.2).mono ?_
  rintro e w' ⟨rfl, g, cap, w1, ho, hk, hg, hglt, h2⟩
  exact ⟨rfl, onto_byte hlt hT ho hk hg h2⟩

end Go.Proofs.Ytgfhpbcibifoeaa

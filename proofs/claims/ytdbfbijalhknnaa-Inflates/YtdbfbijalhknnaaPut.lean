/-
  put of package inflate: one byte more, if there is room for it.
-/
import Derived.Test.YtdbfbijalhknnaaStrm
import Derived.BigQuiet
namespace Go.Proofs.Ytdbfbijalhknnaa
open Go.RowKit
open Hf Tb
set_option linter.unusedVariables false
set_option linter.unusedSimpArgs false

theorem info_parts {t : TypeId} {z : Value} {n m : Nat} (h : (Try.prog.info? t).map (fun i => (i.zero, i.size, i.bytes)) = some (some z, n, m)) : ∃ i, Try.prog.info? t = some i ∧ i.zero = some z ∧ i.size = n ∧ i.bytes = m := by
  cases hi : Try.prog.info? t with
  | none => rw [hi] at h; cases h
  | some i => rw [hi] at h; simp at h; exact ⟨i, rfl, h.1, h.2.1, h.2.2⟩
theorem info5 : (Try.prog.info? 5).map (fun i => (i.zero, i.size, i.bytes)) = some (some (.int .u8 0), 1, 1) := by kernel_rfl

set_option maxHeartbeats 400000 in
theorem put_long {w : World} {b r : Nat} {v : Value} {s : ByteArray} {most : Nat} {L : Bts} {xs : List Nat} (h : St w b r v s most L xs) (c : Nat) (hl : xs.length = most) :
    Calls Try.prog 67 #[.pointer (some ⟨b, 0, none⟩), .int .u8 (c : Int)] w fun e w' => e = .returned (.int .i64 701) ∧ Keeps (Own3 b r v) w w' := by
  obtain ⟨a, cap0, rfl⟩ := h.own.form
  have hc1 := h.c1
  have hc2 := h.c2
  generalize hn : xs.length = n at *
  have hq : (((n : Nat) : Int) == ((most : Nat) : Int)) = true := by rw [hl]; exact beq_self_eq_true _
  clear h hl hn
  go_enter Try.func67, Try.ntmps67
  go_wp2
  go_quiet (fail)
  go_wp2
  go_ret
  exact ⟨rfl, (Keeps.refl _ w).drewN _⟩

/-- One byte behind the others. -/
theorem wpList_byte {ops : Array Oper} {rest : List Oper} {o : Oper} {a : Act} {w : World} {Q : Exit → Act → World → Prop} (hgd : o.guard = none) (s x : Operand) (ho : o.op = .call { callee := .builtin .append, args := #[s, x], argTypes := #[37, 37] })
    (base : Nat) (v : Value) (n : Nat) (xs : List Value) (hs : a.eval s = v) (hown : w.ownsRow base 5 1 v n xs) (q : Nat) (c : Nat) (hx : a.eval x = .slice (some ⟨q, 0, none⟩) 1 1) (hR : w.heap[q]? = some (.cells #[.int .u8 (c : Int)] 5 (0, 0))) (hb : base ≤ w.heap.size) (hn : n ≤ 1000000)
    (h : ∀ g cap w', w'.ownsRow base 5 1 (.slice (some ⟨g, 0, none⟩) (n + 1) cap) (n + 1) (xs ++ [.int .u8 (c : Int)]) → w.grownBy w' v.ownBlock → (v.ownBlock = some g ∨ g = w.heap.size) → g < w'.heap.size → wpList Try.prog ops Q rest (a.put o.dst (.slice (some ⟨g, 0, none⟩) (n + 1) cap)) w') : wpList Try.prog ops Q (o :: rest) a w := by
  obtain ⟨i0, hi, hz0, hz1, hz2⟩ := info_parts info5
  exact wpList_append_lies w hgd s x _ ho base 5 i0 _ 1 1 Try.underlying37 hi hz0 hz1 hz2 rfl (by omega) v n xs hs hown ⟨q, 0, none⟩ 1 1 [.int .u8 (c : Int)] hx rfl (World.news_of_block (cs := #[.int .u8 (c : Int)]) hR) (by simp [Value.oneCell']) (by omega) (by unfold maxLen; omega) (by omega) hb _ rfl h
/-- A place at which a walk stands, to be gone on from by hand. -/
structure Stop (p : Prop) : Prop where
  go : p
theorem wpList_stopC {P : Program} {ops : Array Oper} {rest : List Oper} {op : Oper} {a : Act} {w : World} {Q : Exit → Act → World → Prop} (f : Builtin) (args : Array Operand) (ts : Array TypeId) (ho : op.op = .call { callee := .builtin f, args := args, argTypes := ts })
    (h : Stop (wpList P ops Q (op :: rest) a w)) : wpList P ops Q (op :: rest) a w := h.go

set_option maxHeartbeats 2000000 in
set_option maxRecDepth 100000 in
theorem put_run {w : World} (b c n cap0 most : Nat) (ad : Option Addr) (xs : List Value) (hc : IntKind.u8.wrap (c : Int) = (c : Int)) (hn : n ≤ 10000) (hl : n ≠ most) (hb : b < w.heap.size)
    (hc1 : w.cell? ⟨b, 1, none⟩ = some (.slice ad n cap0)) (hc2 : w.cell? ⟨b, 2, none⟩ = some (.int .i64 (most : Int))) (hf : w.frozen? ⟨b, 1, none⟩ = false) (hown : w.ownsRow (b + 1) 5 1 (.slice ad n cap0) n xs) :
    Calls Try.prog 67 #[.pointer (some ⟨b, 0, none⟩), .int .u8 (c : Int)] w fun e w' => e = .returned (.int .i64 0) ∧
      ∃ g cap w1, w1.ownsRow (b + 1) 5 1 (.slice (some ⟨g, 0, none⟩) (n + 1) cap) (n + 1) (xs ++ [.int .u8 (c : Int)]) ∧ Keeps (fun k => (Value.slice ad n cap0).ownBlock = some k) w w1 ∧
        ((Value.slice ad n cap0).ownBlock = some g ∨ w.heap.size ≤ g) ∧ g < w1.heap.size ∧ w' = w1.setCell ⟨b, 1, none⟩ (.slice (some ⟨g, 0, none⟩) (n + 1) cap) := by
  obtain ⟨i0, hi, hz0, hz1, hz2⟩ := info_parts info5
  have hlow : ∀ k, (Value.slice ad n cap0).ownBlock = some k → b + 1 ≤ k := fun k hk => (hown.lt k hk).1
  have hne : some b ≠ (Value.slice ad n cap0).ownBlock := fun h => by have := hlow b h.symm; omega
  have HO : Hid (w.ownsRow (b + 1) 5 1 (.slice ad n cap0) n xs) := hown
  have hq : (((n : Nat) : Int) == ((most : Nat) : Int)) = false := by simp; omega
  clear hown hlow hl
  go_enter Try.func67, Try.ntmps67
  go_wp2
  go_quiet (fail)
  have hx1 : (w.drewN nq).cell? ⟨b, 1, none⟩ = some (.slice ad n cap0) := hc1
  go_wp2_with (refine wpList_byte rfl _ _ rfl (b + 1) (.slice ad n cap0) n xs rfl (World.ownsRow.alloc (show (w.drewN nq).ownsRow (b + 1) 5 1 (.slice ad n cap0) n xs from HO.out) _) w.heap.size c rfl (heap_alloc_new (w.drewN nq) _) (by simp; omega) (by omega) ?_; intro g cap w4 hown4 hgrow4 hat4 hlt4; have k4 : w4.cell? ⟨b, 1, none⟩ = some (.slice ad n cap0) := (hgrow4.cell_far ⟨b, 1, none⟩ (by simp; omega) hne).trans (by rw [World.cell?_alloc_past _ _ _ (show b < (w.drewN nq).heap.size from hb)]; exact hx1); have e4 : w4.frozen? ⟨b, 1, none⟩ = false := (hgrow4.frozen_far ⟨b, 1, none⟩ (by simp; omega) hne).trans (by rw [World.frozen?_alloc_past _ _ _ (show b < (w.drewN nq).heap.size from hb)]; exact hf))
  go_ret
  refine ⟨rfl, g, cap, w4, hown4, ?_, ?_, hlt4, rfl⟩
  · exact (((Keeps.refl _ w).drewN nq).alloc _).grown hgrow4 (fun k _ e => e)
  · rcases hat4 with h | h
    · exact .inl h
    · exact .inr (by subst h; simp)

theorem put_ok {w : World} {b r : Nat} {v : Value} {s : ByteArray} {most : Nat} {L : Bts} {xs : List Nat} (h : St w b r v s most L xs) (c : Nat) (hc : c < 256) (hl : xs.length ≠ most) :
    Calls Try.prog 67 #[.pointer (some ⟨b, 0, none⟩), .int .u8 (c : Int)] w fun e w' => e = .returned (.int .i64 0) ∧ ∃ v', St w' b r v' s most L (xs ++ [c]) ∧ Adv w w' b r v v' := by
  obtain ⟨a, cap0, rfl⟩ := h.own.form
  have hlim := h.lim
  have hm := h.most
  refine (put_run b c xs.length cap0 most a (xs.map byteV) (by simp [IntKind.wrap, IntKind.bits, IntKind.signed]; omega) (by omega) hl h.lt h.c1 h.c2 (h.free 1) h.own).mono ?_
  rintro e w' ⟨rfl, g, cap, w1, ho, hk, hg, hglt, rfl⟩
  refine ⟨rfl, .slice (some ⟨g, 0, none⟩) (xs.length + 1) cap, ?_⟩
  have hk2 : Keeps (Own3 b r (.slice a xs.length cap0)) w (w1.setCell ⟨b, 1, none⟩ (.slice (some ⟨g, 0, none⟩) (xs.length + 1) cap)) := (hk.mono (S' := Own3 b r (.slice a xs.length cap0)) (fun _ _ e => Or.inr (Or.inr e))).setCell (p := ⟨b, 1, none⟩) (fun _ => Or.inl rfl) _
  have hgb : b < g := by
    rcases hg with hg | hg
    · exact (h.ownlt g hg).1
    · have := h.lt; omega
  have ha : Adv w (w1.setCell ⟨b, 1, none⟩ (.slice (some ⟨g, 0, none⟩) (xs.length + 1) cap)) b r (.slice a xs.length cap0) (.slice (some ⟨g, 0, none⟩) (xs.length + 1) cap) := by
    refine ⟨hk2, ?_⟩
    rcases hg with hg | hg
    · exact .inl hg.symm
    · exact .inr ⟨g, rfl, hg⟩
  have hrb := h.rb
  obtain ⟨u, h1, h2⟩ := h.blk
  obtain ⟨p, p1, p2, p3⟩ := h.rd
  have hb1 : w1.heap[b]? = some (.cells #[.pointer (some ⟨r, 0, none⟩), .slice a xs.length cap0, .int .i64 (most : Int), u] 49 (0, 0)) := (hk.block b h.lt (fun e => by have := (h.ownlt b e).1; omega)).trans h1
  have k3 : Keeps (fun k => (Value.slice a xs.length cap0).ownBlock = some k ∨ k = b) w (w1.setCell ⟨b, 1, none⟩ (.slice (some ⟨g, 0, none⟩) (xs.length + 1) cap)) := (hk.mono (S' := fun k => (Value.slice a xs.length cap0).ownBlock = some k ∨ k = b) (fun _ _ e => Or.inl e)).setCell (p := ⟨b, 1, none⟩) (fun _ => Or.inr rfl) _
  refine ⟨⟨⟨u, ?_, h2.adv ha⟩, ⟨p, p1.kept k3 ?_, p2, p3⟩, ?_, h.rb, h.sz, by rw [List.length_append]; simp; omega, h.most, fun x hx => by
    rcases List.mem_append.1 hx with hx | hx
    · exact h.byt x hx
    · rw [List.mem_singleton] at hx; omega⟩, ha⟩
  · rw [heap_setCell_same hb1]; rfl
  · rintro (e | e)
    · have := (h.ownlt r e).1; omega
    · omega
  · have := owns_far ho (p := ⟨b, 1, none⟩) (by simp [Value.ownBlock]; omega) (.slice (some ⟨g, 0, none⟩) (xs.length + 1) cap)
    unfold OwnB
    rw [List.map_append, List.length_append]
    exact this

end Go.Proofs.Ytdbfbijalhknnaa

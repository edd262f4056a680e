/-
  The document's flow: put.
-/
import Derived.Test.YtdbfbijalhknnaaRf
namespace Go.Proofs.Ytdbfbijalhknnaa
open Go.RowKit
open Hf Tb
set_option linter.unusedVariables false
set_option linter.unusedSimpArgs false

set_option maxHeartbeats 800000 in
set_option maxRecDepth 100000 in
theorem rput_no {w : World} {b : Nat} {v : Value} {s : ByteArray} {most : Nat} {L : Bts} {xs : List Nat} {er : Int} (h : FS w b v s most L xs er) (he : er ≠ 0) (c : Nat) :
    Calls Try.prog 45 #[.pointer (some ⟨b, 0, none⟩), .int .u8 (c : Int)] w fun e w' => e = .returned (.tuple #[]) ∧ FS w' b v s most L xs er ∧ Keeps (fun k => k = b) w w' := by
  obtain ⟨c2, c3, c4, cf, p, c1⟩ := h.cell
  have hb : (er == 0) = false := by simp; exact he
  have hn : ¬ (er = 0) := he
  have HS : Hid (∀ n, FS (w.drewN n) b v s most L xs er) := fun n => ⟨h.fl, h.own, h.sz, h.lim, h.most, h.byt⟩
  clear h c2 c3 cf c1 he
  go_enter Try.func45, Try.ntmps45
  go_wp2
  go_quiet (fail)
  go_wp2
  go_end0
  exact ⟨rfl, HS.out _, (Keeps.refl _ w).drewN _⟩

set_option maxHeartbeats 800000 in
set_option maxRecDepth 100000 in
theorem rput_long {w : World} {b : Nat} {v : Value} {s : ByteArray} {most : Nat} {L : Bts} {xs : List Nat} (h : FS w b v s most L xs 0) (c : Nat) (hl : xs.length = most) :
    Calls Try.prog 45 #[.pointer (some ⟨b, 0, none⟩), .int .u8 (c : Int)] w fun e w' => e = .returned (.tuple #[]) ∧ FS w' b v s most L xs 701 ∧ Keeps (fun k => k = b) w w' := by
  obtain ⟨a, cap0, rfl⟩ := h.own.form
  obtain ⟨c2, c3, c4, cf, p, c1⟩ := h.cell
  have f4 := cf 4
  have hle : ((most : Nat) : Int) ≤ ((xs.length : Nat) : Int) := by omega
  have hd : decide (((most : Nat) : Int) ≤ ((xs.length : Nat) : Int)) = true := decide_eq_true hle
  have HS : Hid (∀ n, FS ((w.drewN n).setCell ⟨b, 4, none⟩ (.int .i64 701)) b (.slice a xs.length cap0) s most L xs 701 ∧ Keeps (fun k => k = b) w ((w.drewN n).setCell ⟨b, 4, none⟩ (.int .i64 701))) := fun n => by
    have h1 : FS (w.drewN n) b (.slice a xs.length cap0) s most L xs 0 := ⟨h.fl, h.own, h.sz, h.lim, h.most, h.byt⟩
    exact ⟨(h1.err 701).1, ((Keeps.refl _ w).drewN n).trans (h1.err 701).2 (fun _ _ e => e)⟩
  clear h cf c1 hl
  generalize xs.length = N at *
  go_enter Try.func45, Try.ntmps45
  go_wp2
  go_quiet (fail)
  go_wp2
  go_end0
  exact ⟨rfl, HS.out _⟩

set_option maxHeartbeats 2000000 in
set_option maxRecDepth 100000 in
theorem rput_run {w : World} (b c n cap0 most : Nat) (ad : Option Addr) (xs : List Value) (hn : n ≤ 10000) (hl : n < most) (hb : b < w.heap.size)
    (hc1 : w.cell? ⟨b, 2, none⟩ = some (.slice ad n cap0)) (hc2 : w.cell? ⟨b, 3, none⟩ = some (.int .i64 (most : Int))) (hc4 : w.cell? ⟨b, 4, none⟩ = some (.int .i64 0)) (hf : w.frozen? ⟨b, 2, none⟩ = false) (hown : w.ownsRow (b + 1) 5 1 (.slice ad n cap0) n xs) :
    Calls Try.prog 45 #[.pointer (some ⟨b, 0, none⟩), .int .u8 (c : Int)] w fun e w' => e = .returned (.tuple #[]) ∧
      ∃ g cap w1, w1.ownsRow (b + 1) 5 1 (.slice (some ⟨g, 0, none⟩) (n + 1) cap) (n + 1) (xs ++ [.int .u8 (c : Int)]) ∧ Keeps (fun k => (Value.slice ad n cap0).ownBlock = some k) w w1 ∧
        ((Value.slice ad n cap0).ownBlock = some g ∨ w.heap.size ≤ g) ∧ g < w1.heap.size ∧ w' = w1.setCell ⟨b, 2, none⟩ (.slice (some ⟨g, 0, none⟩) (n + 1) cap) := by
  have hlow : ∀ k, (Value.slice ad n cap0).ownBlock = some k → b + 1 ≤ k := fun k hk => (hown.lt k hk).1
  have hne : some b ≠ (Value.slice ad n cap0).ownBlock := fun h => by have := hlow b h.symm; omega
  have HO : Hid (w.ownsRow (b + 1) 5 1 (.slice ad n cap0) n xs) := hown
  have hle : ¬ ((most : Nat) : Int) ≤ ((n : Nat) : Int) := by omega
  have hd : decide (((most : Nat) : Int) ≤ ((n : Nat) : Int)) = false := decide_eq_false hle
  clear hown hlow hl
  go_enter Try.func45, Try.ntmps45
  go_wp2
  go_quiet (fail)
  have hx1 : (w.drewN nq).cell? ⟨b, 2, none⟩ = some (.slice ad n cap0) := hc1
  go_wp2_with (refine wpList_byte rfl _ _ rfl (b + 1) (.slice ad n cap0) n xs rfl (World.ownsRow.alloc (show (w.drewN nq).ownsRow (b + 1) 5 1 (.slice ad n cap0) n xs from HO.out) _) w.heap.size c rfl (heap_alloc_new (w.drewN nq) _) (by simp; omega) (by omega) ?_; intro g cap w4 hown4 hgrow4 hat4 hlt4; have k4 : w4.cell? ⟨b, 2, none⟩ = some (.slice ad n cap0) := (hgrow4.cell_far ⟨b, 2, none⟩ (by simp; omega) hne).trans (by rw [World.cell?_alloc_past _ _ _ (show b < (w.drewN nq).heap.size from hb)]; exact hx1); have e4 : w4.frozen? ⟨b, 2, none⟩ = false := (hgrow4.frozen_far ⟨b, 2, none⟩ (by simp; omega) hne).trans (by rw [World.frozen?_alloc_past _ _ _ (show b < (w.drewN nq).heap.size from hb)]; exact hf))
  go_end0
  refine ⟨rfl, g, cap, w4, hown4, ?_, ?_, hlt4, rfl⟩
  · exact (((Keeps.refl _ w).drewN nq).alloc _).grown hgrow4 (fun k _ e => e)
  · rcases hat4 with h | h
    · exact .inl h
    · exact .inr (by subst h; simp)

theorem rput_ok {w : World} {b : Nat} {v : Value} {s : ByteArray} {most : Nat} {L : Bts} {xs : List Nat} (h : FS w b v s most L xs 0) (c : Nat) (hc : c < 256) (hl : xs.length ≠ most) :
    Calls Try.prog 45 #[.pointer (some ⟨b, 0, none⟩), .int .u8 (c : Int)] w fun e w' => e = .returned (.tuple #[]) ∧ ∃ v', FS w' b v' s most L (xs ++ [c]) 0 ∧ FAdv w w' b v v' := by
  obtain ⟨a, cap0, rfl⟩ := h.own.form
  have hlim := h.lim
  have hm := h.most
  obtain ⟨c2, c3, c4, cf, p0, c1⟩ := h.cell
  refine (rput_run b c xs.length cap0 most a (xs.map byteV) (by omega) (by omega) h.lt c2 c3 c4 (cf 2) h.own).mono ?_
  rintro e w' ⟨rfl, g, cap, w1, ho, hk, hg, hglt, rfl⟩
  refine ⟨rfl, .slice (some ⟨g, 0, none⟩) (xs.length + 1) cap, ?_⟩
  have hgb : b < g := by
    rcases hg with hg | hg
    · exact (h.ownlt g hg).1
    · have := h.lt; omega
  have hk2 : Keeps (Own2 b (.slice a xs.length cap0)) w (w1.setCell ⟨b, 2, none⟩ (.slice (some ⟨g, 0, none⟩) (xs.length + 1) cap)) := (hk.mono (S' := Own2 b (.slice a xs.length cap0)) (fun _ _ e => Or.inr e)).setCell (p := ⟨b, 2, none⟩) (fun _ => Or.inl rfl) _
  have ha : FAdv w (w1.setCell ⟨b, 2, none⟩ (.slice (some ⟨g, 0, none⟩) (xs.length + 1) cap)) b (.slice a xs.length cap0) (.slice (some ⟨g, 0, none⟩) (xs.length + 1) cap) := by
    refine ⟨hk2, ?_⟩
    rcases hg with hg | hg
    · exact .inl hg.symm
    · exact .inr ⟨g, rfl, hg⟩
  obtain ⟨p, p1, p2, p3⟩ := h.fl
  have hb1 : w1.heap[b]? = some (.cells #[.string s, .int .i64 (p : Int), .slice a xs.length cap0, .int .i64 (most : Int), .int .i64 0] 58 (0, 0)) := (hk.block b h.lt (fun e => by have := (h.ownlt b e).1; omega)).trans p1
  refine ⟨⟨⟨p, ?_, p2, p3⟩, ?_, h.sz, by rw [List.length_append]; simp; omega, h.most, fun x hx => by
    rcases List.mem_append.1 hx with hx | hx
    · exact h.byt x hx
    · rw [List.mem_singleton] at hx; omega⟩, ha⟩
  · unfold Fl; rw [heap_setCell_same hb1]; rfl
  · have := owns_far ho (p := ⟨b, 2, none⟩) (by simp [Value.ownBlock]; omega) (.slice (some ⟨g, 0, none⟩) (xs.length + 1) cap)
    unfold OwnB
    rw [List.map_append, List.length_append]
    exact this

/-- What a call on a flow leaves: it went well, or the error stands. -/
def FPost (R : Rs) (w : World) (b : Nat) (v : Value) (s : ByteArray) (most : Nat) (w' : World) : Prop :=
  (∀ x, R = .error x → ∃ v' L' o', FS w' b v' s most L' o' x ∧ FAdv w w' b v v') ∧ ∀ L' o', R = .ok (L', o') → ∃ v', FS w' b v' s most L' o' 0 ∧ FAdv w w' b v v'
theorem FPost.bad {x : Int} {w w' : World} {b : Nat} {v v' : Value} {s : ByteArray} {most : Nat} {L' : Bts} {o' : List Nat} (h : FS w' b v' s most L' o' x) (k : FAdv w w' b v v') : FPost (.error x) w b v s most w' :=
  ⟨fun y e => by cases e; exact ⟨v', L', o', h, k⟩, fun _ _ e => by cases e⟩
theorem FPost.good {w w' : World} {b : Nat} {v v' : Value} {s : ByteArray} {most : Nat} {L' : Bts} {o' : List Nat} (h : FS w' b v' s most L' o' 0) (k : FAdv w w' b v v') : FPost (.ok (L', o')) w b v s most w' :=
  ⟨fun y e => by (cases e), fun _ _ e => by cases e; exact ⟨v', h, k⟩⟩
theorem FPost.trans {R : Rs} {w w2 w' : World} {b : Nat} {v v2 : Value} {s : ByteArray} {most : Nat} (ha : FAdv w w2 b v v2) (h : FPost R w2 b v2 s most w') : FPost R w b v s most w' :=
  ⟨fun x hx => by obtain ⟨v', L', o', h1, h2⟩ := h.1 x hx; exact ⟨v', L', o', h1, ha.trans h2⟩, fun L' o' hs => by obtain ⟨v', h1, h2⟩ := h.2 L' o' hs; exact ⟨v', h1, ha.trans h2⟩⟩
theorem rput_rs {w : World} {b : Nat} {v : Value} {s : ByteArray} {most : Nat} {L : Bts} {xs : List Nat} (h : FS w b v s most L xs 0) (c : Nat) (hc : c < 256) :
    Calls Try.prog 45 #[.pointer (some ⟨b, 0, none⟩), .int .u8 (c : Int)] w fun e w' => e = .returned (.tuple #[]) ∧ FPost (mapE (put1 most c) L xs) w b v s most w' := by
  by_cases hl : xs.length = most
  · have e : mapE (put1 most c) L xs = .error 701 := by simp [mapE, put1, hl]
    rw [e]
    exact (rput_long h c hl).mono (fun e w' ⟨h1, h2, h3⟩ => ⟨h1, FPost.bad h2 (FAdv.ofB v h3)⟩)
  · have e : mapE (put1 most c) L xs = .ok (L, xs ++ [c]) := by simp [mapE, put1, hl]
    rw [e]
    exact (rput_ok h c hc hl).mono (fun e w' ⟨h1, v', h2, h3⟩ => ⟨h1, FPost.good h2 h3⟩)

end Go.Proofs.Ytdbfbijalhknnaa

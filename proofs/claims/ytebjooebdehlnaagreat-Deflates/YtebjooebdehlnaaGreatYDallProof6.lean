/-
  The document's flow: put. The document's books: bookOf. The document's flow: symbol. The document's flow: stored. The document's flow: coded.
-/
import Derived.Test.YtebjooebdehlnaaGreatRows
import Derived.Test.YtebjooebdehlnaaGreatYDallProof5
namespace Go.Proofs.YtebjooebdehlnaaGreat
open Go.RowKit
open Hf Tb
set_option linter.unusedVariables false
set_option linter.unusedSimpArgs false

set_option maxHeartbeats 800000 in
set_option maxRecDepth 100000 in
theorem rput_no {w : World} {b : Nat} {v : Value} {s : ByteArray} {most : Nat} {L : Bts} {xs : List Nat} {er : Int} (h : FS w b v s most L xs er) (he : er ≠ 0) (c : Nat) :
    Calls Tryz.prog 106 #[.pointer (some ⟨b, 0, none⟩), .int .u8 (c : Int)] w fun e w' => e = .returned (.tuple #[]) ∧ FS w' b v s most L xs er ∧ Keeps (fun k => k = b) w w' := by
  obtain ⟨c2, c3, c4, cf, p, c1⟩ := h.cell
  have hb : (er == 0) = false := by simp; exact he
  have hn : ¬ (er = 0) := he
  have HS : Hid (∀ n, FS (w.drewN n) b v s most L xs er) := fun n => ⟨h.fl, h.own, h.sz, h.lim, h.most, h.byt⟩
  clear h c2 c3 cf c1 he
  go_enter Tryz.func106, Tryz.ntmps106
  go_wp2
  go_quiet (fail)
  go_wp2
  go_end0
  exact ⟨rfl, HS.out _, (Keeps.refl _ w).drewN _⟩

set_option maxHeartbeats 800000 in
set_option maxRecDepth 100000 in
theorem rput_long {w : World} {b : Nat} {v : Value} {s : ByteArray} {most : Nat} {L : Bts} {xs : List Nat} (h : FS w b v s most L xs 0) (c : Nat) (hl : xs.length = most) :
    Calls Tryz.prog 106 #[.pointer (some ⟨b, 0, none⟩), .int .u8 (c : Int)] w fun e w' => e = .returned (.tuple #[]) ∧ FS w' b v s most L xs 701 ∧ Keeps (fun k => k = b) w w' := by
  obtain ⟨a, cap0, rfl⟩ := h.own.form
  obtain ⟨c2, c3, c4, cf, p, c1⟩ := h.cell
  have f4 := cf 4
  have hle : ((most : Nat) : Int) ≤ ((xs.length : Nat) : Int) := by omega
  have hd : decide (((most : Nat) : Int) ≤ ((xs.length : Nat) : Int)) = true := decide_eq_true hle
  have HS : Hid (∀ n, FS ((w.drewN n).setCell ⟨b, 4, none⟩ (.int .i64 701)) b (.slice a xs.length cap0) s most L xs 701 ∧ Keeps (fun k => k = b) w ((w.drewN n).setCell ⟨b, 4, none⟩ (.int .i64 701))) := fun n => by
    have h1 : FS (w.drewN n) b (.slice a xs.length cap0) s most L xs 0 := ⟨h.fl, h.own, h.sz, h.lim, h.most, h.byt⟩
    exact ⟨(h1.err 701).1, ((Keeps.refl _ w).drewN n).trans (h1.err 701).2 (fun _ _ e => e)⟩
  clear h cf c1 hl
  generalize xs.length = N at *
  go_enter Tryz.func106, Tryz.ntmps106
  go_wp2
  go_quiet (fail)
  go_wp2
  go_end0
  exact ⟨rfl, HS.out _⟩

set_option maxHeartbeats 2000000 in
set_option maxRecDepth 100000 in
theorem rput_run {w : World} (b c n cap0 most : Nat) (ad : Option Addr) (xs : List Value) (hn : n ≤ 10000) (hl : n < most) (hb : b < w.heap.size)
    (hc1 : w.cell? ⟨b, 2, none⟩ = some (.slice ad n cap0)) (hc2 : w.cell? ⟨b, 3, none⟩ = some (.int .i64 (most : Int))) (hc4 : w.cell? ⟨b, 4, none⟩ = some (.int .i64 0)) (hf : w.frozen? ⟨b, 2, none⟩ = false) (hown : w.ownsRow (b + 1) 5 1 (.slice ad n cap0) n xs) :
    Calls Tryz.prog 106 #[.pointer (some ⟨b, 0, none⟩), .int .u8 (c : Int)] w fun e w' => e = .returned (.tuple #[]) ∧
      ∃ g cap w1, w1.ownsRow (b + 1) 5 1 (.slice (some ⟨g, 0, none⟩) (n + 1) cap) (n + 1) (xs ++ [.int .u8 (c : Int)]) ∧ Keeps (fun k => (Value.slice ad n cap0).ownBlock = some k) w w1 ∧
        ((Value.slice ad n cap0).ownBlock = some g ∨ w.heap.size ≤ g) ∧ g < w1.heap.size ∧ w' = w1.setCell ⟨b, 2, none⟩ (.slice (some ⟨g, 0, none⟩) (n + 1) cap) := by
  have hlow : ∀ k, (Value.slice ad n cap0).ownBlock = some k → b + 1 ≤ k := fun k hk => (hown.lt k hk).1
  have hne : some b ≠ (Value.slice ad n cap0).ownBlock := fun h => by have := hlow b h.symm; omega
  have HO : Hid (w.ownsRow (b + 1) 5 1 (.slice ad n cap0) n xs) := hown
  have hle : ¬ ((most : Nat) : Int) ≤ ((n : Nat) : Int) := by omega
  have hd : decide (((most : Nat) : Int) ≤ ((n : Nat) : Int)) = false := decide_eq_false hle
  clear hown hlow hl
  go_enter Tryz.func106, Tryz.ntmps106
  go_wp2
  go_quiet (fail)
  have hx1 : (w.drewN nq).cell? ⟨b, 2, none⟩ = some (.slice ad n cap0) := hc1
  go_wp2_with (refine wpList_byte rfl _ _ rfl (b + 1) (.slice ad n cap0) n xs rfl (World.ownsRow.alloc (show (w.drewN nq).ownsRow (b + 1) 5 1 (.slice ad n cap0) n xs from HO.out) _) w.heap.size c rfl (heap_alloc_new (w.drewN nq) _) (by simp; omega) (by omega) ?_; intro g cap w4 hown4 hgrow4 hat4 hlt4; have k4 : w4.cell? ⟨b, 2, none⟩ = some (.slice ad n cap0) := (hgrow4.cell_far ⟨b, 2, none⟩ (by simp; omega) hne).trans (by rw [World.cell?_alloc_past _ _ _ (show b < (w.drewN nq).heap.size from hb)]; exact hx1); have e4 : w4.frozen? ⟨b, 2, none⟩ = false := (hgrow4.frozen_far ⟨b, 2, none⟩ (by simp; omega) hne).trans (by rw [World.frozen?_alloc_past _ _ _ (show b < (w.drewN nq).heap.size from hb)]; exact hf))
  go_end0
  refine ⟨rfl, g, cap, w4, hown4, ?_, ?_, hlt4, rfl⟩
  · exact (((Keeps.refl _ w).drewN nq).alloc _).grown hgrow4 (fun k _ e => e)
  · rcases hat4 with h | h
    · exact .inl h
    · exact .inr (by subst h; simp)

theorem rput_ok {w : World} {b : Nat} {v : Value} {s : ByteArray} {most : Nat} {L : Bts} {xs : List Nat} (h : FS w b v s most L xs 0) (c : Nat) (hc : c < 256) (hl : xs.length ≠ most) :
    Calls Tryz.prog 106 #[.pointer (some ⟨b, 0, none⟩), .int .u8 (c : Int)] w fun e w' => e = .returned (.tuple #[]) ∧ ∃ v', FS w' b v' s most L (xs ++ [c]) 0 ∧ FAdv w w' b v v' := by
  obtain ⟨a, cap0, rfl⟩ := h.own.form
  have hlim := h.lim
  have hm := h.most
  obtain ⟨c2, c3, c4, cf, p0, c1⟩ := h.cell
  refine (rput_run b c xs.length cap0 most a (xs.map byteV) (by omega) (by omega) h.lt c2 c3 c4 (cf 2) h.own).mono ?_
  rintro e w' ⟨rfl, g, cap, w1, ho, hk, hg, hglt, rfl⟩
  refine ⟨rfl, .slice (some ⟨g, 0, none⟩) (xs.length + 1) cap, ?_⟩
  have hgb : b < g := by
    rcases hg with hg | hg
    · exact (h.ownlt g hg).1
    · have := h.lt; omega
  have hk2 : Keeps (Own2 b (.slice a xs.length cap0)) w (w1.setCell ⟨b, 2, none⟩ (.slice (some ⟨g, 0, none⟩) (xs.length + 1) cap)) := (hk.mono (S' := Own2 b (.slice a xs.length cap0)) (fun _ _ e => Or.inr e)).setCell (p := ⟨b, 2, none⟩) (fun _ => Or.inl rfl) _
  have ha : FAdv w (w1.setCell ⟨b, 2, none⟩ (.slice (some ⟨g, 0, none⟩) (xs.length + 1) cap)) b (.slice a xs.length cap0) (.slice (some ⟨g, 0, none⟩) (xs.length + 1) cap) := by
    refine ⟨hk2, ?_⟩
    rcases hg with hg | hg
    · exact .inl hg.symm
    · exact .inr ⟨g, rfl, hg⟩
  obtain ⟨p, p1, p2, p3⟩ := h.fl
  have hb1 : w1.heap[b]? = some (.cells #[.string s, .int .i64 (p : Int), .slice a xs.length cap0, .int .i64 (most : Int), .int .i64 0] 115 (0, 0)) := (hk.block b h.lt (fun e => by have := (h.ownlt b e).1; omega)).trans p1
  refine ⟨⟨⟨p, ?_, p2, p3⟩, ?_, h.sz, by rw [List.length_append]; simp; omega, h.most, fun x hx => by
    rcases List.mem_append.1 hx with hx | hx
    · exact h.byt x hx
    · rw [List.mem_singleton] at hx; omega⟩, ha⟩
  · unfold Fl; rw [heap_setCell_same hb1]; rfl
  · have := owns_far ho (p := ⟨b, 2, none⟩) (by simp [Value.ownBlock]; omega) (.slice (some ⟨g, 0, none⟩) (xs.length + 1) cap)
    unfold OwnB
    rw [List.map_append, List.length_append]
    exact this

/-- What a call on a flow leaves: it went well, or the error stands. -/
def FPost (R : Rs) (w : World) (b : Nat) (v : Value) (s : ByteArray) (most : Nat) (w' : World) : Prop :=
  (∀ x, R = .error x → ∃ v' L' o', FS w' b v' s most L' o' x ∧ FAdv w w' b v v') ∧ ∀ L' o', R = .ok (L', o') → ∃ v', FS w' b v' s most L' o' 0 ∧ FAdv w w' b v v'
theorem FPost.bad {x : Int} {w w' : World} {b : Nat} {v v' : Value} {s : ByteArray} {most : Nat} {L' : Bts} {o' : List Nat} (h : FS w' b v' s most L' o' x) (k : FAdv w w' b v v') : FPost (.error x) w b v s most w' :=
  ⟨fun y e => by cases e; exact ⟨v', L', o', h, k⟩, fun _ _ e => by cases e⟩
theorem FPost.good {w w' : World} {b : Nat} {v v' : Value} {s : ByteArray} {most : Nat} {L' : Bts} {o' : List Nat} (h : FS w' b v' s most L' o' 0) (k : FAdv w w' b v v') : FPost (.ok (L', o')) w b v s most w' :=
  ⟨fun y e => by (cases e), fun _ _ e => by cases e; exact ⟨v', h, k⟩⟩
theorem FPost.trans {R : Rs} {w w2 w' : World} {b : Nat} {v v2 : Value} {s : ByteArray} {most : Nat} (ha : FAdv w w2 b v v2) (h : FPost R w2 b v2 s most w') : FPost R w b v s most w' :=
  ⟨fun x hx => by obtain ⟨v', L', o', h1, h2⟩ := h.1 x hx; exact ⟨v', L', o', h1, ha.trans h2⟩, fun L' o' hs => by obtain ⟨v', h1, h2⟩ := h.2 L' o' hs; exact ⟨v', h1, ha.trans h2⟩⟩
theorem rput_rs {w : World} {b : Nat} {v : Value} {s : ByteArray} {most : Nat} {L : Bts} {xs : List Nat} (h : FS w b v s most L xs 0) (c : Nat) (hc : c < 256) :
    Calls Tryz.prog 106 #[.pointer (some ⟨b, 0, none⟩), .int .u8 (c : Int)] w fun e w' => e = .returned (.tuple #[]) ∧ FPost (mapE (put1 most c) L xs) w b v s most w' := by
  by_cases hl : xs.length = most
  · have e : mapE (put1 most c) L xs = .error 701 := by simp [mapE, put1, hl]
    rw [e]
    exact (rput_long h c hl).mono (fun e w' ⟨h1, h2, h3⟩ => ⟨h1, FPost.bad h2 (FAdv.ofB v h3)⟩)
  · have e : mapE (put1 most c) L xs = .ok (L, xs ++ [c]) := by simp [mapE, put1, hl]
    rw [e]
    exact (rput_ok h c hc hl).mono (fun e w' ⟨h1, v', h2, h3⟩ => ⟨h1, FPost.good h2 h3⟩)

end Go.Proofs.YtebjooebdehlnaaGreat

namespace Go.Proofs.YtebjooebdehlnaaGreat
open Go.RowKit
open Hf Tb
set_option linter.unusedVariables false
set_option linter.unusedSimpArgs false

/-! ### The symbols in the row of their codes -/
def symsTo (ys : List Int) : Nat → List Nat
  | 0 => []
  | k + 1 => symsTo ys k ++ (if k = 0 then [] else symF (k : Int) ys 0)
def mkM (ys : List Int) (k i : Nat) : Nat → Nat := fun j => if j = 0 then 0 else if j < k then cnt ys j else if j = k then cnt (ys.take i) k else 0
def mkS (ys : List Int) (k i : Nat) : List Nat := symsTo ys k ++ symF (k : Int) (ys.take i) 0
theorem mkM_hit (ys : List Int) (k i : Nat) (hk : 1 ≤ k) (hi : i < ys.length) (h : at_ ys i = (k : Int)) : ∀ j, upd (mkM ys k i) k (mkM ys k i k + 1) j = mkM ys k (i + 1) j := by
  intro j
  unfold upd mkM
  by_cases e : j = k
  · subst e
    rw [if_pos rfl, if_neg (by omega), if_neg (by omega), if_pos rfl, if_neg (by omega), if_neg (by omega), if_pos rfl, take_snoc ys i hi, cnt_snoc]
    rw [at_eq i hi] at h
    rw [if_pos h]
  · rw [if_neg e]
    by_cases e0 : j = 0
    · rw [if_pos e0, if_pos e0]
    · rw [if_neg e0, if_neg e0]
      by_cases e1 : j < k
      · rw [if_pos e1, if_pos e1]
      · rw [if_neg e1, if_neg e1, if_neg e, if_neg e]
theorem mkM_miss (ys : List Int) (k i : Nat) (hi : i < ys.length) (h : at_ ys i ≠ (k : Int)) : ∀ j, mkM ys k i j = mkM ys k (i + 1) j := by
  intro j
  unfold mkM
  rw [take_snoc ys i hi, cnt_snoc]
  rw [at_eq i hi] at h
  rw [if_neg h, Nat.add_zero]
theorem mkS_hit (ys : List Int) (k i : Nat) (hi : i < ys.length) (h : at_ ys i = (k : Int)) : mkS ys k (i + 1) = mkS ys k i ++ [i] := by
  unfold mkS
  rw [at_eq i hi] at h
  rw [take_snoc ys i hi, symF_snoc, if_pos h, Nat.zero_add, List.length_take, Nat.min_eq_left (by omega), List.append_assoc]
theorem mkS_miss (ys : List Int) (k i : Nat) (hi : i < ys.length) (h : at_ ys i ≠ (k : Int)) : mkS ys k (i + 1) = mkS ys k i := by
  unfold mkS
  rw [at_eq i hi] at h
  rw [take_snoc ys i hi, symF_snoc, if_neg h, List.append_nil]
theorem mkM_turn (ys : List Int) (k : Nat) (hk : 1 ≤ k) : ∀ j, mkM ys k ys.length j = mkM ys (k + 1) 0 j := by
  intro j
  unfold mkM
  rw [List.take_length, List.take_zero]
  by_cases e0 : j = 0
  · rw [if_pos e0, if_pos e0]
  · rw [if_neg e0, if_neg e0]
    by_cases e1 : j < k
    · rw [if_pos e1, if_pos (by omega)]
    · rw [if_neg e1]
      by_cases e2 : j = k
      · subst e2; rw [if_pos rfl, if_pos (by omega)]
      · rw [if_neg e2, if_neg (by omega)]
        by_cases e3 : j = k + 1
        · rw [if_pos e3]; simp [cnt]
        · rw [if_neg e3]
theorem mkS_turn (ys : List Int) (k : Nat) (hk : 1 ≤ k) : mkS ys k ys.length = mkS ys (k + 1) 0 := by
  unfold mkS
  rw [List.take_length, List.take_zero, symsTo, if_neg (by omega)]
  simp [symF]
theorem symsTo_length (ys : List Int) : ∀ k, (symsTo ys k).length ≤ k * ys.length
  | 0 => by simp [symsTo]
  | k + 1 => by
    have h := symsTo_length ys k
    rw [symsTo, List.length_append, Nat.add_mul]
    split
    · simp; omega
    · rw [symF_length]; have := cnt_le ys k; omega
theorem mkS_length (ys : List Int) (k i : Nat) (hk : k ≤ 16) (hl : ys.length ≤ 288) : (mkS ys k i).length ≤ 5000 := by
  unfold mkS
  rw [List.length_append, symF_length]
  have h1 := symsTo_length ys k
  have h2 := cnt_le (ys.take i) k
  rw [List.length_take] at h2
  have h3 : k * ys.length ≤ 16 * 288 := Nat.mul_le_mul hk hl
  omega

/-! ### A book's block -/
def rcells (M : Nat → Nat) (u : Value) : List Value := (List.range 16).map (fun i => .int .i64 (M i : Int)) ++ [u]
theorem rcells_lo (M : Nat → Nat) (u : Value) (k : Nat) (h : k < 16) : (rcells M u)[k]? = some (.int .i64 (M k : Int)) := by
  unfold rcells
  rw [List.getElem?_append_left (by simpa using h), List.getElem?_map, List.getElem?_range h]; rfl
theorem rcells_hi (M : Nat → Nat) (u : Value) : (rcells M u)[16]? = some u := by
  unfold rcells
  rw [List.getElem?_append_right (by simp)]; simp
theorem rcells_sz (M : Nat → Nat) (u : Value) : (rcells M u).toArray.size = 17 := by simp [rcells]
def Rb (w : World) (q : Nat) (M : Nat → Nat) (u : Value) : Prop := w.heap[q]? = some (.cells (rcells M u).toArray 151 (0, 0))
theorem Rb.lt {w : World} {q : Nat} {M : Nat → Nat} {u : Value} (h : Rb w q M u) : q < w.heap.size := lt_of_heap h
theorem Rb.lo {w : World} {q : Nat} {M : Nat → Nat} {u : Value} (h : Rb w q M u) (k : Nat) (hk : k < 16) : w.cell? ⟨q, k, none⟩ = some (.int .i64 (M k : Int)) :=
  cell_of_heap h (by rw [List.getElem?_toArray]; exact rcells_lo M u k hk)
theorem Rb.hi {w : World} {q : Nat} {M : Nat → Nat} {u : Value} (h : Rb w q M u) : w.cell? ⟨q, 16, none⟩ = some u :=
  cell_of_heap h (by rw [List.getElem?_toArray]; exact rcells_hi M u)
theorem Rb.free {w : World} {q : Nat} {M : Nat → Nat} {u : Value} (h : Rb w q M u) (k : Nat) : w.frozen? ⟨q, k, none⟩ = false := frozen_of_heap h
theorem Rb.kept {S : Nat → Prop} {w w' : World} {q : Nat} {M : Nat → Nat} {u : Value} (h : Rb w q M u) (hk : Keeps S w w') (hf : ¬ S q) : Rb w' q M u := (hk.block q h.lt hf).trans h
theorem rcells_ext (M : Nat → Nat) (u : Value) (cs : Array Value) (hz : cs.size = 17) (h1 : ∀ k, k < 16 → cs[k]? = some (.int .i64 (M k : Int))) (h2 : cs[16]? = some u) : cs = (rcells M u).toArray := by
  apply Array.ext_getElem?
  intro i
  by_cases hi : i < 16
  · rw [h1 i hi, List.getElem?_toArray, rcells_lo M u i hi]
  · by_cases hi2 : i = 16
    · subst hi2; rw [h2, List.getElem?_toArray, rcells_hi]
    · rw [Array.getElem?_eq_none (by omega), List.getElem?_toArray, List.getElem?_eq_none (by simp [rcells]; omega)]
theorem Rb.congr {w : World} {q : Nat} {M M' : Nat → Nat} {u : Value} (h : Rb w q M u) (e : ∀ i, M i = M' i) : Rb w q M' u := by
  have : M = M' := funext e
  rw [← this]; exact h
theorem Rb.setLo {w : World} {q : Nat} {M : Nat → Nat} {u : Value} (h : Rb w q M u) (c x : Nat) (hc : c < 16) : Rb (w.setCell ⟨q, c, none⟩ (.int .i64 (x : Int))) q (upd M c x) u := by
  unfold Rb
  rw [heap_setCell_same h]
  congr 2
  refine rcells_ext _ _ _ (by rw [Array.size_setIfInBounds, rcells_sz]) (fun k hk => ?_) ?_
  · rw [Array.getElem?_setIfInBounds, List.getElem?_toArray, rcells_lo M u k hk, rcells_sz]
    unfold upd
    by_cases e : c = k
    · subst e; simp; omega
    · rw [if_neg e, if_neg (fun x => e x.symm)]
  · rw [Array.getElem?_setIfInBounds, if_neg (by omega), List.getElem?_toArray, rcells_hi]
theorem Rb.setHi {w : World} {q : Nat} {M : Nat → Nat} {u : Value} (h : Rb w q M u) (x : Value) : Rb (w.setCell ⟨q, 16, none⟩ x) q M x := by
  unfold Rb
  rw [heap_setCell_same h]
  congr 2
/-- One number behind the others. -/
theorem wpList_nat {ops : Array Oper} {rest : List Oper} {o : Oper} {a : Act} {w : World} {Q : Exit → Act → World → Prop} (hgd : o.guard = none) (s x : Operand) (ho : o.op = .call { callee := .builtin .append, args := #[s, x], argTypes := #[40, 40] })
    (base : Nat) (v : Value) (n : Nat) (xs : List Value) (hs : a.eval s = v) (hown : w.ownsRow base 3 1 v n xs) (q : Nat) (c : Int) (hx : a.eval x = .slice (some ⟨q, 0, none⟩) 1 1) (hR : w.heap[q]? = some (.cells #[.int .i64 c] 3 (0, 0))) (hb : base ≤ w.heap.size) (hn : n ≤ 1000000)
    (h : ∀ g cap w', w'.ownsRow base 3 1 (.slice (some ⟨g, 0, none⟩) (n + 1) cap) (n + 1) (xs ++ [.int .i64 c]) → w.grownBy w' v.ownBlock → (v.ownBlock = some g ∨ g = w.heap.size) → g < w'.heap.size → wpList Tryz.prog ops Q rest (a.put o.dst (.slice (some ⟨g, 0, none⟩) (n + 1) cap)) w') : wpList Tryz.prog ops Q (o :: rest) a w := by
  obtain ⟨i0, hi, hz0, hz1, hz2⟩ := info_parts info3
  exact wpList_append_lies w hgd s x _ ho base 3 i0 _ 1 8 Tryz.underlying40 hi hz0 hz1 hz2 rfl (by omega) v n xs hs hown ⟨q, 0, none⟩ 1 1 [.int .i64 c] hx rfl (World.news_of_block (cs := #[.int .i64 c]) hR) (by simp [Value.oneCell']) (by omega) (by unfold maxLen; omega) (by omega) hb _ rfl h

/-- A book that is being made. -/
def Rk (w : World) (q : Nat) (ys : List Int) (k i : Nat) : Prop := ∃ u, Rb w q (mkM ys k i) u ∧ w.ownsRow (q + 1) 3 1 u (mkS ys k i).length (natsV (mkS ys k i))
theorem Rk.congr {w : World} {q : Nat} {ys : List Int} {k i k' i' : Nat} (h : Rk w q ys k i) (h1 : ∀ j, mkM ys k i j = mkM ys k' i' j) (h2 : mkS ys k i = mkS ys k' i') : Rk w q ys k' i' := by
  obtain ⟨u, a, b⟩ := h
  exact ⟨u, a.congr h1, by rw [← h2]; exact b⟩
/-- A book of lengths: all that it reaches lies in [lo, hi). -/
def RBk (w : World) (lo hi q : Nat) (ys : List Int) : Prop :=
  lo ≤ q ∧ q < hi ∧ hi ≤ w.heap.size ∧ (∀ k, k < 16 → w.cell? ⟨q, k, none⟩ = some (.int .i64 (cn ys k : Int))) ∧ ∃ a cap, w.cell? ⟨q, 16, none⟩ = some (.slice a (symsTo ys 16).length cap) ∧
    ∀ j (h : j < (symsTo ys 16).length), ∃ g, a = some ⟨g, 0, none⟩ ∧ lo ≤ g ∧ g < hi ∧ w.cell? ⟨g, j, none⟩ = some (.int .i64 (((symsTo ys 16)[j] : Nat) : Int))
theorem RBk.kept {S : Nat → Prop} {w w' : World} {lo hi q : Nat} {ys : List Int} (h : RBk w lo hi q ys) (hk : Keeps S w w') (hS : ∀ k, lo ≤ k → k < hi → ¬ S k) : RBk w' lo hi q ys := by
  obtain ⟨h1, h2, h3, h4, a, cap, h5, h6⟩ := h
  refine ⟨h1, h2, Nat.le_trans h3 hk.size, fun k hk1 => ?_, a, cap, ?_, fun j hj => ?_⟩
  · rw [World.cell?_of_block (hk.block q (by omega) (hS q h1 h2))]; exact h4 k hk1
  · rw [World.cell?_of_block (hk.block q (by omega) (hS q h1 h2))]; exact h5
  · obtain ⟨g, e, g1, g2, g3⟩ := h6 j hj
    exact ⟨g, e, g1, g2, by rw [World.cell?_of_block (hk.block g (by omega) (hS g g1 g2))]; exact g3⟩
theorem Rk.book {w : World} {q : Nat} {ys : List Int} (h : Rk w q ys 16 0) (lo : Nat) (hlo : lo ≤ q) : RBk w lo w.heap.size q ys := by
  obtain ⟨u, h1, h2⟩ := h
  have e : mkS ys 16 0 = symsTo ys 16 := by unfold mkS; simp [symF]
  rw [e] at h2
  obtain ⟨a, cap, hv⟩ := form_of h2
  refine ⟨hlo, h1.lt, Nat.le_refl _, fun k hk => ?_, a, cap, by rw [h1.hi, hv], fun j hj => ?_⟩
  · rw [h1.lo k hk]
    congr 2
    unfold mkM cn
    by_cases e0 : k = 0
    · rw [if_pos e0, if_pos e0]
    · rw [if_neg e0, if_neg e0, if_pos hk]
  · obtain ⟨g, cap', e2, hg1, hg2⟩ := World.ownsRow.form h2 (by omega)
    rw [hv] at e2
    cases e2
    rw [hv] at h2
    exact ⟨g, rfl, by omega, hg2, (owns_cell h2 j _ (by simp [natsV, List.getElem?_map, List.getElem?_eq_getElem hj])).1⟩

set_option maxHeartbeats 8000000 in
set_option maxRecDepth 1000000 in
theorem rbookOf_ok (a : Option Addr) (ys : List Int) (cap : Nat) (w : World) (hR : Row w a ys) (hl : ys.length ≤ 288) (hl1 : 1 ≤ ys.length) :
    Calls Tryz.prog 65 #[.slice a ys.length cap] w fun e w' => ∃ q, e = .returned (.pointer (some ⟨q, 0, none⟩)) ∧ Keeps (fun _ => False) w w' ∧ RBk w' w.heap.size w'.heap.size q ys := by
  obtain ⟨g, off, rfl, hg, hc⟩ := hR.spot (by omega)
  have HC : Hid (∀ w', Keeps (fun _ => False) w w' → ∀ i, i < ys.length → w'.cell? ⟨g, off + i, none⟩ = some (.int .i64 (at_ ys i))) := fun w' hk i hi => by
    rw [World.cell?_of_block (hk.block g hg (fun h => h)), at_eq i hi]; exact hc i hi
  obtain ⟨N, hN⟩ : ∃ N, ys.length = N := ⟨_, rfl⟩
  have HN : Hid (ys.length = N) := hN
  rw [hN] at hl hl1 ⊢
  clear hR hc hN
  go_enter Tryz.func65, Tryz.ntmps65
  go_wp2
  generalize hw2 : World.alloc _ _ = w2
  obtain ⟨q, hq⟩ : ∃ q, w.heap.size = q := ⟨_, rfl⟩
  rw [hq]
  have H2 : Hid (Rk w2 q ys 1 0 ∧ Keeps (fun _ => False) w w2 ∧ w.heap.size ≤ q) := by
    refine ⟨⟨.slice none 0 0, ?_, ?_⟩, by rw [← hw2]; exact (Keeps.refl _ w).alloc _, by omega⟩
    · have : Rb w2 q (fun _ => 0) (.slice none 0 0) := by unfold Rb; rw [← hw2, ← hq, heap_alloc_new]; rfl
      refine this.congr (fun i => ?_)
      unfold mkM
      split
      · rfl
      · split
        · omega
        · split
          · simp [cnt]
          · rfl
    · have e : mkS ys 1 0 = [] := by unfold mkS; simp [symsTo, symF]
      rw [e]; exact World.ownsRow_nil w2 (q + 1) 3 1
  clear hw2 hq
  go_loopw [4] (fun s4 w' => ∃ k : Nat, 1 ≤ k ∧ k ≤ 16 ∧ s4 = .int .i64 (k : Int) ∧ Hid (Rk w' q ys k 0 ∧ Keeps (fun _ => False) w w' ∧ w.heap.size ≤ q)) (fun s4 _ => (16 - intOf s4).toNat)
  case atStart => exact ⟨1, by omega, by omega, rfl, H2⟩
  case round =>
    clear H2
    obtain ⟨k, hk1, hk2, rfl, HW⟩ := hrel
    by_cases h16 : k < 16
    · have hkz : (k : Int) ≤ 15 := by omega
      have hkz1 : (1 : Int) ≤ (k : Int) := by omega
      have hk16 : (k : Int) < 16 := by omega
      go_wp2
      go_loopw [5] (fun s5 w' => ∃ i : Nat, i ≤ N ∧ s5 = .int .i64 (i : Int) ∧ Hid (Rk w' q ys k i ∧ Keeps (fun _ => False) w w' ∧ w.heap.size ≤ q)) (fun s5 _ => ((N : Int) - intOf s5).toNat)
      case atStart => exact ⟨0, by omega, rfl, HW⟩
      case round =>
        clear HW
        obtain ⟨i, hi, rfl, HW⟩ := hrel
        by_cases hiN : i < N
        · have hiz : (i : Int) < (N : Int) := by omega
          have hcell := HC.out wr HW.out.2.1 i (by rw [HN.out]; exact hiN)
          by_cases hhit : at_ ys i = (k : Int)
          · rw [hhit] at hcell
            obtain ⟨u, hRb, hOw⟩ := HW.out.1
            obtain ⟨ad, cap1, hu⟩ := form_of hOw
            obtain ⟨n, hn⟩ : ∃ n, (mkS ys k i).length = n := ⟨_, rfl⟩
            have hn5 : n ≤ 5000 := by rw [← hn]; exact mkS_length ys k i hk2 (by rw [HN.out]; exact hl)
            rw [hn] at hu hOw
            subst hu
            obtain ⟨m, hm⟩ : ∃ m, mkM ys k i k = m := ⟨_, rfl⟩
            have hm3 : m ≤ 288 := by
              rw [← hm]; unfold mkM; rw [if_neg (by omega), if_neg (by omega), if_pos rfl]
              have := cnt_le (ys.take i) k; rw [List.length_take, HN.out] at this; omega
            have d1 := hRb.lo k h16
            rw [hm] at d1
            have d2 := hRb.free k
            have d3 := hRb.hi
            have d4 := hRb.free 16
            have hqlt := hRb.lt
            have HS : Hid (Rb wr q (mkM ys k i) (.slice ad n cap1) ∧ wr.ownsRow (q + 1) 3 1 (.slice ad n cap1) n (natsV (mkS ys k i)) ∧ mkM ys k i k = m ∧ at_ ys i = (k : Int) ∧ (mkS ys k i).length = n) := ⟨hRb, hOw, hm, hhit, hn⟩
            have HK : Hid (Keeps (fun _ => False) w wr ∧ w.heap.size ≤ q) := HW.out.2
            clear HW hRb hOw hm hhit hn
            go_wp2
            go_region
            obtain ⟨w5, hw5⟩ : ∃ w5, (wr.setCell ⟨q, k, none⟩ (.int .i64 ((m : Int) + 1))).drew = w5 := ⟨_, rfl⟩
            rw [hw5]
            have H5 : Hid (Rb w5 q (upd (mkM ys k i) k (m + 1)) (.slice ad n cap1) ∧ w5.ownsRow (q + 1) 3 1 (.slice ad n cap1) n (natsV (mkS ys k i)) ∧ Keeps (fun x => x = q) wr w5) := by
              rw [← hw5]
              have e : ((m : Int) + 1) = ((m + 1 : Nat) : Int) := by push_cast; rfl
              rw [e]
              refine ⟨HS.out.1.setLo k (m + 1) h16, owns_far HS.out.2.1 (p := ⟨q, k, none⟩) (fun e => by have := (World.ownsRow.lt HS.out.2.1 q e).1; omega) _, ?_⟩
              exact ((Keeps.refl (fun x => x = q) wr).setCell (p := ⟨q, k, none⟩) (fun _ => rfl) _).drew
            have d3' := H5.out.1.hi
            have d4' := H5.out.1.free 16
            have hq5 := H5.out.1.lt
            have hne : some q ≠ (Value.slice ad n cap1).ownBlock := fun e => by have := (World.ownsRow.lt H5.out.2.1 q e.symm).1; omega
            clear hw5 d1 d2 d3 d4 hqlt hcell
            go_wp2_with (refine wpList_nat rfl _ _ rfl (q + 1) (.slice ad n cap1) n (natsV (mkS ys k i)) rfl (H5.out.2.1.alloc _) w5.heap.size (i : Int) rfl (heap_alloc_new w5 _) (by simp; omega) (by omega) ?_; intro g4 cap4 w6 hown4 hgrow4 hat4 hlt4; have k4 : w6.cell? ⟨q, 16, none⟩ = some (.slice ad n cap1) := (hgrow4.cell_far ⟨q, 16, none⟩ (by simp; omega) hne).trans (by rw [World.cell?_alloc_past _ _ _ hq5]; exact d3'); have e4 : w6.frozen? ⟨q, 16, none⟩ = false := (hgrow4.frozen_far ⟨q, 16, none⟩ (by simp; omega) hne).trans (by rw [World.frozen?_alloc_past _ _ _ hq5]; exact d4'))
            go_roundw
            case rel =>
              refine ⟨i + 1, by omega, by push_cast; rfl, ?_⟩
              have kk : Keeps (fun x => (Value.slice ad n cap1).ownBlock = some x) w5 w6 := (((Keeps.refl _ w5).alloc _)).grown hgrow4 (fun x _ e => e)
              have hRb6 : Rb w6 q (upd (mkM ys k i) k (m + 1)) (.slice ad n cap1) := H5.out.1.kept kk (fun e => hne e.symm)
              have hg4 : q + 1 ≤ g4 := by
                rcases hat4 with h | h
                · exact (World.ownsRow.lt H5.out.2.1 g4 h).1
                · simp at h; omega
              have hkw5 : Keeps (fun _ => False) w w5 := HK.out.1.trans H5.out.2.2 (fun x hx e => by have := HK.out.2; omega)
              have hk2 : Keeps (fun _ => False) w w6 := hkw5.trans kk (fun x hx e => by have := (World.ownsRow.lt H5.out.2.1 x e).1; have := HK.out.2; omega)
              refine ⟨⟨.slice (some ⟨g4, 0, none⟩) (n + 1) cap4, ?_, ?_⟩, hk2.setCell (p := ⟨q, 16, none⟩) (fun hx => by have := HK.out.2; simp only at hx; omega) _, HK.out.2⟩
              · refine (hRb6.setHi _).congr ?_
                have := mkM_hit ys k i hk1 (by rw [HN.out]; exact hiN) HS.out.2.2.2.1
                rw [HS.out.2.2.1] at this; exact this
              · have h7 := owns_far hown4 (p := ⟨q, 16, none⟩) (by simp [Value.ownBlock]; omega) (.slice (some ⟨g4, 0, none⟩) (n + 1) cap4)
                rw [mkS_hit ys k i (by rw [HN.out]; exact hiN) HS.out.2.2.2.1, List.length_append, HS.out.2.2.2.2]
                simpa [natsV] using h7
            case measure => simp [intOf]; omega
          · have hmz : (at_ ys i == (k : Int)) = false := by simp; exact hhit
            have hmz2 : ¬ (at_ ys i = (k : Int)) := hhit
            have HH : Hid (Rk wr q ys k (i + 1)) := HW.out.1.congr (mkM_miss ys k i (by rw [HN.out]; exact hiN) hhit) (mkS_miss ys k i (by rw [HN.out]; exact hiN) hhit).symm
            clear hhit
            generalize at_ ys i = t at *
            go_wp2
            go_roundw
            case rel =>
              exact ⟨i + 1, by omega, by push_cast; rfl, HH.out, HW.out.2⟩
            case measure => simp [intOf]; omega
        · obtain rfl : i = N := by omega
          go_wp2
          go_roundw
          case rel =>
            refine ⟨k + 1, by omega, by omega, by push_cast; rfl, ?_, HW.out.2⟩
            have h8 := HW.out.1
            rw [← HN.out] at h8
            exact h8.congr (mkM_turn ys k hk1) (mkS_turn ys k hk1)
          case measure => simp [intOf]; omega
    · obtain rfl : k = 16 := by omega
      go_wp2
      go_ret
      exact ⟨q, rfl, HW.out.2.1, HW.out.1.book _ HW.out.2.2⟩

end Go.Proofs.YtebjooebdehlnaaGreat

namespace Go.Proofs.YtebjooebdehlnaaGreat
open Go.RowKit
open Hf Tb
set_option linter.unusedVariables false
set_option linter.unusedSimpArgs false

theorem symsTo_split (ys : List Int) (k : Nat) (hk : 1 ≤ k) : ∀ m, k + 1 ≤ m → ∃ r, symsTo ys m = symsTo ys k ++ symF (k : Int) ys 0 ++ r
  | 0, h => by omega
  | m + 1, h => by
    by_cases e : m = k
    · subst e; exact ⟨[], by rw [symsTo, if_neg (by omega), List.append_nil]⟩
    · obtain ⟨r, hr⟩ := symsTo_split ys k hk m (by omega)
      exact ⟨r ++ (if m = 0 then [] else symF (m : Int) ys 0), by rw [symsTo, hr, List.append_assoc]⟩
theorem symsTo_at (ys : List Int) (k j : Nat) (hk : 1 ≤ k) (hk2 : k ≤ 15) (hj : j < (symF (k : Int) ys 0).length) : ∃ h : (symsTo ys k).length + j < (symsTo ys 16).length, (symsTo ys 16)[(symsTo ys k).length + j] = (symF (k : Int) ys 0)[j] := by
  obtain ⟨r, hr⟩ := symsTo_split ys k hk 16 (by omega)
  have hl : (symsTo ys k).length + j < (symsTo ys 16).length := by rw [hr, List.length_append, List.length_append]; omega
  refine ⟨hl, ?_⟩
  have e : (symsTo ys 16)[(symsTo ys k).length + j]? = some (symF (k : Int) ys 0)[j] := by
    rw [hr, List.getElem?_append_left (by rw [List.length_append]; omega), List.getElem?_append_right (by omega), Nat.add_sub_cancel_left, List.getElem?_eq_getElem hj]
  rw [List.getElem?_eq_getElem hl] at e
  exact Option.some.inj e
theorem symsTo_next (ys : List Int) (k : Nat) (hk : 1 ≤ k) : (symsTo ys (k + 1)).length = (symsTo ys k).length + cn ys k := by
  rw [symsTo, if_neg (by omega), List.length_append, symF_length]; unfold cn; rw [if_neg (by omega)]

/-- What the document's symbol leaves. -/
def RSym (R : Option (Nat × Bts)) (w : World) (b : Nat) (v : Value) (s : ByteArray) (most : Nat) (xs : List Nat) (e : Ending) (w' : World) : Prop :=
  (R = none → e = .returned (.int .i64 (-1)) ∧ (∃ L', FS w' b v s most L' xs 700) ∧ Keeps (fun k => k = b) w w') ∧
  ∀ i L', R = some (i, L') → e = .returned (.int .i64 (i : Int)) ∧ FS w' b v s most L' xs 0 ∧ Keeps (fun k => k = b) w w'

set_option maxHeartbeats 4000000 in
set_option maxRecDepth 100000 in
theorem rsymbol_ok {w : World} {b : Nat} {v : Value} {s : ByteArray} {most : Nat} {L : Bts} {xs : List Nat} (h : FS w b v s most L xs 0) {lo hi q : Nat} {ys : List Int} (hB : RBk w lo hi q ys) (ha : b < lo ∨ hi ≤ b) (hl : ys.length ≤ 288) :
    Calls Tryz.prog 107 #[.pointer (some ⟨b, 0, none⟩), .pointer (some ⟨q, 0, none⟩)] w (RSym (symN ys L) w b v s most xs) := by
  obtain ⟨R, hR⟩ : ∃ R, symN ys L = R := ⟨_, rfl⟩
  rw [hR]
  have HB : Hid (∀ w', Keeps (fun k => k = b) w w' → RBk w' lo hi q ys) := fun w' k => hB.kept k (fun k h1 h2 e => by omega)
  have H0 : Hid (symN ys L = R ∧ FS w b v s most L xs 0 ∧ ys.length ≤ 288) := ⟨hR, h, hl⟩
  clear h hB ha hR hl
  go_enter Tryz.func107, Tryz.ntmps107
  go_wp2
  go_loopw [5, 6, 7, 8] (fun s5 s6 s7 s8 w' => ∃ (k x f t : Nat) (L1 : Bts), 1 ≤ k ∧ k ≤ 16 ∧ s8 = .int .i64 (k : Int) ∧ s5 = .int .i64 ((2 * x : Nat) : Int) ∧ s6 = .int .i64 (f : Int) ∧ s7 = .int .i64 (t : Int) ∧ Hid (x < 2 ^ (k - 1) ∧ f = fstC (cn ys) k ∧ t = (symsTo ys k).length ∧ f ≤ 2 * x ∧ symG ys (16 - k) (k - 1) x L1 = R ∧ FS w' b v s most L1 xs 0 ∧ Keeps (fun k => k = b) w w')) (fun _ _ _ s8 _ => (17 - intOf s8).toNat)
  case atStart => exact ⟨1, 0, 0, 0, L, by omega, by omega, rfl, rfl, rfl, rfl, by simp, by simp [fstC, cn], by simp [symsTo], by omega, H0.out.1, H0.out.2.1, Keeps.refl _ _⟩
  case round =>
    obtain ⟨k, x, f, t, L1, hk1, hk2, rfl, rfl, rfl, rfl, HW⟩ := hrel
    obtain ⟨c2, c3, c4, cf, p0, c1⟩ := HW.out.2.2.2.2.2.1.cell
    clear c2 c3 cf c1
    by_cases h15 : k < 16
    · have hkz : (k : Int) ≤ 15 := by omega
      have hkz0 : (0 : Int) ≤ (k : Int) := by omega
      have hk16 : (k : Int) < 16 := by omega
      have hx : x ≤ 32768 := by
        have h1 := HW.out.1
        have h2 : (2 : Nat) ^ (k - 1) ≤ 2 ^ 15 := Nat.pow_le_pow_right (by decide) (by omega)
        omega
      have hf : f ≤ 65536 := by have := HW.out.2.2.2.1; omega
      have ht : t ≤ 5000 := by
        have h1 := symsTo_length ys k
        have h2 : k * ys.length ≤ 16 * 288 := Nat.mul_le_mul hk2 H0.out.2.2
        rw [HW.out.2.2.1]; omega
      have HE : Hid (symG ys ((15 - k) + 1) (k - 1) x L1 = R) := by
        have := HW.out.2.2.2.2.1
        rw [show 16 - k = (15 - k) + 1 by omega] at this; exact this
      rcases L1 with _ | ⟨bt, L2⟩
      · have hRn : R = none := by rw [← HE.out]; rfl
        subst hRn
        have HC : Hid (Calls Tryz.prog 62 #[.pointer (some ⟨b, 0, none⟩), .int .i64 1] wr fun e w' => e = .returned (.int .i64 0) ∧ FS w' b v s most [] xs 700 ∧ Keeps (fun k => k = b) wr w') := get_bad7 HW.out.2.2.2.2.2.1 1 (by omega) (by simp [getL])
        have hor : bits .or .i64 ((2 * x : Nat) : Int) 0 = ((2 * x : Nat) : Int) := by
          have := i64_or_nat (2 * x) 0 (by omega) (by omega)
          simpa using this
        generalize 2 * x = x2 at *
        go_wp2_with fail
        refine HC.out.mono ?_
        rintro e w2 ⟨rfl, hS2, hk2'⟩
        obtain ⟨c2, c3, c4', cf, p0, c1⟩ := hS2.cell
        have H2 : Hid ((∃ L', FS w2 b v s most L' xs 700) ∧ Keeps (fun k => k = b) w w2) := ⟨⟨_, hS2⟩, HW.out.2.2.2.2.2.2.trans hk2' (fun _ _ e => e)⟩
        clear hS2 hk2' HC c2 c3 cf c1 c4
        go_wp2
        go_ret
        exact ⟨fun _ => ⟨rfl, H2.out⟩, fun _ _ e => by cases e⟩
      · have HC : Hid (Calls Tryz.prog 62 #[.pointer (some ⟨b, 0, none⟩), .int .i64 1] wr fun e w' => e = .returned (.int .i64 ((bt.toNat : Nat) : Int)) ∧ FS w' b v s most L2 xs 0 ∧ Keeps (fun k => k = b) wr w') := get_ok7 HW.out.2.2.2.2.2.1 1 bt.toNat L2 (by omega) (by simp [getL, val])
        have hor : bits .or .i64 ((2 * x : Nat) : Int) ((bt.toNat : Nat) : Int) = ((2 * x + bt.toNat : Nat) : Int) := or_one x bt (by omega)
        have hb1 : bt.toNat ≤ 1 := by cases bt <;> simp
        obtain ⟨y, hy⟩ : ∃ y, 2 * x + bt.toNat = y := ⟨_, rfl⟩
        rw [hy] at hor
        have HY : Hid (2 * x + bt.toNat = y) := hy
        have hy1 : y ≤ 70000 := by omega
        have hfy : f ≤ y := by have := HW.out.2.2.2.1; omega
        clear hy
        obtain ⟨x2, hx2⟩ : ∃ x2, 2 * x = x2 := ⟨_, rfl⟩
        rw [hx2] at hor ⊢
        have HX2 : Hid (2 * x = x2) := hx2
        clear hx2
        obtain ⟨c, hc⟩ : ∃ c, cn ys k = c := ⟨_, rfl⟩
        have hc3 : c ≤ 288 := by rw [← hc]; exact Nat.le_trans (cn_le ys k) H0.out.2.2
        have HCn : Hid (cn ys k = c) := hc
        clear hc
        go_wp2_with fail
        refine HC.out.mono ?_
        rintro e w2 ⟨rfl, hS2, hk2'⟩
        obtain ⟨d2, d3, c4', cf, p0, d1⟩ := hS2.cell
        have H2 : Hid (FS w2 b v s most L2 xs 0 ∧ Keeps (fun k => k = b) w w2) := ⟨hS2, HW.out.2.2.2.2.2.2.trans hk2' (fun _ _ e => e)⟩
        obtain ⟨q1, q2, q3, q4, ad, cap, q5, q6⟩ := HB.out w2 H2.out.2
        have hm := q4 k h15
        rw [HCn.out] at hm
        clear hS2 hk2' HC d2 d3 cf d1 c4 q4
        have hfl : findL ys ((k - 1 + 1 : Nat) : Int) (y : Int) = (symF (k : Int) ys 0)[y - f]? := by
          rw [show k - 1 + 1 = k by omega, findL_eq ys k y hk1 (by omega), ← HW.out.2.1, if_pos hfy]
        have hsl : (symF (k : Int) ys 0).length = c := by rw [symF_length, ← HCn.out]; unfold cn; rw [if_neg (by omega)]
        by_cases hlt : y < f + c
        · obtain ⟨hin, hval⟩ := symsTo_at ys k (y - f) hk1 (by omega) (by omega)
          rw [← HW.out.2.2.1] at hin
          obtain ⟨g, hag, g1, g2, g3⟩ := q6 (t + (y - f)) hin
          have hval2 : (symsTo ys 16)[t + (y - f)] = (symF (k : Int) ys 0)[y - f] := by
            have := HW.out.2.2.1
            subst this; exact hval
          rw [hval2] at g3
          obtain ⟨i, hi⟩ : ∃ i, (symF (k : Int) ys 0)[y - f]'(by omega) = i := ⟨_, rfl⟩
          rw [hi] at g3
          have hRs : R = some (i, L2) := by
            rw [← HE.out, symG, HY.out, hfl, List.getElem?_eq_getElem (by omega), hi]
          subst hRs
          subst hag
          obtain ⟨T, hT⟩ : ∃ T, (symsTo ys 16).length = T := ⟨_, rfl⟩
          rw [hT] at hin q5
          obtain ⟨j, hj⟩ : ∃ j, t + (y - f) = j := ⟨_, rfl⟩
          rw [hj] at hin g3
          have hT5 : T ≤ 5000 := by
            have h1 := symsTo_length ys 16
            have h2 : 16 * ys.length ≤ 16 * 288 := Nat.mul_le_mul_left 16 H0.out.2.2
            omega
          have hz1 : (y : Int) - (c : Int) < (f : Int) := by omega
          have hz2 : (t : Int) + (y : Int) - (f : Int) = (j : Int) := by omega
          have hz3 : (j : Int) < (T : Int) := by omega
          have hz4 : (0 : Int) ≤ (j : Int) := by omega
          clear hfl hsl hval hval2 hi hT hj q6 hin
          go_wp2
          go_ret
          exact ⟨fun e => by (cases e), fun _ _ e => by cases e; exact ⟨rfl, H2.out⟩⟩
        · have hRc : symG ys (15 - k) k y L2 = R := by
            have := HE.out
            rw [symG, HY.out, hfl, List.getElem?_eq_none (by omega), show k - 1 + 1 = k by omega] at this
            exact this
          have HRc : Hid (symG ys (15 - k) k y L2 = R) := hRc
          have hz1 : ¬ (y : Int) - (c : Int) < (f : Int) := by omega
          have hsh1 : IntKind.i64.wrap (((f : Int) + (c : Int)) * 2) = ((2 * (f + c) : Nat) : Int) := by rw [wrap_i64_small _ (by omega) (by omega)]; push_cast; omega
          clear hfl hsl q6 q5 hRc
          go_wp2
          go_roundw
          case rel =>
            refine ⟨k + 1, y, 2 * (f + c), t + c, L2, by omega, by omega, by push_cast; rfl, by push_cast; rw [Int.mul_comm], by push_cast; rw [Int.mul_comm], by push_cast; rfl, ?_, ?_, ?_, ?_, ?_, H2.out.1, H2.out.2⟩
            · have h1 := HW.out.1
              have h2 := HY.out
              rw [show k + 1 - 1 = (k - 1) + 1 by omega, Nat.pow_succ]
              omega
            · rw [fstC, ← HW.out.2.1, HCn.out]; omega
            · rw [symsTo_next ys k hk1, ← HW.out.2.2.1, HCn.out]
            · omega
            · rw [show 16 - (k + 1) = 15 - k by omega, show k + 1 - 1 = k by omega]; exact HRc.out
          case measure => simp [intOf]; omega
    · obtain rfl : k = 16 := by omega
      have hRn : R = none := by rw [← HW.out.2.2.2.2.1]; rfl
      subst hRn
      have HC : Hid (Calls Tryz.prog 67 #[.pointer (some ⟨b, 0, none⟩)] wr fun e w' => e = .returned (.tuple #[]) ∧ FS w' b v s most L1 xs 700 ∧ Keeps (fun k => k = b) wr w') := wrong_ok HW.out.2.2.2.2.2.1
      go_wp2_with fail
      refine HC.out.mono ?_
      rintro e w2 ⟨rfl, hS2, hk2'⟩
      have H2 : Hid ((∃ L', FS w2 b v s most L' xs 700) ∧ Keeps (fun k => k = b) w w2) := ⟨⟨_, hS2⟩, HW.out.2.2.2.2.2.2.trans hk2' (fun _ _ e => e)⟩
      clear hS2 hk2' HC c4
      go_wp2
      go_ret
      exact ⟨fun _ => ⟨rfl, H2.out⟩, fun _ _ e => by cases e⟩

end Go.Proofs.YtebjooebdehlnaaGreat

namespace Go.Proofs.YtebjooebdehlnaaGreat
open Go.RowKit
open Hf Tb
set_option linter.unusedVariables false
set_option linter.unusedSimpArgs false

theorem xor_nat (k m : Nat) (hk : k < 65536) (hm : m < 65536) : bits .xor .i64 (k : Int) (m : Int) = ((k ^^^ m : Nat) : Int) := by
  show IntKind.i64.wrap (((BitVec.ofInt 64 (k : Int) ^^^ BitVec.ofInt 64 (m : Int)).toNat : Nat) : Int) = _
  rw [BitVec.toNat_xor, ofInt64_toNat k (by omega), ofInt64_toNat m (by omega)]
  have : k ^^^ m < 2 ^ 16 := Nat.xor_lt_two_pow (by omega) (by omega)
  exact wrap_i64_small _ (by omega) (by omega)
theorem xor_all (m : Nat) (h : m < 65536) : m ^^^ 65535 = 65535 - m := by
  have h1 := xor_ones m h
  have h2 := xor_nat m 65535 h (by omega)
  rw [show ((65535 : Nat) : Int) = 65535 from rfl] at h2
  rw [h1] at h2
  omega
theorem xor_iff (k m : Nat) (hk : k < 65536) (hm : m < 65536) : (k ^^^ m = 65535) ↔ k + m = 65535 := by
  constructor
  · intro h
    have : m = k ^^^ 65535 := by rw [← h, ← Nat.xor_assoc, Nat.xor_self, Nat.zero_xor]
    rw [xor_all k hk] at this; omega
  · intro h
    have : m = 65535 - k := by omega
    rw [this, ← xor_all k hk, ← Nat.xor_assoc, Nat.xor_self, Nat.zero_xor]
theorem FS.align {w : World} {b : Nat} {v : Value} {s : ByteArray} {most : Nat} {L : Bts} {xs : List Nat} {er : Int} (h : FS w b v s most L xs er) :
    Calls Tryz.prog 105 #[.pointer (some ⟨b, 0, none⟩)] w fun e w' => e = .returned (.tuple #[]) ∧ FS w' b v s most (alignL L) xs er ∧ Keeps (fun k => k = b) w w' := by
  obtain ⟨p, p1, p2, rfl⟩ := h.fl
  refine (rralign_ok b p s w h.sz p2 p1).mono ?_
  rintro e w' ⟨rfl, hr⟩
  have h2 := h.read hr (by omega)
  refine ⟨rfl, ?_, hr.2⟩
  have e : alignL ((bitsL (bytesOf s)).drop p) = (bitsL (bytesOf s)).drop ((p + 7) / 8 * 8) := by
    unfold alignL
    rw [List.drop_drop, List.length_drop, bitsL_length, bytesOf_length]
    congr 1
    omega
  rw [e]
  exact h2

set_option maxHeartbeats 4000000 in
set_option maxRecDepth 100000 in
theorem rstored_ok {w : World} {b : Nat} {v : Value} {s : ByteArray} {most : Nat} {L : Bts} {xs : List Nat} (h : FS w b v s most L xs 0) :
    Calls Tryz.prog 63 #[.pointer (some ⟨b, 0, none⟩)] w fun e w' => e = .returned (.tuple #[]) ∧ FPost (stored most L xs) w b v s most w' := by
  obtain ⟨R, hR⟩ : ∃ R, stored most L xs = R := ⟨_, rfl⟩
  rw [hR]
  unfold stored storedH at hR
  have HR : Hid (thenE (getL 16) (fun k => thenE (getL 16) fun m => if k + m = 65535 then storedB most k else fun _ _ => .error 700) (alignL L) xs = R) := hR
  have HC : Hid (Calls Tryz.prog 105 #[.pointer (some ⟨b, 0, none⟩)] w fun e w' => e = .returned (.tuple #[]) ∧ FS w' b v s most (alignL L) xs 0 ∧ Keeps (fun k => k = b) w w') := h.align
  clear h hR
  go_enter Tryz.func63, Tryz.ntmps63
  go_wp2_with fail
  refine HC.out.mono ?_
  rintro e w1 ⟨rfl, hS1, hA1⟩
  have H1 : Hid (FS w1 b v s most (alignL L) xs 0 ∧ Keeps (fun k => k = b) w w1) := ⟨hS1, hA1⟩
  clear hS1 hA1 HC
  generalize alignL L = L0 at *
  rcases h2 : getL 16 L0 with _ | ⟨k, L2⟩
  · have e : R = .error 700 := by rw [← HR.out, thenE_none h2]
    subst e
    have HC : Hid (Calls Tryz.prog 62 #[.pointer (some ⟨b, 0, none⟩), .int .i64 16] w1 fun e w' => e = .returned (.int .i64 0) ∧ FS w' b v s most L0 xs 700 ∧ Keeps (fun k => k = b) w1 w') := get_bad7 H1.out.1 16 (by omega) h2
    have HG : Hid (getL 16 L0 = none) := h2
    clear h2 HR
    go_wp2_with fail
    refine HC.out.mono ?_
    rintro e w2 ⟨rfl, hS2, hk2⟩
    have HC2 : Hid (Calls Tryz.prog 62 #[.pointer (some ⟨b, 0, none⟩), .int .i64 16] w2 fun e w' => e = .returned (.int .i64 0) ∧ FS w' b v s most L0 xs 700 ∧ Keeps (fun k => k = b) w2 w') := get_off7 hS2 (by decide) 16 (by omega) HG.out
    have H2 : Hid (Keeps (fun k => k = b) w w2) := H1.out.2.trans hk2 (fun _ _ e => e)
    clear hS2 hk2 HC HG
    go_wp2_with fail
    refine HC2.out.mono ?_
    rintro e w3 ⟨rfl, hS3, hk3⟩
    obtain ⟨c2x, c3x, c4x, cfx, p0x, c1x⟩ := hS3.cell
    have HZ : Hid (FS w3 b v s most _ xs 700 ∧ Keeps (fun k => k = b) w w3) := ⟨hS3, H2.out.trans hk3 (fun _ _ e => e)⟩
    have HP : Hid (FPost (.error 700) w b v s most w3) := FPost.bad HZ.out.1 (FAdv.ofB v HZ.out.2)
    clear c2x c3x cfx c1x hS3
    go_wp2
    go_loopw [4] (fun s4 w' => s4 = .int .i64 0 ∧ w' = w3) (fun _ _ => 0)
    case atStart => exact ⟨rfl, rfl⟩
    case round =>
      obtain ⟨rfl, rfl⟩ := hrel
      by_cases hk0x : (0 : Int) < ((0 : Nat) : Int)
      · go_wp2
        go_end0
        exact ⟨rfl, HP.out⟩
      · go_wp2
        go_end0
        exact ⟨rfl, HP.out⟩
  · have HR2 : Hid (thenE (getL 16) (fun m => if k + m = 65535 then storedB most k else fun _ _ => .error 700) L2 xs = R) := (thenE_eq h2).symm.trans HR.out
    have HC : Hid (Calls Tryz.prog 62 #[.pointer (some ⟨b, 0, none⟩), .int .i64 16] w1 fun e w' => e = .returned (.int .i64 (k : Int)) ∧ FS w' b v s most L2 xs 0 ∧ Keeps (fun k => k = b) w1 w') := get_ok7 H1.out.1 16 k L2 (by omega) h2
    have hk16 : k < 65536 := getL_lt h2
    clear h2 HR
    go_wp2_with fail
    refine HC.out.mono ?_
    rintro e w2 ⟨rfl, hS2, hA2⟩
    have H2 : Hid (FS w2 b v s most L2 xs 0 ∧ Keeps (fun k => k = b) w w2) := ⟨hS2, H1.out.2.trans hA2 (fun _ _ e => e)⟩
    clear hS2 hA2 HC H1
    rcases h3 : getL 16 L2 with _ | ⟨m, L3⟩
    · have e : R = .error 700 := by rw [← HR2.out, thenE_none h3]
      subst e
      have HC : Hid (Calls Tryz.prog 62 #[.pointer (some ⟨b, 0, none⟩), .int .i64 16] w2 fun e w' => e = .returned (.int .i64 0) ∧ FS w' b v s most L2 xs 700 ∧ Keeps (fun k => k = b) w2 w') := get_bad7 H2.out.1 16 (by omega) h3
      clear h3 HR2
      go_wp2_with fail
      refine HC.out.mono ?_
      rintro e w3 ⟨rfl, hS3, hk3⟩
      obtain ⟨c2x, c3x, c4x, cfx, p0x, c1x⟩ := hS3.cell
      have HZ : Hid (FS w3 b v s most _ xs 700 ∧ Keeps (fun k => k = b) w w3) := ⟨hS3, H2.out.2.trans hk3 (fun _ _ e => e)⟩
      have HP : Hid (FPost (.error 700) w b v s most w3) := FPost.bad HZ.out.1 (FAdv.ofB v HZ.out.2)
      clear c2x c3x cfx c1x hS3
      go_wp2
      go_loopw [4] (fun s4 w' => s4 = .int .i64 0 ∧ w' = w3) (fun _ _ => 0)
      case atStart => exact ⟨rfl, rfl⟩
      case round =>
        obtain ⟨rfl, rfl⟩ := hrel
        by_cases hk0x : (0 : Int) < ((k : Nat) : Int)
        · go_wp2
          go_end0
          exact ⟨rfl, HP.out⟩
        · go_wp2
          go_end0
          exact ⟨rfl, HP.out⟩
    · have HR3 : Hid ((if k + m = 65535 then storedB most k else fun _ _ => .error 700) L3 xs = R) := (thenE_eq h3).symm.trans HR2.out
      have HC : Hid (Calls Tryz.prog 62 #[.pointer (some ⟨b, 0, none⟩), .int .i64 16] w2 fun e w' => e = .returned (.int .i64 (m : Int)) ∧ FS w' b v s most L3 xs 0 ∧ Keeps (fun k => k = b) w2 w') := get_ok7 H2.out.1 16 m L3 (by omega) h3
      have hm16 : m < 65536 := getL_lt h3
      clear h3 HR2
      have hxo := xor_nat k m hk16 hm16
      have hxi := xor_iff k m hk16 hm16
      go_wp2_with fail
      refine HC.out.mono ?_
      rintro e w3 ⟨rfl, hS3, hA3⟩
      have H3 : Hid (FS w3 b v s most L3 xs 0 ∧ Keeps (fun k => k = b) w w3) := ⟨hS3, H2.out.2.trans hA3 (fun _ _ e => e)⟩
      obtain ⟨c2, c3, c4, cf, p0, c1⟩ := hS3.cell
      clear hS3 hA3 HC H2 c2 c3 cf c1
      by_cases hkm : k + m = 65535
      · have HR4 : Hid (storedB most k L3 xs = R) := by
          have := HR3.out; rw [if_pos hkm] at this; exact this
        have e : k ^^^ m = 65535 := hxi.2 hkm
        rw [e] at hxo
        have hxo' : bits .xor .i64 (k : Int) (m : Int) = 65535 := hxo
        clear e hkm HR3 hm16 hxi hxo
        go_wp2
        clear hxo' c4
        have H4 : Hid (∃ er L1 x1 v1, (er = 0 → storedB most (k - 0) L1 x1 = R) ∧ (er ≠ 0 → R = .error er) ∧ FS w3 b v1 s most L1 x1 er ∧ FAdv w w3 b v v1) := ⟨0, L3, xs, v, fun _ => HR4.out, fun e => absurd rfl e, H3.out.1, FAdv.ofB v H3.out.2⟩
        clear HR4 H3
        go_loopw [4] (fun s4 w' => ∃ j : Nat, j ≤ k ∧ s4 = .int .i64 (j : Int) ∧ Hid (∃ er L1 x1 v1, (er = 0 → storedB most (k - j) L1 x1 = R) ∧ (er ≠ 0 → R = .error er) ∧ FS w' b v1 s most L1 x1 er ∧ FAdv w w' b v v1)) (fun s4 _ => ((k : Int) - intOf s4).toNat)
        case atStart => exact ⟨0, by omega, rfl, H4⟩
        case round =>
          clear H4
          obtain ⟨j, hj, rfl, HW⟩ := hrel
          obtain ⟨er, L5, x5, v5, hE, hEr, hS, hA⟩ := HW.out
          obtain ⟨c2, c3, c4, cf, p0, c1⟩ := hS.cell
          clear c2 c3 cf c1 HW
          by_cases hjk : j < k
          · have hjz : (j : Int) < (k : Int) := by omega
            by_cases her : er = 0
            · subst her
              have HS : Hid (FS wr b v5 s most L5 x5 0 ∧ FAdv w wr b v v5) := ⟨hS, hA⟩
              have HE : Hid (thenE (getL 8) (fun b => seqE (mapE (put1 most b)) (storedB most (k - (j + 1)))) L5 x5 = R) := by
                have := hE rfl; rw [show k - j = (k - (j + 1)) + 1 by omega] at this; exact this
              clear hE hEr hS hA
              rcases h6 : getL 8 L5 with _ | ⟨c, L6⟩
              · have e : R = .error 700 := by rw [← HE.out, thenE_none h6]
                subst e
                have HC : Hid (Calls Tryz.prog 62 #[.pointer (some ⟨b, 0, none⟩), .int .i64 8] wr fun e w' => e = .returned (.int .i64 0) ∧ FS w' b v5 s most L5 x5 700 ∧ Keeps (fun k => k = b) wr w') := get_bad7 HS.out.1 8 (by omega) h6
                clear h6 HE
                go_wp2_with fail
                refine HC.out.mono ?_
                rintro e w6 ⟨rfl, hS6, hk6⟩
                obtain ⟨d2, d3, d4, df, p1, d1⟩ := hS6.cell
                have H6 : Hid (∃ er L1 x1 v1, (er = 0 → storedB most (k - (j + 1)) L1 x1 = (.error 700 : Rs)) ∧ (er ≠ 0 → (.error 700 : Rs) = .error er) ∧ FS w6 b v1 s most L1 x1 er ∧ FAdv w w6 b v v1) := ⟨700, L5, x5, v5, fun e => absurd e (by decide), fun _ => rfl, hS6, HS.out.2.trans (FAdv.ofB v5 hk6)⟩
                clear hS6 hk6 HC d2 d3 df d1 c4
                go_wp2
                go_roundw
                case rel => exact ⟨j + 1, by omega, by push_cast; rfl, H6⟩
                case measure => simp [intOf]; omega
              · have HE2 : Hid (seqE (mapE (put1 most c)) (storedB most (k - (j + 1))) L6 x5 = R) := (thenE_eq h6).symm.trans HE.out
                have HC : Hid (Calls Tryz.prog 62 #[.pointer (some ⟨b, 0, none⟩), .int .i64 8] wr fun e w' => e = .returned (.int .i64 (c : Int)) ∧ FS w' b v5 s most L6 x5 0 ∧ Keeps (fun k => k = b) wr w') := get_ok7 HS.out.1 8 c L6 (by omega) h6
                have hc8 : c < 256 := getL_lt h6
                have hu : IntKind.u8.wrap (c : Int) = (c : Int) := by simp [IntKind.wrap, IntKind.bits, IntKind.signed]; omega
                clear h6 HE
                go_wp2_with fail
                refine HC.out.mono ?_
                rintro e w6 ⟨rfl, hS6, hk6⟩
                obtain ⟨d2, d3, d4, df, p1, d1⟩ := hS6.cell
                have H6 : Hid (FAdv w w6 b v v5) := HS.out.2.trans (FAdv.ofB v5 hk6)
                have HC2 : Hid (Calls Tryz.prog 106 #[.pointer (some ⟨b, 0, none⟩), .int .u8 (c : Int)] w6 fun e w' => e = .returned (.tuple #[]) ∧ FPost (mapE (put1 most c) L6 x5) w6 b v5 s most w') := rput_rs hS6 c hc8
                clear hS6 hk6 HC HS hc8 d2 d3 df d1 c4
                go_wp2_with fail
                refine HC2.out.mono ?_
                rintro e w7 ⟨rfl, hP⟩
                have H7 : Hid (∃ er L1 x1 v1, (er = 0 → storedB most (k - (j + 1)) L1 x1 = R) ∧ (er ≠ 0 → R = .error er) ∧ FS w7 b v1 s most L1 x1 er ∧ FAdv w w7 b v v1) := by
                  rcases h7 : mapE (put1 most c) L6 x5 with er | ⟨L7, x7⟩
                  · obtain ⟨v', L', o', g1, g2⟩ := hP.1 er h7
                    exact ⟨er, L', o', v', fun e => absurd e (mapE_err put1_err h7).ne, fun _ => by rw [← HE2.out, seqE_bad h7], g1, H6.out.trans g2⟩
                  · obtain ⟨v', g1, g2⟩ := hP.2 L7 x7 h7
                    exact ⟨0, L7, x7, v', fun _ => by rw [← HE2.out, seqE_eq h7], fun e => absurd rfl e, g1, H6.out.trans g2⟩
                clear hP HC2 H6 HE2 d4
                go_wp2
                go_roundw
                case rel => exact ⟨j + 1, by omega, by push_cast; rfl, H7⟩
                case measure => simp [intOf]; omega
            · have e := hEr her
              subst e
              have HP : Hid (FPost (.error er) w b v s most wr) := FPost.bad hS hA
              have hb0 : (er == 0) = false := by simp; exact her
              clear hE hEr hS hA
              go_wp2
              go_end0
              exact ⟨rfl, HP.out⟩
          · obtain rfl : j = k := by omega
            have hjz : ¬ (j : Int) < (j : Int) := by omega
            have HP : Hid (FPost R w b v s most wr) := by
              by_cases her : er = 0
              · subst her
                have := hE rfl
                rw [Nat.sub_self] at this
                rw [← this]; exact FPost.good hS hA
              · rw [hEr her]; exact FPost.bad hS hA
            clear hE hEr hS hA
            go_wp2
            go_end0
            exact ⟨rfl, HP.out⟩
      · have e : R = .error 700 := by
          have := HR3.out; rw [if_neg hkm] at this; exact this.symm
        subst e
        have hne0 : k ^^^ m ≠ 65535 := fun e => hkm (hxi.1 e)
        obtain ⟨z, hz⟩ : ∃ z, k ^^^ m = z := ⟨_, rfl⟩
        rw [hz] at hxo hne0
        have hnb : ((z : Int) == 65535) = false := by simp; omega
        have hnb2 : ¬ ((z : Int) = 65535) := by omega
        have HC : Hid (Calls Tryz.prog 67 #[.pointer (some ⟨b, 0, none⟩)] w3 fun e w' => e = .returned (.tuple #[]) ∧ FS w' b v s most L3 xs 700 ∧ Keeps (fun k => k = b) w3 w') := wrong_ok H3.out.1
        clear hkm hxi hz HR3 hne0
        go_wp2_with fail
        refine HC.out.mono ?_
        rintro e w4 ⟨rfl, hS4, hk4⟩
        obtain ⟨c2x, c3x, c4x, cfx, p0x, c1x⟩ := hS4.cell
        have HZ : Hid (FS w4 b v s most _ xs 700 ∧ Keeps (fun k => k = b) w w4) := ⟨hS4, H3.out.2.trans hk4 (fun _ _ e => e)⟩
        have HP : Hid (FPost (.error 700) w b v s most w4) := FPost.bad HZ.out.1 (FAdv.ofB v HZ.out.2)
        clear c2x c3x cfx c1x hS4
        go_wp2
        go_loopw [4] (fun s4 w' => s4 = .int .i64 0 ∧ w' = w4) (fun _ _ => 0)
        case atStart => exact ⟨rfl, rfl⟩
        case round =>
          obtain ⟨rfl, rfl⟩ := hrel
          by_cases hk0x : (0 : Int) < ((k : Nat) : Int)
          · go_wp2
            go_end0
            exact ⟨rfl, HP.out⟩
          · go_wp2
            go_end0
            exact ⟨rfl, HP.out⟩

end Go.Proofs.YtebjooebdehlnaaGreat

namespace Go.Proofs.YtebjooebdehlnaaGreat
open Go.RowKit
open Hf Tb
set_option linter.unusedVariables false
set_option linter.unusedSimpArgs false

theorem FS.left {w : World} {b : Nat} {v : Value} {s : ByteArray} {most : Nat} {L : Bts} {xs : List Nat} {er : Int} (h : FS w b v s most L xs er) : 8 * s.size - posOf w b = L.length := by
  obtain ⟨p, p1, p2, rfl⟩ := h.fl
  have : w.cell? ⟨b, 1, none⟩ = some (.int .i64 (p : Int)) := cell_of_heap p1 rfl
  unfold posOf
  rw [this, List.length_drop, bitsL_length, bytesOf_length]
  simp
/-- How a flow stands that has still R to come to. -/
def Cst (R : Rs) (f : Bts → List Nat → Rs) (w : World) (b : Nat) (v : Value) (s : ByteArray) (most : Nat) (w' : World) (L1 : Bts) : Prop :=
  ∃ er x1 v1, (er = 0 → f L1 x1 = R) ∧ (er ≠ 0 → R = .error er) ∧ FS w' b v1 s most L1 x1 er ∧ FAdv w w' b v v1
theorem lenOf_in (i : Nat) (w : World) (h : 257 ≤ i ∧ i ≤ 285) : Calls Tryz.prog 101 #[.int .i64 (i : Int)] w fun e w' => e = .returned (.tuple #[.int .i64 ((lenF (i - 257)).1 : Int), .int .i64 ((lenF (i - 257)).2 : Int), .int .i64 0]) ∧ w' = w := by
  have := rlengthOf_ok (i : Int) w
  have e : inLS (i : Int) = true := by unfold inLS; simp; omega
  unfold ofL at this
  rw [e, if_pos rfl, show ((i : Int) - 257).toNat = i - 257 by omega] at this
  exact this
theorem lenOf_out (i : Nat) (w : World) (h : ¬ (257 ≤ i ∧ i ≤ 285)) : Calls Tryz.prog 101 #[.int .i64 (i : Int)] w fun e w' => e = .returned (.tuple #[.int .i64 0, .int .i64 0, .int .i64 600]) ∧ w' = w := by
  have := rlengthOf_ok (i : Int) w
  have e : inLS (i : Int) = false := by unfold inLS; simp; omega
  unfold ofL at this
  rw [e] at this
  exact this
theorem dstOf_in (i : Nat) (w : World) (h : i ≤ 29) : Calls Tryz.prog 102 #[.int .i64 (i : Int)] w fun e w' => e = .returned (.tuple #[.int .i64 ((dstF i).1 : Int), .int .i64 ((dstF i).2 : Int), .int .i64 0]) ∧ w' = w := by
  have := rdistOf_ok (i : Int) w
  have e : inDS (i : Int) = true := by unfold inDS; simp; omega
  unfold ofD at this
  rw [e, if_pos rfl, show ((i : Int)).toNat = i by omega] at this
  exact this
theorem dstOf_out (i : Nat) (w : World) (h : ¬ i ≤ 29) : Calls Tryz.prog 102 #[.int .i64 (i : Int)] w fun e w' => e = .returned (.tuple #[.int .i64 0, .int .i64 0, .int .i64 600]) ∧ w' = w := by
  have := rdistOf_ok (i : Int) w
  have e : inDS (i : Int) = false := by unfold inDS; simp; omega
  unfold ofD at this
  rw [e] at this
  exact this

set_option maxHeartbeats 8000000 in
set_option maxRecDepth 1000000 in
theorem rcoded_ok {w : World} {b : Nat} {v : Value} {s : ByteArray} {most : Nat} {L : Bts} {xs : List Nat} (h : FS w b v s most L xs 0) {lo hi q1 q2 : Nat} {ys ds : List Int} (hB1 : RBk w lo hi q1 ys) (hB2 : RBk w lo hi q2 ds) (ha : (b < lo ∨ hi ≤ b) ∧ ∀ k, v.ownBlock = some k → k < lo ∨ hi ≤ k) (hl1 : ys.length ≤ 288) (hl2 : ds.length ≤ 288) :
    Calls Tryz.prog 64 #[.pointer (some ⟨b, 0, none⟩), .pointer (some ⟨q1, 0, none⟩), .pointer (some ⟨q2, 0, none⟩)] w fun e w' => e = .returned (.tuple #[]) ∧ FPost (coded ys ds most L xs) w b v s most w' := by
  obtain ⟨R, hR⟩ : ∃ R, coded ys ds most L xs = R := ⟨_, rfl⟩
  rw [hR]
  have H0 : Hid (∃ L1, Cst R (coded ys ds most) w b v s most w L1) := ⟨L, 0, xs, v, fun _ => hR, fun e => absurd rfl e, h, FAdv.refl _ _ _⟩
  have HB : Hid (∀ w' v', FAdv w w' b v v' → RBk w' lo hi q1 ys ∧ RBk w' lo hi q2 ds) := fun w' v' k => by
    have hn : ∀ x, lo ≤ x → x < hi → ¬ Own2 b v x := by
      rintro x h1 h2 (e | e)
      · have := ha.1; omega
      · have := ha.2 x e; omega
    exact ⟨hB1.kept k.keep hn, hB2.kept k.keep hn⟩
  have HX : Hid ((b < lo ∨ hi ≤ b) ∧ ys.length ≤ 288 ∧ ds.length ≤ 288) := ⟨ha.1, hl1, hl2⟩
  clear h hB1 hB2 ha hR hl1 hl2
  go_enter Tryz.func64, Tryz.ntmps64
  go_wp2
  go_loopw [6] (fun _ w' => Hid (∃ L1, Cst R (coded ys ds most) w b v s most w' L1)) (fun _ w' => 8 * s.size - posOf w' b)
  case atStart => exact H0
  case round =>
    clear H0
    obtain ⟨L1, er, x1, v1, hE, hEr, hS, hA⟩ := hrel.out
    clear hrel
    obtain ⟨c2, c3, c4, cf, p0, c1⟩ := hS.cell
    clear c2 c3 cf c1
    by_cases her : er = 0
    · subst her
      have HS : Hid (FS wr b v1 s most L1 x1 0 ∧ FAdv w wr b v v1 ∧ coded ys ds most L1 x1 = R) := ⟨hS, hA, hE rfl⟩
      have HBk := HB.out wr v1 hA
      have HC : Hid (Calls Tryz.prog 107 #[.pointer (some ⟨b, 0, none⟩), .pointer (some ⟨q1, 0, none⟩)] wr (RSym (symN ys L1) wr b v1 s most x1)) := rsymbol_ok hS HBk.1 HX.out.1 HX.out.2.1
      clear hE hEr hS hA HBk
      go_wp2_with fail
      refine HC.out.mono ?_
      intro e w2 hP
      clear HC c4
      rcases h1 : symN ys L1 with _ | ⟨i, L2⟩
      · obtain ⟨rfl, ⟨L', hS2⟩, hk⟩ := hP.1 h1
        obtain ⟨c2, c3, c4, cf, p0, c1⟩ := hS2.cell
        have e : R = .error 700 := by rw [← HS.out.2.2, coded_none h1]
        subst e
        have HQ : Hid (FPost (.error 700) w b v s most w2) := FPost.bad hS2 (HS.out.2.1.trans (FAdv.ofB v1 hk))
        clear hP h1 hk hS2 c2 c3 cf c1
        go_wp2
        (try simp only [Exit.inBlock, Exit.then])
        refine bodyPost_ret (results_none rfl _ _ _) rfl ?_
        exact ⟨rfl, HQ.out⟩
      · obtain ⟨rfl, hS2, hk2⟩ := hP.2 i L2 h1
        obtain ⟨c2, c3, c4, cf, p0, c1⟩ := hS2.cell
        have HL : Hid (symN ys L1 = some (i, L2) ∧ i < ys.length) := ⟨h1, symN_small h1⟩
        have H2 : Hid (FS w2 b v1 s most L2 x1 0 ∧ FAdv w w2 b v v1) := ⟨hS2, HS.out.2.1.trans (FAdv.ofB v1 hk2)⟩
        have hi3 : i ≤ 300 := by have := HL.out.2; have := HX.out.2.1; omega
        clear hP h1 hS2 hk2 c2 c3 cf c1
        by_cases h256 : i = 256
        · subst h256
          have e : R = .ok (L2, x1) := by rw [← HS.out.2.2, coded_end HL.out.1]
          subst e
          go_wp2
          (try simp only [Exit.inBlock, Exit.then])
          refine bodyPost_ret (results_none rfl _ _ _) rfl ?_
          exact ⟨rfl, FPost.good H2.out.1 H2.out.2⟩
        · have hne : ¬ ((i : Int) = 256) := by omega
          have hnb : ((i : Int) == 256) = false := by simp; omega
          by_cases hlit : i < 256
          · have hiz : (i : Int) < 256 := by omega
            have hu : IntKind.u8.wrap (i : Int) = (i : Int) := by simp [IntKind.wrap, IntKind.bits, IntKind.signed]; omega
            have HC : Hid (Calls Tryz.prog 106 #[.pointer (some ⟨b, 0, none⟩), .int .u8 (i : Int)] w2 fun e w' => e = .returned (.tuple #[]) ∧ ∃ L3, L3.length < L1.length ∧ Cst R (coded ys ds most) w b v s most w' L3) := by
              have et : told ds most i L2 x1 = mapE (put1 most i) L2 x1 := by unfold told; rw [if_pos hlit]
              have hl := symN_len HL.out.1
              by_cases hlm : x1.length = most
              · have e3 : mapE (put1 most i) L2 x1 = .error 701 := by simp [mapE, put1, hlm]
                refine (rput_long H2.out.1 i hlm).mono ?_
                rintro e w3 ⟨rfl, g1, g2⟩
                exact ⟨rfl, L2, hl, 701, x1, v1, fun e => absurd e (by decide), fun _ => by rw [← HS.out.2.2, coded_bad HL.out.1 h256 (by rw [et]; exact e3)], g1, H2.out.2.trans (FAdv.ofB v1 g2)⟩
              · have e3 : mapE (put1 most i) L2 x1 = .ok (L2, x1 ++ [i]) := by simp [mapE, put1, hlm]
                refine (rput_ok H2.out.1 i hlit hlm).mono ?_
                rintro e w3 ⟨rfl, v3, g1, g2⟩
                exact ⟨rfl, L2, hl, 0, x1 ++ [i], v3, fun _ => by rw [← HS.out.2.2, coded_next HL.out.1 h256 (by rw [et]; exact e3)], fun e => absurd rfl e, g1, H2.out.2.trans g2⟩
            go_wp2_with fail
            refine HC.out.mono ?_
            rintro e w3 ⟨rfl, hP⟩
            have H3 : Hid (∃ L3, L3.length < L1.length ∧ Cst R (coded ys ds most) w b v s most w3 L3) := hP
            clear hP HC c4
            go_wp2
            go_roundw
            case rel => obtain ⟨L3, _, h4⟩ := H3.out; exact ⟨L3, h4⟩
            case measure =>
              obtain ⟨L3, h4, er, x3, v3, _, _, h5, _⟩ := H3.out
              rw [h5.left, HS.out.1.left]; exact h4
          · have hiz : ¬ (i : Int) < 256 := by omega
            have HT : Hid (told ds most i L2 x1 = thenE (sprL i) (fun n => thenE (symN ds) fun f => thenE (sprD f) fun d => mapE (putC most n d)) L2 x1) := by show _ = _; unfold told; rw [if_neg hlit]
            have HBad : Hid (∀ er, told ds most i L2 x1 = .error er → R = .error er) := fun er e => by rw [← HS.out.2.2, coded_bad HL.out.1 h256 e]
            by_cases hin : 257 ≤ i ∧ i ≤ 285
            · have HC : Hid (Calls Tryz.prog 101 #[.int .i64 (i : Int)] w2 fun e w' => e = .returned (.tuple #[.int .i64 ((lenF (i - 257)).1 : Int), .int .i64 ((lenF (i - 257)).2 : Int), .int .i64 0]) ∧ w' = w2) := lenOf_in i w2 hin
              have hle := lenF_le (i - 257) (by omega)
              have HSp : Hid (sprL i = aboveL (lenF (i - 257)).1 (lenF (i - 257)).2) := by show _ = _; unfold sprL; exact if_pos hin
              generalize (lenF (i - 257)).1 = la at *
              generalize (lenF (i - 257)).2 = le at *
              clear hin
              go_wp2_with fail
              refine HC.out.mono ?_
              rintro e w3 ⟨rfl, hw3⟩
              obtain rfl := hw3.symm
              clear hw3 HC
              rcases h4 : getL le L2 with _ | ⟨m, L3⟩
              · have e : R = .error 700 := HBad.out 700 (by rw [HT.out, thenE_none]; rw [HSp.out]; unfold aboveL; exact bnd_none h4)
                subst e
                have HC : Hid (Calls Tryz.prog 62 #[.pointer (some ⟨b, 0, none⟩), .int .i64 (le : Int)] w2 fun e w' => e = .returned (.int .i64 0) ∧ FS w' b v1 s most L2 x1 700 ∧ Keeps (fun k => k = b) w2 w') := get_bad7 H2.out.1 le (by omega) h4
                clear h4
                go_wp2_with fail
                refine HC.out.mono ?_
                rintro e w4 ⟨rfl, hS4, hk4⟩
                obtain ⟨d2, d3, d4, df, p1, d1⟩ := hS4.cell
                have HQ : Hid (FPost (.error 700) w b v s most w4) := FPost.bad hS4 (H2.out.2.trans (FAdv.ofB v1 hk4))
                clear hS4 hk4 HC d2 d3 df d1 c4
                go_wp2
                (try simp only [Exit.inBlock, Exit.then])
                refine bodyPost_ret (results_none rfl _ _ _) rfl ?_
                exact ⟨rfl, HQ.out⟩
              · have hml := getL_lt h4
                have hp5 : (2 : Nat) ^ le ≤ 2 ^ 5 := Nat.pow_le_pow_right (by decide) hle.2
                have hm32 : m ≤ 32 := by omega
                have HC : Hid (Calls Tryz.prog 62 #[.pointer (some ⟨b, 0, none⟩), .int .i64 (le : Int)] w2 fun e w' => e = .returned (.int .i64 (m : Int)) ∧ FS w' b v1 s most L3 x1 0 ∧ Keeps (fun k => k = b) w2 w') := get_ok7 H2.out.1 le m L3 (by omega) h4
                obtain ⟨n, hn⟩ : ∃ n, la + m = n := ⟨_, rfl⟩
                have hnz : (la : Int) + (m : Int) = (n : Int) := by omega
                have hn3 : n ≤ 300 := by omega
                have HT2 : Hid (told ds most i L2 x1 = thenE (symN ds) (fun f => thenE (sprD f) fun d => mapE (putC most n d)) L3 x1 ∧ L3.length ≤ L2.length) := by
                  refine ⟨?_, by have := getL_len h4; omega⟩
                  rw [HT.out, thenE_eq (x := n) (L1 := L3)]
                  rw [HSp.out]; unfold aboveL; rw [bnd_eq h4, ← hn]; rfl
                clear h4 hml hp5 HT HSp hn
                go_wp2_with fail
                refine HC.out.mono ?_
                rintro e w4 ⟨rfl, hS4, hk4⟩
                obtain ⟨d2, d3, d4, df, p1, d1⟩ := hS4.cell
                have H4 : Hid (FS w4 b v1 s most L3 x1 0 ∧ FAdv w w4 b v v1) := ⟨hS4, H2.out.2.trans (FAdv.ofB v1 hk4)⟩
                have HC2 : Hid (Calls Tryz.prog 107 #[.pointer (some ⟨b, 0, none⟩), .pointer (some ⟨q2, 0, none⟩)] w4 (RSym (symN ds L3) w4 b v1 s most x1)) := rsymbol_ok hS4 (HB.out w4 v1 H4.out.2).2 HX.out.1 HX.out.2.2
                clear hS4 hk4 HC d2 d3 df d1 c4
                go_wp2_with fail
                refine HC2.out.mono ?_
                intro e w5 hP
                clear HC2 d4
                rcases h5 : symN ds L3 with _ | ⟨f, L4⟩
                · obtain ⟨rfl, ⟨L', hS5⟩, hk⟩ := hP.1 h5
                  obtain ⟨d2, d3, d4, df, p1, d1⟩ := hS5.cell
                  have e : R = .error 700 := HBad.out 700 (by rw [HT2.out.1, thenE_none h5])
                  subst e
                  have HQ : Hid (FPost (.error 700) w b v s most w5) := FPost.bad hS5 (H4.out.2.trans (FAdv.ofB v1 hk))
                  clear hP h5 hk hS5 d2 d3 df d1
                  go_wp2
                  (try simp only [Exit.inBlock, Exit.then])
                  refine bodyPost_ret (results_none rfl _ _ _) rfl ?_
                  exact ⟨rfl, HQ.out⟩
                · obtain ⟨rfl, hS5, hk5⟩ := hP.2 f L4 h5
                  obtain ⟨d2, d3, d4, df, p1, d1⟩ := hS5.cell
                  have H5 : Hid (FS w5 b v1 s most L4 x1 0 ∧ FAdv w w5 b v v1) := ⟨hS5, H4.out.2.trans (FAdv.ofB v1 hk5)⟩
                  have HT3 : Hid (told ds most i L2 x1 = thenE (sprD f) (fun d => mapE (putC most n d)) L4 x1 ∧ L4.length ≤ L2.length ∧ f < ds.length) := ⟨by rw [HT2.out.1, thenE_eq h5], by have := symN_len h5; have := HT2.out.2; omega, symN_small h5⟩
                  clear hP h5 hS5 hk5 d2 d3 df d1 HT2
                  by_cases hf : f ≤ 29
                  · have HC : Hid (Calls Tryz.prog 102 #[.int .i64 (f : Int)] w5 fun e w' => e = .returned (.tuple #[.int .i64 ((dstF f).1 : Int), .int .i64 ((dstF f).2 : Int), .int .i64 0]) ∧ w' = w5) := dstOf_in f w5 hf
                    have hde := dstF_le f hf
                    have hdp := dstF_pos ⟨f, by omega⟩
                    simp only at hdp
                    have HSp : Hid (sprD f = aboveL (dstF f).1 (dstF f).2) := by show _ = _; unfold sprD; exact if_pos hf
                    generalize (dstF f).1 = da at *
                    generalize (dstF f).2 = de at *
                    go_wp2_with fail
                    refine HC.out.mono ?_
                    rintro e w6 ⟨rfl, hw6⟩
                    obtain rfl := hw6.symm
                    clear hw6 HC
                    rcases h6 : getL de L4 with _ | ⟨m2, L5⟩
                    · have e : R = .error 700 := HBad.out 700 (by rw [HT3.out.1, thenE_none]; rw [HSp.out]; unfold aboveL; exact bnd_none h6)
                      subst e
                      have HC : Hid (Calls Tryz.prog 62 #[.pointer (some ⟨b, 0, none⟩), .int .i64 (de : Int)] w5 fun e w' => e = .returned (.int .i64 0) ∧ FS w' b v1 s most L4 x1 700 ∧ Keeps (fun k => k = b) w5 w') := get_bad7 H5.out.1 de (by omega) h6
                      clear h6
                      go_wp2_with fail
                      refine HC.out.mono ?_
                      rintro e w6 ⟨rfl, hS6, hk6⟩
                      obtain ⟨f2, f3, f4, ff, p2, f1⟩ := hS6.cell
                      have H9 : Hid (∃ L3, L3.length < L1.length ∧ Cst (.error 700) (coded ys ds most) w b v s most w6 L3) := ⟨L4, by have := symN_len HL.out.1; have := HT3.out.2.1; omega, 700, x1, v1, fun e => absurd e (by decide), fun _ => rfl, hS6, H5.out.2.trans (FAdv.ofB v1 hk6)⟩
                      clear hS6 hk6 HC f2 f3 ff f1 d4
                      go_wp2
                      go_loopw [15] (fun s15 w' => s15 = .int .i64 0 ∧ w' = w6) (fun _ _ => 0)
                      case atStart => exact ⟨rfl, rfl⟩
                      case round =>
                        obtain ⟨rfl, rfl⟩ := hrel
                        by_cases hk0x : (0 : Int) < (n : Int)
                        · go_wp2
                          go_roundw
                          case rel => obtain ⟨L3, _, h4⟩ := H9.out; exact ⟨L3, h4⟩
                          case measure =>
                            obtain ⟨L3, h4, er, x3, v3, _, _, h5, _⟩ := H9.out
                            rw [h5.left, HS.out.1.left]; exact h4
                        · go_wp2
                          go_roundw
                          case rel => obtain ⟨L3, _, h4⟩ := H9.out; exact ⟨L3, h4⟩
                          case measure =>
                            obtain ⟨L3, h4, er, x3, v3, _, _, h5, _⟩ := H9.out
                            rw [h5.left, HS.out.1.left]; exact h4
                    · have hml := getL_lt h6
                      have hp5 : (2 : Nat) ^ de ≤ 2 ^ 13 := Nat.pow_le_pow_right (by decide) hde.2
                      have HC : Hid (Calls Tryz.prog 62 #[.pointer (some ⟨b, 0, none⟩), .int .i64 (de : Int)] w5 fun e w' => e = .returned (.int .i64 (m2 : Int)) ∧ FS w' b v1 s most L5 x1 0 ∧ Keeps (fun k => k = b) w5 w') := get_ok7 H5.out.1 de m2 L5 (by omega) h6
                      obtain ⟨d, hd⟩ : ∃ d, da + m2 = d := ⟨_, rfl⟩
                      have hdz : (da : Int) + (m2 : Int) = (d : Int) := by omega
                      have hd1 : 1 ≤ d ∧ d ≤ 40000 := by omega
                      have hm2 : m2 ≤ 8192 := by omega
                      have HT4 : Hid (told ds most i L2 x1 = mapE (putC most n d) L5 x1 ∧ L5.length ≤ L2.length) := by
                        refine ⟨?_, by have := getL_len h6; have := HT3.out.2.1; omega⟩
                        rw [HT3.out.1, thenE_eq (x := d) (L1 := L5)]
                        rw [HSp.out]; unfold aboveL; rw [bnd_eq h6, ← hd]; rfl
                      clear h6 hml hp5 HT3 HSp hd
                      go_wp2_with fail
                      refine HC.out.mono ?_
                      rintro e w6 ⟨rfl, hS6, hk6⟩
                      obtain ⟨a0, cap0, hv0⟩ := hS6.own.form
                      obtain ⟨f2, f3, f4, ff, p2, f1⟩ := hS6.cell
                      rw [hv0] at f2
                      have hlx : x1.length ≤ 8192 := Nat.le_trans hS6.lim hS6.most
                      have H6a : Hid (FS w6 b v1 s most L5 x1 0 ∧ FAdv w w6 b v v1) := ⟨hS6, H5.out.2.trans (FAdv.ofB v1 hk6)⟩
                      clear hS6 hk6 HC f3 ff f1 d4 hv0
                      obtain ⟨T, hT⟩ : ∃ T, told ds most i L2 x1 = T := ⟨_, rfl⟩
                      have HTT : Hid (told ds most i L2 x1 = T) := hT
                      have HFin : Hid (∀ er y1 v4 w', (er = 0 → T = .ok (L5, y1)) → (er ≠ 0 → T = .error er) → FS w' b v4 s most L5 y1 er → FAdv w w' b v v4 → ∃ L3, L3.length < L1.length ∧ Cst R (coded ys ds most) w b v s most w' L3) := fun er y1 v4 w' e0 e1 g1 g2 => by
                        refine ⟨L5, by have := symN_len HL.out.1; have := HT4.out.2; omega, er, y1, v4, fun e => ?_, fun e => ?_, g1, g2⟩
                        · rw [← HS.out.2.2, coded_next HL.out.1 h256 (HTT.out.trans (e0 e))]
                        · exact HBad.out er (HTT.out.trans (e1 e))
                      clear hT
                      by_cases hdx : x1.length < d
                      · have hdl : ((x1.length : Nat) : Int) < (d : Int) := by omega
                        have HC2 : Hid (Calls Tryz.prog 67 #[.pointer (some ⟨b, 0, none⟩)] w6 fun e w' => e = .returned (.tuple #[]) ∧ FS w' b v1 s most L5 x1 700 ∧ Keeps (fun k => k = b) w6 w') := wrong_ok H6a.out.1
                        have HTe : Hid (T = .error 700) := by show _ = _; rw [← HTT.out, HT4.out.1]; simp [mapE, putC, hdx]
                        generalize x1.length = X at *
                        go_wp2_with fail
                        refine HC2.out.mono ?_
                        rintro e w7 ⟨rfl, hS7, hk7⟩
                        obtain ⟨g2, g3, g4, gf, p3, g1⟩ := hS7.cell
                        have H9 : Hid (∃ L3, L3.length < L1.length ∧ Cst R (coded ys ds most) w b v s most w7 L3) := HFin.out 700 x1 v1 w7 (fun e => absurd e (by decide)) (fun _ => HTe.out) hS7 (H6a.out.2.trans (FAdv.ofB v1 hk7))
                        clear hS7 hk7 HC2 g2 g3 gf g1 f2 f4
                        go_wp2
                        go_loopw [15] (fun s15 w' => s15 = .int .i64 0 ∧ w' = w7) (fun _ _ => 0)
                        case atStart => exact ⟨rfl, rfl⟩
                        case round =>
                          obtain ⟨rfl, rfl⟩ := hrel
                          by_cases hk0x : (0 : Int) < (n : Int)
                          · go_wp2
                            go_roundw
                            case rel => obtain ⟨L3, _, h4⟩ := H9.out; exact ⟨L3, h4⟩
                            case measure =>
                              obtain ⟨L3, h4, er, x3, v3, _, _, h5, _⟩ := H9.out
                              rw [h5.left, HS.out.1.left]; exact h4
                          · go_wp2
                            go_roundw
                            case rel => obtain ⟨L3, _, h4⟩ := H9.out; exact ⟨L3, h4⟩
                            case measure =>
                              obtain ⟨L3, h4, er, x3, v3, _, _, h5, _⟩ := H9.out
                              rw [h5.left, HS.out.1.left]; exact h4
                      · have hdl : ¬ ((x1.length : Nat) : Int) < (d : Int) := by omega
                        have H6 : Hid (∃ er y1 v4, (er = 0 → d ≤ y1.length ∧ mapE (cpy most d (n - 0)) L5 y1 = T) ∧ (er ≠ 0 → T = .error er) ∧ FS w6 b v4 s most L5 y1 er ∧ FAdv w w6 b v v4) := ⟨0, x1, v1, fun _ => ⟨by omega, by rw [← HTT.out, HT4.out.1]; simp [mapE, putC, hdx]⟩, fun e => absurd rfl e, H6a.out.1, H6a.out.2⟩
                        generalize x1.length = X at *
                        go_wp2
                        clear f2 f4 hdl
                        go_loopw [15] (fun s15 w' => ∃ j : Nat, j ≤ n ∧ s15 = .int .i64 (j : Int) ∧ Hid (∃ er y1 v4, (er = 0 → d ≤ y1.length ∧ mapE (cpy most d (n - j)) L5 y1 = T) ∧ (er ≠ 0 → T = .error er) ∧ FS w' b v4 s most L5 y1 er ∧ FAdv w w' b v v4)) (fun s15 _ => ((n : Int) - intOf s15).toNat)
                        case atStart => exact ⟨0, by omega, rfl, H6⟩
                        case round =>
                          clear H6
                          obtain ⟨j, hj, rfl, HW⟩ := hrel
                          obtain ⟨er, y1, v4, hE, hEr, hS, hA⟩ := HW.out
                          clear HW
                          by_cases hjn : j < n
                          · have hjz : (j : Int) < (n : Int) := by omega
                            by_cases her : er = 0
                            · subst her
                              obtain ⟨hdy, hE1⟩ := hE rfl
                              have hly : y1.length ≤ 8192 := Nat.le_trans hS.lim hS.most
                              obtain ⟨i5, hi5⟩ : ∃ i5, y1.length - d = i5 := ⟨_, rfl⟩
                              have hil : i5 < y1.length := by omega
                              obtain ⟨g, cap, rfl, hcell⟩ := hS.own.cell i5 hil
                              obtain ⟨c2, c3, c4, cf, p0, c1⟩ := hS.cell
                              obtain ⟨c, hc⟩ : ∃ c, y1[i5] = c := ⟨_, rfl⟩
                              rw [hc] at hcell
                              have hc256 : c < 256 := by rw [← hc]; exact hS.byt _ (List.getElem_mem hil)
                              have hgd : y1.getD (y1.length - d) 0 = c := by rw [hi5, List.getD_eq_getElem?_getD, List.getElem?_eq_getElem hil, hc]; rfl
                              have hE2 : mapE (cpy most d (n - j)) L5 y1 = seqE (mapE (put1 most c)) (mapE (cpy most d (n - (j + 1)))) L5 y1 := by
                                rw [show n - j = (n - (j + 1)) + 1 by omega]
                                simp only [mapE, cpy, seqE, put1, hgd]
                                by_cases hl : y1.length = most <;> simp [hl]
                              have hS1 : FS wr.drew b (.slice (some ⟨g, 0, none⟩) y1.length cap) s most L5 y1 0 := ⟨hS.fl, hS.own, hS.sz, hS.lim, hS.most, hS.byt⟩
                              have hA1 : FAdv w wr.drew b v (.slice (some ⟨g, 0, none⟩) y1.length cap) := ⟨hA.keep.drew, hA.own⟩
                              have HC : Hid (Calls Tryz.prog 106 #[.pointer (some ⟨b, 0, none⟩), .int .u8 (c : Int)] wr.drew fun e w' => e = .returned (.tuple #[]) ∧ ∃ er y1 v4, (er = 0 → d ≤ y1.length ∧ mapE (cpy most d (n - (j + 1))) L5 y1 = T) ∧ (er ≠ 0 → T = .error er) ∧ FS w' b v4 s most L5 y1 er ∧ FAdv w w' b v v4) := by
                                by_cases hlm : y1.length = most
                                · refine (rput_long hS1 c hlm).mono ?_
                                  rintro e w3 ⟨rfl, g1, g2⟩
                                  exact ⟨rfl, 701, y1, _, fun e => absurd e (by decide), fun _ => by rw [← hE1, hE2]; simp [seqE, mapE, put1, hlm], g1, hA1.trans (FAdv.ofB _ g2)⟩
                                · refine (rput_ok hS1 c hc256 hlm).mono ?_
                                  rintro e w3 ⟨rfl, v3, g1, g2⟩
                                  exact ⟨rfl, 0, y1 ++ [c], v3, fun _ => ⟨by simp; omega, by rw [← hE1, hE2]; simp [seqE, mapE, put1, hlm]⟩, fun e => absurd rfl e, g1, hA1.trans g2⟩
                              have hw1 : IntKind.i64.wrap ((y1.length : Int) - (d : Int)) = (i5 : Int) := by rw [wrap_i64_small _ (by omega) (by omega)]; omega
                              have hw2 : wrap64 ((y1.length : Int) - (d : Int)) = (i5 : Int) := by unfold wrap64; omega
                              have hi1 : (i5 : Int) < (y1.length : Int) := by omega
                              clear hE hEr hE1 hE2 hS hA hS1 hA1 hgd hc hi5 hil hdy c3 cf c1
                              generalize y1.length = M at *
                              go_wp2
                              go_region_with (go_at_call 106; refine HC.out.mono ?_; rintro e w7 ⟨rfl, hk7⟩; have H7 : Hid (∃ er y1 v4, (er = 0 → d ≤ y1.length ∧ mapE (cpy most d (n - (j + 1))) L5 y1 = T) ∧ (er ≠ 0 → T = .error er) ∧ FS w7 b v4 s most L5 y1 er ∧ FAdv w w7 b v v4) := hk7; clear hk7)
                              all_goals
                                clear HC c2 c4 hcell
                                go_wp2
                                go_roundw
                                case rel => exact ⟨j + 1, by omega, by push_cast; rfl, H7⟩
                                case measure => simp [intOf]; omega
                            · obtain ⟨c2, c3, c4, cf, p0, c1⟩ := hS.cell
                              have hb0 : (er == 0) = false := by simp; exact her
                              have H8 : Hid (∃ L3, L3.length < L1.length ∧ Cst R (coded ys ds most) w b v s most wr L3) := HFin.out er y1 v4 wr (fun e => absurd e her) hEr hS hA
                              clear hE hEr hS hA c2 c3 cf c1
                              go_wp2
                              go_roundw
                              case rel => obtain ⟨L3, _, h4⟩ := H8.out; exact ⟨L3, h4⟩
                              case measure =>
                                obtain ⟨L3, h4, er, x3, v3, _, _, h5, _⟩ := H8.out
                                rw [h5.left, HS.out.1.left]; exact h4
                          · obtain rfl : j = n := by omega
                            have hjz : ¬ (j : Int) < (j : Int) := by omega
                            have H8 : Hid (∃ L3, L3.length < L1.length ∧ Cst R (coded ys ds most) w b v s most wr L3) := HFin.out er y1 v4 wr (fun e => by have := (hE e).2; rw [Nat.sub_self] at this; exact this.symm) hEr hS hA
                            clear hE hEr hS hA
                            go_wp2
                            go_roundw
                            case rel => obtain ⟨L3, _, h4⟩ := H8.out; exact ⟨L3, h4⟩
                            case measure =>
                              obtain ⟨L3, h4, er, x3, v3, _, _, h5, _⟩ := H8.out
                              rw [h5.left, HS.out.1.left]; exact h4
                  · have HC : Hid (Calls Tryz.prog 102 #[.int .i64 (f : Int)] w5 fun e w' => e = .returned (.tuple #[.int .i64 0, .int .i64 0, .int .i64 600]) ∧ w' = w5) := dstOf_out f w5 hf
                    have e : R = .error 700 := HBad.out 700 (by rw [HT3.out.1, thenE_none]; unfold sprD; rw [if_neg hf]; rfl)
                    subst e
                    have HC2 : Hid (Calls Tryz.prog 67 #[.pointer (some ⟨b, 0, none⟩)] w5 fun e w' => e = .returned (.tuple #[]) ∧ FS w' b v1 s most L4 x1 700 ∧ Keeps (fun k => k = b) w5 w') := wrong_ok H5.out.1
                    go_wp2_with fail
                    refine HC.out.mono ?_
                    rintro e w6 ⟨rfl, hw6⟩
                    obtain rfl := hw6.symm
                    clear hw6 HC
                    go_wp2_with fail
                    refine HC2.out.mono ?_
                    rintro e w7 ⟨rfl, hS7, hk7⟩
                    have HQ : Hid (FPost (.error 700) w b v s most w7) := FPost.bad hS7 (H5.out.2.trans (FAdv.ofB v1 hk7))
                    clear hS7 hk7 HC2 d4
                    go_wp2
                    (try simp only [Exit.inBlock, Exit.then])
                    refine bodyPost_ret (results_none rfl _ _ _) rfl ?_
                    exact ⟨rfl, HQ.out⟩
            · have HC : Hid (Calls Tryz.prog 101 #[.int .i64 (i : Int)] w2 fun e w' => e = .returned (.tuple #[.int .i64 0, .int .i64 0, .int .i64 600]) ∧ w' = w2) := lenOf_out i w2 hin
              have e : R = .error 700 := HBad.out 700 (by rw [HT.out, thenE_none]; unfold sprL; rw [if_neg hin]; rfl)
              subst e
              have HC2 : Hid (Calls Tryz.prog 67 #[.pointer (some ⟨b, 0, none⟩)] w2 fun e w' => e = .returned (.tuple #[]) ∧ FS w' b v1 s most L2 x1 700 ∧ Keeps (fun k => k = b) w2 w') := wrong_ok H2.out.1
              clear hin
              go_wp2_with fail
              refine HC.out.mono ?_
              rintro e w3 ⟨rfl, hw3⟩
              obtain rfl := hw3.symm
              clear hw3 HC
              go_wp2_with fail
              refine HC2.out.mono ?_
              rintro e w4 ⟨rfl, hS4, hk4⟩
              have HQ : Hid (FPost (.error 700) w b v s most w4) := FPost.bad hS4 (H2.out.2.trans (FAdv.ofB v1 hk4))
              clear hS4 hk4 HC2 c4
              go_wp2
              (try simp only [Exit.inBlock, Exit.then])
              refine bodyPost_ret (results_none rfl _ _ _) rfl ?_
              exact ⟨rfl, HQ.out⟩
    · have e := hEr her
      subst e
      have HQ : Hid (FPost (.error er) w b v s most wr) := FPost.bad hS hA
      have hb0 : (er == 0) = false := by simp; exact her
      clear hE hEr hS hA
      go_wp2
      go_end0
      exact ⟨rfl, HQ.out⟩

end Go.Proofs.YtebjooebdehlnaaGreat

/-
  A stream that is read: what lies where in memory, and the contracts of number, above and put of package inflate. put of package inflate: one byte more, if there is room for it. find and symbol of package inflate: the symbol whose code the next bits are. spread, putCopy and told of package inflate: what a symbol stands for. putCopy and told of package inflate.
-/
import Derived.Test.YtfbghchgfbjogaaRows
import Derived.Test.YtfbghchgfbjogaaM05
import Derived.Deep.RegionLaw
import Derived.BigQuiet
import Derived.BigRegion
namespace Go.Proofs.Ytfbghchgfbjogaa
open Go.RowKit
open Hf Tb
set_option linter.unusedVariables false
set_option linter.unusedSimpArgs false

theorem readBits_drop (s : List Nat) (n p k : Nat) (h : p + k ≤ n) : ((readBits s 0 n).drop p).take k = readBits s p k := by
  apply List.ext_getElem?
  intro i
  by_cases hi : i < k
  · rw [List.getElem?_take, if_pos hi, List.getElem?_drop]
    simp only [readBits, List.getElem?_map, List.getElem?_range hi, List.getElem?_range (show p + i < n by omega)]
    simp
  · rw [List.getElem?_eq_none (by simp; omega), List.getElem?_eq_none (by simp [readBits]; omega)]
theorem bitsL_length (s : List Nat) : (bitsL s).length = 8 * s.length := by simp [bitsL, readBits_length]

def OwnB (w : World) (base : Nat) (v : Value) (xs : List Nat) : Prop := w.ownsRow base 5 1 v xs.length (xs.map byteV)
theorem OwnB.nil (w : World) (base : Nat) : OwnB w base (.slice none 0 0) [] := World.ownsRow_nil w base 5 1
theorem OwnB.kept {S : Nat → Prop} {w w' : World} {base : Nat} {v : Value} {xs : List Nat} (h : OwnB w base v xs) (hk : Keeps S w w') (hb : ∀ k, v.ownBlock = some k → ¬ S k) : OwnB w' base v xs :=
  owns_heap h (fun k e => hk.block k (World.ownsRow.lt h k e).2 (hb k e))
theorem OwnB.form {w : World} {base : Nat} {v : Value} {xs : List Nat} (h : OwnB w base v xs) : ∃ a cap, v = .slice a xs.length cap := by
  rcases h.2 with ⟨e, h0⟩ | ⟨g, cap, cur, e, _⟩
  · exact ⟨none, 0, by rw [e, h0]⟩
  · exact ⟨_, cap, e⟩
theorem OwnB.cell {w : World} {base : Nat} {v : Value} {xs : List Nat} (h : OwnB w base v xs) (i : Nat) (hi : i < xs.length) : ∃ g cap, v = .slice (some ⟨g, 0, none⟩) xs.length cap ∧ w.cell? ⟨g, i, none⟩ = some (.int .u8 (xs[i] : Int)) := by
  obtain ⟨g, cap, rfl, _, _⟩ := World.ownsRow.form h (by omega)
  refine ⟨g, cap, rfl, (owns_cell h i _ ?_).1⟩
  rw [List.getElem?_map, List.getElem?_eq_getElem hi]; rfl

def GRow (w : World) : Prop := True
theorem GRow.kept {S : Nat → Prop} {w w' : World} (h : GRow w) (hk : Keeps S w w') : GRow w' := trivial

/-- The places at which b stands in a row. -/
def symF (b : Int) : List Int → Nat → List Nat
  | [], _ => []
  | y :: r, i => if y = b then i :: symF b r (i + 1) else symF b r (i + 1)
theorem nthL_sym (b : Int) (ys : List Int) : ∀ k i, nthL b ys k i = (symF b ys i)[k]? := by
  induction ys with
  | nil => intro k i; simp [nthL, symF]
  | cons y r ih =>
    intro k i
    rw [nthL, symF]
    by_cases h : y = b
    · rw [if_pos h, if_pos h]
      cases k with
      | zero => simp
      | succ k => rw [if_neg (by omega), ih]; simp
    · rw [if_neg h, if_neg h, ih]
theorem symF_snoc (b : Int) (ys : List Int) (y : Int) : ∀ i, symF b (ys ++ [y]) i = symF b ys i ++ (if y = b then [i + ys.length] else []) := by
  induction ys with
  | nil => intro i; simp [symF]
  | cons z r ih =>
    intro i
    rw [List.cons_append, symF, symF, ih, List.length_cons, show i + 1 + r.length = i + (r.length + 1) by omega]
    by_cases h : z = b
    · rw [if_pos h, if_pos h, List.cons_append]
    · rw [if_neg h, if_neg h]
theorem symF_length (b : Nat) (ys : List Int) : ∀ i, (symF (b : Int) ys i).length = cnt ys b := by
  induction ys with
  | nil => intro i; simp [symF, cnt]
  | cons y r ih =>
    intro i
    rw [symF]
    unfold cnt at *
    by_cases h : y = (b : Int)
    · rw [if_pos h, List.length_cons, ih, List.countP_cons_of_pos (by simpa using h)]
    · rw [if_neg h, ih, List.countP_cons_of_neg (by simpa using h)]
theorem symF_lt (b : Int) (ys : List Int) : ∀ i, ∀ x ∈ symF b ys i, x < i + ys.length := by
  induction ys with
  | nil => intro i x hx; simp [symF] at hx
  | cons y r ih =>
    intro i x hx
    rw [symF] at hx
    by_cases h : y = b
    · rw [if_pos h, List.mem_cons] at hx
      rcases hx with rfl | hx
      · simp
      · have := ih (i + 1) x hx; simp; omega
    · rw [if_neg h] at hx
      have := ih (i + 1) x hx; simp; omega

def Fnd (w : World) (lo hi f : Nat) (ys : List Int) : Prop :=
  lo ≤ f ∧ f < hi ∧ hi ≤ w.heap.size ∧ ∀ k, 1 ≤ k → k ≤ 15 → ∃ (F : Nat) (a : Option Addr) (cap : Nat),
    w.cell? ⟨f, k, none⟩ = some (.int .i64 (F : Int)) ∧ w.cell? ⟨f, 16 + k, none⟩ = some (.slice a (symF (k : Int) ys 0).length cap) ∧
    (symF (k : Int) ys 0 ≠ [] → F = fstC (cn ys) k) ∧ F ≤ 20000000 ∧
    ∀ j (h : j < (symF (k : Int) ys 0).length), ∃ g, a = some ⟨g, 0, none⟩ ∧ lo ≤ g ∧ g < hi ∧ w.cell? ⟨g, j, none⟩ = some (.int .i64 (((symF (k : Int) ys 0)[j] : Nat) : Int))
theorem Fnd.kept {S : Nat → Prop} {w w' : World} {lo hi f : Nat} {ys : List Int} (h : Fnd w lo hi f ys) (hk : Keeps S w w') (hS : ∀ k, lo ≤ k → k < hi → ¬ S k) : Fnd w' lo hi f ys := by
  obtain ⟨h1, h2, h3, h4⟩ := h
  refine ⟨h1, h2, Nat.le_trans h3 hk.size, fun k hk1 hk2 => ?_⟩
  obtain ⟨F, a, cap, c1, c2, c3, c4, c5⟩ := h4 k hk1 hk2
  refine ⟨F, a, cap, ?_, ?_, c3, c4, fun j hj => ?_⟩
  · rw [World.cell?_of_block (hk.block f (by omega) (hS f h1 h2))]; exact c1
  · rw [World.cell?_of_block (hk.block f (by omega) (hS f h1 h2))]; exact c2
  · obtain ⟨g, e, g1, g2, g3⟩ := c5 j hj
    exact ⟨g, e, g1, g2, by rw [World.cell?_of_block (hk.block g (by omega) (hS g g1 g2))]; exact g3⟩
def Book (w : World) (lo hi q : Nat) (ys ds : List Int) : Prop :=
  ∃ f1 f2, w.heap[q]? = some (.cells #[.pointer (some ⟨f1, 0, none⟩), .pointer (some ⟨f2, 0, none⟩)] 101 (0, 0)) ∧ lo ≤ q ∧ q < hi ∧ Fnd w lo hi f1 ys ∧ Fnd w lo hi f2 ds
theorem Book.kept {S : Nat → Prop} {w w' : World} {lo hi q : Nat} {ys ds : List Int} (h : Book w lo hi q ys ds) (hk : Keeps S w w') (hS : ∀ k, lo ≤ k → k < hi → ¬ S k) : Book w' lo hi q ys ds := by
  obtain ⟨f1, f2, h1, h2, h3, h4, h5⟩ := h
  exact ⟨f1, f2, (hk.block q (lt_of_heap h1) (hS q h2 h3)).trans h1, h2, h3, h4.kept hk hS, h5.kept hk hS⟩

def Away (lo hi b r : Nat) (v : Value) : Prop := (b < lo ∨ hi ≤ b) ∧ (r < lo ∨ hi ≤ r) ∧ ∀ k, v.ownBlock = some k → k < lo ∨ hi ≤ k
/-- What a stream's calls may turn. -/
def Own3 (b r : Nat) (v : Value) : Nat → Prop := fun k => k = b ∨ k = r ∨ v.ownBlock = some k
theorem Away.not {lo hi b r : Nat} {v : Value} (h : Away lo hi b r v) : ∀ k, lo ≤ k → k < hi → ¬ Own3 b r v k := by
  rintro k h1 h2 (rfl | rfl | e)
  · have := h.1; omega
  · have := h.2.1; omega
  · have := h.2.2 k e; omega
/-- The book of fixed blocks, if it is made already. -/
def Fix (w : World) (b r : Nat) (v u : Value) : Prop := u = .pointer none ∨ ∃ q lo hi, u = .pointer (some ⟨q, 0, none⟩) ∧ Book w lo hi q fixLs fiveLs ∧ Away lo hi b r v
structure St (w : World) (b r : Nat) (v : Value) (s : ByteArray) (most : Nat) (L : Bts) (xs : List Nat) : Prop where
  blk : ∃ u, w.heap[b]? = some (.cells #[.pointer (some ⟨r, 0, none⟩), v, .int .i64 (most : Int), u] 72 (0, 0)) ∧ Fix w b r v u
  rd : ∃ p, Rd 85 w r s p ∧ p ≤ 8 * s.size ∧ L = (bitsL (bytesOf s)).drop p
  own : OwnB w (b + 1) v xs
  rb : r < b
  sz : s.size ≤ 281474976710656
  lim : xs.length ≤ most
  most : most ≤ 8192
  byt : ∀ x ∈ xs, x < 256
structure Adv (w w' : World) (b r : Nat) (v v' : Value) : Prop where
  keep : Keeps (Own3 b r v) w w'
  own : v'.ownBlock = v.ownBlock ∨ ∃ g, v'.ownBlock = some g ∧ w.heap.size ≤ g
theorem Adv.refl (w : World) (b r : Nat) (v : Value) : Adv w w b r v v := ⟨Keeps.refl _ _, .inl rfl⟩
theorem Adv.trans {w w' w'' : World} {b r : Nat} {v v' v'' : Value} (h : Adv w w' b r v v') (k : Adv w' w'' b r v' v'') : Adv w w'' b r v v'' := by
  refine ⟨h.keep.trans k.keep ?_, ?_⟩
  · rintro i hi (e | e | e)
    · exact .inl e
    · exact .inr (.inl e)
    · rcases h.own with h1 | ⟨g, h1, h2⟩
      · rw [h1] at e; exact .inr (.inr e)
      · rw [h1] at e; cases e; omega
  · rcases k.own with k1 | ⟨g, k1, k2⟩
    · rw [k1]; exact h.own
    · exact .inr ⟨g, k1, Nat.le_trans h.keep.size k2⟩
theorem Adv.lost {w w' w'' : World} {b r : Nat} {v v' : Value} (h : Adv w w' b r v v') (k : Keeps (Own3 b r v') w' w'') : Keeps (Own3 b r v) w w'' :=
  (h.trans (⟨k, .inl rfl⟩ : Adv w' w'' b r v' v')).keep
theorem Adv.ofF {w w' : World} (b r : Nat) (v : Value) (h : Keeps (fun _ => False) w w') : Adv w w' b r v v := ⟨h.mono (fun _ _ h => h.elim), .inl rfl⟩
theorem Away.adv {lo hi : Nat} {w w' : World} {b r : Nat} {v v' : Value} (h : Away lo hi b r v) (k : Adv w w' b r v v') (hh : hi ≤ w.heap.size) : Away lo hi b r v' :=
  ⟨h.1, h.2.1, fun g e => by
    rcases k.own with k1 | ⟨q, k1, k2⟩
    · rw [k1] at e; exact h.2.2 g e
    · rw [k1] at e; cases e; omega⟩
theorem Book.hi {w : World} {lo hi q : Nat} {ys ds : List Int} (h : Book w lo hi q ys ds) : hi ≤ w.heap.size := by obtain ⟨_, _, _, _, _, h4, _⟩ := h; exact h4.2.2.1
theorem Fix.adv {w w' : World} {b r : Nat} {v v' u : Value} (h : Fix w b r v u) (k : Adv w w' b r v v') : Fix w' b r v' u := by
  rcases h with h | ⟨q, lo, hi, h1, h2, h3⟩
  · exact .inl h
  · exact .inr ⟨q, lo, hi, h1, h2.kept k.keep h3.not, h3.adv k h2.hi⟩
/-- What is read alone: the reader's block may have turned. -/
structure Rdv (w w' : World) (b r : Nat) (v : Value) : Prop where
  only : Keeps (fun k => k = r) w w'
theorem Rdv.refl (w : World) (b r : Nat) (v : Value) : Rdv w w b r v := ⟨Keeps.refl _ _⟩
theorem Rdv.adv {w w' : World} {b r : Nat} {v : Value} (h : Rdv w w' b r v) : Adv w w' b r v v := ⟨h.only.mono (fun _ _ e => .inr (.inl e)), .inl rfl⟩
theorem Rdv.keep {w w' : World} {b r : Nat} {v : Value} (h : Rdv w w' b r v) : Keeps (Own3 b r v) w w' := h.adv.keep
theorem Rdv.trans {w w' w'' : World} {b r : Nat} {v : Value} (h : Rdv w w' b r v) (k : Rdv w' w'' b r v) : Rdv w w'' b r v := ⟨h.only.trans k.only (fun _ _ e => e)⟩
theorem Rdv.lost {w w' w'' : World} {b r : Nat} {v : Value} (h : Rdv w w' b r v) (k : Keeps (Own3 b r v) w' w'') : Keeps (Own3 b r v) w w'' := h.adv.lost k
theorem Rdv.ofF {w w' : World} (b r : Nat) (v : Value) (h : Keeps (fun _ => False) w w') : Rdv w w' b r v := ⟨h.mono (fun _ _ h => h.elim)⟩
theorem St.ownlt {w : World} {b r : Nat} {v : Value} {s : ByteArray} {most : Nat} {L : Bts} {xs : List Nat} (h : St w b r v s most L xs) (k : Nat) (e : v.ownBlock = some k) : b < k ∧ k < w.heap.size := World.ownsRow.lt h.own k e
theorem St.lt {w : World} {b r : Nat} {v : Value} {s : ByteArray} {most : Nat} {L : Bts} {xs : List Nat} (h : St w b r v s most L xs) : b < w.heap.size := by obtain ⟨u, h1, _⟩ := h.blk; exact lt_of_heap h1
theorem St.len {w : World} {b r : Nat} {v : Value} {s : ByteArray} {most : Nat} {L : Bts} {xs : List Nat} (h : St w b r v s most L xs) : L.length ≤ 2251799813685248 := by
  obtain ⟨p, _, hp, rfl⟩ := h.rd
  have := h.sz
  rw [List.length_drop, bitsL_length, bytesOf_length]; omega
/-- Nothing that the stream is made of has turned. -/
theorem St.keptF {w w' : World} {b r : Nat} {v : Value} {s : ByteArray} {most : Nat} {L : Bts} {xs : List Nat} (h : St w b r v s most L xs) (hk : Keeps (fun _ => False) w w') : St w' b r v s most L xs := by
  obtain ⟨u, h1, h2⟩ := h.blk
  obtain ⟨p, p1, p2, p3⟩ := h.rd
  exact ⟨⟨u, (hk.block b h.lt (fun h => h)).trans h1, h2.adv (Adv.ofF b r v hk)⟩, ⟨p, p1.kept hk (fun h => h), p2, p3⟩, h.own.kept hk (fun _ _ h => h), h.rb, h.sz, h.lim, h.most, h.byt⟩
/-- The reader alone has gone on. -/
theorem St.read {w w' : World} {b r : Nat} {v : Value} {s : ByteArray} {most : Nat} {L : Bts} {xs : List Nat} (h : St w b r v s most L xs) {p : Nat} (hr : Read 85 w w' r s p) (hp : p ≤ 8 * s.size) : St w' b r v s most ((bitsL (bytesOf s)).drop p) xs ∧ Rdv w w' b r v := by
  have hk := hr.2
  have ha : Rdv w w' b r v := ⟨hk⟩
  obtain ⟨u, h1, h2⟩ := h.blk
  have hrb := h.rb
  refine ⟨⟨⟨u, (hk.block b h.lt (fun e => by omega)).trans h1, h2.adv ha.adv⟩, ⟨p, hr.1, hp, rfl⟩, h.own.kept hk (fun k e e2 => by have := (h.ownlt k e).1; omega), h.rb, h.sz, h.lim, h.most, h.byt⟩, ha⟩
theorem St.c0 {w : World} {b r : Nat} {v : Value} {s : ByteArray} {most : Nat} {L : Bts} {xs : List Nat} (h : St w b r v s most L xs) : w.cell? ⟨b, 0, none⟩ = some (.pointer (some ⟨r, 0, none⟩)) := by
  obtain ⟨u, h1, h2⟩ := h.blk; exact cell_of_heap h1 rfl
theorem St.c1 {w : World} {b r : Nat} {v : Value} {s : ByteArray} {most : Nat} {L : Bts} {xs : List Nat} (h : St w b r v s most L xs) : w.cell? ⟨b, 1, none⟩ = some v := by
  obtain ⟨u, h1, h2⟩ := h.blk; exact cell_of_heap h1 rfl
theorem St.c2 {w : World} {b r : Nat} {v : Value} {s : ByteArray} {most : Nat} {L : Bts} {xs : List Nat} (h : St w b r v s most L xs) : w.cell? ⟨b, 2, none⟩ = some (.int .i64 (most : Int)) := by
  obtain ⟨u, h1, h2⟩ := h.blk; exact cell_of_heap h1 rfl
theorem St.free {w : World} {b r : Nat} {v : Value} {s : ByteArray} {most : Nat} {L : Bts} {xs : List Nat} (h : St w b r v s most L xs) (i : Nat) : w.frozen? ⟨b, i, none⟩ = false := by
  obtain ⟨u, h1, h2⟩ := h.blk; exact frozen_of_heap h1

theorem getL_none {k : Nat} {L : Bts} (h : getL k L = none) : L.length < k := by
  unfold getL at h; split at h
  · cases h
  · omega
theorem getL_some {k x : Nat} {L L' : Bts} (h : getL k L = some (x, L')) : k ≤ L.length ∧ x = val (L.take k) ∧ L' = L.drop k := by
  unfold getL at h; split at h
  · cases h; exact ⟨by assumption, rfl, rfl⟩
  · cases h
theorem getL_lt {k x : Nat} {L L' : Bts} (h : getL k L = some (x, L')) : x < 2 ^ k := by
  obtain ⟨h1, rfl, _⟩ := getL_some h
  have := val_lt (L.take k)
  rw [List.length_take, Nat.min_eq_left h1] at this; exact this
theorem St.getEnd {w : World} {b r : Nat} {v : Value} {s : ByteArray} {most : Nat} {L : Bts} {xs : List Nat} (h : St w b r v s most L xs) (k : Nat) (hk : k ≤ 16) (hg : getL k L = none) :
    Calls Try.prog 50 #[.pointer (some ⟨r, 0, none⟩), .int .i64 (k : Int)] w fun e w' => e = .returned (.tuple #[.int .i64 0, .int .i64 101]) ∧ Keeps (Own3 b r v) w w' := by
  obtain ⟨p, p1, p2, rfl⟩ := h.rd
  have hl := getL_none hg
  rw [List.length_drop, bitsL_length, bytesOf_length] at hl
  refine (get_end r p (k : Int) s w (by omega) (by omega) h.sz p2 (by omega) p1).mono ?_
  rintro e w' ⟨rfl, hr⟩
  exact ⟨rfl, hr.2.mono (fun _ _ e => .inr (.inl e))⟩
theorem St.getOk {w : World} {b r : Nat} {v : Value} {s : ByteArray} {most : Nat} {L : Bts} {xs : List Nat} (h : St w b r v s most L xs) (k x : Nat) (L' : Bts) (hk : k ≤ 16) (hg : getL k L = some (x, L')) :
    Calls Try.prog 50 #[.pointer (some ⟨r, 0, none⟩), .int .i64 (k : Int)] w fun e w' => e = .returned (.tuple #[.int .i64 (x : Int), .int .i64 0]) ∧ St w' b r v s most L' xs ∧ Rdv w w' b r v := by
  obtain ⟨p, p1, p2, rfl⟩ := h.rd
  obtain ⟨hl, rfl, rfl⟩ := getL_some hg
  have hz := h.sz
  rw [List.length_drop, bitsL_length, bytesOf_length] at hl
  refine (get_ok r p k s w (by omega) (by omega) (by omega) p1).mono ?_
  rintro e w' ⟨rfl, hr⟩
  have e1 : ((bitsL (bytesOf s)).drop p).take k = readBits (bytesOf s) p k := readBits_drop _ _ p k (by rw [bytesOf_length]; omega)
  have h2 := h.read hr (by omega)
  refine ⟨by rw [e1], ?_, h2.2⟩
  rw [List.drop_drop]
  exact h2.1

set_option maxHeartbeats 400000 in
theorem number_none {w : World} {b r : Nat} {v : Value} {s : ByteArray} {most : Nat} {L : Bts} {xs : List Nat} (h : St w b r v s most L xs) (k : Nat) (hk : k ≤ 16) (hg : getL k L = none) :
    Calls Try.prog 45 #[.pointer (some ⟨b, 0, none⟩), .int .i64 (k : Int)] w fun e w' => e = .returned (.tuple #[.int .i64 0, .int .i64 700]) ∧ Keeps (Own3 b r v) w w' := by
  have hc := h.c0
  have HC := h.getEnd k hk hg
  have HC' : Hid (Calls Try.prog 50 #[.pointer (some ⟨r, 0, none⟩), .int .i64 (k : Int)] w fun e w' => e = .returned (.tuple #[.int .i64 0, .int .i64 101]) ∧ Keeps (Own3 b r v) w w') := HC
  clear HC
  go_enter Try.func45, Try.ntmps45
  go_wp2_with fail
  refine HC'.out.mono ?_
  rintro e w' ⟨rfl, hw⟩
  have HW : Hid (Keeps (Own3 b r v) w w') := hw
  clear hw hc HC'
  go_wp2
  go_ret2
  exact ⟨rfl, HW.out⟩

set_option maxHeartbeats 400000 in
theorem number_some {w : World} {b r : Nat} {v : Value} {s : ByteArray} {most : Nat} {L : Bts} {xs : List Nat} (h : St w b r v s most L xs) (k x : Nat) (L' : Bts) (hk : k ≤ 16) (hg : getL k L = some (x, L')) :
    Calls Try.prog 45 #[.pointer (some ⟨b, 0, none⟩), .int .i64 (k : Int)] w fun e w' => e = .returned (.tuple #[.int .i64 (x : Int), .int .i64 0]) ∧ St w' b r v s most L' xs ∧ Rdv w w' b r v := by
  have hc := h.c0
  have HC := h.getOk k x L' hk hg
  have HC' : Hid (Calls Try.prog 50 #[.pointer (some ⟨r, 0, none⟩), .int .i64 (k : Int)] w fun e w' => e = .returned (.tuple #[.int .i64 (x : Int), .int .i64 0]) ∧ St w' b r v s most L' xs ∧ Rdv w w' b r v) := HC
  clear HC
  go_enter Try.func45, Try.ntmps45
  go_wp2_with fail
  refine HC'.out.mono ?_
  rintro e w' ⟨rfl, hw⟩
  have HW : Hid (St w' b r v s most L' xs ∧ Rdv w w' b r v) := hw
  clear hw hc HC'
  go_wp2
  go_ret2
  exact ⟨rfl, HW.out⟩

theorem aboveL_none {a k : Nat} {L : Bts} (h : aboveL a k L = none) : getL k L = none := by
  unfold aboveL bnd at h
  rcases hg : getL k L with _ | ⟨m, L1⟩
  · rfl
  · rw [hg] at h; simp [retL] at h
theorem aboveL_some {a k x : Nat} {L L' : Bts} (h : aboveL a k L = some (x, L')) : ∃ m, getL k L = some (m, L') ∧ x = a + m := by
  unfold aboveL bnd at h
  rcases hg : getL k L with _ | ⟨m, L1⟩
  · rw [hg] at h; simp at h
  · rw [hg] at h; simp [retL] at h; obtain ⟨rfl, rfl⟩ := h; exact ⟨m, rfl, rfl⟩

set_option maxHeartbeats 400000 in
theorem above_none {w : World} {b r : Nat} {v : Value} {s : ByteArray} {most : Nat} {L : Bts} {xs : List Nat} (h : St w b r v s most L xs) (a k : Nat) (hk : k ≤ 16) (hg : aboveL a k L = none) :
    Calls Try.prog 72 #[.pointer (some ⟨b, 0, none⟩), .int .i64 (a : Int), .int .i64 (k : Int)] w fun e w' => e = .returned (.tuple #[.int .i64 0, .int .i64 700]) ∧ Keeps (Own3 b r v) w w' := by
  have HS : Hid (St w b r v s most L xs) := h
  have HG : Hid (getL k L = none) := aboveL_none hg
  clear h hg
  go_enter Try.func72, Try.ntmps72
  go_wp2_with fail
  refine (number_none HS.out k hk HG.out).mono ?_
  rintro e w' ⟨rfl, hw⟩
  have HW : Hid (Keeps (Own3 b r v) w w') := hw
  clear hw
  go_wp2
  go_ret2
  exact ⟨rfl, HW.out⟩

set_option maxHeartbeats 400000 in
theorem above_some {w : World} {b r : Nat} {v : Value} {s : ByteArray} {most : Nat} {L : Bts} {xs : List Nat} (h : St w b r v s most L xs) (a k x : Nat) (L' : Bts) (ha : a ≤ 100000) (hk : k ≤ 16) (hg : aboveL a k L = some (x, L')) :
    Calls Try.prog 72 #[.pointer (some ⟨b, 0, none⟩), .int .i64 (a : Int), .int .i64 (k : Int)] w fun e w' => e = .returned (.tuple #[.int .i64 (x : Int), .int .i64 0]) ∧ St w' b r v s most L' xs ∧ Rdv w w' b r v := by
  have HS : Hid (St w b r v s most L xs) := h
  obtain ⟨m, hm, rfl⟩ := aboveL_some hg
  have hlt := getL_lt hm
  have hp : (2 : Nat) ^ k ≤ 2 ^ 16 := Nat.pow_le_pow_right (by decide) hk
  have hm1 : m ≤ 65536 := by omega
  have HG : Hid (getL k L = some (m, L')) := hm
  clear h hg hm hlt hp
  go_enter Try.func72, Try.ntmps72
  go_wp2_with fail
  refine (number_some HS.out k m L' hk HG.out).mono ?_
  rintro e w' ⟨rfl, hw⟩
  have HW : Hid (St w' b r v s most L' xs ∧ Rdv w w' b r v) := hw
  clear hw
  go_wp2
  go_ret2
  exact ⟨by push_cast; rfl, HW.out⟩

end Go.Proofs.Ytfbghchgfbjogaa

namespace Go.Proofs.Ytfbghchgfbjogaa
open Go.RowKit
open Hf Tb
set_option linter.unusedVariables false
set_option linter.unusedSimpArgs false

theorem info_parts {t : TypeId} {z : Value} {n m : Nat} (h : (Try.prog.info? t).map (fun i => (i.zero, i.size, i.bytes)) = some (some z, n, m)) : ∃ i, Try.prog.info? t = some i ∧ i.zero = some z ∧ i.size = n ∧ i.bytes = m := by
  cases hi : Try.prog.info? t with
  | none => rw [hi] at h; cases h
  | some i => rw [hi] at h; simp at h; exact ⟨i, rfl, h.1, h.2.1, h.2.2⟩
theorem info5 : (Try.prog.info? 5).map (fun i => (i.zero, i.size, i.bytes)) = some (some (.int .u8 0), 1, 1) := by kernel_rfl

set_option maxHeartbeats 400000 in
theorem put_long {w : World} {b r : Nat} {v : Value} {s : ByteArray} {most : Nat} {L : Bts} {xs : List Nat} (h : St w b r v s most L xs) (c : Nat) (hl : xs.length = most) :
    Calls Try.prog 57 #[.pointer (some ⟨b, 0, none⟩), .int .u8 (c : Int)] w fun e w' => e = .returned (.int .i64 701) ∧ Keeps (Own3 b r v) w w' := by
  obtain ⟨a, cap0, rfl⟩ := h.own.form
  have hc1 := h.c1
  have hc2 := h.c2
  generalize hn : xs.length = n at *
  have hq : (((n : Nat) : Int) == ((most : Nat) : Int)) = true := by rw [hl]; exact beq_self_eq_true _
  clear h hl hn
  go_enter Try.func57, Try.ntmps57
  go_wp2
  go_quiet (fail)
  go_wp2
  go_ret
  exact ⟨rfl, (Keeps.refl _ w).drewN _⟩

/-- One byte behind the others. -/
theorem wpList_byte {ops : Array Oper} {rest : List Oper} {o : Oper} {a : Act} {w : World} {Q : Exit → Act → World → Prop} (hgd : o.guard = none) (s x : Operand) (ho : o.op = .call { callee := .builtin .append, args := #[s, x], argTypes := #[38, 38] })
    (base : Nat) (v : Value) (n : Nat) (xs : List Value) (hs : a.eval s = v) (hown : w.ownsRow base 5 1 v n xs) (q : Nat) (c : Nat) (hx : a.eval x = .slice (some ⟨q, 0, none⟩) 1 1) (hR : w.heap[q]? = some (.cells #[.int .u8 (c : Int)] 5 (0, 0))) (hb : base ≤ w.heap.size) (hn : n ≤ 1000000)
    (h : ∀ g cap w', w'.ownsRow base 5 1 (.slice (some ⟨g, 0, none⟩) (n + 1) cap) (n + 1) (xs ++ [.int .u8 (c : Int)]) → w.grownBy w' v.ownBlock → (v.ownBlock = some g ∨ g = w.heap.size) → g < w'.heap.size → wpList Try.prog ops Q rest (a.put o.dst (.slice (some ⟨g, 0, none⟩) (n + 1) cap)) w') : wpList Try.prog ops Q (o :: rest) a w := by
  obtain ⟨i0, hi, hz0, hz1, hz2⟩ := info_parts info5
  exact wpList_append_lies w hgd s x _ ho base 5 i0 _ 1 1 Try.underlying38 hi hz0 hz1 hz2 rfl (by omega) v n xs hs hown ⟨q, 0, none⟩ 1 1 [.int .u8 (c : Int)] hx rfl (World.news_of_block (cs := #[.int .u8 (c : Int)]) hR) (by simp [Value.oneCell']) (by omega) (by unfold maxLen; omega) (by omega) hb _ rfl h
set_option maxHeartbeats 2000000 in
set_option maxRecDepth 100000 in
theorem put_run {w : World} (b c n cap0 most : Nat) (ad : Option Addr) (xs : List Value) (hc : IntKind.u8.wrap (c : Int) = (c : Int)) (hn : n ≤ 10000) (hl : n ≠ most) (hb : b < w.heap.size)
    (hc1 : w.cell? ⟨b, 1, none⟩ = some (.slice ad n cap0)) (hc2 : w.cell? ⟨b, 2, none⟩ = some (.int .i64 (most : Int))) (hf : w.frozen? ⟨b, 1, none⟩ = false) (hown : w.ownsRow (b + 1) 5 1 (.slice ad n cap0) n xs) :
    Calls Try.prog 57 #[.pointer (some ⟨b, 0, none⟩), .int .u8 (c : Int)] w fun e w' => e = .returned (.int .i64 0) ∧
      ∃ g cap w1, w1.ownsRow (b + 1) 5 1 (.slice (some ⟨g, 0, none⟩) (n + 1) cap) (n + 1) (xs ++ [.int .u8 (c : Int)]) ∧ Keeps (fun k => (Value.slice ad n cap0).ownBlock = some k) w w1 ∧
        ((Value.slice ad n cap0).ownBlock = some g ∨ w.heap.size ≤ g) ∧ g < w1.heap.size ∧ w' = w1.setCell ⟨b, 1, none⟩ (.slice (some ⟨g, 0, none⟩) (n + 1) cap) := by
  obtain ⟨i0, hi, hz0, hz1, hz2⟩ := info_parts info5
  have hlow : ∀ k, (Value.slice ad n cap0).ownBlock = some k → b + 1 ≤ k := fun k hk => (hown.lt k hk).1
  have hne : some b ≠ (Value.slice ad n cap0).ownBlock := fun h => by have := hlow b h.symm; omega
  have HO : Hid (w.ownsRow (b + 1) 5 1 (.slice ad n cap0) n xs) := hown
  have hq : (((n : Nat) : Int) == ((most : Nat) : Int)) = false := by simp; omega
  clear hown hlow hl
  go_enter Try.func57, Try.ntmps57
  go_wp2
  go_quiet (fail)
  have hx1 : (w.drewN nq).cell? ⟨b, 1, none⟩ = some (.slice ad n cap0) := hc1
  go_wp2_with (refine wpList_byte rfl _ _ rfl (b + 1) (.slice ad n cap0) n xs rfl (World.ownsRow.alloc (show (w.drewN nq).ownsRow (b + 1) 5 1 (.slice ad n cap0) n xs from HO.out) _) w.heap.size c rfl (heap_alloc_new (w.drewN nq) _) (by simp; omega) (by omega) ?_; intro g cap w4 hown4 hgrow4 hat4 hlt4; have k4 : w4.cell? ⟨b, 1, none⟩ = some (.slice ad n cap0) := (hgrow4.cell_far ⟨b, 1, none⟩ (by simp; omega) hne).trans (by rw [World.cell?_alloc_past _ _ _ (show b < (w.drewN nq).heap.size from hb)]; exact hx1); have e4 : w4.frozen? ⟨b, 1, none⟩ = false := (hgrow4.frozen_far ⟨b, 1, none⟩ (by simp; omega) hne).trans (by rw [World.frozen?_alloc_past _ _ _ (show b < (w.drewN nq).heap.size from hb)]; exact hf))
  go_ret
  refine ⟨rfl, g, cap, w4, hown4, ?_, ?_, hlt4, rfl⟩
  · exact (((Keeps.refl _ w).drewN nq).alloc _).grown hgrow4 (fun k _ e => e)
  · rcases hat4 with h | h
    · exact .inl h
    · exact .inr (by subst h; simp)

theorem put_ok {w : World} {b r : Nat} {v : Value} {s : ByteArray} {most : Nat} {L : Bts} {xs : List Nat} (h : St w b r v s most L xs) (c : Nat) (hc : c < 256) (hl : xs.length ≠ most) :
    Calls Try.prog 57 #[.pointer (some ⟨b, 0, none⟩), .int .u8 (c : Int)] w fun e w' => e = .returned (.int .i64 0) ∧ ∃ v', St w' b r v' s most L (xs ++ [c]) ∧ Adv w w' b r v v' := by
  obtain ⟨a, cap0, rfl⟩ := h.own.form
  have hlim := h.lim
  have hm := h.most
  refine (put_run b c xs.length cap0 most a (xs.map byteV) (by simp [IntKind.wrap, IntKind.bits, IntKind.signed]; omega) (by omega) hl h.lt h.c1 h.c2 (h.free 1) h.own).mono ?_
  rintro e w' ⟨rfl, g, cap, w1, ho, hk, hg, hglt, rfl⟩
  refine ⟨rfl, .slice (some ⟨g, 0, none⟩) (xs.length + 1) cap, ?_⟩
  have hk2 : Keeps (Own3 b r (.slice a xs.length cap0)) w (w1.setCell ⟨b, 1, none⟩ (.slice (some ⟨g, 0, none⟩) (xs.length + 1) cap)) := (hk.mono (S' := Own3 b r (.slice a xs.length cap0)) (fun _ _ e => Or.inr (Or.inr e))).setCell (p := ⟨b, 1, none⟩) (fun _ => Or.inl rfl) _
  have hgb : b < g := by
    rcases hg with hg | hg
    · exact (h.ownlt g hg).1
    · have := h.lt; omega
  have ha : Adv w (w1.setCell ⟨b, 1, none⟩ (.slice (some ⟨g, 0, none⟩) (xs.length + 1) cap)) b r (.slice a xs.length cap0) (.slice (some ⟨g, 0, none⟩) (xs.length + 1) cap) := by
    refine ⟨hk2, ?_⟩
    rcases hg with hg | hg
    · exact .inl hg.symm
    · exact .inr ⟨g, rfl, hg⟩
  have hrb := h.rb
  obtain ⟨u, h1, h2⟩ := h.blk
  obtain ⟨p, p1, p2, p3⟩ := h.rd
  have hb1 : w1.heap[b]? = some (.cells #[.pointer (some ⟨r, 0, none⟩), .slice a xs.length cap0, .int .i64 (most : Int), u] 72 (0, 0)) := (hk.block b h.lt (fun e => by have := (h.ownlt b e).1; omega)).trans h1
  have k3 : Keeps (fun k => (Value.slice a xs.length cap0).ownBlock = some k ∨ k = b) w (w1.setCell ⟨b, 1, none⟩ (.slice (some ⟨g, 0, none⟩) (xs.length + 1) cap)) := (hk.mono (S' := fun k => (Value.slice a xs.length cap0).ownBlock = some k ∨ k = b) (fun _ _ e => Or.inl e)).setCell (p := ⟨b, 1, none⟩) (fun _ => Or.inr rfl) _
  refine ⟨⟨⟨u, ?_, h2.adv ha⟩, ⟨p, p1.kept k3 ?_, p2, p3⟩, ?_, h.rb, h.sz, by rw [List.length_append]; simp; omega, h.most, fun x hx => by
    rcases List.mem_append.1 hx with hx | hx
    · exact h.byt x hx
    · rw [List.mem_singleton] at hx; omega⟩, ha⟩
  · rw [heap_setCell_same hb1]; rfl
  · rintro (e | e)
    · have := (h.ownlt r e).1; omega
    · omega
  · have := owns_far ho (p := ⟨b, 1, none⟩) (by simp [Value.ownBlock]; omega) (.slice (some ⟨g, 0, none⟩) (xs.length + 1) cap)
    unfold OwnB
    rw [List.map_append, List.length_append]
    exact this

end Go.Proofs.Ytfbghchgfbjogaa

namespace Go.Proofs.Ytfbghchgfbjogaa
open Go.RowKit
open Hf Tb
set_option linter.unusedVariables false
set_option linter.unusedSimpArgs false

theorem findL_eq (ys : List Int) (k v : Nat) (h1 : 1 ≤ k) (h2 : k ≤ 15) : findL ys (k : Int) (v : Int) = if fstC (cn ys) k ≤ v then (symF (k : Int) ys 0)[v - fstC (cn ys) k]? else none := by
  unfold findL
  have e1 : (decide (1 ≤ (k : Int)) && decide ((k : Int) ≤ 15)) = true := by simp; omega
  rw [e1, cond_true, show ((k : Int)).toNat = k by omega]
  by_cases h : fstC (cn ys) k ≤ v
  · rw [if_pos h, decide_eq_true (by omega), cond_true, nthL_sym, show ((v : Int) - (fstC (cn ys) k : Int)).toNat = v - fstC (cn ys) k by omega]
  · rw [if_neg h, decide_eq_false (by omega), cond_false]

set_option maxHeartbeats 800000 in
set_option maxRecDepth 100000 in
theorem find_none {w : World} {lo hi f : Nat} {ys : List Int} (h : Fnd w lo hi f ys) (k v : Nat) (h1 : 1 ≤ k) (h2 : k ≤ 15) (hv : v ≤ 1000000) (hn : findL ys (k : Int) (v : Int) = none) :
    Calls Try.prog 64 #[.pointer (some ⟨f, 0, none⟩), .int .i64 (k : Int), .int .i64 (v : Int)] w fun e w' => e = .returned (.tuple #[.int .i64 0, .bool false]) ∧ w' = w := by
  obtain ⟨_, _, _, h4⟩ := h
  obtain ⟨F, ad, cap, c1, c2, c3, c4, c5⟩ := h4 k h1 h2
  rw [findL_eq ys k v h1 h2] at hn
  have hk : (k : Int) < 16 := by omega
  have hk0 : (0 : Int) ≤ k := by omega
  generalize hz : symF (k : Int) ys 0 = zs at *
  by_cases hlt : v < F
  · have hl : (v : Int) - F < 0 := by omega
    clear c3 c5 hn h4 hz
    go_enter Try.func64, Try.ntmps64
    go_wp2
    go_ret2
    exact ⟨rfl, rfl⟩
  · have hl : ¬ (v : Int) - F < 0 := by omega
    have hg : (zs.length : Int) ≤ (v : Int) - F := by
      by_cases he : zs = []
      · subst he; simp; omega
      · have := c3 he
        rw [if_pos (by omega), List.getElem?_eq_none_iff] at hn
        omega
    have hge : decide ((zs.length : Int) ≤ (v : Int) - F) = true := decide_eq_true hg
    clear c3 c5 hn h4 hz
    generalize zs.length = n at *
    go_enter Try.func64, Try.ntmps64
    go_wp2
    go_ret2
    exact ⟨rfl, rfl⟩

set_option maxHeartbeats 800000 in
set_option maxRecDepth 100000 in
theorem find_some {w : World} {lo hi f : Nat} {ys : List Int} (h : Fnd w lo hi f ys) (k v i : Nat) (h1 : 1 ≤ k) (h2 : k ≤ 15) (hv : v ≤ 1000000) (hn : findL ys (k : Int) (v : Int) = some i) :
    Calls Try.prog 64 #[.pointer (some ⟨f, 0, none⟩), .int .i64 (k : Int), .int .i64 (v : Int)] w fun e w' => e = .returned (.tuple #[.int .i64 (i : Int), .bool true]) ∧ w' = w := by
  obtain ⟨_, _, _, h4⟩ := h
  obtain ⟨F, ad, cap, c1, c2, c3, c4, c5⟩ := h4 k h1 h2
  rw [findL_eq ys k v h1 h2] at hn
  have hk : (k : Int) < 16 := by omega
  have hk0 : (0 : Int) ≤ k := by omega
  generalize hz : symF (k : Int) ys 0 = zs at *
  by_cases hF : fstC (cn ys) k ≤ v
  · rw [if_pos hF] at hn
    have he : zs ≠ [] := fun e => by subst e; simp at hn
    have eF := c3 he
    rw [← eF] at hF hn
    obtain ⟨hj, hi⟩ := List.getElem?_eq_some_iff.1 hn
    obtain ⟨g, rfl, _, _, hc⟩ := c5 (v - F) hj
    rw [hi] at hc
    obtain ⟨j, hjv⟩ : ∃ j : Nat, (v : Int) - F = (j : Int) := ⟨v - F, by omega⟩
    have ej : v - F = j := by omega
    rw [ej] at hc hj
    have hj2 : (j : Int) < (zs.length : Int) := by omega
    have hl : ¬ (v : Int) - F < 0 := by omega
    have hl2 : ¬ (j : Int) < 0 := by omega
    have hge : ¬ ((zs.length : Int) ≤ (j : Int)) := by omega
    have hw : IntKind.i64.wrap ((v : Int) - F) = (j : Int) := by rw [hjv]; exact wrap_i64_small _ (by omega) (by omega)
    have hw2 : wrap64 ((v : Int) - F) = (j : Int) := by rw [hjv]; unfold wrap64; omega
    clear c3 c5 hn h4 hz hi he eF ej
    generalize zs.length = n at *
    go_enter Try.func64, Try.ntmps64
    go_wp2
    go_ret2
    exact ⟨rfl, rfl⟩
  · rw [if_neg hF] at hn; cases hn

theorem or_one (v : Nat) (b : Bool) (hv : v ≤ 1000000) : bits .or .i64 ((2 * v : Nat) : Int) ((b.toNat : Nat) : Int) = ((2 * v + b.toNat : Nat) : Int) := by
  rw [i64_or_nat _ _ (by omega) (by cases b <;> simp)]
  congr 1
  have : b.toNat < 2 ^ 1 := by cases b <;> simp
  have := Nat.two_pow_add_eq_or_of_lt this v
  rw [Nat.pow_one] at this; exact this.symm

/-- What a call leaves that reads the next symbol, or a number. -/
def NumPost (R : Option (Nat × Bts)) (w : World) (b r : Nat) (v : Value) (s : ByteArray) (most : Nat) (xs : List Nat) (e : Ending) (w' : World) : Prop :=
  (R = none → e = .returned (.tuple #[.int .i64 0, .int .i64 700]) ∧ Keeps (Own3 b r v) w w') ∧
  ∀ i L', R = some (i, L') → e = .returned (.tuple #[.int .i64 (i : Int), .int .i64 0]) ∧ St w' b r v s most L' xs ∧ Rdv w w' b r v

set_option maxHeartbeats 2000000 in
set_option maxRecDepth 100000 in
theorem symbol_ok {w : World} {b r : Nat} {v : Value} {s : ByteArray} {most : Nat} {L : Bts} {xs : List Nat} (h : St w b r v s most L xs) {lo hi f : Nat} {ys : List Int} (hf : Fnd w lo hi f ys) (ha : Away lo hi b r v) :
    Calls Try.prog 58 #[.pointer (some ⟨b, 0, none⟩), .pointer (some ⟨f, 0, none⟩)] w (NumPost (symN ys L) w b r v s most xs) := by
  have HF : Hid (∀ w', Rdv w w' b r v → Fnd w' lo hi f ys) := fun w' k => hf.kept k.keep ha.not
  have H0 : Hid (St w b r v s most L xs) := h
  obtain ⟨R, hR⟩ : ∃ R, symN ys L = R := ⟨_, rfl⟩
  rw [hR]
  have HR : Hid (symN ys L = R) := hR
  clear hf ha h hR
  go_enter Try.func58, Try.ntmps58
  go_wp2
  go_loopw [6, 7] (fun s6 s7 w' => ∃ (k x : Nat) (L1 : Bts), k ≤ 15 ∧ s7 = .int .i64 ((k + 1 : Nat) : Int) ∧ s6 = .int .i64 (x : Int) ∧ Hid (x < 2 ^ k ∧ symG ys (15 - k) k x L1 = R ∧ St w' b r v s most L1 xs ∧ Rdv w w' b r v)) (fun _ s7 _ => (16 - intOf s7).toNat)
  case atStart => exact ⟨0, 0, L, by omega, rfl, rfl, by simp, HR.out, H0.out, Rdv.refl _ _ _ _⟩
  case round =>
    obtain ⟨k, x, L1, hk, rfl, rfl, HW⟩ := hrel
    by_cases h15 : k < 15
    · have hiz : ((k + 1 : Nat) : Int) ≤ 15 := by omega
      have hx : x ≤ 32768 := by
        have h1 := HW.out.1
        have h2 : (2 : Nat) ^ k ≤ 2 ^ 15 := Nat.pow_le_pow_right (by decide) (by omega)
        omega
      have HE : Hid (symG ys ((14 - k) + 1) k x L1 = R) := by
        have := HW.out.2.1
        rw [show 15 - k = (14 - k) + 1 by omega] at this; exact this
      rcases L1 with _ | ⟨bt, L2⟩
      · have HC : Hid (Calls Try.prog 45 #[.pointer (some ⟨b, 0, none⟩), .int .i64 1] wr fun e w' => e = .returned (.tuple #[.int .i64 0, .int .i64 700]) ∧ Keeps (Own3 b r v) wr w') := number_none HW.out.2.2.1 1 (by omega) (by simp [getL])
        go_wp2_with fail
        refine HC.out.mono ?_
        rintro e w2 ⟨rfl, hw⟩
        have HK : Hid (Keeps (Own3 b r v) w w2) := HW.out.2.2.2.lost hw
        clear hw HC
        go_wp2
        go_ret2
        have hr : R = none := by rw [← HE.out]; rfl
        exact ⟨fun _ => ⟨rfl, HK.out⟩, fun i L' e => by rw [hr] at e; cases e⟩
      · have HC : Hid (Calls Try.prog 45 #[.pointer (some ⟨b, 0, none⟩), .int .i64 1] wr fun e w' => e = .returned (.tuple #[.int .i64 ((bt.toNat : Nat) : Int), .int .i64 0]) ∧ St w' b r v s most L2 xs ∧ Rdv wr w' b r v) := number_some HW.out.2.2.1 1 bt.toNat L2 (by omega) (by simp [getL, val])
        have hor : bits .or .i64 ((x : Int) * 2) ((bt.toNat : Nat) : Int) = ((2 * x + bt.toNat : Nat) : Int) := by
          have := or_one x bt (by omega)
          rw [show (((2 * x : Nat)) : Int) = (x : Int) * 2 by push_cast; omega] at this; exact this
        have hb1 : bt.toNat ≤ 1 := by cases bt <;> simp
        generalize hy : 2 * x + bt.toNat = y at *
        have HY : Hid (2 * x + bt.toNat = y) := hy
        have hy1 : y ≤ 1000000 := by omega
        clear hy
        go_wp2_with fail
        refine HC.out.mono ?_
        rintro e w2 ⟨rfl, h2, hA2⟩
        have H2 : Hid (St w2 b r v s most L2 xs ∧ Rdv w w2 b r v) := ⟨h2, HW.out.2.2.2.trans hA2⟩
        clear h2 hA2 HC
        rcases hfi : findL ys ((k + 1 : Nat) : Int) (y : Int) with _ | i
        · have HC2 : Hid (Calls Try.prog 64 #[.pointer (some ⟨f, 0, none⟩), .int .i64 ((k : Int) + 1), .int .i64 (y : Int)] w2 fun e w' => e = .returned (.tuple #[.int .i64 0, .bool false]) ∧ w' = w2) := find_none (HF.out w2 H2.out.2) (k + 1) y (by omega) (by omega) hy1 hfi
          have HFI : Hid (findL ys ((k + 1 : Nat) : Int) (y : Int) = none) := hfi
          clear hfi
          go_wp2_with (first | (go_at_call 64; refine HC2.out.mono ?_; rintro e w3 ⟨rfl, hw3⟩; obtain rfl := hw3.symm; clear hw3))
          go_roundw
          case rel =>
            refine ⟨k + 1, y, L2, by omega, by push_cast; rfl, rfl, ?_, ?_, H2.out.1, H2.out.2⟩
            · have := HW.out.1; have := HY.out; rw [Nat.pow_succ]; omega
            · have := HE.out
              rw [symG, HY.out, HFI.out] at this
              rw [show 15 - (k + 1) = 14 - k by omega]; exact this
          case measure => simp [intOf]; omega
        · have HC2 : Hid (Calls Try.prog 64 #[.pointer (some ⟨f, 0, none⟩), .int .i64 ((k : Int) + 1), .int .i64 (y : Int)] w2 fun e w' => e = .returned (.tuple #[.int .i64 (i : Int), .bool true]) ∧ w' = w2) := find_some (HF.out w2 H2.out.2) (k + 1) y i (by omega) (by omega) hy1 hfi
          have HFI : Hid (findL ys ((k + 1 : Nat) : Int) (y : Int) = some i) := hfi
          clear hfi
          go_wp2_with (first | (go_at_call 64; refine HC2.out.mono ?_; rintro e w3 ⟨rfl, hw3⟩; obtain rfl := hw3.symm; clear hw3))
          go_ret2
          have hr : R = some (i, L2) := by
            rw [← HE.out, symG, HY.out, HFI.out]
          exact ⟨(fun e => by rw [hr] at e; cases e), fun i' L' e => by rw [hr] at e; cases e; exact ⟨rfl, H2.out⟩⟩
    · obtain rfl : k = 15 := by omega
      go_wp2
      go_ret2
      have hr : R = none := by rw [← HW.out.2.1]; rfl
      exact ⟨fun _ => ⟨rfl, HW.out.2.2.2.keep⟩, fun i L' e => by rw [hr] at e; cases e⟩

end Go.Proofs.Ytfbghchgfbjogaa

namespace Go.Proofs.Ytfbghchgfbjogaa
open Go.RowKit
open Hf Tb
set_option linter.unusedVariables false
set_option linter.unusedSimpArgs false

theorem NumPost.trans {R : Option (Nat × Bts)} {w w2 : World} {b r : Nat} {v : Value} {s : ByteArray} {most : Nat} {xs : List Nat} {e : Ending} {w' : World} (ha : Rdv w w2 b r v) (h : NumPost R w2 b r v s most xs e w') : NumPost R w b r v s most xs e w' :=
  ⟨fun hn => ⟨(h.1 hn).1, ha.lost (h.1 hn).2⟩, fun i L' hs => by obtain ⟨h1, h2, h3⟩ := h.2 i L' hs; exact ⟨h1, h2, ha.trans h3⟩⟩
theorem NumPost.none {w : World} {b r : Nat} {v : Value} {s : ByteArray} {most : Nat} {xs : List Nat} {w' : World} (h : Keeps (Own3 b r v) w w') : NumPost none w b r v s most xs (.returned (.tuple #[.int .i64 0, .int .i64 700])) w' :=
  ⟨fun _ => ⟨rfl, h⟩, fun _ _ e => by cases e⟩
theorem above_ok {w : World} {b r : Nat} {v : Value} {s : ByteArray} {most : Nat} {L : Bts} {xs : List Nat} (h : St w b r v s most L xs) (a k : Nat) (ha : a ≤ 100000) (hk : k ≤ 16) :
    Calls Try.prog 72 #[.pointer (some ⟨b, 0, none⟩), .int .i64 (a : Int), .int .i64 (k : Int)] w (NumPost (aboveL a k L) w b r v s most xs) := by
  rcases hg : aboveL a k L with _ | ⟨x, L'⟩
  · refine (above_none h a k hk hg).mono ?_
    rintro e w' ⟨rfl, h2⟩
    exact NumPost.none h2
  · refine (above_some h a k x L' ha hk hg).mono ?_
    rintro e w' ⟨rfl, h2⟩
    exact ⟨fun e => by (cases e), fun i L1 e => by cases e; exact ⟨rfl, h2⟩⟩

set_option maxHeartbeats 800000 in
theorem spreadL_ok {w : World} {b r : Nat} {v : Value} {s : ByteArray} {most : Nat} {L : Bts} {xs : List Nat} (h : St w b r v s most L xs) (i : Nat) :
    Calls Try.prog 65 #[.pointer (some ⟨b, 0, none⟩), .int .i64 (i : Int), .func (.func 66) #[] #[]] w (NumPost (sprL i L) w b r v s most xs) := by
  have HS : Hid (St w b r v s most L xs) := h
  clear h
  by_cases hi : 257 ≤ i ∧ i ≤ 285
  · have HC : Hid (Calls Try.prog 66 #[.int .i64 (i : Int)] w fun e w' => e = .returned (.tuple #[.int .i64 ((lenF (i - 257)).1 : Int), .int .i64 ((lenF (i - 257)).2 : Int), .int .i64 0]) ∧ Keeps (fun _ => False) w w') := by
      have := lengthOf_ok (i : Int) w
      have e : inLS (i : Int) = true := by unfold inLS; simp; omega
      unfold ofL at this
      rw [e, if_pos rfl, show ((i : Int) - 257).toNat = i - 257 by omega] at this
      exact this
    have HL : Hid ((lenF (i - 257)).1 ≤ 258 ∧ (lenF (i - 257)).2 ≤ 5) := lenF_le (i - 257) (by omega)
    have HE : Hid (sprL i = aboveL (lenF (i - 257)).1 (lenF (i - 257)).2) := by unfold sprL; exact if_pos hi
    rw [HE.out]
    generalize (lenF (i - 257)).1 = p at *
    generalize (lenF (i - 257)).2 = q at *
    clear hi HE
    go_enter Try.func65, Try.ntmps65
    go_wp2_with fail
    refine HC.out.mono ?_
    rintro e w2 ⟨rfl, hk2⟩
    have HA : Hid (St w2 b r v s most L xs ∧ Rdv w w2 b r v) := ⟨HS.out.keptF hk2, Rdv.ofF b r v hk2⟩
    clear hk2 HC
    go_wp2_with fail
    refine (above_ok HA.out.1 p q (by have := HL.out; omega) (by have := HL.out; omega)).mono ?_
    intro e w3 hP
    have HP : Hid (NumPost (aboveL p q L) w b r v s most xs e w3) := hP.trans HA.out.2
    clear hP
    rcases ha : aboveL p q L with _ | ⟨x, L1⟩
    · have HPn := HP.out.1 ha
      obtain ⟨rfl, hk⟩ := HPn
      clear hk ha
      go_wp2
      go_ret2
      exact HP.out
    · have HPn := HP.out.2 x L1 ha
      obtain ⟨rfl, hk⟩ := HPn
      clear hk ha
      go_wp2
      go_ret2
      exact HP.out
  · have HC : Hid (Calls Try.prog 66 #[.int .i64 (i : Int)] w fun e w' => e = .returned (.tuple #[.int .i64 0, .int .i64 0, .int .i64 600]) ∧ Keeps (fun _ => False) w w') := by
      have := lengthOf_ok (i : Int) w
      have e : inLS (i : Int) = false := by unfold inLS; simp; omega
      unfold ofL at this
      rw [e] at this
      exact this
    have HE : Hid (sprL i L = none) := by unfold sprL; rw [if_neg hi]; rfl
    rw [HE.out]
    clear hi HE
    go_enter Try.func65, Try.ntmps65
    go_wp2_with fail
    refine HC.out.mono ?_
    rintro e w2 ⟨rfl, hk2⟩
    have HA : Hid (Keeps (Own3 b r v) w w2) := (Adv.ofF b r v hk2).keep
    clear hk2 HC
    go_wp2
    go_ret2
    exact NumPost.none HA.out

set_option maxHeartbeats 800000 in
theorem spreadD_ok {w : World} {b r : Nat} {v : Value} {s : ByteArray} {most : Nat} {L : Bts} {xs : List Nat} (h : St w b r v s most L xs) (i : Nat) :
    Calls Try.prog 65 #[.pointer (some ⟨b, 0, none⟩), .int .i64 (i : Int), .func (.func 67) #[] #[]] w (NumPost (sprD i L) w b r v s most xs) := by
  have HS : Hid (St w b r v s most L xs) := h
  clear h
  by_cases hi : i ≤ 29
  · have HC : Hid (Calls Try.prog 67 #[.int .i64 (i : Int)] w fun e w' => e = .returned (.tuple #[.int .i64 ((dstF i).1 : Int), .int .i64 ((dstF i).2 : Int), .int .i64 0]) ∧ Keeps (fun _ => False) w w') := by
      have := distOf_ok (i : Int) w
      have e : inDS (i : Int) = true := by unfold inDS; simp; omega
      unfold ofD at this
      rw [e, if_pos rfl, show ((i : Int)).toNat = i by omega] at this
      exact this
    have HL : Hid ((dstF i).1 ≤ 24577 ∧ (dstF i).2 ≤ 13) := dstF_le i hi
    have HE : Hid (sprD i = aboveL (dstF i).1 (dstF i).2) := by unfold sprD; exact if_pos hi
    rw [HE.out]
    generalize (dstF i).1 = p at *
    generalize (dstF i).2 = q at *
    clear hi HE
    go_enter Try.func65, Try.ntmps65
    go_wp2_with fail
    refine HC.out.mono ?_
    rintro e w2 ⟨rfl, hk2⟩
    have HA : Hid (St w2 b r v s most L xs ∧ Rdv w w2 b r v) := ⟨HS.out.keptF hk2, Rdv.ofF b r v hk2⟩
    clear hk2 HC
    go_wp2_with fail
    refine (above_ok HA.out.1 p q (by have := HL.out; omega) (by have := HL.out; omega)).mono ?_
    intro e w3 hP
    have HP : Hid (NumPost (aboveL p q L) w b r v s most xs e w3) := hP.trans HA.out.2
    clear hP
    rcases ha : aboveL p q L with _ | ⟨x, L1⟩
    · have HPn := HP.out.1 ha
      obtain ⟨rfl, hk⟩ := HPn
      clear hk ha
      go_wp2
      go_ret2
      exact HP.out
    · have HPn := HP.out.2 x L1 ha
      obtain ⟨rfl, hk⟩ := HPn
      clear hk ha
      go_wp2
      go_ret2
      exact HP.out
  · have HC : Hid (Calls Try.prog 67 #[.int .i64 (i : Int)] w fun e w' => e = .returned (.tuple #[.int .i64 0, .int .i64 0, .int .i64 600]) ∧ Keeps (fun _ => False) w w') := by
      have := distOf_ok (i : Int) w
      have e : inDS (i : Int) = false := by unfold inDS; simp; omega
      unfold ofD at this
      rw [e] at this
      exact this
    have HE : Hid (sprD i L = none) := by unfold sprD; rw [if_neg hi]; rfl
    rw [HE.out]
    clear hi HE
    go_enter Try.func65, Try.ntmps65
    go_wp2_with fail
    refine HC.out.mono ?_
    rintro e w2 ⟨rfl, hk2⟩
    have HA : Hid (Keeps (Own3 b r v) w w2) := (Adv.ofF b r v hk2).keep
    clear hk2 HC
    go_wp2
    go_ret2
    exact NumPost.none HA.out

end Go.Proofs.Ytfbghchgfbjogaa

namespace Go.Proofs.Ytfbghchgfbjogaa
open Go.RowKit
open Hf Tb
set_option linter.unusedVariables false
set_option linter.unusedSimpArgs false

/-- What a call leaves that reads on and tells more of the text. -/
def RsPost (R : Rs) (w : World) (b r : Nat) (v : Value) (s : ByteArray) (most : Nat) (e : Ending) (w' : World) : Prop :=
  (∀ x, R = .error x → e = .returned (.int .i64 x) ∧ Keeps (Own3 b r v) w w') ∧
  ∀ L' o', R = .ok (L', o') → e = .returned (.int .i64 0) ∧ ∃ v', St w' b r v' s most L' o' ∧ Adv w w' b r v v'
theorem RsPost.trans {R : Rs} {w w2 : World} {b r : Nat} {v v2 : Value} {s : ByteArray} {most : Nat} {e : Ending} {w' : World} (ha : Adv w w2 b r v v2) (h : RsPost R w2 b r v2 s most e w') : RsPost R w b r v s most e w' :=
  ⟨fun x hx => ⟨(h.1 x hx).1, ha.lost (h.1 x hx).2⟩, fun L' o' hs => by obtain ⟨h1, v', h2, h3⟩ := h.2 L' o' hs; exact ⟨h1, v', h2, ha.trans h3⟩⟩
theorem RsPost.bad {x : Int} {w : World} {b r : Nat} {v : Value} {s : ByteArray} {most : Nat} {w' : World} (h : Keeps (Own3 b r v) w w') : RsPost (.error x) w b r v s most (.returned (.int .i64 x)) w' :=
  ⟨fun y e => by cases e; exact ⟨rfl, h⟩, fun _ _ e => by cases e⟩
theorem RsPost.good {L' : Bts} {o' : List Nat} {w : World} {b r : Nat} {v v' : Value} {s : ByteArray} {most : Nat} {w' : World} (h : St w' b r v' s most L' o') (k : Adv w w' b r v v') : RsPost (.ok (L', o')) w b r v s most (.returned (.int .i64 0)) w' :=
  ⟨fun y e => by (cases e), fun _ _ e => by cases e; exact ⟨rfl, v', h, k⟩⟩
theorem put_rs {w : World} {b r : Nat} {v : Value} {s : ByteArray} {most : Nat} {L : Bts} {xs : List Nat} (h : St w b r v s most L xs) (c : Nat) (hc : c < 256) :
    Calls Try.prog 57 #[.pointer (some ⟨b, 0, none⟩), .int .u8 (c : Int)] w (RsPost (mapE (put1 most c) L xs) w b r v s most) := by
  by_cases hl : xs.length = most
  · have e : mapE (put1 most c) L xs = .error 701 := by simp [mapE, put1, hl]
    rw [e]
    exact (put_long h c hl).mono (fun e w' ⟨h1, h2⟩ => by subst h1; exact RsPost.bad h2)
  · have e : mapE (put1 most c) L xs = .ok (L, xs ++ [c]) := by simp [mapE, put1, hl]
    rw [e]
    exact (put_ok h c hc hl).mono (fun e w' ⟨h1, v', h2, h3⟩ => by subst h1; exact RsPost.good h2 h3)

theorem St.bytes {w : World} {b r : Nat} {v : Value} {s : ByteArray} {most : Nat} {L : Bts} {xs : List Nat} (h : St w b r v s most L xs) (i : Nat) (hi : i < xs.length) : ∃ g cap, v = .slice (some ⟨g, 0, none⟩) xs.length cap ∧ w.cell? ⟨g, i, none⟩ = some (.int .u8 (xs[i] : Int)) := h.own.cell i hi

set_option maxHeartbeats 8000000 in
set_option maxRecDepth 1000000 in
theorem copy_loop {w : World} {b r : Nat} {v : Value} {s : ByteArray} {most : Nat} {L : Bts} {xs : List Nat} (h : St w b r v s most L xs) (n d : Nat) (hn : n ≤ 1000) (hd1 : 1 ≤ d) (hd : d ≤ xs.length) :
    Calls Try.prog 68 #[.pointer (some ⟨b, 0, none⟩), .int .i64 (n : Int), .int .i64 (d : Int)] w (RsPost (mapE (cpy most d n) L xs) w b r v s most) := by
  obtain ⟨a0, cap0, hv0⟩ := h.own.form
  have hc1 : w.cell? ⟨b, 1, none⟩ = some (.slice a0 xs.length cap0) := hv0 ▸ h.c1
  have hlx : xs.length ≤ 8192 := Nat.le_trans h.lim h.most
  have hdl : ¬ ((xs.length : Nat) : Int) < (d : Int) := by omega
  obtain ⟨R, hR⟩ : ∃ R, mapE (cpy most d n) L xs = R := ⟨_, rfl⟩
  rw [hR]
  have H0 : Hid (∃ ys v', mapE (cpy most d n) L ys = R ∧ d ≤ ys.length ∧ St w b r v' s most L ys ∧ Adv w w b r v v') := ⟨xs, v, hR, hd, h, Adv.refl _ _ _ _⟩
  clear hv0 h hR
  generalize xs.length = N at *
  go_enter Try.func68, Try.ntmps68
  go_wp2
  clear hc1 hdl
  go_loopw [16] (fun s16 w' => ∃ j : Nat, j ≤ n ∧ s16 = .int .i64 (j : Int) ∧ Hid (∃ ys v', mapE (cpy most d (n - j)) L ys = R ∧ d ≤ ys.length ∧ St w' b r v' s most L ys ∧ Adv w w' b r v v')) (fun s16 _ => ((n : Int) - intOf s16).toNat)
  case atStart => exact ⟨0, by omega, rfl, H0⟩
  case round =>
    clear H0
    obtain ⟨j, hj, rfl, HW⟩ := hrel
    by_cases hjn : j < n
    · have hjz : (j : Int) < (n : Int) := by omega
      obtain ⟨ys, v', hE, hdy, hS, hA⟩ := HW.out
      clear HW
      have hly : ys.length ≤ 8192 := Nat.le_trans hS.lim hS.most
      obtain ⟨i, hi⟩ : ∃ i, ys.length - d = i := ⟨_, rfl⟩
      have hil : i < ys.length := by omega
      obtain ⟨g, cap, rfl, hcell⟩ := hS.bytes i hil
      have hcb : wr.cell? ⟨b, 1, none⟩ = some (.slice (some ⟨g, 0, none⟩) ys.length cap) := hS.c1
      obtain ⟨c, hc⟩ : ∃ c, ys[i] = c := ⟨_, rfl⟩
      rw [hc] at hcell
      have hc256 : c < 256 := by rw [← hc]; exact hS.byt _ (List.getElem_mem hil)
      have hgd : ys.getD (ys.length - d) 0 = c := by rw [hi, List.getD_eq_getElem?_getD, List.getElem?_eq_getElem hil, hc]; rfl
      have hS1 : St wr.drew b r (.slice (some ⟨g, 0, none⟩) ys.length cap) s most L ys := ⟨hS.blk, hS.rd, hS.own, hS.rb, hS.sz, hS.lim, hS.most, hS.byt⟩
      have hA1 : Adv w wr.drew b r v (.slice (some ⟨g, 0, none⟩) ys.length cap) := ⟨hA.keep.drew, hA.own⟩
      have hE2 : mapE (cpy most d (n - j)) L ys = seqE (mapE (put1 most c)) (mapE (cpy most d (n - (j + 1)))) L ys := by
        rw [show n - j = (n - (j + 1)) + 1 by omega]
        simp only [mapE, cpy, seqE, put1, hgd]
        by_cases hl : ys.length = most <;> simp [hl]
      have hw1 : IntKind.i64.wrap ((ys.length : Int) - (d : Int)) = (i : Int) := by rw [wrap_i64_small _ (by omega) (by omega)]; omega
      have hw2 : wrap64 ((ys.length : Int) - (d : Int)) = (i : Int) := by unfold wrap64; omega
      have hw3 : (ys.length : Int) - (d : Int) = (i : Int) := by omega
      have hi1 : (i : Int) < (ys.length : Int) := by omega
      by_cases hl : ys.length = most
      · have HC : Hid (Calls Try.prog 57 #[.pointer (some ⟨b, 0, none⟩), .int .u8 (c : Int)] wr.drew fun e w' => e = .returned (.int .i64 701) ∧ Keeps (Own3 b r v) w w') := (put_long hS1 c hl).mono (fun e w' h => ⟨h.1, hA1.lost h.2⟩)
        have hRe : R = .error 701 := by rw [← hE, hE2]; simp [seqE, mapE, put1, hl]
        subst hRe
        clear hS1 hA1 hE2 hE hS hA hgd hl hc
        have HI : Hid (ys.length - d = i) := hi
        clear hi hw3 hil hdy
        generalize ys.length = M at *
        go_wp2
        go_region_with (go_at_call 57; refine HC.out.mono ?_; rintro e w5 ⟨rfl, hk5⟩; have H5 : Hid (Keeps (Own3 b r v) w w5) := hk5; clear hk5)
        all_goals
          clear HC
          go_wp2
          go_ret
          exact RsPost.bad H5.out
      · have HC : Hid (Calls Try.prog 57 #[.pointer (some ⟨b, 0, none⟩), .int .u8 (c : Int)] wr.drew fun e w' => e = .returned (.int .i64 0) ∧ ∃ ys v', mapE (cpy most d (n - (j + 1))) L ys = R ∧ d ≤ ys.length ∧ St w' b r v' s most L ys ∧ Adv w w' b r v v') := (put_ok hS1 c hc256 hl).mono (fun e w' h => by
          obtain ⟨h1, v2, h2, h3⟩ := h
          refine ⟨h1, ys ++ [c], v2, ?_, by simp; omega, h2, hA1.trans h3⟩
          rw [← hE, hE2]; simp [seqE, mapE, put1, hl])
        clear hS1 hA1 hE2 hE hS hA hgd hl hc
        have HI : Hid (ys.length - d = i) := hi
        clear hi hw3 hil hdy
        generalize ys.length = M at *
        go_wp2
        go_region_with (go_at_call 57; refine HC.out.mono ?_; rintro e w5 ⟨rfl, hk5⟩; have H5 : Hid (∃ ys v', mapE (cpy most d (n - (j + 1))) L ys = R ∧ d ≤ ys.length ∧ St w5 b r v' s most L ys ∧ Adv w w5 b r v v') := hk5; clear hk5)
        all_goals
          clear HC
          go_wp2
          go_roundw
          case rel => exact ⟨j + 1, by omega, by push_cast; rfl, H5⟩
          case measure => simp [intOf]; omega
    · obtain rfl : j = n := by omega
      go_wp2
      go_ret
      obtain ⟨ys, v', hE, hdy, hS, hA⟩ := HW.out
      rw [Nat.sub_self] at hE
      rw [← hE]
      exact RsPost.good hS hA

set_option maxHeartbeats 800000 in
theorem putCopy_ok {w : World} {b r : Nat} {v : Value} {s : ByteArray} {most : Nat} {L : Bts} {xs : List Nat} (h : St w b r v s most L xs) (n d : Nat) (hn : n ≤ 1000) (hd1 : 1 ≤ d) (hd : d ≤ 100000) :
    Calls Try.prog 68 #[.pointer (some ⟨b, 0, none⟩), .int .i64 (n : Int), .int .i64 (d : Int)] w (RsPost (mapE (putC most n d) L xs) w b r v s most) := by
  by_cases hx : xs.length < d
  · have e : mapE (putC most n d) L xs = .error 700 := by simp [mapE, putC, hx]
    rw [e]
    obtain ⟨a0, cap0, hv0⟩ := h.own.form
    have hc1 : w.cell? ⟨b, 1, none⟩ = some (.slice a0 xs.length cap0) := hv0 ▸ h.c1
    have hlx : xs.length ≤ 8192 := Nat.le_trans h.lim h.most
    have hdl : ((xs.length : Nat) : Int) < (d : Int) := by omega
    clear h hv0 e hx
    generalize xs.length = N at *
    go_enter Try.func68, Try.ntmps68
    go_wp2
    go_ret
    exact RsPost.bad (Keeps.refl _ _)
  · have e : mapE (putC most n d) L xs = mapE (cpy most d n) L xs := by simp [mapE, putC, hx]
    rw [e]
    exact copy_loop h n d hn hd1 (by omega)

end Go.Proofs.Ytfbghchgfbjogaa

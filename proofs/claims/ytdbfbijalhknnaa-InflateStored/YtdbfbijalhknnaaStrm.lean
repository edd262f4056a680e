/-
  A stream that is read: what lies where in memory, and the contracts of number, above and put of package inflate.
-/
import Derived.Test.YtdbfbijalhknnaaRdGets
import Derived.Test.YtdbfbijalhknnaaInfl
import Derived.Test.YtdbfbijalhknnaaHCodes
import Derived.Test.YtdbfbijalhknnaaTFix
import Derived.Test.YtdbfbijalhknnaaTSym
import Derived.Deep.RegionLaw
namespace Go.Proofs.Ytdbfbijalhknnaa
open Go.RowKit
open Hf Tb
set_option linter.unusedVariables false
set_option linter.unusedSimpArgs false

/-! ### Bits -/
theorem readBits_drop (s : List Nat) (n p k : Nat) (h : p + k ≤ n) : ((readBits s 0 n).drop p).take k = readBits s p k := by
  apply List.ext_getElem?
  intro i
  by_cases hi : i < k
  · rw [List.getElem?_take, if_pos hi, List.getElem?_drop]
    simp only [readBits, List.getElem?_map, List.getElem?_range hi, List.getElem?_range (show p + i < n by omega)]
    simp
  · rw [List.getElem?_eq_none (by simp; omega), List.getElem?_eq_none (by simp [readBits]; omega)]
theorem bitsL_length (s : List Nat) : (bitsL s).length = 8 * s.length := by simp [bitsL, readBits_length]

/-! ### Bytes that a call owns -/
def OwnB (w : World) (base : Nat) (v : Value) (xs : List Nat) : Prop := w.ownsRow base 5 1 v xs.length (xs.map byteV)
theorem OwnB.nil (w : World) (base : Nat) : OwnB w base (.slice none 0 0) [] := World.ownsRow_nil w base 5 1
theorem OwnB.kept {S : Nat → Prop} {w w' : World} {base : Nat} {v : Value} {xs : List Nat} (h : OwnB w base v xs) (hk : Keeps S w w') (hb : ∀ k, v.ownBlock = some k → ¬ S k) : OwnB w' base v xs :=
  owns_heap h (fun k e => hk.block k (World.ownsRow.lt h k e).2 (hb k e))
theorem OwnB.form {w : World} {base : Nat} {v : Value} {xs : List Nat} (h : OwnB w base v xs) : ∃ a cap, v = .slice a xs.length cap := by
  rcases h.2 with ⟨e, h0⟩ | ⟨g, cap, cur, e, _⟩
  · exact ⟨none, 0, by rw [e, h0]⟩
  · exact ⟨_, cap, e⟩
theorem OwnB.cell {w : World} {base : Nat} {v : Value} {xs : List Nat} (h : OwnB w base v xs) (i : Nat) (hi : i < xs.length) : ∃ g cap, v = .slice (some ⟨g, 0, none⟩) xs.length cap ∧ w.cell? ⟨g, i, none⟩ = some (.int .u8 (xs[i] : Int)) := by
  obtain ⟨g, cap, rfl, _, _⟩ := World.ownsRow.form h (by omega)
  refine ⟨g, cap, rfl, (owns_cell h i _ ?_).1⟩
  rw [List.getElem?_map, List.getElem?_eq_getElem hi]; rfl

/-! ### What a world must have (since the row of package layout is made by a call: nothing) -/
def GRow (w : World) : Prop := True
theorem GRow.kept {S : Nat → Prop} {w w' : World} (h : GRow w) (hk : Keeps S w w') : GRow w' := trivial

/-! ### Finders and books: all that they reach lies in [lo, hi) -/
/-- The places at which b stands in a row. -/
def symF (b : Int) : List Int → Nat → List Nat
  | [], _ => []
  | y :: r, i => if y = b then i :: symF b r (i + 1) else symF b r (i + 1)
theorem nthL_sym (b : Int) (ys : List Int) : ∀ k i, nthL b ys k i = (symF b ys i)[k]? := by
  induction ys with
  | nil => intro k i; simp [nthL, symF]
  | cons y r ih =>
    intro k i
    rw [nthL, symF]
    by_cases h : y = b
    · rw [if_pos h, if_pos h]
      cases k with
      | zero => simp
      | succ k => rw [if_neg (by omega), ih]; simp
    · rw [if_neg h, if_neg h, ih]
theorem symF_snoc (b : Int) (ys : List Int) (y : Int) : ∀ i, symF b (ys ++ [y]) i = symF b ys i ++ (if y = b then [i + ys.length] else []) := by
  induction ys with
  | nil => intro i; simp [symF]
  | cons z r ih =>
    intro i
    rw [List.cons_append, symF, symF, ih, List.length_cons, show i + 1 + r.length = i + (r.length + 1) by omega]
    by_cases h : z = b
    · rw [if_pos h, if_pos h, List.cons_append]
    · rw [if_neg h, if_neg h]
theorem symF_length (b : Nat) (ys : List Int) : ∀ i, (symF (b : Int) ys i).length = cnt ys b := by
  induction ys with
  | nil => intro i; simp [symF, cnt]
  | cons y r ih =>
    intro i
    rw [symF]
    unfold cnt at *
    by_cases h : y = (b : Int)
    · rw [if_pos h, List.length_cons, ih, List.countP_cons_of_pos (by simpa using h)]
    · rw [if_neg h, ih, List.countP_cons_of_neg (by simpa using h)]
theorem symF_lt (b : Int) (ys : List Int) : ∀ i, ∀ x ∈ symF b ys i, x < i + ys.length := by
  induction ys with
  | nil => intro i x hx; simp [symF] at hx
  | cons y r ih =>
    intro i x hx
    rw [symF] at hx
    by_cases h : y = b
    · rw [if_pos h, List.mem_cons] at hx
      rcases hx with rfl | hx
      · simp
      · have := ih (i + 1) x hx; simp; omega
    · rw [if_neg h] at hx
      have := ih (i + 1) x hx; simp; omega

def Fnd (w : World) (lo hi f : Nat) (ys : List Int) : Prop :=
  lo ≤ f ∧ f < hi ∧ hi ≤ w.heap.size ∧ ∀ k, 1 ≤ k → k ≤ 15 → ∃ (F : Nat) (a : Option Addr) (cap : Nat),
    w.cell? ⟨f, k, none⟩ = some (.int .i64 (F : Int)) ∧ w.cell? ⟨f, 16 + k, none⟩ = some (.slice a (symF (k : Int) ys 0).length cap) ∧
    (symF (k : Int) ys 0 ≠ [] → F = fstC (cn ys) k) ∧ F ≤ 20000000 ∧
    ∀ j (h : j < (symF (k : Int) ys 0).length), ∃ g, a = some ⟨g, 0, none⟩ ∧ lo ≤ g ∧ g < hi ∧ w.cell? ⟨g, j, none⟩ = some (.int .i64 (((symF (k : Int) ys 0)[j] : Nat) : Int))
theorem Fnd.kept {S : Nat → Prop} {w w' : World} {lo hi f : Nat} {ys : List Int} (h : Fnd w lo hi f ys) (hk : Keeps S w w') (hS : ∀ k, lo ≤ k → k < hi → ¬ S k) : Fnd w' lo hi f ys := by
  obtain ⟨h1, h2, h3, h4⟩ := h
  refine ⟨h1, h2, Nat.le_trans h3 hk.size, fun k hk1 hk2 => ?_⟩
  obtain ⟨F, a, cap, c1, c2, c3, c4, c5⟩ := h4 k hk1 hk2
  refine ⟨F, a, cap, ?_, ?_, c3, c4, fun j hj => ?_⟩
  · rw [World.cell?_of_block (hk.block f (by omega) (hS f h1 h2))]; exact c1
  · rw [World.cell?_of_block (hk.block f (by omega) (hS f h1 h2))]; exact c2
  · obtain ⟨g, e, g1, g2, g3⟩ := c5 j hj
    exact ⟨g, e, g1, g2, by rw [World.cell?_of_block (hk.block g (by omega) (hS g g1 g2))]; exact g3⟩
def Book (w : World) (lo hi q : Nat) (ys ds : List Int) : Prop :=
  ∃ f1 f2, w.heap[q]? = some (.cells #[.pointer (some ⟨f1, 0, none⟩), .pointer (some ⟨f2, 0, none⟩)] 118 (0, 0)) ∧ lo ≤ q ∧ q < hi ∧ Fnd w lo hi f1 ys ∧ Fnd w lo hi f2 ds
theorem Book.kept {S : Nat → Prop} {w w' : World} {lo hi q : Nat} {ys ds : List Int} (h : Book w lo hi q ys ds) (hk : Keeps S w w') (hS : ∀ k, lo ≤ k → k < hi → ¬ S k) : Book w' lo hi q ys ds := by
  obtain ⟨f1, f2, h1, h2, h3, h4, h5⟩ := h
  exact ⟨f1, f2, (hk.block q (lt_of_heap h1) (hS q h2 h3)).trans h1, h2, h3, h4.kept hk hS, h5.kept hk hS⟩

/-! ### A stream -/
def Away (lo hi b r : Nat) (v : Value) : Prop := (b < lo ∨ hi ≤ b) ∧ (r < lo ∨ hi ≤ r) ∧ ∀ k, v.ownBlock = some k → k < lo ∨ hi ≤ k
/-- What a stream's calls may turn. -/
def Own3 (b r : Nat) (v : Value) : Nat → Prop := fun k => k = b ∨ k = r ∨ v.ownBlock = some k
theorem Away.not {lo hi b r : Nat} {v : Value} (h : Away lo hi b r v) : ∀ k, lo ≤ k → k < hi → ¬ Own3 b r v k := by
  rintro k h1 h2 (rfl | rfl | e)
  · have := h.1; omega
  · have := h.2.1; omega
  · have := h.2.2 k e; omega
/-- The book of fixed blocks, if it is made already. -/
def Fix (w : World) (b r : Nat) (v u : Value) : Prop := u = .pointer none ∨ ∃ q lo hi, u = .pointer (some ⟨q, 0, none⟩) ∧ Book w lo hi q fixLs fiveLs ∧ Away lo hi b r v
structure St (w : World) (b r : Nat) (v : Value) (s : ByteArray) (most : Nat) (L : Bts) (xs : List Nat) : Prop where
  blk : ∃ u, w.heap[b]? = some (.cells #[.pointer (some ⟨r, 0, none⟩), v, .int .i64 (most : Int), u] 49 (0, 0)) ∧ Fix w b r v u
  rd : ∃ p, Rd 88 w r s p ∧ p ≤ 8 * s.size ∧ L = (bitsL (bytesOf s)).drop p
  own : OwnB w (b + 1) v xs
  rb : r < b
  sz : s.size ≤ 281474976710656
  lim : xs.length ≤ most
  most : most ≤ 8192
  byt : ∀ x ∈ xs, x < 256
structure Adv (w w' : World) (b r : Nat) (v v' : Value) : Prop where
  keep : Keeps (Own3 b r v) w w'
  own : v'.ownBlock = v.ownBlock ∨ ∃ g, v'.ownBlock = some g ∧ w.heap.size ≤ g
theorem Adv.refl (w : World) (b r : Nat) (v : Value) : Adv w w b r v v := ⟨Keeps.refl _ _, .inl rfl⟩
theorem Adv.trans {w w' w'' : World} {b r : Nat} {v v' v'' : Value} (h : Adv w w' b r v v') (k : Adv w' w'' b r v' v'') : Adv w w'' b r v v'' := by
  refine ⟨h.keep.trans k.keep ?_, ?_⟩
  · rintro i hi (e | e | e)
    · exact .inl e
    · exact .inr (.inl e)
    · rcases h.own with h1 | ⟨g, h1, h2⟩
      · rw [h1] at e; exact .inr (.inr e)
      · rw [h1] at e; cases e; omega
  · rcases k.own with k1 | ⟨g, k1, k2⟩
    · rw [k1]; exact h.own
    · exact .inr ⟨g, k1, Nat.le_trans h.keep.size k2⟩
theorem Adv.lost {w w' w'' : World} {b r : Nat} {v v' : Value} (h : Adv w w' b r v v') (k : Keeps (Own3 b r v') w' w'') : Keeps (Own3 b r v) w w'' :=
  (h.trans (⟨k, .inl rfl⟩ : Adv w' w'' b r v' v')).keep
theorem Adv.ofF {w w' : World} (b r : Nat) (v : Value) (h : Keeps (fun _ => False) w w') : Adv w w' b r v v := ⟨h.mono (fun _ _ h => h.elim), .inl rfl⟩
theorem Away.adv {lo hi : Nat} {w w' : World} {b r : Nat} {v v' : Value} (h : Away lo hi b r v) (k : Adv w w' b r v v') (hh : hi ≤ w.heap.size) : Away lo hi b r v' :=
  ⟨h.1, h.2.1, fun g e => by
    rcases k.own with k1 | ⟨q, k1, k2⟩
    · rw [k1] at e; exact h.2.2 g e
    · rw [k1] at e; cases e; omega⟩
theorem Book.hi {w : World} {lo hi q : Nat} {ys ds : List Int} (h : Book w lo hi q ys ds) : hi ≤ w.heap.size := by obtain ⟨_, _, _, _, _, h4, _⟩ := h; exact h4.2.2.1
theorem Fix.adv {w w' : World} {b r : Nat} {v v' u : Value} (h : Fix w b r v u) (k : Adv w w' b r v v') : Fix w' b r v' u := by
  rcases h with h | ⟨q, lo, hi, h1, h2, h3⟩
  · exact .inl h
  · exact .inr ⟨q, lo, hi, h1, h2.kept k.keep h3.not, h3.adv k h2.hi⟩
/-- What is read alone: the reader's block may have turned. -/
structure Rdv (w w' : World) (b r : Nat) (v : Value) : Prop where
  only : Keeps (fun k => k = r) w w'
theorem Rdv.refl (w : World) (b r : Nat) (v : Value) : Rdv w w b r v := ⟨Keeps.refl _ _⟩
theorem Rdv.adv {w w' : World} {b r : Nat} {v : Value} (h : Rdv w w' b r v) : Adv w w' b r v v := ⟨h.only.mono (fun _ _ e => .inr (.inl e)), .inl rfl⟩
theorem Rdv.keep {w w' : World} {b r : Nat} {v : Value} (h : Rdv w w' b r v) : Keeps (Own3 b r v) w w' := h.adv.keep
theorem Rdv.trans {w w' w'' : World} {b r : Nat} {v : Value} (h : Rdv w w' b r v) (k : Rdv w' w'' b r v) : Rdv w w'' b r v := ⟨h.only.trans k.only (fun _ _ e => e)⟩
theorem Rdv.lost {w w' w'' : World} {b r : Nat} {v : Value} (h : Rdv w w' b r v) (k : Keeps (Own3 b r v) w' w'') : Keeps (Own3 b r v) w w'' := h.adv.lost k
theorem Rdv.ofF {w w' : World} (b r : Nat) (v : Value) (h : Keeps (fun _ => False) w w') : Rdv w w' b r v := ⟨h.mono (fun _ _ h => h.elim)⟩
theorem St.ownlt {w : World} {b r : Nat} {v : Value} {s : ByteArray} {most : Nat} {L : Bts} {xs : List Nat} (h : St w b r v s most L xs) (k : Nat) (e : v.ownBlock = some k) : b < k ∧ k < w.heap.size := World.ownsRow.lt h.own k e
theorem St.lt {w : World} {b r : Nat} {v : Value} {s : ByteArray} {most : Nat} {L : Bts} {xs : List Nat} (h : St w b r v s most L xs) : b < w.heap.size := by obtain ⟨u, h1, _⟩ := h.blk; exact lt_of_heap h1
theorem St.len {w : World} {b r : Nat} {v : Value} {s : ByteArray} {most : Nat} {L : Bts} {xs : List Nat} (h : St w b r v s most L xs) : L.length ≤ 2251799813685248 := by
  obtain ⟨p, _, hp, rfl⟩ := h.rd
  have := h.sz
  rw [List.length_drop, bitsL_length, bytesOf_length]; omega
/-- Nothing that the stream is made of has turned. -/
theorem St.keptF {w w' : World} {b r : Nat} {v : Value} {s : ByteArray} {most : Nat} {L : Bts} {xs : List Nat} (h : St w b r v s most L xs) (hk : Keeps (fun _ => False) w w') : St w' b r v s most L xs := by
  obtain ⟨u, h1, h2⟩ := h.blk
  obtain ⟨p, p1, p2, p3⟩ := h.rd
  exact ⟨⟨u, (hk.block b h.lt (fun h => h)).trans h1, h2.adv (Adv.ofF b r v hk)⟩, ⟨p, p1.kept hk (fun h => h), p2, p3⟩, h.own.kept hk (fun _ _ h => h), h.rb, h.sz, h.lim, h.most, h.byt⟩
/-- The reader alone has gone on. -/
theorem St.read {w w' : World} {b r : Nat} {v : Value} {s : ByteArray} {most : Nat} {L : Bts} {xs : List Nat} (h : St w b r v s most L xs) {p : Nat} (hr : Read 88 w w' r s p) (hp : p ≤ 8 * s.size) : St w' b r v s most ((bitsL (bytesOf s)).drop p) xs ∧ Rdv w w' b r v := by
  have hk := hr.2
  have ha : Rdv w w' b r v := ⟨hk⟩
  obtain ⟨u, h1, h2⟩ := h.blk
  have hrb := h.rb
  refine ⟨⟨⟨u, (hk.block b h.lt (fun e => by omega)).trans h1, h2.adv ha.adv⟩, ⟨p, hr.1, hp, rfl⟩, h.own.kept hk (fun k e e2 => by have := (h.ownlt k e).1; omega), h.rb, h.sz, h.lim, h.most, h.byt⟩, ha⟩
theorem St.c0 {w : World} {b r : Nat} {v : Value} {s : ByteArray} {most : Nat} {L : Bts} {xs : List Nat} (h : St w b r v s most L xs) : w.cell? ⟨b, 0, none⟩ = some (.pointer (some ⟨r, 0, none⟩)) := by
  obtain ⟨u, h1, h2⟩ := h.blk; exact cell_of_heap h1 rfl
theorem St.c1 {w : World} {b r : Nat} {v : Value} {s : ByteArray} {most : Nat} {L : Bts} {xs : List Nat} (h : St w b r v s most L xs) : w.cell? ⟨b, 1, none⟩ = some v := by
  obtain ⟨u, h1, h2⟩ := h.blk; exact cell_of_heap h1 rfl
theorem St.c2 {w : World} {b r : Nat} {v : Value} {s : ByteArray} {most : Nat} {L : Bts} {xs : List Nat} (h : St w b r v s most L xs) : w.cell? ⟨b, 2, none⟩ = some (.int .i64 (most : Int)) := by
  obtain ⟨u, h1, h2⟩ := h.blk; exact cell_of_heap h1 rfl
theorem St.free {w : World} {b r : Nat} {v : Value} {s : ByteArray} {most : Nat} {L : Bts} {xs : List Nat} (h : St w b r v s most L xs) (i : Nat) : w.frozen? ⟨b, i, none⟩ = false := by
  obtain ⟨u, h1, h2⟩ := h.blk; exact frozen_of_heap h1

/-! ### number, above -/
theorem getL_none {k : Nat} {L : Bts} (h : getL k L = none) : L.length < k := by
  unfold getL at h; split at h
  · cases h
  · omega
theorem getL_some {k x : Nat} {L L' : Bts} (h : getL k L = some (x, L')) : k ≤ L.length ∧ x = val (L.take k) ∧ L' = L.drop k := by
  unfold getL at h; split at h
  · cases h; exact ⟨by assumption, rfl, rfl⟩
  · cases h
theorem getL_lt {k x : Nat} {L L' : Bts} (h : getL k L = some (x, L')) : x < 2 ^ k := by
  obtain ⟨h1, rfl, _⟩ := getL_some h
  have := val_lt (L.take k)
  rw [List.length_take, Nat.min_eq_left h1] at this; exact this
theorem St.getEnd {w : World} {b r : Nat} {v : Value} {s : ByteArray} {most : Nat} {L : Bts} {xs : List Nat} (h : St w b r v s most L xs) (k : Nat) (hk : k ≤ 16) (hg : getL k L = none) :
    Calls Try.prog 55 #[.pointer (some ⟨r, 0, none⟩), .int .i64 (k : Int)] w fun e w' => e = .returned (.tuple #[.int .i64 0, .int .i64 101]) ∧ Keeps (Own3 b r v) w w' := by
  obtain ⟨p, p1, p2, rfl⟩ := h.rd
  have hl := getL_none hg
  rw [List.length_drop, bitsL_length, bytesOf_length] at hl
  refine (get_end r p (k : Int) s w (by omega) (by omega) h.sz p2 (by omega) p1).mono ?_
  rintro e w' ⟨rfl, hr⟩
  exact ⟨rfl, hr.2.mono (fun _ _ e => .inr (.inl e))⟩
theorem St.getOk {w : World} {b r : Nat} {v : Value} {s : ByteArray} {most : Nat} {L : Bts} {xs : List Nat} (h : St w b r v s most L xs) (k x : Nat) (L' : Bts) (hk : k ≤ 16) (hg : getL k L = some (x, L')) :
    Calls Try.prog 55 #[.pointer (some ⟨r, 0, none⟩), .int .i64 (k : Int)] w fun e w' => e = .returned (.tuple #[.int .i64 (x : Int), .int .i64 0]) ∧ St w' b r v s most L' xs ∧ Rdv w w' b r v := by
  obtain ⟨p, p1, p2, rfl⟩ := h.rd
  obtain ⟨hl, rfl, rfl⟩ := getL_some hg
  have hz := h.sz
  rw [List.length_drop, bitsL_length, bytesOf_length] at hl
  refine (get_ok r p k s w (by omega) (by omega) (by omega) p1).mono ?_
  rintro e w' ⟨rfl, hr⟩
  have e1 : ((bitsL (bytesOf s)).drop p).take k = readBits (bytesOf s) p k := readBits_drop _ _ p k (by rw [bytesOf_length]; omega)
  have h2 := h.read hr (by omega)
  refine ⟨by rw [e1], ?_, h2.2⟩
  rw [List.drop_drop]
  exact h2.1

set_option maxHeartbeats 400000 in
theorem number_none {w : World} {b r : Nat} {v : Value} {s : ByteArray} {most : Nat} {L : Bts} {xs : List Nat} (h : St w b r v s most L xs) (k : Nat) (hk : k ≤ 16) (hg : getL k L = none) :
    Calls Try.prog 40 #[.pointer (some ⟨b, 0, none⟩), .int .i64 (k : Int)] w fun e w' => e = .returned (.tuple #[.int .i64 0, .int .i64 700]) ∧ Keeps (Own3 b r v) w w' := by
  have hc := h.c0
  have HC := h.getEnd k hk hg
  have HC' : Hid (Calls Try.prog 55 #[.pointer (some ⟨r, 0, none⟩), .int .i64 (k : Int)] w fun e w' => e = .returned (.tuple #[.int .i64 0, .int .i64 101]) ∧ Keeps (Own3 b r v) w w') := HC
  clear HC
  go_enter Try.func40, Try.ntmps40
  go_wp2_with fail
  refine HC'.out.mono ?_
  rintro e w' ⟨rfl, hw⟩
  have HW : Hid (Keeps (Own3 b r v) w w') := hw
  clear hw hc HC'
  go_wp2
  go_ret2
  exact ⟨rfl, HW.out⟩

set_option maxHeartbeats 400000 in
theorem number_some {w : World} {b r : Nat} {v : Value} {s : ByteArray} {most : Nat} {L : Bts} {xs : List Nat} (h : St w b r v s most L xs) (k x : Nat) (L' : Bts) (hk : k ≤ 16) (hg : getL k L = some (x, L')) :
    Calls Try.prog 40 #[.pointer (some ⟨b, 0, none⟩), .int .i64 (k : Int)] w fun e w' => e = .returned (.tuple #[.int .i64 (x : Int), .int .i64 0]) ∧ St w' b r v s most L' xs ∧ Rdv w w' b r v := by
  have hc := h.c0
  have HC := h.getOk k x L' hk hg
  have HC' : Hid (Calls Try.prog 55 #[.pointer (some ⟨r, 0, none⟩), .int .i64 (k : Int)] w fun e w' => e = .returned (.tuple #[.int .i64 (x : Int), .int .i64 0]) ∧ St w' b r v s most L' xs ∧ Rdv w w' b r v) := HC
  clear HC
  go_enter Try.func40, Try.ntmps40
  go_wp2_with fail
  refine HC'.out.mono ?_
  rintro e w' ⟨rfl, hw⟩
  have HW : Hid (St w' b r v s most L' xs ∧ Rdv w w' b r v) := hw
  clear hw hc HC'
  go_wp2
  go_ret2
  exact ⟨rfl, HW.out⟩

theorem aboveL_none {a k : Nat} {L : Bts} (h : aboveL a k L = none) : getL k L = none := by
  unfold aboveL bnd at h
  rcases hg : getL k L with _ | ⟨m, L1⟩
  · rfl
  · rw [hg] at h; simp [retL] at h
theorem aboveL_some {a k x : Nat} {L L' : Bts} (h : aboveL a k L = some (x, L')) : ∃ m, getL k L = some (m, L') ∧ x = a + m := by
  unfold aboveL bnd at h
  rcases hg : getL k L with _ | ⟨m, L1⟩
  · rw [hg] at h; simp at h
  · rw [hg] at h; simp [retL] at h; obtain ⟨rfl, rfl⟩ := h; exact ⟨m, rfl, rfl⟩

set_option maxHeartbeats 400000 in
theorem above_none {w : World} {b r : Nat} {v : Value} {s : ByteArray} {most : Nat} {L : Bts} {xs : List Nat} (h : St w b r v s most L xs) (a k : Nat) (hk : k ≤ 16) (hg : aboveL a k L = none) :
    Calls Try.prog 82 #[.pointer (some ⟨b, 0, none⟩), .int .i64 (a : Int), .int .i64 (k : Int)] w fun e w' => e = .returned (.tuple #[.int .i64 0, .int .i64 700]) ∧ Keeps (Own3 b r v) w w' := by
  have HS : Hid (St w b r v s most L xs) := h
  have HG : Hid (getL k L = none) := aboveL_none hg
  clear h hg
  go_enter Try.func82, Try.ntmps82
  go_wp2_with fail
  refine (number_none HS.out k hk HG.out).mono ?_
  rintro e w' ⟨rfl, hw⟩
  have HW : Hid (Keeps (Own3 b r v) w w') := hw
  clear hw
  go_wp2
  go_ret2
  exact ⟨rfl, HW.out⟩

set_option maxHeartbeats 400000 in
theorem above_some {w : World} {b r : Nat} {v : Value} {s : ByteArray} {most : Nat} {L : Bts} {xs : List Nat} (h : St w b r v s most L xs) (a k x : Nat) (L' : Bts) (ha : a ≤ 100000) (hk : k ≤ 16) (hg : aboveL a k L = some (x, L')) :
    Calls Try.prog 82 #[.pointer (some ⟨b, 0, none⟩), .int .i64 (a : Int), .int .i64 (k : Int)] w fun e w' => e = .returned (.tuple #[.int .i64 (x : Int), .int .i64 0]) ∧ St w' b r v s most L' xs ∧ Rdv w w' b r v := by
  have HS : Hid (St w b r v s most L xs) := h
  obtain ⟨m, hm, rfl⟩ := aboveL_some hg
  have hlt := getL_lt hm
  have hp : (2 : Nat) ^ k ≤ 2 ^ 16 := Nat.pow_le_pow_right (by decide) hk
  have hm1 : m ≤ 65536 := by omega
  have HG : Hid (getL k L = some (m, L')) := hm
  clear h hg hm hlt hp
  go_enter Try.func82, Try.ntmps82
  go_wp2_with fail
  refine (number_some HS.out k m L' hk HG.out).mono ?_
  rintro e w' ⟨rfl, hw⟩
  have HW : Hid (St w' b r v s most L' xs ∧ Rdv w w' b r v) := hw
  clear hw
  go_wp2
  go_ret2
  exact ⟨by push_cast; rfl, HW.out⟩

end Go.Proofs.Ytdbfbijalhknnaa

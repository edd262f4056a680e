/-
  Plain facts on bits, bytes and worlds, for layer 1 (no program in sight). Rows of numbers that a slice shows, and blocks of numbers that a call owns. Rows of numbers lent, held against each other, looked at again, and written over. Vectors in plain numbers, and what the program's May, Order, Join and Step answer. The program's Order. The program's Join.
-/
import Derived.Test.YtfbghchgfbjogaaGreatRows
import Derived.WalkKit
import Derived.Deep.AppendLies
import Derived.Deep.QuietTactic
import Derived.WalkSpells
import Derived.WalkLawsBesides
import Derived.Deep.MidRow
import Derived.Laws.ResultCell
import Derived.Laws.OwnMore
import Derived.BigQuiet
import Derived.OpenShut
import Derived.BigRegion
import Derived.OwnWalk
namespace Go.Proofs.YtfbghchgfbjogaaGreat
open Go.RowKit
set_option linter.unusedVariables false
set_option linter.unusedSimpArgs false

def val : List Bool → Nat
  | [] => 0
  | b :: r => b.toNat + 2 * val r

theorem val_lt (l : List Bool) : val l < 2 ^ l.length := by
  induction l with
  | nil => simp [val]
  | cons b r ih => simp only [val, List.length_cons, Nat.pow_succ]; cases b <;> simp <;> omega

theorem val_append (l m : List Bool) : val (l ++ m) = val l + 2 ^ l.length * val m := by
  induction l with
  | nil => simp [val]
  | cons b r ih => simp only [List.cons_append, val, ih, List.length_cons, Nat.pow_succ, Nat.mul_add]; rw [Nat.mul_comm (2 ^ r.length) 2, Nat.mul_assoc]; omega

theorem val_testBit (l : List Bool) (i : Nat) : (val l).testBit i = l.getD i false := by
  induction l generalizing i with
  | nil => simp [val]
  | cons b r ih =>
    cases i with
    | zero => cases b <;> simp [val, Nat.testBit_zero]
    | succ i =>
      rw [Nat.testBit_succ]
      have : (b.toNat + 2 * val r) / 2 = val r := by cases b <;> simp <;> omega
      simp only [val, this, ih, List.getD_cons_succ]

/-- The k lowest bits of a number, the lowest first. -/
def bitsOf (v k : Nat) : List Bool := (List.range k).map (fun i => v.testBit i)

theorem bitsOf_length (v k : Nat) : (bitsOf v k).length = k := by simp [bitsOf]
theorem bitsOf_succ (v k : Nat) : bitsOf v (k + 1) = bitsOf v k ++ [v.testBit k] := by simp [bitsOf, List.range_succ]
theorem val_bitsOf (v k : Nat) (h : v < 2 ^ k) : val (bitsOf v k) = v := by
  apply Nat.eq_of_testBit_eq
  intro i
  rw [val_testBit]
  by_cases hi : i < k
  · simp [bitsOf, List.getD, hi]
  · have : v.testBit i = false := Nat.testBit_lt_two_pow (Nat.lt_of_lt_of_le h (Nat.pow_le_pow_right (by decide) (by omega)))
    simp [bitsOf, List.getD, hi, this]

theorem wrap_i64_small (n : Int) (h0 : 0 ≤ n) (h1 : n < 4611686018427387904) : IntKind.i64.wrap n = n := by
  simp [IntKind.wrap, IntKind.bits, IntKind.signed]; omega

theorem ofInt64_toNat (a : Nat) (h : a < 4611686018427387904) : (BitVec.ofInt 64 (a : Int)).toNat = a := by
  rw [BitVec.ofInt_natCast, BitVec.toNat_ofNat]; exact Nat.mod_eq_of_lt (by omega)

theorem i64_and_nat (a b : Nat) (ha : a < 4611686018427387904) (hb : b < 4611686018427387904) : bits .and .i64 (a : Int) (b : Int) = ((a &&& b : Nat) : Int) := by
  show IntKind.i64.wrap (((BitVec.ofInt 64 (a : Int) &&& BitVec.ofInt 64 (b : Int)).toNat : Nat) : Int) = _
  rw [BitVec.toNat_and, ofInt64_toNat a ha, ofInt64_toNat b hb]
  exact wrap_i64_small _ (by omega) (by have : a &&& b ≤ a := Nat.and_le_left; omega)

theorem i64_or_nat (a b : Nat) (ha : a < 4611686018427387904) (hb : b < 4611686018427387904) : bits .or .i64 (a : Int) (b : Int) = ((a ||| b : Nat) : Int) := by
  show IntKind.i64.wrap (((BitVec.ofInt 64 (a : Int) ||| BitVec.ofInt 64 (b : Int)).toNat : Nat) : Int) = _
  rw [BitVec.toNat_or, ofInt64_toNat a ha, ofInt64_toNat b hb]
  exact wrap_i64_small _ (by omega) (by have : a ||| b < 2 ^ 62 := Nat.or_lt_two_pow (by omega) (by omega); omega)

theorem i64_bit (v j : Nat) (hv : v < 4611686018427387904) : bits .and .i64 ((v : Int) / 2 ^ j) 1 = ((v.testBit j).toNat : Int) := by
  have e : ((v : Int) / 2 ^ j) = ((v / 2 ^ j : Nat) : Int) := by simp
  have hd : v / 2 ^ j ≤ v := Nat.div_le_self _ _
  rw [e]
  have := i64_and_nat (v / 2 ^ j) 1 (by omega) (by decide)
  rw [show ((1 : Nat) : Int) = 1 from rfl] at this
  rw [this, Nat.and_one_is_mod, Nat.testBit_eq_decide_div_mod_eq]
  have h2 : v / 2 ^ j % 2 < 2 := Nat.mod_lt _ (by decide)
  by_cases h : v / 2 ^ j % 2 = 1
  · simp [h]
  · have : v / 2 ^ j % 2 = 0 := by omega
    simp [this]

theorem i64_or_low (a j : Nat) (x : Bool) (ha : a < 2 ^ j) (hj : j ≤ 30) : bits .or .i64 (a : Int) (wrap64 ((x.toNat : Int) * 2 ^ j)) = ((a + 2 ^ j * x.toNat : Nat) : Int) := by
  have hp : (2 : Nat) ^ j ≤ 2 ^ 30 := Nat.pow_le_pow_right (by decide) hj
  have e2 : ((x.toNat : Int) * 2 ^ j) = ((2 ^ j * x.toNat : Nat) : Int) := by push_cast; rw [Int.mul_comm]
  have hb : 2 ^ j * x.toNat ≤ 2 ^ 30 := by cases x <;> simp <;> omega
  have e : wrap64 ((x.toNat : Int) * 2 ^ j) = ((2 ^ j * x.toNat : Nat) : Int) := by
    rw [e2]
    generalize 2 ^ j * x.toNat = z at hb
    simp only [wrap64]
    omega
  rw [e, i64_or_nat _ _ (by omega) (by omega)]
  congr 1
  rw [Nat.or_comm, ← Nat.two_pow_add_eq_or_of_lt ha]; omega

def byteAt (L : List Bool) (i : Nat) : Nat := val ((L.drop (8 * i)).take 8)
def pack (L : List Bool) : List Nat := (List.range ((L.length + 7) / 8)).map (byteAt L)

theorem pack_length (L : List Bool) : (pack L).length = (L.length + 7) / 8 := by simp [pack]
theorem byteAt_lt (L : List Bool) (i : Nat) : byteAt L i < 256 := by
  unfold byteAt
  refine Nat.lt_of_lt_of_le (val_lt _) ?_
  rw [show (256 : Nat) = 2 ^ 8 from rfl]
  exact Nat.pow_le_pow_right (by decide) (by simp; omega)
theorem pack_lt (L : List Bool) : ∀ y ∈ pack L, y < 256 := by
  intro y hy
  simp only [pack, List.mem_map] at hy
  obtain ⟨i, _, rfl⟩ := hy
  exact byteAt_lt L i
theorem pack_get (L : List Bool) (i : Nat) (h : 8 * i < L.length) : (pack L)[i]? = some (byteAt L i) := by
  have : i < (L.length + 7) / 8 := by omega
  simp [pack, this]

theorem byteAt_append_old (L : List Bool) (x : Bool) (i : Nat) (h : 8 * i + 8 ≤ L.length) : byteAt (L ++ [x]) i = byteAt L i := by
  unfold byteAt
  rw [List.drop_append_of_le_length (by omega), List.take_append_of_le_length (by simp; omega)]

theorem byteAt_append_new (L : List Bool) (x : Bool) (q r : Nat) (h : L.length = 8 * q + r) (hr : r < 8) : byteAt (L ++ [x]) q = byteAt L q + 2 ^ r * x.toNat := by
  unfold byteAt
  rw [List.drop_append_of_le_length (by omega), List.take_of_length_le (by simp; omega), val_append, List.take_of_length_le (by simp; omega)]
  have : (L.drop (8 * q)).length = r := by simp; omega
  rw [this]
  simp [val]

theorem byteAt_small (L : List Bool) (q r : Nat) (h : L.length = 8 * q + r) (hr : r < 8) : byteAt L q < 2 ^ r := by
  unfold byteAt
  refine Nat.lt_of_lt_of_le (val_lt _) (Nat.pow_le_pow_right (by decide) (by simp; omega))

theorem pack_snoc_new (L : List Bool) (x : Bool) (q : Nat) (h : L.length = 8 * q) : pack (L ++ [x]) = pack L ++ [x.toNat] := by
  have e1 : (L.length + 1 + 7) / 8 = q + 1 := by omega
  have e2 : (L.length + 7) / 8 = q := by omega
  simp only [pack, List.length_append, List.length_cons, List.length_nil]
  rw [Nat.zero_add, e1, e2, List.range_succ, List.map_append]
  congr 1
  · apply List.map_congr_left
    intro i hi
    rw [List.mem_range] at hi
    exact byteAt_append_old L x i (by omega)
  · simp only [List.map_cons, List.map_nil]
    rw [byteAt_append_new L x q 0 (by omega) (by omega)]
    have := byteAt_small L q 0 (by omega) (by omega)
    simp at this ⊢
    exact this

theorem pack_snoc_in (L : List Bool) (x : Bool) (q r : Nat) (h : L.length = 8 * q + r) (hr0 : 0 < r) (hr : r < 8) : pack (L ++ [x]) = (pack L).set q (byteAt L q + 2 ^ r * x.toNat) := by
  have e1 : (L.length + 1 + 7) / 8 = q + 1 := by omega
  have e2 : (L.length + 7) / 8 = q + 1 := by omega
  simp only [pack, List.length_append, List.length_cons, List.length_nil]
  rw [Nat.zero_add, e1, e2, List.range_succ, List.map_append, List.map_append]
  have e3 : (List.map (byteAt L) (List.range q)).length = q := by simp
  rw [List.set_append_right _ _ (by omega), e3]
  simp only [Nat.sub_self, List.map_cons, List.map_nil, List.set_cons_zero]
  rw [byteAt_append_new L x q r h hr]
  congr 1
  apply List.map_congr_left
  intro i hi
  rw [List.mem_range] at hi
  exact byteAt_append_old L x i (by omega)

def bitAt (s : List Nat) (k : Nat) : Bool := (s.getD (k / 8) 0).testBit (k % 8)

theorem bitAt_pack (L : List Bool) (k : Nat) (h : k < L.length) : bitAt (pack L) k = L.getD k false := by
  unfold bitAt
  have e : (pack L).getD (k / 8) 0 = byteAt L (k / 8) := by
    simp only [List.getD]
    rw [pack_get L (k / 8) (by omega)]; rfl
  rw [e]
  unfold byteAt
  rw [val_testBit]
  simp only [List.getD]
  rw [List.getElem?_take, if_pos (by omega), List.getElem?_drop, show 8 * (k / 8) + k % 8 = k by omega]

/-- k bits of a text from p on. -/
def readBits (s : List Nat) (p k : Nat) : List Bool := (List.range k).map (fun i => bitAt s (p + i))
theorem readBits_length (s : List Nat) (p k : Nat) : (readBits s p k).length = k := by simp [readBits]
theorem readBits_succ (s : List Nat) (p k : Nat) : readBits s p (k + 1) = readBits s p k ++ [bitAt s (p + k)] := by simp [readBits, List.range_succ]

/-- What was written is read: the bits of 'M' that lie behind 'L'. -/
theorem readBits_pack (A M B : List Bool) : readBits (pack (A ++ M ++ B)) A.length M.length = M := by
  apply List.ext_getElem?
  intro i
  by_cases hi : i < M.length
  · have : (readBits (pack (A ++ M ++ B)) A.length M.length)[i]? = some (bitAt (pack (A ++ M ++ B)) (A.length + i)) := by simp [readBits, hi]
    rw [this, bitAt_pack _ _ (by simp; omega)]
    simp only [List.getD]
    rw [List.append_assoc, List.getElem?_append_right (by omega), Nat.add_sub_cancel_left, List.getElem?_append_left hi]
    simp [hi]
  · rw [List.getElem?_eq_none (by simp [readBits]; omega), List.getElem?_eq_none (by omega)]

/-- The text of bytes, and the bytes of a text. -/
def textOf (ys : List Nat) : ByteArray := ⟨(ys.map UInt8.ofNat).toArray⟩
def bytesOf (s : ByteArray) : List Nat := s.data.toList.map UInt8.toNat
theorem bytesOf_length (s : ByteArray) : (bytesOf s).length = s.size := by rw [bytesOf, List.length_map]; rfl
theorem textOf_size (ys : List Nat) : (textOf ys).size = ys.length := by show (ys.map UInt8.ofNat).toArray.size = _; rw [List.size_toArray, List.length_map]
theorem bytesOf_get (s : ByteArray) (i : Nat) (h : i < s.size) : (bytesOf s).getD i 0 = s[i].toNat := by
  have h' : i < s.data.toList.length := by rw [Array.length_toList]; exact h
  rw [List.getD, bytesOf, List.getElem?_map, List.getElem?_eq_getElem h']
  rfl

/-- Nothing but the blocks in S has turned; blocks may have come. -/
structure Keeps (S : Nat → Prop) (w w' : World) : Prop where
  os : w'.os = w.os
  tape : w'.tape = w.tape
  output : w'.output = w.output
  size : w.heap.size ≤ w'.heap.size
  block : ∀ k, k < w.heap.size → ¬ S k → w'.heap[k]? = w.heap[k]?

theorem Keeps.refl (S : Nat → Prop) (w : World) : Keeps S w w := ⟨rfl, rfl, rfl, Nat.le_refl _, fun _ _ _ => rfl⟩
theorem Keeps.trans {S S' : Nat → Prop} {a b c : World} (h : Keeps S a b) (k : Keeps S' b c) (hs : ∀ i, i < a.heap.size → S' i → S i) : Keeps S a c :=
  ⟨k.os.trans h.os, k.tape.trans h.tape, k.output.trans h.output, Nat.le_trans h.size k.size, fun i hi hn => (k.block i (Nat.lt_of_lt_of_le hi h.size) (fun h' => hn (hs i hi h'))).trans (h.block i hi hn)⟩
theorem Keeps.mono {S S' : Nat → Prop} {a b : World} (h : Keeps S a b) (hs : ∀ i, i < a.heap.size → S i → S' i) : Keeps S' a b :=
  ⟨h.os, h.tape, h.output, h.size, fun i hi hn => h.block i hi (fun h' => hn (hs i hi h'))⟩
theorem Keeps.drew {S : Nat → Prop} {a w : World} (h : Keeps S a w) : Keeps S a w.drew := ⟨h.os, h.tape, h.output, h.size, h.block⟩
theorem Keeps.drewN {S : Nat → Prop} {a w : World} (h : Keeps S a w) (n : Nat) : Keeps S a (w.drewN n) := ⟨h.os, h.tape, h.output, h.size, h.block⟩
theorem Keeps.alloc {S : Nat → Prop} {a w : World} (h : Keeps S a w) (o : Obj) : Keeps S a (w.alloc o) :=
  ⟨h.os, h.tape, h.output, Nat.le_trans h.size (by simp), fun k hk hn => (Below.heap_alloc _ _ _ (Nat.lt_of_lt_of_le hk h.size)).trans (h.block k hk hn)⟩
theorem Keeps.setCell {S : Nat → Prop} {a w : World} (h : Keeps S a w) {p : Addr} (hp : p.block < a.heap.size → S p.block) (u : Value) : Keeps S a (w.setCell p u) :=
  ⟨h.os, h.tape, h.output, Nat.le_trans h.size (by simp [World.setCell]), fun k hk hn => (Below.heap_setCell _ _ _ _ (fun e => by subst e; exact hn (hp hk))).trans (h.block k hk hn)⟩
theorem Keeps.grown {S : Nat → Prop} {a w w' : World} {row : Option Nat} (h : Keeps S a w) (hg : w.grownBy w' row) (hr : ∀ k, k < a.heap.size → row = some k → S k) : Keeps S a w' :=
  ⟨hg.os.trans h.os, hg.tape.trans h.tape, hg.output.trans h.output, Nat.le_trans h.size hg.size, fun k hk hn => (hg.block k (Nat.lt_of_lt_of_le hk h.size) (fun e => hn (hr k hk e.symm))).trans (h.block k hk hn)⟩
theorem Keeps.below {S : Nat → Prop} {w w' : World} (h : Keeps S w w') (B : Nat) (hB : B ≤ w.heap.size) (hs : ∀ k, S k → B ≤ k) : Below B w w' :=
  ⟨h.os, h.tape, h.output, h.size, fun k hk => h.block k (by omega) (fun hk' => by have := hs k hk'; omega)⟩

theorem heap_setCell_same {w : World} {b i : Nat} {cs : Array Value} {t : TypeId} {fr : Nat × Nat} (h : w.heap[b]? = some (.cells cs t fr)) (u : Value) : (w.setCell ⟨b, i, none⟩ u).heap[b]? = some (.cells (cs.setIfInBounds i u) t fr) := by
  simp [World.setCell, Array.getElem?_modify, h]
theorem heap_size_setCell (w : World) (p : Addr) (u : Value) : (w.setCell p u).heap.size = w.heap.size := by simp [World.setCell]
theorem lt_of_heap {w : World} {b : Nat} {o : Obj} (h : w.heap[b]? = some o) : b < w.heap.size := (Array.getElem?_eq_some_iff.1 h).1
theorem cell_of_heap {w : World} {b i : Nat} {cs : Array Value} {t : TypeId} {fr : Nat × Nat} {u : Value} (h : w.heap[b]? = some (.cells cs t fr)) (hu : cs[i]? = some u) : w.cell? ⟨b, i, none⟩ = some u := by
  simp [World.cell?, h, hu]
theorem frozen_of_heap {w : World} {b i : Nat} {cs : Array Value} {t : TypeId} (h : w.heap[b]? = some (.cells cs t (0, 0))) : w.frozen? ⟨b, i, none⟩ = false := by
  simp [World.frozen?, h]

theorem owns_cell {w : World} {base : Nat} {e : TypeId} {g n cap : Nat} {xs : List Value} (h : w.ownsRow base e 1 (.slice (some ⟨g, 0, none⟩) n cap) n xs) (i : Nat) (u : Value) (hu : xs[i]? = some u) :
    w.cell? ⟨g, i, none⟩ = some u ∧ w.frozen? ⟨g, i, none⟩ = false := by
  obtain ⟨hl, h | ⟨g', cap', cur, hv, hb, hg, hn, hc, hs, ht⟩⟩ := h
  · cases h.1
  · cases hv
    have hi : i < n := by have := (List.getElem?_eq_some_iff.1 hu).1; omega
    refine ⟨?_, ?_⟩
    · simp only [World.cell?, hg]
      rw [← ht, List.getElem?_take, if_pos (by omega)] at hu
      simpa using hu
    · simp only [World.frozen?, hg]; simp

theorem owns_set {w : World} {base : Nat} {e : TypeId} {g n cap : Nat} {xs : List Value} (h : w.ownsRow base e 1 (.slice (some ⟨g, 0, none⟩) n cap) n xs) (i : Nat) (u : Value) :
    (w.setCell ⟨g, i, none⟩ u).ownsRow base e 1 (.slice (some ⟨g, 0, none⟩) n cap) n (xs.set i u) := by
  obtain ⟨hl, h | ⟨g', cap', cur, hv, hb, hg, hn, hc, hs, ht⟩⟩ := h
  · cases h.1
  · cases hv
    refine ⟨by simpa using hl, .inr ⟨g, cap, cur.setIfInBounds i u, rfl, hb, heap_setCell_same hg u, hn, hc, by simpa using hs, ?_⟩⟩
    rw [Array.toList_setIfInBounds, List.take_set, ht]

theorem owns_far {w : World} {base : Nat} {e : TypeId} {v : Value} {n : Nat} {xs : List Value} (h : w.ownsRow base e 1 v n xs) {p : Addr} (hp : v.ownBlock ≠ some p.block) (u : Value) : (w.setCell p u).ownsRow base e 1 v n xs := by
  obtain ⟨h1, h2⟩ := h
  refine ⟨h1, ?_⟩
  rcases h2 with h2 | ⟨g, cap, cur, hv, hg, hh, r⟩
  · exact Or.inl h2
  · subst hv
    refine Or.inr ⟨g, cap, cur, rfl, hg, ?_, r⟩
    rw [Below.heap_setCell _ _ _ _ (fun e => hp (by simp [Value.ownBlock, e]))]; exact hh

theorem owns_heap {w w' : World} {base : Nat} {e : TypeId} {v : Value} {n : Nat} {xs : List Value} (h : w.ownsRow base e 1 v n xs) (hk : ∀ k, v.ownBlock = some k → w'.heap[k]? = w.heap[k]?) : w'.ownsRow base e 1 v n xs := by
  obtain ⟨h1, h2⟩ := h
  refine ⟨h1, ?_⟩
  rcases h2 with h2 | ⟨g, cap, cur, hv, hg, hh, r⟩
  · exact Or.inl h2
  · subst hv
    exact Or.inr ⟨g, cap, cur, rfl, hg, by rw [hk g rfl]; exact hh, r⟩

theorem addr_add (g j : Nat) : (⟨g, 0, none⟩ : Addr).add j = ⟨g, j, none⟩ := by unfold Addr.add; split <;> simp_all

def byteV (y : Nat) : Value := .int .u8 (y : Int)

/-- A writer of type T lies in block b, its bytes in block o, and has the bits L. -/
def Wr (T : TypeId) (w : World) (b : Nat) (o : Option Nat) (L : List Bool) : Prop :=
  ∃ a cap, w.heap[b]? = some (.cells #[.slice a (pack L).length cap, .int .i64 L.length] T (0, 0)) ∧
    w.ownsRow (b + 1) 5 1 (.slice a (pack L).length cap) (pack L).length ((pack L).map byteV) ∧ (Value.slice a (pack L).length cap).ownBlock = o

theorem Wr.lt {T : TypeId} {w : World} {b : Nat} {o : Option Nat} {L : List Bool} (h : Wr T w b o L) : b < w.heap.size := by
  obtain ⟨a, cap, hb, _, _⟩ := h; exact lt_of_heap hb
theorem Wr.own {T : TypeId} {w : World} {b : Nat} {o : Option Nat} {L : List Bool} (h : Wr T w b o L) : ∀ k, o = some k → b + 1 ≤ k ∧ k < w.heap.size := by
  obtain ⟨a, cap, _, ho, rfl⟩ := h; exact ho.lt
theorem Wr.kept {T : TypeId} {S : Nat → Prop} {w w' : World} {b : Nat} {o : Option Nat} {L : List Bool} (h : Wr T w b o L) (hk : Keeps S w w') (hb : ¬ S b) (ho : ∀ k, o = some k → ¬ S k) : Wr T w' b o L := by
  have hlt := h.lt
  have hown := h.own
  obtain ⟨a, cap, h1, h2, h3⟩ := h
  refine ⟨a, cap, (hk.block b hlt hb).trans h1, owns_heap h2 (fun k hk' => hk.block k (hown k (h3 ▸ hk')).2 (ho k (h3 ▸ hk'))), h3⟩

/-- What a call on a writer leaves. -/
def Onto (T : TypeId) (w w' : World) (b : Nat) (o : Option Nat) (L : List Bool) : Prop :=
  ∃ o', Wr T w' b o' L ∧ (o' = o ∨ ∃ g, o' = some g ∧ w.heap.size ≤ g) ∧ Keeps (fun k => k = b ∨ o = some k) w w'

theorem Onto.trans {T : TypeId} {w w' w'' : World} {b : Nat} {o o' : Option Nat} {L : List Bool} (ho : o' = o ∨ ∃ g, o' = some g ∧ w.heap.size ≤ g) (hk : Keeps (fun k => k = b ∨ o = some k) w w') (h : Onto T w' w'' b o' L) : Onto T w w'' b o L := by
  obtain ⟨o2, h1, h2, h3⟩ := h
  refine ⟨o2, h1, ?_, hk.trans h3 ?_⟩
  · rcases h2 with rfl | ⟨g, rfl, hg⟩
    · exact ho
    · exact .inr ⟨g, rfl, Nat.le_trans hk.size hg⟩
  · intro i hi h
    rcases h with h | h
    · exact .inl h
    · rcases ho with rfl | ⟨g, rfl, hg⟩
      · exact .inr h
      · cases h; omega

end Go.Proofs.YtfbghchgfbjogaaGreat

namespace Go.Proofs.YtfbghchgfbjogaaGreat.Zp
open Go.RowKit
set_option linter.unusedVariables false
set_option linter.unusedSimpArgs false

def at_ (ys : List Int) (i : Nat) : Int := ys.getD i 0
theorem at_eq {ys : List Int} (i : Nat) (hi : i < ys.length) : at_ ys i = ys[i] := by simp [at_, List.getD, List.getElem?_eq_getElem hi]
theorem at_append_left (ys zs : List Int) (i : Nat) (h : i < ys.length) : at_ (ys ++ zs) i = at_ ys i := by
  simp [at_, List.getD, List.getElem?_append_left h]
theorem at_append_right (ys zs : List Int) (i : Nat) : at_ (ys ++ zs) (ys.length + i) = at_ zs i := by
  simp [at_, List.getD, List.getElem?_append_right]
theorem at_set (ys : List Int) (i j : Nat) (v : Int) : at_ (ys.set i v) j = if i = j ∧ i < ys.length then v else at_ ys j := by
  unfold at_
  rw [List.getD, List.getD, List.getElem?_set]
  by_cases e : i = j
  · subst e
    by_cases h : i < ys.length
    · simp [h]
    · simp [h, List.getElem?_eq_none (Nat.le_of_not_lt h)]
  · simp [e]
theorem at_ext {ys zs : List Int} (hl : ys.length = zs.length) (h : ∀ i, i < ys.length → at_ ys i = at_ zs i) : ys = zs := by
  apply List.ext_getElem hl
  intro i h1 h2
  have := h i h1
  rwa [at_eq i h1, at_eq i h2] at this

/-- What is known of a slice of ints. -/
def Row (w : World) (a : Option Addr) (ys : List Int) : Prop :=
  ys = [] ∨ ∃ b off, a = some ⟨b, off, none⟩ ∧ b < w.heap.size ∧ ∀ i (h : i < ys.length), w.cell? ⟨b, off + i, none⟩ = some (.int .i64 ys[i])
theorem Row.kept {S : Nat → Prop} {w w' : World} {a : Option Addr} {ys : List Int} (h : Row w a ys) (hk : Keeps S w w') (hb : ∀ x, a = some x → ¬ S x.block) : Row w' a ys := by
  rcases h with h | ⟨b, off, rfl, h1, h2⟩
  · exact .inl h
  · refine .inr ⟨b, off, rfl, Nat.lt_of_lt_of_le h1 hk.size, fun i hi => ?_⟩
    rw [World.cell?_of_block (hk.block b h1 (hb _ rfl))]; exact h2 i hi
theorem Row.keptF {w w' : World} {a : Option Addr} {ys : List Int} (h : Row w a ys) (hk : Keeps (fun _ => False) w w') : Row w' a ys := h.kept hk (fun _ _ h => h)
theorem Row.spot {w : World} {a : Option Addr} {ys : List Int} (h : Row w a ys) (hn : 0 < ys.length) :
    ∃ b off, a = some ⟨b, off, none⟩ ∧ b < w.heap.size ∧ ∀ i (h : i < ys.length), w.cell? ⟨b, off + i, none⟩ = some (.int .i64 ys[i]) := by
  rcases h with h | h
  · subst h; simp at hn
  · exact h
theorem Row.at {w : World} {a : Option Addr} {ys : List Int} (h : Row w a ys) (hn : 0 < ys.length) : ∃ b off, a = some ⟨b, off, none⟩ ∧ b < w.heap.size ∧ ∀ w', Keeps (fun _ => False) w w' → ∀ i, i < ys.length → w'.cell? ⟨b, off + i, none⟩ = some (.int .i64 (at_ ys i)) := by
  obtain ⟨b, off, rfl, hb, hc⟩ := h.spot hn
  refine ⟨b, off, rfl, hb, fun w' hk i hi => ?_⟩
  rw [World.cell?_of_block (hk.block b hb (fun h => h)), hc i hi, at_eq i hi]
theorem Row.lit (w : World) (ys : List Int) (t : TypeId) : Row (w.alloc (.cells (ys.map (fun y => Value.int .i64 y)).toArray t)) (some ⟨w.heap.size, 0, none⟩) ys := by
  refine .inr ⟨w.heap.size, 0, rfl, by simp, fun i hi => ?_⟩
  exact cell_of_heap (heap_alloc_new _ _) (by simp [hi])

def intsV (ys : List Int) : List Value := ys.map (fun y => Value.int .i64 y)
theorem intsV_get (ys : List Int) (i : Nat) (h : i < ys.length) : (intsV ys)[i]? = some (.int .i64 (at_ ys i)) := by
  simp [intsV, at_eq i h, List.getElem?_eq_getElem h]
theorem intsV_append (ys zs : List Int) : intsV (ys ++ zs) = intsV ys ++ intsV zs := by simp [intsV]
theorem intsV_set (ys : List Int) (i : Nat) (v : Int) : (intsV ys).set i (.int .i64 v) = intsV (ys.set i v) := by simp [intsV, List.map_set]

/-- A block g of numbers that a call owns: a slice of it shows ys. -/
def Own (w : World) (g cap : Nat) (ys : List Int) : Prop := w.ownsRow 0 3 1 (.slice (some ⟨g, 0, none⟩) ys.length cap) ys.length (intsV ys)
theorem Own.lt {w : World} {g cap : Nat} {ys : List Int} (h : Own w g cap ys) : g < w.heap.size := (World.ownsRow.lt h g rfl).2
theorem Own.cell {w : World} {g cap : Nat} {ys : List Int} (h : Own w g cap ys) (i : Nat) (hi : i < ys.length) : w.cell? ⟨g, i, none⟩ = some (.int .i64 (at_ ys i)) := (owns_cell h i _ (intsV_get ys i hi)).1
theorem Own.free {w : World} {g cap : Nat} {ys : List Int} (h : Own w g cap ys) (i : Nat) (hi : i < ys.length) : w.frozen? ⟨g, i, none⟩ = false := (owns_cell h i _ (intsV_get ys i hi)).2
theorem Own.set {w : World} {g cap : Nat} {ys : List Int} (h : Own w g cap ys) (i : Nat) (v : Int) : Own (w.setCell ⟨g, i, none⟩ (.int .i64 v)) g cap (ys.set i v) := by
  have := owns_set h i (.int .i64 v)
  unfold Own
  rw [List.length_set, ← intsV_set]; exact this
theorem Own.kept {S : Nat → Prop} {w w' : World} {g cap : Nat} {ys : List Int} (h : Own w g cap ys) (hk : Keeps S w w') (hb : ¬ S g) : Own w' g cap ys :=
  owns_heap h (fun k e => by simp [Value.ownBlock] at e; subst e; exact hk.block g h.lt hb)
theorem Own.row {w : World} {g cap : Nat} {ys : List Int} (h : Own w g cap ys) : Row w (some ⟨g, 0, none⟩) ys :=
  .inr ⟨g, 0, rfl, h.lt, fun i hi => by rw [Nat.zero_add, h.cell i hi, at_eq i hi]⟩
theorem Own.cap {w : World} {g cap : Nat} {ys : List Int} (h : Own w g cap ys) : ys.length ≤ cap := by
  rcases h.2 with ⟨e, _⟩ | ⟨g', cap', cur, e, _, _, hn, _⟩
  · cases e
  · simp only [Value.slice.injEq] at e; omega

/-- A slice of ints that a call owns, nil too. -/
def OwnV (w : World) (base : Nat) (v : Value) (ys : List Int) : Prop := w.ownsRow base 3 1 v ys.length (intsV ys)
theorem OwnV.nil (w : World) (base : Nat) : OwnV w base (.slice none 0 0) [] := World.ownsRow_nil w base 3 1
theorem OwnV.form {w : World} {base : Nat} {v : Value} {ys : List Int} (h : OwnV w base v ys) : (v = .slice none 0 0 ∧ ys = []) ∨ ∃ g cap, v = .slice (some ⟨g, 0, none⟩) ys.length cap ∧ base ≤ g ∧ Own w g cap ys := by
  rcases h.2 with ⟨e, h0⟩ | ⟨g, cap, cur, e, hb, hr⟩
  · exact .inl ⟨e, List.length_eq_zero_iff.1 h0⟩
  · refine .inr ⟨g, cap, e, hb, ?_⟩
    exact ⟨h.1, .inr ⟨g, cap, cur, rfl, Nat.zero_le _, hr⟩⟩
theorem OwnV.row {w : World} {base : Nat} {v : Value} {ys : List Int} (h : OwnV w base v ys) : ∃ a cap, v = .slice a ys.length cap ∧ Row w a ys ∧ (∀ x, a = some x → base ≤ x.block) := by
  rcases h.form with ⟨rfl, rfl⟩ | ⟨g, cap, rfl, hb, ho⟩
  · exact ⟨none, 0, rfl, .inl rfl, by simp⟩
  · exact ⟨_, cap, rfl, ho.row, fun x e => by simp at e; subst e; exact hb⟩
theorem OwnV.kept {S : Nat → Prop} {w w' : World} {base : Nat} {v : Value} {ys : List Int} (h : OwnV w base v ys) (hk : Keeps S w w') (hb : ∀ k, v.ownBlock = some k → ¬ S k) : OwnV w' base v ys :=
  owns_heap h (fun k e => hk.block k (World.ownsRow.lt h k e).2 (hb k e))

set_option maxRecDepth 100000 in
/-- One number more behind a slice that the call owns. -/
theorem append_one (w : World) (base : Nat) (v : Value) (ys : List Int) (h : OwnV w base v ys) (x : Int) (b : Nat) (hx : w.heap[b]? = some (.cells #[.int .i64 x] 3 (0, 0))) (hb : base ≤ w.heap.size) (hn : ys.length ≤ 1000000) :
    ∃ g cap w', (Builtin.append_ #[22, 22] 22 #[v, .slice (some ⟨b, 0, none⟩) 1 1]).run Tryz.prog w = .ok (.slice (some ⟨g, 0, none⟩) (ys.length + 1) cap) w' ∧ OwnV w' base (.slice (some ⟨g, 0, none⟩) (ys.length + 1) cap) (ys ++ [x]) ∧ w.grownBy w' v.ownBlock ∧ (v.ownBlock = some g ∨ g = w.heap.size) := by
  obtain ⟨i, hi, h1, h2, h3⟩ : ∃ i, Tryz.prog.info? 3 = some i ∧ i.zero = some (.int .i64 0) ∧ i.bytes = 8 ∧ i.size = 1 := ⟨Tryz.t3, Tryz.type3, rfl, rfl, rfl⟩
  obtain ⟨g, cap, w', hr, ho, hg, hat, hlt⟩ := run_append_lies (P := Tryz.prog) w 22 22 base 3 i (.int .i64 0) 1 8 Tryz.underlying22 hi h1 h3 h2 rfl (by decide) v ys.length (intsV ys) h ⟨b, 0, none⟩ 1 1 [.int .i64 x] rfl (fun j u hu => by
      have hj : j = 0 := by have := (List.getElem?_eq_some_iff.1 hu).1; simp at this; omega
      subst hj
      simp at hu
      subst hu
      exact cell_of_heap hx rfl) (fun u hu => by simp at hu; subst hu; rfl) (by decide) (by unfold maxLen; omega) (by omega) hb _ rfl
  refine ⟨g, cap, w', hr, ?_, hg, hat⟩
  unfold OwnV
  rw [intsV_append, List.length_append]
  exact ho
theorem wpList_one {ops : Array Oper} {rest : List Oper} {o : Oper} {a : Act} {w : World} {Q : Exit → Act → World → Prop} (hgd : o.guard = none) (s x : Operand) (ho : o.op = .call { callee := .builtin .append, args := #[s, x], argTypes := #[22, 22] }) (hty : o.type = 22)
    (base : Nat) (v : Value) (ys : List Int) (hs : a.eval s = v) (hown : OwnV w base v ys) (b : Nat) (y : Int) (hx : a.eval x = .slice (some ⟨b, 0, none⟩) 1 1) (hR : w.heap[b]? = some (.cells #[.int .i64 y] 3 (0, 0))) (hb : base ≤ w.heap.size) (hn : ys.length ≤ 1000000)
    (h : ∀ g cap w', OwnV w' base (.slice (some ⟨g, 0, none⟩) (ys.length + 1) cap) (ys ++ [y]) → w.grownBy w' v.ownBlock → (v.ownBlock = some g ∨ g = w.heap.size) → wpList Tryz.prog ops Q rest (a.put o.dst (.slice (some ⟨g, 0, none⟩) (ys.length + 1) cap)) w') : wpList Tryz.prog ops Q (o :: rest) a w :=
  wpList_plain hgd fun _ hK => by
    obtain ⟨g, cap, w', hr, h2, h3, h4⟩ := append_one w base v ys hown y b hR hb hn
    unfold Oper.wp execOp
    simp only [ho, hty, resolve, invoke, builtin, Sem.run_bind, Sem.run_pure, Result.andThen_ok, List.map_toArray, List.map_cons, List.map_nil, hs, hx, hr]
    exact hK _ _ (h g cap w' h2 h3 h4)

set_option maxRecDepth 100000 in
theorem Own.made (w : World) (n : Nat) (hn : n ≤ 1000000) : ∃ w1, (Instr.makeSlice 22 (.int .i64 (n : Int)) (.int .i64 (n : Int))).run Tryz.prog w = .ok (.slice (some ⟨w.heap.size, 0, none⟩) n n) w1 ∧ Own w1 w.heap.size n (List.replicate n 0) ∧ Keeps (fun _ => False) w w1 := by
  obtain ⟨i, hi, h1, h2, h3⟩ : ∃ i, Tryz.prog.info? 3 = some i ∧ i.zero = some (.int .i64 0) ∧ i.bytes = 8 ∧ i.size = 1 := ⟨Tryz.t3, Tryz.type3, rfl, rfl, rfl⟩
  have hr := run_make (P := Tryz.prog) w 22 3 i _ Tryz.underlying22 hi h1 .i64 .i64 n n (by omega) (by omega) (by rw [h2]; omega) (by omega)
  refine ⟨_, by simpa using hr, ?_, (Keeps.refl _ w).alloc _⟩
  refine ⟨by simp [intsV], .inr ⟨_, _, _, by simp; rfl, Nat.zero_le _, heap_alloc_new _ _, by simp, by unfold maxLen; omega, by simp [madeCells, h3], ?_⟩⟩
  apply List.ext_getElem?
  intro j
  simp only [madeCells, h3, Value.cells]
  rw [List.getElem?_take]
  by_cases hj : j < n
  · rw [if_pos (by simp; omega), Array.getElem?_toList, Array.getElem?_map, Array.getElem?_range, if_pos (by omega)]; simp [hj, Nat.mod_one, intsV]
  · rw [if_neg (by simp; omega)]; simp [hj, intsV]
theorem wpList_ints {ops : Array Oper} {rest : List Oper} {op : Oper} {a : Act} {w : World} {Q : Exit → Act → World → Prop} (hgd : op.guard = none) (l c : Operand) (ho : op.op = .makeSlice 22 l c) (n : Nat) (hl : a.eval l = .int .i64 (n : Int)) (hc : a.eval c = .int .i64 (n : Int)) (hn : n ≤ 1000000)
    (h : ∀ g w1, Own w1 g n (List.replicate n 0) → Keeps (fun _ => False) w w1 → w.heap.size ≤ g → wpList Tryz.prog ops Q rest (a.put op.dst (.slice (some ⟨g, 0, none⟩) n n)) w1) : wpList Tryz.prog ops Q (op :: rest) a w :=
  wpList_plain hgd fun _ hK => by
    obtain ⟨w1, hr, hC, hk⟩ := Own.made w n hn
    unfold Oper.wp execOp
    simp only [ho, hl, hc, hr, Sem.run_bind, Sem.run_pure, Result.andThen_ok]
    exact hK _ _ (h w.heap.size _ hC hk (Nat.le_refl _))
theorem results_cell {fn : Func} {p : Tmp} {ty : TypeId} (h : fn.results = #[.cell p ty]) (tmps : Array Value) (P : Program) (w : World) :
    (results fn tmps).run P w = ((asAddr (tmps.getD p undef)).run P w).andThen fun a w₁ => (Go.loadVar ty a).run P w₁ := by
  simp only [results, h]
  simp [Sem.run_bind, Result.andThen]
theorem keeps_setCells {S : Nat → Prop} {a : World} (b : Nat) (hb : b < a.heap.size → S b) : ∀ (vs : List Value) (o : Nat) (w : World), Keeps S a w → Keeps S a (w.setCells b o vs)
  | [], _, _, h => h
  | v :: r, o, w, h => by rw [World.setCells]; exact keeps_setCells b hb r (o + 1) _ (h.setCell hb v)

end Go.Proofs.YtfbghchgfbjogaaGreat.Zp

namespace Go.Proofs.YtfbghchgfbjogaaGreat.Zp
open Go.RowKit
set_option linter.unusedVariables false
set_option linter.unusedSimpArgs false

/-- A slice that came in, for an append: nil, or somewhere. -/
def Came (a : Option Addr) (n cap : Nat) : Prop := (a = none ∧ n = 0 ∧ cap = 0) ∨ ∃ x, a = some x
set_option maxRecDepth 100000 in
theorem append_any (w : World) (base : Nat) (v : Value) (n : Nat) (xs : List Value) (hown : w.ownsRow base 3 1 v n xs) (a : Option Addr) (ys : List Int) (cap : Nat) (hR : Row w a ys) (hA : Came a ys.length cap) (hb : base ≤ w.heap.size) (hsz : (n + ys.length) * 8 ≤ 140737488355328) :
    ∃ v' w', (Builtin.append_ #[22, 22] 22 #[v, .slice a ys.length cap]).run Tryz.prog w = .ok v' w' ∧ w'.ownsRow base 3 1 v' (n + ys.length) (xs ++ intsV ys) ∧ w.grownBy w' v.ownBlock := by
  obtain ⟨i, hi, h1, h2, h3⟩ : ∃ i, Tryz.prog.info? 3 = some i ∧ i.zero = some (.int .i64 0) ∧ i.bytes = 8 ∧ i.size = 1 := ⟨Tryz.t3, Tryz.type3, rfl, rfl, rfl⟩
  have hml : n + ys.length ≤ maxLen := by unfold maxLen; omega
  rcases hA with ⟨rfl, h0, rfl⟩ | ⟨x, rfl⟩
  · have hy : ys = [] := List.length_eq_zero_iff.1 h0
    subst hy
    exact ⟨v, w, run_append_owned_none (P := Tryz.prog) w base 22 22 3 i 1 Tryz.underlying22 hi v n xs hown, by simpa [intsV] using hown, World.grownBy.refl _ _⟩
  · obtain ⟨v', w', hr, ho, hg, _⟩ := run_append_own (P := Tryz.prog) w base 22 22 3 i (.int .i64 0) 1 8 Tryz.underlying22 hi h1 h3 h2 rfl (by decide) v n xs hown x ys.length cap (intsV ys) (by simp [intsV]) (fun j u hu => by
        have hj : j < ys.length := by have := (List.getElem?_eq_some_iff.1 hu).1; simpa [intsV] using this
        rcases hR with hR | ⟨b', off', e, _, hc⟩
        · subst hR; simp at hj
        · simp only [Option.some.injEq] at e
          subst e
          rw [Addr.add_mid, hc j hj, ← hu]
          simp [intsV, hj]) (fun u hu => by
        simp only [intsV, List.mem_map] at hu
        obtain ⟨y, _, rfl⟩ := hu
        rfl) hml hsz hb
    exact ⟨v', w', hr, ho, hg⟩
theorem wpList_append {ops : Array Oper} {rest : List Oper} {o : Oper} {a : Act} {w : World} {Q : Exit → Act → World → Prop} (hgd : o.guard = none) (s x : Operand) (ho : o.op = .call { callee := .builtin .append, args := #[s, x], argTypes := #[22, 22] }) (hty : o.type = 22)
    (base : Nat) (v : Value) (n : Nat) (xs : List Value) (hs : a.eval s = v) (hown : w.ownsRow base 3 1 v n xs) (ad : Option Addr) (ys : List Int) (cap : Nat) (hx : a.eval x = .slice ad ys.length cap) (hR : Row w ad ys) (hA : Came ad ys.length cap) (hb : base ≤ w.heap.size) (hsz : (n + ys.length) * 8 ≤ 140737488355328)
    (h : ∀ v' w', w'.ownsRow base 3 1 v' (n + ys.length) (xs ++ intsV ys) → w.grownBy w' v.ownBlock → wpList Tryz.prog ops Q rest (a.put o.dst v') w') : wpList Tryz.prog ops Q (o :: rest) a w :=
  wpList_plain hgd fun _ hK => by
    obtain ⟨v', w', hr, h2, h3⟩ := append_any w base v n xs hown ad ys cap hR hA hb hsz
    unfold Oper.wp execOp
    simp only [ho, hty, resolve, invoke, builtin, Sem.run_bind, Sem.run_pure, Result.andThen_ok, List.map_toArray, List.map_cons, List.map_nil, hs, hx, hr]
    exact hK _ _ (h v' w' h2 h3)

set_option maxHeartbeats 4000000 in
set_option maxRecDepth 1000000 in
theorem num_any (x : Int) (w : World) : Calls Tryz.prog 11 #[.int .i64 x] w fun e w' => e = .returned (.int .i64 x) ∧ w' = w := by
  go_enter Tryz.func11, Tryz.ntmps11
  go_wp2
  go_ret
  exact ⟨rfl, rfl⟩

/-- Two rows held against each other. -/
theorem at_ne {ys zs : List Int} {i : Nat} (h : at_ ys i ≠ at_ zs i) : ¬ ys = zs := fun e => h (by rw [e])
set_option maxHeartbeats 4000000 in
set_option maxRecDepth 1000000 in
theorem same_ok (a a' : Option Addr) (ys zs : List Int) (cap cap' : Nat) (w : World) (h : Row w a ys) (h' : Row w a' zs) (hn : ys.length ≤ 1125899906842624) (hn' : zs.length ≤ 1125899906842624) :
    Calls Tryz.prog 26 #[.slice a ys.length cap, .slice a' zs.length cap'] w fun e w' => e = .returned (.bool (decide (ys = zs))) ∧ Keeps (fun _ => False) w w' := by
  have HA : Hid (Row w a ys) := h
  have HB : Hid (Row w a' zs) := h'
  clear h h'
  by_cases hlen : ys.length = zs.length
  · have HZ : Hid (ys.length = zs.length) := hlen
    rw [← hlen] at hn' ⊢
    clear hlen
    obtain ⟨n, hL⟩ : ∃ n, ys.length = n := ⟨_, rfl⟩
    rw [hL] at hn hn' ⊢
    have HL : Hid (ys.length = n) := hL
    clear hL hn'
    obtain ⟨d, hd⟩ : ∃ d, decide (ys = zs) = d := ⟨_, rfl⟩
    rw [hd]
    have HD : Hid (decide (ys = zs) = d) := hd
    clear hd
    go_enter Tryz.func26, Tryz.ntmps26
    go_wp2
    go_loopw [5] (fun s5 w' => ∃ i : Nat, i ≤ n ∧ s5 = .int .i64 (i : Int) ∧ Hid (Keeps (fun _ => False) w w' ∧ ∀ j, j < i → at_ ys j = at_ zs j)) (fun s5 w' => ((n : Int) - intOf s5).toNat)
    case atStart => exact ⟨0, by omega, rfl, Keeps.refl _ _, fun j hj => absurd hj (Nat.not_lt_zero _)⟩
    case round =>
      obtain ⟨i, hi, rfl, HK⟩ := hrel
      by_cases hin : i < n
      · have hiz : (i : Int) < (n : Int) := by omega
        have hil : i < ys.length := by rw [HL.out]; exact hin
        have hil' : i < zs.length := by rw [← HZ.out]; exact hil
        obtain ⟨b, off, rfl, hb, hc⟩ := HA.out.at (by omega)
        obtain ⟨b', off', rfl, hb', hc'⟩ := HB.out.at (by omega)
        have c1 := hc wr HK.out.1 i hil
        have c2 := hc' wr HK.out.1 i hil'
        clear hc hc' hil hil'
        have HE : Hid (at_ ys i = at_ zs i → ∀ j, j < i + 1 → at_ ys j = at_ zs j) := by
          refine (fun he j hj => ?_ : at_ ys i = at_ zs i → ∀ j, j < i + 1 → at_ ys j = at_ zs j)
          by_cases e : j = i
          · subst e; exact he
          · exact HK.out.2 j (by omega)
        have HF : Hid (¬ at_ ys i = at_ zs i → d = false) := by
          refine (fun hne => ?_ : ¬ at_ ys i = at_ zs i → d = false)
          rw [← HD.out]; exact decide_eq_false (at_ne hne)
        have HK' : Hid (Keeps (fun _ => False) w wr) := HK.out.1
        clear HK
        generalize at_ ys i = y at *
        generalize at_ zs i = z at *
        by_cases hyz : y = z
        · subst hyz
          go_wp2
          go_quiet (fail)
          have HK2 : Hid (Keeps (fun _ => False) w (wr.drewN nq)) := HK'.out.drewN nq
          generalize wr.drewN nq = wn at *
          clear c1 c2 HK'
          go_wp2
          go_roundw
          case rel => exact ⟨i + 1, by omega, by push_cast; rfl, HK2.out, HE.out (by first | rfl | trivial)⟩
          case measure => simp [intOf]; omega
        · have hb1 : (y != z) = true := by simpa using hyz
          have hb2 : decide (y = z) = false := decide_eq_false hyz
          have hb3 : (y == z) = false := by simpa using hyz
          go_wp2
          go_quiet (fail)
          have HK2 : Hid (Keeps (fun _ => False) w (wr.drewN nq)) := HK'.out.drewN nq
          generalize wr.drewN nq = wn at *
          clear c1 c2 HK'
          go_wp2
          go_ret
          exact ⟨by rw [HF.out hyz]; rfl, HK2.out⟩
      · obtain rfl : i = n := by omega
        have hd : d = true := by
          rw [← HD.out]
          exact decide_eq_true (at_ext HZ.out (fun j hj => HK.out.2 j (by rw [HL.out] at hj; exact hj)))
        go_wp2
        go_ret
        exact ⟨by rw [hd]; rfl, HK.out.1⟩
  · have HD : Hid (decide (ys = zs) = false) := decide_eq_false (fun e => hlen (by rw [e]))
    rw [HD.out]
    generalize ys.length = n at *
    generalize zs.length = m at *
    have hb1 : ((n : Int) != (m : Int)) = true := by simp; omega
    have hb2 : ¬ ((n : Int) = (m : Int)) := by omega
    clear HA HB HD
    go_enter Tryz.func26, Tryz.ntmps26
    go_wp2
    go_ret
    exact ⟨rfl, Keeps.refl _ _⟩
theorem sameInts_yes (a a' : Option Addr) (ys : List Int) (cap cap' : Nat) (w : World) (h : Row w a ys) (h' : Row w a' ys) (hn : ys.length ≤ 1125899906842624) :
    Calls Tryz.prog 26 #[.slice a ys.length cap, .slice a' ys.length cap'] w fun e w' => e = .returned (.bool true) ∧ Keeps (fun _ => False) w w' :=
  (same_ok a a' ys ys cap cap' w h h' hn hn).mono (fun e w' h => by rw [decide_eq_true rfl] at h; exact h)

/-- What is known of a slice of ints that came in: nil, or a row of cells. -/
def IsRow (k : IntKind) (w : World) (a : Option Addr) (len cap : Nat) (zs : List Int) : Prop :=
  (a = none ∧ len = 0 ∧ cap = 0 ∧ zs = []) ∨
  ∃ x, a = some x ∧ len ≤ cap ∧ cap ≤ maxLen ∧ zs.length = cap ∧ (∀ i, i < zs.length → w.cell? (x.add i) = some (.int k (zs.getD i 0))) ∧ ∀ n ∈ zs, (Lit.int k n).wf = true

theorem IsRow.row {w : World} {a : Option Addr} {len cap : Nat} {zs : List Int} (h : IsRow .i64 w a len cap zs) :
    ∃ ys : List Int, ys.length = len ∧ Row w a ys ∧ ys.length ≤ maxLen ∧ (∀ y ∈ ys, (Lit.int .i64 y).wf = true) := by
  rcases h with ⟨rfl, rfl, rfl, rfl⟩ | ⟨x, rfl, hl, hm, hz, hc, hw⟩
  · exact ⟨[], rfl, .inl rfl, by simp, by simp⟩
  · refine ⟨zs.take len, by rw [List.length_take]; omega, ?_, by rw [List.length_take]; omega, fun y hy => hw y (List.mem_of_mem_take hy)⟩
    by_cases h0 : len = 0
    · left; rw [h0]; rfl
    · obtain ⟨b, off, rfl, hcell⟩ := ints_at hc (by omega)
      refine .inr ⟨b, off, rfl, World.block_lt_of_cell? w _ (hcell 0 (by omega)), fun i hi => ?_⟩
      rw [List.length_take] at hi
      rw [hcell i (by omega), List.getElem_take, List.getD, List.getElem?_eq_getElem (by omega)]; rfl

theorem owns_ge {w : World} {base : Nat} {e : TypeId} {size : Nat} {v : Value} {n : Nat} {xs : List Value} (h : w.ownsRow base e size v n xs) (k : Nat) (hk : v.ownBlock = some k) : base ≤ k := by
  rcases h.2 with ⟨rfl, _⟩ | ⟨g, cap, cur, rfl, hb, _⟩
  · simp [Value.ownBlock] at hk
  · simp [Value.ownBlock] at hk; omega
/-- Lent: the numbers, and two marks behind them. -/
def Lent (w : World) (g : Nat) (ys : List Int) (cap : Nat) : Prop :=
  g < w.heap.size ∧ ys.length + 2 ≤ cap ∧ ∀ i, i < ys.length + 2 → w.cell? ⟨g, i, none⟩ = some (.int .i64 (at_ (ys ++ [-7777, -8888]) i))
theorem Lent.kept {S : Nat → Prop} {w w' : World} {g cap : Nat} {ys : List Int} (h : Lent w g ys cap) (hk : Keeps S w w') (hg : ¬ S g) : Lent w' g ys cap :=
  ⟨Nat.lt_of_lt_of_le h.1 hk.size, h.2.1, fun i hi => by rw [World.cell?_of_block (hk.block g h.1 hg)]; exact h.2.2 i hi⟩
theorem Lent.row {w : World} {g cap : Nat} {ys : List Int} (h : Lent w g ys cap) : Row w (some ⟨g, 0, none⟩) ys :=
  .inr ⟨g, 0, rfl, h.1, fun i hi => by rw [Nat.zero_add, h.2.2 i (by omega), at_append_left _ _ _ hi, at_eq i hi]⟩
set_option maxHeartbeats 4000000 in
set_option maxRecDepth 1000000 in
theorem spoil_none (cap : Nat) (w : World) : Calls Tryz.prog 28 #[.slice none 0 cap] w fun e w' => e = .returned (.tuple #[]) ∧ Keeps (fun _ => False) w w' := by
  go_enter Tryz.func28, Tryz.ntmps28
  go_wp2
  go_loopw [2] (fun s2 w' => s2 = .int .i64 0 ∧ w' = w) (fun s2 w' => 0)
  case atStart => exact ⟨rfl, rfl⟩
  case round =>
    obtain ⟨rfl, rfl⟩ := hrel
    go_wp2
    go_end0
    exact ⟨rfl, Keeps.refl _ _⟩

set_option maxHeartbeats 4000000 in
set_option maxRecDepth 1000000 in
theorem spoil_ok (g cap : Nat) (ys : List Int) (w : World) (h : Own w g cap ys) (hn : ys.length ≤ 1000000) :
    Calls Tryz.prog 28 #[.slice (some ⟨g, 0, none⟩) ys.length cap] w fun e w' => e = .returned (.tuple #[]) ∧ Keeps (fun b => b = g) w w' := by
  obtain ⟨n, hL⟩ : ∃ n, ys.length = n := ⟨_, rfl⟩
  have HW : Hid ((∃ zs : List Int, zs.length = n ∧ Own w g cap zs) ∧ Keeps (fun k => k = g) w w) := ⟨⟨ys, hL, h⟩, Keeps.refl _ _⟩
  rw [hL] at hn
  rw [hL]
  clear h hL
  go_enter Tryz.func28, Tryz.ntmps28
  go_wp2
  go_loopw [2] (fun s2 w' => ∃ i : Nat, i ≤ n ∧ s2 = .int .i64 (i : Int) ∧ Hid ((∃ zs : List Int, zs.length = n ∧ Own w' g cap zs) ∧ Keeps (fun k => k = g) w w')) (fun s2 w' => ((n : Int) - intOf s2).toNat)
  case atStart => exact ⟨0, by omega, rfl, HW⟩
  case round =>
    clear HW
    obtain ⟨i, hi, rfl, HW⟩ := hrel
    by_cases hin : i < n
    · have hiz : (i : Int) < (n : Int) := by omega
      obtain ⟨zs, hzl, hzo⟩ := HW.out.1
      have hc := hzo.cell i (by omega)
      have hf := hzo.free i (by omega)
      generalize at_ zs i = y at *
      have HZ : Hid (zs.length = n ∧ Own wr g cap zs) := ⟨hzl, hzo⟩
      clear hzl hzo
      go_wp2
      go_roundw
      case rel => exact ⟨i + 1, by omega, by push_cast; rfl, ⟨_, by rw [List.length_set]; exact HZ.out.1, HZ.out.2.set i _⟩, HW.out.2.setCell (fun _ => rfl) _⟩
      case measure => simp [intOf]; omega
    · obtain rfl : i = n := by omega
      go_wp2
      go_end0
      exact ⟨rfl, HW.out.2⟩

/-- What a call answered, written over, nil too. -/
theorem spoil_any (base : Nat) (v : Value) (ys : List Int) (w : World) (h : OwnV w base v ys) (hn : ys.length ≤ 1000000) :
    Calls Tryz.prog 28 #[v] w fun e w' => e = .returned (.tuple #[]) ∧ Keeps (fun b => base ≤ b ∧ v.ownBlock = some b) w w' := by
  rcases h.form with ⟨rfl, rfl⟩ | ⟨g, cap, rfl, hb, ho⟩
  · refine (spoil_none 0 w).mono ?_
    rintro e w' ⟨rfl, hk⟩
    exact ⟨rfl, hk.mono (fun _ _ h => h.elim)⟩
  · refine (spoil_ok g cap ys w ho hn).mono ?_
    rintro e w' ⟨rfl, hk⟩
    exact ⟨rfl, hk.mono (fun i _ h => by subst h; exact ⟨hb, rfl⟩)⟩
theorem IsRow.rowC {w : World} {a : Option Addr} {len cap : Nat} {zs : List Int} (h : IsRow .i64 w a len cap zs) :
    ∃ ys : List Int, ys.length = len ∧ Row w a ys ∧ ys.length ≤ maxLen ∧ Came a ys.length cap := by
  obtain ⟨ys, h1, h2, h3, _⟩ := h.row
  refine ⟨ys, h1, h2, h3, ?_⟩
  rcases h with ⟨rfl, rfl, rfl, _⟩ | ⟨x, rfl, _⟩
  · exact .inl ⟨rfl, h1, rfl⟩
  · exact .inr ⟨x, rfl⟩

end Go.Proofs.YtfbghchgfbjogaaGreat.Zp

namespace Go.Proofs.YtfbghchgfbjogaaGreat.Zp
open Go.RowKit
set_option linter.unusedVariables false
set_option linter.unusedSimpArgs false

/-- A count that may be; a vector that may be. -/
def cntB (y : Int) : Bool := decide (0 ≤ y ∧ y ≤ 1048576)
def mayB (ys : List Int) : Bool := decide (ys.length = 4) && ys.all cntB
def joinL (ys zs : List Int) : List Int := (List.range 4).map (fun j => max (at_ ys j) (at_ zs j))
/-- What the calls answer. -/
def bothB (ys zs : List Int) : Bool := mayB ys && mayB zs
def vErr (ys zs : List Int) : Int := bif bothB ys zs then 0 else 1100
def joinV (ys zs : List Int) : List Int := bif bothB ys zs then joinL ys zs else []
theorem mayB_len {ys : List Int} (h : mayB ys = true) : ys.length = 4 := by
  simp only [mayB, Bool.and_eq_true, decide_eq_true_eq] at h; exact h.1
theorem mayB_cnt {ys : List Int} (h : mayB ys = true) (i : Nat) : 0 ≤ at_ ys i ∧ at_ ys i ≤ 1048576 := by
  have hl := mayB_len h
  simp only [mayB, Bool.and_eq_true, List.all_eq_true] at h
  by_cases hi : i < ys.length
  · have := h.2 ys[i] (List.getElem_mem _)
    rw [at_eq i hi]
    simpa [cntB] using this
  · simp [at_, List.getD, List.getElem?_eq_none (Nat.le_of_not_lt hi)]
theorem mayB_of {ys : List Int} (hl : ys.length = 4) (h : ∀ i, i < ys.length → 0 ≤ at_ ys i ∧ at_ ys i ≤ 1048576) : mayB ys = true := by
  simp only [mayB, Bool.and_eq_true, decide_eq_true_eq, List.all_eq_true]
  refine ⟨hl, fun y hy => ?_⟩
  obtain ⟨i, hi, rfl⟩ := List.getElem_of_mem hy
  have := h i hi
  rw [at_eq i hi] at this
  simpa [cntB] using this
theorem mayB_bad {ys : List Int} (i : Nat) (hi : i < ys.length) (h : at_ ys i < 0 ∨ 1048576 < at_ ys i) : mayB ys = false := by
  cases e : mayB ys
  · rfl
  · have := mayB_cnt e i; omega
theorem mayB_out {ys : List Int} (hl : ¬ ys.length = 4) : mayB ys = false := by
  simp [mayB, hl]
theorem joinL_len (ys zs : List Int) : (joinL ys zs).length = 4 := by simp [joinL]
theorem joinL_at (ys zs : List Int) (i : Nat) (hi : i < 4) : at_ (joinL ys zs) i = max (at_ ys i) (at_ zs i) := by
  unfold joinL
  rw [at_, List.getD, List.getElem?_map, List.getElem?_range hi]; rfl
set_option maxHeartbeats 4000000 in
set_option maxRecDepth 1000000 in
theorem may_ok (a : Option Addr) (ys : List Int) (cap : Nat) (w : World) (hR : Row w a ys) (hn : ys.length ≤ 1125899906842624) :
    Calls Tryz.prog 38 #[.slice a ys.length cap] w fun e w' => e = .returned (.bool (mayB ys)) ∧ w' = w := by
  by_cases hl : ys.length = 4
  · obtain ⟨b, off, rfl, hb, hc⟩ := hR.at (by omega)
    have HC : Hid (∀ i, i < 4 → w.cell? ⟨b, off + i, none⟩ = some (.int .i64 (at_ ys i))) := fun i hi => hc w (Keeps.refl _ _) i (by omega)
    have HL : Hid (ys.length = 4) := hl
    clear hc hR hb hn
    rw [hl]
    clear hl
    go_enter Tryz.func38, Tryz.ntmps38
    go_wp2
    go_loopw [4, 10] (fun _ s w' => w' = w ∧ ∃ i : Nat, i ≤ 4 ∧ s = .int .i64 (i : Int) ∧ Hid (∀ j, j < i → 0 ≤ at_ ys j ∧ at_ ys j ≤ 1048576)) (fun _ s _ => 4 - (intOf s).toNat)
    case atStart => exact ⟨rfl, 0, by omega, rfl, fun j hj => absurd hj (Nat.not_lt_zero _)⟩
    case round =>
      obtain ⟨rfl, i, hi, rfl, HQ⟩ := hrel
      by_cases hin : i < 4
      · have hiz : (i : Int) < 4 := by omega
        have c1 := HC.out i hin
        have HB : Hid (at_ ys i < 0 ∨ 1048576 < at_ ys i → mayB ys = false) := mayB_bad i (by rw [HL.out]; exact hin)
        have HG : Hid (0 ≤ at_ ys i ∧ at_ ys i ≤ 1048576 → ∀ j, j < i + 1 → 0 ≤ at_ ys j ∧ at_ ys j ≤ 1048576) := by
          refine (fun he j hj => ?_ : 0 ≤ at_ ys i ∧ at_ ys i ≤ 1048576 → ∀ j, j < i + 1 → 0 ≤ at_ ys j ∧ at_ ys j ≤ 1048576)
          by_cases e : j = i
          · subst e; exact he
          · exact HQ.out j (by omega)
        generalize at_ ys i = y at *
        have hy : y < 0 ∨ (0 ≤ y ∧ y ≤ 1048576) ∨ 1048576 < y := by omega
        rcases hy with hy | ⟨hy, hy'⟩ | hy
        · go_wp2
          go_ret
          exact ⟨by rw [HB.out (.inl hy)]; rfl, rfl⟩
        · have d1 : decide (y < 0) = false := decide_eq_false (by omega)
          have d2 : decide (1048576 < y) = false := decide_eq_false (by omega)
          go_wp2
          go_roundw
          case rel => exact ⟨trivial, i + 1, by omega, by push_cast; rfl, HG.out ⟨hy, hy'⟩⟩
          case measure => simp [intOf]; omega
        · have d1 : decide (y < 0) = false := decide_eq_false (by omega)
          go_wp2
          go_ret
          exact ⟨by rw [HB.out (.inr hy)]; rfl, rfl⟩
      · obtain rfl : i = 4 := by omega
        go_wp2
        go_ret
        exact ⟨by rw [mayB_of HL.out (fun j hj => HQ.out j (by rw [HL.out] at hj; exact hj))]; rfl, rfl⟩
  · rw [mayB_out hl]
    generalize ys.length = n at *
    have hb1 : ((n : Int) != 4) = true := by simp; omega
    have hb2 : ¬ ((n : Int) = 4) := by omega
    clear hR
    go_enter Tryz.func38, Tryz.ntmps38
    go_wp2
    go_ret
    exact ⟨rfl, rfl⟩

end Go.Proofs.YtfbghchgfbjogaaGreat.Zp

namespace Go.Proofs.YtfbghchgfbjogaaGreat.Zp
open Go.RowKit
set_option linter.unusedVariables false
set_option linter.unusedSimpArgs false

theorem Row.some4 {w : World} {a : Option Addr} {ys : List Int} (h : Row w a ys) (hm : mayB ys = true) : ∃ b off, a = some ⟨b, off, none⟩ := by
  obtain ⟨b, off, e, _⟩ := h.at (by rw [mayB_len hm]; omega)
  exact ⟨b, off, e⟩
end Go.Proofs.YtfbghchgfbjogaaGreat.Zp

namespace Go.Proofs.YtfbghchgfbjogaaGreat.Zp
open Go.RowKit
set_option linter.unusedVariables false
set_option linter.unusedSimpArgs false

set_option maxHeartbeats 1000000 in
set_option maxRecDepth 1000000 in
theorem join_good (b off b' off' : Nat) (ys zs : List Int) (cap cap' : Nat) (w : World) (hR : Row w (some ⟨b, off, none⟩) ys) (hR' : Row w (some ⟨b', off', none⟩) zs) (h1 : mayB ys = true) (h2 : mayB zs = true) :
    Calls Tryz.prog 23 #[.slice (some ⟨b, off, none⟩) 4 cap, .slice (some ⟨b', off', none⟩) 4 cap'] w fun e w' => ∃ g, e = .returned (.tuple #[.slice (some ⟨g, 0, none⟩) 4 4, .int .i64 0]) ∧ Own w' g 4 (joinL ys zs) ∧ Keeps (fun _ => False) w w' ∧ w.heap.size ≤ g := by
  have l1 := mayB_len h1
  have l2 := mayB_len h2
  have M1 : Hid (Calls Tryz.prog 38 #[.slice (some ⟨b, off, none⟩) 4 cap] w fun e w' => e = .returned (.bool true) ∧ w' = w) := by
    have := may_ok _ ys cap w hR (by omega); rw [l1, h1] at this; exact this
  have M2 : Hid (Calls Tryz.prog 38 #[.slice (some ⟨b', off', none⟩) 4 cap'] w fun e w' => e = .returned (.bool true) ∧ w' = w) := by
    have := may_ok _ zs cap' w hR' (by omega); rw [l2, h2] at this; exact this
  obtain ⟨_, _, e1, _, hc⟩ := hR.at (by omega)
  cases e1
  obtain ⟨_, _, e2, _, hc'⟩ := hR'.at (by omega)
  cases e2
  have HC : Hid (∀ w', Keeps (fun _ => False) w w' → ∀ i, i < 4 → w'.cell? ⟨b, off + i, none⟩ = some (.int .i64 (at_ ys i)) ∧ w'.cell? ⟨b', off' + i, none⟩ = some (.int .i64 (at_ zs i))) := fun w' hk i hi => ⟨hc w' hk i (by omega), hc' w' hk i (by omega)⟩
  clear hc hc' hR hR' h1 h2 l1 l2
  go_enter Tryz.func23, Tryz.ntmps23
  go_wp2_with (first
    | (go_at_call 38; (fail_if_success (clear H1)); refine M1.out.mono ?_; rintro e w' ⟨rfl, hw⟩; obtain rfl := hw.symm; clear hw; have H1 : Hid True := trivial)
    | (go_at_call 38; refine M2.out.mono ?_; rintro e w' ⟨rfl, hw⟩; obtain rfl := hw.symm; clear hw)
    | (at_make; refine wpList_ints rfl _ _ rfl 4 rfl rfl (by decide) ?_; intro g w1 hO hK hg; have HO : Hid (Own w1 g 4 [0, 0, 0, 0] ∧ Keeps (fun _ => False) w w1 ∧ w.heap.size ≤ g) := ⟨hO, hK, hg⟩; clear hO hK hg))
  go_loopw [7, 8, 20] (fun _ _ s w' => ∃ i : Nat, i ≤ 4 ∧ s = .int .i64 (i : Int) ∧ Hid (∃ xs : List Int, xs.length = 4 ∧ Own w' g 4 xs ∧ Keeps (fun _ => False) w w' ∧ ∀ j, j < i → at_ xs j = max (at_ ys j) (at_ zs j))) (fun _ _ s _ => 4 - (intOf s).toNat)
  case atStart => exact ⟨0, by omega, rfl, [0, 0, 0, 0], rfl, HO.out.1, HO.out.2.1, fun j hj => absurd hj (Nat.not_lt_zero _)⟩
  case round =>
    obtain ⟨i, hi, rfl, HX⟩ := hrel
    by_cases hin : i < 4
    · have hiz : (i : Int) < 4 := by omega
      obtain ⟨xs, xl, xo, xk, xq⟩ := HX.out
      obtain ⟨c1, c2⟩ := HC.out wr xk i hin
      have c3 := xo.cell i (by omega)
      have f3 := xo.free i (by omega)
      have HN : Hid (∀ w', w' = wr.setCell ⟨g, i, none⟩ (.int .i64 (max (at_ ys i) (at_ zs i))) → ∃ xs : List Int, xs.length = 4 ∧ Own w' g 4 xs ∧ Keeps (fun _ => False) w w' ∧ ∀ j, j < i + 1 → at_ xs j = max (at_ ys j) (at_ zs j)) := by
        refine (fun w' hw => ?_ : ∀ w', w' = wr.setCell ⟨g, i, none⟩ (.int .i64 (max (at_ ys i) (at_ zs i))) → ∃ xs : List Int, xs.length = 4 ∧ Own w' g 4 xs ∧ Keeps (fun _ => False) w w' ∧ ∀ j, j < i + 1 → at_ xs j = max (at_ ys j) (at_ zs j))
        subst hw
        refine ⟨xs.set i (max (at_ ys i) (at_ zs i)), by rw [List.length_set]; exact xl, xo.set i _, xk.setCell (fun h => by have := HO.out.2.2; simp at h; omega) _, fun j hj => ?_⟩
        rw [at_set]
        by_cases e : i = j
        · subst e; rw [if_pos ⟨rfl, by omega⟩]
        · rw [if_neg (fun h => e h.1)]; exact xq j (by omega)
      clear HX xq xk xo xl
      generalize at_ ys i = y at *
      generalize at_ zs i = z at *
      generalize at_ xs i = x at *
      go_wp2
      go_roundw
      case rel => exact ⟨i + 1, by omega, by push_cast; rfl, HN.out _ (by have e : max y z = if y < z then z else y := (by rw [Int.max_def]; split <;> split <;> omega); rw [e])⟩
      case measure => simp [intOf]; omega
    · obtain rfl : i = 4 := by omega
      go_wp2
      go_ret2
      obtain ⟨xs, xl, xo, xk, xq⟩ := HX.out
      have : xs = joinL ys zs := at_ext (by rw [xl, joinL_len]) (fun j hj => by rw [joinL_at _ _ _ (by omega)]; exact xq j (by omega))
      subst this
      exact ⟨g, rfl, xo, xk, HO.out.2.2⟩

set_option maxHeartbeats 1000000 in
set_option maxRecDepth 1000000 in
theorem join_bad (a a' : Option Addr) (ys zs : List Int) (cap cap' : Nat) (w : World) (hR : Row w a ys) (hR' : Row w a' zs) (hn : ys.length ≤ 1125899906842624) (hn' : zs.length ≤ 1125899906842624) (hb : bothB ys zs = false) :
    Calls Tryz.prog 23 #[.slice a ys.length cap, .slice a' zs.length cap'] w fun e w' => e = .returned (.tuple #[.slice none 0 0, .int .i64 1100]) ∧ w' = w := by
  have M1 : Hid (Calls Tryz.prog 38 #[.slice a ys.length cap] w fun e w' => e = .returned (.bool (mayB ys)) ∧ w' = w) := may_ok a ys cap w hR hn
  have M2 : Hid (Calls Tryz.prog 38 #[.slice a' zs.length cap'] w fun e w' => e = .returned (.bool (mayB zs)) ∧ w' = w) := may_ok a' zs cap' w hR' hn'
  generalize ys.length = n at *
  generalize zs.length = m at *
  clear hR hR'
  unfold bothB at hb
  cases h1 : mayB ys
  · rw [h1] at M1
    clear hb M2
    go_enter Tryz.func23, Tryz.ntmps23
    go_wp2_with (first
      | (go_at_call 38; refine M1.out.mono ?_; rintro e w' ⟨rfl, hw⟩; obtain rfl := hw.symm; clear hw))
    go_ret2
    exact ⟨rfl, rfl⟩
  · have h2 : mayB zs = false := by rw [h1, Bool.true_and] at hb; exact hb
    rw [h1] at M1
    rw [h2] at M2
    clear hb
    go_enter Tryz.func23, Tryz.ntmps23
    go_wp2_with (first
      | (go_at_call 38; (fail_if_success (clear H1)); refine M1.out.mono ?_; rintro e w' ⟨rfl, hw⟩; obtain rfl := hw.symm; clear hw; have H1 : Hid True := trivial)
      | (go_at_call 38; refine M2.out.mono ?_; rintro e w' ⟨rfl, hw⟩; obtain rfl := hw.symm; clear hw))
    go_ret2
    exact ⟨rfl, rfl⟩
theorem Own.any {w : World} {g cap base : Nat} {ys : List Int} (h : Own w g cap ys) (hb : base ≤ g) : OwnV w base (.slice (some ⟨g, 0, none⟩) ys.length cap) ys := by
  refine ⟨h.1, .inr ?_⟩
  rcases h.2 with ⟨e, _⟩ | ⟨g', cap', cur, e, _, hr⟩
  · cases e
  · have eg : g = g' := by simp at e; exact e.1
    exact ⟨g', cap', cur, e, by omega, hr⟩
theorem join_ok (a a' : Option Addr) (ys zs : List Int) (cap cap' : Nat) (w : World) (hR : Row w a ys) (hR' : Row w a' zs) (hn : ys.length ≤ 1125899906842624) (hn' : zs.length ≤ 1125899906842624) :
    Calls Tryz.prog 23 #[.slice a ys.length cap, .slice a' zs.length cap'] w fun e w' => ∃ v, e = .returned (.tuple #[v, .int .i64 (vErr ys zs)]) ∧ OwnV w' w.heap.size v (joinV ys zs) ∧ Keeps (fun _ => False) w w' := by
  cases hb : bothB ys zs
  · refine (join_bad a a' ys zs cap cap' w hR hR' hn hn' hb).mono ?_
    rintro e w' ⟨rfl, rfl⟩
    unfold joinV vErr; rw [hb]
    exact ⟨_, rfl, OwnV.nil _ _, Keeps.refl _ _⟩
  · have h12 : mayB ys = true ∧ mayB zs = true := by simpa [bothB] using hb
    obtain ⟨b, off, rfl⟩ := hR.some4 h12.1
    obtain ⟨b', off', rfl⟩ := hR'.some4 h12.2
    unfold joinV vErr; rw [hb, mayB_len h12.1, mayB_len h12.2]
    refine (join_good b off b' off' ys zs cap cap' w hR hR' h12.1 h12.2).mono ?_
    rintro e w' ⟨g, rfl, ho, hk, hg⟩
    have := ho.any hg
    rw [joinL_len] at this
    exact ⟨_, rfl, this, hk⟩

end Go.Proofs.YtfbghchgfbjogaaGreat.Zp

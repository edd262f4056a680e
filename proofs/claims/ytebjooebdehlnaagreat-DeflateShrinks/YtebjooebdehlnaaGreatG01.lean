/-
  Plain facts on bits, bytes and worlds, for layer 1 (no program in sight). The symbols of lengths and distances in plain numbers (no program in sight). Rows of a reckoned table: blocks of pairs, and the calls that make them. Numbers multiplied as Repeat does it, and a row of one number repeated.
-/
import Derived.Test.YtebjooebdehlnaaGreatRows
import Derived.WalkKit
import Derived.Deep.AppendLies
import Derived.Deep.QuietTactic
import Derived.WalkSpells
import Derived.WalkLawsBesides
import Derived.Deep.MidRow
import Derived.Laws.ResultCell
import Derived.BigQuiet
import Derived.BigRegion
import Derived.OwnWalk
import Derived.Laws.CopyOwn
import Derived.Laws.OwnMore
import Derived.Laws.Bits64b
namespace Go.Proofs.YtebjooebdehlnaaGreat
open Go.RowKit
set_option linter.unusedVariables false
set_option linter.unusedSimpArgs false

/-! ### Bits and numbers -/
def val : List Bool → Nat
  | [] => 0
  | b :: r => b.toNat + 2 * val r

theorem val_lt (l : List Bool) : val l < 2 ^ l.length := by
  induction l with
  | nil => simp [val]
  | cons b r ih => simp only [val, List.length_cons, Nat.pow_succ]; cases b <;> simp <;> omega

theorem val_append (l m : List Bool) : val (l ++ m) = val l + 2 ^ l.length * val m := by
  induction l with
  | nil => simp [val]
  | cons b r ih => simp only [List.cons_append, val, ih, List.length_cons, Nat.pow_succ, Nat.mul_add]; rw [Nat.mul_comm (2 ^ r.length) 2, Nat.mul_assoc]; omega

theorem val_testBit (l : List Bool) (i : Nat) : (val l).testBit i = l.getD i false := by
  induction l generalizing i with
  | nil => simp [val]
  | cons b r ih =>
    cases i with
    | zero => cases b <;> simp [val, Nat.testBit_zero]
    | succ i =>
      rw [Nat.testBit_succ]
      have : (b.toNat + 2 * val r) / 2 = val r := by cases b <;> simp <;> omega
      simp only [val, this, ih, List.getD_cons_succ]

theorem val_false (k : Nat) : val (List.replicate k false) = 0 := by
  induction k with
  | zero => rfl
  | succ k ih => simp [List.replicate_succ, val, ih]

/-- The k lowest bits of a number, the lowest first. -/
def bitsOf (v k : Nat) : List Bool := (List.range k).map (fun i => v.testBit i)

theorem bitsOf_length (v k : Nat) : (bitsOf v k).length = k := by simp [bitsOf]
theorem bitsOf_succ (v k : Nat) : bitsOf v (k + 1) = bitsOf v k ++ [v.testBit k] := by simp [bitsOf, List.range_succ]
theorem val_bitsOf (v k : Nat) (h : v < 2 ^ k) : val (bitsOf v k) = v := by
  apply Nat.eq_of_testBit_eq
  intro i
  rw [val_testBit]
  by_cases hi : i < k
  · simp [bitsOf, List.getD, hi]
  · have : v.testBit i = false := Nat.testBit_lt_two_pow (Nat.lt_of_lt_of_le h (Nat.pow_le_pow_right (by decide) (by omega)))
    simp [bitsOf, List.getD, hi, this]

/-! ### The machine's words on bits -/
theorem wrap_i64_small (n : Int) (h0 : 0 ≤ n) (h1 : n < 4611686018427387904) : IntKind.i64.wrap n = n := by
  simp [IntKind.wrap, IntKind.bits, IntKind.signed]; omega

theorem ofInt64_toNat (a : Nat) (h : a < 4611686018427387904) : (BitVec.ofInt 64 (a : Int)).toNat = a := by
  rw [BitVec.ofInt_natCast, BitVec.toNat_ofNat]; exact Nat.mod_eq_of_lt (by omega)

theorem i64_and_nat (a b : Nat) (ha : a < 4611686018427387904) (hb : b < 4611686018427387904) : bits .and .i64 (a : Int) (b : Int) = ((a &&& b : Nat) : Int) := by
  show IntKind.i64.wrap (((BitVec.ofInt 64 (a : Int) &&& BitVec.ofInt 64 (b : Int)).toNat : Nat) : Int) = _
  rw [BitVec.toNat_and, ofInt64_toNat a ha, ofInt64_toNat b hb]
  exact wrap_i64_small _ (by omega) (by have : a &&& b ≤ a := Nat.and_le_left; omega)

theorem i64_or_nat (a b : Nat) (ha : a < 4611686018427387904) (hb : b < 4611686018427387904) : bits .or .i64 (a : Int) (b : Int) = ((a ||| b : Nat) : Int) := by
  show IntKind.i64.wrap (((BitVec.ofInt 64 (a : Int) ||| BitVec.ofInt 64 (b : Int)).toNat : Nat) : Int) = _
  rw [BitVec.toNat_or, ofInt64_toNat a ha, ofInt64_toNat b hb]
  exact wrap_i64_small _ (by omega) (by have : a ||| b < 2 ^ 62 := Nat.or_lt_two_pow (by omega) (by omega); omega)

theorem i64_and_mask (n : Int) (k : Nat) (hk : k ≤ 61) : bits .and .i64 n ((2 ^ k - 1 : Nat) : Int) = n % ((2 ^ k : Nat) : Int) := by
  have hp : (2 : Nat) ^ k ≤ 2 ^ 61 := Nat.pow_le_pow_right (by decide) hk
  have h1 : 0 < 2 ^ k := Nat.pow_pos (by decide)
  show IntKind.i64.wrap (((BitVec.ofInt 64 n &&& BitVec.ofInt 64 ((2 ^ k - 1 : Nat) : Int)).toNat : Nat) : Int) = _
  rw [BitVec.toNat_and, BitVec.toNat_ofInt, ofInt64_toNat _ (by omega), Nat.and_two_pow_sub_one_eq_mod]
  have hm : ((n % ((2 ^ 64 : Nat) : Int)).toNat % 2 ^ k : Nat) < 2 ^ k := Nat.mod_lt _ h1
  rw [wrap_i64_small _ (by omega) (by omega)]
  rw [Int.natCast_emod, Int.toNat_of_nonneg (Int.emod_nonneg _ (by decide))]
  exact Int.emod_emod_of_dvd n (by rw [Int.natCast_dvd_natCast]; exact Nat.pow_dvd_pow 2 (by omega))

theorem i64_bit (v j : Nat) (hv : v < 4611686018427387904) : bits .and .i64 ((v : Int) / 2 ^ j) 1 = ((v.testBit j).toNat : Int) := by
  have e : ((v : Int) / 2 ^ j) = ((v / 2 ^ j : Nat) : Int) := by simp
  have hd : v / 2 ^ j ≤ v := Nat.div_le_self _ _
  rw [e]
  have := i64_and_nat (v / 2 ^ j) 1 (by omega) (by decide)
  rw [show ((1 : Nat) : Int) = 1 from rfl] at this
  rw [this, Nat.and_one_is_mod, Nat.testBit_eq_decide_div_mod_eq]
  have h2 : v / 2 ^ j % 2 < 2 := Nat.mod_lt _ (by decide)
  by_cases h : v / 2 ^ j % 2 = 1
  · simp [h]
  · have : v / 2 ^ j % 2 = 0 := by omega
    simp [this]

theorem i64_or_low (a j : Nat) (x : Bool) (ha : a < 2 ^ j) (hj : j ≤ 30) : bits .or .i64 (a : Int) (wrap64 ((x.toNat : Int) * 2 ^ j)) = ((a + 2 ^ j * x.toNat : Nat) : Int) := by
  have hp : (2 : Nat) ^ j ≤ 2 ^ 30 := Nat.pow_le_pow_right (by decide) hj
  have e2 : ((x.toNat : Int) * 2 ^ j) = ((2 ^ j * x.toNat : Nat) : Int) := by push_cast; rw [Int.mul_comm]
  have hb : 2 ^ j * x.toNat ≤ 2 ^ 30 := by cases x <;> simp <;> omega
  have e : wrap64 ((x.toNat : Int) * 2 ^ j) = ((2 ^ j * x.toNat : Nat) : Int) := by
    rw [e2]
    generalize 2 ^ j * x.toNat = z at hb
    simp only [wrap64]
    omega
  rw [e, i64_or_nat _ _ (by omega) (by omega)]
  congr 1
  rw [Nat.or_comm, ← Nat.two_pow_add_eq_or_of_lt ha]; omega

theorem mask_form (x : Int) (k : Nat) (hk : k ≤ 16) : bits .and .i64 x (wrap64 (wrap64 (2 ^ k) - 1)) = x % ((2 ^ k : Nat) : Int) := by
  have e : (2 : Int) ^ k = ((2 ^ k : Nat) : Int) := by simp
  have hp : (2 : Nat) ^ k ≤ 2 ^ 16 := Nat.pow_le_pow_right (by decide) hk
  have h1 : 0 < 2 ^ k := Nat.pow_pos (by decide)
  rw [← i64_and_mask x k (by omega), e]
  congr 1
  generalize 2 ^ k = z at hp h1
  simp only [wrap64]
  omega

theorem mask_nat (x : Int) (k : Nat) (hk : k ≤ 16) : ∃ v : Nat, bits .and .i64 x (wrap64 (wrap64 (2 ^ k) - 1)) = (v : Int) ∧ v < 2 ^ k := by
  have h1 : 0 < 2 ^ k := Nat.pow_pos (by decide)
  refine ⟨(x % ((2 ^ k : Nat) : Int)).toNat, ?_, ?_⟩
  · rw [mask_form x k hk, Int.toNat_of_nonneg (Int.emod_nonneg _ (by omega))]
  · have := Int.emod_lt_of_pos x (show (0 : Int) < ((2 ^ k : Nat) : Int) by omega)
    have := Int.emod_nonneg x (show ((2 ^ k : Nat) : Int) ≠ 0 by omega)
    omega

/-! ### Bits in bytes -/
def byteAt (L : List Bool) (i : Nat) : Nat := val ((L.drop (8 * i)).take 8)
def pack (L : List Bool) : List Nat := (List.range ((L.length + 7) / 8)).map (byteAt L)

theorem pack_length (L : List Bool) : (pack L).length = (L.length + 7) / 8 := by simp [pack]
theorem byteAt_lt (L : List Bool) (i : Nat) : byteAt L i < 256 := by
  unfold byteAt
  refine Nat.lt_of_lt_of_le (val_lt _) ?_
  rw [show (256 : Nat) = 2 ^ 8 from rfl]
  exact Nat.pow_le_pow_right (by decide) (by simp; omega)
theorem pack_lt (L : List Bool) : ∀ y ∈ pack L, y < 256 := by
  intro y hy
  simp only [pack, List.mem_map] at hy
  obtain ⟨i, _, rfl⟩ := hy
  exact byteAt_lt L i
theorem pack_get (L : List Bool) (i : Nat) (h : 8 * i < L.length) : (pack L)[i]? = some (byteAt L i) := by
  have : i < (L.length + 7) / 8 := by omega
  simp [pack, this]

theorem byteAt_append_old (L : List Bool) (x : Bool) (i : Nat) (h : 8 * i + 8 ≤ L.length) : byteAt (L ++ [x]) i = byteAt L i := by
  unfold byteAt
  rw [List.drop_append_of_le_length (by omega), List.take_append_of_le_length (by simp; omega)]

theorem byteAt_append_new (L : List Bool) (x : Bool) (q r : Nat) (h : L.length = 8 * q + r) (hr : r < 8) : byteAt (L ++ [x]) q = byteAt L q + 2 ^ r * x.toNat := by
  unfold byteAt
  rw [List.drop_append_of_le_length (by omega), List.take_of_length_le (by simp; omega), val_append, List.take_of_length_le (by simp; omega)]
  have : (L.drop (8 * q)).length = r := by simp; omega
  rw [this]
  simp [val]

theorem byteAt_small (L : List Bool) (q r : Nat) (h : L.length = 8 * q + r) (hr : r < 8) : byteAt L q < 2 ^ r := by
  unfold byteAt
  refine Nat.lt_of_lt_of_le (val_lt _) (Nat.pow_le_pow_right (by decide) (by simp; omega))

theorem pack_snoc_new (L : List Bool) (x : Bool) (q : Nat) (h : L.length = 8 * q) : pack (L ++ [x]) = pack L ++ [x.toNat] := by
  have e1 : (L.length + 1 + 7) / 8 = q + 1 := by omega
  have e2 : (L.length + 7) / 8 = q := by omega
  simp only [pack, List.length_append, List.length_cons, List.length_nil]
  rw [Nat.zero_add, e1, e2, List.range_succ, List.map_append]
  congr 1
  · apply List.map_congr_left
    intro i hi
    rw [List.mem_range] at hi
    exact byteAt_append_old L x i (by omega)
  · simp only [List.map_cons, List.map_nil]
    rw [byteAt_append_new L x q 0 (by omega) (by omega)]
    have := byteAt_small L q 0 (by omega) (by omega)
    simp at this ⊢
    exact this

theorem pack_snoc_in (L : List Bool) (x : Bool) (q r : Nat) (h : L.length = 8 * q + r) (hr0 : 0 < r) (hr : r < 8) : pack (L ++ [x]) = (pack L).set q (byteAt L q + 2 ^ r * x.toNat) := by
  have e1 : (L.length + 1 + 7) / 8 = q + 1 := by omega
  have e2 : (L.length + 7) / 8 = q + 1 := by omega
  simp only [pack, List.length_append, List.length_cons, List.length_nil]
  rw [Nat.zero_add, e1, e2, List.range_succ, List.map_append, List.map_append]
  have e3 : (List.map (byteAt L) (List.range q)).length = q := by simp
  rw [List.set_append_right _ _ (by omega), e3]
  simp only [Nat.sub_self, List.map_cons, List.map_nil, List.set_cons_zero]
  rw [byteAt_append_new L x q r h hr]
  congr 1
  apply List.map_congr_left
  intro i hi
  rw [List.mem_range] at hi
  exact byteAt_append_old L x i (by omega)

/-- Zeros up to a whole byte turn no byte. -/
theorem pack_align (L : List Bool) : pack (L ++ List.replicate ((L.length + 7) / 8 * 8 - L.length) false) = pack L := by
  simp only [pack, List.length_append, List.length_replicate]
  rw [show (L.length + ((L.length + 7) / 8 * 8 - L.length) + 7) / 8 = (L.length + 7) / 8 by omega]
  apply List.map_congr_left
  intro i hi
  rw [List.mem_range] at hi
  unfold byteAt
  rw [List.drop_append_of_le_length (by omega), List.take_append, val_append, List.take_replicate, val_false]
  rfl

/-! ### The bits of a text -/
def bitAt (s : List Nat) (k : Nat) : Bool := (s.getD (k / 8) 0).testBit (k % 8)

theorem bitAt_pack (L : List Bool) (k : Nat) (h : k < L.length) : bitAt (pack L) k = L.getD k false := by
  unfold bitAt
  have e : (pack L).getD (k / 8) 0 = byteAt L (k / 8) := by
    simp only [List.getD]
    rw [pack_get L (k / 8) (by omega)]; rfl
  rw [e]
  unfold byteAt
  rw [val_testBit]
  simp only [List.getD]
  rw [List.getElem?_take, if_pos (by omega), List.getElem?_drop, show 8 * (k / 8) + k % 8 = k by omega]

/-- k bits of a text from p on. -/
def readBits (s : List Nat) (p k : Nat) : List Bool := (List.range k).map (fun i => bitAt s (p + i))
theorem readBits_length (s : List Nat) (p k : Nat) : (readBits s p k).length = k := by simp [readBits]
theorem readBits_succ (s : List Nat) (p k : Nat) : readBits s p (k + 1) = readBits s p k ++ [bitAt s (p + k)] := by simp [readBits, List.range_succ]

/-- What was written is read: the bits of 'M' that lie behind 'L'. -/
theorem readBits_pack (A M B : List Bool) : readBits (pack (A ++ M ++ B)) A.length M.length = M := by
  apply List.ext_getElem?
  intro i
  by_cases hi : i < M.length
  · have : (readBits (pack (A ++ M ++ B)) A.length M.length)[i]? = some (bitAt (pack (A ++ M ++ B)) (A.length + i)) := by simp [readBits, hi]
    rw [this, bitAt_pack _ _ (by simp; omega)]
    simp only [List.getD]
    rw [List.append_assoc, List.getElem?_append_right (by omega), Nat.add_sub_cancel_left, List.getElem?_append_left hi]
    simp [hi]
  · rw [List.getElem?_eq_none (by simp [readBits]; omega), List.getElem?_eq_none (by omega)]

/-- The text of bytes, and the bytes of a text. -/
def textOf (ys : List Nat) : ByteArray := ⟨(ys.map UInt8.ofNat).toArray⟩
def bytesOf (s : ByteArray) : List Nat := s.data.toList.map UInt8.toNat
theorem bytesOf_length (s : ByteArray) : (bytesOf s).length = s.size := by rw [bytesOf, List.length_map]; rfl
theorem textOf_size (ys : List Nat) : (textOf ys).size = ys.length := by show (ys.map UInt8.ofNat).toArray.size = _; rw [List.size_toArray, List.length_map]
theorem bytesOf_text (ys : List Nat) (hy : ∀ y ∈ ys, y < 256) : bytesOf (textOf ys) = ys := by
  simp only [bytesOf, textOf, List.map_map]
  conv => rhs; rw [← List.map_id ys]
  apply List.map_congr_left
  intro y h
  have := hy y h
  simp only [Function.comp, UInt8.toNat_ofNat', id]
  exact Nat.mod_eq_of_lt (by omega)
theorem bytesOf_get (s : ByteArray) (i : Nat) (h : i < s.size) : (bytesOf s).getD i 0 = s[i].toNat := by
  have h' : i < s.data.toList.length := by rw [Array.length_toList]; exact h
  rw [List.getD, bytesOf, List.getElem?_map, List.getElem?_eq_getElem h']
  rfl

/-! ### Worlds -/
/-- Nothing but the blocks in S has turned; blocks may have come. -/
structure Keeps (S : Nat → Prop) (w w' : World) : Prop where
  os : w'.os = w.os
  tape : w'.tape = w.tape
  output : w'.output = w.output
  size : w.heap.size ≤ w'.heap.size
  block : ∀ k, k < w.heap.size → ¬ S k → w'.heap[k]? = w.heap[k]?

theorem Keeps.refl (S : Nat → Prop) (w : World) : Keeps S w w := ⟨rfl, rfl, rfl, Nat.le_refl _, fun _ _ _ => rfl⟩
theorem Keeps.trans {S S' : Nat → Prop} {a b c : World} (h : Keeps S a b) (k : Keeps S' b c) (hs : ∀ i, i < a.heap.size → S' i → S i) : Keeps S a c :=
  ⟨k.os.trans h.os, k.tape.trans h.tape, k.output.trans h.output, Nat.le_trans h.size k.size, fun i hi hn => (k.block i (Nat.lt_of_lt_of_le hi h.size) (fun h' => hn (hs i hi h'))).trans (h.block i hi hn)⟩
theorem Keeps.mono {S S' : Nat → Prop} {a b : World} (h : Keeps S a b) (hs : ∀ i, i < a.heap.size → S i → S' i) : Keeps S' a b :=
  ⟨h.os, h.tape, h.output, h.size, fun i hi hn => h.block i hi (fun h' => hn (hs i hi h'))⟩
theorem Keeps.drew {S : Nat → Prop} {a w : World} (h : Keeps S a w) : Keeps S a w.drew := ⟨h.os, h.tape, h.output, h.size, h.block⟩
theorem Keeps.drewN {S : Nat → Prop} {a w : World} (h : Keeps S a w) (n : Nat) : Keeps S a (w.drewN n) := ⟨h.os, h.tape, h.output, h.size, h.block⟩
theorem Keeps.alloc {S : Nat → Prop} {a w : World} (h : Keeps S a w) (o : Obj) : Keeps S a (w.alloc o) :=
  ⟨h.os, h.tape, h.output, Nat.le_trans h.size (by simp), fun k hk hn => (Below.heap_alloc _ _ _ (Nat.lt_of_lt_of_le hk h.size)).trans (h.block k hk hn)⟩
theorem Keeps.setCell {S : Nat → Prop} {a w : World} (h : Keeps S a w) {p : Addr} (hp : p.block < a.heap.size → S p.block) (u : Value) : Keeps S a (w.setCell p u) :=
  ⟨h.os, h.tape, h.output, Nat.le_trans h.size (by simp [World.setCell]), fun k hk hn => (Below.heap_setCell _ _ _ _ (fun e => by subst e; exact hn (hp hk))).trans (h.block k hk hn)⟩
theorem Keeps.grown {S : Nat → Prop} {a w w' : World} {row : Option Nat} (h : Keeps S a w) (hg : w.grownBy w' row) (hr : ∀ k, k < a.heap.size → row = some k → S k) : Keeps S a w' :=
  ⟨hg.os.trans h.os, hg.tape.trans h.tape, hg.output.trans h.output, Nat.le_trans h.size hg.size, fun k hk hn => (hg.block k (Nat.lt_of_lt_of_le hk h.size) (fun e => hn (hr k hk e.symm))).trans (h.block k hk hn)⟩
theorem Keeps.below {S : Nat → Prop} {w w' : World} (h : Keeps S w w') (B : Nat) (hB : B ≤ w.heap.size) (hs : ∀ k, S k → B ≤ k) : Below B w w' :=
  ⟨h.os, h.tape, h.output, h.size, fun k hk => h.block k (by omega) (fun hk' => by have := hs k hk'; omega)⟩

theorem heap_setCell_same {w : World} {b i : Nat} {cs : Array Value} {t : TypeId} {fr : Nat × Nat} (h : w.heap[b]? = some (.cells cs t fr)) (u : Value) : (w.setCell ⟨b, i, none⟩ u).heap[b]? = some (.cells (cs.setIfInBounds i u) t fr) := by
  simp [World.setCell, Array.getElem?_modify, h]
theorem heap_size_setCell (w : World) (p : Addr) (u : Value) : (w.setCell p u).heap.size = w.heap.size := by simp [World.setCell]
theorem lt_of_heap {w : World} {b : Nat} {o : Obj} (h : w.heap[b]? = some o) : b < w.heap.size := (Array.getElem?_eq_some_iff.1 h).1
theorem cell_of_heap {w : World} {b i : Nat} {cs : Array Value} {t : TypeId} {fr : Nat × Nat} {u : Value} (h : w.heap[b]? = some (.cells cs t fr)) (hu : cs[i]? = some u) : w.cell? ⟨b, i, none⟩ = some u := by
  simp [World.cell?, h, hu]
theorem frozen_of_heap {w : World} {b i : Nat} {cs : Array Value} {t : TypeId} (h : w.heap[b]? = some (.cells cs t (0, 0))) : w.frozen? ⟨b, i, none⟩ = false := by
  simp [World.frozen?, h]

theorem owns_cell {w : World} {base : Nat} {e : TypeId} {g n cap : Nat} {xs : List Value} (h : w.ownsRow base e 1 (.slice (some ⟨g, 0, none⟩) n cap) n xs) (i : Nat) (u : Value) (hu : xs[i]? = some u) :
    w.cell? ⟨g, i, none⟩ = some u ∧ w.frozen? ⟨g, i, none⟩ = false := by
  obtain ⟨hl, h | ⟨g', cap', cur, hv, hb, hg, hn, hc, hs, ht⟩⟩ := h
  · cases h.1
  · cases hv
    have hi : i < n := by have := (List.getElem?_eq_some_iff.1 hu).1; omega
    refine ⟨?_, ?_⟩
    · simp only [World.cell?, hg]
      rw [← ht, List.getElem?_take, if_pos (by omega)] at hu
      simpa using hu
    · simp only [World.frozen?, hg]; simp

theorem owns_set {w : World} {base : Nat} {e : TypeId} {g n cap : Nat} {xs : List Value} (h : w.ownsRow base e 1 (.slice (some ⟨g, 0, none⟩) n cap) n xs) (i : Nat) (u : Value) :
    (w.setCell ⟨g, i, none⟩ u).ownsRow base e 1 (.slice (some ⟨g, 0, none⟩) n cap) n (xs.set i u) := by
  obtain ⟨hl, h | ⟨g', cap', cur, hv, hb, hg, hn, hc, hs, ht⟩⟩ := h
  · cases h.1
  · cases hv
    refine ⟨by simpa using hl, .inr ⟨g, cap, cur.setIfInBounds i u, rfl, hb, heap_setCell_same hg u, hn, hc, by simpa using hs, ?_⟩⟩
    rw [Array.toList_setIfInBounds, List.take_set, ht]

theorem owns_far {w : World} {base : Nat} {e : TypeId} {v : Value} {n : Nat} {xs : List Value} (h : w.ownsRow base e 1 v n xs) {p : Addr} (hp : v.ownBlock ≠ some p.block) (u : Value) : (w.setCell p u).ownsRow base e 1 v n xs := by
  obtain ⟨h1, h2⟩ := h
  refine ⟨h1, ?_⟩
  rcases h2 with h2 | ⟨g, cap, cur, hv, hg, hh, r⟩
  · exact Or.inl h2
  · subst hv
    refine Or.inr ⟨g, cap, cur, rfl, hg, ?_, r⟩
    rw [Below.heap_setCell _ _ _ _ (fun e => hp (by simp [Value.ownBlock, e]))]; exact hh

theorem owns_heap {w w' : World} {base : Nat} {e : TypeId} {v : Value} {n : Nat} {xs : List Value} (h : w.ownsRow base e 1 v n xs) (hk : ∀ k, v.ownBlock = some k → w'.heap[k]? = w.heap[k]?) : w'.ownsRow base e 1 v n xs := by
  obtain ⟨h1, h2⟩ := h
  refine ⟨h1, ?_⟩
  rcases h2 with h2 | ⟨g, cap, cur, hv, hg, hh, r⟩
  · exact Or.inl h2
  · subst hv
    exact Or.inr ⟨g, cap, cur, rfl, hg, by rw [hk g rfl]; exact hh, r⟩

theorem addr_add (g j : Nat) : (⟨g, 0, none⟩ : Addr).add j = ⟨g, j, none⟩ := by unfold Addr.add; split <;> simp_all

def byteV (y : Nat) : Value := .int .u8 (y : Int)

/-- A writer of type T lies in block b, its bytes in block o, and has the bits L. -/
def Wr (T : TypeId) (w : World) (b : Nat) (o : Option Nat) (L : List Bool) : Prop :=
  ∃ a cap, w.heap[b]? = some (.cells #[.slice a (pack L).length cap, .int .i64 L.length] T (0, 0)) ∧
    w.ownsRow (b + 1) 5 1 (.slice a (pack L).length cap) (pack L).length ((pack L).map byteV) ∧ (Value.slice a (pack L).length cap).ownBlock = o

theorem Wr.lt {T : TypeId} {w : World} {b : Nat} {o : Option Nat} {L : List Bool} (h : Wr T w b o L) : b < w.heap.size := by
  obtain ⟨a, cap, hb, _, _⟩ := h; exact lt_of_heap hb
theorem Wr.own {T : TypeId} {w : World} {b : Nat} {o : Option Nat} {L : List Bool} (h : Wr T w b o L) : ∀ k, o = some k → b + 1 ≤ k ∧ k < w.heap.size := by
  obtain ⟨a, cap, _, ho, rfl⟩ := h; exact ho.lt
theorem Wr.kept {T : TypeId} {S : Nat → Prop} {w w' : World} {b : Nat} {o : Option Nat} {L : List Bool} (h : Wr T w b o L) (hk : Keeps S w w') (hb : ¬ S b) (ho : ∀ k, o = some k → ¬ S k) : Wr T w' b o L := by
  have hlt := h.lt
  have hown := h.own
  obtain ⟨a, cap, h1, h2, h3⟩ := h
  refine ⟨a, cap, (hk.block b hlt hb).trans h1, owns_heap h2 (fun k hk' => hk.block k (hown k (h3 ▸ hk')).2 (ho k (h3 ▸ hk'))), h3⟩

/-- What a call on a writer leaves. -/
def Onto (T : TypeId) (w w' : World) (b : Nat) (o : Option Nat) (L : List Bool) : Prop :=
  ∃ o', Wr T w' b o' L ∧ (o' = o ∨ ∃ g, o' = some g ∧ w.heap.size ≤ g) ∧ Keeps (fun k => k = b ∨ o = some k) w w'

theorem Onto.trans {T : TypeId} {w w' w'' : World} {b : Nat} {o o' : Option Nat} {L : List Bool} (ho : o' = o ∨ ∃ g, o' = some g ∧ w.heap.size ≤ g) (hk : Keeps (fun k => k = b ∨ o = some k) w w') (h : Onto T w' w'' b o' L) : Onto T w w'' b o L := by
  obtain ⟨o2, h1, h2, h3⟩ := h
  refine ⟨o2, h1, ?_, hk.trans h3 ?_⟩
  · rcases h2 with rfl | ⟨g, rfl, hg⟩
    · exact ho
    · exact .inr ⟨g, rfl, Nat.le_trans hk.size hg⟩
  · intro i hi h
    rcases h with h | h
    · exact .inl h
    · rcases ho with rfl | ⟨g, rfl, hg⟩
      · exact .inr h
      · cases h; omega

end Go.Proofs.YtebjooebdehlnaaGreat

namespace Go.Proofs.YtebjooebdehlnaaGreat.Tb
open Go.RowKit
set_option linter.unusedVariables false
set_option linter.unusedSimpArgs false

/-- The extra bits of row i, where as many as 'a' are alike. -/
def btR (a i : Nat) : Nat := i / a - 1
/-- Where row i begins. -/
def lsR (l a : Nat) : Nat → Nat
  | 0 => l
  | i + 1 => lsR l a i + 2 ^ btR a i
def rowF (l a i : Nat) : Nat × Nat := (lsR l a i, btR a i)
def lenF (i : Nat) : Nat × Nat := if i = 28 then (258, 0) else rowF 3 4 i
def dstF (i : Nat) : Nat × Nat := rowF 1 2 i
theorem btR_le (a i : Nat) (ha : 2 ≤ a) (hi : i ≤ 30) : btR a i ≤ 14 := by
  unfold btR
  have : i / a ≤ i / 2 := Nat.div_le_div_left ha (by decide)
  omega
theorem pow_small (b : Nat) (h : b ≤ 14) : 2 ^ b ≤ 16384 := Nat.pow_le_pow_right (by decide) h
theorem lsR_le (l a : Nat) (ha : 2 ≤ a) : ∀ i, i ≤ 30 → lsR l a i ≤ l + i * 16384
  | 0, _ => by simp [lsR]
  | i + 1, h => by
    have h1 := lsR_le l a ha i (by omega)
    have h2 := pow_small _ (btR_le a i ha (by omega))
    simp only [lsR]; omega

/-- The last one of the rows up to m that begins no later than at n. -/
def lastLe (f : Nat → Nat × Nat) (n : Nat) : Nat → Nat
  | 0 => 0
  | m + 1 => if (f (m + 1)).1 ≤ n then m + 1 else lastLe f n m
theorem lastLe_le (f : Nat → Nat × Nat) (n : Nat) : ∀ m, lastLe f n m ≤ m
  | 0 => Nat.le_refl _
  | m + 1 => by unfold lastLe; split; exact Nat.le_refl _; exact Nat.le_succ_of_le (lastLe_le f n m)
theorem lastLe_low (f : Nat → Nat × Nat) (n : Nat) (h0 : (f 0).1 ≤ n) : ∀ m, (f (lastLe f n m)).1 ≤ n
  | 0 => h0
  | m + 1 => by unfold lastLe; split; assumption; exact lastLe_low f n h0 m
theorem lastLe_next (f : Nat → Nat × Nat) (n : Nat) : ∀ m, lastLe f n m < m → n < (f (lastLe f n m + 1)).1
  | 0, h => by simp [lastLe] at h
  | m + 1, h => by
    unfold lastLe at h ⊢
    split at h
    · omega
    · rename_i hc
      rw [if_neg hc]
      by_cases e : lastLe f n m < m
      · exact lastLe_next f n m e
      · have := lastLe_le f n m
        have e2 : lastLe f n m = m := by omega
        rw [e2]; omega
theorem lastLe_stay {f : Nat → Nat × Nat} {n m : Nat} (h : ¬ (f (m + 1)).1 ≤ n) : lastLe f n (m + 1) = lastLe f n m := by rw [lastLe, if_neg h]
theorem lastLe_here {f : Nat → Nat × Nat} {n m : Nat} (h : (f m).1 ≤ n) : lastLe f n m = m := by
  cases m with
  | zero => rfl
  | succ m => rw [lastLe, if_pos h]
theorem lastLe_congr {f g : Nat → Nat × Nat} {n : Nat} : ∀ m, (∀ i, i ≤ m → f i = g i) → lastLe f n m = lastLe g n m
  | 0, _ => rfl
  | m + 1, h => by rw [lastLe, lastLe, h (m + 1) (Nat.le_refl _), lastLe_congr m (fun i hi => h i (by omega))]

/-- What a call tells of a number: symbol, extra bits, their value. -/
abbrev Sy := Int × Int × Int
def symF (f : Nat → Nat × Nat) (m first : Nat) (n : Nat) : Sy := ((first : Int) + (lastLe f n m : Int), ((f (lastLe f n m)).2 : Int), (n : Int) - ((f (lastLe f n m)).1 : Int))
def inL (k : Int) : Bool := decide (3 ≤ k ∧ k ≤ 258)
def inD (k : Int) : Bool := decide (1 ≤ k ∧ k ≤ 32768)
def inLS (k : Int) : Bool := decide (257 ≤ k ∧ k ≤ 285)
def inDS (k : Int) : Bool := decide (0 ≤ k ∧ k ≤ 29)
def symL (k : Int) : Sy := if inL k then symF lenF 28 257 k.toNat else (0, 0, 0)
def symD (k : Int) : Sy := if inD k then symF dstF 29 0 k.toNat else (0, 0, 0)
def errB (b : Bool) : Int := if b then 0 else 600
def ofL (k : Int) : Int × Int := if inLS k then (((lenF (k - 257).toNat).1 : Int), ((lenF (k - 257).toNat).2 : Int)) else (0, 0)
def ofD (k : Int) : Int × Int := if inDS k then (((dstF k.toNat).1 : Int), ((dstF k.toNat).2 : Int)) else (0, 0)

/-! ### The document's forms -/
def lenG (i : Nat) : Nat × Nat := if i = 28 then (258, 0) else if i < 8 then (i + 3, 0) else (3 + (4 + (i - 4) % 4) * 2 ^ ((i - 4) / 4), (i - 4) / 4)
def dstG (i : Nat) : Nat × Nat := if i < 4 then (i + 1, 0) else (1 + (2 + i % 2) * 2 ^ ((i - 2) / 2), (i - 2) / 2)
theorem lenG_all : ∀ i : Fin 29, lenG i.val = lenF i.val := by decide +kernel
theorem dstG_all : ∀ i : Fin 30, dstG i.val = dstF i.val := by decide +kernel
theorem lenG_eq (i : Nat) (h : i ≤ 28) : lenG i = lenF i := lenG_all ⟨i, by omega⟩
theorem dstG_eq (i : Nat) (h : i ≤ 29) : dstG i = dstF i := dstG_all ⟨i, by omega⟩
theorem lenF_small : ∀ i : Fin 29, (lenF i.val).1 ≤ 258 ∧ (lenF i.val).2 ≤ 5 := by decide +kernel
theorem dstF_small : ∀ i : Fin 30, (dstF i.val).1 ≤ 24577 ∧ (dstF i.val).2 ≤ 13 := by decide +kernel
theorem lenF_le (i : Nat) (h : i ≤ 28) : (lenF i).1 ≤ 258 ∧ (lenF i).2 ≤ 5 := lenF_small ⟨i, by omega⟩
theorem dstF_le (i : Nat) (h : i ≤ 29) : (dstF i).1 ≤ 24577 ∧ (dstF i).2 ≤ 13 := dstF_small ⟨i, by omega⟩
theorem lenF_step : ∀ i : Fin 27, (lenF (i.val + 1)).1 = (lenF i.val).1 + 2 ^ (lenF i.val).2 := by decide +kernel
theorem dstF_step (i : Nat) : (dstF (i + 1)).1 = (dstF i).1 + 2 ^ (dstF i).2 := rfl

end Go.Proofs.YtebjooebdehlnaaGreat.Tb

namespace Go.Proofs.YtebjooebdehlnaaGreat.Tb
open Go.RowKit
set_option linter.unusedVariables false
set_option linter.unusedSimpArgs false

/-- Block g is a row of n pairs. -/
def Prs (w : World) (g n : Nat) (f : Nat → Nat × Nat) : Prop :=
  ∃ cs : Array Value, w.heap[g]? = some (.cells cs 218 (0, 0)) ∧ cs.size = n * 2 ∧ ∀ i, i < n → cs[i * 2]? = some (.int .i64 ((f i).1 : Int)) ∧ cs[i * 2 + 1]? = some (.int .i64 ((f i).2 : Int))
theorem Prs.lt {w : World} {g n : Nat} {f : Nat → Nat × Nat} (h : Prs w g n f) : g < w.heap.size := by obtain ⟨cs, h1, _⟩ := h; exact lt_of_heap h1
theorem Prs.fst {w : World} {g n : Nat} {f : Nat → Nat × Nat} (h : Prs w g n f) (i : Nat) (hi : i < n) : w.cell? ⟨g, i * 2, none⟩ = some (.int .i64 ((f i).1 : Int)) := by
  obtain ⟨cs, h1, h2, h3⟩ := h; exact cell_of_heap h1 (h3 i hi).1
theorem Prs.snd {w : World} {g n : Nat} {f : Nat → Nat × Nat} (h : Prs w g n f) (i : Nat) (hi : i < n) : w.cell? ⟨g, i * 2 + 1, none⟩ = some (.int .i64 ((f i).2 : Int)) := by
  obtain ⟨cs, h1, h2, h3⟩ := h; exact cell_of_heap h1 (h3 i hi).2
theorem Prs.free {w : World} {g n : Nat} {f : Nat → Nat × Nat} (h : Prs w g n f) (i : Nat) : w.frozen? ⟨g, i, none⟩ = false := by
  obtain ⟨cs, h1, _⟩ := h; exact frozen_of_heap h1
theorem Prs.kept {S : Nat → Prop} {w w' : World} {g n : Nat} {f : Nat → Nat × Nat} (h : Prs w g n f) (hk : Keeps S w w') (hg : ¬ S g) : Prs w' g n f := by
  obtain ⟨cs, h1, r⟩ := h; exact ⟨cs, (hk.block g (lt_of_heap h1) hg).trans h1, r⟩
theorem Prs.keptF {w w' : World} {g n : Nat} {f : Nat → Nat × Nat} (h : Prs w g n f) (hk : Keeps (fun _ => False) w w') : Prs w' g n f := h.kept hk (fun h => h)
theorem Prs.congr {w : World} {g n : Nat} {f f' : Nat → Nat × Nat} (h : Prs w g n f) (e : ∀ i, i < n → f i = f' i) : Prs w g n f' := by
  obtain ⟨cs, h1, h2, h3⟩ := h; exact ⟨cs, h1, h2, fun i hi => by rw [← e i hi]; exact h3 i hi⟩
theorem keeps_setCells {S : Nat → Prop} {a : World} (b : Nat) (hb : b < a.heap.size → S b) : ∀ (vs : List Value) (o : Nat) (w : World), Keeps S a w → Keeps S a (w.setCells b o vs)
  | [], _, _, h => h
  | v :: r, o, w, h => by rw [World.setCells]; exact keeps_setCells b hb r (o + 1) _ (h.setCell hb v)
theorem Prs.set {w : World} {g n : Nat} {f : Nat → Nat × Nat} (h : Prs w g n f) (i : Nat) (hi : i < n) (x y : Nat) : Prs (w.setCells g (i * 2) [.int .i64 (x : Int), .int .i64 (y : Int)]) g n (fun j => if j = i then (x, y) else f j) := by
  show Prs ((w.setCell ⟨g, i * 2, none⟩ (.int .i64 x)).setCell ⟨g, i * 2 + 1, none⟩ (.int .i64 y)) g n _
  obtain ⟨cs, h1, h2, h3⟩ := h
  refine ⟨_, heap_setCell_same (heap_setCell_same h1 _) _, by simp [h2], fun j hj => ?_⟩
  obtain ⟨c1, c2⟩ := h3 j hj
  simp only [Array.getElem?_setIfInBounds, Array.size_setIfInBounds, h2]
  by_cases e : j = i
  · subst e
    rw [if_neg (show ¬ j * 2 + 1 = j * 2 by omega)]
    simp [show j * 2 < n * 2 by omega, show j * 2 + 1 < n * 2 by omega]
  · rw [if_neg (show ¬ i * 2 + 1 = j * 2 by omega), if_neg (show ¬ i * 2 = j * 2 by omega), if_neg (show ¬ i * 2 + 1 = j * 2 + 1 by omega), if_neg (show ¬ i * 2 = j * 2 + 1 by omega), c1, c2]
    simp [e]
set_option maxRecDepth 1000000 in
theorem Prs.made (w : World) (n : Nat) (hn : n ≤ 1000000) : ∃ w1, (Instr.makeSlice 195 (.int .i64 (n : Int)) (.int .i64 (n : Int))).run Tryz.prog w = .ok (.slice (some ⟨w.heap.size, 0, none⟩) n n) w1 ∧ Prs w1 w.heap.size n (fun _ => (0, 0)) ∧ Keeps (fun _ => False) w w1 := by
  obtain ⟨i, hi, h1, h2, h3⟩ : ∃ i, Tryz.prog.info? 218 = some i ∧ i.zero = some (.agg #[.int .i64 0, .int .i64 0]) ∧ i.bytes = 16 ∧ i.size = 2 := ⟨Tryz.t218, Tryz.type218, rfl, rfl, rfl⟩
  have hr := run_make (P := Tryz.prog) w 195 218 i _ Tryz.underlying195 hi h1 .i64 .i64 n n (by omega) (by omega) (by rw [h2]; omega) (by omega)
  refine ⟨_, by simpa using hr, ⟨_, heap_alloc_new _ _, ?_, ?_⟩, (Keeps.refl _ w).alloc _⟩
  · simp [madeCells, h3]
  · intro j hj
    simp only [madeCells, h3, Value.cells]
    refine ⟨?_, ?_⟩
    · rw [Array.getElem?_map, Array.getElem?_range]
      rw [if_pos (by omega)]
      simp [show (j * 2) % 2 = 0 by omega]
    · rw [Array.getElem?_map, Array.getElem?_range]
      rw [if_pos (by omega)]
      simp [show (j * 2 + 1) % 2 = 1 by omega]
theorem wpList_rows {ops : Array Oper} {rest : List Oper} {op : Oper} {a : Act} {w : World} {Q : Exit → Act → World → Prop} (hgd : op.guard = none) (l c : Operand) (ho : op.op = .makeSlice 195 l c) (n : Nat) (hl : a.eval l = .int .i64 (n : Int)) (hc : a.eval c = .int .i64 (n : Int)) (hn : n ≤ 1000000)
    (h : ∀ g w1, Prs w1 g n (fun _ => (0, 0)) → Keeps (fun _ => False) w w1 → w.heap.size ≤ g → wpList Tryz.prog ops Q rest (a.put op.dst (.slice (some ⟨g, 0, none⟩) n n)) w1) : wpList Tryz.prog ops Q (op :: rest) a w :=
  wpList_plain hgd fun _ hK => by
    obtain ⟨w1, hr, hC, hk⟩ := Prs.made w n hn
    unfold Oper.wp execOp
    simp only [ho, hl, hc, hr, Sem.run_bind, Sem.run_pure, Result.andThen_ok]
    exact hK _ _ (h w.heap.size _ hC hk (Nat.le_refl _))
theorem size46 : (Tryz.prog.info? 218).map (·.size) = some 2 := by kernel_rfl
theorem wpList_row {ops : Array Oper} {rest : List Oper} {op : Oper} {a : Act} {w : World} {Q : Exit → Act → World → Prop} (hgd : op.guard = none) (x y : Operand) (ho : op.op = .store 218 x y) (g i : Nat) (p q : Nat) (hx : a.eval x = .pointer (some ⟨g, i * 2, none⟩)) (hy : a.eval y = .agg #[.int .i64 (p : Int), .int .i64 (q : Int)]) (n : Nat) (f : Nat → Nat × Nat) (hC : Prs w g n f) (hi : i < n)
    (h : ∀ w1, Prs w1 g n (fun j => if j = i then (p, q) else f j) → Keeps (fun k => k = g) w w1 → wpList Tryz.prog ops Q rest (a.put op.dst undef) w1) : wpList Tryz.prog ops Q (op :: rest) a w :=
  wpList_store_mid hgd 218 x y ho g (i * 2) #[.int .i64 p, .int .i64 q] hx hy (fun j hj => by
      have hj' : j = 0 ∨ j = 1 := by simp at hj; omega
      rcases hj' with rfl | rfl
      · exact ⟨by rw [Nat.add_zero, hC.fst i hi]; rfl, hC.free _⟩
      · exact ⟨by rw [hC.snd i hi]; rfl, hC.free _⟩) size46 (by simp [Value.oneCell']) (h _ (hC.set i hi p q) (keeps_setCells (S := fun k => k = g) g (fun _ => rfl) _ _ _ (Keeps.refl _ w)))

/-- The rows that are reckoned already. -/
def upTo (l a k : Nat) : Nat → Nat × Nat := fun j => if j < k then rowF l a j else (0, 0)
theorem upTo_next (l a k j : Nat) : (if j = k then (lsR l a k, btR a k) else upTo l a k j) = upTo l a (k + 1) j := by
  unfold upTo
  by_cases h1 : j < k
  · rw [if_neg (by omega), if_pos h1, if_pos (by omega)]
  · by_cases h2 : j = k
    · subst h2; rw [if_pos rfl, if_pos (by omega)]; rfl
    · rw [if_neg h2, if_neg h1, if_neg (by omega)]

set_option maxHeartbeats 4000000 in
set_option maxRecDepth 1000000 in
theorem reckon_ok (n l a : Nat) (w : World) (hn : n ≤ 30) (hl : l ≤ 10) (ha : 2 ≤ a) (ha4 : a ≤ 4) :
    Calls Tryz.prog 169 #[.int .i64 (n : Int), .int .i64 (l : Int), .int .i64 (a : Int)] w fun e w' => ∃ g, e = .returned (.slice (some ⟨g, 0, none⟩) n n) ∧ Keeps (fun _ => False) w w' ∧ w.heap.size ≤ g ∧ Prs w' g n (rowF l a) := by
  go_enter Tryz.func169, Tryz.ntmps169
  go_wp2_with (first
    | (refine wpList_rows rfl _ _ rfl n rfl rfl ?hn ?_; (case hn => omega); intro g w1 hP hK hg))
  have HW : Hid (Prs w1 g n (upTo l a 0) ∧ Keeps (fun _ => False) w w1) := ⟨hP.congr (fun i _ => by simp [upTo]), hK⟩
  have HG : Hid (w.heap.size ≤ g) := hg
  clear hP hK hg
  go_loopw [14, 1] (fun s14 s1 w' => ∃ i : Nat, i ≤ n ∧ s14 = .int .i64 (i : Int) ∧ s1 = .int .i64 (lsR l a i : Int) ∧ Hid (Prs w' g n (upTo l a i) ∧ Keeps (fun _ => False) w w')) (fun s14 s1 w' => ((n : Int) - intOf s14).toNat)
  case atStart => exact ⟨0, by omega, rfl, rfl, HW⟩
  case round =>
    clear HW
    obtain ⟨i, hi, rfl, rfl, HW⟩ := hrel
    by_cases hin : i < n
    · have hiz : (i : Int) < (n : Int) := by omega
      have hls := lsR_le l a ha i (by omega)
      have hb := btR_le a i ha (by omega)
      have hp := pow_small _ hb
      have HN : Hid (lsR l a (i + 1) = lsR l a i + 2 ^ btR a i ∧ ∀ j, (if j = i then (lsR l a i, btR a i) else upTo l a i j) = upTo l a (i + 1) j) := ⟨rfl, upTo_next l a i⟩
      obtain ⟨b, hbe⟩ : ∃ b, btR a i = b := ⟨_, rfl⟩
      obtain ⟨q, hq⟩ : ∃ q, i / a = q := ⟨_, rfl⟩
      have hdz : (i : Int) / (a : Int) = (q : Int) := by rw [← hq]; exact (Int.natCast_ediv i a).symm
      have hbq : q - 1 = b := by rw [← hq]; exact hbe
      rw [hbe] at HN hb hp
      obtain ⟨L, hL⟩ : ∃ L, lsR l a i = L := ⟨_, rfl⟩
      rw [hL] at HN hls
      have hLb : L ≤ 600000 := by omega
      rw [hL]
      clear hbe hls hL hq
      have hpz : ((2 ^ b : Nat) : Int) = (2 : Int) ^ b := by simp
      have h2z : (2 : Int) ^ b ≤ 16384 := by rw [← hpz]; omega
      have h2p : (0 : Int) < (2 : Int) ^ b := by rw [← hpz]; have : 0 < 2 ^ b := Nat.pow_pos (by decide); omega
      clear hpz hp
      obtain rfl | rfl | hq : q = 0 ∨ q = 1 ∨ 1 < q := by omega
      · obtain rfl : b = 0 := by omega
        have hd : (i : Int) / (a : Int) = 0 := hdz
        clear hdz hbq
        go_wp2_with (first
          | (refine wpList_row rfl _ _ rfl g i L 0 rfl rfl n (upTo l a i) HW.out.1 hin ?_; intro w2 hP hK; have HW2 : Hid (Prs w2 g n (fun j => if j = i then (L, 0) else upTo l a i j) ∧ Keeps (fun k => k = g) wr w2) := ⟨hP, hK⟩; clear hP hK))
        go_roundw
        case rel => exact ⟨i + 1, by omega, by push_cast; rfl, by rw [HN.out.1]; push_cast; rfl, HW2.out.1.congr (fun j _ => HN.out.2 j), HW.out.2.trans HW2.out.2 (fun k hk e => by have := HG.out; omega)⟩
        case measure => simp [intOf]; omega
      · obtain rfl : b = 0 := by omega
        have hd : (i : Int) / (a : Int) = 1 := hdz
        clear hdz hbq
        go_wp2_with (first
          | (refine wpList_row rfl _ _ rfl g i L 0 rfl rfl n (upTo l a i) HW.out.1 hin ?_; intro w2 hP hK; have HW2 : Hid (Prs w2 g n (fun j => if j = i then (L, 0) else upTo l a i j) ∧ Keeps (fun k => k = g) wr w2) := ⟨hP, hK⟩; clear hP hK))
        go_roundw
        case rel => exact ⟨i + 1, by omega, by push_cast; rfl, by rw [HN.out.1]; push_cast; rfl, HW2.out.1.congr (fun j _ => HN.out.2 j), HW.out.2.trans HW2.out.2 (fun k hk e => by have := HG.out; omega)⟩
        case measure => simp [intOf]; omega
      · have hd : (i : Int) / (a : Int) = (b : Int) + 1 := by omega
        have hbz : 0 < b := by omega
        have hbw : wrap64 ((L : Int) + 2 ^ b) = (L : Int) + 2 ^ b := by unfold wrap64; omega
        clear hdz hbq hq
        go_wp2_with (first
          | (refine wpList_row rfl _ _ rfl g i L b rfl rfl n (upTo l a i) HW.out.1 hin ?_; intro w2 hP hK; have HW2 : Hid (Prs w2 g n (fun j => if j = i then (L, b) else upTo l a i j) ∧ Keeps (fun k => k = g) wr w2) := ⟨hP, hK⟩; clear hP hK))
        go_roundw
        case rel => exact ⟨i + 1, by omega, by push_cast; rfl, by rw [HN.out.1]; push_cast; rfl, HW2.out.1.congr (fun j _ => HN.out.2 j), HW.out.2.trans HW2.out.2 (fun k hk e => by have := HG.out; omega)⟩
        case measure => simp [intOf]; omega
    · obtain rfl : i = n := by omega
      go_wp2
      go_ret
      exact ⟨g, rfl, HW.out.2, HG.out, HW.out.1.congr (fun j hj => by simp [upTo, hj])⟩

set_option maxHeartbeats 4000000 in
set_option maxRecDepth 1000000 in
theorem dists_ok (w : World) : Calls Tryz.prog 150 #[] w fun e w' => ∃ g, e = .returned (.slice (some ⟨g, 0, none⟩) 30 30) ∧ Keeps (fun _ => False) w w' ∧ w.heap.size ≤ g ∧ Prs w' g 30 dstF := by
  have HC : Hid (Calls Tryz.prog 169 #[.int .i64 30, .int .i64 1, .int .i64 2] w fun e w' => ∃ g, e = .returned (.slice (some ⟨g, 0, none⟩) 30 30) ∧ Keeps (fun _ => False) w w' ∧ w.heap.size ≤ g ∧ Prs w' g 30 (rowF 1 2)) := reckon_ok 30 1 2 w (by decide) (by decide) (by decide) (by decide)
  go_enter Tryz.func150, Tryz.ntmps150
  go_wp2_with (first
    | (go_at_call 169; refine HC.out.mono ?_; rintro e w1 ⟨g, rfl, hK, hg, hP⟩; have HW : Hid (Keeps (fun _ => False) w w1 ∧ w.heap.size ≤ g ∧ Prs w1 g 30 (rowF 1 2)) := ⟨hK, hg, hP⟩; clear hK hg hP))
  go_ret
  exact ⟨g, rfl, HW.out⟩

set_option maxHeartbeats 4000000 in
set_option maxRecDepth 1000000 in
theorem lengths_ok (w : World) : Calls Tryz.prog 149 #[] w fun e w' => ∃ g, e = .returned (.slice (some ⟨g, 0, none⟩) 29 29) ∧ Keeps (fun _ => False) w w' ∧ w.heap.size ≤ g ∧ Prs w' g 29 lenF := by
  have HC : Hid (Calls Tryz.prog 169 #[.int .i64 29, .int .i64 3, .int .i64 4] w fun e w' => ∃ g, e = .returned (.slice (some ⟨g, 0, none⟩) 29 29) ∧ Keeps (fun _ => False) w w' ∧ w.heap.size ≤ g ∧ Prs w' g 29 (rowF 3 4)) := reckon_ok 29 3 4 w (by decide) (by decide) (by decide) (by decide)
  go_enter Tryz.func149, Tryz.ntmps149
  go_wp2_with (first
    | (go_at_call 169; refine HC.out.mono ?_; rintro e w1 ⟨g, rfl, hK, hg, hP⟩; have HW : Hid (Keeps (fun _ => False) w w1 ∧ w.heap.size ≤ g ∧ Prs w1 g 29 (rowF 3 4)) := ⟨hK, hg, hP⟩; clear hK hg hP)
    | (refine wpList_row rfl _ _ rfl g 28 258 0 rfl rfl 29 (rowF 3 4) HW.out.2.2 (by decide) ?_; intro w2 hP hK; have HW2 : Hid (Prs w2 g 29 (fun j => if j = 28 then (258, 0) else rowF 3 4 j) ∧ Keeps (fun k => k = g) w1 w2) := ⟨hP, hK⟩; clear hP hK))
  go_ret
  exact ⟨g, rfl, HW.out.1.trans HW2.out.2 (fun k hk e => by have := HW.out.2.1; omega), HW.out.2.1, HW2.out.1⟩

end Go.Proofs.YtebjooebdehlnaaGreat.Tb

namespace Go.Proofs.YtebjooebdehlnaaGreat.Tb
open Go.RowKit
set_option linter.unusedVariables false
set_option linter.unusedSimpArgs false

set_option maxRecDepth 1000000 in
theorem and_low (c : Nat) (h : c ≤ 1000) : bits .and .u64 (c : Int) 4294967295 = (c : Int) := by
  have h := bits_and_u64_nat c 4294967295 (by omega) (by omega)
  have e : c &&& 4294967295 = c % 4294967296 := Nat.and_two_pow_sub_one_eq_mod c 32
  rw [e, Nat.mod_eq_of_lt (by omega)] at h
  exact h

set_option maxHeartbeats 4000000 in
set_option maxRecDepth 1000000 in
theorem mul64_ok (c : Nat) (w : World) (hc : c ≤ 1000) : Calls Tryz.prog 152 #[.int .u64 1, .int .u64 (c : Int)] w fun e w' => e = .returned (.tuple #[.int .u64 0, .int .u64 (c : Int)]) ∧ w' = w := by
  have a1 : bits .and .u64 1 4294967295 = 1 := by decide
  have a0 : bits .and .u64 0 4294967295 = 0 := by decide
  have a2 := and_low c hc
  have d1 : (c : Int) / 4294967296 = 0 := by omega
  go_enter Tryz.func152, Tryz.ntmps152
  go_wp2
  go_ret2
  exact ⟨rfl, rfl⟩

set_option maxHeartbeats 4000000 in
set_option maxRecDepth 1000000 in
theorem mul_ok (c : Nat) (w : World) (hc : c ≤ 1000) : Calls Tryz.prog 122 #[.int .u64 1, .int .u64 (c : Int)] w fun e w' => e = .returned (.tuple #[.int .u64 0, .int .u64 (c : Int)]) ∧ w' = w := by
  have HC : Hid (∀ w, Calls Tryz.prog 152 #[.int .u64 1, .int .u64 (c : Int)] w fun e w' => e = .returned (.tuple #[.int .u64 0, .int .u64 (c : Int)]) ∧ w' = w) := fun w => mul64_ok c w hc
  go_enter Tryz.func122, Tryz.ntmps122
  go_wp2_with (first
    | (go_at_call 152; refine (HC.out _).mono ?_; rintro e w1 ⟨rfl, hw⟩; obtain rfl := hw.symm; clear hw))
  go_ret2
  exact ⟨rfl, rfl⟩

/-! ### Blocks of ints -/
def intsV (ys : List Int) : List Value := ys.map (fun y => Value.int .i64 y)
set_option maxRecDepth 1000000 in
theorem intsV_length (ys : List Int) : (intsV ys).length = ys.length := by simp [intsV]
set_option maxRecDepth 1000000 in
theorem intsV_append (xs ys : List Int) : intsV (xs ++ ys) = intsV xs ++ intsV ys := by simp [intsV]
set_option maxRecDepth 1000000 in
theorem intsV_one (ys : List Int) : ∀ v ∈ intsV ys, v.oneCell' = true := fun v hv => by
  simp only [intsV, List.mem_map] at hv
  obtain ⟨y, _, rfl⟩ := hv
  rfl
/-- Block g is a row of ints. -/
def Blk (w : World) (g : Nat) (xs : List Int) : Prop := w.heap[g]? = some (.cells (intsV xs).toArray 3 (0, 0))
set_option maxRecDepth 1000000 in
theorem Blk.lt {w : World} {g : Nat} {xs : List Int} (h : Blk w g xs) : g < w.heap.size := lt_of_heap h
set_option maxRecDepth 1000000 in
theorem Blk.kept {S : Nat → Prop} {w w' : World} {g : Nat} {xs : List Int} (h : Blk w g xs) (hk : Keeps S w w') (hg : ¬ S g) : Blk w' g xs := (hk.block g h.lt hg).trans h
set_option maxRecDepth 1000000 in
theorem Blk.keptF {w w' : World} {g : Nat} {xs : List Int} (h : Blk w g xs) (hk : Keeps (fun _ => False) w w') : Blk w' g xs := h.kept hk (fun h => h)
set_option maxRecDepth 1000000 in
theorem Blk.cell {w : World} {g : Nat} {xs : List Int} (h : Blk w g xs) (j : Nat) (hj : j < xs.length) : w.cell? ⟨g, j, none⟩ = some (.int .i64 xs[j]) :=
  cell_of_heap h (by rw [List.getElem?_toArray, intsV, List.getElem?_map, List.getElem?_eq_getElem hj]; rfl)
set_option maxRecDepth 1000000 in
theorem Blk.free {w : World} {g : Nat} {xs : List Int} (h : Blk w g xs) (j : Nat) : w.frozen? ⟨g, j, none⟩ = false := frozen_of_heap h
set_option maxRecDepth 1000000 in
theorem Blk.lit (w : World) (xs : List Int) : Blk (w.alloc (.cells (intsV xs).toArray 3)) w.heap.size xs := heap_alloc_new _ _
/-- A row with others laid over it. -/
def over (xs : List Int) (o : Nat) (ys : List Int) : List Int := xs.take o ++ (ys ++ xs.drop (o + ys.length))
set_option maxRecDepth 1000000 in
theorem size3 : (Tryz.prog.info? 3).map (·.size) = some 1 := by kernel_rfl
set_option maxRecDepth 1000000 in
theorem keeps_setRow (w : World) (g : Nat) (cs : Array Value) : Keeps (fun k => k = g) w (w.setRow g cs) :=
  ⟨rfl, rfl, rfl, by simp [World.setRow], fun k hk hn => setRow_other w g k cs hn⟩
set_option maxRecDepth 1000000 in
theorem run_copyB (w : World) (ty : TypeId) (g o dl dc b so sl sc : Nat) (xs ys : List Int) (hB : Blk w g xs) (hsrc : ∀ j (h : j < ys.length), w.cell? ⟨b, so + j, none⟩ = some (.int .i64 ys[j])) (hn : ys.length = Nat.min sl dl) (hfit : o + ys.length ≤ xs.length) :
    ∃ w', (Builtin.copy_ #[40, 40] ty #[.slice (some ⟨g, o, none⟩) dl dc, .slice (some ⟨b, so, none⟩) sl sc]).run Tryz.prog w = .ok (goInt ys.length) w' ∧ Blk w' g (over xs o ys) ∧ Keeps (fun k => k = g) w w' := by
  have hr := run_copy_row (P := Tryz.prog) w 40 40 ty 3 g o dl dc ⟨b, so, none⟩ sl sc (intsV xs).toArray 3 (intsV ys) Tryz.underlying40 size3 hB (by rw [intsV_length]; exact hn) (fun j v hv => by
    have hj : j < ys.length := by have := (List.getElem?_eq_some_iff.1 hv).1; rwa [intsV_length] at this
    rw [Addr.add_mid, hsrc j hj, ← hv, intsV, List.getElem?_map, List.getElem?_eq_getElem hj]; rfl) (by simp only [List.size_toArray, intsV_length]; exact hfit) (intsV_one ys)
  rw [intsV_length] at hr
  refine ⟨_, hr, ?_, keeps_setRow _ _ _⟩
  have := setRow_heap w g (intsV xs).toArray ((intsV xs).toArray.toList.take o ++ intsV ys ++ (intsV xs).toArray.toList.drop (o + ys.length)).toArray 3 (0, 0) hB
  unfold Blk
  rw [this]
  congr 2
  simp [over, intsV]
set_option maxRecDepth 1000000 in
theorem wpList_copyB {ops : Array Oper} {rest : List Oper} {op : Oper} {a : Act} {w : World} {Q : Exit → Act → World → Prop} (hgd : op.guard = none) (d s : Operand) (ho : op.op = .call { callee := .builtin .copy, args := #[d, s], argTypes := #[40, 40] })
    (g o dl dc b so sl sc : Nat) (hd : a.eval d = .slice (some ⟨g, o, none⟩) dl dc) (hs : a.eval s = .slice (some ⟨b, so, none⟩) sl sc) (xs ys : List Int) (hB : Blk w g xs) (hsrc : ∀ j (h : j < ys.length), w.cell? ⟨b, so + j, none⟩ = some (.int .i64 ys[j])) (hn : ys.length = Nat.min sl dl) (hfit : o + ys.length ≤ xs.length)
    (h : ∀ w', Blk w' g (over xs o ys) → Keeps (fun k => k = g) w w' → wpList Tryz.prog ops Q rest (a.put op.dst (goInt ys.length)) w') : wpList Tryz.prog ops Q (op :: rest) a w :=
  wpList_plain hgd fun _ hK => by
    obtain ⟨w', hr, h1, h2⟩ := run_copyB w op.type g o dl dc b so sl sc xs ys hB hsrc hn hfit
    unfold Oper.wp
    simp [execOp, ho, resolve, invoke, builtin, hd, hs, hr, Result.andThen]
    exact hK _ _ (h w' h1 h2)
set_option maxRecDepth 1000000 in
theorem step_copyB {ops : Array Oper} {op : Oper} {a : Act} {w : World} {K : Act → World → Prop} {Q : Exit → Act → World → Prop} {E : Prop} (hgd : op.guard = none) (d s : Operand) (ho : op.op = .call { callee := .builtin .copy, args := #[d, s], argTypes := #[40, 40] })
    (g o dl dc b so sl sc : Nat) (hd : a.eval d = .slice (some ⟨g, o, none⟩) dl dc) (hs : a.eval s = .slice (some ⟨b, so, none⟩) sl sc) (xs ys : List Int) (hB : Blk w g xs) (hsrc : ∀ j (h : j < ys.length), w.cell? ⟨b, so + j, none⟩ = some (.int .i64 ys[j])) (hn : ys.length = Nat.min sl dl) (hfit : o + ys.length ≤ xs.length)
    (h : ∀ w', Blk w' g (over xs o ys) → Keeps (fun k => k = g) w w' → K (a.put op.dst (goInt ys.length)) w') :
    if Region.wanted op (yielded ops a.tmps) = true then Oper.wp Tryz.prog op a w K Q else E := by
  have hw : Region.wanted op (yielded ops a.tmps) = true := by simp [Region.wanted, hgd]
  rw [if_pos hw]
  obtain ⟨w', hr, h1, h2⟩ := run_copyB w op.type g o dl dc b so sl sc xs ys hB hsrc hn hfit
  unfold Oper.wp
  simp [execOp, ho, resolve, invoke, builtin, hd, hs, hr, Result.andThen]
  exact h w' h1 h2
set_option maxRecDepth 1000000 in
theorem Blk.made (w : World) (n : Nat) (hn : n ≤ 1000000) : ∃ w1, (Instr.makeSlice 40 (.int .i64 (n : Int)) (.int .i64 (n : Int))).run Tryz.prog w = .ok (.slice (some ⟨w.heap.size, 0, none⟩) n n) w1 ∧ Blk w1 w.heap.size (List.replicate n 0) ∧ Keeps (fun _ => False) w w1 := by
  obtain ⟨i, hi, h1, h2, h3⟩ : ∃ i, Tryz.prog.info? 3 = some i ∧ i.zero = some (.int .i64 0) ∧ i.bytes = 8 ∧ i.size = 1 := ⟨Tryz.t3, Tryz.type3, rfl, rfl, rfl⟩
  have hr := run_make (P := Tryz.prog) w 40 3 i _ Tryz.underlying40 hi h1 .i64 .i64 n n (by omega) (by omega) (by rw [h2]; omega) (by omega)
  refine ⟨_, by simpa using hr, ?_, (Keeps.refl _ w).alloc _⟩
  unfold Blk
  rw [heap_alloc_new]
  congr 2
  apply Array.ext_getElem?
  intro j
  simp only [madeCells, h3, Value.cells, intsV, List.map_replicate, List.getElem?_toArray]
  rw [Array.getElem?_map, Array.getElem?_range, List.getElem?_replicate]
  by_cases hj : j < n
  · rw [if_pos (by omega), if_pos hj]; simp [Nat.mod_one]
  · rw [if_neg (by omega), if_neg hj]; rfl
set_option maxRecDepth 1000000 in
theorem wpList_zeros {ops : Array Oper} {rest : List Oper} {op : Oper} {a : Act} {w : World} {Q : Exit → Act → World → Prop} (hgd : op.guard = none) (l c : Operand) (ho : op.op = .makeSlice 40 l c) (n : Nat) (hl : a.eval l = .int .i64 (n : Int)) (hc : a.eval c = .int .i64 (n : Int)) (hn : n ≤ 1000000)
    (h : ∀ g w1, Blk w1 g (List.replicate n 0) → Keeps (fun _ => False) w w1 → w.heap.size ≤ g → wpList Tryz.prog ops Q rest (a.put op.dst (.slice (some ⟨g, 0, none⟩) n n)) w1) : wpList Tryz.prog ops Q (op :: rest) a w :=
  wpList_plain hgd fun _ hK => by
    obtain ⟨w1, hr, hC, hk⟩ := Blk.made w n hn
    unfold Oper.wp execOp
    simp only [ho, hl, hc, hr, Sem.run_bind, Sem.run_pure, Result.andThen_ok]
    exact hK _ _ (h w.heap.size _ hC hk (Nat.le_refl _))

/-- A number n times, then zeros. -/
def fil (v : Int) (n c : Nat) : List Int := List.replicate n v ++ List.replicate (c - n) 0
set_option maxRecDepth 1000000 in
theorem fil_length (v : Int) (n c : Nat) (h : n ≤ c) : (fil v n c).length = c := by simp [fil]; omega
set_option maxRecDepth 1000000 in
theorem fil_zero (v : Int) (c : Nat) : fil v 0 c = List.replicate c 0 := by simp [fil]
set_option maxRecDepth 1000000 in
theorem fil_all (v : Int) (c : Nat) : fil v c c = List.replicate c v := by simp [fil]
set_option maxRecDepth 1000000 in
theorem fil_get (v : Int) (n c j : Nat) (hj : j < n) (h : j < (fil v n c).length) : (fil v n c)[j] = v := by
  simp only [fil]; rw [List.getElem_append_left (by simpa using hj)]; simp
set_option maxRecDepth 1000000 in
theorem over_fil (v : Int) (n m c : Nat) (h : n + m ≤ c) : over (fil v n c) n (List.replicate m v) = fil v (n + m) c := by
  unfold over fil
  have e1 : (List.replicate n v ++ List.replicate (c - n) (0 : Int)).take n = List.replicate n v := by
    rw [List.take_append_of_le_length (by simp)]; simp
  have e2 : (List.replicate n v ++ List.replicate (c - n) (0 : Int)).drop (n + (List.replicate m v).length) = List.replicate (c - (n + m)) 0 := by
    rw [List.drop_append, List.drop_eq_nil_of_le (by simp)]
    simp only [List.length_replicate, List.drop_replicate, List.nil_append]
    congr 1; omega
  rw [e1, e2, ← List.append_assoc, List.replicate_append_replicate]

set_option maxHeartbeats 4000000 in
set_option maxRecDepth 1000000 in
theorem repeat_ok (v : Int) (b c : Nat) (w : World) (hv : Blk w b [v]) (hc1 : 1 ≤ c) (hc : c ≤ 300) :
    Calls Tryz.prog 82 #[.slice (some ⟨b, 0, none⟩) 1 1, .int .i64 (c : Int)] w fun e w' => ∃ g, e = .returned (.slice (some ⟨g, 0, none⟩) c c) ∧ Keeps (fun _ => False) w w' ∧ w.heap.size ≤ g ∧ Blk w' g (List.replicate c v) := by
  have HC : Hid (∀ w, Calls Tryz.prog 122 #[.int .u64 1, .int .u64 (c : Int)] w fun e w' => e = .returned (.tuple #[.int .u64 0, .int .u64 (c : Int)]) ∧ w' = w) := fun w => mul_ok c w (by omega)
  have HB : Hid (Blk w b [v]) := hv
  have hz1 : ¬ ((c : Int) < 0) := by omega
  have hz2 : decide (9223372036854775807 < (c : Int)) = false := decide_eq_false (by omega)
  have HN : Hid ([v].length = Nat.min 1 c) := show 1 = min 1 c by omega
  have HF : Hid (0 + [v].length ≤ (List.replicate c (0 : Int)).length ∧ over (List.replicate c 0) 0 [v] = fil v 1 c) := ⟨by simp; omega, by
    have := over_fil v 0 1 c (by omega)
    rw [fil_zero, Nat.zero_add] at this
    exact this⟩
  clear hv
  go_enter Tryz.func82, Tryz.ntmps82
  go_wp2_with (first
    | (go_at_call 122; refine (HC.out _).mono ?_; rintro e w1 ⟨rfl, hw⟩; obtain rfl := hw.symm; clear hw)
    | (refine wpList_zeros rfl _ _ rfl c rfl rfl (by omega) ?_; intro g w2 hB hK hg; have HW : Hid (Blk w2 g (List.replicate c 0) ∧ Keeps (fun _ => False) w w2 ∧ w.heap.size ≤ g) := ⟨hB, hK, hg⟩; clear hB hK hg)
    | (refine wpList_copyB rfl _ _ rfl g 0 c c b 0 1 1 rfl rfl (List.replicate c 0) [v] HW.out.1 (fun j hj => (by have e := (HB.out.keptF HW.out.2.1).cell j hj; rw [Nat.zero_add]; exact e)) HN.out HF.out.1 ?_; intro w3 hB3 hK3; rw [HF.out.2] at hB3; have HW3 : Hid (Blk w3 g (fil v 1 c) ∧ Keeps (fun _ => False) w w3) := ⟨hB3, HW.out.2.1.trans hK3 (fun i hi e => by have := HW.out.2.2; omega)⟩; clear hB3 hK3))
  clear hz1 hz2
  have HG : Hid (w.heap.size ≤ g) := HW.out.2.2
  clear HW HB HC HN HF
  go_loopw [8] (fun s8 w' => ∃ n : Nat, 1 ≤ n ∧ n ≤ c ∧ s8 = .int .i64 (n : Int) ∧ Hid (Blk w' g (fil v n c) ∧ Keeps (fun _ => False) w w')) (fun s8 w' => ((c : Int) - intOf s8).toNat)
  case atStart => exact ⟨1, by omega, by omega, rfl, HW3⟩
  case round =>
    clear HW3
    obtain ⟨n, hn1, hn, rfl, HW⟩ := hrel
    by_cases hin : n < c
    · have hiz : (n : Int) < (c : Int) := by omega
      have hne : ¬ (c = n) := by omega
      obtain ⟨m, hm⟩ : ∃ m, m = Nat.min n (c - n) := ⟨_, rfl⟩
      have hm1 : 1 ≤ m ∧ n + m ≤ c := by
        have e1 : Nat.min n (c - n) = min n (c - n) := rfl
        omega
      have HM : Hid ((List.replicate m v).length = Nat.min n (c - n) ∧ n + (List.replicate m v).length ≤ (fil v n c).length) := ⟨by rw [List.length_replicate]; exact hm, by rw [fil_length _ _ _ hn, List.length_replicate]; exact hm1.2⟩
      have HD : Hid (Blk wr.drew g (fil v n c)) := by
        have e := HW.out.1
        unfold Blk at e
        show Blk _ _ _
        unfold Blk
        exact e
      have HX : Hid (∀ w', Blk w' g (fil v n c) → ∀ j (h : j < (List.replicate m v).length), w'.cell? ⟨g, 0 + j, none⟩ = some (.int .i64 (List.replicate m v)[j])) := fun w' hB j hj => by
        rw [List.length_replicate] at hj
        have e1 : Nat.min n (c - n) = min n (c - n) := rfl
        have e := hB.cell j (by rw [fil_length _ _ _ hn]; omega)
        rw [fil_get v n c j (by omega)] at e
        rw [Nat.zero_add, List.getElem_replicate]; exact e
      clear hm
      go_wp2
      go_region_law ((refine step_copyB (by rfl) (.tmp 41) (.tmp 44) (by rfl) g n (c - n) (c - n) g 0 n c (by simp [Act.eval, Act.put]) (by simp [Act.eval, Act.put]) (fil v n c) (List.replicate m v) HD.out (HX.out _ HD.out) HM.out.1 HM.out.2 ?_; intro w4 hB4 hK4; rw [over_fil v n m c hm1.2] at hB4; have HW4 : Hid (Blk w4 g (fil v (n + m) c) ∧ Keeps (fun _ => False) w w4) := ⟨hB4, HW.out.2.drew.trans hK4 (fun i hi e => by have := HG.out; omega)⟩; clear hB4 hK4))
      have hwm : IntKind.i64.wrap ((n : Int) + (m : Int)) = ((n + m : Nat) : Int) := by rw [wrap_i64_small _ (by omega) (by omega)]; push_cast; rfl
      go_simp
      go_wp2
      go_roundw
      case rel => exact ⟨n + m, by omega, by omega, by push_cast; rfl, HW4⟩
      case measure => simp [intOf]; omega
    · obtain rfl : n = c := by omega
      go_wp2
      go_ret
      exact ⟨g, rfl, HW.out.2, HG.out, by have := HW.out.1; rw [fil_all] at this; exact this⟩

end Go.Proofs.YtebjooebdehlnaaGreat.Tb

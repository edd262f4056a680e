/-
  Plain facts on bits, bytes and worlds, for layer 1 (no program in sight).
-/
import Derived.WalkKit
import Derived.Deep.AppendLies
import Derived.Deep.QuietTactic
namespace Go.Proofs.Ythlaeeepbkfkgaa
open Go.RowKit
set_option linter.unusedVariables false
set_option linter.unusedSimpArgs false

/-! ### Bits and numbers -/
def val : List Bool → Nat
  | [] => 0
  | b :: r => b.toNat + 2 * val r

theorem val_lt (l : List Bool) : val l < 2 ^ l.length := by
  induction l with
  | nil => simp [val]
  | cons b r ih => simp only [val, List.length_cons, Nat.pow_succ]; cases b <;> simp <;> omega

theorem val_append (l m : List Bool) : val (l ++ m) = val l + 2 ^ l.length * val m := by
  induction l with
  | nil => simp [val]
  | cons b r ih => simp only [List.cons_append, val, ih, List.length_cons, Nat.pow_succ, Nat.mul_add]; rw [Nat.mul_comm (2 ^ r.length) 2, Nat.mul_assoc]; omega

theorem val_testBit (l : List Bool) (i : Nat) : (val l).testBit i = l.getD i false := by
  induction l generalizing i with
  | nil => simp [val]
  | cons b r ih =>
    cases i with
    | zero => cases b <;> simp [val, Nat.testBit_zero]
    | succ i =>
      rw [Nat.testBit_succ]
      have : (b.toNat + 2 * val r) / 2 = val r := by cases b <;> simp <;> omega
      simp only [val, this, ih, List.getD_cons_succ]

theorem val_false (k : Nat) : val (List.replicate k false) = 0 := by
  induction k with
  | zero => rfl
  | succ k ih => simp [List.replicate_succ, val, ih]

/-- The k lowest bits of a number, the lowest first. -/
def bitsOf (v k : Nat) : List Bool := (List.range k).map (fun i => v.testBit i)

theorem bitsOf_length (v k : Nat) : (bitsOf v k).length = k := by simp [bitsOf]
theorem bitsOf_succ (v k : Nat) : bitsOf v (k + 1) = bitsOf v k ++ [v.testBit k] := by simp [bitsOf, List.range_succ]
theorem val_bitsOf (v k : Nat) (h : v < 2 ^ k) : val (bitsOf v k) = v := by
  apply Nat.eq_of_testBit_eq
  intro i
  rw [val_testBit]
  by_cases hi : i < k
  · simp [bitsOf, List.getD, hi]
  · have : v.testBit i = false := Nat.testBit_lt_two_pow (Nat.lt_of_lt_of_le h (Nat.pow_le_pow_right (by decide) (by omega)))
    simp [bitsOf, List.getD, hi, this]

/-! ### The machine's words on bits -/
theorem wrap_i64_small (n : Int) (h0 : 0 ≤ n) (h1 : n < 4611686018427387904) : IntKind.i64.wrap n = n := by
  simp [IntKind.wrap, IntKind.bits, IntKind.signed]; omega

theorem ofInt64_toNat (a : Nat) (h : a < 4611686018427387904) : (BitVec.ofInt 64 (a : Int)).toNat = a := by
  rw [BitVec.ofInt_natCast, BitVec.toNat_ofNat]; exact Nat.mod_eq_of_lt (by omega)

theorem i64_and_nat (a b : Nat) (ha : a < 4611686018427387904) (hb : b < 4611686018427387904) : bits .and .i64 (a : Int) (b : Int) = ((a &&& b : Nat) : Int) := by
  show IntKind.i64.wrap (((BitVec.ofInt 64 (a : Int) &&& BitVec.ofInt 64 (b : Int)).toNat : Nat) : Int) = _
  rw [BitVec.toNat_and, ofInt64_toNat a ha, ofInt64_toNat b hb]
  exact wrap_i64_small _ (by omega) (by have : a &&& b ≤ a := Nat.and_le_left; omega)

theorem i64_or_nat (a b : Nat) (ha : a < 4611686018427387904) (hb : b < 4611686018427387904) : bits .or .i64 (a : Int) (b : Int) = ((a ||| b : Nat) : Int) := by
  show IntKind.i64.wrap (((BitVec.ofInt 64 (a : Int) ||| BitVec.ofInt 64 (b : Int)).toNat : Nat) : Int) = _
  rw [BitVec.toNat_or, ofInt64_toNat a ha, ofInt64_toNat b hb]
  exact wrap_i64_small _ (by omega) (by have : a ||| b < 2 ^ 62 := Nat.or_lt_two_pow (by omega) (by omega); omega)

theorem i64_and_mask (n : Int) (k : Nat) (hk : k ≤ 61) : bits .and .i64 n ((2 ^ k - 1 : Nat) : Int) = n % ((2 ^ k : Nat) : Int) := by
  have hp : (2 : Nat) ^ k ≤ 2 ^ 61 := Nat.pow_le_pow_right (by decide) hk
  have h1 : 0 < 2 ^ k := Nat.pow_pos (by decide)
  show IntKind.i64.wrap (((BitVec.ofInt 64 n &&& BitVec.ofInt 64 ((2 ^ k - 1 : Nat) : Int)).toNat : Nat) : Int) = _
  rw [BitVec.toNat_and, BitVec.toNat_ofInt, ofInt64_toNat _ (by omega), Nat.and_two_pow_sub_one_eq_mod]
  have hm : ((n % ((2 ^ 64 : Nat) : Int)).toNat % 2 ^ k : Nat) < 2 ^ k := Nat.mod_lt _ h1
  rw [wrap_i64_small _ (by omega) (by omega)]
  rw [Int.natCast_emod, Int.toNat_of_nonneg (Int.emod_nonneg _ (by decide))]
  exact Int.emod_emod_of_dvd n (by rw [Int.natCast_dvd_natCast]; exact Nat.pow_dvd_pow 2 (by omega))

theorem i64_bit (v j : Nat) (hv : v < 4611686018427387904) : bits .and .i64 ((v : Int) / 2 ^ j) 1 = ((v.testBit j).toNat : Int) := by
  have e : ((v : Int) / 2 ^ j) = ((v / 2 ^ j : Nat) : Int) := by simp
  have hd : v / 2 ^ j ≤ v := Nat.div_le_self _ _
  rw [e]
  have := i64_and_nat (v / 2 ^ j) 1 (by omega) (by decide)
  rw [show ((1 : Nat) : Int) = 1 from rfl] at this
  rw [this, Nat.and_one_is_mod, Nat.testBit_eq_decide_div_mod_eq]
  have h2 : v / 2 ^ j % 2 < 2 := Nat.mod_lt _ (by decide)
  by_cases h : v / 2 ^ j % 2 = 1
  · simp [h]
  · have : v / 2 ^ j % 2 = 0 := by omega
    simp [this]

theorem i64_or_low (a j : Nat) (x : Bool) (ha : a < 2 ^ j) (hj : j ≤ 30) : bits .or .i64 (a : Int) (wrap64 ((x.toNat : Int) * 2 ^ j)) = ((a + 2 ^ j * x.toNat : Nat) : Int) := by
  have hp : (2 : Nat) ^ j ≤ 2 ^ 30 := Nat.pow_le_pow_right (by decide) hj
  have e2 : ((x.toNat : Int) * 2 ^ j) = ((2 ^ j * x.toNat : Nat) : Int) := by push_cast; rw [Int.mul_comm]
  have hb : 2 ^ j * x.toNat ≤ 2 ^ 30 := by cases x <;> simp <;> omega
  have e : wrap64 ((x.toNat : Int) * 2 ^ j) = ((2 ^ j * x.toNat : Nat) : Int) := by
    rw [e2]
    generalize 2 ^ j * x.toNat = z at hb
    simp only [wrap64]
    omega
  rw [e, i64_or_nat _ _ (by omega) (by omega)]
  congr 1
  rw [Nat.or_comm, ← Nat.two_pow_add_eq_or_of_lt ha]; omega

theorem mask_form (x : Int) (k : Nat) (hk : k ≤ 16) : bits .and .i64 x (wrap64 (wrap64 (2 ^ k) - 1)) = x % ((2 ^ k : Nat) : Int) := by
  have e : (2 : Int) ^ k = ((2 ^ k : Nat) : Int) := by simp
  have hp : (2 : Nat) ^ k ≤ 2 ^ 16 := Nat.pow_le_pow_right (by decide) hk
  have h1 : 0 < 2 ^ k := Nat.pow_pos (by decide)
  rw [← i64_and_mask x k (by omega), e]
  congr 1
  generalize 2 ^ k = z at hp h1
  simp only [wrap64]
  omega

theorem mask_nat (x : Int) (k : Nat) (hk : k ≤ 16) : ∃ v : Nat, bits .and .i64 x (wrap64 (wrap64 (2 ^ k) - 1)) = (v : Int) ∧ v < 2 ^ k := by
  have h1 : 0 < 2 ^ k := Nat.pow_pos (by decide)
  refine ⟨(x % ((2 ^ k : Nat) : Int)).toNat, ?_, ?_⟩
  · rw [mask_form x k hk, Int.toNat_of_nonneg (Int.emod_nonneg _ (by omega))]
  · have := Int.emod_lt_of_pos x (show (0 : Int) < ((2 ^ k : Nat) : Int) by omega)
    have := Int.emod_nonneg x (show ((2 ^ k : Nat) : Int) ≠ 0 by omega)
    omega

/-! ### Bits in bytes -/
def byteAt (L : List Bool) (i : Nat) : Nat := val ((L.drop (8 * i)).take 8)
def pack (L : List Bool) : List Nat := (List.range ((L.length + 7) / 8)).map (byteAt L)

theorem pack_length (L : List Bool) : (pack L).length = (L.length + 7) / 8 := by simp [pack]
theorem byteAt_lt (L : List Bool) (i : Nat) : byteAt L i < 256 := by
  unfold byteAt
  refine Nat.lt_of_lt_of_le (val_lt _) ?_
  rw [show (256 : Nat) = 2 ^ 8 from rfl]
  exact Nat.pow_le_pow_right (by decide) (by simp; omega)
theorem pack_lt (L : List Bool) : ∀ y ∈ pack L, y < 256 := by
  intro y hy
  simp only [pack, List.mem_map] at hy
  obtain ⟨i, _, rfl⟩ := hy
  exact byteAt_lt L i
theorem pack_get (L : List Bool) (i : Nat) (h : 8 * i < L.length) : (pack L)[i]? = some (byteAt L i) := by
  have : i < (L.length + 7) / 8 := by omega
  simp [pack, this]

theorem byteAt_append_old (L : List Bool) (x : Bool) (i : Nat) (h : 8 * i + 8 ≤ L.length) : byteAt (L ++ [x]) i = byteAt L i := by
  unfold byteAt
  rw [List.drop_append_of_le_length (by omega), List.take_append_of_le_length (by simp; omega)]

theorem byteAt_append_new (L : List Bool) (x : Bool) (q r : Nat) (h : L.length = 8 * q + r) (hr : r < 8) : byteAt (L ++ [x]) q = byteAt L q + 2 ^ r * x.toNat := by
  unfold byteAt
  rw [List.drop_append_of_le_length (by omega), List.take_of_length_le (by simp; omega), val_append, List.take_of_length_le (by simp; omega)]
  have : (L.drop (8 * q)).length = r := by simp; omega
  rw [this]
  simp [val]

theorem byteAt_small (L : List Bool) (q r : Nat) (h : L.length = 8 * q + r) (hr : r < 8) : byteAt L q < 2 ^ r := by
  unfold byteAt
  refine Nat.lt_of_lt_of_le (val_lt _) (Nat.pow_le_pow_right (by decide) (by simp; omega))

theorem pack_snoc_new (L : List Bool) (x : Bool) (q : Nat) (h : L.length = 8 * q) : pack (L ++ [x]) = pack L ++ [x.toNat] := by
  have e1 : (L.length + 1 + 7) / 8 = q + 1 := by omega
  have e2 : (L.length + 7) / 8 = q := by omega
  simp only [pack, List.length_append, List.length_cons, List.length_nil]
  rw [Nat.zero_add, e1, e2, List.range_succ, List.map_append]
  congr 1
  · apply List.map_congr_left
    intro i hi
    rw [List.mem_range] at hi
    exact byteAt_append_old L x i (by omega)
  · simp only [List.map_cons, List.map_nil]
    rw [byteAt_append_new L x q 0 (by omega) (by omega)]
    have := byteAt_small L q 0 (by omega) (by omega)
    simp at this ⊢
    exact this

theorem pack_snoc_in (L : List Bool) (x : Bool) (q r : Nat) (h : L.length = 8 * q + r) (hr0 : 0 < r) (hr : r < 8) : pack (L ++ [x]) = (pack L).set q (byteAt L q + 2 ^ r * x.toNat) := by
  have e1 : (L.length + 1 + 7) / 8 = q + 1 := by omega
  have e2 : (L.length + 7) / 8 = q + 1 := by omega
  simp only [pack, List.length_append, List.length_cons, List.length_nil]
  rw [Nat.zero_add, e1, e2, List.range_succ, List.map_append, List.map_append]
  have e3 : (List.map (byteAt L) (List.range q)).length = q := by simp
  rw [List.set_append_right _ _ (by omega), e3]
  simp only [Nat.sub_self, List.map_cons, List.map_nil, List.set_cons_zero]
  rw [byteAt_append_new L x q r h hr]
  congr 1
  apply List.map_congr_left
  intro i hi
  rw [List.mem_range] at hi
  exact byteAt_append_old L x i (by omega)

/-- Zeros up to a whole byte turn no byte. -/
theorem pack_align (L : List Bool) : pack (L ++ List.replicate ((L.length + 7) / 8 * 8 - L.length) false) = pack L := by
  simp only [pack, List.length_append, List.length_replicate]
  rw [show (L.length + ((L.length + 7) / 8 * 8 - L.length) + 7) / 8 = (L.length + 7) / 8 by omega]
  apply List.map_congr_left
  intro i hi
  rw [List.mem_range] at hi
  unfold byteAt
  rw [List.drop_append_of_le_length (by omega), List.take_append, val_append, List.take_replicate, val_false]
  rfl

/-! ### The bits of a text -/
def bitAt (s : List Nat) (k : Nat) : Bool := (s.getD (k / 8) 0).testBit (k % 8)

theorem bitAt_pack (L : List Bool) (k : Nat) (h : k < L.length) : bitAt (pack L) k = L.getD k false := by
  unfold bitAt
  have e : (pack L).getD (k / 8) 0 = byteAt L (k / 8) := by
    simp only [List.getD]
    rw [pack_get L (k / 8) (by omega)]; rfl
  rw [e]
  unfold byteAt
  rw [val_testBit]
  simp only [List.getD]
  rw [List.getElem?_take, if_pos (by omega), List.getElem?_drop, show 8 * (k / 8) + k % 8 = k by omega]

/-- k bits of a text from p on. -/
def readBits (s : List Nat) (p k : Nat) : List Bool := (List.range k).map (fun i => bitAt s (p + i))
theorem readBits_length (s : List Nat) (p k : Nat) : (readBits s p k).length = k := by simp [readBits]
theorem readBits_succ (s : List Nat) (p k : Nat) : readBits s p (k + 1) = readBits s p k ++ [bitAt s (p + k)] := by simp [readBits, List.range_succ]

/-- What was written is read: the bits of 'M' that lie behind 'L'. -/
theorem readBits_pack (A M B : List Bool) : readBits (pack (A ++ M ++ B)) A.length M.length = M := by
  apply List.ext_getElem?
  intro i
  by_cases hi : i < M.length
  · have : (readBits (pack (A ++ M ++ B)) A.length M.length)[i]? = some (bitAt (pack (A ++ M ++ B)) (A.length + i)) := by simp [readBits, hi]
    rw [this, bitAt_pack _ _ (by simp; omega)]
    simp only [List.getD]
    rw [List.append_assoc, List.getElem?_append_right (by omega), Nat.add_sub_cancel_left, List.getElem?_append_left hi]
    simp [hi]
  · rw [List.getElem?_eq_none (by simp [readBits]; omega), List.getElem?_eq_none (by omega)]

/-- The text of bytes, and the bytes of a text. -/
def textOf (ys : List Nat) : ByteArray := ⟨(ys.map UInt8.ofNat).toArray⟩
def bytesOf (s : ByteArray) : List Nat := s.data.toList.map UInt8.toNat
theorem bytesOf_length (s : ByteArray) : (bytesOf s).length = s.size := by rw [bytesOf, List.length_map]; rfl
theorem textOf_size (ys : List Nat) : (textOf ys).size = ys.length := by show (ys.map UInt8.ofNat).toArray.size = _; rw [List.size_toArray, List.length_map]
theorem bytesOf_text (ys : List Nat) (hy : ∀ y ∈ ys, y < 256) : bytesOf (textOf ys) = ys := by
  simp only [bytesOf, textOf, List.map_map]
  conv => rhs; rw [← List.map_id ys]
  apply List.map_congr_left
  intro y h
  have := hy y h
  simp only [Function.comp, UInt8.toNat_ofNat', id]
  exact Nat.mod_eq_of_lt (by omega)
theorem bytesOf_get (s : ByteArray) (i : Nat) (h : i < s.size) : (bytesOf s).getD i 0 = s[i].toNat := by
  have h' : i < s.data.toList.length := by rw [Array.length_toList]; exact h
  rw [List.getD, bytesOf, List.getElem?_map, List.getElem?_eq_getElem h']
  rfl

/-! ### Worlds -/
/-- Nothing but the blocks in S has turned; blocks may have come. -/
structure Keeps (S : Nat → Prop) (w w' : World) : Prop where
  os : w'.os = w.os
  tape : w'.tape = w.tape
  output : w'.output = w.output
  size : w.heap.size ≤ w'.heap.size
  block : ∀ k, k < w.heap.size → ¬ S k → w'.heap[k]? = w.heap[k]?

theorem Keeps.refl (S : Nat → Prop) (w : World) : Keeps S w w := ⟨rfl, rfl, rfl, Nat.le_refl _, fun _ _ _ => rfl⟩
theorem Keeps.trans {S S' : Nat → Prop} {a b c : World} (h : Keeps S a b) (k : Keeps S' b c) (hs : ∀ i, i < a.heap.size → S' i → S i) : Keeps S a c :=
  ⟨k.os.trans h.os, k.tape.trans h.tape, k.output.trans h.output, Nat.le_trans h.size k.size, fun i hi hn => (k.block i (Nat.lt_of_lt_of_le hi h.size) (fun h' => hn (hs i hi h'))).trans (h.block i hi hn)⟩
theorem Keeps.mono {S S' : Nat → Prop} {a b : World} (h : Keeps S a b) (hs : ∀ i, i < a.heap.size → S i → S' i) : Keeps S' a b :=
  ⟨h.os, h.tape, h.output, h.size, fun i hi hn => h.block i hi (fun h' => hn (hs i hi h'))⟩
theorem Keeps.drew {S : Nat → Prop} {a w : World} (h : Keeps S a w) : Keeps S a w.drew := ⟨h.os, h.tape, h.output, h.size, h.block⟩
theorem Keeps.drewN {S : Nat → Prop} {a w : World} (h : Keeps S a w) (n : Nat) : Keeps S a (w.drewN n) := ⟨h.os, h.tape, h.output, h.size, h.block⟩
theorem Keeps.alloc {S : Nat → Prop} {a w : World} (h : Keeps S a w) (o : Obj) : Keeps S a (w.alloc o) :=
  ⟨h.os, h.tape, h.output, Nat.le_trans h.size (by simp), fun k hk hn => (Below.heap_alloc _ _ _ (Nat.lt_of_lt_of_le hk h.size)).trans (h.block k hk hn)⟩
theorem Keeps.setCell {S : Nat → Prop} {a w : World} (h : Keeps S a w) {p : Addr} (hp : p.block < a.heap.size → S p.block) (u : Value) : Keeps S a (w.setCell p u) :=
  ⟨h.os, h.tape, h.output, Nat.le_trans h.size (by simp [World.setCell]), fun k hk hn => (Below.heap_setCell _ _ _ _ (fun e => by subst e; exact hn (hp hk))).trans (h.block k hk hn)⟩
theorem Keeps.grown {S : Nat → Prop} {a w w' : World} {row : Option Nat} (h : Keeps S a w) (hg : w.grownBy w' row) (hr : ∀ k, k < a.heap.size → row = some k → S k) : Keeps S a w' :=
  ⟨hg.os.trans h.os, hg.tape.trans h.tape, hg.output.trans h.output, Nat.le_trans h.size hg.size, fun k hk hn => (hg.block k (Nat.lt_of_lt_of_le hk h.size) (fun e => hn (hr k hk e.symm))).trans (h.block k hk hn)⟩
theorem Keeps.below {S : Nat → Prop} {w w' : World} (h : Keeps S w w') (B : Nat) (hB : B ≤ w.heap.size) (hs : ∀ k, S k → B ≤ k) : Below B w w' :=
  ⟨h.os, h.tape, h.output, h.size, fun k hk => h.block k (by omega) (fun hk' => by have := hs k hk'; omega)⟩

theorem heap_setCell_same {w : World} {b i : Nat} {cs : Array Value} {t : TypeId} {fr : Nat × Nat} (h : w.heap[b]? = some (.cells cs t fr)) (u : Value) : (w.setCell ⟨b, i, none⟩ u).heap[b]? = some (.cells (cs.setIfInBounds i u) t fr) := by
  simp [World.setCell, Array.getElem?_modify, h]
theorem heap_size_setCell (w : World) (p : Addr) (u : Value) : (w.setCell p u).heap.size = w.heap.size := by simp [World.setCell]
theorem lt_of_heap {w : World} {b : Nat} {o : Obj} (h : w.heap[b]? = some o) : b < w.heap.size := (Array.getElem?_eq_some_iff.1 h).1
theorem cell_of_heap {w : World} {b i : Nat} {cs : Array Value} {t : TypeId} {fr : Nat × Nat} {u : Value} (h : w.heap[b]? = some (.cells cs t fr)) (hu : cs[i]? = some u) : w.cell? ⟨b, i, none⟩ = some u := by
  simp [World.cell?, h, hu]
theorem frozen_of_heap {w : World} {b i : Nat} {cs : Array Value} {t : TypeId} (h : w.heap[b]? = some (.cells cs t (0, 0))) : w.frozen? ⟨b, i, none⟩ = false := by
  simp [World.frozen?, h]

theorem owns_cell {w : World} {base : Nat} {e : TypeId} {g n cap : Nat} {xs : List Value} (h : w.ownsRow base e 1 (.slice (some ⟨g, 0, none⟩) n cap) n xs) (i : Nat) (u : Value) (hu : xs[i]? = some u) :
    w.cell? ⟨g, i, none⟩ = some u ∧ w.frozen? ⟨g, i, none⟩ = false := by
  obtain ⟨hl, h | ⟨g', cap', cur, hv, hb, hg, hn, hc, hs, ht⟩⟩ := h
  · cases h.1
  · cases hv
    have hi : i < n := by have := (List.getElem?_eq_some_iff.1 hu).1; omega
    refine ⟨?_, ?_⟩
    · simp only [World.cell?, hg]
      rw [← ht, List.getElem?_take, if_pos (by omega)] at hu
      simpa using hu
    · simp only [World.frozen?, hg]; simp

theorem owns_set {w : World} {base : Nat} {e : TypeId} {g n cap : Nat} {xs : List Value} (h : w.ownsRow base e 1 (.slice (some ⟨g, 0, none⟩) n cap) n xs) (i : Nat) (u : Value) :
    (w.setCell ⟨g, i, none⟩ u).ownsRow base e 1 (.slice (some ⟨g, 0, none⟩) n cap) n (xs.set i u) := by
  obtain ⟨hl, h | ⟨g', cap', cur, hv, hb, hg, hn, hc, hs, ht⟩⟩ := h
  · cases h.1
  · cases hv
    refine ⟨by simpa using hl, .inr ⟨g, cap, cur.setIfInBounds i u, rfl, hb, heap_setCell_same hg u, hn, hc, by simpa using hs, ?_⟩⟩
    rw [Array.toList_setIfInBounds, List.take_set, ht]

theorem owns_far {w : World} {base : Nat} {e : TypeId} {v : Value} {n : Nat} {xs : List Value} (h : w.ownsRow base e 1 v n xs) {p : Addr} (hp : v.ownBlock ≠ some p.block) (u : Value) : (w.setCell p u).ownsRow base e 1 v n xs := by
  obtain ⟨h1, h2⟩ := h
  refine ⟨h1, ?_⟩
  rcases h2 with h2 | ⟨g, cap, cur, hv, hg, hh, r⟩
  · exact Or.inl h2
  · subst hv
    refine Or.inr ⟨g, cap, cur, rfl, hg, ?_, r⟩
    rw [Below.heap_setCell _ _ _ _ (fun e => hp (by simp [Value.ownBlock, e]))]; exact hh

theorem owns_heap {w w' : World} {base : Nat} {e : TypeId} {v : Value} {n : Nat} {xs : List Value} (h : w.ownsRow base e 1 v n xs) (hk : ∀ k, v.ownBlock = some k → w'.heap[k]? = w.heap[k]?) : w'.ownsRow base e 1 v n xs := by
  obtain ⟨h1, h2⟩ := h
  refine ⟨h1, ?_⟩
  rcases h2 with h2 | ⟨g, cap, cur, hv, hg, hh, r⟩
  · exact Or.inl h2
  · subst hv
    exact Or.inr ⟨g, cap, cur, rfl, hg, by rw [hk g rfl]; exact hh, r⟩

theorem addr_add (g j : Nat) : (⟨g, 0, none⟩ : Addr).add j = ⟨g, j, none⟩ := by unfold Addr.add; split <;> simp_all

def byteV (y : Nat) : Value := .int .u8 (y : Int)

/-- A writer of type T lies in block b, its bytes in block o, and has the bits L. -/
def Wr (T : TypeId) (w : World) (b : Nat) (o : Option Nat) (L : List Bool) : Prop :=
  ∃ a cap, w.heap[b]? = some (.cells #[.slice a (pack L).length cap, .int .i64 L.length] T (0, 0)) ∧
    w.ownsRow (b + 1) 5 1 (.slice a (pack L).length cap) (pack L).length ((pack L).map byteV) ∧ (Value.slice a (pack L).length cap).ownBlock = o

theorem Wr.lt {T : TypeId} {w : World} {b : Nat} {o : Option Nat} {L : List Bool} (h : Wr T w b o L) : b < w.heap.size := by
  obtain ⟨a, cap, hb, _, _⟩ := h; exact lt_of_heap hb
theorem Wr.own {T : TypeId} {w : World} {b : Nat} {o : Option Nat} {L : List Bool} (h : Wr T w b o L) : ∀ k, o = some k → b + 1 ≤ k ∧ k < w.heap.size := by
  obtain ⟨a, cap, _, ho, rfl⟩ := h; exact ho.lt
theorem Wr.kept {T : TypeId} {S : Nat → Prop} {w w' : World} {b : Nat} {o : Option Nat} {L : List Bool} (h : Wr T w b o L) (hk : Keeps S w w') (hb : ¬ S b) (ho : ∀ k, o = some k → ¬ S k) : Wr T w' b o L := by
  have hlt := h.lt
  have hown := h.own
  obtain ⟨a, cap, h1, h2, h3⟩ := h
  refine ⟨a, cap, (hk.block b hlt hb).trans h1, owns_heap h2 (fun k hk' => hk.block k (hown k (h3 ▸ hk')).2 (ho k (h3 ▸ hk'))), h3⟩

/-- What a call on a writer leaves. -/
def Onto (T : TypeId) (w w' : World) (b : Nat) (o : Option Nat) (L : List Bool) : Prop :=
  ∃ o', Wr T w' b o' L ∧ (o' = o ∨ ∃ g, o' = some g ∧ w.heap.size ≤ g) ∧ Keeps (fun k => k = b ∨ o = some k) w w'

theorem Onto.trans {T : TypeId} {w w' w'' : World} {b : Nat} {o o' : Option Nat} {L : List Bool} (ho : o' = o ∨ ∃ g, o' = some g ∧ w.heap.size ≤ g) (hk : Keeps (fun k => k = b ∨ o = some k) w w') (h : Onto T w' w'' b o' L) : Onto T w w'' b o L := by
  obtain ⟨o2, h1, h2, h3⟩ := h
  refine ⟨o2, h1, ?_, hk.trans h3 ?_⟩
  · rcases h2 with rfl | ⟨g, rfl, hg⟩
    · exact ho
    · exact .inr ⟨g, rfl, Nat.le_trans hk.size hg⟩
  · intro i hi h
    rcases h with h | h
    · exact .inl h
    · rcases ho with rfl | ⟨g, rfl, hg⟩
      · exact .inr h
      · cases h; omega

end Go.Proofs.Ythlaeeepbkfkgaa

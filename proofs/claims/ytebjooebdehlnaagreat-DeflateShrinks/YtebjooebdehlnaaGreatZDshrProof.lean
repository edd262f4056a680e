/-
  A run of one byte is packed in nine bytes at most; other bytes are packed or stored, never longer: DeflateShrinks, for all numbers.
-/
import Derived.Test.YtebjooebdehlnaaGreatRows
import Derived.Test.YtebjooebdehlnaaGreatG21
import Derived.ProofKit
import Derived.OpenShut
import Derived.ShutString
import Derived.ChangeOld
import Derived.Below
namespace Go.Proofs.YtebjooebdehlnaaGreat.Mt
open Go.RowKit
set_option linter.unusedVariables false
set_option linter.unusedSimpArgs false

/-! ### Tokens of a run -/
def runY (k c : Nat) : List Nat := List.replicate k c
theorem yb_run (k c i : Nat) (h : i < k) : yb (runY k c) i = c := by
  unfold runY
  rw [yb_eq i (by simpa using h)]; simp
theorem alk_run (k c p j : Nat) (hj : j < p) (hp : p < k) : alk (runY k c) p j = min (k - p) 258 := by
  have hl : (runY k c).length = k := by simp [runY]
  unfold alk
  rw [hl]
  apply lead_eq (Nat.le_refl _) _ (.inl rfl)
  intro i hi
  unfold alkF
  rw [yb_run k c (p + i) (by omega), yb_run k c (j + i) (by omega)]
  exact beq_self_eq_true _
theorem best_run (k c p : Nat) (hp : p < k) : ∀ d, d + 1 ≤ p → best (runY k c) p (d + 1) = if 3 ≤ min (k - p) 258 then (min (k - p) 258, 1) else (0, 0)
  | 0, hd => by
    have hb0 : best (runY k c) p 0 = (0, 0) := rfl
    rw [best_next, hb0, alk_run k c p _ (by omega) hp]
    by_cases h : 3 ≤ min (k - p) 258
    · rw [if_pos ⟨h, by show 0 < _; omega⟩, if_pos h]
    · rw [if_neg (fun e => h e.1), if_neg h]
  | d + 1, hd => by
    have ih := best_run k c p hp d (by omega)
    rw [best_next, ih, alk_run k c p _ (by omega) hp]
    by_cases h : 3 ≤ min (k - p) 258
    · rw [if_pos h, if_neg (fun e => by have := e.2; simp only at this; omega)]
    · rw [if_neg h, if_neg (fun e => h e.1)]
theorem tok_run0 (k c : Nat) (h : 0 < k) : tok (runY k c) 0 = ((c : Int), 0, 0) ∧ szN (runY k c) 0 = 1 := by
  unfold tok szN tokB
  simp only [best]
  rw [yb_run k c 0 h]
  simp
theorem tok_run (k c p : Nat) (h0 : 0 < p) (hp : p < k) : tok (runY k c) p = (if 3 ≤ min (k - p) 258 then (0, ((min (k - p) 258 : Nat) : Int), 1) else ((c : Int), 0, 0)) ∧ szN (runY k c) p = if 3 ≤ min (k - p) 258 then min (k - p) 258 else 1 := by
  have hb := best_run k c p hp (p - 1) (by omega)
  rw [show p - 1 + 1 = p by omega] at hb
  unfold tok szN tokB
  rw [hb, yb_run k c p hp]
  generalize min (k - p) 258 = M
  by_cases h : 3 ≤ M
  · have h0 : ¬ M = 0 := by omega
    simp [h, h0]
  · simp [h]

/-! ### Bytes made and written -/
set_option maxRecDepth 100000 in
theorem OwnB.made (w : World) (n : Nat) (hn : n ≤ 1000000) : ∃ w1, (Instr.makeSlice 39 (.int .i64 (n : Int)) (.int .i64 (n : Int))).run Tryz.prog w = .ok (.slice (some ⟨w.heap.size, 0, none⟩) n n) w1 ∧ OwnB w1 w.heap.size (.slice (some ⟨w.heap.size, 0, none⟩) n n) (List.replicate n 0) ∧ Keeps (fun _ => False) w w1 := by
  obtain ⟨i, hi, h1, h2, h3⟩ : ∃ i, Tryz.prog.info? 5 = some i ∧ i.zero = some (.int .u8 0) ∧ i.bytes = 1 ∧ i.size = 1 := ⟨Tryz.t5, Tryz.type5, rfl, rfl, rfl⟩
  have hr := run_make (P := Tryz.prog) w 39 5 i _ Tryz.underlying39 hi h1 .i64 .i64 n n (by omega) (by omega) (by rw [h2]; omega) (by omega)
  refine ⟨_, by simpa using hr, ?_, (Keeps.refl _ w).alloc _⟩
  refine ⟨by simp, .inr ⟨_, _, _, by simp; rfl, Nat.le_refl _, heap_alloc_new _ _, by simp, by unfold maxLen; omega, by simp [madeCells, h3], ?_⟩⟩
  apply List.ext_getElem?
  intro j
  simp only [madeCells, h3, Value.cells]
  rw [List.getElem?_take]
  by_cases hj : j < n
  · rw [if_pos (by simp; omega), Array.getElem?_toList, Array.getElem?_map, Array.getElem?_range, if_pos (by omega)]; simp [hj, Nat.mod_one, byteV]
  · rw [if_neg (by simp; omega)]; simp [hj]
theorem wpList_bytes {ops : Array Oper} {rest : List Oper} {op : Oper} {a : Act} {w : World} {Q : Exit → Act → World → Prop} (hgd : op.guard = none) (l c : Operand) (ho : op.op = .makeSlice 39 l c) (n : Nat) (hl : a.eval l = .int .i64 (n : Int)) (hc : a.eval c = .int .i64 (n : Int)) (hn : n ≤ 1000000)
    (h : ∀ g w1, OwnB w1 g (.slice (some ⟨g, 0, none⟩) n n) (List.replicate n 0) → Keeps (fun _ => False) w w1 → w.heap.size ≤ g → wpList Tryz.prog ops Q rest (a.put op.dst (.slice (some ⟨g, 0, none⟩) n n)) w1) : wpList Tryz.prog ops Q (op :: rest) a w :=
  wpList_plain hgd fun _ hK => by
    obtain ⟨w1, hr, hC, hk⟩ := OwnB.made w n hn
    unfold Oper.wp execOp
    simp only [ho, hl, hc, hr, Sem.run_bind, Sem.run_pure, Result.andThen_ok]
    exact hK _ _ (h w.heap.size _ hC hk (Nat.le_refl _))
/-- A block of k bytes, the first i of them c. -/
def Fill (w : World) (g k c i : Nat) : Prop := ∃ xs : List Nat, xs.length = k ∧ OwnB w g (.slice (some ⟨g, 0, none⟩) k k) xs ∧ ∀ j, j < i → yb xs j = c
theorem Fill.cell {w : World} {g k c i : Nat} (h : Fill w g k c i) (j : Nat) (hj : j < k) : (∃ x : Nat, w.cell? ⟨g, j, none⟩ = some (.int .u8 (x : Int))) ∧ w.frozen? ⟨g, j, none⟩ = false := by
  obtain ⟨xs, hl, ho, _⟩ := h
  have hu : (xs.map byteV)[j]? = some (byteV (yb xs j)) := by rw [List.getElem?_map, List.getElem?_eq_getElem (by omega), yb_eq j (by omega)]; rfl
  unfold OwnB at ho
  rw [hl] at ho
  obtain ⟨h1, h2⟩ := owns_cell ho j _ hu
  exact ⟨⟨_, h1⟩, h2⟩
theorem Fill.next {w : World} {g k c i : Nat} (h : Fill w g k c i) (hi : i < k) : Fill (w.setCell ⟨g, i, none⟩ (.int .u8 (c : Int))) g k c (i + 1) := by
  obtain ⟨xs, hl, ho, hy⟩ := h
  refine ⟨xs.set i c, by simpa using hl, ?_, fun j hj => ?_⟩
  · unfold OwnB at ho ⊢
    rw [hl] at ho
    have := owns_set ho i (.int .u8 (c : Int))
    rw [List.length_set, hl, List.map_set]
    exact this
  · have hjl : j < (xs.set i c).length := by rw [List.length_set]; omega
    rw [yb_eq j hjl, List.getElem_set]
    by_cases e : i = j
    · rw [if_pos e]
    · rw [if_neg e, ← yb_eq j (by omega)]; exact hy j (by omega)
theorem Fill.all {w : World} {g k c : Nat} (h : Fill w g k c k) : OwnB w g (.slice (some ⟨g, 0, none⟩) k k) (runY k c) := by
  obtain ⟨xs, hl, ho, hy⟩ := h
  have e : xs = runY k c := by
    apply List.ext_getElem (by simp [runY, hl])
    intro j h1 h2
    rw [← yb_eq j h1, hy j (by omega)]; simp [runY]
  rw [← e]; exact ho

/-- A block of n bytes, whatever they are. -/
def AnyB (w : World) (g n : Nat) : Prop := ∃ xs : List Nat, xs.length = n ∧ OwnB w g (.slice (some ⟨g, 0, none⟩) n n) xs ∧ ∀ y ∈ xs, y < 256
theorem AnyB.cell {w : World} {g n : Nat} (h : AnyB w g n) (j : Nat) (hj : j < n) : (∃ x : Nat, w.cell? ⟨g, j, none⟩ = some (.int .u8 (x : Int))) ∧ w.frozen? ⟨g, j, none⟩ = false := by
  obtain ⟨xs, hl, ho, _⟩ := h
  have hu : (xs.map byteV)[j]? = some (byteV (yb xs j)) := by rw [List.getElem?_map, List.getElem?_eq_getElem (by omega), yb_eq j (by omega)]; rfl
  unfold OwnB at ho
  rw [hl] at ho
  obtain ⟨h1, h2⟩ := owns_cell ho j _ hu
  exact ⟨⟨_, h1⟩, h2⟩
theorem AnyB.set {w : World} {g n : Nat} (h : AnyB w g n) (i : Nat) (z : Int) (h0 : 0 ≤ z) (h1 : z < 256) : AnyB (w.setCell ⟨g, i, none⟩ (.int .u8 z)) g n := by
  obtain ⟨xs, hl, ho, hy⟩ := h
  obtain ⟨c, rfl⟩ : ∃ c : Nat, z = (c : Int) := ⟨z.toNat, by omega⟩
  refine ⟨xs.set i c, by simpa using hl, ?_, fun y hm => ?_⟩
  · unfold OwnB at ho ⊢
    rw [hl] at ho
    have := owns_set ho i (.int .u8 (c : Int))
    rw [List.length_set, hl, List.map_set]
    exact this
  · rcases List.mem_or_eq_of_mem_set hm with e | e
    · exact hy y e
    · omega

end Go.Proofs.YtebjooebdehlnaaGreat.Mt

namespace Go.Proofs.YtebjooebdehlnaaGreat.Bk
open Hf Tb
open Mt (Tk toksN runY tok szN tok_run tok_run0)
set_option linter.unusedVariables false
set_option linter.unusedSimpArgs false

theorem lit_bits : ∀ i : Fin 256, (at_ fixLs i.val).toNat ≤ 9 := by decide +kernel
theorem lit_len (c : Nat) (h : c < 256) : (tkB fixLs fiveLs ((c : Int), 0, 0)).length ≤ 9 := by
  have e : tkB fixLs fiveLs ((c : Int), 0, 0) = codeB fixLs c := by unfold tkB; rw [if_pos rfl]; rfl
  rw [e, codeB_length]
  exact lit_bits ⟨c, h⟩
theorem cop_bits : ∀ i : Fin 256, (tkB fixLs fiveLs (0, ((i.val + 3 : Nat) : Int), 1)).length ≤ 18 := by decide +kernel
theorem cop_len (m : Nat) (h1 : 3 ≤ m) (h2 : m ≤ 258) : (tkB fixLs fiveLs (0, (m : Int), 1)).length ≤ 18 := by
  have := cop_bits ⟨m - 3, by omega⟩
  simp only at this
  rwa [show m - 3 + 3 = m by omega] at this
theorem tksB_snoc9 (ys ds : List Int) (ts : List Tk) (t : Tk) : (tksB ys ds (ts ++ [t])).length = (tksB ys ds ts).length + (tkB ys ds t).length := by
  simp [tksB]
theorem toksN_next (ys : List Nat) (k : Nat) : toksN ys (k + 1) = toksN ys k ++ [tok ys (Mt.step ys k)] := rfl
theorem step_next (ys : List Nat) (k : Nat) : Mt.step ys (k + 1) = Mt.step ys k + szN ys (Mt.step ys k) := rfl
/-- One token more of a run. -/
theorem run_lit (k c q p n : Nat) (hc : c < 256) (hp : Mt.step (runY k c) q = p) (hn : (tksB fixLs fiveLs (toksN (runY k c) q)).length ≤ n) (h0 : p = 0 ∨ min (k - p) 258 < 3) (hk : p < k) :
    Mt.step (runY k c) (q + 1) = p + 1 ∧ (tksB fixLs fiveLs (toksN (runY k c) (q + 1))).length ≤ n + 9 := by
  have ht : tok (runY k c) p = ((c : Int), 0, 0) ∧ szN (runY k c) p = 1 := by
    rcases h0 with rfl | h0
    · exact tok_run0 k c hk
    · by_cases e : p = 0
      · subst e; exact tok_run0 k c hk
      · have := tok_run k c p (by omega) hk
        rw [if_neg (by omega), if_neg (by omega)] at this; exact this
  rw [step_next, toksN_next, tksB_snoc9, hp, ht.1, ht.2]
  have := lit_len c hc
  exact ⟨rfl, by omega⟩
theorem run_cop (k c q p n : Nat) (hp : Mt.step (runY k c) q = p) (hn : (tksB fixLs fiveLs (toksN (runY k c) q)).length ≤ n) (h0 : 0 < p) (h3 : 3 ≤ min (k - p) 258) :
    Mt.step (runY k c) (q + 1) = p + min (k - p) 258 ∧ (tksB fixLs fiveLs (toksN (runY k c) (q + 1))).length ≤ n + 18 := by
  have ht := tok_run k c p h0 (by omega)
  rw [if_pos h3, if_pos h3] at ht
  rw [step_next, toksN_next, tksB_snoc9, hp, ht.1, ht.2]
  have := cop_len (min (k - p) 258) h3 (by omega)
  exact ⟨rfl, by omega⟩
theorem run_bits (k c : Nat) (h1 : 20 ≤ k) (h2 : k ≤ 299) (hc : c < 256) : ∃ K, Mt.step (runY k c) K = k ∧ (tksB fixLs fiveLs (toksN (runY k c) K)).length ≤ 62 := by
  obtain ⟨a1, b1⟩ := run_lit k c 0 0 0 hc rfl (Nat.le_refl _) (.inl rfl) (by omega)
  obtain ⟨a2, b2⟩ := run_cop k c 1 1 9 a1 b1 (by omega) (by omega)
  by_cases e : k ≤ 259
  · exact ⟨2, by rw [a2]; omega, Nat.le_trans b2 (by omega)⟩
  · rw [show 1 + min (k - 1) 258 = 259 by omega] at a2
    by_cases e3 : 262 ≤ k
    · obtain ⟨a3, b3⟩ := run_cop k c 2 259 27 a2 b2 (by omega) (by omega)
      exact ⟨3, by rw [a3]; omega, Nat.le_trans b3 (by omega)⟩
    · obtain ⟨a3, b3⟩ := run_lit k c 2 259 27 hc a2 b2 (.inr (by omega)) (by omega)
      by_cases e4 : k = 260
      · exact ⟨3, by rw [a3]; omega, Nat.le_trans b3 (by omega)⟩
      · obtain ⟨a4, b4⟩ := run_lit k c 3 260 36 hc a3 b3 (.inr (by omega)) (by omega)
        exact ⟨4, by rw [a4]; omega, Nat.le_trans b4 (by omega)⟩
theorem runY_lt (k c : Nat) (hc : c < 256) : ∀ y ∈ runY k c, y < 256 := fun y hy => by simp [runY] at hy; omega
theorem run_pack (k c : Nat) (h1 : 20 ≤ k) (h2 : k ≤ 299) (hc : c < 256) : (textOf (runY k c)).size = k ∧ pkM (textOf (runY k c)) = 8 ∧ (pkT (textOf (runY k c))).size ≤ 9 := by
  have hb : bytesOf (textOf (runY k c)) = runY k c := bytesOf_text _ (runY_lt k c hc)
  have hs : (textOf (runY k c)).size = k := by rw [textOf_size]; simp [runY]
  obtain ⟨K, hK, hl⟩ := run_bits k c h1 h2 hc
  have hk := kOf_eq (textOf (runY k c)) K (by rw [hb, hK, hs])
  have hf : (fixS (textOf (runY k c))).size ≤ 9 := by
    unfold fixS toksOf
    rw [hb, ← hk, textOf_size, pack_length]
    unfold fixedB
    simp only [List.length_append, bitsOf_length, codeB_fix]; omega
  have hd := (defT_le (textOf (runY k c))).2.1
  have hlt : (defT (textOf (runY k c))).size < (textOf (runY k c)).size := by omega
  refine ⟨hs, (pkM_iff _).2 hlt, ?_⟩
  unfold pkT
  rw [if_pos hlt]; omega

end Go.Proofs.YtebjooebdehlnaaGreat.Bk

namespace Go.Proofs.YtebjooebdehlnaaGreat.Bk
open Go.RowKit
open Hf Tb
open Mt (runY Fill AnyB OwnB yb)
set_option linter.unusedVariables false
set_option linter.unusedSimpArgs false

theorem AnyB.setOther {w : World} {g h n : Nat} (hA : AnyB w h n) (i : Nat) (v : Value) (hne : g ≠ h) : AnyB (w.setCell ⟨g, i, none⟩ v) h n := by
  obtain ⟨xs, hl, ho, hy⟩ := hA
  refine ⟨xs, hl, OwnB.kept (S := fun k => k = g) ho ((Keeps.refl (fun k => k = g) w).setCell (p := ⟨g, i, none⟩) (fun _ => rfl) v) (fun k hk e => ?_), hy⟩
  simp [Value.ownBlock] at hk
  omega
theorem Fill.setOther {w : World} {g h k c i : Nat} (hA : Fill w g k c i) (j : Nat) (v : Value) (hne : g ≠ h) : Fill (w.setCell ⟨h, j, none⟩ v) g k c i := by
  obtain ⟨xs, hl, ho, hy⟩ := hA
  refine ⟨xs, hl, OwnB.kept (S := fun k => k = h) ho ((Keeps.refl (fun k => k = h) w).setCell (p := ⟨h, j, none⟩) (fun _ => rfl) v) (fun k hk e => ?_), hy⟩
  simp [Value.ownBlock] at hk
  omega
theorem AnyB.keptF {w w' : World} {h n : Nat} (hA : AnyB w h n) (hk : Keeps (fun _ => False) w w') : AnyB w' h n := by
  obtain ⟨xs, hl, ho, hy⟩ := hA
  exact ⟨xs, hl, ho.keptF hk, hy⟩
theorem Fill.keptF {w w' : World} {g k c i : Nat} (hA : Fill w g k c i) (hk : Keeps (fun _ => False) w w') : Fill w' g k c i := by
  obtain ⟨xs, hl, ho, hy⟩ := hA
  exact ⟨xs, hl, ho.keptF hk, hy⟩
theorem pk_or (t : ByteArray) : pkM t = 8 ∨ (pkM t = 0 ∧ pkT t = t) := by
  unfold pkM pkT
  split
  · exact .inl rfl
  · exact .inr ⟨rfl, rfl⟩
theorem u8_wrap (z : Int) : 0 ≤ IntKind.u8.wrap z ∧ IntKind.u8.wrap z < 256 := by
  simp only [IntKind.wrap, IntKind.bits, IntKind.signed]
  constructor
  · simp; omega
  · simp; omega

/-- What the loop holds. -/
def Two9 (w0 w : World) (g h k n c i : Nat) : Prop := Fill w g k c i ∧ AnyB w h n ∧ g ≠ h ∧ Keeps (fun _ => False) w0 w ∧ w0.heap.size ≤ g ∧ w0.heap.size ≤ h
theorem Two9.one {w0 w : World} {g h k n c i : Nat} (H : Two9 w0 w g h k n c i) (hi : i < k) : Two9 w0 (w.setCell ⟨g, i, none⟩ (.int .u8 (c : Int))) g h k n c (i + 1) :=
  ⟨H.1.next hi, AnyB.setOther H.2.1 i _ H.2.2.1, H.2.2.1, H.2.2.2.1.setCell (fun hh => absurd hh (by show ¬ g < _; have := H.2.2.2.2.1; omega)) _, H.2.2.2.2.1, H.2.2.2.2.2⟩
theorem Two9.two {w0 w : World} {g h k n c i : Nat} (H : Two9 w0 w g h k n c i) (j : Nat) (z : Int) (h0 : 0 ≤ z) (h1 : z < 256) : Two9 w0 (w.setCell ⟨h, j, none⟩ (.int .u8 z)) g h k n c i :=
  ⟨Fill.setOther H.1 j _ H.2.2.1, H.2.1.set j z h0 h1, H.2.2.1, H.2.2.2.1.setCell (fun hh => absurd hh (by show ¬ h < _; have := H.2.2.2.2.2; omega)) _, H.2.2.2.2.1, H.2.2.2.2.2⟩

set_option maxHeartbeats 2000000 in
set_option maxRecDepth 1000000 in
theorem shrinks9 (b many : Int) (w : World) : Calls Tryz.prog 7 #[.int .i64 b, .int .i64 many] w fun e w' => e = .returned (.bool true) ∧ Keeps (fun _ => False) w w' := by
  have HA := hide (awake9 w)
  obtain ⟨m, hm1, hm2, hm4⟩ : ∃ m : Nat, (IntKind.u64.wrap many).tmod 280 = (m : Int) ∧ IntKind.u64.wrap many % 280 = (m : Int) ∧ m < 280 := by
    have e : IntKind.u64.wrap many = many % 18446744073709551616 := by simp [IntKind.wrap, IntKind.bits, IntKind.signed]
    have h0 : 0 ≤ IntKind.u64.wrap many := by rw [e]; omega
    rw [Int.tmod_eq_emod_of_nonneg h0, e]
    exact ⟨(many % 18446744073709551616 % 280).toNat, by omega, by omega, by omega⟩
  obtain ⟨k, hk, hk1, hk2⟩ : ∃ k : Nat, (20 : Int) + (m : Int) = (k : Int) ∧ 20 ≤ k ∧ k ≤ 299 := ⟨20 + m, by push_cast; rfl, by omega, by omega⟩
  obtain ⟨n, hn, hn1, hn2⟩ : ∃ n : Nat, min k 256 = n ∧ n ≤ k ∧ n ≤ 256 := ⟨_, rfl, by omega, by omega⟩
  obtain ⟨c, hc, hc256⟩ : ∃ c : Nat, IntKind.u8.wrap b = (c : Int) ∧ c < 256 := ⟨(IntKind.u8.wrap b).toNat, by have := (u8_wrap b).1; omega, by have := u8_wrap b; omega⟩
  have hwm : wrap64 (m : Int) = (m : Int) := by unfold wrap64; omega
  have hwm2 : IntKind.i64.wrap (m : Int) = (m : Int) := wrap_i64_small _ (by omega) (by omega)
  have hkz : (k : Int) ≤ 299 := by omega
  have hmin : (if 256 < (k : Int) then (256 : Int) else (k : Int)) = (n : Int) := by split <;> omega
  have hmin2 : (if (k : Int) < 256 then (k : Int) else (256 : Int)) = (n : Int) := by split <;> omega
  have hmin3 : min (k : Int) 256 = (n : Int) := by omega
  go_enter Tryz.func7, Tryz.ntmps7
  go_wp2_with fail
  refine HA.out.mono ?_
  rintro e w1 ⟨rfl, hq1⟩
  have H1 := hide hq1
  clear hq1 HA
  go_wp2_with (first
    | (refine Mt.wpList_bytes rfl _ _ rfl k rfl rfl ?hn ?_; (case hn => omega); intro g w2 hO2 hK2 hg2; clear hk; have hk := trivial)
    | (refine Mt.wpList_bytes rfl _ _ rfl n rfl rfl ?hn ?_; (case hn => omega); intro h w3 hO3 hK3 hg3))
  have H3 : Hid (Two9 w w3 g h k n c 0) := by
    have s1 := H1.out.size
    have s2 := hK2.size
    have s3 : g < w2.heap.size := (World.ownsRow.lt hO2 g rfl).2
    refine ⟨Fill.keptF ⟨_, by simp, hO2, fun j hj => absurd hj (by omega)⟩ hK3, ⟨_, by simp, hO3, fun y hy => by simp at hy; omega⟩, by omega, (H1.out.trans hK2 (fun _ _ h => h)).trans hK3 (fun _ _ h => h), by omega, by omega⟩
  clear hO2 hK2 hg2 hO3 hK3 hg3 H1 hk hmin hmin2 hmin3 hm1 hm2 hm4 hwm hwm2
  go_loopw [8] (fun s8 w' => ∃ i : Nat, i ≤ k ∧ s8 = .int .i64 (i : Int) ∧ Hid (Two9 w w' g h k n c i)) (fun s8 w' => ((k : Int) - intOf s8).toNat)
  case atStart => exact ⟨0, by omega, rfl, H3⟩
  case round =>
    clear H3
    obtain ⟨i, hi, rfl, HF⟩ := hrel
    by_cases hin : i < k
    · have hiz : (i : Int) < (k : Int) := by omega
      obtain ⟨⟨x, hx⟩, hf⟩ := HF.out.1.cell i hin
      by_cases hit : i < n
      · have hitz : (i : Int) < (n : Int) := by omega
        obtain ⟨⟨x2, hx2⟩, hf2⟩ := (HF.out.one hin).2.1.cell i hit
        have HN := hide (HF.out.one hin)
        clear HF
        go_wp2
        go_roundw
        case rel => exact ⟨i + 1, by omega, by push_cast; rfl, HN.out.two i _ (u8_wrap _).1 (u8_wrap _).2⟩
        case measure => simp [intOf]; omega
      · have hitz : ¬ (i : Int) < (n : Int) := by omega
        have HN := hide (HF.out.one hin)
        clear HF
        go_wp2
        go_roundw
        case rel => exact ⟨i + 1, by omega, by push_cast; rfl, HN⟩
        case measure => simp [intOf]; omega
    · obtain rfl : i = k := by omega
      obtain ⟨r1, r2, r3⟩ := run_pack i c hk1 hk2 hc256
      have hcv := HF.out.1.all.text Tryz.underlying39 (runY_lt i c hc256)
      obtain ⟨xs, hxl, hxo, hxy⟩ := HF.out.2.1
      have HT : Hid (∀ v, Keeps (fun _ => False) wr v → (convert 39 9 (.slice (some ⟨h, 0, none⟩) n n)).run Tryz.prog v = .ok (.string (textOf xs)) v) := fun v hv => by
        exact (hxo.keptF hv).text Tryz.underlying39 hxy
      have hTs : (textOf xs).size = n := by rw [textOf_size, hxl]
      have hpl := pkT_le (textOf xs)
      have hpo := pk_or (textOf xs)
      have HP : Hid (∀ v, Calls Tryz.prog 10 #[.string (textOf (runY i c))] v (PckPost 8 (pkT (textOf (runY i c))) 0 v)) := fun v => by
        have := pack_ok (textOf (runY i c)) v (by omega)
        rw [r2] at this; exact this
      have HQ : Hid (∀ v, Calls Tryz.prog 10 #[.string (textOf xs)] v (PckPost (pkM (textOf xs)) (pkT (textOf xs)) 0 v)) := fun v => pack_ok (textOf xs) v (by omega)
      have HK : Hid (Keeps (fun _ => False) w wr) := HF.out.2.2.2.1
      generalize textOf (runY i c) = S at *
      generalize pkT S = P at *
      generalize textOf xs = T at *
      generalize pkM T = M at *
      generalize pkT T = Q at *
      have g1 : (P.size : Int) ≤ 9 := by omega
      have g2 : (Q.size : Int) ≤ (n : Int) := by omega
      clear HF hxo hxl hxy r1 r2 r3 hTs hpl
      have hiz : ¬ (i : Int) < (i : Int) := by omega
      go_wp2_with fail
      refine (HP.out wr).mono ?_
      rintro e w4 ⟨rfl, hq4⟩
      have hcv4 := HT.out w4 hq4
      have H4 := hide hq4
      clear hq4 HP hcv
      go_wp2_with fail
      refine (HQ.out w4).mono ?_
      rintro e w5 ⟨rfl, hq5⟩
      have hcv5 := HT.out w5 (H4.out.trans hq5 (fun _ _ h => h))
      have H5 := hide (HK.out.trans (H4.out.trans hq5 (fun _ _ h => h)) (fun _ _ h => h))
      clear hq5 HQ hcv4 H4 HK HT
      rcases hpo with rfl | ⟨rfl, rfl⟩
      · go_wp2_with (first
          | (go_at_call 14; refine (num_any _ _).mono ?_; rintro e w' ⟨rfl, hw⟩; obtain rfl := hw.symm; clear hw))
        all_goals go_ret
        all_goals exact ⟨rfl, H5.out⟩
      · go_wp2_with (first
          | (go_at_call 14; refine (num_any _ _).mono ?_; rintro e w' ⟨rfl, hw⟩; obtain rfl := hw.symm; clear hw))
        all_goals go_ret
        all_goals exact ⟨rfl, H5.out⟩
theorem shrinks9_walk (b many : Int) (w : World) : Calls Tryz.prog 7 #[.int .i64 b, .int .i64 many] w fun e w' => e = .returned (.bool true) ∧ Below w.heap.size w w' := by
  refine (shrinks9 b many w).mono ?_
  rintro e w' ⟨rfl, hk⟩
  exact ⟨rfl, hk.below _ (Nat.le_refl _) (fun _ h => h.elim)⟩

end Go.Proofs.YtebjooebdehlnaaGreat.Bk

namespace Go.Proofs.YtebjooebdehlnaaGreat
open Go.ChangeShapes Go.WideShapes Go.ChangeAt Go.RowKit
open Go.ChangeMaps (open_string shut_string)
open Mt Bk
set_option linter.unusedVariables false

theorem deflateShrinks_own : ownKnob Tryz.prog.godebug = none := by kernel_rfl
theorem deflateShrinks_laidOut : laidOutB Tryz.prog = true := by kernel_rfl

set_option maxRecDepth 100000 in
theorem deflateShrinks_lifted (os : Os) (started : os.Started) (H : Type) (enc : TypeId × Value → H) :
    ReturnsInHanded {} Tryz.checked os 7 .any (Rows.deflateShrinksSpec.pre6 enc Tryz.prog Tryz.f7 Rows.deflateShrinksRow.domain false) (Rows.deflateShrinksSpec.post enc Tryz.prog Tryz.f7 false true false false) := by
  refine returnsInHanded_of_change (C := Tryz.checked) deflateShrinks_own started (by kernel_rfl) Tryz.func7
    (ChangeSpec.witness6 (enc := enc) (C := Tryz.checked) false ⟨#[], #[.int .i64 0, .int .i64 0], []⟩ 8 (by kernel_rfl) (by kernel_rfl) (by kernel_rfl) (by kernel_rfl)) ?_
  intro W base args ds gs before hval0 hW hcnd _
  have hval : ∀ (j : Nat) t v, Tryz.f7.params[j]? = some t → args[j]? = some v → Value.okWide Tryz.prog W .any base t v := hval0
  have hW' := hW
  obtain ⟨p, q, hA0, hV, rfl, hfz, hnd⟩ := hW
  have hA : DataW.TrodAll enc Tryz.prog W 0 (fun _ => true) true Tryz.f7.params.toList args.toList ds p := hA0
  rw [Tryz.params7] at hA hval
  obtain ⟨v0, vs0, d0, ds0, p0, q0, hargs, rfl, rfl, h0, r0⟩ := trodAll_cons hA
  obtain ⟨v1, vs1, d1, ds1, p1, q1, rfl, rfl, rfl, h1, r1⟩ := trodAll_cons r0
  obtain ⟨rfl, rfl, rfl⟩ := trodAll_nil r1
  obtain rfl : args = #[v0, v1] := by cases args; simp_all
  obtain ⟨rfl, rfl⟩ := trodVars_none hV
  obtain ⟨a0, rfl, rfl, rfl, w0⟩ := open_int Tryz.underlying3 (hval 0 3 v0 rfl rfl) h0
  obtain ⟨a1, rfl, rfl, rfl, w1⟩ := open_int Tryz.underlying3 (hval 1 3 v1 rfl rfl) h1
  clear hA0 hval0
  refine (shrinks9_walk a0 a1 W ).mono fun e W' ⟨he, bel⟩ => ?_
  subst he
  exact ⟨_, rfl, _, _, _, [], [], [], hW', trodAll_mk1 (shut_bool Tryz.underlying4 _), (trodAll_cons_mk (shut_int Tryz.underlying3 w0) (trodAll_cons_mk (shut_int Tryz.underlying3 w1) trodAll_mk0)), rfl, bel.frame _, fun h => by cases h⟩

theorem deflateShrinks_over : Rows.deflateShrinksRow.holds Tryz.pinned (OpenSpec.ofChange Rows.deflateShrinksSpec) :=
  OpenClaim.holds_of_wide 7 Tryz.f7 rfl rfl rfl rfl rfl rfl rfl ⟨rfl, rfl, rfl, rfl, rfl⟩ rfl rfl rfl rfl rfl (by kernel_rfl) Tryz.func7 (by kernel_rfl)
    (of_decide_eq_true (by kernel_rfl)) (by unfold Func.isWrapper; first | (rw [if_pos (by decide +kernel)]; kernel_rfl) | (rw [if_neg (by decide +kernel)]; exact ⟨rfl, rfl⟩))
    (fun os started H enc _ => deflateShrinks_lifted os started H enc)

theorem deflateShrinks_holds : Rows.DeflateShrinksSaid := deflateShrinks_over

end Go.Proofs.YtebjooebdehlnaaGreat

/-
  The counts of package block: how often each symbol comes; addByte and addCopy. Rows of tokens that a slice shows, and blocks of tokens that a call owns. How far two places of a text go alike. A token in a block of its own: made, read, written; and the token that stands at a place of a text. The call Tokens: a text's tokens, from left to right.
-/
import Derived.Test.YtebjooebdehlnaaGreatRows
import Derived.Test.YtebjooebdehlnaaGreatG07
import Derived.BigRegion
import Derived.WalkKit
import Derived.WalkSpells
import Derived.WalkLawsBesides
import Derived.Deep.MidRow
import Derived.Laws.ResultCell
import Derived.Deep.AppendLies
import Derived.Laws.OwnMore
import Derived.BigQuiet
namespace Go.Proofs.YtebjooebdehlnaaGreat.Bk
open Go.RowKit
open Hf Tb
open Mt (Tk)
set_option linter.unusedVariables false
set_option linter.unusedSimpArgs false

/-- How often each of n symbols stands in a list. -/
def cntL (n : Nat) (ss : List Nat) : List Int := (List.range n).map (fun i => ((ss.count i : Nat) : Int))
theorem cntL_length (n : Nat) (ss : List Nat) : (cntL n ss).length = n := by simp [cntL]
theorem cntL_get (n : Nat) (ss : List Nat) (i : Nat) (h : i < n) : (cntL n ss)[i]? = some ((ss.count i : Nat) : Int) := by
  simp [cntL, List.getElem?_range h]
theorem cntL_snoc (n : Nat) (ss : List Nat) (i : Nat) (h : i < n) : cntL n (ss ++ [i]) = (cntL n ss).set i ((ss.count i : Nat) + 1 : Int) := by
  apply List.ext_getElem?
  intro j
  by_cases hj : j < n
  · rw [cntL_get _ _ j hj, List.getElem?_set]
    by_cases e : i = j
    · subst e
      rw [if_pos rfl, cntL_length, if_pos h]
      simp [List.count_append]
    · rw [if_neg e, cntL_get _ _ j hj]
      simp [List.count_append, List.count_singleton, e]
  · rw [List.getElem?_eq_none (by rw [cntL_length]; omega), List.getElem?_eq_none (by rw [List.length_set, cntL_length]; omega)]
/-- The symbols of tokens: bytes and lengths; distances. -/
def symA (t : Tk) : Nat := if t.2.1 = 0 then t.1.toNat else (symL t.2.1).1.toNat
def symsA (ts : List Tk) : List Nat := ts.map symA
def symB (t : Tk) : List Nat := if t.2.1 = 0 then [] else [(symD t.2.2).1.toNat]
def symsB (ts : List Tk) : List Nat := ts.flatMap symB
theorem symsA_snoc (ts : List Tk) (t : Tk) : symsA (ts ++ [t]) = symsA ts ++ [symA t] := by simp [symsA]
theorem symsB_snoc (ts : List Tk) (t : Tk) : symsB (ts ++ [t]) = symsB ts ++ symB t := by simp [symsB]
theorem symsB_len (ts : List Tk) : (symsB ts).length ≤ ts.length := by
  induction ts with
  | nil => simp [symsB]
  | cons t r ih =>
    have : symsB (t :: r) = symB t ++ symsB r := by simp [symsB]
    rw [this, List.length_append, List.length_cons]
    have : (symB t).length ≤ 1 := by unfold symB; split <;> simp
    omega
/-- The counts of tokens lie in block q. -/
def Cnt (w : World) (q : Nat) (ts : List Tk) : Prop := Ary 88 w q (cntL 286 (symsA ts) ++ cntL 30 (symsB ts))

set_option maxHeartbeats 1000000 in
set_option maxRecDepth 100000 in
theorem addByte_ok (xs : List Int) (q i v : Nat) (w : World) (h : Ary 88 w q xs) (hi : i < 286) (hv : xs[i]? = some (v : Int)) (hb : v ≤ 1000000) :
    Calls Tryz.prog 83 #[.pointer (some ⟨q, 0, none⟩), .int .i64 (i : Int)] w fun e w' => e = .returned (.tuple #[]) ∧ Ary 88 w' q (xs.set i ((v : Int) + 1)) ∧ Keeps (fun k => k = q) w w' := by
  obtain ⟨hl, he⟩ := List.getElem?_eq_some_iff.1 hv
  have hc : w.cell? ⟨q, i, none⟩ = some (.int .i64 (v : Int)) := by rw [h.cell i hl, he]
  have hf := h.free i
  have hiz : (i : Int) < 286 := by omega
  have hw1 : wrap64 ((v : Int) + 1) = (v : Int) + 1 := by rw [wrap64_small _ (by omega) (by omega)]
  have hw2 : IntKind.i64.wrap ((v : Int) + 1) = (v : Int) + 1 := by rw [wrap_i64_small _ (by omega) (by omega)]
  have HA : Hid (Ary 88 (w.setCell ⟨q, i, none⟩ (.int .i64 ((v : Int) + 1))) q (xs.set i ((v : Int) + 1)) ∧ Keeps (fun k => k = q) w (w.setCell ⟨q, i, none⟩ (.int .i64 ((v : Int) + 1)))) := ⟨h.set i _, (Keeps.refl (fun k => k = q) w).setCell (p := ⟨q, i, none⟩) (fun _ => rfl) _⟩
  clear h hv he hl
  go_enter Tryz.func83, Tryz.ntmps83
  go_region
  go_wp2
  go_end0
  exact ⟨rfl, HA.out.1.keptF ((Keeps.refl _ _).drew), HA.out.2.drew⟩

set_option maxHeartbeats 2000000 in
set_option maxRecDepth 100000 in
theorem addCopy_ok (xs : List Int) (q i j u v : Nat) (l2 l3 d2 d3 : Int) (w : World) (h : Ary 88 w q xs) (hi : i < 286) (hj : j < 30) (hu : xs[i]? = some (u : Int)) (hv : xs[286 + j]? = some (v : Int)) (hb : u ≤ 1000000) (hb2 : v ≤ 1000000) :
    Calls Tryz.prog 84 #[.pointer (some ⟨q, 0, none⟩), .agg #[.int .i64 (i : Int), .int .i64 l2, .int .i64 l3], .agg #[.int .i64 (j : Int), .int .i64 d2, .int .i64 d3]] w fun e w' => e = .returned (.tuple #[]) ∧ Ary 88 w' q ((xs.set i ((u : Int) + 1)).set (286 + j) ((v : Int) + 1)) ∧ Keeps (fun k => k = q) w w' := by
  have hlt := h.lt
  have hiz : (i : Int) < 286 := by omega
  have hjz : (j : Int) < 30 := by omega
  have hw1 : wrap64 ((u : Int) + 1) = (u : Int) + 1 := by rw [wrap64_small _ (by omega) (by omega)]
  have hw2 : IntKind.i64.wrap ((u : Int) + 1) = (u : Int) + 1 := by rw [wrap_i64_small _ (by omega) (by omega)]
  have hw3 : wrap64 ((v : Int) + 1) = (v : Int) + 1 := by rw [wrap64_small _ (by omega) (by omega)]
  have hw4 : IntKind.i64.wrap ((v : Int) + 1) = (v : Int) + 1 := by rw [wrap_i64_small _ (by omega) (by omega)]
  have HX : Hid (Ary 88 w q xs ∧ xs[i]? = some (u : Int) ∧ xs[286 + j]? = some (v : Int)) := ⟨h, hu, hv⟩
  clear h hu hv
  go_enter Tryz.func84, Tryz.ntmps84
  go_wp2_with fail
  obtain ⟨q1, hq1⟩ : ∃ q1, w.heap.size = q1 := ⟨_, rfl⟩
  (try simp only [hq1])
  generalize hwA : World.alloc _ _ = wA
  have HS : Hid (Ary 88 wA q xs ∧ Keeps (fun _ => False) w wA ∧ Syb wA q1 ((i : Int), l2, l3) ∧ Syb wA (q1 + 1) ((j : Int), d2, d3) ∧ q ≠ q1 ∧ q ≠ q1 + 1) := by
    have k1 : Keeps (fun _ => False) w (w.alloc (.cells #[.int .i64 (i : Int), .int .i64 l2, .int .i64 l3] 102)) := (Keeps.refl _ w).alloc _
    have k2 : Keeps (fun _ => False) (w.alloc (.cells #[.int .i64 (i : Int), .int .i64 l2, .int .i64 l3] 102)) wA := by rw [← hwA]; exact (Keeps.refl _ _).alloc _
    have k3 := k1.trans k2 (fun _ _ h => h)
    have y1 : Syb (w.alloc (.cells #[.int .i64 (i : Int), .int .i64 l2, .int .i64 l3] 102)) q1 ((i : Int), l2, l3) := by rw [← hq1]; exact Syb.new w ((i : Int), l2, l3)
    have y2 : Syb wA (q1 + 1) ((j : Int), d2, d3) := by
      have := Syb.new (w.alloc (.cells #[.int .i64 (i : Int), .int .i64 l2, .int .i64 l3] 102)) ((j : Int), d2, d3)
      rw [← hwA]
      simp only [World.size_alloc, hq1] at this
      exact this
    exact ⟨HX.out.1.keptF k3, k3, y1.keptF k2, y2, by omega, by omega⟩
  clear hwA
  obtain ⟨hl, he⟩ := List.getElem?_eq_some_iff.1 HX.out.2.1
  have hc : wA.cell? ⟨q, i, none⟩ = some (.int .i64 (u : Int)) := by rw [HS.out.1.cell i hl, he]
  have hf := HS.out.1.free i
  have hy := HS.out.2.2.1.c0
  clear hl he
  go_wp2_with fail
  go_region
  have HB : Hid (Ary 88 (wA.setCell ⟨q, i, none⟩ (.int .i64 ((u : Int) + 1))).drew q (xs.set i ((u : Int) + 1)) ∧ Keeps (fun k => k = q) w (wA.setCell ⟨q, i, none⟩ (.int .i64 ((u : Int) + 1))).drew ∧ Syb (wA.setCell ⟨q, i, none⟩ (.int .i64 ((u : Int) + 1))).drew (q1 + 1) ((j : Int), d2, d3)) := by
    have kk : Keeps (fun k => k = q) wA (wA.setCell ⟨q, i, none⟩ (.int .i64 ((u : Int) + 1))).drew := ((Keeps.refl (fun k => k = q) wA).setCell (p := ⟨q, i, none⟩) (fun _ => rfl) _).drew
    exact ⟨(HS.out.1.set i _).keptF ((Keeps.refl _ _).drew), (HS.out.2.1.mono (fun _ _ h => h.elim)).trans kk (fun _ _ h => h), HS.out.2.2.2.1.kept kk (fun e => HS.out.2.2.2.2.2 e.symm)⟩
  generalize (wA.setCell ⟨q, i, none⟩ (.int .i64 ((u : Int) + 1))).drew = wB at *
  have hv2 : (xs.set i ((u : Int) + 1))[286 + j]? = some (v : Int) := by rw [List.getElem?_set, if_neg (by omega)]; exact HX.out.2.2
  obtain ⟨hl, he⟩ := List.getElem?_eq_some_iff.1 hv2
  have hc2 : wB.cell? ⟨q, 286 + j, none⟩ = some (.int .i64 (v : Int)) := by rw [HB.out.1.cell (286 + j) hl, he]
  have hf2 := HB.out.1.free (286 + j)
  have hy2 := HB.out.2.2.c0
  clear hl he hv2 hc hf hy HS
  go_wp2_with fail
  go_region
  go_wp2
  go_end0
  have kk : Keeps (fun k => k = q) wB (wB.setCell ⟨q, 286 + j, none⟩ (.int .i64 ((v : Int) + 1))).drew := ((Keeps.refl (fun k => k = q) wB).setCell (p := ⟨q, 286 + j, none⟩) (fun _ => rfl) _).drew
  exact ⟨rfl, (HB.out.1.set (286 + j) _).keptF ((Keeps.refl _ _).drew), HB.out.2.1.trans kk (fun _ _ h => h)⟩

theorem set_left {xs ys : List Int} (i : Nat) (v : Int) (h : i < xs.length) : (xs ++ ys).set i v = xs.set i v ++ ys := List.set_append_left _ _ h
theorem Cnt.byte {w : World} {q : Nat} {ts : List Tk} (h : Cnt w q ts) (hl : ts.length ≤ 300) (m : Nat) (d : Int) (hm : m < 286) :
    Calls Tryz.prog 83 #[.pointer (some ⟨q, 0, none⟩), .int .i64 (m : Int)] w fun e w' => e = .returned (.tuple #[]) ∧ Cnt w' q (ts ++ [((m : Int), 0, d)]) ∧ Keeps (fun k => k = q) w w' := by
  have hc : ((symsA ts).count m) ≤ 300 := Nat.le_trans List.count_le_length (by simp [symsA]; exact hl)
  refine (addByte_ok _ q m ((symsA ts).count m) w h hm (by rw [List.getElem?_append_left (by rw [cntL_length]; omega)]; exact cntL_get _ _ m hm) (by omega)).mono ?_
  rintro e w' ⟨rfl, h1, h2⟩
  refine ⟨rfl, ?_, h2⟩
  rw [set_left _ _ (by rw [cntL_length]; omega), ← cntL_snoc 286 (symsA ts) m hm] at h1
  unfold Cnt
  rw [symsA_snoc, symsB_snoc]
  have e1 : symA ((m : Int), 0, d) = m := by simp [symA]
  have e2 : symB ((m : Int), 0, d) = [] := by simp [symB]
  rw [e1, e2, List.append_nil]; exact h1
theorem Cnt.copy {w : World} {q : Nat} {ts : List Tk} (h : Cnt w q ts) (hl : ts.length ≤ 300) (l : Int) (x y : Nat) (h1 : 3 ≤ x) (h2 : x ≤ 258) (h3 : 1 ≤ y) (h4 : y ≤ 32768) :
    Calls Tryz.prog 84 #[.pointer (some ⟨q, 0, none⟩), syV (symL (x : Int)), syV (symD (y : Int))] w fun e w' => e = .returned (.tuple #[]) ∧ Cnt w' q (ts ++ [(l, (x : Int), (y : Int))]) ∧ Keeps (fun k => k = q) w w' := by
  obtain ⟨j, f, j1, j2, j3, j4, j5⟩ := symL_is x h1 h2
  obtain ⟨k, g, k1, k2, k3, k4, k5⟩ := symD_is y h3 h4
  have hc : ((symsA ts).count (257 + j)) ≤ 300 := Nat.le_trans List.count_le_length (by simp [symsA]; exact hl)
  have hd : ((symsB ts).count k) ≤ 300 := Nat.le_trans List.count_le_length (Nat.le_trans (symsB_len ts) hl)
  rw [j2, k2]
  refine (addCopy_ok _ q (257 + j) k ((symsA ts).count (257 + j)) ((symsB ts).count k) _ _ _ _ w h (by omega) (by omega) (by rw [List.getElem?_append_left (by rw [cntL_length]; omega)]; exact cntL_get _ _ (257 + j) (by omega)) (by rw [List.getElem?_append_right (by rw [cntL_length]; omega), cntL_length, Nat.add_sub_cancel_left]; exact cntL_get _ _ k (by omega)) (by omega) (by omega)).mono ?_
  rintro e w' ⟨rfl, q1, q2⟩
  refine ⟨rfl, ?_, q2⟩
  have hne : ¬ ((x : Int) = 0) := by omega
  rw [set_left _ _ (by rw [cntL_length]; omega), ← cntL_snoc 286 (symsA ts) (257 + j) (by omega), List.set_append_right _ _ (by rw [cntL_length]; omega), cntL_length, Nat.add_sub_cancel_left, ← cntL_snoc 30 (symsB ts) k (by omega)] at q1
  unfold Cnt
  rw [symsA_snoc, symsB_snoc]
  have e1 : symA (l, (x : Int), (y : Int)) = 257 + j := by unfold symA; rw [if_neg hne]; simp only [j2, Int.toNat_natCast]
  have e2 : symB (l, (x : Int), (y : Int)) = [k] := by unfold symB; rw [if_neg hne]; simp only [k2, Int.toNat_natCast]
  rw [e1, e2]; exact q1

end Go.Proofs.YtebjooebdehlnaaGreat.Bk

namespace Go.Proofs.YtebjooebdehlnaaGreat.Mt
open Go.RowKit
set_option linter.unusedVariables false
set_option linter.unusedSimpArgs false

def tkVs : List Tk → List Value
  | [] => []
  | t :: r => .int .i64 t.1 :: .int .i64 t.2.1 :: .int .i64 t.2.2 :: tkVs r
theorem tkVs_length : ∀ ts, (tkVs ts).length = ts.length * 3
  | [] => rfl
  | t :: r => by simp [tkVs, tkVs_length r]; omega
theorem tkVs_append : ∀ ts us, tkVs (ts ++ us) = tkVs ts ++ tkVs us
  | [], us => rfl
  | t :: r, us => by simp [tkVs, tkVs_append r]
theorem tkVs_mem : ∀ ts v, v ∈ tkVs ts → ∃ x : Int, v = .int .i64 x
  | [], v, h => by simp [tkVs] at h
  | t :: r, v, h => by
    simp only [tkVs, List.mem_cons] at h
    rcases h with rfl | rfl | rfl | h
    · exact ⟨_, rfl⟩
    · exact ⟨_, rfl⟩
    · exact ⟨_, rfl⟩
    · exact tkVs_mem r v h
def tk (ts : List Tk) (i : Nat) : Tk := ts.getD i (0, 0, 0)
theorem tk_eq {ts : List Tk} (i : Nat) (h : i < ts.length) : tk ts i = ts[i] := by simp [tk, List.getD, List.getElem?_eq_getElem h]
theorem tk_drop {ts : List Tk} (i : Nat) (h : i < ts.length) : ts.drop i = tk ts i :: ts.drop (i + 1) := by
  rw [tk_eq i h]; exact List.drop_eq_getElem_cons h
theorem tkVs_get : ∀ (ts : List Tk) (j : Nat) (h : j < ts.length), (tkVs ts)[j * 3]? = some (.int .i64 (tk ts j).1) ∧ (tkVs ts)[j * 3 + 1]? = some (.int .i64 (tk ts j).2.1) ∧ (tkVs ts)[j * 3 + 2]? = some (.int .i64 (tk ts j).2.2)
  | [], _, h => by simp at h
  | t :: r, 0, h => by simp [tkVs, tk]
  | t :: r, j + 1, h => by
    have := tkVs_get r j (by simpa using h)
    rw [show (j + 1) * 3 = j * 3 + 1 + 1 + 1 by omega]
    simpa [tkVs, tk] using this
/-- The cells of the i-th of tokens from a place on. -/
def TkAt (w : World) (b o : Nat) (t : Tk) : Prop := w.cell? ⟨b, o, none⟩ = some (.int .i64 t.1) ∧ w.cell? ⟨b, o + 1, none⟩ = some (.int .i64 t.2.1) ∧ w.cell? ⟨b, o + 2, none⟩ = some (.int .i64 t.2.2)
theorem TkAt.kept {S : Nat → Prop} {w w' : World} {b o : Nat} {t : Tk} (h : TkAt w b o t) (hk : Keeps S w w') (hb : b < w.heap.size) (hs : ¬ S b) : TkAt w' b o t := by
  have e : ∀ i, w'.cell? ⟨b, i, none⟩ = w.cell? ⟨b, i, none⟩ := fun i => World.cell?_of_block (hk.block b hb hs)
  exact ⟨(e _).trans h.1, (e _).trans h.2.1, (e _).trans h.2.2⟩
/-- What is known of a slice of tokens. -/
def RowT (w : World) (a : Option Addr) (ts : List Tk) : Prop :=
  ts = [] ∨ ∃ b off, a = some ⟨b, off, none⟩ ∧ b < w.heap.size ∧ ∀ i, i < ts.length → TkAt w b (off + i * 3) (tk ts i)
theorem RowT.kept {S : Nat → Prop} {w w' : World} {a : Option Addr} {ts : List Tk} (h : RowT w a ts) (hk : Keeps S w w') (hb : ∀ x, a = some x → ¬ S x.block) : RowT w' a ts := by
  rcases h with h | ⟨b, off, rfl, h1, h2⟩
  · exact .inl h
  · exact .inr ⟨b, off, rfl, Nat.lt_of_lt_of_le h1 hk.size, fun i hi => (h2 i hi).kept hk h1 (hb _ rfl)⟩
theorem RowT.keptF {w w' : World} {a : Option Addr} {ts : List Tk} (h : RowT w a ts) (hk : Keeps (fun _ => False) w w') : RowT w' a ts := h.kept hk (fun _ _ h => h)
theorem RowT.at {w : World} {a : Option Addr} {ts : List Tk} (h : RowT w a ts) (hn : 0 < ts.length) : ∃ b off, a = some ⟨b, off, none⟩ ∧ b < w.heap.size ∧ ∀ w', Keeps (fun _ => False) w w' → ∀ i, i < ts.length → TkAt w' b (off + i * 3) (tk ts i) := by
  rcases h with h | ⟨b, off, rfl, h1, h2⟩
  · subst h; simp at hn
  · exact ⟨b, off, rfl, h1, fun w' hk i hi => (h2 i hi).kept hk h1 (fun h => h)⟩
theorem RowT.lit (w : World) (ts : List Tk) (t : TypeId) : RowT (w.alloc (.cells (tkVs ts).toArray t)) (some ⟨w.heap.size, 0, none⟩) ts := by
  refine .inr ⟨w.heap.size, 0, rfl, by simp, fun i hi => ?_⟩
  obtain ⟨h1, h2, h3⟩ := tkVs_get ts i hi
  rw [Nat.zero_add]
  exact ⟨cell_of_heap (heap_alloc_new _ _) (by simpa using h1), cell_of_heap (heap_alloc_new _ _) (by simpa using h2), cell_of_heap (heap_alloc_new _ _) (by simpa using h3)⟩

/-- A slice of tokens that a call owns, nil too. -/
def OwnK (w : World) (base : Nat) (v : Value) (ts : List Tk) : Prop := w.ownsRow base 68 3 v ts.length (tkVs ts)
theorem OwnK.nil (w : World) (base : Nat) : OwnK w base (.slice none 0 0) [] := World.ownsRow_nil w base 68 3
theorem owns_heap3 {w w' : World} {base : Nat} {e : TypeId} {size : Nat} {v : Value} {n : Nat} {xs : List Value} (h : w.ownsRow base e size v n xs) (hk : ∀ k, v.ownBlock = some k → w'.heap[k]? = w.heap[k]?) : w'.ownsRow base e size v n xs := by
  obtain ⟨h1, h2⟩ := h
  refine ⟨h1, ?_⟩
  rcases h2 with h2 | ⟨g, cap, cur, hv, hg, hh, r⟩
  · exact Or.inl h2
  · subst hv
    exact Or.inr ⟨g, cap, cur, rfl, hg, by rw [hk g rfl]; exact hh, r⟩
theorem OwnK.kept {S : Nat → Prop} {w w' : World} {base : Nat} {v : Value} {ts : List Tk} (h : OwnK w base v ts) (hk : Keeps S w w') (hb : ∀ k, v.ownBlock = some k → ¬ S k) : OwnK w' base v ts :=
  owns_heap3 h (fun k e => hk.block k (World.ownsRow.lt h k e).2 (hb k e))
theorem OwnK.keptF {w w' : World} {base : Nat} {v : Value} {ts : List Tk} (h : OwnK w base v ts) (hk : Keeps (fun _ => False) w w') : OwnK w' base v ts := h.kept hk (fun _ _ h => h)
theorem OwnK.row {w : World} {base : Nat} {v : Value} {ts : List Tk} (h : OwnK w base v ts) : ∃ a cap, v = .slice a ts.length cap ∧ RowT w a ts ∧ (∀ x, a = some x → base ≤ x.block ∧ v.ownBlock = some x.block) ∧ ts.length ≤ cap := by
  rcases h.2 with ⟨rfl, h0⟩ | ⟨g, cap, cur, rfl, hb, h1, h2, h3, h4, h5⟩
  · have := List.length_eq_zero_iff.1 h0
    subst this
    exact ⟨none, 0, rfl, .inl rfl, fun x e => (by cases e), Nat.le_refl _⟩
  · refine ⟨_, cap, rfl, .inr ⟨g, 0, rfl, lt_of_heap h1, fun i hi => ?_⟩, fun x e => (by simp at e; subst e; exact ⟨hb, rfl⟩), h2⟩
    obtain ⟨e1, e2, e3⟩ := tkVs_get ts i hi
    rw [← h5, List.getElem?_take, if_pos (by omega)] at e1 e2 e3
    rw [Nat.zero_add]
    exact ⟨cell_of_heap h1 (by simpa using e1), cell_of_heap h1 (by simpa using e2), cell_of_heap h1 (by simpa using e3)⟩
set_option maxRecDepth 100000 in
theorem append_tok (w : World) (base : Nat) (v : Value) (ts : List Tk) (h : OwnK w base v ts) (t : Tk) (b : Nat) (hx : TkAt w b 0 t) (hb : base ≤ w.heap.size) (hn : ts.length ≤ 1000000) :
    ∃ g cap w', (Builtin.append_ #[44, 44] 44 #[v, .slice (some ⟨b, 0, none⟩) 1 1]).run Tryz.prog w = .ok (.slice (some ⟨g, 0, none⟩) (ts.length + 1) cap) w' ∧ OwnK w' base (.slice (some ⟨g, 0, none⟩) (ts.length + 1) cap) (ts ++ [t]) ∧ w.grownBy w' v.ownBlock ∧ (v.ownBlock = some g ∨ g = w.heap.size) := by
  obtain ⟨i, hi, h1, h2, h3⟩ : ∃ i, Tryz.prog.info? 68 = some i ∧ i.zero = some (.agg #[.int .i64 0, .int .i64 0, .int .i64 0]) ∧ i.bytes = 24 ∧ i.size = 3 := ⟨Tryz.t68, Tryz.type68, rfl, rfl, rfl⟩
  obtain ⟨g, cap, w', hr, ho, hg, hat, hlt⟩ := run_append_lies (P := Tryz.prog) w 44 44 base 68 i (.agg #[.int .i64 0, .int .i64 0, .int .i64 0]) 3 24 Tryz.underlying44 hi h1 h3 h2 rfl (by decide) v ts.length (tkVs ts) h ⟨b, 0, none⟩ 1 1 (tkVs [t]) rfl (fun j u hu => by
      have hj : j < 3 := by have := (List.getElem?_eq_some_iff.1 hu).1; simpa [tkVs] using this
      obtain ⟨c0, c1, c2⟩ := hx
      obtain rfl | rfl | rfl : j = 0 ∨ j = 1 ∨ j = 2 := by omega
      · simp [tkVs] at hu; subst hu; exact c0
      · simp [tkVs] at hu; subst hu; exact c1
      · simp [tkVs] at hu; subst hu; exact c2) (fun u hu => by obtain ⟨x, rfl⟩ := tkVs_mem _ _ hu; rfl) (by decide) (by unfold maxLen; omega) (by omega) hb _ rfl
  refine ⟨g, cap, w', hr, ?_, hg, hat⟩
  unfold OwnK
  rw [tkVs_append, List.length_append]
  exact ho
theorem wpList_tok {ops : Array Oper} {rest : List Oper} {o : Oper} {a : Act} {w : World} {Q : Exit → Act → World → Prop} (hgd : o.guard = none) (s x : Operand) (ho : o.op = .call { callee := .builtin .append, args := #[s, x], argTypes := #[44, 44] }) (hty : o.type = 44)
    (base : Nat) (v : Value) (ts : List Tk) (hs : a.eval s = v) (hown : OwnK w base v ts) (b : Nat) (t : Tk) (hx : a.eval x = .slice (some ⟨b, 0, none⟩) 1 1) (hR : TkAt w b 0 t) (hb : base ≤ w.heap.size) (hn : ts.length ≤ 1000000)
    (h : ∀ g cap w', OwnK w' base (.slice (some ⟨g, 0, none⟩) (ts.length + 1) cap) (ts ++ [t]) → w.grownBy w' v.ownBlock → (v.ownBlock = some g ∨ g = w.heap.size) → wpList Tryz.prog ops Q rest (a.put o.dst (.slice (some ⟨g, 0, none⟩) (ts.length + 1) cap)) w') : wpList Tryz.prog ops Q (o :: rest) a w :=
  wpList_plain hgd fun _ hK => by
    obtain ⟨g, cap, w', hr, h2, h3, h4⟩ := append_tok w base v ts hown t b hR hb hn
    unfold Oper.wp execOp
    simp only [ho, hty, resolve, invoke, builtin, Sem.run_bind, Sem.run_pure, Result.andThen_ok, List.map_toArray, List.map_cons, List.map_nil, hs, hx, hr]
    exact hK _ _ (h g cap w' h2 h3 h4)
theorem tkAt_new (w : World) (l n d : Int) (T : TypeId) : TkAt (w.alloc (.cells #[.int .i64 l, .int .i64 n, .int .i64 d] T)) w.heap.size 0 (l, n, d) :=
  ⟨cell_of_heap (heap_alloc_new _ _) rfl, cell_of_heap (heap_alloc_new _ _) rfl, cell_of_heap (heap_alloc_new _ _) rfl⟩

theorem bytesOf_lt (s : ByteArray) : ∀ y ∈ bytesOf s, y < 256 := by
  intro y hy
  obtain ⟨b, _, rfl⟩ := List.mem_map.1 hy
  exact UInt8.toNat_lt b
theorem yb_text (s : ByteArray) (i : Nat) (h : i < s.size) : yb (bytesOf s) i = s[i].toNat := bytesOf_get s i h

set_option maxHeartbeats 4000000 in
set_option maxRecDepth 1000000 in
theorem num_any (x : Int) (w : World) : Calls Tryz.prog 14 #[.int .i64 x] w fun e w' => e = .returned (.int .i64 x) ∧ w' = w := by
  go_enter Tryz.func14, Tryz.ntmps14
  go_wp2
  go_ret
  exact ⟨rfl, rfl⟩

set_option maxHeartbeats 4000000 in
set_option maxRecDepth 1000000 in
theorem size_ok (l n d : Int) (w : World) : Calls Tryz.prog 33 #[.agg #[.int .i64 l, .int .i64 n, .int .i64 d]] w fun e w' => e = .returned (.int .i64 (sz (l, n, d))) ∧ Keeps (fun _ => False) w w' := by
  by_cases h : n ≤ 1
  · have hm : max 1 n = 1 := by omega
    go_enter Tryz.func33, Tryz.ntmps33
    go_wp2
    go_ret
    exact ⟨by simp only [sz, hm]; rfl, (Keeps.refl _ w).alloc _⟩
  · have hm : max 1 n = n := by omega
    go_enter Tryz.func33, Tryz.ntmps33
    go_wp2
    go_ret
    exact ⟨by simp only [sz, hm]; rfl, (Keeps.refl _ w).alloc _⟩

end Go.Proofs.YtebjooebdehlnaaGreat.Mt

namespace Go.Proofs.YtebjooebdehlnaaGreat.Mt
open Go.RowKit
set_option linter.unusedVariables false
set_option linter.unusedSimpArgs false

set_option maxHeartbeats 4000000 in
set_option maxRecDepth 1000000 in
theorem alike_ok (s : ByteArray) (p d : Nat) (w : World) (hs : s.size ≤ 300) (hp : p < s.size) (hd : 1 ≤ d) (hdp : d ≤ p) :
    Calls Tryz.prog 71 #[.string s, .int .i64 (p : Int), .int .i64 (d : Int)] w fun e w' => e = .returned (.int .i64 (alk (bytesOf s) p (p - d) : Int)) ∧ Keeps (fun _ => False) w w' := by
  obtain ⟨M, hM⟩ : ∃ M, min (s.size - p) 258 = M := ⟨_, rfl⟩
  have hm : (if 258 < (s.size : Int) - (p : Int) then (258 : Int) else (s.size : Int) - (p : Int)) = (M : Int) := by split <;> omega
  have HF : Hid (alk (bytesOf s) p (p - d) = lead (alkF (bytesOf s) p (p - d)) M) := show _ = _ by unfold alk; rw [bytesOf_length, hM]
  have hM8 : M ≤ 258 := by omega
  have HM : Hid (min (s.size - p) 258 = M) := hM
  clear hM
  go_enter Tryz.func71, Tryz.ntmps71
  go_wp2
  clear hm
  go_loopw [8] (fun s8 w' => ∃ n : Nat, n ≤ M ∧ s8 = .int .i64 (n : Int) ∧ Hid (∀ i, i < n → alkF (bytesOf s) p (p - d) i = true) ∧ Hid (Keeps (fun _ => False) w w')) (fun s8 w' => ((M : Int) - intOf s8).toNat)
  case atStart => exact ⟨0, by omega, rfl, fun i h => absurd h (by omega), Keeps.refl _ _⟩
  case round =>
    obtain ⟨n, hn, rfl, HA, HK⟩ := hrel
    by_cases hin : n < M
    · have hnz : (n : Int) < (M : Int) := by omega
      obtain ⟨q, hq⟩ : ∃ q, q = p + n := ⟨_, rfl⟩
      obtain ⟨r, hr⟩ : ∃ r, r = q - d := ⟨_, rfl⟩
      have hqs : q < s.size := by have := HM.out; omega
      have hrs : r < s.size := by omega
      have hw1 : IntKind.i64.wrap ((p : Int) + (n : Int)) = (q : Int) := by rw [wrap_i64_small _ (by omega) (by omega)]; omega
      have hw2 : IntKind.i64.wrap ((q : Int) - (d : Int)) = (r : Int) := by rw [wrap_i64_small _ (by omega) (by omega)]; omega
      have HQ : Hid (q = p + n ∧ r = p - d + n) := ⟨hq, by omega⟩
      have HY : Hid (alkF (bytesOf s) p (p - d) n = (s[q].toNat == s[r].toNat)) := show _ = _ by
        unfold alkF
        rw [← HQ.out.1, ← HQ.out.2, yb_text s q hqs, yb_text s r hrs]
      clear hq hr
      by_cases e : s[q].toNat = s[r].toNat
      · have hb : (s[q].toNat == s[r].toNat) = true := by rw [e]; exact beq_self_eq_true _
        have hbz : ((s[q].toNat : Int) == (s[r].toNat : Int)) = true := by rw [e]; exact beq_self_eq_true _
        have HN : Hid (∀ i, i < n + 1 → alkF (bytesOf s) p (p - d) i = true) := fun i hi => by
          by_cases h : i = n
          · subst h; rw [HY.out]; exact hb
          · exact HA.out i (by omega)
        go_wp2
        go_quiet (fail)
        have HK' : Hid (Keeps (fun _ => False) w (wr.drewN nq)) := HK.out.drewN nq
        generalize wr.drewN nq = wn at *
        clear HK hb hbz e hw1 hw2 HY
        go_wp2
        go_roundw
        case rel => exact ⟨n + 1, by omega, by push_cast; rfl, HN, HK'⟩
        case measure => simp [intOf]; omega
      · have hb : (s[q].toNat == s[r].toNat) = false := by simpa using e
        have hbz : ((s[q].toNat : Int) == (s[r].toNat : Int)) = false := by rw [beq_eq_false_iff_ne]; omega
        have HE : Hid (alk (bytesOf s) p (p - d) = n) := by
          rw [HF.out]; exact lead_eq hn HA.out (.inr (by rw [HY.out]; exact hb))
        go_wp2
        go_quiet (fail)
        have HK' : Hid (Keeps (fun _ => False) w (wr.drewN nq)) := HK.out.drewN nq
        generalize wr.drewN nq = wn at *
        clear HK hb hbz e hw1 hw2 HY
        go_wp2
        go_ret
        exact ⟨by rw [HE.out]; rfl, HK'.out⟩
    · obtain rfl : n = M := by omega
      have HE : Hid (alk (bytesOf s) p (p - d) = n) := by
        rw [HF.out]; exact lead_eq hn HA.out (.inl rfl)
      go_wp2
      go_quiet (fail)
      have HK' : Hid (Keeps (fun _ => False) w (wr.drewN nq)) := HK.out.drewN nq
      generalize wr.drewN nq = wn at *
      go_wp2
      go_ret
      exact ⟨by rw [HE.out]; rfl, HK'.out⟩

set_option maxHeartbeats 4000000 in
set_option maxRecDepth 1000000 in
theorem same_ok (s : ByteArray) (p j : Nat) (w : World) (hs : s.size ≤ 300) (hp : p < s.size) (hd : j < p) :
    Calls Tryz.prog 46 #[.string s, .int .i64 (p : Int), .int .i64 (j : Int)] w fun e w' => e = .returned (.int .i64 (alk (bytesOf s) p j : Int)) ∧ Keeps (fun _ => False) w w' := by
  obtain ⟨M, hM⟩ : ∃ M, min (s.size - p) 258 = M := ⟨_, rfl⟩
  have HF : Hid (alk (bytesOf s) p j = lead (alkF (bytesOf s) p j) M) := show _ = _ by unfold alk; rw [bytesOf_length, hM]
  have hM8 : M ≤ 258 := by omega
  have HM : Hid (min (s.size - p) 258 = M) := hM
  clear hM
  go_enter Tryz.func46, Tryz.ntmps46
  go_wp2
  go_loopw [7] (fun s7 w' => ∃ n : Nat, n ≤ M ∧ s7 = .int .i64 (n : Int) ∧ Hid (∀ i, i < n → alkF (bytesOf s) p j i = true) ∧ Hid (Keeps (fun _ => False) w w')) (fun s7 w' => ((M : Int) - intOf s7).toNat)
  case atStart => exact ⟨0, by omega, rfl, fun i h => absurd h (by omega), Keeps.refl _ _⟩
  case round =>
    obtain ⟨n, hn, rfl, HA, HK⟩ := hrel
    by_cases hin : n < M
    · obtain ⟨q, hq⟩ : ∃ q, q = p + n := ⟨_, rfl⟩
      obtain ⟨r, hr⟩ : ∃ r, r = j + n := ⟨_, rfl⟩
      have hn0 : (n : Int) < 258 := by have := HM.out; omega
      have hqs : q < s.size := by have := HM.out; omega
      have hqz : (q : Int) < (s.size : Int) := by omega
      have hrs : r < s.size := by omega
      have hw1 : IntKind.i64.wrap ((p : Int) + (n : Int)) = (q : Int) := by rw [wrap_i64_small _ (by omega) (by omega)]; omega
      have hw2 : IntKind.i64.wrap ((j : Int) + (n : Int)) = (r : Int) := by rw [wrap_i64_small _ (by omega) (by omega)]; omega
      have HQ : Hid (q = p + n ∧ r = j + n) := ⟨hq, by omega⟩
      have HY : Hid (alkF (bytesOf s) p j n = (s[q].toNat == s[r].toNat)) := show _ = _ by
        unfold alkF
        rw [← HQ.out.1, ← HQ.out.2, yb_text s q hqs, yb_text s r hrs]
      clear hq hr
      by_cases e : s[q].toNat = s[r].toNat
      · have hb : (s[q].toNat == s[r].toNat) = true := by rw [e]; exact beq_self_eq_true _
        have hbz : ((s[q].toNat : Int) == (s[r].toNat : Int)) = true := by rw [e]; exact beq_self_eq_true _
        have HN : Hid (∀ i, i < n + 1 → alkF (bytesOf s) p j i = true) := fun i hi => by
          by_cases h : i = n
          · subst h; rw [HY.out]; exact hb
          · exact HA.out i (by omega)
        go_wp2
        go_quiet (fail)
        have HK' : Hid (Keeps (fun _ => False) w (wr.drewN nq)) := HK.out.drewN nq
        generalize wr.drewN nq = wn at *
        clear HK hb hbz e hw1 hw2 HY
        go_wp2
        go_roundw
        case rel => exact ⟨n + 1, by omega, by push_cast; rfl, HN, HK'⟩
        case measure => simp [intOf]; omega
      · have hb : (s[q].toNat == s[r].toNat) = false := by simpa using e
        have hbz : ((s[q].toNat : Int) == (s[r].toNat : Int)) = false := by rw [beq_eq_false_iff_ne]; omega
        have HE : Hid (alk (bytesOf s) p j = n) := by
          rw [HF.out]; exact lead_eq hn HA.out (.inr (by rw [HY.out]; exact hb))
        go_wp2
        go_quiet (fail)
        have HK' : Hid (Keeps (fun _ => False) w (wr.drewN nq)) := HK.out.drewN nq
        generalize wr.drewN nq = wn at *
        clear HK hb hbz e hw1 hw2 HY
        go_wp2
        go_ret
        exact ⟨by rw [HE.out]; rfl, HK'.out⟩
    · obtain rfl : n = M := by omega
      have HE : Hid (alk (bytesOf s) p j = n) := by
        rw [HF.out]; exact lead_eq hn HA.out (.inl rfl)
      by_cases h8 : n < 258
      · have hn0 : (n : Int) < 258 := by omega
        obtain ⟨q, hq⟩ : ∃ q, q = p + n := ⟨_, rfl⟩
        have hqs : q = s.size := by have := HM.out; omega
        have hqz : ¬ q < s.size := by omega
        have hqd : decide (q < s.size) = false := decide_eq_false hqz
        have hw1 : IntKind.i64.wrap ((p : Int) + (n : Int)) = (q : Int) := by rw [wrap_i64_small _ (by omega) (by omega)]; omega
        clear hq hqs
        go_wp2
        go_quiet (fail)
        have HK' : Hid (Keeps (fun _ => False) w (wr.drewN nq)) := HK.out.drewN nq
        generalize wr.drewN nq = wn at *
        go_wp2
        go_ret
        exact ⟨by rw [HE.out]; rfl, HK'.out⟩
      · obtain rfl : n = 258 := by omega
        go_wp2
        go_quiet (fail)
        have HK' : Hid (Keeps (fun _ => False) w (wr.drewN nq)) := HK.out.drewN nq
        generalize wr.drewN nq = wn at *
        go_wp2
        go_ret
        exact ⟨by rw [HE.out]; rfl, HK'.out⟩

end Go.Proofs.YtebjooebdehlnaaGreat.Mt

namespace Go.Proofs.YtebjooebdehlnaaGreat.Mt
open Go.RowKit
set_option linter.unusedVariables false
set_option linter.unusedSimpArgs false

/-- Block b is a token. -/
def Tkb (w : World) (b : Nat) (t : Tk) : Prop := w.heap[b]? = some (.cells #[.int .i64 t.1, .int .i64 t.2.1, .int .i64 t.2.2] 68 (0, 0))
theorem Tkb.lt {w : World} {b : Nat} {t : Tk} (h : Tkb w b t) : b < w.heap.size := lt_of_heap h
theorem Tkb.kept {S : Nat → Prop} {w w' : World} {b : Nat} {t : Tk} (h : Tkb w b t) (hk : Keeps S w w') (hb : ¬ S b) : Tkb w' b t := (hk.block b h.lt hb).trans h
theorem Tkb.keptF {w w' : World} {b : Nat} {t : Tk} (h : Tkb w b t) (hk : Keeps (fun _ => False) w w') : Tkb w' b t := h.kept hk (fun h => h)
theorem Tkb.c0 {w : World} {b : Nat} {t : Tk} (h : Tkb w b t) : w.cell? ⟨b, 0, none⟩ = some (.int .i64 t.1) := cell_of_heap h rfl
theorem Tkb.c1 {w : World} {b : Nat} {t : Tk} (h : Tkb w b t) : w.cell? ⟨b, 1, none⟩ = some (.int .i64 t.2.1) := cell_of_heap h rfl
theorem Tkb.c2 {w : World} {b : Nat} {t : Tk} (h : Tkb w b t) : w.cell? ⟨b, 2, none⟩ = some (.int .i64 t.2.2) := cell_of_heap h rfl
theorem Tkb.at {w : World} {b : Nat} {t : Tk} (h : Tkb w b t) : TkAt w b 0 t := ⟨h.c0, h.c1, h.c2⟩
theorem Tkb.new (w : World) (t : Tk) : Tkb (w.alloc (.cells #[.int .i64 t.1, .int .i64 t.2.1, .int .i64 t.2.2] 68)) w.heap.size t := heap_alloc_new _ _
def cs3 (t : Tk) : List Value := [.int .i64 t.1, .int .i64 t.2.1, .int .i64 t.2.2]
theorem TkAt.range {w : World} {b o : Nat} {t : Tk} (h : TkAt w b o t) : w.rangeAt b o (cs3 t) := fun j v hv => by
  obtain ⟨h0, h1, h2⟩ := h
  match j, hv with
  | 0, hv => simp [cs3] at hv; subst hv; exact h0
  | 1, hv => simp [cs3] at hv; subst hv; exact h1
  | 2, hv => simp [cs3] at hv; subst hv; exact h2
  | j + 3, hv => simp [cs3] at hv
theorem size40 : (Tryz.prog.info? 68).map (·.size) = some 3 := by kernel_rfl
theorem zero40 : (zeroValue 68).run Tryz.prog = fun w => .ok (.agg #[.int .i64 0, .int .i64 0, .int .i64 0]) w := by kernel_rfl
theorem wpList_alloc3 {ops : Array Oper} {rest : List Oper} {op : Oper} {a : Act} {w : World} {Q : Exit → Act → World → Prop} (hgd : op.guard = none) (ho : op.op = .alloc 68)
    (h : ∀ b w1, Tkb w1 b (0, 0, 0) → Keeps (fun _ => False) w w1 → w.heap.size ≤ b → wpList Tryz.prog ops Q rest (a.put op.dst (.pointer (some ⟨b, 0, none⟩))) w1) : wpList Tryz.prog ops Q (op :: rest) a w :=
  wpList_plain hgd fun _ hK => by
    unfold Oper.wp execOp
    have hz := congrFun zero40 w
    simp only [ho, Instr.alloc, Sem.run_bind, hz, Result.andThen_ok]
    simp only [newVar, Sem.run_bind, Sem.run_pure, Result.andThen_ok]
    exact hK _ _ (h w.heap.size _ (Tkb.new w (0, 0, 0)) ((Keeps.refl _ w).alloc _) (Nat.le_refl _))
theorem wpList_box3 {ops : Array Oper} {rest : List Oper} {op : Oper} {a : Act} {w : World} {Q : Exit → Act → World → Prop} (hgd : op.guard = none) (x : Operand) (ho : op.op = .box 68 x) (t : Tk) (hx : a.eval x = .agg #[.int .i64 t.1, .int .i64 t.2.1, .int .i64 t.2.2])
    (h : ∀ b w1, Tkb w1 b t → Keeps (fun _ => False) w w1 → w.heap.size ≤ b → wpList Tryz.prog ops Q rest (a.put op.dst (.pointer (some ⟨b, 0, none⟩))) w1) : wpList Tryz.prog ops Q (op :: rest) a w :=
  wpList_plain hgd fun _ hK => by
    unfold Oper.wp execOp
    simp only [ho, hx, Instr.box, Sem.run_bind, newVar, Sem.run_pure, Result.andThen_ok]
    exact hK _ _ (h w.heap.size _ (Tkb.new w t) ((Keeps.refl _ w).alloc _) (Nat.le_refl _))
theorem wpList_load3 {ops : Array Oper} {rest : List Oper} {op : Oper} {a : Act} {w : World} {Q : Exit → Act → World → Prop} (hgd : op.guard = none) (x : Operand) (ho : op.op = .load 68 x) (b o : Nat) (hx : a.eval x = .pointer (some ⟨b, o, none⟩)) (t : Tk) (hA : TkAt w b o t)
    (h : wpList Tryz.prog ops Q rest (a.put op.dst (.agg #[.int .i64 t.1, .int .i64 t.2.1, .int .i64 t.2.2])) w) : wpList Tryz.prog ops Q (op :: rest) a w :=
  wpList_load_mid hgd 68 x ho b o hx (cs3 t) _ hA.range Tryz.underlying68 rfl size40 h
theorem wpList_load3w {ops : Array Oper} {rest : List Oper} {op : Oper} {a : Act} {w : World} {Q : Exit → Act → World → Prop} (x : Operand) (ho : op.op = .load 68 x) (b o : Nat) (hx : a.eval x = .pointer (some ⟨b, o, none⟩)) (hw : Region.wanted op (yielded ops a.tmps) = true) (t : Tk) (hA : TkAt w b o t)
    (h : wpList Tryz.prog ops Q rest (a.put op.dst (.agg #[.int .i64 t.1, .int .i64 t.2.1, .int .i64 t.2.2])) w) : wpList Tryz.prog ops Q (op :: rest) a w :=
  wpList_step fun K hK => by
    rw [hw]
    exact wp_load_mid 68 x ho b o hx (cs3 t) _ hA.range Tryz.underlying68 rfl size40 (hK _ _ h)
theorem Tkb.set {w : World} {b : Nat} {t : Tk} (h : Tkb w b t) (u : Tk) : Tkb (w.setCells b 0 (cs3 u)) b u := by
  show (((w.setCell ⟨b, 0, none⟩ _).setCell ⟨b, 1, none⟩ _).setCell ⟨b, 2, none⟩ _).heap[b]? = _
  rw [heap_setCell_same (heap_setCell_same (heap_setCell_same h _) _) _]; rfl
theorem keeps_setCells {S : Nat → Prop} {a : World} (b : Nat) (hb : b < a.heap.size → S b) : ∀ (vs : List Value) (o : Nat) (w : World), Keeps S a w → Keeps S a (w.setCells b o vs)
  | [], _, _, h => h
  | v :: r, o, w, h => by rw [World.setCells]; exact keeps_setCells b hb r (o + 1) _ (h.setCell hb v)
theorem Tkb.there {w : World} {b : Nat} {t : Tk} (h : Tkb w b t) : w.there b 0 3 := fun j hj => by
  have hf : w.frozen? ⟨b, 0 + j, none⟩ = false := frozen_of_heap h
  refine ⟨?_, hf⟩
  match j, hj with
  | 0, _ => rw [show 0 + 0 = 0 from rfl, h.c0]; rfl
  | 1, _ => rw [show 0 + 1 = 1 from rfl, h.c1]; rfl
  | 2, _ => rw [show 0 + 2 = 2 from rfl, h.c2]; rfl
theorem wpList_store3 {ops : Array Oper} {rest : List Oper} {op : Oper} {a : Act} {w : World} {Q : Exit → Act → World → Prop} (hgd : op.guard = none) (x y : Operand) (ho : op.op = .store 68 x y) (b : Nat) (u : Tk) (hx : a.eval x = .pointer (some ⟨b, 0, none⟩)) (hy : a.eval y = .agg #[.int .i64 u.1, .int .i64 u.2.1, .int .i64 u.2.2]) (t : Tk) (hA : Tkb w b t)
    (h : ∀ w1, Tkb w1 b u → Keeps (fun k => k = b) w w1 → wpList Tryz.prog ops Q rest (a.put op.dst undef) w1) : wpList Tryz.prog ops Q (op :: rest) a w :=
  wpList_store_mid hgd 68 x y ho b 0 (cs3 u).toArray hx hy hA.there size40 (all_oneCell_toArray (by intro v hv; simp [cs3] at hv; rcases hv with rfl | rfl | rfl <;> rfl)) (h _ (hA.set u) (keeps_setCells (S := fun k => k = b) b (fun _ => rfl) _ _ _ (Keeps.refl _ w)))
theorem Tkb.loadVar {w : World} {b : Nat} {t : Tk} (h : Tkb w b t) : (loadVar 68 ⟨b, 0, none⟩).run Tryz.prog w = .ok (.agg #[.int .i64 t.1, .int .i64 t.2.1, .int .i64 t.2.2]) w :=
  run_loadVar_mid w b 0 68 (cs3 t) _ h.at.range Tryz.underlying68 rfl size40
theorem results_cell {fn : Func} {p : Tmp} {ty : TypeId} (h : fn.results = #[.cell p ty]) (tmps : Array Value) (P : Program) (w : World) :
    (results fn tmps).run P w = ((asAddr (tmps.getD p undef)).run P w).andThen fun a w₁ => (Go.loadVar ty a).run P w₁ := by
  simp only [results, h]
  simp [Sem.run_bind, Result.andThen]

theorem tokB_len (b : Nat × Nat) (y : Nat) : (tokB b y).2.1 = (b.1 : Int) := by unfold tokB; split <;> simp_all
theorem best_next (ys : List Nat) (p d : Nat) : best ys p (d + 1) = if 3 ≤ alk ys p (p - (d + 1)) ∧ (best ys p d).1 < alk ys p (p - (d + 1)) then (alk ys p (p - (d + 1)), d + 1) else best ys p d := rfl

set_option maxHeartbeats 4000000 in
set_option maxRecDepth 1000000 in
theorem longest_ok (s : ByteArray) (p : Nat) (w : World) (hs : s.size ≤ 300) (hp : p < s.size) :
    Calls Tryz.prog 32 #[.string s, .int .i64 (p : Int)] w fun e w' => e = .returned (.agg #[.int .i64 (tok (bytesOf s) p).1, .int .i64 (tok (bytesOf s) p).2.1, .int .i64 (tok (bytesOf s) p).2.2]) ∧ Keeps (fun _ => False) w w' := by
  have HC : Hid (∀ d w', 1 ≤ d → d ≤ p → Calls Tryz.prog 71 #[.string s, .int .i64 (p : Int), .int .i64 (d : Int)] w' fun e w'' => e = .returned (.int .i64 (alk (bytesOf s) p (p - d) : Int)) ∧ Keeps (fun _ => False) w' w'') := fun d w' h1 h2 => alike_ok s p d w' hs hp h1 h2
  have hy : s[p].toNat < 256 := UInt8.toNat_lt _
  have HT : Hid (tok (bytesOf s) p = tokB (best (bytesOf s) p p) s[p].toNat) := show _ = _ by unfold tok; rw [yb_text s p hp]
  go_enter Tryz.func32, Tryz.ntmps32
  go_wp2_with (first
    | (refine wpList_alloc3 rfl rfl ?_; (fail_if_success (clear HK1)); intro b4 w1 hT1 hK1 hb4; have HK1 : Hid (Keeps (fun _ => False) w w1) := hK1; clear hK1)
    | (refine wpList_alloc3 rfl rfl ?_; intro b5 w2 hT2 hK2 hb5; have HT4 : Hid (Tkb w2 b4 (0, 0, 0) ∧ b4 ≠ b5 ∧ w.heap.size ≤ b4 ∧ w.heap.size ≤ b5) := ⟨hT1.keptF hK2, (by have := hT1.lt; omega), hb4, (by have := HK1.out.size; omega)⟩; have HK2 : Hid (Keeps (fun _ => False) w w2) := HK1.out.trans hK2 (fun _ _ h => h); clear hK2 hT1 hb4 hb5)
    | (refine wpList_store3 rfl _ _ rfl b5 ((s[p].toNat : Int), 0, 0) rfl rfl (0, 0, 0) ?hA ?_; (case hA => assumption); intro w3 hT3 hK3))
  have HW : Hid (Tkb w3 b5 (tokB (best (bytesOf s) p 0) s[p].toNat) ∧ Tkb w3 b4 (0, 0, 0) ∧ Keeps (fun _ => False) w w3) :=
    ⟨hT3, HT4.out.1.kept hK3 HT4.out.2.1, HK2.out.trans hK3 (fun i hi h => by have := HT4.out.2.2.2; omega)⟩
  have HE : Hid (b4 ≠ b5 ∧ w.heap.size ≤ b4 ∧ w.heap.size ≤ b5) := HT4.out.2
  clear hT3 hK3 HT4 HK2 hT2 HK1
  go_loopw [6] (fun s6 w' => ∃ d : Nat, d ≤ p ∧ s6 = .int .i64 (d + 1 : Int) ∧ Hid (Tkb w' b5 (tokB (best (bytesOf s) p d) s[p].toNat) ∧ Tkb w' b4 (0, 0, 0) ∧ Keeps (fun _ => False) w w')) (fun s6 w' => ((p : Int) + 1 - intOf s6).toNat)
  case atStart => exact ⟨0, by omega, rfl, HW⟩
  case round =>
    clear HW
    obtain ⟨d, hd, rfl, HW⟩ := hrel
    by_cases hin : d < p
    · have hdz : (d : Int) + 1 ≤ (p : Int) := by omega
      have HC1 : Hid (∀ w', Calls Tryz.prog 71 #[.string s, .int .i64 (p : Int), .int .i64 ((d : Int) + 1)] w' fun e w'' => e = .returned (.int .i64 (alk (bytesOf s) p (p - (d + 1)) : Int)) ∧ Keeps (fun _ => False) w' w'') := fun w' => by
        have := HC.out (d + 1) w' (by omega) (by omega)
        push_cast at this
        exact this
      have hN := best_next (bytesOf s) p d
      have hL := tokB_len (best (bytesOf s) p d) s[p].toNat
      have HB : Hid (∀ z, tokB (alk (bytesOf s) p (p - (d + 1)), d + 1) z = if alk (bytesOf s) p (p - (d + 1)) = 0 then ((z : Int), 0, 0) else (0, (alk (bytesOf s) p (p - (d + 1)) : Int), ((d + 1 : Nat) : Int))) := fun z => rfl
      generalize hk : alk (bytesOf s) p (p - (d + 1)) = k at *
      have hk300 : k ≤ 300 := by have := alk_le (bytesOf s) p (p - (d + 1)); rw [bytesOf_length] at this; omega
      obtain ⟨m, hm⟩ : ∃ m, (best (bytesOf s) p d).1 = m := ⟨_, rfl⟩
      rw [hm] at hN hL
      by_cases h3 : 3 ≤ k
      · have h3z : (3 : Int) ≤ (k : Int) := by omega
        by_cases h4 : m < k
        · have h4z : (m : Int) < (k : Int) := by omega
          rw [if_pos ⟨h3, h4⟩] at hN
          have HX : Hid (tokB (best (bytesOf s) p (d + 1)) s[p].toNat = (0, (k : Int), (d : Int) + 1)) := by
            show _ = _
            rw [hN, HB.out, if_neg (by omega)]; push_cast; rfl
          have HLL : Hid ((tokB (best (bytesOf s) p d) s[p].toNat).2.1 = (m : Int)) := hL
          clear hN hL hm HB hk HC
          generalize tokB (best (bytesOf s) p d) s[p].toNat = t0 at *
          go_wp2_with (first
            | (go_at_call 71; refine (HC1.out _).mono ?_; rintro e w4 ⟨rfl, hK4⟩; have hT4 := HW.out.1.keptF hK4; have hc1 := hT4.c1; rw [HLL.out] at hc1; have HW4 : Hid (Tkb w4 b4 (0, 0, 0) ∧ Keeps (fun _ => False) w w4) := ⟨HW.out.2.1.keptF hK4, HW.out.2.2.trans hK4 (fun _ _ h => h)⟩; clear hK4)
            | (refine wpList_store3 rfl _ _ rfl b5 (0, (k : Int), (d : Int) + 1) rfl rfl t0 ?hA ?_; (case hA => assumption); intro w5 hT5 hK5))
          go_roundw
          case rel => exact ⟨d + 1, by omega, by push_cast; rfl, by rw [HX.out]; exact hT5, HW4.out.1.kept hK5 HE.out.1, HW4.out.2.trans hK5 (fun i hi h => by have := HE.out.2.2; omega)⟩
          case measure => simp [intOf]; omega
        · have h4z : ¬ (m : Int) < (k : Int) := by omega
          rw [if_neg (fun h => h4 h.2)] at hN
          have HX : Hid (best (bytesOf s) p (d + 1) = best (bytesOf s) p d) := hN
          have HLL : Hid ((tokB (best (bytesOf s) p d) s[p].toNat).2.1 = (m : Int)) := hL
          clear hN hL hm HB hk HC
          go_wp2_with (first
            | (go_at_call 71; refine (HC1.out _).mono ?_; rintro e w4 ⟨rfl, hK4⟩; have hT4 := HW.out.1.keptF hK4; have hc1 := hT4.c1; rw [HLL.out] at hc1; have HW4 : Hid (Tkb w4 b5 (tokB (best (bytesOf s) p d) s[p].toNat) ∧ Tkb w4 b4 (0, 0, 0) ∧ Keeps (fun _ => False) w w4) := ⟨hT4, HW.out.2.1.keptF hK4, HW.out.2.2.trans hK4 (fun _ _ h => h)⟩; clear hK4 hT4))
          go_roundw
          case rel => exact ⟨d + 1, by omega, by push_cast; rfl, by rw [HX.out]; exact HW4⟩
          case measure => simp [intOf]; omega
      · have h3z : ¬ (3 : Int) ≤ (k : Int) := by omega
        rw [if_neg (fun h => h3 h.1)] at hN
        have HX : Hid (best (bytesOf s) p (d + 1) = best (bytesOf s) p d) := hN
        clear hN hL hm HB hk HC
        go_wp2_with (first
          | (go_at_call 71; refine (HC1.out _).mono ?_; rintro e w4 ⟨rfl, hK4⟩; have HW4 : Hid (Tkb w4 b5 (tokB (best (bytesOf s) p d) s[p].toNat) ∧ Tkb w4 b4 (0, 0, 0) ∧ Keeps (fun _ => False) w w4) := ⟨HW.out.1.keptF hK4, HW.out.2.1.keptF hK4, HW.out.2.2.trans hK4 (fun _ _ h => h)⟩; clear hK4))
        go_roundw
        case rel => exact ⟨d + 1, by omega, by push_cast; rfl, by rw [HX.out]; exact HW4⟩
        case measure => simp [intOf]; omega
    · obtain rfl : d = p := by omega
      have hT := HW.out.1
      have hU := HW.out.2.1
      rw [← HT.out] at hT
      obtain ⟨t0, ht0⟩ : ∃ t0, tok (bytesOf s) d = t0 := ⟨_, rfl⟩
      rw [ht0] at hT
      have HT0 : Hid (tok (bytesOf s) d = t0) := ht0
      clear ht0
      go_wp2_with (first
        | (refine wpList_load3 rfl _ rfl b5 0 rfl t0 ?hA ?_; (case hA => exact hT.at))
        | (refine wpList_store3 rfl _ _ rfl b4 t0 rfl rfl (0, 0, 0) ?hA ?_; (case hA => assumption); intro w5 hT5 hK5))
      (try simp only [Exit.inBlock, Exit.then])
      refine bodyPost_ret (v := .agg #[.int .i64 t0.1, .int .i64 t0.2.1, .int .i64 t0.2.2]) ?_ rfl ⟨by rw [HT0.out], HW.out.2.2.trans hK5 (fun i hi h => by have := HE.out.2.1; omega)⟩
      rw [results_cell rfl]
      show ((asAddr (.pointer (some ⟨b4, 0, none⟩))).run Tryz.prog w5).andThen (fun a w₁ => (Go.loadVar 68 a).run Tryz.prog w₁) = _
      simp [asAddr, Result.andThen, hT5.loadVar]

end Go.Proofs.YtebjooebdehlnaaGreat.Mt

namespace Go.Proofs.YtebjooebdehlnaaGreat.Mt
open Go.RowKit
set_option linter.unusedVariables false
set_option linter.unusedSimpArgs false

/-- What stands behind the first k tokens of a text. -/
def Told (w0 w : World) (v : Value) (s : ByteArray) (k : Nat) : Prop := step (bytesOf s) k ≤ s.size ∧ OwnK w w0.heap.size v (toksN (bytesOf s) k) ∧ Keeps (fun _ => False) w0 w
theorem Told.k {w0 w : World} {v : Value} {s : ByteArray} {k : Nat} (h : Told w0 w v s k) : k ≤ s.size := by
  have := step_grow (bytesOf s) 0 k
  simp only [Nat.zero_add] at this
  have := h.1
  omega
theorem Told.next {w0 w w1 w2 : World} {v v' : Value} {s : ByteArray} {k : Nat} (h : Told w0 w v s k) (hl : step (bytesOf s) k < s.size) (hO : OwnK w1 w0.heap.size v' (toksN (bytesOf s) k ++ [tok (bytesOf s) (step (bytesOf s) k)])) (hk : Keeps (fun b => v.ownBlock = some b) w w1) (hk2 : Keeps (fun _ => False) w1 w2) : Told w0 w2 v' s (k + 1) :=
  ⟨by rw [← bytesOf_length] at hl ⊢; exact step_le _ _ hl, hO.keptF hk2, (h.2.2.trans hk (fun i hi e => by have := (World.ownsRow.lt h.2.1 i e).1; omega)).trans hk2 (fun _ _ h => h)⟩

set_option maxHeartbeats 4000000 in
set_option maxRecDepth 1000000 in
theorem tokens_long (s : ByteArray) (w : World) (hs : ¬ s.size ≤ 300) (hb : s.size ≤ 140737488355328) : Calls Tryz.prog 17 #[.string s] w fun e w' => e = .returned (.tuple #[.slice none 0 0, .int .i64 500]) ∧ w' = w := by
  have hz : (300 : Int) < (s.size : Int) := by omega
  go_enter Tryz.func17, Tryz.ntmps17
  go_wp2
  go_ret2
  exact ⟨rfl, rfl⟩

theorem hk4 {w0 w w3 w4 : World} {v : Value} {ts : List Tk} {o : Obj} (hk : Keeps (fun _ => False) w w3) (hO : OwnK w w0.heap.size v ts) (hG : (w3.alloc o).grownBy w4 v.ownBlock) : Keeps (fun b => v.ownBlock = some b) w3 w4 :=
  ((Keeps.refl (fun b => v.ownBlock = some b) w3).alloc o).grown hG (fun k hk e => e)
theorem ne_own {w0 w : World} {v : Value} {ts : List Tk} {b : Nat} (hO : OwnK w w0.heap.size v ts) (hb : w.heap.size ≤ b) : ¬ v.ownBlock = some b := fun h => by
  have := (World.ownsRow.lt hO b h).2; omega

set_option maxHeartbeats 4000000 in
set_option maxRecDepth 1000000 in
theorem tokens_ok (s : ByteArray) (w : World) (hs : s.size ≤ 300) :
    Calls Tryz.prog 17 #[.string s] w fun e w' => ∃ K v, e = .returned (.tuple #[v, .int .i64 0]) ∧ step (bytesOf s) K = s.size ∧ OwnK w' w.heap.size v (toksN (bytesOf s) K) ∧ Keeps (fun _ => False) w w' := by
  have hz : ¬ (300 : Int) < (s.size : Int) := by omega
  have HC : Hid (∀ p w', p < s.size → Calls Tryz.prog 32 #[.string s, .int .i64 (p : Int)] w' fun e w'' => e = .returned (.agg #[.int .i64 (tok (bytesOf s) p).1, .int .i64 (tok (bytesOf s) p).2.1, .int .i64 (tok (bytesOf s) p).2.2]) ∧ Keeps (fun _ => False) w' w'') := fun p w' hp => longest_ok s p w' hs hp
  go_enter Tryz.func17, Tryz.ntmps17
  go_wp2
  go_loopw [4, 5] (fun s4 s5 w' => ∃ (k p : Nat) (v : Value), s4 = v ∧ p ≤ s.size ∧ s5 = .int .i64 (p : Int) ∧ Hid (p = step (bytesOf s) k ∧ Told w w' v s k)) (fun s4 s5 w' => ((s.size : Int) - intOf s5).toNat)
  case atStart => exact ⟨0, 0, _, rfl, by omega, rfl, rfl, Nat.zero_le _, OwnK.nil _ _, Keeps.refl _ _⟩
  case round =>
    clear hz
    obtain ⟨k, p, v, hv, hp, rfl, HW⟩ := hrel
    obtain rfl := hv.symm
    clear hv
    by_cases hin : p < s.size
    · have hiz : (p : Int) < (s.size : Int) := by omega
      have HL := HC.out p
      have hsz := sz_tok (bytesOf s) p
      have hpos := szN_pos (bytesOf s) p
      have hle := szN_le (bytesOf s) p (by rw [bytesOf_length]; exact hin)
      rw [bytesOf_length] at hle
      obtain ⟨t, ht⟩ : ∃ t, tok (bytesOf s) p = t := ⟨_, rfl⟩
      obtain ⟨m, hm⟩ : ∃ m, szN (bytesOf s) p = m := ⟨_, rfl⟩
      rw [ht] at hsz HL
      rw [hm] at hsz hpos hle
      have HP : Hid (tok (bytesOf s) p = t ∧ szN (bytesOf s) p = m ∧ sz t = (m : Int)) := ⟨ht, hm, hsz⟩
      have HCL : Hid (∀ w', Calls Tryz.prog 32 #[.string s, .int .i64 (p : Int)] w' fun e w'' => e = .returned (.agg #[.int .i64 t.1, .int .i64 t.2.1, .int .i64 t.2.2]) ∧ Keeps (fun _ => False) w' w'') := fun w' => HL w' hin
      clear ht hm hsz HL HC
      go_wp2_with (first
        | (go_at_call 32; refine (HCL.out _).mono ?_; rintro e w1 ⟨rfl, hK1⟩; have HK1 : Hid (Keeps (fun _ => False) wr w1) := hK1; clear hK1)
        | (refine wpList_alloc3 rfl rfl ?_; intro b6 w2 hT2 hK2 hb6; have HK2 : Hid (Keeps (fun _ => False) wr w2) := HK1.out.trans hK2 (fun _ _ h => h); have HB6 : Hid (wr.heap.size ≤ b6) := (by have := HK1.out.size; show _ ≤ _; omega); clear hK2 hb6)
        | (refine wpList_store3 rfl _ _ rfl b6 t rfl rfl (0, 0, 0) ?hA ?_; (case hA => assumption); intro w3 hT3 hK3; have HK3 : Hid (Keeps (fun _ => False) wr w3) := HK2.out.trans hK3 (fun i hi h => by have := HB6.out; omega); clear hK3 hT2)
        | (refine wpList_load3 rfl _ rfl b6 0 rfl t ?hA ?_; (case hA => exact (by assumption : Tkb _ b6 t).at))
        | (refine wpList_tok rfl _ _ rfl rfl w.heap.size v (toksN (bytesOf s) k) rfl ?hown w3.heap.size t rfl ?hR ?hb ?hn ?_; (case hown => exact HW.out.2.2.1.keptF (HK3.out.alloc _)); (case hR => exact (Tkb.new _ t).at); (case hb => exact Nat.le_trans HW.out.2.2.2.size (HK3.out.alloc _).size); (case hn => rw [toksN_len]; have := HW.out.2.k; omega); rw [toksN_len]; intro g c w4 hO4 hG4 hg4; have hT4 := hT3.kept (hk4 HK3.out HW.out.2.2.1 hG4) (ne_own HW.out.2.2.1 HB6.out); have HO4 : Hid (OwnK w4 w.heap.size (.slice (some ⟨g, 0, none⟩) (k + 1) c) (toksN (bytesOf s) k ++ [t]) ∧ Keeps (fun b => v.ownBlock = some b) wr w4) := ⟨hO4, (HK3.out.alloc _).mono (fun _ _ h => h.elim) |>.grown hG4 (fun _ _ e => e)⟩; clear hO4 hG4 hg4 hT3)
        | (go_at_call 33; refine (size_ok _ _ _ _).mono ?_; rintro e w5 ⟨rfl, hK5⟩; rw [show (t.1, t.2.1, t.2.2) = t from rfl, HP.out.2.2]))
      go_roundw
      case rel =>
        refine ⟨k + 1, p + m, _, rfl, hle, by push_cast; rfl, ?_, ?_⟩
        · show p + m = step (bytesOf s) k + szN (bytesOf s) (step (bytesOf s) k)
          rw [← HW.out.1, HP.out.2.1]
        · refine HW.out.2.next (by rw [← HW.out.1]; exact hin) ?_ HO4.out.2 hK5
          rw [← HW.out.1, HP.out.1]; exact HO4.out.1
      case measure => simp [intOf]; omega
    · obtain rfl : p = s.size := by omega
      go_wp2
      go_ret2
      exact ⟨k, v, rfl, HW.out.1.symm, HW.out.2.2.1, HW.out.2.2.2⟩

end Go.Proofs.YtebjooebdehlnaaGreat.Mt

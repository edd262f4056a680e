/-
  Arrays of nineteen numbers in a block of their own, and the calls of package layout: Row and FixedDists. The counts of package block: how often each symbol comes; addByte and addCopy. Rows of tokens that a slice shows, and blocks of tokens that a call owns. How far two places of a text go alike. A token in a block of its own: made, read, written; and the token that stands at a place of a text. The call Tokens: a text's tokens, from left to right. The document's TokensMay: the same answer. A text that grows: one byte behind it, and a copy behind it. The document's Expand: the text that tokens come to. each of package block: tokens one behind the other, to be counted and to be written. What stands ahead of a dynamic block's tokens is read again (no program in sight). Rows of numbers that a slice shows, and blocks of numbers that a call owns.
-/
import Derived.Test.YtfbghchgfbjogaaGreatRows
import Derived.Test.YtfbghchgfbjogaaGreatA06
import Derived.BigRegion
import Derived.WalkKit
import Derived.WalkSpells
import Derived.WalkLawsBesides
import Derived.Deep.MidRow
import Derived.Laws.ResultCell
import Derived.Deep.AppendLies
import Derived.Laws.OwnMore
import Derived.BigQuiet
import Derived.Deep.RegionLaw
namespace Go.Proofs.YtfbghchgfbjogaaGreat
open Go.RowKit
open Hf Tb
set_option linter.unusedVariables false
set_option linter.unusedSimpArgs false

/-- Block b, of type T, is these numbers. -/
def Ary (T : TypeId) (w : World) (b : Nat) (xs : List Int) : Prop := w.heap[b]? = some (.cells (intsV xs).toArray T (0, 0))
theorem intsV_get (xs : List Int) (j : Nat) (hj : j < xs.length) : (intsV xs)[j]? = some (.int .i64 xs[j]) := by
  rw [intsV, List.getElem?_map, List.getElem?_eq_getElem hj]; rfl
theorem Ary.lt {T : TypeId} {w : World} {b : Nat} {xs : List Int} (h : Ary T w b xs) : b < w.heap.size := lt_of_heap h
theorem Ary.kept {T : TypeId} {S : Nat → Prop} {w w' : World} {b : Nat} {xs : List Int} (h : Ary T w b xs) (hk : Keeps S w w') (hb : ¬ S b) : Ary T w' b xs := (hk.block b h.lt hb).trans h
theorem Ary.keptF {T : TypeId} {w w' : World} {b : Nat} {xs : List Int} (h : Ary T w b xs) (hk : Keeps (fun _ => False) w w') : Ary T w' b xs := h.kept hk (fun h => h)
theorem Ary.cell {T : TypeId} {w : World} {b : Nat} {xs : List Int} (h : Ary T w b xs) (j : Nat) (hj : j < xs.length) : w.cell? ⟨b, j, none⟩ = some (.int .i64 xs[j]) :=
  cell_of_heap h (by rw [List.getElem?_toArray]; exact intsV_get xs j hj)
theorem Ary.free {T : TypeId} {w : World} {b : Nat} {xs : List Int} (h : Ary T w b xs) (j : Nat) : w.frozen? ⟨b, j, none⟩ = false := frozen_of_heap h
theorem Ary.new (T : TypeId) (w : World) (xs : List Int) : Ary T (w.alloc (.cells (intsV xs).toArray T)) w.heap.size xs := heap_alloc_new _ _
theorem Ary.set {T : TypeId} {w : World} {b : Nat} {xs : List Int} (h : Ary T w b xs) (i : Nat) (y : Int) : Ary T (w.setCell ⟨b, i, none⟩ (.int .i64 y)) b (xs.set i y) := by
  unfold Ary
  rw [heap_setCell_same h]
  congr 2
  simp [intsV, List.map_set]
theorem Ary.range {T : TypeId} {w : World} {b : Nat} {xs : List Int} (h : Ary T w b xs) : w.rangeAt b 0 (intsV xs) := fun j v hv => by
  rw [Nat.zero_add]; exact cell_of_heap h (by rw [List.getElem?_toArray]; exact hv)
theorem Ary.there {T : TypeId} {w : World} {b : Nat} {xs : List Int} (h : Ary T w b xs) : w.there b 0 xs.length := fun j hj => by
  rw [Nat.zero_add, h.cell j hj]; exact ⟨rfl, h.free j⟩
theorem intsV_all (xs : List Int) : (intsV xs).toArray.all (·.oneCell') = true := all_oneCell_toArray (intsV_one xs)
theorem Ary.put {T : TypeId} {w : World} {b : Nat} {xs : List Int} (h : Ary T w b xs) (ys : List Int) (hl : ys.length = xs.length) : Ary T (w.setCells b 0 (intsV ys)) b ys := by
  obtain ⟨cs', h1, h2, h3, h4⟩ := setCells_row b T (intsV ys) 0 w _ h
  unfold Ary
  rw [h1]
  congr 2
  apply Array.ext_getElem?
  intro i
  have hs : cs'.size = ys.length := by rw [h2, List.size_toArray, intsV_length, hl]
  by_cases hi : i < ys.length
  · have := h4 i (by rw [intsV_length]; exact hi) (by rw [List.size_toArray, intsV_length]; omega)
    rw [Nat.zero_add] at this
    rw [this, List.getElem?_toArray]
  · rw [Array.getElem?_eq_none (by omega), List.getElem?_toArray, List.getElem?_eq_none (by rw [intsV_length]; omega)]

theorem size19 : (Tryz.prog.info? 196).map (·.size) = some 19 := by kernel_rfl
theorem zero19 : (zeroValue 196).run Tryz.prog = fun w => .ok (.agg (intsV (List.replicate 19 0)).toArray) w := by
  funext w; rw [Tryz.zeroValue196]; rfl
theorem wpList_alloc19 {ops : Array Oper} {rest : List Oper} {op : Oper} {a : Act} {w : World} {Q : Exit → Act → World → Prop} (hgd : op.guard = none) (ho : op.op = .alloc 196)
    (h : ∀ b w1, Ary 196 w1 b (List.replicate 19 0) → Keeps (fun _ => False) w w1 → w.heap.size ≤ b → wpList Tryz.prog ops Q rest (a.put op.dst (.pointer (some ⟨b, 0, none⟩))) w1) : wpList Tryz.prog ops Q (op :: rest) a w :=
  wpList_plain hgd fun _ hK => by
    unfold Oper.wp execOp
    have hz := congrFun zero19 w
    simp only [ho, Instr.alloc, Sem.run_bind, hz, Result.andThen_ok]
    simp only [newVar, Sem.run_bind, Sem.run_pure, Result.andThen_ok]
    exact hK _ _ (h w.heap.size _ (Ary.new _ w _) ((Keeps.refl _ w).alloc _) (Nat.le_refl _))
theorem wpList_store19 {ops : Array Oper} {rest : List Oper} {op : Oper} {a : Act} {w : World} {Q : Exit → Act → World → Prop} (hgd : op.guard = none) (x y : Operand) (ho : op.op = .store 196 x y) (b : Nat) (ys : List Int) (hy0 : ys.length = 19) (hx : a.eval x = .pointer (some ⟨b, 0, none⟩)) (hy : a.eval y = .agg (intsV ys).toArray) (xs : List Int) (hl : xs.length = 19) (hA : Ary 196 w b xs)
    (h : ∀ w1, Ary 196 w1 b ys → Keeps (fun k => k = b) w w1 → wpList Tryz.prog ops Q rest (a.put op.dst undef) w1) : wpList Tryz.prog ops Q (op :: rest) a w :=
  wpList_store_mid hgd 196 x y ho b 0 (intsV ys).toArray hx hy (by have := hA.there; rw [hl] at this; rw [List.size_toArray, intsV_length, hy0]; exact this) (by rw [List.size_toArray, intsV_length, hy0]; exact size19) (intsV_all ys)
    (h _ (hA.put ys (by omega)) (Hf.keeps_setCells (S := fun k => k = b) b (fun _ => rfl) _ _ _ (Keeps.refl _ w)))
theorem Ary.loadVar19 {w : World} {b : Nat} {xs : List Int} (h : Ary 196 w b xs) (hl : xs.length = 19) : (loadVar 196 ⟨b, 0, none⟩).run Tryz.prog w = .ok (.agg (intsV xs).toArray) w :=
  run_loadVar_mid w b 0 196 (intsV xs) _ h.range Tryz.underlying196 rfl (by rw [intsV_length, hl]; exact size19)
def rowZ : List Int := [16, 17, 18, 0, 8, 7, 9, 6, 10, 5, 11, 4, 12, 3, 13, 2, 14, 1, 15]
theorem rowZ_get : ∀ i : Fin 19, rowZ[i.val]? = some ((rowL.getD i.val 0 : Nat) : Int) := by decide +kernel

set_option maxHeartbeats 1000000 in
set_option maxRecDepth 100000 in
theorem row_ok (w : World) : Calls Tryz.prog 140 #[] w fun e w' => e = .returned (.agg (intsV rowZ).toArray) ∧ Keeps (fun _ => False) w w' := by
  go_enter Tryz.func140, Tryz.ntmps140
  go_wp2_with (first
    | (refine wpList_alloc19 rfl rfl ?_; intro b1 w1 hA1 hK1 hb1)
    | (refine wpList_store19 rfl _ _ rfl b1 rowZ rfl rfl rfl (List.replicate 19 0) (by decide) ?hA ?_; (case hA => assumption); intro w2 hA2 hK2))
  (try simp only [Exit.inBlock, Exit.then])
  refine bodyPost_ret (v := .agg (intsV rowZ).toArray) ?_ rfl ⟨rfl, ?_⟩
  · rw [Hf.results_cell rfl]
    exact hA2.loadVar19 rfl
  · exact hK1.trans hK2 (fun _ h e => by omega)

set_option maxHeartbeats 1000000 in
set_option maxRecDepth 100000 in
theorem fixedDists_ok (w : World) : Calls Tryz.prog 119 #[] w fun e w' => ∃ g, e = .returned (.slice (some ⟨g, 0, none⟩) 30 30) ∧ Keeps (fun _ => False) w w' ∧ w.heap.size ≤ g ∧ Blk w' g (List.replicate 30 5) := by
  go_enter Tryz.func119, Tryz.ntmps119
  go_wp2_with (refine wpList_zeros rfl _ _ rfl 30 rfl rfl (by omega) ?_; intro g w1 hB1 hK1 hg1)
  have H1 : Hid (Blk w1 g (fil 5 0 30) ∧ Keeps (fun _ => False) w w1 ∧ w.heap.size ≤ g) := ⟨by rw [fil_zero]; exact hB1, hK1, hg1⟩
  clear hB1 hK1 hg1
  go_loopw [6] (fun s6 w' => ∃ i : Nat, i ≤ 30 ∧ s6 = .int .i64 (i : Int) ∧ Hid (Blk w' g (fil 5 i 30) ∧ Keeps (fun _ => False) w w' ∧ w.heap.size ≤ g)) (fun s6 _ => ((30 : Int) - intOf s6).toNat)
  case atStart => exact ⟨0, by omega, rfl, H1⟩
  case round =>
    clear H1
    obtain ⟨i, hi, rfl, HW⟩ := hrel
    by_cases hic : i < 30
    · have hiz : (i : Int) < 30 := by omega
      have hfl : (fil 5 i 30).length = 30 := fil_length 5 i 30 hi
      have hc := HW.out.1.cell i (by omega)
      have hf := HW.out.1.free i
      have HW2 : Hid (Blk (wr.setCell ⟨g, i, none⟩ (.int .i64 5)) g (fil 5 (i + 1) 30) ∧ Keeps (fun _ => False) w (wr.setCell ⟨g, i, none⟩ (.int .i64 5)) ∧ w.heap.size ≤ g) := by
        obtain ⟨h1, h2, h3⟩ := HW.out
        refine ⟨?_, h2.setCell (p := ⟨g, i, none⟩) (fun hh => by simp only at hh; omega) _, h3⟩
        have : (fil 5 i 30).set i 5 = fil 5 (i + 1) 30 := by
          unfold fil
          rw [List.set_append_right _ _ (by simp), List.length_replicate, Nat.sub_self, show 30 - i = (30 - (i + 1)) + 1 by omega, List.replicate_succ, List.set_cons_zero, List.replicate_succ']
          simp
        rw [← this]
        unfold Blk
        rw [heap_setCell_same h1]
        congr 2
        simp [intsV, List.map_set]
      clear HW
      go_wp2
      go_roundw
      case rel => exact ⟨i + 1, by omega, by push_cast; rfl, HW2⟩
      case measure => simp [intOf]; omega
    · obtain rfl : i = 30 := by omega
      go_wp2
      go_ret
      exact ⟨g, rfl, HW.out.2.1, HW.out.2.2, by rw [← fil_all]; exact HW.out.1⟩

end Go.Proofs.YtfbghchgfbjogaaGreat

namespace Go.Proofs.YtfbghchgfbjogaaGreat.Bk
open Go.RowKit
open Hf Tb
open Mt (Tk)
set_option linter.unusedVariables false
set_option linter.unusedSimpArgs false

/-- How often each of n symbols stands in a list. -/
def cntL (n : Nat) (ss : List Nat) : List Int := (List.range n).map (fun i => ((ss.count i : Nat) : Int))
theorem cntL_length (n : Nat) (ss : List Nat) : (cntL n ss).length = n := by simp [cntL]
theorem cntL_get (n : Nat) (ss : List Nat) (i : Nat) (h : i < n) : (cntL n ss)[i]? = some ((ss.count i : Nat) : Int) := by
  simp [cntL, List.getElem?_range h]
theorem cntL_snoc (n : Nat) (ss : List Nat) (i : Nat) (h : i < n) : cntL n (ss ++ [i]) = (cntL n ss).set i ((ss.count i : Nat) + 1 : Int) := by
  apply List.ext_getElem?
  intro j
  by_cases hj : j < n
  · rw [cntL_get _ _ j hj, List.getElem?_set]
    by_cases e : i = j
    · subst e
      rw [if_pos rfl, cntL_length, if_pos h]
      simp [List.count_append]
    · rw [if_neg e, cntL_get _ _ j hj]
      simp [List.count_append, List.count_singleton, e]
  · rw [List.getElem?_eq_none (by rw [cntL_length]; omega), List.getElem?_eq_none (by rw [List.length_set, cntL_length]; omega)]
/-- The symbols of tokens: bytes and lengths; distances. -/
def symA (t : Tk) : Nat := if t.2.1 = 0 then t.1.toNat else (symL t.2.1).1.toNat
def symsA (ts : List Tk) : List Nat := ts.map symA
def symB (t : Tk) : List Nat := if t.2.1 = 0 then [] else [(symD t.2.2).1.toNat]
def symsB (ts : List Tk) : List Nat := ts.flatMap symB
theorem symsA_snoc (ts : List Tk) (t : Tk) : symsA (ts ++ [t]) = symsA ts ++ [symA t] := by simp [symsA]
theorem symsB_snoc (ts : List Tk) (t : Tk) : symsB (ts ++ [t]) = symsB ts ++ symB t := by simp [symsB]
end Go.Proofs.YtfbghchgfbjogaaGreat.Bk

namespace Go.Proofs.YtfbghchgfbjogaaGreat.Mt
open Go.RowKit
set_option linter.unusedVariables false
set_option linter.unusedSimpArgs false

def tkVs : List Tk → List Value
  | [] => []
  | t :: r => .int .i64 t.1 :: .int .i64 t.2.1 :: .int .i64 t.2.2 :: tkVs r
def tk (ts : List Tk) (i : Nat) : Tk := ts.getD i (0, 0, 0)
theorem tk_eq {ts : List Tk} (i : Nat) (h : i < ts.length) : tk ts i = ts[i] := by simp [tk, List.getD, List.getElem?_eq_getElem h]
theorem tk_drop {ts : List Tk} (i : Nat) (h : i < ts.length) : ts.drop i = tk ts i :: ts.drop (i + 1) := by
  rw [tk_eq i h]; exact List.drop_eq_getElem_cons h
theorem tkVs_get : ∀ (ts : List Tk) (j : Nat) (h : j < ts.length), (tkVs ts)[j * 3]? = some (.int .i64 (tk ts j).1) ∧ (tkVs ts)[j * 3 + 1]? = some (.int .i64 (tk ts j).2.1) ∧ (tkVs ts)[j * 3 + 2]? = some (.int .i64 (tk ts j).2.2)
  | [], _, h => by simp at h
  | t :: r, 0, h => by simp [tkVs, tk]
  | t :: r, j + 1, h => by
    have := tkVs_get r j (by simpa using h)
    rw [show (j + 1) * 3 = j * 3 + 1 + 1 + 1 by omega]
    simpa [tkVs, tk] using this
/-- The cells of the i-th of tokens from a place on. -/
def TkAt (w : World) (b o : Nat) (t : Tk) : Prop := w.cell? ⟨b, o, none⟩ = some (.int .i64 t.1) ∧ w.cell? ⟨b, o + 1, none⟩ = some (.int .i64 t.2.1) ∧ w.cell? ⟨b, o + 2, none⟩ = some (.int .i64 t.2.2)
theorem TkAt.kept {S : Nat → Prop} {w w' : World} {b o : Nat} {t : Tk} (h : TkAt w b o t) (hk : Keeps S w w') (hb : b < w.heap.size) (hs : ¬ S b) : TkAt w' b o t := by
  have e : ∀ i, w'.cell? ⟨b, i, none⟩ = w.cell? ⟨b, i, none⟩ := fun i => World.cell?_of_block (hk.block b hb hs)
  exact ⟨(e _).trans h.1, (e _).trans h.2.1, (e _).trans h.2.2⟩
/-- What is known of a slice of tokens. -/
def RowT (w : World) (a : Option Addr) (ts : List Tk) : Prop :=
  ts = [] ∨ ∃ b off, a = some ⟨b, off, none⟩ ∧ b < w.heap.size ∧ ∀ i, i < ts.length → TkAt w b (off + i * 3) (tk ts i)
theorem RowT.kept {S : Nat → Prop} {w w' : World} {a : Option Addr} {ts : List Tk} (h : RowT w a ts) (hk : Keeps S w w') (hb : ∀ x, a = some x → ¬ S x.block) : RowT w' a ts := by
  rcases h with h | ⟨b, off, rfl, h1, h2⟩
  · exact .inl h
  · exact .inr ⟨b, off, rfl, Nat.lt_of_lt_of_le h1 hk.size, fun i hi => (h2 i hi).kept hk h1 (hb _ rfl)⟩
theorem RowT.keptF {w w' : World} {a : Option Addr} {ts : List Tk} (h : RowT w a ts) (hk : Keeps (fun _ => False) w w') : RowT w' a ts := h.kept hk (fun _ _ h => h)
theorem RowT.at {w : World} {a : Option Addr} {ts : List Tk} (h : RowT w a ts) (hn : 0 < ts.length) : ∃ b off, a = some ⟨b, off, none⟩ ∧ b < w.heap.size ∧ ∀ w', Keeps (fun _ => False) w w' → ∀ i, i < ts.length → TkAt w' b (off + i * 3) (tk ts i) := by
  rcases h with h | ⟨b, off, rfl, h1, h2⟩
  · subst h; simp at hn
  · exact ⟨b, off, rfl, h1, fun w' hk i hi => (h2 i hi).kept hk h1 (fun h => h)⟩
theorem RowT.lit (w : World) (ts : List Tk) (t : TypeId) : RowT (w.alloc (.cells (tkVs ts).toArray t)) (some ⟨w.heap.size, 0, none⟩) ts := by
  refine .inr ⟨w.heap.size, 0, rfl, by simp, fun i hi => ?_⟩
  obtain ⟨h1, h2, h3⟩ := tkVs_get ts i hi
  rw [Nat.zero_add]
  exact ⟨cell_of_heap (heap_alloc_new _ _) (by simpa using h1), cell_of_heap (heap_alloc_new _ _) (by simpa using h2), cell_of_heap (heap_alloc_new _ _) (by simpa using h3)⟩

/-- A slice of tokens that a call owns, nil too. -/
def OwnK (w : World) (base : Nat) (v : Value) (ts : List Tk) : Prop := w.ownsRow base 96 3 v ts.length (tkVs ts)
theorem OwnK.nil (w : World) (base : Nat) : OwnK w base (.slice none 0 0) [] := World.ownsRow_nil w base 96 3
theorem owns_heap3 {w w' : World} {base : Nat} {e : TypeId} {size : Nat} {v : Value} {n : Nat} {xs : List Value} (h : w.ownsRow base e size v n xs) (hk : ∀ k, v.ownBlock = some k → w'.heap[k]? = w.heap[k]?) : w'.ownsRow base e size v n xs := by
  obtain ⟨h1, h2⟩ := h
  refine ⟨h1, ?_⟩
  rcases h2 with h2 | ⟨g, cap, cur, hv, hg, hh, r⟩
  · exact Or.inl h2
  · subst hv
    exact Or.inr ⟨g, cap, cur, rfl, hg, by rw [hk g rfl]; exact hh, r⟩
theorem OwnK.kept {S : Nat → Prop} {w w' : World} {base : Nat} {v : Value} {ts : List Tk} (h : OwnK w base v ts) (hk : Keeps S w w') (hb : ∀ k, v.ownBlock = some k → ¬ S k) : OwnK w' base v ts :=
  owns_heap3 h (fun k e => hk.block k (World.ownsRow.lt h k e).2 (hb k e))
theorem OwnK.keptF {w w' : World} {base : Nat} {v : Value} {ts : List Tk} (h : OwnK w base v ts) (hk : Keeps (fun _ => False) w w') : OwnK w' base v ts := h.kept hk (fun _ _ h => h)
theorem OwnK.row {w : World} {base : Nat} {v : Value} {ts : List Tk} (h : OwnK w base v ts) : ∃ a cap, v = .slice a ts.length cap ∧ RowT w a ts ∧ (∀ x, a = some x → base ≤ x.block ∧ v.ownBlock = some x.block) ∧ ts.length ≤ cap := by
  rcases h.2 with ⟨rfl, h0⟩ | ⟨g, cap, cur, rfl, hb, h1, h2, h3, h4, h5⟩
  · have := List.length_eq_zero_iff.1 h0
    subst this
    exact ⟨none, 0, rfl, .inl rfl, fun x e => (by cases e), Nat.le_refl _⟩
  · refine ⟨_, cap, rfl, .inr ⟨g, 0, rfl, lt_of_heap h1, fun i hi => ?_⟩, fun x e => (by simp at e; subst e; exact ⟨hb, rfl⟩), h2⟩
    obtain ⟨e1, e2, e3⟩ := tkVs_get ts i hi
    rw [← h5, List.getElem?_take, if_pos (by omega)] at e1 e2 e3
    rw [Nat.zero_add]
    exact ⟨cell_of_heap h1 (by simpa using e1), cell_of_heap h1 (by simpa using e2), cell_of_heap h1 (by simpa using e3)⟩
theorem bytesOf_lt (s : ByteArray) : ∀ y ∈ bytesOf s, y < 256 := by
  intro y hy
  obtain ⟨b, _, rfl⟩ := List.mem_map.1 hy
  exact UInt8.toNat_lt b
theorem yb_text (s : ByteArray) (i : Nat) (h : i < s.size) : yb (bytesOf s) i = s[i].toNat := bytesOf_get s i h

set_option maxHeartbeats 4000000 in
set_option maxRecDepth 1000000 in
theorem num_any (x : Int) (w : World) : Calls Tryz.prog 11 #[.int .i64 x] w fun e w' => e = .returned (.int .i64 x) ∧ w' = w := by
  go_enter Tryz.func11, Tryz.ntmps11
  go_wp2
  go_ret
  exact ⟨rfl, rfl⟩

end Go.Proofs.YtfbghchgfbjogaaGreat.Mt

namespace Go.Proofs.YtfbghchgfbjogaaGreat.Mt
open Go.RowKit
set_option linter.unusedVariables false
set_option linter.unusedSimpArgs false

set_option maxHeartbeats 4000000 in
set_option maxRecDepth 1000000 in
theorem same_ok (s : ByteArray) (p j : Nat) (w : World) (hs : s.size ≤ 300) (hp : p < s.size) (hd : j < p) :
    Calls Tryz.prog 59 #[.string s, .int .i64 (p : Int), .int .i64 (j : Int)] w fun e w' => e = .returned (.int .i64 (alk (bytesOf s) p j : Int)) ∧ Keeps (fun _ => False) w w' := by
  obtain ⟨M, hM⟩ : ∃ M, min (s.size - p) 258 = M := ⟨_, rfl⟩
  have HF : Hid (alk (bytesOf s) p j = lead (alkF (bytesOf s) p j) M) := show _ = _ by unfold alk; rw [bytesOf_length, hM]
  have hM8 : M ≤ 258 := by omega
  have HM : Hid (min (s.size - p) 258 = M) := hM
  clear hM
  go_enter Tryz.func59, Tryz.ntmps59
  go_wp2
  go_loopw [7] (fun s7 w' => ∃ n : Nat, n ≤ M ∧ s7 = .int .i64 (n : Int) ∧ Hid (∀ i, i < n → alkF (bytesOf s) p j i = true) ∧ Hid (Keeps (fun _ => False) w w')) (fun s7 w' => ((M : Int) - intOf s7).toNat)
  case atStart => exact ⟨0, by omega, rfl, fun i h => absurd h (by omega), Keeps.refl _ _⟩
  case round =>
    obtain ⟨n, hn, rfl, HA, HK⟩ := hrel
    by_cases hin : n < M
    · obtain ⟨q, hq⟩ : ∃ q, q = p + n := ⟨_, rfl⟩
      obtain ⟨r, hr⟩ : ∃ r, r = j + n := ⟨_, rfl⟩
      have hn0 : (n : Int) < 258 := by have := HM.out; omega
      have hqs : q < s.size := by have := HM.out; omega
      have hqz : (q : Int) < (s.size : Int) := by omega
      have hrs : r < s.size := by omega
      have hw1 : IntKind.i64.wrap ((p : Int) + (n : Int)) = (q : Int) := by rw [wrap_i64_small _ (by omega) (by omega)]; omega
      have hw2 : IntKind.i64.wrap ((j : Int) + (n : Int)) = (r : Int) := by rw [wrap_i64_small _ (by omega) (by omega)]; omega
      have HQ : Hid (q = p + n ∧ r = j + n) := ⟨hq, by omega⟩
      have HY : Hid (alkF (bytesOf s) p j n = (s[q].toNat == s[r].toNat)) := show _ = _ by
        unfold alkF
        rw [← HQ.out.1, ← HQ.out.2, yb_text s q hqs, yb_text s r hrs]
      clear hq hr
      by_cases e : s[q].toNat = s[r].toNat
      · have hb : (s[q].toNat == s[r].toNat) = true := by rw [e]; exact beq_self_eq_true _
        have hbz : ((s[q].toNat : Int) == (s[r].toNat : Int)) = true := by rw [e]; exact beq_self_eq_true _
        have HN : Hid (∀ i, i < n + 1 → alkF (bytesOf s) p j i = true) := fun i hi => by
          by_cases h : i = n
          · subst h; rw [HY.out]; exact hb
          · exact HA.out i (by omega)
        go_wp2
        go_quiet (fail)
        have HK' : Hid (Keeps (fun _ => False) w (wr.drewN nq)) := HK.out.drewN nq
        generalize wr.drewN nq = wn at *
        clear HK hb hbz e hw1 hw2 HY
        go_wp2
        go_roundw
        case rel => exact ⟨n + 1, by omega, by push_cast; rfl, HN, HK'⟩
        case measure => simp [intOf]; omega
      · have hb : (s[q].toNat == s[r].toNat) = false := by simpa using e
        have hbz : ((s[q].toNat : Int) == (s[r].toNat : Int)) = false := by rw [beq_eq_false_iff_ne]; omega
        have HE : Hid (alk (bytesOf s) p j = n) := by
          rw [HF.out]; exact lead_eq hn HA.out (.inr (by rw [HY.out]; exact hb))
        go_wp2
        go_quiet (fail)
        have HK' : Hid (Keeps (fun _ => False) w (wr.drewN nq)) := HK.out.drewN nq
        generalize wr.drewN nq = wn at *
        clear HK hb hbz e hw1 hw2 HY
        go_wp2
        go_ret
        exact ⟨by rw [HE.out]; rfl, HK'.out⟩
    · obtain rfl : n = M := by omega
      have HE : Hid (alk (bytesOf s) p j = n) := by
        rw [HF.out]; exact lead_eq hn HA.out (.inl rfl)
      by_cases h8 : n < 258
      · have hn0 : (n : Int) < 258 := by omega
        obtain ⟨q, hq⟩ : ∃ q, q = p + n := ⟨_, rfl⟩
        have hqs : q = s.size := by have := HM.out; omega
        have hqz : ¬ q < s.size := by omega
        have hqd : decide (q < s.size) = false := decide_eq_false hqz
        have hw1 : IntKind.i64.wrap ((p : Int) + (n : Int)) = (q : Int) := by rw [wrap_i64_small _ (by omega) (by omega)]; omega
        clear hq hqs
        go_wp2
        go_quiet (fail)
        have HK' : Hid (Keeps (fun _ => False) w (wr.drewN nq)) := HK.out.drewN nq
        generalize wr.drewN nq = wn at *
        go_wp2
        go_ret
        exact ⟨by rw [HE.out]; rfl, HK'.out⟩
      · obtain rfl : n = 258 := by omega
        go_wp2
        go_quiet (fail)
        have HK' : Hid (Keeps (fun _ => False) w (wr.drewN nq)) := HK.out.drewN nq
        generalize wr.drewN nq = wn at *
        go_wp2
        go_ret
        exact ⟨by rw [HE.out]; rfl, HK'.out⟩

end Go.Proofs.YtfbghchgfbjogaaGreat.Mt

namespace Go.Proofs.YtfbghchgfbjogaaGreat.Mt
open Go.RowKit
set_option linter.unusedVariables false
set_option linter.unusedSimpArgs false

/-- Block b is a token. -/
def Tkb (w : World) (b : Nat) (t : Tk) : Prop := w.heap[b]? = some (.cells #[.int .i64 t.1, .int .i64 t.2.1, .int .i64 t.2.2] 96 (0, 0))
theorem Tkb.lt {w : World} {b : Nat} {t : Tk} (h : Tkb w b t) : b < w.heap.size := lt_of_heap h
theorem Tkb.kept {S : Nat → Prop} {w w' : World} {b : Nat} {t : Tk} (h : Tkb w b t) (hk : Keeps S w w') (hb : ¬ S b) : Tkb w' b t := (hk.block b h.lt hb).trans h
theorem Tkb.keptF {w w' : World} {b : Nat} {t : Tk} (h : Tkb w b t) (hk : Keeps (fun _ => False) w w') : Tkb w' b t := h.kept hk (fun h => h)
theorem Tkb.c0 {w : World} {b : Nat} {t : Tk} (h : Tkb w b t) : w.cell? ⟨b, 0, none⟩ = some (.int .i64 t.1) := cell_of_heap h rfl
theorem Tkb.c1 {w : World} {b : Nat} {t : Tk} (h : Tkb w b t) : w.cell? ⟨b, 1, none⟩ = some (.int .i64 t.2.1) := cell_of_heap h rfl
theorem Tkb.c2 {w : World} {b : Nat} {t : Tk} (h : Tkb w b t) : w.cell? ⟨b, 2, none⟩ = some (.int .i64 t.2.2) := cell_of_heap h rfl
theorem Tkb.at {w : World} {b : Nat} {t : Tk} (h : Tkb w b t) : TkAt w b 0 t := ⟨h.c0, h.c1, h.c2⟩
theorem Tkb.new (w : World) (t : Tk) : Tkb (w.alloc (.cells #[.int .i64 t.1, .int .i64 t.2.1, .int .i64 t.2.2] 96)) w.heap.size t := heap_alloc_new _ _
def cs3 (t : Tk) : List Value := [.int .i64 t.1, .int .i64 t.2.1, .int .i64 t.2.2]
theorem TkAt.range {w : World} {b o : Nat} {t : Tk} (h : TkAt w b o t) : w.rangeAt b o (cs3 t) := fun j v hv => by
  obtain ⟨h0, h1, h2⟩ := h
  match j, hv with
  | 0, hv => simp [cs3] at hv; subst hv; exact h0
  | 1, hv => simp [cs3] at hv; subst hv; exact h1
  | 2, hv => simp [cs3] at hv; subst hv; exact h2
  | j + 3, hv => simp [cs3] at hv
theorem size40 : (Tryz.prog.info? 96).map (·.size) = some 3 := by kernel_rfl
theorem zero40 : (zeroValue 96).run Tryz.prog = fun w => .ok (.agg #[.int .i64 0, .int .i64 0, .int .i64 0]) w := by kernel_rfl
theorem wpList_alloc3 {ops : Array Oper} {rest : List Oper} {op : Oper} {a : Act} {w : World} {Q : Exit → Act → World → Prop} (hgd : op.guard = none) (ho : op.op = .alloc 96)
    (h : ∀ b w1, Tkb w1 b (0, 0, 0) → Keeps (fun _ => False) w w1 → w.heap.size ≤ b → wpList Tryz.prog ops Q rest (a.put op.dst (.pointer (some ⟨b, 0, none⟩))) w1) : wpList Tryz.prog ops Q (op :: rest) a w :=
  wpList_plain hgd fun _ hK => by
    unfold Oper.wp execOp
    have hz := congrFun zero40 w
    simp only [ho, Instr.alloc, Sem.run_bind, hz, Result.andThen_ok]
    simp only [newVar, Sem.run_bind, Sem.run_pure, Result.andThen_ok]
    exact hK _ _ (h w.heap.size _ (Tkb.new w (0, 0, 0)) ((Keeps.refl _ w).alloc _) (Nat.le_refl _))
theorem wpList_load3 {ops : Array Oper} {rest : List Oper} {op : Oper} {a : Act} {w : World} {Q : Exit → Act → World → Prop} (hgd : op.guard = none) (x : Operand) (ho : op.op = .load 96 x) (b o : Nat) (hx : a.eval x = .pointer (some ⟨b, o, none⟩)) (t : Tk) (hA : TkAt w b o t)
    (h : wpList Tryz.prog ops Q rest (a.put op.dst (.agg #[.int .i64 t.1, .int .i64 t.2.1, .int .i64 t.2.2])) w) : wpList Tryz.prog ops Q (op :: rest) a w :=
  wpList_load_mid hgd 96 x ho b o hx (cs3 t) _ hA.range Tryz.underlying96 rfl size40 h
theorem Tkb.set {w : World} {b : Nat} {t : Tk} (h : Tkb w b t) (u : Tk) : Tkb (w.setCells b 0 (cs3 u)) b u := by
  show (((w.setCell ⟨b, 0, none⟩ _).setCell ⟨b, 1, none⟩ _).setCell ⟨b, 2, none⟩ _).heap[b]? = _
  rw [heap_setCell_same (heap_setCell_same (heap_setCell_same h _) _) _]; rfl
theorem keeps_setCells {S : Nat → Prop} {a : World} (b : Nat) (hb : b < a.heap.size → S b) : ∀ (vs : List Value) (o : Nat) (w : World), Keeps S a w → Keeps S a (w.setCells b o vs)
  | [], _, _, h => h
  | v :: r, o, w, h => by rw [World.setCells]; exact keeps_setCells b hb r (o + 1) _ (h.setCell hb v)
theorem Tkb.there {w : World} {b : Nat} {t : Tk} (h : Tkb w b t) : w.there b 0 3 := fun j hj => by
  have hf : w.frozen? ⟨b, 0 + j, none⟩ = false := frozen_of_heap h
  refine ⟨?_, hf⟩
  match j, hj with
  | 0, _ => rw [show 0 + 0 = 0 from rfl, h.c0]; rfl
  | 1, _ => rw [show 0 + 1 = 1 from rfl, h.c1]; rfl
  | 2, _ => rw [show 0 + 2 = 2 from rfl, h.c2]; rfl
theorem wpList_store3 {ops : Array Oper} {rest : List Oper} {op : Oper} {a : Act} {w : World} {Q : Exit → Act → World → Prop} (hgd : op.guard = none) (x y : Operand) (ho : op.op = .store 96 x y) (b : Nat) (u : Tk) (hx : a.eval x = .pointer (some ⟨b, 0, none⟩)) (hy : a.eval y = .agg #[.int .i64 u.1, .int .i64 u.2.1, .int .i64 u.2.2]) (t : Tk) (hA : Tkb w b t)
    (h : ∀ w1, Tkb w1 b u → Keeps (fun k => k = b) w w1 → wpList Tryz.prog ops Q rest (a.put op.dst undef) w1) : wpList Tryz.prog ops Q (op :: rest) a w :=
  wpList_store_mid hgd 96 x y ho b 0 (cs3 u).toArray hx hy hA.there size40 (all_oneCell_toArray (by intro v hv; simp [cs3] at hv; rcases hv with rfl | rfl | rfl <;> rfl)) (h _ (hA.set u) (keeps_setCells (S := fun k => k = b) b (fun _ => rfl) _ _ _ (Keeps.refl _ w)))
theorem Tkb.loadVar {w : World} {b : Nat} {t : Tk} (h : Tkb w b t) : (loadVar 96 ⟨b, 0, none⟩).run Tryz.prog w = .ok (.agg #[.int .i64 t.1, .int .i64 t.2.1, .int .i64 t.2.2]) w :=
  run_loadVar_mid w b 0 96 (cs3 t) _ h.at.range Tryz.underlying96 rfl size40
theorem results_cell {fn : Func} {p : Tmp} {ty : TypeId} (h : fn.results = #[.cell p ty]) (tmps : Array Value) (P : Program) (w : World) :
    (results fn tmps).run P w = ((asAddr (tmps.getD p undef)).run P w).andThen fun a w₁ => (Go.loadVar ty a).run P w₁ := by
  simp only [results, h]
  simp [Sem.run_bind, Result.andThen]

end Go.Proofs.YtfbghchgfbjogaaGreat.Mt

namespace Go.Proofs.YtfbghchgfbjogaaGreat.Mt
open Go.RowKit
set_option linter.unusedVariables false
set_option linter.unusedSimpArgs false

/-- What stands behind the first k tokens of a text. -/
def Told (w0 w : World) (v : Value) (s : ByteArray) (k : Nat) : Prop := step (bytesOf s) k ≤ s.size ∧ OwnK w w0.heap.size v (toksN (bytesOf s) k) ∧ Keeps (fun _ => False) w0 w
theorem Told.k {w0 w : World} {v : Value} {s : ByteArray} {k : Nat} (h : Told w0 w v s k) : k ≤ s.size := by
  have := step_grow (bytesOf s) 0 k
  simp only [Nat.zero_add] at this
  have := h.1
  omega
theorem Told.next {w0 w w1 w2 : World} {v v' : Value} {s : ByteArray} {k : Nat} (h : Told w0 w v s k) (hl : step (bytesOf s) k < s.size) (hO : OwnK w1 w0.heap.size v' (toksN (bytesOf s) k ++ [tok (bytesOf s) (step (bytesOf s) k)])) (hk : Keeps (fun b => v.ownBlock = some b) w w1) (hk2 : Keeps (fun _ => False) w1 w2) : Told w0 w2 v' s (k + 1) :=
  ⟨by rw [← bytesOf_length] at hl ⊢; exact step_le _ _ hl, hO.keptF hk2, (h.2.2.trans hk (fun i hi e => by have := (World.ownsRow.lt h.2.1 i e).1; omega)).trans hk2 (fun _ _ h => h)⟩

theorem hk4 {w0 w w3 w4 : World} {v : Value} {ts : List Tk} {o : Obj} (hk : Keeps (fun _ => False) w w3) (hO : OwnK w w0.heap.size v ts) (hG : (w3.alloc o).grownBy w4 v.ownBlock) : Keeps (fun b => v.ownBlock = some b) w3 w4 :=
  ((Keeps.refl (fun b => v.ownBlock = some b) w3).alloc o).grown hG (fun k hk e => e)
end Go.Proofs.YtfbghchgfbjogaaGreat.Mt

namespace Go.Proofs.YtfbghchgfbjogaaGreat.Mt
open Go.RowKit
set_option linter.unusedVariables false
set_option linter.unusedSimpArgs false

set_option maxHeartbeats 4000000 in
set_option maxRecDepth 1000000 in
theorem rmay_ok (a : Option Addr) (ts : List Tk) (cap : Nat) (w : World) (hR : RowT w a ts) (hl : ts.length ≤ 9223372036854775806) :
    Calls Tryz.prog 102 #[.slice a ts.length cap] w fun e w' => e = .returned (.bool (mayF 0 ts)) ∧ Keeps (fun _ => False) w w' := by
  have HR : Hid (RowT w a ts) := hR
  clear hR
  obtain ⟨N, hN⟩ : ∃ N, ts.length = N := ⟨_, rfl⟩
  rw [hN] at hl ⊢
  have HN : Hid (ts.length = N) := hN
  clear hN
  go_enter Tryz.func102, Tryz.ntmps102
  go_wp2
  go_loopw [3, 4] (fun s3 s4 w' => ∃ (i : Nat) (z : Int), i ≤ N ∧ 0 ≤ z ∧ z ≤ 8192 ∧ s3 = .int .i64 z ∧ s4 = .int .i64 (i : Int) ∧ Hid (mayF z (ts.drop i) = mayF 0 ts ∧ Keeps (fun _ => False) w w')) (fun s3 s4 w' => ((N : Int) - intOf s4).toNat)
  case atStart => exact ⟨0, 0, by omega, by omega, by omega, rfl, rfl, rfl, Keeps.refl _ _⟩
  case round =>
    obtain ⟨i, z, hi, hz0, hz1, rfl, rfl, HW⟩ := hrel
    by_cases hin : i < N
    · have hiz : (i : Int) < (N : Int) := by omega
      have hil : i < ts.length := by rw [HN.out]; exact hin
      obtain ⟨b, off, rfl, hb, hc⟩ := HR.out.at (by omega)
      have hT := hc wr HW.out.2 i hil
      clear hc
      have HD : Hid (mayF 0 ts = (okT (tk ts i) z && mayF (z + sz (tk ts i)) (ts.drop (i + 1)))) := by
        show _ = _
        rw [← HW.out.1, tk_drop i hil]; rfl
      obtain ⟨⟨l, n, d⟩, ht⟩ : ∃ t, tk ts i = t := ⟨_, rfl⟩
      rw [ht] at hT HD
      clear ht
      have HK := HW.out.2
      clear HW
      have HKr : Hid (Keeps (fun _ => False) w wr) := HK
      clear HK
      by_cases hn0 : n = 0
      · subst hn0
        have hS : sz (l, 0, d) = 1 := by simp [sz]; omega
        rw [hS] at HD
        by_cases hok : isB (l, 0, d) = true
        · obtain ⟨e1, e2, _, e3⟩ := isB_iff hok
          simp only at e1 e2 e3
          subst e3
          have e1' : ¬ l < 0 := by omega
          have e2' : ¬ 255 < l := by omega
          by_cases hz : z + 1 ≤ 8192
          · have hz' : ¬ 8192 < z + 1 := by omega
            have HX : Hid (mayF (z + 1) (ts.drop (i + 1)) = mayF 0 ts) := by show _ = _; rw [HD.out]; unfold okT; rw [hok, hS, decide_eq_true hz]; simp
            clear hok hS
            go_wp2_with (first
              | (refine wpList_load3 rfl _ rfl b (off + i * 3) rfl (l, 0, 0) ?hA ?_; (case hA => assumption))
              | (refine wpList_alloc3 rfl rfl ?_; intro b5 w2 hT2 hK2 hb5; have HK2 : Hid (Keeps (fun _ => False) w w2) := HKr.out.trans hK2 (fun _ _ h => h); have HB5 : Hid (w.heap.size ≤ b5) := (by have := HKr.out.size; show _ ≤ _; omega); clear hK2 hb5)
              | (refine wpList_store3 rfl _ _ rfl b5 (l, 0, 0) rfl rfl (0, 0, 0) ?hA ?_; (case hA => assumption); intro w3 hT3 hK3; have HK3 : Hid (Keeps (fun _ => False) w w3) := HK2.out.trans hK3 (fun i hi h => by have := HB5.out; omega); obtain ⟨c0, c1, c2⟩ : w3.cell? ⟨b5, 0, none⟩ = some (.int .i64 l) ∧ w3.cell? ⟨b5, 1, none⟩ = some (.int .i64 0) ∧ w3.cell? ⟨b5, 2, none⟩ = some (.int .i64 0) := hT3.at; clear hK3 hT2 hT3))
            go_roundw
            case rel => exact ⟨i + 1, z + 1, by omega, by omega, by omega, rfl, by push_cast; rfl, HX.out, HK3.out⟩
            case measure => simp [intOf]; omega
          · have hz' : 8192 < z + 1 := by omega
            have HX : Hid (mayF 0 ts = false) := by show _ = _; rw [HD.out]; unfold okT; rw [hok, hS, decide_eq_false hz]; simp
            clear hok hS
            go_wp2_with (first
              | (refine wpList_load3 rfl _ rfl b (off + i * 3) rfl (l, 0, 0) ?hA ?_; (case hA => assumption))
              | (refine wpList_alloc3 rfl rfl ?_; intro b5 w2 hT2 hK2 hb5; have HK2 : Hid (Keeps (fun _ => False) w w2) := HKr.out.trans hK2 (fun _ _ h => h); have HB5 : Hid (w.heap.size ≤ b5) := (by have := HKr.out.size; show _ ≤ _; omega); clear hK2 hb5)
              | (refine wpList_store3 rfl _ _ rfl b5 (l, 0, 0) rfl rfl (0, 0, 0) ?hA ?_; (case hA => assumption); intro w3 hT3 hK3; have HK3 : Hid (Keeps (fun _ => False) w w3) := HK2.out.trans hK3 (fun i hi h => by have := HB5.out; omega); obtain ⟨c0, c1, c2⟩ : w3.cell? ⟨b5, 0, none⟩ = some (.int .i64 l) ∧ w3.cell? ⟨b5, 1, none⟩ = some (.int .i64 0) ∧ w3.cell? ⟨b5, 2, none⟩ = some (.int .i64 0) := hT3.at; clear hK3 hT2 hT3))
            go_ret
            exact ⟨by rw [HX.out]; rfl, HK3.out⟩
        · have hk : isC (l, 0, d) z = false := by simp [isC]
          have HX : Hid (mayF 0 ts = false) := by show _ = _; rw [HD.out]; unfold okT; rw [hk, eq_false_of_ne_true hok]; simp
          have hbad : l < 0 ∨ (¬ l < 0 ∧ 255 < l) ∨ (¬ l < 0 ∧ ¬ 255 < l ∧ ¬ d = 0) := by simp [isB] at hok; omega
          clear hok hk hS
          rcases hbad with h1 | ⟨h1, h2⟩ | ⟨h1, h2, h3⟩
          all_goals
            go_wp2_with (first
              | (refine wpList_load3 rfl _ rfl b (off + i * 3) rfl (l, 0, d) ?hA ?_; (case hA => assumption))
              | (refine wpList_alloc3 rfl rfl ?_; intro b5 w2 hT2 hK2 hb5; have HK2 : Hid (Keeps (fun _ => False) w w2) := HKr.out.trans hK2 (fun _ _ h => h); have HB5 : Hid (w.heap.size ≤ b5) := (by have := HKr.out.size; show _ ≤ _; omega); clear hK2 hb5)
              | (refine wpList_store3 rfl _ _ rfl b5 (l, 0, d) rfl rfl (0, 0, 0) ?hA ?_; (case hA => assumption); intro w3 hT3 hK3; have HK3 : Hid (Keeps (fun _ => False) w w3) := HK2.out.trans hK3 (fun i hi h => by have := HB5.out; omega); obtain ⟨c0, c1, c2⟩ : w3.cell? ⟨b5, 0, none⟩ = some (.int .i64 l) ∧ w3.cell? ⟨b5, 1, none⟩ = some (.int .i64 0) ∧ w3.cell? ⟨b5, 2, none⟩ = some (.int .i64 d) := hT3.at; clear hK3 hT2 hT3))
            go_ret
            exact ⟨by rw [HX.out]; rfl, HK3.out⟩
      · by_cases hok : isC (l, n, d) z = true
        · obtain ⟨e1, e2, e3, e4, e5, e6⟩ := isC_iff hok
          simp only at e1 e2 e3 e4 e5 e6
          subst e1
          have hS : sz (0, n, d) = n := by simp [sz]; omega
          rw [hS] at HD
          have e2' : ¬ n < 3 := by omega
          have e3' : ¬ 258 < n := by omega
          have e4' : ¬ d < 1 := by omega
          have e5' : ¬ 32768 < d := by omega
          have e6' : ¬ z < d := by omega
          by_cases hz : z + n ≤ 8192
          · have hz' : ¬ 8192 < z + n := by omega
            have HX : Hid (mayF (z + n) (ts.drop (i + 1)) = mayF 0 ts) := by show _ = _; rw [HD.out]; unfold okT; rw [hok, hS, decide_eq_true hz]; simp
            clear hok hS
            go_wp2_with (first
              | (refine wpList_load3 rfl _ rfl b (off + i * 3) rfl (0, n, d) ?hA ?_; (case hA => assumption))
              | (refine wpList_alloc3 rfl rfl ?_; intro b5 w2 hT2 hK2 hb5; have HK2 : Hid (Keeps (fun _ => False) w w2) := HKr.out.trans hK2 (fun _ _ h => h); have HB5 : Hid (w.heap.size ≤ b5) := (by have := HKr.out.size; show _ ≤ _; omega); clear hK2 hb5)
              | (refine wpList_store3 rfl _ _ rfl b5 (0, n, d) rfl rfl (0, 0, 0) ?hA ?_; (case hA => assumption); intro w3 hT3 hK3; have HK3 : Hid (Keeps (fun _ => False) w w3) := HK2.out.trans hK3 (fun i hi h => by have := HB5.out; omega); obtain ⟨c0, c1, c2⟩ : w3.cell? ⟨b5, 0, none⟩ = some (.int .i64 0) ∧ w3.cell? ⟨b5, 1, none⟩ = some (.int .i64 n) ∧ w3.cell? ⟨b5, 2, none⟩ = some (.int .i64 d) := hT3.at; clear hK3 hT2 hT3))
            go_roundw
            case rel => exact ⟨i + 1, z + n, by omega, by omega, by omega, rfl, by push_cast; rfl, HX.out, HK3.out⟩
            case measure => simp [intOf]; omega
          · have hz' : 8192 < z + n := by omega
            have HX : Hid (mayF 0 ts = false) := by show _ = _; rw [HD.out]; unfold okT; rw [hok, hS, decide_eq_false hz]; simp
            clear hok hS
            go_wp2_with (first
              | (refine wpList_load3 rfl _ rfl b (off + i * 3) rfl (0, n, d) ?hA ?_; (case hA => assumption))
              | (refine wpList_alloc3 rfl rfl ?_; intro b5 w2 hT2 hK2 hb5; have HK2 : Hid (Keeps (fun _ => False) w w2) := HKr.out.trans hK2 (fun _ _ h => h); have HB5 : Hid (w.heap.size ≤ b5) := (by have := HKr.out.size; show _ ≤ _; omega); clear hK2 hb5)
              | (refine wpList_store3 rfl _ _ rfl b5 (0, n, d) rfl rfl (0, 0, 0) ?hA ?_; (case hA => assumption); intro w3 hT3 hK3; have HK3 : Hid (Keeps (fun _ => False) w w3) := HK2.out.trans hK3 (fun i hi h => by have := HB5.out; omega); obtain ⟨c0, c1, c2⟩ : w3.cell? ⟨b5, 0, none⟩ = some (.int .i64 0) ∧ w3.cell? ⟨b5, 1, none⟩ = some (.int .i64 n) ∧ w3.cell? ⟨b5, 2, none⟩ = some (.int .i64 d) := hT3.at; clear hK3 hT2 hT3))
            go_ret
            exact ⟨by rw [HX.out]; rfl, HK3.out⟩
        · have hk : isB (l, n, d) = false := by simp [isB, hn0]
          have HX : Hid (mayF 0 ts = false) := by show _ = _; rw [HD.out]; unfold okT; rw [hk, eq_false_of_ne_true hok]; simp
          have hbad : n < 3 ∨ (¬ n < 3 ∧ 258 < n) ∨ (¬ n < 3 ∧ ¬ 258 < n ∧ d < 1) ∨ (¬ n < 3 ∧ ¬ 258 < n ∧ ¬ d < 1 ∧ 32768 < d) ∨ (¬ n < 3 ∧ ¬ 258 < n ∧ ¬ d < 1 ∧ ¬ 32768 < d ∧ z < d) ∨ (¬ n < 3 ∧ ¬ 258 < n ∧ ¬ d < 1 ∧ ¬ 32768 < d ∧ ¬ z < d ∧ ¬ l = 0) := by simp [isC] at hok; omega
          clear hok hk
          rcases hbad with h1 | ⟨h1, h2⟩ | ⟨h1, h2, h3⟩ | ⟨h1, h2, h3, h4⟩ | ⟨h1, h2, h3, h4, h5⟩ | ⟨h1, h2, h3, h4, h5, h6⟩
          all_goals
            go_wp2_with (first
              | (refine wpList_load3 rfl _ rfl b (off + i * 3) rfl (l, n, d) ?hA ?_; (case hA => assumption))
              | (refine wpList_alloc3 rfl rfl ?_; intro b5 w2 hT2 hK2 hb5; have HK2 : Hid (Keeps (fun _ => False) w w2) := HKr.out.trans hK2 (fun _ _ h => h); have HB5 : Hid (w.heap.size ≤ b5) := (by have := HKr.out.size; show _ ≤ _; omega); clear hK2 hb5)
              | (refine wpList_store3 rfl _ _ rfl b5 (l, n, d) rfl rfl (0, 0, 0) ?hA ?_; (case hA => assumption); intro w3 hT3 hK3; have HK3 : Hid (Keeps (fun _ => False) w w3) := HK2.out.trans hK3 (fun i hi h => by have := HB5.out; omega); obtain ⟨c0, c1, c2⟩ : w3.cell? ⟨b5, 0, none⟩ = some (.int .i64 l) ∧ w3.cell? ⟨b5, 1, none⟩ = some (.int .i64 n) ∧ w3.cell? ⟨b5, 2, none⟩ = some (.int .i64 d) := hT3.at; clear hK3 hT2 hT3))
            go_ret
            exact ⟨by rw [HX.out]; rfl, HK3.out⟩
    · obtain rfl : i = N := by omega
      have HX : Hid (mayF 0 ts = true) := by
        show _ = _
        rw [← HW.out.1, ← HN.out, List.drop_length]; rfl
      go_wp2
      go_ret
      exact ⟨by rw [HX.out]; rfl, HW.out.2⟩

end Go.Proofs.YtfbghchgfbjogaaGreat.Mt

namespace Go.Proofs.YtfbghchgfbjogaaGreat.Mt
open Go.RowKit
set_option linter.unusedVariables false
set_option linter.unusedSimpArgs false

/-- Bytes that a call owns. -/
def OwnB (w : World) (base : Nat) (v : Value) (xs : List Nat) : Prop := w.ownsRow base 5 1 v xs.length (xs.map byteV)
theorem OwnB.nil (w : World) (base : Nat) : OwnB w base (.slice none 0 0) [] := World.ownsRow_nil w base 5 1
theorem OwnB.kept {S : Nat → Prop} {w w' : World} {base : Nat} {v : Value} {xs : List Nat} (h : OwnB w base v xs) (hk : Keeps S w w') (hb : ∀ k, v.ownBlock = some k → ¬ S k) : OwnB w' base v xs :=
  owns_heap3 h (fun k e => hk.block k (World.ownsRow.lt h k e).2 (hb k e))
theorem OwnB.keptF {w w' : World} {base : Nat} {v : Value} {xs : List Nat} (h : OwnB w base v xs) (hk : Keeps (fun _ => False) w w') : OwnB w' base v xs := h.kept hk (fun _ _ h => h)
theorem OwnB.cell {w : World} {base : Nat} {v : Value} {xs : List Nat} (h : OwnB w base v xs) (i : Nat) (hi : i < xs.length) : ∃ g cap, v = .slice (some ⟨g, 0, none⟩) xs.length cap ∧ w.cell? ⟨g, i, none⟩ = some (.int .u8 (yb xs i : Int)) := by
  obtain ⟨g, cap, rfl, _, _⟩ := World.ownsRow.form h (by omega)
  refine ⟨g, cap, rfl, (owns_cell h i _ ?_).1⟩
  rw [List.getElem?_map, List.getElem?_eq_getElem hi, yb_eq i hi]; rfl

theorem info5 : (Tryz.prog.info? 5).map (fun i => (i.zero, i.size, i.bytes)) = some (some (.int .u8 0), 1, 1) := by kernel_rfl

end Go.Proofs.YtfbghchgfbjogaaGreat.Mt

namespace Go.Proofs.YtfbghchgfbjogaaGreat.Mt
open Go.RowKit
set_option linter.unusedVariables false
set_option linter.unusedSimpArgs false

theorem OwnB.text {T : TypeId} (hT : Tryz.prog.underlying T = some (.slice 5)) {w : World} {base : Nat} {v : Value} {xs : List Nat} (h : OwnB w base v xs) (hx : ∀ y ∈ xs, y < 256) :
    (convert T 9 v).run Tryz.prog w = .ok (.string (textOf xs)) w := by
  by_cases h0 : xs.length = 0
  · have e : xs = [] := List.length_eq_zero_iff.1 h0
    subst e
    rcases h.2 with ⟨rfl, _⟩ | ⟨g, cap, cur, rfl, _⟩
    · exact run_convert_bytes_nil w T 5 hT Tryz.underlying5 0 0 9 Tryz.underlying9
    · exact run_convert_bytes_back w T 9 5 ⟨g, 0, none⟩ cap [] hT Tryz.underlying5 Tryz.underlying9 (fun j hj => by simp at hj)
  · obtain ⟨g, cap, rfl, _⟩ := h.cell 0 (by omega)
    have e : xs.length = (xs.map UInt8.ofNat).length := by rw [List.length_map]
    rw [e]
    refine run_convert_bytes_back w T 9 5 ⟨g, 0, none⟩ cap (xs.map UInt8.ofNat) hT Tryz.underlying5 Tryz.underlying9 ?_
    intro j hj
    rw [List.length_map] at hj
    obtain ⟨g', cap', e', hc⟩ := h.cell j hj
    simp only [Value.slice.injEq, Option.some.injEq, Addr.mk.injEq] at e'
    rw [addr_add, e'.1.1, hc, yb_eq j hj]
    have : xs[j] < 256 := hx _ (List.getElem_mem hj)
    simp only [List.getElem_map, UInt8.toNat_ofNat']
    rw [Nat.mod_eq_of_lt (by omega)]
set_option maxRecDepth 100000 in
theorem append_byte (w : World) (base : Nat) (v : Value) (xs : List Nat) (h : OwnB w base v xs) (c b : Nat) (hx : w.heap[b]? = some (.cells #[.int .u8 (c : Int)] 5 (0, 0))) (hb : base ≤ w.heap.size) (hn : xs.length ≤ 1000000) :
    ∃ g cap w', (Builtin.append_ #[84, 84] 84 #[v, .slice (some ⟨b, 0, none⟩) 1 1]).run Tryz.prog w = .ok (.slice (some ⟨g, 0, none⟩) (xs.length + 1) cap) w' ∧ OwnB w' base (.slice (some ⟨g, 0, none⟩) (xs.length + 1) cap) (xs ++ [c]) ∧ w.grownBy w' v.ownBlock ∧ (v.ownBlock = some g ∨ g = w.heap.size) := by
  obtain ⟨i, hi, h1, h2, h3⟩ : ∃ i, Tryz.prog.info? 5 = some i ∧ i.zero = some (.int .u8 0) ∧ i.bytes = 1 ∧ i.size = 1 := ⟨Tryz.t5, Tryz.type5, rfl, rfl, rfl⟩
  obtain ⟨g, cap, w', hr, ho, hg, hat, hlt⟩ := run_append_lies (P := Tryz.prog) w 84 84 base 5 i (.int .u8 0) 1 1 Tryz.underlying84 hi h1 h3 h2 rfl (by decide) v xs.length (xs.map byteV) h ⟨b, 0, none⟩ 1 1 [.int .u8 (c : Int)] rfl (fun j u hu => by
      have hj : j = 0 := by have := (List.getElem?_eq_some_iff.1 hu).1; simp at this; omega
      subst hj
      simp at hu
      subst hu
      exact cell_of_heap hx rfl) (fun u hu => by simp at hu; subst hu; rfl) (by decide) (by unfold maxLen; omega) (by omega) hb _ rfl
  refine ⟨g, cap, w', hr, ?_, hg, hat⟩
  unfold OwnB
  rw [List.map_append, List.length_append]
  exact ho
theorem wpList_byte {ops : Array Oper} {rest : List Oper} {o : Oper} {a : Act} {w : World} {Q : Exit → Act → World → Prop} (hgd : o.guard = none) (s x : Operand) (ho : o.op = .call { callee := .builtin .append, args := #[s, x], argTypes := #[84, 84] }) (hty : o.type = 84)
    (base : Nat) (v : Value) (xs : List Nat) (hs : a.eval s = v) (hown : OwnB w base v xs) (b c : Nat) (hx : a.eval x = .slice (some ⟨b, 0, none⟩) 1 1) (hR : w.heap[b]? = some (.cells #[.int .u8 (c : Int)] 5 (0, 0))) (hb : base ≤ w.heap.size) (hn : xs.length ≤ 1000000)
    (h : ∀ g cap w', OwnB w' base (.slice (some ⟨g, 0, none⟩) (xs.length + 1) cap) (xs ++ [c]) → w.grownBy w' v.ownBlock → (v.ownBlock = some g ∨ g = w.heap.size) → wpList Tryz.prog ops Q rest (a.put o.dst (.slice (some ⟨g, 0, none⟩) (xs.length + 1) cap)) w') : wpList Tryz.prog ops Q (o :: rest) a w :=
  wpList_plain hgd fun _ hK => by
    obtain ⟨g, cap, w', hr, h2, h3, h4⟩ := append_byte w base v xs hown c b hR hb hn
    unfold Oper.wp execOp
    simp only [ho, hty, resolve, invoke, builtin, Sem.run_bind, Sem.run_pure, Result.andThen_ok, List.map_toArray, List.map_cons, List.map_nil, hs, hx, hr]
    exact hK _ _ (h g cap w' h2 h3 h4)

/-- What stands ahead of the i-th token. -/
def Now (w0 w : World) (v : Value) (ts : List Tk) (i : Nat) (xs : List Nat) : Prop :=
  OwnB w w0.heap.size v xs ∧ expF xs (ts.drop i) = expF [] ts ∧ mayF xs.length (ts.drop i) = true ∧ (∀ y ∈ xs, y < 256) ∧ xs.length ≤ 8192 ∧ Keeps (fun _ => False) w0 w
theorem Now.ok {w0 w : World} {v : Value} {ts : List Tk} {i : Nat} {xs : List Nat} (h : Now w0 w v ts i xs) (hi : i < ts.length) : okT (tk ts i) xs.length = true ∧ mayF (xs.length + sz (tk ts i)) (ts.drop (i + 1)) = true ∧ expF (putT xs (tk ts i)) (ts.drop (i + 1)) = expF [] ts := by
  obtain ⟨_, h2, h3, _⟩ := h
  rw [tk_drop i hi] at h2 h3
  simp only [mayF, Bool.and_eq_true] at h3
  exact ⟨h3.1, h3.2, h2⟩
theorem Now.next {w0 w w1 : World} {v v' : Value} {ts : List Tk} {i : Nat} {xs : List Nat} (h : Now w0 w v ts i xs) (hi : i < ts.length) (hO : OwnB w1 w0.heap.size v' (putT xs (tk ts i))) (hk : Keeps (fun _ => False) w0 w1) : Now w0 w1 v' ts (i + 1) (putT xs (tk ts i)) := by
  obtain ⟨h1, h2, h3⟩ := h.ok hi
  have hl := put_len h1
  refine ⟨hO, h3, by rw [hl]; exact h2, put_lt h.2.2.2.1 h1, ?_, hk⟩
  have := (okT_iff h1).2
  omega
end Go.Proofs.YtfbghchgfbjogaaGreat.Mt

namespace Go.Proofs.YtfbghchgfbjogaaGreat.Bk
open Go.RowKit
open Hf Tb
open Mt (Tk RowT TkAt tk Tkb tk_eq)
set_option linter.unusedVariables false
set_option linter.unusedSimpArgs false

theorem RowT.keptS {S : Nat → Prop} {w w' : World} {a : Option Addr} {ts : List Tk} (h : RowT w a ts) (hk : Keeps S w w') (hb : ∀ x, a = some x → ¬ S x.block) : RowT w' a ts := Mt.RowT.kept h hk hb
theorem RowT.cell {w : World} {ts : List Tk} {b off i : Nat} (h : RowT w (some ⟨b, off, none⟩) ts) (hi : i < ts.length) : TkAt w b (off + i * 3) (tk ts i) := by
  rcases h with h | ⟨b', off', e, _, h2⟩
  · subst h; simp at hi
  · cases e; exact h2 i hi

end Go.Proofs.YtfbghchgfbjogaaGreat.Bk

namespace Go.Proofs.YtfbghchgfbjogaaGreat.Bk
open Hf Tb
open Mt (Tk expF putT mayF okT sz sumZ)
set_option linter.unusedVariables false
set_option linter.unusedSimpArgs false

def upN (ys : List Int) (least : Nat) : Nat → Nat
  | 0 => 0
  | n + 1 => if least < n + 1 ∧ at_ ys n = 0 then upN ys least n else n + 1
def upL (ys : List Int) (least : Nat) : Nat := upN ys least ys.length
def cutL (ys : List Int) (least : Nat) : List Int := ys.take (upL ys least)
def rowOf (cl : List Int) : List Int := rowL.map (at_ cl)
def threeB (row : List Int) : Bts := row.flatMap (fun n => bitsOf n.toNat 3)
def codesB (cl : List Int) (all : List Int) : Bts := all.flatMap (fun n => codeB cl n.toNat)
def hdrB (A B C : List Int) : Bts :=
  bitsOf (upL A 257 - 257) 5 ++ (bitsOf (upL B 1 - 1) 5 ++ (bitsOf (upL (rowOf C) 4 - 4) 4 ++ (threeB (cutL (rowOf C) 4) ++ codesB C (cutL A 257 ++ cutL B 1))))
def dynB (A B C : List Int) (ts : List Tk) : Bts := bitsOf 1 1 ++ (bitsOf 2 2 ++ (hdrB A B C ++ (tksB A B ts ++ codeB A 256)))
def storeB (s : List Nat) : Bts := bitsOf 1 8 ++ (bitsOf s.length 16 ++ (bitsOf (65535 - s.length) 16 ++ bitsL s))
theorem fix_at : ∀ i : Fin 288, 0 < at_ fixLs i.val := by decide +kernel
theorem bitsL_pack8 (L : Bts) (n : Nat) (h : L.length = 8 * n) : bitsL (pack L) = L := by
  have h2 := readBits_pack [] L []
  simp only [List.nil_append, List.append_nil, List.length_nil] at h2
  unfold bitsL
  rw [pack_length]
  rw [show 8 * ((L.length + 7) / 8) = L.length by omega]; exact h2
end Go.Proofs.YtfbghchgfbjogaaGreat.Bk

namespace Go.Proofs.YtfbghchgfbjogaaGreat.Lm
open Go.RowKit
set_option linter.unusedVariables false
set_option linter.unusedSimpArgs false

def at_ (ys : List Int) (i : Nat) : Int := ys.getD i 0
theorem at_eq {ys : List Int} (i : Nat) (hi : i < ys.length) : at_ ys i = ys[i] := by simp [at_, List.getD, List.getElem?_eq_getElem hi]
theorem at_append_left (ys zs : List Int) (i : Nat) (h : i < ys.length) : at_ (ys ++ zs) i = at_ ys i := by
  simp [at_, List.getD, List.getElem?_append_left h]
theorem at_append_right (ys zs : List Int) (i : Nat) : at_ (ys ++ zs) (ys.length + i) = at_ zs i := by
  simp [at_, List.getD, List.getElem?_append_right]
theorem at_set (ys : List Int) (i j : Nat) (v : Int) : at_ (ys.set i v) j = if i = j ∧ i < ys.length then v else at_ ys j := by
  unfold at_
  rw [List.getD, List.getD, List.getElem?_set]
  by_cases e : i = j
  · subst e
    by_cases h : i < ys.length
    · simp [h]
    · simp [h, List.getElem?_eq_none (Nat.le_of_not_lt h)]
  · simp [e]
theorem at_ext {ys zs : List Int} (hl : ys.length = zs.length) (h : ∀ i, i < ys.length → at_ ys i = at_ zs i) : ys = zs := by
  apply List.ext_getElem hl
  intro i h1 h2
  have := h i h1
  rwa [at_eq i h1, at_eq i h2] at this

/-- What is known of a slice of ints. -/
def Row (w : World) (a : Option Addr) (ys : List Int) : Prop :=
  ys = [] ∨ ∃ b off, a = some ⟨b, off, none⟩ ∧ b < w.heap.size ∧ ∀ i (h : i < ys.length), w.cell? ⟨b, off + i, none⟩ = some (.int .i64 ys[i])
theorem Row.kept {S : Nat → Prop} {w w' : World} {a : Option Addr} {ys : List Int} (h : Row w a ys) (hk : Keeps S w w') (hb : ∀ x, a = some x → ¬ S x.block) : Row w' a ys := by
  rcases h with h | ⟨b, off, rfl, h1, h2⟩
  · exact .inl h
  · refine .inr ⟨b, off, rfl, Nat.lt_of_lt_of_le h1 hk.size, fun i hi => ?_⟩
    rw [World.cell?_of_block (hk.block b h1 (hb _ rfl))]; exact h2 i hi
theorem Row.keptF {w w' : World} {a : Option Addr} {ys : List Int} (h : Row w a ys) (hk : Keeps (fun _ => False) w w') : Row w' a ys := h.kept hk (fun _ _ h => h)
theorem Row.spot {w : World} {a : Option Addr} {ys : List Int} (h : Row w a ys) (hn : 0 < ys.length) :
    ∃ b off, a = some ⟨b, off, none⟩ ∧ b < w.heap.size ∧ ∀ i (h : i < ys.length), w.cell? ⟨b, off + i, none⟩ = some (.int .i64 ys[i]) := by
  rcases h with h | h
  · subst h; simp at hn
  · exact h
theorem Row.at {w : World} {a : Option Addr} {ys : List Int} (h : Row w a ys) (hn : 0 < ys.length) : ∃ b off, a = some ⟨b, off, none⟩ ∧ b < w.heap.size ∧ ∀ w', Keeps (fun _ => False) w w' → ∀ i, i < ys.length → w'.cell? ⟨b, off + i, none⟩ = some (.int .i64 (at_ ys i)) := by
  obtain ⟨b, off, rfl, hb, hc⟩ := h.spot hn
  refine ⟨b, off, rfl, hb, fun w' hk i hi => ?_⟩
  rw [World.cell?_of_block (hk.block b hb (fun h => h)), hc i hi, at_eq i hi]
theorem Row.lit (w : World) (ys : List Int) (t : TypeId) : Row (w.alloc (.cells (ys.map (fun y => Value.int .i64 y)).toArray t)) (some ⟨w.heap.size, 0, none⟩) ys := by
  refine .inr ⟨w.heap.size, 0, rfl, by simp, fun i hi => ?_⟩
  exact cell_of_heap (heap_alloc_new _ _) (by simp [hi])

def intsV (ys : List Int) : List Value := ys.map (fun y => Value.int .i64 y)
theorem intsV_get (ys : List Int) (i : Nat) (h : i < ys.length) : (intsV ys)[i]? = some (.int .i64 (at_ ys i)) := by
  simp [intsV, at_eq i h, List.getElem?_eq_getElem h]
theorem intsV_append (ys zs : List Int) : intsV (ys ++ zs) = intsV ys ++ intsV zs := by simp [intsV]
theorem intsV_set (ys : List Int) (i : Nat) (v : Int) : (intsV ys).set i (.int .i64 v) = intsV (ys.set i v) := by simp [intsV, List.map_set]

/-- A block g of numbers that a call owns: a slice of it shows ys. -/
def Own (w : World) (g cap : Nat) (ys : List Int) : Prop := w.ownsRow 0 3 1 (.slice (some ⟨g, 0, none⟩) ys.length cap) ys.length (intsV ys)
theorem Own.lt {w : World} {g cap : Nat} {ys : List Int} (h : Own w g cap ys) : g < w.heap.size := (World.ownsRow.lt h g rfl).2
theorem Own.cell {w : World} {g cap : Nat} {ys : List Int} (h : Own w g cap ys) (i : Nat) (hi : i < ys.length) : w.cell? ⟨g, i, none⟩ = some (.int .i64 (at_ ys i)) := (owns_cell h i _ (intsV_get ys i hi)).1
theorem Own.free {w : World} {g cap : Nat} {ys : List Int} (h : Own w g cap ys) (i : Nat) (hi : i < ys.length) : w.frozen? ⟨g, i, none⟩ = false := (owns_cell h i _ (intsV_get ys i hi)).2
theorem Own.set {w : World} {g cap : Nat} {ys : List Int} (h : Own w g cap ys) (i : Nat) (v : Int) : Own (w.setCell ⟨g, i, none⟩ (.int .i64 v)) g cap (ys.set i v) := by
  have := owns_set h i (.int .i64 v)
  unfold Own
  rw [List.length_set, ← intsV_set]; exact this
theorem Own.kept {S : Nat → Prop} {w w' : World} {g cap : Nat} {ys : List Int} (h : Own w g cap ys) (hk : Keeps S w w') (hb : ¬ S g) : Own w' g cap ys :=
  owns_heap h (fun k e => by simp [Value.ownBlock] at e; subst e; exact hk.block g h.lt hb)
theorem Own.row {w : World} {g cap : Nat} {ys : List Int} (h : Own w g cap ys) : Row w (some ⟨g, 0, none⟩) ys :=
  .inr ⟨g, 0, rfl, h.lt, fun i hi => by rw [Nat.zero_add, h.cell i hi, at_eq i hi]⟩
theorem Own.cap {w : World} {g cap : Nat} {ys : List Int} (h : Own w g cap ys) : ys.length ≤ cap := by
  rcases h.2 with ⟨e, _⟩ | ⟨g', cap', cur, e, _, _, hn, _⟩
  · cases e
  · simp only [Value.slice.injEq] at e; omega

/-- A slice of ints that a call owns, nil too. -/
def OwnV (w : World) (base : Nat) (v : Value) (ys : List Int) : Prop := w.ownsRow base 3 1 v ys.length (intsV ys)
theorem OwnV.nil (w : World) (base : Nat) : OwnV w base (.slice none 0 0) [] := World.ownsRow_nil w base 3 1
theorem OwnV.form {w : World} {base : Nat} {v : Value} {ys : List Int} (h : OwnV w base v ys) : (v = .slice none 0 0 ∧ ys = []) ∨ ∃ g cap, v = .slice (some ⟨g, 0, none⟩) ys.length cap ∧ base ≤ g ∧ Own w g cap ys := by
  rcases h.2 with ⟨e, h0⟩ | ⟨g, cap, cur, e, hb, hr⟩
  · exact .inl ⟨e, List.length_eq_zero_iff.1 h0⟩
  · refine .inr ⟨g, cap, e, hb, ?_⟩
    exact ⟨h.1, .inr ⟨g, cap, cur, rfl, Nat.zero_le _, hr⟩⟩
theorem OwnV.row {w : World} {base : Nat} {v : Value} {ys : List Int} (h : OwnV w base v ys) : ∃ a cap, v = .slice a ys.length cap ∧ Row w a ys ∧ (∀ x, a = some x → base ≤ x.block) := by
  rcases h.form with ⟨rfl, rfl⟩ | ⟨g, cap, rfl, hb, ho⟩
  · exact ⟨none, 0, rfl, .inl rfl, by simp⟩
  · exact ⟨_, cap, rfl, ho.row, fun x e => by simp at e; subst e; exact hb⟩
theorem OwnV.kept {S : Nat → Prop} {w w' : World} {base : Nat} {v : Value} {ys : List Int} (h : OwnV w base v ys) (hk : Keeps S w w') (hb : ∀ k, v.ownBlock = some k → ¬ S k) : OwnV w' base v ys :=
  owns_heap h (fun k e => hk.block k (World.ownsRow.lt h k e).2 (hb k e))

set_option maxRecDepth 100000 in
/-- One number more behind a slice that the call owns. -/
theorem append_one (w : World) (base : Nat) (v : Value) (ys : List Int) (h : OwnV w base v ys) (x : Int) (b : Nat) (hx : w.heap[b]? = some (.cells #[.int .i64 x] 3 (0, 0))) (hb : base ≤ w.heap.size) (hn : ys.length ≤ 1000000) :
    ∃ g cap w', (Builtin.append_ #[22, 22] 22 #[v, .slice (some ⟨b, 0, none⟩) 1 1]).run Tryz.prog w = .ok (.slice (some ⟨g, 0, none⟩) (ys.length + 1) cap) w' ∧ OwnV w' base (.slice (some ⟨g, 0, none⟩) (ys.length + 1) cap) (ys ++ [x]) ∧ w.grownBy w' v.ownBlock ∧ (v.ownBlock = some g ∨ g = w.heap.size) := by
  obtain ⟨i, hi, h1, h2, h3⟩ : ∃ i, Tryz.prog.info? 3 = some i ∧ i.zero = some (.int .i64 0) ∧ i.bytes = 8 ∧ i.size = 1 := ⟨Tryz.t3, Tryz.type3, rfl, rfl, rfl⟩
  obtain ⟨g, cap, w', hr, ho, hg, hat, hlt⟩ := run_append_lies (P := Tryz.prog) w 22 22 base 3 i (.int .i64 0) 1 8 Tryz.underlying22 hi h1 h3 h2 rfl (by decide) v ys.length (intsV ys) h ⟨b, 0, none⟩ 1 1 [.int .i64 x] rfl (fun j u hu => by
      have hj : j = 0 := by have := (List.getElem?_eq_some_iff.1 hu).1; simp at this; omega
      subst hj
      simp at hu
      subst hu
      exact cell_of_heap hx rfl) (fun u hu => by simp at hu; subst hu; rfl) (by decide) (by unfold maxLen; omega) (by omega) hb _ rfl
  refine ⟨g, cap, w', hr, ?_, hg, hat⟩
  unfold OwnV
  rw [intsV_append, List.length_append]
  exact ho
theorem wpList_one {ops : Array Oper} {rest : List Oper} {o : Oper} {a : Act} {w : World} {Q : Exit → Act → World → Prop} (hgd : o.guard = none) (s x : Operand) (ho : o.op = .call { callee := .builtin .append, args := #[s, x], argTypes := #[22, 22] }) (hty : o.type = 22)
    (base : Nat) (v : Value) (ys : List Int) (hs : a.eval s = v) (hown : OwnV w base v ys) (b : Nat) (y : Int) (hx : a.eval x = .slice (some ⟨b, 0, none⟩) 1 1) (hR : w.heap[b]? = some (.cells #[.int .i64 y] 3 (0, 0))) (hb : base ≤ w.heap.size) (hn : ys.length ≤ 1000000)
    (h : ∀ g cap w', OwnV w' base (.slice (some ⟨g, 0, none⟩) (ys.length + 1) cap) (ys ++ [y]) → w.grownBy w' v.ownBlock → (v.ownBlock = some g ∨ g = w.heap.size) → wpList Tryz.prog ops Q rest (a.put o.dst (.slice (some ⟨g, 0, none⟩) (ys.length + 1) cap)) w') : wpList Tryz.prog ops Q (o :: rest) a w :=
  wpList_plain hgd fun _ hK => by
    obtain ⟨g, cap, w', hr, h2, h3, h4⟩ := append_one w base v ys hown y b hR hb hn
    unfold Oper.wp execOp
    simp only [ho, hty, resolve, invoke, builtin, Sem.run_bind, Sem.run_pure, Result.andThen_ok, List.map_toArray, List.map_cons, List.map_nil, hs, hx, hr]
    exact hK _ _ (h g cap w' h2 h3 h4)

set_option maxRecDepth 100000 in
theorem Own.made (w : World) (n : Nat) (hn : n ≤ 1000000) : ∃ w1, (Instr.makeSlice 22 (.int .i64 (n : Int)) (.int .i64 (n : Int))).run Tryz.prog w = .ok (.slice (some ⟨w.heap.size, 0, none⟩) n n) w1 ∧ Own w1 w.heap.size n (List.replicate n 0) ∧ Keeps (fun _ => False) w w1 := by
  obtain ⟨i, hi, h1, h2, h3⟩ : ∃ i, Tryz.prog.info? 3 = some i ∧ i.zero = some (.int .i64 0) ∧ i.bytes = 8 ∧ i.size = 1 := ⟨Tryz.t3, Tryz.type3, rfl, rfl, rfl⟩
  have hr := run_make (P := Tryz.prog) w 22 3 i _ Tryz.underlying22 hi h1 .i64 .i64 n n (by omega) (by omega) (by rw [h2]; omega) (by omega)
  refine ⟨_, by simpa using hr, ?_, (Keeps.refl _ w).alloc _⟩
  refine ⟨by simp [intsV], .inr ⟨_, _, _, by simp; rfl, Nat.zero_le _, heap_alloc_new _ _, by simp, by unfold maxLen; omega, by simp [madeCells, h3], ?_⟩⟩
  apply List.ext_getElem?
  intro j
  simp only [madeCells, h3, Value.cells]
  rw [List.getElem?_take]
  by_cases hj : j < n
  · rw [if_pos (by simp; omega), Array.getElem?_toList, Array.getElem?_map, Array.getElem?_range, if_pos (by omega)]; simp [hj, Nat.mod_one, intsV]
  · rw [if_neg (by simp; omega)]; simp [hj, intsV]
theorem wpList_ints {ops : Array Oper} {rest : List Oper} {op : Oper} {a : Act} {w : World} {Q : Exit → Act → World → Prop} (hgd : op.guard = none) (l c : Operand) (ho : op.op = .makeSlice 22 l c) (n : Nat) (hl : a.eval l = .int .i64 (n : Int)) (hc : a.eval c = .int .i64 (n : Int)) (hn : n ≤ 1000000)
    (h : ∀ g w1, Own w1 g n (List.replicate n 0) → Keeps (fun _ => False) w w1 → w.heap.size ≤ g → wpList Tryz.prog ops Q rest (a.put op.dst (.slice (some ⟨g, 0, none⟩) n n)) w1) : wpList Tryz.prog ops Q (op :: rest) a w :=
  wpList_plain hgd fun _ hK => by
    obtain ⟨w1, hr, hC, hk⟩ := Own.made w n hn
    unfold Oper.wp execOp
    simp only [ho, hl, hc, hr, Sem.run_bind, Sem.run_pure, Result.andThen_ok]
    exact hK _ _ (h w.heap.size _ hC hk (Nat.le_refl _))
theorem results_cell {fn : Func} {p : Tmp} {ty : TypeId} (h : fn.results = #[.cell p ty]) (tmps : Array Value) (P : Program) (w : World) :
    (results fn tmps).run P w = ((asAddr (tmps.getD p undef)).run P w).andThen fun a w₁ => (Go.loadVar ty a).run P w₁ := by
  simp only [results, h]
  simp [Sem.run_bind, Result.andThen]
theorem keeps_setCells {S : Nat → Prop} {a : World} (b : Nat) (hb : b < a.heap.size → S b) : ∀ (vs : List Value) (o : Nat) (w : World), Keeps S a w → Keeps S a (w.setCells b o vs)
  | [], _, _, h => h
  | v :: r, o, w, h => by rw [World.setCells]; exact keeps_setCells b hb r (o + 1) _ (h.setCell hb v)

end Go.Proofs.YtfbghchgfbjogaaGreat.Lm

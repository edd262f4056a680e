/-
  Rows of tokens that a slice shows, and blocks of tokens that a call owns.
-/
import Derived.Test.YtgfhpbcibifoeaaRows
import Derived.Test.YtgfhpbcibifoeaaTok
import Derived.WalkKit
import Derived.WalkSpells
import Derived.WalkLawsBesides
import Derived.Deep.MidRow
import Derived.Laws.ResultCell
import Derived.Deep.AppendLies
import Derived.Laws.OwnMore
namespace Go.Proofs.Ytgfhpbcibifoeaa
open Go.RowKit
set_option linter.unusedVariables false
set_option linter.unusedSimpArgs false

def tkVs : List Tk → List Value
  | [] => []
  | t :: r => .int .i64 t.1 :: .int .i64 t.2.1 :: .int .i64 t.2.2 :: tkVs r
theorem tkVs_length : ∀ ts, (tkVs ts).length = ts.length * 3
  | [] => rfl
  | t :: r => by simp [tkVs, tkVs_length r]; omega
theorem tkVs_append : ∀ ts us, tkVs (ts ++ us) = tkVs ts ++ tkVs us
  | [], us => rfl
  | t :: r, us => by simp [tkVs, tkVs_append r]
theorem tkVs_mem : ∀ ts v, v ∈ tkVs ts → ∃ x : Int, v = .int .i64 x
  | [], v, h => by simp [tkVs] at h
  | t :: r, v, h => by
    simp only [tkVs, List.mem_cons] at h
    rcases h with rfl | rfl | rfl | h
    · exact ⟨_, rfl⟩
    · exact ⟨_, rfl⟩
    · exact ⟨_, rfl⟩
    · exact tkVs_mem r v h
def tk (ts : List Tk) (i : Nat) : Tk := ts.getD i (0, 0, 0)
theorem tk_eq {ts : List Tk} (i : Nat) (h : i < ts.length) : tk ts i = ts[i] := by simp [tk, List.getD, List.getElem?_eq_getElem h]
theorem tk_drop {ts : List Tk} (i : Nat) (h : i < ts.length) : ts.drop i = tk ts i :: ts.drop (i + 1) := by
  rw [tk_eq i h]; exact List.drop_eq_getElem_cons h
theorem tkVs_get : ∀ (ts : List Tk) (j : Nat) (h : j < ts.length), (tkVs ts)[j * 3]? = some (.int .i64 (tk ts j).1) ∧ (tkVs ts)[j * 3 + 1]? = some (.int .i64 (tk ts j).2.1) ∧ (tkVs ts)[j * 3 + 2]? = some (.int .i64 (tk ts j).2.2)
  | [], _, h => by simp at h
  | t :: r, 0, h => by simp [tkVs, tk]
  | t :: r, j + 1, h => by
    have := tkVs_get r j (by simpa using h)
    rw [show (j + 1) * 3 = j * 3 + 1 + 1 + 1 by omega]
    simpa [tkVs, tk] using this
/-- The cells of the i-th of tokens from a place on. -/
def TkAt (w : World) (b o : Nat) (t : Tk) : Prop := w.cell? ⟨b, o, none⟩ = some (.int .i64 t.1) ∧ w.cell? ⟨b, o + 1, none⟩ = some (.int .i64 t.2.1) ∧ w.cell? ⟨b, o + 2, none⟩ = some (.int .i64 t.2.2)
theorem TkAt.kept {S : Nat → Prop} {w w' : World} {b o : Nat} {t : Tk} (h : TkAt w b o t) (hk : Keeps S w w') (hb : b < w.heap.size) (hs : ¬ S b) : TkAt w' b o t := by
  have e : ∀ i, w'.cell? ⟨b, i, none⟩ = w.cell? ⟨b, i, none⟩ := fun i => World.cell?_of_block (hk.block b hb hs)
  exact ⟨(e _).trans h.1, (e _).trans h.2.1, (e _).trans h.2.2⟩
/-- What is known of a slice of tokens. -/
def RowT (w : World) (a : Option Addr) (ts : List Tk) : Prop :=
  ts = [] ∨ ∃ b off, a = some ⟨b, off, none⟩ ∧ b < w.heap.size ∧ ∀ i, i < ts.length → TkAt w b (off + i * 3) (tk ts i)
theorem RowT.kept {S : Nat → Prop} {w w' : World} {a : Option Addr} {ts : List Tk} (h : RowT w a ts) (hk : Keeps S w w') (hb : ∀ x, a = some x → ¬ S x.block) : RowT w' a ts := by
  rcases h with h | ⟨b, off, rfl, h1, h2⟩
  · exact .inl h
  · exact .inr ⟨b, off, rfl, Nat.lt_of_lt_of_le h1 hk.size, fun i hi => (h2 i hi).kept hk h1 (hb _ rfl)⟩
theorem RowT.keptF {w w' : World} {a : Option Addr} {ts : List Tk} (h : RowT w a ts) (hk : Keeps (fun _ => False) w w') : RowT w' a ts := h.kept hk (fun _ _ h => h)
theorem RowT.at {w : World} {a : Option Addr} {ts : List Tk} (h : RowT w a ts) (hn : 0 < ts.length) : ∃ b off, a = some ⟨b, off, none⟩ ∧ b < w.heap.size ∧ ∀ w', Keeps (fun _ => False) w w' → ∀ i, i < ts.length → TkAt w' b (off + i * 3) (tk ts i) := by
  rcases h with h | ⟨b, off, rfl, h1, h2⟩
  · subst h; simp at hn
  · exact ⟨b, off, rfl, h1, fun w' hk i hi => (h2 i hi).kept hk h1 (fun h => h)⟩
theorem RowT.lit (w : World) (ts : List Tk) (t : TypeId) : RowT (w.alloc (.cells (tkVs ts).toArray t)) (some ⟨w.heap.size, 0, none⟩) ts := by
  refine .inr ⟨w.heap.size, 0, rfl, by simp, fun i hi => ?_⟩
  obtain ⟨h1, h2, h3⟩ := tkVs_get ts i hi
  rw [Nat.zero_add]
  exact ⟨cell_of_heap (heap_alloc_new _ _) (by simpa using h1), cell_of_heap (heap_alloc_new _ _) (by simpa using h2), cell_of_heap (heap_alloc_new _ _) (by simpa using h3)⟩

/-- A slice of tokens that a call owns, nil too. -/
def OwnK (w : World) (base : Nat) (v : Value) (ts : List Tk) : Prop := w.ownsRow base 40 3 v ts.length (tkVs ts)
theorem OwnK.nil (w : World) (base : Nat) : OwnK w base (.slice none 0 0) [] := World.ownsRow_nil w base 40 3
theorem owns_heap3 {w w' : World} {base : Nat} {e : TypeId} {size : Nat} {v : Value} {n : Nat} {xs : List Value} (h : w.ownsRow base e size v n xs) (hk : ∀ k, v.ownBlock = some k → w'.heap[k]? = w.heap[k]?) : w'.ownsRow base e size v n xs := by
  obtain ⟨h1, h2⟩ := h
  refine ⟨h1, ?_⟩
  rcases h2 with h2 | ⟨g, cap, cur, hv, hg, hh, r⟩
  · exact Or.inl h2
  · subst hv
    exact Or.inr ⟨g, cap, cur, rfl, hg, by rw [hk g rfl]; exact hh, r⟩
theorem OwnK.kept {S : Nat → Prop} {w w' : World} {base : Nat} {v : Value} {ts : List Tk} (h : OwnK w base v ts) (hk : Keeps S w w') (hb : ∀ k, v.ownBlock = some k → ¬ S k) : OwnK w' base v ts :=
  owns_heap3 h (fun k e => hk.block k (World.ownsRow.lt h k e).2 (hb k e))
theorem OwnK.keptF {w w' : World} {base : Nat} {v : Value} {ts : List Tk} (h : OwnK w base v ts) (hk : Keeps (fun _ => False) w w') : OwnK w' base v ts := h.kept hk (fun _ _ h => h)
theorem OwnK.row {w : World} {base : Nat} {v : Value} {ts : List Tk} (h : OwnK w base v ts) : ∃ a cap, v = .slice a ts.length cap ∧ RowT w a ts ∧ (∀ x, a = some x → base ≤ x.block ∧ v.ownBlock = some x.block) ∧ ts.length ≤ cap := by
  rcases h.2 with ⟨rfl, h0⟩ | ⟨g, cap, cur, rfl, hb, h1, h2, h3, h4, h5⟩
  · have := List.length_eq_zero_iff.1 h0
    subst this
    exact ⟨none, 0, rfl, .inl rfl, fun x e => (by cases e), Nat.le_refl _⟩
  · refine ⟨_, cap, rfl, .inr ⟨g, 0, rfl, lt_of_heap h1, fun i hi => ?_⟩, fun x e => (by simp at e; subst e; exact ⟨hb, rfl⟩), h2⟩
    obtain ⟨e1, e2, e3⟩ := tkVs_get ts i hi
    rw [← h5, List.getElem?_take, if_pos (by omega)] at e1 e2 e3
    rw [Nat.zero_add]
    exact ⟨cell_of_heap h1 (by simpa using e1), cell_of_heap h1 (by simpa using e2), cell_of_heap h1 (by simpa using e3)⟩
theorem append_tok (w : World) (base : Nat) (v : Value) (ts : List Tk) (h : OwnK w base v ts) (t : Tk) (b : Nat) (hx : TkAt w b 0 t) (hb : base ≤ w.heap.size) (hn : ts.length ≤ 1000000) :
    ∃ g cap w', (Builtin.append_ #[22, 22] 22 #[v, .slice (some ⟨b, 0, none⟩) 1 1]).run Try.prog w = .ok (.slice (some ⟨g, 0, none⟩) (ts.length + 1) cap) w' ∧ OwnK w' base (.slice (some ⟨g, 0, none⟩) (ts.length + 1) cap) (ts ++ [t]) ∧ w.grownBy w' v.ownBlock ∧ (v.ownBlock = some g ∨ g = w.heap.size) := by
  obtain ⟨i, hi, h1, h2, h3⟩ : ∃ i, Try.prog.info? 40 = some i ∧ i.zero = some (.agg #[.int .i64 0, .int .i64 0, .int .i64 0]) ∧ i.bytes = 24 ∧ i.size = 3 := ⟨Try.t40, Try.type40, rfl, rfl, rfl⟩
  obtain ⟨g, cap, w', hr, ho, hg, hat, hlt⟩ := run_append_lies (P := Try.prog) w 22 22 base 40 i (.agg #[.int .i64 0, .int .i64 0, .int .i64 0]) 3 24 Try.underlying22 hi h1 h3 h2 rfl (by decide) v ts.length (tkVs ts) h ⟨b, 0, none⟩ 1 1 (tkVs [t]) rfl (fun j u hu => by
      have hj : j < 3 := by have := (List.getElem?_eq_some_iff.1 hu).1; simpa [tkVs] using this
      obtain ⟨c0, c1, c2⟩ := hx
      obtain rfl | rfl | rfl : j = 0 ∨ j = 1 ∨ j = 2 := by omega
      · simp [tkVs] at hu; subst hu; exact c0
      · simp [tkVs] at hu; subst hu; exact c1
      · simp [tkVs] at hu; subst hu; exact c2) (fun u hu => by obtain ⟨x, rfl⟩ := tkVs_mem _ _ hu; rfl) (by decide) (by unfold maxLen; omega) (by omega) hb _ rfl
  refine ⟨g, cap, w', hr, ?_, hg, hat⟩
  unfold OwnK
  rw [tkVs_append, List.length_append]
  exact ho
theorem wpList_tok {ops : Array Oper} {rest : List Oper} {o : Oper} {a : Act} {w : World} {Q : Exit → Act → World → Prop} (hgd : o.guard = none) (s x : Operand) (ho : o.op = .call { callee := .builtin .append, args := #[s, x], argTypes := #[22, 22] }) (hty : o.type = 22)
    (base : Nat) (v : Value) (ts : List Tk) (hs : a.eval s = v) (hown : OwnK w base v ts) (b : Nat) (t : Tk) (hx : a.eval x = .slice (some ⟨b, 0, none⟩) 1 1) (hR : TkAt w b 0 t) (hb : base ≤ w.heap.size) (hn : ts.length ≤ 1000000)
    (h : ∀ g cap w', OwnK w' base (.slice (some ⟨g, 0, none⟩) (ts.length + 1) cap) (ts ++ [t]) → w.grownBy w' v.ownBlock → (v.ownBlock = some g ∨ g = w.heap.size) → wpList Try.prog ops Q rest (a.put o.dst (.slice (some ⟨g, 0, none⟩) (ts.length + 1) cap)) w') : wpList Try.prog ops Q (o :: rest) a w :=
  wpList_plain hgd fun _ hK => by
    obtain ⟨g, cap, w', hr, h2, h3, h4⟩ := append_tok w base v ts hown t b hR hb hn
    unfold Oper.wp execOp
    simp only [ho, hty, resolve, invoke, builtin, Sem.run_bind, Sem.run_pure, Result.andThen_ok, List.map_toArray, List.map_cons, List.map_nil, hs, hx, hr]
    exact hK _ _ (h g cap w' h2 h3 h4)
theorem tkAt_new (w : World) (l n d : Int) (T : TypeId) : TkAt (w.alloc (.cells #[.int .i64 l, .int .i64 n, .int .i64 d] T)) w.heap.size 0 (l, n, d) :=
  ⟨cell_of_heap (heap_alloc_new _ _) rfl, cell_of_heap (heap_alloc_new _ _) rfl, cell_of_heap (heap_alloc_new _ _) rfl⟩

theorem bytesOf_lt (s : ByteArray) : ∀ y ∈ bytesOf s, y < 256 := by
  intro y hy
  obtain ⟨b, _, rfl⟩ := List.mem_map.1 hy
  exact UInt8.toNat_lt b
theorem yb_text (s : ByteArray) (i : Nat) (h : i < s.size) : yb (bytesOf s) i = s[i].toNat := bytesOf_get s i h

set_option maxHeartbeats 4000000 in
set_option maxRecDepth 1000000 in
theorem num_any (x : Int) (w : World) : Calls Try.prog 14 #[.int .i64 x] w fun e w' => e = .returned (.int .i64 x) ∧ w' = w := by
  go_enter Try.func14, Try.ntmps14
  go_wp2
  go_ret
  exact ⟨rfl, rfl⟩

set_option maxHeartbeats 4000000 in
set_option maxRecDepth 1000000 in
theorem size_ok (l n d : Int) (w : World) : Calls Try.prog 22 #[.agg #[.int .i64 l, .int .i64 n, .int .i64 d]] w fun e w' => e = .returned (.int .i64 (sz (l, n, d))) ∧ Keeps (fun _ => False) w w' := by
  by_cases h : n ≤ 1
  · have hm : max 1 n = 1 := by omega
    go_enter Try.func22, Try.ntmps22
    go_wp2
    go_ret
    exact ⟨by simp only [sz, hm]; rfl, (Keeps.refl _ w).alloc _⟩
  · have hm : max 1 n = n := by omega
    go_enter Try.func22, Try.ntmps22
    go_wp2
    go_ret
    exact ⟨by simp only [sz, hm]; rfl, (Keeps.refl _ w).alloc _⟩

end Go.Proofs.Ytgfhpbcibifoeaa

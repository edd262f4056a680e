/-
  Rows of tokens that a slice shows, and blocks of tokens that a call owns. How far two places of a text go alike. A token in a block of its own: made, read, written; and the token that stands at a place of a text. The call Tokens: a text's tokens, from left to right. The document's Tokens: the same tokens. Tokens that may be: the call May, and the document's. The document's TokensMay: the same answer. A text that grows: one byte behind it, and a copy behind it.
-/
import Derived.Test.YtebjooebdehlnaaRows
import Derived.Test.YtebjooebdehlnaaG05
import Derived.WalkKit
import Derived.WalkSpells
import Derived.WalkLawsBesides
import Derived.Deep.MidRow
import Derived.Laws.ResultCell
import Derived.Deep.AppendLies
import Derived.Laws.OwnMore
import Derived.BigQuiet
import Derived.Deep.RegionLaw
namespace Go.Proofs.Ytebjooebdehlnaa.Mt
open Go.RowKit
set_option linter.unusedVariables false
set_option linter.unusedSimpArgs false

def tkVs : List Tk → List Value
  | [] => []
  | t :: r => .int .i64 t.1 :: .int .i64 t.2.1 :: .int .i64 t.2.2 :: tkVs r
theorem tkVs_length : ∀ ts, (tkVs ts).length = ts.length * 3
  | [] => rfl
  | t :: r => by simp [tkVs, tkVs_length r]; omega
theorem tkVs_append : ∀ ts us, tkVs (ts ++ us) = tkVs ts ++ tkVs us
  | [], us => rfl
  | t :: r, us => by simp [tkVs, tkVs_append r]
theorem tkVs_mem : ∀ ts v, v ∈ tkVs ts → ∃ x : Int, v = .int .i64 x
  | [], v, h => by simp [tkVs] at h
  | t :: r, v, h => by
    simp only [tkVs, List.mem_cons] at h
    rcases h with rfl | rfl | rfl | h
    · exact ⟨_, rfl⟩
    · exact ⟨_, rfl⟩
    · exact ⟨_, rfl⟩
    · exact tkVs_mem r v h
def tk (ts : List Tk) (i : Nat) : Tk := ts.getD i (0, 0, 0)
theorem tk_eq {ts : List Tk} (i : Nat) (h : i < ts.length) : tk ts i = ts[i] := by simp [tk, List.getD, List.getElem?_eq_getElem h]
theorem tk_drop {ts : List Tk} (i : Nat) (h : i < ts.length) : ts.drop i = tk ts i :: ts.drop (i + 1) := by
  rw [tk_eq i h]; exact List.drop_eq_getElem_cons h
theorem tkVs_get : ∀ (ts : List Tk) (j : Nat) (h : j < ts.length), (tkVs ts)[j * 3]? = some (.int .i64 (tk ts j).1) ∧ (tkVs ts)[j * 3 + 1]? = some (.int .i64 (tk ts j).2.1) ∧ (tkVs ts)[j * 3 + 2]? = some (.int .i64 (tk ts j).2.2)
  | [], _, h => by simp at h
  | t :: r, 0, h => by simp [tkVs, tk]
  | t :: r, j + 1, h => by
    have := tkVs_get r j (by simpa using h)
    rw [show (j + 1) * 3 = j * 3 + 1 + 1 + 1 by omega]
    simpa [tkVs, tk] using this
/-- The cells of the i-th of tokens from a place on. -/
def TkAt (w : World) (b o : Nat) (t : Tk) : Prop := w.cell? ⟨b, o, none⟩ = some (.int .i64 t.1) ∧ w.cell? ⟨b, o + 1, none⟩ = some (.int .i64 t.2.1) ∧ w.cell? ⟨b, o + 2, none⟩ = some (.int .i64 t.2.2)
theorem TkAt.kept {S : Nat → Prop} {w w' : World} {b o : Nat} {t : Tk} (h : TkAt w b o t) (hk : Keeps S w w') (hb : b < w.heap.size) (hs : ¬ S b) : TkAt w' b o t := by
  have e : ∀ i, w'.cell? ⟨b, i, none⟩ = w.cell? ⟨b, i, none⟩ := fun i => World.cell?_of_block (hk.block b hb hs)
  exact ⟨(e _).trans h.1, (e _).trans h.2.1, (e _).trans h.2.2⟩
/-- What is known of a slice of tokens. -/
def RowT (w : World) (a : Option Addr) (ts : List Tk) : Prop :=
  ts = [] ∨ ∃ b off, a = some ⟨b, off, none⟩ ∧ b < w.heap.size ∧ ∀ i, i < ts.length → TkAt w b (off + i * 3) (tk ts i)
theorem RowT.kept {S : Nat → Prop} {w w' : World} {a : Option Addr} {ts : List Tk} (h : RowT w a ts) (hk : Keeps S w w') (hb : ∀ x, a = some x → ¬ S x.block) : RowT w' a ts := by
  rcases h with h | ⟨b, off, rfl, h1, h2⟩
  · exact .inl h
  · exact .inr ⟨b, off, rfl, Nat.lt_of_lt_of_le h1 hk.size, fun i hi => (h2 i hi).kept hk h1 (hb _ rfl)⟩
theorem RowT.keptF {w w' : World} {a : Option Addr} {ts : List Tk} (h : RowT w a ts) (hk : Keeps (fun _ => False) w w') : RowT w' a ts := h.kept hk (fun _ _ h => h)
theorem RowT.at {w : World} {a : Option Addr} {ts : List Tk} (h : RowT w a ts) (hn : 0 < ts.length) : ∃ b off, a = some ⟨b, off, none⟩ ∧ b < w.heap.size ∧ ∀ w', Keeps (fun _ => False) w w' → ∀ i, i < ts.length → TkAt w' b (off + i * 3) (tk ts i) := by
  rcases h with h | ⟨b, off, rfl, h1, h2⟩
  · subst h; simp at hn
  · exact ⟨b, off, rfl, h1, fun w' hk i hi => (h2 i hi).kept hk h1 (fun h => h)⟩
theorem RowT.lit (w : World) (ts : List Tk) (t : TypeId) : RowT (w.alloc (.cells (tkVs ts).toArray t)) (some ⟨w.heap.size, 0, none⟩) ts := by
  refine .inr ⟨w.heap.size, 0, rfl, by simp, fun i hi => ?_⟩
  obtain ⟨h1, h2, h3⟩ := tkVs_get ts i hi
  rw [Nat.zero_add]
  exact ⟨cell_of_heap (heap_alloc_new _ _) (by simpa using h1), cell_of_heap (heap_alloc_new _ _) (by simpa using h2), cell_of_heap (heap_alloc_new _ _) (by simpa using h3)⟩

/-- A slice of tokens that a call owns, nil too. -/
def OwnK (w : World) (base : Nat) (v : Value) (ts : List Tk) : Prop := w.ownsRow base 35 3 v ts.length (tkVs ts)
theorem OwnK.nil (w : World) (base : Nat) : OwnK w base (.slice none 0 0) [] := World.ownsRow_nil w base 35 3
theorem owns_heap3 {w w' : World} {base : Nat} {e : TypeId} {size : Nat} {v : Value} {n : Nat} {xs : List Value} (h : w.ownsRow base e size v n xs) (hk : ∀ k, v.ownBlock = some k → w'.heap[k]? = w.heap[k]?) : w'.ownsRow base e size v n xs := by
  obtain ⟨h1, h2⟩ := h
  refine ⟨h1, ?_⟩
  rcases h2 with h2 | ⟨g, cap, cur, hv, hg, hh, r⟩
  · exact Or.inl h2
  · subst hv
    exact Or.inr ⟨g, cap, cur, rfl, hg, by rw [hk g rfl]; exact hh, r⟩
theorem OwnK.kept {S : Nat → Prop} {w w' : World} {base : Nat} {v : Value} {ts : List Tk} (h : OwnK w base v ts) (hk : Keeps S w w') (hb : ∀ k, v.ownBlock = some k → ¬ S k) : OwnK w' base v ts :=
  owns_heap3 h (fun k e => hk.block k (World.ownsRow.lt h k e).2 (hb k e))
theorem OwnK.keptF {w w' : World} {base : Nat} {v : Value} {ts : List Tk} (h : OwnK w base v ts) (hk : Keeps (fun _ => False) w w') : OwnK w' base v ts := h.kept hk (fun _ _ h => h)
theorem OwnK.row {w : World} {base : Nat} {v : Value} {ts : List Tk} (h : OwnK w base v ts) : ∃ a cap, v = .slice a ts.length cap ∧ RowT w a ts ∧ (∀ x, a = some x → base ≤ x.block ∧ v.ownBlock = some x.block) ∧ ts.length ≤ cap := by
  rcases h.2 with ⟨rfl, h0⟩ | ⟨g, cap, cur, rfl, hb, h1, h2, h3, h4, h5⟩
  · have := List.length_eq_zero_iff.1 h0
    subst this
    exact ⟨none, 0, rfl, .inl rfl, fun x e => (by cases e), Nat.le_refl _⟩
  · refine ⟨_, cap, rfl, .inr ⟨g, 0, rfl, lt_of_heap h1, fun i hi => ?_⟩, fun x e => (by simp at e; subst e; exact ⟨hb, rfl⟩), h2⟩
    obtain ⟨e1, e2, e3⟩ := tkVs_get ts i hi
    rw [← h5, List.getElem?_take, if_pos (by omega)] at e1 e2 e3
    rw [Nat.zero_add]
    exact ⟨cell_of_heap h1 (by simpa using e1), cell_of_heap h1 (by simpa using e2), cell_of_heap h1 (by simpa using e3)⟩
set_option maxRecDepth 100000 in
theorem append_tok (w : World) (base : Nat) (v : Value) (ts : List Tk) (h : OwnK w base v ts) (t : Tk) (b : Nat) (hx : TkAt w b 0 t) (hb : base ≤ w.heap.size) (hn : ts.length ≤ 1000000) :
    ∃ g cap w', (Builtin.append_ #[23, 23] 23 #[v, .slice (some ⟨b, 0, none⟩) 1 1]).run Try.prog w = .ok (.slice (some ⟨g, 0, none⟩) (ts.length + 1) cap) w' ∧ OwnK w' base (.slice (some ⟨g, 0, none⟩) (ts.length + 1) cap) (ts ++ [t]) ∧ w.grownBy w' v.ownBlock ∧ (v.ownBlock = some g ∨ g = w.heap.size) := by
  obtain ⟨i, hi, h1, h2, h3⟩ : ∃ i, Try.prog.info? 35 = some i ∧ i.zero = some (.agg #[.int .i64 0, .int .i64 0, .int .i64 0]) ∧ i.bytes = 24 ∧ i.size = 3 := ⟨Try.t35, Try.type35, rfl, rfl, rfl⟩
  obtain ⟨g, cap, w', hr, ho, hg, hat, hlt⟩ := run_append_lies (P := Try.prog) w 23 23 base 35 i (.agg #[.int .i64 0, .int .i64 0, .int .i64 0]) 3 24 Try.underlying23 hi h1 h3 h2 rfl (by decide) v ts.length (tkVs ts) h ⟨b, 0, none⟩ 1 1 (tkVs [t]) rfl (fun j u hu => by
      have hj : j < 3 := by have := (List.getElem?_eq_some_iff.1 hu).1; simpa [tkVs] using this
      obtain ⟨c0, c1, c2⟩ := hx
      obtain rfl | rfl | rfl : j = 0 ∨ j = 1 ∨ j = 2 := by omega
      · simp [tkVs] at hu; subst hu; exact c0
      · simp [tkVs] at hu; subst hu; exact c1
      · simp [tkVs] at hu; subst hu; exact c2) (fun u hu => by obtain ⟨x, rfl⟩ := tkVs_mem _ _ hu; rfl) (by decide) (by unfold maxLen; omega) (by omega) hb _ rfl
  refine ⟨g, cap, w', hr, ?_, hg, hat⟩
  unfold OwnK
  rw [tkVs_append, List.length_append]
  exact ho
theorem wpList_tok {ops : Array Oper} {rest : List Oper} {o : Oper} {a : Act} {w : World} {Q : Exit → Act → World → Prop} (hgd : o.guard = none) (s x : Operand) (ho : o.op = .call { callee := .builtin .append, args := #[s, x], argTypes := #[23, 23] }) (hty : o.type = 23)
    (base : Nat) (v : Value) (ts : List Tk) (hs : a.eval s = v) (hown : OwnK w base v ts) (b : Nat) (t : Tk) (hx : a.eval x = .slice (some ⟨b, 0, none⟩) 1 1) (hR : TkAt w b 0 t) (hb : base ≤ w.heap.size) (hn : ts.length ≤ 1000000)
    (h : ∀ g cap w', OwnK w' base (.slice (some ⟨g, 0, none⟩) (ts.length + 1) cap) (ts ++ [t]) → w.grownBy w' v.ownBlock → (v.ownBlock = some g ∨ g = w.heap.size) → wpList Try.prog ops Q rest (a.put o.dst (.slice (some ⟨g, 0, none⟩) (ts.length + 1) cap)) w') : wpList Try.prog ops Q (o :: rest) a w :=
  wpList_plain hgd fun _ hK => by
    obtain ⟨g, cap, w', hr, h2, h3, h4⟩ := append_tok w base v ts hown t b hR hb hn
    unfold Oper.wp execOp
    simp only [ho, hty, resolve, invoke, builtin, Sem.run_bind, Sem.run_pure, Result.andThen_ok, List.map_toArray, List.map_cons, List.map_nil, hs, hx, hr]
    exact hK _ _ (h g cap w' h2 h3 h4)
theorem tkAt_new (w : World) (l n d : Int) (T : TypeId) : TkAt (w.alloc (.cells #[.int .i64 l, .int .i64 n, .int .i64 d] T)) w.heap.size 0 (l, n, d) :=
  ⟨cell_of_heap (heap_alloc_new _ _) rfl, cell_of_heap (heap_alloc_new _ _) rfl, cell_of_heap (heap_alloc_new _ _) rfl⟩

theorem bytesOf_lt (s : ByteArray) : ∀ y ∈ bytesOf s, y < 256 := by
  intro y hy
  obtain ⟨b, _, rfl⟩ := List.mem_map.1 hy
  exact UInt8.toNat_lt b
theorem yb_text (s : ByteArray) (i : Nat) (h : i < s.size) : yb (bytesOf s) i = s[i].toNat := bytesOf_get s i h

set_option maxHeartbeats 4000000 in
set_option maxRecDepth 1000000 in
theorem num_any (x : Int) (w : World) : Calls Try.prog 8 #[.int .i64 x] w fun e w' => e = .returned (.int .i64 x) ∧ w' = w := by
  go_enter Try.func8, Try.ntmps8
  go_wp2
  go_ret
  exact ⟨rfl, rfl⟩

end Go.Proofs.Ytebjooebdehlnaa.Mt

namespace Go.Proofs.Ytebjooebdehlnaa.Mt
open Go.RowKit
set_option linter.unusedVariables false
set_option linter.unusedSimpArgs false

set_option maxHeartbeats 4000000 in
set_option maxRecDepth 1000000 in
theorem same_ok (s : ByteArray) (p j : Nat) (w : World) (hs : s.size ≤ 300) (hp : p < s.size) (hd : j < p) :
    Calls Try.prog 9 #[.string s, .int .i64 (p : Int), .int .i64 (j : Int)] w fun e w' => e = .returned (.int .i64 (alk (bytesOf s) p j : Int)) ∧ Keeps (fun _ => False) w w' := by
  obtain ⟨M, hM⟩ : ∃ M, min (s.size - p) 258 = M := ⟨_, rfl⟩
  have HF : Hid (alk (bytesOf s) p j = lead (alkF (bytesOf s) p j) M) := show _ = _ by unfold alk; rw [bytesOf_length, hM]
  have hM8 : M ≤ 258 := by omega
  have HM : Hid (min (s.size - p) 258 = M) := hM
  clear hM
  go_enter Try.func9, Try.ntmps9
  go_wp2
  go_loopw [7] (fun s7 w' => ∃ n : Nat, n ≤ M ∧ s7 = .int .i64 (n : Int) ∧ Hid (∀ i, i < n → alkF (bytesOf s) p j i = true) ∧ Hid (Keeps (fun _ => False) w w')) (fun s7 w' => ((M : Int) - intOf s7).toNat)
  case atStart => exact ⟨0, by omega, rfl, fun i h => absurd h (by omega), Keeps.refl _ _⟩
  case round =>
    obtain ⟨n, hn, rfl, HA, HK⟩ := hrel
    by_cases hin : n < M
    · obtain ⟨q, hq⟩ : ∃ q, q = p + n := ⟨_, rfl⟩
      obtain ⟨r, hr⟩ : ∃ r, r = j + n := ⟨_, rfl⟩
      have hn0 : (n : Int) < 258 := by have := HM.out; omega
      have hqs : q < s.size := by have := HM.out; omega
      have hqz : (q : Int) < (s.size : Int) := by omega
      have hrs : r < s.size := by omega
      have hw1 : IntKind.i64.wrap ((p : Int) + (n : Int)) = (q : Int) := by rw [wrap_i64_small _ (by omega) (by omega)]; omega
      have hw2 : IntKind.i64.wrap ((j : Int) + (n : Int)) = (r : Int) := by rw [wrap_i64_small _ (by omega) (by omega)]; omega
      have HQ : Hid (q = p + n ∧ r = j + n) := ⟨hq, by omega⟩
      have HY : Hid (alkF (bytesOf s) p j n = (s[q].toNat == s[r].toNat)) := show _ = _ by
        unfold alkF
        rw [← HQ.out.1, ← HQ.out.2, yb_text s q hqs, yb_text s r hrs]
      clear hq hr
      by_cases e : s[q].toNat = s[r].toNat
      · have hb : (s[q].toNat == s[r].toNat) = true := by rw [e]; exact beq_self_eq_true _
        have hbz : ((s[q].toNat : Int) == (s[r].toNat : Int)) = true := by rw [e]; exact beq_self_eq_true _
        have HN : Hid (∀ i, i < n + 1 → alkF (bytesOf s) p j i = true) := fun i hi => by
          by_cases h : i = n
          · subst h; rw [HY.out]; exact hb
          · exact HA.out i (by omega)
        go_wp2
        go_quiet (fail)
        have HK' : Hid (Keeps (fun _ => False) w (wr.drewN nq)) := HK.out.drewN nq
        generalize wr.drewN nq = wn at *
        clear HK hb hbz e hw1 hw2 HY
        go_wp2
        go_roundw
        case rel => exact ⟨n + 1, by omega, by push_cast; rfl, HN, HK'⟩
        case measure => simp [intOf]; omega
      · have hb : (s[q].toNat == s[r].toNat) = false := by simpa using e
        have hbz : ((s[q].toNat : Int) == (s[r].toNat : Int)) = false := by rw [beq_eq_false_iff_ne]; omega
        have HE : Hid (alk (bytesOf s) p j = n) := by
          rw [HF.out]; exact lead_eq hn HA.out (.inr (by rw [HY.out]; exact hb))
        go_wp2
        go_quiet (fail)
        have HK' : Hid (Keeps (fun _ => False) w (wr.drewN nq)) := HK.out.drewN nq
        generalize wr.drewN nq = wn at *
        clear HK hb hbz e hw1 hw2 HY
        go_wp2
        go_ret
        exact ⟨by rw [HE.out]; rfl, HK'.out⟩
    · obtain rfl : n = M := by omega
      have HE : Hid (alk (bytesOf s) p j = n) := by
        rw [HF.out]; exact lead_eq hn HA.out (.inl rfl)
      by_cases h8 : n < 258
      · have hn0 : (n : Int) < 258 := by omega
        obtain ⟨q, hq⟩ : ∃ q, q = p + n := ⟨_, rfl⟩
        have hqs : q = s.size := by have := HM.out; omega
        have hqz : ¬ q < s.size := by omega
        have hqd : decide (q < s.size) = false := decide_eq_false hqz
        have hw1 : IntKind.i64.wrap ((p : Int) + (n : Int)) = (q : Int) := by rw [wrap_i64_small _ (by omega) (by omega)]; omega
        clear hq hqs
        go_wp2
        go_quiet (fail)
        have HK' : Hid (Keeps (fun _ => False) w (wr.drewN nq)) := HK.out.drewN nq
        generalize wr.drewN nq = wn at *
        go_wp2
        go_ret
        exact ⟨by rw [HE.out]; rfl, HK'.out⟩
      · obtain rfl : n = 258 := by omega
        go_wp2
        go_quiet (fail)
        have HK' : Hid (Keeps (fun _ => False) w (wr.drewN nq)) := HK.out.drewN nq
        generalize wr.drewN nq = wn at *
        go_wp2
        go_ret
        exact ⟨by rw [HE.out]; rfl, HK'.out⟩

end Go.Proofs.Ytebjooebdehlnaa.Mt

namespace Go.Proofs.Ytebjooebdehlnaa.Mt
open Go.RowKit
set_option linter.unusedVariables false
set_option linter.unusedSimpArgs false

/-- Block b is a token. -/
def Tkb (w : World) (b : Nat) (t : Tk) : Prop := w.heap[b]? = some (.cells #[.int .i64 t.1, .int .i64 t.2.1, .int .i64 t.2.2] 35 (0, 0))
theorem Tkb.lt {w : World} {b : Nat} {t : Tk} (h : Tkb w b t) : b < w.heap.size := lt_of_heap h
theorem Tkb.kept {S : Nat → Prop} {w w' : World} {b : Nat} {t : Tk} (h : Tkb w b t) (hk : Keeps S w w') (hb : ¬ S b) : Tkb w' b t := (hk.block b h.lt hb).trans h
theorem Tkb.keptF {w w' : World} {b : Nat} {t : Tk} (h : Tkb w b t) (hk : Keeps (fun _ => False) w w') : Tkb w' b t := h.kept hk (fun h => h)
theorem Tkb.c0 {w : World} {b : Nat} {t : Tk} (h : Tkb w b t) : w.cell? ⟨b, 0, none⟩ = some (.int .i64 t.1) := cell_of_heap h rfl
theorem Tkb.c1 {w : World} {b : Nat} {t : Tk} (h : Tkb w b t) : w.cell? ⟨b, 1, none⟩ = some (.int .i64 t.2.1) := cell_of_heap h rfl
theorem Tkb.c2 {w : World} {b : Nat} {t : Tk} (h : Tkb w b t) : w.cell? ⟨b, 2, none⟩ = some (.int .i64 t.2.2) := cell_of_heap h rfl
theorem Tkb.at {w : World} {b : Nat} {t : Tk} (h : Tkb w b t) : TkAt w b 0 t := ⟨h.c0, h.c1, h.c2⟩
theorem Tkb.new (w : World) (t : Tk) : Tkb (w.alloc (.cells #[.int .i64 t.1, .int .i64 t.2.1, .int .i64 t.2.2] 35)) w.heap.size t := heap_alloc_new _ _
def cs3 (t : Tk) : List Value := [.int .i64 t.1, .int .i64 t.2.1, .int .i64 t.2.2]
theorem TkAt.range {w : World} {b o : Nat} {t : Tk} (h : TkAt w b o t) : w.rangeAt b o (cs3 t) := fun j v hv => by
  obtain ⟨h0, h1, h2⟩ := h
  match j, hv with
  | 0, hv => simp [cs3] at hv; subst hv; exact h0
  | 1, hv => simp [cs3] at hv; subst hv; exact h1
  | 2, hv => simp [cs3] at hv; subst hv; exact h2
  | j + 3, hv => simp [cs3] at hv
theorem size40 : (Try.prog.info? 35).map (·.size) = some 3 := by kernel_rfl
theorem zero40 : (zeroValue 35).run Try.prog = fun w => .ok (.agg #[.int .i64 0, .int .i64 0, .int .i64 0]) w := by kernel_rfl
theorem wpList_alloc3 {ops : Array Oper} {rest : List Oper} {op : Oper} {a : Act} {w : World} {Q : Exit → Act → World → Prop} (hgd : op.guard = none) (ho : op.op = .alloc 35)
    (h : ∀ b w1, Tkb w1 b (0, 0, 0) → Keeps (fun _ => False) w w1 → w.heap.size ≤ b → wpList Try.prog ops Q rest (a.put op.dst (.pointer (some ⟨b, 0, none⟩))) w1) : wpList Try.prog ops Q (op :: rest) a w :=
  wpList_plain hgd fun _ hK => by
    unfold Oper.wp execOp
    have hz := congrFun zero40 w
    simp only [ho, Instr.alloc, Sem.run_bind, hz, Result.andThen_ok]
    simp only [newVar, Sem.run_bind, Sem.run_pure, Result.andThen_ok]
    exact hK _ _ (h w.heap.size _ (Tkb.new w (0, 0, 0)) ((Keeps.refl _ w).alloc _) (Nat.le_refl _))
theorem wpList_box3 {ops : Array Oper} {rest : List Oper} {op : Oper} {a : Act} {w : World} {Q : Exit → Act → World → Prop} (hgd : op.guard = none) (x : Operand) (ho : op.op = .box 35 x) (t : Tk) (hx : a.eval x = .agg #[.int .i64 t.1, .int .i64 t.2.1, .int .i64 t.2.2])
    (h : ∀ b w1, Tkb w1 b t → Keeps (fun _ => False) w w1 → w.heap.size ≤ b → wpList Try.prog ops Q rest (a.put op.dst (.pointer (some ⟨b, 0, none⟩))) w1) : wpList Try.prog ops Q (op :: rest) a w :=
  wpList_plain hgd fun _ hK => by
    unfold Oper.wp execOp
    simp only [ho, hx, Instr.box, Sem.run_bind, newVar, Sem.run_pure, Result.andThen_ok]
    exact hK _ _ (h w.heap.size _ (Tkb.new w t) ((Keeps.refl _ w).alloc _) (Nat.le_refl _))
theorem wpList_load3 {ops : Array Oper} {rest : List Oper} {op : Oper} {a : Act} {w : World} {Q : Exit → Act → World → Prop} (hgd : op.guard = none) (x : Operand) (ho : op.op = .load 35 x) (b o : Nat) (hx : a.eval x = .pointer (some ⟨b, o, none⟩)) (t : Tk) (hA : TkAt w b o t)
    (h : wpList Try.prog ops Q rest (a.put op.dst (.agg #[.int .i64 t.1, .int .i64 t.2.1, .int .i64 t.2.2])) w) : wpList Try.prog ops Q (op :: rest) a w :=
  wpList_load_mid hgd 35 x ho b o hx (cs3 t) _ hA.range Try.underlying35 rfl size40 h
theorem wpList_load3w {ops : Array Oper} {rest : List Oper} {op : Oper} {a : Act} {w : World} {Q : Exit → Act → World → Prop} (x : Operand) (ho : op.op = .load 35 x) (b o : Nat) (hx : a.eval x = .pointer (some ⟨b, o, none⟩)) (hw : Region.wanted op (yielded ops a.tmps) = true) (t : Tk) (hA : TkAt w b o t)
    (h : wpList Try.prog ops Q rest (a.put op.dst (.agg #[.int .i64 t.1, .int .i64 t.2.1, .int .i64 t.2.2])) w) : wpList Try.prog ops Q (op :: rest) a w :=
  wpList_step fun K hK => by
    rw [hw]
    exact wp_load_mid 35 x ho b o hx (cs3 t) _ hA.range Try.underlying35 rfl size40 (hK _ _ h)
theorem Tkb.set {w : World} {b : Nat} {t : Tk} (h : Tkb w b t) (u : Tk) : Tkb (w.setCells b 0 (cs3 u)) b u := by
  show (((w.setCell ⟨b, 0, none⟩ _).setCell ⟨b, 1, none⟩ _).setCell ⟨b, 2, none⟩ _).heap[b]? = _
  rw [heap_setCell_same (heap_setCell_same (heap_setCell_same h _) _) _]; rfl
theorem keeps_setCells {S : Nat → Prop} {a : World} (b : Nat) (hb : b < a.heap.size → S b) : ∀ (vs : List Value) (o : Nat) (w : World), Keeps S a w → Keeps S a (w.setCells b o vs)
  | [], _, _, h => h
  | v :: r, o, w, h => by rw [World.setCells]; exact keeps_setCells b hb r (o + 1) _ (h.setCell hb v)
theorem Tkb.there {w : World} {b : Nat} {t : Tk} (h : Tkb w b t) : w.there b 0 3 := fun j hj => by
  have hf : w.frozen? ⟨b, 0 + j, none⟩ = false := frozen_of_heap h
  refine ⟨?_, hf⟩
  match j, hj with
  | 0, _ => rw [show 0 + 0 = 0 from rfl, h.c0]; rfl
  | 1, _ => rw [show 0 + 1 = 1 from rfl, h.c1]; rfl
  | 2, _ => rw [show 0 + 2 = 2 from rfl, h.c2]; rfl
theorem wpList_store3 {ops : Array Oper} {rest : List Oper} {op : Oper} {a : Act} {w : World} {Q : Exit → Act → World → Prop} (hgd : op.guard = none) (x y : Operand) (ho : op.op = .store 35 x y) (b : Nat) (u : Tk) (hx : a.eval x = .pointer (some ⟨b, 0, none⟩)) (hy : a.eval y = .agg #[.int .i64 u.1, .int .i64 u.2.1, .int .i64 u.2.2]) (t : Tk) (hA : Tkb w b t)
    (h : ∀ w1, Tkb w1 b u → Keeps (fun k => k = b) w w1 → wpList Try.prog ops Q rest (a.put op.dst undef) w1) : wpList Try.prog ops Q (op :: rest) a w :=
  wpList_store_mid hgd 35 x y ho b 0 (cs3 u).toArray hx hy hA.there size40 (all_oneCell_toArray (by intro v hv; simp [cs3] at hv; rcases hv with rfl | rfl | rfl <;> rfl)) (h _ (hA.set u) (keeps_setCells (S := fun k => k = b) b (fun _ => rfl) _ _ _ (Keeps.refl _ w)))
theorem Tkb.loadVar {w : World} {b : Nat} {t : Tk} (h : Tkb w b t) : (loadVar 35 ⟨b, 0, none⟩).run Try.prog w = .ok (.agg #[.int .i64 t.1, .int .i64 t.2.1, .int .i64 t.2.2]) w :=
  run_loadVar_mid w b 0 35 (cs3 t) _ h.at.range Try.underlying35 rfl size40
theorem results_cell {fn : Func} {p : Tmp} {ty : TypeId} (h : fn.results = #[.cell p ty]) (tmps : Array Value) (P : Program) (w : World) :
    (results fn tmps).run P w = ((asAddr (tmps.getD p undef)).run P w).andThen fun a w₁ => (Go.loadVar ty a).run P w₁ := by
  simp only [results, h]
  simp [Sem.run_bind, Result.andThen]

theorem tokB_len (b : Nat × Nat) (y : Nat) : (tokB b y).2.1 = (b.1 : Int) := by unfold tokB; split <;> simp_all
theorem best_next (ys : List Nat) (p d : Nat) : best ys p (d + 1) = if 3 ≤ alk ys p (p - (d + 1)) ∧ (best ys p d).1 < alk ys p (p - (d + 1)) then (alk ys p (p - (d + 1)), d + 1) else best ys p d := rfl

end Go.Proofs.Ytebjooebdehlnaa.Mt

namespace Go.Proofs.Ytebjooebdehlnaa.Mt
open Go.RowKit
set_option linter.unusedVariables false
set_option linter.unusedSimpArgs false

/-- What stands behind the first k tokens of a text. -/
def Told (w0 w : World) (v : Value) (s : ByteArray) (k : Nat) : Prop := step (bytesOf s) k ≤ s.size ∧ OwnK w w0.heap.size v (toksN (bytesOf s) k) ∧ Keeps (fun _ => False) w0 w
theorem Told.k {w0 w : World} {v : Value} {s : ByteArray} {k : Nat} (h : Told w0 w v s k) : k ≤ s.size := by
  have := step_grow (bytesOf s) 0 k
  simp only [Nat.zero_add] at this
  have := h.1
  omega
theorem Told.next {w0 w w1 w2 : World} {v v' : Value} {s : ByteArray} {k : Nat} (h : Told w0 w v s k) (hl : step (bytesOf s) k < s.size) (hO : OwnK w1 w0.heap.size v' (toksN (bytesOf s) k ++ [tok (bytesOf s) (step (bytesOf s) k)])) (hk : Keeps (fun b => v.ownBlock = some b) w w1) (hk2 : Keeps (fun _ => False) w1 w2) : Told w0 w2 v' s (k + 1) :=
  ⟨by rw [← bytesOf_length] at hl ⊢; exact step_le _ _ hl, hO.keptF hk2, (h.2.2.trans hk (fun i hi e => by have := (World.ownsRow.lt h.2.1 i e).1; omega)).trans hk2 (fun _ _ h => h)⟩

theorem hk4 {w0 w w3 w4 : World} {v : Value} {ts : List Tk} {o : Obj} (hk : Keeps (fun _ => False) w w3) (hO : OwnK w w0.heap.size v ts) (hG : (w3.alloc o).grownBy w4 v.ownBlock) : Keeps (fun b => v.ownBlock = some b) w3 w4 :=
  ((Keeps.refl (fun b => v.ownBlock = some b) w3).alloc o).grown hG (fun k hk e => e)
theorem ne_own {w0 w : World} {v : Value} {ts : List Tk} {b : Nat} (hO : OwnK w w0.heap.size v ts) (hb : w.heap.size ≤ b) : ¬ v.ownBlock = some b := fun h => by
  have := (World.ownsRow.lt hO b h).2; omega

end Go.Proofs.Ytebjooebdehlnaa.Mt

namespace Go.Proofs.Ytebjooebdehlnaa.Mt
open Go.RowKit
set_option linter.unusedVariables false
set_option linter.unusedSimpArgs false

theorem tok_rb (ys : List Nat) (p : Nat) : tok ys p = (if (rb ys p p).1 < 3 then ((yb ys p : Int), 0, 0) else (0, ((rb ys p p).1 : Int), ((rb ys p p).2 : Int))) ∧ szN ys p = if (rb ys p p).1 < 3 then 1 else (rb ys p p).1 := by
  unfold tok szN tokB
  rw [rb_best]
  by_cases h : (rb ys p p).1 < 3
  · rw [if_pos h, if_pos h, if_pos h]; exact ⟨rfl, rfl⟩
  · rw [if_neg h, if_neg h, if_neg h, if_neg (by omega), if_neg (by omega)]; exact ⟨rfl, rfl⟩
theorem rb_le (ys : List Nat) (p : Nat) : ∀ d, (rb ys p d).1 ≤ 258 ∧ (rb ys p d).2 ≤ d
  | 0 => by simp [rb]
  | d + 1 => by
    have := rb_le ys p d
    have h2 := alk_le ys p (p - (d + 1))
    simp only [rb]
    split
    · show alk ys p (p - (d + 1)) ≤ 258 ∧ d + 1 ≤ d + 1; omega
    · omega
theorem rb_next (ys : List Nat) (p d : Nat) : rb ys p (d + 1) = if (rb ys p d).1 < alk ys p (p - (d + 1)) then (alk ys p (p - (d + 1)), d + 1) else rb ys p d := rfl

set_option maxHeartbeats 4000000 in
set_option maxRecDepth 1000000 in
theorem rtokens_long (s : ByteArray) (w : World) (hs : ¬ s.size ≤ 300) (hb : s.size ≤ 140737488355328) : Calls Try.prog 5 #[.string s] w fun e w' => e = .returned (.tuple #[.slice none 0 0, .int .i64 500]) ∧ w' = w := by
  have hz : (300 : Int) < (s.size : Int) := by omega
  go_enter Try.func5, Try.ntmps5
  go_wp2
  go_ret2
  exact ⟨rfl, rfl⟩

set_option maxHeartbeats 4000000 in
set_option maxRecDepth 1000000 in
theorem rtokens_ok (s : ByteArray) (w : World) (hs : s.size ≤ 300) :
    Calls Try.prog 5 #[.string s] w fun e w' => ∃ K v, e = .returned (.tuple #[v, .int .i64 0]) ∧ step (bytesOf s) K = s.size ∧ OwnK w' w.heap.size v (toksN (bytesOf s) K) ∧ Keeps (fun _ => False) w w' := by
  have hz : ¬ (300 : Int) < (s.size : Int) := by omega
  have HC : Hid (∀ p j w', p < s.size → j < p → Calls Try.prog 9 #[.string s, .int .i64 (p : Int), .int .i64 (j : Int)] w' fun e w'' => e = .returned (.int .i64 (alk (bytesOf s) p j : Int)) ∧ Keeps (fun _ => False) w' w'') := fun p j w' hp hj => same_ok s p j w' hs hp hj
  go_enter Try.func5, Try.ntmps5
  go_wp2
  go_loopw [4, 5] (fun s4 s5 w' => ∃ (k p : Nat) (v : Value), s4 = v ∧ p ≤ s.size ∧ s5 = .int .i64 (p : Int) ∧ Hid (p = step (bytesOf s) k ∧ Told w w' v s k)) (fun s4 s5 w' => ((s.size : Int) - intOf s5).toNat)
  case atStart => exact ⟨0, 0, _, rfl, by omega, rfl, rfl, Nat.zero_le _, OwnK.nil _ _, Keeps.refl _ _⟩
  case round =>
    clear hz
    obtain ⟨k, p, v, hv, hp, rfl, HW⟩ := hrel
    obtain rfl := hv.symm
    clear hv
    by_cases hin : p < s.size
    · have hiz : (p : Int) < (s.size : Int) := by omega
      go_wp2
      obtain ⟨w0, rfl⟩ : ∃ w0, w0 = wr := ⟨_, rfl⟩
      go_loopw [6, 7, 8] (fun s6 s7 s8 w' => ∃ d m e : Nat, d ≤ p ∧ s6 = .int .i64 (m : Int) ∧ s7 = .int .i64 (e : Int) ∧ s8 = .int .i64 ((p : Int) - 1 - (d : Int)) ∧ m ≤ 258 ∧ e ≤ 300 ∧ Hid (rb (bytesOf s) p d = (m, e)) ∧ Hid (Keeps (fun _ => False) w0 w')) (fun s6 s7 s8 w' => (intOf s8 + 1).toNat)
      case atStart => exact ⟨0, 0, 0, by omega, rfl, rfl, by simp, by omega, by omega, rfl, Keeps.refl _ _⟩
      case round =>
        obtain ⟨d, m, e, hd, rfl, rfl, rfl, hm, he, HR, HK⟩ := hrel
        by_cases hdp : d < p
        · have hjz : (0 : Int) ≤ (p : Int) - 1 - (d : Int) := by omega
          have HC1 : Hid (∀ w', Calls Try.prog 9 #[.string s, .int .i64 (p : Int), .int .i64 ((p : Int) - 1 - (d : Int))] w' fun e w'' => e = .returned (.int .i64 (alk (bytesOf s) p (p - (d + 1)) : Int)) ∧ Keeps (fun _ => False) w' w'') := fun w' => by
            have := HC.out p (p - (d + 1)) w' hin (by omega)
            rw [show ((p - (d + 1) : Nat) : Int) = (p : Int) - 1 - (d : Int) by omega] at this
            exact this
          have hN := rb_next (bytesOf s) p d
          rw [HR.out] at hN
          have hkl := alk_le (bytesOf s) p (p - (d + 1))
          obtain ⟨q, hq⟩ : ∃ q, alk (bytesOf s) p (p - (d + 1)) = q := ⟨_, rfl⟩
          rw [hq] at hN HC1 hkl
          have hq8 : q ≤ 258 := by omega
          by_cases hmq : m < q
          · have hmz : (m : Int) < (q : Int) := by omega
            rw [if_pos hmq] at hN
            have HN : Hid (rb (bytesOf s) p (d + 1) = (q, d + 1)) := hN
            clear hN hq hkl HC
            go_wp2_with (first
              | (go_at_call 9; refine (HC1.out _).mono ?_; rintro e1 w4 ⟨rfl, hK4⟩; have HK4 : Hid (Keeps (fun _ => False) w0 w4) := HK.out.trans hK4 (fun _ _ h => h); clear hK4))
            go_roundw
            case rel => exact ⟨d + 1, q, d + 1, by omega, rfl, by congr 1; omega, by congr 1; omega, hq8, by omega, HN, HK4⟩
            case measure => simp [intOf]; omega
          · have hmz : ¬ (m : Int) < (q : Int) := by omega
            rw [if_neg hmq] at hN
            have HN : Hid (rb (bytesOf s) p (d + 1) = (m, e)) := hN
            clear hN hq hkl HC
            go_wp2_with (first
              | (go_at_call 9; refine (HC1.out _).mono ?_; rintro e1 w4 ⟨rfl, hK4⟩; have HK4 : Hid (Keeps (fun _ => False) w0 w4) := HK.out.trans hK4 (fun _ _ h => h); clear hK4))
            go_roundw
            case rel => exact ⟨d + 1, m, e, by omega, rfl, rfl, by congr 1; omega, hm, he, HN, HK4⟩
            case measure => simp [intOf]; omega
        · obtain rfl : d = p := by omega
          have hjz : ¬ (0 : Int) ≤ (d : Int) - 1 - (d : Int) := by omega
          obtain ⟨t1, t2⟩ := tok_rb (bytesOf s) d
          rw [HR.out] at t1 t2
          rw [yb_text s d hin] at t1
          have hle := szN_le (bytesOf s) d (by rw [bytesOf_length]; exact hin)
          rw [bytesOf_length] at hle
          have hsb : s[d].toNat < 256 := UInt8.toNat_lt _
          by_cases h3 : m < 3
          · have h3z : (m : Int) < 3 := by omega
            rw [if_pos h3] at t1 t2
            rw [t2] at hle
            have HT : Hid (tok (bytesOf s) d = ((s[d].toNat : Int), 0, 0) ∧ szN (bytesOf s) d = 1) := ⟨t1, t2⟩
            clear t1 t2 HC
            go_wp2_with (first
              | (refine wpList_tok rfl _ _ rfl rfl w.heap.size v (toksN (bytesOf s) k) rfl ?hown wr.heap.size ((s[d].toNat : Int), 0, 0) rfl ?hR ?hb ?hn ?_; (case hown => exact HW.out.2.2.1.keptF (HK.out.alloc _)); (case hR => exact (Tkb.new _ ((s[d].toNat : Int), 0, 0)).at); (case hb => exact Nat.le_trans HW.out.2.2.2.size (HK.out.alloc _).size); (case hn => rw [toksN_len]; have := HW.out.2.k; omega); rw [toksN_len]; intro g c w4 hO4 hG4 hg4; have HO4 : Hid (OwnK w4 w.heap.size (.slice (some ⟨g, 0, none⟩) (k + 1) c) (toksN (bytesOf s) k ++ [((s[d].toNat : Int), 0, 0)]) ∧ Keeps (fun b => v.ownBlock = some b) w0 w4) := ⟨hO4, (HK.out.alloc _).mono (fun _ _ h => h.elim) |>.grown hG4 (fun _ _ e => e)⟩; clear hO4 hG4 hg4))
            go_roundw
            case rel =>
              refine ⟨k + 1, d + 1, _, rfl, hle, by push_cast; rfl, ?_, ?_⟩
              · show d + 1 = step (bytesOf s) k + szN (bytesOf s) (step (bytesOf s) k)
                rw [← HW.out.1, HT.out.2]
              · refine HW.out.2.next (by rw [← HW.out.1]; exact hin) ?_ HO4.out.2 (Keeps.refl _ _)
                rw [← HW.out.1, HT.out.1]; exact HO4.out.1
            case measure => simp [intOf]; omega
          · have h3z : ¬ (m : Int) < 3 := by omega
            rw [if_neg h3] at t1 t2
            rw [t2] at hle
            have HT : Hid (tok (bytesOf s) d = (0, (m : Int), (e : Int)) ∧ szN (bytesOf s) d = m) := ⟨t1, t2⟩
            clear t1 t2 HC
            go_wp2_with (first
              | (refine wpList_tok rfl _ _ rfl rfl w.heap.size v (toksN (bytesOf s) k) rfl ?hown wr.heap.size (0, (m : Int), (e : Int)) rfl ?hR ?hb ?hn ?_; (case hown => exact HW.out.2.2.1.keptF (HK.out.alloc _)); (case hR => exact (Tkb.new _ (0, (m : Int), (e : Int))).at); (case hb => exact Nat.le_trans HW.out.2.2.2.size (HK.out.alloc _).size); (case hn => rw [toksN_len]; have := HW.out.2.k; omega); rw [toksN_len]; intro g c w4 hO4 hG4 hg4; have HO4 : Hid (OwnK w4 w.heap.size (.slice (some ⟨g, 0, none⟩) (k + 1) c) (toksN (bytesOf s) k ++ [(0, (m : Int), (e : Int))]) ∧ Keeps (fun b => v.ownBlock = some b) w0 w4) := ⟨hO4, (HK.out.alloc _).mono (fun _ _ h => h.elim) |>.grown hG4 (fun _ _ e => e)⟩; clear hO4 hG4 hg4))
            go_roundw
            case rel =>
              refine ⟨k + 1, d + m, _, rfl, hle, by push_cast; rfl, ?_, ?_⟩
              · show d + m = step (bytesOf s) k + szN (bytesOf s) (step (bytesOf s) k)
                rw [← HW.out.1, HT.out.2]
              · refine HW.out.2.next (by rw [← HW.out.1]; exact hin) ?_ HO4.out.2 (Keeps.refl _ _)
                rw [← HW.out.1, HT.out.1]; exact HO4.out.1
            case measure => simp [intOf]; omega
    · obtain rfl : p = s.size := by omega
      go_wp2
      go_ret2
      exact ⟨k, v, rfl, HW.out.1.symm, HW.out.2.2.1, HW.out.2.2.2⟩

end Go.Proofs.Ytebjooebdehlnaa.Mt

namespace Go.Proofs.Ytebjooebdehlnaa.Mt
open Go.RowKit
set_option linter.unusedVariables false
set_option linter.unusedSimpArgs false

end Go.Proofs.Ytebjooebdehlnaa.Mt

namespace Go.Proofs.Ytebjooebdehlnaa.Mt
open Go.RowKit
set_option linter.unusedVariables false
set_option linter.unusedSimpArgs false

set_option maxHeartbeats 4000000 in
set_option maxRecDepth 1000000 in
theorem rmay_ok (a : Option Addr) (ts : List Tk) (cap : Nat) (w : World) (hR : RowT w a ts) (hl : ts.length ≤ 9223372036854775806) :
    Calls Try.prog 34 #[.slice a ts.length cap] w fun e w' => e = .returned (.bool (mayF 0 ts)) ∧ Keeps (fun _ => False) w w' := by
  have HR : Hid (RowT w a ts) := hR
  clear hR
  obtain ⟨N, hN⟩ : ∃ N, ts.length = N := ⟨_, rfl⟩
  rw [hN] at hl ⊢
  have HN : Hid (ts.length = N) := hN
  clear hN
  go_enter Try.func34, Try.ntmps34
  go_wp2
  go_loopw [3, 4] (fun s3 s4 w' => ∃ (i : Nat) (z : Int), i ≤ N ∧ 0 ≤ z ∧ z ≤ 8192 ∧ s3 = .int .i64 z ∧ s4 = .int .i64 (i : Int) ∧ Hid (mayF z (ts.drop i) = mayF 0 ts ∧ Keeps (fun _ => False) w w')) (fun s3 s4 w' => ((N : Int) - intOf s4).toNat)
  case atStart => exact ⟨0, 0, by omega, by omega, by omega, rfl, rfl, rfl, Keeps.refl _ _⟩
  case round =>
    obtain ⟨i, z, hi, hz0, hz1, rfl, rfl, HW⟩ := hrel
    by_cases hin : i < N
    · have hiz : (i : Int) < (N : Int) := by omega
      have hil : i < ts.length := by rw [HN.out]; exact hin
      obtain ⟨b, off, rfl, hb, hc⟩ := HR.out.at (by omega)
      have hT := hc wr HW.out.2 i hil
      clear hc
      have HD : Hid (mayF 0 ts = (okT (tk ts i) z && mayF (z + sz (tk ts i)) (ts.drop (i + 1)))) := by
        show _ = _
        rw [← HW.out.1, tk_drop i hil]; rfl
      obtain ⟨⟨l, n, d⟩, ht⟩ : ∃ t, tk ts i = t := ⟨_, rfl⟩
      rw [ht] at hT HD
      clear ht
      have HK := HW.out.2
      clear HW
      have HKr : Hid (Keeps (fun _ => False) w wr) := HK
      clear HK
      by_cases hn0 : n = 0
      · subst hn0
        have hS : sz (l, 0, d) = 1 := by simp [sz]; omega
        rw [hS] at HD
        by_cases hok : isB (l, 0, d) = true
        · obtain ⟨e1, e2, _, e3⟩ := isB_iff hok
          simp only at e1 e2 e3
          subst e3
          have e1' : ¬ l < 0 := by omega
          have e2' : ¬ 255 < l := by omega
          by_cases hz : z + 1 ≤ 8192
          · have hz' : ¬ 8192 < z + 1 := by omega
            have HX : Hid (mayF (z + 1) (ts.drop (i + 1)) = mayF 0 ts) := by show _ = _; rw [HD.out]; unfold okT; rw [hok, hS, decide_eq_true hz]; simp
            clear hok hS
            go_wp2_with (first
              | (refine wpList_load3 rfl _ rfl b (off + i * 3) rfl (l, 0, 0) ?hA ?_; (case hA => assumption))
              | (refine wpList_alloc3 rfl rfl ?_; intro b5 w2 hT2 hK2 hb5; have HK2 : Hid (Keeps (fun _ => False) w w2) := HKr.out.trans hK2 (fun _ _ h => h); have HB5 : Hid (w.heap.size ≤ b5) := (by have := HKr.out.size; show _ ≤ _; omega); clear hK2 hb5)
              | (refine wpList_store3 rfl _ _ rfl b5 (l, 0, 0) rfl rfl (0, 0, 0) ?hA ?_; (case hA => assumption); intro w3 hT3 hK3; have HK3 : Hid (Keeps (fun _ => False) w w3) := HK2.out.trans hK3 (fun i hi h => by have := HB5.out; omega); obtain ⟨c0, c1, c2⟩ : w3.cell? ⟨b5, 0, none⟩ = some (.int .i64 l) ∧ w3.cell? ⟨b5, 1, none⟩ = some (.int .i64 0) ∧ w3.cell? ⟨b5, 2, none⟩ = some (.int .i64 0) := hT3.at; clear hK3 hT2 hT3))
            go_roundw
            case rel => exact ⟨i + 1, z + 1, by omega, by omega, by omega, rfl, by push_cast; rfl, HX.out, HK3.out⟩
            case measure => simp [intOf]; omega
          · have hz' : 8192 < z + 1 := by omega
            have HX : Hid (mayF 0 ts = false) := by show _ = _; rw [HD.out]; unfold okT; rw [hok, hS, decide_eq_false hz]; simp
            clear hok hS
            go_wp2_with (first
              | (refine wpList_load3 rfl _ rfl b (off + i * 3) rfl (l, 0, 0) ?hA ?_; (case hA => assumption))
              | (refine wpList_alloc3 rfl rfl ?_; intro b5 w2 hT2 hK2 hb5; have HK2 : Hid (Keeps (fun _ => False) w w2) := HKr.out.trans hK2 (fun _ _ h => h); have HB5 : Hid (w.heap.size ≤ b5) := (by have := HKr.out.size; show _ ≤ _; omega); clear hK2 hb5)
              | (refine wpList_store3 rfl _ _ rfl b5 (l, 0, 0) rfl rfl (0, 0, 0) ?hA ?_; (case hA => assumption); intro w3 hT3 hK3; have HK3 : Hid (Keeps (fun _ => False) w w3) := HK2.out.trans hK3 (fun i hi h => by have := HB5.out; omega); obtain ⟨c0, c1, c2⟩ : w3.cell? ⟨b5, 0, none⟩ = some (.int .i64 l) ∧ w3.cell? ⟨b5, 1, none⟩ = some (.int .i64 0) ∧ w3.cell? ⟨b5, 2, none⟩ = some (.int .i64 0) := hT3.at; clear hK3 hT2 hT3))
            go_ret
            exact ⟨by rw [HX.out]; rfl, HK3.out⟩
        · have hk : isC (l, 0, d) z = false := by simp [isC]
          have HX : Hid (mayF 0 ts = false) := by show _ = _; rw [HD.out]; unfold okT; rw [hk, eq_false_of_ne_true hok]; simp
          have hbad : l < 0 ∨ (¬ l < 0 ∧ 255 < l) ∨ (¬ l < 0 ∧ ¬ 255 < l ∧ ¬ d = 0) := by simp [isB] at hok; omega
          clear hok hk hS
          rcases hbad with h1 | ⟨h1, h2⟩ | ⟨h1, h2, h3⟩
          all_goals
            go_wp2_with (first
              | (refine wpList_load3 rfl _ rfl b (off + i * 3) rfl (l, 0, d) ?hA ?_; (case hA => assumption))
              | (refine wpList_alloc3 rfl rfl ?_; intro b5 w2 hT2 hK2 hb5; have HK2 : Hid (Keeps (fun _ => False) w w2) := HKr.out.trans hK2 (fun _ _ h => h); have HB5 : Hid (w.heap.size ≤ b5) := (by have := HKr.out.size; show _ ≤ _; omega); clear hK2 hb5)
              | (refine wpList_store3 rfl _ _ rfl b5 (l, 0, d) rfl rfl (0, 0, 0) ?hA ?_; (case hA => assumption); intro w3 hT3 hK3; have HK3 : Hid (Keeps (fun _ => False) w w3) := HK2.out.trans hK3 (fun i hi h => by have := HB5.out; omega); obtain ⟨c0, c1, c2⟩ : w3.cell? ⟨b5, 0, none⟩ = some (.int .i64 l) ∧ w3.cell? ⟨b5, 1, none⟩ = some (.int .i64 0) ∧ w3.cell? ⟨b5, 2, none⟩ = some (.int .i64 d) := hT3.at; clear hK3 hT2 hT3))
            go_ret
            exact ⟨by rw [HX.out]; rfl, HK3.out⟩
      · by_cases hok : isC (l, n, d) z = true
        · obtain ⟨e1, e2, e3, e4, e5, e6⟩ := isC_iff hok
          simp only at e1 e2 e3 e4 e5 e6
          subst e1
          have hS : sz (0, n, d) = n := by simp [sz]; omega
          rw [hS] at HD
          have e2' : ¬ n < 3 := by omega
          have e3' : ¬ 258 < n := by omega
          have e4' : ¬ d < 1 := by omega
          have e5' : ¬ 32768 < d := by omega
          have e6' : ¬ z < d := by omega
          by_cases hz : z + n ≤ 8192
          · have hz' : ¬ 8192 < z + n := by omega
            have HX : Hid (mayF (z + n) (ts.drop (i + 1)) = mayF 0 ts) := by show _ = _; rw [HD.out]; unfold okT; rw [hok, hS, decide_eq_true hz]; simp
            clear hok hS
            go_wp2_with (first
              | (refine wpList_load3 rfl _ rfl b (off + i * 3) rfl (0, n, d) ?hA ?_; (case hA => assumption))
              | (refine wpList_alloc3 rfl rfl ?_; intro b5 w2 hT2 hK2 hb5; have HK2 : Hid (Keeps (fun _ => False) w w2) := HKr.out.trans hK2 (fun _ _ h => h); have HB5 : Hid (w.heap.size ≤ b5) := (by have := HKr.out.size; show _ ≤ _; omega); clear hK2 hb5)
              | (refine wpList_store3 rfl _ _ rfl b5 (0, n, d) rfl rfl (0, 0, 0) ?hA ?_; (case hA => assumption); intro w3 hT3 hK3; have HK3 : Hid (Keeps (fun _ => False) w w3) := HK2.out.trans hK3 (fun i hi h => by have := HB5.out; omega); obtain ⟨c0, c1, c2⟩ : w3.cell? ⟨b5, 0, none⟩ = some (.int .i64 0) ∧ w3.cell? ⟨b5, 1, none⟩ = some (.int .i64 n) ∧ w3.cell? ⟨b5, 2, none⟩ = some (.int .i64 d) := hT3.at; clear hK3 hT2 hT3))
            go_roundw
            case rel => exact ⟨i + 1, z + n, by omega, by omega, by omega, rfl, by push_cast; rfl, HX.out, HK3.out⟩
            case measure => simp [intOf]; omega
          · have hz' : 8192 < z + n := by omega
            have HX : Hid (mayF 0 ts = false) := by show _ = _; rw [HD.out]; unfold okT; rw [hok, hS, decide_eq_false hz]; simp
            clear hok hS
            go_wp2_with (first
              | (refine wpList_load3 rfl _ rfl b (off + i * 3) rfl (0, n, d) ?hA ?_; (case hA => assumption))
              | (refine wpList_alloc3 rfl rfl ?_; intro b5 w2 hT2 hK2 hb5; have HK2 : Hid (Keeps (fun _ => False) w w2) := HKr.out.trans hK2 (fun _ _ h => h); have HB5 : Hid (w.heap.size ≤ b5) := (by have := HKr.out.size; show _ ≤ _; omega); clear hK2 hb5)
              | (refine wpList_store3 rfl _ _ rfl b5 (0, n, d) rfl rfl (0, 0, 0) ?hA ?_; (case hA => assumption); intro w3 hT3 hK3; have HK3 : Hid (Keeps (fun _ => False) w w3) := HK2.out.trans hK3 (fun i hi h => by have := HB5.out; omega); obtain ⟨c0, c1, c2⟩ : w3.cell? ⟨b5, 0, none⟩ = some (.int .i64 0) ∧ w3.cell? ⟨b5, 1, none⟩ = some (.int .i64 n) ∧ w3.cell? ⟨b5, 2, none⟩ = some (.int .i64 d) := hT3.at; clear hK3 hT2 hT3))
            go_ret
            exact ⟨by rw [HX.out]; rfl, HK3.out⟩
        · have hk : isB (l, n, d) = false := by simp [isB, hn0]
          have HX : Hid (mayF 0 ts = false) := by show _ = _; rw [HD.out]; unfold okT; rw [hk, eq_false_of_ne_true hok]; simp
          have hbad : n < 3 ∨ (¬ n < 3 ∧ 258 < n) ∨ (¬ n < 3 ∧ ¬ 258 < n ∧ d < 1) ∨ (¬ n < 3 ∧ ¬ 258 < n ∧ ¬ d < 1 ∧ 32768 < d) ∨ (¬ n < 3 ∧ ¬ 258 < n ∧ ¬ d < 1 ∧ ¬ 32768 < d ∧ z < d) ∨ (¬ n < 3 ∧ ¬ 258 < n ∧ ¬ d < 1 ∧ ¬ 32768 < d ∧ ¬ z < d ∧ ¬ l = 0) := by simp [isC] at hok; omega
          clear hok hk
          rcases hbad with h1 | ⟨h1, h2⟩ | ⟨h1, h2, h3⟩ | ⟨h1, h2, h3, h4⟩ | ⟨h1, h2, h3, h4, h5⟩ | ⟨h1, h2, h3, h4, h5, h6⟩
          all_goals
            go_wp2_with (first
              | (refine wpList_load3 rfl _ rfl b (off + i * 3) rfl (l, n, d) ?hA ?_; (case hA => assumption))
              | (refine wpList_alloc3 rfl rfl ?_; intro b5 w2 hT2 hK2 hb5; have HK2 : Hid (Keeps (fun _ => False) w w2) := HKr.out.trans hK2 (fun _ _ h => h); have HB5 : Hid (w.heap.size ≤ b5) := (by have := HKr.out.size; show _ ≤ _; omega); clear hK2 hb5)
              | (refine wpList_store3 rfl _ _ rfl b5 (l, n, d) rfl rfl (0, 0, 0) ?hA ?_; (case hA => assumption); intro w3 hT3 hK3; have HK3 : Hid (Keeps (fun _ => False) w w3) := HK2.out.trans hK3 (fun i hi h => by have := HB5.out; omega); obtain ⟨c0, c1, c2⟩ : w3.cell? ⟨b5, 0, none⟩ = some (.int .i64 l) ∧ w3.cell? ⟨b5, 1, none⟩ = some (.int .i64 n) ∧ w3.cell? ⟨b5, 2, none⟩ = some (.int .i64 d) := hT3.at; clear hK3 hT2 hT3))
            go_ret
            exact ⟨by rw [HX.out]; rfl, HK3.out⟩
    · obtain rfl : i = N := by omega
      have HX : Hid (mayF 0 ts = true) := by
        show _ = _
        rw [← HW.out.1, ← HN.out, List.drop_length]; rfl
      go_wp2
      go_ret
      exact ⟨by rw [HX.out]; rfl, HW.out.2⟩

end Go.Proofs.Ytebjooebdehlnaa.Mt

namespace Go.Proofs.Ytebjooebdehlnaa.Mt
open Go.RowKit
set_option linter.unusedVariables false
set_option linter.unusedSimpArgs false

/-- Bytes that a call owns. -/
def OwnB (w : World) (base : Nat) (v : Value) (xs : List Nat) : Prop := w.ownsRow base 5 1 v xs.length (xs.map byteV)
theorem OwnB.nil (w : World) (base : Nat) : OwnB w base (.slice none 0 0) [] := World.ownsRow_nil w base 5 1
theorem OwnB.kept {S : Nat → Prop} {w w' : World} {base : Nat} {v : Value} {xs : List Nat} (h : OwnB w base v xs) (hk : Keeps S w w') (hb : ∀ k, v.ownBlock = some k → ¬ S k) : OwnB w' base v xs :=
  owns_heap3 h (fun k e => hk.block k (World.ownsRow.lt h k e).2 (hb k e))
theorem OwnB.keptF {w w' : World} {base : Nat} {v : Value} {xs : List Nat} (h : OwnB w base v xs) (hk : Keeps (fun _ => False) w w') : OwnB w' base v xs := h.kept hk (fun _ _ h => h)
theorem OwnB.cell {w : World} {base : Nat} {v : Value} {xs : List Nat} (h : OwnB w base v xs) (i : Nat) (hi : i < xs.length) : ∃ g cap, v = .slice (some ⟨g, 0, none⟩) xs.length cap ∧ w.cell? ⟨g, i, none⟩ = some (.int .u8 (yb xs i : Int)) := by
  obtain ⟨g, cap, rfl, _, _⟩ := World.ownsRow.form h (by omega)
  refine ⟨g, cap, rfl, (owns_cell h i _ ?_).1⟩
  rw [List.getElem?_map, List.getElem?_eq_getElem hi, yb_eq i hi]; rfl

theorem info5 : (Try.prog.info? 5).map (fun i => (i.zero, i.size, i.bytes)) = some (some (.int .u8 0), 1, 1) := by kernel_rfl

end Go.Proofs.Ytebjooebdehlnaa.Mt

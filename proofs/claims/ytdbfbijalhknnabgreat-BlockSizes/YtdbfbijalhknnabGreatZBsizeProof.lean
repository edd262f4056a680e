/-
  A stored block is five bytes longer than its text, a fixed one as long as its codes, and nothing at all is two bytes: BlockSizes, for all texts.
-/
import Derived.Test.YtdbfbijalhknnabGreatRows
import Derived.Test.YtdbfbijalhknnabGreatG20
import Derived.OpenShut
import Derived.Deep.Slices
import Derived.ProofKit
import Derived.ShutString
import Derived.ChangeOld
import Derived.Below
namespace Go.Proofs.YtdbfbijalhknnabGreat.Mt
open Go.RowKit
set_option linter.unusedVariables false
set_option linter.unusedSimpArgs false

set_option maxHeartbeats 4000000 in
set_option maxRecDepth 1000000 in
theorem sameT_yes (a a' : Option Addr) (ts : List Tk) (cap cap' : Nat) (w : World) (h : RowT w a ts) (h' : RowT w a' ts) (hn : ts.length ≤ 1125899906842624) :
    Calls Tryz.prog 46 #[.slice a ts.length cap, .slice a' ts.length cap'] w fun e w' => e = .returned (.bool true) ∧ Keeps (fun _ => False) w w' := by
  have HA : Hid (RowT w a ts) := h
  have HB : Hid (RowT w a' ts) := h'
  clear h h'
  generalize hL : ts.length = n at *
  have HL : Hid (ts.length = n) := hL
  clear hL
  go_enter Tryz.func46, Tryz.ntmps46
  go_wp2
  go_loopw [5] (fun s5 w' => ∃ i : Nat, i ≤ n ∧ s5 = .int .i64 (i : Int) ∧ Hid (Keeps (fun _ => False) w w')) (fun s5 w' => ((n : Int) - intOf s5).toNat)
  case atStart => exact ⟨0, by omega, rfl, Keeps.refl _ _⟩
  case round =>
    obtain ⟨i, hi, rfl, HK⟩ := hrel
    by_cases hin : i < n
    · have hiz : (i : Int) < (n : Int) := by omega
      have hil : i < ts.length := by rw [HL.out]; exact hin
      obtain ⟨b, off, rfl, hb, hc⟩ := HA.out.at (by omega)
      obtain ⟨b', off', rfl, hb', hc'⟩ := HB.out.at (by omega)
      have t1 := hc wr HK.out i hil
      have t2 := hc' wr HK.out i hil
      clear hc hc'
      obtain ⟨⟨l, m, d⟩, ht⟩ : ∃ t, tk ts i = t := ⟨_, rfl⟩
      rw [ht] at t1 t2
      obtain ⟨c0, c1, c2⟩ : wr.cell? ⟨b, off + i * 3, none⟩ = some (.int .i64 l) ∧ wr.cell? ⟨b, off + i * 3 + 1, none⟩ = some (.int .i64 m) ∧ wr.cell? ⟨b, off + i * 3 + 2, none⟩ = some (.int .i64 d) := t1
      obtain ⟨d0, d1, d2⟩ : wr.cell? ⟨b', off' + i * 3, none⟩ = some (.int .i64 l) ∧ wr.cell? ⟨b', off' + i * 3 + 1, none⟩ = some (.int .i64 m) ∧ wr.cell? ⟨b', off' + i * 3 + 2, none⟩ = some (.int .i64 d) := t2
      clear ht
      go_wp2
      go_quiet (fail)
      have HK' : Hid (Keeps (fun _ => False) w (wr.drewN nq)) := HK.out.drewN nq
      generalize wr.drewN nq = wn at *
      clear c0 c1 c2 d0 d1 d2 HK
      go_wp2
      go_roundw
      case rel => exact ⟨i + 1, by omega, by push_cast; rfl, HK'⟩
      case measure => simp [intOf]; omega
    · obtain rfl : i = n := by omega
      go_wp2
      go_ret
      exact ⟨rfl, HK.out⟩

/-- A slice that came in, for an append: nil, or somewhere. -/
def Came (a : Option Addr) (n cap : Nat) : Prop := (a = none ∧ n = 0 ∧ cap = 0) ∨ ∃ x, a = some x
theorem tkVs_at {ts : List Tk} {j : Nat} {u : Value} (h : (tkVs ts)[j]? = some u) : j / 3 < ts.length ∧ u = (match j % 3 with | 0 => .int .i64 (tk ts (j / 3)).1 | 1 => .int .i64 (tk ts (j / 3)).2.1 | _ => .int .i64 (tk ts (j / 3)).2.2) := by
  have hj : j < ts.length * 3 := by have := (List.getElem?_eq_some_iff.1 h).1; rwa [tkVs_length] at this
  have hq : j / 3 < ts.length := by omega
  refine ⟨hq, ?_⟩
  obtain ⟨e0, e1, e2⟩ := tkVs_get ts (j / 3) hq
  obtain h3 | h3 | h3 : j % 3 = 0 ∨ j % 3 = 1 ∨ j % 3 = 2 := by omega
  · rw [show j / 3 * 3 = j by omega, h] at e0; rw [h3]; exact Option.some.inj e0
  · rw [show j / 3 * 3 + 1 = j by omega, h] at e1; rw [h3]; exact Option.some.inj e1
  · rw [show j / 3 * 3 + 2 = j by omega, h] at e2; rw [h3]; exact Option.some.inj e2
theorem RowT.news {w : World} {x : Addr} {ts : List Tk} (h : RowT w (some x) ts) (j : Nat) (u : Value) (hu : (tkVs ts)[j]? = some u) : w.cell? (x.add j) = some u := by
  obtain ⟨hq, rfl⟩ := tkVs_at hu
  rcases h with h | ⟨b, off, e, _, hc⟩
  · subst h; simp at hq
  · simp only [Option.some.injEq] at e
    subst e
    rw [Addr.add_mid]
    obtain ⟨c0, c1, c2⟩ := hc (j / 3) hq
    obtain h3 | h3 | h3 : j % 3 = 0 ∨ j % 3 = 1 ∨ j % 3 = 2 := by omega
    · rw [show off + j / 3 * 3 = off + j by omega] at c0; rw [h3]; exact c0
    · rw [show off + j / 3 * 3 + 1 = off + j by omega] at c1; rw [h3]; exact c1
    · rw [show off + j / 3 * 3 + 2 = off + j by omega] at c2; rw [h3]; exact c2
set_option maxRecDepth 100000 in
theorem append_anyT (w : World) (base : Nat) (v : Value) (n : Nat) (xs : List Value) (hown : w.ownsRow base 39 3 v n xs) (a : Option Addr) (ts : List Tk) (cap : Nat) (hR : RowT w a ts) (hA : Came a ts.length cap) (hb : base ≤ w.heap.size) (hsz : (n + ts.length) * 24 ≤ 140737488355328) :
    ∃ v' w', (Builtin.append_ #[22, 22] 22 #[v, .slice a ts.length cap]).run Tryz.prog w = .ok v' w' ∧ w'.ownsRow base 39 3 v' (n + ts.length) (xs ++ tkVs ts) ∧ w.grownBy w' v.ownBlock := by
  obtain ⟨i, hi, h1, h2, h3⟩ : ∃ i, Tryz.prog.info? 39 = some i ∧ i.zero = some (.agg #[.int .i64 0, .int .i64 0, .int .i64 0]) ∧ i.bytes = 24 ∧ i.size = 3 := ⟨Tryz.t39, Tryz.type39, rfl, rfl, rfl⟩
  have hml : n + ts.length ≤ maxLen := by unfold maxLen; omega
  rcases hA with ⟨rfl, h0, rfl⟩ | ⟨x, rfl⟩
  · have hy : ts = [] := List.length_eq_zero_iff.1 h0
    subst hy
    exact ⟨v, w, run_append_owned_none (P := Tryz.prog) w base 22 22 39 i 3 Tryz.underlying22 hi v n xs hown, by simpa [tkVs] using hown, World.grownBy.refl _ _⟩
  · obtain ⟨v', w', hr, ho, hg, _⟩ := run_append_own (P := Tryz.prog) w base 22 22 39 i (.agg #[.int .i64 0, .int .i64 0, .int .i64 0]) 3 24 Tryz.underlying22 hi h1 h3 h2 rfl (by decide) v n xs hown x ts.length cap (tkVs ts) (tkVs_length ts) (fun j u hu => hR.news j u hu) (fun u hu => by obtain ⟨y, rfl⟩ := tkVs_mem _ _ hu; rfl) hml hsz hb
    exact ⟨v', w', hr, ho, hg⟩
theorem wpList_appendT {ops : Array Oper} {rest : List Oper} {o : Oper} {a : Act} {w : World} {Q : Exit → Act → World → Prop} (hgd : o.guard = none) (s x : Operand) (ho : o.op = .call { callee := .builtin .append, args := #[s, x], argTypes := #[22, 22] }) (hty : o.type = 22)
    (base : Nat) (v : Value) (n : Nat) (xs : List Value) (hs : a.eval s = v) (hown : w.ownsRow base 39 3 v n xs) (ad : Option Addr) (ts : List Tk) (cap : Nat) (hx : a.eval x = .slice ad ts.length cap) (hR : RowT w ad ts) (hA : Came ad ts.length cap) (hb : base ≤ w.heap.size) (hsz : (n + ts.length) * 24 ≤ 140737488355328)
    (h : ∀ v' w', w'.ownsRow base 39 3 v' (n + ts.length) (xs ++ tkVs ts) → w.grownBy w' v.ownBlock → wpList Tryz.prog ops Q rest (a.put o.dst v') w') : wpList Tryz.prog ops Q (o :: rest) a w :=
  wpList_plain hgd fun _ hK => by
    obtain ⟨v', w', hr, h2, h3⟩ := append_anyT w base v n xs hown ad ts cap hR hA hb hsz
    unfold Oper.wp execOp
    simp only [ho, hty, resolve, invoke, builtin, Sem.run_bind, Sem.run_pure, Result.andThen_ok, List.map_toArray, List.map_cons, List.map_nil, hs, hx, hr]
    exact hK _ _ (h v' w' h2 h3)

set_option maxHeartbeats 4000000 in
set_option maxRecDepth 1000000 in
theorem copyT_ok (a : Option Addr) (ts : List Tk) (cap : Nat) (w : World) (hR : RowT w a ts) (hA : Came a ts.length cap) (hsz : ts.length * 24 ≤ 140737488355328) :
    Calls Tryz.prog 20 #[.slice a ts.length cap] w fun e w' => ∃ v, e = .returned v ∧ OwnK w' w.heap.size v ts ∧ Keeps (fun _ => False) w w' := by
  have HR : Hid (RowT w a ts) := hR
  have HA : Hid (Came a ts.length cap) := hA
  clear hR hA
  go_enter Tryz.func20, Tryz.ntmps20
  go_wp2_with (first
    | (refine wpList_appendT rfl _ _ rfl rfl w.heap.size (.slice (some ⟨w.heap.size, 0, none⟩) 0 0) 0 [] rfl ?hown a ts cap rfl (HR.out.keptF ((Keeps.refl _ w).alloc _)) HA.out ?hb ?hsz ?_; (case hown => exact World.ownsRow_lit w #[] 0 (Nat.le_refl _) (by decide) rfl); (case hb => simp); (case hsz => omega); intro v w2 hO hG))
  go_ret
  refine ⟨v, rfl, by simpa [OwnK] using hO, ((Keeps.refl (fun _ => False) w).alloc (Obj.cells #[] 39)).grown hG (fun k hk e => ?_)⟩
  simp [Value.ownBlock] at e; omega

theorem owns_ge {w : World} {base : Nat} {e : TypeId} {size : Nat} {v : Value} {n : Nat} {xs : List Value} (h : w.ownsRow base e size v n xs) (k : Nat) (hk : v.ownBlock = some k) : base ≤ k := by
  rcases h.2 with ⟨rfl, _⟩ | ⟨g, cap, cur, rfl, hb, _⟩
  · simp [Value.ownBlock] at hk
  · simp [Value.ownBlock] at hk; omega
def marks : List Tk := [(77777, 0, 0), (77777, 0, 0)]
/-- Lent: the tokens, and two marks behind them. -/
def LentT (w : World) (g : Nat) (ts : List Tk) (cap : Nat) : Prop :=
  g < w.heap.size ∧ ts.length + 2 ≤ cap ∧ ∀ i, i < ts.length + 2 → TkAt w g (i * 3) (tk (ts ++ marks) i)
theorem LentT.kept {S : Nat → Prop} {w w' : World} {g cap : Nat} {ts : List Tk} (h : LentT w g ts cap) (hk : Keeps S w w') (hg : ¬ S g) : LentT w' g ts cap :=
  ⟨Nat.lt_of_lt_of_le h.1 hk.size, h.2.1, fun i hi => (h.2.2 i hi).kept hk h.1 hg⟩
theorem tk_left (ts us : List Tk) (i : Nat) (h : i < ts.length) : tk (ts ++ us) i = tk ts i := by
  simp [tk, List.getD, List.getElem?_append_left h]
theorem tk_right (ts us : List Tk) (i : Nat) : tk (ts ++ us) (ts.length + i) = tk us i := by
  simp [tk, List.getD, List.getElem?_append_right]
theorem LentT.row {w : World} {g cap : Nat} {ts : List Tk} (h : LentT w g ts cap) : RowT w (some ⟨g, 0, none⟩) ts :=
  .inr ⟨g, 0, rfl, h.1, fun i hi => by rw [Nat.zero_add, ← tk_left ts marks i hi]; exact h.2.2 i (by omega)⟩

set_option maxHeartbeats 4000000 in
set_option maxRecDepth 1000000 in
theorem lendT_ok (a : Option Addr) (ts : List Tk) (cap : Nat) (w : World) (hR : RowT w a ts) (hA : Came a ts.length cap) (hsz : ts.length * 24 + 4096 ≤ 140737488355328) :
    Calls Tryz.prog 8 #[.slice a ts.length cap] w fun e w' => ∃ g c, e = .returned (.slice (some ⟨g, 0, none⟩) ts.length c) ∧ LentT w' g ts c ∧ Keeps (fun _ => False) w w' ∧ w.heap.size ≤ g := by
  have HC : Hid (Calls Tryz.prog 20 #[.slice a ts.length cap] w fun e w' => ∃ v, e = .returned v ∧ OwnK w' w.heap.size v ts ∧ Keeps (fun _ => False) w w') := copyT_ok a ts cap w hR hA (by omega)
  clear hR hA
  go_enter Tryz.func8, Tryz.ntmps8
  go_wp2_with (first
    | (go_at_call 20; refine HC.out.mono ?_; rintro e w1 ⟨v, rfl, hO, hK1⟩; have HO : Hid (OwnK w1 w.heap.size v ts) := hO; have HK1 : Hid (Keeps (fun _ => False) w w1) := hK1; clear hO hK1)
    | (refine wpList_appendT rfl _ _ rfl rfl w.heap.size v ts.length (tkVs ts) rfl (HO.out.keptF ((Keeps.refl _ w1).alloc _)) (some ⟨w1.heap.size, 0, none⟩) marks 2 rfl (RowT.lit w1 marks 39) (.inr ⟨_, rfl⟩) ?hb ?hsz ?_; (case hb => exact (HK1.out.alloc _).size); (case hsz => simp [marks]; omega); intro v2 w2 hO2 hG2; obtain ⟨g, c2, rfl, hg, hlt⟩ := hO2.form (by simp [marks]); have hcap : ts.length + 2 ≤ c2 := (by rcases hO2.2 with ⟨e, _⟩ | ⟨g', cap', cur, e, _, _, hn, _⟩; (cases e); (simp only [Value.slice.injEq] at e; simp [marks] at hn; omega)); have HL : Hid (LentT w2 g ts c2) := ⟨hlt, hcap, (by have hO3 : OwnK w2 w.heap.size (.slice (some ⟨g, 0, none⟩) (ts.length + marks.length) c2) (ts ++ marks) := (by unfold OwnK; rw [tkVs_append, List.length_append]; exact hO2); intro i hi; obtain ⟨a3, c3, e3, hr3, _⟩ := hO3.row; simp only [Value.slice.injEq] at e3; obtain ⟨rfl, _⟩ := e3; rcases hr3 with hr3 | ⟨b, off, e4, _, hr3⟩; (simp [marks] at hr3); (simp only [Option.some.injEq, Addr.mk.injEq] at e4; obtain ⟨rfl, rfl, _⟩ := e4; have := hr3 i (by simp [marks]; omega); rwa [Nat.zero_add] at this))⟩; have hcz : (ts.length : Int) + 2 ≤ (c2 : Int) := by omega))
  go_ret
  refine ⟨g, c2, rfl, HL.out, (HK1.out.alloc _).grown hG2 (fun k hk e => ?_), hg⟩
  have := owns_ge HO.out k e
  omega

end Go.Proofs.YtdbfbijalhknnabGreat.Mt

namespace Go.Proofs.YtdbfbijalhknnabGreat.Mt
open Go.RowKit
set_option linter.unusedVariables false

theorem tri_open {H : Type} {enc : TypeId × Value → H} {P : Program} {w : World} {base : Nat} {spare : Nat → Bool} {held : Bool} {t e : TypeId} {fa fb fc : Field} {fuel : Nat} {a : Option Addr} {len cap : Nat} {x : DataW H × List MemPlace}
    (ht : P.underlying t = some (.slice e)) (he : P.underlying e = some (.struct #[fa, fb, fc])) (ce : P.cellsOf e = 3) (oa : fa.offset = 0) (ob : fb.offset = 1) (oc : fc.offset = 2)
    (ca : P.cellsOf fa.type = 1) (cb : P.cellsOf fb.type = 1) (cc : P.cellsOf fc.type = 1) (ua : P.underlying fa.type = some (.int .i64)) (ub : P.underlying fb.type = some (.int .i64)) (uc : P.underlying fc.type = some (.int .i64))
    (h : DataW.trod enc P w base spare held fuel t [.slice a len cap] = some x) : ∃ ts : List Tk, ts.length = len ∧ RowT w a ts ∧ Came a len cap ∧ (len = 0 ∨ ∃ el sp, x.1 = .slice el sp ∧ el.length = len) := by
  rcases Deep.open_slice ht h with ⟨h0, _⟩ | ⟨a', len', cap', m, n, D, Pl, hcs, hb, hl, hm, hmm, rfl, hx⟩
  · cases h0; exact ⟨[], rfl, .inl rfl, .inl ⟨rfl, rfl, rfl⟩, .inl rfl⟩
  · cases hcs
    by_cases hz : len = 0
    · exact ⟨[], by simp [hz], .inl rfl, .inr ⟨_, rfl⟩, .inl hz⟩
    have hlm : len ≤ m := by rw [hmm]; split <;> omega
    have each : ∀ i, i < len → ∃ q : Int × Int × Int, w.cell? (a'.add (i * 3)) = some (.int .i64 q.1) ∧ w.cell? (a'.add (i * 3 + 1)) = some (.int .i64 q.2.1) ∧ w.cell? (a'.add (i * 3 + 2)) = some (.int .i64 q.2.2) := by
      intro i hi
      obtain ⟨cs', h1, h2⟩ := hx i (by omega)
      rw [ce] at h1
      obtain ⟨_, hlen, hcell⟩ := World.cells?_some h1
      obtain ⟨xs, k, hk, hxy, _, hxl, hf⟩ := DataW.trod_struct he h2
      match xs, hxl, cs', hlen with
      | [y0, y1, y2], _, [v0, v1, v2], _ =>
        have g0 := hf 0 fa rfl
        have g1 := hf 1 fb rfl
        have g2 := hf 2 fc rfl
        simp [oa, ob, oc, ca, cb, cc] at g0 g1 g2
        obtain ⟨n0, e0, _, _⟩ := DataW.trod_int ua g0
        obtain ⟨n1, e1, _, _⟩ := DataW.trod_int ub g1
        obtain ⟨n2, e2, _, _⟩ := DataW.trod_int uc g2
        simp at e0 e1 e2
        subst e0 e1 e2
        have r0 := hcell 0 (by omega)
        have r1 := hcell 1 (by omega)
        have r2 := hcell 2 (by omega)
        rw [Deep.add_add] at r0 r1 r2
        exact ⟨(n0, n1, n2), by simpa using r0, by simpa using r1, by simpa using r2⟩
    obtain ⟨q, hq⟩ := Deep.choose_lt each
    obtain ⟨b, off, spot⟩ := a'
    have hs0 := (hq 0 (by omega)).1
    have hspot : spot = none := by simpa [Addr.add] using World.cell?_spot hs0
    subst hspot
    refine ⟨(List.range len).map q, by simp, .inr ⟨b, off, rfl, ?_, ?_⟩, .inr ⟨_, rfl⟩, .inr ⟨_, _, rfl, by simp⟩⟩
    · exact World.block_lt_of_cell? w _ (by rw [Addr.add_mid] at hs0; exact hs0)
    · intro i hi
      have hi' : i < len := by simpa using hi
      have := hq i hi'
      simp only [Addr.add_mid] at this
      have e : tk ((List.range len).map q) i = q i := by rw [tk_eq i hi]; simp
      rw [e]
      exact ⟨this.1, by rw [Nat.add_assoc]; exact this.2.1, by rw [Nat.add_assoc]; exact this.2.2⟩

end Go.Proofs.YtdbfbijalhknnabGreat.Mt

namespace Go.Proofs.YtdbfbijalhknnabGreat.Bk
open Go.RowKit
open Hf Tb
open Mt (Tk RowT mayF sumZ expF)
set_option linter.unusedVariables false
set_option linter.unusedSimpArgs false

theorem bytesOf_lt (s : ByteArray) : ∀ c ∈ bytesOf s, c < 256 := by
  intro c hc
  simp only [bytesOf, List.mem_map] at hc
  obtain ⟨u, _, rfl⟩ := hc
  exact UInt8.toNat_lt _
theorem textOf_bytes (s : ByteArray) : textOf (bytesOf s) = s := by
  unfold textOf bytesOf
  rw [List.map_map]
  have : (UInt8.ofNat ∘ UInt8.toNat) = id := by funext u; simp
  rw [this, List.map_id]
theorem stored_back (s : ByteArray) (hs : s.size ≤ 300) (w : World) : Calls Tryz.prog 18 #[.string (textOf (pack (storeB (bytesOf s)))), .int .i64 300] w fun e w' => e = .returned (.tuple #[.string s, .int .i64 ((pack (storeB (bytesOf s))).length : Int), .int .i64 0]) ∧ Keeps (fun _ => False) w w' := by
  have h1 := inflB_stored (bytesOf s) [] (bytesOf_lt s) (by rw [bytesOf_length]; omega) 300 (by rw [bytesOf_length]; omega) (by omega)
  rw [List.append_nil] at h1
  have := inf_of h1 (by rw [pack_length, storeB_length, bytesOf_length]; omega) w
  rw [textOf_bytes] at this; exact this

set_option maxHeartbeats 8000000 in
set_option maxRecDepth 100000 in
theorem back_st (s : ByteArray) (a : Option Addr) (ts : List Tk) (cap : Nat) (w : World) (hs : s.size ≤ 300) (hb : s.size ≤ 281474976710656) (hR : RowT w a ts) (hl : ts.length ≤ 9223372036854775806) (hm : mayT ts = true) :
    Calls Tryz.prog 4 #[.string s, .slice a ts.length cap] w fun e w' => e = .returned (.bool true) ∧ Keeps (fun _ => False) w w' := by
  have HA := hide (awake8 w)
  obtain ⟨A, hA⟩ : ∃ A, textOf (pack (storeB (bytesOf s))) = A := ⟨_, rfl⟩
  obtain ⟨na, hna⟩ : ∃ n, (pack (storeB (bytesOf s))).length = n := ⟨_, rfl⟩
  have hza : A.size = na := by rw [← hA, textOf_size, hna]
  have hla : na ≤ 100000 := by rw [← hna, pack_length, storeB_length, bytesOf_length]; omega
  have HS : Hid (∀ w, Calls Tryz.prog 9 #[.string s] w (StrPost A 0 w)) := fun w => by have := stored_ok8 s w hs; rw [hA] at this; exact this
  have HI : Hid (∀ w, Calls Tryz.prog 18 #[.string A, .int .i64 300] w fun e w' => e = .returned (.tuple #[.string s, .int .i64 (na : Int), .int .i64 0]) ∧ Keeps (fun _ => False) w w') := fun w => by have := stored_back s hs w; rw [hA, hna] at this; exact this
  clear hA hna
  obtain ⟨B, hB⟩ : ∃ B, textOf (pack (fixedB ts)) = B := ⟨_, rfl⟩
  obtain ⟨C, hC⟩ : ∃ C, textOf (pack (dynOf ts)) = C := ⟨_, rfl⟩
  obtain ⟨X, hX⟩ : ∃ X, textOf (expF [] ts) = X := ⟨_, rfl⟩
  obtain ⟨nb, hnb⟩ : ∃ n, (pack (fixedB ts)).length = n := ⟨_, rfl⟩
  obtain ⟨nc, hnc⟩ : ∃ n, (pack (dynOf ts)).length = n := ⟨_, rfl⟩
  have hzb : B.size = nb := by rw [← hB, textOf_size, hnb]
  have hzc : C.size = nc := by rw [← hC, textOf_size, hnc]
  have hlb : nb ≤ 100000 := by rw [← hnb]; exact fixOf_len hm
  have hlc : nc ≤ 100000 := by rw [← hnc]; exact dynOf_len hm
  have HF : Hid (∀ w, RowT w a ts → Calls Tryz.prog 11 #[.slice a ts.length cap] w (StrPost B 0 w)) := fun w hr => by have := fixed_ok8 a ts cap w hr hm; rw [hB] at this; exact this
  have HD : Hid (∀ w, RowT w a ts → Calls Tryz.prog 13 #[.slice a ts.length cap] w (StrPost C 0 w)) := fun w hr => by have := dynamic_ok8 a ts cap w hr hm; rw [hC] at this; exact this
  have HE : Hid (∀ w, RowT w a ts → Calls Tryz.prog 19 #[.slice a ts.length cap] w fun e w' => e = .returned (.tuple #[.string X, .int .i64 0]) ∧ Keeps (fun _ => False) w w') := fun w hr => by have := Mt.expand_ok a ts cap w hr hl (mayT_is hm).1; rw [hX] at this; exact this
  have HIB : Hid (∀ w, Calls Tryz.prog 18 #[.string B, .int .i64 300] w fun e w' => e = .returned (.tuple #[.string X, .int .i64 (nb : Int), .int .i64 0]) ∧ Keeps (fun _ => False) w w') := fun w => by
    have h1 := fix_back hm 300 (mayT_is hm).2.1 (by omega) []
    rw [List.append_nil] at h1
    have := inf_of h1 (fixOf_len hm) w
    rw [hB, hnb, hX] at this; exact this
  have HIC : Hid (∀ w, Calls Tryz.prog 18 #[.string C, .int .i64 300] w fun e w' => e = .returned (.tuple #[.string X, .int .i64 (nc : Int), .int .i64 0]) ∧ Keeps (fun _ => False) w w') := fun w => by
    have h1 := dyn_back hm 300 (mayT_is hm).2.1 (by omega) []
    rw [List.append_nil] at h1
    have := inf_of h1 (dynOf_len hm) w
    rw [hC, hnc, hX] at this; exact this
  clear hB hC hX hnb hnc
  have HR := hide hR
  generalize ts.length = N at *
  clear hR hl hm hb hs
  go_enter Tryz.func4, Tryz.ntmps4
  go_wp2_with fail
  refine (HA.out).mono ?_
  rintro e w1 ⟨rfl, hk1⟩
  have H1 : Hid (RowT w1 a ts ∧ Keeps (fun _ => False) w w1) := ⟨RowT.keptF HR.out hk1, hk1⟩
  clear hk1 HR
  go_wp2_with fail
  refine (HS.out w1).mono ?_
  rintro e w2 ⟨rfl, hk2⟩
  have H2 : Hid (RowT w2 a ts ∧ Keeps (fun _ => False) w w2) := ⟨RowT.keptF H1.out.1 hk2, H1.out.2.trans hk2 (fun _ _ h => h)⟩
  clear hk2 H1
  go_wp2_with fail
  refine (HF.out w2 H2.out.1).mono ?_
  rintro e w3 ⟨rfl, hk3⟩
  have H3 : Hid (RowT w3 a ts ∧ Keeps (fun _ => False) w w3) := ⟨RowT.keptF H2.out.1 hk3, H2.out.2.trans hk3 (fun _ _ h => h)⟩
  clear hk3 H2
  go_wp2_with fail
  refine (HD.out w3 H3.out.1).mono ?_
  rintro e w4 ⟨rfl, hk4⟩
  have H4 : Hid (RowT w4 a ts ∧ Keeps (fun _ => False) w w4) := ⟨RowT.keptF H3.out.1 hk4, H3.out.2.trans hk4 (fun _ _ h => h)⟩
  clear hk4 H3
  go_wp2_with (first
    | (go_at_call 15; refine (num_any _ _).mono ?_; rintro e w' ⟨rfl, hw⟩; obtain rfl := hw.symm; clear hw))
  refine (HI.out w4).mono ?_
  rintro e w5 ⟨rfl, hk5⟩
  have H5 : Hid (RowT w5 a ts ∧ Keeps (fun _ => False) w w5) := ⟨RowT.keptF H4.out.1 hk5, H4.out.2.trans hk5 (fun _ _ h => h)⟩
  clear hk5 H4
  go_wp2_with (first
    | (go_at_call 15; refine (num_any _ _).mono ?_; rintro e w' ⟨rfl, hw⟩; obtain rfl := hw.symm; clear hw))
  refine (HE.out w5 H5.out.1).mono ?_
  rintro e w6 ⟨rfl, hk6⟩
  have H6 : Hid (RowT w6 a ts ∧ Keeps (fun _ => False) w w6) := ⟨RowT.keptF H5.out.1 hk6, H5.out.2.trans hk6 (fun _ _ h => h)⟩
  clear hk6 H5
  go_wp2_with (first
    | (go_at_call 15; refine (num_any _ _).mono ?_; rintro e w' ⟨rfl, hw⟩; obtain rfl := hw.symm; clear hw))
  refine (HIB.out w6).mono ?_
  rintro e w7 ⟨rfl, hk7⟩
  have H7 : Hid (RowT w7 a ts ∧ Keeps (fun _ => False) w w7) := ⟨RowT.keptF H6.out.1 hk7, H6.out.2.trans hk7 (fun _ _ h => h)⟩
  clear hk7 H6
  go_wp2_with (first
    | (go_at_call 15; refine (num_any _ _).mono ?_; rintro e w' ⟨rfl, hw⟩; obtain rfl := hw.symm; clear hw))
  refine (HIC.out w7).mono ?_
  rintro e w8 ⟨rfl, hk8⟩
  have H8 : Hid (RowT w8 a ts ∧ Keeps (fun _ => False) w w8) := ⟨RowT.keptF H7.out.1 hk8, H7.out.2.trans hk8 (fun _ _ h => h)⟩
  clear hk8 H7
  go_wp2_with (first
    | (go_at_call 15; refine (num_any _ _).mono ?_; rintro e w' ⟨rfl, hw⟩; obtain rfl := hw.symm; clear hw))
  go_ret
  exact ⟨rfl, H8.out.2⟩

set_option maxHeartbeats 8000000 in
set_option maxRecDepth 100000 in
theorem back_sf (s : ByteArray) (a : Option Addr) (ts : List Tk) (cap : Nat) (w : World) (hs : s.size ≤ 300) (hb : s.size ≤ 281474976710656) (hR : RowT w a ts) (hl : ts.length ≤ 9223372036854775806) (hm : mayT ts = false) :
    Calls Tryz.prog 4 #[.string s, .slice a ts.length cap] w fun e w' => e = .returned (.bool true) ∧ Keeps (fun _ => False) w w' := by
  have HA := hide (awake8 w)
  obtain ⟨A, hA⟩ : ∃ A, textOf (pack (storeB (bytesOf s))) = A := ⟨_, rfl⟩
  obtain ⟨na, hna⟩ : ∃ n, (pack (storeB (bytesOf s))).length = n := ⟨_, rfl⟩
  have hza : A.size = na := by rw [← hA, textOf_size, hna]
  have hla : na ≤ 100000 := by rw [← hna, pack_length, storeB_length, bytesOf_length]; omega
  have HS : Hid (∀ w, Calls Tryz.prog 9 #[.string s] w (StrPost A 0 w)) := fun w => by have := stored_ok8 s w hs; rw [hA] at this; exact this
  have HI : Hid (∀ w, Calls Tryz.prog 18 #[.string A, .int .i64 300] w fun e w' => e = .returned (.tuple #[.string s, .int .i64 (na : Int), .int .i64 0]) ∧ Keeps (fun _ => False) w w') := fun w => by have := stored_back s hs w; rw [hA, hna] at this; exact this
  clear hA hna
  have HF : Hid (∀ w, RowT w a ts → Calls Tryz.prog 11 #[.slice a ts.length cap] w (StrPost ⟨#[]⟩ 800 w)) := fun w hr => fixed_bad a ts cap w hr hl hm
  have HD : Hid (∀ w, RowT w a ts → Calls Tryz.prog 13 #[.slice a ts.length cap] w (StrPost ⟨#[]⟩ 800 w)) := fun w hr => dynamic_bad a ts cap w hr hl hm
  have HR := hide hR
  generalize ts.length = N at *
  clear hR hl hm hb hs
  go_enter Tryz.func4, Tryz.ntmps4
  go_wp2_with fail
  refine (HA.out).mono ?_
  rintro e w1 ⟨rfl, hk1⟩
  have H1 : Hid (RowT w1 a ts ∧ Keeps (fun _ => False) w w1) := ⟨RowT.keptF HR.out hk1, hk1⟩
  clear hk1 HR
  go_wp2_with fail
  refine (HS.out w1).mono ?_
  rintro e w2 ⟨rfl, hk2⟩
  have H2 : Hid (RowT w2 a ts ∧ Keeps (fun _ => False) w w2) := ⟨RowT.keptF H1.out.1 hk2, H1.out.2.trans hk2 (fun _ _ h => h)⟩
  clear hk2 H1
  go_wp2_with fail
  refine (HF.out w2 H2.out.1).mono ?_
  rintro e w3 ⟨rfl, hk3⟩
  have H3 : Hid (RowT w3 a ts ∧ Keeps (fun _ => False) w w3) := ⟨RowT.keptF H2.out.1 hk3, H2.out.2.trans hk3 (fun _ _ h => h)⟩
  clear hk3 H2
  go_wp2_with fail
  refine (HD.out w3 H3.out.1).mono ?_
  rintro e w4 ⟨rfl, hk4⟩
  have H4 : Hid (RowT w4 a ts ∧ Keeps (fun _ => False) w w4) := ⟨RowT.keptF H3.out.1 hk4, H3.out.2.trans hk4 (fun _ _ h => h)⟩
  clear hk4 H3
  go_wp2_with (first
    | (go_at_call 15; refine (num_any _ _).mono ?_; rintro e w' ⟨rfl, hw⟩; obtain rfl := hw.symm; clear hw))
  refine (HI.out w4).mono ?_
  rintro e w5 ⟨rfl, hk5⟩
  have H5 : Hid (RowT w5 a ts ∧ Keeps (fun _ => False) w w5) := ⟨RowT.keptF H4.out.1 hk5, H4.out.2.trans hk5 (fun _ _ h => h)⟩
  clear hk5 H4
  go_wp2_with (first
    | (go_at_call 15; refine (num_any _ _).mono ?_; rintro e w' ⟨rfl, hw⟩; obtain rfl := hw.symm; clear hw))
  go_ret
  exact ⟨rfl, H5.out.2⟩

set_option maxHeartbeats 8000000 in
set_option maxRecDepth 100000 in
theorem back_nt (s : ByteArray) (a : Option Addr) (ts : List Tk) (cap : Nat) (w : World) (hs : ¬ s.size ≤ 300) (hb : s.size ≤ 281474976710656) (hR : RowT w a ts) (hl : ts.length ≤ 9223372036854775806) (hm : mayT ts = true) :
    Calls Tryz.prog 4 #[.string s, .slice a ts.length cap] w fun e w' => e = .returned (.bool true) ∧ Keeps (fun _ => False) w w' := by
  have HA := hide (awake8 w)
  have HS : Hid (∀ w, Calls Tryz.prog 9 #[.string s] w (StrPost ⟨#[]⟩ 800 w)) := fun w => stored_bad8 s w hs hb
  obtain ⟨B, hB⟩ : ∃ B, textOf (pack (fixedB ts)) = B := ⟨_, rfl⟩
  obtain ⟨C, hC⟩ : ∃ C, textOf (pack (dynOf ts)) = C := ⟨_, rfl⟩
  obtain ⟨X, hX⟩ : ∃ X, textOf (expF [] ts) = X := ⟨_, rfl⟩
  obtain ⟨nb, hnb⟩ : ∃ n, (pack (fixedB ts)).length = n := ⟨_, rfl⟩
  obtain ⟨nc, hnc⟩ : ∃ n, (pack (dynOf ts)).length = n := ⟨_, rfl⟩
  have hzb : B.size = nb := by rw [← hB, textOf_size, hnb]
  have hzc : C.size = nc := by rw [← hC, textOf_size, hnc]
  have hlb : nb ≤ 100000 := by rw [← hnb]; exact fixOf_len hm
  have hlc : nc ≤ 100000 := by rw [← hnc]; exact dynOf_len hm
  have HF : Hid (∀ w, RowT w a ts → Calls Tryz.prog 11 #[.slice a ts.length cap] w (StrPost B 0 w)) := fun w hr => by have := fixed_ok8 a ts cap w hr hm; rw [hB] at this; exact this
  have HD : Hid (∀ w, RowT w a ts → Calls Tryz.prog 13 #[.slice a ts.length cap] w (StrPost C 0 w)) := fun w hr => by have := dynamic_ok8 a ts cap w hr hm; rw [hC] at this; exact this
  have HE : Hid (∀ w, RowT w a ts → Calls Tryz.prog 19 #[.slice a ts.length cap] w fun e w' => e = .returned (.tuple #[.string X, .int .i64 0]) ∧ Keeps (fun _ => False) w w') := fun w hr => by have := Mt.expand_ok a ts cap w hr hl (mayT_is hm).1; rw [hX] at this; exact this
  have HIB : Hid (∀ w, Calls Tryz.prog 18 #[.string B, .int .i64 300] w fun e w' => e = .returned (.tuple #[.string X, .int .i64 (nb : Int), .int .i64 0]) ∧ Keeps (fun _ => False) w w') := fun w => by
    have h1 := fix_back hm 300 (mayT_is hm).2.1 (by omega) []
    rw [List.append_nil] at h1
    have := inf_of h1 (fixOf_len hm) w
    rw [hB, hnb, hX] at this; exact this
  have HIC : Hid (∀ w, Calls Tryz.prog 18 #[.string C, .int .i64 300] w fun e w' => e = .returned (.tuple #[.string X, .int .i64 (nc : Int), .int .i64 0]) ∧ Keeps (fun _ => False) w w') := fun w => by
    have h1 := dyn_back hm 300 (mayT_is hm).2.1 (by omega) []
    rw [List.append_nil] at h1
    have := inf_of h1 (dynOf_len hm) w
    rw [hC, hnc, hX] at this; exact this
  clear hB hC hX hnb hnc
  have HR := hide hR
  generalize ts.length = N at *
  clear hR hl hm hb hs
  go_enter Tryz.func4, Tryz.ntmps4
  go_wp2_with fail
  refine (HA.out).mono ?_
  rintro e w1 ⟨rfl, hk1⟩
  have H1 : Hid (RowT w1 a ts ∧ Keeps (fun _ => False) w w1) := ⟨RowT.keptF HR.out hk1, hk1⟩
  clear hk1 HR
  go_wp2_with fail
  refine (HS.out w1).mono ?_
  rintro e w2 ⟨rfl, hk2⟩
  have H2 : Hid (RowT w2 a ts ∧ Keeps (fun _ => False) w w2) := ⟨RowT.keptF H1.out.1 hk2, H1.out.2.trans hk2 (fun _ _ h => h)⟩
  clear hk2 H1
  go_wp2_with fail
  refine (HF.out w2 H2.out.1).mono ?_
  rintro e w3 ⟨rfl, hk3⟩
  have H3 : Hid (RowT w3 a ts ∧ Keeps (fun _ => False) w w3) := ⟨RowT.keptF H2.out.1 hk3, H2.out.2.trans hk3 (fun _ _ h => h)⟩
  clear hk3 H2
  go_wp2_with fail
  refine (HD.out w3 H3.out.1).mono ?_
  rintro e w4 ⟨rfl, hk4⟩
  have H4 : Hid (RowT w4 a ts ∧ Keeps (fun _ => False) w w4) := ⟨RowT.keptF H3.out.1 hk4, H3.out.2.trans hk4 (fun _ _ h => h)⟩
  clear hk4 H3
  go_wp2_with (first
    | (go_at_call 15; refine (num_any _ _).mono ?_; rintro e w' ⟨rfl, hw⟩; obtain rfl := hw.symm; clear hw))
  refine (HE.out w4 H4.out.1).mono ?_
  rintro e w5 ⟨rfl, hk5⟩
  have H5 : Hid (RowT w5 a ts ∧ Keeps (fun _ => False) w w5) := ⟨RowT.keptF H4.out.1 hk5, H4.out.2.trans hk5 (fun _ _ h => h)⟩
  clear hk5 H4
  go_wp2_with (first
    | (go_at_call 15; refine (num_any _ _).mono ?_; rintro e w' ⟨rfl, hw⟩; obtain rfl := hw.symm; clear hw))
  refine (HIB.out w5).mono ?_
  rintro e w6 ⟨rfl, hk6⟩
  have H6 : Hid (RowT w6 a ts ∧ Keeps (fun _ => False) w w6) := ⟨RowT.keptF H5.out.1 hk6, H5.out.2.trans hk6 (fun _ _ h => h)⟩
  clear hk6 H5
  go_wp2_with (first
    | (go_at_call 15; refine (num_any _ _).mono ?_; rintro e w' ⟨rfl, hw⟩; obtain rfl := hw.symm; clear hw))
  refine (HIC.out w6).mono ?_
  rintro e w7 ⟨rfl, hk7⟩
  have H7 : Hid (RowT w7 a ts ∧ Keeps (fun _ => False) w w7) := ⟨RowT.keptF H6.out.1 hk7, H6.out.2.trans hk7 (fun _ _ h => h)⟩
  clear hk7 H6
  go_wp2_with (first
    | (go_at_call 15; refine (num_any _ _).mono ?_; rintro e w' ⟨rfl, hw⟩; obtain rfl := hw.symm; clear hw))
  go_ret
  exact ⟨rfl, H7.out.2⟩

set_option maxHeartbeats 8000000 in
set_option maxRecDepth 100000 in
theorem back_nf (s : ByteArray) (a : Option Addr) (ts : List Tk) (cap : Nat) (w : World) (hs : ¬ s.size ≤ 300) (hb : s.size ≤ 281474976710656) (hR : RowT w a ts) (hl : ts.length ≤ 9223372036854775806) (hm : mayT ts = false) :
    Calls Tryz.prog 4 #[.string s, .slice a ts.length cap] w fun e w' => e = .returned (.bool true) ∧ Keeps (fun _ => False) w w' := by
  have HA := hide (awake8 w)
  have HS : Hid (∀ w, Calls Tryz.prog 9 #[.string s] w (StrPost ⟨#[]⟩ 800 w)) := fun w => stored_bad8 s w hs hb
  have HF : Hid (∀ w, RowT w a ts → Calls Tryz.prog 11 #[.slice a ts.length cap] w (StrPost ⟨#[]⟩ 800 w)) := fun w hr => fixed_bad a ts cap w hr hl hm
  have HD : Hid (∀ w, RowT w a ts → Calls Tryz.prog 13 #[.slice a ts.length cap] w (StrPost ⟨#[]⟩ 800 w)) := fun w hr => dynamic_bad a ts cap w hr hl hm
  have HR := hide hR
  generalize ts.length = N at *
  clear hR hl hm hb hs
  go_enter Tryz.func4, Tryz.ntmps4
  go_wp2_with fail
  refine (HA.out).mono ?_
  rintro e w1 ⟨rfl, hk1⟩
  have H1 : Hid (RowT w1 a ts ∧ Keeps (fun _ => False) w w1) := ⟨RowT.keptF HR.out hk1, hk1⟩
  clear hk1 HR
  go_wp2_with fail
  refine (HS.out w1).mono ?_
  rintro e w2 ⟨rfl, hk2⟩
  have H2 : Hid (RowT w2 a ts ∧ Keeps (fun _ => False) w w2) := ⟨RowT.keptF H1.out.1 hk2, H1.out.2.trans hk2 (fun _ _ h => h)⟩
  clear hk2 H1
  go_wp2_with fail
  refine (HF.out w2 H2.out.1).mono ?_
  rintro e w3 ⟨rfl, hk3⟩
  have H3 : Hid (RowT w3 a ts ∧ Keeps (fun _ => False) w w3) := ⟨RowT.keptF H2.out.1 hk3, H2.out.2.trans hk3 (fun _ _ h => h)⟩
  clear hk3 H2
  go_wp2_with fail
  refine (HD.out w3 H3.out.1).mono ?_
  rintro e w4 ⟨rfl, hk4⟩
  have H4 : Hid (RowT w4 a ts ∧ Keeps (fun _ => False) w w4) := ⟨RowT.keptF H3.out.1 hk4, H3.out.2.trans hk4 (fun _ _ h => h)⟩
  clear hk4 H3
  go_wp2_with (first
    | (go_at_call 15; refine (num_any _ _).mono ?_; rintro e w' ⟨rfl, hw⟩; obtain rfl := hw.symm; clear hw))
  go_ret
  exact ⟨rfl, H4.out.2⟩

theorem back_walk (s : ByteArray) (a : Option Addr) (len cap : Nat) (ts : List Tk) (w : World) (hs : s.size ≤ 140737488355328) (h : ts.length = len ∧ RowT w a ts ∧ Mt.Came a len cap ∧ len * 24 + 4096 ≤ 140737488355328) :
    Calls Tryz.prog 4 #[.string s, .slice a len cap] w fun e w' => e = .returned (.bool true) ∧ Below w.heap.size w w' := by
  obtain ⟨rfl, hR, _, hl⟩ := h
  have key : Calls Tryz.prog 4 #[.string s, .slice a ts.length cap] w fun e w' => e = .returned (.bool true) ∧ Keeps (fun _ => False) w w' := by
    by_cases h3 : s.size ≤ 300
    · cases hm : mayT ts with
      | true => exact back_st s a ts cap w h3 (by omega) hR (by omega) hm
      | false => exact back_sf s a ts cap w h3 (by omega) hR (by omega) hm
    · cases hm : mayT ts with
      | true => exact back_nt s a ts cap w h3 (by omega) hR (by omega) hm
      | false => exact back_nf s a ts cap w h3 (by omega) hR (by omega) hm
  refine key.mono ?_
  rintro e w' ⟨rfl, hk⟩
  exact ⟨rfl, hk.below _ (Nat.le_refl _) (fun _ h => h.elim)⟩

end Go.Proofs.YtdbfbijalhknnabGreat.Bk

namespace Go.Proofs.YtdbfbijalhknnabGreat.Bk
open Go.RowKit
open Hf Tb
open Mt (Tk RowT mayF okT sumZ expF OwnK sz)
set_option linter.unusedVariables false
set_option linter.unusedSimpArgs false

/-! ### A text byte by byte -/
def litT (xs : List Nat) : List Tk := xs.map (fun c : Nat => ((c : Int), 0, 0))
theorem litT_len (xs : List Nat) : (litT xs).length = xs.length := by simp [litT]
theorem litT_snoc (xs : List Nat) (c : Nat) : litT (xs ++ [c]) = litT xs ++ [((c : Int), 0, 0)] := by simp [litT]
theorem litT_sum : ∀ (xs : List Nat), sumZ (litT xs) = (xs.length : Int)
  | [] => rfl
  | c :: r => by
    have := litT_sum r
    have e : litT (c :: r) = ((c : Int), 0, 0) :: litT r := rfl
    rw [e, Mt.sumZ, this, List.length_cons]
    have : sz ((c : Int), 0, 0) = 1 := by show max (1 : Int) 0 = 1; decide
    rw [this]; omega
theorem litT_may : ∀ (xs : List Nat) (a : Int), (∀ c ∈ xs, c < 256) → 0 ≤ a → a + (xs.length : Int) ≤ 8192 → mayF a (litT xs) = true
  | [], a, _, _, _ => rfl
  | c :: r, a, h, h0, hl => by
    have hc := h c (by simp)
    have e : litT (c :: r) = ((c : Int), 0, 0) :: litT r := rfl
    have hz : sz ((c : Int), 0, 0) = 1 := by show max (1 : Int) 0 = 1; decide
    rw [List.length_cons] at hl
    have hk : okT ((c : Int), 0, 0) a = true := by
      unfold okT
      rw [hz]
      have : Mt.isB ((c : Int), 0, 0) = true := by simp [Mt.isB]; omega
      rw [this, Bool.true_or, Bool.true_and]
      exact decide_eq_true (by omega)
    rw [e, mayF, hk, hz, Bool.true_and]
    exact litT_may r (a + 1) (fun x hx => h x (by simp [hx])) (by omega) (by omega)
theorem litT_exp : ∀ (xs o : List Nat), expF o (litT xs) = o ++ xs
  | [], o => by simp [litT, expF]
  | c :: r, o => by
    have e : litT (c :: r) = ((c : Int), 0, 0) :: litT r := rfl
    have ih := litT_exp r (o ++ [c])
    unfold expF at ih ⊢
    rw [e, List.foldl_cons]
    have : Mt.putT o ((c : Int), 0, 0) = o ++ [c] := by simp [Mt.putT]
    rw [this, ih]; simp
theorem litT_mayT (s : ByteArray) (h : s.size ≤ 300) : mayT (litT (bytesOf s)) = true := by
  unfold mayT
  rw [litT_may (bytesOf s) 0 (bytesOf_lt s) (by omega) (by rw [bytesOf_length]; omega), litT_sum, bytesOf_length, Bool.true_and]
  exact decide_eq_true (by omega)
theorem take_bytes (s : ByteArray) (i : Nat) (h : i < s.size) : (bytesOf s).take (i + 1) = (bytesOf s).take i ++ [s[i].toNat] := by
  have hb : i < (bytesOf s).length := by rw [bytesOf_length]; exact h
  have e1 := bytesOf_get s i h
  rw [List.getD, List.getElem?_eq_getElem hb] at e1
  simp only [Option.getD_some] at e1
  rw [List.take_add_one, List.getElem?_eq_getElem hb, e1]; rfl
theorem own_rowT {w : World} {base : Nat} {v : Value} {ts : List Tk} (h : OwnK w base v ts) : ∃ a cap, v = .slice a ts.length cap ∧ RowT w a ts := by
  obtain ⟨a, cap, e, hR, _⟩ := h.row
  exact ⟨a, cap, e, hR⟩

set_option maxHeartbeats 4000000 in
set_option maxRecDepth 100000 in
theorem same_f (a : Option Addr) (ts : List Tk) (cap : Nat) (w : World) (hR : RowT w a ts) (hl : ts.length ≤ 9223372036854775806) (hm : mayT ts = false) :
    Calls Tryz.prog 7 #[.slice a ts.length cap] w fun e w' => e = .returned (.bool true) ∧ Keeps (fun _ => False) w w' := by
  have HA := hide (awake8 w)
  have HD : Hid (∀ w, RowT w a ts → Calls Tryz.prog 13 #[.slice a ts.length cap] w (StrPost ⟨#[]⟩ 800 w)) := fun w hr => dynamic_bad a ts cap w hr hl hm
  have HR := hide hR
  generalize ts.length = N at *
  clear hR hl hm
  go_enter Tryz.func7, Tryz.ntmps7
  go_wp2_with fail
  refine HA.out.mono ?_
  rintro e w1 ⟨rfl, hk1⟩
  have H1 := hide hk1
  clear hk1 HA
  go_wp2_with fail
  refine (HD.out w1 (RowT.keptF HR.out H1.out)).mono ?_
  rintro e w2 ⟨rfl, hk2⟩
  have H2 := hide (H1.out.trans hk2 (fun _ _ h => h))
  clear hk2 HD H1
  go_wp2_with (first
    | (go_at_call 15; refine (num_any _ _).mono ?_; rintro e w' ⟨rfl, hw⟩; obtain rfl := hw.symm; clear hw))
  go_ret
  exact ⟨rfl, H2.out⟩

set_option maxHeartbeats 8000000 in
set_option maxRecDepth 100000 in
theorem same_t (a : Option Addr) (ts : List Tk) (cap : Nat) (w : World) (hR : RowT w a ts) (hl : ts.length ≤ 9223372036854775806) (hm : mayT ts = true) :
    Calls Tryz.prog 7 #[.slice a ts.length cap] w fun e w' => e = .returned (.bool true) ∧ Keeps (fun _ => False) w w' := by
  have HA := hide (awake8 w)
  obtain ⟨C, hC⟩ : ∃ C, textOf (pack (dynOf ts)) = C := ⟨_, rfl⟩
  obtain ⟨X, hX⟩ : ∃ X, textOf (expF [] ts) = X := ⟨_, rfl⟩
  obtain ⟨nc, hnc⟩ : ∃ n, (pack (dynOf ts)).length = n := ⟨_, rfl⟩
  have hXs : X.size ≤ 300 := by
    rw [← hX, exp_size (mayT_is hm).1]
    have := (mayT_is hm).2.1; omega
  have hm2 := litT_mayT X hXs
  obtain ⟨D, hD⟩ : ∃ D, textOf (pack (dynOf (litT (bytesOf X)))) = D := ⟨_, rfl⟩
  obtain ⟨nd, hnd⟩ : ∃ n, (pack (dynOf (litT (bytesOf X)))).length = n := ⟨_, rfl⟩
  have HD : Hid (∀ w, RowT w a ts → Calls Tryz.prog 13 #[.slice a ts.length cap] w (StrPost C 0 w)) := fun w hr => by have := dynamic_ok8 a ts cap w hr hm; rw [hC] at this; exact this
  have HIC : Hid (∀ w, Calls Tryz.prog 18 #[.string C, .int .i64 300] w fun e w' => e = .returned (.tuple #[.string X, .int .i64 (nc : Int), .int .i64 0]) ∧ Keeps (fun _ => False) w w') := fun w => by
    have h1 := dyn_back hm 300 (mayT_is hm).2.1 (by omega) []
    rw [List.append_nil] at h1
    have := inf_of h1 (dynOf_len hm) w
    rw [hC, hnc, hX] at this; exact this
  have HD2 : Hid (∀ a cap w, RowT w a (litT (bytesOf X)) → Calls Tryz.prog 13 #[.slice a X.size cap] w (StrPost D 0 w)) := fun a cap w hr => by
    have := dynamic_ok8 a (litT (bytesOf X)) cap w hr hm2
    rw [hD, litT_len, bytesOf_length] at this; exact this
  have HID : Hid (∀ w, Calls Tryz.prog 18 #[.string D, .int .i64 300] w fun e w' => e = .returned (.tuple #[.string X, .int .i64 (nd : Int), .int .i64 0]) ∧ Keeps (fun _ => False) w w') := fun w => by
    have h1 := dyn_back hm2 300 (mayT_is hm2).2.1 (by omega) []
    rw [List.append_nil] at h1
    have := inf_of h1 (dynOf_len hm2) w
    rw [hD, hnd, litT_exp, List.nil_append, textOf_bytes] at this; exact this
  have HR := hide hR
  have hxz : (X.size : Int) ≤ 300 := by omega
  generalize ts.length = N at *
  clear hR hl hm hC hX hnc hm2 hD hnd
  go_enter Tryz.func7, Tryz.ntmps7
  go_wp2_with fail
  refine HA.out.mono ?_
  rintro e w1 ⟨rfl, hk1⟩
  have H1 := hide hk1
  clear hk1 HA
  go_wp2_with fail
  refine (HD.out w1 (RowT.keptF HR.out H1.out)).mono ?_
  rintro e w2 ⟨rfl, hk2⟩
  have H2 := hide (H1.out.trans hk2 (fun _ _ h => h))
  clear hk2 HD H1
  go_wp2_with (first
    | (go_at_call 15; refine (num_any _ _).mono ?_; rintro e w' ⟨rfl, hw⟩; obtain rfl := hw.symm; clear hw))
  refine (HIC.out w2).mono ?_
  rintro e w3 ⟨rfl, hk3⟩
  have H3 : Hid (OwnK w3 w.heap.size (.slice none 0 0) (litT ((bytesOf X).take 0)) ∧ Keeps (fun _ => False) w w3) := ⟨Mt.OwnK.nil _ _, H2.out.trans hk3 (fun _ _ h => h)⟩
  clear hk3 HIC H2 HR
  go_wp2_with fail
  go_loopw [8, 9] (fun s8 s9 w' => ∃ (i : Nat) (v : Value), s8 = v ∧ i ≤ X.size ∧ s9 = .int .i64 (i : Int) ∧ Hid (OwnK w' w.heap.size v (litT ((bytesOf X).take i)) ∧ Keeps (fun _ => False) w w')) (fun s8 s9 w' => ((X.size : Int) - intOf s9).toNat)
  case atStart => exact ⟨0, _, rfl, by omega, rfl, H3⟩
  case round =>
    clear H3
    obtain ⟨i, v, hv, hi, rfl, HW⟩ := hrel
    obtain rfl := hv.symm
    clear hv
    by_cases hin : i < X.size
    · have hiz : (i : Int) < (X.size : Int) := by omega
      have hll : (litT ((bytesOf X).take i)).length ≤ 300 := by rw [litT_len, List.length_take]; omega
      have hwr : IntKind.i64.wrap (X[i].toNat : Int) = (X[i].toNat : Int) := wrap_i64_small _ (by omega) (by have := X[i].toNat_lt; omega)
      have HT : Hid (litT ((bytesOf X).take (i + 1)) = litT ((bytesOf X).take i) ++ [((X[i].toNat : Int), 0, 0)]) := by
        show _ = _
        rw [take_bytes X i hin, litT_snoc]
      go_wp2_with (first
        | (refine Mt.wpList_tok rfl _ _ rfl rfl w.heap.size v (litT ((bytesOf X).take i)) rfl ?hown wr.heap.size ((X[i].toNat : Int), 0, 0) rfl ?hR ?hb ?hn ?_; (case hown => exact HW.out.1.keptF ((Keeps.refl _ _).alloc _)); (case hR => exact (Mt.Tkb.new _ ((X[i].toNat : Int), 0, 0)).at); (case hb => exact (HW.out.2.alloc _).size); (case hn => omega); intro g4 c4 w6 hO6 hG6 hg6; have HW6 : Hid (OwnK w6 w.heap.size (.slice (some ⟨g4, 0, none⟩) ((litT ((bytesOf X).take i)).length + 1) c4) (litT ((bytesOf X).take (i + 1))) ∧ Keeps (fun _ => False) w w6) := ⟨(by rw [HT.out]; exact hO6), (HW.out.2.alloc _).grown hG6 (fun b hb e => by have := (World.ownsRow.lt HW.out.1 b e).1; omega)⟩; clear hO6 hG6 hg6))
      go_roundw
      case rel => exact ⟨i + 1, _, rfl, by omega, by push_cast; rfl, HW6⟩
      case measure => simp [intOf]; omega
    · obtain rfl : i = X.size := by omega
      have et : (bytesOf X).take X.size = bytesOf X := List.take_of_length_le (by rw [bytesOf_length]; omega)
      have hO := HW.out.1
      rw [et] at hO
      obtain ⟨a4, c4, rfl, hR4⟩ := own_rowT hO
      rw [litT_len, bytesOf_length]
      have HD4 := hide (HD2.out a4 c4 wr hR4)
      have H4 := hide HW.out.2
      clear hO hR4 HW et HD2
      go_wp2_with fail
      refine HD4.out.mono ?_
      rintro e w5 ⟨rfl, hk5⟩
      have H5 := hide (H4.out.trans hk5 (fun _ _ h => h))
      clear hk5 HD4 H4
      go_wp2_with fail
      refine (HID.out w5).mono ?_
      rintro e w6 ⟨rfl, hk6⟩
      have H6 := hide (H5.out.trans hk6 (fun _ _ h => h))
      clear hk6 HID H5
      go_wp2_with (first
        | (go_at_call 15; refine (num_any _ _).mono ?_; rintro e w' ⟨rfl, hw⟩; obtain rfl := hw.symm; clear hw))
      go_ret
      exact ⟨rfl, H6.out⟩
theorem same_walk (a : Option Addr) (len cap : Nat) (ts : List Tk) (w : World) (h : ts.length = len ∧ RowT w a ts ∧ Mt.Came a len cap ∧ len * 24 + 4096 ≤ 140737488355328) :
    Calls Tryz.prog 7 #[.slice a len cap] w fun e w' => e = .returned (.bool true) ∧ Below w.heap.size w w' := by
  obtain ⟨rfl, hR, _, hl⟩ := h
  have key : Calls Tryz.prog 7 #[.slice a ts.length cap] w fun e w' => e = .returned (.bool true) ∧ Keeps (fun _ => False) w w' := by
    cases hm : mayT ts with
    | true => exact same_t a ts cap w hR (by omega) hm
    | false => exact same_f a ts cap w hR (by omega) hm
  refine key.mono ?_
  rintro e w' ⟨rfl, hk⟩
  exact ⟨rfl, hk.below _ (Nat.le_refl _) (fun _ h => h.elim)⟩

end Go.Proofs.YtdbfbijalhknnabGreat.Bk

namespace Go.Proofs.YtdbfbijalhknnabGreat.Bk
open Go.RowKit
open Hf Tb
open Mt (Tk RowT mayF okT sumZ expF OwnK sz)
set_option linter.unusedVariables false
set_option linter.unusedSimpArgs false

def fxC (c : Nat) : Nat := if 144 ≤ c then 9 else 8
def fxN (xs : List Nat) : Nat := 10 + (xs.map fxC).sum
theorem fxN_snoc (xs : List Nat) (c : Nat) : fxN (xs ++ [c]) = fxN xs + fxC c := by simp [fxN]; omega
theorem fxN_le (xs : List Nat) : fxN xs ≤ 10 + 9 * xs.length := by
  induction xs with
  | nil => simp [fxN]
  | cons c r ih =>
    have : fxC c ≤ 9 := by unfold fxC; split <;> omega
    simp only [fxN, List.map_cons, List.sum_cons, List.length_cons] at *; omega
theorem fix_len : ∀ i : Fin 256, (at_ fixLs i.val).toNat = fxC i.val := by decide +kernel
theorem fix_bits : ∀ (xs : List Nat), (∀ c ∈ xs, c < 256) → (tksB fixLs fiveLs (litT xs)).length = (xs.map fxC).sum
  | [], _ => rfl
  | c :: r, h => by
    have e : tksB fixLs fiveLs (litT (c :: r)) = tkB fixLs fiveLs ((c : Int), 0, 0) ++ tksB fixLs fiveLs (litT r) := by simp [tksB, litT]
    have e2 : tkB fixLs fiveLs ((c : Int), 0, 0) = codeB fixLs c := by unfold tkB; rw [if_pos rfl]; rfl
    rw [e, e2, List.length_append, fix_bits r (fun x hx => h x (by simp [hx])), codeB_length, fix_len ⟨c, h c (by simp)⟩, List.map_cons, List.sum_cons]
theorem fix_size (s : ByteArray) : (pack (fixedB (litT (bytesOf s)))).length = (fxN (bytesOf s) + 7) / 8 := by
  have h7 : (codeB fixLs 256).length = 7 := by rw [codeB_length]; decide +kernel
  rw [pack_length]
  unfold fixedB fxN
  simp only [List.length_append, bitsOf_length, fix_bits (bytesOf s) (bytesOf_lt s), h7]
  congr 1; omega
theorem fix_nil : textOf (pack (fixedB [])) = ⟨#[3, 0]⟩ := by decide +kernel

set_option maxHeartbeats 4000000 in
set_option maxRecDepth 100000 in
theorem sizes_long (s : ByteArray) (w : World) (hs : ¬ s.size ≤ 300) (hb : s.size ≤ 281474976710656) :
    Calls Tryz.prog 6 #[.string s] w fun e w' => e = .returned (.bool true) ∧ Keeps (fun _ => False) w w' := by
  have HA := hide (awake8 w)
  have hz : 300 < (s.size : Int) := by omega
  go_enter Tryz.func6, Tryz.ntmps6
  go_wp2_with fail
  refine HA.out.mono ?_
  rintro e w1 ⟨rfl, hk1⟩
  have H1 := hide hk1
  clear hk1 HA
  go_wp2
  go_ret
  exact ⟨rfl, H1.out⟩

set_option maxHeartbeats 8000000 in
set_option maxRecDepth 100000 in
theorem sizes_ok (s : ByteArray) (w : World) (hs : s.size ≤ 300) :
    Calls Tryz.prog 6 #[.string s] w fun e w' => e = .returned (.bool true) ∧ Keeps (fun _ => False) w w' := by
  have HA := hide (awake8 w)
  have hz : ¬ 300 < (s.size : Int) := by omega
  have hm := litT_mayT s hs
  obtain ⟨A, hA⟩ : ∃ A, textOf (pack (storeB (bytesOf s))) = A := ⟨_, rfl⟩
  have hza : A.size = s.size + 5 := by rw [← hA, textOf_size, pack_length, storeB_length, bytesOf_length]; omega
  obtain ⟨B, hB⟩ : ∃ B, textOf (pack (fixedB (litT (bytesOf s)))) = B := ⟨_, rfl⟩
  obtain ⟨nb, hnb⟩ : ∃ n, (pack (fixedB (litT (bytesOf s)))).length = n := ⟨_, rfl⟩
  have hzb : B.size = nb := by rw [← hB, textOf_size, hnb]
  have hnn : nb = (fxN (bytesOf s) + 7) / 8 := by rw [← hnb, fix_size]
  have hfl := fxN_le (bytesOf s)
  rw [bytesOf_length] at hfl
  have HS : Hid (∀ w, Calls Tryz.prog 9 #[.string s] w (StrPost A 0 w)) := fun w => by have := stored_ok8 s w hs; rw [hA] at this; exact this
  have HF : Hid (∀ a cap w, RowT w a (litT (bytesOf s)) → Calls Tryz.prog 11 #[.slice a s.size cap] w (StrPost B 0 w)) := fun a cap w hr => by
    have := fixed_ok8 a (litT (bytesOf s)) cap w hr hm
    rw [hB, litT_len, bytesOf_length] at this; exact this
  have HN : Hid (∀ w, Calls Tryz.prog 11 #[.slice none 0 0] w (StrPost ⟨#[3, 0]⟩ 0 w)) := fun w => by
    have := fixed_ok8 none [] 0 w (.inl rfl) (by decide)
    rw [fix_nil] at this; exact this
  have HI : Hid (∀ w, Calls Tryz.prog 18 #[.string B, .int .i64 300] w fun e w' => e = .returned (.tuple #[.string s, .int .i64 (nb : Int), .int .i64 0]) ∧ Keeps (fun _ => False) w w') := fun w => by
    have h1 := fix_back hm 300 (mayT_is hm).2.1 (by omega) []
    rw [List.append_nil] at h1
    have := inf_of h1 (fixOf_len hm) w
    rw [hB, hnb, litT_exp, List.nil_append, textOf_bytes] at this; exact this
  have hsz : (s.size : Int) ≤ 300 := by omega
  clear hA hB hnb hm
  go_enter Tryz.func6, Tryz.ntmps6
  go_wp2_with fail
  refine HA.out.mono ?_
  rintro e w1 ⟨rfl, hk1⟩
  have H1 := hide hk1
  clear hk1 HA
  go_wp2_with fail
  refine (HS.out w1).mono ?_
  rintro e w2 ⟨rfl, hk2⟩
  have H2 : Hid (OwnK w2 w.heap.size (.slice none 0 0) (litT ((bytesOf s).take 0)) ∧ Keeps (fun _ => False) w w2) := ⟨Mt.OwnK.nil _ _, H1.out.trans hk2 (fun _ _ h => h)⟩
  clear hk2 HS H1
  go_wp2_with fail
  go_loopw [5, 6, 7] (fun s5 s6 s7 w' => ∃ (i : Nat) (v : Value), s5 = v ∧ i ≤ s.size ∧ s6 = .int .i64 ((fxN ((bytesOf s).take i) : Nat) : Int) ∧ s7 = .int .i64 (i : Int) ∧ Hid (OwnK w' w.heap.size v (litT ((bytesOf s).take i)) ∧ Keeps (fun _ => False) w w')) (fun s5 s6 s7 w' => ((s.size : Int) - intOf s7).toNat)
  case atStart => exact ⟨0, _, rfl, by omega, rfl, rfl, H2⟩
  case round =>
    clear H2
    obtain ⟨i, v, hv, hi, rfl, rfl, HW⟩ := hrel
    obtain rfl := hv.symm
    clear hv
    by_cases hin : i < s.size
    · have hiz : (i : Int) < (s.size : Int) := by omega
      have hll : (litT ((bytesOf s).take i)).length ≤ 300 := by rw [litT_len, List.length_take]; omega
      have hwr : IntKind.i64.wrap (s[i].toNat : Int) = (s[i].toNat : Int) := wrap_i64_small _ (by omega) (by have := s[i].toNat_lt; omega)
      have HT : Hid (litT ((bytesOf s).take (i + 1)) = litT ((bytesOf s).take i) ++ [((s[i].toNat : Int), 0, 0)] ∧ fxN ((bytesOf s).take (i + 1)) = fxN ((bytesOf s).take i) + fxC s[i].toNat) := by
        rw [take_bytes s i hin, litT_snoc, fxN_snoc]; exact ⟨rfl, rfl⟩
      have hfi := fxN_le ((bytesOf s).take i)
      rw [List.length_take] at hfi
      obtain ⟨n, hn⟩ : ∃ n, fxN ((bytesOf s).take i) = n := ⟨_, rfl⟩
      rw [hn] at hfi HT ⊢
      have hnz : (n : Int) ≤ 3000 := by omega
      clear hn hfi
      by_cases h144 : 144 ≤ s[i].toNat
      · have hc1 : (144 : Int) ≤ (s[i].toNat : Int) := by omega
        have HE : Hid (fxN ((bytesOf s).take (i + 1)) = n + 9) := by show _ = _; rw [HT.out.2]; unfold fxC; rw [if_pos h144]
        go_wp2_with (first
          | (refine Mt.wpList_tok rfl _ _ rfl rfl w.heap.size v (litT ((bytesOf s).take i)) rfl ?hown wr.heap.size ((s[i].toNat : Int), 0, 0) rfl ?hR ?hb ?hn ?_; (case hown => exact HW.out.1.keptF ((Keeps.refl _ _).alloc _)); (case hR => exact (Mt.Tkb.new _ ((s[i].toNat : Int), 0, 0)).at); (case hb => exact (HW.out.2.alloc _).size); (case hn => omega); intro g4 c4 w6 hO6 hG6 hg6; have HW6 : Hid (OwnK w6 w.heap.size (.slice (some ⟨g4, 0, none⟩) ((litT ((bytesOf s).take i)).length + 1) c4) (litT ((bytesOf s).take (i + 1))) ∧ Keeps (fun _ => False) w w6) := ⟨(by rw [HT.out.1]; exact hO6), (HW.out.2.alloc _).grown hG6 (fun b hb e => by have := (World.ownsRow.lt HW.out.1 b e).1; omega)⟩; clear hO6 hG6 hg6))
        go_roundw
        case rel => exact ⟨i + 1, _, rfl, by omega, by rw [HE.out]; first | (push_cast; rfl) | (congr 1; omega), by push_cast; rfl, HW6⟩
        case measure => simp [intOf]; omega
      · have hc1 : ¬ (144 : Int) ≤ (s[i].toNat : Int) := by omega
        have HE : Hid (fxN ((bytesOf s).take (i + 1)) = n + 8) := by show _ = _; rw [HT.out.2]; unfold fxC; rw [if_neg h144]
        go_wp2_with (first
          | (refine Mt.wpList_tok rfl _ _ rfl rfl w.heap.size v (litT ((bytesOf s).take i)) rfl ?hown wr.heap.size ((s[i].toNat : Int), 0, 0) rfl ?hR ?hb ?hn ?_; (case hown => exact HW.out.1.keptF ((Keeps.refl _ _).alloc _)); (case hR => exact (Mt.Tkb.new _ ((s[i].toNat : Int), 0, 0)).at); (case hb => exact (HW.out.2.alloc _).size); (case hn => omega); intro g4 c4 w6 hO6 hG6 hg6; have HW6 : Hid (OwnK w6 w.heap.size (.slice (some ⟨g4, 0, none⟩) ((litT ((bytesOf s).take i)).length + 1) c4) (litT ((bytesOf s).take (i + 1))) ∧ Keeps (fun _ => False) w w6) := ⟨(by rw [HT.out.1]; exact hO6), (HW.out.2.alloc _).grown hG6 (fun b hb e => by have := (World.ownsRow.lt HW.out.1 b e).1; omega)⟩; clear hO6 hG6 hg6))
        go_roundw
        case rel => exact ⟨i + 1, _, rfl, by omega, by rw [HE.out]; first | (push_cast; rfl) | (congr 1; omega), by push_cast; rfl, HW6⟩
        case measure => simp [intOf]; omega
    · obtain rfl : i = s.size := by omega
      have et : (bytesOf s).take s.size = bytesOf s := List.take_of_length_le (by rw [bytesOf_length]; omega)
      rw [et]
      obtain ⟨n, hn⟩ : ∃ n, fxN (bytesOf s) = n := ⟨_, rfl⟩
      rw [hn] at hnn hfl ⊢
      have hO := HW.out.1
      rw [et] at hO
      obtain ⟨a4, c4, rfl, hR4⟩ := own_rowT hO
      rw [litT_len, bytesOf_length]
      have HF4 := hide (HF.out a4 c4 wr hR4)
      have H4 := hide HW.out.2
      have hq1 : ((n : Int) + 7).tdiv 8 = (nb : Int) := by rw [Int.tdiv_eq_ediv_of_nonneg (by omega)]; omega
      have hq2 : ((n : Int) + 7) / 8 = (nb : Int) := by omega
      have hnz : (n : Int) ≤ 3000 := by omega
      have hza2 : (A.size : Int) = (s.size : Int) + 5 := by omega
      have hzb2 : (B.size : Int) = (nb : Int) := by omega
      clear hO hR4 HW et HF hn hnn
      go_wp2_with fail
      refine HF4.out.mono ?_
      rintro e w5 ⟨rfl, hk5⟩
      have H5 := hide (H4.out.trans hk5 (fun _ _ h => h))
      clear hk5 HF4 H4
      go_wp2_with fail
      refine (HN.out w5).mono ?_
      rintro e w6 ⟨rfl, hk6⟩
      have H6 := hide (H5.out.trans hk6 (fun _ _ h => h))
      clear hk6 HN H5
      go_wp2_with fail
      refine (HI.out w6).mono ?_
      rintro e w7 ⟨rfl, hk7⟩
      have H7 := hide (H6.out.trans hk7 (fun _ _ h => h))
      clear hk7 HI H6
      go_wp2_with (first
        | (go_at_call 15; refine (num_any _ _).mono ?_; rintro e w' ⟨rfl, hw⟩; obtain rfl := hw.symm; clear hw))
      go_ret
      exact ⟨rfl, H7.out⟩
theorem sizes_walk (s : ByteArray) (w : World) (hs : s.size ≤ 140737488355328) :
    Calls Tryz.prog 6 #[.string s] w fun e w' => e = .returned (.bool true) ∧ Below w.heap.size w w' := by
  have key : Calls Tryz.prog 6 #[.string s] w fun e w' => e = .returned (.bool true) ∧ Keeps (fun _ => False) w w' := by
    by_cases h : s.size ≤ 300
    · exact sizes_ok s w h
    · exact sizes_long s w h (by omega)
  refine key.mono ?_
  rintro e w' ⟨rfl, hk⟩
  exact ⟨rfl, hk.below _ (Nat.le_refl _) (fun _ h => h.elim)⟩

end Go.Proofs.YtdbfbijalhknnabGreat.Bk

namespace Go.Proofs.YtdbfbijalhknnabGreat
open Go.ChangeShapes Go.WideShapes Go.ChangeAt Go.RowKit
open Go.ChangeMaps (open_string shut_string)
open Mt Bk
set_option linter.unusedVariables false

theorem blockSizes_own : ownKnob Tryz.prog.godebug = none := by kernel_rfl
theorem blockSizes_laidOut : laidOutB Tryz.prog = true := by kernel_rfl

set_option maxRecDepth 100000 in
theorem blockSizes_lifted (os : Os) (started : os.Started) (H : Type) (enc : TypeId × Value → H) :
    ReturnsInHanded {} Tryz.checked os 6 .any (Rows.blockSizesSpec.pre6 enc Tryz.prog Tryz.f6 Rows.blockSizesRow.domain false) (Rows.blockSizesSpec.post enc Tryz.prog Tryz.f6 false true false false) := by
  refine returnsInHanded_of_change_sized (C := Tryz.checked) blockSizes_own started (by kernel_rfl) Tryz.func6
    (ChangeSpec.witness6 (enc := enc) (C := Tryz.checked) false ⟨#[], #[.string ⟨#[]⟩], []⟩ 8 (by kernel_rfl) (by kernel_rfl) (by kernel_rfl) (by kernel_rfl)) ?_
  intro W base args ds gs before hval0 hW hcnd hsz0 _
  have hsz : (DataW.weightsEach Tryz.prog (Tryz.f6.params.toList ++ Rows.blockSizesSpec.plain.varTypes Tryz.prog) (ds ++ gs)).all (· ≤ reachBytes) = true := hsz0
  have hval : ∀ (j : Nat) t v, Tryz.f6.params[j]? = some t → args[j]? = some v → Value.okWide Tryz.prog W .any base t v := hval0
  have hW' := hW
  obtain ⟨p, q, hA0, hV, rfl, hfz, hnd⟩ := hW
  have hA : DataW.TrodAll enc Tryz.prog W 0 (fun _ => true) true Tryz.f6.params.toList args.toList ds p := hA0
  rw [Tryz.params6] at hA hval hsz
  obtain ⟨v0, vs0, d0, ds0, p0, q0, hargs, rfl, rfl, h0, r0⟩ := trodAll_cons hA
  obtain ⟨rfl, rfl, rfl⟩ := trodAll_nil r0
  obtain rfl : args = #[v0] := by cases args; simp_all
  obtain ⟨rfl, rfl⟩ := trodVars_none hV
  obtain ⟨a0, rfl, rfl, rfl, w0⟩ := open_string Tryz.underlying9 (hval 0 9 v0 rfl rfl) h0
  clear hA0 hval0
  refine (sizes_walk a0 W (by have := sized_string hsz (j := 0) (t := 9) rfl rfl; rw [Array.length_toList] at this; exact Nat.le_trans this (by decide))).mono fun e W' ⟨he, bel⟩ => ?_
  subst he
  exact ⟨_, rfl, _, _, _, [], [], [], hW', trodAll_mk1 (shut_bool Tryz.underlying4 _), (trodAll_cons_mk (shut_string Tryz.underlying9 w0) trodAll_mk0), rfl, bel.frame _, fun h => by cases h⟩

theorem blockSizes_over : Rows.blockSizesRow.holds Tryz.pinned (OpenSpec.ofChange Rows.blockSizesSpec) :=
  OpenClaim.holds_of_wide 6 Tryz.f6 rfl rfl rfl rfl rfl rfl rfl ⟨rfl, rfl, rfl, rfl, rfl⟩ rfl rfl rfl rfl rfl (by kernel_rfl) Tryz.func6 (by kernel_rfl)
    (of_decide_eq_true (by kernel_rfl)) (by unfold Func.isWrapper; first | (rw [if_pos (by decide +kernel)]; kernel_rfl) | (rw [if_neg (by decide +kernel)]; exact ⟨rfl, rfl⟩))
    (fun os started H enc _ => blockSizes_lifted os started H enc)

theorem blockSizes_holds : Rows.BlockSizesSaid := blockSizes_over

end Go.Proofs.YtdbfbijalhknnabGreat

/-
  Rows of tokens told alike, copied, lent, looked at again, written over.
-/
import Derived.Test.YtgfhpbcibifoeaaExp
namespace Go.Proofs.Ytgfhpbcibifoeaa
open Go.RowKit
set_option linter.unusedVariables false
set_option linter.unusedSimpArgs false

set_option maxHeartbeats 4000000 in
set_option maxRecDepth 1000000 in
theorem sameT_yes (a a' : Option Addr) (ts : List Tk) (cap cap' : Nat) (w : World) (h : RowT w a ts) (h' : RowT w a' ts) (hn : ts.length ≤ 1125899906842624) :
    Calls Try.prog 13 #[.slice a ts.length cap, .slice a' ts.length cap'] w fun e w' => e = .returned (.bool true) ∧ Keeps (fun _ => False) w w' := by
  have HA : Hid (RowT w a ts) := h
  have HB : Hid (RowT w a' ts) := h'
  clear h h'
  generalize hL : ts.length = n at *
  have HL : Hid (ts.length = n) := hL
  clear hL
  go_enter Try.func13, Try.ntmps13
  go_wp2
  go_loopw [5] (fun s5 w' => ∃ i : Nat, i ≤ n ∧ s5 = .int .i64 (i : Int) ∧ Hid (Keeps (fun _ => False) w w')) (fun s5 w' => ((n : Int) - intOf s5).toNat)
  case atStart => exact ⟨0, by omega, rfl, Keeps.refl _ _⟩
  case round =>
    obtain ⟨i, hi, rfl, HK⟩ := hrel
    by_cases hin : i < n
    · have hiz : (i : Int) < (n : Int) := by omega
      have hil : i < ts.length := by rw [HL.out]; exact hin
      obtain ⟨b, off, rfl, hb, hc⟩ := HA.out.at (by omega)
      obtain ⟨b', off', rfl, hb', hc'⟩ := HB.out.at (by omega)
      have t1 := hc wr HK.out i hil
      have t2 := hc' wr HK.out i hil
      clear hc hc'
      obtain ⟨⟨l, m, d⟩, ht⟩ : ∃ t, tk ts i = t := ⟨_, rfl⟩
      rw [ht] at t1 t2
      obtain ⟨c0, c1, c2⟩ : wr.cell? ⟨b, off + i * 3, none⟩ = some (.int .i64 l) ∧ wr.cell? ⟨b, off + i * 3 + 1, none⟩ = some (.int .i64 m) ∧ wr.cell? ⟨b, off + i * 3 + 2, none⟩ = some (.int .i64 d) := t1
      obtain ⟨d0, d1, d2⟩ : wr.cell? ⟨b', off' + i * 3, none⟩ = some (.int .i64 l) ∧ wr.cell? ⟨b', off' + i * 3 + 1, none⟩ = some (.int .i64 m) ∧ wr.cell? ⟨b', off' + i * 3 + 2, none⟩ = some (.int .i64 d) := t2
      clear ht
      go_wp2
      go_quiet (fail)
      have HK' : Hid (Keeps (fun _ => False) w (wr.drewN nq)) := HK.out.drewN nq
      generalize wr.drewN nq = wn at *
      clear c0 c1 c2 d0 d1 d2 HK
      go_wp2
      go_roundw
      case rel => exact ⟨i + 1, by omega, by push_cast; rfl, HK'⟩
      case measure => simp [intOf]; omega
    · obtain rfl : i = n := by omega
      go_wp2
      go_ret
      exact ⟨rfl, HK.out⟩

/-- A slice that came in, for an append: nil, or somewhere. -/
def Came (a : Option Addr) (n cap : Nat) : Prop := (a = none ∧ n = 0 ∧ cap = 0) ∨ ∃ x, a = some x
theorem tkVs_at {ts : List Tk} {j : Nat} {u : Value} (h : (tkVs ts)[j]? = some u) : j / 3 < ts.length ∧ u = (match j % 3 with | 0 => .int .i64 (tk ts (j / 3)).1 | 1 => .int .i64 (tk ts (j / 3)).2.1 | _ => .int .i64 (tk ts (j / 3)).2.2) := by
  have hj : j < ts.length * 3 := by have := (List.getElem?_eq_some_iff.1 h).1; rwa [tkVs_length] at this
  have hq : j / 3 < ts.length := by omega
  refine ⟨hq, ?_⟩
  obtain ⟨e0, e1, e2⟩ := tkVs_get ts (j / 3) hq
  obtain h3 | h3 | h3 : j % 3 = 0 ∨ j % 3 = 1 ∨ j % 3 = 2 := by omega
  · rw [show j / 3 * 3 = j by omega, h] at e0; rw [h3]; exact Option.some.inj e0
  · rw [show j / 3 * 3 + 1 = j by omega, h] at e1; rw [h3]; exact Option.some.inj e1
  · rw [show j / 3 * 3 + 2 = j by omega, h] at e2; rw [h3]; exact Option.some.inj e2
theorem RowT.news {w : World} {x : Addr} {ts : List Tk} (h : RowT w (some x) ts) (j : Nat) (u : Value) (hu : (tkVs ts)[j]? = some u) : w.cell? (x.add j) = some u := by
  obtain ⟨hq, rfl⟩ := tkVs_at hu
  rcases h with h | ⟨b, off, e, _, hc⟩
  · subst h; simp at hq
  · simp only [Option.some.injEq] at e
    subst e
    rw [Addr.add_mid]
    obtain ⟨c0, c1, c2⟩ := hc (j / 3) hq
    obtain h3 | h3 | h3 : j % 3 = 0 ∨ j % 3 = 1 ∨ j % 3 = 2 := by omega
    · rw [show off + j / 3 * 3 = off + j by omega] at c0; rw [h3]; exact c0
    · rw [show off + j / 3 * 3 + 1 = off + j by omega] at c1; rw [h3]; exact c1
    · rw [show off + j / 3 * 3 + 2 = off + j by omega] at c2; rw [h3]; exact c2
theorem append_anyT (w : World) (base : Nat) (v : Value) (n : Nat) (xs : List Value) (hown : w.ownsRow base 40 3 v n xs) (a : Option Addr) (ts : List Tk) (cap : Nat) (hR : RowT w a ts) (hA : Came a ts.length cap) (hb : base ≤ w.heap.size) (hsz : (n + ts.length) * 24 ≤ 140737488355328) :
    ∃ v' w', (Builtin.append_ #[22, 22] 22 #[v, .slice a ts.length cap]).run Try.prog w = .ok v' w' ∧ w'.ownsRow base 40 3 v' (n + ts.length) (xs ++ tkVs ts) ∧ w.grownBy w' v.ownBlock := by
  obtain ⟨i, hi, h1, h2, h3⟩ : ∃ i, Try.prog.info? 40 = some i ∧ i.zero = some (.agg #[.int .i64 0, .int .i64 0, .int .i64 0]) ∧ i.bytes = 24 ∧ i.size = 3 := ⟨Try.t40, Try.type40, rfl, rfl, rfl⟩
  have hml : n + ts.length ≤ maxLen := by unfold maxLen; omega
  rcases hA with ⟨rfl, h0, rfl⟩ | ⟨x, rfl⟩
  · have hy : ts = [] := List.length_eq_zero_iff.1 h0
    subst hy
    exact ⟨v, w, run_append_owned_none (P := Try.prog) w base 22 22 40 i 3 Try.underlying22 hi v n xs hown, by simpa [tkVs] using hown, World.grownBy.refl _ _⟩
  · obtain ⟨v', w', hr, ho, hg, _⟩ := run_append_own (P := Try.prog) w base 22 22 40 i (.agg #[.int .i64 0, .int .i64 0, .int .i64 0]) 3 24 Try.underlying22 hi h1 h3 h2 rfl (by decide) v n xs hown x ts.length cap (tkVs ts) (tkVs_length ts) (fun j u hu => hR.news j u hu) (fun u hu => by obtain ⟨y, rfl⟩ := tkVs_mem _ _ hu; rfl) hml hsz hb
    exact ⟨v', w', hr, ho, hg⟩
theorem wpList_appendT {ops : Array Oper} {rest : List Oper} {o : Oper} {a : Act} {w : World} {Q : Exit → Act → World → Prop} (hgd : o.guard = none) (s x : Operand) (ho : o.op = .call { callee := .builtin .append, args := #[s, x], argTypes := #[22, 22] }) (hty : o.type = 22)
    (base : Nat) (v : Value) (n : Nat) (xs : List Value) (hs : a.eval s = v) (hown : w.ownsRow base 40 3 v n xs) (ad : Option Addr) (ts : List Tk) (cap : Nat) (hx : a.eval x = .slice ad ts.length cap) (hR : RowT w ad ts) (hA : Came ad ts.length cap) (hb : base ≤ w.heap.size) (hsz : (n + ts.length) * 24 ≤ 140737488355328)
    (h : ∀ v' w', w'.ownsRow base 40 3 v' (n + ts.length) (xs ++ tkVs ts) → w.grownBy w' v.ownBlock → wpList Try.prog ops Q rest (a.put o.dst v') w') : wpList Try.prog ops Q (o :: rest) a w :=
  wpList_plain hgd fun _ hK => by
    obtain ⟨v', w', hr, h2, h3⟩ := append_anyT w base v n xs hown ad ts cap hR hA hb hsz
    unfold Oper.wp execOp
    simp only [ho, hty, resolve, invoke, builtin, Sem.run_bind, Sem.run_pure, Result.andThen_ok, List.map_toArray, List.map_cons, List.map_nil, hs, hx, hr]
    exact hK _ _ (h v' w' h2 h3)

set_option maxHeartbeats 4000000 in
set_option maxRecDepth 1000000 in
theorem copyT_ok (a : Option Addr) (ts : List Tk) (cap : Nat) (w : World) (hR : RowT w a ts) (hA : Came a ts.length cap) (hsz : ts.length * 24 ≤ 140737488355328) :
    Calls Try.prog 20 #[.slice a ts.length cap] w fun e w' => ∃ v, e = .returned v ∧ OwnK w' w.heap.size v ts ∧ Keeps (fun _ => False) w w' := by
  have HR : Hid (RowT w a ts) := hR
  have HA : Hid (Came a ts.length cap) := hA
  clear hR hA
  go_enter Try.func20, Try.ntmps20
  go_wp2_with (first
    | (refine wpList_appendT rfl _ _ rfl rfl w.heap.size (.slice (some ⟨w.heap.size, 0, none⟩) 0 0) 0 [] rfl ?hown a ts cap rfl (HR.out.keptF ((Keeps.refl _ w).alloc _)) HA.out ?hb ?hsz ?_; (case hown => exact World.ownsRow_lit w #[] 0 (Nat.le_refl _) (by decide) rfl); (case hb => simp); (case hsz => omega); intro v w2 hO hG))
  go_ret
  refine ⟨v, rfl, by simpa [OwnK] using hO, ((Keeps.refl (fun _ => False) w).alloc (Obj.cells #[] 40)).grown hG (fun k hk e => ?_)⟩
  simp [Value.ownBlock] at e; omega

theorem owns_ge {w : World} {base : Nat} {e : TypeId} {size : Nat} {v : Value} {n : Nat} {xs : List Value} (h : w.ownsRow base e size v n xs) (k : Nat) (hk : v.ownBlock = some k) : base ≤ k := by
  rcases h.2 with ⟨rfl, _⟩ | ⟨g, cap, cur, rfl, hb, _⟩
  · simp [Value.ownBlock] at hk
  · simp [Value.ownBlock] at hk; omega
def marks : List Tk := [(77777, 0, 0), (77777, 0, 0)]
/-- Lent: the tokens, and two marks behind them. -/
def LentT (w : World) (g : Nat) (ts : List Tk) (cap : Nat) : Prop :=
  g < w.heap.size ∧ ts.length + 2 ≤ cap ∧ ∀ i, i < ts.length + 2 → TkAt w g (i * 3) (tk (ts ++ marks) i)
theorem LentT.kept {S : Nat → Prop} {w w' : World} {g cap : Nat} {ts : List Tk} (h : LentT w g ts cap) (hk : Keeps S w w') (hg : ¬ S g) : LentT w' g ts cap :=
  ⟨Nat.lt_of_lt_of_le h.1 hk.size, h.2.1, fun i hi => (h.2.2 i hi).kept hk h.1 hg⟩
theorem tk_left (ts us : List Tk) (i : Nat) (h : i < ts.length) : tk (ts ++ us) i = tk ts i := by
  simp [tk, List.getD, List.getElem?_append_left h]
theorem tk_right (ts us : List Tk) (i : Nat) : tk (ts ++ us) (ts.length + i) = tk us i := by
  simp [tk, List.getD, List.getElem?_append_right]
theorem LentT.row {w : World} {g cap : Nat} {ts : List Tk} (h : LentT w g ts cap) : RowT w (some ⟨g, 0, none⟩) ts :=
  .inr ⟨g, 0, rfl, h.1, fun i hi => by rw [Nat.zero_add, ← tk_left ts marks i hi]; exact h.2.2 i (by omega)⟩

set_option maxHeartbeats 4000000 in
set_option maxRecDepth 1000000 in
theorem lendT_ok (a : Option Addr) (ts : List Tk) (cap : Nat) (w : World) (hR : RowT w a ts) (hA : Came a ts.length cap) (hsz : ts.length * 24 + 4096 ≤ 140737488355328) :
    Calls Try.prog 8 #[.slice a ts.length cap] w fun e w' => ∃ g c, e = .returned (.slice (some ⟨g, 0, none⟩) ts.length c) ∧ LentT w' g ts c ∧ Keeps (fun _ => False) w w' ∧ w.heap.size ≤ g := by
  have HC : Hid (Calls Try.prog 20 #[.slice a ts.length cap] w fun e w' => ∃ v, e = .returned v ∧ OwnK w' w.heap.size v ts ∧ Keeps (fun _ => False) w w') := copyT_ok a ts cap w hR hA (by omega)
  clear hR hA
  go_enter Try.func8, Try.ntmps8
  go_wp2_with (first
    | (go_at_call 20; refine HC.out.mono ?_; rintro e w1 ⟨v, rfl, hO, hK1⟩; have HO : Hid (OwnK w1 w.heap.size v ts) := hO; have HK1 : Hid (Keeps (fun _ => False) w w1) := hK1; clear hO hK1)
    | (refine wpList_appendT rfl _ _ rfl rfl w.heap.size v ts.length (tkVs ts) rfl (HO.out.keptF ((Keeps.refl _ w1).alloc _)) (some ⟨w1.heap.size, 0, none⟩) marks 2 rfl (RowT.lit w1 marks 40) (.inr ⟨_, rfl⟩) ?hb ?hsz ?_; (case hb => exact (HK1.out.alloc _).size); (case hsz => simp [marks]; omega); intro v2 w2 hO2 hG2; obtain ⟨g, c2, rfl, hg, hlt⟩ := hO2.form (by simp [marks]); have hcap : ts.length + 2 ≤ c2 := (by rcases hO2.2 with ⟨e, _⟩ | ⟨g', cap', cur, e, _, _, hn, _⟩; (cases e); (simp only [Value.slice.injEq] at e; simp [marks] at hn; omega)); have HL : Hid (LentT w2 g ts c2) := ⟨hlt, hcap, (by have hO3 : OwnK w2 w.heap.size (.slice (some ⟨g, 0, none⟩) (ts.length + marks.length) c2) (ts ++ marks) := (by unfold OwnK; rw [tkVs_append, List.length_append]; exact hO2); intro i hi; obtain ⟨a3, c3, e3, hr3, _⟩ := hO3.row; simp only [Value.slice.injEq] at e3; obtain ⟨rfl, _⟩ := e3; rcases hr3 with hr3 | ⟨b, off, e4, _, hr3⟩; (simp [marks] at hr3); (simp only [Option.some.injEq, Addr.mk.injEq] at e4; obtain ⟨rfl, rfl, _⟩ := e4; have := hr3 i (by simp [marks]; omega); rwa [Nat.zero_add] at this))⟩; have hcz : (ts.length : Int) + 2 ≤ (c2 : Int) := by omega))
  go_ret
  refine ⟨g, c2, rfl, HL.out, (HK1.out.alloc _).grown hG2 (fun k hk e => ?_), hg⟩
  have := owns_ge HO.out k e
  omega

end Go.Proofs.Ytgfhpbcibifoeaa

/-
  Rows of numbers lent, held against each other, looked at again, and written over.
-/
import Derived.Test.YthlaeeepbkfkgaaBase
import Derived.BigQuiet
import Derived.OpenShut
namespace Go.Proofs.Ythlaeeepbkfkgaa
open Go.RowKit
set_option linter.unusedVariables false
set_option linter.unusedSimpArgs false

/-- A slice that came in, for an append: nil, or somewhere. -/
def Came (a : Option Addr) (n cap : Nat) : Prop := (a = none ∧ n = 0 ∧ cap = 0) ∨ ∃ x, a = some x
set_option maxRecDepth 100000 in
theorem append_any (w : World) (base : Nat) (v : Value) (n : Nat) (xs : List Value) (hown : w.ownsRow base 3 1 v n xs) (a : Option Addr) (ys : List Int) (cap : Nat) (hR : Row w a ys) (hA : Came a ys.length cap) (hb : base ≤ w.heap.size) (hsz : (n + ys.length) * 8 ≤ 140737488355328) :
    ∃ v' w', (Builtin.append_ #[44, 44] 44 #[v, .slice a ys.length cap]).run Try.prog w = .ok v' w' ∧ w'.ownsRow base 3 1 v' (n + ys.length) (xs ++ intsV ys) ∧ w.grownBy w' v.ownBlock := by
  obtain ⟨i, hi, h1, h2, h3⟩ : ∃ i, Try.prog.info? 3 = some i ∧ i.zero = some (.int .i64 0) ∧ i.bytes = 8 ∧ i.size = 1 := ⟨Try.t3, Try.type3, rfl, rfl, rfl⟩
  have hml : n + ys.length ≤ maxLen := by unfold maxLen; omega
  rcases hA with ⟨rfl, h0, rfl⟩ | ⟨x, rfl⟩
  · have hy : ys = [] := List.length_eq_zero_iff.1 h0
    subst hy
    exact ⟨v, w, run_append_owned_none (P := Try.prog) w base 44 44 3 i 1 Try.underlying44 hi v n xs hown, by simpa [intsV] using hown, World.grownBy.refl _ _⟩
  · obtain ⟨v', w', hr, ho, hg, _⟩ := run_append_own (P := Try.prog) w base 44 44 3 i (.int .i64 0) 1 8 Try.underlying44 hi h1 h3 h2 rfl (by decide) v n xs hown x ys.length cap (intsV ys) (by simp [intsV]) (fun j u hu => by
        have hj : j < ys.length := by have := (List.getElem?_eq_some_iff.1 hu).1; simpa [intsV] using this
        rcases hR with hR | ⟨b', off', e, _, hc⟩
        · subst hR; simp at hj
        · simp only [Option.some.injEq] at e
          subst e
          rw [Addr.add_mid, hc j hj, ← hu]
          simp [intsV, hj]) (fun u hu => by
        simp only [intsV, List.mem_map] at hu
        obtain ⟨y, _, rfl⟩ := hu
        rfl) hml hsz hb
    exact ⟨v', w', hr, ho, hg⟩
theorem wpList_append {ops : Array Oper} {rest : List Oper} {o : Oper} {a : Act} {w : World} {Q : Exit → Act → World → Prop} (hgd : o.guard = none) (s x : Operand) (ho : o.op = .call { callee := .builtin .append, args := #[s, x], argTypes := #[44, 44] }) (hty : o.type = 44)
    (base : Nat) (v : Value) (n : Nat) (xs : List Value) (hs : a.eval s = v) (hown : w.ownsRow base 3 1 v n xs) (ad : Option Addr) (ys : List Int) (cap : Nat) (hx : a.eval x = .slice ad ys.length cap) (hR : Row w ad ys) (hA : Came ad ys.length cap) (hb : base ≤ w.heap.size) (hsz : (n + ys.length) * 8 ≤ 140737488355328)
    (h : ∀ v' w', w'.ownsRow base 3 1 v' (n + ys.length) (xs ++ intsV ys) → w.grownBy w' v.ownBlock → wpList Try.prog ops Q rest (a.put o.dst v') w') : wpList Try.prog ops Q (o :: rest) a w :=
  wpList_plain hgd fun _ hK => by
    obtain ⟨v', w', hr, h2, h3⟩ := append_any w base v n xs hown ad ys cap hR hA hb hsz
    unfold Oper.wp execOp
    simp only [ho, hty, resolve, invoke, builtin, Sem.run_bind, Sem.run_pure, Result.andThen_ok, List.map_toArray, List.map_cons, List.map_nil, hs, hx, hr]
    exact hK _ _ (h v' w' h2 h3)

set_option maxHeartbeats 4000000 in
set_option maxRecDepth 1000000 in
theorem num_any (x : Int) (w : World) : Calls Try.prog 11 #[.int .i64 x] w fun e w' => e = .returned (.int .i64 x) ∧ w' = w := by
  go_enter Try.func11, Try.ntmps11
  go_wp2
  go_ret
  exact ⟨rfl, rfl⟩

/-- Two rows held against each other. -/
theorem at_ne {ys zs : List Int} {i : Nat} (h : at_ ys i ≠ at_ zs i) : ¬ ys = zs := fun e => h (by rw [e])
set_option maxHeartbeats 4000000 in
set_option maxRecDepth 1000000 in
theorem same_ok (a a' : Option Addr) (ys zs : List Int) (cap cap' : Nat) (w : World) (h : Row w a ys) (h' : Row w a' zs) (hn : ys.length ≤ 1125899906842624) (hn' : zs.length ≤ 1125899906842624) :
    Calls Try.prog 64 #[.slice a ys.length cap, .slice a' zs.length cap'] w fun e w' => e = .returned (.bool (decide (ys = zs))) ∧ Keeps (fun _ => False) w w' := by
  have HA : Hid (Row w a ys) := h
  have HB : Hid (Row w a' zs) := h'
  clear h h'
  by_cases hlen : ys.length = zs.length
  · have HZ : Hid (ys.length = zs.length) := hlen
    rw [← hlen] at hn' ⊢
    clear hlen
    obtain ⟨n, hL⟩ : ∃ n, ys.length = n := ⟨_, rfl⟩
    rw [hL] at hn hn' ⊢
    have HL : Hid (ys.length = n) := hL
    clear hL hn'
    obtain ⟨d, hd⟩ : ∃ d, decide (ys = zs) = d := ⟨_, rfl⟩
    rw [hd]
    have HD : Hid (decide (ys = zs) = d) := hd
    clear hd
    go_enter Try.func64, Try.ntmps64
    go_wp2
    go_loopw [5] (fun s5 w' => ∃ i : Nat, i ≤ n ∧ s5 = .int .i64 (i : Int) ∧ Hid (Keeps (fun _ => False) w w' ∧ ∀ j, j < i → at_ ys j = at_ zs j)) (fun s5 w' => ((n : Int) - intOf s5).toNat)
    case atStart => exact ⟨0, by omega, rfl, Keeps.refl _ _, fun j hj => absurd hj (Nat.not_lt_zero _)⟩
    case round =>
      obtain ⟨i, hi, rfl, HK⟩ := hrel
      by_cases hin : i < n
      · have hiz : (i : Int) < (n : Int) := by omega
        have hil : i < ys.length := by rw [HL.out]; exact hin
        have hil' : i < zs.length := by rw [← HZ.out]; exact hil
        obtain ⟨b, off, rfl, hb, hc⟩ := HA.out.at (by omega)
        obtain ⟨b', off', rfl, hb', hc'⟩ := HB.out.at (by omega)
        have c1 := hc wr HK.out.1 i hil
        have c2 := hc' wr HK.out.1 i hil'
        clear hc hc' hil hil'
        have HE : Hid (at_ ys i = at_ zs i → ∀ j, j < i + 1 → at_ ys j = at_ zs j) := by
          refine (fun he j hj => ?_ : at_ ys i = at_ zs i → ∀ j, j < i + 1 → at_ ys j = at_ zs j)
          by_cases e : j = i
          · subst e; exact he
          · exact HK.out.2 j (by omega)
        have HF : Hid (¬ at_ ys i = at_ zs i → d = false) := by
          refine (fun hne => ?_ : ¬ at_ ys i = at_ zs i → d = false)
          rw [← HD.out]; exact decide_eq_false (at_ne hne)
        have HK' : Hid (Keeps (fun _ => False) w wr) := HK.out.1
        clear HK
        generalize at_ ys i = y at *
        generalize at_ zs i = z at *
        by_cases hyz : y = z
        · subst hyz
          go_wp2
          go_quiet (fail)
          have HK2 : Hid (Keeps (fun _ => False) w (wr.drewN nq)) := HK'.out.drewN nq
          generalize wr.drewN nq = wn at *
          clear c1 c2 HK'
          go_wp2
          go_roundw
          case rel => exact ⟨i + 1, by omega, by push_cast; rfl, HK2.out, HE.out (by first | rfl | trivial)⟩
          case measure => simp [intOf]; omega
        · have hb1 : (y != z) = true := by simpa using hyz
          have hb2 : decide (y = z) = false := decide_eq_false hyz
          have hb3 : (y == z) = false := by simpa using hyz
          go_wp2
          go_quiet (fail)
          have HK2 : Hid (Keeps (fun _ => False) w (wr.drewN nq)) := HK'.out.drewN nq
          generalize wr.drewN nq = wn at *
          clear c1 c2 HK'
          go_wp2
          go_ret
          exact ⟨by rw [HF.out hyz]; rfl, HK2.out⟩
      · obtain rfl : i = n := by omega
        have hd : d = true := by
          rw [← HD.out]
          exact decide_eq_true (at_ext HZ.out (fun j hj => HK.out.2 j (by rw [HL.out] at hj; exact hj)))
        go_wp2
        go_ret
        exact ⟨by rw [hd]; rfl, HK.out.1⟩
  · have HD : Hid (decide (ys = zs) = false) := decide_eq_false (fun e => hlen (by rw [e]))
    rw [HD.out]
    generalize ys.length = n at *
    generalize zs.length = m at *
    have hb1 : ((n : Int) != (m : Int)) = true := by simp; omega
    have hb2 : ¬ ((n : Int) = (m : Int)) := by omega
    clear HA HB HD
    go_enter Try.func64, Try.ntmps64
    go_wp2
    go_ret
    exact ⟨rfl, Keeps.refl _ _⟩
theorem sameInts_yes (a a' : Option Addr) (ys : List Int) (cap cap' : Nat) (w : World) (h : Row w a ys) (h' : Row w a' ys) (hn : ys.length ≤ 1125899906842624) :
    Calls Try.prog 64 #[.slice a ys.length cap, .slice a' ys.length cap'] w fun e w' => e = .returned (.bool true) ∧ Keeps (fun _ => False) w w' :=
  (same_ok a a' ys ys cap cap' w h h' hn hn).mono (fun e w' h => by rw [decide_eq_true rfl] at h; exact h)

/-- What is known of a slice of ints that came in: nil, or a row of cells. -/
def IsRow (k : IntKind) (w : World) (a : Option Addr) (len cap : Nat) (zs : List Int) : Prop :=
  (a = none ∧ len = 0 ∧ cap = 0 ∧ zs = []) ∨
  ∃ x, a = some x ∧ len ≤ cap ∧ cap ≤ maxLen ∧ zs.length = cap ∧ (∀ i, i < zs.length → w.cell? (x.add i) = some (.int k (zs.getD i 0))) ∧ ∀ n ∈ zs, (Lit.int k n).wf = true

theorem IsRow.row {w : World} {a : Option Addr} {len cap : Nat} {zs : List Int} (h : IsRow .i64 w a len cap zs) :
    ∃ ys : List Int, ys.length = len ∧ Row w a ys ∧ ys.length ≤ maxLen ∧ (∀ y ∈ ys, (Lit.int .i64 y).wf = true) := by
  rcases h with ⟨rfl, rfl, rfl, rfl⟩ | ⟨x, rfl, hl, hm, hz, hc, hw⟩
  · exact ⟨[], rfl, .inl rfl, by simp, by simp⟩
  · refine ⟨zs.take len, by rw [List.length_take]; omega, ?_, by rw [List.length_take]; omega, fun y hy => hw y (List.mem_of_mem_take hy)⟩
    by_cases h0 : len = 0
    · left; rw [h0]; rfl
    · obtain ⟨b, off, rfl, hcell⟩ := ints_at hc (by omega)
      refine .inr ⟨b, off, rfl, World.block_lt_of_cell? w _ (hcell 0 (by omega)), fun i hi => ?_⟩
      rw [List.length_take] at hi
      rw [hcell i (by omega), List.getElem_take, List.getD, List.getElem?_eq_getElem (by omega)]; rfl

theorem owns_ge {w : World} {base : Nat} {e : TypeId} {size : Nat} {v : Value} {n : Nat} {xs : List Value} (h : w.ownsRow base e size v n xs) (k : Nat) (hk : v.ownBlock = some k) : base ≤ k := by
  rcases h.2 with ⟨rfl, _⟩ | ⟨g, cap, cur, rfl, hb, _⟩
  · simp [Value.ownBlock] at hk
  · simp [Value.ownBlock] at hk; omega
/-- Lent: the numbers, and two marks behind them. -/
def Lent (w : World) (g : Nat) (ys : List Int) (cap : Nat) : Prop :=
  g < w.heap.size ∧ ys.length + 2 ≤ cap ∧ ∀ i, i < ys.length + 2 → w.cell? ⟨g, i, none⟩ = some (.int .i64 (at_ (ys ++ [-7777, -8888]) i))
theorem Lent.kept {S : Nat → Prop} {w w' : World} {g cap : Nat} {ys : List Int} (h : Lent w g ys cap) (hk : Keeps S w w') (hg : ¬ S g) : Lent w' g ys cap :=
  ⟨Nat.lt_of_lt_of_le h.1 hk.size, h.2.1, fun i hi => by rw [World.cell?_of_block (hk.block g h.1 hg)]; exact h.2.2 i hi⟩
theorem Lent.row {w : World} {g cap : Nat} {ys : List Int} (h : Lent w g ys cap) : Row w (some ⟨g, 0, none⟩) ys :=
  .inr ⟨g, 0, rfl, h.1, fun i hi => by rw [Nat.zero_add, h.2.2 i (by omega), at_append_left _ _ _ hi, at_eq i hi]⟩
theorem owns_lent {w : World} {base g cap : Nat} {ys : List Int} (h : w.ownsRow base 3 1 (.slice (some ⟨g, 0, none⟩) (ys.length + 2) cap) (ys.length + 2) (intsV ys ++ intsV [-7777, -8888])) (hg : g < w.heap.size) : Lent w g ys cap := by
  have hc : ys.length + 2 ≤ cap := by
    rcases h.2 with ⟨e, _⟩ | ⟨g', cap', cur, e, _, _, hn, _⟩
    · cases e
    · simp only [Value.slice.injEq] at e
      obtain ⟨_, _, rfl⟩ := e
      exact hn
  refine ⟨hg, hc, fun i hi => ?_⟩
  rw [World.ownsRow.cellAt h i (by omega)]
  have hl : i < (ys ++ [-7777, -8888]).length := by simp; omega
  rw [at_eq i hl]
  have e : intsV ys ++ intsV [-7777, -8888] = intsV (ys ++ [-7777, -8888]) := by simp [intsV]
  rw [e]
  unfold intsV
  rw [List.getElem?_map, List.getElem?_eq_getElem hl]; rfl

set_option maxHeartbeats 4000000 in
set_option maxRecDepth 1000000 in
theorem spoil_none (cap : Nat) (w : World) : Calls Try.prog 54 #[.slice none 0 cap] w fun e w' => e = .returned (.tuple #[]) ∧ Keeps (fun _ => False) w w' := by
  go_enter Try.func54, Try.ntmps54
  go_wp2
  go_loopw [2] (fun s2 w' => s2 = .int .i64 0 ∧ w' = w) (fun s2 w' => 0)
  case atStart => exact ⟨rfl, rfl⟩
  case round =>
    obtain ⟨rfl, rfl⟩ := hrel
    go_wp2
    go_end0
    exact ⟨rfl, Keeps.refl _ _⟩

set_option maxHeartbeats 4000000 in
set_option maxRecDepth 1000000 in
theorem spoil_ok (g cap : Nat) (ys : List Int) (w : World) (h : Own w g cap ys) (hn : ys.length ≤ 1000000) :
    Calls Try.prog 54 #[.slice (some ⟨g, 0, none⟩) ys.length cap] w fun e w' => e = .returned (.tuple #[]) ∧ Keeps (fun b => b = g) w w' := by
  obtain ⟨n, hL⟩ : ∃ n, ys.length = n := ⟨_, rfl⟩
  have HW : Hid ((∃ zs : List Int, zs.length = n ∧ Own w g cap zs) ∧ Keeps (fun k => k = g) w w) := ⟨⟨ys, hL, h⟩, Keeps.refl _ _⟩
  rw [hL] at hn
  rw [hL]
  clear h hL
  go_enter Try.func54, Try.ntmps54
  go_wp2
  go_loopw [2] (fun s2 w' => ∃ i : Nat, i ≤ n ∧ s2 = .int .i64 (i : Int) ∧ Hid ((∃ zs : List Int, zs.length = n ∧ Own w' g cap zs) ∧ Keeps (fun k => k = g) w w')) (fun s2 w' => ((n : Int) - intOf s2).toNat)
  case atStart => exact ⟨0, by omega, rfl, HW⟩
  case round =>
    clear HW
    obtain ⟨i, hi, rfl, HW⟩ := hrel
    by_cases hin : i < n
    · have hiz : (i : Int) < (n : Int) := by omega
      obtain ⟨zs, hzl, hzo⟩ := HW.out.1
      have hc := hzo.cell i (by omega)
      have hf := hzo.free i (by omega)
      generalize at_ zs i = y at *
      have HZ : Hid (zs.length = n ∧ Own wr g cap zs) := ⟨hzl, hzo⟩
      clear hzl hzo
      go_wp2
      go_roundw
      case rel => exact ⟨i + 1, by omega, by push_cast; rfl, ⟨_, by rw [List.length_set]; exact HZ.out.1, HZ.out.2.set i _⟩, HW.out.2.setCell (fun _ => rfl) _⟩
      case measure => simp [intOf]; omega
    · obtain rfl : i = n := by omega
      go_wp2
      go_end0
      exact ⟨rfl, HW.out.2⟩

/-- What a call answered, written over, nil too. -/
theorem spoil_any (base : Nat) (v : Value) (ys : List Int) (w : World) (h : OwnV w base v ys) (hn : ys.length ≤ 1000000) :
    Calls Try.prog 54 #[v] w fun e w' => e = .returned (.tuple #[]) ∧ Keeps (fun b => base ≤ b ∧ v.ownBlock = some b) w w' := by
  rcases h.form with ⟨rfl, rfl⟩ | ⟨g, cap, rfl, hb, ho⟩
  · refine (spoil_none 0 w).mono ?_
    rintro e w' ⟨rfl, hk⟩
    exact ⟨rfl, hk.mono (fun _ _ h => h.elim)⟩
  · refine (spoil_ok g cap ys w ho hn).mono ?_
    rintro e w' ⟨rfl, hk⟩
    exact ⟨rfl, hk.mono (fun i _ h => by subst h; exact ⟨hb, rfl⟩)⟩
theorem IsRow.rowC {w : World} {a : Option Addr} {len cap : Nat} {zs : List Int} (h : IsRow .i64 w a len cap zs) :
    ∃ ys : List Int, ys.length = len ∧ Row w a ys ∧ ys.length ≤ maxLen ∧ Came a ys.length cap := by
  obtain ⟨ys, h1, h2, h3, _⟩ := h.row
  refine ⟨ys, h1, h2, h3, ?_⟩
  rcases h with ⟨rfl, rfl, rfl, _⟩ | ⟨x, rfl, _⟩
  · exact .inl ⟨rfl, h1, rfl⟩
  · exact .inr ⟨x, rfl⟩

end Go.Proofs.Ythlaeeepbkfkgaa

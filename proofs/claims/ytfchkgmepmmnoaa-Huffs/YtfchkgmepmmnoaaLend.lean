/-
  Rows of numbers lent, held against each other, and codes written over.
-/
import Derived.Test.YtfchkgmepmmnoaaSeq
import Derived.BigQuiet
import Derived.Deep.AppendLies
import Derived.Laws.OwnMore
namespace Go.Proofs.Ytfchkgmepmmnoaa
open Go.RowKit
set_option linter.unusedVariables false
set_option linter.unusedSimpArgs false

def intsV (ys : List Int) : List Value := ys.map (fun y => Value.int .i64 y)
/-- A slice that came in, for an append: nil, or somewhere. -/
def Came (a : Option Addr) (n cap : Nat) : Prop := (a = none ∧ n = 0 ∧ cap = 0) ∨ ∃ x, a = some x

theorem append_any (w : World) (base : Nat) (v : Value) (n : Nat) (xs : List Value) (hown : w.ownsRow base 3 1 v n xs) (a : Option Addr) (ys : List Int) (cap : Nat) (hR : Row w a ys) (hA : Came a ys.length cap) (hb : base ≤ w.heap.size) (hsz : (n + ys.length) * 8 ≤ 140737488355328) :
    ∃ v' w', (Builtin.append_ #[22, 22] 22 #[v, .slice a ys.length cap]).run Try.prog w = .ok v' w' ∧ w'.ownsRow base 3 1 v' (n + ys.length) (xs ++ intsV ys) ∧ w.grownBy w' v.ownBlock := by
  obtain ⟨i, hi, h1, h2, h3⟩ : ∃ i, Try.prog.info? 3 = some i ∧ i.zero = some (.int .i64 0) ∧ i.bytes = 8 ∧ i.size = 1 := ⟨Try.t3, Try.type3, rfl, rfl, rfl⟩
  have hml : n + ys.length ≤ maxLen := by unfold maxLen; omega
  rcases hA with ⟨rfl, h0, rfl⟩ | ⟨x, rfl⟩
  · have hy : ys = [] := List.length_eq_zero_iff.1 h0
    subst hy
    exact ⟨v, w, run_append_owned_none (P := Try.prog) w base 22 22 3 i 1 Try.underlying22 hi v n xs hown, by simpa [intsV] using hown, World.grownBy.refl _ _⟩
  · obtain ⟨v', w', hr, ho, hg, _⟩ := run_append_own (P := Try.prog) w base 22 22 3 i (.int .i64 0) 1 8 Try.underlying22 hi h1 h3 h2 rfl (by decide) v n xs hown x ys.length cap (intsV ys) (by simp [intsV]) (fun j u hu => by
        have hj : j < ys.length := by have := (List.getElem?_eq_some_iff.1 hu).1; simpa [intsV] using this
        rcases hR with hR | ⟨b', off', e, _, hc⟩
        · subst hR; simp at hj
        · simp only [Option.some.injEq] at e
          subst e
          rw [Addr.add_mid, hc j hj, ← hu]
          simp [intsV, hj]) (fun u hu => by
        simp only [intsV, List.mem_map] at hu
        obtain ⟨y, _, rfl⟩ := hu
        rfl) hml hsz hb
    exact ⟨v', w', hr, ho, hg⟩

theorem wpList_append {ops : Array Oper} {rest : List Oper} {o : Oper} {a : Act} {w : World} {Q : Exit → Act → World → Prop} (hgd : o.guard = none) (s x : Operand) (ho : o.op = .call { callee := .builtin .append, args := #[s, x], argTypes := #[22, 22] }) (hty : o.type = 22)
    (base : Nat) (v : Value) (n : Nat) (xs : List Value) (hs : a.eval s = v) (hown : w.ownsRow base 3 1 v n xs) (ad : Option Addr) (ys : List Int) (cap : Nat) (hx : a.eval x = .slice ad ys.length cap) (hR : Row w ad ys) (hA : Came ad ys.length cap) (hb : base ≤ w.heap.size) (hsz : (n + ys.length) * 8 ≤ 140737488355328)
    (h : ∀ v' w', w'.ownsRow base 3 1 v' (n + ys.length) (xs ++ intsV ys) → w.grownBy w' v.ownBlock → wpList Try.prog ops Q rest (a.put o.dst v') w') : wpList Try.prog ops Q (o :: rest) a w :=
  wpList_plain hgd fun _ hK => by
    obtain ⟨v', w', hr, h2, h3⟩ := append_any w base v n xs hown ad ys cap hR hA hb hsz
    unfold Oper.wp execOp
    simp only [ho, hty, resolve, invoke, builtin, Sem.run_bind, Sem.run_pure, Result.andThen_ok, List.map_toArray, List.map_cons, List.map_nil, hs, hx, hr]
    exact hK _ _ (h v' w' h2 h3)

set_option maxHeartbeats 4000000 in
set_option maxRecDepth 1000000 in
theorem copy_ok (a : Option Addr) (ys : List Int) (cap : Nat) (w : World) (hR : Row w a ys) (hA : Came a ys.length cap) (hsz : ys.length * 8 ≤ 140737488355328) :
    Calls Try.prog 21 #[.slice a ys.length cap] w fun e w' => ∃ v, e = .returned v ∧ w'.ownsRow w.heap.size 3 1 v ys.length (intsV ys) ∧ Keeps (fun _ => False) w w' := by
  have HR : Hid (Row w a ys) := hR
  have HA : Hid (Came a ys.length cap) := hA
  clear hR hA
  go_enter Try.func21, Try.ntmps21
  go_wp2_with (first
    | (refine wpList_append rfl _ _ rfl rfl w.heap.size (.slice (some ⟨w.heap.size, 0, none⟩) 0 0) 0 [] rfl ?hown a ys cap rfl (HR.out.keptF ((Keeps.refl _ w).alloc _)) HA.out ?hb ?hsz ?_; (case hown => exact World.ownsRow_lit w #[] 0 (Nat.le_refl _) (by decide) rfl); (case hb => simp); (case hsz => omega); intro v w2 hO hG))
  go_ret
  refine ⟨v, rfl, by simpa using hO, ((Keeps.refl (fun _ => False) w).alloc (Obj.cells #[] 3)).grown hG (fun k hk e => ?_)⟩
  simp [Value.ownBlock] at e; omega

theorem owns_ge {w : World} {base : Nat} {e : TypeId} {size : Nat} {v : Value} {n : Nat} {xs : List Value} (h : w.ownsRow base e size v n xs) (k : Nat) (hk : v.ownBlock = some k) : base ≤ k := by
  rcases h.2 with ⟨rfl, _⟩ | ⟨g, cap, cur, rfl, hb, _⟩
  · simp [Value.ownBlock] at hk
  · simp [Value.ownBlock] at hk; omega
/-- Lent: the numbers, and two marks behind them. -/
def Lent (w : World) (g : Nat) (ys : List Int) (cap : Nat) : Prop :=
  g < w.heap.size ∧ ys.length + 2 ≤ cap ∧ ∀ i, i < ys.length + 2 → w.cell? ⟨g, i, none⟩ = some (.int .i64 (at_ (ys ++ [-7777, -8888]) i))
theorem Lent.kept {S : Nat → Prop} {w w' : World} {g cap : Nat} {ys : List Int} (h : Lent w g ys cap) (hk : Keeps S w w') (hg : ¬ S g) : Lent w' g ys cap :=
  ⟨Nat.lt_of_lt_of_le h.1 hk.size, h.2.1, fun i hi => by rw [World.cell?_of_block (hk.block g h.1 hg)]; exact h.2.2 i hi⟩
theorem at_append_left (ys zs : List Int) (i : Nat) (h : i < ys.length) : at_ (ys ++ zs) i = at_ ys i := by
  simp [at_, List.getD, List.getElem?_append_left h]
theorem at_append_right (ys zs : List Int) (i : Nat) : at_ (ys ++ zs) (ys.length + i) = at_ zs i := by
  simp [at_, List.getD, List.getElem?_append_right]
theorem Lent.row {w : World} {g cap : Nat} {ys : List Int} (h : Lent w g ys cap) : Row w (some ⟨g, 0, none⟩) ys :=
  .inr ⟨g, 0, rfl, h.1, fun i hi => by rw [Nat.zero_add, h.2.2 i (by omega), at_append_left _ _ _ hi, at_eq i hi]⟩
theorem owns_lent {w : World} {base g cap : Nat} {ys : List Int} (h : w.ownsRow base 3 1 (.slice (some ⟨g, 0, none⟩) (ys.length + 2) cap) (ys.length + 2) (intsV ys ++ intsV [-7777, -8888])) (hg : g < w.heap.size) : Lent w g ys cap := by
  have hc : ys.length + 2 ≤ cap := by
    rcases h.2 with ⟨e, _⟩ | ⟨g', cap', cur, e, _, _, hn, _⟩
    · cases e
    · simp only [Value.slice.injEq] at e
      obtain ⟨_, _, rfl⟩ := e
      exact hn
  refine ⟨hg, hc, fun i hi => ?_⟩
  rw [World.ownsRow.cellAt h i (by omega)]
  have hl : i < (ys ++ [-7777, -8888]).length := by simp; omega
  rw [at_eq i hl]
  have e : intsV ys ++ intsV [-7777, -8888] = intsV (ys ++ [-7777, -8888]) := by simp [intsV]
  rw [e]
  unfold intsV
  rw [List.getElem?_map, List.getElem?_eq_getElem hl]; rfl

set_option maxHeartbeats 4000000 in
set_option maxRecDepth 1000000 in
theorem lend_ok (a : Option Addr) (ys : List Int) (cap : Nat) (w : World) (hR : Row w a ys) (hA : Came a ys.length cap) (hsz : ys.length * 8 + 4096 ≤ 140737488355328) :
    Calls Try.prog 9 #[.slice a ys.length cap] w fun e w' => ∃ g c, e = .returned (.slice (some ⟨g, 0, none⟩) ys.length c) ∧ Lent w' g ys c ∧ Keeps (fun _ => False) w w' ∧ w.heap.size ≤ g := by
  have HC : Hid (Calls Try.prog 21 #[.slice a ys.length cap] w fun e w' => ∃ v, e = .returned v ∧ w'.ownsRow w.heap.size 3 1 v ys.length (intsV ys) ∧ Keeps (fun _ => False) w w') := copy_ok a ys cap w hR hA (by omega)
  clear hR hA
  go_enter Try.func9, Try.ntmps9
  go_wp2_with (first
    | (go_at_call 21; refine HC.out.mono ?_; rintro e w1 ⟨v, rfl, hO, hK1⟩; have HO : Hid (w1.ownsRow w.heap.size 3 1 v ys.length (intsV ys)) := hO; have HK1 : Hid (Keeps (fun _ => False) w w1) := hK1; clear hO hK1)
    | (refine wpList_append rfl _ _ rfl rfl w.heap.size v ys.length (intsV ys) rfl (HO.out.alloc _) (some ⟨w1.heap.size, 0, none⟩) [-7777, -8888] 2 rfl (Row.lit w1 [-7777, -8888] 3) (.inr ⟨_, rfl⟩) ?hb ?hsz ?_; (case hb => exact (HK1.out.alloc _).size); (case hsz => simp; omega); intro v2 w2 hO2 hG2; obtain ⟨g, c2, rfl, hg, hlt⟩ := hO2.form (by simp); have HL : Hid (Lent w2 g ys c2) := owns_lent hO2 hlt; have hcz : (ys.length : Int) + 2 ≤ (c2 : Int) := by (have := HL.out.2.1; omega)))
  go_ret
  refine ⟨g, c2, rfl, HL.out, (HK1.out.alloc _).grown hG2 (fun k hk e => ?_), hg⟩
  have := owns_ge HO.out k e
  omega

set_option maxHeartbeats 4000000 in
set_option maxRecDepth 1000000 in
theorem sameInts_yes (a a' : Option Addr) (ys : List Int) (cap cap' : Nat) (w : World) (h : Row w a ys) (h' : Row w a' ys) (hn : ys.length ≤ 9223372036854775807) :
    Calls Try.prog 29 #[.slice a ys.length cap, .slice a' ys.length cap'] w fun e w' => e = .returned (.bool true) ∧ Keeps (fun _ => False) w w' := by
  have HA : Hid (Row w a ys) := h
  have HB : Hid (Row w a' ys) := h'
  clear h h'
  generalize hL : ys.length = n at *
  have HL : Hid (ys.length = n) := hL
  clear hL
  go_enter Try.func29, Try.ntmps29
  go_wp2
  go_loopw [5] (fun s5 w' => ∃ i : Nat, i ≤ n ∧ s5 = .int .i64 (i : Int) ∧ Hid (Keeps (fun _ => False) w w')) (fun s5 w' => ((n : Int) - intOf s5).toNat)
  case atStart => exact ⟨0, by omega, rfl, Keeps.refl _ _⟩
  case round =>
    obtain ⟨i, hi, rfl, HK⟩ := hrel
    by_cases hin : i < n
    · have hiz : (i : Int) < (n : Int) := by omega
      have hil : i < ys.length := by rw [HL.out]; exact hin
      obtain ⟨b, off, rfl, hb, hc⟩ := HA.out.at (by omega)
      obtain ⟨b', off', rfl, hb', hc'⟩ := HB.out.at (by omega)
      have c1 := hc wr HK.out i hil
      have c2 := hc' wr HK.out i hil
      clear hc hc'
      generalize at_ ys i = y at *
      go_wp2
      go_quiet (fail)
      have HK' : Hid (Keeps (fun _ => False) w (wr.drewN nq)) := HK.out.drewN nq
      generalize wr.drewN nq = wn at *
      clear c1 c2 HK
      go_wp2
      go_roundw
      case rel => exact ⟨i + 1, by omega, by push_cast; rfl, HK'⟩
      case measure => simp [intOf]; omega
    · obtain rfl : i = n := by omega
      go_wp2
      go_ret
      exact ⟨rfl, HK.out⟩

set_option maxHeartbeats 4000000 in
set_option maxRecDepth 1000000 in
theorem kept_yes (g : Nat) (a' : Option Addr) (ys : List Int) (cap cap' : Nat) (w : World) (h : Lent w g ys cap) (h' : Row w a' ys) (hn : ys.length ≤ 1125899906842624) :
    Calls Try.prog 19 #[.slice (some ⟨g, 0, none⟩) ys.length cap, .slice a' ys.length cap'] w fun e w' => e = .returned (.bool true) ∧ Keeps (fun _ => False) w w' := by
  have HS : Hid (Calls Try.prog 29 #[.slice (some ⟨g, 0, none⟩) ys.length cap, .slice a' ys.length cap'] w fun e w' => e = .returned (.bool true) ∧ Keeps (fun _ => False) w w') := sameInts_yes _ a' ys cap cap' w h.row h' (by omega)
  have hcz : (ys.length : Int) + 2 ≤ (cap : Int) := by have := h.2.1; omega
  have HM : Hid (∀ w', Keeps (fun _ => False) w w' → w'.cell? ⟨g, ys.length, none⟩ = some (.int .i64 (-7777)) ∧ w'.cell? ⟨g, ys.length + 1, none⟩ = some (.int .i64 (-8888))) := fun w' hk => by
    have hl := h.kept hk (fun h => h)
    have e1 := hl.2.2 ys.length (by omega)
    have e2 := hl.2.2 (ys.length + 1) (by omega)
    have a0 := at_append_right ys [-7777, -8888] 0
    have a1 := at_append_right ys [-7777, -8888] 1
    rw [Nat.add_zero] at a0
    rw [a0] at e1
    rw [a1] at e2
    exact ⟨e1, e2⟩
  generalize ys.length = n at *
  clear h h'
  go_enter Try.func19, Try.ntmps19
  go_wp2_with (first
    | (go_at_call 29; refine HS.out.mono ?_; rintro e w1 ⟨rfl, hK1⟩; obtain ⟨hm1, hm2⟩ := HM.out w1 hK1; have HK1 : Hid (Keeps (fun _ => False) w w1) := hK1; clear hK1))
  go_ret
  exact ⟨rfl, HK1.out⟩

set_option maxHeartbeats 4000000 in
set_option maxRecDepth 1000000 in
theorem spoil_none (cap : Nat) (w : World) : Calls Try.prog 18 #[.slice none 0 cap] w fun e w' => e = .returned (.tuple #[]) ∧ w' = w := by
  go_enter Try.func18, Try.ntmps18
  go_wp2
  go_loopw [2] (fun s2 w' => s2 = .int .i64 0 ∧ w' = w) (fun s2 w' => 0)
  case atStart => exact ⟨rfl, rfl⟩
  case round =>
    obtain ⟨rfl, rfl⟩ := hrel
    go_wp2
    go_end0
    exact ⟨rfl, rfl⟩

set_option maxHeartbeats 4000000 in
set_option maxRecDepth 1000000 in
theorem spoil_ok (g n cap : Nat) (f : Nat → Int × Int) (w : World) (h : Cds w g n f) (hn : n ≤ 1125899906842624) :
    Calls Try.prog 18 #[.slice (some ⟨g, 0, none⟩) n cap] w fun e w' => e = .returned (.tuple #[]) ∧ Keeps (fun k => k = g) w w' := by
  have HW : Hid ((∃ f, Cds w g n f) ∧ Keeps (fun k => k = g) w w) := ⟨⟨f, h⟩, Keeps.refl _ _⟩
  clear h
  go_enter Try.func18, Try.ntmps18
  go_wp2
  go_loopw [2] (fun s2 w' => ∃ i : Nat, i ≤ n ∧ s2 = .int .i64 (i : Int) ∧ Hid ((∃ f, Cds w' g n f) ∧ Keeps (fun k => k = g) w w')) (fun s2 w' => ((n : Int) - intOf s2).toNat)
  case atStart => exact ⟨0, by omega, rfl, HW⟩
  case round =>
    clear HW
    obtain ⟨i, hi, rfl, HW⟩ := hrel
    by_cases hin : i < n
    · have hiz : (i : Int) < (n : Int) := by omega
      obtain ⟨f', hf'⟩ := HW.out.1
      have hc := hf'.bits i hin
      have hz := hf'.free (i * 2)
      generalize (f' i).1 = y at *
      have HF : Hid (Cds wr g n f') := hf'
      clear hf'
      go_wp2
      go_roundw
      case rel => exact ⟨i + 1, by omega, by push_cast; rfl, ⟨_, HF.out.setBits i hin _⟩, HW.out.2.setCell (fun _ => rfl) _⟩
      case measure => simp [intOf]; omega
    · obtain rfl : i = n := by omega
      go_wp2
      go_end0
      exact ⟨rfl, HW.out.2⟩

end Go.Proofs.Ytfchkgmepmmnoaa

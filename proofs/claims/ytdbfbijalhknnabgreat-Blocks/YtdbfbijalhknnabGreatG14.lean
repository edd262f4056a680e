/-
  Counts looked at, copied, and a second one used. Lengths by counts: what the call answers. What lengths of counts take: all room, or none.
-/
import Derived.Test.YtdbfbijalhknnabGreatRows
import Derived.Test.YtdbfbijalhknnabGreatG13
namespace Go.Proofs.YtdbfbijalhknnabGreat.Lm
open Go.RowKit
set_option linter.unusedVariables false
set_option linter.unusedSimpArgs false

/-- A slice that came in, for an append: nil, or somewhere. -/
def Came (a : Option Addr) (n cap : Nat) : Prop := (a = none ∧ n = 0 ∧ cap = 0) ∨ ∃ x, a = some x
set_option maxRecDepth 100000 in
theorem append_any (w : World) (base : Nat) (v : Value) (n : Nat) (xs : List Value) (hown : w.ownsRow base 3 1 v n xs) (a : Option Addr) (ys : List Int) (cap : Nat) (hR : Row w a ys) (hA : Came a ys.length cap) (hb : base ≤ w.heap.size) (hsz : (n + ys.length) * 8 ≤ 140737488355328) :
    ∃ v' w', (Builtin.append_ #[59, 59] 59 #[v, .slice a ys.length cap]).run Tryz.prog w = .ok v' w' ∧ w'.ownsRow base 3 1 v' (n + ys.length) (xs ++ intsV ys) ∧ w.grownBy w' v.ownBlock := by
  obtain ⟨i, hi, h1, h2, h3⟩ : ∃ i, Tryz.prog.info? 3 = some i ∧ i.zero = some (.int .i64 0) ∧ i.bytes = 8 ∧ i.size = 1 := ⟨Tryz.t3, Tryz.type3, rfl, rfl, rfl⟩
  have hml : n + ys.length ≤ maxLen := by unfold maxLen; omega
  rcases hA with ⟨rfl, h0, rfl⟩ | ⟨x, rfl⟩
  · have hy : ys = [] := List.length_eq_zero_iff.1 h0
    subst hy
    exact ⟨v, w, run_append_owned_none (P := Tryz.prog) w base 59 59 3 i 1 Tryz.underlying59 hi v n xs hown, by simpa [intsV] using hown, World.grownBy.refl _ _⟩
  · obtain ⟨v', w', hr, ho, hg, _⟩ := run_append_own (P := Tryz.prog) w base 59 59 3 i (.int .i64 0) 1 8 Tryz.underlying59 hi h1 h3 h2 rfl (by decide) v n xs hown x ys.length cap (intsV ys) (by simp [intsV]) (fun j u hu => by
        have hj : j < ys.length := by have := (List.getElem?_eq_some_iff.1 hu).1; simpa [intsV] using this
        rcases hR with hR | ⟨b', off', e, _, hc⟩
        · subst hR; simp at hj
        · simp only [Option.some.injEq] at e
          subst e
          rw [Addr.add_mid, hc j hj, ← hu]
          simp [intsV, hj]) (fun u hu => by
        simp only [intsV, List.mem_map] at hu
        obtain ⟨y, _, rfl⟩ := hu
        rfl) hml hsz hb
    exact ⟨v', w', hr, ho, hg⟩
theorem wpList_append {ops : Array Oper} {rest : List Oper} {o : Oper} {a : Act} {w : World} {Q : Exit → Act → World → Prop} (hgd : o.guard = none) (s x : Operand) (ho : o.op = .call { callee := .builtin .append, args := #[s, x], argTypes := #[59, 59] }) (hty : o.type = 59)
    (base : Nat) (v : Value) (n : Nat) (xs : List Value) (hs : a.eval s = v) (hown : w.ownsRow base 3 1 v n xs) (ad : Option Addr) (ys : List Int) (cap : Nat) (hx : a.eval x = .slice ad ys.length cap) (hR : Row w ad ys) (hA : Came ad ys.length cap) (hb : base ≤ w.heap.size) (hsz : (n + ys.length) * 8 ≤ 140737488355328)
    (h : ∀ v' w', w'.ownsRow base 3 1 v' (n + ys.length) (xs ++ intsV ys) → w.grownBy w' v.ownBlock → wpList Tryz.prog ops Q rest (a.put o.dst v') w') : wpList Tryz.prog ops Q (o :: rest) a w :=
  wpList_plain hgd fun _ hK => by
    obtain ⟨v', w', hr, h2, h3⟩ := append_any w base v n xs hown ad ys cap hR hA hb hsz
    unfold Oper.wp execOp
    simp only [ho, hty, resolve, invoke, builtin, Sem.run_bind, Sem.run_pure, Result.andThen_ok, List.map_toArray, List.map_cons, List.map_nil, hs, hx, hr]
    exact hK _ _ (h v' w' h2 h3)

set_option maxHeartbeats 4000000 in
set_option maxRecDepth 1000000 in
theorem clone_ok (x : Addr) (ys : List Int) (cap : Nat) (w : World) (hR : Row w (some x) ys) (hsz : ys.length ≤ 288) (h0 : 0 < ys.length) :
    Calls Tryz.prog 102 #[.slice (some x) ys.length cap] w fun e w' => ∃ g c, e = .returned (.slice (some ⟨g, 0, none⟩) ys.length c) ∧ Own w' g c ys ∧ Keeps (fun _ => False) w w' ∧ w.heap.size ≤ g := by
  have q22 : ∀ (w : World) (a : Option Addr) (n c n' c' : Nat), (binOp .eql 59 (.slice a n c) (.slice none n' c')).run Tryz.prog w = .ok (.bool a.isNone) w := fun w a n c n' c' => Lib.run_eql_slice_nil w _ _ a n c n' c' Tryz.underlying59
  have HR : Hid (Row w (some x) ys) := hR
  clear hR
  go_enter Tryz.func102, Tryz.ntmps102
  go_wp2_with (first
    | (refine wpList_append rfl _ _ rfl rfl w.heap.size (.slice (some ⟨w.heap.size, 0, none⟩) 0 0) 0 [] rfl ?hown (some x) ys cap rfl (HR.out.keptF ((Keeps.refl _ w).alloc _)) (.inr ⟨_, rfl⟩) ?hb ?hsz ?_; (case hown => exact World.ownsRow_lit w #[] 0 (Nat.le_refl _) (by decide) rfl); (case hb => simp); (case hsz => omega); intro v w2 hO hG))
  go_ret
  have hO' : OwnV w2 w.heap.size v ys := by simpa [OwnV] using hO
  rcases hO'.form with ⟨_, e⟩ | ⟨g, c, rfl, hb, ho⟩
  · subst e; simp at h0
  · refine ⟨g, c, rfl, ho, ((Keeps.refl (fun _ => False) w).alloc (Obj.cells #[] 3)).grown hG (fun k hk e => ?_), hb⟩
    simp [Value.ownBlock] at e; omega

set_option maxHeartbeats 4000000 in
set_option maxRecDepth 1000000 in
theorem index_ok (a : Option Addr) (ys : List Nat) (cap : Nat) (w : World) (hR : Row w a (ints ys)) (hl : ys.length ≤ 288) (hu : (usedL 0 ys).length < ys.length) :
    Calls Tryz.prog 103 #[.slice a ys.length cap, .int .i64 0] w fun e w' => e = .returned (.int .i64 (idx0 ys : Int)) ∧ w' = w := by
  obtain ⟨k1, k2, k3⟩ := idx0_lt ys hu
  obtain ⟨b, off, rfl, hb, hc⟩ := hR.at (by rw [ints_length]; omega)
  have HC : Hid (∀ i, i < ys.length → ∃ y : Nat, ys[i]? = some y ∧ w.cell? ⟨b, off + i, none⟩ = some (.int .i64 (y : Int))) := fun i h => by
    refine ⟨ys[i], by simp, ?_⟩
    rw [hc w (Keeps.refl _ _) i (by rw [ints_length]; exact h), ints_get ys i h]
  have H3 : Hid (ys[idx0 ys]? = some 0 ∧ ∀ j, j < idx0 ys → ys[j]? ≠ some 0) := ⟨k2, k3⟩
  clear hc hR k2 k3 hu
  obtain ⟨n, hn⟩ : ∃ n, ys.length = n := ⟨_, rfl⟩
  rw [hn] at hl k1
  rw [hn]
  have HN : Hid (ys.length = n) := hn
  obtain ⟨z, hz⟩ : ∃ z, idx0 ys = z := ⟨_, rfl⟩
  rw [hz] at H3 k1
  rw [hz]
  clear hn hz
  go_enter Tryz.func103, Tryz.ntmps103
  go_wp2
  go_loopw [8] (fun s8 w' => ∃ i : Nat, i ≤ z ∧ s8 = .int .i64 (i : Int) ∧ w' = w) (fun s8 w' => ((n : Int) - intOf s8).toNat)
  case atStart => exact ⟨0, by omega, rfl, rfl⟩
  case round =>
    obtain ⟨i, hi, rfl, rfl⟩ := hrel
    have hiz : (i : Int) < (n : Int) := by omega
    obtain ⟨y, hy, hc⟩ := HC.out i (by rw [HN.out]; omega)
    by_cases e : i = z
    · have hy0 : y = 0 := by rw [e, H3.out.1] at hy; exact (Option.some.inj hy).symm
      subst hy0
      subst e
      clear hy
      go_wp2
      go_ret
      exact ⟨rfl, rfl⟩
    · have hy0 : ¬ y = 0 := fun h => by subst h; exact H3.out.2 i (by omega) hy
      have hyz : ¬ (0 : Int) = (y : Int) := by omega
      clear hy
      go_wp2
      go_roundw
      case rel => exact ⟨i + 1, by omega, by push_cast; rfl, trivial⟩
      case measure => simp [intOf]; omega

def fineI (y : Int) : Bool := decide (0 ≤ y) && decide (y ≤ 2147483647)
set_option maxHeartbeats 4000000 in
set_option maxRecDepth 1000000 in
theorem outside_ok (y : Int) (w : World) : Calls Tryz.prog 100 #[.int .i64 y] w fun e w' => e = .returned (.bool (!fineI y)) ∧ w' = w := by
  unfold fineI
  by_cases h1 : y < 0
  · have h1' : ¬ 0 ≤ y := by omega
    go_enter Tryz.func100, Tryz.ntmps100
    go_wp2
    go_ret
    exact ⟨by simp [h1'], rfl⟩
  · have h1' : 0 ≤ y := by omega
    go_enter Tryz.func100, Tryz.ntmps100
    go_wp2
    go_ret
    refine ⟨?_, rfl⟩
    by_cases h2 : y ≤ 2147483647
    · simp [h1', h2]
    · simp [h1', h2]; omega

set_option maxHeartbeats 4000000 in
set_option maxRecDepth 1000000 in
theorem indexFunc_ok (a : Option Addr) (ys : List Int) (cap : Nat) (w : World) (hR : Row w a ys) (hl : ys.length ≤ 288) :
    Calls Tryz.prog 122 #[.slice a ys.length cap, .func (.func 100) #[] #[]] w fun e w' => (∃ z : Int, e = .returned (.int .i64 z) ∧ decide (0 ≤ z) = !(ys.all fineI)) ∧ w' = w := by
  have HR : Hid (Row w a ys) := hR
  clear hR
  have HO : Hid (∀ y w, Calls Tryz.prog 100 #[.int .i64 y] w fun e w' => e = .returned (.bool (!fineI y)) ∧ w' = w) := outside_ok
  obtain ⟨n, hn⟩ : ∃ n, ys.length = n := ⟨_, rfl⟩
  rw [hn] at hl
  rw [hn]
  have HN : Hid (ys.length = n) := hn
  clear hn
  go_enter Tryz.func122, Tryz.ntmps122
  go_wp2
  go_loopw [8] (fun s8 w' => ∃ i : Nat, i ≤ n ∧ s8 = .int .i64 (i : Int) ∧ Hid ((ys.take i).all fineI = true) ∧ w' = w) (fun s8 w' => ((n : Int) - intOf s8).toNat)
  case atStart => exact ⟨0, by omega, rfl, rfl, rfl⟩
  case round =>
    obtain ⟨i, hi, rfl, HI, rfl⟩ := hrel
    by_cases hin : i < n
    · have hiz : (i : Int) < (n : Int) := by omega
      have hil : i < ys.length := by rw [HN.out]; exact hin
      obtain ⟨b, off, rfl, hb, hc⟩ := HR.out.at (by omega)
      have c1 := hc wr (Keeps.refl _ _) i hil
      rw [at_eq i hil] at c1
      have HU : Hid ((ys.take (i + 1)).all fineI = ((ys.take i).all fineI && fineI ys[i])) := by
        show (ys.take (i + 1)).all fineI = _
        rw [List.take_succ_eq_append_getElem hil, List.all_append]; simp only [List.all_cons, List.all_nil, Bool.and_true]
      have HV : Hid (fineI ys[i] = false → ys.all fineI = false) := fun h => by
        rw [List.all_eq_false]; exact ⟨ys[i], List.getElem_mem hil, by rw [h]; decide⟩
      generalize ys[i] = y at *
      clear hc
      cases hf : fineI y with
      | true =>
        have HO' : Hid (∀ w, Calls Tryz.prog 100 #[.int .i64 y] w fun e w' => e = .returned (.bool false) ∧ w' = w) := fun w => by have := HO.out y w; rw [hf] at this; exact this
        go_wp2_with (go_at_call 100; refine (HO'.out _).mono ?_; rintro e w' ⟨rfl, hw⟩; obtain rfl := hw.symm; clear hw)
        go_roundw
        case rel => exact ⟨i + 1, by omega, by push_cast; rfl, by show _ = true; rw [HU.out, HI.out, hf]; rfl, trivial⟩
        case measure => simp [intOf]; omega
      | false =>
        have HO' : Hid (∀ w, Calls Tryz.prog 100 #[.int .i64 y] w fun e w' => e = .returned (.bool true) ∧ w' = w) := fun w => by have := HO.out y w; rw [hf] at this; exact this
        go_wp2_with (go_at_call 100; refine (HO'.out _).mono ?_; rintro e w' ⟨rfl, hw⟩; obtain rfl := hw.symm; clear hw)
        go_ret
        exact ⟨⟨(i : Int), rfl, by rw [HV.out hf]; simp⟩, rfl⟩
    · obtain rfl : i = n := by omega
      go_wp2
      go_ret
      have := HI.out
      rw [List.take_of_length_le (by have := HN.out; omega)] at this
      exact ⟨⟨-1, rfl, by rw [this]; rfl⟩, rfl⟩

set_option maxHeartbeats 4000000 in
set_option maxRecDepth 1000000 in
theorem contains_ok (a : Option Addr) (ys : List Int) (cap : Nat) (w : World) (hR : Row w a ys) (hl : ys.length ≤ 288) :
    Calls Tryz.prog 101 #[.slice a ys.length cap, .func (.func 100) #[] #[]] w fun e w' => e = .returned (.bool (!(ys.all fineI))) ∧ w' = w := by
  have HC : Hid (Calls Tryz.prog 122 #[.slice a ys.length cap, .func (.func 100) #[] #[]] w fun e w' => (∃ z : Int, e = .returned (.int .i64 z) ∧ decide (0 ≤ z) = !(ys.all fineI)) ∧ w' = w) := indexFunc_ok a ys cap w hR hl
  clear hR
  go_enter Tryz.func101, Tryz.ntmps101
  go_wp2_with (go_at_call 122; refine HC.out.mono ?_; rintro e w' ⟨⟨z, rfl, hz⟩, hw⟩; obtain rfl := hw.symm; clear hw; have HZ : Hid (decide (0 ≤ z) = !(ys.all fineI)) := hz; clear hz)
  go_ret
  exact ⟨by rw [← HZ.out]; rfl, rfl⟩

set_option maxHeartbeats 4000000 in
set_option maxRecDepth 1000000 in
theorem mayBe_ok (a : Option Addr) (ys : List Int) (cap : Nat) (w : World) (hR : Row w a ys) (hl : ys.length ≤ 9223372036854775807) :
    Calls Tryz.prog 70 #[.slice a ys.length cap] w fun e w' => e = .returned (.bool (mayL ys)) ∧ w' = w := by
  by_cases h1 : ys.length < 2
  · have hm : mayL ys = false := by unfold mayL; rw [decide_eq_false (by omega)]; rfl
    rw [hm]
    have hz : (ys.length : Int) < 2 := by omega
    generalize ys.length = n at *
    clear hR hm
    go_enter Tryz.func70, Tryz.ntmps70
    go_wp2
    go_ret
    exact ⟨rfl, rfl⟩
  · have hz : ¬ (ys.length : Int) < 2 := by omega
    by_cases h2 : ys.length ≤ 288
    · have hz2 : ¬ (288 : Int) < (ys.length : Int) := by omega
      have hm : mayL ys = ys.all fineI := by unfold mayL; rw [decide_eq_true (by omega), decide_eq_true h2]; rfl
      have HC : Hid (Calls Tryz.prog 101 #[.slice a ys.length cap, .func (.func 100) #[] #[]] w fun e w' => e = .returned (.bool (!(ys.all fineI))) ∧ w' = w) := contains_ok a ys cap w hR h2
      rw [hm]
      generalize ys.all fineI = B at *
      generalize ys.length = n at *
      clear hR hm
      go_enter Tryz.func70, Tryz.ntmps70
      go_wp2_with (go_at_call 101; refine HC.out.mono ?_; rintro e w' ⟨rfl, hw⟩; obtain rfl := hw.symm; clear hw)
      go_ret
      exact ⟨by simp, rfl⟩
    · have hz2 : (288 : Int) < (ys.length : Int) := by omega
      have hm : mayL ys = false := by unfold mayL; rw [decide_eq_false h2]; simp
      rw [hm]
      generalize ys.length = n at *
      clear hR hm
      go_enter Tryz.func70, Tryz.ntmps70
      go_wp2
      go_ret
      exact ⟨rfl, rfl⟩

end Go.Proofs.YtdbfbijalhknnabGreat.Lm

namespace Go.Proofs.YtdbfbijalhknnabGreat.Lm
open Go.RowKit
set_option linter.unusedVariables false
set_option linter.unusedSimpArgs false

set_option maxHeartbeats 4000000 in
set_option maxRecDepth 1000000 in
theorem paired_ok (x : Addr) (ys : List Int) (cap : Nat) (w : World) (hR : Row w (some x) ys) (hm : mayL ys = true) :
    Calls Tryz.prog 71 #[.slice (some x) ys.length cap] w fun e w' => ∃ g c, e = .returned (.slice (some ⟨g, 0, none⟩) ys.length c) ∧ Own w' g c (ints (ownL ys)) ∧ Keeps (fun _ => False) w w' ∧ w.heap.size ≤ g := by
  obtain ⟨m1, m2, _⟩ := mayL_is hm
  have hnl : (nats ys).length = ys.length := by simp [nats]
  have HC : Hid (Calls Tryz.prog 102 #[.slice (some x) ys.length cap] w fun e w' => ∃ g c, e = .returned (.slice (some ⟨g, 0, none⟩) ys.length c) ∧ Own w' g c (ints (nats ys)) ∧ Keeps (fun _ => False) w w' ∧ w.heap.size ≤ g) := by rw [ints_nats hm]; exact clone_ok x ys cap w hR m2 (by omega)
  have HU : Hid (∀ w' g c, Own w' g c (ints (nats ys)) → Calls Tryz.prog 72 #[.slice (some ⟨g, 0, none⟩) ys.length c] w' fun e w'' => ∃ a cap, e = .returned (.slice a (usedL 0 (nats ys)).length cap) ∧ Keeps (fun _ => False) w' w'') := fun w' g c ho => by
    have := used_ok (some ⟨g, 0, none⟩) (nats ys) c w' ho.row (by omega)
    rw [hnl] at this
    refine this.mono ?_
    rintro e w'' ⟨v, rfl, hv, hk⟩
    obtain ⟨a, cp, rfl, _, _⟩ := hv.row
    exact ⟨a, cp, by rw [ints_length], hk⟩
  have HX : Hid ((usedL 0 (nats ys)).length = 1 → ∀ w' g c, Own w' g c (ints (nats ys)) → Calls Tryz.prog 103 #[.slice (some ⟨g, 0, none⟩) ys.length c, .int .i64 0] w' fun e w'' => e = .returned (.int .i64 (idx0 (nats ys) : Int)) ∧ w'' = w') := fun h1 w' g c ho => by
    have := index_ok (some ⟨g, 0, none⟩) (nats ys) c w' ho.row (by omega) (by omega)
    rw [hnl] at this
    exact this
  have HI : Hid ((usedL 0 (nats ys)).length = 1 → idx0 (nats ys) < ys.length) := fun h1 => by rw [← hnl]; exact (idx0_lt (nats ys) (by omega)).1
  have HO : Hid (ownL ys = if (usedL 0 (nats ys)).length = 1 then (nats ys).set (idx0 (nats ys)) 1 else nats ys) := by
    show ownL ys = _
    unfold ownL pairedL
    by_cases h : (usedL 0 (nats ys)).length = 1
    · rw [if_pos h, h]; rfl
    · rw [if_neg h, show ((usedL 0 (nats ys)).length == 1) = false by simpa using h]; rfl
  have hNL : Hid ((nats ys).length = ys.length) := hnl
  generalize ownL ys = ow at *
  generalize hU : (usedL 0 (nats ys)).length = u at *
  have hu : u ≤ 288 := by rw [← hU, usedL_length]; have := wsOf_le (nats ys); omega
  clear hR hm hU hnl
  generalize nats ys = zs at *
  generalize ys.length = n at *
  generalize idx0 zs = ix at *
  by_cases h1 : u = 1
  · subst h1
    rw [if_pos rfl] at HO
    have hix := HI.out rfl
    have HX1 : Hid (∀ w' g c, Own w' g c (ints zs) → Calls Tryz.prog 103 #[.slice (some ⟨g, 0, none⟩) n c, .int .i64 0] w' fun e w'' => e = .returned (.int .i64 (ix : Int)) ∧ w'' = w') := HX.out rfl
    clear HX HI
    have hixz : (ix : Int) < (n : Int) := by omega
    go_enter Tryz.func71, Tryz.ntmps71
    go_wp2_with (first
      | (go_at_call 102; refine HC.out.mono ?_; rintro e w1 ⟨g, c, rfl, h1, h2, h3⟩; have H1 : Hid (Own w1 g c (ints zs) ∧ Keeps (fun _ => False) w w1 ∧ w.heap.size ≤ g) := ⟨h1, h2, h3⟩; clear h1 h2 h3)
      | (go_at_call 72; refine (HU.out w1 g c H1.out.1).mono ?_; rintro e w2 ⟨a2, c2, rfl, h2⟩; have H2 : Hid (Own w2 g c (ints zs) ∧ Keeps (fun _ => False) w w2) := ⟨H1.out.1.kept h2 (fun h => h), H1.out.2.1.trans h2 (fun _ _ h => h)⟩; have hcc := H2.out.1.cell ix (by rw [ints_length, hNL.out]; exact hix); have hcf := H2.out.1.free ix (by rw [ints_length, hNL.out]; exact hix); clear h2)
      | (go_at_call 103; refine (HX1.out w2 g c H2.out.1).mono ?_; rintro e w3 ⟨rfl, hw⟩; obtain rfl := hw.symm; clear hw))
    go_ret
    refine ⟨g, c, rfl, ?_, H2.out.2.setCell (fun h => by have := H1.out.2.2; simp at h; omega) _, H1.out.2.2⟩
    rw [HO.out, ← ints_set]
    exact H2.out.1.set ix 1
  · rw [if_neg h1] at HO
    have h1z : ¬ (u : Int) = 1 := by omega
    go_enter Tryz.func71, Tryz.ntmps71
    go_wp2_with (first
      | (go_at_call 102; refine HC.out.mono ?_; rintro e w1 ⟨g, c, rfl, h1, h2, h3⟩; have H1 : Hid (Own w1 g c (ints zs) ∧ Keeps (fun _ => False) w w1 ∧ w.heap.size ≤ g) := ⟨h1, h2, h3⟩; clear h1 h2 h3)
      | (go_at_call 72; refine (HU.out w1 g c H1.out.1).mono ?_; rintro e w2 ⟨a2, c2, rfl, h2⟩; have H2 : Hid (Own w2 g c (ints zs) ∧ Keeps (fun _ => False) w w2) := ⟨H1.out.1.kept h2 (fun h => h), H1.out.2.1.trans h2 (fun _ _ h => h)⟩; clear h2))
    go_ret
    exact ⟨g, c, rfl, by rw [HO.out]; exact H2.out.1, H2.out.2, H1.out.2.2⟩

set_option maxHeartbeats 4000000 in
set_option maxRecDepth 1000000 in
theorem lengths_form (a : Option Addr) (ys : List Int) (cap : Nat) (most : Int) (w : World) (hR : Row w a ys) (hl : ys.length ≤ 9223372036854775807) (hb : (mayL ys && (decide (1 ≤ most) && decide (most ≤ 15))) = false) :
    Calls Tryz.prog 38 #[.slice a ys.length cap, .int .i64 most] w fun e w' => e = .returned (.tuple #[.slice none 0 0, .int .i64 400]) ∧ w' = w := by
  have HM : Hid (Calls Tryz.prog 70 #[.slice a ys.length cap] w fun e w' => e = .returned (.bool (mayL ys)) ∧ w' = w) := mayBe_ok a ys cap w hR hl
  generalize mayL ys = B at *
  generalize ys.length = n at *
  clear hR
  cases B with
  | false =>
    clear hb
    go_enter Tryz.func38, Tryz.ntmps38
    go_wp2_with (go_at_call 70; refine HM.out.mono ?_; rintro e w' ⟨rfl, hw⟩; obtain rfl := hw.symm; clear hw)
    go_ret2
    exact ⟨rfl, rfl⟩
  | true =>
    by_cases h1 : most < 1
    · clear hb
      go_enter Tryz.func38, Tryz.ntmps38
      go_wp2_with (go_at_call 70; refine HM.out.mono ?_; rintro e w' ⟨rfl, hw⟩; obtain rfl := hw.symm; clear hw)
      go_ret2
      exact ⟨rfl, rfl⟩
    · have h2 : 15 < most := by simp at hb; omega
      clear hb
      go_enter Tryz.func38, Tryz.ntmps38
      go_wp2_with (go_at_call 70; refine HM.out.mono ?_; rintro e w' ⟨rfl, hw⟩; obtain rfl := hw.symm; clear hw)
      go_ret2
      exact ⟨rfl, rfl⟩


theorem two_pow (k : Nat) (hk : k ≤ 15) : wrap64 ((2 : Int) ^ k) = ((2 ^ k : Nat) : Int) ∧ 2 ^ k ≤ 32768 := by
  have hp : (2 : Nat) ^ k ≤ 2 ^ 15 := Nat.pow_le_pow_right (by decide) hk
  have e : (2 : Int) ^ k = ((2 ^ k : Nat) : Int) := by simp
  rw [e]
  generalize 2 ^ k = z at hp
  refine ⟨?_, by omega⟩
  simp only [wrap64]; omega

set_option maxHeartbeats 4000000 in
set_option maxRecDepth 1000000 in
theorem lengths_over (a : Option Addr) (ys : List Int) (cap : Nat) (most : Int) (w : World) (hR : Row w a ys) (hm : mayL ys = true) (h1 : 1 ≤ most) (h2 : most ≤ 15) (hb : ¬ (usedL 0 (ownL ys)).length ≤ 2 ^ most.toNat) :
    Calls Tryz.prog 38 #[.slice a ys.length cap, .int .i64 most] w fun e w' => e = .returned (.tuple #[.slice none 0 0, .int .i64 400]) ∧ Keeps (fun _ => False) w w' := by
  obtain ⟨m1, m2, m3⟩ := mayL_is hm
  obtain ⟨b0, off0, rfl, m4, m5⟩ := hR.spot (by omega)
  have HM : Hid (Calls Tryz.prog 70 #[.slice (some ⟨b0, off0, none⟩) ys.length cap] w fun e w' => e = .returned (.bool true) ∧ w' = w) := by rw [← hm]; exact mayBe_ok _ ys cap w hR (by omega)
  have HP : Hid (Calls Tryz.prog 71 #[.slice (some ⟨b0, off0, none⟩) ys.length cap] w fun e w' => ∃ g c, e = .returned (.slice (some ⟨g, 0, none⟩) ys.length c) ∧ Own w' g c (ints (ownL ys)) ∧ Keeps (fun _ => False) w w' ∧ w.heap.size ≤ g) := paired_ok _ ys cap w hR hm
  have HU : Hid (∀ w' g c, Own w' g c (ints (ownL ys)) → Calls Tryz.prog 72 #[.slice (some ⟨g, 0, none⟩) ys.length c] w' fun e w'' => ∃ a cap, e = .returned (.slice a (usedL 0 (ownL ys)).length cap) ∧ Keeps (fun _ => False) w' w'') := fun w' g c ho => by
    have := used_ok (some ⟨g, 0, none⟩) (ownL ys) c w' ho.row (by rw [ownL_length]; omega)
    rw [ownL_length] at this
    refine this.mono ?_
    rintro e w'' ⟨v, rfl, hv, hk⟩
    obtain ⟨a, cp, rfl, _, _⟩ := hv.row
    exact ⟨a, cp, by rw [ints_length], hk⟩
  obtain ⟨k, rfl⟩ : ∃ k : Nat, most = (k : Int) := ⟨most.toNat, by omega⟩
  have hu : (usedL 0 (ownL ys)).length ≤ 288 := by rw [usedL_length]; have := wsOf_le (ownL ys); rw [ownL_length] at this; omega
  have hb' : 2 ^ k < (usedL 0 (ownL ys)).length := by simpa using hb
  obtain ⟨hsh, hp2⟩ := two_pow k (by omega)
  generalize 2 ^ k = P at hb' hsh hp2
  have hbz : (P : Int) < ((usedL 0 (ownL ys)).length : Int) := by omega
  have hk1 : ¬ (k : Int) < 1 := by omega
  have hk2 : ¬ 15 < (k : Int) := by omega
  clear hR hm hb m3 m4 m5
  generalize (usedL 0 (ownL ys)).length = u at *
  generalize ownL ys = zs at *
  generalize ys.length = n at *
  go_enter Tryz.func38, Tryz.ntmps38
  go_wp2_with (first
    | (go_at_call 70; refine HM.out.mono ?_; rintro e w' ⟨rfl, hw⟩; obtain rfl := hw.symm; clear hw)
    | (go_at_call 71; refine HP.out.mono ?_; rintro e w1 ⟨g, c, rfl, h1, h2, h3⟩; have H1 : Hid (Own w1 g c (ints zs) ∧ Keeps (fun _ => False) w w1 ∧ w.heap.size ≤ g) := ⟨h1, h2, h3⟩; clear h1 h2 h3)
    | (go_at_call 72; refine (HU.out w1 g c H1.out.1).mono ?_; rintro e w2 ⟨a2, c2, rfl, h2⟩; have H2 : Hid (Keeps (fun _ => False) w w2) := H1.out.2.1.trans h2 (fun _ _ h => h); clear h2))
  go_ret2
  exact ⟨rfl, H2.out⟩

/-- What the numbers of a block sum to. -/
def blkSum (w : World) (g n : Nat) : Nat := match w.heap[g]? with
  | some (.cells cs _ _) => ((cs.toList.take n).map (fun v => (intOf v).toNat)).sum
  | _ => 0
theorem blkSum_own {w : World} {g c n : Nat} {ys : List Nat} (h : Own w g c (ints ys)) (hn : ys.length = n) : blkSum w g n = ys.sum := by
  obtain ⟨_, ⟨e, _⟩ | ⟨g', c', cur, e, _, h1, _, _, _, h2⟩⟩ := h
  · cases e
  · simp only [Value.slice.injEq, Option.some.injEq, Addr.mk.injEq] at e
    obtain ⟨⟨rfl, _⟩, _, rfl⟩ := e
    unfold blkSum
    rw [h1]
    simp only
    rw [ints_length, Nat.mul_one, hn] at h2
    rw [h2]
    congr 1
    simp only [intsV, ints, List.map_map]
    conv => rhs; rw [← List.map_id ys]
    apply List.map_congr_left
    intro y _
    simp [intOf]

set_option maxHeartbeats 4000000 in
set_option maxRecDepth 1000000 in
theorem lengths_good (a : Option Addr) (ys : List Int) (cap : Nat) (most : Int) (w : World) (hR : Row w a ys) (hf : fitL ys most = true) :
    Calls Tryz.prog 38 #[.slice a ys.length cap, .int .i64 most] w fun e w' => ∃ g, e = .returned (.tuple #[.slice (some ⟨g, 0, none⟩) ys.length ys.length, .int .i64 0]) ∧ Own w' g ys.length (ints (resL ys most)) ∧ Keeps (fun _ => False) w w' ∧ w.heap.size ≤ g := by
  obtain ⟨hm, h1, h2, hb⟩ : mayL ys = true ∧ 1 ≤ most ∧ most ≤ 15 ∧ (usedL 0 (ownL ys)).length ≤ 2 ^ most.toNat := by
    simp only [fitL, Bool.and_eq_true, decide_eq_true_eq] at hf; exact hf
  obtain ⟨m1, m2, m3⟩ := mayL_is hm
  obtain ⟨b0, off0, rfl, m4, m5⟩ := hR.spot (by omega)
  have HM : Hid (Calls Tryz.prog 70 #[.slice (some ⟨b0, off0, none⟩) ys.length cap] w fun e w' => e = .returned (.bool true) ∧ w' = w) := by rw [← hm]; exact mayBe_ok _ ys cap w hR (by omega)
  have HP : Hid (Calls Tryz.prog 71 #[.slice (some ⟨b0, off0, none⟩) ys.length cap] w fun e w' => ∃ g c, e = .returned (.slice (some ⟨g, 0, none⟩) ys.length c) ∧ Own w' g c (ints (ownL ys)) ∧ Keeps (fun _ => False) w w' ∧ w.heap.size ≤ g) := paired_ok _ ys cap w hR hm
  have HU : Hid (∀ w' g c, Own w' g c (ints (ownL ys)) → Calls Tryz.prog 72 #[.slice (some ⟨g, 0, none⟩) ys.length c] w' fun e w'' => ∃ a cap, e = .returned (.slice a (usedL 0 (ownL ys)).length cap) ∧ Row w'' a (ints (usedL 0 (ownL ys))) ∧ (∀ x, a = some x → w'.heap.size ≤ x.block) ∧ Keeps (fun _ => False) w' w'') := fun w' g c ho => by
    have := used_ok (some ⟨g, 0, none⟩) (ownL ys) c w' ho.row (by rw [ownL_length]; omega)
    rw [ownL_length] at this
    refine this.mono ?_
    rintro e w'' ⟨v, rfl, hv, hk⟩
    obtain ⟨a, cp, rfl, q1, q2⟩ := hv.row
    exact ⟨a, cp, by rw [ints_length], q1, q2, hk⟩
  obtain ⟨k, rfl⟩ : ∃ k : Nat, most = (k : Int) := ⟨most.toNat, by omega⟩
  have hb' : (usedL 0 (ownL ys)).length ≤ 2 ^ k := by simpa using hb
  have HW : Hid ((usedL 0 (ownL ys)).length ≤ 2 ^ k) := hb'
  obtain ⟨hsh, hp2⟩ := two_pow k (by omega)
  generalize 2 ^ k = P at hb' hsh hp2
  have hbz : ¬ (P : Int) < ((usedL 0 (ownL ys)).length : Int) := by omega
  have hk1 : ¬ (k : Int) < 1 := by omega
  have hk2 : ¬ 15 < (k : Int) := by omega
  have HL : Hid ((ownL ys).length = ys.length ∧ (∀ y ∈ ownL ys, y ≤ 2147483647) ∧ lim k (ownL ys).sum (ownL ys) = resL ys (k : Int)) := ⟨ownL_length ys, ownL_le hm, by unfold resL; simp⟩
  generalize hu : usedL 0 (ownL ys) = U at *
  have HUU : Hid (usedL 0 (ownL ys) = U) := hu
  have hul : U.length ≤ 288 := by rw [← hu, usedL_length]; have := wsOf_le (ownL ys); rw [ownL_length] at this; omega
  generalize resL ys (k : Int) = R at *
  clear hR hf hm hb m3 m4 m5 hu
  generalize ownL ys = zs at *
  generalize ys.length = n at *
  obtain ⟨u, hu⟩ : ∃ u, U.length = u := ⟨_, rfl⟩
  rw [hu] at HU hb' hbz hul
  have HUl : Hid (U.length = u) := hu
  clear hu
  have HDp : Hid (∀ w' g c cur gs cs, Own w' g c (ints cur) → Row w' gs (ints U) → usedL 0 cur = U → cur.length = n → (∀ y ∈ cur, y ≤ 2147483647) → Calls Tryz.prog 73 #[.slice (some ⟨g, 0, none⟩) n c, .slice gs u cs] w' fun e w'' => ∃ gl, e = .returned (.slice (some ⟨gl, 0, none⟩) n n) ∧ Own w'' gl n (ints (depthsL cur)) ∧ Keeps (fun _ => False) w' w'' ∧ w'.heap.size ≤ gl) := fun w' g c cur gs cs ho hr hcu hcl hcb => by
    have := depths_ok (some ⟨g, 0, none⟩) gs cur c cs w' ho.row (by rw [hcu]; exact hr) (by omega) (by omega) hcb
    rw [hcu, hcl, HUl.out] at this
    exact this
  go_enter Tryz.func38, Tryz.ntmps38
  go_wp2_with (first
    | (go_at_call 70; refine HM.out.mono ?_; rintro e w' ⟨rfl, hw⟩; obtain rfl := hw.symm; clear hw)
    | (go_at_call 71; refine HP.out.mono ?_; rintro e w1 ⟨g, c, rfl, h1, h2, h3⟩; have H1 : Hid (Own w1 g c (ints zs) ∧ Keeps (fun _ => False) w w1 ∧ w.heap.size ≤ g) := ⟨h1, h2, h3⟩; clear h1 h2 h3)
    | (go_at_call 72; refine (HU.out w1 g c H1.out.1).mono ?_; rintro e w2 ⟨a2, c2, rfl, h1, h2, h3⟩; have H2 : Hid (Own w2 g c (ints zs) ∧ Row w2 a2 (ints U) ∧ Keeps (fun _ => False) w w2 ∧ (∀ x, a2 = some x → x.block ≠ g)) := ⟨H1.out.1.kept h3 (fun h => h), h1, H1.out.2.1.trans h3 (fun _ _ h => h), fun x hx => by (have e1 := h2 x hx; have e2 := H1.out.1.lt; omega)⟩; clear h1 h2 h3)
    | (go_at_call 73; refine (HDp.out w2 g c zs a2 c2 H2.out.1 H2.out.2.1 HUU.out HL.out.1 HL.out.2.1).mono ?_; rintro e w3 ⟨gl, rfl, h1, h2, h3⟩; have H3 : Hid (Own w3 gl n (ints (depthsL zs)) ∧ Keeps (fun _ => False) w2 w3 ∧ w2.heap.size ≤ gl) := ⟨h1, h2, h3⟩; clear h1 h2 h3))
  have HI : Hid (∃ cur fuel, Own w3 gl n (ints (depthsL cur)) ∧ Own w3 g c (ints cur) ∧ Row w3 a2 (ints U) ∧ usedL 0 cur = U ∧ cur.length = n ∧ (∀ y ∈ cur, y ≤ 2147483647) ∧ cur.sum ≤ fuel ∧ lim k fuel cur = R ∧ g < gl ∧ Keeps (fun _ => False) w w3) := by
    obtain ⟨a1, a3, a4, a5⟩ := H2.out
    obtain ⟨b1, b2, b3⟩ := H3.out
    obtain ⟨l1, l2, l3⟩ := HL.out
    exact ⟨zs, zs.sum, b1, a1.kept b2 (fun h => h), a3.keptF b2, HUU.out, l1, l2, Nat.le_refl _, l3, by have := a1.lt; omega, a4.trans b2 (fun _ _ h => h)⟩
  have HA : Hid ((∀ x, a2 = some x → x.block ≠ g) ∧ w.heap.size ≤ g) := ⟨H2.out.2.2.2, H1.out.2.2⟩
  clear HM HP HU H1 H2 H3 HL HUU
  go_loopw [8] (fun s8 w' => ∃ gl, s8 = .slice (some ⟨gl, 0, none⟩) n n ∧ Hid (∃ cur fuel, Own w' gl n (ints (depthsL cur)) ∧ Own w' g c (ints cur) ∧ Row w' a2 (ints U) ∧ usedL 0 cur = U ∧ cur.length = n ∧ (∀ y ∈ cur, y ≤ 2147483647) ∧ cur.sum ≤ fuel ∧ lim k fuel cur = R ∧ g < gl ∧ Keeps (fun _ => False) w w')) (fun s8 w' => blkSum w' g n)
  case atStart => exact ⟨gl, rfl, HI⟩
  case round =>
    clear HI
    obtain ⟨gl, rfl, HI⟩ := hrel
    obtain ⟨cur, fuel, i1, i2, i3, i4, i5, i6, i7, i8, i9, i10⟩ := HI.out
    have hdl : (depthsL cur).length = n := by unfold depthsL; rw [spread_length, i5]
    have HMx : Hid (Calls Tryz.prog 74 #[.slice (some ⟨gl, 0, none⟩) n n] wr fun e w' => e = .returned (.int .i64 (maxL (depthsL cur) : Int)) ∧ Keeps (fun _ => False) wr w') := by
      have := max_ok (some ⟨gl, 0, none⟩) (depthsL cur) n wr i1.row (by omega) (by omega)
      rw [hdl] at this; exact this
    obtain ⟨mx, hmx⟩ : ∃ mx, maxL (depthsL cur) = mx := ⟨_, rfl⟩
    rw [hmx] at HMx
    by_cases hle : mx ≤ k
    · have hz : ¬ (k : Int) < (mx : Int) := by omega
      have HE : Hid (∀ w', Keeps (fun _ => False) wr w' → Own w' gl n (ints R) ∧ Keeps (fun _ => False) w w' ∧ g < gl) := fun w' hk => by
        refine ⟨?_, i10.trans hk (fun _ _ h => h), i9⟩
        rw [← i8, lim_done k fuel cur (by omega)]; exact i1.kept hk (fun h => h)
      clear HI i1 i2 i3 i4 i5 i6 i7 i8 i9 i10 hdl hmx
      go_wp2_with (go_at_call 74; refine HMx.out.mono ?_; rintro e w4 ⟨rfl, hK4⟩; have HK4 : Hid (Keeps (fun _ => False) wr w4) := hK4; clear hK4)
      go_ret2
      obtain ⟨e1, e2, e3⟩ := HE.out _ HK4.out
      exact ⟨gl, rfl, e1, e2, by have := HA.out.2; omega⟩
    · have hz : (k : Int) < (mx : Int) := by omega
      have hws : (wsOf cur).length ≤ 2 ^ k := by rw [← usedL_length cur 0, i4]; exact HW.out
      have hlt := more_half cur k hws (by omega)
      obtain ⟨fuel', f1, f2, f3⟩ := lim_more k fuel cur i7 hws (by omega)
      have hh : ∀ y ∈ halveL cur, y ≤ 2147483647 := fun y hy => by
        simp only [halveL, List.mem_map] at hy
        obtain ⟨x, hx, rfl⟩ := hy
        have := i6 x hx; unfold half; omega
      have hhl : (halveL cur).length = n := by simp [halveL, i5]
      have hsm := blkSum_own i2 i5
      have HHv : Hid (∀ w', Keeps (fun _ => False) wr w' → Calls Tryz.prog 75 #[.slice (some ⟨g, 0, none⟩) n c] w' fun e w'' => e = .returned (.tuple #[]) ∧ Own w'' g c (ints (halveL cur)) ∧ Row w'' a2 (ints U) ∧ Keeps (fun _ => False) w w'') := fun w' hk => by
        have := halve_ok g c cur w' (i2.kept hk (fun h => h)) (by omega) i6
        rw [i5] at this
        refine this.mono ?_
        rintro e w'' ⟨rfl, q1, q2⟩
        exact ⟨rfl, q1, (i3.keptF hk).kept q2 (fun x hx => HA.out.1 x hx), (i10.trans hk (fun _ _ h => h)).trans q2 (fun i hi h => by have := HA.out.2; omega)⟩
      have HN : Hid (usedL 0 (halveL cur) = U ∧ (halveL cur).length = n ∧ (∀ y ∈ halveL cur, y ≤ 2147483647) ∧ (halveL cur).sum ≤ fuel' ∧ lim k fuel' (halveL cur) = R ∧ (halveL cur).sum < blkSum wr g n) := ⟨by rw [usedL_half, i4], hhl, hh, f2, by rw [← f3, i8], by rw [hsm]; exact hlt⟩
      clear HI i1 i2 i3 i4 i5 i6 i7 i8 i9 i10 hdl hmx hlt f1 f2 f3 hh hhl hsm hws
      go_wp2_with (first
        | (go_at_call 74; refine HMx.out.mono ?_; rintro e w4 ⟨rfl, hK4⟩; have HK4 : Hid (Keeps (fun _ => False) wr w4) := hK4; clear hK4)
        | (go_at_call 75; refine (HHv.out w4 HK4.out).mono ?_; rintro e w5 ⟨rfl, h1, h2, h3⟩; have H5 : Hid (Own w5 g c (ints (halveL cur)) ∧ Row w5 a2 (ints U) ∧ Keeps (fun _ => False) w w5) := ⟨h1, h2, h3⟩; clear h1 h2 h3)
        | (go_at_call 73; refine (HDp.out w5 g c (halveL cur) a2 c2 H5.out.1 H5.out.2.1 HN.out.1 HN.out.2.1 HN.out.2.2.1).mono ?_; rintro e w6 ⟨gm, rfl, h1, h2, h3⟩; have H6 : Hid (Own w6 gm n (ints (depthsL (halveL cur))) ∧ Keeps (fun _ => False) w5 w6 ∧ w5.heap.size ≤ gm) := ⟨h1, h2, h3⟩; clear h1 h2 h3))
      go_roundw
      case rel =>
        obtain ⟨a1, a3, a4⟩ := H5.out
        obtain ⟨b1, b2, b3⟩ := H6.out
        obtain ⟨n1, n2, n3, n4, n5, n6⟩ := HN.out
        exact ⟨gm, rfl, halveL cur, fuel', b1, a1.kept b2 (fun h => h), a3.keptF b2, n1, n2, n3, n4, n5, by have := a1.lt; omega, a4.trans b2 (fun _ _ h => h)⟩
      case measure =>
        have hq := blkSum_own (H5.out.1.kept H6.out.2.1 (fun h => h)) HN.out.2.1
        have := HN.out.2.2.2.2.2
        show blkSum w6 g n < blkSum wr g n
        omega

end Go.Proofs.YtdbfbijalhknnabGreat.Lm

namespace Go.Proofs.YtdbfbijalhknnabGreat.Lm
set_option linter.unusedVariables false
set_option linter.unusedSimpArgs false

def rm (l : Nat) : Nat := if 0 < l then 2 ^ (15 - l) else 0
def pos1 (l : Nat) : Nat := if 0 < l then 1 else 0
theorem spread_sum (F : Nat → Nat) (hF : F 0 = 0) : ∀ (ys ds : List Nat), ds.length = (wsOf ys).length → ((spread ys ds).map F).sum = (ds.map F).sum
  | [], ds, h => by rw [List.length_eq_zero_iff.1 h]; rfl
  | 0 :: r, ds, h => by simp only [spread, List.map_cons, List.sum_cons, hF, Nat.zero_add]; exact spread_sum F hF r ds h
  | (c + 1) :: r, d :: ds, h => by simp only [spread, List.map_cons, List.sum_cons]; rw [spread_sum F hF r ds (by simpa [wsOf] using h)]
  | (c + 1) :: r, [], h => by simp [wsOf] at h
theorem spread_pos : ∀ (ys ds : List Nat), ds.length = (wsOf ys).length → (∀ d ∈ ds, 0 < d) → ∀ i, 0 < ys.getD i 0 → 0 < (spread ys ds).getD i 0
  | [], ds, _, _, i, h => by simp at h
  | 0 :: r, ds, hl, hd, 0, h => by simp at h
  | 0 :: r, ds, hl, hd, i + 1, h => by
    simp only [spread, List.getD_cons_succ] at *
    exact spread_pos r ds hl hd i h
  | (c + 1) :: r, d :: ds, hl, hd, 0, h => by simp [spread, hd d (by simp)]
  | (c + 1) :: r, d :: ds, hl, hd, i + 1, h => by
    simp only [spread, List.getD_cons_succ] at *
    exact spread_pos r ds (by simpa [wsOf] using hl) (fun x hx => hd x (by simp [hx])) i h
  | (c + 1) :: r, [], hl, _, _, _ => by simp [wsOf] at hl
theorem wsOf_set : ∀ (ys : List Nat), (wsOf ys).length < ys.length → (wsOf (ys.set (idx0 ys) 1)).length = (wsOf ys).length + 1
  | [], h => by simp [wsOf] at h
  | 0 :: r, _ => by simp [idx0, wsOf]
  | (c + 1) :: r, h => by
    have := wsOf_set r (by simpa [wsOf] using h)
    simp [idx0, wsOf, this]
theorem paired_two (ys : List Nat) (h : 2 ≤ ys.length) : (wsOf (pairedL ys)).length ≠ 1 := by
  unfold pairedL
  cases hb : ((usedL 0 ys).length == 1) with
  | true =>
    have h1 : (wsOf ys).length = 1 := by rw [← usedL_length ys 0]; simpa using hb
    rw [cond_true, wsOf_set ys (by omega), h1]; omega
  | false =>
    have h1 : ¬ (usedL 0 ys).length = 1 := by simpa using hb
    rw [cond_false, ← usedL_length ys 0]; exact h1
theorem paired_pos (ys : List Nat) (i : Nat) (h : 0 < ys.getD i 0) : 0 < (pairedL ys).getD i 0 := by
  unfold pairedL
  cases ((usedL 0 ys).length == 1)
  · exact h
  · rw [cond_true, List.getD, List.getElem?_set]
    by_cases e : idx0 ys = i
    · rw [if_pos e]
      have hi : i < ys.length := by
        by_cases h' : i < ys.length
        · exact h'
        · rw [List.getD, List.getElem?_eq_none (by omega)] at h; simp at h
      rw [if_pos (by omega)]; simp
    · rw [if_neg e]; exact h
theorem ds_pos (ws : List Nat) (h : 2 ≤ ws.length) : ∀ d ∈ dsOf ws, 0 < d := by
  intro d hd
  simp only [dsOf, List.mem_map, List.mem_range] at hd
  obtain ⟨j, hj, rfl⟩ := hd
  obtain ⟨u, _, _, _, hu⟩ := (chain_of ws (by omega)).up j (by omega)
  have hu' : dpS (ws.length - 1) (sort0 ws) ws.length j = dAll ws u + 1 := hu
  omega
theorem ds_room (ws : List Nat) (h : 2 ≤ ws.length) (hB : ∀ d ∈ dsOf ws, d ≤ 15) : ((dsOf ws).map rm).sum = 32768 ∧ ((dsOf ws).map pos1).sum = ws.length := by
  have hp := ds_pos ws h
  refine ⟨?_, ?_⟩
  · have e1 : (dsOf ws).map rm = (dsOf ws).map (fun d => 2 ^ (15 - d)) := List.map_congr_left (fun d hd => by simp [rm, hp d hd])
    rw [e1]
    have hk := kraft (ws.length - 1) (sort0 ws) ws.length 15 (by rw [sort0_length]; omega) (al0 ws (by omega)) (fun t ht => by
      obtain ⟨i, hi, rfl⟩ := (mem_sort0 _ _).1 ht
      exact hB _ (by simp only [dsOf, List.mem_map, List.mem_range]; exact ⟨i, hi, rfl⟩))
    rw [sort0, sum_isort, sum_lv] at hk
    rw [show (32768 : Nat) = 2 ^ 15 from rfl, ← hk, dsOf, List.map_map]
    congr 1
    apply List.map_congr_left
    intro i _
    simp [Function.comp, sort0]
  · have e1 : (dsOf ws).map pos1 = (dsOf ws).map (fun _ => 1) := List.map_congr_left (fun d hd => by simp [pos1, hp d hd])
    rw [e1]
    have : ∀ l : List Nat, (l.map (fun _ => 1)).sum = l.length := fun l => by
      induction l with
      | nil => rfl
      | cons x r ih => simp [ih]; omega
    rw [this, dsOf_length]

theorem res_all (ys : List Int) (most : Int) (hf : fitL ys most = true) :
    (resL ys most).length = ys.length ∧ (∀ l ∈ resL ys most, l ≤ most.toNat) ∧ (∀ i, 0 < (nats ys).getD i 0 → 0 < (resL ys most).getD i 0) ∧ ((((resL ys most).map pos1).sum = 0 ∧ ((resL ys most).map rm).sum = 0) ∨ (1 < ((resL ys most).map pos1).sum ∧ ((resL ys most).map rm).sum = 32768)) ∧ 1 ≤ most ∧ most ≤ 15 := by
  obtain ⟨hm, h1, h2, hb⟩ : mayL ys = true ∧ 1 ≤ most ∧ most ≤ 15 ∧ (usedL 0 (ownL ys)).length ≤ 2 ^ most.toNat := by
    simp only [fitL, Bool.and_eq_true, decide_eq_true_eq] at hf; exact hf
  obtain ⟨m1, m2, _⟩ := mayL_is hm
  have hwl := hb
  rw [usedL_length] at hwl
  obtain ⟨cur, c1, c2, c3, c4, c5⟩ := lim_is most.toNat (ownL ys).sum (ownL ys) (Nat.le_refl _) hwl
  have hres : resL ys most = spread (ownL ys) (dsOf (wsOf cur)) := by
    unfold resL; rw [c1]; unfold depthsL; rw [c5]
  have hwc : (wsOf cur).length = (wsOf (ownL ys)).length := by rw [← usedL_length cur 0, c3, usedL_length]
  have hdl : (dsOf (wsOf cur)).length = (wsOf (ownL ys)).length := by rw [dsOf_length, hwc]
  have hle : ∀ l ∈ resL ys most, l ≤ most.toNat := by
    unfold resL; rw [c1]; exact (maxL_le _ _).1 c2
  have hn1 : (wsOf (ownL ys)).length ≠ 1 := paired_two _ (by simp [nats]; exact m1)
  refine ⟨by rw [hres, spread_length, ownL_length], hle, ?_, ?_, h1, h2⟩
  · intro i hi
    have hp := paired_pos _ i hi
    rw [hres]
    by_cases h0 : (wsOf (ownL ys)).length = 0
    · exfalso
      have hz : ∀ (zs : List Nat), (wsOf zs).length = 0 → ∀ i, ¬ 0 < zs.getD i 0 := by
        intro zs
        induction zs with
        | nil => intro _ i; simp
        | cons z r ih =>
          intro hz i
          cases z with
          | succ z => simp [wsOf] at hz
          | zero =>
            cases i with
            | zero => simp
            | succ i => simpa using ih (by simpa [wsOf] using hz) i
      exact hz _ h0 i hp
    · exact spread_pos (ownL ys) _ hdl (ds_pos _ (by omega)) i hp
  · rw [hres, spread_sum pos1 rfl _ _ hdl, spread_sum rm rfl _ _ hdl]
    by_cases h0 : (wsOf (ownL ys)).length = 0
    · left
      have : dsOf (wsOf cur) = [] := List.length_eq_zero_iff.1 (by rw [hdl, h0])
      rw [this]; exact ⟨rfl, rfl⟩
    · right
      have hcl : ∀ d ∈ dsOf (wsOf cur), d ≤ 15 := fun d hd => by
        have : ∀ (zs ds : List Nat), ds.length = (wsOf zs).length → ∀ d ∈ ds, d ∈ spread zs ds := by
          intro zs
          induction zs with
          | nil => intro ds hl d hd; rw [List.length_eq_zero_iff.1 hl] at hd; simp at hd
          | cons z r ih =>
            intro ds hl d hd
            cases z with
            | zero => simp only [spread, List.mem_cons]; exact .inr (ih ds hl d hd)
            | succ z =>
              cases ds with
              | nil => simp at hd
              | cons e ds =>
                simp only [spread, List.mem_cons] at *
                rcases hd with rfl | hd
                · exact .inl rfl
                · exact .inr (ih ds (by simpa [wsOf] using hl) d hd)
        have := hle d (by rw [hres]; exact this _ _ hdl d hd)
        omega
      obtain ⟨r1, r2⟩ := ds_room (wsOf cur) (by omega) hcl
      rw [r1, r2]
      exact ⟨by omega, rfl⟩

end Go.Proofs.YtdbfbijalhknnabGreat.Lm

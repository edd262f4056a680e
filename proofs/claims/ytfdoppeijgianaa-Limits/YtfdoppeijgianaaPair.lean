/-
  Counts looked at, copied, and a second one used.
-/
import Derived.Test.YtfdoppeijgianaaUsed
namespace Go.Proofs.Ytfdoppeijgianaa
open Go.RowKit
set_option linter.unusedVariables false
set_option linter.unusedSimpArgs false

/-- A slice that came in, for an append: nil, or somewhere. -/
def Came (a : Option Addr) (n cap : Nat) : Prop := (a = none ∧ n = 0 ∧ cap = 0) ∨ ∃ x, a = some x
theorem append_any (w : World) (base : Nat) (v : Value) (n : Nat) (xs : List Value) (hown : w.ownsRow base 3 1 v n xs) (a : Option Addr) (ys : List Int) (cap : Nat) (hR : Row w a ys) (hA : Came a ys.length cap) (hb : base ≤ w.heap.size) (hsz : (n + ys.length) * 8 ≤ 140737488355328) :
    ∃ v' w', (Builtin.append_ #[22, 22] 22 #[v, .slice a ys.length cap]).run Try.prog w = .ok v' w' ∧ w'.ownsRow base 3 1 v' (n + ys.length) (xs ++ intsV ys) ∧ w.grownBy w' v.ownBlock := by
  obtain ⟨i, hi, h1, h2, h3⟩ : ∃ i, Try.prog.info? 3 = some i ∧ i.zero = some (.int .i64 0) ∧ i.bytes = 8 ∧ i.size = 1 := ⟨Try.t3, Try.type3, rfl, rfl, rfl⟩
  have hml : n + ys.length ≤ maxLen := by unfold maxLen; omega
  rcases hA with ⟨rfl, h0, rfl⟩ | ⟨x, rfl⟩
  · have hy : ys = [] := List.length_eq_zero_iff.1 h0
    subst hy
    exact ⟨v, w, run_append_owned_none (P := Try.prog) w base 22 22 3 i 1 Try.underlying22 hi v n xs hown, by simpa [intsV] using hown, World.grownBy.refl _ _⟩
  · obtain ⟨v', w', hr, ho, hg, _⟩ := run_append_own (P := Try.prog) w base 22 22 3 i (.int .i64 0) 1 8 Try.underlying22 hi h1 h3 h2 rfl (by decide) v n xs hown x ys.length cap (intsV ys) (by simp [intsV]) (fun j u hu => by
        have hj : j < ys.length := by have := (List.getElem?_eq_some_iff.1 hu).1; simpa [intsV] using this
        rcases hR with hR | ⟨b', off', e, _, hc⟩
        · subst hR; simp at hj
        · simp only [Option.some.injEq] at e
          subst e
          rw [Addr.add_mid, hc j hj, ← hu]
          simp [intsV, hj]) (fun u hu => by
        simp only [intsV, List.mem_map] at hu
        obtain ⟨y, _, rfl⟩ := hu
        rfl) hml hsz hb
    exact ⟨v', w', hr, ho, hg⟩
theorem wpList_append {ops : Array Oper} {rest : List Oper} {o : Oper} {a : Act} {w : World} {Q : Exit → Act → World → Prop} (hgd : o.guard = none) (s x : Operand) (ho : o.op = .call { callee := .builtin .append, args := #[s, x], argTypes := #[22, 22] }) (hty : o.type = 22)
    (base : Nat) (v : Value) (n : Nat) (xs : List Value) (hs : a.eval s = v) (hown : w.ownsRow base 3 1 v n xs) (ad : Option Addr) (ys : List Int) (cap : Nat) (hx : a.eval x = .slice ad ys.length cap) (hR : Row w ad ys) (hA : Came ad ys.length cap) (hb : base ≤ w.heap.size) (hsz : (n + ys.length) * 8 ≤ 140737488355328)
    (h : ∀ v' w', w'.ownsRow base 3 1 v' (n + ys.length) (xs ++ intsV ys) → w.grownBy w' v.ownBlock → wpList Try.prog ops Q rest (a.put o.dst v') w') : wpList Try.prog ops Q (o :: rest) a w :=
  wpList_plain hgd fun _ hK => by
    obtain ⟨v', w', hr, h2, h3⟩ := append_any w base v n xs hown ad ys cap hR hA hb hsz
    unfold Oper.wp execOp
    simp only [ho, hty, resolve, invoke, builtin, Sem.run_bind, Sem.run_pure, Result.andThen_ok, List.map_toArray, List.map_cons, List.map_nil, hs, hx, hr]
    exact hK _ _ (h v' w' h2 h3)

set_option maxHeartbeats 4000000 in
set_option maxRecDepth 1000000 in
theorem clone_ok (x : Addr) (ys : List Int) (cap : Nat) (w : World) (hR : Row w (some x) ys) (hsz : ys.length ≤ 288) (h0 : 0 < ys.length) :
    Calls Try.prog 26 #[.slice (some x) ys.length cap] w fun e w' => ∃ g c, e = .returned (.slice (some ⟨g, 0, none⟩) ys.length c) ∧ Own w' g c ys ∧ Keeps (fun _ => False) w w' ∧ w.heap.size ≤ g := by
  have q22 : ∀ (w : World) (a : Option Addr) (n c n' c' : Nat), (binOp .eql 22 (.slice a n c) (.slice none n' c')).run Try.prog w = .ok (.bool a.isNone) w := fun w a n c n' c' => Lib.run_eql_slice_nil w _ _ a n c n' c' Try.underlying22
  have HR : Hid (Row w (some x) ys) := hR
  clear hR
  go_enter Try.func26, Try.ntmps26
  go_wp2_with (first
    | (refine wpList_append rfl _ _ rfl rfl w.heap.size (.slice (some ⟨w.heap.size, 0, none⟩) 0 0) 0 [] rfl ?hown (some x) ys cap rfl (HR.out.keptF ((Keeps.refl _ w).alloc _)) (.inr ⟨_, rfl⟩) ?hb ?hsz ?_; (case hown => exact World.ownsRow_lit w #[] 0 (Nat.le_refl _) (by decide) rfl); (case hb => simp); (case hsz => omega); intro v w2 hO hG))
  go_ret
  have hO' : OwnV w2 w.heap.size v ys := by simpa [OwnV] using hO
  rcases hO'.form with ⟨_, e⟩ | ⟨g, c, rfl, hb, ho⟩
  · subst e; simp at h0
  · refine ⟨g, c, rfl, ho, ((Keeps.refl (fun _ => False) w).alloc (Obj.cells #[] 3)).grown hG (fun k hk e => ?_), hb⟩
    simp [Value.ownBlock] at e; omega

set_option maxHeartbeats 4000000 in
set_option maxRecDepth 1000000 in
theorem index_ok (a : Option Addr) (ys : List Nat) (cap : Nat) (w : World) (hR : Row w a (ints ys)) (hl : ys.length ≤ 288) (hu : (usedL 0 ys).length < ys.length) :
    Calls Try.prog 27 #[.slice a ys.length cap, .int .i64 0] w fun e w' => e = .returned (.int .i64 (idx0 ys : Int)) ∧ w' = w := by
  obtain ⟨k1, k2, k3⟩ := idx0_lt ys hu
  obtain ⟨b, off, rfl, hb, hc⟩ := hR.at (by rw [ints_length]; omega)
  have HC : Hid (∀ i, i < ys.length → ∃ y : Nat, ys[i]? = some y ∧ w.cell? ⟨b, off + i, none⟩ = some (.int .i64 (y : Int))) := fun i h => by
    refine ⟨ys[i], by simp, ?_⟩
    rw [hc w (Keeps.refl _ _) i (by rw [ints_length]; exact h), ints_get ys i h]
  have H3 : Hid (ys[idx0 ys]? = some 0 ∧ ∀ j, j < idx0 ys → ys[j]? ≠ some 0) := ⟨k2, k3⟩
  clear hc hR k2 k3 hu
  obtain ⟨n, hn⟩ : ∃ n, ys.length = n := ⟨_, rfl⟩
  rw [hn] at hl k1
  rw [hn]
  have HN : Hid (ys.length = n) := hn
  obtain ⟨z, hz⟩ : ∃ z, idx0 ys = z := ⟨_, rfl⟩
  rw [hz] at H3 k1
  rw [hz]
  clear hn hz
  go_enter Try.func27, Try.ntmps27
  go_wp2
  go_loopw [8] (fun s8 w' => ∃ i : Nat, i ≤ z ∧ s8 = .int .i64 (i : Int) ∧ w' = w) (fun s8 w' => ((n : Int) - intOf s8).toNat)
  case atStart => exact ⟨0, by omega, rfl, rfl⟩
  case round =>
    obtain ⟨i, hi, rfl, rfl⟩ := hrel
    have hiz : (i : Int) < (n : Int) := by omega
    obtain ⟨y, hy, hc⟩ := HC.out i (by rw [HN.out]; omega)
    by_cases e : i = z
    · have hy0 : y = 0 := by rw [e, H3.out.1] at hy; exact (Option.some.inj hy).symm
      subst hy0
      subst e
      clear hy
      go_wp2
      go_ret
      exact ⟨rfl, rfl⟩
    · have hy0 : ¬ y = 0 := fun h => by subst h; exact H3.out.2 i (by omega) hy
      have hyz : ¬ (0 : Int) = (y : Int) := by omega
      clear hy
      go_wp2
      go_roundw
      case rel => exact ⟨i + 1, by omega, by push_cast; rfl, trivial⟩
      case measure => simp [intOf]; omega

def fineI (y : Int) : Bool := decide (0 ≤ y) && decide (y ≤ 2147483647)
set_option maxHeartbeats 4000000 in
set_option maxRecDepth 1000000 in
theorem outside_ok (y : Int) (w : World) : Calls Try.prog 24 #[.int .i64 y] w fun e w' => e = .returned (.bool (!fineI y)) ∧ w' = w := by
  unfold fineI
  by_cases h1 : y < 0
  · have h1' : ¬ 0 ≤ y := by omega
    go_enter Try.func24, Try.ntmps24
    go_wp2
    go_ret
    exact ⟨by simp [h1'], rfl⟩
  · have h1' : 0 ≤ y := by omega
    go_enter Try.func24, Try.ntmps24
    go_wp2
    go_ret
    refine ⟨?_, rfl⟩
    by_cases h2 : y ≤ 2147483647
    · simp [h1', h2]
    · simp [h1', h2]; omega

set_option maxHeartbeats 4000000 in
set_option maxRecDepth 1000000 in
theorem indexFunc_ok (a : Option Addr) (ys : List Int) (cap : Nat) (w : World) (hR : Row w a ys) (hl : ys.length ≤ 288) :
    Calls Try.prog 31 #[.slice a ys.length cap, .func (.func 24) #[] #[]] w fun e w' => (∃ z : Int, e = .returned (.int .i64 z) ∧ decide (0 ≤ z) = !(ys.all fineI)) ∧ w' = w := by
  have HR : Hid (Row w a ys) := hR
  clear hR
  have HO : Hid (∀ y w, Calls Try.prog 24 #[.int .i64 y] w fun e w' => e = .returned (.bool (!fineI y)) ∧ w' = w) := outside_ok
  obtain ⟨n, hn⟩ : ∃ n, ys.length = n := ⟨_, rfl⟩
  rw [hn] at hl
  rw [hn]
  have HN : Hid (ys.length = n) := hn
  clear hn
  go_enter Try.func31, Try.ntmps31
  go_wp2
  go_loopw [8] (fun s8 w' => ∃ i : Nat, i ≤ n ∧ s8 = .int .i64 (i : Int) ∧ Hid ((ys.take i).all fineI = true) ∧ w' = w) (fun s8 w' => ((n : Int) - intOf s8).toNat)
  case atStart => exact ⟨0, by omega, rfl, rfl, rfl⟩
  case round =>
    obtain ⟨i, hi, rfl, HI, rfl⟩ := hrel
    by_cases hin : i < n
    · have hiz : (i : Int) < (n : Int) := by omega
      have hil : i < ys.length := by rw [HN.out]; exact hin
      obtain ⟨b, off, rfl, hb, hc⟩ := HR.out.at (by omega)
      have c1 := hc wr (Keeps.refl _ _) i hil
      rw [at_eq i hil] at c1
      have HU : Hid ((ys.take (i + 1)).all fineI = ((ys.take i).all fineI && fineI ys[i])) := by
        show (ys.take (i + 1)).all fineI = _
        rw [List.take_succ_eq_append_getElem hil, List.all_append]; simp only [List.all_cons, List.all_nil, Bool.and_true]
      have HV : Hid (fineI ys[i] = false → ys.all fineI = false) := fun h => by
        rw [List.all_eq_false]; exact ⟨ys[i], List.getElem_mem hil, by rw [h]; decide⟩
      generalize ys[i] = y at *
      clear hc
      cases hf : fineI y with
      | true =>
        have HO' : Hid (∀ w, Calls Try.prog 24 #[.int .i64 y] w fun e w' => e = .returned (.bool false) ∧ w' = w) := fun w => by have := HO.out y w; rw [hf] at this; exact this
        go_wp2_with (go_at_call 24; refine (HO'.out _).mono ?_; rintro e w' ⟨rfl, hw⟩; obtain rfl := hw.symm; clear hw)
        go_roundw
        case rel => exact ⟨i + 1, by omega, by push_cast; rfl, by show _ = true; rw [HU.out, HI.out, hf]; rfl, trivial⟩
        case measure => simp [intOf]; omega
      | false =>
        have HO' : Hid (∀ w, Calls Try.prog 24 #[.int .i64 y] w fun e w' => e = .returned (.bool true) ∧ w' = w) := fun w => by have := HO.out y w; rw [hf] at this; exact this
        go_wp2_with (go_at_call 24; refine (HO'.out _).mono ?_; rintro e w' ⟨rfl, hw⟩; obtain rfl := hw.symm; clear hw)
        go_ret
        exact ⟨⟨(i : Int), rfl, by rw [HV.out hf]; simp⟩, rfl⟩
    · obtain rfl : i = n := by omega
      go_wp2
      go_ret
      have := HI.out
      rw [List.take_of_length_le (by have := HN.out; omega)] at this
      exact ⟨⟨-1, rfl, by rw [this]; rfl⟩, rfl⟩

set_option maxHeartbeats 4000000 in
set_option maxRecDepth 1000000 in
theorem contains_ok (a : Option Addr) (ys : List Int) (cap : Nat) (w : World) (hR : Row w a ys) (hl : ys.length ≤ 288) :
    Calls Try.prog 25 #[.slice a ys.length cap, .func (.func 24) #[] #[]] w fun e w' => e = .returned (.bool (!(ys.all fineI))) ∧ w' = w := by
  have HC : Hid (Calls Try.prog 31 #[.slice a ys.length cap, .func (.func 24) #[] #[]] w fun e w' => (∃ z : Int, e = .returned (.int .i64 z) ∧ decide (0 ≤ z) = !(ys.all fineI)) ∧ w' = w) := indexFunc_ok a ys cap w hR hl
  clear hR
  go_enter Try.func25, Try.ntmps25
  go_wp2_with (go_at_call 31; refine HC.out.mono ?_; rintro e w' ⟨⟨z, rfl, hz⟩, hw⟩; obtain rfl := hw.symm; clear hw; have HZ : Hid (decide (0 ≤ z) = !(ys.all fineI)) := hz; clear hz)
  go_ret
  exact ⟨by rw [← HZ.out]; rfl, rfl⟩

set_option maxHeartbeats 4000000 in
set_option maxRecDepth 1000000 in
theorem mayBe_ok (a : Option Addr) (ys : List Int) (cap : Nat) (w : World) (hR : Row w a ys) (hl : ys.length ≤ 9223372036854775807) :
    Calls Try.prog 17 #[.slice a ys.length cap] w fun e w' => e = .returned (.bool (mayL ys)) ∧ w' = w := by
  by_cases h1 : ys.length < 2
  · have hm : mayL ys = false := by unfold mayL; rw [decide_eq_false (by omega)]; rfl
    rw [hm]
    have hz : (ys.length : Int) < 2 := by omega
    generalize ys.length = n at *
    clear hR hm
    go_enter Try.func17, Try.ntmps17
    go_wp2
    go_ret
    exact ⟨rfl, rfl⟩
  · have hz : ¬ (ys.length : Int) < 2 := by omega
    by_cases h2 : ys.length ≤ 288
    · have hz2 : ¬ (288 : Int) < (ys.length : Int) := by omega
      have hm : mayL ys = ys.all fineI := by unfold mayL; rw [decide_eq_true (by omega), decide_eq_true h2]; rfl
      have HC : Hid (Calls Try.prog 25 #[.slice a ys.length cap, .func (.func 24) #[] #[]] w fun e w' => e = .returned (.bool (!(ys.all fineI))) ∧ w' = w) := contains_ok a ys cap w hR h2
      rw [hm]
      generalize ys.all fineI = B at *
      generalize ys.length = n at *
      clear hR hm
      go_enter Try.func17, Try.ntmps17
      go_wp2_with (go_at_call 25; refine HC.out.mono ?_; rintro e w' ⟨rfl, hw⟩; obtain rfl := hw.symm; clear hw)
      go_ret
      exact ⟨by simp, rfl⟩
    · have hz2 : (288 : Int) < (ys.length : Int) := by omega
      have hm : mayL ys = false := by unfold mayL; rw [decide_eq_false h2]; simp
      rw [hm]
      generalize ys.length = n at *
      clear hR hm
      go_enter Try.func17, Try.ntmps17
      go_wp2
      go_ret
      exact ⟨rfl, rfl⟩

end Go.Proofs.Ytfdoppeijgianaa

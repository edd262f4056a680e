/-
  Unlike heads have unlike texts: the walk of the statement.
-/
import Derived.Test.YtapbjkhbnehllaaXawk
import Derived.Test.YtapbjkhbnehllaaOpen
namespace Go.Proofs.Ytapbjkhbnehllaa
open Go.RowKit
set_option linter.unusedVariables false
set_option linter.unusedSimpArgs false

/-- What is known of an entry that came in. -/
def Cam (w : World) (e : Ent) (ys : List Int) : Prop := e.vn = ys.length ∧ Row w e.va ys ∧ Came e.va ys.length e.vc ∧ ys.length * 8 + 4096 ≤ 140737488355328 ∧ e.nm.size + 4096 ≤ 140737488355328 ∧ e.pk.size + 4096 ≤ 140737488355328
theorem Cam.row {w w' : World} {e : Ent} {ys : List Int} (h : Cam w e ys) (hk : Keeps (fun _ => False) w w') : Row w' e.va ys := h.2.1.keptF hk
theorem Cam.len {w : World} {e : Ent} {ys : List Int} (h : Cam w e ys) : ys.length ≤ 1125899906842624 := by have := h.2.2.2.1; omega
theorem putT_bad {ys : List Int} {st nd : Int} {g : Bool} (h : headB ys st nd = false) : putT ys st nd g = ⟨#[]⟩ ∧ pErr ys st nd = 1200 := by
  simp [putT, pErr, h, textOf]
theorem pErr_good {ys : List Int} {st nd : Int} (h : headB ys st nd = true) : pErr ys st nd = 0 := by simp [pErr, h]
/-- Two heads' texts are the same just where the heads are. -/
theorem putT_inj {ys zs : List Int} {st nd st' nd' : Int} {g g' : Bool} (h : headB ys st nd = true) (h' : headB zs st' nd' = true) (e : putT ys st nd g = putT zs st' nd' g') : ys = zs ∧ st = st' ∧ nd = nd' ∧ g = g' := by
  have e2 : putL ys st nd g = putL zs st' nd' g' := by
    have := congrArg bytesOf e
    rwa [putT_bytes, putT_bytes, h, h'] at this
  obtain ⟨a1, a2, a3, a4, _⟩ := put_read g h
  obtain ⟨b1, b2, b3, b4, _⟩ := put_read g' h'
  rw [e2] at a1 a2 a3 a4
  exact ⟨a1.symm.trans b1, a2.symm.trans b2, a3.symm.trans b3, a4.symm.trans b4⟩

set_option maxHeartbeats 8000000 in
set_option maxRecDepth 1000000 in
/-- One of them is refused. -/
theorem unl_bad (a b : Ent) (ys zs : List Int) (w : World) (S T : ByteArray) (EA EB : Int) (ha : Cam w a ys) (hb : Cam w b zs)
    (hA : putT ys a.st a.nd a.gn = S ∧ pErr ys a.st a.nd = EA) (hB : putT zs b.st b.nd b.gn = T ∧ pErr zs b.st b.nd = EB)
    (hE : (EA = 1200 ∧ S = ⟨#[]⟩ ∧ ((EB = 1200 ∧ T = ⟨#[]⟩) ∨ EB = 0)) ∨ (EA = 0 ∧ EB = 1200 ∧ T = ⟨#[]⟩)) :
    Calls Try.prog 6 #[.agg #[.string a.nm, .bool a.gn, .slice a.va a.vn a.vc, .int .i64 a.st, .int .i64 a.nd, .int .i64 a.mt, .string a.pk, .int .i64 a.sz, .int .i64 a.cr], .agg #[.string b.nm, .bool b.gn, .slice b.va b.vn b.vc, .int .i64 b.st, .int .i64 b.nd, .int .i64 b.mt, .string b.pk, .int .i64 b.sz, .int .i64 b.cr]] w fun r w' => r = .returned (.bool true) ∧ Keeps (fun _ => False) w w' := by
  have HA : Hid (∀ w', Keeps (fun _ => False) w w' → Calls Try.prog 9 #[.agg #[.string a.nm, .bool a.gn, .slice a.va a.vn a.vc, .int .i64 a.st, .int .i64 a.nd, .int .i64 a.mt, .string a.pk, .int .i64 a.sz, .int .i64 a.cr]] w' fun r w'' => r = .returned (.tuple #[.string S, .int .i64 EA]) ∧ Keeps (fun _ => False) w' w'') := fun w' hk => by
    have := put_ok a ys w' ha.1 (ha.row hk) ha.len
    rw [hA.1, hA.2] at this; exact this
  have HB : Hid (∀ w', Keeps (fun _ => False) w w' → Calls Try.prog 9 #[.agg #[.string b.nm, .bool b.gn, .slice b.va b.vn b.vc, .int .i64 b.st, .int .i64 b.nd, .int .i64 b.mt, .string b.pk, .int .i64 b.sz, .int .i64 b.cr]] w' fun r w'' => r = .returned (.tuple #[.string T, .int .i64 EB]) ∧ Keeps (fun _ => False) w' w'') := fun w' hk => by
    have := put_ok b zs w' hb.1 (hb.row hk) hb.len
    rw [hB.1, hB.2] at this; exact this
  clear hA hB ha hb
  rcases hE with ⟨rfl, rfl, ⟨rfl, rfl⟩ | rfl⟩ | ⟨rfl, rfl, rfl⟩
  all_goals
    go_enter Try.func6, Try.ntmps6
    go_wp2_with (first
      | (refine wpList_box9 rfl _ rfl a rfl ?_; (fail_if_success (clear A1)); intro b1 w1 hE hK hb; have A1 : Hid (Entb w1 b1 a ∧ Keeps (fun _ => False) w w1) := ⟨hE, hK⟩; clear hE hK hb)
      | (refine wpList_box9 rfl _ rfl b rfl ?_; (fail_if_success (clear A2)); intro b2 w2 hE hK hb; have A2 : Hid (Entb w2 b1 a ∧ Entb w2 b2 b ∧ Keeps (fun _ => False) w w2) := ⟨A1.out.1.keptF hK, hE, A1.out.2.tr hK⟩; clear hE hK hb)
      | (go_at_call 16; refine (awake_ok w2).mono ?_; rintro r w3 ⟨rfl, h⟩; have A3 : Hid (Entb w3 b1 a ∧ Entb w3 b2 b ∧ Keeps (fun _ => False) w w3) := ⟨A2.out.1.keptF h, A2.out.2.1.keptF h, A2.out.2.2.tr h⟩; clear h)
      | (refine wpList_load9 rfl _ rfl b1 0 rfl a ?hA ?_; (fail_if_success (clear A4)); (case hA => exact A3.out.1.at))
      | (go_at_call 9; (fail_if_success (clear A4)); refine (HA.out w3 A3.out.2.2).mono ?_; rintro r w4 ⟨rfl, h⟩; have A4 : Hid (Entb w4 b1 a ∧ Entb w4 b2 b ∧ Keeps (fun _ => False) w w4) := ⟨A3.out.1.keptF h, A3.out.2.1.keptF h, A3.out.2.2.tr h⟩; clear h)
      | (refine wpList_load9 rfl _ rfl b2 0 rfl b ?hA ?_; (case hA => exact A4.out.2.1.at))
      | (go_at_call 9; (fail_if_success (clear A5)); refine (HB.out w4 A4.out.2.2).mono ?_; rintro r w5 ⟨rfl, h⟩; have A5 : Hid (Keeps (fun _ => False) w w5) := A4.out.2.2.tr h; clear h)
      | (go_at_call 13; refine (num_any _ _).mono ?_; rintro e w' ⟨rfl, hw⟩; obtain rfl := hw.symm; clear hw))
    go_ret
    exact ⟨rfl, A5.out⟩

/-- The copy with other parts that are no head's. -/
def Ent.odd (e : Ent) (va : Option Addr) (vn vc : Nat) (nm pk : ByteArray) (sz cr : Int) : Ent := ⟨nm, e.gn, va, vn, vc, e.st, e.nd, e.mt, pk, sz, cr⟩


end Go.Proofs.Ytapbjkhbnehllaa

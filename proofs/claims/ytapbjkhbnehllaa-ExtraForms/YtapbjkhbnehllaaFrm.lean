/-
  Heads and texts that are none, one thing at a time: the walk of the statement.
-/
import Derived.Test.YtapbjkhbnehllaaBk
namespace Go.Proofs.Ytapbjkhbnehllaa
open Go.RowKit
set_option linter.unusedVariables false
set_option linter.unusedSimpArgs false

/-- A place at which a walk stands, to be gone on from by hand. -/
structure Stop (p : Prop) : Prop where
  go : p
theorem wpList_stop {P : Program} {ops : Array Oper} {rest : List Oper} {op : Oper} {a : Act} {w : World} {Q : Exit → Act → World → Prop} (s t : TypeId) (x : Operand) (ho : op.op = .convert s t x)
    (h : Stop (wpList P ops Q (op :: rest) a w)) : wpList P ops Q (op :: rest) a w := h.go
theorem thousand (x : Int) : ∃ d : Nat, 1 ≤ d ∧ d ≤ 1024 ∧ bits .and .i64 x 1023 = (d : Int) - 1 := by
  have e := i64_and_mask x 10 (by omega)
  have e' : bits .and .i64 x 1023 = x % 1024 := by simpa using e
  exact ⟨(1 + x % 1024).toNat, by omega, by omega, by rw [e']; omega⟩
theorem rem_of (x : Int) (m : Nat) (h0 : 0 < m) (h1 : m < 1000) : ∃ k : Nat, k < m ∧ (IntKind.u64.wrap x).tmod (m : Int) = (k : Int) ∧ wrap64 (k : Int) = (k : Int) := by
  have e : IntKind.u64.wrap x = x % 18446744073709551616 := by simp [IntKind.wrap, IntKind.bits, IntKind.signed]
  have h0' : 0 ≤ IntKind.u64.wrap x := by rw [e]; omega
  have hl := Int.emod_lt_of_pos (IntKind.u64.wrap x) (show (0 : Int) < (m : Int) by omega)
  have hg := Int.emod_nonneg (IntKind.u64.wrap x) (show (m : Int) ≠ 0 by omega)
  refine ⟨((IntKind.u64.wrap x).tmod (m : Int)).toNat, ?_, ?_, ?_⟩
  · rw [Int.tmod_eq_emod_of_nonneg h0']; omega
  · rw [Int.tmod_eq_emod_of_nonneg h0']; omega
  · rw [Int.tmod_eq_emod_of_nonneg h0']; simp only [wrap64]; omega
def frmT : ByteArray := ⟨#[112, 80, 22, 0, 1, 0, 0, 0, 2, 0, 0, 0, 3, 0, 0, 0, 4, 0, 0, 0, 5, 0, 0, 0, 3, 0]⟩
theorem frm_head : headB [1, 2, 3, 4] 5 3 = true := by decide
theorem frm_put : putT [1, 2, 3, 4] 5 3 false = frmT := by rw [putT, frm_head, cond_true, putL_four]; rfl
theorem frm_err : pErr [1, 2, 3, 4] 5 3 = 0 := by rw [pErr, frm_head]; rfl
/-- The nine texts that are none. -/
def frmB (k : Nat) : ByteArray := match k with
  | 0 => ⟨#[]⟩
  | 1 => frmT.extract 0 25
  | 2 => frmT ++ ⟨#[0]⟩
  | 3 => ⟨#[112, 112]⟩ ++ frmT.extract 2 26
  | 4 => ⟨#[112, 80, 23]⟩ ++ frmT.extract 3 26
  | 5 => frmT.extract 0 24 ++ ⟨#[4, 0]⟩
  | 6 => frmT.extract 0 25 ++ ⟨#[2]⟩
  | 7 => frmT.extract 0 20 ++ ⟨#[0, 0, 0, 0]⟩ ++ frmT.extract 24 26
  | _ => frmT.extract 0 7 ++ ⟨#[1]⟩ ++ frmT.extract 8 26
theorem frm_bad : ∀ k : Fin 9, gOk (bytesOf (frmB k.val)) = false ∧ (frmB k.val).size ≤ 27 := by decide +kernel
theorem frm_sizes : frmT.size = 26 ∧ (frmT.extract 0 25).size = 25 ∧ (frmT.extract 2 26).size = 24 ∧ (frmT.extract 3 26).size = 23 ∧ (frmT.extract 0 24).size = 24 ∧ (frmT.extract 0 20).size = 20 ∧ (frmT.extract 24 26).size = 2 ∧ (frmT.extract 0 7).size = 7 ∧ (frmT.extract 8 26).size = 18 := by decide +kernel
/-- A text that is no head's. -/
def NoHead (s : ByteArray) : Prop := gOk (bytesOf s) = false ∧ s.size ≤ 27
theorem get_no (s : ByteArray) (h : NoHead s) (w' : World) : Calls Try.prog 11 #[.string s] w' fun r w'' => ∃ a c, r = .returned (.tuple #[.agg #[.string (Ent.gotten a 0 c false 0 0).nm, .bool (Ent.gotten a 0 c false 0 0).gn, .slice (Ent.gotten a 0 c false 0 0).va (Ent.gotten a 0 c false 0 0).vn (Ent.gotten a 0 c false 0 0).vc, .int .i64 (Ent.gotten a 0 c false 0 0).st, .int .i64 (Ent.gotten a 0 c false 0 0).nd, .int .i64 (Ent.gotten a 0 c false 0 0).mt, .string (Ent.gotten a 0 c false 0 0).pk, .int .i64 (Ent.gotten a 0 c false 0 0).sz, .int .i64 (Ent.gotten a 0 c false 0 0).cr], .int .i64 1200]) ∧ Keeps (fun _ => False) w' w'' := by
  obtain ⟨hg, hs⟩ := h
  refine (get_ok s w' (by omega)).mono ?_
  rintro r w'' ⟨a, n, c, rfl, k1, rfl, k3⟩
  have e1 : gGn (bytesOf s) = false := by rw [gGn, hg]; rfl
  have e2 : gSt (bytesOf s) = 0 := by rw [gSt, hg]; rfl
  have e3 : gNd (bytesOf s) = 0 := by rw [gNd, hg]; rfl
  have e4 : gVec (bytesOf s) = [] := by rw [gVec, hg]; rfl
  have e5 : gErr (bytesOf s) = 1200 := by rw [gErr, hg]; rfl
  rw [e1, e2, e3, e4, e5]
  exact ⟨a, c, rfl, k3⟩
theorem put_no (e : Ent) (ys : List Int) (w' : World) (hv : e.vn = ys.length) (hR : Row w' e.va ys) (hn : ys.length ≤ 1000) (hh : headB ys e.st e.nd = false) :
    Calls Try.prog 9 #[.agg #[.string e.nm, .bool e.gn, .slice e.va e.vn e.vc, .int .i64 e.st, .int .i64 e.nd, .int .i64 e.mt, .string e.pk, .int .i64 e.sz, .int .i64 e.cr]] w' fun r w'' => r = .returned (.tuple #[.string ⟨#[]⟩, .int .i64 1200]) ∧ Keeps (fun _ => False) w' w'' := by
  have := put_ok e ys w' hv hR (by omega)
  have e1 : putT ys e.st e.nd e.gn = ⟨#[]⟩ := by simp [putT, hh, textOf]
  have e2 : pErr ys e.st e.nd = 1200 := by simp [pErr, hh]
  rw [e1, e2] at this
  exact this

/-- The copy with a stamp and a node of its own. -/
def Ent.bent (a : Option Addr) (c : Nat) (st nd : Int) : Ent := ⟨⟨#[]⟩, false, a, 4, c, st, nd, 0, ⟨#[]⟩, 0, 0⟩
theorem Row.short {w : World} {g : Nat} (h : Row w (some ⟨g, 0, none⟩) [1, 2, 3, 4]) : Row w (some ⟨g, 0, none⟩) [1, 2, 3] := by
  obtain ⟨b, off, e, hb, hc⟩ := h.spot (by decide)
  cases e
  refine .inr ⟨g, 0, rfl, hb, fun i hi => ?_⟩
  match i, hi with
  | 0, _ => exact hc 0 (by decide)
  | 1, _ => exact hc 1 (by decide)
  | 2, _ => exact hc 2 (by decide)

set_option maxHeartbeats 60000000 in
set_option maxRecDepth 1000000 in
theorem forms_main (x y : Int) (w : World) :
    Calls Try.prog 5 #[.int .i64 x, .int .i64 y] w fun r w' => r = .returned (.bool true) ∧ Keeps (fun _ => False) w w' := by
  obtain ⟨d, hd1, hd2, hd⟩ := thousand y
  have hdd : 1 + ((d : Int) - 1) = (d : Int) := by omega
  have hd0 : (1 : Int) ≤ (d : Int) := by omega
  have hd3 : (d : Int) ≤ 1024 := by omega
  obtain ⟨t0, t25, t2, t3, t24, t20, u24, t7, t8⟩ := frm_sizes
  have HB : Hid (∀ k, k < 9 → NoHead (frmB k)) := fun k hk => frm_bad ⟨k, hk⟩
  have HP : Hid (∀ w1 w', Row w' (some ⟨w1, 0, none⟩) [1, 2, 3, 4] → Calls Try.prog 9 #[.agg #[.string (Ent.lit w1 4 5 3 false).nm, .bool (Ent.lit w1 4 5 3 false).gn, .slice (Ent.lit w1 4 5 3 false).va (Ent.lit w1 4 5 3 false).vn (Ent.lit w1 4 5 3 false).vc, .int .i64 (Ent.lit w1 4 5 3 false).st, .int .i64 (Ent.lit w1 4 5 3 false).nd, .int .i64 (Ent.lit w1 4 5 3 false).mt, .string (Ent.lit w1 4 5 3 false).pk, .int .i64 (Ent.lit w1 4 5 3 false).sz, .int .i64 (Ent.lit w1 4 5 3 false).cr]] w' fun r w'' => r = .returned (.tuple #[.string frmT, .int .i64 0]) ∧ Keeps (fun _ => False) w' w'') := fun w1 w' hr => by
    have := put_ok (Ent.lit w1 4 5 3 false) [1, 2, 3, 4] w' rfl hr (by decide)
    have e1 : putT [1, 2, 3, 4] (Ent.lit w1 4 5 3 false).st (Ent.lit w1 4 5 3 false).nd (Ent.lit w1 4 5 3 false).gn = frmT := frm_put
    have e2 : pErr [1, 2, 3, 4] (Ent.lit w1 4 5 3 false).st (Ent.lit w1 4 5 3 false).nd = 0 := frm_err
    rw [e1, e2] at this
    exact this
  have HC : Hid (∀ w1 w', Row w' (some ⟨w1, 0, none⟩) [1, 2, 3, 4] → Calls Try.prog 8 #[.agg #[.string (Ent.lit w1 4 5 3 false).nm, .bool (Ent.lit w1 4 5 3 false).gn, .slice (Ent.lit w1 4 5 3 false).va (Ent.lit w1 4 5 3 false).vn (Ent.lit w1 4 5 3 false).vc, .int .i64 (Ent.lit w1 4 5 3 false).st, .int .i64 (Ent.lit w1 4 5 3 false).nd, .int .i64 (Ent.lit w1 4 5 3 false).mt, .string (Ent.lit w1 4 5 3 false).pk, .int .i64 (Ent.lit w1 4 5 3 false).sz, .int .i64 (Ent.lit w1 4 5 3 false).cr]] w' fun r w'' => ∃ g c, r = .returned (.agg #[.string ((Ent.lit w1 4 5 3 false).vec (some ⟨g, 0, none⟩) 4 c).nm, .bool ((Ent.lit w1 4 5 3 false).vec (some ⟨g, 0, none⟩) 4 c).gn, .slice ((Ent.lit w1 4 5 3 false).vec (some ⟨g, 0, none⟩) 4 c).va ((Ent.lit w1 4 5 3 false).vec (some ⟨g, 0, none⟩) 4 c).vn ((Ent.lit w1 4 5 3 false).vec (some ⟨g, 0, none⟩) 4 c).vc, .int .i64 ((Ent.lit w1 4 5 3 false).vec (some ⟨g, 0, none⟩) 4 c).st, .int .i64 ((Ent.lit w1 4 5 3 false).vec (some ⟨g, 0, none⟩) 4 c).nd, .int .i64 ((Ent.lit w1 4 5 3 false).vec (some ⟨g, 0, none⟩) 4 c).mt, .string ((Ent.lit w1 4 5 3 false).vec (some ⟨g, 0, none⟩) 4 c).pk, .int .i64 ((Ent.lit w1 4 5 3 false).vec (some ⟨g, 0, none⟩) 4 c).sz, .int .i64 ((Ent.lit w1 4 5 3 false).vec (some ⟨g, 0, none⟩) 4 c).cr]) ∧ Own w'' g c [1, 2, 3, 4] ∧ w'.heap.size ≤ g ∧ Keeps (fun _ => False) w' w'') := fun w1 w' hr => by
    refine (copyE_ok (Ent.lit w1 4 5 3 false) [1, 2, 3, 4] w' rfl hr (.inr ⟨_, rfl⟩) (by decide)).mono ?_
    rintro r w'' ⟨a, n, c, rfl, ho, hn, hk⟩
    rcases ho.form with ⟨_, q⟩ | ⟨g, cap, q, hg, hO⟩
    · cases q
    · cases q
      exact ⟨g, c, rfl, hO, hg, hk⟩
  have HSZ : Hid (∀ w' a c, Calls Try.prog 14 #[.agg #[.string (Ent.gotten a 0 c false 0 0).nm, .bool (Ent.gotten a 0 c false 0 0).gn, .slice (Ent.gotten a 0 c false 0 0).va (Ent.gotten a 0 c false 0 0).vn (Ent.gotten a 0 c false 0 0).vc, .int .i64 (Ent.gotten a 0 c false 0 0).st, .int .i64 (Ent.gotten a 0 c false 0 0).nd, .int .i64 (Ent.gotten a 0 c false 0 0).mt, .string (Ent.gotten a 0 c false 0 0).pk, .int .i64 (Ent.gotten a 0 c false 0 0).sz, .int .i64 (Ent.gotten a 0 c false 0 0).cr], .agg #[.string Ent.zero.nm, .bool Ent.zero.gn, .slice Ent.zero.va Ent.zero.vn Ent.zero.vc, .int .i64 Ent.zero.st, .int .i64 Ent.zero.nd, .int .i64 Ent.zero.mt, .string Ent.zero.pk, .int .i64 Ent.zero.sz, .int .i64 Ent.zero.cr]] w' fun r w'' => r = .returned (.bool true) ∧ Keeps (fun _ => False) w' w'') :=
    fun w' a c => sameE_yes (Ent.gotten a 0 c false 0 0) Ent.zero [] w' rfl rfl rfl (.inl rfl) (.inl rfl) (by decide)
  obtain ⟨k9, hk9, hr9, hw9⟩ := rem_of x 9 (by decide) (by decide)
  rw [show ((9 : Nat) : Int) = 9 from rfl] at hr9
  obtain ⟨k7, hk7, hr7, _⟩ := rem_of x 7 (by decide) (by decide)
  rw [show ((7 : Nat) : Int) = 7 from rfl] at hr7
  have HU0 : frmB 0 = ⟨#[]⟩ := rfl
  have HU1 : frmB 1 = frmT.extract 0 25 := rfl
  have HU2 : frmB 2 = frmT ++ ⟨#[0]⟩ := rfl
  have HU3 : frmB 3 = ⟨#[112, 112]⟩ ++ frmT.extract 2 26 := rfl
  have HU4 : frmB 4 = ⟨#[112, 80, 23]⟩ ++ frmT.extract 3 26 := rfl
  have HU5 : frmB 5 = frmT.extract 0 24 ++ ⟨#[4, 0]⟩ := rfl
  have HU6 : frmB 6 = frmT.extract 0 25 ++ ⟨#[2]⟩ := rfl
  have HU7 : frmB 7 = frmT.extract 0 20 ++ ⟨#[0, 0, 0, 0]⟩ ++ frmT.extract 24 26 := rfl
  have HU8 : frmB 8 = frmT.extract 0 7 ++ ⟨#[1]⟩ ++ frmT.extract 8 26 := rfl
  generalize frmB 0 = U0 at *
  have HUS : Hid (NoHead U0 ∧ NoHead (frmB 1) ∧ NoHead (frmB 2) ∧ NoHead (frmB 3) ∧ NoHead (frmB 4) ∧ NoHead (frmB 5) ∧ NoHead (frmB 6) ∧ NoHead (frmB 7) ∧ NoHead (frmB 8)) := ⟨by rw [HU0]; exact frm_bad ⟨0, by decide⟩, frm_bad ⟨1, by decide⟩, frm_bad ⟨2, by decide⟩, frm_bad ⟨3, by decide⟩, frm_bad ⟨4, by decide⟩, frm_bad ⟨5, by decide⟩, frm_bad ⟨6, by decide⟩, frm_bad ⟨7, by decide⟩, frm_bad ⟨8, by decide⟩⟩
  clear HB
  generalize frmB 1 = U1 at *
  generalize frmB 2 = U2 at *
  generalize frmB 3 = U3 at *
  generalize frmB 4 = U4 at *
  generalize frmB 5 = U5 at *
  generalize frmB 6 = U6 at *
  generalize frmB 7 = U7 at *
  generalize frmB 8 = U8 at *
  generalize frmT = T at *
  have E1 := HU1.symm
  have E2 := HU2.symm
  have E3 := HU3.symm
  have E4 := HU4.symm
  have E5 := HU5.symm
  have E6 := HU6.symm
  have E7 := HU7.symm
  have E8 := HU8.symm
  clear HU1 HU2 HU3 HU4 HU5 HU6 HU7 HU8
  subst HU0
  have hsz : (T.size : Int) = 26 := by omega
  have s2 : T.extract 2 T.size = T.extract 2 26 := by rw [t0]
  have s3 : T.extract 3 T.size = T.extract 3 26 := by rw [t0]
  have s24 : T.extract 24 T.size = T.extract 24 26 := by rw [t0]
  have s8 : T.extract 8 T.size = T.extract 8 26 := by rw [t0]
  generalize hX25 : T.extract 0 25 = X25 at *
  generalize hX2 : T.extract 2 26 = X2 at *
  generalize hX3 : T.extract 3 26 = X3 at *
  generalize hX24 : T.extract 0 24 = X24 at *
  generalize hX20 : T.extract 0 20 = X20 at *
  generalize hY24 : T.extract 24 26 = Y24 at *
  generalize hX7 : T.extract 0 7 = X7 at *
  generalize hX8 : T.extract 8 26 = X8 at *
  subst E1
  have v2 : ¬ 9223372036854775807 < T.size + 1 := by omega
  have v3 : ¬ 9223372036854775807 < 2 + X2.size := by omega
  have v4 : ¬ 9223372036854775807 < 3 + X3.size := by omega
  have v5 : ¬ 9223372036854775807 < X24.size + 2 := by omega
  have v6 : ¬ 9223372036854775807 < X25.size + 1 := by omega
  have v7 : ¬ 9223372036854775807 < X20.size + 4 := by omega
  have v8 : ¬ 9223372036854775807 < X7.size + 1 := by omega
  obtain ⟨Z7, hZ7⟩ : ∃ Z, X20 ++ (⟨#[0, 0, 0, 0]⟩ : ByteArray) = Z := ⟨_, rfl⟩
  obtain ⟨Z8, hZ8⟩ : ∃ Z, X7 ++ (⟨#[1]⟩ : ByteArray) = Z := ⟨_, rfl⟩
  rw [hZ7] at E7
  rw [hZ8] at E8
  have z7 : Z7.size = 24 := by rw [← hZ7, ByteArray.size_append, t20]; rfl
  have z8 : Z8.size = 8 := by rw [← hZ8, ByteArray.size_append, t7]; rfl
  have v7' : ¬ 9223372036854775807 < Z7.size + Y24.size := by omega
  have v8' : ¬ 9223372036854775807 < Z8.size + X8.size := by omega
  clear t25 t2 t3 t24 t20 u24 t7 t8 z7 z8 t0
  go_enter Try.func5, Try.ntmps5
  go_wp2_with (first
    | (go_at_call 16; refine (awake_ok w).mono ?_; rintro r w1 ⟨rfl, h⟩; have A1 : Hid (Keeps (fun _ => False) w w1) := h; clear h)
    | (refine wpList_alloc9 rfl rfl ?_; (fail_if_success (clear A2)); intro b2 w2 hE hK hb; have A2 : Hid (Entb w2 b2 Ent.zero ∧ Keeps (fun _ => False) w w2 ∧ Row w2 (some ⟨w1.heap.size, 0, none⟩) [1, 2, 3, 4] ∧ w1.heap.size < b2) := ⟨hE, (A1.out.alloc _).tr hK, (Row.lit w1 [1, 2, 3, 4] 3).keptF hK, (by simp at hb; omega)⟩; clear hE hK hb)
    | (refine wpList_store9 rfl _ _ rfl b2 (Ent.lit w1.heap.size 4 5 3 false) rfl rfl Ent.zero ?hA ?_; (fail_if_success (clear A3)); (case hA => exact A2.out.1); intro w3 hE hK; have A3 : Hid (Entb w3 b2 (Ent.lit w1.heap.size 4 5 3 false) ∧ Keeps (fun _ => False) w w3 ∧ Row w3 (some ⟨w1.heap.size, 0, none⟩) [1, 2, 3, 4]) := ⟨hE, A2.out.2.1.trans hK (fun i hi h => by have := A1.out.size; have := A2.out.2.2.2; omega), A2.out.2.2.1.kept hK (fun x hx q => by cases hx; have := A2.out.2.2.2; simp at q; omega)⟩; clear hE hK)
    | (refine wpList_load9 rfl _ rfl b2 0 rfl (Ent.lit w1.heap.size 4 5 3 false) ?hA ?_; (fail_if_success (clear A4)); (case hA => exact A3.out.1.at))
    | (go_at_call 9; refine (HP.out _ w3 A3.out.2.2).mono ?_; rintro r w4 ⟨rfl, h⟩; have A4 : Hid (Entb w4 b2 (Ent.lit w1.heap.size 4 5 3 false) ∧ Keeps (fun _ => False) w w4 ∧ Row w4 (some ⟨w1.heap.size, 0, none⟩) [1, 2, 3, 4]) := ⟨A3.out.1.keptF h, A3.out.2.1.tr h, A3.out.2.2.keptF h⟩; clear h)
    | (go_at_call 13; refine (num_any _ _).mono ?_; rintro e w' ⟨rfl, hw⟩; obtain rfl := hw.symm; clear hw)
    | (refine wpList_load9 rfl _ rfl b2 0 rfl (Ent.lit w1.heap.size 4 5 3 false) ?hA ?_; (case hA => exact A4.out.1.at))
    | (go_at_call 8; refine (HC.out _ w4 A4.out.2.2).mono ?_; rintro r w5 ⟨g, vc, rfl, ho, hg, h⟩; have A5 : Hid (Keeps (fun _ => False) w w5 ∧ Own w5 g vc [1, 2, 3, 4] ∧ w.heap.size ≤ g) := ⟨A4.out.2.1.tr h, ho, Nat.le_trans A4.out.2.1.size hg⟩; clear h ho hg)
    | (refine wpList_alloc9 rfl rfl ?_; (fail_if_success (clear A6)); intro b6 w6 hE hK hb; have A6 : Hid (Keeps (fun _ => False) w w6 ∧ Own w6 g vc [1, 2, 3, 4] ∧ w.heap.size ≤ g ∧ Entb w6 b6 Ent.zero ∧ g < b6 ∧ w.heap.size ≤ b6) := ⟨A5.out.1.tr hK, A5.out.2.1.kept hK (fun h => h), A5.out.2.2, hE, (by have := A5.out.2.1.lt; omega), Nat.le_trans A5.out.1.size hb⟩; clear hE hK hb)
    | (refine wpList_store9 rfl _ _ rfl b6 ((Ent.lit w1.heap.size 4 5 3 false).vec (some ⟨g, 0, none⟩) 4 vc) rfl rfl Ent.zero ?hA ?_; (case hA => exact A6.out.2.2.2.1); intro w7 hE hK; have A7 : Hid (Keeps (fun _ => False) w w7 ∧ Own w7 g vc [1, 2, 3, 4] ∧ Entb w7 b6 ((Ent.lit w1.heap.size 4 5 3 false).vec (some ⟨g, 0, none⟩) 4 vc)) := ⟨A6.out.1.trans hK (fun i hi h => by have := A6.out.2.2.2.2.2; omega), A6.out.2.1.kept hK (by have := A6.out.2.2.2.2.1; omega), hE⟩; have AP : Hid (w.heap.size ≤ g ∧ g < b6 ∧ w.heap.size ≤ b6) := ⟨A6.out.2.2.1, A6.out.2.2.2.2.1, A6.out.2.2.2.2.2⟩; clear hE hK A6 A5 A4 A3 A2 A1)
    | (refine wpList_stop 3 41 _ rfl ?_))
  have hvc : (4 : Int) ≤ (vc : Int) := by have := A7.out.2.1.cap; simp at this; omega
  have r2 : w7.cell? ⟨b6, 2, none⟩ = some (.slice (some ⟨g, 0, none⟩) 4 vc) := A7.out.2.2.c2
  have r3 : w7.cell? ⟨b6, 3, none⟩ = some (.int .i64 5) := A7.out.2.2.c3
  have r4 : w7.cell? ⟨b6, 4, none⟩ = some (.int .i64 3) := A7.out.2.2.c4
  have f2 := A7.out.2.2.free 2
  have f3 := A7.out.2.2.free 3
  have f4 := A7.out.2.2.free 4
  have g1 : w7.cell? ⟨g, 1, none⟩ = some (.int .i64 2) := A7.out.2.1.cell 1 (by decide)
  have g2 : w7.cell? ⟨g, 2, none⟩ = some (.int .i64 3) := A7.out.2.1.cell 2 (by decide)
  have h1 := A7.out.2.1.free 1 (by decide)
  have h2 := A7.out.2.1.free 2 (by decide)
  clear HP HC
  obtain rfl | rfl | rfl | rfl | rfl | rfl | rfl : k7 = 0 ∨ k7 = 1 ∨ k7 = 2 ∨ k7 = 3 ∨ k7 = 4 ∨ k7 = 5 ∨ k7 = 6 := by omega
  · skip
    have hkW : Keeps (fun z => z = b6) w7 (w7.setCell ⟨b6, 2, none⟩ (.slice (some ⟨g, 0, none⟩) 3 vc)) := (Keeps.refl (fun z => z = b6) w7).setCell (p := ⟨b6, 2, none⟩) (fun _ => rfl) _
    have HW : Hid (Entb (w7.setCell ⟨b6, 2, none⟩ (.slice (some ⟨g, 0, none⟩) 3 vc)) b6 ((Ent.lit w1.heap.size 4 5 3 false).vec (some ⟨g, 0, none⟩) 3 vc) ∧ Row (w7.setCell ⟨b6, 2, none⟩ (.slice (some ⟨g, 0, none⟩) 3 vc)) (some ⟨g, 0, none⟩) [1, 2, 3] ∧ Keeps (fun _ => False) w (w7.setCell ⟨b6, 2, none⟩ (.slice (some ⟨g, 0, none⟩) 3 vc))) := ⟨A7.out.2.2.setC 2 _ _ rfl, Row.short (A7.out.2.1.kept hkW (by have := AP.out.2.1; omega)).row, A7.out.1.trans hkW (fun i hi h => by have := AP.out.2.2; omega)⟩
    have HH : Hid (headB [1, 2, 3] ((Ent.lit w1.heap.size 4 5 3 false).vec (some ⟨g, 0, none⟩) 3 vc).st ((Ent.lit w1.heap.size 4 5 3 false).vec (some ⟨g, 0, none⟩) 3 vc).nd = false) := headB_no (by first | exact .inl (mayB_out (by decide)) | exact .inl (mayB_bad 1 (by simp) (.inl (by show -(d : Int) < 0; omega))) | exact .inl (mayB_bad 2 (by simp) (.inr (by show 1048576 < 1048576 + (d : Int); omega))) | exact .inr (.inl (by show 1 - (d : Int) < 1; omega)) | exact .inr (.inr (.inl (by show 1048576 < 1048576 + (d : Int); omega))) | exact .inr (.inr (.inr (.inl (by show -(d : Int) < 0; omega)))) | exact .inr (.inr (.inr (.inr (by show 4 ≤ 3 + (d : Int); omega)))))
    refine ⟨?_⟩
    go_wp2_with (first
      | (refine wpList_load9 rfl _ rfl b6 0 rfl ((Ent.lit w1.heap.size 4 5 3 false).vec (some ⟨g, 0, none⟩) 3 vc) ?hA ?_; (fail_if_success (clear A8)); (case hA => exact HW.out.1.at))
      | (go_at_call 9; refine (put_no ((Ent.lit w1.heap.size 4 5 3 false).vec (some ⟨g, 0, none⟩) 3 vc) [1, 2, 3] (w7.setCell ⟨b6, 2, none⟩ (.slice (some ⟨g, 0, none⟩) 3 vc)) rfl HW.out.2.1 (by simp) HH.out).mono ?_; rintro r w8 ⟨rfl, h⟩; have A8 : Hid (Keeps (fun _ => False) w w8) := HW.out.2.2.tr h; clear h r2 r3 r4 f2 f3 f4 g1 g2 h1 h2 hkW HW HH))
    go_region
    generalize hwS : (w8.alloc (Obj.cells #[.string ⟨#[]⟩, .string X25, .string U2, .string U3, .string U4, .string U5, .string U6, .string U7, .string U8] 9)).drew = wS
    have AS : Hid (Keeps (fun _ => False) w wS) := by rw [← hwS]; exact (A8.out.alloc _).drew
    obtain ⟨U, hc9, hU⟩ : ∃ U, wS.cell? ⟨w8.heap.size, k9, none⟩ = some (.string U) ∧ NoHead U := by
      have hh : wS.heap[w8.heap.size]? = some (.cells #[.string ⟨#[]⟩, .string X25, .string U2, .string U3, .string U4, .string U5, .string U6, .string U7, .string U8] 9 (0, 0)) := by rw [← hwS]; exact heap_alloc_new w8 _
      obtain ⟨u0, u1, u2, u3, u4, u5, u6, u7, u8⟩ := HUS.out
      obtain rfl | rfl | rfl | rfl | rfl | rfl | rfl | rfl | rfl : k9 = 0 ∨ k9 = 1 ∨ k9 = 2 ∨ k9 = 3 ∨ k9 = 4 ∨ k9 = 5 ∨ k9 = 6 ∨ k9 = 7 ∨ k9 = 8 := by omega
      · exact ⟨_, cell_of_heap hh rfl, u0⟩
      · exact ⟨_, cell_of_heap hh rfl, u1⟩
      · exact ⟨_, cell_of_heap hh rfl, u2⟩
      · exact ⟨_, cell_of_heap hh rfl, u3⟩
      · exact ⟨_, cell_of_heap hh rfl, u4⟩
      · exact ⟨_, cell_of_heap hh rfl, u5⟩
      · exact ⟨_, cell_of_heap hh rfl, u6⟩
      · exact ⟨_, cell_of_heap hh rfl, u7⟩
      · exact ⟨_, cell_of_heap hh rfl, u8⟩
    have HN : Hid (NoHead U) := hU
    have hk9z : (k9 : Int) < 9 := by omega
    have hk90 : (0 : Int) ≤ (k9 : Int) := by omega
    clear hwS hU E2 E3 E4 E5 E6 E7 E8 hX25 hX2 hX3 hX24 hX20 hY24 hX7 hX8 hZ7 hZ8 v2 v3 v4 v5 v6 v7 v8 v7' v8' s2 s3 s24 s8 HUS A8
    generalize w8.heap.size = B at *
    go_wp2_with (first
      | (go_at_call 11; refine (get_no U HN.out wS).mono ?_; rintro r w9 ⟨a9, c9, rfl, h⟩; have A9 : Hid (Keeps (fun _ => False) w w9) := AS.out.tr h; clear h)
      | (refine wpList_alloc9 rfl rfl ?_; intro b10 w10 hE hK hb; have A10 : Hid (Keeps (fun _ => False) w w10 ∧ Entb w10 b10 Ent.zero ∧ w9.heap.size ≤ b10) := ⟨A9.out.tr hK, hE, hb⟩; clear hE hK hb)
      | (refine wpList_store9 rfl _ _ rfl b10 (Ent.gotten a9 0 c9 false 0 0) rfl rfl Ent.zero ?hA ?_; (case hA => exact A10.out.2.1); intro w11 hE hK; have A11 : Hid (Keeps (fun _ => False) w w11 ∧ Entb w11 b10 (Ent.gotten a9 0 c9 false 0 0)) := ⟨A10.out.1.trans hK (fun i hi h => by have := A9.out.size; have := A10.out.2.2; omega), hE⟩; clear hE hK)
      | (go_at_call 13; refine (num_any _ _).mono ?_; rintro e w' ⟨rfl, hw⟩; obtain rfl := hw.symm; clear hw)
      | (refine wpList_load9w _ rfl b10 0 rfl rfl (Ent.gotten a9 0 c9 false 0 0) ?hA ?_; (case hA => exact A11.out.2.at))
      | (go_at_call 14; refine (HSZ.out w11 a9 c9).mono ?_; rintro r w12 ⟨rfl, h⟩; have A12 : Hid (Keeps (fun _ => False) w w12) := A11.out.1.tr h; clear h))
    go_ret
    exact ⟨rfl, A12.out⟩
  · skip
    have hkW : Keeps (fun z => z = g) w7 (w7.setCell ⟨g, 1, none⟩ (.int .i64 (-(d : Int)))) := (Keeps.refl (fun z => z = g) w7).setCell (p := ⟨g, 1, none⟩) (fun _ => rfl) _
    have HW : Hid (Entb (w7.setCell ⟨g, 1, none⟩ (.int .i64 (-(d : Int)))) b6 ((Ent.lit w1.heap.size 4 5 3 false).vec (some ⟨g, 0, none⟩) 4 vc) ∧ Row (w7.setCell ⟨g, 1, none⟩ (.int .i64 (-(d : Int)))) (some ⟨g, 0, none⟩) [1, -(d : Int), 3, 4] ∧ Keeps (fun _ => False) w (w7.setCell ⟨g, 1, none⟩ (.int .i64 (-(d : Int))))) := ⟨A7.out.2.2.kept hkW (by have := AP.out.2.1; omega), (A7.out.2.1.set 1 _).row, A7.out.1.trans hkW (fun i hi h => by have := AP.out.1; omega)⟩
    have HH : Hid (headB [1, -(d : Int), 3, 4] ((Ent.lit w1.heap.size 4 5 3 false).vec (some ⟨g, 0, none⟩) 4 vc).st ((Ent.lit w1.heap.size 4 5 3 false).vec (some ⟨g, 0, none⟩) 4 vc).nd = false) := headB_no (by first | exact .inl (mayB_out (by decide)) | exact .inl (mayB_bad 1 (by simp) (.inl (by show -(d : Int) < 0; omega))) | exact .inl (mayB_bad 2 (by simp) (.inr (by show 1048576 < 1048576 + (d : Int); omega))) | exact .inr (.inl (by show 1 - (d : Int) < 1; omega)) | exact .inr (.inr (.inl (by show 1048576 < 1048576 + (d : Int); omega))) | exact .inr (.inr (.inr (.inl (by show -(d : Int) < 0; omega)))) | exact .inr (.inr (.inr (.inr (by show 4 ≤ 3 + (d : Int); omega)))))
    refine ⟨?_⟩
    go_wp2_with (first
      | (refine wpList_load9 rfl _ rfl b6 0 rfl ((Ent.lit w1.heap.size 4 5 3 false).vec (some ⟨g, 0, none⟩) 4 vc) ?hA ?_; (fail_if_success (clear A8)); (case hA => exact HW.out.1.at))
      | (go_at_call 9; refine (put_no ((Ent.lit w1.heap.size 4 5 3 false).vec (some ⟨g, 0, none⟩) 4 vc) [1, -(d : Int), 3, 4] (w7.setCell ⟨g, 1, none⟩ (.int .i64 (-(d : Int)))) rfl HW.out.2.1 (by simp) HH.out).mono ?_; rintro r w8 ⟨rfl, h⟩; have A8 : Hid (Keeps (fun _ => False) w w8) := HW.out.2.2.tr h; clear h r2 r3 r4 f2 f3 f4 g1 g2 h1 h2 hkW HW HH))
    go_region
    generalize hwS : (w8.alloc (Obj.cells #[.string ⟨#[]⟩, .string X25, .string U2, .string U3, .string U4, .string U5, .string U6, .string U7, .string U8] 9)).drew = wS
    have AS : Hid (Keeps (fun _ => False) w wS) := by rw [← hwS]; exact (A8.out.alloc _).drew
    obtain ⟨U, hc9, hU⟩ : ∃ U, wS.cell? ⟨w8.heap.size, k9, none⟩ = some (.string U) ∧ NoHead U := by
      have hh : wS.heap[w8.heap.size]? = some (.cells #[.string ⟨#[]⟩, .string X25, .string U2, .string U3, .string U4, .string U5, .string U6, .string U7, .string U8] 9 (0, 0)) := by rw [← hwS]; exact heap_alloc_new w8 _
      obtain ⟨u0, u1, u2, u3, u4, u5, u6, u7, u8⟩ := HUS.out
      obtain rfl | rfl | rfl | rfl | rfl | rfl | rfl | rfl | rfl : k9 = 0 ∨ k9 = 1 ∨ k9 = 2 ∨ k9 = 3 ∨ k9 = 4 ∨ k9 = 5 ∨ k9 = 6 ∨ k9 = 7 ∨ k9 = 8 := by omega
      · exact ⟨_, cell_of_heap hh rfl, u0⟩
      · exact ⟨_, cell_of_heap hh rfl, u1⟩
      · exact ⟨_, cell_of_heap hh rfl, u2⟩
      · exact ⟨_, cell_of_heap hh rfl, u3⟩
      · exact ⟨_, cell_of_heap hh rfl, u4⟩
      · exact ⟨_, cell_of_heap hh rfl, u5⟩
      · exact ⟨_, cell_of_heap hh rfl, u6⟩
      · exact ⟨_, cell_of_heap hh rfl, u7⟩
      · exact ⟨_, cell_of_heap hh rfl, u8⟩
    have HN : Hid (NoHead U) := hU
    have hk9z : (k9 : Int) < 9 := by omega
    have hk90 : (0 : Int) ≤ (k9 : Int) := by omega
    clear hwS hU E2 E3 E4 E5 E6 E7 E8 hX25 hX2 hX3 hX24 hX20 hY24 hX7 hX8 hZ7 hZ8 v2 v3 v4 v5 v6 v7 v8 v7' v8' s2 s3 s24 s8 HUS A8
    generalize w8.heap.size = B at *
    go_wp2_with (first
      | (go_at_call 11; refine (get_no U HN.out wS).mono ?_; rintro r w9 ⟨a9, c9, rfl, h⟩; have A9 : Hid (Keeps (fun _ => False) w w9) := AS.out.tr h; clear h)
      | (refine wpList_alloc9 rfl rfl ?_; intro b10 w10 hE hK hb; have A10 : Hid (Keeps (fun _ => False) w w10 ∧ Entb w10 b10 Ent.zero ∧ w9.heap.size ≤ b10) := ⟨A9.out.tr hK, hE, hb⟩; clear hE hK hb)
      | (refine wpList_store9 rfl _ _ rfl b10 (Ent.gotten a9 0 c9 false 0 0) rfl rfl Ent.zero ?hA ?_; (case hA => exact A10.out.2.1); intro w11 hE hK; have A11 : Hid (Keeps (fun _ => False) w w11 ∧ Entb w11 b10 (Ent.gotten a9 0 c9 false 0 0)) := ⟨A10.out.1.trans hK (fun i hi h => by have := A9.out.size; have := A10.out.2.2; omega), hE⟩; clear hE hK)
      | (go_at_call 13; refine (num_any _ _).mono ?_; rintro e w' ⟨rfl, hw⟩; obtain rfl := hw.symm; clear hw)
      | (refine wpList_load9w _ rfl b10 0 rfl rfl (Ent.gotten a9 0 c9 false 0 0) ?hA ?_; (case hA => exact A11.out.2.at))
      | (go_at_call 14; refine (HSZ.out w11 a9 c9).mono ?_; rintro r w12 ⟨rfl, h⟩; have A12 : Hid (Keeps (fun _ => False) w w12) := A11.out.1.tr h; clear h))
    go_ret
    exact ⟨rfl, A12.out⟩
  · skip
    have hkW : Keeps (fun z => z = g) w7 (w7.setCell ⟨g, 2, none⟩ (.int .i64 (1048576 + (d : Int)))) := (Keeps.refl (fun z => z = g) w7).setCell (p := ⟨g, 2, none⟩) (fun _ => rfl) _
    have HW : Hid (Entb (w7.setCell ⟨g, 2, none⟩ (.int .i64 (1048576 + (d : Int)))) b6 ((Ent.lit w1.heap.size 4 5 3 false).vec (some ⟨g, 0, none⟩) 4 vc) ∧ Row (w7.setCell ⟨g, 2, none⟩ (.int .i64 (1048576 + (d : Int)))) (some ⟨g, 0, none⟩) [1, 2, 1048576 + (d : Int), 4] ∧ Keeps (fun _ => False) w (w7.setCell ⟨g, 2, none⟩ (.int .i64 (1048576 + (d : Int))))) := ⟨A7.out.2.2.kept hkW (by have := AP.out.2.1; omega), (A7.out.2.1.set 2 _).row, A7.out.1.trans hkW (fun i hi h => by have := AP.out.1; omega)⟩
    have HH : Hid (headB [1, 2, 1048576 + (d : Int), 4] ((Ent.lit w1.heap.size 4 5 3 false).vec (some ⟨g, 0, none⟩) 4 vc).st ((Ent.lit w1.heap.size 4 5 3 false).vec (some ⟨g, 0, none⟩) 4 vc).nd = false) := headB_no (by first | exact .inl (mayB_out (by decide)) | exact .inl (mayB_bad 1 (by simp) (.inl (by show -(d : Int) < 0; omega))) | exact .inl (mayB_bad 2 (by simp) (.inr (by show 1048576 < 1048576 + (d : Int); omega))) | exact .inr (.inl (by show 1 - (d : Int) < 1; omega)) | exact .inr (.inr (.inl (by show 1048576 < 1048576 + (d : Int); omega))) | exact .inr (.inr (.inr (.inl (by show -(d : Int) < 0; omega)))) | exact .inr (.inr (.inr (.inr (by show 4 ≤ 3 + (d : Int); omega)))))
    refine ⟨?_⟩
    go_wp2_with (first
      | (refine wpList_load9 rfl _ rfl b6 0 rfl ((Ent.lit w1.heap.size 4 5 3 false).vec (some ⟨g, 0, none⟩) 4 vc) ?hA ?_; (fail_if_success (clear A8)); (case hA => exact HW.out.1.at))
      | (go_at_call 9; refine (put_no ((Ent.lit w1.heap.size 4 5 3 false).vec (some ⟨g, 0, none⟩) 4 vc) [1, 2, 1048576 + (d : Int), 4] (w7.setCell ⟨g, 2, none⟩ (.int .i64 (1048576 + (d : Int)))) rfl HW.out.2.1 (by simp) HH.out).mono ?_; rintro r w8 ⟨rfl, h⟩; have A8 : Hid (Keeps (fun _ => False) w w8) := HW.out.2.2.tr h; clear h r2 r3 r4 f2 f3 f4 g1 g2 h1 h2 hkW HW HH))
    go_region
    generalize hwS : (w8.alloc (Obj.cells #[.string ⟨#[]⟩, .string X25, .string U2, .string U3, .string U4, .string U5, .string U6, .string U7, .string U8] 9)).drew = wS
    have AS : Hid (Keeps (fun _ => False) w wS) := by rw [← hwS]; exact (A8.out.alloc _).drew
    obtain ⟨U, hc9, hU⟩ : ∃ U, wS.cell? ⟨w8.heap.size, k9, none⟩ = some (.string U) ∧ NoHead U := by
      have hh : wS.heap[w8.heap.size]? = some (.cells #[.string ⟨#[]⟩, .string X25, .string U2, .string U3, .string U4, .string U5, .string U6, .string U7, .string U8] 9 (0, 0)) := by rw [← hwS]; exact heap_alloc_new w8 _
      obtain ⟨u0, u1, u2, u3, u4, u5, u6, u7, u8⟩ := HUS.out
      obtain rfl | rfl | rfl | rfl | rfl | rfl | rfl | rfl | rfl : k9 = 0 ∨ k9 = 1 ∨ k9 = 2 ∨ k9 = 3 ∨ k9 = 4 ∨ k9 = 5 ∨ k9 = 6 ∨ k9 = 7 ∨ k9 = 8 := by omega
      · exact ⟨_, cell_of_heap hh rfl, u0⟩
      · exact ⟨_, cell_of_heap hh rfl, u1⟩
      · exact ⟨_, cell_of_heap hh rfl, u2⟩
      · exact ⟨_, cell_of_heap hh rfl, u3⟩
      · exact ⟨_, cell_of_heap hh rfl, u4⟩
      · exact ⟨_, cell_of_heap hh rfl, u5⟩
      · exact ⟨_, cell_of_heap hh rfl, u6⟩
      · exact ⟨_, cell_of_heap hh rfl, u7⟩
      · exact ⟨_, cell_of_heap hh rfl, u8⟩
    have HN : Hid (NoHead U) := hU
    have hk9z : (k9 : Int) < 9 := by omega
    have hk90 : (0 : Int) ≤ (k9 : Int) := by omega
    clear hwS hU E2 E3 E4 E5 E6 E7 E8 hX25 hX2 hX3 hX24 hX20 hY24 hX7 hX8 hZ7 hZ8 v2 v3 v4 v5 v6 v7 v8 v7' v8' s2 s3 s24 s8 HUS A8
    generalize w8.heap.size = B at *
    go_wp2_with (first
      | (go_at_call 11; refine (get_no U HN.out wS).mono ?_; rintro r w9 ⟨a9, c9, rfl, h⟩; have A9 : Hid (Keeps (fun _ => False) w w9) := AS.out.tr h; clear h)
      | (refine wpList_alloc9 rfl rfl ?_; intro b10 w10 hE hK hb; have A10 : Hid (Keeps (fun _ => False) w w10 ∧ Entb w10 b10 Ent.zero ∧ w9.heap.size ≤ b10) := ⟨A9.out.tr hK, hE, hb⟩; clear hE hK hb)
      | (refine wpList_store9 rfl _ _ rfl b10 (Ent.gotten a9 0 c9 false 0 0) rfl rfl Ent.zero ?hA ?_; (case hA => exact A10.out.2.1); intro w11 hE hK; have A11 : Hid (Keeps (fun _ => False) w w11 ∧ Entb w11 b10 (Ent.gotten a9 0 c9 false 0 0)) := ⟨A10.out.1.trans hK (fun i hi h => by have := A9.out.size; have := A10.out.2.2; omega), hE⟩; clear hE hK)
      | (go_at_call 13; refine (num_any _ _).mono ?_; rintro e w' ⟨rfl, hw⟩; obtain rfl := hw.symm; clear hw)
      | (refine wpList_load9w _ rfl b10 0 rfl rfl (Ent.gotten a9 0 c9 false 0 0) ?hA ?_; (case hA => exact A11.out.2.at))
      | (go_at_call 14; refine (HSZ.out w11 a9 c9).mono ?_; rintro r w12 ⟨rfl, h⟩; have A12 : Hid (Keeps (fun _ => False) w w12) := A11.out.1.tr h; clear h))
    go_ret
    exact ⟨rfl, A12.out⟩
  · skip
    have hkW : Keeps (fun z => z = b6) w7 (w7.setCell ⟨b6, 3, none⟩ (.int .i64 (1 - (d : Int)))) := (Keeps.refl (fun z => z = b6) w7).setCell (p := ⟨b6, 3, none⟩) (fun _ => rfl) _
    have HW : Hid (Entb (w7.setCell ⟨b6, 3, none⟩ (.int .i64 (1 - (d : Int)))) b6 (Ent.bent (some ⟨g, 0, none⟩) vc (1 - (d : Int)) 3) ∧ Row (w7.setCell ⟨b6, 3, none⟩ (.int .i64 (1 - (d : Int)))) (some ⟨g, 0, none⟩) [1, 2, 3, 4] ∧ Keeps (fun _ => False) w (w7.setCell ⟨b6, 3, none⟩ (.int .i64 (1 - (d : Int))))) := ⟨A7.out.2.2.setC 3 _ _ rfl, (A7.out.2.1.kept hkW (by have := AP.out.2.1; omega)).row, A7.out.1.trans hkW (fun i hi h => by have := AP.out.2.2; omega)⟩
    have HH : Hid (headB [1, 2, 3, 4] (Ent.bent (some ⟨g, 0, none⟩) vc (1 - (d : Int)) 3).st (Ent.bent (some ⟨g, 0, none⟩) vc (1 - (d : Int)) 3).nd = false) := headB_no (by first | exact .inl (mayB_out (by decide)) | exact .inl (mayB_bad 1 (by simp) (.inl (by show -(d : Int) < 0; omega))) | exact .inl (mayB_bad 2 (by simp) (.inr (by show 1048576 < 1048576 + (d : Int); omega))) | exact .inr (.inl (by show 1 - (d : Int) < 1; omega)) | exact .inr (.inr (.inl (by show 1048576 < 1048576 + (d : Int); omega))) | exact .inr (.inr (.inr (.inl (by show -(d : Int) < 0; omega)))) | exact .inr (.inr (.inr (.inr (by show 4 ≤ 3 + (d : Int); omega)))))
    refine ⟨?_⟩
    go_wp2_with (first
      | (refine wpList_load9 rfl _ rfl b6 0 rfl (Ent.bent (some ⟨g, 0, none⟩) vc (1 - (d : Int)) 3) ?hA ?_; (fail_if_success (clear A8)); (case hA => exact HW.out.1.at))
      | (go_at_call 9; refine (put_no (Ent.bent (some ⟨g, 0, none⟩) vc (1 - (d : Int)) 3) [1, 2, 3, 4] (w7.setCell ⟨b6, 3, none⟩ (.int .i64 (1 - (d : Int)))) rfl HW.out.2.1 (by simp) HH.out).mono ?_; rintro r w8 ⟨rfl, h⟩; have A8 : Hid (Keeps (fun _ => False) w w8) := HW.out.2.2.tr h; clear h r2 r3 r4 f2 f3 f4 g1 g2 h1 h2 hkW HW HH))
    go_region
    generalize hwS : (w8.alloc (Obj.cells #[.string ⟨#[]⟩, .string X25, .string U2, .string U3, .string U4, .string U5, .string U6, .string U7, .string U8] 9)).drew = wS
    have AS : Hid (Keeps (fun _ => False) w wS) := by rw [← hwS]; exact (A8.out.alloc _).drew
    obtain ⟨U, hc9, hU⟩ : ∃ U, wS.cell? ⟨w8.heap.size, k9, none⟩ = some (.string U) ∧ NoHead U := by
      have hh : wS.heap[w8.heap.size]? = some (.cells #[.string ⟨#[]⟩, .string X25, .string U2, .string U3, .string U4, .string U5, .string U6, .string U7, .string U8] 9 (0, 0)) := by rw [← hwS]; exact heap_alloc_new w8 _
      obtain ⟨u0, u1, u2, u3, u4, u5, u6, u7, u8⟩ := HUS.out
      obtain rfl | rfl | rfl | rfl | rfl | rfl | rfl | rfl | rfl : k9 = 0 ∨ k9 = 1 ∨ k9 = 2 ∨ k9 = 3 ∨ k9 = 4 ∨ k9 = 5 ∨ k9 = 6 ∨ k9 = 7 ∨ k9 = 8 := by omega
      · exact ⟨_, cell_of_heap hh rfl, u0⟩
      · exact ⟨_, cell_of_heap hh rfl, u1⟩
      · exact ⟨_, cell_of_heap hh rfl, u2⟩
      · exact ⟨_, cell_of_heap hh rfl, u3⟩
      · exact ⟨_, cell_of_heap hh rfl, u4⟩
      · exact ⟨_, cell_of_heap hh rfl, u5⟩
      · exact ⟨_, cell_of_heap hh rfl, u6⟩
      · exact ⟨_, cell_of_heap hh rfl, u7⟩
      · exact ⟨_, cell_of_heap hh rfl, u8⟩
    have HN : Hid (NoHead U) := hU
    have hk9z : (k9 : Int) < 9 := by omega
    have hk90 : (0 : Int) ≤ (k9 : Int) := by omega
    clear hwS hU E2 E3 E4 E5 E6 E7 E8 hX25 hX2 hX3 hX24 hX20 hY24 hX7 hX8 hZ7 hZ8 v2 v3 v4 v5 v6 v7 v8 v7' v8' s2 s3 s24 s8 HUS A8
    generalize w8.heap.size = B at *
    go_wp2_with (first
      | (go_at_call 11; refine (get_no U HN.out wS).mono ?_; rintro r w9 ⟨a9, c9, rfl, h⟩; have A9 : Hid (Keeps (fun _ => False) w w9) := AS.out.tr h; clear h)
      | (refine wpList_alloc9 rfl rfl ?_; intro b10 w10 hE hK hb; have A10 : Hid (Keeps (fun _ => False) w w10 ∧ Entb w10 b10 Ent.zero ∧ w9.heap.size ≤ b10) := ⟨A9.out.tr hK, hE, hb⟩; clear hE hK hb)
      | (refine wpList_store9 rfl _ _ rfl b10 (Ent.gotten a9 0 c9 false 0 0) rfl rfl Ent.zero ?hA ?_; (case hA => exact A10.out.2.1); intro w11 hE hK; have A11 : Hid (Keeps (fun _ => False) w w11 ∧ Entb w11 b10 (Ent.gotten a9 0 c9 false 0 0)) := ⟨A10.out.1.trans hK (fun i hi h => by have := A9.out.size; have := A10.out.2.2; omega), hE⟩; clear hE hK)
      | (go_at_call 13; refine (num_any _ _).mono ?_; rintro e w' ⟨rfl, hw⟩; obtain rfl := hw.symm; clear hw)
      | (refine wpList_load9w _ rfl b10 0 rfl rfl (Ent.gotten a9 0 c9 false 0 0) ?hA ?_; (case hA => exact A11.out.2.at))
      | (go_at_call 14; refine (HSZ.out w11 a9 c9).mono ?_; rintro r w12 ⟨rfl, h⟩; have A12 : Hid (Keeps (fun _ => False) w w12) := A11.out.1.tr h; clear h))
    go_ret
    exact ⟨rfl, A12.out⟩
  · skip
    have hkW : Keeps (fun z => z = b6) w7 (w7.setCell ⟨b6, 3, none⟩ (.int .i64 (1048576 + (d : Int)))) := (Keeps.refl (fun z => z = b6) w7).setCell (p := ⟨b6, 3, none⟩) (fun _ => rfl) _
    have HW : Hid (Entb (w7.setCell ⟨b6, 3, none⟩ (.int .i64 (1048576 + (d : Int)))) b6 (Ent.bent (some ⟨g, 0, none⟩) vc (1048576 + (d : Int)) 3) ∧ Row (w7.setCell ⟨b6, 3, none⟩ (.int .i64 (1048576 + (d : Int)))) (some ⟨g, 0, none⟩) [1, 2, 3, 4] ∧ Keeps (fun _ => False) w (w7.setCell ⟨b6, 3, none⟩ (.int .i64 (1048576 + (d : Int))))) := ⟨A7.out.2.2.setC 3 _ _ rfl, (A7.out.2.1.kept hkW (by have := AP.out.2.1; omega)).row, A7.out.1.trans hkW (fun i hi h => by have := AP.out.2.2; omega)⟩
    have HH : Hid (headB [1, 2, 3, 4] (Ent.bent (some ⟨g, 0, none⟩) vc (1048576 + (d : Int)) 3).st (Ent.bent (some ⟨g, 0, none⟩) vc (1048576 + (d : Int)) 3).nd = false) := headB_no (by first | exact .inl (mayB_out (by decide)) | exact .inl (mayB_bad 1 (by simp) (.inl (by show -(d : Int) < 0; omega))) | exact .inl (mayB_bad 2 (by simp) (.inr (by show 1048576 < 1048576 + (d : Int); omega))) | exact .inr (.inl (by show 1 - (d : Int) < 1; omega)) | exact .inr (.inr (.inl (by show 1048576 < 1048576 + (d : Int); omega))) | exact .inr (.inr (.inr (.inl (by show -(d : Int) < 0; omega)))) | exact .inr (.inr (.inr (.inr (by show 4 ≤ 3 + (d : Int); omega)))))
    refine ⟨?_⟩
    go_wp2_with (first
      | (refine wpList_load9 rfl _ rfl b6 0 rfl (Ent.bent (some ⟨g, 0, none⟩) vc (1048576 + (d : Int)) 3) ?hA ?_; (fail_if_success (clear A8)); (case hA => exact HW.out.1.at))
      | (go_at_call 9; refine (put_no (Ent.bent (some ⟨g, 0, none⟩) vc (1048576 + (d : Int)) 3) [1, 2, 3, 4] (w7.setCell ⟨b6, 3, none⟩ (.int .i64 (1048576 + (d : Int)))) rfl HW.out.2.1 (by simp) HH.out).mono ?_; rintro r w8 ⟨rfl, h⟩; have A8 : Hid (Keeps (fun _ => False) w w8) := HW.out.2.2.tr h; clear h r2 r3 r4 f2 f3 f4 g1 g2 h1 h2 hkW HW HH))
    go_region
    generalize hwS : (w8.alloc (Obj.cells #[.string ⟨#[]⟩, .string X25, .string U2, .string U3, .string U4, .string U5, .string U6, .string U7, .string U8] 9)).drew = wS
    have AS : Hid (Keeps (fun _ => False) w wS) := by rw [← hwS]; exact (A8.out.alloc _).drew
    obtain ⟨U, hc9, hU⟩ : ∃ U, wS.cell? ⟨w8.heap.size, k9, none⟩ = some (.string U) ∧ NoHead U := by
      have hh : wS.heap[w8.heap.size]? = some (.cells #[.string ⟨#[]⟩, .string X25, .string U2, .string U3, .string U4, .string U5, .string U6, .string U7, .string U8] 9 (0, 0)) := by rw [← hwS]; exact heap_alloc_new w8 _
      obtain ⟨u0, u1, u2, u3, u4, u5, u6, u7, u8⟩ := HUS.out
      obtain rfl | rfl | rfl | rfl | rfl | rfl | rfl | rfl | rfl : k9 = 0 ∨ k9 = 1 ∨ k9 = 2 ∨ k9 = 3 ∨ k9 = 4 ∨ k9 = 5 ∨ k9 = 6 ∨ k9 = 7 ∨ k9 = 8 := by omega
      · exact ⟨_, cell_of_heap hh rfl, u0⟩
      · exact ⟨_, cell_of_heap hh rfl, u1⟩
      · exact ⟨_, cell_of_heap hh rfl, u2⟩
      · exact ⟨_, cell_of_heap hh rfl, u3⟩
      · exact ⟨_, cell_of_heap hh rfl, u4⟩
      · exact ⟨_, cell_of_heap hh rfl, u5⟩
      · exact ⟨_, cell_of_heap hh rfl, u6⟩
      · exact ⟨_, cell_of_heap hh rfl, u7⟩
      · exact ⟨_, cell_of_heap hh rfl, u8⟩
    have HN : Hid (NoHead U) := hU
    have hk9z : (k9 : Int) < 9 := by omega
    have hk90 : (0 : Int) ≤ (k9 : Int) := by omega
    clear hwS hU E2 E3 E4 E5 E6 E7 E8 hX25 hX2 hX3 hX24 hX20 hY24 hX7 hX8 hZ7 hZ8 v2 v3 v4 v5 v6 v7 v8 v7' v8' s2 s3 s24 s8 HUS A8
    generalize w8.heap.size = B at *
    go_wp2_with (first
      | (go_at_call 11; refine (get_no U HN.out wS).mono ?_; rintro r w9 ⟨a9, c9, rfl, h⟩; have A9 : Hid (Keeps (fun _ => False) w w9) := AS.out.tr h; clear h)
      | (refine wpList_alloc9 rfl rfl ?_; intro b10 w10 hE hK hb; have A10 : Hid (Keeps (fun _ => False) w w10 ∧ Entb w10 b10 Ent.zero ∧ w9.heap.size ≤ b10) := ⟨A9.out.tr hK, hE, hb⟩; clear hE hK hb)
      | (refine wpList_store9 rfl _ _ rfl b10 (Ent.gotten a9 0 c9 false 0 0) rfl rfl Ent.zero ?hA ?_; (case hA => exact A10.out.2.1); intro w11 hE hK; have A11 : Hid (Keeps (fun _ => False) w w11 ∧ Entb w11 b10 (Ent.gotten a9 0 c9 false 0 0)) := ⟨A10.out.1.trans hK (fun i hi h => by have := A9.out.size; have := A10.out.2.2; omega), hE⟩; clear hE hK)
      | (go_at_call 13; refine (num_any _ _).mono ?_; rintro e w' ⟨rfl, hw⟩; obtain rfl := hw.symm; clear hw)
      | (refine wpList_load9w _ rfl b10 0 rfl rfl (Ent.gotten a9 0 c9 false 0 0) ?hA ?_; (case hA => exact A11.out.2.at))
      | (go_at_call 14; refine (HSZ.out w11 a9 c9).mono ?_; rintro r w12 ⟨rfl, h⟩; have A12 : Hid (Keeps (fun _ => False) w w12) := A11.out.1.tr h; clear h))
    go_ret
    exact ⟨rfl, A12.out⟩
  · skip
    have hkW : Keeps (fun z => z = b6) w7 (w7.setCell ⟨b6, 4, none⟩ (.int .i64 (-(d : Int)))) := (Keeps.refl (fun z => z = b6) w7).setCell (p := ⟨b6, 4, none⟩) (fun _ => rfl) _
    have HW : Hid (Entb (w7.setCell ⟨b6, 4, none⟩ (.int .i64 (-(d : Int)))) b6 (Ent.bent (some ⟨g, 0, none⟩) vc 5 (-(d : Int))) ∧ Row (w7.setCell ⟨b6, 4, none⟩ (.int .i64 (-(d : Int)))) (some ⟨g, 0, none⟩) [1, 2, 3, 4] ∧ Keeps (fun _ => False) w (w7.setCell ⟨b6, 4, none⟩ (.int .i64 (-(d : Int))))) := ⟨A7.out.2.2.setC 4 _ _ rfl, (A7.out.2.1.kept hkW (by have := AP.out.2.1; omega)).row, A7.out.1.trans hkW (fun i hi h => by have := AP.out.2.2; omega)⟩
    have HH : Hid (headB [1, 2, 3, 4] (Ent.bent (some ⟨g, 0, none⟩) vc 5 (-(d : Int))).st (Ent.bent (some ⟨g, 0, none⟩) vc 5 (-(d : Int))).nd = false) := headB_no (by first | exact .inl (mayB_out (by decide)) | exact .inl (mayB_bad 1 (by simp) (.inl (by show -(d : Int) < 0; omega))) | exact .inl (mayB_bad 2 (by simp) (.inr (by show 1048576 < 1048576 + (d : Int); omega))) | exact .inr (.inl (by show 1 - (d : Int) < 1; omega)) | exact .inr (.inr (.inl (by show 1048576 < 1048576 + (d : Int); omega))) | exact .inr (.inr (.inr (.inl (by show -(d : Int) < 0; omega)))) | exact .inr (.inr (.inr (.inr (by show 4 ≤ 3 + (d : Int); omega)))))
    refine ⟨?_⟩
    go_wp2_with (first
      | (refine wpList_load9 rfl _ rfl b6 0 rfl (Ent.bent (some ⟨g, 0, none⟩) vc 5 (-(d : Int))) ?hA ?_; (fail_if_success (clear A8)); (case hA => exact HW.out.1.at))
      | (go_at_call 9; refine (put_no (Ent.bent (some ⟨g, 0, none⟩) vc 5 (-(d : Int))) [1, 2, 3, 4] (w7.setCell ⟨b6, 4, none⟩ (.int .i64 (-(d : Int)))) rfl HW.out.2.1 (by simp) HH.out).mono ?_; rintro r w8 ⟨rfl, h⟩; have A8 : Hid (Keeps (fun _ => False) w w8) := HW.out.2.2.tr h; clear h r2 r3 r4 f2 f3 f4 g1 g2 h1 h2 hkW HW HH))
    go_region
    generalize hwS : (w8.alloc (Obj.cells #[.string ⟨#[]⟩, .string X25, .string U2, .string U3, .string U4, .string U5, .string U6, .string U7, .string U8] 9)).drew = wS
    have AS : Hid (Keeps (fun _ => False) w wS) := by rw [← hwS]; exact (A8.out.alloc _).drew
    obtain ⟨U, hc9, hU⟩ : ∃ U, wS.cell? ⟨w8.heap.size, k9, none⟩ = some (.string U) ∧ NoHead U := by
      have hh : wS.heap[w8.heap.size]? = some (.cells #[.string ⟨#[]⟩, .string X25, .string U2, .string U3, .string U4, .string U5, .string U6, .string U7, .string U8] 9 (0, 0)) := by rw [← hwS]; exact heap_alloc_new w8 _
      obtain ⟨u0, u1, u2, u3, u4, u5, u6, u7, u8⟩ := HUS.out
      obtain rfl | rfl | rfl | rfl | rfl | rfl | rfl | rfl | rfl : k9 = 0 ∨ k9 = 1 ∨ k9 = 2 ∨ k9 = 3 ∨ k9 = 4 ∨ k9 = 5 ∨ k9 = 6 ∨ k9 = 7 ∨ k9 = 8 := by omega
      · exact ⟨_, cell_of_heap hh rfl, u0⟩
      · exact ⟨_, cell_of_heap hh rfl, u1⟩
      · exact ⟨_, cell_of_heap hh rfl, u2⟩
      · exact ⟨_, cell_of_heap hh rfl, u3⟩
      · exact ⟨_, cell_of_heap hh rfl, u4⟩
      · exact ⟨_, cell_of_heap hh rfl, u5⟩
      · exact ⟨_, cell_of_heap hh rfl, u6⟩
      · exact ⟨_, cell_of_heap hh rfl, u7⟩
      · exact ⟨_, cell_of_heap hh rfl, u8⟩
    have HN : Hid (NoHead U) := hU
    have hk9z : (k9 : Int) < 9 := by omega
    have hk90 : (0 : Int) ≤ (k9 : Int) := by omega
    clear hwS hU E2 E3 E4 E5 E6 E7 E8 hX25 hX2 hX3 hX24 hX20 hY24 hX7 hX8 hZ7 hZ8 v2 v3 v4 v5 v6 v7 v8 v7' v8' s2 s3 s24 s8 HUS A8
    generalize w8.heap.size = B at *
    go_wp2_with (first
      | (go_at_call 11; refine (get_no U HN.out wS).mono ?_; rintro r w9 ⟨a9, c9, rfl, h⟩; have A9 : Hid (Keeps (fun _ => False) w w9) := AS.out.tr h; clear h)
      | (refine wpList_alloc9 rfl rfl ?_; intro b10 w10 hE hK hb; have A10 : Hid (Keeps (fun _ => False) w w10 ∧ Entb w10 b10 Ent.zero ∧ w9.heap.size ≤ b10) := ⟨A9.out.tr hK, hE, hb⟩; clear hE hK hb)
      | (refine wpList_store9 rfl _ _ rfl b10 (Ent.gotten a9 0 c9 false 0 0) rfl rfl Ent.zero ?hA ?_; (case hA => exact A10.out.2.1); intro w11 hE hK; have A11 : Hid (Keeps (fun _ => False) w w11 ∧ Entb w11 b10 (Ent.gotten a9 0 c9 false 0 0)) := ⟨A10.out.1.trans hK (fun i hi h => by have := A9.out.size; have := A10.out.2.2; omega), hE⟩; clear hE hK)
      | (go_at_call 13; refine (num_any _ _).mono ?_; rintro e w' ⟨rfl, hw⟩; obtain rfl := hw.symm; clear hw)
      | (refine wpList_load9w _ rfl b10 0 rfl rfl (Ent.gotten a9 0 c9 false 0 0) ?hA ?_; (case hA => exact A11.out.2.at))
      | (go_at_call 14; refine (HSZ.out w11 a9 c9).mono ?_; rintro r w12 ⟨rfl, h⟩; have A12 : Hid (Keeps (fun _ => False) w w12) := A11.out.1.tr h; clear h))
    go_ret
    exact ⟨rfl, A12.out⟩
  · skip
    have hkW : Keeps (fun z => z = b6) w7 (w7.setCell ⟨b6, 4, none⟩ (.int .i64 (3 + (d : Int)))) := (Keeps.refl (fun z => z = b6) w7).setCell (p := ⟨b6, 4, none⟩) (fun _ => rfl) _
    have HW : Hid (Entb (w7.setCell ⟨b6, 4, none⟩ (.int .i64 (3 + (d : Int)))) b6 (Ent.bent (some ⟨g, 0, none⟩) vc 5 (3 + (d : Int))) ∧ Row (w7.setCell ⟨b6, 4, none⟩ (.int .i64 (3 + (d : Int)))) (some ⟨g, 0, none⟩) [1, 2, 3, 4] ∧ Keeps (fun _ => False) w (w7.setCell ⟨b6, 4, none⟩ (.int .i64 (3 + (d : Int))))) := ⟨A7.out.2.2.setC 4 _ _ rfl, (A7.out.2.1.kept hkW (by have := AP.out.2.1; omega)).row, A7.out.1.trans hkW (fun i hi h => by have := AP.out.2.2; omega)⟩
    have HH : Hid (headB [1, 2, 3, 4] (Ent.bent (some ⟨g, 0, none⟩) vc 5 (3 + (d : Int))).st (Ent.bent (some ⟨g, 0, none⟩) vc 5 (3 + (d : Int))).nd = false) := headB_no (by first | exact .inl (mayB_out (by decide)) | exact .inl (mayB_bad 1 (by simp) (.inl (by show -(d : Int) < 0; omega))) | exact .inl (mayB_bad 2 (by simp) (.inr (by show 1048576 < 1048576 + (d : Int); omega))) | exact .inr (.inl (by show 1 - (d : Int) < 1; omega)) | exact .inr (.inr (.inl (by show 1048576 < 1048576 + (d : Int); omega))) | exact .inr (.inr (.inr (.inl (by show -(d : Int) < 0; omega)))) | exact .inr (.inr (.inr (.inr (by show 4 ≤ 3 + (d : Int); omega)))))
    refine ⟨?_⟩
    go_wp2_with (first
      | (refine wpList_load9 rfl _ rfl b6 0 rfl (Ent.bent (some ⟨g, 0, none⟩) vc 5 (3 + (d : Int))) ?hA ?_; (fail_if_success (clear A8)); (case hA => exact HW.out.1.at))
      | (go_at_call 9; refine (put_no (Ent.bent (some ⟨g, 0, none⟩) vc 5 (3 + (d : Int))) [1, 2, 3, 4] (w7.setCell ⟨b6, 4, none⟩ (.int .i64 (3 + (d : Int)))) rfl HW.out.2.1 (by simp) HH.out).mono ?_; rintro r w8 ⟨rfl, h⟩; have A8 : Hid (Keeps (fun _ => False) w w8) := HW.out.2.2.tr h; clear h r2 r3 r4 f2 f3 f4 g1 g2 h1 h2 hkW HW HH))
    go_region
    generalize hwS : (w8.alloc (Obj.cells #[.string ⟨#[]⟩, .string X25, .string U2, .string U3, .string U4, .string U5, .string U6, .string U7, .string U8] 9)).drew = wS
    have AS : Hid (Keeps (fun _ => False) w wS) := by rw [← hwS]; exact (A8.out.alloc _).drew
    obtain ⟨U, hc9, hU⟩ : ∃ U, wS.cell? ⟨w8.heap.size, k9, none⟩ = some (.string U) ∧ NoHead U := by
      have hh : wS.heap[w8.heap.size]? = some (.cells #[.string ⟨#[]⟩, .string X25, .string U2, .string U3, .string U4, .string U5, .string U6, .string U7, .string U8] 9 (0, 0)) := by rw [← hwS]; exact heap_alloc_new w8 _
      obtain ⟨u0, u1, u2, u3, u4, u5, u6, u7, u8⟩ := HUS.out
      obtain rfl | rfl | rfl | rfl | rfl | rfl | rfl | rfl | rfl : k9 = 0 ∨ k9 = 1 ∨ k9 = 2 ∨ k9 = 3 ∨ k9 = 4 ∨ k9 = 5 ∨ k9 = 6 ∨ k9 = 7 ∨ k9 = 8 := by omega
      · exact ⟨_, cell_of_heap hh rfl, u0⟩
      · exact ⟨_, cell_of_heap hh rfl, u1⟩
      · exact ⟨_, cell_of_heap hh rfl, u2⟩
      · exact ⟨_, cell_of_heap hh rfl, u3⟩
      · exact ⟨_, cell_of_heap hh rfl, u4⟩
      · exact ⟨_, cell_of_heap hh rfl, u5⟩
      · exact ⟨_, cell_of_heap hh rfl, u6⟩
      · exact ⟨_, cell_of_heap hh rfl, u7⟩
      · exact ⟨_, cell_of_heap hh rfl, u8⟩
    have HN : Hid (NoHead U) := hU
    have hk9z : (k9 : Int) < 9 := by omega
    have hk90 : (0 : Int) ≤ (k9 : Int) := by omega
    clear hwS hU E2 E3 E4 E5 E6 E7 E8 hX25 hX2 hX3 hX24 hX20 hY24 hX7 hX8 hZ7 hZ8 v2 v3 v4 v5 v6 v7 v8 v7' v8' s2 s3 s24 s8 HUS A8
    generalize w8.heap.size = B at *
    go_wp2_with (first
      | (go_at_call 11; refine (get_no U HN.out wS).mono ?_; rintro r w9 ⟨a9, c9, rfl, h⟩; have A9 : Hid (Keeps (fun _ => False) w w9) := AS.out.tr h; clear h)
      | (refine wpList_alloc9 rfl rfl ?_; intro b10 w10 hE hK hb; have A10 : Hid (Keeps (fun _ => False) w w10 ∧ Entb w10 b10 Ent.zero ∧ w9.heap.size ≤ b10) := ⟨A9.out.tr hK, hE, hb⟩; clear hE hK hb)
      | (refine wpList_store9 rfl _ _ rfl b10 (Ent.gotten a9 0 c9 false 0 0) rfl rfl Ent.zero ?hA ?_; (case hA => exact A10.out.2.1); intro w11 hE hK; have A11 : Hid (Keeps (fun _ => False) w w11 ∧ Entb w11 b10 (Ent.gotten a9 0 c9 false 0 0)) := ⟨A10.out.1.trans hK (fun i hi h => by have := A9.out.size; have := A10.out.2.2; omega), hE⟩; clear hE hK)
      | (go_at_call 13; refine (num_any _ _).mono ?_; rintro e w' ⟨rfl, hw⟩; obtain rfl := hw.symm; clear hw)
      | (refine wpList_load9w _ rfl b10 0 rfl rfl (Ent.gotten a9 0 c9 false 0 0) ?hA ?_; (case hA => exact A11.out.2.at))
      | (go_at_call 14; refine (HSZ.out w11 a9 c9).mono ?_; rintro r w12 ⟨rfl, h⟩; have A12 : Hid (Keeps (fun _ => False) w w12) := A11.out.1.tr h; clear h))
    go_ret
    exact ⟨rfl, A12.out⟩

theorem forms_walk (x y : Int) (w : World) :
    Calls Try.prog 5 #[.int .i64 x, .int .i64 y] w fun r w' => r = .returned (.bool true) ∧ Below w.heap.size w w' :=
  (forms_main x y w).mono (fun r w' h => ⟨h.1, h.2.below _ (Nat.le_refl _) (fun _ h => h.elim)⟩)

end Go.Proofs.Ytapbjkhbnehllaa

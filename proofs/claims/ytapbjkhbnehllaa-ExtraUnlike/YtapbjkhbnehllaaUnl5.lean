/-
  Two heads, the way number 5: the walk.
-/
import Derived.Test.YtapbjkhbnehllaaUnl
namespace Go.Proofs.Ytapbjkhbnehllaa
open Go.RowKit
set_option linter.unusedVariables false
set_option linter.unusedSimpArgs false

set_option maxHeartbeats 16000000 in
set_option maxRecDepth 1000000 in
theorem unl_5 (a b : Ent) (ys zs : List Int) (w : World) (S T : ByteArray) (ha : Cam w a ys) (hb : Cam w b zs)
    (hA : putT ys a.st a.nd a.gn = S ∧ pErr ys a.st a.nd = 0) (hB : putT zs b.st b.nd b.gn = T ∧ pErr zs b.st b.nd = 0) (d : Bool) (hd : decide (ys = zs) = d) (x : Bool) (hST : (S.toList == T.toList) = x)
    (t3 t4 tg : Bool) (h3 : (a.st == b.st) = t3) (h4 : (a.nd == b.nd) = t4) (hg : (a.gn == b.gn) = tg)
    (hx : d = true ∧ t3 = true ∧ t4 = true ∧ tg = true ∧ x = true) :
    Calls Try.prog 6 #[.agg #[.string a.nm, .bool a.gn, .slice a.va a.vn a.vc, .int .i64 a.st, .int .i64 a.nd, .int .i64 a.mt, .string a.pk, .int .i64 a.sz, .int .i64 a.cr], .agg #[.string b.nm, .bool b.gn, .slice b.va b.vn b.vc, .int .i64 b.st, .int .i64 b.nd, .int .i64 b.mt, .string b.pk, .int .i64 b.sz, .int .i64 b.cr]] w fun r w' => r = .returned (.bool true) ∧ Keeps (fun _ => False) w w' := by
  have HA : Hid (∀ w', Keeps (fun _ => False) w w' → Calls Try.prog 9 #[.agg #[.string a.nm, .bool a.gn, .slice a.va a.vn a.vc, .int .i64 a.st, .int .i64 a.nd, .int .i64 a.mt, .string a.pk, .int .i64 a.sz, .int .i64 a.cr]] w' fun r w'' => r = .returned (.tuple #[.string S, .int .i64 0]) ∧ Keeps (fun _ => False) w' w'') := fun w' hk => by
    have := put_ok a ys w' ha.1 (ha.row hk) ha.len
    rw [hA.1, hA.2] at this; exact this
  have HB : Hid (∀ w', Keeps (fun _ => False) w w' → Calls Try.prog 9 #[.agg #[.string b.nm, .bool b.gn, .slice b.va b.vn b.vc, .int .i64 b.st, .int .i64 b.nd, .int .i64 b.mt, .string b.pk, .int .i64 b.sz, .int .i64 b.cr]] w' fun r w'' => r = .returned (.tuple #[.string T, .int .i64 0]) ∧ Keeps (fun _ => False) w' w'') := fun w' hk => by
    have := put_ok b zs w' hb.1 (hb.row hk) hb.len
    rw [hB.1, hB.2] at this; exact this
  have HC : Hid (∀ w', Keeps (fun _ => False) w w' → Calls Try.prog 8 #[.agg #[.string a.nm, .bool a.gn, .slice a.va a.vn a.vc, .int .i64 a.st, .int .i64 a.nd, .int .i64 a.mt, .string a.pk, .int .i64 a.sz, .int .i64 a.cr]] w' fun r w'' => ∃ va n c, r = .returned (.agg #[.string (a.vec va n c).nm, .bool (a.vec va n c).gn, .slice (a.vec va n c).va (a.vec va n c).vn (a.vec va n c).vc, .int .i64 (a.vec va n c).st, .int .i64 (a.vec va n c).nd, .int .i64 (a.vec va n c).mt, .string (a.vec va n c).pk, .int .i64 (a.vec va n c).sz, .int .i64 (a.vec va n c).cr]) ∧ OwnV w'' w'.heap.size (.slice va n c) ys ∧ n = ys.length ∧ Keeps (fun _ => False) w' w'') := fun w' hk => copyE_ok a ys w' ha.1 (ha.row hk) ha.2.2.1 (by have := ha.2.2.2.1; omega)
  have HU : Hid (∀ w' va n c nm pk sz cr base, OwnV w' base (.slice va n c) ys → n = ys.length → Calls Try.prog 9 #[.agg #[.string (a.odd va n c nm pk sz cr).nm, .bool (a.odd va n c nm pk sz cr).gn, .slice (a.odd va n c nm pk sz cr).va (a.odd va n c nm pk sz cr).vn (a.odd va n c nm pk sz cr).vc, .int .i64 (a.odd va n c nm pk sz cr).st, .int .i64 (a.odd va n c nm pk sz cr).nd, .int .i64 (a.odd va n c nm pk sz cr).mt, .string (a.odd va n c nm pk sz cr).pk, .int .i64 (a.odd va n c nm pk sz cr).sz, .int .i64 (a.odd va n c nm pk sz cr).cr]] w' fun r w'' => r = .returned (.tuple #[.string S, .int .i64 0]) ∧ Keeps (fun _ => False) w' w'') := fun w' va n c nm pk sz cr base hO hn => by
    obtain ⟨a', c', e, hr, _⟩ := hO.row
    cases e
    have := put_ok (a.odd va ys.length c nm pk sz cr) ys w' rfl hr ha.len
    have e1 : putT ys (a.odd va ys.length c nm pk sz cr).st (a.odd va ys.length c nm pk sz cr).nd (a.odd va ys.length c nm pk sz cr).gn = S := hA.1
    have e2 : pErr ys (a.odd va ys.length c nm pk sz cr).st (a.odd va ys.length c nm pk sz cr).nd = 0 := hA.2
    rw [e1, e2] at this
    exact this
  have HS : Hid (∀ w', Keeps (fun _ => False) w w' → Calls Try.prog 17 #[.slice a.va a.vn a.vc, .slice b.va b.vn b.vc] w' fun r w'' => r = .returned (.bool d) ∧ Keeps (fun _ => False) w' w'') := fun w' hk => by
    have := same_ok a.va b.va ys zs a.vc b.vc w' (ha.row hk) (hb.row hk) ha.len hb.len
    rw [hd] at this
    rw [ha.1, hb.1]; exact this
  have hz : ¬ 9223372036854775807 < a.nm.size + 1 := by have := ha.2.2.2.2.1; omega
  clear hA hB ha hb hd
  have h3' : decide (a.st = b.st) = t3 := by rw [← h3]; rfl
  have h4' : decide (a.nd = b.nd) = t4 := by rw [← h4]; rfl
  have hs' : decide (S = T) = x := by rw [← beq_toList]; exact hST
  have hsS : (S.toList == S.toList) = true := by simp
  obtain ⟨rfl, rfl, rfl, rfl, rfl⟩ := hx
  skip
  go_enter Try.func6, Try.ntmps6
  go_wp2_with (first
    | (refine wpList_box9 rfl _ rfl a rfl ?_; (fail_if_success (clear A1)); intro b1 w1 hE hK hb; have A1 : Hid (Entb w1 b1 a ∧ Keeps (fun _ => False) w w1) := ⟨hE, hK⟩; clear hE hK hb)
    | (refine wpList_box9 rfl _ rfl b rfl ?_; (fail_if_success (clear A2)); intro b2 w2 hE hK hb; have A2 : Hid (Entb w2 b1 a ∧ Entb w2 b2 b ∧ Keeps (fun _ => False) w w2) := ⟨A1.out.1.keptF hK, hE, A1.out.2.tr hK⟩; clear hE hK hb)
    | (go_at_call 16; refine (awake_ok w2).mono ?_; rintro r w3 ⟨rfl, h⟩; have A3 : Hid (Entb w3 b1 a ∧ Entb w3 b2 b ∧ Keeps (fun _ => False) w w3) := ⟨A2.out.1.keptF h, A2.out.2.1.keptF h, A2.out.2.2.tr h⟩; clear h)
    | (refine wpList_load9 rfl _ rfl b1 0 rfl a ?hA ?_; (fail_if_success (clear A4)); (case hA => exact A3.out.1.at))
    | (go_at_call 9; (fail_if_success (clear A4)); refine (HA.out w3 A3.out.2.2).mono ?_; rintro r w4 ⟨rfl, h⟩; have A4 : Hid (Entb w4 b1 a ∧ Entb w4 b2 b ∧ Keeps (fun _ => False) w w4) := ⟨A3.out.1.keptF h, A3.out.2.1.keptF h, A3.out.2.2.tr h⟩; clear h)
    | (refine wpList_load9 rfl _ rfl b2 0 rfl b ?hA ?_; (fail_if_success (clear A5)); (case hA => exact A4.out.2.1.at))
    | (go_at_call 9; (fail_if_success (clear A5)); refine (HB.out w4 A4.out.2.2).mono ?_; rintro r w5 ⟨rfl, h⟩; have A5 : Hid (Entb w5 b1 a ∧ Entb w5 b2 b ∧ Keeps (fun _ => False) w w5) := ⟨A4.out.1.keptF h, A4.out.2.1.keptF h, A4.out.2.2.tr h⟩; clear h)
    | (go_at_call 13; refine (num_any _ _).mono ?_; rintro e w' ⟨rfl, hw⟩; obtain rfl := hw.symm; clear hw)
    | (refine wpList_load9 rfl _ rfl b1 0 rfl a ?hA ?_; (fail_if_success (clear A6)); (case hA => exact A5.out.1.at))
    | (go_at_call 8; refine (HC.out w5 A5.out.2.2).mono ?_; rintro r w6 ⟨va, vn, vc, rfl, ho, hn, h⟩; have A6 : Hid (Entb w6 b1 a ∧ Entb w6 b2 b ∧ Keeps (fun _ => False) w w6 ∧ OwnV w6 w5.heap.size (.slice va vn vc) ys ∧ vn = ys.length ∧ w5.heap.size ≤ w6.heap.size) := ⟨A5.out.1.keptF h, A5.out.2.1.keptF h, A5.out.2.2.tr h, ho, hn, h.size⟩; clear h ho hn)
    | (refine wpList_alloc9 rfl rfl ?_; intro b7 w7 hE hK hb; have A7 : Hid (Entb w7 b1 a ∧ Entb w7 b2 b ∧ Keeps (fun _ => False) w w7 ∧ OwnV w7 w5.heap.size (.slice va vn vc) ys ∧ Entb w7 b7 Ent.zero ∧ w6.heap.size ≤ b7) := ⟨A6.out.1.keptF hK, A6.out.2.1.keptF hK, A6.out.2.2.1.tr hK, A6.out.2.2.2.1.keptF hK, hE, hb⟩; clear hE hK hb)
    | (refine wpList_store9 rfl _ _ rfl b7 (a.vec va vn vc) rfl rfl Ent.zero ?hA ?_; (case hA => exact A7.out.2.2.2.2.1); intro w8 hE hK; have A8 : Hid (Entb w8 b1 a ∧ Entb w8 b2 b ∧ Keeps (fun _ => False) w w8 ∧ OwnV w8 w5.heap.size (.slice va vn vc) ys ∧ Entb w8 b7 (a.vec va vn vc)) := ⟨A7.out.1.kept hK (by have := A6.out.1.lt; have := A7.out.2.2.2.2.2; omega), A7.out.2.1.kept hK (by have := A6.out.2.1.lt; have := A7.out.2.2.2.2.2; omega), A7.out.2.2.1.trans hK (fun i hi h => by have := A6.out.2.2.1.size; have := A7.out.2.2.2.2.2; omega), A7.out.2.2.2.1.kept hK (fun k hk e => by have := A6.out.2.2.2.1.lo k hk; have := A7.out.2.2.2.2.2; omega), hE⟩; have q0 : w8.cell? ⟨b7, 0, none⟩ = some (.string a.nm) := hE.c0; have q6 := hE.c6; have q7 : w8.cell? ⟨b7, 7, none⟩ = some (.int .i64 a.sz) := hE.c7; have q8 : w8.cell? ⟨b7, 8, none⟩ = some (.int .i64 a.cr) := hE.c8; have f0 := hE.free 0; have f6 := hE.free 6; have f7 := hE.free 7; have f8 := hE.free 8; clear hE hK)
    | (refine wpList_load9 rfl _ rfl b7 0 rfl (a.odd va vn vc (a.nm ++ ⟨#[120]⟩) ⟨#[121]⟩ (bits BinOp.xor IntKind.i64 a.sz 7) (bits BinOp.xor IntKind.i64 a.cr 7)) ?hA ?_; (case hA => exact ((((A8.out.2.2.2.2.setC 0 (.string (a.nm ++ ⟨#[120]⟩)) (a.odd va vn vc (a.nm ++ ⟨#[120]⟩) a.pk a.sz a.cr) rfl).setC 6 (.string ⟨#[121]⟩) (a.odd va vn vc (a.nm ++ ⟨#[120]⟩) ⟨#[121]⟩ a.sz a.cr) rfl).setC 7 (.int .i64 (bits BinOp.xor IntKind.i64 a.sz 7)) (a.odd va vn vc (a.nm ++ ⟨#[120]⟩) ⟨#[121]⟩ (bits BinOp.xor IntKind.i64 a.sz 7) a.cr) rfl).setC 8 (.int .i64 (bits BinOp.xor IntKind.i64 a.cr 7)) (a.odd va vn vc (a.nm ++ ⟨#[120]⟩) ⟨#[121]⟩ (bits BinOp.xor IntKind.i64 a.sz 7) (bits BinOp.xor IntKind.i64 a.cr 7)) rfl).at))
    | (go_at_call 9; have hk9 : Keeps (fun z => z = b7) w8 ((((w8.setCell ⟨b7, 0, none⟩ (.string (a.nm ++ ⟨#[120]⟩))).setCell ⟨b7, 6, none⟩ (.string ⟨#[121]⟩)).setCell ⟨b7, 7, none⟩ (.int .i64 (bits BinOp.xor IntKind.i64 a.sz 7))).setCell ⟨b7, 8, none⟩ (.int .i64 (bits BinOp.xor IntKind.i64 a.cr 7))) := ((((Keeps.refl (fun z => z = b7) w8).setCell (p := ⟨b7, 0, none⟩) (fun _ => rfl) _).setCell (p := ⟨b7, 6, none⟩) (fun _ => rfl) _).setCell (p := ⟨b7, 7, none⟩) (fun _ => rfl) _).setCell (p := ⟨b7, 8, none⟩) (fun _ => rfl) _; have B9 : Hid (Entb ((((w8.setCell ⟨b7, 0, none⟩ (.string (a.nm ++ ⟨#[120]⟩))).setCell ⟨b7, 6, none⟩ (.string ⟨#[121]⟩)).setCell ⟨b7, 7, none⟩ (.int .i64 (bits BinOp.xor IntKind.i64 a.sz 7))).setCell ⟨b7, 8, none⟩ (.int .i64 (bits BinOp.xor IntKind.i64 a.cr 7))) b1 a ∧ Entb ((((w8.setCell ⟨b7, 0, none⟩ (.string (a.nm ++ ⟨#[120]⟩))).setCell ⟨b7, 6, none⟩ (.string ⟨#[121]⟩)).setCell ⟨b7, 7, none⟩ (.int .i64 (bits BinOp.xor IntKind.i64 a.sz 7))).setCell ⟨b7, 8, none⟩ (.int .i64 (bits BinOp.xor IntKind.i64 a.cr 7))) b2 b ∧ Keeps (fun _ => False) w ((((w8.setCell ⟨b7, 0, none⟩ (.string (a.nm ++ ⟨#[120]⟩))).setCell ⟨b7, 6, none⟩ (.string ⟨#[121]⟩)).setCell ⟨b7, 7, none⟩ (.int .i64 (bits BinOp.xor IntKind.i64 a.sz 7))).setCell ⟨b7, 8, none⟩ (.int .i64 (bits BinOp.xor IntKind.i64 a.cr 7))) ∧ OwnV ((((w8.setCell ⟨b7, 0, none⟩ (.string (a.nm ++ ⟨#[120]⟩))).setCell ⟨b7, 6, none⟩ (.string ⟨#[121]⟩)).setCell ⟨b7, 7, none⟩ (.int .i64 (bits BinOp.xor IntKind.i64 a.sz 7))).setCell ⟨b7, 8, none⟩ (.int .i64 (bits BinOp.xor IntKind.i64 a.cr 7))) w5.heap.size (.slice va vn vc) ys) := ⟨A8.out.1.kept hk9 (by have := A6.out.1.lt; have := A7.out.2.2.2.2.2; omega), A8.out.2.1.kept hk9 (by have := A6.out.2.1.lt; have := A7.out.2.2.2.2.2; omega), A8.out.2.2.1.trans hk9 (fun i hi h => by have := A6.out.2.2.1.size; have := A7.out.2.2.2.2.2; omega), A8.out.2.2.2.1.kept hk9 (fun k hk e => by have := A6.out.2.2.2.1.lo k hk; have := A7.out.2.2.2.2.2; omega)⟩; refine (HU.out _ va vn vc _ _ _ _ w5.heap.size B9.out.2.2.2 A6.out.2.2.2.2.1).mono ?_; rintro r w9 ⟨rfl, h⟩; have A9 : Hid (Entb w9 b1 a ∧ Entb w9 b2 b ∧ Keeps (fun _ => False) w w9) := ⟨B9.out.1.keptF h, B9.out.2.1.keptF h, B9.out.2.2.1.tr h⟩; clear h hk9 B9 q0 q6 q7 q8 f0 f6 f7 f8; have s1 := A9.out.1.c2; have s2 := A9.out.2.1.c2)
    | (go_at_call 17; refine (HS.out w9 A9.out.2.2).mono ?_; rintro r w10 ⟨rfl, h⟩; have A10 : Hid (Entb w10 b1 a ∧ Entb w10 b2 b ∧ Keeps (fun _ => False) w w10) := ⟨A9.out.1.keptF h, A9.out.2.1.keptF h, A9.out.2.2.tr h⟩; clear h s1 s2 HA HB HC HU HS hz A1 A2 A3 A4 A5 A6 A7 A8 A9; have u1 := A10.out.1.c1; have u3 := A10.out.1.c3; have u4 := A10.out.1.c4; have v1 := A10.out.2.1.c1; have v3 := A10.out.2.1.c3; have v4 := A10.out.2.1.c4))
  go_ret
  exact ⟨rfl, A10.out.2.2⟩


end Go.Proofs.Ytapbjkhbnehllaa

/-
  Entries, and folders, held against each other.
-/
import Derived.Test.YthlaeeepbkfkgaaFs0
namespace Go.Proofs.Ythlaeeepbkfkgaa
open Go.RowKit
set_option linter.unusedVariables false
set_option linter.unusedSimpArgs false

set_option maxHeartbeats 4000000 in
set_option maxRecDepth 1000000 in
theorem sameE_nm (w : World) (nm : ByteArray) (gn : Bool) (va : Option Addr) (vn vc : Nat) (st nd mt : Int) (pk : ByteArray) (sz cr : Int) (va' : Option Addr) (vn' vc' : Nat) (nm' : ByteArray) (gn' : Bool) (st' : Int) (nd' : Int) (mt' : Int) (pk' : ByteArray) (sz' : Int) (cr' : Int) (h : ¬ nm = nm') :
    Calls Try.prog 51 #[.agg #[.string nm, .bool gn, .slice va vn vc, .int .i64 st, .int .i64 nd, .int .i64 mt, .string pk, .int .i64 sz, .int .i64 cr], .agg #[.string nm', .bool gn', .slice va' vn' vc', .int .i64 st', .int .i64 nd', .int .i64 mt', .string pk', .int .i64 sz', .int .i64 cr']] w fun r w' => r = .returned (.bool false) ∧ Keeps (fun _ => False) w w' := by
  have q := beq_text_no h
  clear h
  go_enter Try.func51, Try.ntmps51
  go_wp2_with (first
      | (refine wpList_box9 rfl _ rfl ⟨nm, gn, va, vn, vc, st, nd, mt, pk, sz, cr⟩ rfl ?_; (fail_if_success (clear H1)); intro b1 w1 hE hK hb; have H1 : Hid (Entb w1 b1 _ ∧ Keeps (fun _ => False) w w1) := ⟨hE, hK⟩; clear hE hK hb)
      | (refine wpList_box9 rfl _ rfl ⟨nm', gn', va', vn', vc', st', nd', mt', pk', sz', cr'⟩ rfl ?_; intro b2 w2 hE hK hb; have H2 : Hid (Entb w2 b1 _ ∧ Entb w2 b2 _ ∧ Keeps (fun _ => False) w w2) := ⟨H1.out.1.keptF hK, hE, H1.out.2.trans hK (fun _ _ h => h)⟩; have q0 := H2.out.1.c0; have q1 := H2.out.1.c1; have q2 := H2.out.1.c2; have r0 := H2.out.2.1.c0; have r1 := H2.out.2.1.c1; have r2 := H2.out.2.1.c2; clear hE hK hb))
  go_ret
  exact ⟨by first | rfl | simp_all, H2.out.2.2⟩

set_option maxHeartbeats 4000000 in
set_option maxRecDepth 1000000 in
theorem sameE_gn (w : World) (nm : ByteArray) (gn : Bool) (va : Option Addr) (vn vc : Nat) (st nd mt : Int) (pk : ByteArray) (sz cr : Int) (va' : Option Addr) (vn' vc' : Nat) (gn' : Bool) (st' : Int) (nd' : Int) (mt' : Int) (pk' : ByteArray) (sz' : Int) (cr' : Int) (h : ¬ gn = gn') :
    Calls Try.prog 51 #[.agg #[.string nm, .bool gn, .slice va vn vc, .int .i64 st, .int .i64 nd, .int .i64 mt, .string pk, .int .i64 sz, .int .i64 cr], .agg #[.string nm, .bool gn', .slice va' vn' vc', .int .i64 st', .int .i64 nd', .int .i64 mt', .string pk', .int .i64 sz', .int .i64 cr']] w fun r w' => r = .returned (.bool false) ∧ Keeps (fun _ => False) w w' := by
  cases gn <;> cases gn'
  · exact absurd rfl h
  · clear h
    go_enter Try.func51, Try.ntmps51
    go_wp2_with (first
        | (refine wpList_box9 rfl _ rfl ⟨nm, false, va, vn, vc, st, nd, mt, pk, sz, cr⟩ rfl ?_; (fail_if_success (clear H1)); intro b1 w1 hE hK hb; have H1 : Hid (Entb w1 b1 _ ∧ Keeps (fun _ => False) w w1) := ⟨hE, hK⟩; clear hE hK hb)
        | (refine wpList_box9 rfl _ rfl ⟨nm, true, va', vn', vc', st', nd', mt', pk', sz', cr'⟩ rfl ?_; intro b2 w2 hE hK hb; have H2 : Hid (Entb w2 b1 _ ∧ Entb w2 b2 _ ∧ Keeps (fun _ => False) w w2) := ⟨H1.out.1.keptF hK, hE, H1.out.2.trans hK (fun _ _ h => h)⟩; have q0 := H2.out.1.c0; have q1 := H2.out.1.c1; have q2 := H2.out.1.c2; have r0 := H2.out.2.1.c0; have r1 := H2.out.2.1.c1; have r2 := H2.out.2.1.c2; clear hE hK hb))
    go_ret
    exact ⟨by first | rfl | simp_all, H2.out.2.2⟩
  · clear h
    go_enter Try.func51, Try.ntmps51
    go_wp2_with (first
        | (refine wpList_box9 rfl _ rfl ⟨nm, true, va, vn, vc, st, nd, mt, pk, sz, cr⟩ rfl ?_; (fail_if_success (clear H1)); intro b1 w1 hE hK hb; have H1 : Hid (Entb w1 b1 _ ∧ Keeps (fun _ => False) w w1) := ⟨hE, hK⟩; clear hE hK hb)
        | (refine wpList_box9 rfl _ rfl ⟨nm, false, va', vn', vc', st', nd', mt', pk', sz', cr'⟩ rfl ?_; intro b2 w2 hE hK hb; have H2 : Hid (Entb w2 b1 _ ∧ Entb w2 b2 _ ∧ Keeps (fun _ => False) w w2) := ⟨H1.out.1.keptF hK, hE, H1.out.2.trans hK (fun _ _ h => h)⟩; have q0 := H2.out.1.c0; have q1 := H2.out.1.c1; have q2 := H2.out.1.c2; have r0 := H2.out.2.1.c0; have r1 := H2.out.2.1.c1; have r2 := H2.out.2.1.c2; clear hE hK hb))
    go_ret
    exact ⟨by first | rfl | simp_all, H2.out.2.2⟩
  · exact absurd rfl h

set_option maxHeartbeats 4000000 in
set_option maxRecDepth 1000000 in
theorem sameE_cr (w : World) (nm : ByteArray) (gn : Bool) (va : Option Addr) (vn vc : Nat) (st nd mt : Int) (pk : ByteArray) (sz cr : Int) (va' : Option Addr) (vn' vc' : Nat) (cr' : Int) (h : ¬ cr = cr') (HS : Hid (∀ w', Keeps (fun _ => False) w w' → Calls Try.prog 64 #[.slice va vn vc, .slice va' vn' vc'] w' fun r w'' => r = .returned (.bool true) ∧ Keeps (fun _ => False) w' w'')) :
    Calls Try.prog 51 #[.agg #[.string nm, .bool gn, .slice va vn vc, .int .i64 st, .int .i64 nd, .int .i64 mt, .string pk, .int .i64 sz, .int .i64 cr], .agg #[.string nm, .bool gn, .slice va' vn' vc', .int .i64 st, .int .i64 nd, .int .i64 mt, .string pk, .int .i64 sz, .int .i64 cr']] w fun r w' => r = .returned (.bool false) ∧ Keeps (fun _ => False) w w' := by
  have q := beq_no h
  cases gn
  · go_enter Try.func51, Try.ntmps51
    go_wp2_with (first
        | (refine wpList_box9 rfl _ rfl ⟨nm, false, va, vn, vc, st, nd, mt, pk, sz, cr⟩ rfl ?_; (fail_if_success (clear H1)); intro b1 w1 hE hK hb; have H1 : Hid (Entb w1 b1 _ ∧ Keeps (fun _ => False) w w1) := ⟨hE, hK⟩; clear hE hK hb)
        | (refine wpList_box9 rfl _ rfl ⟨nm, false, va', vn', vc', st, nd, mt, pk, sz, cr'⟩ rfl ?_; intro b2 w2 hE hK hb; have H2 : Hid (Entb w2 b1 _ ∧ Entb w2 b2 _ ∧ Keeps (fun _ => False) w w2) := ⟨H1.out.1.keptF hK, hE, H1.out.2.trans hK (fun _ _ h => h)⟩; have q0 := H2.out.1.c0; have q1 := H2.out.1.c1; have q2 := H2.out.1.c2; have r0 := H2.out.2.1.c0; have r1 := H2.out.2.1.c1; have r2 := H2.out.2.1.c2; clear hE hK hb)
        | (go_at_call 64; refine (HS.out w2 H2.out.2.2).mono ?_; rintro r w3 ⟨rfl, h⟩; have H3 : Hid (Entb w3 b1 _ ∧ Entb w3 b2 _ ∧ Keeps (fun _ => False) w w3) := ⟨H2.out.1.keptF h, H2.out.2.1.keptF h, H2.out.2.2.trans h (fun _ _ h => h)⟩; have q3 := H3.out.1.c3; have q4 := H3.out.1.c4; have q5 := H3.out.1.c5; have q6 := H3.out.1.c6; have q7 := H3.out.1.c7; have q8 := H3.out.1.c8; have r3 := H3.out.2.1.c3; have r4 := H3.out.2.1.c4; have r5 := H3.out.2.1.c5; have r6 := H3.out.2.1.c6; have r7 := H3.out.2.1.c7; have r8 := H3.out.2.1.c8; clear h q0 q1 q2 r0 r1 r2))
    go_ret
    exact ⟨by first | rfl | simp_all, H3.out.2.2⟩
  · go_enter Try.func51, Try.ntmps51
    go_wp2_with (first
        | (refine wpList_box9 rfl _ rfl ⟨nm, true, va, vn, vc, st, nd, mt, pk, sz, cr⟩ rfl ?_; (fail_if_success (clear H1)); intro b1 w1 hE hK hb; have H1 : Hid (Entb w1 b1 _ ∧ Keeps (fun _ => False) w w1) := ⟨hE, hK⟩; clear hE hK hb)
        | (refine wpList_box9 rfl _ rfl ⟨nm, true, va', vn', vc', st, nd, mt, pk, sz, cr'⟩ rfl ?_; intro b2 w2 hE hK hb; have H2 : Hid (Entb w2 b1 _ ∧ Entb w2 b2 _ ∧ Keeps (fun _ => False) w w2) := ⟨H1.out.1.keptF hK, hE, H1.out.2.trans hK (fun _ _ h => h)⟩; have q0 := H2.out.1.c0; have q1 := H2.out.1.c1; have q2 := H2.out.1.c2; have r0 := H2.out.2.1.c0; have r1 := H2.out.2.1.c1; have r2 := H2.out.2.1.c2; clear hE hK hb)
        | (go_at_call 64; refine (HS.out w2 H2.out.2.2).mono ?_; rintro r w3 ⟨rfl, h⟩; have H3 : Hid (Entb w3 b1 _ ∧ Entb w3 b2 _ ∧ Keeps (fun _ => False) w w3) := ⟨H2.out.1.keptF h, H2.out.2.1.keptF h, H2.out.2.2.trans h (fun _ _ h => h)⟩; have q3 := H3.out.1.c3; have q4 := H3.out.1.c4; have q5 := H3.out.1.c5; have q6 := H3.out.1.c6; have q7 := H3.out.1.c7; have q8 := H3.out.1.c8; have r3 := H3.out.2.1.c3; have r4 := H3.out.2.1.c4; have r5 := H3.out.2.1.c5; have r6 := H3.out.2.1.c6; have r7 := H3.out.2.1.c7; have r8 := H3.out.2.1.c8; clear h q0 q1 q2 r0 r1 r2))
    go_ret
    exact ⟨by first | rfl | simp_all, H3.out.2.2⟩

end Go.Proofs.Ythlaeeepbkfkgaa

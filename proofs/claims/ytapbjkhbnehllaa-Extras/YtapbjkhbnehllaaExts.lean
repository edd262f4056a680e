/-
  Any entry, any text: the walk of the statement.
-/
import Derived.Test.YtapbjkhbnehllaaRget
import Derived.Test.YtapbjkhbnehllaaXawk
import Derived.Test.YtapbjkhbnehllaaOpen
namespace Go.Proofs.Ytapbjkhbnehllaa
open Go.RowKit
set_option linter.unusedVariables false
set_option linter.unusedSimpArgs false

/-- What is known of an entry that came in. -/
def Cam (w : World) (e : Ent) (ys : List Int) : Prop := e.vn = ys.length ∧ Row w e.va ys ∧ Came e.va ys.length e.vc ∧ ys.length * 8 + 4096 ≤ 140737488355328 ∧ e.nm.size + 4096 ≤ 140737488355328 ∧ e.pk.size + 4096 ≤ 140737488355328
theorem Cam.row {w w' : World} {e : Ent} {ys : List Int} (h : Cam w e ys) (hk : Keeps (fun _ => False) w w') : Row w' e.va ys := h.2.1.keptF hk
theorem Cam.len {w : World} {e : Ent} {ys : List Int} (h : Cam w e ys) : ys.length ≤ 1125899906842624 := by have := h.2.2.2.1; omega
theorem gVec_len (L : List Nat) : (gVec L).length ≤ 4 := by unfold gVec; cases gOk L <;> simp [vecL]

set_option maxHeartbeats 16000000 in
set_option maxRecDepth 1000000 in
theorem exts_main (e : Ent) (ys : List Int) (s : ByteArray) (w : World) (hc : Cam w e ys) (hs : s.size ≤ 140737488355328) :
    Calls Try.prog 3 #[.agg #[.string e.nm, .bool e.gn, .slice e.va e.vn e.vc, .int .i64 e.st, .int .i64 e.nd, .int .i64 e.mt, .string e.pk, .int .i64 e.sz, .int .i64 e.cr], .string s] w fun r w' => r = .returned (.bool true) ∧ Keeps (fun _ => False) w w' := by
  have HC : Hid (∀ w', Keeps (fun _ => False) w w' → Calls Try.prog 8 #[.agg #[.string e.nm, .bool e.gn, .slice e.va e.vn e.vc, .int .i64 e.st, .int .i64 e.nd, .int .i64 e.mt, .string e.pk, .int .i64 e.sz, .int .i64 e.cr]] w' fun r w'' => ∃ va n c, r = .returned (.agg #[.string (e.vec va n c).nm, .bool (e.vec va n c).gn, .slice (e.vec va n c).va (e.vec va n c).vn (e.vec va n c).vc, .int .i64 (e.vec va n c).st, .int .i64 (e.vec va n c).nd, .int .i64 (e.vec va n c).mt, .string (e.vec va n c).pk, .int .i64 (e.vec va n c).sz, .int .i64 (e.vec va n c).cr]) ∧ OwnV w'' w'.heap.size (.slice va n c) ys ∧ n = ys.length ∧ Keeps (fun _ => False) w' w'') := fun w' hk => copyE_ok e ys w' hc.1 (hc.row hk) hc.2.2.1 (by have := hc.2.2.2.1; omega)
  obtain ⟨T, hT⟩ : ∃ T, putT ys e.st e.nd e.gn = T := ⟨_, rfl⟩
  obtain ⟨E1, hE1⟩ : ∃ E1, pErr ys e.st e.nd = E1 := ⟨_, rfl⟩
  have HP : Hid (∀ w' va n c base, OwnV w' base (.slice va n c) ys → n = ys.length → Calls Try.prog 9 #[.agg #[.string (e.vec va n c).nm, .bool (e.vec va n c).gn, .slice (e.vec va n c).va (e.vec va n c).vn (e.vec va n c).vc, .int .i64 (e.vec va n c).st, .int .i64 (e.vec va n c).nd, .int .i64 (e.vec va n c).mt, .string (e.vec va n c).pk, .int .i64 (e.vec va n c).sz, .int .i64 (e.vec va n c).cr]] w' fun r w'' => r = .returned (.tuple #[.string T, .int .i64 E1]) ∧ Keeps (fun _ => False) w' w'') := fun w' va n c base hO hn => by
    obtain ⟨a', c', e', hr, _⟩ := hO.row
    cases e'
    have := put_ok (e.vec va ys.length c) ys w' rfl hr hc.len
    have e1 : putT ys (e.vec va ys.length c).st (e.vec va ys.length c).nd (e.vec va ys.length c).gn = T := hT
    have e2 : pErr ys (e.vec va ys.length c).st (e.vec va ys.length c).nd = E1 := hE1
    rw [e1, e2] at this
    exact this
  have HR : Hid (∀ w', Keeps (fun _ => False) w w' → Calls Try.prog 10 #[.agg #[.string e.nm, .bool e.gn, .slice e.va e.vn e.vc, .int .i64 e.st, .int .i64 e.nd, .int .i64 e.mt, .string e.pk, .int .i64 e.sz, .int .i64 e.cr]] w' fun r w'' => r = .returned (.tuple #[.string T, .int .i64 E1]) ∧ Keeps (fun _ => False) w' w'') := fun w' hk => by
    have := rput_ok e ys w' hc.1 (hc.row hk) hc.len
    rw [hT, hE1] at this; exact this
  obtain ⟨V, hV⟩ : ∃ V, gVec (bytesOf s) = V := ⟨_, rfl⟩
  have HVL : Hid (V.length ≤ 4) := by show V.length ≤ 4; rw [← hV]; exact gVec_len _
  obtain ⟨gn, hgn⟩ : ∃ x, gGn (bytesOf s) = x := ⟨_, rfl⟩
  obtain ⟨st, hst⟩ : ∃ x, gSt (bytesOf s) = x := ⟨_, rfl⟩
  obtain ⟨nd, hnd⟩ : ∃ x, gNd (bytesOf s) = x := ⟨_, rfl⟩
  obtain ⟨E2, hE2⟩ : ∃ x, gErr (bytesOf s) = x := ⟨_, rfl⟩
  have HG : Hid (∀ w', Calls Try.prog 11 #[.string s] w' fun r w'' => ∃ a n c, r = .returned (.tuple #[.agg #[.string (Ent.gotten a n c gn st nd).nm, .bool (Ent.gotten a n c gn st nd).gn, .slice (Ent.gotten a n c gn st nd).va (Ent.gotten a n c gn st nd).vn (Ent.gotten a n c gn st nd).vc, .int .i64 (Ent.gotten a n c gn st nd).st, .int .i64 (Ent.gotten a n c gn st nd).nd, .int .i64 (Ent.gotten a n c gn st nd).mt, .string (Ent.gotten a n c gn st nd).pk, .int .i64 (Ent.gotten a n c gn st nd).sz, .int .i64 (Ent.gotten a n c gn st nd).cr], .int .i64 E2]) ∧ OwnV w'' w'.heap.size (.slice a n c) V ∧ n = V.length ∧ Keeps (fun _ => False) w' w'') := fun w' => by
    have := get_ok s w' hs
    rw [hV, hgn, hst, hnd, hE2] at this; exact this
  have HD : Hid (∀ w', Calls Try.prog 12 #[.string s] w' fun r w'' => ∃ a n c, r = .returned (.tuple #[.agg #[.string (Ent.gotten a n c gn st nd).nm, .bool (Ent.gotten a n c gn st nd).gn, .slice (Ent.gotten a n c gn st nd).va (Ent.gotten a n c gn st nd).vn (Ent.gotten a n c gn st nd).vc, .int .i64 (Ent.gotten a n c gn st nd).st, .int .i64 (Ent.gotten a n c gn st nd).nd, .int .i64 (Ent.gotten a n c gn st nd).mt, .string (Ent.gotten a n c gn st nd).pk, .int .i64 (Ent.gotten a n c gn st nd).sz, .int .i64 (Ent.gotten a n c gn st nd).cr], .int .i64 E2]) ∧ OwnV w'' w'.heap.size (.slice a n c) V ∧ n = V.length ∧ Keeps (fun _ => False) w' w'') := fun w' => by
    have := rget_ok s w' hs
    rw [hV, hgn, hst, hnd, hE2] at this; exact this
  have HS : Hid (∀ w' a n c a' n' c' base base', OwnV w' base (.slice a n c) V → OwnV w' base' (.slice a' n' c') V → Calls Try.prog 14 #[.agg #[.string (Ent.gotten a n c gn st nd).nm, .bool (Ent.gotten a n c gn st nd).gn, .slice (Ent.gotten a n c gn st nd).va (Ent.gotten a n c gn st nd).vn (Ent.gotten a n c gn st nd).vc, .int .i64 (Ent.gotten a n c gn st nd).st, .int .i64 (Ent.gotten a n c gn st nd).nd, .int .i64 (Ent.gotten a n c gn st nd).mt, .string (Ent.gotten a n c gn st nd).pk, .int .i64 (Ent.gotten a n c gn st nd).sz, .int .i64 (Ent.gotten a n c gn st nd).cr], .agg #[.string (Ent.gotten a' n' c' gn st nd).nm, .bool (Ent.gotten a' n' c' gn st nd).gn, .slice (Ent.gotten a' n' c' gn st nd).va (Ent.gotten a' n' c' gn st nd).vn (Ent.gotten a' n' c' gn st nd).vc, .int .i64 (Ent.gotten a' n' c' gn st nd).st, .int .i64 (Ent.gotten a' n' c' gn st nd).nd, .int .i64 (Ent.gotten a' n' c' gn st nd).mt, .string (Ent.gotten a' n' c' gn st nd).pk, .int .i64 (Ent.gotten a' n' c' gn st nd).sz, .int .i64 (Ent.gotten a' n' c' gn st nd).cr]] w' fun r w'' => r = .returned (.bool true) ∧ Keeps (fun _ => False) w' w'') := fun w' a n c a' n' c' base base' h h' => by
    obtain ⟨x, y, q, hr, _⟩ := h.row
    cases q
    obtain ⟨x', y', q', hr', _⟩ := h'.row
    cases q'
    exact sameE_yes (Ent.gotten a V.length c gn st nd) (Ent.gotten a' V.length c' gn st nd) V w' rfl rfl rfl hr hr' (by have := HVL.out; omega)
  have HX : Hid (∀ w' a n c base, Row w' e.va ys → OwnV w' base (.slice a n c) ys → Calls Try.prog 14 #[.agg #[.string (e.vec a n c).nm, .bool (e.vec a n c).gn, .slice (e.vec a n c).va (e.vec a n c).vn (e.vec a n c).vc, .int .i64 (e.vec a n c).st, .int .i64 (e.vec a n c).nd, .int .i64 (e.vec a n c).mt, .string (e.vec a n c).pk, .int .i64 (e.vec a n c).sz, .int .i64 (e.vec a n c).cr], .agg #[.string e.nm, .bool e.gn, .slice e.va e.vn e.vc, .int .i64 e.st, .int .i64 e.nd, .int .i64 e.mt, .string e.pk, .int .i64 e.sz, .int .i64 e.cr]] w' fun r w'' => r = .returned (.bool true) ∧ Keeps (fun _ => False) w' w'') := fun w' a n c base hr h => by
    obtain ⟨x, y, q, hr', _⟩ := h.row
    cases q
    exact sameE_yes (e.vec a ys.length c) e ys w' rfl rfl hc.1 hr' hr hc.len
  have HW : Hid (Row w e.va ys) := hc.2.1
  have HSP : Hid (∀ w' a n c base, base ≤ w'.heap.size → OwnV w' base (.slice a n c) V → Calls Try.prog 15 #[.agg #[.string (Ent.gotten a n c gn st nd).nm, .bool (Ent.gotten a n c gn st nd).gn, .slice (Ent.gotten a n c gn st nd).va (Ent.gotten a n c gn st nd).vn (Ent.gotten a n c gn st nd).vc, .int .i64 (Ent.gotten a n c gn st nd).st, .int .i64 (Ent.gotten a n c gn st nd).nd, .int .i64 (Ent.gotten a n c gn st nd).mt, .string (Ent.gotten a n c gn st nd).pk, .int .i64 (Ent.gotten a n c gn st nd).sz, .int .i64 (Ent.gotten a n c gn st nd).cr]] w' fun r w'' => r = .returned (.tuple #[]) ∧ Keeps (fun b => base ≤ b) w' w'') := fun w' a n c base hb h => spoilE_ok base (Ent.gotten a n c gn st nd) V w' hb h (by have := HVL.out; omega)
  have hTT : (T.toList == T.toList) = true := by simp
  have hTT2 : (T.toList != T.toList) = false := by simp
  clear hc hs hT hE1 hV hgn hst hnd hE2
  go_enter Try.func3, Try.ntmps3
  go_wp2_with (first
    | (refine wpList_box9 rfl _ rfl e rfl ?_; intro b1 w1 hE hK hb; have A1 : Hid (Entb w1 b1 e ∧ Keeps (fun _ => False) w w1) := ⟨hE, hK⟩; clear hE hK hb)
    | (refine wpList_load9 rfl _ rfl b1 0 rfl e ?hA ?_; (fail_if_success (clear A2)); (case hA => exact A1.out.1.at))
    | (go_at_call 8; refine (HC.out w1 A1.out.2).mono ?_; rintro r w2 ⟨va, vn, vc, rfl, ho, hn, h⟩; have A2 : Hid (Entb w2 b1 e ∧ Keeps (fun _ => False) w w2 ∧ OwnV w2 w1.heap.size (.slice va vn vc) ys ∧ vn = ys.length ∧ w1.heap.size ≤ w2.heap.size) := ⟨A1.out.1.keptF h, A1.out.2.tr h, ho, hn, h.size⟩; clear h ho hn)
    | (refine wpList_alloc9 rfl rfl ?_; (fail_if_success (clear A3)); intro b3 w3 hE hK hb; have A3 : Hid (Entb w3 b1 e ∧ Keeps (fun _ => False) w w3 ∧ OwnV w3 w1.heap.size (.slice va vn vc) ys ∧ Entb w3 b3 Ent.zero ∧ w2.heap.size ≤ b3) := ⟨A2.out.1.keptF hK, A2.out.2.1.tr hK, A2.out.2.2.1.keptF hK, hE, hb⟩; clear hE hK hb)
    | (refine wpList_store9 rfl _ _ rfl b3 (e.vec va vn vc) rfl rfl Ent.zero ?hA ?_; (fail_if_success (clear A4)); (case hA => exact A3.out.2.2.2.1); intro w4 hE hK; have A4 : Hid (Entb w4 b1 e ∧ Keeps (fun _ => False) w w4 ∧ OwnV w4 w1.heap.size (.slice va vn vc) ys ∧ Entb w4 b3 (e.vec va vn vc)) := ⟨A3.out.1.kept hK (by have := A2.out.1.lt; have := A3.out.2.2.2.2; omega), A3.out.2.1.trans hK (fun i hi h => by have := A2.out.2.1.size; have := A3.out.2.2.2.2; omega), A3.out.2.2.1.kept hK (fun k hk q => by have := A2.out.2.2.1.lo k hk; have := A3.out.2.2.2.2; omega), hE⟩; clear hE hK)
    | (refine wpList_load9 rfl _ rfl b3 0 rfl (e.vec va vn vc) ?hA ?_; (fail_if_success (clear A5)); (case hA => exact A4.out.2.2.2.at))
    | (go_at_call 9; (fail_if_success (clear A5)); refine (HP.out w4 va vn vc w1.heap.size A4.out.2.2.1 A2.out.2.2.2.1).mono ?_; rintro r w5 ⟨rfl, h⟩; have A5 : Hid (Entb w5 b1 e ∧ Keeps (fun _ => False) w w5 ∧ OwnV w5 w1.heap.size (.slice va vn vc) ys ∧ Entb w5 b3 (e.vec va vn vc)) := ⟨A4.out.1.keptF h, A4.out.2.1.tr h, A4.out.2.2.1.keptF h, A4.out.2.2.2.keptF h⟩; clear h)
    | (refine wpList_load9 rfl _ rfl b1 0 rfl e ?hA ?_; (fail_if_success (clear A6)); (case hA => exact A5.out.1.at))
    | (go_at_call 10; refine (HR.out w5 A5.out.2.1).mono ?_; rintro r w6 ⟨rfl, h⟩; have A6 : Hid (Entb w6 b1 e ∧ Keeps (fun _ => False) w w6 ∧ OwnV w6 w1.heap.size (.slice va vn vc) ys ∧ Entb w6 b3 (e.vec va vn vc)) := ⟨A5.out.1.keptF h, A5.out.2.1.tr h, A5.out.2.2.1.keptF h, A5.out.2.2.2.keptF h⟩; clear h)
    | (go_at_call 11; refine (HG.out w6).mono ?_; rintro r w7 ⟨ca, cn, cc, rfl, ho, hn, h⟩; have A7 : Hid (Entb w7 b1 e ∧ Keeps (fun _ => False) w w7 ∧ OwnV w7 w1.heap.size (.slice va vn vc) ys ∧ Entb w7 b3 (e.vec va vn vc) ∧ OwnV w7 w6.heap.size (.slice ca cn cc) V ∧ w6.heap.size ≤ w7.heap.size) := ⟨A6.out.1.keptF h, A6.out.2.1.tr h, A6.out.2.2.1.keptF h, A6.out.2.2.2.keptF h, ho, h.size⟩; clear h ho hn)
    | (refine wpList_alloc9 rfl rfl ?_; (fail_if_success (clear A8)); intro b8 w8 hE hK hb; have A8 : Hid (Entb w8 b1 e ∧ Keeps (fun _ => False) w w8 ∧ OwnV w8 w1.heap.size (.slice va vn vc) ys ∧ Entb w8 b3 (e.vec va vn vc) ∧ OwnV w8 w6.heap.size (.slice ca cn cc) V ∧ Entb w8 b8 Ent.zero ∧ w7.heap.size ≤ b8) := ⟨A7.out.1.keptF hK, A7.out.2.1.tr hK, A7.out.2.2.1.keptF hK, A7.out.2.2.2.1.keptF hK, A7.out.2.2.2.2.1.keptF hK, hE, hb⟩; clear hE hK hb)
    | (refine wpList_store9 rfl _ _ rfl b8 (Ent.gotten ca cn cc gn st nd) rfl rfl Ent.zero ?hA ?_; (fail_if_success (clear A9)); (case hA => exact A8.out.2.2.2.2.2.1); intro w9 hE hK; have A9 : Hid (Entb w9 b1 e ∧ Keeps (fun _ => False) w w9 ∧ OwnV w9 w1.heap.size (.slice va vn vc) ys ∧ Entb w9 b3 (e.vec va vn vc) ∧ OwnV w9 w6.heap.size (.slice ca cn cc) V ∧ Entb w9 b8 (Ent.gotten ca cn cc gn st nd)) := ⟨A8.out.1.kept hK (by have := A7.out.1.lt; have := A8.out.2.2.2.2.2.2; omega), A8.out.2.1.trans hK (fun i hi h => by have := A7.out.2.1.size; have := A8.out.2.2.2.2.2.2; omega), A8.out.2.2.1.kept hK (fun k hk q => by have := A7.out.2.2.1.lo k hk; have := A8.out.2.2.2.2.2.2; omega), A8.out.2.2.2.1.kept hK (by have := A7.out.2.2.2.1.lt; have := A8.out.2.2.2.2.2.2; omega), A8.out.2.2.2.2.1.kept hK (fun k hk q => by have := A7.out.2.2.2.2.1.lo k hk; have := A8.out.2.2.2.2.2.2; omega), hE⟩; clear hE hK)
    | (go_at_call 12; refine (HD.out w9).mono ?_; rintro r w10 ⟨da, dn, dc, rfl, ho, hn, h⟩; have A10 : Hid (Entb w10 b1 e ∧ Keeps (fun _ => False) w w10 ∧ OwnV w10 w1.heap.size (.slice va vn vc) ys ∧ Entb w10 b3 (e.vec va vn vc) ∧ OwnV w10 w6.heap.size (.slice ca cn cc) V ∧ Entb w10 b8 (Ent.gotten ca cn cc gn st nd) ∧ OwnV w10 w9.heap.size (.slice da dn dc) V) := ⟨A9.out.1.keptF h, A9.out.2.1.tr h, A9.out.2.2.1.keptF h, A9.out.2.2.2.1.keptF h, A9.out.2.2.2.2.1.keptF h, A9.out.2.2.2.2.2.keptF h, ho⟩; clear h ho hn)
    | (refine wpList_alloc9 rfl rfl ?_; (fail_if_success (clear A11)); intro b11 w11 hE hK hb; have A11 : Hid (Entb w11 b1 e ∧ Keeps (fun _ => False) w w11 ∧ OwnV w11 w1.heap.size (.slice va vn vc) ys ∧ Entb w11 b3 (e.vec va vn vc) ∧ OwnV w11 w6.heap.size (.slice ca cn cc) V ∧ Entb w11 b8 (Ent.gotten ca cn cc gn st nd) ∧ OwnV w11 w9.heap.size (.slice da dn dc) V ∧ Entb w11 b11 Ent.zero ∧ w10.heap.size ≤ b11) := ⟨A10.out.1.keptF hK, A10.out.2.1.tr hK, A10.out.2.2.1.keptF hK, A10.out.2.2.2.1.keptF hK, A10.out.2.2.2.2.1.keptF hK, A10.out.2.2.2.2.2.1.keptF hK, A10.out.2.2.2.2.2.2.keptF hK, hE, hb⟩; clear hE hK hb)
    | (refine wpList_store9 rfl _ _ rfl b11 (Ent.gotten da dn dc gn st nd) rfl rfl Ent.zero ?hA ?_; (fail_if_success (clear A12)); (case hA => exact A11.out.2.2.2.2.2.2.2.1); intro w12 hE hK; have A12 : Hid (Entb w12 b1 e ∧ Keeps (fun _ => False) w w12 ∧ OwnV w12 w1.heap.size (.slice va vn vc) ys ∧ Entb w12 b3 (e.vec va vn vc) ∧ OwnV w12 w6.heap.size (.slice ca cn cc) V ∧ Entb w12 b8 (Ent.gotten ca cn cc gn st nd) ∧ OwnV w12 w9.heap.size (.slice da dn dc) V ∧ Entb w12 b11 (Ent.gotten da dn dc gn st nd)) := ⟨A11.out.1.kept hK (by have := A10.out.1.lt; have := A11.out.2.2.2.2.2.2.2.2; omega), A11.out.2.1.trans hK (fun i hi h => by have := A10.out.2.1.size; have := A11.out.2.2.2.2.2.2.2.2; omega), A11.out.2.2.1.kept hK (fun k hk q => by have := A10.out.2.2.1.lo k hk; have := A11.out.2.2.2.2.2.2.2.2; omega), A11.out.2.2.2.1.kept hK (by have := A10.out.2.2.2.1.lt; have := A11.out.2.2.2.2.2.2.2.2; omega), A11.out.2.2.2.2.1.kept hK (fun k hk q => by have := A10.out.2.2.2.2.1.lo k hk; have := A11.out.2.2.2.2.2.2.2.2; omega), A11.out.2.2.2.2.2.1.kept hK (by have := A10.out.2.2.2.2.2.1.lt; have := A11.out.2.2.2.2.2.2.2.2; omega), A11.out.2.2.2.2.2.2.1.kept hK (fun k hk q => by have := A10.out.2.2.2.2.2.2.lo k hk; have := A11.out.2.2.2.2.2.2.2.2; omega), hE⟩; clear hE hK)
    | (go_at_call 13; refine (num_any _ _).mono ?_; rintro e' w' ⟨rfl, hw⟩; obtain rfl := hw.symm; clear hw)
    | (refine wpList_load9w _ rfl b8 0 rfl rfl (Ent.gotten ca cn cc gn st nd) ?hA ?_; (fail_if_success (clear A13)); (case hA => exact A12.out.2.2.2.2.2.1.at))
    | (refine wpList_load9w _ rfl b11 0 rfl rfl (Ent.gotten da dn dc gn st nd) ?hA ?_; (fail_if_success (clear A13)); (case hA => exact A12.out.2.2.2.2.2.2.2.at))
    | (go_at_call 14; (fail_if_success (clear A13)); refine (HS.out w12 ca cn cc da dn dc _ _ A12.out.2.2.2.2.1 A12.out.2.2.2.2.2.2.1).mono ?_; rintro r w13 ⟨rfl, h⟩; have A13 : Hid (Entb w13 b1 e ∧ Keeps (fun _ => False) w w13 ∧ OwnV w13 w1.heap.size (.slice va vn vc) ys ∧ Entb w13 b3 (e.vec va vn vc) ∧ OwnV w13 w6.heap.size (.slice ca cn cc) V ∧ Entb w13 b8 (Ent.gotten ca cn cc gn st nd)) := ⟨A12.out.1.keptF h, A12.out.2.1.tr h, A12.out.2.2.1.keptF h, A12.out.2.2.2.1.keptF h, A12.out.2.2.2.2.1.keptF h, A12.out.2.2.2.2.2.1.keptF h⟩; have hsz13 : Hid (w6.heap.size ≤ w13.heap.size) := (by have h1 := (A12.out.2.2.2.2.2.1.keptF h).lt; have h2 := A8.out.2.2.2.2.2.2; have h3 := A7.out.2.2.2.2.2; omega : w6.heap.size ≤ w13.heap.size); clear h)
    | (refine wpList_load9 rfl _ rfl b8 0 rfl (Ent.gotten ca cn cc gn st nd) ?hA ?_; (fail_if_success (clear A14)); (case hA => exact A13.out.2.2.2.2.2.at))
    | (go_at_call 15; refine (HSP.out w13 ca cn cc w6.heap.size hsz13.out A13.out.2.2.2.2.1).mono ?_; rintro r w14 ⟨rfl, h⟩; have A14 : Hid (Entb w14 b1 e ∧ Keeps (fun _ => False) w w14 ∧ OwnV w14 w1.heap.size (.slice va vn vc) ys ∧ Entb w14 b3 (e.vec va vn vc)) := ⟨A13.out.1.kept h (by have := A6.out.1.lt; omega), A13.out.2.1.trans h (fun i hi q => by have := A6.out.2.1.size; omega), A13.out.2.2.1.kept h (fun k hk q => by have := A6.out.2.2.1.lo k hk; omega), A13.out.2.2.2.1.kept h (by have := A6.out.2.2.2.lt; omega)⟩; clear h)
    | (refine wpList_load9 rfl _ rfl b3 0 rfl (e.vec va vn vc) ?hA ?_; (case hA => exact A14.out.2.2.2.at))
    | (refine wpList_load9 rfl _ rfl b1 0 rfl e ?hA ?_; (case hA => exact A14.out.1.at))
    | (go_at_call 14; refine (HX.out w14 va vn vc _ (HW.out.keptF A14.out.2.1) A14.out.2.2.1).mono ?_; rintro r w15 ⟨rfl, h⟩; have A15 : Hid (Keeps (fun _ => False) w w15) := A14.out.2.1.tr h; clear h)
    | (go_at_call 16; refine (awake_ok w15).mono ?_; rintro r w16 ⟨rfl, h⟩; have A16 : Hid (Keeps (fun _ => False) w w16) := A15.out.tr h; clear h))
  go_ret
  exact ⟨rfl, A16.out⟩

theorem exts_walk (e : Ent) (ys : List Int) (s : ByteArray) (w : World) (hc : Cam w e ys) (hs : s.size ≤ 140737488355328) :
    Calls Try.prog 3 #[.agg #[.string e.nm, .bool e.gn, .slice e.va e.vn e.vc, .int .i64 e.st, .int .i64 e.nd, .int .i64 e.mt, .string e.pk, .int .i64 e.sz, .int .i64 e.cr], .string s] w fun r w' => r = .returned (.bool true) ∧ Below w.heap.size w w' :=
  (exts_main e ys s w hc hs).mono (fun r w' h => ⟨h.1, h.2.below _ (Nat.le_refl _) (fun _ h => h.elim)⟩)

end Go.Proofs.Ytapbjkhbnehllaa

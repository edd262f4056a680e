/-
  UnzipForms: texts that are no archive; the walk of the statement.
-/
import Derived.Test.YthlaeeepbkfkgaaGbk
import Derived.BigRegion
namespace Go.Proofs.Ythlaeeepbkfkgaa
open Go.RowKit
set_option linter.unusedVariables false
set_option linter.unusedSimpArgs false

theorem none_short {B : ByteArray} (h : B.size < 22) : GetNo B := fun w' => zget_bad _ (fun fs hf he => by
  have := congrArg List.length he
  rw [bytesOf_length, zipL_len (writeB_held hf)] at this
  omega) w'
/-- What is taken of a text tells its length. -/
theorem none_taken {B : ByteArray} {es : List It} (ht : tkF 6 (bytesOf B) = dats es) (hl : (zipL es).length ≠ B.size) : GetNo B := fun w' => zget_bad _ (fun fs hf he => by
  have h := tkF_zip hf []
  rw [List.append_nil, ← he, ht] at h
  have := congrArg List.length he
  rw [bytesOf_length, ← zipL_dats h] at this
  exact hl this.symm) w'
theorem none_bare {B : ByteArray} (hm : markB (bytesOf B) = false) (hl : B.size ≠ 22) : GetNo B :=
  none_taken (es := []) (by rw [tkF, hm, cond_false]; rfl) (by show 22 ≠ _; omega)
theorem none_twice {B : ByteArray} {es : List It} (ht : tkF 6 (bytesOf B) = dats es) (hw : writeB es = false) : GetNo B := fun w' => zget_bad _ (fun fs hf he => by
  have h := tkF_zip hf []
  rw [List.append_nil, ← he, ht] at h
  rw [← write_dats h, hw] at hf
  cases hf) w'
/-- The texts of the statement. -/
def badB (T : ByteArray) : List ByteArray := [⟨#[]⟩, ⟨#[80]⟩, ⟨#[80, 75, 5, 6]⟩, zipT [] ++ zipT [], T ++ zipT [], zipT [] ++ T, T.extract 0 59, T.extract 0 59 ++ T.extract 0 59 ++ T.extract 59 154, T.extract 0 59 ++ zipT [], T.extract 59 154, T.extract 0 153, ⟨#[0]⟩ ++ T, T.extract 0 132, (zipT []).extract 0 21 ++ ⟨#[1]⟩]
theorem bad_none {x1 : It} (h : heldB x1 = true) (hn : x1.1.nm = ⟨#[97]⟩) (hp : x1.1.pk.size = 2) : ∀ B ∈ badB (zipT [x1]), GetNo B := by
  have hw := w_alone h hn
  have s1 : x1.1.nm.size = 1 := by rw [hn]; rfl
  have hl : (zipL [x1]).length = 154 := by
    rw [zipL_len (writeB_held hw)]; simp [nmsum, pksum, s1, hp]
  have hs : (zipT [x1]).size = 154 := by rw [zip_size hw]; exact hl
  have hb := zip_bytes hw
  have e0 : (zipT []).size = 22 := by rw [zip_size w_nil]; rfl
  have f1 : firsts [x1] = firstL x1 := by simp [firsts]
  have fl : (firstL x1).length = 59 := by rw [firstL_len h]; omega
  have hz : zipL [x1] = firstL x1 ++ (seconds 0 [x1] ++ endL 1 (seconds 0 [x1]).length (firsts [x1]).length) := by rw [zipL, f1]; rfl
  have bF : bytesOf ((zipT [x1]).extract 0 59) = firstL x1 := by
    rw [bytesOf_extract, hb, List.drop_zero, hz, ← fl, List.take_left]
  have bR : bytesOf ((zipT [x1]).extract 59 154) = seconds 0 [x1] ++ endL 1 (seconds 0 [x1]).length (firsts [x1]).length := by
    rw [bytesOf_extract, hb, List.take_of_length_le (by omega), hz, ← fl, List.drop_left]
  have mR : ∀ X, markB (seconds 0 [x1] ++ (endL 1 (seconds 0 [x1]).length (firsts [x1]).length ++ X)) = false := mark_rest [x1] _ _ _
  have mR0 := mR []
  rw [List.append_nil] at mR0
  have sF : ((zipT [x1]).extract 0 59).size = 59 := by rw [ByteArray.size_extract]; omega
  have sR : ((zipT [x1]).extract 59 154).size = 95 := by rw [ByteArray.size_extract]; omega
  have hh : ∀ x ∈ [x1], heldB x = true := writeB_held hw
  intro B hB
  simp only [badB, List.mem_cons, List.not_mem_nil, or_false] at hB
  rcases hB with rfl | rfl | rfl | rfl | rfl | rfl | rfl | rfl | rfl | rfl | rfl | rfl | rfl | rfl
  · exact none_short (by decide)
  · exact none_short (by decide)
  · exact none_short (by decide)
  · exact fun w' => zget_bad _ (more_none w_nil _ (by rw [e0]; decide)) w'
  · exact fun w' => zget_bad _ (more_none hw _ (by rw [e0]; decide)) w'
  · exact fun w' => zget_bad _ (more_none w_nil _ (by rw [hs]; decide)) w'
  · exact cut_no hw 59 (by rw [hs]; decide)
  · have hw2 : writeB [x1, x1] = false := by
      simp only [writeB, risesB, leT_refl, Bool.not_true, Bool.false_and, Bool.and_false]
    refine none_twice (es := [x1, x1]) ?_ hw2
    have e : bytesOf ((zipT [x1]).extract 0 59 ++ (zipT [x1]).extract 0 59 ++ (zipT [x1]).extract 59 154) = firsts [x1, x1] ++ (seconds 0 [x1] ++ endL 1 (seconds 0 [x1]).length (firsts [x1]).length) := by
      rw [bytesOf_append, bytesOf_append, bF, bR]; simp only [firsts, List.append_nil, List.append_assoc]
    rw [e]
    exact tkF_first 6 [x1, x1] _ (fun x hx => by simp at hx; rw [hx]; exact h) (by show 2 ≤ 6; decide) (.inr mR0)
  · refine none_taken (es := [x1]) ?_ (by rw [hl, ByteArray.size_append, sF, e0]; decide)
    rw [bytesOf_append, bF, zip_bytes w_nil, ← f1]
    exact tkF_first 6 [x1] _ hh (by show 1 ≤ 6; decide) (.inr rfl)
  · exact none_bare (by rw [bR]; exact mR0) (by rw [sR]; decide)
  · exact cut_no hw 153 (by rw [hs]; decide)
  · refine none_bare ?_ (by rw [ByteArray.size_append, hs]; decide)
    rw [bytesOf_append]
    rfl
  · exact cut_no hw 132 (by rw [hs]; decide)
  · refine fun w' => zget_bad _ (fun fs hf he => ?_) w'
    have q : bytesOf ((zipT []).extract 0 21 ++ ⟨#[1]⟩) = [80, 75, 5, 6, 0, 0, 0, 0, 0, 0, 0, 0, 0, 0, 0, 0, 0, 0, 0, 0, 0, 1] := by rw [z_nil]; decide
    rw [q] at he
    have h1 := tkF_zip hf []
    rw [List.append_nil, ← he] at h1
    have h2 : dats fs = dats [] := h1.symm.trans rfl
    rw [zipL_dats h2] at he
    revert he
    decide

/-- What is known of the statement's entry, of its archive T and of the empty one. -/
theorem forms_facts (e : Ent) (w1 : World) (h1 : heldB (e, [1, 0, 0, 0]) = true) (h2 : e.nm = ⟨#[97]⟩) (h3 : e.pk.size = 2) (hr : e.vn = ([1, 0, 0, 0] : List Int).length ∧ Row w1 e.va [1, 0, 0, 0]) :
    ∃ T : ByteArray, T.size = 154 ∧ (∀ w', Keeps (fun _ => False) (w1.alloc (.cells #[.string e.nm, .bool e.gn, .slice e.va e.vn e.vc, .int .i64 e.st, .int .i64 e.nd, .int .i64 e.mt, .string e.pk, .int .i64 e.sz, .int .i64 e.cr] 46)) w' → Calls Try.prog 9 #[.agg #[.slice (some ⟨w1.heap.size, 0, none⟩) 1 1]] w' fun r w'' => r = .returned (.tuple #[.string T, .int .i64 0]) ∧ Keeps (fun _ => False) w' w'') ∧ ∀ B ∈ badB T, GetNo B := by
  have hw := w_alone h1 h2
  refine ⟨zipT [(e, [1, 0, 0, 0])], ?_, fun w' hk => ?_, bad_none h1 h2 h3⟩
  · rw [zip_size hw, zipL_len (writeB_held hw)]
    have s1 : e.nm.size = 1 := by rw [h2]; rfl
    simp [nmsum, pksum, s1, h3]
  · have := wput_ok (some ⟨w1.heap.size, 0, none⟩) 1 [(e, [1, 0, 0, 0])] w' (one_fol w1 (e, [1, 0, 0, 0]) hr w' hk) (write_fit hw)
    rw [show zErr [(e, [1, 0, 0, 0])] = 0 by rw [zErr, hw]; rfl] at this; exact this
theorem nil_put (w' : World) : Calls Try.prog 9 #[.agg #[.slice none 0 0]] w' fun r w'' => r = .returned (.tuple #[.string (zipT []), .int .i64 0]) ∧ Keeps (fun _ => False) w' w'' :=
  wput_ok none 0 [] w' (.inl rfl) (by simp)

set_option maxHeartbeats 8000000 in
set_option maxRecDepth 1000000 in
theorem forms_main (which : Int) (w : World) :
    Calls Try.prog 7 #[.int .i64 which] w fun r w' => r = .returned (.bool true) ∧ Keeps (fun _ => False) w w' := by
  obtain ⟨k, hk, HK1, HK2, hkw⟩ := u64_mod8 which 14 (by decide) (by decide)
  have HK3 : (IntKind.u64.wrap which).tmod 14 = (k : Int) := by rw [← HK1]; rfl
  have HK4 : IntKind.u64.wrap which % 14 = (k : Int) := by rw [← HK2]; rfl
  have hkz : (k : Int) < 14 := by omega
  have hk0 : (0 : Int) ≤ (k : Int) := by omega
  clear HK1 HK2
  have HKK : Hid (k < 14) := hk
  have HS1 : Hid (∀ w1, Calls Try.prog 22 #[.string ⟨#[97]⟩, .int .i64 0, .int .i64 1, .string ⟨#[104, 105]⟩] w1 fun r w' => ∃ e, r = .returned (.agg #[.string e.nm, .bool e.gn, .slice e.va e.vn e.vc, .int .i64 e.st, .int .i64 e.nd, .int .i64 e.mt, .string e.pk, .int .i64 e.sz, .int .i64 e.cr]) ∧ heldB (e, [1, 0, 0, 0]) = true ∧ e.nm = ⟨#[97]⟩ ∧ e.pk.size = 2 ∧ (e.vn = ([1, 0, 0, 0] : List Int).length ∧ Row w' e.va [1, 0, 0, 0]) ∧ Keeps (fun _ => False) w1 w') := fun w1 => by
    refine (sm14_ok 97 0 1 ⟨#[104, 105]⟩ w1 (by decide) (by decide) a14 (by decide)).mono ?_
    rintro r w' ⟨e, rfl, h1, h2, h3, h4⟩
    simp only [dat, Prod.mk.injEq] at h2
    exact ⟨e, rfl, h1, h2.1, by rw [h2.2.2.2.2.2.2.1]; rfl, h3, h4⟩
  have e0 : (zipT []).size = 22 := by rw [zip_size w_nil]; rfl
  have HN0 : Hid (∀ w', Calls Try.prog 9 #[.agg #[.slice none 0 0]] w' fun r w'' => r = .returned (.tuple #[.string (zipT []), .int .i64 0]) ∧ Keeps (fun _ => False) w' w'') := nil_put
  obtain ⟨E0, hE0⟩ : ∃ E0, zipT [] = E0 := ⟨_, rfl⟩
  have HFF : Hid (∀ (e : Ent) (w1 : World), heldB (e, [1, 0, 0, 0]) = true → e.nm = ⟨#[97]⟩ → e.pk.size = 2 → (e.vn = ([1, 0, 0, 0] : List Int).length ∧ Row w1 e.va [1, 0, 0, 0]) →
    ∃ T F R C1 C2 E21 : ByteArray, T.size = 154 ∧ F.size = 59 ∧ R.size = 95 ∧ E21.size = 21 ∧ T.extract 0 59 = F ∧ T.extract 59 154 = R ∧ T.extract 0 153 = C1 ∧ T.extract 0 132 = C2 ∧ E0.extract 0 21 = E21 ∧ (∀ w', Keeps (fun _ => False) (w1.alloc (.cells #[.string e.nm, .bool e.gn, .slice e.va e.vn e.vc, .int .i64 e.st, .int .i64 e.nd, .int .i64 e.mt, .string e.pk, .int .i64 e.sz, .int .i64 e.cr] 46)) w' → Calls Try.prog 9 #[.agg #[.slice (some ⟨w1.heap.size, 0, none⟩) 1 1]] w' fun r w'' => r = .returned (.tuple #[.string T, .int .i64 0]) ∧ Keeps (fun _ => False) w' w'') ∧
      ∀ B ∈ ([⟨#[]⟩, ⟨#[80]⟩, ⟨#[80, 75, 5, 6]⟩, E0 ++ E0, T ++ E0, E0 ++ T, F, F ++ F ++ R, F ++ E0, R, C1, ⟨#[0]⟩ ++ T, C2, E21 ++ ⟨#[1]⟩] : List ByteArray), GetNo B) := fun e w1 h1 h2 h3 h4 => by
    obtain ⟨T, t1, t2, t3⟩ := forms_facts e w1 h1 h2 h3 h4
    refine ⟨T, _, _, _, _, _, t1, ?_, ?_, ?_, rfl, rfl, rfl, rfl, rfl, t2, fun B hB => t3 B ?_⟩
    · rw [ByteArray.size_extract]; omega
    · rw [ByteArray.size_extract]; omega
    · rw [← hE0, ByteArray.size_extract]; omega
    · rw [badB, hE0]; exact hB
  rw [hE0] at HN0 e0
  have HE0 : Hid (E0.size = 22) := e0
  have e0b : ((E0.size : Int) != 22) = false := by rw [e0]; rfl
  have e0z : (21 : Int) ≤ (E0.size : Int) := by omega
  clear hE0 hk e0
  go_enter Try.func7, Try.ntmps7
  go_wp2_with (first
    | (go_at_call 21; refine (awake14_ok _).mono ?_; rintro r w0 ⟨rfl, h⟩; have A0 : Hid (Keeps (fun _ => False) w w0) := h; clear h)
    | (go_at_call 22; refine (HS1.out w0).mono ?_; rintro r w1 ⟨e1, rfl, h1, h2, h3, h4, h5⟩; obtain ⟨T, F, R, C1, C2, E21, t1, t2, t3, t4, t5, t6, t7, t8, t9, t10, t11⟩ := HFF.out e1 w1 h1 h2 h3 h4; have HP : Hid (∀ w', Keeps (fun _ => False) (w1.alloc (.cells #[.string e1.nm, .bool e1.gn, .slice e1.va e1.vn e1.vc, .int .i64 e1.st, .int .i64 e1.nd, .int .i64 e1.mt, .string e1.pk, .int .i64 e1.sz, .int .i64 e1.cr] 46)) w' → Calls Try.prog 9 #[.agg #[.slice (some ⟨w1.heap.size, 0, none⟩) 1 1]] w' fun r w'' => r = .returned (.tuple #[.string T, .int .i64 0]) ∧ Keeps (fun _ => False) w' w'') := t10; have HB : Hid (∀ B ∈ ([⟨#[]⟩, ⟨#[80]⟩, ⟨#[80, 75, 5, 6]⟩, E0 ++ E0, T ++ E0, E0 ++ T, F, F ++ F ++ R, F ++ E0, R, C1, ⟨#[0]⟩ ++ T, C2, E21 ++ ⟨#[1]⟩] : List ByteArray), GetNo B) := t11; have HT : Hid (T.size = 154 ∧ F.size = 59 ∧ R.size = 95 ∧ E21.size = 21) := ⟨t1, t2, t3, t4⟩; have HX : Hid (T.extract 59 154 = R ∧ T.extract 0 153 = C1 ∧ T.extract 0 132 = C2) := ⟨t6, t7, t8⟩; have A1 : Hid (Keeps (fun _ => False) w w1) := A0.out.tr h5; have tz1 : ¬ (T.size : Int) < 100 := (by omega); have tz2 : (59 : Int) ≤ (T.size : Int) := (by omega); clear t1 t2 t3 t4 t6 t7 t8 t10 t11 h1 h2 h3 h4 h5)
    | (go_at_call 9; (fail_if_success (clear A3)); refine (HP.out _ ((Keeps.refl _ _).alloc _)).mono ?_; rintro r w2 ⟨rfl, h⟩; have A3 : Hid (Keeps (fun _ => False) w w2) := ((A1.out.alloc _).alloc _).tr h; clear h)
    | (go_at_call 9; refine (HN0.out w2).mono ?_; rintro r w3 ⟨rfl, h⟩; have A4 : Hid (Keeps (fun _ => False) w w3) := A3.out.tr h; clear h)
    | (go_at_call 11; refine (num_any _ _).mono ?_; rintro r w' ⟨rfl, hw⟩; obtain rfl := hw.symm; clear hw))
  have hT := HT.out
  obtain ⟨K1, hK1⟩ : ∃ K1 : Nat, T.size - 1 = K1 := ⟨_, rfl⟩
  obtain ⟨K2, hK2⟩ : ∃ K2 : Nat, T.size - 22 = K2 := ⟨_, rfl⟩
  have k1w : IntKind.i64.wrap ((T.size : Int) - 1) = (K1 : Int) := by simp only [IntKind.wrap, IntKind.bits, IntKind.signed]; simp; omega
  have k2w : IntKind.i64.wrap ((T.size : Int) - 22) = (K2 : Int) := by simp only [IntKind.wrap, IntKind.bits, IntKind.signed]; simp; omega
  have k10 : (0 : Int) ≤ (K1 : Int) := by omega
  have k1l : (K1 : Int) ≤ (T.size : Int) := by omega
  have k20 : (0 : Int) ≤ (K2 : Int) := by omega
  have k2l : (K2 : Int) ≤ (T.size : Int) := by omega
  have x1 : T.extract 0 K1 = C1 := by rw [← HX.out.2.1]; congr 1; omega
  have x2 : T.extract 0 K2 = C2 := by rw [← HX.out.2.2]; congr 1; omega
  have x3 : T.extract F.size T.size = R := by rw [← HX.out.1, hT.1, hT.2.1]
  have fl : (F.size : Int) ≤ (T.size : Int) := by omega
  have fl0 : (0 : Int) ≤ (F.size : Int) := by omega
  have h0 := HE0.out
  have z1 : ¬ 9223372036854775807 < E0.size + E0.size := by omega
  have z2 : ¬ 9223372036854775807 < T.size + E0.size := by omega
  have z3 : ¬ 9223372036854775807 < E0.size + T.size := by omega
  have z4 : ¬ 9223372036854775807 < F.size + F.size := by omega
  have z5 : ¬ 9223372036854775807 < F.size + F.size + R.size := by omega
  have z6 : ¬ 9223372036854775807 < (F ++ F).size + R.size := by rw [ByteArray.size_append]; omega
  have z7 : ¬ 9223372036854775807 < F.size + E0.size := by omega
  have z8 : ¬ 9223372036854775807 < 1 + T.size := by omega
  have z9 : ¬ 9223372036854775807 < E21.size + 1 := by omega
  clear hT h0 hK1 hK2 tz1 tz2 e0b
  go_region
  obtain ⟨B, hcB, hB⟩ : ∃ B : ByteArray, ((w3.alloc (.cells #[.string ⟨#[]⟩, .string ⟨#[80]⟩, .string ⟨#[80, 75, 5, 6]⟩, .string (E0 ++ E0), .string (T ++ E0), .string (E0 ++ T), .string F, .string (F ++ F ++ R), .string (F ++ E0), .string R, .string C1, .string (⟨#[0]⟩ ++ T), .string C2, .string (E21 ++ ⟨#[1]⟩)] 9)).drew).cell? ⟨w3.heap.size, k, none⟩ = some (.string B) ∧ GetNo B := by
    have hkl : k < ([⟨#[]⟩, ⟨#[80]⟩, ⟨#[80, 75, 5, 6]⟩, E0 ++ E0, T ++ E0, E0 ++ T, F, F ++ F ++ R, F ++ E0, R, C1, ⟨#[0]⟩ ++ T, C2, E21 ++ ⟨#[1]⟩] : List ByteArray).length := HKK.out
    refine ⟨([⟨#[]⟩, ⟨#[80]⟩, ⟨#[80, 75, 5, 6]⟩, E0 ++ E0, T ++ E0, E0 ++ T, F, F ++ F ++ R, F ++ E0, R, C1, ⟨#[0]⟩ ++ T, C2, E21 ++ ⟨#[1]⟩] : List ByteArray)[k], ?_, HB.out _ (List.getElem_mem hkl)⟩
    refine cell_of_heap (w := (w3.alloc (.cells #[.string ⟨#[]⟩, .string ⟨#[80]⟩, .string ⟨#[80, 75, 5, 6]⟩, .string (E0 ++ E0), .string (T ++ E0), .string (E0 ++ T), .string F, .string (F ++ F ++ R), .string (F ++ E0), .string R, .string C1, .string (⟨#[0]⟩ ++ T), .string C2, .string (E21 ++ ⟨#[1]⟩)] 9)).drew) (heap_alloc_new w3 _) ?_
    show ((([⟨#[]⟩, ⟨#[80]⟩, ⟨#[80, 75, 5, 6]⟩, E0 ++ E0, T ++ E0, E0 ++ T, F, F ++ F ++ R, F ++ E0, R, C1, ⟨#[0]⟩ ++ T, C2, E21 ++ ⟨#[1]⟩] : List ByteArray).map Value.string).toArray)[k]? = _
    rw [List.getElem?_toArray, List.getElem?_map, List.getElem?_eq_getElem hkl]; rfl
  have HG : Hid (GetNo B) := hB
  have HK : Hid (Keeps (fun _ => False) w (w3.alloc (.cells #[.string ⟨#[]⟩, .string ⟨#[80]⟩, .string ⟨#[80, 75, 5, 6]⟩, .string (E0 ++ E0), .string (T ++ E0), .string (E0 ++ T), .string F, .string (F ++ F ++ R), .string (F ++ E0), .string R, .string C1, .string (⟨#[0]⟩ ++ T), .string C2, .string (E21 ++ ⟨#[1]⟩)] 9)).drew) := (A4.out.alloc _).drew
  clear hB HB x1 x2 x3 t5 t9 z1 z2 z3 z4 z5 z6 z7 z8 z9 k1w k2w k10 k1l k20 k2l fl fl0
  generalize (w3.alloc (.cells #[.string ⟨#[]⟩, .string ⟨#[80]⟩, .string ⟨#[80, 75, 5, 6]⟩, .string (E0 ++ E0), .string (T ++ E0), .string (E0 ++ T), .string F, .string (F ++ F ++ R), .string (F ++ E0), .string R, .string C1, .string (⟨#[0]⟩ ++ T), .string C2, .string (E21 ++ ⟨#[1]⟩)] 9)).drew = wA at *
  generalize w3.heap.size = gA at *
  go_wp2_with (first
    | (go_at_call 18; refine (HG.out _).mono ?_; rintro r w5 ⟨a5, cap5, rfl, h⟩; have A5 : Hid (Keeps (fun _ => False) w w5) := HK.out.tr h; clear h)
    | (go_at_call 11; refine (num_any _ _).mono ?_; rintro r w' ⟨rfl, hw⟩; obtain rfl := hw.symm; clear hw))
  go_ret
  exact ⟨by first | rfl | simp, A5.out.alloc _⟩

theorem forms_walk (which : Int) (w : World) :
    Calls Try.prog 7 #[.int .i64 which] w fun r w' => r = .returned (.bool true) ∧ Below w.heap.size w w' :=
  (forms_main which w).mono (fun r w' h => ⟨h.1, h.2.below _ (Nat.le_refl _) (fun _ h => h.elim)⟩)

end Go.Proofs.Ythlaeeepbkfkgaa

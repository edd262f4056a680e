/-
  The document's common part.
-/
import Derived.Test.YthlaeeepbkfkgaaFop
import Derived.Test.YthlaeeepbkfkgaaRput
namespace Go.Proofs.Ythlaeeepbkfkgaa
open Go.RowKit
set_option linter.unusedVariables false
set_option linter.unusedSimpArgs false

set_option maxHeartbeats 16000000 in
set_option maxRecDepth 1000000 in
theorem rcommon_ok (e : Ent) (w : World) (h1 : 0 ≤ e.mt ∧ e.mt ≤ 65535) (h2 : 0 ≤ e.cr ∧ e.cr ≤ 4294967295) (h3 : 0 ≤ e.sz ∧ e.sz ≤ 65535) (h4 : e.pk.size ≤ 65535) (h5 : e.nm.size ≤ 65535) :
    Calls Try.prog 27 #[.agg #[.string e.nm, .bool e.gn, .slice e.va e.vn e.vc, .int .i64 e.st, .int .i64 e.nd, .int .i64 e.mt, .string e.pk, .int .i64 e.sz, .int .i64 e.cr]] w fun r w' => r = .returned (.string (textOf (commonL e))) ∧ Keeps (fun _ => False) w w' := by
  obtain ⟨m, hm, hm'⟩ := toNat_of h1.1
  obtain ⟨c, hc, hc'⟩ := toNat_of h2.1
  obtain ⟨z, hz, hz'⟩ := toNat_of h3.1
  have BA0 : Hid (∀ w', Calls Try.prog 26 #[.int .i64 (20 : Int), .int .i64 2] w' fun r w'' => r = .returned (.string (textOf (le 2 20))) ∧ Keeps (fun _ => False) w' w'') := fun w' => rbytes_ok 20 2 w' (by omega) (by decide)
  have sA : (textOf (le 2 20)).size = 2 := by rw [textOf_size, le_len]
  have BZ0 : Hid (∀ w', Calls Try.prog 26 #[.int .i64 (0 : Int), .int .i64 2] w' fun r w'' => r = .returned (.string (textOf (le 2 0))) ∧ Keeps (fun _ => False) w' w'') := fun w' => rbytes_ok 0 2 w' (by omega) (by decide)
  have sZ : (textOf (le 2 0)).size = 2 := by rw [textOf_size, le_len]
  have BM0 : Hid (∀ w', Calls Try.prog 26 #[.int .i64 (m : Int), .int .i64 2] w' fun r w'' => r = .returned (.string (textOf (le 2 m))) ∧ Keeps (fun _ => False) w' w'') := fun w' => rbytes_ok m 2 w' (by omega) (by decide)
  have sM : (textOf (le 2 m)).size = 2 := by rw [textOf_size, le_len]
  have BC0 : Hid (∀ w', Calls Try.prog 26 #[.int .i64 (c : Int), .int .i64 4] w' fun r w'' => r = .returned (.string (textOf (le 4 c))) ∧ Keeps (fun _ => False) w' w'') := fun w' => rbytes_ok c 4 w' (by omega) (by decide)
  have sC : (textOf (le 4 c)).size = 4 := by rw [textOf_size, le_len]
  have BP0 : Hid (∀ w', Calls Try.prog 26 #[.int .i64 (e.pk.size : Int), .int .i64 4] w' fun r w'' => r = .returned (.string (textOf (le 4 e.pk.size))) ∧ Keeps (fun _ => False) w' w'') := fun w' => rbytes_ok e.pk.size 4 w' (by omega) (by decide)
  have sP : (textOf (le 4 e.pk.size)).size = 4 := by rw [textOf_size, le_len]
  have BS0 : Hid (∀ w', Calls Try.prog 26 #[.int .i64 (z : Int), .int .i64 4] w' fun r w'' => r = .returned (.string (textOf (le 4 z))) ∧ Keeps (fun _ => False) w' w'') := fun w' => rbytes_ok z 4 w' (by omega) (by decide)
  have sS : (textOf (le 4 z)).size = 4 := by rw [textOf_size, le_len]
  have BN0 : Hid (∀ w', Calls Try.prog 26 #[.int .i64 (e.nm.size : Int), .int .i64 2] w' fun r w'' => r = .returned (.string (textOf (le 2 e.nm.size))) ∧ Keeps (fun _ => False) w' w'') := fun w' => rbytes_ok e.nm.size 2 w' (by omega) (by decide)
  have sN : (textOf (le 2 e.nm.size)).size = 2 := by rw [textOf_size, le_len]
  have BX0 : Hid (∀ w', Calls Try.prog 26 #[.int .i64 (26 : Int), .int .i64 2] w' fun r w'' => r = .returned (.string (textOf (le 2 26))) ∧ Keeps (fun _ => False) w' w'') := fun w' => rbytes_ok 26 2 w' (by omega) (by decide)
  have sX : (textOf (le 2 26)).size = 2 := by rw [textOf_size, le_len]
  have HP : Hid (textOf (commonL e) = textOf (le 2 20) ++ textOf (le 2 0) ++ textOf (le 2 m) ++ textOf (le 2 0) ++ textOf (le 2 0) ++ textOf (le 4 c) ++ textOf (le 4 e.pk.size) ++ textOf (le 4 z) ++ textOf (le 2 e.nm.size) ++ textOf (le 2 26)) := by
    show _ = _
    simp only [textOf_append, commonL, hm', hc', hz', List.append_assoc]
  generalize textOf (le 2 20) = A at *
  generalize textOf (le 2 0) = Z at *
  generalize textOf (le 2 m) = M at *
  generalize textOf (le 4 c) = C at *
  generalize textOf (le 4 e.pk.size) = P at *
  generalize textOf (le 4 z) = S at *
  generalize textOf (le 2 e.nm.size) = N at *
  generalize textOf (le 2 26) = X at *
  have HX : Hid (∀ b1 w1 w', Entb w1 b1 e → Keeps (fun _ => False) w1 w' → w'.cell? ⟨b1, 0, none⟩ = some (.string e.nm) ∧ w'.cell? ⟨b1, 5, none⟩ = some (.int .i64 (m : Int)) ∧ w'.cell? ⟨b1, 6, none⟩ = some (.string e.pk) ∧ w'.cell? ⟨b1, 7, none⟩ = some (.int .i64 (z : Int)) ∧ w'.cell? ⟨b1, 8, none⟩ = some (.int .i64 (c : Int))) := fun b1 w1 w' hE hO => by
    have hE' := hE.keptF hO
    exact ⟨hE'.c0, by rw [hE'.c5, hm], hE'.c6, by rw [hE'.c7, hz], by rw [hE'.c8, hc]⟩
  have z1 : ¬ 9223372036854775807 < A.size + Z.size := by simp only [ByteArray.size_append, sA, sZ, sM, sC, sP, sS, sN, sX]; decide
  have z2 : ¬ 9223372036854775807 < (A ++ Z).size + M.size := by simp only [ByteArray.size_append, sA, sZ, sM, sC, sP, sS, sN, sX]; decide
  have y2 : ¬ 9223372036854775807 < A.size + Z.size + M.size := by simp only [sA, sZ, sM, sC, sP, sS, sN, sX]; decide
  have z3 : ¬ 9223372036854775807 < (A ++ Z ++ M).size + Z.size := by simp only [ByteArray.size_append, sA, sZ, sM, sC, sP, sS, sN, sX]; decide
  have y3 : ¬ 9223372036854775807 < A.size + Z.size + M.size + Z.size := by simp only [sA, sZ, sM, sC, sP, sS, sN, sX]; decide
  have z4 : ¬ 9223372036854775807 < (A ++ Z ++ M ++ Z).size + Z.size := by simp only [ByteArray.size_append, sA, sZ, sM, sC, sP, sS, sN, sX]; decide
  have y4 : ¬ 9223372036854775807 < A.size + Z.size + M.size + Z.size + Z.size := by simp only [sA, sZ, sM, sC, sP, sS, sN, sX]; decide
  have z5 : ¬ 9223372036854775807 < (A ++ Z ++ M ++ Z ++ Z).size + C.size := by simp only [ByteArray.size_append, sA, sZ, sM, sC, sP, sS, sN, sX]; decide
  have y5 : ¬ 9223372036854775807 < A.size + Z.size + M.size + Z.size + Z.size + C.size := by simp only [sA, sZ, sM, sC, sP, sS, sN, sX]; decide
  have z6 : ¬ 9223372036854775807 < (A ++ Z ++ M ++ Z ++ Z ++ C).size + P.size := by simp only [ByteArray.size_append, sA, sZ, sM, sC, sP, sS, sN, sX]; decide
  have y6 : ¬ 9223372036854775807 < A.size + Z.size + M.size + Z.size + Z.size + C.size + P.size := by simp only [sA, sZ, sM, sC, sP, sS, sN, sX]; decide
  have z7 : ¬ 9223372036854775807 < (A ++ Z ++ M ++ Z ++ Z ++ C ++ P).size + S.size := by simp only [ByteArray.size_append, sA, sZ, sM, sC, sP, sS, sN, sX]; decide
  have y7 : ¬ 9223372036854775807 < A.size + Z.size + M.size + Z.size + Z.size + C.size + P.size + S.size := by simp only [sA, sZ, sM, sC, sP, sS, sN, sX]; decide
  have z8 : ¬ 9223372036854775807 < (A ++ Z ++ M ++ Z ++ Z ++ C ++ P ++ S).size + N.size := by simp only [ByteArray.size_append, sA, sZ, sM, sC, sP, sS, sN, sX]; decide
  have y8 : ¬ 9223372036854775807 < A.size + Z.size + M.size + Z.size + Z.size + C.size + P.size + S.size + N.size := by simp only [sA, sZ, sM, sC, sP, sS, sN, sX]; decide
  have z9 : ¬ 9223372036854775807 < (A ++ Z ++ M ++ Z ++ Z ++ C ++ P ++ S ++ N).size + X.size := by simp only [ByteArray.size_append, sA, sZ, sM, sC, sP, sS, sN, sX]; decide
  have y9 : ¬ 9223372036854775807 < A.size + Z.size + M.size + Z.size + Z.size + C.size + P.size + S.size + N.size + X.size := by simp only [sA, sZ, sM, sC, sP, sS, sN, sX]; decide
  rw [HP.out]
  clear hm hc hz hm' hc' hz' h1 h2 h3 h4 h5 HP sA sZ sM sC sP sS sN sX
  go_enter Try.func27, Try.ntmps27
  go_wp2_with (refine wpList_box9 rfl _ rfl e rfl ?_; intro b w1 hE hK hb; have HE : Hid (Entb w1 b e ∧ Keeps (fun _ => False) w w1) := ⟨hE, hK⟩; have KD : Hid (Keeps (fun _ => False) w1 w1.drew) := (Keeps.refl _ _).drew; obtain ⟨d0, d5, d6, d7, d8⟩ := HX.out b w1 w1 hE (Keeps.refl _ _); clear hE hK hb)
  go_region_held3 (fun w' => w'.cell? ⟨b, 0, none⟩ = some (.string e.nm) ∧ w'.cell? ⟨b, 5, none⟩ = some (.int .i64 (m : Int)) ∧ w'.cell? ⟨b, 6, none⟩ = some (.string e.pk) ∧ w'.cell? ⟨b, 7, none⟩ = some (.int .i64 (z : Int)) ∧ w'.cell? ⟨b, 8, none⟩ = some (.int .i64 (c : Int))) (go_keep)
    (first
      | (go_at_call 26; (fail_if_success (clear K0)); refine (BA0.out w1.drew).mono ?_; rintro r w2 ⟨rfl, h⟩; have K0 : Hid (Keeps (fun _ => False) w1 w2) := KD.out.tr h; obtain ⟨u0_0, u5_0, u6_0, u7_0, u8_0⟩ := HX.out b w1 w2 HE.out.1 K0.out; clear h)
      | (go_at_call 26; (fail_if_success (clear K1)); refine (BZ0.out w2).mono ?_; rintro r w3 ⟨rfl, h⟩; have K1 : Hid (Keeps (fun _ => False) w1 w3) := K0.out.tr h; obtain ⟨u0_1, u5_1, u6_1, u7_1, u8_1⟩ := HX.out b w1 w3 HE.out.1 K1.out; clear h)
      | (go_at_call 26; (fail_if_success (clear K2)); refine (BM0.out w3).mono ?_; rintro r w4 ⟨rfl, h⟩; have K2 : Hid (Keeps (fun _ => False) w1 w4) := K1.out.tr h; obtain ⟨u0_2, u5_2, u6_2, u7_2, u8_2⟩ := HX.out b w1 w4 HE.out.1 K2.out; clear h)
      | (go_at_call 26; (fail_if_success (clear K3)); refine (BZ0.out w4).mono ?_; rintro r w5 ⟨rfl, h⟩; have K3 : Hid (Keeps (fun _ => False) w1 w5) := K2.out.tr h; obtain ⟨u0_3, u5_3, u6_3, u7_3, u8_3⟩ := HX.out b w1 w5 HE.out.1 K3.out; clear h)
      | (go_at_call 26; (fail_if_success (clear K4)); refine (BZ0.out w5).mono ?_; rintro r w6 ⟨rfl, h⟩; have K4 : Hid (Keeps (fun _ => False) w1 w6) := K3.out.tr h; obtain ⟨u0_4, u5_4, u6_4, u7_4, u8_4⟩ := HX.out b w1 w6 HE.out.1 K4.out; clear h)
      | (go_at_call 26; (fail_if_success (clear K5)); refine (BC0.out w6).mono ?_; rintro r w7 ⟨rfl, h⟩; have K5 : Hid (Keeps (fun _ => False) w1 w7) := K4.out.tr h; obtain ⟨u0_5, u5_5, u6_5, u7_5, u8_5⟩ := HX.out b w1 w7 HE.out.1 K5.out; clear h)
      | (go_at_call 26; (fail_if_success (clear K6)); refine (BP0.out w7).mono ?_; rintro r w8 ⟨rfl, h⟩; have K6 : Hid (Keeps (fun _ => False) w1 w8) := K5.out.tr h; obtain ⟨u0_6, u5_6, u6_6, u7_6, u8_6⟩ := HX.out b w1 w8 HE.out.1 K6.out; clear h)
      | (go_at_call 26; (fail_if_success (clear K7)); refine (BS0.out w8).mono ?_; rintro r w9 ⟨rfl, h⟩; have K7 : Hid (Keeps (fun _ => False) w1 w9) := K6.out.tr h; obtain ⟨u0_7, u5_7, u6_7, u7_7, u8_7⟩ := HX.out b w1 w9 HE.out.1 K7.out; clear h)
      | (go_at_call 26; (fail_if_success (clear K8)); refine (BN0.out w9).mono ?_; rintro r w10 ⟨rfl, h⟩; have K8 : Hid (Keeps (fun _ => False) w1 w10) := K7.out.tr h; obtain ⟨u0_8, u5_8, u6_8, u7_8, u8_8⟩ := HX.out b w1 w10 HE.out.1 K8.out; clear h)
      | (go_at_call 26; (fail_if_success (clear K9)); refine (BX0.out w10).mono ?_; rintro r w11 ⟨rfl, h⟩; have K9 : Hid (Keeps (fun _ => False) w1 w11) := K8.out.tr h; obtain ⟨u0_9, u5_9, u6_9, u7_9, u8_9⟩ := HX.out b w1 w11 HE.out.1 K9.out; clear h))
  go_wp2
  go_ret
  exact ⟨rfl, HE.out.2.tr K9.out⟩

end Go.Proofs.Ythlaeeepbkfkgaa

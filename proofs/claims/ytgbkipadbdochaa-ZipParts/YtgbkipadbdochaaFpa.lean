/-
  ZipParts: the walk of the statement.
-/
import Derived.Test.YtgbkipadbdochaaFpr
import Derived.BigQuiet
namespace Go.Proofs.Ytgbkipadbdochaa
open Go.RowKit
set_option linter.unusedVariables false
set_option linter.unusedSimpArgs false

set_option maxHeartbeats 16000000 in
set_option maxRecDepth 1000000 in
theorem parts_good (a : Option Addr) (cap : Nat) (es : List It) (w : World) (hF : FolIn w a es) (hw : writeB es = true) :
    Calls Try.prog 3 #[.agg #[.slice a es.length cap]] w fun r w' => r = .returned (.bool true) ∧ Keeps (fun _ => False) w w' := by
  have HP : Hid (∀ w', Keeps (fun _ => False) w w' → Calls Try.prog 8 #[.agg #[.slice a es.length cap]] w' fun r w'' => r = .returned (.tuple #[.string (zipT es), .int .i64 0]) ∧ Keeps (fun _ => False) w' w'') := fun w' hk => by
    have := wput_ok a cap es w' (hF.1.keptF hk) hF.fit
    have e1 : zErr es = 0 := by rw [zErr, hw]; rfl
    rw [e1] at this; exact this
  have HC : Hid (∀ w', Keeps (fun _ => False) (w.alloc (.cells #[.slice a es.length cap] 24)) w' → w'.cell? ⟨w.heap.size, 0, none⟩ = some (.slice a es.length cap)) := fvar w _
  have HW0 : Hid (Keeps (fun _ => False) w (w.alloc (.cells #[.slice a es.length cap] 24))) := (Keeps.refl _ _).alloc _
  have hh := writeB_held hw
  have h6 := writeB_len hw
  have hT : zipT es = textOf (zipL es) := by rw [zipT, hw, cond_true]
  have hTs : (zipT es).size = (firsts es).length + (seconds 0 es).length + 22 := by rw [hT, textOf_size, zipL, List.length_append, List.length_append, endL_len]; omega
  have hle : (zipT es).size ≤ 4096 := by rw [hT, textOf_size]; exact zipL_le hw
  have HZ : Hid (∀ w', Keeps (fun _ => False) w w' → Calls Try.prog 10 #[.agg #[.slice a es.length cap]] w' fun r w'' => r = .returned (.int .i64 ((zipT es).size : Int)) ∧ Keeps (fun _ => False) w' w'') := fun w' hk => by
    have := wsize_ok a cap es w' (hF.1.keptF hk) hF.fit
    have e : zSize es = (zipT es).size := by rw [hT, textOf_size, zSize, hw]; rfl
    rw [e] at this
    exact this
  -- the end
  obtain ⟨Ed, hEd⟩ : ∃ Ed, textOf (endL es.length (seconds 0 es).length (firsts es).length) = Ed := ⟨_, rfl⟩
  have hEz : Ed.size = 22 := by rw [← hEd, textOf_size, endL_len]
  obtain ⟨N, hN⟩ : ∃ N, N = (firsts es).length + (seconds 0 es).length := ⟨_, rfl⟩
  have y0 : (zipT es).extract N (zipT es).size = Ed := by
    have := cut_at _ _ _ _ (zip_end es) N 0 22 (by rw [List.length_append]; exact hN) (by rw [endL_len]; exact Nat.le_refl _)
    rw [← hT, List.take_of_length_le (by rw [endL_len]; exact Nat.le_refl _), List.drop_zero, hEd, Nat.add_zero] at this
    rw [hTs, ← hN]; exact this
  obtain ⟨p1, p2, p3, p4⟩ := end_pieces es.length (seconds 0 es).length (firsts es).length
  have y1 : Ed.extract 16 20 = textOf (le 4 (firsts es).length) := by rw [← hEd, extract_text, p1]
  have y2 : Ed.extract 8 10 = textOf (le 2 es.length) := by rw [← hEd, extract_text, p2]
  have y3 : Ed.extract 10 12 = textOf (le 2 es.length) := by rw [← hEd, extract_text, p3]
  have y4 : Ed.extract 12 16 = textOf (le 4 (seconds 0 es).length) := by rw [← hEd, extract_text, p4]
  have HN1 : Hid (∀ w', Calls Try.prog 11 #[.string (textOf (le 4 (firsts es).length))] w' fun r w'' => r = .returned (.int .i64 ((firsts es).length : Int)) ∧ w'' = w') := fun w' => rnum_le4 _ (by omega) w'
  have HN2 : Hid (∀ w', Calls Try.prog 11 #[.string (textOf (le 2 es.length))] w' fun r w'' => r = .returned (.int .i64 (es.length : Int)) ∧ w'' = w') := fun w' => rnum_le2 _ (by omega) w'
  have HN4 : Hid (∀ w', Calls Try.prog 11 #[.string (textOf (le 4 (seconds 0 es).length))] w' fun r w'' => r = .returned (.int .i64 ((seconds 0 es).length : Int)) ∧ w'' = w') := fun w' => rnum_le4 _ (by omega) w'
  generalize textOf (le 4 (firsts es).length) = T1 at *
  generalize textOf (le 2 es.length) = T2 at *
  generalize textOf (le 4 (seconds 0 es).length) = T3 at *
  have HS : Hid (∀ i (hi : i < es.length), ∃ b off C D T4, a = some ⟨b, off, none⟩ ∧ PartAt (zipT es) es i (firsts (es.take i)).length ((firsts es).length + (seconds 0 (es.take i)).length) es[i].1 C D T4 ∧ (∀ w', Calls Try.prog 11 #[.string T4] w' fun r w'' => r = .returned (.int .i64 ((firsts (es.take i)).length : Int)) ∧ w'' = w') ∧ ((firsts (es.take (i + 1))).length = (firsts (es.take i)).length + (30 + es[i].1.nm.size + 26) + es[i].1.pk.size ∧ (firsts (es.take (i + 1))).length ≤ (firsts es).length ∧ (seconds 0 (es.take (i + 1))).length = (seconds 0 (es.take i)).length + 46 + es[i].1.nm.size + 26 ∧ (seconds 0 (es.take (i + 1))).length ≤ (seconds 0 es).length) ∧ ∀ w', Keeps (fun _ => False) w w' → EntAt w' b (off + i * 9) es[i].1) := fun i hi => by
    obtain ⟨b, off, e, _, hf⟩ := hF.1.at (by omega)
    have hm := ftake_mono hh i hi
    exact ⟨b, off, _, _, _, e, part_at hw i hi, fun w' => rnum_le4 _ (by omega) w', hm, fun w' hk => (hf w' hk i hi).1⟩
  have HE0 : Hid ((firsts (es.take es.length)).length = (firsts es).length ∧ (seconds 0 (es.take es.length)).length = (seconds 0 es).length) := by rw [List.take_length]; exact ⟨rfl, rfl⟩
  have HA0 : Hid ((firsts (es.take 0)).length = 0 ∧ (seconds 0 (es.take 0)).length = 0) := ⟨rfl, rfl⟩
  generalize zipT es = S at *
  generalize (firsts es).length = F at *
  generalize (seconds 0 es).length = G at *
  have z0 : (S.size : Int) - 22 = (N : Int) := by omega
  have z0' : IntKind.i64.wrap ((S.size : Int) - 22) = (N : Int) := by simp [IntKind.wrap, IntKind.bits, IntKind.signed]; omega
  have z1 : (F : Int) + (G : Int) = (N : Int) := by omega
  have z1' : IntKind.i64.wrap ((F : Int) + (G : Int)) = (N : Int) := by simp [IntKind.wrap, IntKind.bits, IntKind.signed]; omega
  have z2 : (N : Int) + 22 = (S.size : Int) := by omega
  have z2' : IntKind.i64.wrap ((N : Int) + 22) = (S.size : Int) := by simp [IntKind.wrap, IntKind.bits, IntKind.signed]; omega
  have w1 : IntKind.i64.wrap (N : Int) = (N : Int) := by simp [IntKind.wrap, IntKind.bits, IntKind.signed]; omega
  have w2 : IntKind.i64.wrap (S.size : Int) = (S.size : Int) := by simp [IntKind.wrap, IntKind.bits, IntKind.signed]; omega
  have n1 : (N : Int) ≤ (S.size : Int) := by omega
  have n2 : (22 : Int) ≤ (S.size : Int) := by omega
  have n3 : (S.size : Int) ≤ 4096 := by omega
  have h6z : (es.length : Int) ≤ 6 := by omega
  have HFN : Hid (F + G = N ∧ N + 22 = S.size) := ⟨hN.symm, by omega⟩
  clear hF hw hh h6 hT hTs hle hEd hN p1 p2 p3 p4
  go_enter Try.func3, Try.ntmps3
  go_wp2_with (first
    | (go_at_call 7; refine (awake_ok _).mono ?_; rintro r w1 ⟨rfl, h⟩; have A1 : Hid (Keeps (fun _ => False) (w.alloc (.cells #[.slice a es.length cap] 24)) w1) := h; have c1 := HC.out w1 h; clear h)
    | (go_at_call 8; refine (HP.out w1 (HW0.out.tr A1.out)).mono ?_; rintro r w2 ⟨rfl, h⟩; have A2 : Hid (Keeps (fun _ => False) (w.alloc (.cells #[.slice a es.length cap] 24)) w2) := A1.out.tr h; have c2 := HC.out w2 A2.out; clear h)
    | (go_at_call 9; refine (num_any _ _).mono ?_; rintro r w' ⟨rfl, hw⟩; obtain rfl := hw.symm; clear hw)
    | (go_at_call 10; refine (HZ.out w2 (HW0.out.tr A2.out)).mono ?_; rintro r w3 ⟨rfl, h⟩; have A3 : Hid (Keeps (fun _ => False) (w.alloc (.cells #[.slice a es.length cap] 24)) w3) := A2.out.tr h; have c3 := HC.out w3 A3.out; clear h)
    | (go_at_call 11; refine (HN1.out _).mono ?_; rintro r w' ⟨rfl, hw⟩; obtain rfl := hw.symm; clear hw))
  have hW3 : Hid (Keeps (fun _ => False) (w.alloc (.cells #[.slice a es.length cap] 24)) w3) := A3.out
  go_region_held3 (fun w' => w'.cell? ⟨w.heap.size, 0, none⟩ = some (.slice a es.length cap)) (go_keep)
    (first
      | (go_at_call 11; (fail_if_success (clear M1)); refine (HN2.out _).mono ?_; rintro r w' ⟨rfl, hw⟩; obtain rfl := hw.symm; have M1 : Hid True := trivial; clear hw)
      | (go_at_call 11; (fail_if_success (clear M2)); refine (HN2.out _).mono ?_; rintro r w' ⟨rfl, hw⟩; obtain rfl := hw.symm; have M2 : Hid True := trivial; clear hw)
      | (go_at_call 11; refine (HN4.out _).mono ?_; rintro r w' ⟨rfl, hw⟩; obtain rfl := hw.symm; clear hw))
  have HD3 : Hid (Keeps (fun _ => False) (w.alloc (.cells #[.slice a es.length cap] 24)) w3.drew) := hW3.out.drew
  clear A1 A2 A3 c1 c2 c3 M1 M2 hW3 HN1 HN2 HN4 y1 y2 y3 y4 HP HZ
  go_wp2
  go_loopw [7, 8, 9] (fun s7 s8 s9 w' => ∃ i : Nat, i ≤ es.length ∧ s9 = .int .i64 (i : Int) ∧ ∃ A B : Nat, s7 = .int .i64 (A : Int) ∧ s8 = .int .i64 (B : Int) ∧ Hid (A = (firsts (es.take i)).length ∧ B = F + (seconds 0 (es.take i)).length ∧ Keeps (fun _ => False) (w.alloc (.cells #[.slice a es.length cap] 24)) w')) (fun _ _ s9 _ => ((es.length : Int) - intOf s9).toNat)
  case atStart => exact ⟨0, by omega, rfl, 0, F, rfl, rfl, HA0.out.1.symm, by rw [HA0.out.2, Nat.add_zero], HD3.out⟩
  case round =>
    clear HD3 HA0
    obtain ⟨i, hi, rfl, A, B, rfl, rfl, HT⟩ := hrel
    have cr := HC.out wr HT.out.2.2
    by_cases hin : i < es.length
    · have hiz : (i : Int) < (es.length : Int) := by omega
      obtain ⟨b, off, C, D, T4, rfl, hPt, hN4, hm, hA⟩ := HS.out i hin
      obtain ⟨e, he⟩ : ∃ e, es[i].1 = e := ⟨_, rfl⟩
      rw [he] at hPt hm hA
      have hAe := HT.out.1
      have hBe := HT.out.2.1
      have hKr := HT.out.2.2
      rw [← hAe, ← hBe] at hPt
      rw [← hAe] at hN4
      have HN4 : Hid (∀ w', Calls Try.prog 11 #[.string T4] w' fun r w'' => r = .returned (.int .i64 (A : Int)) ∧ w'' = w') := hN4
      have HA : Hid (∀ w', Keeps (fun _ => False) (w.alloc (.cells #[.slice (some ⟨b, off, none⟩) es.length cap] 24)) w' → EntAt w' b (off + i * 9) e) := fun w' hk => hA w' (HW0.out.tr hk)
      have HK : Hid (Keeps (fun _ => False) (w.alloc (.cells #[.slice (some ⟨b, off, none⟩) es.length cap] 24)) wr) := hKr
      have hfn := HFN.out
      obtain ⟨m1, m2, m3, m4⟩ := hm
      have hAl : A + (30 + e.nm.size + 26) + e.pk.size ≤ F := by omega
      have hBl : B + 46 + e.nm.size + 26 ≤ N := by omega
      have HM : Hid ((firsts (es.take (i + 1))).length = A + (30 + e.nm.size + 26) + e.pk.size ∧ F + (seconds 0 (es.take (i + 1))).length = B + 46 + e.nm.size + 26) := ⟨by omega, by omega⟩
      obtain ⟨x1, x2, x3, x4, x5, x6, x7, x8, x9⟩ := hPt
      clear hN4 hA hAe hBe hKr he HT HS HFN m1 m2 m3 m4
      have HXX : Hid (((S.extract A (A + 4)).toList == [80, 75, 3, 4]) = true ∧ S.extract (A + 30) (A + 30 + e.nm.size) = e.nm ∧ S.extract (A + (30 + e.nm.size + 26)) (A + (30 + e.nm.size + 26) + e.pk.size) = e.pk ∧ ((S.extract B (B + 4)).toList == [80, 75, 1, 2]) = true ∧ S.extract (B + 42) (B + 46) = T4 ∧ S.extract (B + 6) (B + 32) = C ∧ S.extract (A + 4) (A + 30) = C ∧ S.extract (B + 46) (B + 46 + e.nm.size + 26) = D ∧ S.extract (A + 30) (A + (30 + e.nm.size + 26)) = D) := ⟨x1, x2, x3, x4, x5, x6, x7, x8, x9⟩
      have HGG : Hid (A + (30 + e.nm.size + 26) + e.pk.size ≤ S.size ∧ B + 46 + e.nm.size + 26 ≤ S.size ∧ S.size ≤ 4096) := ⟨by omega, by omega, by omega⟩
      have g1 : ¬ ((F : Int) < (A : Int) + (30 + (e.nm.size : Int) + 26) + (e.pk.size : Int)) := by omega
      have g2 : ¬ ((N : Int) < (B : Int) + 46 + (e.nm.size : Int) + 26) := by omega
      have hnz : (e.nm.size : Int) ≤ 4096 := by omega
      have hpz : (e.pk.size : Int) ≤ 4096 := by omega
      have hAz : (A : Int) ≤ 4096 := by omega
      have hBz : (B : Int) ≤ 4096 := by omega
      have HM2 : Hid (A + (30 + e.nm.size + 26) + e.pk.size = (firsts (es.take (i + 1))).length ∧ B + 46 + e.nm.size + 26 = F + (seconds 0 (es.take (i + 1))).length) := ⟨HM.out.1.symm, HM.out.2.symm⟩
      clear HM hAl hBl hfn y0 z1 z1' z2 z2' x1 x2 x3 x4 x5 x6 x7 x8 x9
      go_wp2_with (first
        | ((fail_if_success (clear B1)); refine wpList_load9 rfl _ rfl b (off + i * 9) rfl e ?hA ?_; (case hA => exact HA.out wr HK.out))
        | ((fail_if_success (clear B1)); refine wpList_alloc9 rfl rfl ?_; intro b5 w5 hE hK hb; have B1 : Hid (Entb w5 b5 Ent.zero ∧ Keeps (fun _ => False) (w.alloc (.cells #[.slice (some ⟨b, off, none⟩) es.length cap] 24)) w5 ∧ (w.alloc (.cells #[.slice (some ⟨b, off, none⟩) es.length cap] 24)).heap.size ≤ b5) := ⟨hE, HK.out.tr hK, Nat.le_trans HK.out.size hb⟩; clear hE hK hb)
        | ((fail_if_success (clear B2)); refine wpList_store9 rfl _ _ rfl b5 e rfl rfl Ent.zero ?hA ?_; (case hA => exact B1.out.1); intro w6 hE hK; have B2 : Hid (Keeps (fun _ => False) (w.alloc (.cells #[.slice (some ⟨b, off, none⟩) es.length cap] 24)) w6) := B1.out.2.1.trans hK (fun k hk h => by have := B1.out.2.2; omega); have c0 := hE.c0; have c6 := hE.c6; clear hE hK))
      obtain ⟨x1, x2, x3, x4, x5, x6, x7, x8, x9⟩ := HXX.out
      refine reg20 x1 x2 x3 x4 x5 x6 x7 x8 x9 HGG.out.1 HGG.out.2.1 HGG.out.2.2 HN4 c0 c6 ?_
      intro nq v109 v110 v111 v112 v113 v114 v115 v116 v117 v118 v119 v120 v121 v122 v123 v124 v125 v126 v127 v128 v129 v130 v131 v132 v133 v134 v135 v136 v137 v138 v139 v140 v141 v142 v143 v144 v145 v146 v147 v148 v149 v150 v151 v152 v153 v154 v155 v156 v157 v158 v159 v160 v161 v162 v163 v164 v165 v166 v167 v168 v169 v170 v171 v172 v173 v174 v175 v176 v177 v178 v179 v180 v181 v182 v183 v184 v185 v186 v187 v188 v189 v190 v191 v192 v193 v194 v195 v196 v197 v198 v199 v200
      clear x1 x2 x3 x4 x5 x6 x7 x8 x9 HXX HGG HN4 g1 g2 z0 z0' cr HA HK B1
      have HB3 : Hid (Keeps (fun _ => False) (w.alloc (.cells #[.slice (some ⟨b, off, none⟩) es.length cap] 24)) (w6.drewN nq)) := B2.out.drewN nq
      have d0 : (w6.drewN nq).cell? ⟨b5, 0, none⟩ = some (.string e.nm) := c0
      have d6 : (w6.drewN nq).cell? ⟨b5, 6, none⟩ = some (.string e.pk) := c6
      clear B2 c0 c6
      generalize w6.drewN nq = w7 at *
      go_wp2
      go_roundw
      case rel => exact ⟨i + 1, by omega, by push_cast; rfl, A + (30 + e.nm.size + 26) + e.pk.size, B + 46 + e.nm.size + 26, by first | rfl | (push_cast; rfl) | (congr 1; push_cast; omega), by first | rfl | (push_cast; rfl) | (congr 1; push_cast; omega), HM2.out.1, HM2.out.2, HB3.out⟩
      case measure => simp [intOf]; omega
    · obtain rfl : i = es.length := by omega
      have hA : A = F := HT.out.1.trans HE0.out.1
      have hB : B = N := by have := HT.out.2.1; have := HE0.out.2; have := HFN.out; omega
      have HT2 : Hid (Keeps (fun _ => False) (w.alloc (.cells #[.slice a es.length cap] 24)) wr) := HT.out.2.2
      subst hA hB
      clear HT HS HE0 HFN
      go_wp2
      go_ret
      exact ⟨by first | rfl | simp | simp_all, HW0.out.tr HT2.out⟩

end Go.Proofs.Ytgbkipadbdochaa

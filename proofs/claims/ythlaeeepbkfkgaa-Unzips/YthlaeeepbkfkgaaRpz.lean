/-
  The document's PutZip.
-/
import Derived.Test.YthlaeeepbkfkgaaRsz
import Derived.Test.YthlaeeepbkfkgaaRcm
namespace Go.Proofs.Ythlaeeepbkfkgaa
open Go.RowKit
set_option linter.unusedVariables false
set_option linter.unusedSimpArgs false

theorem le6 : textOf (le 6 0) = textOf (le 2 0 ++ (le 2 0 ++ le 2 0)) := congrArg textOf (by simp [le, List.range_succ])
theorem le40 : textOf (le 4 0) = textOf (le 2 0 ++ le 2 0) := congrArg textOf (by simp [le, List.range_succ])
theorem k_text : textOf [80, 75, 1, 2] = ⟨#[80, 75, 1, 2]⟩ ∧ textOf [80, 75, 3, 4] = ⟨#[80, 75, 3, 4]⟩ ∧ textOf [80, 75, 5, 6] = ⟨#[80, 75, 5, 6]⟩ := ⟨rfl, rfl, rfl⟩
theorem first_text (es : List It) (i : Nat) (hi : i < es.length) : textOf (firsts (es.take (i + 1))) = textOf (firsts (es.take i)) ++ ⟨#[80, 75, 3, 4]⟩ ++ textOf (commonL es[i].1) ++ es[i].1.nm ++ textOf (headL es[i]) ++ es[i].1.pk := by
  rw [firsts_take i hi, firstL, calledL, ← k_text.2.1]
  conv => rhs; rw [← textOf_bytes es[i].1.nm, ← textOf_bytes es[i].1.pk]
  simp only [textOf_append, List.append_assoc]
theorem second_text (es : List It) (i : Nat) (hi : i < es.length) : textOf (seconds 0 (es.take (i + 1))) = textOf (seconds 0 (es.take i)) ++ ⟨#[80, 75, 1, 2]⟩ ++ textOf (le 2 20) ++ textOf (commonL es[i].1) ++ textOf (le 6 0) ++ textOf (le 4 0) ++ textOf (le 4 (textOf (firsts (es.take i))).size) ++ es[i].1.nm ++ textOf (headL es[i]) := by
  rw [seconds_take i hi, secondL, calledL, ← k_text.1, le6, textOf_size]
  conv => rhs; rw [← textOf_bytes es[i].1.nm]
  simp only [textOf_append, List.append_assoc]
theorem zip_text {es : List It} (hw : writeB es = true) : zipT es = textOf (firsts es) ++ textOf (seconds 0 es) ++ ⟨#[80, 75, 5, 6]⟩ ++ textOf (le 4 0) ++ textOf (le 2 es.length) ++ textOf (le 2 es.length) ++ textOf (le 4 (textOf (seconds 0 es)).size) ++ textOf (le 4 (textOf (firsts es)).size) ++ textOf (le 2 0) := by
  rw [zipT, hw, cond_true, zipL, endL, ← k_text.2.2, le40, textOf_size, textOf_size]
  simp only [textOf_append, List.append_assoc]

set_option maxHeartbeats 16000000 in
set_option maxRecDepth 1000000 in
theorem rputzip_ok (a : Option Addr) (cap : Nat) (es : List It) (w : World) (hF : Fol w a es) (hz : ∀ x ∈ es, Fit x) :
    Calls Try.prog 10 #[.agg #[.slice a es.length cap]] w fun r w' => r = .returned (.tuple #[.string (zipT es), .int .i64 (zErr es)]) ∧ Keeps (fun _ => False) w w' := by
  have HM0 : Hid (∀ w', Keeps (fun _ => False) w w' → Calls Try.prog 15 #[.agg #[.slice a es.length cap]] w' fun r w'' => r = .returned (.bool (writeB es)) ∧ Keeps (fun _ => False) w' w'') := fun w' hk => rwrite_ok a cap es w' (hF.keptF hk) hz
  have HS0 : Hid (∀ w', Keeps (fun _ => False) w w' → Calls Try.prog 13 #[.agg #[.slice a es.length cap]] w' fun r w'' => r = .returned (.int .i64 (zSize es : Int)) ∧ Keeps (fun _ => False) w' w'') := fun w' hk => rsize_ok a cap es w' (hF.keptF hk) hz
  have HC : Hid (∀ w', Keeps (fun _ => False) (w.alloc (.cells #[.slice a es.length cap] 24)) w' → w'.cell? ⟨w.heap.size, 0, none⟩ = some (.slice a es.length cap)) := fvar w _
  have HW0 : Hid (Keeps (fun _ => False) w (w.alloc (.cells #[.slice a es.length cap] 24))) := (Keeps.refl _ _).alloc _
  cases hw : writeB es
  · have hZ : zErr es = 1300 := by rw [zErr, hw]; rfl
    have hT : zipT es = ⟨#[]⟩ := by rw [zipT, hw]; rfl
    rw [hZ, hT]
    have HM := HM0
    rw [hw] at HM
    clear HM0 HS0 hF hz hw hZ hT HC
    go_enter Try.func10, Try.ntmps10
    go_wp2_with (go_at_call 15; refine (HM.out _ ((Keeps.refl _ _).alloc _)).mono ?_; rintro r w1 ⟨rfl, h⟩; have HK : Hid (Keeps (fun _ => False) w w1) := ((Keeps.refl _ _).alloc _).tr h; clear h)
    go_ret2
    exact ⟨rfl, HK.out⟩
  · have hh := writeB_held hw
    have h6 := writeB_len hw
    have hzs : zSize es ≤ 4096 := by rw [zSize, hw, cond_true]; exact zipL_le hw
    have HM := HM0
    rw [hw] at HM
    have hZ : zErr es = 0 := by rw [zErr, hw]; rfl
    rw [hZ]
    have HE : Hid (∀ i (hi : i < es.length), ∃ b off, a = some ⟨b, off, none⟩ ∧ ∀ w', Keeps (fun _ => False) w w' → EntAt w' b (off + i * 9) es[i].1 ∧ (Calls Try.prog 25 #[.agg #[.string es[i].1.nm, .bool es[i].1.gn, .slice es[i].1.va es[i].1.vn es[i].1.vc, .int .i64 es[i].1.st, .int .i64 es[i].1.nd, .int .i64 es[i].1.mt, .string es[i].1.pk, .int .i64 es[i].1.sz, .int .i64 es[i].1.cr]] w' fun r w'' => r = .returned (.tuple #[.string (textOf (headL es[i])), .int .i64 0]) ∧ Keeps (fun _ => False) w' w'') ∧ (Calls Try.prog 27 #[.agg #[.string es[i].1.nm, .bool es[i].1.gn, .slice es[i].1.va es[i].1.vn es[i].1.vc, .int .i64 es[i].1.st, .int .i64 es[i].1.nd, .int .i64 es[i].1.mt, .string es[i].1.pk, .int .i64 es[i].1.sz, .int .i64 es[i].1.cr]] w' fun r w'' => r = .returned (.string (textOf (commonL es[i].1))) ∧ Keeps (fun _ => False) w' w'')) := fun i hi => by
      obtain ⟨b, off, e, _, hf⟩ := hF.at (by omega)
      refine ⟨b, off, e, fun w' hk => ?_⟩
      obtain ⟨q1, q2, q3⟩ := hf w' hk i hi
      have hx := hh _ (List.getElem_mem hi)
      obtain ⟨m1, s1, c1, p1, n1⟩ := heldB_nums hx
      have hH := heldB_head hx
      refine ⟨q1, ?_, rcommon_ok es[i].1 w' (by rcases m1 with q | q <;> rw [q] <;> decide) c1 (by omega) (by omega) (by omega)⟩
      have := rput_ok es[i].1 es[i].2 w' q2 q3 (by rw [mayB_len (headB_may hH)]; decide)
      rw [putT, pErr, hH, cond_true, cond_true] at this
      exact this
    have HX : Hid (∀ i (hi : i < es.length), textOf (firsts (es.take (i + 1))) = textOf (firsts (es.take i)) ++ ⟨#[80, 75, 3, 4]⟩ ++ textOf (commonL es[i].1) ++ es[i].1.nm ++ textOf (headL es[i]) ++ es[i].1.pk ∧ textOf (seconds 0 (es.take (i + 1))) = textOf (seconds 0 (es.take i)) ++ ⟨#[80, 75, 1, 2]⟩ ++ textOf (le 2 20) ++ textOf (commonL es[i].1) ++ textOf (le 6 0) ++ textOf (le 4 0) ++ textOf (le 4 (textOf (firsts (es.take i))).size) ++ es[i].1.nm ++ textOf (headL es[i]) ∧ (textOf (commonL es[i].1)).size = 26 ∧ (textOf (headL es[i])).size = 26 ∧ es[i].1.nm.size ≤ 8 ∧ es[i].1.pk.size ≤ 300) := fun i hi => by
      have hx := hh _ (List.getElem_mem hi)
      obtain ⟨m1, s1, c1, p1, n1⟩ := heldB_nums hx
      exact ⟨first_text es i hi, second_text es i hi, by rw [textOf_size, commonL_len], by rw [textOf_size, headL_len hx], n1.2, p1⟩
    have HL : Hid (∀ i, (textOf (firsts (es.take i))).size ≤ 50000 ∧ (textOf (seconds 0 (es.take i))).size ≤ 50000) := fun i => by
      have h1 := firsts_le (es := es.take i) (fun x hx => hh x (List.mem_of_mem_take hx))
      have h2 := seconds_le (es := es.take i) 0 (fun x hx => hh x (List.mem_of_mem_take hx))
      rw [List.length_take] at h1 h2
      rw [textOf_size, textOf_size]; omega
    have HZ : Hid (zipT es = textOf (firsts (es.take es.length)) ++ textOf (seconds 0 (es.take es.length)) ++ ⟨#[80, 75, 5, 6]⟩ ++ textOf (le 4 0) ++ textOf (le 2 es.length) ++ textOf (le 2 es.length) ++ textOf (le 4 (textOf (seconds 0 (es.take es.length))).size) ++ textOf (le 4 (textOf (firsts (es.take es.length))).size) ++ textOf (le 2 0)) := by
      rw [List.take_length]; exact zip_text hw
    have BA : Hid (∀ w', Calls Try.prog 26 #[.int .i64 (20 : Int), .int .i64 2] w' fun r w'' => r = .returned (.string (textOf (le 2 20))) ∧ Keeps (fun _ => False) w' w'') := fun w' => rbytes_ok 20 2 w' (by omega) (by decide)
    have BZ6 : Hid (∀ w', Calls Try.prog 26 #[.int .i64 (0 : Int), .int .i64 6] w' fun r w'' => r = .returned (.string (textOf (le 6 0))) ∧ Keeps (fun _ => False) w' w'') := fun w' => rbytes_ok 0 6 w' (by omega) (by decide)
    have BZ4 : Hid (∀ w', Calls Try.prog 26 #[.int .i64 (0 : Int), .int .i64 4] w' fun r w'' => r = .returned (.string (textOf (le 4 0))) ∧ Keeps (fun _ => False) w' w'') := fun w' => rbytes_ok 0 4 w' (by omega) (by decide)
    have BZ2 : Hid (∀ w', Calls Try.prog 26 #[.int .i64 (0 : Int), .int .i64 2] w' fun r w'' => r = .returned (.string (textOf (le 2 0))) ∧ Keeps (fun _ => False) w' w'') := fun w' => rbytes_ok 0 2 w' (by omega) (by decide)
    have BK : Hid (∀ w', Calls Try.prog 26 #[.int .i64 (es.length : Int), .int .i64 2] w' fun r w'' => r = .returned (.string (textOf (le 2 es.length))) ∧ Keeps (fun _ => False) w' w'') := fun w' => rbytes_ok es.length 2 w' (by omega) (by decide)
    have BS : Hid (∀ n : Nat, n ≤ 50000 → ∀ w', Calls Try.prog 26 #[.int .i64 (n : Int), .int .i64 4] w' fun r w'' => r = .returned (.string (textOf (le 4 n))) ∧ (textOf (le 4 n)).size = 4 ∧ Keeps (fun _ => False) w' w'') := fun n hn w' => (rbytes_ok n 4 w' (by omega) (by decide)).mono (fun r w'' h => ⟨h.1, by rw [textOf_size, le_len], h.2⟩)
    have S4 : Hid (∀ n : Nat, (textOf (le 4 n)).size = 4) := fun n => by rw [textOf_size, le_len]
    have sA : (textOf (le 2 20)).size = 2 := by rw [textOf_size, le_len]
    have sZ6 : (textOf (le 6 0)).size = 6 := by rw [textOf_size, le_len]
    have sZ4 : (textOf (le 4 0)).size = 4 := by rw [textOf_size, le_len]
    have sZ2 : (textOf (le 2 0)).size = 2 := by rw [textOf_size, le_len]
    have sM : (textOf (le 2 es.length)).size = 2 := by rw [textOf_size, le_len]
    have hlz : ¬ (4096 : Int) < (zSize es : Int) := by omega
    have h6z : (es.length : Int) ≤ 6 := by omega
    have HF0 : Hid (textOf (firsts (es.take 0)) = ⟨#[]⟩ ∧ textOf (seconds 0 (es.take 0)) = ⟨#[]⟩) := ⟨rfl, rfl⟩
    have sK1 : (ByteArray.mk #[80, 75, 1, 2]).size = 4 := rfl
    have sK3 : (ByteArray.mk #[80, 75, 3, 4]).size = 4 := rfl
    have sK5 : (ByteArray.mk #[80, 75, 5, 6]).size = 4 := rfl
    generalize textOf (le 2 20) = A at *
    generalize textOf (le 6 0) = Z6 at *
    generalize textOf (le 4 0) = Z4 at *
    generalize textOf (le 2 0) = Z2 at *
    generalize textOf (le 2 es.length) = M at *
    generalize zipT es = ZZ at *
    generalize zSize es = zs at *
    clear HM0 hF hz hw hh h6 hZ hzs
    go_enter Try.func10, Try.ntmps10
    go_wp2_with (first
      | (go_at_call 15; refine (HM.out _ ((Keeps.refl _ _).alloc _)).mono ?_; rintro r w1 ⟨rfl, h⟩; have A1 : Hid (Keeps (fun _ => False) (w.alloc (.cells #[.slice a es.length cap] 24)) w1) := h; have c1 := HC.out w1 h; clear h)
      | (go_at_call 13; refine (HS0.out w1 (HW0.out.tr A1.out)).mono ?_; rintro r w2 ⟨rfl, h⟩; have A2 : Hid (Keeps (fun _ => False) (w.alloc (.cells #[.slice a es.length cap] 24)) w2) := A1.out.tr h; clear h))
    go_loopw [4, 5, 6] (fun s4 s5 s6 w' => ∃ i : Nat, i ≤ es.length ∧ s6 = .int .i64 (i : Int) ∧ ∃ T S : ByteArray, s4 = .string T ∧ s5 = .string S ∧ Hid (T = textOf (firsts (es.take i)) ∧ S = textOf (seconds 0 (es.take i)) ∧ Keeps (fun _ => False) (w.alloc (.cells #[.slice a es.length cap] 24)) w')) (fun _ _ s6 _ => ((es.length : Int) - intOf s6).toNat)
    case atStart => exact ⟨0, by omega, rfl, _, _, rfl, rfl, HF0.out.1.symm, HF0.out.2.symm, A2.out⟩
    case round =>
      clear A1 A2 HM HS0 c1 HF0 hlz
      obtain ⟨i, hi, rfl, T, S, rfl, rfl, HT⟩ := hrel
      have cr := HC.out wr HT.out.2.2
      have hTl : T.size ≤ 50000 := by rw [HT.out.1]; exact (HL.out i).1
      have hSl : S.size ≤ 50000 := by rw [HT.out.2.1]; exact (HL.out i).2
      by_cases hin : i < es.length
      · have hiz : (i : Int) < (es.length : Int) := by omega
        obtain ⟨b, off, rfl, hA⟩ := HE.out i hin
        obtain ⟨x1, x2, sC, sX, sN, sP⟩ := HX.out i hin
        rw [← HT.out.1] at x1 x2
        rw [← HT.out.2.1] at x2
        obtain ⟨e, he⟩ : ∃ e, es[i].1 = e := ⟨_, rfl⟩
        rw [he] at hA x1 x2 sC sN sP
        have sB := S4.out T.size
        have HBT : Hid (∀ w', Calls Try.prog 26 #[.int .i64 (T.size : Int), .int .i64 4] w' fun r w'' => r = .returned (.string (textOf (le 4 T.size))) ∧ Keeps (fun _ => False) w' w'') := fun w' => (BS.out T.size hTl w').mono (fun r w'' h => ⟨h.1, h.2.2⟩)
        generalize textOf (headL es[i]) = X at *
        generalize textOf (commonL e) = C at *
        generalize textOf (le 4 T.size) = B at *
        have HR : Hid (∀ w', Keeps (fun _ => False) wr w' → EntAt w' b (off + i * 9) e ∧ (Calls Try.prog 25 #[.agg #[.string e.nm, .bool e.gn, .slice e.va e.vn e.vc, .int .i64 e.st, .int .i64 e.nd, .int .i64 e.mt, .string e.pk, .int .i64 e.sz, .int .i64 e.cr]] w' fun r w'' => r = .returned (.tuple #[.string X, .int .i64 0]) ∧ Keeps (fun _ => False) w' w'') ∧ (Calls Try.prog 27 #[.agg #[.string e.nm, .bool e.gn, .slice e.va e.vn e.vc, .int .i64 e.st, .int .i64 e.nd, .int .i64 e.mt, .string e.pk, .int .i64 e.sz, .int .i64 e.cr]] w' fun r w'' => r = .returned (.string C) ∧ Keeps (fun _ => False) w' w'')) := fun w' hk => hA w' (HW0.out.tr (HT.out.2.2.tr hk))
        have HX1 : Hid (textOf (firsts (es.take (i + 1))) = T ++ ⟨#[80, 75, 3, 4]⟩ ++ C ++ e.nm ++ X ++ e.pk) := x1
        have HX2 : Hid (textOf (seconds 0 (es.take (i + 1))) = S ++ ⟨#[80, 75, 1, 2]⟩ ++ A ++ C ++ Z6 ++ Z4 ++ B ++ e.nm ++ X) := x2
        have HCW : Hid (Keeps (fun _ => False) (w.alloc (.cells #[.slice (some ⟨b, off, none⟩) es.length cap] 24)) wr) := HT.out.2.2
        have hNl : e.nm.size ≤ 8 := sN
        have hPl : e.pk.size ≤ 300 := sP
        have sz1b : ¬ 9223372036854775807 < S.size + 4 := by first | (simp only [ByteArray.size_append, sA, sC, sX, sZ6, sZ4, sB, sK1, sK3]; omega) | omega
        have sy2b : ¬ 9223372036854775807 < S.size + 4 + A.size := by first | (simp only [ByteArray.size_append, sA, sC, sX, sZ6, sZ4, sB, sK1, sK3]; omega) | omega
        have sz2b : ¬ 9223372036854775807 < (S ++ ⟨#[80, 75, 1, 2]⟩).size + A.size := by first | (simp only [ByteArray.size_append, sA, sC, sX, sZ6, sZ4, sB, sK1, sK3]; omega) | omega
        have sy3b : ¬ 9223372036854775807 < S.size + 4 + A.size + C.size := by first | (simp only [ByteArray.size_append, sA, sC, sX, sZ6, sZ4, sB, sK1, sK3]; omega) | omega
        have sz3b : ¬ 9223372036854775807 < (S ++ ⟨#[80, 75, 1, 2]⟩ ++ A).size + C.size := by first | (simp only [ByteArray.size_append, sA, sC, sX, sZ6, sZ4, sB, sK1, sK3]; omega) | omega
        have sy4b : ¬ 9223372036854775807 < S.size + 4 + A.size + C.size + Z6.size := by first | (simp only [ByteArray.size_append, sA, sC, sX, sZ6, sZ4, sB, sK1, sK3]; omega) | omega
        have sz4b : ¬ 9223372036854775807 < (S ++ ⟨#[80, 75, 1, 2]⟩ ++ A ++ C).size + Z6.size := by first | (simp only [ByteArray.size_append, sA, sC, sX, sZ6, sZ4, sB, sK1, sK3]; omega) | omega
        have sy5b : ¬ 9223372036854775807 < S.size + 4 + A.size + C.size + Z6.size + Z4.size := by first | (simp only [ByteArray.size_append, sA, sC, sX, sZ6, sZ4, sB, sK1, sK3]; omega) | omega
        have sz5b : ¬ 9223372036854775807 < (S ++ ⟨#[80, 75, 1, 2]⟩ ++ A ++ C ++ Z6).size + Z4.size := by first | (simp only [ByteArray.size_append, sA, sC, sX, sZ6, sZ4, sB, sK1, sK3]; omega) | omega
        have sy6b : ¬ 9223372036854775807 < S.size + 4 + A.size + C.size + Z6.size + Z4.size + B.size := by first | (simp only [ByteArray.size_append, sA, sC, sX, sZ6, sZ4, sB, sK1, sK3]; omega) | omega
        have sz6b : ¬ 9223372036854775807 < (S ++ ⟨#[80, 75, 1, 2]⟩ ++ A ++ C ++ Z6 ++ Z4).size + B.size := by first | (simp only [ByteArray.size_append, sA, sC, sX, sZ6, sZ4, sB, sK1, sK3]; omega) | omega
        have sy7b : ¬ 9223372036854775807 < S.size + 4 + A.size + C.size + Z6.size + Z4.size + B.size + e.nm.size := by first | (simp only [ByteArray.size_append, sA, sC, sX, sZ6, sZ4, sB, sK1, sK3]; omega) | omega
        have sz7b : ¬ 9223372036854775807 < (S ++ ⟨#[80, 75, 1, 2]⟩ ++ A ++ C ++ Z6 ++ Z4 ++ B).size + e.nm.size := by first | (simp only [ByteArray.size_append, sA, sC, sX, sZ6, sZ4, sB, sK1, sK3]; omega) | omega
        have sy8b : ¬ 9223372036854775807 < S.size + 4 + A.size + C.size + Z6.size + Z4.size + B.size + e.nm.size + X.size := by first | (simp only [ByteArray.size_append, sA, sC, sX, sZ6, sZ4, sB, sK1, sK3]; omega) | omega
        have sz8b : ¬ 9223372036854775807 < (S ++ ⟨#[80, 75, 1, 2]⟩ ++ A ++ C ++ Z6 ++ Z4 ++ B ++ e.nm).size + X.size := by first | (simp only [ByteArray.size_append, sA, sC, sX, sZ6, sZ4, sB, sK1, sK3]; omega) | omega
        have HSZ : Hid (A.size = 2 ∧ C.size = 26 ∧ X.size = 26 ∧ Z6.size = 6 ∧ Z4.size = 4 ∧ B.size = 4 ∧ S.size ≤ 50000 ∧ T.size ≤ 50000 ∧ e.nm.size ≤ 8 ∧ e.pk.size ≤ 300) := ⟨sA, sC, sX, sZ6, sZ4, sB, hSl, hTl, hNl, hPl⟩
        clear x1 x2 hA he sN sP HT HE HX HL BS S4 HZ BK sM sA sC sX sZ6 sZ4 sZ2 sB sK1 sK3 sK5 hSl hTl hNl hPl
        go_wp2_with (first
          | (refine wpList_load9 rfl _ rfl b (off + i * 9) rfl e ?hA ?_; (case hA => exact (HR.out wr (Keeps.refl _ _)).1))
          | (refine wpList_alloc9 rfl rfl ?_; (fail_if_success (clear G5)); intro b7 w5 hE hK hb; have G5 : Hid (Entb w5 b7 Ent.zero ∧ Keeps (fun _ => False) wr w5 ∧ wr.heap.size ≤ b7) := ⟨hE, hK, hb⟩; clear hE hK hb)
          | (refine wpList_store9 rfl _ _ rfl b7 e rfl rfl Ent.zero ?hA ?_; (fail_if_success (clear G6)); (case hA => exact G5.out.1); intro w6 hE hK; have G6 : Hid (Entb w6 b7 e ∧ Keeps (fun _ => False) wr w6) := ⟨hE, G5.out.2.1.trans hK (fun k q1 q => by have := G5.out.2.2; omega)⟩; clear hE hK)
          | (refine wpList_load9 rfl _ rfl b7 0 rfl e ?hA ?_; (case hA => exact G6.out.1.at))
          | (go_at_call 25; refine (HR.out w6 G6.out.2).2.1.mono ?_; rintro r w7 ⟨rfl, h⟩; have G7 : Hid (Entb w7 b7 e ∧ Keeps (fun _ => False) wr w7) := ⟨G6.out.1.keptF h, G6.out.2.tr h⟩; clear h))
        have HY : Hid (∀ w', Keeps (fun _ => False) w7 w' → w'.cell? ⟨b7, 0, none⟩ = some (.string e.nm) ∧ w'.cell? ⟨b7, 1, none⟩ = some (.bool e.gn) ∧ w'.cell? ⟨b7, 2, none⟩ = some (.slice e.va e.vn e.vc) ∧ w'.cell? ⟨b7, 3, none⟩ = some (.int .i64 e.st) ∧ w'.cell? ⟨b7, 4, none⟩ = some (.int .i64 e.nd) ∧ w'.cell? ⟨b7, 5, none⟩ = some (.int .i64 e.mt) ∧ w'.cell? ⟨b7, 6, none⟩ = some (.string e.pk) ∧ w'.cell? ⟨b7, 7, none⟩ = some (.int .i64 e.sz) ∧ w'.cell? ⟨b7, 8, none⟩ = some (.int .i64 e.cr)) := fun w' hk => by
          have := G7.out.1.keptF hk
          exact ⟨this.c0, this.c1, this.c2, this.c3, this.c4, this.c5, this.c6, this.c7, this.c8⟩
        have HQ : Hid (∀ w', Keeps (fun _ => False) w7 w' → Calls Try.prog 27 #[.agg #[.string e.nm, .bool e.gn, .slice e.va e.vn e.vc, .int .i64 e.st, .int .i64 e.nd, .int .i64 e.mt, .string e.pk, .int .i64 e.sz, .int .i64 e.cr]] w' fun r w'' => r = .returned (.string C) ∧ Keeps (fun _ => False) w' w'') := fun w' hk => (HR.out w' (G7.out.2.tr hk)).2.2
        have D7 : Hid (Keeps (fun _ => False) w7 w7.drew) := (Keeps.refl _ _).drew
        have E7 : Hid (Keeps (fun _ => False) wr w7) := G7.out.2
        obtain ⟨m0, m1, m2, m3, m4, m5, m6, m7, m8⟩ := HY.out w7 (Keeps.refl _ _)
        clear G5 G6 G7 HR cr
        go_region_held3 (fun w' => w'.cell? ⟨b7, 0, none⟩ = some (.string e.nm) ∧ w'.cell? ⟨b7, 1, none⟩ = some (.bool e.gn) ∧ w'.cell? ⟨b7, 2, none⟩ = some (.slice e.va e.vn e.vc) ∧ w'.cell? ⟨b7, 3, none⟩ = some (.int .i64 e.st) ∧ w'.cell? ⟨b7, 4, none⟩ = some (.int .i64 e.nd) ∧ w'.cell? ⟨b7, 5, none⟩ = some (.int .i64 e.mt) ∧ w'.cell? ⟨b7, 6, none⟩ = some (.string e.pk) ∧ w'.cell? ⟨b7, 7, none⟩ = some (.int .i64 e.sz) ∧ w'.cell? ⟨b7, 8, none⟩ = some (.int .i64 e.cr)) (go_keep)
          (first
            | (go_at_call 26; (fail_if_success (clear K0)); refine (BA.out w7.drew).mono ?_; rintro r w8 ⟨rfl, h⟩; have K0 : Hid (Keeps (fun _ => False) w7 w8) := D7.out.tr h; obtain ⟨u0_0, u1_0, u2_0, u3_0, u4_0, u5_0, u6_0, u7_0, u8_0⟩ := HY.out w8 K0.out; clear h)
            | (go_at_call 27; (fail_if_success (clear K1)); refine (HQ.out w8 K0.out).mono ?_; rintro r w9 ⟨rfl, h⟩; have K1 : Hid (Keeps (fun _ => False) w7 w9) := K0.out.tr h; obtain ⟨u0_1, u1_1, u2_1, u3_1, u4_1, u5_1, u6_1, u7_1, u8_1⟩ := HY.out w9 K1.out; clear h)
            | (go_at_call 26; (fail_if_success (clear K2)); refine (BZ6.out w9).mono ?_; rintro r w10 ⟨rfl, h⟩; have K2 : Hid (Keeps (fun _ => False) w7 w10) := K1.out.tr h; obtain ⟨u0_2, u1_2, u2_2, u3_2, u4_2, u5_2, u6_2, u7_2, u8_2⟩ := HY.out w10 K2.out; clear h)
            | (go_at_call 26; (fail_if_success (clear K3)); refine (BZ4.out w10).mono ?_; rintro r w11 ⟨rfl, h⟩; have K3 : Hid (Keeps (fun _ => False) w7 w11) := K2.out.tr h; obtain ⟨u0_3, u1_3, u2_3, u3_3, u4_3, u5_3, u6_3, u7_3, u8_3⟩ := HY.out w11 K3.out; clear h)
            | (go_at_call 26; (fail_if_success (clear K4)); refine (HBT.out w11).mono ?_; rintro r w12 ⟨rfl, h⟩; have K4 : Hid (Keeps (fun _ => False) w7 w12) := K3.out.tr h; obtain ⟨u0_4, u1_4, u2_4, u3_4, u4_4, u5_4, u6_4, u7_4, u8_4⟩ := HY.out w12 K4.out; clear h))
        have D12 : Hid (Keeps (fun _ => False) w7 w12.drew) := K4.out.drew
        clear m0 m1 m2 m3 m4 m5 m6 m7 m8 u0_0 u1_0 u2_0 u3_0 u4_0 u5_0 u6_0 u7_0 u8_0 u0_1 u1_1 u2_1 u3_1 u4_1 u5_1 u6_1 u7_1 u8_1 u0_2 u1_2 u2_2 u3_2 u4_2 u5_2 u6_2 u7_2 u8_2 u0_3 u1_3 u2_3 u3_3 u4_3 u5_3 u6_3 u7_3 u8_3 K0 K1 K2 K3 D7
        obtain ⟨sA, sC, sX, sZ6, sZ4, sB, hSl, hTl, hNl, hPl⟩ := HSZ.out
        have sK3 : (ByteArray.mk #[80, 75, 3, 4]).size = 4 := rfl
        have sK1 : (ByteArray.mk #[80, 75, 1, 2]).size = 4 := rfl
        have tz1b : ¬ 9223372036854775807 < T.size + 4 := by first | (simp only [ByteArray.size_append, sA, sC, sX, sZ6, sZ4, sB, sK1, sK3]; omega) | omega
        have ty2b : ¬ 9223372036854775807 < T.size + 4 + C.size := by first | (simp only [ByteArray.size_append, sA, sC, sX, sZ6, sZ4, sB, sK1, sK3]; omega) | omega
        have tz2b : ¬ 9223372036854775807 < (T ++ ⟨#[80, 75, 3, 4]⟩).size + C.size := by first | (simp only [ByteArray.size_append, sA, sC, sX, sZ6, sZ4, sB, sK1, sK3]; omega) | omega
        have ty3b : ¬ 9223372036854775807 < T.size + 4 + C.size + e.nm.size := by first | (simp only [ByteArray.size_append, sA, sC, sX, sZ6, sZ4, sB, sK1, sK3]; omega) | omega
        have tz3b : ¬ 9223372036854775807 < (T ++ ⟨#[80, 75, 3, 4]⟩ ++ C).size + e.nm.size := by first | (simp only [ByteArray.size_append, sA, sC, sX, sZ6, sZ4, sB, sK1, sK3]; omega) | omega
        have ty4b : ¬ 9223372036854775807 < T.size + 4 + C.size + e.nm.size + X.size := by first | (simp only [ByteArray.size_append, sA, sC, sX, sZ6, sZ4, sB, sK1, sK3]; omega) | omega
        have tz4b : ¬ 9223372036854775807 < (T ++ ⟨#[80, 75, 3, 4]⟩ ++ C ++ e.nm).size + X.size := by first | (simp only [ByteArray.size_append, sA, sC, sX, sZ6, sZ4, sB, sK1, sK3]; omega) | omega
        have ty5b : ¬ 9223372036854775807 < T.size + 4 + C.size + e.nm.size + X.size + e.pk.size := by first | (simp only [ByteArray.size_append, sA, sC, sX, sZ6, sZ4, sB, sK1, sK3]; omega) | omega
        have tz5b : ¬ 9223372036854775807 < (T ++ ⟨#[80, 75, 3, 4]⟩ ++ C ++ e.nm ++ X).size + e.pk.size := by first | (simp only [ByteArray.size_append, sA, sC, sX, sZ6, sZ4, sB, sK1, sK3]; omega) | omega
        clear sA sC sX sZ6 sZ4 sB sK1 sK3 hSl hTl hNl hPl sy2b sy3b sy4b sy5b sy6b sy7b sy8b sz1b sz2b sz3b sz4b sz5b sz6b sz7b sz8b
        go_wp2
        go_region_held3 (fun w' => w'.cell? ⟨b7, 0, none⟩ = some (.string e.nm) ∧ w'.cell? ⟨b7, 1, none⟩ = some (.bool e.gn) ∧ w'.cell? ⟨b7, 2, none⟩ = some (.slice e.va e.vn e.vc) ∧ w'.cell? ⟨b7, 3, none⟩ = some (.int .i64 e.st) ∧ w'.cell? ⟨b7, 4, none⟩ = some (.int .i64 e.nd) ∧ w'.cell? ⟨b7, 5, none⟩ = some (.int .i64 e.mt) ∧ w'.cell? ⟨b7, 6, none⟩ = some (.string e.pk) ∧ w'.cell? ⟨b7, 7, none⟩ = some (.int .i64 e.sz) ∧ w'.cell? ⟨b7, 8, none⟩ = some (.int .i64 e.cr)) (go_keep)
          (first | (go_at_call 27; (fail_if_success (clear K5)); refine (HQ.out w12.drew D12.out).mono ?_; rintro r w13 ⟨rfl, h⟩; have K5 : Hid (Keeps (fun _ => False) w7 w13) := D12.out.tr h; obtain ⟨u0_5, u1_5, u2_5, u3_5, u4_5, u5_5, u6_5, u7_5, u8_5⟩ := HY.out w13 K5.out; clear h))
        go_wp2
        go_roundw
        case rel => exact ⟨i + 1, by omega, by push_cast; rfl, _, _, rfl, rfl, HX1.out.symm, HX2.out.symm, HCW.out.tr (E7.out.tr K5.out)⟩
        case measure => simp [intOf]; omega
      · obtain rfl : i = es.length := by omega
        have sTB := S4.out T.size
        have sSB := S4.out S.size
        have HBT : Hid (∀ w', Calls Try.prog 26 #[.int .i64 (T.size : Int), .int .i64 4] w' fun r w'' => r = .returned (.string (textOf (le 4 T.size))) ∧ Keeps (fun _ => False) w' w'') := fun w' => (BS.out T.size hTl w').mono (fun r w'' h => ⟨h.1, h.2.2⟩)
        have HBS : Hid (∀ w', Calls Try.prog 26 #[.int .i64 (S.size : Int), .int .i64 4] w' fun r w'' => r = .returned (.string (textOf (le 4 S.size))) ∧ Keeps (fun _ => False) w' w'') := fun w' => (BS.out S.size hSl w').mono (fun r w'' h => ⟨h.1, h.2.2⟩)
        have hzz := HZ.out
        rw [← HT.out.1, ← HT.out.2.1] at hzz
        generalize textOf (le 4 T.size) = TB at *
        generalize textOf (le 4 S.size) = SB at *
        have HZZ : Hid (T ++ S ++ ⟨#[80, 75, 5, 6]⟩ ++ Z4 ++ M ++ M ++ SB ++ TB ++ Z2 = ZZ) := hzz.symm
        have HK : Hid (Keeps (fun _ => False) w wr) := HW0.out.tr HT.out.2.2
        have qz1b : ¬ 9223372036854775807 < T.size + S.size := by first | (simp only [ByteArray.size_append, sZ4, sM, sSB, sTB, sZ2, sK5]; omega) | omega
        have qy2b : ¬ 9223372036854775807 < T.size + S.size + 4 := by first | (simp only [ByteArray.size_append, sZ4, sM, sSB, sTB, sZ2, sK5]; omega) | omega
        have qz2b : ¬ 9223372036854775807 < (T ++ S).size + 4 := by first | (simp only [ByteArray.size_append, sZ4, sM, sSB, sTB, sZ2, sK5]; omega) | omega
        have qy3b : ¬ 9223372036854775807 < T.size + S.size + 4 + Z4.size := by first | (simp only [ByteArray.size_append, sZ4, sM, sSB, sTB, sZ2, sK5]; omega) | omega
        have qz3b : ¬ 9223372036854775807 < (T ++ S ++ ⟨#[80, 75, 5, 6]⟩).size + Z4.size := by first | (simp only [ByteArray.size_append, sZ4, sM, sSB, sTB, sZ2, sK5]; omega) | omega
        have qy4b : ¬ 9223372036854775807 < T.size + S.size + 4 + Z4.size + M.size := by first | (simp only [ByteArray.size_append, sZ4, sM, sSB, sTB, sZ2, sK5]; omega) | omega
        have qz4b : ¬ 9223372036854775807 < (T ++ S ++ ⟨#[80, 75, 5, 6]⟩ ++ Z4).size + M.size := by first | (simp only [ByteArray.size_append, sZ4, sM, sSB, sTB, sZ2, sK5]; omega) | omega
        have qy5b : ¬ 9223372036854775807 < T.size + S.size + 4 + Z4.size + M.size + M.size := by first | (simp only [ByteArray.size_append, sZ4, sM, sSB, sTB, sZ2, sK5]; omega) | omega
        have qz5b : ¬ 9223372036854775807 < (T ++ S ++ ⟨#[80, 75, 5, 6]⟩ ++ Z4 ++ M).size + M.size := by first | (simp only [ByteArray.size_append, sZ4, sM, sSB, sTB, sZ2, sK5]; omega) | omega
        have qy6b : ¬ 9223372036854775807 < T.size + S.size + 4 + Z4.size + M.size + M.size + SB.size := by first | (simp only [ByteArray.size_append, sZ4, sM, sSB, sTB, sZ2, sK5]; omega) | omega
        have qz6b : ¬ 9223372036854775807 < (T ++ S ++ ⟨#[80, 75, 5, 6]⟩ ++ Z4 ++ M ++ M).size + SB.size := by first | (simp only [ByteArray.size_append, sZ4, sM, sSB, sTB, sZ2, sK5]; omega) | omega
        have qy7b : ¬ 9223372036854775807 < T.size + S.size + 4 + Z4.size + M.size + M.size + SB.size + TB.size := by first | (simp only [ByteArray.size_append, sZ4, sM, sSB, sTB, sZ2, sK5]; omega) | omega
        have qz7b : ¬ 9223372036854775807 < (T ++ S ++ ⟨#[80, 75, 5, 6]⟩ ++ Z4 ++ M ++ M ++ SB).size + TB.size := by first | (simp only [ByteArray.size_append, sZ4, sM, sSB, sTB, sZ2, sK5]; omega) | omega
        have qy8b : ¬ 9223372036854775807 < T.size + S.size + 4 + Z4.size + M.size + M.size + SB.size + TB.size + Z2.size := by first | (simp only [ByteArray.size_append, sZ4, sM, sSB, sTB, sZ2, sK5]; omega) | omega
        have qz8b : ¬ 9223372036854775807 < (T ++ S ++ ⟨#[80, 75, 5, 6]⟩ ++ Z4 ++ M ++ M ++ SB ++ TB).size + Z2.size := by first | (simp only [ByteArray.size_append, sZ4, sM, sSB, sTB, sZ2, sK5]; omega) | omega
        clear hzz HZ HT HE HX HL BS S4
        go_wp2_with (first
          | (go_at_call 26; (fail_if_success (clear L0)); refine (BZ4.out wr).mono ?_; rintro r w20 ⟨rfl, h⟩; have L0 : Hid (Keeps (fun _ => False) w w20) := HK.out.tr h; clear h)
          | (go_at_call 26; (fail_if_success (clear L1)); refine (BK.out w20).mono ?_; rintro r w21 ⟨rfl, h⟩; have L1 : Hid (Keeps (fun _ => False) w w21) := L0.out.tr h; clear h)
          | (go_at_call 26; (fail_if_success (clear L2)); refine (BK.out w21).mono ?_; rintro r w22 ⟨rfl, h⟩; have L2 : Hid (Keeps (fun _ => False) w w22) := L1.out.tr h; clear h)
          | (go_at_call 26; (fail_if_success (clear L3)); refine (HBS.out w22).mono ?_; rintro r w23 ⟨rfl, h⟩; have L3 : Hid (Keeps (fun _ => False) w w23) := L2.out.tr h; clear h)
          | (go_at_call 26; (fail_if_success (clear L4)); refine (HBT.out w23).mono ?_; rintro r w24 ⟨rfl, h⟩; have L4 : Hid (Keeps (fun _ => False) w w24) := L3.out.tr h; clear h)
          | (go_at_call 26; (fail_if_success (clear L5)); refine (BZ2.out w24).mono ?_; rintro r w25 ⟨rfl, h⟩; have L5 : Hid (Keeps (fun _ => False) w w25) := L4.out.tr h; clear h))
        go_ret2
        exact ⟨by rw [← HZZ.out]; rfl, L5.out⟩

end Go.Proofs.Ythlaeeepbkfkgaa

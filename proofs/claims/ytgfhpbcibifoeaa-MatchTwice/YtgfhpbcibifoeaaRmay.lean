/-
  The document's TokensMay: the same answer.
-/
import Derived.Test.YtgfhpbcibifoeaaMay
namespace Go.Proofs.Ytgfhpbcibifoeaa
open Go.RowKit
set_option linter.unusedVariables false
set_option linter.unusedSimpArgs false

set_option maxHeartbeats 4000000 in
set_option maxRecDepth 1000000 in
theorem rmay_ok (a : Option Addr) (ts : List Tk) (cap : Nat) (w : World) (hR : RowT w a ts) (hl : ts.length ≤ 9223372036854775806) :
    Calls Try.prog 16 #[.slice a ts.length cap] w fun e w' => e = .returned (.bool (mayF 0 ts)) ∧ Keeps (fun _ => False) w w' := by
  have HR : Hid (RowT w a ts) := hR
  clear hR
  obtain ⟨N, hN⟩ : ∃ N, ts.length = N := ⟨_, rfl⟩
  rw [hN] at hl ⊢
  have HN : Hid (ts.length = N) := hN
  clear hN
  go_enter Try.func16, Try.ntmps16
  go_wp2
  go_loopw [3, 4] (fun s3 s4 w' => ∃ (i : Nat) (z : Int), i ≤ N ∧ 0 ≤ z ∧ z ≤ 8192 ∧ s3 = .int .i64 z ∧ s4 = .int .i64 (i : Int) ∧ Hid (mayF z (ts.drop i) = mayF 0 ts ∧ Keeps (fun _ => False) w w')) (fun s3 s4 w' => ((N : Int) - intOf s4).toNat)
  case atStart => exact ⟨0, 0, by omega, by omega, by omega, rfl, rfl, rfl, Keeps.refl _ _⟩
  case round =>
    obtain ⟨i, z, hi, hz0, hz1, rfl, rfl, HW⟩ := hrel
    by_cases hin : i < N
    · have hiz : (i : Int) < (N : Int) := by omega
      have hil : i < ts.length := by rw [HN.out]; exact hin
      obtain ⟨b, off, rfl, hb, hc⟩ := HR.out.at (by omega)
      have hT := hc wr HW.out.2 i hil
      clear hc
      have HD : Hid (mayF 0 ts = (okT (tk ts i) z && mayF (z + sz (tk ts i)) (ts.drop (i + 1)))) := by
        show _ = _
        rw [← HW.out.1, tk_drop i hil]; rfl
      obtain ⟨⟨l, n, d⟩, ht⟩ : ∃ t, tk ts i = t := ⟨_, rfl⟩
      rw [ht] at hT HD
      clear ht
      have HK := HW.out.2
      clear HW
      have HKr : Hid (Keeps (fun _ => False) w wr) := HK
      clear HK
      by_cases hn0 : n = 0
      · subst hn0
        have hS : sz (l, 0, d) = 1 := by simp [sz]; omega
        rw [hS] at HD
        by_cases hok : isB (l, 0, d) = true
        · obtain ⟨e1, e2, _, e3⟩ := isB_iff hok
          simp only at e1 e2 e3
          subst e3
          have e1' : ¬ l < 0 := by omega
          have e2' : ¬ 255 < l := by omega
          by_cases hz : z + 1 ≤ 8192
          · have hz' : ¬ 8192 < z + 1 := by omega
            have HX : Hid (mayF (z + 1) (ts.drop (i + 1)) = mayF 0 ts) := by show _ = _; rw [HD.out]; unfold okT; rw [hok, hS, decide_eq_true hz]; simp
            clear hok hS
            go_wp2_with (first
              | (refine wpList_load3 rfl _ rfl b (off + i * 3) rfl (l, 0, 0) ?hA ?_; (case hA => assumption))
              | (refine wpList_alloc3 rfl rfl ?_; intro b5 w2 hT2 hK2 hb5; have HK2 : Hid (Keeps (fun _ => False) w w2) := HKr.out.trans hK2 (fun _ _ h => h); have HB5 : Hid (w.heap.size ≤ b5) := (by have := HKr.out.size; show _ ≤ _; omega); clear hK2 hb5)
              | (refine wpList_store3 rfl _ _ rfl b5 (l, 0, 0) rfl rfl (0, 0, 0) ?hA ?_; (case hA => assumption); intro w3 hT3 hK3; have HK3 : Hid (Keeps (fun _ => False) w w3) := HK2.out.trans hK3 (fun i hi h => by have := HB5.out; omega); obtain ⟨c0, c1, c2⟩ : w3.cell? ⟨b5, 0, none⟩ = some (.int .i64 l) ∧ w3.cell? ⟨b5, 1, none⟩ = some (.int .i64 0) ∧ w3.cell? ⟨b5, 2, none⟩ = some (.int .i64 0) := hT3.at; clear hK3 hT2 hT3))
            go_roundw
            case rel => exact ⟨i + 1, z + 1, by omega, by omega, by omega, rfl, by push_cast; rfl, HX.out, HK3.out⟩
            case measure => simp [intOf]; omega
          · have hz' : 8192 < z + 1 := by omega
            have HX : Hid (mayF 0 ts = false) := by show _ = _; rw [HD.out]; unfold okT; rw [hok, hS, decide_eq_false hz]; simp
            clear hok hS
            go_wp2_with (first
              | (refine wpList_load3 rfl _ rfl b (off + i * 3) rfl (l, 0, 0) ?hA ?_; (case hA => assumption))
              | (refine wpList_alloc3 rfl rfl ?_; intro b5 w2 hT2 hK2 hb5; have HK2 : Hid (Keeps (fun _ => False) w w2) := HKr.out.trans hK2 (fun _ _ h => h); have HB5 : Hid (w.heap.size ≤ b5) := (by have := HKr.out.size; show _ ≤ _; omega); clear hK2 hb5)
              | (refine wpList_store3 rfl _ _ rfl b5 (l, 0, 0) rfl rfl (0, 0, 0) ?hA ?_; (case hA => assumption); intro w3 hT3 hK3; have HK3 : Hid (Keeps (fun _ => False) w w3) := HK2.out.trans hK3 (fun i hi h => by have := HB5.out; omega); obtain ⟨c0, c1, c2⟩ : w3.cell? ⟨b5, 0, none⟩ = some (.int .i64 l) ∧ w3.cell? ⟨b5, 1, none⟩ = some (.int .i64 0) ∧ w3.cell? ⟨b5, 2, none⟩ = some (.int .i64 0) := hT3.at; clear hK3 hT2 hT3))
            go_ret
            exact ⟨by rw [HX.out]; rfl, HK3.out⟩
        · have hk : isC (l, 0, d) z = false := by simp [isC]
          have HX : Hid (mayF 0 ts = false) := by show _ = _; rw [HD.out]; unfold okT; rw [hk, eq_false_of_ne_true hok]; simp
          have hbad : l < 0 ∨ (¬ l < 0 ∧ 255 < l) ∨ (¬ l < 0 ∧ ¬ 255 < l ∧ ¬ d = 0) := by simp [isB] at hok; omega
          clear hok hk hS
          rcases hbad with h1 | ⟨h1, h2⟩ | ⟨h1, h2, h3⟩
          all_goals
            go_wp2_with (first
              | (refine wpList_load3 rfl _ rfl b (off + i * 3) rfl (l, 0, d) ?hA ?_; (case hA => assumption))
              | (refine wpList_alloc3 rfl rfl ?_; intro b5 w2 hT2 hK2 hb5; have HK2 : Hid (Keeps (fun _ => False) w w2) := HKr.out.trans hK2 (fun _ _ h => h); have HB5 : Hid (w.heap.size ≤ b5) := (by have := HKr.out.size; show _ ≤ _; omega); clear hK2 hb5)
              | (refine wpList_store3 rfl _ _ rfl b5 (l, 0, d) rfl rfl (0, 0, 0) ?hA ?_; (case hA => assumption); intro w3 hT3 hK3; have HK3 : Hid (Keeps (fun _ => False) w w3) := HK2.out.trans hK3 (fun i hi h => by have := HB5.out; omega); obtain ⟨c0, c1, c2⟩ : w3.cell? ⟨b5, 0, none⟩ = some (.int .i64 l) ∧ w3.cell? ⟨b5, 1, none⟩ = some (.int .i64 0) ∧ w3.cell? ⟨b5, 2, none⟩ = some (.int .i64 d) := hT3.at; clear hK3 hT2 hT3))
            go_ret
            exact ⟨by rw [HX.out]; rfl, HK3.out⟩
      · by_cases hok : isC (l, n, d) z = true
        · obtain ⟨e1, e2, e3, e4, e5, e6⟩ := isC_iff hok
          simp only at e1 e2 e3 e4 e5 e6
          subst e1
          have hS : sz (0, n, d) = n := by simp [sz]; omega
          rw [hS] at HD
          have e2' : ¬ n < 3 := by omega
          have e3' : ¬ 258 < n := by omega
          have e4' : ¬ d < 1 := by omega
          have e5' : ¬ 32768 < d := by omega
          have e6' : ¬ z < d := by omega
          by_cases hz : z + n ≤ 8192
          · have hz' : ¬ 8192 < z + n := by omega
            have HX : Hid (mayF (z + n) (ts.drop (i + 1)) = mayF 0 ts) := by show _ = _; rw [HD.out]; unfold okT; rw [hok, hS, decide_eq_true hz]; simp
            clear hok hS
            go_wp2_with (first
              | (refine wpList_load3 rfl _ rfl b (off + i * 3) rfl (0, n, d) ?hA ?_; (case hA => assumption))
              | (refine wpList_alloc3 rfl rfl ?_; intro b5 w2 hT2 hK2 hb5; have HK2 : Hid (Keeps (fun _ => False) w w2) := HKr.out.trans hK2 (fun _ _ h => h); have HB5 : Hid (w.heap.size ≤ b5) := (by have := HKr.out.size; show _ ≤ _; omega); clear hK2 hb5)
              | (refine wpList_store3 rfl _ _ rfl b5 (0, n, d) rfl rfl (0, 0, 0) ?hA ?_; (case hA => assumption); intro w3 hT3 hK3; have HK3 : Hid (Keeps (fun _ => False) w w3) := HK2.out.trans hK3 (fun i hi h => by have := HB5.out; omega); obtain ⟨c0, c1, c2⟩ : w3.cell? ⟨b5, 0, none⟩ = some (.int .i64 0) ∧ w3.cell? ⟨b5, 1, none⟩ = some (.int .i64 n) ∧ w3.cell? ⟨b5, 2, none⟩ = some (.int .i64 d) := hT3.at; clear hK3 hT2 hT3))
            go_roundw
            case rel => exact ⟨i + 1, z + n, by omega, by omega, by omega, rfl, by push_cast; rfl, HX.out, HK3.out⟩
            case measure => simp [intOf]; omega
          · have hz' : 8192 < z + n := by omega
            have HX : Hid (mayF 0 ts = false) := by show _ = _; rw [HD.out]; unfold okT; rw [hok, hS, decide_eq_false hz]; simp
            clear hok hS
            go_wp2_with (first
              | (refine wpList_load3 rfl _ rfl b (off + i * 3) rfl (0, n, d) ?hA ?_; (case hA => assumption))
              | (refine wpList_alloc3 rfl rfl ?_; intro b5 w2 hT2 hK2 hb5; have HK2 : Hid (Keeps (fun _ => False) w w2) := HKr.out.trans hK2 (fun _ _ h => h); have HB5 : Hid (w.heap.size ≤ b5) := (by have := HKr.out.size; show _ ≤ _; omega); clear hK2 hb5)
              | (refine wpList_store3 rfl _ _ rfl b5 (0, n, d) rfl rfl (0, 0, 0) ?hA ?_; (case hA => assumption); intro w3 hT3 hK3; have HK3 : Hid (Keeps (fun _ => False) w w3) := HK2.out.trans hK3 (fun i hi h => by have := HB5.out; omega); obtain ⟨c0, c1, c2⟩ : w3.cell? ⟨b5, 0, none⟩ = some (.int .i64 0) ∧ w3.cell? ⟨b5, 1, none⟩ = some (.int .i64 n) ∧ w3.cell? ⟨b5, 2, none⟩ = some (.int .i64 d) := hT3.at; clear hK3 hT2 hT3))
            go_ret
            exact ⟨by rw [HX.out]; rfl, HK3.out⟩
        · have hk : isB (l, n, d) = false := by simp [isB, hn0]
          have HX : Hid (mayF 0 ts = false) := by show _ = _; rw [HD.out]; unfold okT; rw [hk, eq_false_of_ne_true hok]; simp
          have hbad : n < 3 ∨ (¬ n < 3 ∧ 258 < n) ∨ (¬ n < 3 ∧ ¬ 258 < n ∧ d < 1) ∨ (¬ n < 3 ∧ ¬ 258 < n ∧ ¬ d < 1 ∧ 32768 < d) ∨ (¬ n < 3 ∧ ¬ 258 < n ∧ ¬ d < 1 ∧ ¬ 32768 < d ∧ z < d) ∨ (¬ n < 3 ∧ ¬ 258 < n ∧ ¬ d < 1 ∧ ¬ 32768 < d ∧ ¬ z < d ∧ ¬ l = 0) := by simp [isC] at hok; omega
          clear hok hk
          rcases hbad with h1 | ⟨h1, h2⟩ | ⟨h1, h2, h3⟩ | ⟨h1, h2, h3, h4⟩ | ⟨h1, h2, h3, h4, h5⟩ | ⟨h1, h2, h3, h4, h5, h6⟩
          all_goals
            go_wp2_with (first
              | (refine wpList_load3 rfl _ rfl b (off + i * 3) rfl (l, n, d) ?hA ?_; (case hA => assumption))
              | (refine wpList_alloc3 rfl rfl ?_; intro b5 w2 hT2 hK2 hb5; have HK2 : Hid (Keeps (fun _ => False) w w2) := HKr.out.trans hK2 (fun _ _ h => h); have HB5 : Hid (w.heap.size ≤ b5) := (by have := HKr.out.size; show _ ≤ _; omega); clear hK2 hb5)
              | (refine wpList_store3 rfl _ _ rfl b5 (l, n, d) rfl rfl (0, 0, 0) ?hA ?_; (case hA => assumption); intro w3 hT3 hK3; have HK3 : Hid (Keeps (fun _ => False) w w3) := HK2.out.trans hK3 (fun i hi h => by have := HB5.out; omega); obtain ⟨c0, c1, c2⟩ : w3.cell? ⟨b5, 0, none⟩ = some (.int .i64 l) ∧ w3.cell? ⟨b5, 1, none⟩ = some (.int .i64 n) ∧ w3.cell? ⟨b5, 2, none⟩ = some (.int .i64 d) := hT3.at; clear hK3 hT2 hT3))
            go_ret
            exact ⟨by rw [HX.out]; rfl, HK3.out⟩
    · obtain rfl : i = N := by omega
      have HX : Hid (mayF 0 ts = true) := by
        show _ = _
        rw [← HW.out.1, ← HN.out, List.drop_length]; rfl
      go_wp2
      go_ret
      exact ⟨by rw [HX.out]; rfl, HW.out.2⟩

end Go.Proofs.Ytgfhpbcibifoeaa

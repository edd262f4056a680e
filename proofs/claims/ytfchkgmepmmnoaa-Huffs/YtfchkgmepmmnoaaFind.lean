/-
  The calls Check and Find, and what a number of an error is.
-/
import Derived.Test.YtfchkgmepmmnoaaCount
namespace Go.Proofs.Ytfchkgmepmmnoaa
open Go.RowKit
set_option linter.unusedVariables false
set_option linter.unusedSimpArgs false

theorem num_any (n : Int) (w : World) : Calls Try.prog 15 #[.int .i64 n] w fun e w' => e = .returned (.int .i64 n) ∧ w' = w := by
  go_enter Try.func15, Try.ntmps15
  go_wp2
  go_ret
  exact ⟨rfl, rfl⟩

theorem nthL_drop (b : Int) (ys : List Int) (i k : Nat) (h : i < ys.length) : nthL b (ys.drop i) k i = if ys[i] = b then (if k = 0 then some i else nthL b (ys.drop (i + 1)) (k - 1) (i + 1)) else nthL b (ys.drop (i + 1)) k (i + 1) := by
  rw [List.drop_eq_getElem_cons h, nthL]

set_option maxHeartbeats 4000000 in
set_option maxRecDepth 1000000 in
theorem nth_ok (a : Option Addr) (ys : List Int) (cap : Nat) (x : Int) (k : Nat) (w : World) (hR : Row w a ys) (hl : ys.length ≤ 9223372036854775807) (hk : (k : Int) ≤ 9223372036854775807) :
    Calls Try.prog 24 #[.slice a ys.length cap, .int .i64 x, .int .i64 (k : Int)] w fun e w' => e = .returned (.tuple #[.int .i64 (((nthL x ys k 0).getD 0 : Nat) : Int), .bool (nthL x ys k 0).isSome]) ∧ w' = w := by
  obtain ⟨n, hn'⟩ : ∃ n, ys.length = n := ⟨_, rfl⟩
  obtain ⟨o, ho⟩ : ∃ o, nthL x ys k 0 = o := ⟨_, rfl⟩
  have HN : Hid (ys.length = n) := hn'
  have HO : Hid (nthL x (ys.drop 0) k 0 = o) := ho
  have HR : Hid (Row w a ys) := hR
  rw [hn'] at hl ⊢
  rw [ho]
  clear hR hn' ho
  go_enter Try.func24, Try.ntmps24
  go_wp2
  go_loopw [2, 12] (fun s2 s12 w' => ∃ i p : Nat, i ≤ n ∧ (p : Int) ≤ 9223372036854775807 ∧ s2 = .int .i64 (p : Int) ∧ s12 = .int .i64 (i : Int) ∧ w' = w ∧ Hid (nthL x (ys.drop i) p i = o)) (fun s2 s12 w' => ((n : Int) - intOf s12).toNat)
  case atStart => exact ⟨0, k, by omega, hk, rfl, rfl, rfl, HO⟩
  case round =>
    clear HO
    obtain ⟨i, p, hi, hp, rfl, rfl, rfl, HO⟩ := hrel
    by_cases hin : i < n
    · have hiz : (i : Int) < (n : Int) := by omega
      have hil : i < ys.length := by rw [HN.out]; exact hin
      obtain ⟨b, off, rfl, hb, hc⟩ := HR.out.spot (by omega)
      obtain ⟨y, hy⟩ : ∃ y, ys[i] = y := ⟨_, rfl⟩
      have hcell : wr.cell? ⟨b, off + i, none⟩ = some (.int .i64 y) := by rw [hc i hil, hy]
      have HO' : Hid ((if y = x then (if p = 0 then some i else nthL x (ys.drop (i + 1)) (p - 1) (i + 1)) else nthL x (ys.drop (i + 1)) p (i + 1)) = o) := by
        show _ = _; rw [← hy, ← nthL_drop x ys i p hil]; exact HO.out
      clear hc hy HO
      by_cases hyx : y = x
      · subst hyx
        by_cases hp0 : p = 0
        · subst hp0
          have ho : o = some i := by rw [← HO'.out]; simp
          subst ho
          clear HO'
          go_wp2
          go_ret2
          exact ⟨rfl, rfl⟩
        · have hpz : ¬ ((p : Int) = 0) := by omega
          have hw : IntKind.i64.wrap ((p : Int) - 1) = ((p - 1 : Nat) : Int) := by
            rw [IntWalk.i64_left, IntWalk.wrap64_in _ (by omega)]; omega
          go_wp2
          go_roundw
          case rel => exact ⟨i + 1, p - 1, by omega, by omega, rfl, by push_cast; rfl, trivial, by show _ = _; rw [← HO'.out, if_pos rfl, if_neg hp0]⟩
          case measure => simp [intOf]; omega
      · go_wp2
        go_roundw
        case rel => exact ⟨i + 1, p, by omega, by omega, rfl, by push_cast; rfl, trivial, by show _ = _; rw [← HO'.out, if_neg hyx]⟩
        case measure => simp [intOf]; omega
    · obtain rfl : i = n := by omega
      have ho : o = none := by rw [← HO.out, List.drop_of_length_le (by rw [HN.out]; omega)]; rfl
      subst ho
      clear HO
      go_wp2
      go_ret2
      exact ⟨rfl, rfl⟩

set_option maxHeartbeats 4000000 in
set_option maxRecDepth 1000000 in
theorem check_ok (a : Option Addr) (ys : List Int) (cap : Nat) (w : World) (hR : Row w a ys) (hl : ys.length ≤ 9223372036854775807) :
    Calls Try.prog 16 #[.slice a ys.length cap] w fun e w' => e = .returned (.int .i64 (errC ys)) ∧ Keeps (fun _ => False) w w' := by
  have HC : Hid (Calls Try.prog 25 #[.slice a ys.length cap] w fun e w'' => e = .returned (.tuple #[.agg (arrL (cArr (may ys) ys)).toArray, .int .i64 (cond (may ys) 0 300)]) ∧ Keeps (fun _ => False) w w'') := count_ok a ys cap w hR hl
  clear hR
  generalize ys.length = L at *
  cases ht : may ys
  · rw [ht] at HC
    have HE : Hid (errC ys = 300) := by show _ = _; simp [errC, ht]
    clear ht
    go_enter Try.func16, Try.ntmps16
    go_wp2_with (first
      | (go_at_call 25; refine HC.out.mono ?_; rintro e w2 ⟨rfl, hK2⟩; have HK2 : Hid (Keeps (fun _ => False) w w2) := hK2; clear hK2)
      | (refine wpList_alloc16 rfl rfl ?_; intro b3 w3 hA3 hK3 hb3; have HK3 : Hid (Keeps (fun _ => False) w w3) := HK2.out.trans hK3 (fun _ _ h => h); have HS : Hid (w.heap.size ≤ b3) := (by have := HK2.out.size; show _ ≤ _; omega); clear hK3)
      | (refine wpList_store16 rfl _ _ rfl b3 (cArr false ys) rfl rfl (fun _ => 0) ?hA ?_; (case hA => assumption); intro w4 hA4 hK4; have HK4 : Hid (Keeps (fun _ => False) w w4) := HK3.out.trans hK4 (fun i hi h => by have := HS.out; subst h; exact absurd hi (by omega)); clear hK4))
    go_ret
    exact ⟨by rw [HE.out]; rfl, HK4.out⟩
  · rw [ht] at HC
    have hle : ∀ i, cArr true ys i ≤ 288 := cArr_le true ys (fun _ => (may_len ht).2)
    have HCr : Hid (∀ w', Calls Try.prog 26 #[.agg (arrL (cArr true ys)).toArray] w' fun e w'' => e = .returned (.int .i64 (room ys : Nat)) ∧ Keeps (fun _ => False) w' w'') := fun w' => room_ok (cArr true ys) w' hle
    have HE : Hid (errC ys = cond (decide (32768 < room ys)) 301 (cond (decide (room ys < 32768)) 302 0)) := by show _ = _; simp [errC, ht]
    clear hle ht
    generalize room ys = r at *
    have hcs : (32768 < (r : Int)) ∨ (¬ (32768 < (r : Int)) ∧ (r : Int) < 32768) ∨ (¬ (32768 < (r : Int)) ∧ ¬ (r : Int) < 32768) := by omega
    rcases hcs with h1 | ⟨h1, h2⟩ | ⟨h1, h2⟩
    · go_enter Try.func16, Try.ntmps16
      go_wp2_with (first
        | (go_at_call 25; refine HC.out.mono ?_; rintro e w2 ⟨rfl, hK2⟩; have HK2 : Hid (Keeps (fun _ => False) w w2) := hK2; clear hK2)
        | (refine wpList_alloc16 rfl rfl ?_; intro b3 w3 hA3 hK3 hb3; have HK3 : Hid (Keeps (fun _ => False) w w3) := HK2.out.trans hK3 (fun _ _ h => h); have HS : Hid (w.heap.size ≤ b3) := (by have := HK2.out.size; show _ ≤ _; omega); clear hK3)
        | (refine wpList_store16 rfl _ _ rfl b3 (cArr true ys) rfl rfl (fun _ => 0) ?hA ?_; (case hA => assumption); intro w4 hA4 hK4; have HK4 : Hid (Keeps (fun _ => False) w w4) := HK3.out.trans hK4 (fun i hi h => by have := HS.out; subst h; exact absurd hi (by omega)); clear hK4)
        | (refine wpList_load16 rfl _ rfl _ rfl (cArr true ys) ?hA ?_; (case hA => assumption))
        | (go_at_call 26; (fail_if_success (clear HK5)); refine (HCr.out _).mono ?_; rintro e w5 ⟨rfl, hK5⟩; have hA7 := hA4.kept hK5 (fun h => h); have HK5 : Hid (Keeps (fun _ => False) w w5) := HK4.out.trans hK5 (fun _ _ h => h); clear hK5)
        | (go_at_call 26; refine (HCr.out _).mono ?_; rintro e w6 ⟨rfl, hK6⟩; have HK6 : Hid (Keeps (fun _ => False) w w6) := HK5.out.trans hK6 (fun _ _ h => h); clear hK6))
      go_ret
      exact ⟨by rw [HE.out, decide_eq_true (show 32768 < r by omega)]; rfl, HK5.out⟩
    · go_enter Try.func16, Try.ntmps16
      go_wp2_with (first
        | (go_at_call 25; refine HC.out.mono ?_; rintro e w2 ⟨rfl, hK2⟩; have HK2 : Hid (Keeps (fun _ => False) w w2) := hK2; clear hK2)
        | (refine wpList_alloc16 rfl rfl ?_; intro b3 w3 hA3 hK3 hb3; have HK3 : Hid (Keeps (fun _ => False) w w3) := HK2.out.trans hK3 (fun _ _ h => h); have HS : Hid (w.heap.size ≤ b3) := (by have := HK2.out.size; show _ ≤ _; omega); clear hK3)
        | (refine wpList_store16 rfl _ _ rfl b3 (cArr true ys) rfl rfl (fun _ => 0) ?hA ?_; (case hA => assumption); intro w4 hA4 hK4; have HK4 : Hid (Keeps (fun _ => False) w w4) := HK3.out.trans hK4 (fun i hi h => by have := HS.out; subst h; exact absurd hi (by omega)); clear hK4)
        | (refine wpList_load16 rfl _ rfl _ rfl (cArr true ys) ?hA ?_; (case hA => assumption))
        | (go_at_call 26; (fail_if_success (clear HK5)); refine (HCr.out _).mono ?_; rintro e w5 ⟨rfl, hK5⟩; have hA7 := hA4.kept hK5 (fun h => h); have HK5 : Hid (Keeps (fun _ => False) w w5) := HK4.out.trans hK5 (fun _ _ h => h); clear hK5)
        | (go_at_call 26; refine (HCr.out _).mono ?_; rintro e w6 ⟨rfl, hK6⟩; have HK6 : Hid (Keeps (fun _ => False) w w6) := HK5.out.trans hK6 (fun _ _ h => h); clear hK6))
      go_ret
      exact ⟨by rw [HE.out, decide_eq_false (show ¬ 32768 < r by omega), decide_eq_true (show r < 32768 by omega)]; rfl, HK6.out⟩
    · go_enter Try.func16, Try.ntmps16
      go_wp2_with (first
        | (go_at_call 25; refine HC.out.mono ?_; rintro e w2 ⟨rfl, hK2⟩; have HK2 : Hid (Keeps (fun _ => False) w w2) := hK2; clear hK2)
        | (refine wpList_alloc16 rfl rfl ?_; intro b3 w3 hA3 hK3 hb3; have HK3 : Hid (Keeps (fun _ => False) w w3) := HK2.out.trans hK3 (fun _ _ h => h); have HS : Hid (w.heap.size ≤ b3) := (by have := HK2.out.size; show _ ≤ _; omega); clear hK3)
        | (refine wpList_store16 rfl _ _ rfl b3 (cArr true ys) rfl rfl (fun _ => 0) ?hA ?_; (case hA => assumption); intro w4 hA4 hK4; have HK4 : Hid (Keeps (fun _ => False) w w4) := HK3.out.trans hK4 (fun i hi h => by have := HS.out; subst h; exact absurd hi (by omega)); clear hK4)
        | (refine wpList_load16 rfl _ rfl _ rfl (cArr true ys) ?hA ?_; (case hA => assumption))
        | (go_at_call 26; (fail_if_success (clear HK5)); refine (HCr.out _).mono ?_; rintro e w5 ⟨rfl, hK5⟩; have hA7 := hA4.kept hK5 (fun h => h); have HK5 : Hid (Keeps (fun _ => False) w w5) := HK4.out.trans hK5 (fun _ _ h => h); clear hK5)
        | (go_at_call 26; refine (HCr.out _).mono ?_; rintro e w6 ⟨rfl, hK6⟩; have HK6 : Hid (Keeps (fun _ => False) w w6) := HK5.out.trans hK6 (fun _ _ h => h); clear hK6))
      go_ret
      exact ⟨by rw [HE.out, decide_eq_false (show ¬ 32768 < r by omega), decide_eq_false (show ¬ r < 32768 by omega)]; rfl, HK6.out⟩

/-- What Find answers. -/
def foundL (ys : List Int) (b v : Int) : Option Nat := cond (fits ys) (findL ys b v) none

set_option maxHeartbeats 4000000 in
set_option maxRecDepth 1000000 in
theorem find_ok (a : Option Addr) (ys : List Int) (cap : Nat) (x v : Int) (w : World) (hR : Row w a ys) (hl : ys.length ≤ 9223372036854775807) (hv : v ≤ 9223372036854775807) :
    Calls Try.prog 12 #[.slice a ys.length cap, .int .i64 x, .int .i64 v] w fun e w' => e = .returned (.tuple #[.int .i64 (((foundL ys x v).getD 0 : Nat) : Int), .bool (foundL ys x v).isSome, .int .i64 (errF ys)]) ∧ Keeps (fun _ => False) w w' := by
  have HC : Hid (Calls Try.prog 22 #[.slice a ys.length cap] w fun e w'' => e = .returned (.tuple #[.agg (arrL (cArr (fits ys) ys)).toArray, .int .i64 (errF ys)]) ∧ Keeps (fun _ => False) w w'') := fitting_ok a ys cap w hR hl
  have HR : Hid (Row w a ys) := hR
  clear hR
  cases ht : fits ys
  · have he : errF ys ≠ 0 := fun h => by rw [errF_fits.1 h] at ht; exact absurd ht (by decide)
    have HO : Hid (foundL ys x v = none) := by show _ = _; simp [foundL, ht]
    rw [ht] at HC
    generalize errF ys = er at *
    generalize ys.length = L at *
    clear ht
    have hen : ¬ (er = 0) := he
    go_enter Try.func12, Try.ntmps12
    go_wp2_with (first
      | (go_at_call 22; refine HC.out.mono ?_; rintro e w2 ⟨rfl, hK2⟩; have HK2 : Hid (Keeps (fun _ => False) w w2) := hK2; clear hK2)
      | (refine wpList_alloc16 rfl rfl ?_; intro b3 w3 hA3 hK3 hb3; have HK3 : Hid (Keeps (fun _ => False) w w3) := HK2.out.trans hK3 (fun _ _ h => h); have HS : Hid (w.heap.size ≤ b3) := (by have := HK2.out.size; show _ ≤ _; omega); clear hK3)
      | (refine wpList_store16 rfl _ _ rfl b3 (cArr false ys) rfl rfl (fun _ => 0) ?hA ?_; (case hA => assumption); intro w4 hA4 hK4; have HK4 : Hid (Keeps (fun _ => False) w w4) := HK3.out.trans hK4 (fun i hi h => by have := HS.out; subst h; exact absurd hi (by omega)); clear hK4))
    go_ret3
    exact ⟨by rw [HO.out]; rfl, HK4.out⟩
  · have hm := fits_true ht
    have hlen := may_len hm.1
    have HO : Hid (foundL ys x v = findL ys x v) := by show _ = _; simp [foundL, ht]
    have he : errF ys = 0 := errF_fits.2 ht
    have hle : ∀ i, cArr true ys i ≤ 288 := cArr_le true ys (fun _ => (may_len hm.1).2)
    have HCr : Hid (∀ w', Calls Try.prog 23 #[.agg (arrL (cArr true ys)).toArray] w' fun e w'' => e = .returned (.agg (arrL (fstC (cn ys))).toArray) ∧ Keeps (fun _ => False) w' w'') := fun w' => firsts_ok (cArr true ys) w' hle
    rw [ht, he] at HC
    rw [he]
    clear ht hm he hle
    by_cases hx : 1 ≤ x ∧ x ≤ 15
    · obtain ⟨c, rfl⟩ : ∃ c : Nat, x = (c : Int) := ⟨x.toNat, by omega⟩
      have hx1 : ¬ (c : Int) < 1 := by omega
      have hx2 : ¬ 15 < (c : Int) := by omega
      have hix := arr_index (fstC (cn ys)) c (by omega)
      have hfs := fstC_small ys hlen.2 c (by omega)
      have HF1 : Hid (findL ys (c : Int) v = cond (decide ((fstC (cn ys) c : Int) ≤ v)) (nthL c ys (v - fstC (cn ys) c).toNat 0) none) := by
        show _ = _
        unfold findL
        rw [decide_eq_true (by omega : 1 ≤ (c : Int)), decide_eq_true (by omega : (c : Int) ≤ 15)]
        simp
      by_cases hvf : v < (fstC (cn ys) c : Int)
      · have HO2 : Hid (foundL ys (c : Int) v = none) := by show _ = _; rw [HO.out, HF1.out, decide_eq_false (by omega)]; rfl
        generalize ys.length = L at *
        clear HO HF1 hfs hlen
        generalize fstC (cn ys) c = q at *
        go_enter Try.func12, Try.ntmps12
        go_wp2_with (first
          | (go_at_call 22; refine HC.out.mono ?_; rintro e w2 ⟨rfl, hK2⟩; have HK2 : Hid (Keeps (fun _ => False) w w2) := hK2; clear hK2)
          | (refine wpList_alloc16 rfl rfl ?_; intro b3 w3 hA3 hK3 hb3; have HK3 : Hid (Keeps (fun _ => False) w w3) := HK2.out.trans hK3 (fun _ _ h => h); have HS : Hid (w.heap.size ≤ b3) := (by have := HK2.out.size; show _ ≤ _; omega); clear hK3)
          | (refine wpList_store16 rfl _ _ rfl b3 (cArr true ys) rfl rfl (fun _ => 0) ?hA ?_; (case hA => assumption); intro w4 hA4 hK4; have HK4 : Hid (Keeps (fun _ => False) w w4) := HK3.out.trans hK4 (fun i hi h => by have := HS.out; subst h; exact absurd hi (by omega)); clear hK4)
          | (refine wpList_load16 rfl _ rfl _ rfl (cArr true ys) ?hA ?_; (case hA => assumption))
          | (go_at_call 23; refine (HCr.out _).mono ?_; rintro e w5 ⟨rfl, hK5⟩; have HK5 : Hid (Keeps (fun _ => False) w w5) := HK4.out.trans hK5 (fun _ _ h => h); clear hK5))
        go_ret3
        exact ⟨by rw [HO2.out]; rfl, HK5.out⟩
      · obtain ⟨k, hk⟩ : ∃ k : Nat, v - (fstC (cn ys) c : Int) = (k : Int) := ⟨(v - (fstC (cn ys) c : Int)).toNat, by omega⟩
        have HO2 : Hid (foundL ys (c : Int) v = nthL c ys k 0) := by show _ = _; rw [HO.out, HF1.out, decide_eq_true (by omega), hk]; rfl
        have hkz : (k : Int) ≤ 9223372036854775807 := by omega
        have HCn : Hid (∀ w', Keeps (fun _ => False) w w' → Calls Try.prog 24 #[.slice a ys.length cap, .int .i64 (c : Int), .int .i64 (k : Int)] w' fun e w'' => e = .returned (.tuple #[.int .i64 (((nthL (c : Int) ys k 0).getD 0 : Nat) : Int), .bool (nthL (c : Int) ys k 0).isSome]) ∧ w'' = w') :=
          fun w' hk' => nth_ok a ys cap (c : Int) k w' (HR.out.keptF hk') hl hkz
        generalize ys.length = L at *
        clear HO HF1 hlen
        generalize fstC (cn ys) c = q at *
        have hwk : IntKind.i64.wrap (v - (q : Int)) = (k : Int) := by rw [IntWalk.i64_left, hk]; exact IntWalk.wrap64_in _ (by omega)
        have hwk' : wrap64 (v - (q : Int)) = (k : Int) := by rw [hk]; exact IntWalk.wrap64_in _ (by omega)
        have HV : Hid (v - (q : Int) = (k : Int)) := hk
        clear hk hfs
        generalize nthL (c : Int) ys k 0 = o at *
        go_enter Try.func12, Try.ntmps12
        go_wp2_with (first
          | (go_at_call 22; refine HC.out.mono ?_; rintro e w2 ⟨rfl, hK2⟩; have HK2 : Hid (Keeps (fun _ => False) w w2) := hK2; clear hK2)
          | (refine wpList_alloc16 rfl rfl ?_; intro b3 w3 hA3 hK3 hb3; have HK3 : Hid (Keeps (fun _ => False) w w3) := HK2.out.trans hK3 (fun _ _ h => h); have HS : Hid (w.heap.size ≤ b3) := (by have := HK2.out.size; show _ ≤ _; omega); clear hK3)
          | (refine wpList_store16 rfl _ _ rfl b3 (cArr true ys) rfl rfl (fun _ => 0) ?hA ?_; (case hA => assumption); intro w4 hA4 hK4; have HK4 : Hid (Keeps (fun _ => False) w w4) := HK3.out.trans hK4 (fun i hi h => by have := HS.out; subst h; exact absurd hi (by omega)); clear hK4)
          | (refine wpList_load16 rfl _ rfl _ rfl (cArr true ys) ?hA ?_; (case hA => assumption))
          | (go_at_call 23; refine (HCr.out _).mono ?_; rintro e w5 ⟨rfl, hK5⟩; have HK5 : Hid (Keeps (fun _ => False) w w5) := HK4.out.trans hK5 (fun _ _ h => h); clear hK5)
          | (go_at_call 24; refine (HCn.out _ HK5.out).mono ?_; rintro e w6 ⟨rfl, hw⟩; obtain rfl := hw.symm; clear hw))
        go_ret3
        exact ⟨by rw [HO2.out]; rfl, HK5.out⟩
    · have HO2 : Hid (foundL ys x v = none) := by
        show _ = _
        rw [HO.out]; unfold findL
        have e1 : (decide (1 ≤ x) && decide (x ≤ 15)) = false := by
          rw [Bool.and_eq_false_iff, decide_eq_false_iff_not, decide_eq_false_iff_not]; omega
        rw [e1]; rfl
      generalize ys.length = L at *
      clear HO hlen
      have hcs : x < 1 ∨ (¬ x < 1 ∧ 15 < x) := by omega
      clear hx
      rcases hcs with hx1 | ⟨hx1, hx2⟩
      · go_enter Try.func12, Try.ntmps12
        go_wp2_with (first
          | (go_at_call 22; refine HC.out.mono ?_; rintro e w2 ⟨rfl, hK2⟩; have HK2 : Hid (Keeps (fun _ => False) w w2) := hK2; clear hK2)
          | (refine wpList_alloc16 rfl rfl ?_; intro b3 w3 hA3 hK3 hb3; have HK3 : Hid (Keeps (fun _ => False) w w3) := HK2.out.trans hK3 (fun _ _ h => h); have HS : Hid (w.heap.size ≤ b3) := (by have := HK2.out.size; show _ ≤ _; omega); clear hK3)
          | (refine wpList_store16 rfl _ _ rfl b3 (cArr true ys) rfl rfl (fun _ => 0) ?hA ?_; (case hA => assumption); intro w4 hA4 hK4; have HK4 : Hid (Keeps (fun _ => False) w w4) := HK3.out.trans hK4 (fun i hi h => by have := HS.out; subst h; exact absurd hi (by omega)); clear hK4)
          | (refine wpList_load16 rfl _ rfl _ rfl (cArr true ys) ?hA ?_; (case hA => assumption))
          | (go_at_call 23; refine (HCr.out _).mono ?_; rintro e w5 ⟨rfl, hK5⟩; have HK5 : Hid (Keeps (fun _ => False) w w5) := HK4.out.trans hK5 (fun _ _ h => h); clear hK5))
        go_ret3
        exact ⟨by rw [HO2.out]; rfl, HK4.out⟩
      · go_enter Try.func12, Try.ntmps12
        go_wp2_with (first
          | (go_at_call 22; refine HC.out.mono ?_; rintro e w2 ⟨rfl, hK2⟩; have HK2 : Hid (Keeps (fun _ => False) w w2) := hK2; clear hK2)
          | (refine wpList_alloc16 rfl rfl ?_; intro b3 w3 hA3 hK3 hb3; have HK3 : Hid (Keeps (fun _ => False) w w3) := HK2.out.trans hK3 (fun _ _ h => h); have HS : Hid (w.heap.size ≤ b3) := (by have := HK2.out.size; show _ ≤ _; omega); clear hK3)
          | (refine wpList_store16 rfl _ _ rfl b3 (cArr true ys) rfl rfl (fun _ => 0) ?hA ?_; (case hA => assumption); intro w4 hA4 hK4; have HK4 : Hid (Keeps (fun _ => False) w w4) := HK3.out.trans hK4 (fun i hi h => by have := HS.out; subst h; exact absurd hi (by omega)); clear hK4)
          | (refine wpList_load16 rfl _ rfl _ rfl (cArr true ys) ?hA ?_; (case hA => assumption))
          | (go_at_call 23; refine (HCr.out _).mono ?_; rintro e w5 ⟨rfl, hK5⟩; have HK5 : Hid (Keeps (fun _ => False) w w5) := HK4.out.trans hK5 (fun _ _ h => h); clear hK5))
        go_ret3
        exact ⟨by rw [HO2.out]; rfl, HK4.out⟩

end Go.Proofs.Ytfchkgmepmmnoaa

/-
  InflateBound: what is told within a bound is told within each greater one, and with bytes behind.
-/
import Derived.Test.YtdbfbijalhknnaaForms
import Derived.Test.YtdbfbijalhknnaaBnd
namespace Go.Proofs.Ytdbfbijalhknnaa
open Go.RowKit
open Hf Tb
set_option linter.unusedVariables false
set_option linter.unusedSimpArgs false

theorem bytesOf_take (s : ByteArray) (k : Nat) : bytesOf (s.extract 0 k) = (bytesOf s).take k := by
  unfold bytesOf
  rw [ByteArray.data_extract, Array.toList_extract, List.extract_eq_drop_take', List.map_drop, List.map_take]
  simp
theorem bytesOf_app (s t : ByteArray) : bytesOf (s ++ t) = bytesOf s ++ bytesOf t := by
  unfold bytesOf
  rw [ByteArray.data_append, Array.toList_append, List.map_append]
theorem take_size (s : ByteArray) (k : Nat) : (s.extract 0 k).size ≤ s.size := by
  rw [← bytesOf_length, bytesOf_take, List.length_take, bytesOf_length]; omega
theorem app_size (s t : ByteArray) : (s ++ t).size = s.size + t.size := by
  rw [← bytesOf_length, bytesOf_app, List.length_append, bytesOf_length, bytesOf_length]

set_option maxHeartbeats 4000000 in
set_option maxRecDepth 100000 in
theorem bound_walk (s : ByteArray) (x : Int) (more : ByteArray) (w : World) (hG : GRow w) (hs : s.size ≤ 140737488355328) (hs2 : more.size ≤ 140737488355328) :
    Calls Try.prog 4 #[.string s, .int .i64 x, .string more] w fun e w' => e = .returned (.bool true) ∧ Below w.heap.size w w' := by
  have HA : Hid (Calls Try.prog 12 #[] w fun e w' => e = .returned (.bool true) ∧ Keeps (fun _ => False) w w' ∧ GRow w') := awake7 w hG
  obtain ⟨k, hk, hk1, hk2, hk3⟩ := u64_mod7 x 8193 (by decide) (by decide)
  have hk1' : (IntKind.u64.wrap x).tmod 8193 = (k : Int) := hk1
  have hk2' : IntKind.u64.wrap x % 8193 = (k : Int) := hk2
  have hkz : (k : Int) ≤ 8192 := by omega
  clear hk1 hk2
  have HC1 : Hid (∀ w, GRow w → Calls Try.prog 9 #[.string s, .int .i64 (k : Int)] w (InfPost (inflP (bytesOf s) (k : Int)) w)) := fun w h => inflate_ok s (k : Int) w (by omega) h
  rcases hR : inflP (bytesOf s) (k : Int) with er | ⟨o, t⟩
  · rw [hR] at HC1
    have her := inflP_err _ _ _ hR
    have hne := her.ne
    clear hR hG
    go_enter Try.func4, Try.ntmps4
    go_wp2_with fail
    refine HA.out.mono ?_
    rintro e w1 ⟨rfl, hk1⟩
    have H1 : Hid (Keeps (fun _ => False) w w1 ∧ GRow w1) := hk1
    clear hk1 HA
    go_wp2_with fail
    refine (HC1.out w1 H1.out.2).mono ?_
    rintro e w2 ⟨rfl, hk1⟩
    have H2 : Hid (Keeps (fun _ => False) w w2) := H1.out.1.trans hk1 (fun _ _ h => h)
    clear hk1 HC1 H1
    simp only [txR, tkR, erR]
    go_wp2_with (first
      | (go_at_call 11; refine (num_any _ _).mono ?_; rintro e w' ⟨rfl, hw⟩; obtain rfl := hw.symm; clear hw))
    go_ret
    exact ⟨rfl, H2.out.below _ (Nat.le_refl _) (fun _ h => h.elim)⟩
  · obtain ⟨b1, b2, b3, b4, b5, b6⟩ := bound_pure (bytesOf s) (bytesOf more) k (by omega) o t hR
    rw [bytesOf_length] at b3
    rw [hR] at HC1
    obtain ⟨T, hT⟩ : ∃ T, textOf o = T := ⟨_, rfl⟩
    have hTs : T.size = o.length := by rw [← hT, textOf_size]
    obtain ⟨n, hn⟩ : ∃ n, o.length = n := ⟨_, rfl⟩
    rw [hn] at hTs b1 b5
    have HC1' : Hid (∀ w, GRow w → Calls Try.prog 9 #[.string s, .int .i64 (k : Int)] w fun e w' => e = .returned (.tuple #[.string T, .int .i64 (t : Int), .int .i64 0]) ∧ Keeps (fun _ => False) w w' ∧ GRow w') := fun w h => by
      rw [← hT]
      exact (HC1.out w h).mono (fun e w' hp => ⟨hp.1, hp.2, h.keptF hp.2⟩)
    have HC2 : Hid (∀ w, GRow w → Calls Try.prog 9 #[.string (s.extract 0 t ++ more), .int .i64 8192] w fun e w' => e = .returned (.tuple #[.string T, .int .i64 (t : Int), .int .i64 0]) ∧ Keeps (fun _ => False) w w' ∧ GRow w') := fun w h => by
      have := inflate_ok (s.extract 0 t ++ more) 8192 w (by rw [app_size]; have := take_size s t; omega) h
      rw [bytesOf_app, bytesOf_take, b4] at this
      rw [← hT]
      exact this.mono (fun e w' hp => ⟨hp.1, hp.2, h.keptF hp.2⟩)
    have HC3 : Hid (0 < n → ∀ w, GRow w → Calls Try.prog 9 #[.string s, .int .i64 ((n : Int) - 1)] w fun e w' => e = .returned (.tuple #[.string ⟨#[]⟩, .int .i64 0, .int .i64 701]) ∧ Keeps (fun _ => False) w w' ∧ GRow w') := fun hn w h => by
      have := inflate_ok s ((n : Int) - 1) w (by omega) h
      rw [b5 hn] at this
      exact this.mono (fun e w' hp => ⟨hp.1, hp.2, h.keptF hp.2⟩)
    have HC4 : Hid (∀ w, GRow w → Calls Try.prog 9 #[.string (s.extract 0 (t - 1)), .int .i64 8192] w fun e w' => e = .returned (.tuple #[.string ⟨#[]⟩, .int .i64 0, .int .i64 700]) ∧ Keeps (fun _ => False) w w' ∧ GRow w') := fun w h => by
      have := inflate_ok (s.extract 0 (t - 1)) 8192 w (by have := take_size s (t - 1); omega) h
      rw [bytesOf_take, b6] at this
      exact this.mono (fun e w' hp => ⟨hp.1, hp.2, h.keptF hp.2⟩)
    have hb1 : (n : Int) ≤ (k : Int) := by omega
    have hb2 : (1 : Int) ≤ (t : Int) := by omega
    have hb3 : (t : Int) ≤ (s.size : Int) := by omega
    have hsz : (s.size : Int) ≤ 140737488355328 := by omega
    have hsz2 : (more.size : Int) ≤ 140737488355328 := by omega
    clear hR hG b4 b5 b6 HC1 hT hn hs hs2
    go_enter Try.func4, Try.ntmps4
    go_wp2_with fail
    refine HA.out.mono ?_
    rintro e w1 ⟨rfl, hk1⟩
    have H1 : Hid (Keeps (fun _ => False) w w1 ∧ GRow w1) := hk1
    clear hk1 HA
    go_wp2_with fail
    refine (HC1'.out w1 H1.out.2).mono ?_
    rintro e w2 ⟨rfl, hk1⟩
    have H2 : Hid (Keeps (fun _ => False) w w2 ∧ GRow w2) := ⟨H1.out.1.trans hk1.1 (fun _ _ h => h), hk1.2⟩
    clear hk1 HC1' H1
    go_wp2_with (first
      | (go_at_call 11; refine (num_any _ _).mono ?_; rintro e w' ⟨rfl, hw⟩; obtain rfl := hw.symm; clear hw))
    refine (HC2.out w2 H2.out.2).mono ?_
    rintro e w3 ⟨rfl, hk1⟩
    have H3 : Hid (Keeps (fun _ => False) w w3 ∧ GRow w3) := ⟨H2.out.1.trans hk1.1 (fun _ _ h => h), hk1.2⟩
    clear hk1 HC2 H2
    have ht1 : (t : Int) - 1 = ((t - 1 : Nat) : Int) := by omega
    have HT1 : Hid ((t : Int) - 1 = ((t - 1 : Nat) : Int)) := ht1
    clear ht1
    by_cases hn0 : 0 < n
    · have hnz : 0 < (n : Int) := by omega
      have HC3' := HC3.out hn0
      have HC3'' : Hid (∀ w, GRow w → Calls Try.prog 9 #[.string s, .int .i64 ((n : Int) - 1)] w fun e w' => e = .returned (.tuple #[.string ⟨#[]⟩, .int .i64 0, .int .i64 701]) ∧ Keeps (fun _ => False) w w' ∧ GRow w') := HC3'
      clear HC3' HC3
      go_wp2_with (first
        | (go_at_call 11; refine (num_any _ _).mono ?_; rintro e w' ⟨rfl, hw⟩; obtain rfl := hw.symm; clear hw))
      refine (HC3''.out w3 H3.out.2).mono ?_
      rintro e w4 ⟨rfl, hk1⟩
      have H4 : Hid (Keeps (fun _ => False) w w4 ∧ GRow w4) := ⟨H3.out.1.trans hk1.1 (fun _ _ h => h), hk1.2⟩
      clear hk1 HC3'' H3
      have ht1 := HT1.out
      go_wp2_with (first
        | (go_at_call 11; refine (num_any _ _).mono ?_; rintro e w' ⟨rfl, hw⟩; obtain rfl := hw.symm; clear hw))
      refine (HC4.out w4 H4.out.2).mono ?_
      rintro e w5 ⟨rfl, hk1⟩
      have H5 : Hid (Keeps (fun _ => False) w w5 ∧ GRow w5) := ⟨H4.out.1.trans hk1.1 (fun _ _ h => h), hk1.2⟩
      clear hk1 HC4 H4
      go_wp2_with (first
        | (go_at_call 11; refine (num_any _ _).mono ?_; rintro e w' ⟨rfl, hw⟩; obtain rfl := hw.symm; clear hw))
      go_ret
      exact ⟨rfl, H5.out.1.below _ (Nat.le_refl _) (fun _ h => h.elim)⟩
    · have hnz : ¬ 0 < (n : Int) := by omega
      clear HC3
      have ht1 := HT1.out
      go_wp2_with (first
        | (go_at_call 11; refine (num_any _ _).mono ?_; rintro e w' ⟨rfl, hw⟩; obtain rfl := hw.symm; clear hw))
      refine (HC4.out w3 H3.out.2).mono ?_
      rintro e w5 ⟨rfl, hk1⟩
      have H5 : Hid (Keeps (fun _ => False) w w5 ∧ GRow w5) := ⟨H3.out.1.trans hk1.1 (fun _ _ h => h), hk1.2⟩
      clear hk1 HC4 H3
      go_wp2_with (first
        | (go_at_call 11; refine (num_any _ _).mono ?_; rintro e w' ⟨rfl, hw⟩; obtain rfl := hw.symm; clear hw))
      go_ret
      exact ⟨rfl, H5.out.1.below _ (Nat.le_refl _) (fun _ h => h.elim)⟩

end Go.Proofs.Ytdbfbijalhknnaa

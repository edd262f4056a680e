/-
  InflateStored: stored blocks one behind the other.
-/
import Derived.Test.YtdbfbijalhknnaaBound
namespace Go.Proofs.Ytdbfbijalhknnaa
open Go.RowKit
open Hf Tb
set_option linter.unusedVariables false
set_option linter.unusedSimpArgs false

theorem bytesOf_lt (s : ByteArray) : ∀ c ∈ bytesOf s, c < 256 := by
  intro c hc
  simp only [bytesOf, List.mem_map] at hc
  obtain ⟨u, _, rfl⟩ := hc
  exact UInt8.toNat_lt _
theorem textOf_bytes (s : ByteArray) : textOf (bytesOf s) = s := by
  unfold textOf bytesOf
  rw [List.map_map]
  have : (UInt8.ofNat ∘ UInt8.toNat) = id := by funext u; simp
  rw [this, List.map_id]
theorem conv4 (w : World) (p q r t : Nat) (hp : p < 256) (hq : q < 256) (hr : r < 256) (ht : t < 256) :
    (convert 37 9 (.slice (some ⟨w.heap.size, 0, none⟩) 4 4)).run Try.prog (w.alloc (.cells #[.int .u8 (p : Int), .int .u8 (q : Int), .int .u8 (r : Int), .int .u8 (t : Int)] 5)) = .ok (.string (textOf [p, q, r, t])) (w.alloc (.cells #[.int .u8 (p : Int), .int .u8 (q : Int), .int .u8 (r : Int), .int .u8 (t : Int)] 5)) := by
  refine run_convert_bytes_back _ 37 9 5 ⟨w.heap.size, 0, none⟩ 4 ([p, q, r, t].map UInt8.ofNat) Try.underlying37 Try.underlying5 Try.underlying9 ?_
  intro j hj
  rw [List.length_map] at hj
  rw [addr_add, cell_of_heap (heap_alloc_new w _) (u := .int .u8 ((([p, q, r, t].map UInt8.ofNat)[j]'(by simpa using hj)).toNat : Int))]
  have hj4 : j < 4 := hj
  match j, hj4 with
  | 0, _ | 1, _ | 2, _ | 3, _ => simp; omega

set_option maxHeartbeats 2000000 in
set_option maxRecDepth 100000 in
theorem plainBlock_ok (s : ByteArray) (w : World) (hs : s.size ≤ 200) :
    Calls Try.prog 13 #[.string s] w fun e w' => ∃ T, e = .returned (.string T) ∧ bytesOf T = plainB (bytesOf s) ∧ Keeps (fun _ => False) w w' := by
  obtain ⟨n, hn⟩ : ∃ n, s.size = n := ⟨_, rfl⟩
  have HT : Hid (bytesOf (textOf [n, 0, 255 - n, 255] ++ s) = plainB (bytesOf s)) := by
    show _ = _
    rw [bytesOf_app, bytesOf_text _ (fun y hy => by simp at hy; omega)]
    unfold plainB
    rw [bytesOf_length, hn]
  have hcv := conv4 w n 0 (255 - n) 255 (by omega) (by omega) (by omega) (by omega)
  have hz : s.size = n := hn
  have h1 : (n : Int) ≤ 200 := by omega
  have hu1 : IntKind.u8.wrap (n : Int) = (n : Int) := by simp [IntKind.wrap, IntKind.bits, IntKind.signed]; omega
  have hd : (n : Int) / 2 ^ 8 = 0 := by omega
  have hd2 : (n : Int) / 256 = 0 := by omega
  have ha : bits .and .i64 (n : Int) 255 = (n : Int) := by
    have := i64_and_mask (n : Int) 8 (by omega)
    have e : ((2 ^ 8 - 1 : Nat) : Int) = 255 := rfl
    rw [e] at this
    rw [this]; omega
  have hsb : (255 : Int) - (n : Int) = ((255 - n : Nat) : Int) := by omega
  have hu2 : IntKind.u8.wrap ((255 - n : Nat) : Int) = ((255 - n : Nat) : Int) := by simp [IntKind.wrap, IntKind.bits, IntKind.signed]; omega
  obtain ⟨m, hm⟩ : ∃ m, 255 - n = m := ⟨_, rfl⟩
  rw [hm] at hcv hsb hu2 HT
  have HZ : Hid (s.size ≤ 200) := hs
  have hcv' : (convert 37 9 (.slice (some ⟨w.heap.size, 0, none⟩) 4 4)).run Try.prog (w.alloc (.cells #[.int .u8 (n : Int), .int .u8 0, .int .u8 (m : Int), .int .u8 255] 5)) = .ok (.string (textOf [n, 0, m, 255])) (w.alloc (.cells #[.int .u8 (n : Int), .int .u8 0, .int .u8 (m : Int), .int .u8 255] 5)) := hcv
  have hts : (textOf [n, 0, m, 255]).size = 4 := by rw [textOf_size]; rfl
  clear hn hm hs hcv
  generalize textOf [n, 0, m, 255] = T4 at *
  go_enter Try.func13, Try.ntmps13
  go_wp2
  go_ret
  exact ⟨_, rfl, HT.out, (Keeps.refl _ w).alloc _⟩

theorem eq_of_bytes {a b : ByteArray} (h : bytesOf a = bytesOf b) : a = b := by rw [← textOf_bytes a, ← textOf_bytes b, h]

set_option maxHeartbeats 4000000 in
set_option maxRecDepth 100000 in
theorem stored_walk (a b : ByteArray) (x : Int) (w : World) (hG : GRow w) (hs1 : a.size ≤ 140737488355328) (hs2 : b.size ≤ 140737488355328) :
    Calls Try.prog 6 #[.string a, .string b, .int .i64 x] w fun e w' => e = .returned (.bool true) ∧ Below w.heap.size w w' := by
  have HA : Hid (Calls Try.prog 12 #[] w fun e w' => e = .returned (.bool true) ∧ Keeps (fun _ => False) w w' ∧ GRow w') := awake7 w hG
  by_cases ha : 200 < a.size
  · have haz : 200 < (a.size : Int) := by omega
    clear hG
    go_enter Try.func6, Try.ntmps6
    go_wp2_with fail
    refine HA.out.mono ?_
    rintro e w1 ⟨rfl, hk1⟩
    have H1 : Hid (Keeps (fun _ => False) w w1) := hk1.1
    clear hk1 HA
    go_wp2
    go_ret
    exact ⟨rfl, H1.out.below _ (Nat.le_refl _) (fun _ h => h.elim)⟩
  · have haz : ¬ 200 < (a.size : Int) := by omega
    by_cases hb : 200 < b.size
    · have hbz : 200 < (b.size : Int) := by omega
      clear hG
      go_enter Try.func6, Try.ntmps6
      go_wp2_with fail
      refine HA.out.mono ?_
      rintro e w1 ⟨rfl, hk1⟩
      have H1 : Hid (Keeps (fun _ => False) w w1) := hk1.1
      clear hk1 HA
      go_wp2
      go_ret
      exact ⟨rfl, H1.out.below _ (Nat.le_refl _) (fun _ h => h.elim)⟩
    · have hbz : ¬ 200 < (b.size : Int) := by omega
      obtain ⟨k, hk, hk1, hk2, hk3⟩ := u64_mod7 x 500 (by decide) (by decide)
      have hk1' : (IntKind.u64.wrap x).tmod 500 = (k : Int) := hk1
      have hk2' : IntKind.u64.wrap x % 500 = (k : Int) := hk2
      have hkz : (k : Int) < 500 := by omega
      clear hk1 hk2
      have HP1 : Hid (∀ w, Calls Try.prog 13 #[.string a] w fun e w' => ∃ T, e = .returned (.string T) ∧ bytesOf T = plainB (bytesOf a) ∧ Keeps (fun _ => False) w w') := fun w => plainBlock_ok a w (by omega)
      have HP2 : Hid (∀ w, Calls Try.prog 13 #[.string b] w fun e w' => ∃ T, e = .returned (.string T) ∧ bytesOf T = plainB (bytesOf b) ∧ Keeps (fun _ => False) w w') := fun w => plainBlock_ok b w (by omega)
      have hab : (a.size : Int) + (b.size : Int) ≤ 400 := by omega
      have HAB : Hid (a.size ≤ 200 ∧ b.size ≤ 200) := ⟨by omega, by omega⟩
      clear hG ha hb
      go_enter Try.func6, Try.ntmps6
      go_wp2_with fail
      refine HA.out.mono ?_
      rintro e w1 ⟨rfl, hk1⟩
      have H1 : Hid (Keeps (fun _ => False) w w1 ∧ GRow w1) := hk1
      clear hk1 HA
      go_wp2_with fail
      refine (HP1.out w1).mono ?_
      rintro e w2 ⟨T1, rfl, hT1, hk1⟩
      have H2 : Hid (Keeps (fun _ => False) w w2 ∧ GRow w2 ∧ bytesOf T1 = plainB (bytesOf a)) := ⟨H1.out.1.trans hk1 (fun _ _ h => h), H1.out.2.keptF hk1, hT1⟩
      have z1 : (T1.size : Int) ≤ 300 := by
        have := congrArg List.length hT1
        unfold plainB at this
        simp [bytesOf_length] at this
        have := HAB.out; omega
      clear hk1 HP1 H1 hT1
      go_wp2_with fail
      refine (HP2.out w2).mono ?_
      rintro e w3 ⟨T2, rfl, hT2, hk1⟩
      have H3 : Hid (Keeps (fun _ => False) w w3 ∧ GRow w3 ∧ bytesOf T1 = plainB (bytesOf a) ∧ bytesOf T2 = plainB (bytesOf b)) := ⟨H2.out.1.trans hk1 (fun _ _ h => h), H2.out.2.1.keptF hk1, H2.out.2.2, hT2⟩
      have z2 : (T2.size : Int) ≤ 300 := by
        have := congrArg List.length hT2
        unfold plainB at this
        simp [bytesOf_length] at this
        have := HAB.out; omega
      clear hk1 HP2 H2 hT2
      go_wp2_with fail
      generalize hS : ((⟨#[0]⟩ : ByteArray) ++ T1 ++ (⟨#[1]⟩ : ByteArray) ++ T2) = S
      have hSb : bytesOf S = [0] ++ plainB (bytesOf a) ++ [1] ++ plainB (bytesOf b) := by
        rw [← hS, bytesOf_app, bytesOf_app, bytesOf_app, H3.out.2.2.1, H3.out.2.2.2]; rfl
      have hSz : S.size = ([0] ++ plainB (bytesOf a) ++ [1] ++ plainB (bytesOf b)).length := by rw [← hSb, bytesOf_length]
      have hS8 : S.size ≤ 1000 := by
        rw [hSz]
        unfold plainB
        simp [bytesOf_length]
        have := HAB.out; omega
      have habt : textOf (bytesOf a ++ bytesOf b) = a ++ b := by rw [← bytesOf_app, textOf_bytes]
      have la : (bytesOf a).length ≤ 200 := by rw [bytesOf_length]; exact HAB.out.1
      have lb : (bytesOf b).length ≤ 200 := by rw [bytesOf_length]; exact HAB.out.2
      have HC1 : Hid (∀ w, GRow w → Calls Try.prog 9 #[.string (S ++ ⟨#[116, 97, 105, 108]⟩), .int .i64 8192] w fun e w' => e = .returned (.tuple #[.string (a ++ b), .int .i64 (S.size : Int), .int .i64 0]) ∧ Keeps (fun _ => False) w w' ∧ GRow w') := fun w h => by
        have hi := inflate_ok (S ++ ⟨#[116, 97, 105, 108]⟩) 8192 w (by rw [app_size]; have : (⟨#[116, 97, 105, 108]⟩ : ByteArray).size = 4 := rfl; omega) h
        have hp := stored_pure 8192 (by omega) (bytesOf a) (bytesOf b) (bytesOf_lt a) (bytesOf_lt b) la lb (bytesOf ⟨#[116, 97, 105, 108]⟩)
        rw [if_pos (by omega)] at hp
        rw [bytesOf_app, hSb] at hi
        have hp' : inflP ([0] ++ plainB (bytesOf a) ++ [1] ++ plainB (bytesOf b) ++ bytesOf ⟨#[116, 97, 105, 108]⟩) 8192 = _ := hp
        rw [hp'] at hi
        refine hi.mono (fun e w' hq => ⟨?_, hq.2, h.keptF hq.2⟩)
        rw [hq.1, hSz, ← habt]; rfl
      have HC2 : Hid (∀ w, GRow w → Calls Try.prog 9 #[.string S, .int .i64 (k : Int)] w fun e w' => e = .returned (if a.size + b.size ≤ k then .tuple #[.string (a ++ b), .int .i64 (S.size : Int), .int .i64 0] else .tuple #[.string ⟨#[]⟩, .int .i64 0, .int .i64 701]) ∧ Keeps (fun _ => False) w w' ∧ GRow w') := fun w h => by
        have hi := inflate_ok S (k : Int) w (by omega) h
        have hp := stored_pure k (by omega) (bytesOf a) (bytesOf b) (bytesOf_lt a) (bytesOf_lt b) la lb []
        rw [List.append_nil, bytesOf_length, bytesOf_length] at hp
        rw [hSb, hp] at hi
        refine hi.mono (fun e w' hq => ⟨?_, hq.2, h.keptF hq.2⟩)
        rw [hq.1]
        by_cases c : a.size + b.size ≤ k
        · rw [if_pos c, if_pos c, hSz, ← habt]; rfl
        · rw [if_neg c, if_neg c]; rfl
      have hSi : (S.size : Int) ≤ 1000 := by omega
      have hza : (a ++ b).size = a.size + b.size := app_size a b
      clear hS hSb hSz habt la lb z1 z2
      refine (HC1.out w3 H3.out.2.1).mono ?_
      rintro e w4 ⟨rfl, hk1⟩
      have H4 : Hid (Keeps (fun _ => False) w w4 ∧ GRow w4) := ⟨H3.out.1.trans hk1.1 (fun _ _ h => h), hk1.2⟩
      clear hk1 HC1 H3
      by_cases hc : a.size + b.size ≤ k
      · have hcz : ¬ (k : Int) < (a.size : Int) + (b.size : Int) := by omega
        have HC2' : Hid (∀ w, GRow w → Calls Try.prog 9 #[.string S, .int .i64 (k : Int)] w fun e w' => e = .returned (.tuple #[.string (a ++ b), .int .i64 (S.size : Int), .int .i64 0]) ∧ Keeps (fun _ => False) w w' ∧ GRow w') := fun w h => by
          have := HC2.out w h; rw [if_pos hc] at this; exact this
        clear HC2
        go_wp2_with fail
        refine (HC2'.out w4 H4.out.2).mono ?_
        rintro e w5 ⟨rfl, hk1⟩
        have H5 : Hid (Keeps (fun _ => False) w w5) := H4.out.1.trans hk1.1 (fun _ _ h => h)
        clear hk1 HC2' H4
        go_wp2_with (first
          | (go_at_call 11; refine (num_any _ _).mono ?_; rintro e w' ⟨rfl, hw⟩; obtain rfl := hw.symm; clear hw))
        go_ret
        exact ⟨rfl, H5.out.below _ (Nat.le_refl _) (fun _ h => h.elim)⟩
      · have hcz : (k : Int) < (a.size : Int) + (b.size : Int) := by omega
        have HC2' : Hid (∀ w, GRow w → Calls Try.prog 9 #[.string S, .int .i64 (k : Int)] w fun e w' => e = .returned (.tuple #[.string ⟨#[]⟩, .int .i64 0, .int .i64 701]) ∧ Keeps (fun _ => False) w w' ∧ GRow w') := fun w h => by
          have := HC2.out w h; rw [if_neg hc] at this; exact this
        clear HC2
        go_wp2_with fail
        refine (HC2'.out w4 H4.out.2).mono ?_
        rintro e w5 ⟨rfl, hk1⟩
        have H5 : Hid (Keeps (fun _ => False) w w5) := H4.out.1.trans hk1.1 (fun _ _ h => h)
        clear hk1 HC2' H4
        go_wp2_with (first
          | (go_at_call 11; refine (num_any _ _).mono ?_; rintro e w' ⟨rfl, hw⟩; obtain rfl := hw.symm; clear hw))
        go_ret
        exact ⟨rfl, H5.out.below _ (Nat.le_refl _) (fun _ h => h.elim)⟩

end Go.Proofs.Ytdbfbijalhknnaa

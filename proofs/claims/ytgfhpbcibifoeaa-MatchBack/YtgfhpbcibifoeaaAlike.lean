/-
  How far two places of a text go alike.
-/
import Derived.Test.YtgfhpbcibifoeaaRowt
import Derived.BigQuiet
namespace Go.Proofs.Ytgfhpbcibifoeaa
open Go.RowKit
set_option linter.unusedVariables false
set_option linter.unusedSimpArgs false

set_option maxHeartbeats 4000000 in
set_option maxRecDepth 1000000 in
theorem alike_ok (s : ByteArray) (p d : Nat) (w : World) (hs : s.size ≤ 300) (hp : p < s.size) (hd : 1 ≤ d) (hdp : d ≤ p) :
    Calls Try.prog 27 #[.string s, .int .i64 (p : Int), .int .i64 (d : Int)] w fun e w' => e = .returned (.int .i64 (alk (bytesOf s) p (p - d) : Int)) ∧ Keeps (fun _ => False) w w' := by
  obtain ⟨M, hM⟩ : ∃ M, min (s.size - p) 258 = M := ⟨_, rfl⟩
  have hm : (if 258 < (s.size : Int) - (p : Int) then (258 : Int) else (s.size : Int) - (p : Int)) = (M : Int) := by split <;> omega
  have HF : Hid (alk (bytesOf s) p (p - d) = lead (alkF (bytesOf s) p (p - d)) M) := show _ = _ by unfold alk; rw [bytesOf_length, hM]
  have hM8 : M ≤ 258 := by omega
  have HM : Hid (min (s.size - p) 258 = M) := hM
  clear hM
  go_enter Try.func27, Try.ntmps27
  go_wp2
  clear hm
  go_loopw [8] (fun s8 w' => ∃ n : Nat, n ≤ M ∧ s8 = .int .i64 (n : Int) ∧ Hid (∀ i, i < n → alkF (bytesOf s) p (p - d) i = true) ∧ Hid (Keeps (fun _ => False) w w')) (fun s8 w' => ((M : Int) - intOf s8).toNat)
  case atStart => exact ⟨0, by omega, rfl, fun i h => absurd h (by omega), Keeps.refl _ _⟩
  case round =>
    obtain ⟨n, hn, rfl, HA, HK⟩ := hrel
    by_cases hin : n < M
    · have hnz : (n : Int) < (M : Int) := by omega
      obtain ⟨q, hq⟩ : ∃ q, q = p + n := ⟨_, rfl⟩
      obtain ⟨r, hr⟩ : ∃ r, r = q - d := ⟨_, rfl⟩
      have hqs : q < s.size := by have := HM.out; omega
      have hrs : r < s.size := by omega
      have hw1 : IntKind.i64.wrap ((p : Int) + (n : Int)) = (q : Int) := by rw [wrap_i64_small _ (by omega) (by omega)]; omega
      have hw2 : IntKind.i64.wrap ((q : Int) - (d : Int)) = (r : Int) := by rw [wrap_i64_small _ (by omega) (by omega)]; omega
      have HQ : Hid (q = p + n ∧ r = p - d + n) := ⟨hq, by omega⟩
      have HY : Hid (alkF (bytesOf s) p (p - d) n = (s[q].toNat == s[r].toNat)) := show _ = _ by
        unfold alkF
        rw [← HQ.out.1, ← HQ.out.2, yb_text s q hqs, yb_text s r hrs]
      clear hq hr
      by_cases e : s[q].toNat = s[r].toNat
      · have hb : (s[q].toNat == s[r].toNat) = true := by rw [e]; exact beq_self_eq_true _
        have hbz : ((s[q].toNat : Int) == (s[r].toNat : Int)) = true := by rw [e]; exact beq_self_eq_true _
        have HN : Hid (∀ i, i < n + 1 → alkF (bytesOf s) p (p - d) i = true) := fun i hi => by
          by_cases h : i = n
          · subst h; rw [HY.out]; exact hb
          · exact HA.out i (by omega)
        go_wp2
        go_quiet (fail)
        have HK' : Hid (Keeps (fun _ => False) w (wr.drewN nq)) := HK.out.drewN nq
        generalize wr.drewN nq = wn at *
        clear HK hb hbz e hw1 hw2 HY
        go_wp2
        go_roundw
        case rel => exact ⟨n + 1, by omega, by push_cast; rfl, HN, HK'⟩
        case measure => simp [intOf]; omega
      · have hb : (s[q].toNat == s[r].toNat) = false := by simpa using e
        have hbz : ((s[q].toNat : Int) == (s[r].toNat : Int)) = false := by rw [beq_eq_false_iff_ne]; omega
        have HE : Hid (alk (bytesOf s) p (p - d) = n) := by
          rw [HF.out]; exact lead_eq hn HA.out (.inr (by rw [HY.out]; exact hb))
        go_wp2
        go_quiet (fail)
        have HK' : Hid (Keeps (fun _ => False) w (wr.drewN nq)) := HK.out.drewN nq
        generalize wr.drewN nq = wn at *
        clear HK hb hbz e hw1 hw2 HY
        go_wp2
        go_ret
        exact ⟨by rw [HE.out]; rfl, HK'.out⟩
    · obtain rfl : n = M := by omega
      have HE : Hid (alk (bytesOf s) p (p - d) = n) := by
        rw [HF.out]; exact lead_eq hn HA.out (.inl rfl)
      go_wp2
      go_quiet (fail)
      have HK' : Hid (Keeps (fun _ => False) w (wr.drewN nq)) := HK.out.drewN nq
      generalize wr.drewN nq = wn at *
      go_wp2
      go_ret
      exact ⟨by rw [HE.out]; rfl, HK'.out⟩

set_option maxHeartbeats 4000000 in
set_option maxRecDepth 1000000 in
theorem same_ok (s : ByteArray) (p j : Nat) (w : World) (hs : s.size ≤ 300) (hp : p < s.size) (hd : j < p) :
    Calls Try.prog 23 #[.string s, .int .i64 (p : Int), .int .i64 (j : Int)] w fun e w' => e = .returned (.int .i64 (alk (bytesOf s) p j : Int)) ∧ Keeps (fun _ => False) w w' := by
  obtain ⟨M, hM⟩ : ∃ M, min (s.size - p) 258 = M := ⟨_, rfl⟩
  have HF : Hid (alk (bytesOf s) p j = lead (alkF (bytesOf s) p j) M) := show _ = _ by unfold alk; rw [bytesOf_length, hM]
  have hM8 : M ≤ 258 := by omega
  have HM : Hid (min (s.size - p) 258 = M) := hM
  clear hM
  go_enter Try.func23, Try.ntmps23
  go_wp2
  go_loopw [7] (fun s7 w' => ∃ n : Nat, n ≤ M ∧ s7 = .int .i64 (n : Int) ∧ Hid (∀ i, i < n → alkF (bytesOf s) p j i = true) ∧ Hid (Keeps (fun _ => False) w w')) (fun s7 w' => ((M : Int) - intOf s7).toNat)
  case atStart => exact ⟨0, by omega, rfl, fun i h => absurd h (by omega), Keeps.refl _ _⟩
  case round =>
    obtain ⟨n, hn, rfl, HA, HK⟩ := hrel
    by_cases hin : n < M
    · obtain ⟨q, hq⟩ : ∃ q, q = p + n := ⟨_, rfl⟩
      obtain ⟨r, hr⟩ : ∃ r, r = j + n := ⟨_, rfl⟩
      have hn0 : (n : Int) < 258 := by have := HM.out; omega
      have hqs : q < s.size := by have := HM.out; omega
      have hqz : (q : Int) < (s.size : Int) := by omega
      have hrs : r < s.size := by omega
      have hw1 : IntKind.i64.wrap ((p : Int) + (n : Int)) = (q : Int) := by rw [wrap_i64_small _ (by omega) (by omega)]; omega
      have hw2 : IntKind.i64.wrap ((j : Int) + (n : Int)) = (r : Int) := by rw [wrap_i64_small _ (by omega) (by omega)]; omega
      have HQ : Hid (q = p + n ∧ r = j + n) := ⟨hq, by omega⟩
      have HY : Hid (alkF (bytesOf s) p j n = (s[q].toNat == s[r].toNat)) := show _ = _ by
        unfold alkF
        rw [← HQ.out.1, ← HQ.out.2, yb_text s q hqs, yb_text s r hrs]
      clear hq hr
      by_cases e : s[q].toNat = s[r].toNat
      · have hb : (s[q].toNat == s[r].toNat) = true := by rw [e]; exact beq_self_eq_true _
        have hbz : ((s[q].toNat : Int) == (s[r].toNat : Int)) = true := by rw [e]; exact beq_self_eq_true _
        have HN : Hid (∀ i, i < n + 1 → alkF (bytesOf s) p j i = true) := fun i hi => by
          by_cases h : i = n
          · subst h; rw [HY.out]; exact hb
          · exact HA.out i (by omega)
        go_wp2
        go_quiet (fail)
        have HK' : Hid (Keeps (fun _ => False) w (wr.drewN nq)) := HK.out.drewN nq
        generalize wr.drewN nq = wn at *
        clear HK hb hbz e hw1 hw2 HY
        go_wp2
        go_roundw
        case rel => exact ⟨n + 1, by omega, by push_cast; rfl, HN, HK'⟩
        case measure => simp [intOf]; omega
      · have hb : (s[q].toNat == s[r].toNat) = false := by simpa using e
        have hbz : ((s[q].toNat : Int) == (s[r].toNat : Int)) = false := by rw [beq_eq_false_iff_ne]; omega
        have HE : Hid (alk (bytesOf s) p j = n) := by
          rw [HF.out]; exact lead_eq hn HA.out (.inr (by rw [HY.out]; exact hb))
        go_wp2
        go_quiet (fail)
        have HK' : Hid (Keeps (fun _ => False) w (wr.drewN nq)) := HK.out.drewN nq
        generalize wr.drewN nq = wn at *
        clear HK hb hbz e hw1 hw2 HY
        go_wp2
        go_ret
        exact ⟨by rw [HE.out]; rfl, HK'.out⟩
    · obtain rfl : n = M := by omega
      have HE : Hid (alk (bytesOf s) p j = n) := by
        rw [HF.out]; exact lead_eq hn HA.out (.inl rfl)
      by_cases h8 : n < 258
      · have hn0 : (n : Int) < 258 := by omega
        obtain ⟨q, hq⟩ : ∃ q, q = p + n := ⟨_, rfl⟩
        have hqs : q = s.size := by have := HM.out; omega
        have hqz : ¬ q < s.size := by omega
        have hqd : decide (q < s.size) = false := decide_eq_false hqz
        have hw1 : IntKind.i64.wrap ((p : Int) + (n : Int)) = (q : Int) := by rw [wrap_i64_small _ (by omega) (by omega)]; omega
        clear hq hqs
        go_wp2
        go_quiet (fail)
        have HK' : Hid (Keeps (fun _ => False) w (wr.drewN nq)) := HK.out.drewN nq
        generalize wr.drewN nq = wn at *
        go_wp2
        go_ret
        exact ⟨by rw [HE.out]; rfl, HK'.out⟩
      · obtain rfl : n = 258 := by omega
        go_wp2
        go_quiet (fail)
        have HK' : Hid (Keeps (fun _ => False) w (wr.drewN nq)) := HK.out.drewN nq
        generalize wr.drewN nq = wn at *
        go_wp2
        go_ret
        exact ⟨by rw [HE.out]; rfl, HK'.out⟩

end Go.Proofs.Ytgfhpbcibifoeaa

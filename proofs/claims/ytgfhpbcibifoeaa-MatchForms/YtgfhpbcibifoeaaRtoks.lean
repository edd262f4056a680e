/-
  The document's Tokens: the same tokens.
-/
import Derived.Test.YtgfhpbcibifoeaaToks
namespace Go.Proofs.Ytgfhpbcibifoeaa
open Go.RowKit
set_option linter.unusedVariables false
set_option linter.unusedSimpArgs false

theorem tok_rb (ys : List Nat) (p : Nat) : tok ys p = (if (rb ys p p).1 < 3 then ((yb ys p : Int), 0, 0) else (0, ((rb ys p p).1 : Int), ((rb ys p p).2 : Int))) ∧ szN ys p = if (rb ys p p).1 < 3 then 1 else (rb ys p p).1 := by
  unfold tok szN tokB
  rw [rb_best]
  by_cases h : (rb ys p p).1 < 3
  · rw [if_pos h, if_pos h, if_pos h]; exact ⟨rfl, rfl⟩
  · rw [if_neg h, if_neg h, if_neg h, if_neg (by omega), if_neg (by omega)]; exact ⟨rfl, rfl⟩
theorem rb_le (ys : List Nat) (p : Nat) : ∀ d, (rb ys p d).1 ≤ 258 ∧ (rb ys p d).2 ≤ d
  | 0 => by simp [rb]
  | d + 1 => by
    have := rb_le ys p d
    have h2 := alk_le ys p (p - (d + 1))
    simp only [rb]
    split
    · show alk ys p (p - (d + 1)) ≤ 258 ∧ d + 1 ≤ d + 1; omega
    · omega
theorem rb_next (ys : List Nat) (p d : Nat) : rb ys p (d + 1) = if (rb ys p d).1 < alk ys p (p - (d + 1)) then (alk ys p (p - (d + 1)), d + 1) else rb ys p d := rfl

set_option maxHeartbeats 4000000 in
set_option maxRecDepth 1000000 in
theorem rtokens_long (s : ByteArray) (w : World) (hs : ¬ s.size ≤ 300) (hb : s.size ≤ 140737488355328) : Calls Try.prog 10 #[.string s] w fun e w' => e = .returned (.tuple #[.slice none 0 0, .int .i64 500]) ∧ w' = w := by
  have hz : (300 : Int) < (s.size : Int) := by omega
  go_enter Try.func10, Try.ntmps10
  go_wp2
  go_ret2
  exact ⟨rfl, rfl⟩

set_option maxHeartbeats 4000000 in
set_option maxRecDepth 1000000 in
theorem rtokens_ok (s : ByteArray) (w : World) (hs : s.size ≤ 300) :
    Calls Try.prog 10 #[.string s] w fun e w' => ∃ K v, e = .returned (.tuple #[v, .int .i64 0]) ∧ step (bytesOf s) K = s.size ∧ OwnK w' w.heap.size v (toksN (bytesOf s) K) ∧ Keeps (fun _ => False) w w' := by
  have hz : ¬ (300 : Int) < (s.size : Int) := by omega
  have HC : Hid (∀ p j w', p < s.size → j < p → Calls Try.prog 23 #[.string s, .int .i64 (p : Int), .int .i64 (j : Int)] w' fun e w'' => e = .returned (.int .i64 (alk (bytesOf s) p j : Int)) ∧ Keeps (fun _ => False) w' w'') := fun p j w' hp hj => same_ok s p j w' hs hp hj
  go_enter Try.func10, Try.ntmps10
  go_wp2
  go_loopw [4, 5] (fun s4 s5 w' => ∃ (k p : Nat) (v : Value), s4 = v ∧ p ≤ s.size ∧ s5 = .int .i64 (p : Int) ∧ Hid (p = step (bytesOf s) k ∧ Told w w' v s k)) (fun s4 s5 w' => ((s.size : Int) - intOf s5).toNat)
  case atStart => exact ⟨0, 0, _, rfl, by omega, rfl, rfl, Nat.zero_le _, OwnK.nil _ _, Keeps.refl _ _⟩
  case round =>
    clear hz
    obtain ⟨k, p, v, hv, hp, rfl, HW⟩ := hrel
    obtain rfl := hv.symm
    clear hv
    by_cases hin : p < s.size
    · have hiz : (p : Int) < (s.size : Int) := by omega
      go_wp2
      obtain ⟨w0, rfl⟩ : ∃ w0, w0 = wr := ⟨_, rfl⟩
      go_loopw [6, 7, 8] (fun s6 s7 s8 w' => ∃ d m e : Nat, d ≤ p ∧ s6 = .int .i64 (m : Int) ∧ s7 = .int .i64 (e : Int) ∧ s8 = .int .i64 ((p : Int) - 1 - (d : Int)) ∧ m ≤ 258 ∧ e ≤ 300 ∧ Hid (rb (bytesOf s) p d = (m, e)) ∧ Hid (Keeps (fun _ => False) w0 w')) (fun s6 s7 s8 w' => (intOf s8 + 1).toNat)
      case atStart => exact ⟨0, 0, 0, by omega, rfl, rfl, by simp, by omega, by omega, rfl, Keeps.refl _ _⟩
      case round =>
        obtain ⟨d, m, e, hd, rfl, rfl, rfl, hm, he, HR, HK⟩ := hrel
        by_cases hdp : d < p
        · have hjz : (0 : Int) ≤ (p : Int) - 1 - (d : Int) := by omega
          have HC1 : Hid (∀ w', Calls Try.prog 23 #[.string s, .int .i64 (p : Int), .int .i64 ((p : Int) - 1 - (d : Int))] w' fun e w'' => e = .returned (.int .i64 (alk (bytesOf s) p (p - (d + 1)) : Int)) ∧ Keeps (fun _ => False) w' w'') := fun w' => by
            have := HC.out p (p - (d + 1)) w' hin (by omega)
            rw [show ((p - (d + 1) : Nat) : Int) = (p : Int) - 1 - (d : Int) by omega] at this
            exact this
          have hN := rb_next (bytesOf s) p d
          rw [HR.out] at hN
          have hkl := alk_le (bytesOf s) p (p - (d + 1))
          obtain ⟨q, hq⟩ : ∃ q, alk (bytesOf s) p (p - (d + 1)) = q := ⟨_, rfl⟩
          rw [hq] at hN HC1 hkl
          have hq8 : q ≤ 258 := by omega
          by_cases hmq : m < q
          · have hmz : (m : Int) < (q : Int) := by omega
            rw [if_pos hmq] at hN
            have HN : Hid (rb (bytesOf s) p (d + 1) = (q, d + 1)) := hN
            clear hN hq hkl HC
            go_wp2_with (first
              | (go_at_call 23; refine (HC1.out _).mono ?_; rintro e1 w4 ⟨rfl, hK4⟩; have HK4 : Hid (Keeps (fun _ => False) w0 w4) := HK.out.trans hK4 (fun _ _ h => h); clear hK4))
            go_roundw
            case rel => exact ⟨d + 1, q, d + 1, by omega, rfl, by congr 1; omega, by congr 1; omega, hq8, by omega, HN, HK4⟩
            case measure => simp [intOf]; omega
          · have hmz : ¬ (m : Int) < (q : Int) := by omega
            rw [if_neg hmq] at hN
            have HN : Hid (rb (bytesOf s) p (d + 1) = (m, e)) := hN
            clear hN hq hkl HC
            go_wp2_with (first
              | (go_at_call 23; refine (HC1.out _).mono ?_; rintro e1 w4 ⟨rfl, hK4⟩; have HK4 : Hid (Keeps (fun _ => False) w0 w4) := HK.out.trans hK4 (fun _ _ h => h); clear hK4))
            go_roundw
            case rel => exact ⟨d + 1, m, e, by omega, rfl, rfl, by congr 1; omega, hm, he, HN, HK4⟩
            case measure => simp [intOf]; omega
        · obtain rfl : d = p := by omega
          have hjz : ¬ (0 : Int) ≤ (d : Int) - 1 - (d : Int) := by omega
          obtain ⟨t1, t2⟩ := tok_rb (bytesOf s) d
          rw [HR.out] at t1 t2
          rw [yb_text s d hin] at t1
          have hle := szN_le (bytesOf s) d (by rw [bytesOf_length]; exact hin)
          rw [bytesOf_length] at hle
          have hsb : s[d].toNat < 256 := UInt8.toNat_lt _
          by_cases h3 : m < 3
          · have h3z : (m : Int) < 3 := by omega
            rw [if_pos h3] at t1 t2
            rw [t2] at hle
            have HT : Hid (tok (bytesOf s) d = ((s[d].toNat : Int), 0, 0) ∧ szN (bytesOf s) d = 1) := ⟨t1, t2⟩
            clear t1 t2 HC
            go_wp2_with (first
              | (refine wpList_tok rfl _ _ rfl rfl w.heap.size v (toksN (bytesOf s) k) rfl ?hown wr.heap.size ((s[d].toNat : Int), 0, 0) rfl ?hR ?hb ?hn ?_; (case hown => exact HW.out.2.2.1.keptF (HK.out.alloc _)); (case hR => exact (Tkb.new _ ((s[d].toNat : Int), 0, 0)).at); (case hb => exact Nat.le_trans HW.out.2.2.2.size (HK.out.alloc _).size); (case hn => rw [toksN_len]; have := HW.out.2.k; omega); rw [toksN_len]; intro g c w4 hO4 hG4 hg4; have HO4 : Hid (OwnK w4 w.heap.size (.slice (some ⟨g, 0, none⟩) (k + 1) c) (toksN (bytesOf s) k ++ [((s[d].toNat : Int), 0, 0)]) ∧ Keeps (fun b => v.ownBlock = some b) w0 w4) := ⟨hO4, (HK.out.alloc _).mono (fun _ _ h => h.elim) |>.grown hG4 (fun _ _ e => e)⟩; clear hO4 hG4 hg4))
            go_roundw
            case rel =>
              refine ⟨k + 1, d + 1, _, rfl, hle, by push_cast; rfl, ?_, ?_⟩
              · show d + 1 = step (bytesOf s) k + szN (bytesOf s) (step (bytesOf s) k)
                rw [← HW.out.1, HT.out.2]
              · refine HW.out.2.next (by rw [← HW.out.1]; exact hin) ?_ HO4.out.2 (Keeps.refl _ _)
                rw [← HW.out.1, HT.out.1]; exact HO4.out.1
            case measure => simp [intOf]; omega
          · have h3z : ¬ (m : Int) < 3 := by omega
            rw [if_neg h3] at t1 t2
            rw [t2] at hle
            have HT : Hid (tok (bytesOf s) d = (0, (m : Int), (e : Int)) ∧ szN (bytesOf s) d = m) := ⟨t1, t2⟩
            clear t1 t2 HC
            go_wp2_with (first
              | (refine wpList_tok rfl _ _ rfl rfl w.heap.size v (toksN (bytesOf s) k) rfl ?hown wr.heap.size (0, (m : Int), (e : Int)) rfl ?hR ?hb ?hn ?_; (case hown => exact HW.out.2.2.1.keptF (HK.out.alloc _)); (case hR => exact (Tkb.new _ (0, (m : Int), (e : Int))).at); (case hb => exact Nat.le_trans HW.out.2.2.2.size (HK.out.alloc _).size); (case hn => rw [toksN_len]; have := HW.out.2.k; omega); rw [toksN_len]; intro g c w4 hO4 hG4 hg4; have HO4 : Hid (OwnK w4 w.heap.size (.slice (some ⟨g, 0, none⟩) (k + 1) c) (toksN (bytesOf s) k ++ [(0, (m : Int), (e : Int))]) ∧ Keeps (fun b => v.ownBlock = some b) w0 w4) := ⟨hO4, (HK.out.alloc _).mono (fun _ _ h => h.elim) |>.grown hG4 (fun _ _ e => e)⟩; clear hO4 hG4 hg4))
            go_roundw
            case rel =>
              refine ⟨k + 1, d + m, _, rfl, hle, by push_cast; rfl, ?_, ?_⟩
              · show d + m = step (bytesOf s) k + szN (bytesOf s) (step (bytesOf s) k)
                rw [← HW.out.1, HT.out.2]
              · refine HW.out.2.next (by rw [← HW.out.1]; exact hin) ?_ HO4.out.2 (Keeps.refl _ _)
                rw [← HW.out.1, HT.out.1]; exact HO4.out.1
            case measure => simp [intOf]; omega
    · obtain rfl : p = s.size := by omega
      go_wp2
      go_ret2
      exact ⟨k, v, rfl, HW.out.1.symm, HW.out.2.2.1, HW.out.2.2.2⟩

end Go.Proofs.Ytgfhpbcibifoeaa

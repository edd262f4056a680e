/-
  The call Tokens: a text's tokens, from left to right.
-/
import Derived.Test.YtgfhpbcibifoeaaCell
namespace Go.Proofs.Ytgfhpbcibifoeaa
open Go.RowKit
set_option linter.unusedVariables false
set_option linter.unusedSimpArgs false

/-- What stands behind the first k tokens of a text. -/
def Told (w0 w : World) (v : Value) (s : ByteArray) (k : Nat) : Prop := step (bytesOf s) k ≤ s.size ∧ OwnK w w0.heap.size v (toksN (bytesOf s) k) ∧ Keeps (fun _ => False) w0 w
theorem Told.k {w0 w : World} {v : Value} {s : ByteArray} {k : Nat} (h : Told w0 w v s k) : k ≤ s.size := by
  have := step_grow (bytesOf s) 0 k
  simp only [Nat.zero_add] at this
  have := h.1
  omega
theorem Told.next {w0 w w1 w2 : World} {v v' : Value} {s : ByteArray} {k : Nat} (h : Told w0 w v s k) (hl : step (bytesOf s) k < s.size) (hO : OwnK w1 w0.heap.size v' (toksN (bytesOf s) k ++ [tok (bytesOf s) (step (bytesOf s) k)])) (hk : Keeps (fun b => v.ownBlock = some b) w w1) (hk2 : Keeps (fun _ => False) w1 w2) : Told w0 w2 v' s (k + 1) :=
  ⟨by rw [← bytesOf_length] at hl ⊢; exact step_le _ _ hl, hO.keptF hk2, (h.2.2.trans hk (fun i hi e => by have := (World.ownsRow.lt h.2.1 i e).1; omega)).trans hk2 (fun _ _ h => h)⟩

set_option maxHeartbeats 4000000 in
set_option maxRecDepth 1000000 in
theorem tokens_long (s : ByteArray) (w : World) (hs : ¬ s.size ≤ 300) (hb : s.size ≤ 140737488355328) : Calls Try.prog 9 #[.string s] w fun e w' => e = .returned (.tuple #[.slice none 0 0, .int .i64 500]) ∧ w' = w := by
  have hz : (300 : Int) < (s.size : Int) := by omega
  go_enter Try.func9, Try.ntmps9
  go_wp2
  go_ret2
  exact ⟨rfl, rfl⟩

theorem hk4 {w0 w w3 w4 : World} {v : Value} {ts : List Tk} {o : Obj} (hk : Keeps (fun _ => False) w w3) (hO : OwnK w w0.heap.size v ts) (hG : (w3.alloc o).grownBy w4 v.ownBlock) : Keeps (fun b => v.ownBlock = some b) w3 w4 :=
  ((Keeps.refl (fun b => v.ownBlock = some b) w3).alloc o).grown hG (fun k hk e => e)
theorem ne_own {w0 w : World} {v : Value} {ts : List Tk} {b : Nat} (hO : OwnK w w0.heap.size v ts) (hb : w.heap.size ≤ b) : ¬ v.ownBlock = some b := fun h => by
  have := (World.ownsRow.lt hO b h).2; omega

set_option maxHeartbeats 4000000 in
set_option maxRecDepth 1000000 in
theorem tokens_ok (s : ByteArray) (w : World) (hs : s.size ≤ 300) :
    Calls Try.prog 9 #[.string s] w fun e w' => ∃ K v, e = .returned (.tuple #[v, .int .i64 0]) ∧ step (bytesOf s) K = s.size ∧ OwnK w' w.heap.size v (toksN (bytesOf s) K) ∧ Keeps (fun _ => False) w w' := by
  have hz : ¬ (300 : Int) < (s.size : Int) := by omega
  have HC : Hid (∀ p w', p < s.size → Calls Try.prog 21 #[.string s, .int .i64 (p : Int)] w' fun e w'' => e = .returned (.agg #[.int .i64 (tok (bytesOf s) p).1, .int .i64 (tok (bytesOf s) p).2.1, .int .i64 (tok (bytesOf s) p).2.2]) ∧ Keeps (fun _ => False) w' w'') := fun p w' hp => longest_ok s p w' hs hp
  go_enter Try.func9, Try.ntmps9
  go_wp2
  go_loopw [4, 5] (fun s4 s5 w' => ∃ (k p : Nat) (v : Value), s4 = v ∧ p ≤ s.size ∧ s5 = .int .i64 (p : Int) ∧ Hid (p = step (bytesOf s) k ∧ Told w w' v s k)) (fun s4 s5 w' => ((s.size : Int) - intOf s5).toNat)
  case atStart => exact ⟨0, 0, _, rfl, by omega, rfl, rfl, Nat.zero_le _, OwnK.nil _ _, Keeps.refl _ _⟩
  case round =>
    clear hz
    obtain ⟨k, p, v, hv, hp, rfl, HW⟩ := hrel
    obtain rfl := hv.symm
    clear hv
    by_cases hin : p < s.size
    · have hiz : (p : Int) < (s.size : Int) := by omega
      have HL := HC.out p
      have hsz := sz_tok (bytesOf s) p
      have hpos := szN_pos (bytesOf s) p
      have hle := szN_le (bytesOf s) p (by rw [bytesOf_length]; exact hin)
      rw [bytesOf_length] at hle
      obtain ⟨t, ht⟩ : ∃ t, tok (bytesOf s) p = t := ⟨_, rfl⟩
      obtain ⟨m, hm⟩ : ∃ m, szN (bytesOf s) p = m := ⟨_, rfl⟩
      rw [ht] at hsz HL
      rw [hm] at hsz hpos hle
      have HP : Hid (tok (bytesOf s) p = t ∧ szN (bytesOf s) p = m ∧ sz t = (m : Int)) := ⟨ht, hm, hsz⟩
      have HCL : Hid (∀ w', Calls Try.prog 21 #[.string s, .int .i64 (p : Int)] w' fun e w'' => e = .returned (.agg #[.int .i64 t.1, .int .i64 t.2.1, .int .i64 t.2.2]) ∧ Keeps (fun _ => False) w' w'') := fun w' => HL w' hin
      clear ht hm hsz HL HC
      go_wp2_with (first
        | (go_at_call 21; refine (HCL.out _).mono ?_; rintro e w1 ⟨rfl, hK1⟩; have HK1 : Hid (Keeps (fun _ => False) wr w1) := hK1; clear hK1)
        | (refine wpList_alloc3 rfl rfl ?_; intro b6 w2 hT2 hK2 hb6; have HK2 : Hid (Keeps (fun _ => False) wr w2) := HK1.out.trans hK2 (fun _ _ h => h); have HB6 : Hid (wr.heap.size ≤ b6) := (by have := HK1.out.size; show _ ≤ _; omega); clear hK2 hb6)
        | (refine wpList_store3 rfl _ _ rfl b6 t rfl rfl (0, 0, 0) ?hA ?_; (case hA => assumption); intro w3 hT3 hK3; have HK3 : Hid (Keeps (fun _ => False) wr w3) := HK2.out.trans hK3 (fun i hi h => by have := HB6.out; omega); clear hK3 hT2)
        | (refine wpList_load3 rfl _ rfl b6 0 rfl t ?hA ?_; (case hA => exact (by assumption : Tkb _ b6 t).at))
        | (refine wpList_tok rfl _ _ rfl rfl w.heap.size v (toksN (bytesOf s) k) rfl ?hown w3.heap.size t rfl ?hR ?hb ?hn ?_; (case hown => exact HW.out.2.2.1.keptF (HK3.out.alloc _)); (case hR => exact (Tkb.new _ t).at); (case hb => exact Nat.le_trans HW.out.2.2.2.size (HK3.out.alloc _).size); (case hn => rw [toksN_len]; have := HW.out.2.k; omega); rw [toksN_len]; intro g c w4 hO4 hG4 hg4; have hT4 := hT3.kept (hk4 HK3.out HW.out.2.2.1 hG4) (ne_own HW.out.2.2.1 HB6.out); have HO4 : Hid (OwnK w4 w.heap.size (.slice (some ⟨g, 0, none⟩) (k + 1) c) (toksN (bytesOf s) k ++ [t]) ∧ Keeps (fun b => v.ownBlock = some b) wr w4) := ⟨hO4, (HK3.out.alloc _).mono (fun _ _ h => h.elim) |>.grown hG4 (fun _ _ e => e)⟩; clear hO4 hG4 hg4 hT3)
        | (go_at_call 22; refine (size_ok _ _ _ _).mono ?_; rintro e w5 ⟨rfl, hK5⟩; rw [show (t.1, t.2.1, t.2.2) = t from rfl, HP.out.2.2]))
      go_roundw
      case rel =>
        refine ⟨k + 1, p + m, _, rfl, hle, by push_cast; rfl, ?_, ?_⟩
        · show p + m = step (bytesOf s) k + szN (bytesOf s) (step (bytesOf s) k)
          rw [← HW.out.1, HP.out.2.1]
        · refine HW.out.2.next (by rw [← HW.out.1]; exact hin) ?_ HO4.out.2 hK5
          rw [← HW.out.1, HP.out.1]; exact HO4.out.1
      case measure => simp [intOf]; omega
    · obtain rfl : p = s.size := by omega
      go_wp2
      go_ret2
      exact ⟨k, v, rfl, HW.out.1.symm, HW.out.2.2.1, HW.out.2.2.2⟩

end Go.Proofs.Ytgfhpbcibifoeaa

/-
  Entries that are packed: they may be, and come to their text. EntryTexts: the walk of the statement.
-/
import Derived.Test.YtfbghchgfbjogaaGreatRows
import Derived.Test.YtfbghchgfbjogaaGreatT24
import Derived.ProofKit
import Derived.OpenShut
import Derived.ShutString
import Derived.SizedLaws
namespace Go.Proofs.YtfbghchgfbjogaaGreat.Zp
open Go.RowKit
set_option linter.unusedVariables false
set_option linter.unusedSimpArgs false

/-- The laws' packed entry. -/
def pkE (m : Int) (p : ByteArray) (n c : Int) (g : Nat) : Ent := ⟨⟨#[97]⟩, false, some ⟨g, 0, none⟩, 4, 4, 1, 1, m, p, n, c⟩
theorem pk_held (m : Int) (p s : ByteArray) (g : Nat) (hs : s.size ≤ 300) (hp : (m = 0 ∧ p.size = s.size) ∨ (m = 8 ∧ p.size ≤ 300)) : heldB (pkE m p (s.size : Int) ((Cr.joinS 0 s : Nat) : Int) g, [0, 1, 0, 0]) = true := by
  have hc := Cr.joinS_lt 0 s
  have h1 : headB [0, 1, 0, 0] 1 1 = true := by decide
  have h2 : textB (pkE m p (s.size : Int) ((Cr.joinS 0 s : Nat) : Int) g) = true := by
    have e : textB (pkE m p (s.size : Int) ((Cr.joinS 0 s : Nat) : Int) g) = (decide (0 ≤ ((Cr.joinS 0 s : Nat) : Int) ∧ ((Cr.joinS 0 s : Nat) : Int) ≤ 4294967295) && (decide (0 ≤ (s.size : Int) ∧ (s.size : Int) ≤ 300) && (decide (m = 0 ∧ (p.size : Int) = (s.size : Int)) || decide (m = 8 ∧ p.size ≤ 300)))) := rfl
    rw [e, decide_eq_true (show 0 ≤ ((Cr.joinS 0 s : Nat) : Int) ∧ ((Cr.joinS 0 s : Nat) : Int) ≤ 4294967295 by omega), decide_eq_true (show 0 ≤ (s.size : Int) ∧ (s.size : Int) ≤ 300 by omega)]
    rcases hp with ⟨q1, q2⟩ | ⟨q1, q2⟩
    · rw [decide_eq_true (show m = 0 ∧ (p.size : Int) = (s.size : Int) from ⟨q1, by omega⟩)]; rfl
    · rw [decide_eq_true (show m = 8 ∧ p.size ≤ 300 from ⟨q1, q2⟩), Bool.or_true]; rfl
  show (headB [0, 1, 0, 0] 1 1 && (Nm.nameB ⟨#[97]⟩ && textB (pkE m p (s.size : Int) ((Cr.joinS 0 s : Nat) : Int) g))) = true
  rw [h1, a_name, h2]; rfl
theorem pk_may (m : Int) (p s : ByteArray) (g : Nat) (hs : s.size ≤ 300) (hu : Bk.unT m p (s.size : Int) = (s, 0)) (hp : (m = 0 ∧ p.size = s.size) ∨ (m = 8 ∧ p.size ≤ 300)) : mayE (pkE m p (s.size : Int) ((Cr.joinS 0 s : Nat) : Int) g, [0, 1, 0, 0]) = true := by
  have h2 : okT (pkE m p (s.size : Int) ((Cr.joinS 0 s : Nat) : Int) g) = true := by
    show (decide ((Bk.unT m p (s.size : Int)).2 = 0) && decide (((Cr.joinS 0 (Bk.unT m p (s.size : Int)).1 : Nat) : Int) = ((Cr.joinS 0 s : Nat) : Int))) = true
    rw [hu]; simp
  show (heldB (pkE m p (s.size : Int) ((Cr.joinS 0 s : Nat) : Int) g, [0, 1, 0, 0]) && (false || okT (pkE m p (s.size : Int) ((Cr.joinS 0 s : Nat) : Int) g))) = true
  rw [pk_held m p s g hs hp, h2]; rfl
theorem pk_txt (m : Int) (p s : ByteArray) (g : Nat) (hs : s.size ≤ 300) (hu : Bk.unT m p (s.size : Int) = (s, 0)) (hp : (m = 0 ∧ p.size = s.size) ∨ (m = 8 ∧ p.size ≤ 300)) : txtE (pkE m p (s.size : Int) ((Cr.joinS 0 s : Nat) : Int) g, [0, 1, 0, 0]) = s ∧ tErr (pkE m p (s.size : Int) ((Cr.joinS 0 s : Nat) : Int) g, [0, 1, 0, 0]) = 0 := by
  have h := pk_may m p s g hs hu hp
  refine ⟨?_, ?_⟩
  · unfold txtE
    rw [h]
    show (Bk.unT m p (s.size : Int)).1 = s
    rw [hu]
  · unfold tErr
    rw [h]; rfl
theorem pk_packs (s : ByteArray) (hs : s.size ≤ 300) : (Bk.pkM s = 0 ∧ (Bk.pkT s).size = s.size) ∨ (Bk.pkM s = 8 ∧ (Bk.pkT s).size ≤ 300) := by
  unfold Bk.pkM Bk.pkT
  by_cases h : (Bk.defT s).size < s.size
  · rw [if_pos h, if_pos h]; exact .inr ⟨rfl, by omega⟩
  · rw [if_neg h, if_neg h]; exact .inl ⟨rfl, rfl⟩
theorem pk_liv {w w' w'' : World} {b : Nat} (m : Int) (p : ByteArray) (n c : Int) (hk : Keeps (fun _ => False) (w.alloc (.cells #[.int .i64 0, .int .i64 1, .int .i64 0, .int .i64 0] 3)) w') (hb : w.heap.size < b) (hs : Keeps (fun k => k = b) w' w'') (hp : p.size ≤ 300) : Liv w'' (pkE m p n c w.heap.size, [0, 1, 0, 0]) := by
  refine ⟨rfl, ?_, ⟨by show 4 * 8 + 4096 ≤ 140737488355328; decide, by show 1 + 4096 ≤ 140737488355328; decide, by show p.size + 4096 ≤ 140737488355328; omega⟩⟩
  have h1 : Row w' (some ⟨w.heap.size, 0, none⟩) [0, 1, 0, 0] := (Row.lit w [0, 1, 0, 0] 3).keptF hk
  exact h1.kept hs (fun x e q => by cases e; simp only at q; omega)

end Go.Proofs.YtfbghchgfbjogaaGreat.Zp

namespace Go.Proofs.YtfbghchgfbjogaaGreat.Zp
open Go.RowKit
set_option linter.unusedVariables false
set_option linter.unusedSimpArgs false

set_option maxHeartbeats 4000000 in
set_option maxRecDepth 1000000 in
theorem texts_long (s : ByteArray) (st : Bool) (w : World) (hs : ¬ s.size ≤ 300) : Calls Tryz.prog 5 #[.string s, .bool st] w fun r w' => r = .returned (.bool true) ∧ Keeps (fun _ => False) w w' := by
  have HA : Hid (∀ w', Calls Tryz.prog 16 #[] w' fun r w'' => r = .returned (.bool true) ∧ Keeps (fun _ => False) w' w'') := awake15_ok
  have hz : 300 < (s.size : Int) := by omega
  clear hs
  go_enter Tryz.func5, Tryz.ntmps5
  go_wp2_with (first
    | (go_at_call 16; refine (HA.out w).mono ?_; rintro r w0 ⟨rfl, h⟩; have A0 : Hid (Keeps (fun _ => False) w w0) := h; clear h))
  go_ret
  exact ⟨rfl, A0.out⟩

set_option maxHeartbeats 8000000 in
set_option maxRecDepth 1000000 in
theorem texts_st (s : ByteArray) (w : World) (hs : s.size ≤ 300) : Calls Tryz.prog 5 #[.string s, .bool true] w fun r w' => r = .returned (.bool true) ∧ Keeps (fun _ => False) w w' := by
  have HA : Hid (∀ w', Calls Tryz.prog 16 #[] w' fun r w'' => r = .returned (.bool true) ∧ Keeps (fun _ => False) w' w'') := awake15_ok
  have hz : ¬ 300 < (s.size : Int) := by omega
  have HP : Hid (∀ w', Calls Tryz.prog 17 #[.string s] w' fun r w'' => r = .returned (.tuple #[.int .i64 (Bk.pkM s), .string (Bk.pkT s), .int .i64 0]) ∧ Keeps (fun _ => False) w' w'') := fun w' => Bk.rpack_ok s w' hs
  have HC : Hid (∀ w', Calls Tryz.prog 18 #[.string s] w' fun r w'' => r = .returned (.int .i64 ((Cr.joinS 0 s : Nat) : Int)) ∧ w'' = w') := fun w' => Cr.rcrc_ok s w' (by omega)
  have HT : Hid (∀ g w', Liv w' (pkE 0 s (s.size : Int) ((Cr.joinS 0 s : Nat) : Int) g, [0, 1, 0, 0]) → (Calls Tryz.prog 7 #[.agg #[.string (pkE 0 s (s.size : Int) ((Cr.joinS 0 s : Nat) : Int) g).nm, .bool (pkE 0 s (s.size : Int) ((Cr.joinS 0 s : Nat) : Int) g).gn, .slice (pkE 0 s (s.size : Int) ((Cr.joinS 0 s : Nat) : Int) g).va (pkE 0 s (s.size : Int) ((Cr.joinS 0 s : Nat) : Int) g).vn (pkE 0 s (s.size : Int) ((Cr.joinS 0 s : Nat) : Int) g).vc, .int .i64 (pkE 0 s (s.size : Int) ((Cr.joinS 0 s : Nat) : Int) g).st, .int .i64 (pkE 0 s (s.size : Int) ((Cr.joinS 0 s : Nat) : Int) g).nd, .int .i64 (pkE 0 s (s.size : Int) ((Cr.joinS 0 s : Nat) : Int) g).mt, .string (pkE 0 s (s.size : Int) ((Cr.joinS 0 s : Nat) : Int) g).pk, .int .i64 (pkE 0 s (s.size : Int) ((Cr.joinS 0 s : Nat) : Int) g).sz, .int .i64 (pkE 0 s (s.size : Int) ((Cr.joinS 0 s : Nat) : Int) g).cr]] w' fun r w'' => r = .returned (.tuple #[.string s, .int .i64 0]) ∧ Keeps (fun _ => False) w' w'') ∧ (Calls Tryz.prog 13 #[.agg #[.string (pkE 0 s (s.size : Int) ((Cr.joinS 0 s : Nat) : Int) g).nm, .bool (pkE 0 s (s.size : Int) ((Cr.joinS 0 s : Nat) : Int) g).gn, .slice (pkE 0 s (s.size : Int) ((Cr.joinS 0 s : Nat) : Int) g).va (pkE 0 s (s.size : Int) ((Cr.joinS 0 s : Nat) : Int) g).vn (pkE 0 s (s.size : Int) ((Cr.joinS 0 s : Nat) : Int) g).vc, .int .i64 (pkE 0 s (s.size : Int) ((Cr.joinS 0 s : Nat) : Int) g).st, .int .i64 (pkE 0 s (s.size : Int) ((Cr.joinS 0 s : Nat) : Int) g).nd, .int .i64 (pkE 0 s (s.size : Int) ((Cr.joinS 0 s : Nat) : Int) g).mt, .string (pkE 0 s (s.size : Int) ((Cr.joinS 0 s : Nat) : Int) g).pk, .int .i64 (pkE 0 s (s.size : Int) ((Cr.joinS 0 s : Nat) : Int) g).sz, .int .i64 (pkE 0 s (s.size : Int) ((Cr.joinS 0 s : Nat) : Int) g).cr]] w' fun r w'' => r = .returned (.bool true) ∧ Keeps (fun _ => False) w' w'')) := by
    refine (fun g w' hl => ?_ : ∀ g w', Liv w' (pkE 0 s (s.size : Int) ((Cr.joinS 0 s : Nat) : Int) g, [0, 1, 0, 0]) → (Calls Tryz.prog 7 #[.agg #[.string (pkE 0 s (s.size : Int) ((Cr.joinS 0 s : Nat) : Int) g).nm, .bool (pkE 0 s (s.size : Int) ((Cr.joinS 0 s : Nat) : Int) g).gn, .slice (pkE 0 s (s.size : Int) ((Cr.joinS 0 s : Nat) : Int) g).va (pkE 0 s (s.size : Int) ((Cr.joinS 0 s : Nat) : Int) g).vn (pkE 0 s (s.size : Int) ((Cr.joinS 0 s : Nat) : Int) g).vc, .int .i64 (pkE 0 s (s.size : Int) ((Cr.joinS 0 s : Nat) : Int) g).st, .int .i64 (pkE 0 s (s.size : Int) ((Cr.joinS 0 s : Nat) : Int) g).nd, .int .i64 (pkE 0 s (s.size : Int) ((Cr.joinS 0 s : Nat) : Int) g).mt, .string (pkE 0 s (s.size : Int) ((Cr.joinS 0 s : Nat) : Int) g).pk, .int .i64 (pkE 0 s (s.size : Int) ((Cr.joinS 0 s : Nat) : Int) g).sz, .int .i64 (pkE 0 s (s.size : Int) ((Cr.joinS 0 s : Nat) : Int) g).cr]] w' fun r w'' => r = .returned (.tuple #[.string s, .int .i64 0]) ∧ Keeps (fun _ => False) w' w'') ∧ (Calls Tryz.prog 13 #[.agg #[.string (pkE 0 s (s.size : Int) ((Cr.joinS 0 s : Nat) : Int) g).nm, .bool (pkE 0 s (s.size : Int) ((Cr.joinS 0 s : Nat) : Int) g).gn, .slice (pkE 0 s (s.size : Int) ((Cr.joinS 0 s : Nat) : Int) g).va (pkE 0 s (s.size : Int) ((Cr.joinS 0 s : Nat) : Int) g).vn (pkE 0 s (s.size : Int) ((Cr.joinS 0 s : Nat) : Int) g).vc, .int .i64 (pkE 0 s (s.size : Int) ((Cr.joinS 0 s : Nat) : Int) g).st, .int .i64 (pkE 0 s (s.size : Int) ((Cr.joinS 0 s : Nat) : Int) g).nd, .int .i64 (pkE 0 s (s.size : Int) ((Cr.joinS 0 s : Nat) : Int) g).mt, .string (pkE 0 s (s.size : Int) ((Cr.joinS 0 s : Nat) : Int) g).pk, .int .i64 (pkE 0 s (s.size : Int) ((Cr.joinS 0 s : Nat) : Int) g).sz, .int .i64 (pkE 0 s (s.size : Int) ((Cr.joinS 0 s : Nat) : Int) g).cr]] w' fun r w'' => r = .returned (.bool true) ∧ Keeps (fun _ => False) w' w''))
    have h1 := etold_ok _ w' hl
    have h2 := emay_ok _ w' hl
    obtain ⟨q1, q2⟩ := pk_txt 0 s s g hs (sm_okT ⟨#[97]⟩ s 0 1 0 hs) (.inl ⟨rfl, rfl⟩)
    rw [q1, q2] at h1
    rw [pk_may 0 s s g hs (sm_okT ⟨#[97]⟩ s 0 1 0 hs) (.inl ⟨rfl, rfl⟩)] at h2
    exact ⟨h1, h2⟩
  have HS : Hid ((s : ByteArray).size ≤ 300) := by show _ ≤ _; exact hs
  have eS : (s.toList == s.toList) = true := by simp
  generalize ((Cr.joinS 0 s : Nat) : Int) = c at *
  skip
  skip
  clear hs
  go_enter Tryz.func5, Tryz.ntmps5
  go_wp2_with (first
    | (go_at_call 16; refine (HA.out w).mono ?_; rintro r w0 ⟨rfl, h⟩; have A0 : Hid (Keeps (fun _ => False) w w0) := h; clear h)
    | (go_at_call 17; refine (HP.out w0).mono ?_; rintro r w1 ⟨rfl, h⟩; have A1 : Hid (Keeps (fun _ => False) w w1) := A0.out.tr h; clear h)
    | (go_at_call 18; refine (HC.out _).mono ?_; rintro r w' ⟨rfl, hw⟩; obtain rfl := hw.symm; clear hw)
    | ((fail_if_success (clear A2)); refine wpList_alloc9 rfl rfl ?_; intro b9 w2 hE hK hb; have A2 : Hid (Entb w2 b9 Ent.zero ∧ Keeps (fun _ => False) (w1.alloc (.cells #[.int .i64 0, .int .i64 1, .int .i64 0, .int .i64 0] 3)) w2 ∧ w1.heap.size < b9) := ⟨hE, hK, (by have h2 := hb; simp at h2; omega)⟩; clear hE hK hb)
    | ((fail_if_success (clear A3)); refine wpList_store9 rfl _ _ rfl b9 (pkE 0 s (s.size : Int) c w1.heap.size) rfl rfl Ent.zero ?hA ?_; (case hA => exact A2.out.1); intro w3 hE hK; have A3 : Hid (Ens w w3 [(b9, (pkE 0 s (s.size : Int) c w1.heap.size, [0, 1, 0, 0]))]) := Ens.put (l := []) (Ens.mk A1.out (by simp)) (((Keeps.refl _ _).alloc _).tr A2.out.2.1) (Nat.le_of_lt A2.out.2.2) hK hE (pk_liv _ _ _ _ A2.out.2.1 A2.out.2.2 hK HS.out); clear hE hK)
    | ((fail_if_success (clear A4)); refine wpList_load9 rfl _ rfl b9 0 rfl (pkE 0 s (s.size : Int) c w1.heap.size) ?hA ?_; (case hA => exact (A3.out.one (b := b9) (x := (pkE 0 s (s.size : Int) c w1.heap.size, [0, 1, 0, 0])) (by simp)).at))
    | ((fail_if_success (clear A4)); go_at_call 7; refine (HT.out w1.heap.size w3 (A3.out.liv (b := b9) (by simp))).1.mono ?_; rintro r w4 ⟨rfl, h⟩; have A4 : Hid (Ens w w4 [(b9, (pkE 0 s (s.size : Int) c w1.heap.size, [0, 1, 0, 0]))]) := A3.out.keptF h; clear h)
    | ((fail_if_success (clear A5)); refine wpList_load9w _ rfl b9 0 rfl rfl (pkE 0 s (s.size : Int) c w1.heap.size) ?hA ?_; (case hA => exact (A4.out.one (b := b9) (x := (pkE 0 s (s.size : Int) c w1.heap.size, [0, 1, 0, 0])) (by simp)).at))
    | ((fail_if_success (clear A5)); go_at_call 13; refine (HT.out w1.heap.size w4 (A4.out.liv (b := b9) (by simp))).2.mono ?_; rintro r w5 ⟨rfl, h⟩; have A5 : Hid (Keeps (fun _ => False) w w5) := A4.out.kp.tr h; clear h)
    | (go_at_call 11; refine (num_any _ _).mono ?_; rintro r w' ⟨rfl, hw⟩; obtain rfl := hw.symm; clear hw))
  go_ret
  exact ⟨rfl, A5.out⟩

set_option maxHeartbeats 8000000 in
set_option maxRecDepth 1000000 in
theorem texts_pk (s : ByteArray) (w : World) (hs : s.size ≤ 300) : Calls Tryz.prog 5 #[.string s, .bool false] w fun r w' => r = .returned (.bool true) ∧ Keeps (fun _ => False) w w' := by
  have HA : Hid (∀ w', Calls Tryz.prog 16 #[] w' fun r w'' => r = .returned (.bool true) ∧ Keeps (fun _ => False) w' w'') := awake15_ok
  have hz : ¬ 300 < (s.size : Int) := by omega
  have HP : Hid (∀ w', Calls Tryz.prog 17 #[.string s] w' fun r w'' => r = .returned (.tuple #[.int .i64 (Bk.pkM s), .string (Bk.pkT s), .int .i64 0]) ∧ Keeps (fun _ => False) w' w'') := fun w' => Bk.rpack_ok s w' hs
  have HC : Hid (∀ w', Calls Tryz.prog 18 #[.string s] w' fun r w'' => r = .returned (.int .i64 ((Cr.joinS 0 s : Nat) : Int)) ∧ w'' = w') := fun w' => Cr.rcrc_ok s w' (by omega)
  have HT : Hid (∀ g w', Liv w' (pkE (Bk.pkM s) (Bk.pkT s) (s.size : Int) ((Cr.joinS 0 s : Nat) : Int) g, [0, 1, 0, 0]) → (Calls Tryz.prog 7 #[.agg #[.string (pkE (Bk.pkM s) (Bk.pkT s) (s.size : Int) ((Cr.joinS 0 s : Nat) : Int) g).nm, .bool (pkE (Bk.pkM s) (Bk.pkT s) (s.size : Int) ((Cr.joinS 0 s : Nat) : Int) g).gn, .slice (pkE (Bk.pkM s) (Bk.pkT s) (s.size : Int) ((Cr.joinS 0 s : Nat) : Int) g).va (pkE (Bk.pkM s) (Bk.pkT s) (s.size : Int) ((Cr.joinS 0 s : Nat) : Int) g).vn (pkE (Bk.pkM s) (Bk.pkT s) (s.size : Int) ((Cr.joinS 0 s : Nat) : Int) g).vc, .int .i64 (pkE (Bk.pkM s) (Bk.pkT s) (s.size : Int) ((Cr.joinS 0 s : Nat) : Int) g).st, .int .i64 (pkE (Bk.pkM s) (Bk.pkT s) (s.size : Int) ((Cr.joinS 0 s : Nat) : Int) g).nd, .int .i64 (pkE (Bk.pkM s) (Bk.pkT s) (s.size : Int) ((Cr.joinS 0 s : Nat) : Int) g).mt, .string (pkE (Bk.pkM s) (Bk.pkT s) (s.size : Int) ((Cr.joinS 0 s : Nat) : Int) g).pk, .int .i64 (pkE (Bk.pkM s) (Bk.pkT s) (s.size : Int) ((Cr.joinS 0 s : Nat) : Int) g).sz, .int .i64 (pkE (Bk.pkM s) (Bk.pkT s) (s.size : Int) ((Cr.joinS 0 s : Nat) : Int) g).cr]] w' fun r w'' => r = .returned (.tuple #[.string s, .int .i64 0]) ∧ Keeps (fun _ => False) w' w'') ∧ (Calls Tryz.prog 13 #[.agg #[.string (pkE (Bk.pkM s) (Bk.pkT s) (s.size : Int) ((Cr.joinS 0 s : Nat) : Int) g).nm, .bool (pkE (Bk.pkM s) (Bk.pkT s) (s.size : Int) ((Cr.joinS 0 s : Nat) : Int) g).gn, .slice (pkE (Bk.pkM s) (Bk.pkT s) (s.size : Int) ((Cr.joinS 0 s : Nat) : Int) g).va (pkE (Bk.pkM s) (Bk.pkT s) (s.size : Int) ((Cr.joinS 0 s : Nat) : Int) g).vn (pkE (Bk.pkM s) (Bk.pkT s) (s.size : Int) ((Cr.joinS 0 s : Nat) : Int) g).vc, .int .i64 (pkE (Bk.pkM s) (Bk.pkT s) (s.size : Int) ((Cr.joinS 0 s : Nat) : Int) g).st, .int .i64 (pkE (Bk.pkM s) (Bk.pkT s) (s.size : Int) ((Cr.joinS 0 s : Nat) : Int) g).nd, .int .i64 (pkE (Bk.pkM s) (Bk.pkT s) (s.size : Int) ((Cr.joinS 0 s : Nat) : Int) g).mt, .string (pkE (Bk.pkM s) (Bk.pkT s) (s.size : Int) ((Cr.joinS 0 s : Nat) : Int) g).pk, .int .i64 (pkE (Bk.pkM s) (Bk.pkT s) (s.size : Int) ((Cr.joinS 0 s : Nat) : Int) g).sz, .int .i64 (pkE (Bk.pkM s) (Bk.pkT s) (s.size : Int) ((Cr.joinS 0 s : Nat) : Int) g).cr]] w' fun r w'' => r = .returned (.bool true) ∧ Keeps (fun _ => False) w' w'')) := by
    refine (fun g w' hl => ?_ : ∀ g w', Liv w' (pkE (Bk.pkM s) (Bk.pkT s) (s.size : Int) ((Cr.joinS 0 s : Nat) : Int) g, [0, 1, 0, 0]) → (Calls Tryz.prog 7 #[.agg #[.string (pkE (Bk.pkM s) (Bk.pkT s) (s.size : Int) ((Cr.joinS 0 s : Nat) : Int) g).nm, .bool (pkE (Bk.pkM s) (Bk.pkT s) (s.size : Int) ((Cr.joinS 0 s : Nat) : Int) g).gn, .slice (pkE (Bk.pkM s) (Bk.pkT s) (s.size : Int) ((Cr.joinS 0 s : Nat) : Int) g).va (pkE (Bk.pkM s) (Bk.pkT s) (s.size : Int) ((Cr.joinS 0 s : Nat) : Int) g).vn (pkE (Bk.pkM s) (Bk.pkT s) (s.size : Int) ((Cr.joinS 0 s : Nat) : Int) g).vc, .int .i64 (pkE (Bk.pkM s) (Bk.pkT s) (s.size : Int) ((Cr.joinS 0 s : Nat) : Int) g).st, .int .i64 (pkE (Bk.pkM s) (Bk.pkT s) (s.size : Int) ((Cr.joinS 0 s : Nat) : Int) g).nd, .int .i64 (pkE (Bk.pkM s) (Bk.pkT s) (s.size : Int) ((Cr.joinS 0 s : Nat) : Int) g).mt, .string (pkE (Bk.pkM s) (Bk.pkT s) (s.size : Int) ((Cr.joinS 0 s : Nat) : Int) g).pk, .int .i64 (pkE (Bk.pkM s) (Bk.pkT s) (s.size : Int) ((Cr.joinS 0 s : Nat) : Int) g).sz, .int .i64 (pkE (Bk.pkM s) (Bk.pkT s) (s.size : Int) ((Cr.joinS 0 s : Nat) : Int) g).cr]] w' fun r w'' => r = .returned (.tuple #[.string s, .int .i64 0]) ∧ Keeps (fun _ => False) w' w'') ∧ (Calls Tryz.prog 13 #[.agg #[.string (pkE (Bk.pkM s) (Bk.pkT s) (s.size : Int) ((Cr.joinS 0 s : Nat) : Int) g).nm, .bool (pkE (Bk.pkM s) (Bk.pkT s) (s.size : Int) ((Cr.joinS 0 s : Nat) : Int) g).gn, .slice (pkE (Bk.pkM s) (Bk.pkT s) (s.size : Int) ((Cr.joinS 0 s : Nat) : Int) g).va (pkE (Bk.pkM s) (Bk.pkT s) (s.size : Int) ((Cr.joinS 0 s : Nat) : Int) g).vn (pkE (Bk.pkM s) (Bk.pkT s) (s.size : Int) ((Cr.joinS 0 s : Nat) : Int) g).vc, .int .i64 (pkE (Bk.pkM s) (Bk.pkT s) (s.size : Int) ((Cr.joinS 0 s : Nat) : Int) g).st, .int .i64 (pkE (Bk.pkM s) (Bk.pkT s) (s.size : Int) ((Cr.joinS 0 s : Nat) : Int) g).nd, .int .i64 (pkE (Bk.pkM s) (Bk.pkT s) (s.size : Int) ((Cr.joinS 0 s : Nat) : Int) g).mt, .string (pkE (Bk.pkM s) (Bk.pkT s) (s.size : Int) ((Cr.joinS 0 s : Nat) : Int) g).pk, .int .i64 (pkE (Bk.pkM s) (Bk.pkT s) (s.size : Int) ((Cr.joinS 0 s : Nat) : Int) g).sz, .int .i64 (pkE (Bk.pkM s) (Bk.pkT s) (s.size : Int) ((Cr.joinS 0 s : Nat) : Int) g).cr]] w' fun r w'' => r = .returned (.bool true) ∧ Keeps (fun _ => False) w' w''))
    have h1 := etold_ok _ w' hl
    have h2 := emay_ok _ w' hl
    obtain ⟨q1, q2⟩ := pk_txt (Bk.pkM s) (Bk.pkT s) s g hs (Bk.un_pack s hs) (pk_packs s hs)
    rw [q1, q2] at h1
    rw [pk_may (Bk.pkM s) (Bk.pkT s) s g hs (Bk.un_pack s hs) (pk_packs s hs)] at h2
    exact ⟨h1, h2⟩
  have HS : Hid (((Bk.pkT s) : ByteArray).size ≤ 300) := by show _ ≤ _; exact Nat.le_trans (Bk.pkT_le s) hs
  have eS : (s.toList == s.toList) = true := by simp
  generalize ((Cr.joinS 0 s : Nat) : Int) = c at *
  generalize Bk.pkM s = M at *
  generalize Bk.pkT s = P at *
  clear hs
  go_enter Tryz.func5, Tryz.ntmps5
  go_wp2_with (first
    | (go_at_call 16; refine (HA.out w).mono ?_; rintro r w0 ⟨rfl, h⟩; have A0 : Hid (Keeps (fun _ => False) w w0) := h; clear h)
    | (go_at_call 17; refine (HP.out w0).mono ?_; rintro r w1 ⟨rfl, h⟩; have A1 : Hid (Keeps (fun _ => False) w w1) := A0.out.tr h; clear h)
    | (go_at_call 18; refine (HC.out _).mono ?_; rintro r w' ⟨rfl, hw⟩; obtain rfl := hw.symm; clear hw)
    | ((fail_if_success (clear A2)); refine wpList_alloc9 rfl rfl ?_; intro b9 w2 hE hK hb; have A2 : Hid (Entb w2 b9 Ent.zero ∧ Keeps (fun _ => False) (w1.alloc (.cells #[.int .i64 0, .int .i64 1, .int .i64 0, .int .i64 0] 3)) w2 ∧ w1.heap.size < b9) := ⟨hE, hK, (by have h2 := hb; simp at h2; omega)⟩; clear hE hK hb)
    | ((fail_if_success (clear A3)); refine wpList_store9 rfl _ _ rfl b9 (pkE M P (s.size : Int) c w1.heap.size) rfl rfl Ent.zero ?hA ?_; (case hA => exact A2.out.1); intro w3 hE hK; have A3 : Hid (Ens w w3 [(b9, (pkE M P (s.size : Int) c w1.heap.size, [0, 1, 0, 0]))]) := Ens.put (l := []) (Ens.mk A1.out (by simp)) (((Keeps.refl _ _).alloc _).tr A2.out.2.1) (Nat.le_of_lt A2.out.2.2) hK hE (pk_liv _ _ _ _ A2.out.2.1 A2.out.2.2 hK HS.out); clear hE hK)
    | ((fail_if_success (clear A4)); refine wpList_load9 rfl _ rfl b9 0 rfl (pkE M P (s.size : Int) c w1.heap.size) ?hA ?_; (case hA => exact (A3.out.one (b := b9) (x := (pkE M P (s.size : Int) c w1.heap.size, [0, 1, 0, 0])) (by simp)).at))
    | ((fail_if_success (clear A4)); go_at_call 7; refine (HT.out w1.heap.size w3 (A3.out.liv (b := b9) (by simp))).1.mono ?_; rintro r w4 ⟨rfl, h⟩; have A4 : Hid (Ens w w4 [(b9, (pkE M P (s.size : Int) c w1.heap.size, [0, 1, 0, 0]))]) := A3.out.keptF h; clear h)
    | ((fail_if_success (clear A5)); refine wpList_load9w _ rfl b9 0 rfl rfl (pkE M P (s.size : Int) c w1.heap.size) ?hA ?_; (case hA => exact (A4.out.one (b := b9) (x := (pkE M P (s.size : Int) c w1.heap.size, [0, 1, 0, 0])) (by simp)).at))
    | ((fail_if_success (clear A5)); go_at_call 13; refine (HT.out w1.heap.size w4 (A4.out.liv (b := b9) (by simp))).2.mono ?_; rintro r w5 ⟨rfl, h⟩; have A5 : Hid (Keeps (fun _ => False) w w5) := A4.out.kp.tr h; clear h)
    | (go_at_call 11; refine (num_any _ _).mono ?_; rintro r w' ⟨rfl, hw⟩; obtain rfl := hw.symm; clear hw))
  go_ret
  exact ⟨rfl, A5.out⟩

theorem texts_walk (s : ByteArray) (st : Bool) (w : World) (hs : s.size ≤ 140737488355328) : Calls Tryz.prog 5 #[.string s, .bool st] w fun r w' => r = .returned (.bool true) ∧ Below w.heap.size w w' := by
  have key : Calls Tryz.prog 5 #[.string s, .bool st] w fun r w' => r = .returned (.bool true) ∧ Keeps (fun _ => False) w w' := by
    by_cases h : s.size ≤ 300
    · cases st
      · exact texts_pk s w h
      · exact texts_st s w h
    · exact texts_long s st w h
  exact key.mono (fun r w' h => ⟨h.1, h.2.below _ (Nat.le_refl _) (fun _ h => h.elim)⟩)

end Go.Proofs.YtfbghchgfbjogaaGreat.Zp

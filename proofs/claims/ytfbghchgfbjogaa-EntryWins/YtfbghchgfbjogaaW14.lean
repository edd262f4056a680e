/-
  EntryWins: the walk of the statement.
-/
import Derived.Test.YtfbghchgfbjogaaRows
import Derived.Test.YtfbghchgfbjogaaW13
import Derived.BigRegion
import Derived.ProofKit
import Derived.OpenShut
import Derived.ShutString
import Derived.SizedLaws
namespace Go.Proofs.Ytfbghchgfbjogaa.Zp
open Go.RowKit
set_option linter.unusedVariables false
set_option linter.unusedSimpArgs false

def LEFT : ByteArray := ⟨#[108, 101, 102, 116]⟩
def RIGHT : ByteArray := ⟨#[114, 105, 103, 104, 116]⟩
def Wn (e : Ent) (t : ByteArray) (k : Nat) (s : Int) : Prop := ∃ g, e = smE ⟨#[97]⟩ t k s g
theorem Wn.may {e : Ent} {t : ByteArray} {k : Nat} {s : Int} (h : Wn e t k s) (hk : k < 4) (hs : 1 ≤ s ∧ s ≤ 1048576) (ht : t.size ≤ 300) : mayE (e, smV k s) = true := by
  obtain ⟨g, rfl⟩ := h; exact sm_may _ _ k s g a_name hk hs ht
theorem Wn.st {e : Ent} {t : ByteArray} {k : Nat} {s : Int} (h : Wn e t k s) : e.st = s ∧ e.nd = (k : Int) ∧ e.pk = t ∧ e.vn = 4 := by obtain ⟨g, rfl⟩ := h; exact ⟨rfl, rfl, rfl, rfl⟩
theorem wn_small (t : ByteArray) (k : Nat) (s : Int) (hk : k < 4) (ht : t.size ≤ 300) (w : World) : Calls Try.prog 12 #[.string ⟨#[97]⟩, .int .i64 (k : Int), .int .i64 s, .string t] w fun r w' => ∃ e, r = .returned (.agg #[.string e.nm, .bool e.gn, .slice e.va e.vn e.vc, .int .i64 e.st, .int .i64 e.nd, .int .i64 e.mt, .string e.pk, .int .i64 e.sz, .int .i64 e.cr]) ∧ Wn e t k s ∧ Liv w' (e, smV k s) ∧ Keeps (fun _ => False) w w' := by
  refine (small15_ok ⟨#[97]⟩ t k s w hk ht (by decide)).mono ?_
  rintro r w' ⟨g, rfl, _, hk, _, hl⟩
  exact ⟨_, rfl, ⟨g, rfl⟩, hl, hk⟩
theorem wn_merge (e f : Ent) (t u : ByteArray) (k l : Nat) (s r0 : Int) (h : Wn e t k s) (h2 : Wn f u l r0) (hk : k < 4) (hl : l < 4) (hs : 1 ≤ s ∧ s ≤ 1048576) (hr : 1 ≤ r0 ∧ r0 ≤ 1048576) (ht : t.size ≤ 300) (hu : u.size ≤ 300) (B : Bool) (hB : (decide (s < r0) || (decide (s = r0) && decide ((k : Int) < (l : Int)))) = B) (w : World) (hx : Liv w (e, smV k s)) (hy : Liv w (f, smV l r0)) :
    Calls Try.prog 9 #[.agg #[.string e.nm, .bool e.gn, .slice e.va e.vn e.vc, .int .i64 e.st, .int .i64 e.nd, .int .i64 e.mt, .string e.pk, .int .i64 e.sz, .int .i64 e.cr], .agg #[.string f.nm, .bool f.gn, .slice f.va f.vn f.vc, .int .i64 f.st, .int .i64 f.nd, .int .i64 f.mt, .string f.pk, .int .i64 f.sz, .int .i64 f.cr]] w fun r w' => ∃ m : Ent, r = .returned (.tuple #[.agg #[.string m.nm, .bool m.gn, .slice m.va m.vn m.vc, .int .i64 m.st, .int .i64 m.nd, .int .i64 m.mt, .string m.pk, .int .i64 m.sz, .int .i64 m.cr], .int .i64 0]) ∧ (m.pk = (bif B then u else t) ∧ m.st = (bif B then r0 else s) ∧ m.nd = (bif B then (l : Int) else (k : Int)) ∧ m.vn = 4) ∧ Liv w' (m, joinL (smV k s) (smV l r0)) ∧ Keeps (fun _ => False) w w' := by
  have m1 := h.may hk hs ht
  have m2 := h2.may hl hr hu
  obtain ⟨g, rfl⟩ := h
  obtain ⟨g2, rfl⟩ := h2
  refine (merge_ok _ _ w hx hy).mono ?_
  rintro r w' ⟨a, c, rfl, ho, hk2⟩
  have hm := mayM_of m1 m2 rfl
  have hb : beatB (smE ⟨#[97]⟩ u l r0 g2) (smE ⟨#[97]⟩ t k s g) = B := hB
  have hlv := MPost.liv hx hy ho
  have e1 : mErr (smE ⟨#[97]⟩ t k s g, smV k s) (smE ⟨#[97]⟩ u l r0 g2, smV l r0) = 0 := by unfold mErr; rw [hm]; rfl
  have e2 : mVec (smE ⟨#[97]⟩ t k s g, smV k s) (smE ⟨#[97]⟩ u l r0 g2, smV l r0) = joinL (smV k s) (smV l r0) := by unfold mVec; rw [hm]; rfl
  have e3 : mEnt (smE ⟨#[97]⟩ t k s g, smV k s) (smE ⟨#[97]⟩ u l r0 g2, smV l r0) = (bif B then smE ⟨#[97]⟩ u l r0 g2 else smE ⟨#[97]⟩ t k s g).vec none 0 0 := by unfold mEnt wonE; simp only; rw [hm, hb]; rfl
  rw [e2, e3] at hlv
  rw [e1, e2, e3]
  refine ⟨_, rfl, ?_, hlv, hk2⟩
  rw [joinL_len]
  cases B <;> exact ⟨rfl, rfl, rfl, rfl⟩
theorem one_wrap (n : Nat) (h : n < 8) : wrap64 (1 + (n : Int)) = 1 + (n : Int) ∧ IntKind.i64.wrap (1 + (n : Int)) = 1 + (n : Int) := ⟨by unfold wrap64; omega, wrap_i64_small _ (by omega) (by omega)⟩
theorem low_bits (x : Int) (k : Nat) (hk : k ≤ 3) : ∃ v : Nat, bits .and .i64 x ((2 ^ k - 1 : Nat) : Int) = (v : Int) ∧ v < 2 ^ k := by
  have h2 : 0 < 2 ^ k := Nat.pow_pos (by decide)
  have h := i64_and_mask x k (by omega)
  rw [h]
  have h3 := Int.emod_nonneg x (show (((2 ^ k : Nat)) : Int) ≠ 0 by omega)
  have h4 := Int.emod_lt_of_pos x (show (0 : Int) < ((2 ^ k : Nat) : Int) by omega)
  exact ⟨(x % ((2 ^ k : Nat) : Int)).toNat, by omega, by omega⟩


set_option maxHeartbeats 16000000 in
set_option maxRecDepth 1000000 in
theorem wins_lt (a b p q : Int) (w : World) (k l n1 n2 : Nat) (hp : bits .and .i64 p 3 = (k : Int)) (hq : bits .and .i64 q 3 = (l : Int)) (ha : bits .and .i64 a 7 = (n1 : Int)) (hb : bits .and .i64 b 7 = (n2 : Int)) (hk : k < 4) (hl : l < 4) (h1 : n1 < 8) (h2 : n2 < 8) (hlt0 : n1 < n2) :
    Calls Try.prog 4 #[.int .i64 a, .int .i64 b, .int .i64 p, .int .i64 q] w fun r w' => r = .returned (.bool true) ∧ Keeps (fun _ => False) w w' := by
  have HA : Hid (∀ w', Calls Try.prog 6 #[] w' fun r w'' => r = .returned (.bool true) ∧ Keeps (fun _ => False) w' w'') := awake15_ok
  have HS1 : Hid (∀ w', Calls Try.prog 12 #[.string ⟨#[97]⟩, .int .i64 (k : Int), .int .i64 (1 + (n1 : Int)), .string ⟨#[108, 101, 102, 116]⟩] w' fun r w'' => ∃ e, r = .returned (.agg #[.string e.nm, .bool e.gn, .slice e.va e.vn e.vc, .int .i64 e.st, .int .i64 e.nd, .int .i64 e.mt, .string e.pk, .int .i64 e.sz, .int .i64 e.cr]) ∧ Wn e LEFT k (1 + (n1 : Int)) ∧ Liv w'' (e, smV k (1 + (n1 : Int))) ∧ Keeps (fun _ => False) w' w'') := wn_small LEFT k _ hk (by decide)
  have HS2 : Hid (∀ w', Calls Try.prog 12 #[.string ⟨#[97]⟩, .int .i64 (l : Int), .int .i64 (1 + (n2 : Int)), .string ⟨#[114, 105, 103, 104, 116]⟩] w' fun r w'' => ∃ e, r = .returned (.agg #[.string e.nm, .bool e.gn, .slice e.va e.vn e.vc, .int .i64 e.st, .int .i64 e.nd, .int .i64 e.mt, .string e.pk, .int .i64 e.sz, .int .i64 e.cr]) ∧ Wn e RIGHT l (1 + (n2 : Int)) ∧ Liv w'' (e, smV l (1 + (n2 : Int))) ∧ Keeps (fun _ => False) w' w'') := wn_small RIGHT l _ hl (by decide)
  have HM : Hid (∀ e f, Wn e LEFT k (1 + (n1 : Int)) → Wn f RIGHT l (1 + (n2 : Int)) → ∀ w', Liv w' (e, smV k (1 + (n1 : Int))) → Liv w' (f, smV l (1 + (n2 : Int))) → Calls Try.prog 9 #[.agg #[.string e.nm, .bool e.gn, .slice e.va e.vn e.vc, .int .i64 e.st, .int .i64 e.nd, .int .i64 e.mt, .string e.pk, .int .i64 e.sz, .int .i64 e.cr], .agg #[.string f.nm, .bool f.gn, .slice f.va f.vn f.vc, .int .i64 f.st, .int .i64 f.nd, .int .i64 f.mt, .string f.pk, .int .i64 f.sz, .int .i64 f.cr]] w' fun r w'' => ∃ m : Ent, r = .returned (.tuple #[.agg #[.string m.nm, .bool m.gn, .slice m.va m.vn m.vc, .int .i64 m.st, .int .i64 m.nd, .int .i64 m.mt, .string m.pk, .int .i64 m.sz, .int .i64 m.cr], .int .i64 0]) ∧ (m.pk = RIGHT ∧ m.st = (1 + (n2 : Int)) ∧ m.vn = 4) ∧ Liv w'' (m, joinL (smV k (1 + (n1 : Int))) (smV l (1 + (n2 : Int)))) ∧ Keeps (fun _ => False) w' w'') := fun e f h h' w' hx hy => by
    refine (wn_merge e f LEFT RIGHT k l _ _ h h' hk hl (by omega) (by omega) (by decide) (by decide) true (by simp; omega) w' hx hy).mono ?_
    rintro r w'' ⟨m, rfl, ⟨q1, q2, _, q4⟩, q5, q6⟩
    exact ⟨m, rfl, ⟨q1, q2, q4⟩, q5, q6⟩
  obtain ⟨S1, hS1⟩ : ∃ S : Int, 1 + (n1 : Int) = S := ⟨_, rfl⟩
  obtain ⟨S2, hS2⟩ : ∃ S : Int, 1 + (n2 : Int) = S := ⟨_, rfl⟩
  have HX : Hid (∀ i : Nat, i < 4 → at_ (joinL (smV k (1 + (n1 : Int))) (smV l (1 + (n2 : Int)))) i = max (at_ (smV k (1 + (n1 : Int))) i) (at_ (smV l (1 + (n2 : Int))) i)) := fun i hi => joinL_at _ _ _ hi
  have HXL : Hid ((joinL (smV k (1 + (n1 : Int))) (smV l (1 + (n2 : Int)))).length = 4 ∧ (smV k (1 + (n1 : Int))).length = 4 ∧ (smV l (1 + (n2 : Int))).length = 4) := ⟨joinL_len _ _, smV_len _ _, smV_len _ _⟩
  have t1 : S1 < S2 := by omega
  have w1 : wrap64 (1 + (n1 : Int)) = S1 := (one_wrap n1 h1).1.trans hS1
  have w2 : wrap64 (1 + (n2 : Int)) = S2 := (one_wrap n2 h2).1.trans hS2
  have w1' : IntKind.i64.wrap (1 + (n1 : Int)) = S1 := (one_wrap n1 h1).2.trans hS1
  have w2' : IntKind.i64.wrap (1 + (n2 : Int)) = S2 := (one_wrap n2 h2).2.trans hS2
  rw [hS1] at HS1 HM HX HXL
  rw [hS2] at HS2 HM HX HXL
  generalize smV k S1 = X at *
  generalize smV l S2 = Y at *
  generalize joinL X Y = Z at *
  clear hS1 hS2 h1 h2 hk hl hlt0
  go_enter Try.func4, Try.ntmps4
  go_upto_region 5 with (first
    | (go_at_call 6; refine (HA.out w).mono ?_; rintro r w0 ⟨rfl, h⟩; have A0 : Hid (Keeps (fun _ => False) w w0) := h; clear h)
    | ((fail_if_success (clear A1)); go_at_call 12; refine (HS1.out w0).mono ?_; rintro r w1 ⟨e, rfl, h1, h2, h3⟩; have A1 : Hid (Wn e LEFT k S1 ∧ Liv w1 (e, X) ∧ Keeps (fun _ => False) w w1) := ⟨h1, h2, A0.out.tr h3⟩; clear h1 h2 h3)
    | ((fail_if_success (clear A2)); go_at_call 12; refine (HS2.out w1).mono ?_; rintro r w2 ⟨f, rfl, h1, h2, h3⟩; have A2 : Hid (Wn f RIGHT l S2 ∧ Liv w2 (e, X) ∧ Liv w2 (f, Y) ∧ Keeps (fun _ => False) w w2) := ⟨h1, A1.out.2.1.keptF h3, h2, A1.out.2.2.tr h3⟩; clear h1 h2 h3)
    | ((fail_if_success (clear A3)); refine wpList_alloc9 rfl rfl ?_; intro b1 w3 hE hK hb; have A3 : Hid (Entb w3 b1 Ent.zero ∧ Keeps (fun _ => False) w2 w3 ∧ w2.heap.size ≤ b1) := ⟨hE, hK, hb⟩; clear hE hK hb)
    | ((fail_if_success (clear A4)); refine wpList_alloc9 rfl rfl ?_; intro b2 w4 hE hK hb; have A4 : Hid (Entb w4 b1 Ent.zero ∧ Entb w4 b2 Ent.zero ∧ Keeps (fun _ => False) w2 w4 ∧ w2.heap.size ≤ b1 ∧ b1 < b2) := ⟨A3.out.1.keptF hK, hE, A3.out.2.1.tr hK, A3.out.2.2, Nat.lt_of_lt_of_le A3.out.1.lt hb⟩; clear hE hK hb)
    | ((fail_if_success (clear A5)); refine wpList_store9 rfl _ _ rfl b1 e rfl rfl Ent.zero ?hA ?_; (case hA => exact A4.out.1); intro w5 hE hK; have A5 : Hid (Entb w5 b1 e ∧ Entb w5 b2 Ent.zero ∧ Keeps (fun k => k = b1) w4 w5) := ⟨hE, A4.out.2.1.kept hK (by have := A4.out.2.2.2.2; omega), hK⟩; clear hE hK)
    | ((fail_if_success (clear A6)); refine wpList_store9 rfl _ _ rfl b2 f rfl rfl Ent.zero ?hA ?_; (case hA => exact A5.out.2.1); intro w6 hE hK; have A6 : Hid (Ens w w6 [(b1, (e, X)), (b2, (f, Y))]) := Ens.two A2.out.2.2.2 A2.out.2.1 A2.out.2.2.1 A4.out.2.2.1 A4.out.2.2.2.1 A4.out.2.2.2.2 A5.out.2.2 A5.out.1 hK hE; clear hE hK)
    | ((fail_if_success (clear A8)); refine wpList_load9 rfl _ rfl b1 0 rfl e ?hA ?_; (case hA => exact (A6.out.one (b := b1) (x := (e, X)) (by simp)).at))
    | ((fail_if_success (clear A8)); refine wpList_load9 rfl _ rfl b2 0 rfl f ?hA ?_; (case hA => exact (A6.out.one (b := b2) (x := (f, Y)) (by simp)).at))
    | ((fail_if_success (clear A8)); go_at_call 9; refine (HM.out e f A1.out.1 A2.out.1 w6 (A6.out.liv (b := b1) (by simp)) (A6.out.liv (b := b2) (by simp))).mono ?_; rintro r w8 ⟨m, rfl, q2, h1, h⟩; have A8 : Hid (Ens w w8 [(b1, (e, X)), (b2, (f, Y))] ∧ Liv w8 (m, Z) ∧ (m.pk = RIGHT ∧ m.st = S2 ∧ m.vn = 4)) := ⟨A6.out.keptF h, h1, q2⟩; clear h h1 q2)
    | ((fail_if_success (clear A9)); refine wpList_alloc9 rfl rfl ?_; intro b5 w9 hE hK hb; have A9 : Hid (Entb w9 b5 Ent.zero ∧ Keeps (fun _ => False) w8 w9 ∧ w8.heap.size ≤ b5) := ⟨hE, hK, hb⟩; clear hE hK hb)
    | ((fail_if_success (clear A10)); refine wpList_store9 rfl _ _ rfl b5 m rfl rfl Ent.zero ?hA ?_; (case hA => exact A9.out.1); intro w10 hE hK; have A10 : Hid (Ens w w10 [(b5, (m, Z)), (b1, (e, X)), (b2, (f, Y))]) := A8.out.1.put A9.out.2.1 A9.out.2.2 hK hE (Liv.far2 A8.out.2.1 A9.out.2.1 hK A9.out.2.2); clear hE hK))
  obtain ⟨gx, ox, ex, _, hxc⟩ := (A10.out.liv (b := b1) (x := (e, X)) (by simp)).2.1.at (by rw [HXL.out.2.1]; decide)
  obtain ⟨gy, oy, ey, _, hyc⟩ := (A10.out.liv (b := b2) (x := (f, Y)) (by simp)).2.1.at (by rw [HXL.out.2.2]; decide)
  obtain ⟨gm, om, em, _, hmc⟩ := (A10.out.liv (b := b5) (x := (m, Z)) (by simp)).2.1.at (by rw [HXL.out.1]; decide)
  simp only at ex ey em hxc hyc hmc
  have HC : Hid (∀ w', Keeps (fun _ => False) w10 w' → (w'.cell? ⟨b5, 2, none⟩ = some (.slice (some ⟨gm, om, none⟩) 4 m.vc) ∧ w'.cell? ⟨b1, 2, none⟩ = some (.slice (some ⟨gx, ox, none⟩) 4 e.vc) ∧ w'.cell? ⟨b2, 2, none⟩ = some (.slice (some ⟨gy, oy, none⟩) 4 f.vc)) ∧ (w'.cell? ⟨b1, 3, none⟩ = some (.int .i64 S1) ∧ w'.cell? ⟨b2, 3, none⟩ = some (.int .i64 S2) ∧ w'.cell? ⟨b1, 4, none⟩ = some (.int .i64 (k : Int)) ∧ w'.cell? ⟨b2, 4, none⟩ = some (.int .i64 (l : Int))) ∧ (w'.cell? ⟨b5, 6, none⟩ = some (.string RIGHT) ∧ w'.cell? ⟨b5, 3, none⟩ = some (.int .i64 S2)) ∧ ∀ i : Nat, i < 4 → w'.cell? ⟨gm, om + i, none⟩ = some (.int .i64 (max (at_ X i) (at_ Y i))) ∧ w'.cell? ⟨gx, ox + i, none⟩ = some (.int .i64 (at_ X i)) ∧ w'.cell? ⟨gy, oy + i, none⟩ = some (.int .i64 (at_ Y i))) := fun w' hk => by
    have h := A10.out.keptF hk
    have e5 := h.one (b := b5) (x := (m, Z)) (by simp)
    have e1 := h.one (b := b1) (x := (e, X)) (by simp)
    have e2 := h.one (b := b2) (x := (f, Y)) (by simp)
    obtain ⟨p1, p2, p3⟩ := A8.out.2.2
    obtain ⟨x1, x2, x3, x4⟩ := A1.out.1.st
    obtain ⟨y1, y2, y3, y4⟩ := A2.out.1.st
    refine ⟨⟨?_, ?_, ?_⟩, ⟨?_, ?_, ?_, ?_⟩, ⟨?_, ?_⟩, fun i hi => ⟨?_, ?_, ?_⟩⟩
    · rw [← em, ← p3]; exact e5.c2
    · rw [← ex, ← x4]; exact e1.c2
    · rw [← ey, ← y4]; exact e2.c2
    · rw [← x1]; exact e1.c3
    · rw [← y1]; exact e2.c3
    · rw [← x2]; exact e1.c4
    · rw [← y2]; exact e2.c4
    · rw [← p1]; exact e5.c6
    · rw [← p2]; exact e5.c3
    · rw [← HX.out i hi]; exact hmc w' hk i (by rw [HXL.out.1]; exact hi)
    · exact hxc w' hk i (by rw [HXL.out.2.1]; exact hi)
    · exact hyc w' hk i (by rw [HXL.out.2.2]; exact hi)
  have HK : Hid (Keeps (fun _ => False) w w10) := A10.out.kp
  clear hxc hyc hmc ex ey em HX HXL HS1 HS2 HM HA A0 A1 A2 A3 A4 A5 A6 A8 A9 A10 hp hq ha hb w1 w1' w2 w2'
  obtain ⟨⟨c1, c2, c3⟩, ⟨c4, c5, c6, c7⟩, _, _⟩ := HC.out w10 (Keeps.refl _ _)
  unfold RIGHT at HC
  go_wp2_with (first
    | (go_at_call 10; refine (num_any _ _).mono ?_; rintro r w' ⟨rfl, hw⟩; obtain rfl := hw.symm; clear hw))
  clear c1 c2 c3 c4 c5 c6 c7
  go_loopw [15] (fun s15 w' => ∃ i : Nat, i ≤ 4 ∧ s15 = .int .i64 (i : Int) ∧ Hid (Keeps (fun _ => False) w10 w')) (fun s15 _ => (4 - intOf s15).toNat)
  case atStart => exact ⟨0, by omega, rfl, Keeps.refl _ _⟩
  case round =>
    obtain ⟨i, hi, rfl, HR⟩ := hrel
    obtain ⟨⟨c1, c2, c3⟩, ⟨c4, c5, c6, c7⟩, ⟨c8, c9⟩, hcc⟩ := HC.out wr HR.out
    by_cases hin : i < 4
    · have hiz : (i : Int) < 4 := by omega
      obtain ⟨d1, d2, d3⟩ := hcc i hin
      clear hcc c4 c5 c6 c7 c8 c9
      generalize at_ X i = xi at *
      generalize at_ Y i = yi at *
      have hmx : max xi yi = if xi < yi then yi else xi := by rw [Int.max_def]; split <;> split <;> omega
      rw [hmx] at d1
      have HD : Hid (∀ n, Keeps (fun _ => False) w10 (wr.drewN n)) := fun n => HR.out.drewN n
      by_cases hlt : xi < yi
      · rw [if_pos hlt] at d1
        have qn : (yi != yi) = false := by simp
        clear hmx
        go_wp2
        go_region
        go_wp2
        go_roundw
        case rel => exact ⟨i + 1, by omega, by push_cast; rfl, HD.out _⟩
        case measure => simp [intOf]; omega
      · rw [if_neg hlt] at d1
        have qn : (xi != xi) = false := by simp
        clear hmx
        go_wp2
        go_region
        go_wp2
        go_roundw
        case rel => exact ⟨i + 1, by omega, by push_cast; rfl, HD.out _⟩
        case measure => simp [intOf]; omega
    · obtain rfl : i = 4 := by omega
      clear hcc c1 c2 c3 c6 c7
      go_wp2
      go_ret
      exact ⟨by first | rfl | (simp; omega) | (simp; have := HQ.out; omega), HK.out.tr HR.out⟩


set_option maxHeartbeats 16000000 in
set_option maxRecDepth 1000000 in
theorem wins_eq (a b p q : Int) (w : World) (k l n1 n2 : Nat) (hp : bits .and .i64 p 3 = (k : Int)) (hq : bits .and .i64 q 3 = (l : Int)) (ha : bits .and .i64 a 7 = (n1 : Int)) (hb : bits .and .i64 b 7 = (n2 : Int)) (hk : k < 4) (hl : l < 4) (h1 : n1 < 8) (h2 : n2 < 8) (heq0 : n1 = n2) (hkl : k < l) :
    Calls Try.prog 4 #[.int .i64 a, .int .i64 b, .int .i64 p, .int .i64 q] w fun r w' => r = .returned (.bool true) ∧ Keeps (fun _ => False) w w' := by
  have HA : Hid (∀ w', Calls Try.prog 6 #[] w' fun r w'' => r = .returned (.bool true) ∧ Keeps (fun _ => False) w' w'') := awake15_ok
  have HS1 : Hid (∀ w', Calls Try.prog 12 #[.string ⟨#[97]⟩, .int .i64 (k : Int), .int .i64 (1 + (n1 : Int)), .string ⟨#[108, 101, 102, 116]⟩] w' fun r w'' => ∃ e, r = .returned (.agg #[.string e.nm, .bool e.gn, .slice e.va e.vn e.vc, .int .i64 e.st, .int .i64 e.nd, .int .i64 e.mt, .string e.pk, .int .i64 e.sz, .int .i64 e.cr]) ∧ Wn e LEFT k (1 + (n1 : Int)) ∧ Liv w'' (e, smV k (1 + (n1 : Int))) ∧ Keeps (fun _ => False) w' w'') := wn_small LEFT k _ hk (by decide)
  have HS2 : Hid (∀ w', Calls Try.prog 12 #[.string ⟨#[97]⟩, .int .i64 (l : Int), .int .i64 (1 + (n2 : Int)), .string ⟨#[114, 105, 103, 104, 116]⟩] w' fun r w'' => ∃ e, r = .returned (.agg #[.string e.nm, .bool e.gn, .slice e.va e.vn e.vc, .int .i64 e.st, .int .i64 e.nd, .int .i64 e.mt, .string e.pk, .int .i64 e.sz, .int .i64 e.cr]) ∧ Wn e RIGHT l (1 + (n2 : Int)) ∧ Liv w'' (e, smV l (1 + (n2 : Int))) ∧ Keeps (fun _ => False) w' w'') := wn_small RIGHT l _ hl (by decide)
  have HM : Hid (∀ e f, Wn e LEFT k (1 + (n1 : Int)) → Wn f RIGHT l (1 + (n2 : Int)) → ∀ w', Liv w' (e, smV k (1 + (n1 : Int))) → Liv w' (f, smV l (1 + (n2 : Int))) → Calls Try.prog 9 #[.agg #[.string e.nm, .bool e.gn, .slice e.va e.vn e.vc, .int .i64 e.st, .int .i64 e.nd, .int .i64 e.mt, .string e.pk, .int .i64 e.sz, .int .i64 e.cr], .agg #[.string f.nm, .bool f.gn, .slice f.va f.vn f.vc, .int .i64 f.st, .int .i64 f.nd, .int .i64 f.mt, .string f.pk, .int .i64 f.sz, .int .i64 f.cr]] w' fun r w'' => ∃ m : Ent, r = .returned (.tuple #[.agg #[.string m.nm, .bool m.gn, .slice m.va m.vn m.vc, .int .i64 m.st, .int .i64 m.nd, .int .i64 m.mt, .string m.pk, .int .i64 m.sz, .int .i64 m.cr], .int .i64 0]) ∧ (m.pk = RIGHT ∧ m.st = (1 + (n2 : Int)) ∧ m.vn = 4) ∧ Liv w'' (m, joinL (smV k (1 + (n1 : Int))) (smV l (1 + (n2 : Int)))) ∧ Keeps (fun _ => False) w' w'') := fun e f h h' w' hx hy => by
    refine (wn_merge e f LEFT RIGHT k l _ _ h h' hk hl (by omega) (by omega) (by decide) (by decide) true (by simp; omega) w' hx hy).mono ?_
    rintro r w'' ⟨m, rfl, ⟨q1, q2, _, q4⟩, q5, q6⟩
    exact ⟨m, rfl, ⟨q1, q2, q4⟩, q5, q6⟩
  obtain ⟨S1, hS1⟩ : ∃ S : Int, 1 + (n1 : Int) = S := ⟨_, rfl⟩
  obtain ⟨S2, hS2⟩ : ∃ S : Int, 1 + (n2 : Int) = S := ⟨_, rfl⟩
  have HX : Hid (∀ i : Nat, i < 4 → at_ (joinL (smV k (1 + (n1 : Int))) (smV l (1 + (n2 : Int)))) i = max (at_ (smV k (1 + (n1 : Int))) i) (at_ (smV l (1 + (n2 : Int))) i)) := fun i hi => joinL_at _ _ _ hi
  have HXL : Hid ((joinL (smV k (1 + (n1 : Int))) (smV l (1 + (n2 : Int)))).length = 4 ∧ (smV k (1 + (n1 : Int))).length = 4 ∧ (smV l (1 + (n2 : Int))).length = 4) := ⟨joinL_len _ _, smV_len _ _, smV_len _ _⟩
  have t1 : ¬ S1 < S2 := by omega
  have t1b : decide (S1 < S2) = false := decide_eq_false t1
  have t2 : (S2 == S1) = true := by simp; omega
  have HQ : Hid (S1 = S2) := by show _ = _; omega
  have t3 : (k : Int) < (l : Int) := by omega
  have w1 : wrap64 (1 + (n1 : Int)) = S1 := (one_wrap n1 h1).1.trans hS1
  have w2 : wrap64 (1 + (n2 : Int)) = S2 := (one_wrap n2 h2).1.trans hS2
  have w1' : IntKind.i64.wrap (1 + (n1 : Int)) = S1 := (one_wrap n1 h1).2.trans hS1
  have w2' : IntKind.i64.wrap (1 + (n2 : Int)) = S2 := (one_wrap n2 h2).2.trans hS2
  rw [hS1] at HS1 HM HX HXL
  rw [hS2] at HS2 HM HX HXL
  generalize smV k S1 = X at *
  generalize smV l S2 = Y at *
  generalize joinL X Y = Z at *
  clear hS1 hS2 h1 h2 hk hl heq0 hkl
  go_enter Try.func4, Try.ntmps4
  go_upto_region 5 with (first
    | (go_at_call 6; refine (HA.out w).mono ?_; rintro r w0 ⟨rfl, h⟩; have A0 : Hid (Keeps (fun _ => False) w w0) := h; clear h)
    | ((fail_if_success (clear A1)); go_at_call 12; refine (HS1.out w0).mono ?_; rintro r w1 ⟨e, rfl, h1, h2, h3⟩; have A1 : Hid (Wn e LEFT k S1 ∧ Liv w1 (e, X) ∧ Keeps (fun _ => False) w w1) := ⟨h1, h2, A0.out.tr h3⟩; clear h1 h2 h3)
    | ((fail_if_success (clear A2)); go_at_call 12; refine (HS2.out w1).mono ?_; rintro r w2 ⟨f, rfl, h1, h2, h3⟩; have A2 : Hid (Wn f RIGHT l S2 ∧ Liv w2 (e, X) ∧ Liv w2 (f, Y) ∧ Keeps (fun _ => False) w w2) := ⟨h1, A1.out.2.1.keptF h3, h2, A1.out.2.2.tr h3⟩; clear h1 h2 h3)
    | ((fail_if_success (clear A3)); refine wpList_alloc9 rfl rfl ?_; intro b1 w3 hE hK hb; have A3 : Hid (Entb w3 b1 Ent.zero ∧ Keeps (fun _ => False) w2 w3 ∧ w2.heap.size ≤ b1) := ⟨hE, hK, hb⟩; clear hE hK hb)
    | ((fail_if_success (clear A4)); refine wpList_alloc9 rfl rfl ?_; intro b2 w4 hE hK hb; have A4 : Hid (Entb w4 b1 Ent.zero ∧ Entb w4 b2 Ent.zero ∧ Keeps (fun _ => False) w2 w4 ∧ w2.heap.size ≤ b1 ∧ b1 < b2) := ⟨A3.out.1.keptF hK, hE, A3.out.2.1.tr hK, A3.out.2.2, Nat.lt_of_lt_of_le A3.out.1.lt hb⟩; clear hE hK hb)
    | ((fail_if_success (clear A5)); refine wpList_store9 rfl _ _ rfl b1 e rfl rfl Ent.zero ?hA ?_; (case hA => exact A4.out.1); intro w5 hE hK; have A5 : Hid (Entb w5 b1 e ∧ Entb w5 b2 Ent.zero ∧ Keeps (fun k => k = b1) w4 w5) := ⟨hE, A4.out.2.1.kept hK (by have := A4.out.2.2.2.2; omega), hK⟩; clear hE hK)
    | ((fail_if_success (clear A6)); refine wpList_store9 rfl _ _ rfl b2 f rfl rfl Ent.zero ?hA ?_; (case hA => exact A5.out.2.1); intro w6 hE hK; have A6 : Hid (Ens w w6 [(b1, (e, X)), (b2, (f, Y))]) := Ens.two A2.out.2.2.2 A2.out.2.1 A2.out.2.2.1 A4.out.2.2.1 A4.out.2.2.2.1 A4.out.2.2.2.2 A5.out.2.2 A5.out.1 hK hE; clear hE hK)
    | ((fail_if_success (clear A8)); refine wpList_load9 rfl _ rfl b1 0 rfl e ?hA ?_; (case hA => exact (A6.out.one (b := b1) (x := (e, X)) (by simp)).at))
    | ((fail_if_success (clear A8)); refine wpList_load9 rfl _ rfl b2 0 rfl f ?hA ?_; (case hA => exact (A6.out.one (b := b2) (x := (f, Y)) (by simp)).at))
    | ((fail_if_success (clear A8)); go_at_call 9; refine (HM.out e f A1.out.1 A2.out.1 w6 (A6.out.liv (b := b1) (by simp)) (A6.out.liv (b := b2) (by simp))).mono ?_; rintro r w8 ⟨m, rfl, q2, h1, h⟩; have A8 : Hid (Ens w w8 [(b1, (e, X)), (b2, (f, Y))] ∧ Liv w8 (m, Z) ∧ (m.pk = RIGHT ∧ m.st = S2 ∧ m.vn = 4)) := ⟨A6.out.keptF h, h1, q2⟩; clear h h1 q2)
    | ((fail_if_success (clear A9)); refine wpList_alloc9 rfl rfl ?_; intro b5 w9 hE hK hb; have A9 : Hid (Entb w9 b5 Ent.zero ∧ Keeps (fun _ => False) w8 w9 ∧ w8.heap.size ≤ b5) := ⟨hE, hK, hb⟩; clear hE hK hb)
    | ((fail_if_success (clear A10)); refine wpList_store9 rfl _ _ rfl b5 m rfl rfl Ent.zero ?hA ?_; (case hA => exact A9.out.1); intro w10 hE hK; have A10 : Hid (Ens w w10 [(b5, (m, Z)), (b1, (e, X)), (b2, (f, Y))]) := A8.out.1.put A9.out.2.1 A9.out.2.2 hK hE (Liv.far2 A8.out.2.1 A9.out.2.1 hK A9.out.2.2); clear hE hK))
  obtain ⟨gx, ox, ex, _, hxc⟩ := (A10.out.liv (b := b1) (x := (e, X)) (by simp)).2.1.at (by rw [HXL.out.2.1]; decide)
  obtain ⟨gy, oy, ey, _, hyc⟩ := (A10.out.liv (b := b2) (x := (f, Y)) (by simp)).2.1.at (by rw [HXL.out.2.2]; decide)
  obtain ⟨gm, om, em, _, hmc⟩ := (A10.out.liv (b := b5) (x := (m, Z)) (by simp)).2.1.at (by rw [HXL.out.1]; decide)
  simp only at ex ey em hxc hyc hmc
  have HC : Hid (∀ w', Keeps (fun _ => False) w10 w' → (w'.cell? ⟨b5, 2, none⟩ = some (.slice (some ⟨gm, om, none⟩) 4 m.vc) ∧ w'.cell? ⟨b1, 2, none⟩ = some (.slice (some ⟨gx, ox, none⟩) 4 e.vc) ∧ w'.cell? ⟨b2, 2, none⟩ = some (.slice (some ⟨gy, oy, none⟩) 4 f.vc)) ∧ (w'.cell? ⟨b1, 3, none⟩ = some (.int .i64 S1) ∧ w'.cell? ⟨b2, 3, none⟩ = some (.int .i64 S2) ∧ w'.cell? ⟨b1, 4, none⟩ = some (.int .i64 (k : Int)) ∧ w'.cell? ⟨b2, 4, none⟩ = some (.int .i64 (l : Int))) ∧ (w'.cell? ⟨b5, 6, none⟩ = some (.string RIGHT) ∧ w'.cell? ⟨b5, 3, none⟩ = some (.int .i64 S2)) ∧ ∀ i : Nat, i < 4 → w'.cell? ⟨gm, om + i, none⟩ = some (.int .i64 (max (at_ X i) (at_ Y i))) ∧ w'.cell? ⟨gx, ox + i, none⟩ = some (.int .i64 (at_ X i)) ∧ w'.cell? ⟨gy, oy + i, none⟩ = some (.int .i64 (at_ Y i))) := fun w' hk => by
    have h := A10.out.keptF hk
    have e5 := h.one (b := b5) (x := (m, Z)) (by simp)
    have e1 := h.one (b := b1) (x := (e, X)) (by simp)
    have e2 := h.one (b := b2) (x := (f, Y)) (by simp)
    obtain ⟨p1, p2, p3⟩ := A8.out.2.2
    obtain ⟨x1, x2, x3, x4⟩ := A1.out.1.st
    obtain ⟨y1, y2, y3, y4⟩ := A2.out.1.st
    refine ⟨⟨?_, ?_, ?_⟩, ⟨?_, ?_, ?_, ?_⟩, ⟨?_, ?_⟩, fun i hi => ⟨?_, ?_, ?_⟩⟩
    · rw [← em, ← p3]; exact e5.c2
    · rw [← ex, ← x4]; exact e1.c2
    · rw [← ey, ← y4]; exact e2.c2
    · rw [← x1]; exact e1.c3
    · rw [← y1]; exact e2.c3
    · rw [← x2]; exact e1.c4
    · rw [← y2]; exact e2.c4
    · rw [← p1]; exact e5.c6
    · rw [← p2]; exact e5.c3
    · rw [← HX.out i hi]; exact hmc w' hk i (by rw [HXL.out.1]; exact hi)
    · exact hxc w' hk i (by rw [HXL.out.2.1]; exact hi)
    · exact hyc w' hk i (by rw [HXL.out.2.2]; exact hi)
  have HK : Hid (Keeps (fun _ => False) w w10) := A10.out.kp
  clear hxc hyc hmc ex ey em HX HXL HS1 HS2 HM HA A0 A1 A2 A3 A4 A5 A6 A8 A9 A10 hp hq ha hb w1 w1' w2 w2'
  obtain ⟨⟨c1, c2, c3⟩, ⟨c4, c5, c6, c7⟩, _, _⟩ := HC.out w10 (Keeps.refl _ _)
  unfold RIGHT at HC
  go_wp2_with (first
    | (go_at_call 10; refine (num_any _ _).mono ?_; rintro r w' ⟨rfl, hw⟩; obtain rfl := hw.symm; clear hw))
  clear c1 c2 c3 c4 c5 c6 c7
  go_loopw [15] (fun s15 w' => ∃ i : Nat, i ≤ 4 ∧ s15 = .int .i64 (i : Int) ∧ Hid (Keeps (fun _ => False) w10 w')) (fun s15 _ => (4 - intOf s15).toNat)
  case atStart => exact ⟨0, by omega, rfl, Keeps.refl _ _⟩
  case round =>
    obtain ⟨i, hi, rfl, HR⟩ := hrel
    obtain ⟨⟨c1, c2, c3⟩, ⟨c4, c5, c6, c7⟩, ⟨c8, c9⟩, hcc⟩ := HC.out wr HR.out
    by_cases hin : i < 4
    · have hiz : (i : Int) < 4 := by omega
      obtain ⟨d1, d2, d3⟩ := hcc i hin
      clear hcc c4 c5 c6 c7 c8 c9
      generalize at_ X i = xi at *
      generalize at_ Y i = yi at *
      have hmx : max xi yi = if xi < yi then yi else xi := by rw [Int.max_def]; split <;> split <;> omega
      rw [hmx] at d1
      have HD : Hid (∀ n, Keeps (fun _ => False) w10 (wr.drewN n)) := fun n => HR.out.drewN n
      by_cases hlt : xi < yi
      · rw [if_pos hlt] at d1
        have qn : (yi != yi) = false := by simp
        clear hmx
        go_wp2
        go_region
        go_wp2
        go_roundw
        case rel => exact ⟨i + 1, by omega, by push_cast; rfl, HD.out _⟩
        case measure => simp [intOf]; omega
      · rw [if_neg hlt] at d1
        have qn : (xi != xi) = false := by simp
        clear hmx
        go_wp2
        go_region
        go_wp2
        go_roundw
        case rel => exact ⟨i + 1, by omega, by push_cast; rfl, HD.out _⟩
        case measure => simp [intOf]; omega
    · obtain rfl : i = 4 := by omega
      clear hcc c1 c2 c3 c6 c7
      go_wp2
      go_ret
      exact ⟨by first | rfl | (simp; omega) | (simp; have := HQ.out; omega), HK.out.tr HR.out⟩


set_option maxHeartbeats 16000000 in
set_option maxRecDepth 1000000 in
theorem wins_same (a b p q : Int) (w : World) (k l n1 n2 : Nat) (hp : bits .and .i64 p 3 = (k : Int)) (hq : bits .and .i64 q 3 = (l : Int)) (ha : bits .and .i64 a 7 = (n1 : Int)) (hb : bits .and .i64 b 7 = (n2 : Int)) (hk : k < 4) (hl : l < 4) (h1 : n1 < 8) (h2 : n2 < 8) (heq0 : n1 = n2) (hkl : ¬ k < l) :
    Calls Try.prog 4 #[.int .i64 a, .int .i64 b, .int .i64 p, .int .i64 q] w fun r w' => r = .returned (.bool true) ∧ Keeps (fun _ => False) w w' := by
  have HA : Hid (∀ w', Calls Try.prog 6 #[] w' fun r w'' => r = .returned (.bool true) ∧ Keeps (fun _ => False) w' w'') := awake15_ok
  have HS1 : Hid (∀ w', Calls Try.prog 12 #[.string ⟨#[97]⟩, .int .i64 (k : Int), .int .i64 (1 + (n1 : Int)), .string ⟨#[108, 101, 102, 116]⟩] w' fun r w'' => ∃ e, r = .returned (.agg #[.string e.nm, .bool e.gn, .slice e.va e.vn e.vc, .int .i64 e.st, .int .i64 e.nd, .int .i64 e.mt, .string e.pk, .int .i64 e.sz, .int .i64 e.cr]) ∧ Wn e LEFT k (1 + (n1 : Int)) ∧ Liv w'' (e, smV k (1 + (n1 : Int))) ∧ Keeps (fun _ => False) w' w'') := wn_small LEFT k _ hk (by decide)
  have HS2 : Hid (∀ w', Calls Try.prog 12 #[.string ⟨#[97]⟩, .int .i64 (l : Int), .int .i64 (1 + (n2 : Int)), .string ⟨#[114, 105, 103, 104, 116]⟩] w' fun r w'' => ∃ e, r = .returned (.agg #[.string e.nm, .bool e.gn, .slice e.va e.vn e.vc, .int .i64 e.st, .int .i64 e.nd, .int .i64 e.mt, .string e.pk, .int .i64 e.sz, .int .i64 e.cr]) ∧ Wn e RIGHT l (1 + (n2 : Int)) ∧ Liv w'' (e, smV l (1 + (n2 : Int))) ∧ Keeps (fun _ => False) w' w'') := wn_small RIGHT l _ hl (by decide)
  have HM : Hid (∀ e f, Wn e LEFT k (1 + (n1 : Int)) → Wn f RIGHT l (1 + (n2 : Int)) → ∀ w', Liv w' (e, smV k (1 + (n1 : Int))) → Liv w' (f, smV l (1 + (n2 : Int))) → Calls Try.prog 9 #[.agg #[.string e.nm, .bool e.gn, .slice e.va e.vn e.vc, .int .i64 e.st, .int .i64 e.nd, .int .i64 e.mt, .string e.pk, .int .i64 e.sz, .int .i64 e.cr], .agg #[.string f.nm, .bool f.gn, .slice f.va f.vn f.vc, .int .i64 f.st, .int .i64 f.nd, .int .i64 f.mt, .string f.pk, .int .i64 f.sz, .int .i64 f.cr]] w' fun r w'' => ∃ m : Ent, r = .returned (.tuple #[.agg #[.string m.nm, .bool m.gn, .slice m.va m.vn m.vc, .int .i64 m.st, .int .i64 m.nd, .int .i64 m.mt, .string m.pk, .int .i64 m.sz, .int .i64 m.cr], .int .i64 0]) ∧ (m.pk = LEFT ∧ m.st = (1 + (n1 : Int)) ∧ m.vn = 4) ∧ Liv w'' (m, joinL (smV k (1 + (n1 : Int))) (smV l (1 + (n2 : Int)))) ∧ Keeps (fun _ => False) w' w'') := fun e f h h' w' hx hy => by
    refine (wn_merge e f LEFT RIGHT k l _ _ h h' hk hl (by omega) (by omega) (by decide) (by decide) false (by simp; omega) w' hx hy).mono ?_
    rintro r w'' ⟨m, rfl, ⟨q1, q2, _, q4⟩, q5, q6⟩
    exact ⟨m, rfl, ⟨q1, q2, q4⟩, q5, q6⟩
  obtain ⟨S1, hS1⟩ : ∃ S : Int, 1 + (n1 : Int) = S := ⟨_, rfl⟩
  obtain ⟨S2, hS2⟩ : ∃ S : Int, 1 + (n2 : Int) = S := ⟨_, rfl⟩
  have HX : Hid (∀ i : Nat, i < 4 → at_ (joinL (smV k (1 + (n1 : Int))) (smV l (1 + (n2 : Int)))) i = max (at_ (smV k (1 + (n1 : Int))) i) (at_ (smV l (1 + (n2 : Int))) i)) := fun i hi => joinL_at _ _ _ hi
  have HXL : Hid ((joinL (smV k (1 + (n1 : Int))) (smV l (1 + (n2 : Int)))).length = 4 ∧ (smV k (1 + (n1 : Int))).length = 4 ∧ (smV l (1 + (n2 : Int))).length = 4) := ⟨joinL_len _ _, smV_len _ _, smV_len _ _⟩
  have t1 : ¬ S1 < S2 := by omega
  have t1b : decide (S1 < S2) = false := decide_eq_false t1
  have t2 : (S2 == S1) = true := by simp; omega
  have t3 : ¬ (k : Int) < (l : Int) := by omega
  have t3b : decide ((k : Int) < (l : Int)) = false := decide_eq_false t3
  have w1 : wrap64 (1 + (n1 : Int)) = S1 := (one_wrap n1 h1).1.trans hS1
  have w2 : wrap64 (1 + (n2 : Int)) = S2 := (one_wrap n2 h2).1.trans hS2
  have w1' : IntKind.i64.wrap (1 + (n1 : Int)) = S1 := (one_wrap n1 h1).2.trans hS1
  have w2' : IntKind.i64.wrap (1 + (n2 : Int)) = S2 := (one_wrap n2 h2).2.trans hS2
  rw [hS1] at HS1 HM HX HXL
  rw [hS2] at HS2 HM HX HXL
  generalize smV k S1 = X at *
  generalize smV l S2 = Y at *
  generalize joinL X Y = Z at *
  clear hS1 hS2 h1 h2 hk hl heq0 hkl
  go_enter Try.func4, Try.ntmps4
  go_upto_region 5 with (first
    | (go_at_call 6; refine (HA.out w).mono ?_; rintro r w0 ⟨rfl, h⟩; have A0 : Hid (Keeps (fun _ => False) w w0) := h; clear h)
    | ((fail_if_success (clear A1)); go_at_call 12; refine (HS1.out w0).mono ?_; rintro r w1 ⟨e, rfl, h1, h2, h3⟩; have A1 : Hid (Wn e LEFT k S1 ∧ Liv w1 (e, X) ∧ Keeps (fun _ => False) w w1) := ⟨h1, h2, A0.out.tr h3⟩; clear h1 h2 h3)
    | ((fail_if_success (clear A2)); go_at_call 12; refine (HS2.out w1).mono ?_; rintro r w2 ⟨f, rfl, h1, h2, h3⟩; have A2 : Hid (Wn f RIGHT l S2 ∧ Liv w2 (e, X) ∧ Liv w2 (f, Y) ∧ Keeps (fun _ => False) w w2) := ⟨h1, A1.out.2.1.keptF h3, h2, A1.out.2.2.tr h3⟩; clear h1 h2 h3)
    | ((fail_if_success (clear A3)); refine wpList_alloc9 rfl rfl ?_; intro b1 w3 hE hK hb; have A3 : Hid (Entb w3 b1 Ent.zero ∧ Keeps (fun _ => False) w2 w3 ∧ w2.heap.size ≤ b1) := ⟨hE, hK, hb⟩; clear hE hK hb)
    | ((fail_if_success (clear A4)); refine wpList_alloc9 rfl rfl ?_; intro b2 w4 hE hK hb; have A4 : Hid (Entb w4 b1 Ent.zero ∧ Entb w4 b2 Ent.zero ∧ Keeps (fun _ => False) w2 w4 ∧ w2.heap.size ≤ b1 ∧ b1 < b2) := ⟨A3.out.1.keptF hK, hE, A3.out.2.1.tr hK, A3.out.2.2, Nat.lt_of_lt_of_le A3.out.1.lt hb⟩; clear hE hK hb)
    | ((fail_if_success (clear A5)); refine wpList_store9 rfl _ _ rfl b1 e rfl rfl Ent.zero ?hA ?_; (case hA => exact A4.out.1); intro w5 hE hK; have A5 : Hid (Entb w5 b1 e ∧ Entb w5 b2 Ent.zero ∧ Keeps (fun k => k = b1) w4 w5) := ⟨hE, A4.out.2.1.kept hK (by have := A4.out.2.2.2.2; omega), hK⟩; clear hE hK)
    | ((fail_if_success (clear A6)); refine wpList_store9 rfl _ _ rfl b2 f rfl rfl Ent.zero ?hA ?_; (case hA => exact A5.out.2.1); intro w6 hE hK; have A6 : Hid (Ens w w6 [(b1, (e, X)), (b2, (f, Y))]) := Ens.two A2.out.2.2.2 A2.out.2.1 A2.out.2.2.1 A4.out.2.2.1 A4.out.2.2.2.1 A4.out.2.2.2.2 A5.out.2.2 A5.out.1 hK hE; clear hE hK)
    | ((fail_if_success (clear A8)); refine wpList_load9 rfl _ rfl b1 0 rfl e ?hA ?_; (case hA => exact (A6.out.one (b := b1) (x := (e, X)) (by simp)).at))
    | ((fail_if_success (clear A8)); refine wpList_load9 rfl _ rfl b2 0 rfl f ?hA ?_; (case hA => exact (A6.out.one (b := b2) (x := (f, Y)) (by simp)).at))
    | ((fail_if_success (clear A8)); go_at_call 9; refine (HM.out e f A1.out.1 A2.out.1 w6 (A6.out.liv (b := b1) (by simp)) (A6.out.liv (b := b2) (by simp))).mono ?_; rintro r w8 ⟨m, rfl, q2, h1, h⟩; have A8 : Hid (Ens w w8 [(b1, (e, X)), (b2, (f, Y))] ∧ Liv w8 (m, Z) ∧ (m.pk = LEFT ∧ m.st = S1 ∧ m.vn = 4)) := ⟨A6.out.keptF h, h1, q2⟩; clear h h1 q2)
    | ((fail_if_success (clear A9)); refine wpList_alloc9 rfl rfl ?_; intro b5 w9 hE hK hb; have A9 : Hid (Entb w9 b5 Ent.zero ∧ Keeps (fun _ => False) w8 w9 ∧ w8.heap.size ≤ b5) := ⟨hE, hK, hb⟩; clear hE hK hb)
    | ((fail_if_success (clear A10)); refine wpList_store9 rfl _ _ rfl b5 m rfl rfl Ent.zero ?hA ?_; (case hA => exact A9.out.1); intro w10 hE hK; have A10 : Hid (Ens w w10 [(b5, (m, Z)), (b1, (e, X)), (b2, (f, Y))]) := A8.out.1.put A9.out.2.1 A9.out.2.2 hK hE (Liv.far2 A8.out.2.1 A9.out.2.1 hK A9.out.2.2); clear hE hK))
  obtain ⟨gx, ox, ex, _, hxc⟩ := (A10.out.liv (b := b1) (x := (e, X)) (by simp)).2.1.at (by rw [HXL.out.2.1]; decide)
  obtain ⟨gy, oy, ey, _, hyc⟩ := (A10.out.liv (b := b2) (x := (f, Y)) (by simp)).2.1.at (by rw [HXL.out.2.2]; decide)
  obtain ⟨gm, om, em, _, hmc⟩ := (A10.out.liv (b := b5) (x := (m, Z)) (by simp)).2.1.at (by rw [HXL.out.1]; decide)
  simp only at ex ey em hxc hyc hmc
  have HC : Hid (∀ w', Keeps (fun _ => False) w10 w' → (w'.cell? ⟨b5, 2, none⟩ = some (.slice (some ⟨gm, om, none⟩) 4 m.vc) ∧ w'.cell? ⟨b1, 2, none⟩ = some (.slice (some ⟨gx, ox, none⟩) 4 e.vc) ∧ w'.cell? ⟨b2, 2, none⟩ = some (.slice (some ⟨gy, oy, none⟩) 4 f.vc)) ∧ (w'.cell? ⟨b1, 3, none⟩ = some (.int .i64 S1) ∧ w'.cell? ⟨b2, 3, none⟩ = some (.int .i64 S2) ∧ w'.cell? ⟨b1, 4, none⟩ = some (.int .i64 (k : Int)) ∧ w'.cell? ⟨b2, 4, none⟩ = some (.int .i64 (l : Int))) ∧ (w'.cell? ⟨b5, 6, none⟩ = some (.string LEFT) ∧ w'.cell? ⟨b5, 3, none⟩ = some (.int .i64 S1)) ∧ ∀ i : Nat, i < 4 → w'.cell? ⟨gm, om + i, none⟩ = some (.int .i64 (max (at_ X i) (at_ Y i))) ∧ w'.cell? ⟨gx, ox + i, none⟩ = some (.int .i64 (at_ X i)) ∧ w'.cell? ⟨gy, oy + i, none⟩ = some (.int .i64 (at_ Y i))) := fun w' hk => by
    have h := A10.out.keptF hk
    have e5 := h.one (b := b5) (x := (m, Z)) (by simp)
    have e1 := h.one (b := b1) (x := (e, X)) (by simp)
    have e2 := h.one (b := b2) (x := (f, Y)) (by simp)
    obtain ⟨p1, p2, p3⟩ := A8.out.2.2
    obtain ⟨x1, x2, x3, x4⟩ := A1.out.1.st
    obtain ⟨y1, y2, y3, y4⟩ := A2.out.1.st
    refine ⟨⟨?_, ?_, ?_⟩, ⟨?_, ?_, ?_, ?_⟩, ⟨?_, ?_⟩, fun i hi => ⟨?_, ?_, ?_⟩⟩
    · rw [← em, ← p3]; exact e5.c2
    · rw [← ex, ← x4]; exact e1.c2
    · rw [← ey, ← y4]; exact e2.c2
    · rw [← x1]; exact e1.c3
    · rw [← y1]; exact e2.c3
    · rw [← x2]; exact e1.c4
    · rw [← y2]; exact e2.c4
    · rw [← p1]; exact e5.c6
    · rw [← p2]; exact e5.c3
    · rw [← HX.out i hi]; exact hmc w' hk i (by rw [HXL.out.1]; exact hi)
    · exact hxc w' hk i (by rw [HXL.out.2.1]; exact hi)
    · exact hyc w' hk i (by rw [HXL.out.2.2]; exact hi)
  have HK : Hid (Keeps (fun _ => False) w w10) := A10.out.kp
  clear hxc hyc hmc ex ey em HX HXL HS1 HS2 HM HA A0 A1 A2 A3 A4 A5 A6 A8 A9 A10 hp hq ha hb w1 w1' w2 w2'
  obtain ⟨⟨c1, c2, c3⟩, ⟨c4, c5, c6, c7⟩, _, _⟩ := HC.out w10 (Keeps.refl _ _)
  unfold LEFT at HC
  go_wp2_with (first
    | (go_at_call 10; refine (num_any _ _).mono ?_; rintro r w' ⟨rfl, hw⟩; obtain rfl := hw.symm; clear hw))
  clear c1 c2 c3 c4 c5 c6 c7
  go_loopw [15] (fun s15 w' => ∃ i : Nat, i ≤ 4 ∧ s15 = .int .i64 (i : Int) ∧ Hid (Keeps (fun _ => False) w10 w')) (fun s15 _ => (4 - intOf s15).toNat)
  case atStart => exact ⟨0, by omega, rfl, Keeps.refl _ _⟩
  case round =>
    obtain ⟨i, hi, rfl, HR⟩ := hrel
    obtain ⟨⟨c1, c2, c3⟩, ⟨c4, c5, c6, c7⟩, ⟨c8, c9⟩, hcc⟩ := HC.out wr HR.out
    by_cases hin : i < 4
    · have hiz : (i : Int) < 4 := by omega
      obtain ⟨d1, d2, d3⟩ := hcc i hin
      clear hcc c4 c5 c6 c7 c8 c9
      generalize at_ X i = xi at *
      generalize at_ Y i = yi at *
      have hmx : max xi yi = if xi < yi then yi else xi := by rw [Int.max_def]; split <;> split <;> omega
      rw [hmx] at d1
      have HD : Hid (∀ n, Keeps (fun _ => False) w10 (wr.drewN n)) := fun n => HR.out.drewN n
      by_cases hlt : xi < yi
      · rw [if_pos hlt] at d1
        have qn : (yi != yi) = false := by simp
        clear hmx
        go_wp2
        go_region
        go_wp2
        go_roundw
        case rel => exact ⟨i + 1, by omega, by push_cast; rfl, HD.out _⟩
        case measure => simp [intOf]; omega
      · rw [if_neg hlt] at d1
        have qn : (xi != xi) = false := by simp
        clear hmx
        go_wp2
        go_region
        go_wp2
        go_roundw
        case rel => exact ⟨i + 1, by omega, by push_cast; rfl, HD.out _⟩
        case measure => simp [intOf]; omega
    · obtain rfl : i = 4 := by omega
      clear hcc c1 c2 c3 c6 c7
      go_wp2
      go_ret
      exact ⟨by first | rfl | (simp; omega) | (simp; have := HQ.out; omega), HK.out.tr HR.out⟩


set_option maxHeartbeats 16000000 in
set_option maxRecDepth 1000000 in
theorem wins_gt (a b p q : Int) (w : World) (k l n1 n2 : Nat) (hp : bits .and .i64 p 3 = (k : Int)) (hq : bits .and .i64 q 3 = (l : Int)) (ha : bits .and .i64 a 7 = (n1 : Int)) (hb : bits .and .i64 b 7 = (n2 : Int)) (hk : k < 4) (hl : l < 4) (h1 : n1 < 8) (h2 : n2 < 8) (hgt0 : n2 < n1) :
    Calls Try.prog 4 #[.int .i64 a, .int .i64 b, .int .i64 p, .int .i64 q] w fun r w' => r = .returned (.bool true) ∧ Keeps (fun _ => False) w w' := by
  have HA : Hid (∀ w', Calls Try.prog 6 #[] w' fun r w'' => r = .returned (.bool true) ∧ Keeps (fun _ => False) w' w'') := awake15_ok
  have HS1 : Hid (∀ w', Calls Try.prog 12 #[.string ⟨#[97]⟩, .int .i64 (k : Int), .int .i64 (1 + (n1 : Int)), .string ⟨#[108, 101, 102, 116]⟩] w' fun r w'' => ∃ e, r = .returned (.agg #[.string e.nm, .bool e.gn, .slice e.va e.vn e.vc, .int .i64 e.st, .int .i64 e.nd, .int .i64 e.mt, .string e.pk, .int .i64 e.sz, .int .i64 e.cr]) ∧ Wn e LEFT k (1 + (n1 : Int)) ∧ Liv w'' (e, smV k (1 + (n1 : Int))) ∧ Keeps (fun _ => False) w' w'') := wn_small LEFT k _ hk (by decide)
  have HS2 : Hid (∀ w', Calls Try.prog 12 #[.string ⟨#[97]⟩, .int .i64 (l : Int), .int .i64 (1 + (n2 : Int)), .string ⟨#[114, 105, 103, 104, 116]⟩] w' fun r w'' => ∃ e, r = .returned (.agg #[.string e.nm, .bool e.gn, .slice e.va e.vn e.vc, .int .i64 e.st, .int .i64 e.nd, .int .i64 e.mt, .string e.pk, .int .i64 e.sz, .int .i64 e.cr]) ∧ Wn e RIGHT l (1 + (n2 : Int)) ∧ Liv w'' (e, smV l (1 + (n2 : Int))) ∧ Keeps (fun _ => False) w' w'') := wn_small RIGHT l _ hl (by decide)
  have HM : Hid (∀ e f, Wn e LEFT k (1 + (n1 : Int)) → Wn f RIGHT l (1 + (n2 : Int)) → ∀ w', Liv w' (e, smV k (1 + (n1 : Int))) → Liv w' (f, smV l (1 + (n2 : Int))) → Calls Try.prog 9 #[.agg #[.string e.nm, .bool e.gn, .slice e.va e.vn e.vc, .int .i64 e.st, .int .i64 e.nd, .int .i64 e.mt, .string e.pk, .int .i64 e.sz, .int .i64 e.cr], .agg #[.string f.nm, .bool f.gn, .slice f.va f.vn f.vc, .int .i64 f.st, .int .i64 f.nd, .int .i64 f.mt, .string f.pk, .int .i64 f.sz, .int .i64 f.cr]] w' fun r w'' => ∃ m : Ent, r = .returned (.tuple #[.agg #[.string m.nm, .bool m.gn, .slice m.va m.vn m.vc, .int .i64 m.st, .int .i64 m.nd, .int .i64 m.mt, .string m.pk, .int .i64 m.sz, .int .i64 m.cr], .int .i64 0]) ∧ (m.pk = LEFT ∧ m.st = (1 + (n1 : Int)) ∧ m.vn = 4) ∧ Liv w'' (m, joinL (smV k (1 + (n1 : Int))) (smV l (1 + (n2 : Int)))) ∧ Keeps (fun _ => False) w' w'') := fun e f h h' w' hx hy => by
    refine (wn_merge e f LEFT RIGHT k l _ _ h h' hk hl (by omega) (by omega) (by decide) (by decide) false (by simp; omega) w' hx hy).mono ?_
    rintro r w'' ⟨m, rfl, ⟨q1, q2, _, q4⟩, q5, q6⟩
    exact ⟨m, rfl, ⟨q1, q2, q4⟩, q5, q6⟩
  obtain ⟨S1, hS1⟩ : ∃ S : Int, 1 + (n1 : Int) = S := ⟨_, rfl⟩
  obtain ⟨S2, hS2⟩ : ∃ S : Int, 1 + (n2 : Int) = S := ⟨_, rfl⟩
  have HX : Hid (∀ i : Nat, i < 4 → at_ (joinL (smV k (1 + (n1 : Int))) (smV l (1 + (n2 : Int)))) i = max (at_ (smV k (1 + (n1 : Int))) i) (at_ (smV l (1 + (n2 : Int))) i)) := fun i hi => joinL_at _ _ _ hi
  have HXL : Hid ((joinL (smV k (1 + (n1 : Int))) (smV l (1 + (n2 : Int)))).length = 4 ∧ (smV k (1 + (n1 : Int))).length = 4 ∧ (smV l (1 + (n2 : Int))).length = 4) := ⟨joinL_len _ _, smV_len _ _, smV_len _ _⟩
  have t1 : ¬ S1 < S2 := by omega
  have t1b : decide (S1 < S2) = false := decide_eq_false t1
  have t2 : (S2 == S1) = false := by simp; omega
  have w1 : wrap64 (1 + (n1 : Int)) = S1 := (one_wrap n1 h1).1.trans hS1
  have w2 : wrap64 (1 + (n2 : Int)) = S2 := (one_wrap n2 h2).1.trans hS2
  have w1' : IntKind.i64.wrap (1 + (n1 : Int)) = S1 := (one_wrap n1 h1).2.trans hS1
  have w2' : IntKind.i64.wrap (1 + (n2 : Int)) = S2 := (one_wrap n2 h2).2.trans hS2
  rw [hS1] at HS1 HM HX HXL
  rw [hS2] at HS2 HM HX HXL
  generalize smV k S1 = X at *
  generalize smV l S2 = Y at *
  generalize joinL X Y = Z at *
  clear hS1 hS2 h1 h2 hk hl hgt0
  go_enter Try.func4, Try.ntmps4
  go_upto_region 5 with (first
    | (go_at_call 6; refine (HA.out w).mono ?_; rintro r w0 ⟨rfl, h⟩; have A0 : Hid (Keeps (fun _ => False) w w0) := h; clear h)
    | ((fail_if_success (clear A1)); go_at_call 12; refine (HS1.out w0).mono ?_; rintro r w1 ⟨e, rfl, h1, h2, h3⟩; have A1 : Hid (Wn e LEFT k S1 ∧ Liv w1 (e, X) ∧ Keeps (fun _ => False) w w1) := ⟨h1, h2, A0.out.tr h3⟩; clear h1 h2 h3)
    | ((fail_if_success (clear A2)); go_at_call 12; refine (HS2.out w1).mono ?_; rintro r w2 ⟨f, rfl, h1, h2, h3⟩; have A2 : Hid (Wn f RIGHT l S2 ∧ Liv w2 (e, X) ∧ Liv w2 (f, Y) ∧ Keeps (fun _ => False) w w2) := ⟨h1, A1.out.2.1.keptF h3, h2, A1.out.2.2.tr h3⟩; clear h1 h2 h3)
    | ((fail_if_success (clear A3)); refine wpList_alloc9 rfl rfl ?_; intro b1 w3 hE hK hb; have A3 : Hid (Entb w3 b1 Ent.zero ∧ Keeps (fun _ => False) w2 w3 ∧ w2.heap.size ≤ b1) := ⟨hE, hK, hb⟩; clear hE hK hb)
    | ((fail_if_success (clear A4)); refine wpList_alloc9 rfl rfl ?_; intro b2 w4 hE hK hb; have A4 : Hid (Entb w4 b1 Ent.zero ∧ Entb w4 b2 Ent.zero ∧ Keeps (fun _ => False) w2 w4 ∧ w2.heap.size ≤ b1 ∧ b1 < b2) := ⟨A3.out.1.keptF hK, hE, A3.out.2.1.tr hK, A3.out.2.2, Nat.lt_of_lt_of_le A3.out.1.lt hb⟩; clear hE hK hb)
    | ((fail_if_success (clear A5)); refine wpList_store9 rfl _ _ rfl b1 e rfl rfl Ent.zero ?hA ?_; (case hA => exact A4.out.1); intro w5 hE hK; have A5 : Hid (Entb w5 b1 e ∧ Entb w5 b2 Ent.zero ∧ Keeps (fun k => k = b1) w4 w5) := ⟨hE, A4.out.2.1.kept hK (by have := A4.out.2.2.2.2; omega), hK⟩; clear hE hK)
    | ((fail_if_success (clear A6)); refine wpList_store9 rfl _ _ rfl b2 f rfl rfl Ent.zero ?hA ?_; (case hA => exact A5.out.2.1); intro w6 hE hK; have A6 : Hid (Ens w w6 [(b1, (e, X)), (b2, (f, Y))]) := Ens.two A2.out.2.2.2 A2.out.2.1 A2.out.2.2.1 A4.out.2.2.1 A4.out.2.2.2.1 A4.out.2.2.2.2 A5.out.2.2 A5.out.1 hK hE; clear hE hK)
    | ((fail_if_success (clear A8)); refine wpList_load9 rfl _ rfl b1 0 rfl e ?hA ?_; (case hA => exact (A6.out.one (b := b1) (x := (e, X)) (by simp)).at))
    | ((fail_if_success (clear A8)); refine wpList_load9 rfl _ rfl b2 0 rfl f ?hA ?_; (case hA => exact (A6.out.one (b := b2) (x := (f, Y)) (by simp)).at))
    | ((fail_if_success (clear A8)); go_at_call 9; refine (HM.out e f A1.out.1 A2.out.1 w6 (A6.out.liv (b := b1) (by simp)) (A6.out.liv (b := b2) (by simp))).mono ?_; rintro r w8 ⟨m, rfl, q2, h1, h⟩; have A8 : Hid (Ens w w8 [(b1, (e, X)), (b2, (f, Y))] ∧ Liv w8 (m, Z) ∧ (m.pk = LEFT ∧ m.st = S1 ∧ m.vn = 4)) := ⟨A6.out.keptF h, h1, q2⟩; clear h h1 q2)
    | ((fail_if_success (clear A9)); refine wpList_alloc9 rfl rfl ?_; intro b5 w9 hE hK hb; have A9 : Hid (Entb w9 b5 Ent.zero ∧ Keeps (fun _ => False) w8 w9 ∧ w8.heap.size ≤ b5) := ⟨hE, hK, hb⟩; clear hE hK hb)
    | ((fail_if_success (clear A10)); refine wpList_store9 rfl _ _ rfl b5 m rfl rfl Ent.zero ?hA ?_; (case hA => exact A9.out.1); intro w10 hE hK; have A10 : Hid (Ens w w10 [(b5, (m, Z)), (b1, (e, X)), (b2, (f, Y))]) := A8.out.1.put A9.out.2.1 A9.out.2.2 hK hE (Liv.far2 A8.out.2.1 A9.out.2.1 hK A9.out.2.2); clear hE hK))
  obtain ⟨gx, ox, ex, _, hxc⟩ := (A10.out.liv (b := b1) (x := (e, X)) (by simp)).2.1.at (by rw [HXL.out.2.1]; decide)
  obtain ⟨gy, oy, ey, _, hyc⟩ := (A10.out.liv (b := b2) (x := (f, Y)) (by simp)).2.1.at (by rw [HXL.out.2.2]; decide)
  obtain ⟨gm, om, em, _, hmc⟩ := (A10.out.liv (b := b5) (x := (m, Z)) (by simp)).2.1.at (by rw [HXL.out.1]; decide)
  simp only at ex ey em hxc hyc hmc
  have HC : Hid (∀ w', Keeps (fun _ => False) w10 w' → (w'.cell? ⟨b5, 2, none⟩ = some (.slice (some ⟨gm, om, none⟩) 4 m.vc) ∧ w'.cell? ⟨b1, 2, none⟩ = some (.slice (some ⟨gx, ox, none⟩) 4 e.vc) ∧ w'.cell? ⟨b2, 2, none⟩ = some (.slice (some ⟨gy, oy, none⟩) 4 f.vc)) ∧ (w'.cell? ⟨b1, 3, none⟩ = some (.int .i64 S1) ∧ w'.cell? ⟨b2, 3, none⟩ = some (.int .i64 S2) ∧ w'.cell? ⟨b1, 4, none⟩ = some (.int .i64 (k : Int)) ∧ w'.cell? ⟨b2, 4, none⟩ = some (.int .i64 (l : Int))) ∧ (w'.cell? ⟨b5, 6, none⟩ = some (.string LEFT) ∧ w'.cell? ⟨b5, 3, none⟩ = some (.int .i64 S1)) ∧ ∀ i : Nat, i < 4 → w'.cell? ⟨gm, om + i, none⟩ = some (.int .i64 (max (at_ X i) (at_ Y i))) ∧ w'.cell? ⟨gx, ox + i, none⟩ = some (.int .i64 (at_ X i)) ∧ w'.cell? ⟨gy, oy + i, none⟩ = some (.int .i64 (at_ Y i))) := fun w' hk => by
    have h := A10.out.keptF hk
    have e5 := h.one (b := b5) (x := (m, Z)) (by simp)
    have e1 := h.one (b := b1) (x := (e, X)) (by simp)
    have e2 := h.one (b := b2) (x := (f, Y)) (by simp)
    obtain ⟨p1, p2, p3⟩ := A8.out.2.2
    obtain ⟨x1, x2, x3, x4⟩ := A1.out.1.st
    obtain ⟨y1, y2, y3, y4⟩ := A2.out.1.st
    refine ⟨⟨?_, ?_, ?_⟩, ⟨?_, ?_, ?_, ?_⟩, ⟨?_, ?_⟩, fun i hi => ⟨?_, ?_, ?_⟩⟩
    · rw [← em, ← p3]; exact e5.c2
    · rw [← ex, ← x4]; exact e1.c2
    · rw [← ey, ← y4]; exact e2.c2
    · rw [← x1]; exact e1.c3
    · rw [← y1]; exact e2.c3
    · rw [← x2]; exact e1.c4
    · rw [← y2]; exact e2.c4
    · rw [← p1]; exact e5.c6
    · rw [← p2]; exact e5.c3
    · rw [← HX.out i hi]; exact hmc w' hk i (by rw [HXL.out.1]; exact hi)
    · exact hxc w' hk i (by rw [HXL.out.2.1]; exact hi)
    · exact hyc w' hk i (by rw [HXL.out.2.2]; exact hi)
  have HK : Hid (Keeps (fun _ => False) w w10) := A10.out.kp
  clear hxc hyc hmc ex ey em HX HXL HS1 HS2 HM HA A0 A1 A2 A3 A4 A5 A6 A8 A9 A10 hp hq ha hb w1 w1' w2 w2'
  obtain ⟨⟨c1, c2, c3⟩, ⟨c4, c5, c6, c7⟩, _, _⟩ := HC.out w10 (Keeps.refl _ _)
  unfold LEFT at HC
  go_wp2_with (first
    | (go_at_call 10; refine (num_any _ _).mono ?_; rintro r w' ⟨rfl, hw⟩; obtain rfl := hw.symm; clear hw))
  clear c1 c2 c3 c4 c5 c6 c7
  go_loopw [15] (fun s15 w' => ∃ i : Nat, i ≤ 4 ∧ s15 = .int .i64 (i : Int) ∧ Hid (Keeps (fun _ => False) w10 w')) (fun s15 _ => (4 - intOf s15).toNat)
  case atStart => exact ⟨0, by omega, rfl, Keeps.refl _ _⟩
  case round =>
    obtain ⟨i, hi, rfl, HR⟩ := hrel
    obtain ⟨⟨c1, c2, c3⟩, ⟨c4, c5, c6, c7⟩, ⟨c8, c9⟩, hcc⟩ := HC.out wr HR.out
    by_cases hin : i < 4
    · have hiz : (i : Int) < 4 := by omega
      obtain ⟨d1, d2, d3⟩ := hcc i hin
      clear hcc c4 c5 c6 c7 c8 c9
      generalize at_ X i = xi at *
      generalize at_ Y i = yi at *
      have hmx : max xi yi = if xi < yi then yi else xi := by rw [Int.max_def]; split <;> split <;> omega
      rw [hmx] at d1
      have HD : Hid (∀ n, Keeps (fun _ => False) w10 (wr.drewN n)) := fun n => HR.out.drewN n
      by_cases hlt : xi < yi
      · rw [if_pos hlt] at d1
        have qn : (yi != yi) = false := by simp
        clear hmx
        go_wp2
        go_region
        go_wp2
        go_roundw
        case rel => exact ⟨i + 1, by omega, by push_cast; rfl, HD.out _⟩
        case measure => simp [intOf]; omega
      · rw [if_neg hlt] at d1
        have qn : (xi != xi) = false := by simp
        clear hmx
        go_wp2
        go_region
        go_wp2
        go_roundw
        case rel => exact ⟨i + 1, by omega, by push_cast; rfl, HD.out _⟩
        case measure => simp [intOf]; omega
    · obtain rfl : i = 4 := by omega
      clear hcc c1 c2 c3 c6 c7
      go_wp2
      go_ret
      exact ⟨by first | rfl | (simp; omega) | (simp; have := HQ.out; omega), HK.out.tr HR.out⟩


theorem wins_walk (a b p q : Int) (w : World) : Calls Try.prog 4 #[.int .i64 a, .int .i64 b, .int .i64 p, .int .i64 q] w fun r w' => r = .returned (.bool true) ∧ Below w.heap.size w w' := by
  obtain ⟨k, hp, hk⟩ := low_bits p 2 (by decide)
  obtain ⟨l, hq, hl⟩ := low_bits q 2 (by decide)
  obtain ⟨n1, ha, h1⟩ := low_bits a 3 (by decide)
  obtain ⟨n2, hb, h2⟩ := low_bits b 3 (by decide)
  have key : Calls Try.prog 4 #[.int .i64 a, .int .i64 b, .int .i64 p, .int .i64 q] w fun r w' => r = .returned (.bool true) ∧ Keeps (fun _ => False) w w' := by
    by_cases q1 : n1 < n2
    · exact wins_lt a b p q w k l n1 n2 hp hq ha hb hk hl h1 h2 q1
    · by_cases q2 : n1 = n2
      · by_cases q3 : k < l
        · exact wins_eq a b p q w k l n1 n2 hp hq ha hb hk hl h1 h2 q2 q3
        · exact wins_same a b p q w k l n1 n2 hp hq ha hb hk hl h1 h2 q2 q3
      · exact wins_gt a b p q w k l n1 n2 hp hq ha hb hk hl h1 h2 (by omega)
  exact key.mono (fun r w' h => ⟨h.1, h.2.below _ (Nat.le_refl _) (fun _ h => h.elim)⟩)

end Go.Proofs.Ytfbghchgfbjogaa.Zp

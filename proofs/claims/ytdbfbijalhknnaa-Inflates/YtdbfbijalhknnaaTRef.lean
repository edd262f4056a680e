/-
  The document's own Length, LengthOf, Dist, DistOf, Fixed.
-/
import Derived.Test.YtdbfbijalhknnaaTSym
import Derived.Test.YtdbfbijalhknnaaTFix
namespace Go.Proofs.Ytdbfbijalhknnaa.Tb
open Go.RowKit
set_option linter.unusedVariables false
set_option linter.unusedSimpArgs false

theorem lenG_high (m : Nat) (h : 4 ≤ m) (h2 : m ≤ 23) : lenF (m + 4) = (3 + (4 + m % 4) * 2 ^ (m / 4), m / 4) := by
  rw [← lenG_eq (m + 4) (by omega)]
  unfold lenG
  rw [if_neg (by omega), if_neg (by omega), Nat.add_sub_cancel]
theorem dstG_high (m : Nat) (h : 2 ≤ m) (h2 : m ≤ 27) : dstF (m + 2) = (1 + (2 + m % 2) * 2 ^ (m / 2), m / 2) := by
  rw [← dstG_eq (m + 2) (by omega)]
  unfold dstG
  rw [if_neg (by omega), Nat.add_sub_cancel, Nat.add_mod_right]
theorem shl_fit (a q : Nat) (ha : a ≤ 7) (hq : q ≤ 14) : wrap64 ((a : Int) * 2 ^ q) = ((a * 2 ^ q : Nat) : Int) ∧ a * 2 ^ q ≤ 200000 := by
  have h1 := pow_small q hq
  have e : ((a : Int) * 2 ^ q) = ((a * 2 ^ q : Nat) : Int) := by push_cast; rfl
  have h2 : a * 2 ^ q ≤ 7 * 16384 := Nat.mul_le_mul ha h1
  rw [e]
  generalize a * 2 ^ q = z at *
  refine ⟨?_, by omega⟩
  unfold wrap64; omega

set_option maxHeartbeats 4000000 in
set_option maxRecDepth 1000000 in
theorem rlengthOf_ok (k : Int) (w : World) : Calls Try.prog 47 #[.int .i64 k] w fun e w' => e = .returned (.tuple #[.int .i64 (ofL k).1, .int .i64 (ofL k).2, .int .i64 (errB (inLS k))]) ∧ w' = w := by
  by_cases hl : k < 257
  · have HE : Hid (inLS k = false) := decide_eq_false (by omega)
    go_enter Try.func47, Try.ntmps47
    go_wp2
    go_ret3
    exact ⟨by simp [ofL, errB, HE.out], rfl⟩
  by_cases hg : 285 < k
  · have HE : Hid (inLS k = false) := decide_eq_false (by omega)
    go_enter Try.func47, Try.ntmps47
    go_wp2
    go_ret3
    exact ⟨by simp [ofL, errB, HE.out], rfl⟩
  have HE : Hid (inLS k = true) := decide_eq_true (by omega)
  have HO : Hid (ofL k = (((lenF (k - 257).toNat).1 : Int), ((lenF (k - 257).toNat).2 : Int))) := show _ = _ by unfold ofL; rw [HE.out]; rfl
  by_cases h285 : k = 285
  · subst h285
    go_enter Try.func47, Try.ntmps47
    go_wp2
    go_ret3
    exact ⟨by rw [HO.out, HE.out]; rfl, rfl⟩
  by_cases h265 : k < 265
  · have hw : wrap64 (k - 254) = k - 254 := by unfold wrap64; omega
    have HF : Hid (lenF (k - 257).toNat = ((k - 254).toNat, 0)) := show _ = _ by
      rw [← lenG_eq _ (by omega)]
      unfold lenG
      rw [if_neg (by omega), if_pos (by omega)]
      congr 1; omega
    have hk2 : ((k - 254).toNat : Int) = k - 254 := by omega
    have HK2 : Hid (((k - 254).toNat : Int) = k - 254) := hk2
    clear hk2
    go_enter Try.func47, Try.ntmps47
    go_wp2
    go_ret3
    refine ⟨?_, rfl⟩
    rw [HO.out, HE.out, HF.out, HK2.out]; rfl
  · obtain ⟨m, rfl⟩ : ∃ m : Nat, k = (m : Int) + 261 := ⟨(k - 261).toNat, by omega⟩
    have hm : 4 ≤ m ∧ m ≤ 23 := by omega
    obtain ⟨q, hq⟩ : ∃ q, m / 4 = q := ⟨_, rfl⟩
    obtain ⟨r, hr⟩ : ∃ r, m % 4 = r := ⟨_, rfl⟩
    have HF : Hid (lenF ((m : Int) + 261 - 257).toNat = (3 + (4 + r) * 2 ^ q, q)) := show _ = _ by
      rw [show ((m : Int) + 261 - 257).toNat = m + 4 by omega, lenG_high m hm.1 hm.2, hq, hr]
    have hd : (m : Int) / 4 = (q : Int) := by omega
    have hrz : (m : Int) % 4 = (r : Int) := by omega
    have hw : wrap64 ((m : Int) + 261 - 261) = (m : Int) := by unfold wrap64; omega
    obtain ⟨s1, s2⟩ := shl_fit (4 + r) q (by omega) (by omega)
    obtain ⟨z, hz⟩ : ∃ z, (4 + r) * 2 ^ q = z := ⟨_, rfl⟩
    rw [hz] at s1 s2 HF
    have hs : wrap64 ((4 + (r : Int)) * 2 ^ q) = (z : Int) := by rw [← s1]; push_cast; rfl
    have hr3 : r ≤ 3 := by omega
    have hq5 : q ≤ 5 := by omega
    clear s1 hz hq hr
    go_enter Try.func47, Try.ntmps47
    go_wp2
    go_ret3
    refine ⟨?_, rfl⟩
    rw [HO.out, HE.out, HF.out]; push_cast; rfl

set_option maxHeartbeats 4000000 in
set_option maxRecDepth 1000000 in
theorem rdistOf_ok (k : Int) (w : World) : Calls Try.prog 48 #[.int .i64 k] w fun e w' => e = .returned (.tuple #[.int .i64 (ofD k).1, .int .i64 (ofD k).2, .int .i64 (errB (inDS k))]) ∧ w' = w := by
  by_cases hl : k < 0
  · have HE : Hid (inDS k = false) := decide_eq_false (by omega)
    go_enter Try.func48, Try.ntmps48
    go_wp2
    go_ret3
    exact ⟨by simp [ofD, errB, HE.out], rfl⟩
  by_cases hg : 29 < k
  · have HE : Hid (inDS k = false) := decide_eq_false (by omega)
    go_enter Try.func48, Try.ntmps48
    go_wp2
    go_ret3
    exact ⟨by simp [ofD, errB, HE.out], rfl⟩
  have HE : Hid (inDS k = true) := decide_eq_true (by omega)
  have HO : Hid (ofD k = (((dstF k.toNat).1 : Int), ((dstF k.toNat).2 : Int))) := show _ = _ by unfold ofD; rw [HE.out]; rfl
  by_cases h4 : k < 4
  · have hw : wrap64 (k + 1) = k + 1 := by unfold wrap64; omega
    have HF : Hid (dstF k.toNat = ((k + 1).toNat, 0)) := show _ = _ by
      rw [← dstG_eq _ (by omega)]
      unfold dstG
      rw [if_pos (by omega)]
      congr 1; omega
    have hk2 : ((k + 1).toNat : Int) = k + 1 := by omega
    have HK2 : Hid (((k + 1).toNat : Int) = k + 1) := hk2
    clear hk2
    go_enter Try.func48, Try.ntmps48
    go_wp2
    go_ret3
    refine ⟨?_, rfl⟩
    rw [HO.out, HE.out, HF.out, HK2.out]; rfl
  · obtain ⟨m, rfl⟩ : ∃ m : Nat, k = (m : Int) + 2 := ⟨(k - 2).toNat, by omega⟩
    have hm : 2 ≤ m ∧ m ≤ 27 := by omega
    obtain ⟨q, hq⟩ : ∃ q, m / 2 = q := ⟨_, rfl⟩
    obtain ⟨r, hr⟩ : ∃ r, m % 2 = r := ⟨_, rfl⟩
    have HF : Hid (dstF ((m : Int) + 2).toNat = (1 + (2 + r) * 2 ^ q, q)) := show _ = _ by
      rw [show ((m : Int) + 2).toNat = m + 2 by omega, dstG_high m hm.1 hm.2, hq, hr]
    have hd : (m : Int) / 2 = (q : Int) := by omega
    have hrz : ((m : Int) + 2) % 2 = (r : Int) := by omega
    have hw : wrap64 ((m : Int) + 2 - 2) = (m : Int) := by unfold wrap64; omega
    obtain ⟨s1, s2⟩ := shl_fit (2 + r) q (by omega) (by omega)
    obtain ⟨z, hz⟩ : ∃ z, (2 + r) * 2 ^ q = z := ⟨_, rfl⟩
    rw [hz] at s1 s2 HF
    have hs : wrap64 ((2 + (r : Int)) * 2 ^ q) = (z : Int) := by rw [← s1]; push_cast; rfl
    have hr3 : r ≤ 1 := by omega
    have hq5 : q ≤ 13 := by omega
    clear s1 hz hq hr
    go_enter Try.func48, Try.ntmps48
    go_wp2
    go_ret3
    refine ⟨?_, rfl⟩
    rw [HO.out, HE.out, HF.out]; push_cast; rfl

set_option maxHeartbeats 4000000 in
set_option maxRecDepth 1000000 in
theorem rlength_ok (k : Int) (w : World) : Calls Try.prog 30 #[.int .i64 k] w fun e w' => e = .returned (.tuple #[syV (symL k), .int .i64 (errB (inL k))]) ∧ Keeps (fun _ => False) w w' := by
  by_cases hb : k < 3 ∨ 258 < k
  · have HE : Hid (inL k = false) := decide_eq_false (by omega)
    have HS : Hid (symL k = (0, 0, 0)) := show _ = _ by unfold symL; rw [HE.out]; rfl
    rcases hb with hl | hg
    · skip
      go_enter Try.func30, Try.ntmps30
      go_wp2_with (first
        | (refine wpList_alloc3 rfl rfl ?_; intro b2 w1 hT1 hK1 hb2; have HW : Hid (Syb w1 b2 (0, 0, 0) ∧ Keeps (fun _ => False) w w1 ∧ w.heap.size ≤ b2) := ⟨hT1, hK1, hb2⟩; clear hT1 hK1 hb2)
        | (refine wpList_store3 rfl _ _ rfl b2 (0, 0, 0) rfl rfl (0, 0, 0) HW.out.1 ?_; intro w2 hT2 hK2; have HK : Hid (Keeps (fun _ => False) w w2) := HW.out.2.1.trans hK2 (fun i hi e => by have := HW.out.2.2; omega); have HT : Hid (Syb w2 b2 (0, 0, 0)) := hT2; clear hT2 hK2))
      (try simp only [Exit.inBlock, Exit.then])
      refine bodyPost_ret (v := .tuple #[syV (0, 0, 0), .int .i64 600]) ?_ rfl ⟨by rw [HS.out, HE.out]; rfl, HK.out⟩
      rw [results_cell_tmp rfl]
      show ((asAddr (.pointer (some ⟨b2, 0, none⟩))).run Try.prog w2).andThen (fun a w₁ => ((loadVar 69 a).run Try.prog w₁).andThen fun v w₂ => .ok (Value.tuple #[v, .int .i64 600]) w₂) = _
      simp [asAddr, Result.andThen, HT.out.loadVar, syV]
    · have hl : ¬ (k < 3) := by omega
      go_enter Try.func30, Try.ntmps30
      go_wp2_with (first
        | (refine wpList_alloc3 rfl rfl ?_; intro b2 w1 hT1 hK1 hb2; have HW : Hid (Syb w1 b2 (0, 0, 0) ∧ Keeps (fun _ => False) w w1 ∧ w.heap.size ≤ b2) := ⟨hT1, hK1, hb2⟩; clear hT1 hK1 hb2)
        | (refine wpList_store3 rfl _ _ rfl b2 (0, 0, 0) rfl rfl (0, 0, 0) HW.out.1 ?_; intro w2 hT2 hK2; have HK : Hid (Keeps (fun _ => False) w w2) := HW.out.2.1.trans hK2 (fun i hi e => by have := HW.out.2.2; omega); have HT : Hid (Syb w2 b2 (0, 0, 0)) := hT2; clear hT2 hK2))
      (try simp only [Exit.inBlock, Exit.then])
      refine bodyPost_ret (v := .tuple #[syV (0, 0, 0), .int .i64 600]) ?_ rfl ⟨by rw [HS.out, HE.out]; rfl, HK.out⟩
      rw [results_cell_tmp rfl]
      show ((asAddr (.pointer (some ⟨b2, 0, none⟩))).run Try.prog w2).andThen (fun a w₁ => ((loadVar 69 a).run Try.prog w₁).andThen fun v w₂ => .ok (Value.tuple #[v, .int .i64 600]) w₂) = _
      simp [asAddr, Result.andThen, HT.out.loadVar, syV]
  · have HE : Hid (inL k = true) := decide_eq_true (by omega)
    obtain ⟨hl, hg⟩ : 3 ≤ k ∧ k ≤ 258 := by omega
    clear hb
    obtain ⟨kn, rfl⟩ : ∃ j : Nat, k = (j : Int) := ⟨k.toNat, by omega⟩
    have HS : Hid (symL (kn : Int) = symF lenF 28 257 kn) := show _ = _ by unfold symL; rw [HE.out, if_pos rfl]; rfl
    have HC : Hid (∀ (m : Nat) (w : World), m ≤ 28 → Calls Try.prog 47 #[.int .i64 ((m : Int) + 257)] w fun e w' => e = .returned (.tuple #[.int .i64 ((lenF m).1 : Int), .int .i64 ((lenF m).2 : Int), .int .i64 0]) ∧ w' = w) := fun m w hm => by
      have h := rlengthOf_ok ((m : Int) + 257) w
      have e1 : inLS ((m : Int) + 257) = true := decide_eq_true (by omega)
      have e2 : ofL ((m : Int) + 257) = (((lenF m).1 : Int), ((lenF m).2 : Int)) := by
        unfold ofL; rw [e1, if_pos rfl]
        rw [show ((m : Int) + 257 - 257).toNat = m by omega]
      rw [e1, e2] at h
      exact h
    go_enter Try.func30, Try.ntmps30
    go_wp2_with (first
      | (refine wpList_alloc3 rfl rfl ?_; intro b2 w1 hT1 hK1 hb2; have HW : Hid (Syb w1 b2 (0, 0, 0) ∧ Keeps (fun _ => False) w w1) := ⟨hT1, hK1⟩; have HB : Hid (w.heap.size ≤ b2) := hb2; clear hT1 hK1 hb2))
    go_loopw [4] (fun s4 w' => ∃ m : Nat, s4 = .int .i64 ((m : Int) + 257) ∧ m ≤ 28 ∧ Hid (lastLe lenF kn m = lastLe lenF kn 28) ∧ Hid (Syb w' b2 (0, 0, 0) ∧ Keeps (fun _ => False) w w')) (fun s4 w' => (intOf s4).toNat)
    case atStart => exact ⟨28, rfl, by omega, (rfl : _ = _), HW⟩
    case round =>
      clear HW
      obtain ⟨m, rfl, hm, HL, HW⟩ := hrel
      have hfm := lenF_le m hm
      by_cases hc : (lenF m).1 ≤ kn
      · have hcz : ((lenF m).1 : Int) ≤ (kn : Int) := by omega
        have HM : Hid (lastLe lenF kn 28 = m) := show _ = _ by rw [← HL.out]; exact lastLe_here hc
        have HC1 : Hid (∀ w, Calls Try.prog 47 #[.int .i64 ((m : Int) + 257)] w fun e w' => e = .returned (.tuple #[.int .i64 ((lenF m).1 : Int), .int .i64 ((lenF m).2 : Int), .int .i64 0]) ∧ w' = w) := fun w => HC.out m w hm
        obtain ⟨p, hp⟩ : ∃ p, (lenF m).1 = p := ⟨_, rfl⟩
        obtain ⟨q, hq⟩ : ∃ q, (lenF m).2 = q := ⟨_, rfl⟩
        have HPQ : Hid ((lenF m).1 = p ∧ (lenF m).2 = q) := ⟨hp, hq⟩
        rw [hp] at hcz hc hfm
        rw [hq] at hfm
        rw [hp, hq] at HC1
        clear hp hq
        go_wp2_with (first
          | (go_at_call 47; refine (HC1.out _).mono ?_; rintro e w2 ⟨rfl, hw⟩; obtain rfl := hw.symm; clear hw)
          | (refine wpList_store3 rfl _ _ rfl b2 (((m : Int) + 257), (q : Int), (kn : Int) - (p : Int)) rfl rfl (0, 0, 0) HW.out.1 ?_; intro w3 hT3 hK3; have HK : Hid (Keeps (fun _ => False) w w3) := HW.out.2.trans hK3 (fun i hi e => by have := HB.out; omega); have HT : Hid (Syb w3 b2 (((m : Int) + 257), (q : Int), (kn : Int) - (p : Int))) := hT3; clear hT3 hK3))
        (try simp only [Exit.inBlock, Exit.then])
        refine bodyPost_ret (v := .tuple #[syV (((m : Int) + 257), (q : Int), (kn : Int) - (p : Int)), .int .i64 0]) ?_ rfl ⟨by rw [HS.out, HE.out]; unfold symF; rw [HM.out, HPQ.out.1, HPQ.out.2]; simp [errB, syV, Int.add_comm], HK.out⟩
        rw [results_cell_tmp rfl]
        show ((asAddr (.pointer (some ⟨b2, 0, none⟩))).run Try.prog w3).andThen (fun a w₁ => ((loadVar 69 a).run Try.prog w₁).andThen fun v w₂ => .ok (Value.tuple #[v, .int .i64 0]) w₂) = _
        simp [asAddr, Result.andThen, HT.out.loadVar, syV]
      · have hcz : ¬ (((lenF m).1 : Int) ≤ (kn : Int)) := by omega
        have hm0 : 0 < m := by
          rcases Nat.eq_zero_or_pos m with rfl | h
          · exact absurd (show (lenF 0).1 ≤ kn from (show 3 ≤ kn by omega)) hc
          · exact h
        obtain ⟨j, rfl⟩ : ∃ j, m = j + 1 := ⟨m - 1, by omega⟩
        have HL' : Hid (lastLe lenF kn j = lastLe lenF kn 28) := show _ = _ by rw [← HL.out]; exact (lastLe_stay hc).symm
        have HC1 : Hid (∀ w, Calls Try.prog 47 #[.int .i64 (((j + 1 : Nat) : Int) + 257)] w fun e w' => e = .returned (.tuple #[.int .i64 ((lenF (j + 1)).1 : Int), .int .i64 ((lenF (j + 1)).2 : Int), .int .i64 0]) ∧ w' = w) := fun w => HC.out (j + 1) w hm
        generalize lenF (j + 1) = fj at *
        clear HL
        have hjw : wrap64 ((((j + 1 : Nat) : Int) + 257) - 1) = ((j : Int) + 257) := by unfold wrap64; omega
        go_wp2_with (first
          | (go_at_call 47; refine (HC1.out _).mono ?_; rintro e w2 ⟨rfl, hw⟩; obtain rfl := hw.symm; clear hw))
        go_roundw
        case rel => exact ⟨j, by first | rfl | (congr 1; omega), by omega, HL', HW⟩
        case measure => simp [intOf]; try omega

set_option maxHeartbeats 4000000 in
set_option maxRecDepth 1000000 in
theorem rdist_ok (k : Int) (w : World) : Calls Try.prog 31 #[.int .i64 k] w fun e w' => e = .returned (.tuple #[syV (symD k), .int .i64 (errB (inD k))]) ∧ Keeps (fun _ => False) w w' := by
  by_cases hb : k < 1 ∨ 32768 < k
  · have HE : Hid (inD k = false) := decide_eq_false (by omega)
    have HS : Hid (symD k = (0, 0, 0)) := show _ = _ by unfold symD; rw [HE.out]; rfl
    rcases hb with hl | hg
    · skip
      go_enter Try.func31, Try.ntmps31
      go_wp2_with (first
        | (refine wpList_alloc3 rfl rfl ?_; intro b2 w1 hT1 hK1 hb2; have HW : Hid (Syb w1 b2 (0, 0, 0) ∧ Keeps (fun _ => False) w w1 ∧ w.heap.size ≤ b2) := ⟨hT1, hK1, hb2⟩; clear hT1 hK1 hb2)
        | (refine wpList_store3 rfl _ _ rfl b2 (0, 0, 0) rfl rfl (0, 0, 0) HW.out.1 ?_; intro w2 hT2 hK2; have HK : Hid (Keeps (fun _ => False) w w2) := HW.out.2.1.trans hK2 (fun i hi e => by have := HW.out.2.2; omega); have HT : Hid (Syb w2 b2 (0, 0, 0)) := hT2; clear hT2 hK2))
      (try simp only [Exit.inBlock, Exit.then])
      refine bodyPost_ret (v := .tuple #[syV (0, 0, 0), .int .i64 600]) ?_ rfl ⟨by rw [HS.out, HE.out]; rfl, HK.out⟩
      rw [results_cell_tmp rfl]
      show ((asAddr (.pointer (some ⟨b2, 0, none⟩))).run Try.prog w2).andThen (fun a w₁ => ((loadVar 69 a).run Try.prog w₁).andThen fun v w₂ => .ok (Value.tuple #[v, .int .i64 600]) w₂) = _
      simp [asAddr, Result.andThen, HT.out.loadVar, syV]
    · have hl : ¬ (k < 1) := by omega
      go_enter Try.func31, Try.ntmps31
      go_wp2_with (first
        | (refine wpList_alloc3 rfl rfl ?_; intro b2 w1 hT1 hK1 hb2; have HW : Hid (Syb w1 b2 (0, 0, 0) ∧ Keeps (fun _ => False) w w1 ∧ w.heap.size ≤ b2) := ⟨hT1, hK1, hb2⟩; clear hT1 hK1 hb2)
        | (refine wpList_store3 rfl _ _ rfl b2 (0, 0, 0) rfl rfl (0, 0, 0) HW.out.1 ?_; intro w2 hT2 hK2; have HK : Hid (Keeps (fun _ => False) w w2) := HW.out.2.1.trans hK2 (fun i hi e => by have := HW.out.2.2; omega); have HT : Hid (Syb w2 b2 (0, 0, 0)) := hT2; clear hT2 hK2))
      (try simp only [Exit.inBlock, Exit.then])
      refine bodyPost_ret (v := .tuple #[syV (0, 0, 0), .int .i64 600]) ?_ rfl ⟨by rw [HS.out, HE.out]; rfl, HK.out⟩
      rw [results_cell_tmp rfl]
      show ((asAddr (.pointer (some ⟨b2, 0, none⟩))).run Try.prog w2).andThen (fun a w₁ => ((loadVar 69 a).run Try.prog w₁).andThen fun v w₂ => .ok (Value.tuple #[v, .int .i64 600]) w₂) = _
      simp [asAddr, Result.andThen, HT.out.loadVar, syV]
  · have HE : Hid (inD k = true) := decide_eq_true (by omega)
    obtain ⟨hl, hg⟩ : 1 ≤ k ∧ k ≤ 32768 := by omega
    clear hb
    obtain ⟨kn, rfl⟩ : ∃ j : Nat, k = (j : Int) := ⟨k.toNat, by omega⟩
    have HS : Hid (symD (kn : Int) = symF dstF 29 0 kn) := show _ = _ by unfold symD; rw [HE.out, if_pos rfl]; rfl
    have HC : Hid (∀ (m : Nat) (w : World), m ≤ 29 → Calls Try.prog 48 #[.int .i64 (m : Int)] w fun e w' => e = .returned (.tuple #[.int .i64 ((dstF m).1 : Int), .int .i64 ((dstF m).2 : Int), .int .i64 0]) ∧ w' = w) := fun m w hm => by
      have h := rdistOf_ok (m : Int) w
      have e1 : inDS (m : Int) = true := decide_eq_true (by omega)
      have e2 : ofD (m : Int) = (((dstF m).1 : Int), ((dstF m).2 : Int)) := by
        unfold ofD; rw [e1, if_pos rfl]
        rfl
      rw [e1, e2] at h
      exact h
    go_enter Try.func31, Try.ntmps31
    go_wp2_with (first
      | (refine wpList_alloc3 rfl rfl ?_; intro b2 w1 hT1 hK1 hb2; have HW : Hid (Syb w1 b2 (0, 0, 0) ∧ Keeps (fun _ => False) w w1) := ⟨hT1, hK1⟩; have HB : Hid (w.heap.size ≤ b2) := hb2; clear hT1 hK1 hb2))
    go_loopw [4] (fun s4 w' => ∃ m : Nat, s4 = .int .i64 (m : Int) ∧ m ≤ 29 ∧ Hid (lastLe dstF kn m = lastLe dstF kn 29) ∧ Hid (Syb w' b2 (0, 0, 0) ∧ Keeps (fun _ => False) w w')) (fun s4 w' => (intOf s4).toNat)
    case atStart => exact ⟨29, rfl, by omega, (rfl : _ = _), HW⟩
    case round =>
      clear HW
      obtain ⟨m, rfl, hm, HL, HW⟩ := hrel
      have hfm := dstF_le m hm
      by_cases hc : (dstF m).1 ≤ kn
      · have hcz : ((dstF m).1 : Int) ≤ (kn : Int) := by omega
        have HM : Hid (lastLe dstF kn 29 = m) := show _ = _ by rw [← HL.out]; exact lastLe_here hc
        have HC1 : Hid (∀ w, Calls Try.prog 48 #[.int .i64 (m : Int)] w fun e w' => e = .returned (.tuple #[.int .i64 ((dstF m).1 : Int), .int .i64 ((dstF m).2 : Int), .int .i64 0]) ∧ w' = w) := fun w => HC.out m w hm
        obtain ⟨p, hp⟩ : ∃ p, (dstF m).1 = p := ⟨_, rfl⟩
        obtain ⟨q, hq⟩ : ∃ q, (dstF m).2 = q := ⟨_, rfl⟩
        have HPQ : Hid ((dstF m).1 = p ∧ (dstF m).2 = q) := ⟨hp, hq⟩
        rw [hp] at hcz hc hfm
        rw [hq] at hfm
        rw [hp, hq] at HC1
        clear hp hq
        go_wp2_with (first
          | (go_at_call 48; refine (HC1.out _).mono ?_; rintro e w2 ⟨rfl, hw⟩; obtain rfl := hw.symm; clear hw)
          | (refine wpList_store3 rfl _ _ rfl b2 ((m : Int), (q : Int), (kn : Int) - (p : Int)) rfl rfl (0, 0, 0) HW.out.1 ?_; intro w3 hT3 hK3; have HK : Hid (Keeps (fun _ => False) w w3) := HW.out.2.trans hK3 (fun i hi e => by have := HB.out; omega); have HT : Hid (Syb w3 b2 ((m : Int), (q : Int), (kn : Int) - (p : Int))) := hT3; clear hT3 hK3))
        (try simp only [Exit.inBlock, Exit.then])
        refine bodyPost_ret (v := .tuple #[syV ((m : Int), (q : Int), (kn : Int) - (p : Int)), .int .i64 0]) ?_ rfl ⟨by rw [HS.out, HE.out]; unfold symF; rw [HM.out, HPQ.out.1, HPQ.out.2]; simp [errB, syV], HK.out⟩
        rw [results_cell_tmp rfl]
        show ((asAddr (.pointer (some ⟨b2, 0, none⟩))).run Try.prog w3).andThen (fun a w₁ => ((loadVar 69 a).run Try.prog w₁).andThen fun v w₂ => .ok (Value.tuple #[v, .int .i64 0]) w₂) = _
        simp [asAddr, Result.andThen, HT.out.loadVar, syV]
      · have hcz : ¬ (((dstF m).1 : Int) ≤ (kn : Int)) := by omega
        have hm0 : 0 < m := by
          rcases Nat.eq_zero_or_pos m with rfl | h
          · exact absurd (show (dstF 0).1 ≤ kn from (show 1 ≤ kn by omega)) hc
          · exact h
        obtain ⟨j, rfl⟩ : ∃ j, m = j + 1 := ⟨m - 1, by omega⟩
        have HL' : Hid (lastLe dstF kn j = lastLe dstF kn 29) := show _ = _ by rw [← HL.out]; exact (lastLe_stay hc).symm
        have HC1 : Hid (∀ w, Calls Try.prog 48 #[.int .i64 ((j + 1 : Nat) : Int)] w fun e w' => e = .returned (.tuple #[.int .i64 ((dstF (j + 1)).1 : Int), .int .i64 ((dstF (j + 1)).2 : Int), .int .i64 0]) ∧ w' = w) := fun w => HC.out (j + 1) w hm
        generalize dstF (j + 1) = fj at *
        clear HL
        have hjw : wrap64 (((j + 1 : Nat) : Int) - 1) = (j : Int) := by unfold wrap64; omega
        go_wp2_with (first
          | (go_at_call 48; refine (HC1.out _).mono ?_; rintro e w2 ⟨rfl, hw⟩; obtain rfl := hw.symm; clear hw))
        go_roundw
        case rel => exact ⟨j, by first | rfl | (congr 1; omega), by omega, HL', HW⟩
        case measure => simp [intOf]; try omega

def fixV (i : Nat) : Int := if 144 ≤ i ∧ i < 256 then 9 else if 256 ≤ i ∧ i < 280 then 7 else 8
theorem fix_all : ∀ i : Fin 288, fixL[i.val]? = some (fixV i.val) := by decide +kernel
theorem fix_at (i : Nat) (h : i < 288) : fixL[i]? = some (fixV i) := fix_all ⟨i, h⟩
theorem fix_next (i : Nat) (h : i < 288) : fixL.take (i + 1) = fixL.take i ++ [fixV i] := by rw [List.take_add_one, fix_at i h]; rfl

set_option maxHeartbeats 4000000 in
set_option maxRecDepth 1000000 in
theorem rfixed_ok (w : World) : Calls Try.prog 24 #[] w fun e w' => ∃ v, e = .returned v ∧ Own w' w.heap.size v fixL ∧ Keeps (fun _ => False) w w' := by
  go_enter Try.func24, Try.ntmps24
  go_wp2
  go_loopw [2, 1] (fun s2 s1 w' => ∃ (i : Nat) (u : Value), i ≤ 288 ∧ s2 = .int .i64 (i : Int) ∧ s1 = u ∧ Hid (Own w' w.heap.size u (fixL.take i) ∧ Keeps (fun _ => False) w w')) (fun s2 s1 w' => ((288 : Int) - intOf s2).toNat)
  case atStart => exact ⟨0, _, by omega, rfl, rfl, World.ownsRow_nil w w.heap.size 3 1, Keeps.refl _ w⟩
  case round =>
    obtain ⟨i, u, hi, rfl, hu, HW⟩ := hrel
    obtain rfl := hu.symm
    clear hu
    by_cases hin : i < 288
    · have hiz : (i : Int) < 288 := by omega
      have HL : Hid ((fixL.take i).length + 1 ≤ 1000000) := show _ ≤ _ by rw [List.length_take]; omega
      obtain h1 | h1 | h1 | h1 : i < 144 ∨ (144 ≤ i ∧ i < 256) ∨ (256 ≤ i ∧ i < 280) ∨ 280 ≤ i := by omega
      · have z1 : ¬ ((144 : Int) ≤ (i : Int)) := by omega
        have z2 : ¬ ((256 : Int) ≤ (i : Int)) := by omega
        have HN : Hid (fixL.take (i + 1) = fixL.take i ++ [8]) := show _ = _ by rw [fix_next i hin, show fixV i = 8 by unfold fixV; repeat' split; all_goals omega]
        go_wp2_with (first
          | (refine wpList_join rfl _ _ rfl rfl w.heap.size u (fixL.take i) rfl (HW.out.1.keptF ((Keeps.refl _ wr).alloc _)) wr.heap.size 1 1 [8] rfl rfl (Blk.lit wr [8]) (by have := HW.out.2.size; simp; omega) HL.out ?_; intro v' w3 hO hG; have HW3 : Hid (Own w3 w.heap.size v' (fixL.take (i + 1)) ∧ Keeps (fun _ => False) w w3) := ⟨(by rw [HN.out]; exact hO), Own.grown (HW.out.1.keptF ((Keeps.refl _ wr).alloc _)) (HW.out.2.alloc _) hG (Nat.le_refl _)⟩; clear hO hG))
        go_roundw
        case rel => exact ⟨i + 1, v', by omega, by push_cast; rfl, rfl, HW3⟩
        case measure => simp [intOf]; omega
      · have z1 : (144 : Int) ≤ (i : Int) := by omega
        have z2 : (i : Int) < 256 := by omega
        have HN : Hid (fixL.take (i + 1) = fixL.take i ++ [9]) := show _ = _ by rw [fix_next i hin, show fixV i = 9 by unfold fixV; repeat' split; all_goals omega]
        go_wp2_with (first
          | (refine wpList_join rfl _ _ rfl rfl w.heap.size u (fixL.take i) rfl (HW.out.1.keptF ((Keeps.refl _ wr).alloc _)) wr.heap.size 1 1 [9] rfl rfl (Blk.lit wr [9]) (by have := HW.out.2.size; simp; omega) HL.out ?_; intro v' w3 hO hG; have HW3 : Hid (Own w3 w.heap.size v' (fixL.take (i + 1)) ∧ Keeps (fun _ => False) w w3) := ⟨(by rw [HN.out]; exact hO), Own.grown (HW.out.1.keptF ((Keeps.refl _ wr).alloc _)) (HW.out.2.alloc _) hG (Nat.le_refl _)⟩; clear hO hG))
        go_roundw
        case rel => exact ⟨i + 1, v', by omega, by push_cast; rfl, rfl, HW3⟩
        case measure => simp [intOf]; omega
      · have z1 : (144 : Int) ≤ (i : Int) := by omega
        have z2 : ¬ ((i : Int) < 256) := by omega
        have z3 : (256 : Int) ≤ (i : Int) := by omega
        have z4 : (i : Int) < 280 := by omega
        have HN : Hid (fixL.take (i + 1) = fixL.take i ++ [7]) := show _ = _ by rw [fix_next i hin, show fixV i = 7 by unfold fixV; repeat' split; all_goals omega]
        go_wp2_with (first
          | (refine wpList_join rfl _ _ rfl rfl w.heap.size u (fixL.take i) rfl (HW.out.1.keptF ((Keeps.refl _ wr).alloc _)) wr.heap.size 1 1 [7] rfl rfl (Blk.lit wr [7]) (by have := HW.out.2.size; simp; omega) HL.out ?_; intro v' w3 hO hG; have HW3 : Hid (Own w3 w.heap.size v' (fixL.take (i + 1)) ∧ Keeps (fun _ => False) w w3) := ⟨(by rw [HN.out]; exact hO), Own.grown (HW.out.1.keptF ((Keeps.refl _ wr).alloc _)) (HW.out.2.alloc _) hG (Nat.le_refl _)⟩; clear hO hG))
        go_roundw
        case rel => exact ⟨i + 1, v', by omega, by push_cast; rfl, rfl, HW3⟩
        case measure => simp [intOf]; omega
      · have z1 : (144 : Int) ≤ (i : Int) := by omega
        have z2 : ¬ ((i : Int) < 256) := by omega
        have z3 : (256 : Int) ≤ (i : Int) := by omega
        have z4 : ¬ ((i : Int) < 280) := by omega
        have HN : Hid (fixL.take (i + 1) = fixL.take i ++ [8]) := show _ = _ by rw [fix_next i hin, show fixV i = 8 by unfold fixV; repeat' split; all_goals omega]
        go_wp2_with (first
          | (refine wpList_join rfl _ _ rfl rfl w.heap.size u (fixL.take i) rfl (HW.out.1.keptF ((Keeps.refl _ wr).alloc _)) wr.heap.size 1 1 [8] rfl rfl (Blk.lit wr [8]) (by have := HW.out.2.size; simp; omega) HL.out ?_; intro v' w3 hO hG; have HW3 : Hid (Own w3 w.heap.size v' (fixL.take (i + 1)) ∧ Keeps (fun _ => False) w w3) := ⟨(by rw [HN.out]; exact hO), Own.grown (HW.out.1.keptF ((Keeps.refl _ wr).alloc _)) (HW.out.2.alloc _) hG (Nat.le_refl _)⟩; clear hO hG))
        go_roundw
        case rel => exact ⟨i + 1, v', by omega, by push_cast; rfl, rfl, HW3⟩
        case measure => simp [intOf]; omega
    · obtain rfl : i = 288 := by omega
      go_wp2
      go_ret
      exact ⟨u, rfl, by have := HW.out.1; rw [List.take_of_length_le (by rw [fixL_length]; exact Nat.le_refl _)] at this; exact this, HW.out.2⟩

end Go.Proofs.Ytdbfbijalhknnaa.Tb

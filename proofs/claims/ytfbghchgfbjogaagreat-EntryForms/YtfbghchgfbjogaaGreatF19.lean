/-
  The document's own Length, LengthOf, Dist, DistOf, Fixed. The document's own answers on lengths: may they be, their room, Check. The document's own Codes and Find.
-/
import Derived.Test.YtfbghchgfbjogaaGreatRows
import Derived.Test.YtfbghchgfbjogaaGreatF18
namespace Go.Proofs.YtfbghchgfbjogaaGreat.Tb
open Go.RowKit
set_option linter.unusedVariables false
set_option linter.unusedSimpArgs false

theorem lenG_high (m : Nat) (h : 4 ≤ m) (h2 : m ≤ 23) : lenF (m + 4) = (3 + (4 + m % 4) * 2 ^ (m / 4), m / 4) := by
  rw [← lenG_eq (m + 4) (by omega)]
  unfold lenG
  rw [if_neg (by omega), if_neg (by omega), Nat.add_sub_cancel]
theorem dstG_high (m : Nat) (h : 2 ≤ m) (h2 : m ≤ 27) : dstF (m + 2) = (1 + (2 + m % 2) * 2 ^ (m / 2), m / 2) := by
  rw [← dstG_eq (m + 2) (by omega)]
  unfold dstG
  rw [if_neg (by omega), Nat.add_sub_cancel, Nat.add_mod_right]
theorem shl_fit (a q : Nat) (ha : a ≤ 7) (hq : q ≤ 14) : wrap64 ((a : Int) * 2 ^ q) = ((a * 2 ^ q : Nat) : Int) ∧ a * 2 ^ q ≤ 200000 := by
  have h1 := pow_small q hq
  have e : ((a : Int) * 2 ^ q) = ((a * 2 ^ q : Nat) : Int) := by push_cast; rfl
  have h2 : a * 2 ^ q ≤ 7 * 16384 := Nat.mul_le_mul ha h1
  rw [e]
  generalize a * 2 ^ q = z at *
  refine ⟨?_, by omega⟩
  unfold wrap64; omega

set_option maxHeartbeats 4000000 in
set_option maxRecDepth 1000000 in
theorem rlengthOf_ok (k : Int) (w : World) : Calls Tryz.prog 85 #[.int .i64 k] w fun e w' => e = .returned (.tuple #[.int .i64 (ofL k).1, .int .i64 (ofL k).2, .int .i64 (errB (inLS k))]) ∧ w' = w := by
  by_cases hl : k < 257
  · have HE : Hid (inLS k = false) := decide_eq_false (by omega)
    go_enter Tryz.func85, Tryz.ntmps85
    go_wp2
    go_ret3
    exact ⟨by simp [ofL, errB, HE.out], rfl⟩
  by_cases hg : 285 < k
  · have HE : Hid (inLS k = false) := decide_eq_false (by omega)
    go_enter Tryz.func85, Tryz.ntmps85
    go_wp2
    go_ret3
    exact ⟨by simp [ofL, errB, HE.out], rfl⟩
  have HE : Hid (inLS k = true) := decide_eq_true (by omega)
  have HO : Hid (ofL k = (((lenF (k - 257).toNat).1 : Int), ((lenF (k - 257).toNat).2 : Int))) := show _ = _ by unfold ofL; rw [HE.out]; rfl
  by_cases h285 : k = 285
  · subst h285
    go_enter Tryz.func85, Tryz.ntmps85
    go_wp2
    go_ret3
    exact ⟨by rw [HO.out, HE.out]; rfl, rfl⟩
  by_cases h265 : k < 265
  · have hw : wrap64 (k - 254) = k - 254 := by unfold wrap64; omega
    have HF : Hid (lenF (k - 257).toNat = ((k - 254).toNat, 0)) := show _ = _ by
      rw [← lenG_eq _ (by omega)]
      unfold lenG
      rw [if_neg (by omega), if_pos (by omega)]
      congr 1; omega
    have hk2 : ((k - 254).toNat : Int) = k - 254 := by omega
    have HK2 : Hid (((k - 254).toNat : Int) = k - 254) := hk2
    clear hk2
    go_enter Tryz.func85, Tryz.ntmps85
    go_wp2
    go_ret3
    refine ⟨?_, rfl⟩
    rw [HO.out, HE.out, HF.out, HK2.out]; rfl
  · obtain ⟨m, rfl⟩ : ∃ m : Nat, k = (m : Int) + 261 := ⟨(k - 261).toNat, by omega⟩
    have hm : 4 ≤ m ∧ m ≤ 23 := by omega
    obtain ⟨q, hq⟩ : ∃ q, m / 4 = q := ⟨_, rfl⟩
    obtain ⟨r, hr⟩ : ∃ r, m % 4 = r := ⟨_, rfl⟩
    have HF : Hid (lenF ((m : Int) + 261 - 257).toNat = (3 + (4 + r) * 2 ^ q, q)) := show _ = _ by
      rw [show ((m : Int) + 261 - 257).toNat = m + 4 by omega, lenG_high m hm.1 hm.2, hq, hr]
    have hd : (m : Int) / 4 = (q : Int) := by omega
    have hrz : (m : Int) % 4 = (r : Int) := by omega
    have hw : wrap64 ((m : Int) + 261 - 261) = (m : Int) := by unfold wrap64; omega
    obtain ⟨s1, s2⟩ := shl_fit (4 + r) q (by omega) (by omega)
    obtain ⟨z, hz⟩ : ∃ z, (4 + r) * 2 ^ q = z := ⟨_, rfl⟩
    rw [hz] at s1 s2 HF
    have hs : wrap64 ((4 + (r : Int)) * 2 ^ q) = (z : Int) := by rw [← s1]; push_cast; rfl
    have hr3 : r ≤ 3 := by omega
    have hq5 : q ≤ 5 := by omega
    clear s1 hz hq hr
    go_enter Tryz.func85, Tryz.ntmps85
    go_wp2
    go_ret3
    refine ⟨?_, rfl⟩
    rw [HO.out, HE.out, HF.out]; push_cast; rfl

set_option maxHeartbeats 4000000 in
set_option maxRecDepth 1000000 in
theorem rdistOf_ok (k : Int) (w : World) : Calls Tryz.prog 86 #[.int .i64 k] w fun e w' => e = .returned (.tuple #[.int .i64 (ofD k).1, .int .i64 (ofD k).2, .int .i64 (errB (inDS k))]) ∧ w' = w := by
  by_cases hl : k < 0
  · have HE : Hid (inDS k = false) := decide_eq_false (by omega)
    go_enter Tryz.func86, Tryz.ntmps86
    go_wp2
    go_ret3
    exact ⟨by simp [ofD, errB, HE.out], rfl⟩
  by_cases hg : 29 < k
  · have HE : Hid (inDS k = false) := decide_eq_false (by omega)
    go_enter Tryz.func86, Tryz.ntmps86
    go_wp2
    go_ret3
    exact ⟨by simp [ofD, errB, HE.out], rfl⟩
  have HE : Hid (inDS k = true) := decide_eq_true (by omega)
  have HO : Hid (ofD k = (((dstF k.toNat).1 : Int), ((dstF k.toNat).2 : Int))) := show _ = _ by unfold ofD; rw [HE.out]; rfl
  by_cases h4 : k < 4
  · have hw : wrap64 (k + 1) = k + 1 := by unfold wrap64; omega
    have HF : Hid (dstF k.toNat = ((k + 1).toNat, 0)) := show _ = _ by
      rw [← dstG_eq _ (by omega)]
      unfold dstG
      rw [if_pos (by omega)]
      congr 1; omega
    have hk2 : ((k + 1).toNat : Int) = k + 1 := by omega
    have HK2 : Hid (((k + 1).toNat : Int) = k + 1) := hk2
    clear hk2
    go_enter Tryz.func86, Tryz.ntmps86
    go_wp2
    go_ret3
    refine ⟨?_, rfl⟩
    rw [HO.out, HE.out, HF.out, HK2.out]; rfl
  · obtain ⟨m, rfl⟩ : ∃ m : Nat, k = (m : Int) + 2 := ⟨(k - 2).toNat, by omega⟩
    have hm : 2 ≤ m ∧ m ≤ 27 := by omega
    obtain ⟨q, hq⟩ : ∃ q, m / 2 = q := ⟨_, rfl⟩
    obtain ⟨r, hr⟩ : ∃ r, m % 2 = r := ⟨_, rfl⟩
    have HF : Hid (dstF ((m : Int) + 2).toNat = (1 + (2 + r) * 2 ^ q, q)) := show _ = _ by
      rw [show ((m : Int) + 2).toNat = m + 2 by omega, dstG_high m hm.1 hm.2, hq, hr]
    have hd : (m : Int) / 2 = (q : Int) := by omega
    have hrz : ((m : Int) + 2) % 2 = (r : Int) := by omega
    have hw : wrap64 ((m : Int) + 2 - 2) = (m : Int) := by unfold wrap64; omega
    obtain ⟨s1, s2⟩ := shl_fit (2 + r) q (by omega) (by omega)
    obtain ⟨z, hz⟩ : ∃ z, (2 + r) * 2 ^ q = z := ⟨_, rfl⟩
    rw [hz] at s1 s2 HF
    have hs : wrap64 ((2 + (r : Int)) * 2 ^ q) = (z : Int) := by rw [← s1]; push_cast; rfl
    have hr3 : r ≤ 1 := by omega
    have hq5 : q ≤ 13 := by omega
    clear s1 hz hq hr
    go_enter Tryz.func86, Tryz.ntmps86
    go_wp2
    go_ret3
    refine ⟨?_, rfl⟩
    rw [HO.out, HE.out, HF.out]; push_cast; rfl

set_option maxHeartbeats 4000000 in
set_option maxRecDepth 1000000 in
theorem rlength_ok (k : Int) (w : World) : Calls Tryz.prog 66 #[.int .i64 k] w fun e w' => e = .returned (.tuple #[syV (symL k), .int .i64 (errB (inL k))]) ∧ Keeps (fun _ => False) w w' := by
  by_cases hb : k < 3 ∨ 258 < k
  · have HE : Hid (inL k = false) := decide_eq_false (by omega)
    have HS : Hid (symL k = (0, 0, 0)) := show _ = _ by unfold symL; rw [HE.out]; rfl
    rcases hb with hl | hg
    · skip
      go_enter Tryz.func66, Tryz.ntmps66
      go_wp2_with (first
        | (refine wpList_alloc3 rfl rfl ?_; intro b2 w1 hT1 hK1 hb2; have HW : Hid (Syb w1 b2 (0, 0, 0) ∧ Keeps (fun _ => False) w w1 ∧ w.heap.size ≤ b2) := ⟨hT1, hK1, hb2⟩; clear hT1 hK1 hb2)
        | (refine wpList_store3 rfl _ _ rfl b2 (0, 0, 0) rfl rfl (0, 0, 0) HW.out.1 ?_; intro w2 hT2 hK2; have HK : Hid (Keeps (fun _ => False) w w2) := HW.out.2.1.trans hK2 (fun i hi e => by have := HW.out.2.2; omega); have HT : Hid (Syb w2 b2 (0, 0, 0)) := hT2; clear hT2 hK2))
      (try simp only [Exit.inBlock, Exit.then])
      refine bodyPost_ret (v := .tuple #[syV (0, 0, 0), .int .i64 600]) ?_ rfl ⟨by rw [HS.out, HE.out]; rfl, HK.out⟩
      rw [results_cell_tmp rfl]
      show ((asAddr (.pointer (some ⟨b2, 0, none⟩))).run Tryz.prog w2).andThen (fun a w₁ => ((loadVar 108 a).run Tryz.prog w₁).andThen fun v w₂ => .ok (Value.tuple #[v, .int .i64 600]) w₂) = _
      simp [asAddr, Result.andThen, HT.out.loadVar, syV]
    · have hl : ¬ (k < 3) := by omega
      go_enter Tryz.func66, Tryz.ntmps66
      go_wp2_with (first
        | (refine wpList_alloc3 rfl rfl ?_; intro b2 w1 hT1 hK1 hb2; have HW : Hid (Syb w1 b2 (0, 0, 0) ∧ Keeps (fun _ => False) w w1 ∧ w.heap.size ≤ b2) := ⟨hT1, hK1, hb2⟩; clear hT1 hK1 hb2)
        | (refine wpList_store3 rfl _ _ rfl b2 (0, 0, 0) rfl rfl (0, 0, 0) HW.out.1 ?_; intro w2 hT2 hK2; have HK : Hid (Keeps (fun _ => False) w w2) := HW.out.2.1.trans hK2 (fun i hi e => by have := HW.out.2.2; omega); have HT : Hid (Syb w2 b2 (0, 0, 0)) := hT2; clear hT2 hK2))
      (try simp only [Exit.inBlock, Exit.then])
      refine bodyPost_ret (v := .tuple #[syV (0, 0, 0), .int .i64 600]) ?_ rfl ⟨by rw [HS.out, HE.out]; rfl, HK.out⟩
      rw [results_cell_tmp rfl]
      show ((asAddr (.pointer (some ⟨b2, 0, none⟩))).run Tryz.prog w2).andThen (fun a w₁ => ((loadVar 108 a).run Tryz.prog w₁).andThen fun v w₂ => .ok (Value.tuple #[v, .int .i64 600]) w₂) = _
      simp [asAddr, Result.andThen, HT.out.loadVar, syV]
  · have HE : Hid (inL k = true) := decide_eq_true (by omega)
    obtain ⟨hl, hg⟩ : 3 ≤ k ∧ k ≤ 258 := by omega
    clear hb
    obtain ⟨kn, rfl⟩ : ∃ j : Nat, k = (j : Int) := ⟨k.toNat, by omega⟩
    have HS : Hid (symL (kn : Int) = symF lenF 28 257 kn) := show _ = _ by unfold symL; rw [HE.out, if_pos rfl]; rfl
    have HC : Hid (∀ (m : Nat) (w : World), m ≤ 28 → Calls Tryz.prog 85 #[.int .i64 ((m : Int) + 257)] w fun e w' => e = .returned (.tuple #[.int .i64 ((lenF m).1 : Int), .int .i64 ((lenF m).2 : Int), .int .i64 0]) ∧ w' = w) := fun m w hm => by
      have h := rlengthOf_ok ((m : Int) + 257) w
      have e1 : inLS ((m : Int) + 257) = true := decide_eq_true (by omega)
      have e2 : ofL ((m : Int) + 257) = (((lenF m).1 : Int), ((lenF m).2 : Int)) := by
        unfold ofL; rw [e1, if_pos rfl]
        rw [show ((m : Int) + 257 - 257).toNat = m by omega]
      rw [e1, e2] at h
      exact h
    go_enter Tryz.func66, Tryz.ntmps66
    go_wp2_with (first
      | (refine wpList_alloc3 rfl rfl ?_; intro b2 w1 hT1 hK1 hb2; have HW : Hid (Syb w1 b2 (0, 0, 0) ∧ Keeps (fun _ => False) w w1) := ⟨hT1, hK1⟩; have HB : Hid (w.heap.size ≤ b2) := hb2; clear hT1 hK1 hb2))
    go_loopw [4] (fun s4 w' => ∃ m : Nat, s4 = .int .i64 ((m : Int) + 257) ∧ m ≤ 28 ∧ Hid (lastLe lenF kn m = lastLe lenF kn 28) ∧ Hid (Syb w' b2 (0, 0, 0) ∧ Keeps (fun _ => False) w w')) (fun s4 w' => (intOf s4).toNat)
    case atStart => exact ⟨28, rfl, by omega, (rfl : _ = _), HW⟩
    case round =>
      clear HW
      obtain ⟨m, rfl, hm, HL, HW⟩ := hrel
      have hfm := lenF_le m hm
      by_cases hc : (lenF m).1 ≤ kn
      · have hcz : ((lenF m).1 : Int) ≤ (kn : Int) := by omega
        have HM : Hid (lastLe lenF kn 28 = m) := show _ = _ by rw [← HL.out]; exact lastLe_here hc
        have HC1 : Hid (∀ w, Calls Tryz.prog 85 #[.int .i64 ((m : Int) + 257)] w fun e w' => e = .returned (.tuple #[.int .i64 ((lenF m).1 : Int), .int .i64 ((lenF m).2 : Int), .int .i64 0]) ∧ w' = w) := fun w => HC.out m w hm
        obtain ⟨p, hp⟩ : ∃ p, (lenF m).1 = p := ⟨_, rfl⟩
        obtain ⟨q, hq⟩ : ∃ q, (lenF m).2 = q := ⟨_, rfl⟩
        have HPQ : Hid ((lenF m).1 = p ∧ (lenF m).2 = q) := ⟨hp, hq⟩
        rw [hp] at hcz hc hfm
        rw [hq] at hfm
        rw [hp, hq] at HC1
        clear hp hq
        go_wp2_with (first
          | (go_at_call 85; refine (HC1.out _).mono ?_; rintro e w2 ⟨rfl, hw⟩; obtain rfl := hw.symm; clear hw)
          | (refine wpList_store3 rfl _ _ rfl b2 (((m : Int) + 257), (q : Int), (kn : Int) - (p : Int)) rfl rfl (0, 0, 0) HW.out.1 ?_; intro w3 hT3 hK3; have HK : Hid (Keeps (fun _ => False) w w3) := HW.out.2.trans hK3 (fun i hi e => by have := HB.out; omega); have HT : Hid (Syb w3 b2 (((m : Int) + 257), (q : Int), (kn : Int) - (p : Int))) := hT3; clear hT3 hK3))
        (try simp only [Exit.inBlock, Exit.then])
        refine bodyPost_ret (v := .tuple #[syV (((m : Int) + 257), (q : Int), (kn : Int) - (p : Int)), .int .i64 0]) ?_ rfl ⟨by rw [HS.out, HE.out]; unfold symF; rw [HM.out, HPQ.out.1, HPQ.out.2]; simp [errB, syV, Int.add_comm], HK.out⟩
        rw [results_cell_tmp rfl]
        show ((asAddr (.pointer (some ⟨b2, 0, none⟩))).run Tryz.prog w3).andThen (fun a w₁ => ((loadVar 108 a).run Tryz.prog w₁).andThen fun v w₂ => .ok (Value.tuple #[v, .int .i64 0]) w₂) = _
        simp [asAddr, Result.andThen, HT.out.loadVar, syV]
      · have hcz : ¬ (((lenF m).1 : Int) ≤ (kn : Int)) := by omega
        have hm0 : 0 < m := by
          rcases Nat.eq_zero_or_pos m with rfl | h
          · exact absurd (show (lenF 0).1 ≤ kn from (show 3 ≤ kn by omega)) hc
          · exact h
        obtain ⟨j, rfl⟩ : ∃ j, m = j + 1 := ⟨m - 1, by omega⟩
        have HL' : Hid (lastLe lenF kn j = lastLe lenF kn 28) := show _ = _ by rw [← HL.out]; exact (lastLe_stay hc).symm
        have HC1 : Hid (∀ w, Calls Tryz.prog 85 #[.int .i64 (((j + 1 : Nat) : Int) + 257)] w fun e w' => e = .returned (.tuple #[.int .i64 ((lenF (j + 1)).1 : Int), .int .i64 ((lenF (j + 1)).2 : Int), .int .i64 0]) ∧ w' = w) := fun w => HC.out (j + 1) w hm
        generalize lenF (j + 1) = fj at *
        clear HL
        have hjw : wrap64 ((((j + 1 : Nat) : Int) + 257) - 1) = ((j : Int) + 257) := by unfold wrap64; omega
        go_wp2_with (first
          | (go_at_call 85; refine (HC1.out _).mono ?_; rintro e w2 ⟨rfl, hw⟩; obtain rfl := hw.symm; clear hw))
        go_roundw
        case rel => exact ⟨j, by first | rfl | (congr 1; omega), by omega, HL', HW⟩
        case measure => simp [intOf]; try omega

set_option maxHeartbeats 4000000 in
set_option maxRecDepth 1000000 in
theorem rdist_ok (k : Int) (w : World) : Calls Tryz.prog 67 #[.int .i64 k] w fun e w' => e = .returned (.tuple #[syV (symD k), .int .i64 (errB (inD k))]) ∧ Keeps (fun _ => False) w w' := by
  by_cases hb : k < 1 ∨ 32768 < k
  · have HE : Hid (inD k = false) := decide_eq_false (by omega)
    have HS : Hid (symD k = (0, 0, 0)) := show _ = _ by unfold symD; rw [HE.out]; rfl
    rcases hb with hl | hg
    · skip
      go_enter Tryz.func67, Tryz.ntmps67
      go_wp2_with (first
        | (refine wpList_alloc3 rfl rfl ?_; intro b2 w1 hT1 hK1 hb2; have HW : Hid (Syb w1 b2 (0, 0, 0) ∧ Keeps (fun _ => False) w w1 ∧ w.heap.size ≤ b2) := ⟨hT1, hK1, hb2⟩; clear hT1 hK1 hb2)
        | (refine wpList_store3 rfl _ _ rfl b2 (0, 0, 0) rfl rfl (0, 0, 0) HW.out.1 ?_; intro w2 hT2 hK2; have HK : Hid (Keeps (fun _ => False) w w2) := HW.out.2.1.trans hK2 (fun i hi e => by have := HW.out.2.2; omega); have HT : Hid (Syb w2 b2 (0, 0, 0)) := hT2; clear hT2 hK2))
      (try simp only [Exit.inBlock, Exit.then])
      refine bodyPost_ret (v := .tuple #[syV (0, 0, 0), .int .i64 600]) ?_ rfl ⟨by rw [HS.out, HE.out]; rfl, HK.out⟩
      rw [results_cell_tmp rfl]
      show ((asAddr (.pointer (some ⟨b2, 0, none⟩))).run Tryz.prog w2).andThen (fun a w₁ => ((loadVar 108 a).run Tryz.prog w₁).andThen fun v w₂ => .ok (Value.tuple #[v, .int .i64 600]) w₂) = _
      simp [asAddr, Result.andThen, HT.out.loadVar, syV]
    · have hl : ¬ (k < 1) := by omega
      go_enter Tryz.func67, Tryz.ntmps67
      go_wp2_with (first
        | (refine wpList_alloc3 rfl rfl ?_; intro b2 w1 hT1 hK1 hb2; have HW : Hid (Syb w1 b2 (0, 0, 0) ∧ Keeps (fun _ => False) w w1 ∧ w.heap.size ≤ b2) := ⟨hT1, hK1, hb2⟩; clear hT1 hK1 hb2)
        | (refine wpList_store3 rfl _ _ rfl b2 (0, 0, 0) rfl rfl (0, 0, 0) HW.out.1 ?_; intro w2 hT2 hK2; have HK : Hid (Keeps (fun _ => False) w w2) := HW.out.2.1.trans hK2 (fun i hi e => by have := HW.out.2.2; omega); have HT : Hid (Syb w2 b2 (0, 0, 0)) := hT2; clear hT2 hK2))
      (try simp only [Exit.inBlock, Exit.then])
      refine bodyPost_ret (v := .tuple #[syV (0, 0, 0), .int .i64 600]) ?_ rfl ⟨by rw [HS.out, HE.out]; rfl, HK.out⟩
      rw [results_cell_tmp rfl]
      show ((asAddr (.pointer (some ⟨b2, 0, none⟩))).run Tryz.prog w2).andThen (fun a w₁ => ((loadVar 108 a).run Tryz.prog w₁).andThen fun v w₂ => .ok (Value.tuple #[v, .int .i64 600]) w₂) = _
      simp [asAddr, Result.andThen, HT.out.loadVar, syV]
  · have HE : Hid (inD k = true) := decide_eq_true (by omega)
    obtain ⟨hl, hg⟩ : 1 ≤ k ∧ k ≤ 32768 := by omega
    clear hb
    obtain ⟨kn, rfl⟩ : ∃ j : Nat, k = (j : Int) := ⟨k.toNat, by omega⟩
    have HS : Hid (symD (kn : Int) = symF dstF 29 0 kn) := show _ = _ by unfold symD; rw [HE.out, if_pos rfl]; rfl
    have HC : Hid (∀ (m : Nat) (w : World), m ≤ 29 → Calls Tryz.prog 86 #[.int .i64 (m : Int)] w fun e w' => e = .returned (.tuple #[.int .i64 ((dstF m).1 : Int), .int .i64 ((dstF m).2 : Int), .int .i64 0]) ∧ w' = w) := fun m w hm => by
      have h := rdistOf_ok (m : Int) w
      have e1 : inDS (m : Int) = true := decide_eq_true (by omega)
      have e2 : ofD (m : Int) = (((dstF m).1 : Int), ((dstF m).2 : Int)) := by
        unfold ofD; rw [e1, if_pos rfl]
        rfl
      rw [e1, e2] at h
      exact h
    go_enter Tryz.func67, Tryz.ntmps67
    go_wp2_with (first
      | (refine wpList_alloc3 rfl rfl ?_; intro b2 w1 hT1 hK1 hb2; have HW : Hid (Syb w1 b2 (0, 0, 0) ∧ Keeps (fun _ => False) w w1) := ⟨hT1, hK1⟩; have HB : Hid (w.heap.size ≤ b2) := hb2; clear hT1 hK1 hb2))
    go_loopw [4] (fun s4 w' => ∃ m : Nat, s4 = .int .i64 (m : Int) ∧ m ≤ 29 ∧ Hid (lastLe dstF kn m = lastLe dstF kn 29) ∧ Hid (Syb w' b2 (0, 0, 0) ∧ Keeps (fun _ => False) w w')) (fun s4 w' => (intOf s4).toNat)
    case atStart => exact ⟨29, rfl, by omega, (rfl : _ = _), HW⟩
    case round =>
      clear HW
      obtain ⟨m, rfl, hm, HL, HW⟩ := hrel
      have hfm := dstF_le m hm
      by_cases hc : (dstF m).1 ≤ kn
      · have hcz : ((dstF m).1 : Int) ≤ (kn : Int) := by omega
        have HM : Hid (lastLe dstF kn 29 = m) := show _ = _ by rw [← HL.out]; exact lastLe_here hc
        have HC1 : Hid (∀ w, Calls Tryz.prog 86 #[.int .i64 (m : Int)] w fun e w' => e = .returned (.tuple #[.int .i64 ((dstF m).1 : Int), .int .i64 ((dstF m).2 : Int), .int .i64 0]) ∧ w' = w) := fun w => HC.out m w hm
        obtain ⟨p, hp⟩ : ∃ p, (dstF m).1 = p := ⟨_, rfl⟩
        obtain ⟨q, hq⟩ : ∃ q, (dstF m).2 = q := ⟨_, rfl⟩
        have HPQ : Hid ((dstF m).1 = p ∧ (dstF m).2 = q) := ⟨hp, hq⟩
        rw [hp] at hcz hc hfm
        rw [hq] at hfm
        rw [hp, hq] at HC1
        clear hp hq
        go_wp2_with (first
          | (go_at_call 86; refine (HC1.out _).mono ?_; rintro e w2 ⟨rfl, hw⟩; obtain rfl := hw.symm; clear hw)
          | (refine wpList_store3 rfl _ _ rfl b2 ((m : Int), (q : Int), (kn : Int) - (p : Int)) rfl rfl (0, 0, 0) HW.out.1 ?_; intro w3 hT3 hK3; have HK : Hid (Keeps (fun _ => False) w w3) := HW.out.2.trans hK3 (fun i hi e => by have := HB.out; omega); have HT : Hid (Syb w3 b2 ((m : Int), (q : Int), (kn : Int) - (p : Int))) := hT3; clear hT3 hK3))
        (try simp only [Exit.inBlock, Exit.then])
        refine bodyPost_ret (v := .tuple #[syV ((m : Int), (q : Int), (kn : Int) - (p : Int)), .int .i64 0]) ?_ rfl ⟨by rw [HS.out, HE.out]; unfold symF; rw [HM.out, HPQ.out.1, HPQ.out.2]; simp [errB, syV], HK.out⟩
        rw [results_cell_tmp rfl]
        show ((asAddr (.pointer (some ⟨b2, 0, none⟩))).run Tryz.prog w3).andThen (fun a w₁ => ((loadVar 108 a).run Tryz.prog w₁).andThen fun v w₂ => .ok (Value.tuple #[v, .int .i64 0]) w₂) = _
        simp [asAddr, Result.andThen, HT.out.loadVar, syV]
      · have hcz : ¬ (((dstF m).1 : Int) ≤ (kn : Int)) := by omega
        have hm0 : 0 < m := by
          rcases Nat.eq_zero_or_pos m with rfl | h
          · exact absurd (show (dstF 0).1 ≤ kn from (show 1 ≤ kn by omega)) hc
          · exact h
        obtain ⟨j, rfl⟩ : ∃ j, m = j + 1 := ⟨m - 1, by omega⟩
        have HL' : Hid (lastLe dstF kn j = lastLe dstF kn 29) := show _ = _ by rw [← HL.out]; exact (lastLe_stay hc).symm
        have HC1 : Hid (∀ w, Calls Tryz.prog 86 #[.int .i64 ((j + 1 : Nat) : Int)] w fun e w' => e = .returned (.tuple #[.int .i64 ((dstF (j + 1)).1 : Int), .int .i64 ((dstF (j + 1)).2 : Int), .int .i64 0]) ∧ w' = w) := fun w => HC.out (j + 1) w hm
        generalize dstF (j + 1) = fj at *
        clear HL
        have hjw : wrap64 (((j + 1 : Nat) : Int) - 1) = (j : Int) := by unfold wrap64; omega
        go_wp2_with (first
          | (go_at_call 86; refine (HC1.out _).mono ?_; rintro e w2 ⟨rfl, hw⟩; obtain rfl := hw.symm; clear hw))
        go_roundw
        case rel => exact ⟨j, by first | rfl | (congr 1; omega), by omega, HL', HW⟩
        case measure => simp [intOf]; try omega

def fixV (i : Nat) : Int := if 144 ≤ i ∧ i < 256 then 9 else if 256 ≤ i ∧ i < 280 then 7 else 8
theorem fix_all : ∀ i : Fin 288, fixL[i.val]? = some (fixV i.val) := by decide +kernel
theorem fix_at (i : Nat) (h : i < 288) : fixL[i]? = some (fixV i) := fix_all ⟨i, h⟩
theorem fix_next (i : Nat) (h : i < 288) : fixL.take (i + 1) = fixL.take i ++ [fixV i] := by rw [List.take_add_one, fix_at i h]; rfl

set_option maxHeartbeats 4000000 in
set_option maxRecDepth 1000000 in
theorem rfixed_ok (w : World) : Calls Tryz.prog 53 #[] w fun e w' => ∃ v, e = .returned v ∧ Own w' w.heap.size v fixL ∧ Keeps (fun _ => False) w w' := by
  go_enter Tryz.func53, Tryz.ntmps53
  go_wp2
  go_loopw [2, 1] (fun s2 s1 w' => ∃ (i : Nat) (u : Value), i ≤ 288 ∧ s2 = .int .i64 (i : Int) ∧ s1 = u ∧ Hid (Own w' w.heap.size u (fixL.take i) ∧ Keeps (fun _ => False) w w')) (fun s2 s1 w' => ((288 : Int) - intOf s2).toNat)
  case atStart => exact ⟨0, _, by omega, rfl, rfl, World.ownsRow_nil w w.heap.size 3 1, Keeps.refl _ w⟩
  case round =>
    obtain ⟨i, u, hi, rfl, hu, HW⟩ := hrel
    obtain rfl := hu.symm
    clear hu
    by_cases hin : i < 288
    · have hiz : (i : Int) < 288 := by omega
      have HL : Hid ((fixL.take i).length + 1 ≤ 1000000) := show _ ≤ _ by rw [List.length_take]; omega
      obtain h1 | h1 | h1 | h1 : i < 144 ∨ (144 ≤ i ∧ i < 256) ∨ (256 ≤ i ∧ i < 280) ∨ 280 ≤ i := by omega
      · have z1 : ¬ ((144 : Int) ≤ (i : Int)) := by omega
        have z2 : ¬ ((256 : Int) ≤ (i : Int)) := by omega
        have HN : Hid (fixL.take (i + 1) = fixL.take i ++ [8]) := show _ = _ by rw [fix_next i hin, show fixV i = 8 by unfold fixV; repeat' split; all_goals omega]
        go_wp2_with (first
          | (refine wpList_join rfl _ _ rfl rfl w.heap.size u (fixL.take i) rfl (HW.out.1.keptF ((Keeps.refl _ wr).alloc _)) wr.heap.size 1 1 [8] rfl rfl (Blk.lit wr [8]) (by have := HW.out.2.size; simp; omega) HL.out ?_; intro v' w3 hO hG; have HW3 : Hid (Own w3 w.heap.size v' (fixL.take (i + 1)) ∧ Keeps (fun _ => False) w w3) := ⟨(by rw [HN.out]; exact hO), Own.grown (HW.out.1.keptF ((Keeps.refl _ wr).alloc _)) (HW.out.2.alloc _) hG (Nat.le_refl _)⟩; clear hO hG))
        go_roundw
        case rel => exact ⟨i + 1, v', by omega, by push_cast; rfl, rfl, HW3⟩
        case measure => simp [intOf]; omega
      · have z1 : (144 : Int) ≤ (i : Int) := by omega
        have z2 : (i : Int) < 256 := by omega
        have HN : Hid (fixL.take (i + 1) = fixL.take i ++ [9]) := show _ = _ by rw [fix_next i hin, show fixV i = 9 by unfold fixV; repeat' split; all_goals omega]
        go_wp2_with (first
          | (refine wpList_join rfl _ _ rfl rfl w.heap.size u (fixL.take i) rfl (HW.out.1.keptF ((Keeps.refl _ wr).alloc _)) wr.heap.size 1 1 [9] rfl rfl (Blk.lit wr [9]) (by have := HW.out.2.size; simp; omega) HL.out ?_; intro v' w3 hO hG; have HW3 : Hid (Own w3 w.heap.size v' (fixL.take (i + 1)) ∧ Keeps (fun _ => False) w w3) := ⟨(by rw [HN.out]; exact hO), Own.grown (HW.out.1.keptF ((Keeps.refl _ wr).alloc _)) (HW.out.2.alloc _) hG (Nat.le_refl _)⟩; clear hO hG))
        go_roundw
        case rel => exact ⟨i + 1, v', by omega, by push_cast; rfl, rfl, HW3⟩
        case measure => simp [intOf]; omega
      · have z1 : (144 : Int) ≤ (i : Int) := by omega
        have z2 : ¬ ((i : Int) < 256) := by omega
        have z3 : (256 : Int) ≤ (i : Int) := by omega
        have z4 : (i : Int) < 280 := by omega
        have HN : Hid (fixL.take (i + 1) = fixL.take i ++ [7]) := show _ = _ by rw [fix_next i hin, show fixV i = 7 by unfold fixV; repeat' split; all_goals omega]
        go_wp2_with (first
          | (refine wpList_join rfl _ _ rfl rfl w.heap.size u (fixL.take i) rfl (HW.out.1.keptF ((Keeps.refl _ wr).alloc _)) wr.heap.size 1 1 [7] rfl rfl (Blk.lit wr [7]) (by have := HW.out.2.size; simp; omega) HL.out ?_; intro v' w3 hO hG; have HW3 : Hid (Own w3 w.heap.size v' (fixL.take (i + 1)) ∧ Keeps (fun _ => False) w w3) := ⟨(by rw [HN.out]; exact hO), Own.grown (HW.out.1.keptF ((Keeps.refl _ wr).alloc _)) (HW.out.2.alloc _) hG (Nat.le_refl _)⟩; clear hO hG))
        go_roundw
        case rel => exact ⟨i + 1, v', by omega, by push_cast; rfl, rfl, HW3⟩
        case measure => simp [intOf]; omega
      · have z1 : (144 : Int) ≤ (i : Int) := by omega
        have z2 : ¬ ((i : Int) < 256) := by omega
        have z3 : (256 : Int) ≤ (i : Int) := by omega
        have z4 : ¬ ((i : Int) < 280) := by omega
        have HN : Hid (fixL.take (i + 1) = fixL.take i ++ [8]) := show _ = _ by rw [fix_next i hin, show fixV i = 8 by unfold fixV; repeat' split; all_goals omega]
        go_wp2_with (first
          | (refine wpList_join rfl _ _ rfl rfl w.heap.size u (fixL.take i) rfl (HW.out.1.keptF ((Keeps.refl _ wr).alloc _)) wr.heap.size 1 1 [8] rfl rfl (Blk.lit wr [8]) (by have := HW.out.2.size; simp; omega) HL.out ?_; intro v' w3 hO hG; have HW3 : Hid (Own w3 w.heap.size v' (fixL.take (i + 1)) ∧ Keeps (fun _ => False) w w3) := ⟨(by rw [HN.out]; exact hO), Own.grown (HW.out.1.keptF ((Keeps.refl _ wr).alloc _)) (HW.out.2.alloc _) hG (Nat.le_refl _)⟩; clear hO hG))
        go_roundw
        case rel => exact ⟨i + 1, v', by omega, by push_cast; rfl, rfl, HW3⟩
        case measure => simp [intOf]; omega
    · obtain rfl : i = 288 := by omega
      go_wp2
      go_ret
      exact ⟨u, rfl, by have := HW.out.1; rw [List.take_of_length_le (by rw [fixL_length]; exact Nat.le_refl _)] at this; exact this, HW.out.2⟩

end Go.Proofs.YtfbghchgfbjogaaGreat.Tb

namespace Go.Proofs.YtfbghchgfbjogaaGreat.Hf
open Go.RowKit
set_option linter.unusedVariables false
set_option linter.unusedSimpArgs false

/-- What one length takes. -/
theorem Row.at {w : World} {a : Option Addr} {ys : List Int} (h : Row w a ys) (hn : 0 < ys.length) : ∃ b off, a = some ⟨b, off, none⟩ ∧ b < w.heap.size ∧ ∀ w', Keeps (fun _ => False) w w' → ∀ i, i < ys.length → w'.cell? ⟨b, off + i, none⟩ = some (.int .i64 (at_ ys i)) := by
  obtain ⟨b, off, rfl, hb, hc⟩ := h.spot hn
  refine ⟨b, off, rfl, hb, fun w' hk i hi => ?_⟩
  rw [World.cell?_of_block (hk.block b hb (fun h => h)), hc i hi, at_eq i hi]

def oneRoom (y : Int) : Nat := cond (decide (0 < y)) (2 ^ (15 - y.toNat)) 0
def seqRoom (ys : List Int) (i : Nat) : Nat := ((ys.take i).map oneRoom).sum
theorem sumTo_congr {f g : Nat → Nat} (m : Nat) (hm : m ≤ 16) (h : ∀ i, i < 16 → f i = g i) : sumTo f m = sumTo g m := by
  induction m with
  | zero => rfl
  | succ m ih => rw [sumTo, sumTo, ih (by omega), h m (by omega)]
theorem sumTo_upd (f : Nat → Nat) (n m : Nat) : sumTo (upd f n (f n + 1)) m = sumTo f m + if n < m then 2 ^ (15 - n) else 0 := by
  induction m with
  | zero => simp [sumTo]
  | succ m ih =>
    rw [sumTo, sumTo, ih]
    unfold upd
    by_cases e : m = n
    · subst e
      rw [if_pos rfl, if_neg (by omega), if_pos (by omega), Nat.add_mul]; omega
    · rw [if_neg e]
      by_cases h : n < m
      · rw [if_pos h, if_pos (by omega)]; omega
      · rw [if_neg h, if_neg (by omega)]; omega
theorem seqRoom_all (ys : List Int) (h : ∀ i (hi : i < ys.length), 0 ≤ ys[i] ∧ ys[i] ≤ 15) : ∀ i, i ≤ ys.length → seqRoom ys i = sumTo (cn (ys.take i)) 16 := by
  intro i
  induction i with
  | zero => intro _; unfold seqRoom; simp [sumTo, cn, cnt]
  | succ i ih =>
    intro hi
    have ih' := ih (by omega)
    obtain ⟨h0, h15⟩ := h i (by omega)
    obtain ⟨c, hc⟩ : ∃ c : Nat, ys[i] = (c : Int) := ⟨ys[i].toNat, by omega⟩
    have e : seqRoom ys (i + 1) = seqRoom ys i + oneRoom (c : Int) := by
      unfold seqRoom; rw [take_snoc ys i (by omega), hc]; simp
    rw [e, ih', take_snoc ys i (by omega), hc]
    by_cases hp : 0 < c
    · rw [← sumTo_congr 16 (by omega) (cn_pos (ys.take i) c hp), sumTo_upd, if_pos (by omega)]
      simp [oneRoom, hp]
    · obtain rfl : c = 0 := by omega
      show _ = sumTo (cn (ys.take i ++ [(0 : Int)])) 16
      rw [← sumTo_congr 16 (by omega) (cn_zero (ys.take i))]
      simp [oneRoom]
theorem oneRoom_le (y : Int) : oneRoom y ≤ 32768 := by
  unfold oneRoom
  cases decide (0 < y)
  · simp
  · rw [cond_true]
    have : 2 ^ (15 - y.toNat) ≤ 2 ^ 15 := Nat.pow_le_pow_right (by omega) (by omega)
    omega
theorem seqRoom_snoc (ys : List Int) (i : Nat) (h : i < ys.length) : seqRoom ys (i + 1) = seqRoom ys i + oneRoom ys[i] := by
  unfold seqRoom
  rw [take_snoc ys i h, List.map_append, List.sum_append]
  simp only [List.map_cons, List.map_nil, List.sum_cons, List.sum_nil, Nat.add_zero]
theorem seqRoom_le (ys : List Int) (i : Nat) : seqRoom ys i ≤ 32768 * i := by
  induction i with
  | zero => simp [seqRoom]
  | succ i ih =>
    by_cases h : i < ys.length
    · have e := seqRoom_snoc ys i h
      have := oneRoom_le ys[i]
      rw [e]; omega
    · have e : seqRoom ys (i + 1) = seqRoom ys i := by unfold seqRoom; rw [List.take_of_length_le (by omega), List.take_of_length_le (by omega)]
      rw [e]; omega
theorem seqRoom_succ (ys : List Int) (i : Nat) (h : i < ys.length) : seqRoom ys (i + 1) = seqRoom ys i + oneRoom (at_ ys i) := by
  rw [at_eq i h]; exact seqRoom_snoc ys i h

theorem pow_room (c : Nat) (hc : c ≤ 15) : ∃ P : Nat, wrap64 ((2 : Int) ^ (15 - c)) = (P : Int) ∧ IntKind.i64.wrap ((2 : Int) ^ (15 - c)) = (P : Int) ∧ P = 2 ^ (15 - c) := by
  have hpb : 2 ^ (15 - c) ≤ 2 ^ 15 := Nat.pow_le_pow_right (by omega) (by omega)
  have hPz : (2 : Int) ^ (15 - c) = ((2 ^ (15 - c) : Nat) : Int) := by push_cast; rfl
  obtain ⟨q, hq⟩ : ∃ q : Nat, q = 2 ^ (15 - c) := ⟨_, rfl⟩
  rw [← hq] at hPz hpb
  have hq15 : q ≤ 32768 := by simpa using hpb
  refine ⟨q, ?_, ?_, hq⟩
  · rw [hPz]; exact wrap64_small _ (by omega) (by omega)
  · rw [hPz]; exact wrap_i64_small _ (by omega) (by omega)

set_option maxHeartbeats 4000000 in
set_option maxRecDepth 1000000 in
theorem rmay_ok (a : Option Addr) (ys : List Int) (cap : Nat) (w : World) (hR : Row w a ys) (hl : ys.length ≤ 9223372036854775807) :
    Calls Tryz.prog 100 #[.slice a ys.length cap] w fun e w' => e = .returned (.bool (may ys)) ∧ w' = w := by
  by_cases hn : 1 ≤ ys.length ∧ ys.length ≤ 288
  · obtain ⟨b, off, rfl, hb, hc⟩ := hR.at (by omega)
    have HC : Hid (∀ i, i < ys.length → w.cell? ⟨b, off + i, none⟩ = some (.int .i64 (at_ ys i))) := hc w (Keeps.refl _ _)
    have HM : Hid (may ys = ys.all fine) := by show _ = _; unfold may; rw [decide_eq_true hn.1, decide_eq_true hn.2]; rfl
    obtain ⟨n, hn'⟩ : ∃ n, ys.length = n := ⟨_, rfl⟩
    have HN : Hid (ys.length = n) := hn'
    rw [hn'] at hn HC ⊢
    clear hR hl hc hn'
    have hn1 : ¬ ((n : Int) < 1) := by omega
    have hn2 : ¬ (288 < (n : Int)) := by omega
    go_enter Tryz.func100, Tryz.ntmps100
    go_wp2
    go_loopw [3] (fun s3 w' => ∃ i : Nat, i ≤ n ∧ s3 = .int .i64 (i : Int) ∧ w' = w ∧ Hid ((ys.take i).all fine = true)) (fun s3 w' => ((n : Int) - intOf s3).toNat)
    case atStart => exact ⟨0, by omega, rfl, rfl, rfl⟩
    case round =>
      obtain ⟨i, hi, rfl, rfl, HF⟩ := hrel
      by_cases hin : i < n
      · have hiz : (i : Int) < (n : Int) := by omega
        have hil : i < ys.length := by rw [HN.out]; exact hin
        have hcell := HC.out i hin
        obtain ⟨y, hy⟩ : ∃ y, at_ ys i = y := ⟨_, rfl⟩
        rw [hy] at hcell
        have HY : Hid (ys[i] = y) := by show _ = _; rw [← at_eq i hil]; exact hy
        clear hy
        by_cases hbad : y < 0 ∨ 15 < y
        · have HMf : Hid (may ys = false) := may_bad i hil (by rw [HY.out]; exact hbad)
          rcases hbad with hbad | hbad
          · go_wp2
            go_ret
            exact ⟨by rw [HMf.out]; rfl, rfl⟩
          · have hge : ¬ y < 0 := by omega
            go_wp2
            go_ret
            exact ⟨by rw [HMf.out]; rfl, rfl⟩
        · have hy0 : ¬ y < 0 := by omega
          have hy15 : ¬ 15 < y := by omega
          have HF' : Hid ((ys.take (i + 1)).all fine = true) := by
            show _ = _
            rw [take_snoc ys i hil, List.all_append, HF.out, HY.out]
            simp [fine]; omega
          go_wp2
          go_roundw
          case rel => exact ⟨i + 1, by omega, by push_cast; rfl, trivial, HF'⟩
          case measure => simp [intOf]; omega
      · obtain rfl : i = n := by omega
        have HT : Hid (may ys = true) := by
          show _ = _
          have := HF.out
          rw [List.take_of_length_le (by rw [HN.out]; omega)] at this
          rw [HM.out]; exact this
        go_wp2
        go_ret
        exact ⟨by rw [HT.out]; rfl, rfl⟩
  · have HMf : Hid (may ys = false) := by
      show _ = _
      cases hm : may ys
      · rfl
      · exact absurd (may_len hm) hn
    obtain ⟨n, hn'⟩ : ∃ n, ys.length = n := ⟨_, rfl⟩
    rw [hn'] at hn hl ⊢
    clear hn'
    have hcs : (n : Int) < 1 ∨ (¬ (n : Int) < 1 ∧ 288 < (n : Int)) := by omega
    rcases hcs with hcs | ⟨hcs1, hcs2⟩
    all_goals
      go_enter Tryz.func100, Tryz.ntmps100
      go_wp2
      go_ret
      exact ⟨by rw [HMf.out]; rfl, rfl⟩

set_option maxHeartbeats 4000000 in
set_option maxRecDepth 1000000 in
theorem rroom_ok (a : Option Addr) (ys : List Int) (cap : Nat) (w : World) (hR : Row w a ys) (hm : may ys = true) :
    Calls Tryz.prog 101 #[.slice a ys.length cap] w fun e w' => e = .returned (.int .i64 (room ys : Nat)) ∧ w' = w := by
  have hn := may_len hm
  obtain ⟨b, off, rfl, hb, hc⟩ := hR.at (by omega)
  have HC : Hid (∀ i, i < ys.length → w.cell? ⟨b, off + i, none⟩ = some (.int .i64 (at_ ys i)) ∧ 0 ≤ at_ ys i ∧ at_ ys i ≤ 15) := fun i hi => ⟨hc w (Keeps.refl _ _) i hi, by rw [at_eq i hi]; exact may_at hm i hi⟩
  have HR : Hid (seqRoom ys ys.length = room ys) := by
    show _ = _
    rw [seqRoom_all ys (fun i hi => may_at hm i hi) ys.length (Nat.le_refl _), List.take_length]; rfl
  obtain ⟨n, hn'⟩ : ∃ n, ys.length = n := ⟨_, rfl⟩
  have HN : Hid (ys.length = n) := hn'
  rw [hn'] at hn HC HR ⊢
  clear hR hc hn' hm
  go_enter Tryz.func101, Tryz.ntmps101
  go_wp2
  go_loopw [3, 4] (fun s3 s4 w' => ∃ i : Nat, i ≤ n ∧ s3 = .int .i64 (seqRoom ys i : Nat) ∧ s4 = .int .i64 (i : Int) ∧ w' = w) (fun s3 s4 w' => ((n : Int) - intOf s4).toNat)
  case atStart => exact ⟨0, by omega, rfl, rfl, rfl⟩
  case round =>
    obtain ⟨i, hi, rfl, rfl, rfl⟩ := hrel
    by_cases hin : i < n
    · have hiz : (i : Int) < (n : Int) := by omega
      obtain ⟨hcell, hy0, hy15⟩ := HC.out i hin
      have HS : Hid (seqRoom ys (i + 1) = seqRoom ys i + oneRoom (at_ ys i)) := seqRoom_succ ys i (by rw [HN.out]; exact hin)
      have hb := seqRoom_le ys (i + 1)
      obtain ⟨c, hcc⟩ : ∃ c : Nat, at_ ys i = (c : Int) := ⟨(at_ ys i).toNat, by omega⟩
      rw [hcc] at hcell hy0 hy15 HS
      clear hcc
      by_cases hp : 0 < c
      · have hpz : 0 < (c : Int) := by omega
        have hw15 : IntKind.i64.wrap (15 - (c : Int)) = ((15 - c : Nat) : Int) := by rw [wrap_i64_small _ (by omega) (by omega)]; omega
        have hnn : ¬ (((15 - c : Nat) : Int) < 0) := by omega
        obtain ⟨P, hP1, hP2, hPe⟩ := pow_room c (by omega)
        have hone : oneRoom (c : Int) = P := by rw [hPe]; unfold oneRoom; rw [decide_eq_true (by omega)]; rfl
        have hsum : IntKind.i64.wrap ((seqRoom ys i : Int) + (P : Int)) = ((seqRoom ys (i + 1) : Nat) : Int) := by
          rw [HS.out, hone, wrap_i64_small _ (by omega) (by have := HS.out; omega)]; push_cast; rfl
        have hsum' : wrap64 ((seqRoom ys i : Int) + (P : Int)) = ((seqRoom ys (i + 1) : Nat) : Int) := by rw [← IntWalk.i64_left]; exact hsum
        clear hone hPe hb
        go_wp2
        go_roundw
        case rel => exact ⟨i + 1, by omega, by first | rfl | rw [hsum'], by push_cast; rfl, trivial⟩
        case measure => simp [intOf]; omega
      · obtain rfl : c = 0 := by omega
        have he : seqRoom ys (i + 1) = seqRoom ys i := by rw [HS.out]; rfl
        clear HS
        go_wp2
        go_roundw
        case rel => exact ⟨i + 1, by omega, by rw [he], by push_cast; rfl, trivial⟩
        case measure => simp [intOf]; omega
    · obtain rfl : i = n := by omega
      go_wp2
      go_ret
      exact ⟨by rw [← HR.out]; rfl, rfl⟩

set_option maxHeartbeats 4000000 in
set_option maxRecDepth 1000000 in
theorem rcheck_ok (a : Option Addr) (ys : List Int) (cap : Nat) (w : World) (hR : Row w a ys) (hl : ys.length ≤ 9223372036854775807) :
    Calls Tryz.prog 87 #[.slice a ys.length cap] w fun e w' => e = .returned (.int .i64 (errC ys)) ∧ w' = w := by
  have HM : Hid (Calls Tryz.prog 100 #[.slice a ys.length cap] w fun e w' => e = .returned (.bool (may ys)) ∧ w' = w) := rmay_ok a ys cap w hR hl
  cases ht : may ys
  · rw [ht] at HM
    have HE : Hid (errC ys = 300) := by show _ = _; simp [errC, ht]
    generalize ys.length = L at *
    clear ht
    go_enter Tryz.func87, Tryz.ntmps87
    go_wp2_with (first
      | (go_at_call 100; refine HM.out.mono ?_; rintro e w' ⟨rfl, hw⟩; obtain rfl := hw.symm; clear hw))
    go_ret
    exact ⟨by rw [HE.out]; rfl, rfl⟩
  · rw [ht] at HM
    have HR : Hid (Calls Tryz.prog 101 #[.slice a ys.length cap] w fun e w' => e = .returned (.int .i64 (room ys : Nat)) ∧ w' = w) := rroom_ok a ys cap w hR ht
    have HE : Hid (errC ys = cond (decide (32768 < room ys)) 301 (cond (decide (room ys < 32768)) 302 0)) := by show _ = _; simp [errC, ht]
    clear ht hR
    generalize room ys = r at *
    generalize ys.length = L at *
    have hcs : (32768 < (r : Int)) ∨ (¬ (32768 < (r : Int)) ∧ (r : Int) < 32768) ∨ (¬ (32768 < (r : Int)) ∧ ¬ (r : Int) < 32768) := by omega
    rcases hcs with h1 | ⟨h1, h2⟩ | ⟨h1, h2⟩
    · go_enter Tryz.func87, Tryz.ntmps87
      go_wp2_with (first
        | (go_at_call 100; refine HM.out.mono ?_; rintro e w' ⟨rfl, hw⟩; obtain rfl := hw.symm; clear hw)
        | (go_at_call 101; refine HR.out.mono ?_; rintro e w' ⟨rfl, hw⟩; obtain rfl := hw.symm; clear hw))
      go_ret
      exact ⟨by rw [HE.out, decide_eq_true (show 32768 < r by omega)]; rfl, rfl⟩
    · go_enter Tryz.func87, Tryz.ntmps87
      go_wp2_with (first
        | (go_at_call 100; refine HM.out.mono ?_; rintro e w' ⟨rfl, hw⟩; obtain rfl := hw.symm; clear hw)
        | (go_at_call 101; refine HR.out.mono ?_; rintro e w' ⟨rfl, hw⟩; obtain rfl := hw.symm; clear hw))
      go_ret
      exact ⟨by rw [HE.out, decide_eq_false (show ¬ 32768 < r by omega), decide_eq_true (show r < 32768 by omega)]; rfl, rfl⟩
    · go_enter Tryz.func87, Tryz.ntmps87
      go_wp2_with (first
        | (go_at_call 100; refine HM.out.mono ?_; rintro e w' ⟨rfl, hw⟩; obtain rfl := hw.symm; clear hw)
        | (go_at_call 101; refine HR.out.mono ?_; rintro e w' ⟨rfl, hw⟩; obtain rfl := hw.symm; clear hw))
      go_ret
      exact ⟨by rw [HE.out, decide_eq_false (show ¬ 32768 < r by omega), decide_eq_false (show ¬ r < 32768 by omega)]; rfl, rfl⟩

end Go.Proofs.YtfbghchgfbjogaaGreat.Hf

namespace Go.Proofs.YtfbghchgfbjogaaGreat.Hf
open Go.RowKit
set_option linter.unusedVariables false
set_option linter.unusedSimpArgs false

/-- The codes that are laid once the lengths below b are done, and of b the first i symbols. -/
def rTo (ys : List Int) (b i : Nat) : Nat → Int × Int := fun j => if 1 ≤ at_ ys j ∧ (at_ ys j < (b : Int) ∨ (at_ ys j = (b : Int) ∧ j < i)) then codeF ys j else (0, 0)
theorem rTo_next (ys : List Int) (b : Nat) (n : Nat) (j : Nat) (hj : j < n) : rTo ys b n j = rTo ys (b + 1) 0 j := by
  unfold rTo
  have e : (1 ≤ at_ ys j ∧ (at_ ys j < (b : Int) ∨ (at_ ys j = (b : Int) ∧ j < n))) ↔ (1 ≤ at_ ys j ∧ (at_ ys j < ((b + 1 : Nat) : Int) ∨ (at_ ys j = ((b + 1 : Nat) : Int) ∧ j < 0))) := by
    constructor
    · rintro ⟨h1, h2⟩; exact ⟨h1, .inl (by omega)⟩
    · rintro ⟨h1, h2⟩
      refine ⟨h1, ?_⟩
      rcases h2 with h2 | ⟨_, h3⟩
      · by_cases e : at_ ys j = (b : Int)
        · exact .inr ⟨e, hj⟩
        · exact .inl (by omega)
      · omega
  by_cases h : (1 ≤ at_ ys j ∧ (at_ ys j < (b : Int) ∨ (at_ ys j = (b : Int) ∧ j < n)))
  · rw [if_pos h, if_pos (e.1 h)]
  · rw [if_neg h, if_neg (fun k => h (e.2 k))]
theorem rTo_start (ys : List Int) (j : Nat) : rTo ys 1 0 j = (0, 0) := by
  unfold rTo; rw [if_neg (by omega)]
theorem rTo_end (ys : List Int) (j : Nat) (h : 0 ≤ at_ ys j ∧ at_ ys j ≤ 15) : rTo ys 16 0 j = codeF ys j := by
  unfold rTo
  by_cases h1 : 1 ≤ at_ ys j
  · rw [if_pos ⟨h1, .inl (by omega)⟩]
  · rw [if_neg (by omega)]
    have e : at_ ys j = 0 := by omega
    unfold codeF codeV; rw [e]; simp
theorem rTo_skip (ys : List Int) (b i j : Nat) (h : ¬ at_ ys i = (b : Int)) : rTo ys b i j = rTo ys b (i + 1) j := by
  unfold rTo
  by_cases e : j = i
  · subst e
    by_cases h1 : 1 ≤ at_ ys j ∧ (at_ ys j < (b : Int) ∨ (at_ ys j = (b : Int) ∧ j < j))
    · rw [if_pos h1, if_pos ⟨h1.1, by omega⟩]
    · rw [if_neg h1, if_neg (by omega)]
  · by_cases h1 : 1 ≤ at_ ys j ∧ (at_ ys j < (b : Int) ∨ (at_ ys j = (b : Int) ∧ j < i))
    · rw [if_pos h1, if_pos ⟨h1.1, by omega⟩]
    · rw [if_neg h1, if_neg (by omega)]
theorem rTo_take (ys : List Int) (b i j : Nat) (hb : 1 ≤ b) (h : at_ ys i = (b : Int)) (q : Nat) (hq : fstC (cn ys) b + cnt (ys.take i) b = q) : (if j = i then ((b : Int), (q : Int)) else rTo ys b i j) = rTo ys b (i + 1) j := by
  by_cases e : j = i
  · subst e
    rw [if_pos rfl]
    unfold rTo
    rw [if_pos ⟨by omega, .inr ⟨h, by omega⟩⟩]
    unfold codeF codeV
    rw [h, decide_eq_true (by omega), cond_true, show ((b : Int)).toNat = b by omega, hq]
  · rw [if_neg e]
    unfold rTo
    by_cases h1 : 1 ≤ at_ ys j ∧ (at_ ys j < (b : Int) ∨ (at_ ys j = (b : Int) ∧ j < i))
    · rw [if_pos h1, if_pos ⟨h1.1, by omega⟩]
    · rw [if_neg h1, if_neg (by omega)]
def nextR (ys : List Int) (b i : Nat) : Nat := fstC (cn ys) b + cnt (ys.take i) b
theorem nextR_le (ys : List Int) (hl : ys.length ≤ 288) (b i : Nat) (hb : b ≤ 15) : nextR ys b i ≤ 20000000 := by
  have h1 := fstC_small ys hl b hb
  have h2 := cnt_le (ys.take i) b
  rw [List.length_take] at h2
  unfold nextR; omega
theorem nextR_zero (ys : List Int) (b : Nat) : nextR ys b 0 = fstC (cn ys) b := by simp [nextR, cnt]
theorem nextR_same (ys : List Int) (b i : Nat) (hi : i < ys.length) (h : ¬ at_ ys i = (b : Int)) : nextR ys b (i + 1) = nextR ys b i := by
  unfold nextR; rw [take_snoc ys i hi, cnt_snoc, if_neg (by rw [← at_eq i hi]; exact h)]; rfl
theorem nextR_more (ys : List Int) (b i : Nat) (hi : i < ys.length) (h : at_ ys i = (b : Int)) : nextR ys b (i + 1) = nextR ys b i + 1 := by
  unfold nextR; rw [take_snoc ys i hi, cnt_snoc, if_pos (by rw [← at_eq i hi]; exact h)]; omega
theorem nextR_all (ys : List Int) (b : Nat) (hb : 1 ≤ b) : 2 * nextR ys b ys.length = fstC (cn ys) (b + 1) := by
  unfold nextR; rw [List.take_length, fstC]
  have : cn ys b = cnt ys b := by unfold cn; rw [if_neg (by omega)]
  omega

theorem errC_good (ys : List Int) (h : fits ys = true) : errC ys = 0 ∨ errC ys = 302 := by
  obtain ⟨h1, h2⟩ := fits_true h
  unfold errC
  rw [h1, decide_eq_false (by omega : ¬ 32768 < room ys)]
  by_cases h3 : room ys < 32768
  · right; simp [h3]
  · left; simp [h3]

set_option maxHeartbeats 4000000 in
set_option maxRecDepth 1000000 in
theorem rcodes_good (a : Option Addr) (ys : List Int) (cap : Nat) (w : World) (hR : Row w a ys) (hl : ys.length ≤ 9223372036854775807) (hf : fits ys = true) :
    Calls Tryz.prog 64 #[.slice a ys.length cap] w fun e w' => ∃ g, e = .returned (.tuple #[.slice (some ⟨g, 0, none⟩) ys.length ys.length, .int .i64 0]) ∧ Keeps (fun _ => False) w w' ∧ w.heap.size ≤ g ∧ Cds w' g ys.length (codeF ys) := by
  have hm := (fits_true hf).1
  have hlen := may_len hm
  have HC : Hid (Calls Tryz.prog 87 #[.slice a ys.length cap] w fun e w' => e = .returned (.int .i64 (errC ys)) ∧ w' = w) := rcheck_ok a ys cap w hR hl
  obtain ⟨b, off, rfl, hb, hc⟩ := hR.at (by omega)
  have HCell : Hid (∀ w', Keeps (fun _ => False) w w' → ∀ i, i < ys.length → w'.cell? ⟨b, off + i, none⟩ = some (.int .i64 (at_ ys i))) := hc
  have HY : Hid (∀ i, i < ys.length → 0 ≤ at_ ys i ∧ at_ ys i ≤ 15) := fun i h => by rw [at_eq i h]; exact may_at hm i h
  have HLen : Hid (ys.length ≤ 288) := hlen.2
  have hE := errC_good ys hf
  generalize errC ys = er at *
  clear hc hm hR hf hl
  generalize hL : ys.length = L at *
  have HL : Hid (ys.length = L) := hL
  clear hL
  have key : ∀ er : Int, er = 0 ∨ er = 302 → Hid (Calls Tryz.prog 87 #[.slice (some ⟨b, off, none⟩) L cap] w fun e w' => e = .returned (.int .i64 er) ∧ w' = w) → Calls Tryz.prog 64 #[.slice (some ⟨b, off, none⟩) L cap] w fun e w' => ∃ g, e = .returned (.tuple #[.slice (some ⟨g, 0, none⟩) L L, .int .i64 0]) ∧ Keeps (fun _ => False) w w' ∧ w.heap.size ≤ g ∧ Cds w' g L (codeF ys) := by
    clear HC hE er
    intro er hE HC
    rcases hE with rfl | rfl
    all_goals
      go_enter Tryz.func64, Tryz.ntmps64
      go_wp2_with (first
        | (go_at_call 87; refine HC.out.mono ?_; rintro e w' ⟨rfl, hw⟩; obtain rfl := hw.symm; clear hw)
        | (refine wpList_codes rfl _ _ rfl L rfl rfl ?hn ?_; (case hn => omega); intro g w8 hG hK8 hg8))
      have HW : Hid (Cds w8 g L (rTo ys 1 0) ∧ Keeps (fun _ => False) w w8 ∧ w.heap.size ≤ g) := ⟨hG.congr (fun j _ => (rTo_start ys j).symm), hK8, hg8⟩
      clear hG hK8 hg8
      go_loopw [6, 7] (fun s6 s7 w' => ∃ bb q : Nat, 1 ≤ bb ∧ bb ≤ 16 ∧ s6 = .int .i64 (q : Int) ∧ s7 = .int .i64 (bb : Int) ∧ Hid (q ≤ 20000000 ∧ (bb ≤ 15 → 2 * q = fstC (cn ys) bb)) ∧ Hid (Cds w' g L (rTo ys bb 0) ∧ Keeps (fun _ => False) w w' ∧ w.heap.size ≤ g)) (fun s6 s7 w' => (16 - intOf s7).toNat)
      case atStart => exact ⟨1, 0, by omega, by omega, rfl, rfl, ⟨by omega, fun _ => by simp [fstC, cn]⟩, HW⟩
      case round =>
        clear HW
        obtain ⟨bb, q, hb1, hb16, rfl, rfl, HQ, HW⟩ := hrel
        by_cases hb15 : bb ≤ 15
        · have hbz : (bb : Int) ≤ 15 := by omega
          have hw2 : IntKind.i64.wrap (2 * (q : Int)) = ((nextR ys bb 0 : Nat) : Int) := by
            rw [nextR_zero, ← HQ.out.2 hb15, wrap_i64_small _ (by omega) (by have := HQ.out.1; omega)]; push_cast; rfl
          have hw2' : wrap64 (2 * (q : Int)) = ((nextR ys bb 0 : Nat) : Int) := by rw [← IntWalk.i64_left]; exact hw2
          go_wp2_with fail
          try rw [hw2']
          clear hw2 hw2'
          go_loopw [6, 8] (fun s6 s8 w' => ∃ i : Nat, i ≤ L ∧ s6 = .int .i64 (nextR ys bb i : Nat) ∧ s8 = .int .i64 (i : Int) ∧ Hid (Cds w' g L (rTo ys bb i) ∧ Keeps (fun _ => False) w w' ∧ w.heap.size ≤ g)) (fun s6 s8 w' => ((L : Int) - intOf s8).toNat)
          case atStart => exact ⟨0, by omega, rfl, rfl, HW⟩
          case round =>
            clear HW
            obtain ⟨i, hi, rfl, rfl, HW⟩ := hrel
            by_cases hin : i < L
            · have hiz : (i : Int) < (L : Int) := by omega
              have hcell := HCell.out wr HW.out.2.1 i hin
              have hil : i < ys.length := by rw [HL.out]; exact hin
              by_cases hyb : at_ ys i = (bb : Int)
              · have hns := nextR_le ys (by rw [HL.out]; exact HLen.out) bb i hb15
                have hnm := nextR_more ys bb i hil hyb
                rw [hyb] at hcell
                obtain ⟨q2, hq2⟩ : ∃ q2, nextR ys bb i = q2 := ⟨_, rfl⟩
                have HT : Hid (∀ j, (if j = i then ((bb : Int), (q2 : Int)) else rTo ys bb i j) = rTo ys bb (i + 1) j) := fun j => rTo_take ys bb i j hb1 hyb q2 hq2
                rw [hq2] at hns hnm
                rw [hq2]
                have HNM : Hid (nextR ys bb (i + 1) = q2 + 1) := hnm
                have hwn : IntKind.i64.wrap ((q2 : Int) + 1) = ((q2 + 1 : Nat) : Int) := by rw [wrap_i64_small _ (by omega) (by omega)]; push_cast; rfl
                clear hyb hnm hq2
                have HG : Hid (Cds wr g L (rTo ys bb i)) := HW.out.1
                go_wp2_with (first
                  | (refine wpList_code rfl _ _ rfl g i (bb : Int) (q2 : Int) rfl rfl L (rTo ys bb i) HG.out hin ?_; intro wa hGa hKa; have HW' : Hid (Cds wa g L (rTo ys bb (i + 1)) ∧ Keeps (fun _ => False) w wa ∧ w.heap.size ≤ g) := ⟨hGa.congr (fun j _ => HT.out j), HW.out.2.1.trans hKa (fun k hk h => absurd hk (by have := HW.out.2.2; omega)), HW.out.2.2⟩; clear hGa hKa))
                go_roundw
                case rel => exact ⟨i + 1, by omega, by rw [HNM.out] <;> (push_cast; rfl), by push_cast; rfl, HW'⟩
                case measure => simp [intOf]; omega
              · have hns := nextR_same ys bb i hil hyb
                have HW' : Hid (Cds wr g L (rTo ys bb (i + 1)) ∧ Keeps (fun _ => False) w wr ∧ w.heap.size ≤ g) := ⟨HW.out.1.congr (fun j _ => rTo_skip ys bb i j hyb), HW.out.2⟩
                have HNS : Hid (nextR ys bb (i + 1) = nextR ys bb i) := hns
                clear hns
                generalize at_ ys i = yy at *
                go_wp2_with fail
                go_roundw
                case rel => exact ⟨i + 1, by omega, by rw [HNS.out], by push_cast; rfl, HW'⟩
                case measure => simp [intOf]; omega
            · obtain rfl : i = L := by omega
              have HW' : Hid (Cds wr g i (rTo ys (bb + 1) 0) ∧ Keeps (fun _ => False) w wr ∧ w.heap.size ≤ g) := ⟨HW.out.1.congr (fun j hj => rTo_next ys bb i j hj), HW.out.2⟩
              have HQ' : Hid (nextR ys bb i ≤ 20000000 ∧ (bb + 1 ≤ 15 → 2 * nextR ys bb i = fstC (cn ys) (bb + 1))) := ⟨nextR_le ys (by rw [HL.out]; exact HLen.out) bb i hb15, fun _ => by rw [← HL.out]; exact nextR_all ys bb hb1⟩
              go_wp2_with fail
              go_roundw
              case rel => exact ⟨bb + 1, nextR ys bb i, by omega, by omega, rfl, by push_cast; rfl, HQ', HW'⟩
              case measure => simp [intOf]; omega
        · obtain rfl : bb = 16 := by omega
          go_wp2_with fail
          go_ret2
          obtain ⟨g1, g2, g3⟩ := HW.out
          exact ⟨g, rfl, g2, g3, g1.congr (fun j hj => rTo_end ys j (HY.out j hj))⟩
  exact key er hE HC

end Go.Proofs.YtfbghchgfbjogaaGreat.Hf

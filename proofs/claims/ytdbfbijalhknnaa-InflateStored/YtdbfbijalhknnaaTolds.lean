/-
  told of package inflate: what a symbol stands for.
-/
import Derived.Test.YtdbfbijalhknnaaCopy
namespace Go.Proofs.Ytdbfbijalhknnaa
open Go.RowKit
open Hf Tb
set_option linter.unusedVariables false
set_option linter.unusedSimpArgs false

theorem sprL_some {i x : Nat} {L L' : Bts} (h : sprL i L = some (x, L')) : x ≤ 1000 := by
  unfold sprL at h
  by_cases hi : 257 ≤ i ∧ i ≤ 285
  · rw [if_pos hi] at h
    obtain ⟨m, hm, rfl⟩ := aboveL_some h
    have h1 := lenF_le (i - 257) (by omega)
    have h2 := getL_lt hm
    have h3 : (2 : Nat) ^ (lenF (i - 257)).2 ≤ 2 ^ 5 := Nat.pow_le_pow_right (by decide) h1.2
    omega
  · rw [if_neg hi] at h; simp [noL] at h
theorem dstF_pos : ∀ i : Fin 30, 1 ≤ (dstF i.val).1 := by decide +kernel
theorem sprD_some {i x : Nat} {L L' : Bts} (h : sprD i L = some (x, L')) : 1 ≤ x ∧ x ≤ 100000 := by
  unfold sprD at h
  by_cases hi : i ≤ 29
  · rw [if_pos hi] at h
    obtain ⟨m, hm, rfl⟩ := aboveL_some h
    have h1 := dstF_le i hi
    have h2 := getL_lt hm
    have h3 : (2 : Nat) ^ (dstF i).2 ≤ 2 ^ 13 := Nat.pow_le_pow_right (by decide) h1.2
    have h4 := dstF_pos ⟨i, by omega⟩
    simp only at h4
    omega
  · rw [if_neg hi] at h; simp [noL] at h
theorem findL_small (ys : List Int) (k v i : Nat) (h1 : 1 ≤ k) (h2 : k ≤ 15) (h : findL ys (k : Int) (v : Int) = some i) : i < ys.length := by
  rw [findL_eq ys k v h1 h2] at h
  split at h
  · obtain ⟨hj, rfl⟩ := List.getElem?_eq_some_iff.1 h
    have := symF_lt (k : Int) ys 0 _ (List.getElem_mem hj)
    omega
  · cases h
theorem symG_small (ys : List Int) : ∀ (n k v : Nat) (L : Bts) (i : Nat) (L' : Bts), n + k ≤ 15 → symG ys n k v L = some (i, L') → i < ys.length
  | 0, _, _, _, _, _, _, h => by simp [symG] at h
  | n + 1, _, _, [], _, _, _, h => by simp [symG] at h
  | n + 1, k, v, b :: L, i, L', hk, h => by
    rw [symG] at h
    rcases hf : findL ys ((k + 1 : Nat) : Int) ((2 * v + b.toNat : Nat) : Int) with _ | j
    · rw [hf] at h; exact symG_small ys n (k + 1) _ L i L' (by omega) h
    · rw [hf] at h; cases h; exact findL_small ys _ _ _ (by omega) (by omega) hf
theorem symN_small {ys : List Int} {L : Bts} {i : Nat} {L' : Bts} (h : symN ys L = some (i, L')) : i < ys.length := symG_small ys 15 0 0 L i L' (by omega) h

set_option maxHeartbeats 2000000 in
set_option maxRecDepth 100000 in
theorem told_ok {w : World} {b r : Nat} {v : Value} {s : ByteArray} {most : Nat} {L : Bts} {xs : List Nat} (h : St w b r v s most L xs) {lo hi f : Nat} {ds : List Int} (hf : Fnd w lo hi f ds) (ha : Away lo hi b r v) (i : Nat) (hi1 : i ≤ 100000) :
    Calls Try.prog 69 #[.pointer (some ⟨b, 0, none⟩), .int .i64 (i : Int), .pointer (some ⟨f, 0, none⟩)] w (RsPost (told ds most i L xs) w b r v s most) := by
  have HS : Hid (St w b r v s most L xs) := h
  have HF : Hid (∀ w', Rdv w w' b r v → Fnd w' lo hi f ds) := fun w' k => hf.kept k.keep ha.not
  have HAw : Hid (Away lo hi b r v) := ha
  clear h hf ha
  by_cases hi : i < 256
  · have hiz : (i : Int) < 256 := by omega
    have hu : IntKind.u8.wrap (i : Int) = (i : Int) := by simp [IntKind.wrap, IntKind.bits, IntKind.signed]; omega
    have e : told ds most i L xs = mapE (put1 most i) L xs := by unfold told; rw [if_pos hi]
    rw [e]
    have HC : Hid (Calls Try.prog 67 #[.pointer (some ⟨b, 0, none⟩), .int .u8 (i : Int)] w (RsPost (mapE (put1 most i) L xs) w b r v s most)) := put_rs HS.out i hi
    obtain ⟨R, hR⟩ : ∃ R, mapE (put1 most i) L xs = R := ⟨_, rfl⟩
    rw [hR] at HC ⊢
    clear e hR hi
    go_enter Try.func69, Try.ntmps69
    go_wp2_with fail
    refine HC.out.mono ?_
    intro e w2 hP
    have HP : Hid (RsPost R w b r v s most e w2) := hP
    rcases R with x | ⟨L', o'⟩
    · obtain ⟨rfl, _⟩ := hP.1 x rfl
      clear hP HC
      go_wp2
      go_ret
      exact HP.out
    · obtain ⟨rfl, _⟩ := hP.2 L' o' rfl
      clear hP HC
      go_wp2
      go_ret
      exact HP.out
  · have hiz : ¬ (i : Int) < 256 := by omega
    have e : told ds most i L xs = thenE (sprL i) (fun n => thenE (symN ds) fun f => thenE (sprD f) fun d => mapE (putC most n d)) L xs := by unfold told; rw [if_neg hi]
    rw [e]
    obtain ⟨R, hR⟩ : ∃ R, thenE (sprL i) (fun n => thenE (symN ds) fun f => thenE (sprD f) fun d => mapE (putC most n d)) L xs = R := ⟨_, rfl⟩
    rw [hR]
    have HR : Hid (thenE (sprL i) (fun n => thenE (symN ds) fun f => thenE (sprD f) fun d => mapE (putC most n d)) L xs = R) := hR
    clear e hi hR
    go_enter Try.func69, Try.ntmps69
    go_wp2_with fail
    refine (spreadL_ok HS.out i).mono ?_
    intro e w2 hP
    rcases h1 : sprL i L with _ | ⟨n, L1⟩
    · obtain ⟨rfl, hk⟩ := hP.1 h1
      have HK : Hid (Keeps (Own3 b r v) w w2) := hk
      have e : R = .error 700 := by rw [← HR.out, thenE, h1]
      subst e
      clear hP h1 hk
      go_wp2
      go_ret
      exact RsPost.bad HK.out
    · obtain ⟨rfl, hS2, hA2⟩ := hP.2 n L1 h1
      have H2 : Hid (St w2 b r v s most L1 xs ∧ Rdv w w2 b r v) := ⟨hS2, hA2⟩
      have hn : n ≤ 1000 := sprL_some h1
      have HR2 : Hid (thenE (symN ds) (fun f => thenE (sprD f) fun d => mapE (putC most n d)) L1 xs = R) := by
        have := HR.out; rw [thenE, h1] at this; exact this
      clear hP h1 hS2 hA2 HR
      go_wp2_with fail
      refine (symbol_ok H2.out.1 (HF.out w2 H2.out.2) HAw.out).mono ?_
      intro e w3 hP
      rcases h3 : symN ds L1 with _ | ⟨q, L3⟩
      · obtain ⟨rfl, hk⟩ := hP.1 h3
        have HK : Hid (Keeps (Own3 b r v) w w3) := H2.out.2.lost hk
        have e : R = .error 700 := by rw [← HR2.out, thenE, h3]
        subst e
        clear hP h3 hk
        go_wp2
        go_ret
        exact RsPost.bad HK.out
      · obtain ⟨rfl, hS3, hA3⟩ := hP.2 q L3 h3
        have H3 : Hid (St w3 b r v s most L3 xs ∧ Rdv w w3 b r v) := ⟨hS3, H2.out.2.trans hA3⟩
        have HR3 : Hid (thenE (sprD q) (fun d => mapE (putC most n d)) L3 xs = R) := by
          have := HR2.out; rw [thenE, h3] at this; exact this
        clear hP h3 hS3 hA3 HR2
        go_wp2_with fail
        refine (spreadD_ok H3.out.1 q).mono ?_
        intro e w4 hP
        rcases h4 : sprD q L3 with _ | ⟨d, L4⟩
        · obtain ⟨rfl, hk⟩ := hP.1 h4
          have HK : Hid (Keeps (Own3 b r v) w w4) := H3.out.2.lost hk
          have e : R = .error 700 := by rw [← HR3.out, thenE, h4]
          subst e
          clear hP h4 hk
          go_wp2
          go_ret
          exact RsPost.bad HK.out
        · obtain ⟨rfl, hS4, hA4⟩ := hP.2 d L4 h4
          have H4 : Hid (St w4 b r v s most L4 xs ∧ Rdv w w4 b r v) := ⟨hS4, H3.out.2.trans hA4⟩
          have hd := sprD_some h4
          have HC : Hid (Calls Try.prog 78 #[.pointer (some ⟨b, 0, none⟩), .int .i64 (n : Int), .int .i64 (d : Int)] w4 (RsPost R w4 b r v s most)) := by
            have e : mapE (putC most n d) L4 xs = R := by have := HR3.out; rw [thenE, h4] at this; exact this
            rw [← e]; exact putCopy_ok H4.out.1 n d hn hd.1 hd.2
          clear hP h4 hS4 hA4 hd hn HR3
          go_wp2_with fail
          refine HC.out.mono ?_
          intro e w5 hP
          have HP : Hid (RsPost R w b r v s most e w5) := hP.trans H4.out.2.adv
          rcases R with x | ⟨L', o'⟩
          · obtain ⟨rfl, _⟩ := hP.1 x rfl
            clear hP HC
            go_wp2
            go_ret
            exact HP.out
          · obtain ⟨rfl, _⟩ := hP.2 L' o' rfl
            clear hP HC
            go_wp2
            go_ret
            exact HP.out

end Go.Proofs.Ytdbfbijalhknnaa

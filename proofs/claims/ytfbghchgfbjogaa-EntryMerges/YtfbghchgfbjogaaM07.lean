/-
  told of package inflate: what a symbol stands for. Streams in plain lists: what is left grows never, and how the loops go on (no program in sight). coded and stored of package inflate: what stands in a block. add of package inflate: a finder that takes a symbol in.
-/
import Derived.Test.YtfbghchgfbjogaaRows
import Derived.Test.YtfbghchgfbjogaaM06
import Derived.BigRegion
namespace Go.Proofs.Ytfbghchgfbjogaa
open Go.RowKit
open Hf Tb
set_option linter.unusedVariables false
set_option linter.unusedSimpArgs false

theorem sprL_some {i x : Nat} {L L' : Bts} (h : sprL i L = some (x, L')) : x ≤ 1000 := by
  unfold sprL at h
  by_cases hi : 257 ≤ i ∧ i ≤ 285
  · rw [if_pos hi] at h
    obtain ⟨m, hm, rfl⟩ := aboveL_some h
    have h1 := lenF_le (i - 257) (by omega)
    have h2 := getL_lt hm
    have h3 : (2 : Nat) ^ (lenF (i - 257)).2 ≤ 2 ^ 5 := Nat.pow_le_pow_right (by decide) h1.2
    omega
  · rw [if_neg hi] at h; simp [noL] at h
theorem dstF_pos : ∀ i : Fin 30, 1 ≤ (dstF i.val).1 := by decide +kernel
theorem sprD_some {i x : Nat} {L L' : Bts} (h : sprD i L = some (x, L')) : 1 ≤ x ∧ x ≤ 100000 := by
  unfold sprD at h
  by_cases hi : i ≤ 29
  · rw [if_pos hi] at h
    obtain ⟨m, hm, rfl⟩ := aboveL_some h
    have h1 := dstF_le i hi
    have h2 := getL_lt hm
    have h3 : (2 : Nat) ^ (dstF i).2 ≤ 2 ^ 13 := Nat.pow_le_pow_right (by decide) h1.2
    have h4 := dstF_pos ⟨i, by omega⟩
    simp only at h4
    omega
  · rw [if_neg hi] at h; simp [noL] at h
theorem findL_small (ys : List Int) (k v i : Nat) (h1 : 1 ≤ k) (h2 : k ≤ 15) (h : findL ys (k : Int) (v : Int) = some i) : i < ys.length := by
  rw [findL_eq ys k v h1 h2] at h
  split at h
  · obtain ⟨hj, rfl⟩ := List.getElem?_eq_some_iff.1 h
    have := symF_lt (k : Int) ys 0 _ (List.getElem_mem hj)
    omega
  · cases h
theorem symG_small (ys : List Int) : ∀ (n k v : Nat) (L : Bts) (i : Nat) (L' : Bts), n + k ≤ 15 → symG ys n k v L = some (i, L') → i < ys.length
  | 0, _, _, _, _, _, _, h => by simp [symG] at h
  | n + 1, _, _, [], _, _, _, h => by simp [symG] at h
  | n + 1, k, v, b :: L, i, L', hk, h => by
    rw [symG] at h
    rcases hf : findL ys ((k + 1 : Nat) : Int) ((2 * v + b.toNat : Nat) : Int) with _ | j
    · rw [hf] at h; exact symG_small ys n (k + 1) _ L i L' (by omega) h
    · rw [hf] at h; cases h; exact findL_small ys _ _ _ (by omega) (by omega) hf
theorem symN_small {ys : List Int} {L : Bts} {i : Nat} {L' : Bts} (h : symN ys L = some (i, L')) : i < ys.length := symG_small ys 15 0 0 L i L' (by omega) h

set_option maxHeartbeats 2000000 in
set_option maxRecDepth 100000 in
theorem told_ok {w : World} {b r : Nat} {v : Value} {s : ByteArray} {most : Nat} {L : Bts} {xs : List Nat} (h : St w b r v s most L xs) {lo hi f : Nat} {ds : List Int} (hf : Fnd w lo hi f ds) (ha : Away lo hi b r v) (i : Nat) (hi1 : i ≤ 100000) :
    Calls Try.prog 59 #[.pointer (some ⟨b, 0, none⟩), .int .i64 (i : Int), .pointer (some ⟨f, 0, none⟩)] w (RsPost (told ds most i L xs) w b r v s most) := by
  have HS : Hid (St w b r v s most L xs) := h
  have HF : Hid (∀ w', Rdv w w' b r v → Fnd w' lo hi f ds) := fun w' k => hf.kept k.keep ha.not
  have HAw : Hid (Away lo hi b r v) := ha
  clear h hf ha
  by_cases hi : i < 256
  · have hiz : (i : Int) < 256 := by omega
    have hu : IntKind.u8.wrap (i : Int) = (i : Int) := by simp [IntKind.wrap, IntKind.bits, IntKind.signed]; omega
    have e : told ds most i L xs = mapE (put1 most i) L xs := by unfold told; rw [if_pos hi]
    rw [e]
    have HC : Hid (Calls Try.prog 57 #[.pointer (some ⟨b, 0, none⟩), .int .u8 (i : Int)] w (RsPost (mapE (put1 most i) L xs) w b r v s most)) := put_rs HS.out i hi
    obtain ⟨R, hR⟩ : ∃ R, mapE (put1 most i) L xs = R := ⟨_, rfl⟩
    rw [hR] at HC ⊢
    clear e hR hi
    go_enter Try.func59, Try.ntmps59
    go_wp2_with fail
    refine HC.out.mono ?_
    intro e w2 hP
    have HP : Hid (RsPost R w b r v s most e w2) := hP
    rcases R with x | ⟨L', o'⟩
    · obtain ⟨rfl, _⟩ := hP.1 x rfl
      clear hP HC
      go_wp2
      go_ret
      exact HP.out
    · obtain ⟨rfl, _⟩ := hP.2 L' o' rfl
      clear hP HC
      go_wp2
      go_ret
      exact HP.out
  · have hiz : ¬ (i : Int) < 256 := by omega
    have e : told ds most i L xs = thenE (sprL i) (fun n => thenE (symN ds) fun f => thenE (sprD f) fun d => mapE (putC most n d)) L xs := by unfold told; rw [if_neg hi]
    rw [e]
    obtain ⟨R, hR⟩ : ∃ R, thenE (sprL i) (fun n => thenE (symN ds) fun f => thenE (sprD f) fun d => mapE (putC most n d)) L xs = R := ⟨_, rfl⟩
    rw [hR]
    have HR : Hid (thenE (sprL i) (fun n => thenE (symN ds) fun f => thenE (sprD f) fun d => mapE (putC most n d)) L xs = R) := hR
    clear e hi hR
    go_enter Try.func59, Try.ntmps59
    go_wp2_with fail
    refine (spreadL_ok HS.out i).mono ?_
    intro e w2 hP
    rcases h1 : sprL i L with _ | ⟨n, L1⟩
    · obtain ⟨rfl, hk⟩ := hP.1 h1
      have HK : Hid (Keeps (Own3 b r v) w w2) := hk
      have e : R = .error 700 := by rw [← HR.out, thenE, h1]
      subst e
      clear hP h1 hk
      go_wp2
      go_ret
      exact RsPost.bad HK.out
    · obtain ⟨rfl, hS2, hA2⟩ := hP.2 n L1 h1
      have H2 : Hid (St w2 b r v s most L1 xs ∧ Rdv w w2 b r v) := ⟨hS2, hA2⟩
      have hn : n ≤ 1000 := sprL_some h1
      have HR2 : Hid (thenE (symN ds) (fun f => thenE (sprD f) fun d => mapE (putC most n d)) L1 xs = R) := by
        have := HR.out; rw [thenE, h1] at this; exact this
      clear hP h1 hS2 hA2 HR
      go_wp2_with fail
      refine (symbol_ok H2.out.1 (HF.out w2 H2.out.2) HAw.out).mono ?_
      intro e w3 hP
      rcases h3 : symN ds L1 with _ | ⟨q, L3⟩
      · obtain ⟨rfl, hk⟩ := hP.1 h3
        have HK : Hid (Keeps (Own3 b r v) w w3) := H2.out.2.lost hk
        have e : R = .error 700 := by rw [← HR2.out, thenE, h3]
        subst e
        clear hP h3 hk
        go_wp2
        go_ret
        exact RsPost.bad HK.out
      · obtain ⟨rfl, hS3, hA3⟩ := hP.2 q L3 h3
        have H3 : Hid (St w3 b r v s most L3 xs ∧ Rdv w w3 b r v) := ⟨hS3, H2.out.2.trans hA3⟩
        have HR3 : Hid (thenE (sprD q) (fun d => mapE (putC most n d)) L3 xs = R) := by
          have := HR2.out; rw [thenE, h3] at this; exact this
        clear hP h3 hS3 hA3 HR2
        go_wp2_with fail
        refine (spreadD_ok H3.out.1 q).mono ?_
        intro e w4 hP
        rcases h4 : sprD q L3 with _ | ⟨d, L4⟩
        · obtain ⟨rfl, hk⟩ := hP.1 h4
          have HK : Hid (Keeps (Own3 b r v) w w4) := H3.out.2.lost hk
          have e : R = .error 700 := by rw [← HR3.out, thenE, h4]
          subst e
          clear hP h4 hk
          go_wp2
          go_ret
          exact RsPost.bad HK.out
        · obtain ⟨rfl, hS4, hA4⟩ := hP.2 d L4 h4
          have H4 : Hid (St w4 b r v s most L4 xs ∧ Rdv w w4 b r v) := ⟨hS4, H3.out.2.trans hA4⟩
          have hd := sprD_some h4
          have HC : Hid (Calls Try.prog 68 #[.pointer (some ⟨b, 0, none⟩), .int .i64 (n : Int), .int .i64 (d : Int)] w4 (RsPost R w4 b r v s most)) := by
            have e : mapE (putC most n d) L4 xs = R := by have := HR3.out; rw [thenE, h4] at this; exact this
            rw [← e]; exact putCopy_ok H4.out.1 n d hn hd.1 hd.2
          clear hP h4 hS4 hA4 hd hn HR3
          go_wp2_with fail
          refine HC.out.mono ?_
          intro e w5 hP
          have HP : Hid (RsPost R w b r v s most e w5) := hP.trans H4.out.2.adv
          rcases R with x | ⟨L', o'⟩
          · obtain ⟨rfl, _⟩ := hP.1 x rfl
            clear hP HC
            go_wp2
            go_ret
            exact HP.out
          · obtain ⟨rfl, _⟩ := hP.2 L' o' rfl
            clear hP HC
            go_wp2
            go_ret
            exact HP.out

end Go.Proofs.Ytfbghchgfbjogaa

namespace Go.Proofs.Ytfbghchgfbjogaa
open Hf Tb
set_option linter.unusedVariables false
set_option linter.unusedSimpArgs false

theorem getL_len {k x : Nat} {L L' : Bts} (h : getL k L = some (x, L')) : L'.length + k = L.length := by
  unfold getL at h; split at h
  · cases h; simp; omega
  · cases h
theorem bnd_some {α β : Type} {f : Bts → Option (α × Bts)} {g : α → Bts → Option (β × Bts)} {L : Bts} {y : β} {L' : Bts} (h : bnd f g L = some (y, L')) : ∃ x L1, f L = some (x, L1) ∧ g x L1 = some (y, L') := by
  unfold bnd at h
  rcases hf : f L with _ | ⟨x, L1⟩
  · rw [hf] at h; cases h
  · rw [hf] at h; exact ⟨x, L1, rfl, h⟩
theorem bnd_eq {α β : Type} {f : Bts → Option (α × Bts)} {g : α → Bts → Option (β × Bts)} {L : Bts} {x : α} {L1 : Bts} (h : f L = some (x, L1)) : bnd f g L = g x L1 := by unfold bnd; rw [h]
theorem bnd_none {α β : Type} {f : Bts → Option (α × Bts)} {g : α → Bts → Option (β × Bts)} {L : Bts} (h : f L = none) : bnd f g L = none := by unfold bnd; rw [h]
theorem thenE_eq {α : Type} {f : Bts → Option (α × Bts)} {g : α → Bts → List Nat → Rs} {L : Bts} {o : List Nat} {x : α} {L1 : Bts} (h : f L = some (x, L1)) : thenE f g L o = g x L1 o := by unfold thenE; rw [h]
theorem thenE_none {α : Type} {f : Bts → Option (α × Bts)} {g : α → Bts → List Nat → Rs} {L : Bts} {o : List Nat} (h : f L = none) : thenE f g L o = .error 700 := by unfold thenE; rw [h]
theorem thenE_ok {α : Type} {f : Bts → Option (α × Bts)} {g : α → Bts → List Nat → Rs} {L : Bts} {o : List Nat} {r : Bts × List Nat} (h : thenE f g L o = .ok r) : ∃ x L1, f L = some (x, L1) ∧ g x L1 o = .ok r := by
  unfold thenE at h
  rcases hf : f L with _ | ⟨x, L1⟩
  · rw [hf] at h; cases h
  · rw [hf] at h; exact ⟨x, L1, rfl, h⟩
theorem seqE_eq {f g : Bts → List Nat → Rs} {L : Bts} {o : List Nat} {r : Bts × List Nat} (h : f L o = .ok r) : seqE f g L o = g r.1 r.2 := by unfold seqE; rw [h]
theorem seqE_bad {f g : Bts → List Nat → Rs} {L : Bts} {o : List Nat} {e : Int} (h : f L o = .error e) : seqE f g L o = .error e := by unfold seqE; rw [h]
theorem seqE_ok {f g : Bts → List Nat → Rs} {L : Bts} {o : List Nat} {r : Bts × List Nat} (h : seqE f g L o = .ok r) : ∃ r1, f L o = .ok r1 ∧ g r1.1 r1.2 = .ok r := by
  unfold seqE at h
  rcases hf : f L o with e | r1
  · rw [hf] at h; cases h
  · rw [hf] at h; exact ⟨r1, rfl, h⟩
theorem mapE_ok {f : List Nat → Except Int (List Nat)} {L : Bts} {o : List Nat} {r : Bts × List Nat} (h : mapE f L o = .ok r) : r.1 = L ∧ f o = .ok r.2 := by
  unfold mapE at h
  rcases hf : f o with e | o'
  · rw [hf] at h; cases h
  · rw [hf] at h; cases h; exact ⟨rfl, rfl⟩

theorem aboveL_len {a k x : Nat} {L L' : Bts} (h : aboveL a k L = some (x, L')) : L'.length ≤ L.length := by
  obtain ⟨m, L1, h1, h2⟩ := bnd_some h
  have := getL_len h1
  simp [retL] at h2
  rw [h2.2] at this; omega
theorem symG_len (ys : List Int) : ∀ (n k v : Nat) (L : Bts) (i : Nat) (L' : Bts), symG ys n k v L = some (i, L') → L'.length < L.length
  | 0, _, _, _, _, _, h => by simp [symG] at h
  | n + 1, _, _, [], _, _, h => by simp [symG] at h
  | n + 1, k, v, b :: L, i, L', h => by
    rw [symG] at h
    rcases hf : findL ys ((k + 1 : Nat) : Int) ((2 * v + b.toNat : Nat) : Int) with _ | j
    · rw [hf] at h; have := symG_len ys n (k + 1) _ L i L' h; simp; omega
    · rw [hf] at h; cases h; simp
theorem symN_len {ys : List Int} {L : Bts} {i : Nat} {L' : Bts} (h : symN ys L = some (i, L')) : L'.length < L.length := symG_len ys 15 0 0 L i L' h
theorem sprL_len {i x : Nat} {L L' : Bts} (h : sprL i L = some (x, L')) : L'.length ≤ L.length := by
  unfold sprL at h; split at h
  · exact aboveL_len h
  · simp [noL] at h
theorem sprD_len {i x : Nat} {L L' : Bts} (h : sprD i L = some (x, L')) : L'.length ≤ L.length := by
  unfold sprD at h; split at h
  · exact aboveL_len h
  · simp [noL] at h
theorem told_len {ds : List Int} {most i : Nat} {L : Bts} {o : List Nat} {r : Bts × List Nat} (h : told ds most i L o = .ok r) : r.1.length ≤ L.length := by
  unfold told at h; split at h
  · have := mapE_ok h; rw [this.1]; omega
  · obtain ⟨n, L1, h1, h2⟩ := thenE_ok h
    obtain ⟨f, L2, h3, h4⟩ := thenE_ok h2
    obtain ⟨d, L3, h5, h6⟩ := thenE_ok h4
    have := mapE_ok h6
    rw [this.1]
    have := sprL_len h1; have := symN_len h3; have := sprD_len h5; omega
theorem codedF_fuel (ys ds : List Int) (most : Nat) : ∀ (n m : Nat) (L : Bts) (o : List Nat), L.length < n → L.length < m → codedF ys ds most n L o = codedF ys ds most m L o
  | 0, _, _, _, h, _ => by omega
  | _ + 1, 0, _, _, _, h => by omega
  | n + 1, m + 1, L, o, h1, h2 => by
    unfold codedF thenE
    rcases hs : symN ys L with _ | ⟨i, L1⟩
    · rfl
    · have hl := symN_len hs
      simp only
      by_cases hi : i = 256
      · rw [if_pos hi, if_pos hi]
      · rw [if_neg hi, if_neg hi]
        unfold seqE
        rcases ht : told ds most i L1 o with e | r
        · rfl
        · have := told_len ht
          simp only
          exact codedF_fuel ys ds most n m r.1 r.2 (by omega) (by omega)
theorem coded_none {ys ds : List Int} {most : Nat} {L : Bts} {o : List Nat} (h : symN ys L = none) : coded ys ds most L o = .error 700 := by
  unfold coded codedF; exact thenE_none h
theorem coded_end {ys ds : List Int} {most : Nat} {L L1 : Bts} {o : List Nat} (h : symN ys L = some (256, L1)) : coded ys ds most L o = .ok (L1, o) := by
  unfold coded codedF; rw [thenE_eq h, if_pos rfl]
theorem coded_bad {ys ds : List Int} {most i : Nat} {L L1 : Bts} {o : List Nat} {e : Int} (h : symN ys L = some (i, L1)) (hi : i ≠ 256) (ht : told ds most i L1 o = .error e) : coded ys ds most L o = .error e := by
  unfold coded codedF; rw [thenE_eq h, if_neg hi, seqE_bad ht]
theorem coded_next {ys ds : List Int} {most i : Nat} {L L1 : Bts} {o : List Nat} {r : Bts × List Nat} (h : symN ys L = some (i, L1)) (hi : i ≠ 256) (ht : told ds most i L1 o = .ok r) : coded ys ds most L o = coded ys ds most r.1 r.2 := by
  have h1 := symN_len h
  have h2 := told_len ht
  rw [coded, codedF, thenE_eq h, if_neg hi, seqE_eq ht]
  exact codedF_fuel ys ds most _ _ _ _ (by omega) (by omega)
theorem codedF_len (ys ds : List Int) (most : Nat) : ∀ (n : Nat) (L : Bts) (o : List Nat) (r : Bts × List Nat), codedF ys ds most n L o = .ok r → r.1.length < L.length
  | 0, _, _, _, h => by simp [codedF] at h
  | n + 1, L, o, r, h => by
    rw [codedF] at h
    obtain ⟨i, L1, h1, h2⟩ := thenE_ok h
    have := symN_len h1
    by_cases hi : i = 256
    · rw [if_pos hi] at h2; cases h2; exact this
    · rw [if_neg hi] at h2
      obtain ⟨r1, h3, h4⟩ := seqE_ok h2
      have := told_len h3
      have := codedF_len ys ds most n _ _ _ h4
      omega
theorem coded_len {ys ds : List Int} {most : Nat} {L : Bts} {o : List Nat} {r : Bts × List Nat} (h : coded ys ds most L o = .ok r) : r.1.length < L.length := codedF_len ys ds most _ L o r h

theorem storedB_len (most : Nat) : ∀ (n : Nat) (L : Bts) (o : List Nat) (r : Bts × List Nat), storedB most n L o = .ok r → r.1.length ≤ L.length
  | 0, L, o, r, h => by simp [storedB] at h; rw [← h]; exact Nat.le_refl _
  | n + 1, L, o, r, h => by
    rw [storedB] at h
    obtain ⟨b, L1, h1, h2⟩ := thenE_ok h
    obtain ⟨r1, h3, h4⟩ := seqE_ok h2
    have := getL_len h1
    have := mapE_ok h3
    have h5 := storedB_len most n _ _ _ h4
    rw [this.1] at h5; omega
theorem stored_len {most : Nat} {L : Bts} {o : List Nat} {r : Bts × List Nat} (h : stored most L o = .ok r) : r.1.length ≤ L.length := by
  unfold stored storedH at h
  obtain ⟨k, L1, h1, h2⟩ := thenE_ok h
  obtain ⟨m, L2, h3, h4⟩ := thenE_ok h2
  have e1 := getL_len h1
  have e2 := getL_len h3
  have e3 : (alignL L).length ≤ L.length := by unfold alignL; simp
  split at h4
  · have := storedB_len most _ _ _ _ h4; omega
  · cases h4
theorem rle_len {i : Nat} {out r : List Int} {L L' : Bts} (h : rle i out L = some (r, L')) : L'.length ≤ L.length ∧ 1 ≤ r.length := by
  unfold rle at h
  split at h
  · split at h
    · simp [noL] at h
    · obtain ⟨m, L1, h1, h2⟩ := bnd_some h
      have := aboveL_len h1
      obtain ⟨q, L2, h3, h4⟩ := bnd_some h1
      simp [retL] at h2 h4
      rw [← h2.1, ← h2.2]; simp; omega
  · split at h
    · obtain ⟨m, L1, h1, h2⟩ := bnd_some h
      have := aboveL_len h1
      obtain ⟨q, L2, h3, h4⟩ := bnd_some h1
      simp [retL] at h2 h4
      rw [← h2.1, ← h2.2]; simp; omega
    · split at h
      · obtain ⟨m, L1, h1, h2⟩ := bnd_some h
        have := aboveL_len h1
        obtain ⟨q, L2, h3, h4⟩ := bnd_some h1
        simp [retL] at h2 h4
        rw [← h2.1, ← h2.2]; simp; omega
      · simp [retL] at h; rw [← h.1, ← h.2]; simp
theorem runsF_over (ys : List Int) (many : Nat) (n : Nat) (out : List Int) (L : Bts) (h : many < out.length) : runsF ys many n out L = none := by
  cases n with
  | zero => rfl
  | succ n => rw [runsF, if_neg (by omega), if_neg (by omega)]; rfl
theorem runsF_fuel (ys : List Int) (many : Nat) : ∀ (n m : Nat) (out : List Int) (L : Bts), many + 1 ≤ n + out.length → many + 1 ≤ m + out.length → runsF ys many n out L = runsF ys many m out L
  | n, m, out, L, h1, h2 => by
    by_cases ho : many < out.length
    · rw [runsF_over _ _ _ _ _ ho, runsF_over _ _ _ _ _ ho]
    · cases n with
      | zero => omega
      | succ n =>
        cases m with
        | zero => omega
        | succ m =>
          rw [runsF, runsF]
          by_cases h : out.length < many
          · rw [if_pos h, if_pos h]
            unfold bnd
            rcases hs : symN ys L with _ | ⟨i, L1⟩
            · rfl
            · simp only
              rcases hr : rle i out L1 with _ | ⟨r, L2⟩
              · rfl
              · have := rle_len hr
                simp only
                exact runsF_fuel ys many n m (out ++ r) L2 (by simp; omega) (by simp; omega)
          · rw [if_neg h, if_neg h]
theorem runs_none1 {ys : List Int} {many : Nat} {out : List Int} {L : Bts} (h : out.length < many) (hs : symN ys L = none) : runs ys many out L = none := by
  unfold runs
  rw [show many + 1 - out.length = (many - out.length) + 1 by omega, runsF, if_pos h, bnd_none hs]
theorem runs_none2 {ys : List Int} {many : Nat} {out : List Int} {L L1 : Bts} {i : Nat} (h : out.length < many) (hs : symN ys L = some (i, L1)) (hr : rle i out L1 = none) : runs ys many out L = none := by
  unfold runs
  rw [show many + 1 - out.length = (many - out.length) + 1 by omega, runsF, if_pos h, bnd_eq hs, bnd_none hr]
theorem runs_next {ys : List Int} {many : Nat} {out r : List Int} {L L1 L2 : Bts} {i : Nat} (h : out.length < many) (hs : symN ys L = some (i, L1)) (hr : rle i out L1 = some (r, L2)) : runs ys many out L = runs ys many (out ++ r) L2 := by
  have := rle_len hr
  unfold runs
  rw [show many + 1 - out.length = (many - out.length) + 1 by omega, runsF, if_pos h, bnd_eq hs, bnd_eq hr]
  exact runsF_fuel ys many _ _ _ _ (by simp; omega) (by simp; omega)
theorem runs_over {ys : List Int} {many : Nat} {out : List Int} {L : Bts} (h : many < out.length) : runs ys many out L = none := runsF_over _ _ _ _ _ h
theorem runs_done {ys : List Int} {many : Nat} {out : List Int} {L : Bts} (h : out.length = many) : runs ys many out L = some (out, L) := by
  unfold runs
  rw [show many + 1 - out.length = 0 + 1 by omega, runsF, if_neg (by omega), if_pos h]; rfl
theorem runsF_len (ys : List Int) (many : Nat) : ∀ (n : Nat) (out : List Int) (L : Bts) (all : List Int) (L' : Bts), runsF ys many n out L = some (all, L') → L'.length ≤ L.length ∧ all.length = many
  | 0, _, _, _, _, h => by simp [runsF, noL] at h
  | n + 1, out, L, all, L', h => by
    rw [runsF] at h
    split at h
    · obtain ⟨i, L1, h1, h2⟩ := bnd_some h
      obtain ⟨r, L2, h3, h4⟩ := bnd_some h2
      have := symN_len h1
      have := rle_len h3
      have := runsF_len ys many n _ _ _ _ h4
      omega
    · split at h
      · simp [retL] at h; rw [← h.1, ← h.2]; exact ⟨Nat.le_refl _, by assumption⟩
      · simp [noL] at h
theorem runs_len {ys : List Int} {many : Nat} {out : List Int} {L L' : Bts} {all : List Int} (h : runs ys many out L = some (all, L')) : L'.length ≤ L.length ∧ all.length = many := runsF_len ys many _ out L all L' h
theorem threes_len : ∀ (n : Nat) (acc : List Int) (L : Bts) (t : List Int) (L' : Bts), threes n acc L = some (t, L') → L'.length ≤ L.length ∧ t.length = n + acc.length
  | 0, acc, L, t, L', h => by simp [threes, retL] at h; rw [← h.1, ← h.2]; simp
  | n + 1, acc, L, t, L', h => by
    rw [threes] at h
    obtain ⟨x, L1, h1, h2⟩ := bnd_some h
    have := getL_len h1
    have := threes_len n _ _ _ _ h2
    simp at this; omega
theorem dynP_some {a : Nat} {all : List Int} {L L' : Bts} {xy : List Int × List Int} (h : dynP a all L = some (xy, L')) : mayB (all.take a) = true ∧ mayD (all.drop a) = true ∧ xy = (all.take a, all.drop a) ∧ L' = L := by
  unfold dynP at h
  split at h
  · rename_i hc
    rw [Bool.and_eq_true] at hc
    simp [retL] at h
    exact ⟨hc.1, hc.2, h.1.symm, h.2.symm⟩
  · simp [noL] at h
theorem dynH_len {L L' : Bts} {xy : List Int × List Int} (h : dynH L = some (xy, L')) : L'.length ≤ L.length := by
  unfold dynH at h
  obtain ⟨a, L1, h1, h2⟩ := bnd_some h
  obtain ⟨b, L2, h3, h4⟩ := bnd_some h2
  split at h4
  · simp [noL] at h4
  · obtain ⟨c, L3, h5, h6⟩ := bnd_some h4
    obtain ⟨t, L4, h7, h8⟩ := bnd_some h6
    unfold dynC at h8
    split at h8
    · obtain ⟨all, L5, h9, h10⟩ := bnd_some h8
      obtain ⟨_, _, _, rfl⟩ := dynP_some h10
      have := aboveL_len h1; have := aboveL_len h3; have := aboveL_len h5; have := threes_len _ _ _ _ _ h7; have := runs_len h9
      omega
    · simp [noL] at h8
theorem inside_len {most kind : Nat} {L : Bts} {o : List Nat} {r : Bts × List Nat} (h : inside most kind L o = .ok r) : r.1.length ≤ L.length := by
  unfold inside at h
  split at h
  · exact stored_len h
  · split at h
    · exact Nat.le_of_lt (coded_len h)
    · split at h
      · obtain ⟨xy, L1, h1, h2⟩ := thenE_ok h
        have := dynH_len h1
        have := coded_len h2
        omega
      · cases h
theorem blocksF_fuel (most : Nat) : ∀ (n m : Nat) (L : Bts) (o : List Nat), L.length < n → L.length < m → blocksF most n L o = blocksF most m L o
  | 0, _, _, _, h, _ => by omega
  | _ + 1, 0, _, _, _, h => by omega
  | n + 1, m + 1, L, o, h1, h2 => by
    rw [blocksF, blocksF]
    unfold thenE
    rcases hs : getL 1 L with _ | ⟨l, L1⟩
    · rfl
    · have e1 := getL_len hs
      simp only
      rcases ht : getL 2 L1 with _ | ⟨k, L2⟩
      · rfl
      · have e2 := getL_len ht
        simp only
        unfold seqE
        rcases hi : inside most k L2 o with e | r
        · rfl
        · have := inside_len hi
          simp only
          by_cases hl : l = 1
          · rw [if_pos hl, if_pos hl]
          · rw [if_neg hl, if_neg hl]
            exact blocksF_fuel most n m r.1 r.2 (by omega) (by omega)
theorem blocks_none1 {most : Nat} {L : Bts} {o : List Nat} (h : getL 1 L = none) : blocks most L o = .error 700 := by unfold blocks blocksF; exact thenE_none h
theorem blocks_none2 {most l : Nat} {L L1 : Bts} {o : List Nat} (h : getL 1 L = some (l, L1)) (h2 : getL 2 L1 = none) : blocks most L o = .error 700 := by unfold blocks blocksF; rw [thenE_eq h, thenE_none h2]
theorem blocks_bad {most l k : Nat} {L L1 L2 : Bts} {o : List Nat} {e : Int} (h : getL 1 L = some (l, L1)) (h2 : getL 2 L1 = some (k, L2)) (h3 : inside most k L2 o = .error e) : blocks most L o = .error e := by unfold blocks blocksF; rw [thenE_eq h, thenE_eq h2, seqE_bad h3]
theorem blocks_last {most k : Nat} {L L1 L2 : Bts} {o : List Nat} {r : Bts × List Nat} (h : getL 1 L = some (1, L1)) (h2 : getL 2 L1 = some (k, L2)) (h3 : inside most k L2 o = .ok r) : blocks most L o = .ok r := by
  unfold blocks blocksF; rw [thenE_eq h, thenE_eq h2, seqE_eq h3, if_pos rfl]
theorem blocks_next {most l k : Nat} {L L1 L2 : Bts} {o : List Nat} {r : Bts × List Nat} (h : getL 1 L = some (l, L1)) (hl : l ≠ 1) (h2 : getL 2 L1 = some (k, L2)) (h3 : inside most k L2 o = .ok r) : blocks most L o = blocks most r.1 r.2 := by
  have e1 := getL_len h; have e2 := getL_len h2; have e3 := inside_len h3
  rw [blocks, blocksF, thenE_eq h, thenE_eq h2, seqE_eq h3, if_neg hl]
  exact blocksF_fuel most _ _ _ _ (by omega) (by omega)

def Er (e : Int) : Prop := e = 700 ∨ e = 701
theorem Er.ne {e : Int} (h : Er e) : ¬ e = 0 := by rcases h with rfl | rfl <;> decide
theorem thenE_err {α : Type} {f : Bts → Option (α × Bts)} {g : α → Bts → List Nat → Rs} {L : Bts} {o : List Nat} {e : Int} (hg : ∀ x L1, g x L1 o = .error e → Er e) (h : thenE f g L o = .error e) : Er e := by
  unfold thenE at h
  rcases hf : f L with _ | ⟨x, L1⟩
  · rw [hf] at h; cases h; exact .inl rfl
  · rw [hf] at h; exact hg x L1 h
theorem cpy_err (most d : Nat) : ∀ (n : Nat) (o : List Nat) (e : Int), cpy most d n o = .error e → Er e
  | 0, _, _, h => by simp [cpy] at h
  | n + 1, o, e, h => by
    rw [cpy] at h
    split at h
    · cases h; exact .inr rfl
    · exact cpy_err most d n _ e h
theorem putC_err {most n d : Nat} {o : List Nat} {e : Int} (h : putC most n d o = .error e) : Er e := by
  unfold putC at h; split at h
  · cases h; exact .inl rfl
  · exact cpy_err _ _ _ _ _ h
theorem put1_err {most c : Nat} {o : List Nat} {e : Int} (h : put1 most c o = .error e) : Er e := by
  unfold put1 at h; split at h
  · cases h; exact .inr rfl
  · cases h
theorem mapE_err {f : List Nat → Except Int (List Nat)} {L : Bts} {o : List Nat} {e : Int} (hf : f o = .error e → Er e) (h : mapE f L o = .error e) : Er e := by
  unfold mapE at h
  rcases hx : f o with x | o'
  · rw [hx] at h; cases h; exact hf hx
  · rw [hx] at h; cases h
theorem seqE_err {f g : Bts → List Nat → Rs} {L : Bts} {o : List Nat} {e : Int} (hf : f L o = .error e → Er e) (hg : ∀ r : Bts × List Nat, g r.1 r.2 = .error e → Er e) (h : seqE f g L o = .error e) : Er e := by
  unfold seqE at h
  rcases hx : f L o with x | r
  · rw [hx] at h; cases h; exact hf hx
  · rw [hx] at h; exact hg r h
theorem told_err {ds : List Int} {most i : Nat} {L : Bts} {o : List Nat} {e : Int} (h : told ds most i L o = .error e) : Er e := by
  unfold told at h; split at h
  · exact mapE_err put1_err h
  · exact thenE_err (fun _ _ => thenE_err (fun _ _ => thenE_err (fun _ _ => mapE_err putC_err))) h
theorem codedF_err (ys ds : List Int) (most : Nat) : ∀ (n : Nat) (L : Bts) (o : List Nat) (e : Int), codedF ys ds most n L o = .error e → Er e
  | 0, _, _, _, h => by simp [codedF] at h; exact .inl h.symm
  | n + 1, L, o, e, h => by
    rw [codedF] at h
    refine thenE_err (fun i L1 h1 => ?_) h
    split at h1
    · cases h1
    · exact seqE_err told_err (fun r h2 => codedF_err ys ds most n _ _ _ h2) h1
theorem coded_err {ys ds : List Int} {most : Nat} {L : Bts} {o : List Nat} {e : Int} (h : coded ys ds most L o = .error e) : Er e := codedF_err _ _ _ _ _ _ _ h
theorem storedB_err (most : Nat) : ∀ (n : Nat) (L : Bts) (o : List Nat) (e : Int), storedB most n L o = .error e → Er e
  | 0, _, _, _, h => by simp [storedB] at h
  | n + 1, L, o, e, h => by
    rw [storedB] at h
    exact thenE_err (fun i L1 h1 => seqE_err (mapE_err put1_err) (fun r h2 => storedB_err most n _ _ _ h2) h1) h
theorem stored_err {most : Nat} {L : Bts} {o : List Nat} {e : Int} (h : stored most L o = .error e) : Er e := by
  unfold stored storedH at h
  refine thenE_err (fun k L1 => thenE_err (fun m L2 h1 => ?_)) h
  split at h1
  · exact storedB_err _ _ _ _ _ h1
  · cases h1; exact .inl rfl
theorem inside_err {most kind : Nat} {L : Bts} {o : List Nat} {e : Int} (h : inside most kind L o = .error e) : Er e := by
  unfold inside at h
  split at h
  · exact stored_err h
  · split at h
    · exact coded_err h
    · split at h
      · exact thenE_err (fun xy L1 h1 => coded_err h1) h
      · cases h; exact .inl rfl
end Go.Proofs.Ytfbghchgfbjogaa

namespace Go.Proofs.Ytfbghchgfbjogaa
open Go.RowKit
open Hf Tb
set_option linter.unusedVariables false
set_option linter.unusedSimpArgs false

/-- Where a reader stands. -/
def posOf (w : World) (r : Nat) : Nat := match w.cell? ⟨r, 1, none⟩ with
  | some (.int _ n) => n.toNat
  | _ => 0
theorem St.left {w : World} {b r : Nat} {v : Value} {s : ByteArray} {most : Nat} {L : Bts} {xs : List Nat} (h : St w b r v s most L xs) : 8 * s.size - posOf w r = L.length := by
  obtain ⟨p, p1, p2, rfl⟩ := h.rd
  have : w.cell? ⟨r, 1, none⟩ = some (.int .i64 (p : Int)) := cell_of_heap p1 rfl
  unfold posOf
  rw [this, List.length_drop, bitsL_length, bytesOf_length]
  simp

set_option maxHeartbeats 4000000 in
set_option maxRecDepth 100000 in
theorem coded_ok {w : World} {b r : Nat} {v : Value} {s : ByteArray} {most : Nat} {L : Bts} {xs : List Nat} (h : St w b r v s most L xs) {lo hi q : Nat} {ys ds : List Int} (hB : Book w lo hi q ys ds) (ha : Away lo hi b r v) (hys : ys.length ≤ 100000) :
    Calls Try.prog 52 #[.pointer (some ⟨b, 0, none⟩), .pointer (some ⟨q, 0, none⟩)] w (RsPost (coded ys ds most L xs) w b r v s most) := by
  obtain ⟨R, hR⟩ : ∃ R, coded ys ds most L xs = R := ⟨_, rfl⟩
  rw [hR]
  have H0 : Hid (∃ L1 x1 v1, coded ys ds most L1 x1 = R ∧ St w b r v1 s most L1 x1 ∧ Adv w w b r v v1) := ⟨L, xs, v, hR, h, Adv.refl _ _ _ _⟩
  have HB : Hid (∀ w' v', Adv w w' b r v v' → Book w' lo hi q ys ds ∧ Away lo hi b r v') := fun w' v' k => ⟨hB.kept k.keep ha.not, ha.adv k hB.hi⟩
  have HY : Hid (ys.length ≤ 100000) := hys
  clear h hB ha hR hys
  go_enter Try.func52, Try.ntmps52
  go_wp2
  go_loopw [5] (fun _ w' => Hid (∃ L1 x1 v1, coded ys ds most L1 x1 = R ∧ St w' b r v1 s most L1 x1 ∧ Adv w w' b r v v1)) (fun _ w' => 8 * s.size - posOf w' r)
  case atStart => exact H0
  case round =>
    clear H0
    obtain ⟨L1, x1, v1, hE, hS, hA⟩ := hrel.out
    clear hrel
    obtain ⟨hBk, hAw⟩ := HB.out wr v1 hA
    obtain ⟨f1, f2, hq, hq1, hq2, hF1, hF2⟩ := hBk
    have hc1 : wr.cell? ⟨q, 0, none⟩ = some (.pointer (some ⟨f1, 0, none⟩)) := cell_of_heap hq rfl
    have HS : Hid (St wr b r v1 s most L1 x1 ∧ Adv w wr b r v v1) := ⟨hS, hA⟩
    have HQ : Hid (wr.heap[q]? = some (.cells #[.pointer (some ⟨f1, 0, none⟩), .pointer (some ⟨f2, 0, none⟩)] 101 (0, 0)) ∧ lo ≤ q ∧ q < hi ∧ Fnd wr lo hi f2 ds ∧ Away lo hi b r v1) := ⟨hq, hq1, hq2, hF2, hAw⟩
    have HE : Hid (coded ys ds most L1 x1 = R) := hE
    have HC : Hid (Calls Try.prog 58 #[.pointer (some ⟨b, 0, none⟩), .pointer (some ⟨f1, 0, none⟩)] wr (NumPost (symN ys L1) wr b r v1 s most x1)) := symbol_ok hS hF1 hAw
    clear hE hS hA hAw hq hq1 hq2 hF1 hF2
    go_wp2_with fail
    refine HC.out.mono ?_
    intro e w2 hP
    clear HC hc1
    rcases h1 : symN ys L1 with _ | ⟨i, L2⟩
    · obtain ⟨rfl, hk⟩ := hP.1 h1
      have HK : Hid (Keeps (Own3 b r v) w w2) := HS.out.2.lost hk
      have e : R = .error 700 := by rw [← HE.out, coded_none h1]
      subst e
      clear hP h1 hk
      go_wp2
      go_ret
      exact RsPost.bad HK.out
    · obtain ⟨rfl, hS2, hA2⟩ := hP.2 i L2 h1
      have H2 : Hid (St w2 b r v1 s most L2 x1 ∧ Adv w w2 b r v v1) := ⟨hS2, HS.out.2.trans hA2.adv⟩
      have HL : Hid (symN ys L1 = some (i, L2)) := h1
      have hi5 : i ≤ 100000 := by have := symN_small h1; have := HY.out; omega
      have HF : Hid (Fnd w2 lo hi f2 ds ∧ Away lo hi b r v1) := ⟨HQ.out.2.2.2.1.kept hA2.keep HQ.out.2.2.2.2.not, HQ.out.2.2.2.2⟩
      have hc2 : w2.cell? ⟨q, 1, none⟩ = some (.pointer (some ⟨f2, 0, none⟩)) := by
        have e : w2.heap[q]? = _ := (hA2.keep.block q (lt_of_heap HQ.out.1) (HQ.out.2.2.2.2.not q HQ.out.2.1 HQ.out.2.2.1)).trans HQ.out.1
        exact cell_of_heap e rfl
      clear hP h1 hS2 hA2 HQ
      by_cases h256 : i = 256
      · subst h256
        have e : R = .ok (L2, x1) := by rw [← HE.out, coded_end HL.out]
        subst e
        clear HE HL HF hc2
        go_wp2
        go_ret
        exact RsPost.good H2.out.1 H2.out.2
      · have hne : ¬ ((i : Int) = 256) := by omega
        have hnb : ((i : Int) == 256) = false := by simp; omega
        have HC : Hid (Calls Try.prog 59 #[.pointer (some ⟨b, 0, none⟩), .int .i64 (i : Int), .pointer (some ⟨f2, 0, none⟩)] w2 (RsPost (told ds most i L2 x1) w2 b r v1 s most)) := told_ok H2.out.1 HF.out.1 HF.out.2 i hi5
        clear hi5
        go_wp2_with fail
        refine HC.out.mono ?_
        intro e w3 hP
        clear HC hc2
        rcases h3 : told ds most i L2 x1 with er | ⟨L3, x3⟩
        · obtain ⟨rfl, hk⟩ := hP.1 er h3
          have HK : Hid (Keeps (Own3 b r v) w w3) := H2.out.2.lost hk
          have e : R = .error er := by rw [← HE.out, coded_bad HL.out h256 h3]
          subst e
          have her : ¬ (er = 0) := (told_err h3).ne
          clear hP h3 hk
          go_wp2
          go_ret
          exact RsPost.bad HK.out
        · obtain ⟨rfl, v3, hS3, hA3⟩ := hP.2 L3 x3 h3
          have H3 : Hid (coded ys ds most L3 x3 = R ∧ St w3 b r v3 s most L3 x3 ∧ Adv w w3 b r v v3 ∧ L3.length < L1.length) := ⟨by rw [← HE.out, coded_next HL.out h256 h3], hS3, H2.out.2.trans hA3, by have := symN_len HL.out; have := told_len h3; simp only at this; omega⟩
          clear hP h3 hS3 hA3
          go_wp2
          go_roundw
          case rel => exact ⟨L3, x3, v3, H3.out.1, H3.out.2.1, H3.out.2.2.1⟩
          case measure =>
            rw [H3.out.2.1.left, HS.out.1.left]
            exact H3.out.2.2.2

theorem xor_ones (m : Nat) (h : m < 65536) : bits .xor .i64 (m : Int) 65535 = ((65535 - m : Nat) : Int) := by
  show IntKind.i64.wrap (((BitVec.ofInt 64 (m : Int) ^^^ BitVec.ofInt 64 65535).toNat : Nat) : Int) = _
  have e2 : (BitVec.ofInt 64 65535).toNat = 65535 := by decide
  rw [BitVec.toNat_xor, ofInt64_toNat m (by omega), e2]
  have e : m ^^^ 65535 = 65535 - m := by
    apply Nat.eq_of_testBit_eq
    intro i
    rw [Nat.testBit_xor, show (65535 : Nat) - m = 2 ^ 16 - (m + 1) by omega, Nat.testBit_two_pow_sub_succ (by omega), show (65535 : Nat) = 2 ^ 16 - 1 by decide, Nat.testBit_two_pow_sub_one]
    by_cases hi : i < 16
    · simp [hi]
    · have : m.testBit i = false := Nat.testBit_lt_two_pow (Nat.lt_of_lt_of_le (show m < 2 ^ 16 by omega) (Nat.pow_le_pow_right (by decide) (by omega)))
      simp [hi, this]
  rw [e]
  exact wrap_i64_small _ (by omega) (by omega)
theorem St.align {w : World} {b r : Nat} {v : Value} {s : ByteArray} {most : Nat} {L : Bts} {xs : List Nat} (h : St w b r v s most L xs) :
    Calls Try.prog 38 #[.pointer (some ⟨r, 0, none⟩)] w fun e w' => e = .returned (.int .i64 0) ∧ St w' b r v s most (alignL L) xs ∧ Rdv w w' b r v := by
  obtain ⟨p, p1, p2, rfl⟩ := h.rd
  refine (ralign_ok r p s w h.sz p2 p1).mono ?_
  rintro e w' ⟨rfl, hr⟩
  have h2 := h.read hr (by omega)
  refine ⟨rfl, ?_, h2.2⟩
  have e : alignL ((bitsL (bytesOf s)).drop p) = (bitsL (bytesOf s)).drop ((p + 7) / 8 * 8) := by
    unfold alignL
    rw [List.drop_drop, List.length_drop, bitsL_length, bytesOf_length]
    congr 1
    omega
  rw [e]
  exact h2.1

set_option maxHeartbeats 4000000 in
set_option maxRecDepth 100000 in
theorem stored_ok {w : World} {b r : Nat} {v : Value} {s : ByteArray} {most : Nat} {L : Bts} {xs : List Nat} (h : St w b r v s most L xs) :
    Calls Try.prog 51 #[.pointer (some ⟨b, 0, none⟩)] w (RsPost (stored most L xs) w b r v s most) := by
  obtain ⟨R, hR⟩ : ∃ R, stored most L xs = R := ⟨_, rfl⟩
  rw [hR]
  unfold stored storedH at hR
  have HR : Hid (thenE (getL 16) (fun k => thenE (getL 16) fun m => if k + m = 65535 then storedB most k else fun _ _ => .error 700) (alignL L) xs = R) := hR
  have HC : Hid (Calls Try.prog 38 #[.pointer (some ⟨r, 0, none⟩)] w fun e w' => e = .returned (.int .i64 0) ∧ St w' b r v s most (alignL L) xs ∧ Rdv w w' b r v) := h.align
  have hc := h.c0
  clear h hR
  go_enter Try.func51, Try.ntmps51
  go_wp2_with fail
  refine HC.out.mono ?_
  rintro e w1 ⟨rfl, hS1, hA1⟩
  have H1 : Hid (St w1 b r v s most (alignL L) xs ∧ Rdv w w1 b r v) := ⟨hS1, hA1⟩
  clear hS1 hA1 HC hc
  generalize alignL L = L0 at *
  rcases h2 : getL 16 L0 with _ | ⟨k, L2⟩
  · have e : R = .error 700 := by rw [← HR.out, thenE_none h2]
    subst e
    have HC : Hid (Calls Try.prog 45 #[.pointer (some ⟨b, 0, none⟩), .int .i64 16] w1 fun e w' => e = .returned (.tuple #[.int .i64 0, .int .i64 700]) ∧ Keeps (Own3 b r v) w1 w') := number_none H1.out.1 16 (by omega) h2
    clear h2 HR
    go_wp2_with fail
    refine HC.out.mono ?_
    rintro e w2 ⟨rfl, hk⟩
    have HK : Hid (Keeps (Own3 b r v) w w2) := H1.out.2.lost hk
    clear hk HC
    go_wp2
    go_ret
    exact RsPost.bad HK.out
  · have HR2 : Hid (thenE (getL 16) (fun m => if k + m = 65535 then storedB most k else fun _ _ => .error 700) L2 xs = R) := (thenE_eq h2).symm.trans HR.out
    have HC : Hid (Calls Try.prog 45 #[.pointer (some ⟨b, 0, none⟩), .int .i64 16] w1 fun e w' => e = .returned (.tuple #[.int .i64 (k : Int), .int .i64 0]) ∧ St w' b r v s most L2 xs ∧ Rdv w1 w' b r v) := number_some H1.out.1 16 k L2 (by omega) h2
    have hk16 : k < 65536 := getL_lt h2
    clear h2 HR
    go_wp2_with fail
    refine HC.out.mono ?_
    rintro e w2 ⟨rfl, hS2, hA2⟩
    have H2 : Hid (St w2 b r v s most L2 xs ∧ Rdv w w2 b r v) := ⟨hS2, H1.out.2.trans hA2⟩
    clear hS2 hA2 HC H1
    rcases h3 : getL 16 L2 with _ | ⟨m, L3⟩
    · have e : R = .error 700 := by rw [← HR2.out, thenE_none h3]
      subst e
      have HC : Hid (Calls Try.prog 45 #[.pointer (some ⟨b, 0, none⟩), .int .i64 16] w2 fun e w' => e = .returned (.tuple #[.int .i64 0, .int .i64 700]) ∧ Keeps (Own3 b r v) w2 w') := number_none H2.out.1 16 (by omega) h3
      clear h3 HR2
      go_wp2_with fail
      refine HC.out.mono ?_
      rintro e w3 ⟨rfl, hk⟩
      have HK : Hid (Keeps (Own3 b r v) w w3) := H2.out.2.lost hk
      clear hk HC
      go_wp2
      go_ret
      exact RsPost.bad HK.out
    · have HR3 : Hid ((if k + m = 65535 then storedB most k else fun _ _ => .error 700) L3 xs = R) := (thenE_eq h3).symm.trans HR2.out
      have HC : Hid (Calls Try.prog 45 #[.pointer (some ⟨b, 0, none⟩), .int .i64 16] w2 fun e w' => e = .returned (.tuple #[.int .i64 (m : Int), .int .i64 0]) ∧ St w' b r v s most L3 xs ∧ Rdv w2 w' b r v) := number_some H2.out.1 16 m L3 (by omega) h3
      have hm16 : m < 65536 := getL_lt h3
      clear h3 HR2
      have hxo := xor_ones m hm16
      go_wp2_with fail
      refine HC.out.mono ?_
      rintro e w3 ⟨rfl, hS3, hA3⟩
      have H3 : Hid (St w3 b r v s most L3 xs ∧ Rdv w w3 b r v) := ⟨hS3, H2.out.2.trans hA3⟩
      clear hS3 hA3 HC H2
      by_cases hkm : k + m = 65535
      · have HR4 : Hid (storedB most k L3 xs = R) := by
          have := HR3.out; rw [if_pos hkm] at this; exact this
        have e : 65535 - m = k := by omega
        rw [e] at hxo
        clear e hkm HR3 hm16
        go_wp2
        clear hxo
        have H4 : Hid (∃ L1 x1 v1, storedB most k L1 x1 = R ∧ St w3 b r v1 s most L1 x1 ∧ Adv w w3 b r v v1) := ⟨L3, xs, v, HR4.out, H3.out.1, H3.out.2.adv⟩
        clear HR4 H3
        go_loopw [35] (fun s35 w' => ∃ j : Nat, j ≤ k ∧ s35 = .int .i64 (j : Int) ∧ Hid (∃ L1 x1 v1, storedB most (k - j) L1 x1 = R ∧ St w' b r v1 s most L1 x1 ∧ Adv w w' b r v v1)) (fun s35 _ => ((k : Int) - intOf s35).toNat)
        case atStart => exact ⟨0, by omega, rfl, H4⟩
        case round =>
          clear H4
          obtain ⟨j, hj, rfl, HW⟩ := hrel
          by_cases hjk : j < k
          · have hjz : (j : Int) < (k : Int) := by omega
            obtain ⟨L5, x5, v5, hE, hS, hA⟩ := HW.out
            clear HW
            have HS : Hid (St wr b r v5 s most L5 x5 ∧ Adv w wr b r v v5) := ⟨hS, hA⟩
            have HE : Hid (thenE (getL 8) (fun b => seqE (mapE (put1 most b)) (storedB most (k - (j + 1)))) L5 x5 = R) := by
              rw [show k - j = (k - (j + 1)) + 1 by omega] at hE; exact hE
            clear hE hS hA
            rcases h6 : getL 8 L5 with _ | ⟨c, L6⟩
            · have e : R = .error 700 := by rw [← HE.out, thenE_none h6]
              subst e
              have HC : Hid (Calls Try.prog 45 #[.pointer (some ⟨b, 0, none⟩), .int .i64 8] wr fun e w' => e = .returned (.tuple #[.int .i64 0, .int .i64 700]) ∧ Keeps (Own3 b r v5) wr w') := number_none HS.out.1 8 (by omega) h6
              clear h6 HE
              go_wp2_with fail
              refine HC.out.mono ?_
              rintro e w6 ⟨rfl, hk⟩
              have HK : Hid (Keeps (Own3 b r v) w w6) := HS.out.2.lost hk
              clear hk HC
              go_wp2
              go_ret
              exact RsPost.bad HK.out
            · have HE2 : Hid (seqE (mapE (put1 most c)) (storedB most (k - (j + 1))) L6 x5 = R) := (thenE_eq h6).symm.trans HE.out
              have HC : Hid (Calls Try.prog 45 #[.pointer (some ⟨b, 0, none⟩), .int .i64 8] wr fun e w' => e = .returned (.tuple #[.int .i64 (c : Int), .int .i64 0]) ∧ St w' b r v5 s most L6 x5 ∧ Rdv wr w' b r v5) := number_some HS.out.1 8 c L6 (by omega) h6
              have hc8 : c < 256 := getL_lt h6
              have hu : IntKind.u8.wrap (c : Int) = (c : Int) := by simp [IntKind.wrap, IntKind.bits, IntKind.signed]; omega
              clear h6 HE
              go_wp2_with fail
              refine HC.out.mono ?_
              rintro e w6 ⟨rfl, hS6, hA6⟩
              have H6 : Hid (St w6 b r v5 s most L6 x5 ∧ Adv w w6 b r v v5) := ⟨hS6, HS.out.2.trans hA6.adv⟩
              have HC2 : Hid (Calls Try.prog 57 #[.pointer (some ⟨b, 0, none⟩), .int .u8 (c : Int)] w6 (RsPost (mapE (put1 most c) L6 x5) w6 b r v5 s most)) := put_rs hS6 c hc8
              clear hS6 hA6 HC HS hc8
              go_wp2_with fail
              refine HC2.out.mono ?_
              intro e w7 hP
              clear HC2
              rcases h7 : mapE (put1 most c) L6 x5 with er | ⟨L7, x7⟩
              · obtain ⟨rfl, hk⟩ := hP.1 er h7
                have HK : Hid (Keeps (Own3 b r v) w w7) := H6.out.2.lost hk
                have e : R = .error er := by rw [← HE2.out, seqE_bad h7]
                subst e
                have her : ¬ (er = 0) := (mapE_err put1_err h7).ne
                clear hP h7 hk
                go_wp2
                go_ret
                exact RsPost.bad HK.out
              · obtain ⟨rfl, v7, hS7, hA7⟩ := hP.2 L7 x7 h7
                have H7 : Hid (∃ L1 x1 v1, storedB most (k - (j + 1)) L1 x1 = R ∧ St w7 b r v1 s most L1 x1 ∧ Adv w w7 b r v v1) := ⟨L7, x7, v7, by rw [← HE2.out, seqE_eq h7], hS7, H6.out.2.trans hA7⟩
                clear hP h7 hS7 hA7
                go_wp2
                go_roundw
                case rel => exact ⟨j + 1, by omega, by push_cast; rfl, H7⟩
                case measure => simp [intOf]; omega
          · obtain rfl : j = k := by omega
            go_wp2
            go_ret
            obtain ⟨L5, x5, v5, hE, hS, hA⟩ := HW.out
            rw [Nat.sub_self] at hE
            rw [← hE]
            exact RsPost.good hS hA
      · have e : R = .error 700 := by
          have := HR3.out; rw [if_neg hkm] at this; exact this.symm
        subst e
        have hne : ¬ ((k : Int) = ((65535 - m : Nat) : Int)) := by omega
        have hnb : ((k : Int) == ((65535 - m : Nat) : Int)) = false := by simp; omega
        generalize 65535 - m = m' at *
        go_wp2
        go_ret
        exact RsPost.bad H3.out.2.keep

end Go.Proofs.Ytfbghchgfbjogaa

namespace Go.Proofs.Ytfbghchgfbjogaa
open Go.RowKit
open Hf Tb
set_option linter.unusedVariables false
set_option linter.unusedSimpArgs false

def fcells (G : Nat → Nat) (V : Nat → Value) : List Value := (List.range 16).map (fun i => .int .i64 (G i : Int)) ++ (List.range 16).map V
theorem fcells_length (G : Nat → Nat) (V : Nat → Value) : (fcells G V).length = 32 := by simp [fcells]
theorem fcells_lo (G : Nat → Nat) (V : Nat → Value) (k : Nat) (h : k < 16) : (fcells G V)[k]? = some (.int .i64 (G k : Int)) := by
  unfold fcells
  rw [List.getElem?_append_left (by simpa using h), List.getElem?_map, List.getElem?_range h]; rfl
theorem fcells_hi (G : Nat → Nat) (V : Nat → Value) (k : Nat) (h : k < 16) : (fcells G V)[16 + k]? = some (V k) := by
  unfold fcells
  rw [List.getElem?_append_right (by simp)]
  simp [List.getElem?_range h]
def updV (V : Nat → Value) (n : Nat) (v : Value) : Nat → Value := fun i => if i = n then v else V i
def Fb (w : World) (f : Nat) (G : Nat → Nat) (V : Nat → Value) : Prop := w.heap[f]? = some (.cells (fcells G V).toArray 122 (0, 0))
theorem Fb.lt {w : World} {f : Nat} {G : Nat → Nat} {V : Nat → Value} (h : Fb w f G V) : f < w.heap.size := lt_of_heap h
theorem Fb.lo {w : World} {f : Nat} {G : Nat → Nat} {V : Nat → Value} (h : Fb w f G V) (k : Nat) (hk : k < 16) : w.cell? ⟨f, k, none⟩ = some (.int .i64 (G k : Int)) :=
  cell_of_heap h (by rw [List.getElem?_toArray]; exact fcells_lo G V k hk)
theorem Fb.hi {w : World} {f : Nat} {G : Nat → Nat} {V : Nat → Value} (h : Fb w f G V) (k : Nat) (hk : k < 16) : w.cell? ⟨f, 16 + k, none⟩ = some (V k) :=
  cell_of_heap h (by rw [List.getElem?_toArray]; exact fcells_hi G V k hk)
theorem Fb.free {w : World} {f : Nat} {G : Nat → Nat} {V : Nat → Value} (h : Fb w f G V) (k : Nat) : w.frozen? ⟨f, k, none⟩ = false := frozen_of_heap h
theorem Fb.kept {S : Nat → Prop} {w w' : World} {f : Nat} {G : Nat → Nat} {V : Nat → Value} (h : Fb w f G V) (hk : Keeps S w w') (hf : ¬ S f) : Fb w' f G V := (hk.block f h.lt hf).trans h
theorem fcells_ext (G : Nat → Nat) (V : Nat → Value) (cs : Array Value) (hz : cs.size = 32) (h1 : ∀ k, k < 16 → cs[k]? = some (.int .i64 (G k : Int))) (h2 : ∀ k, k < 16 → cs[16 + k]? = some (V k)) : cs = (fcells G V).toArray := by
  apply Array.ext_getElem?
  intro i
  by_cases hi : i < 16
  · rw [h1 i hi, List.getElem?_toArray, fcells_lo G V i hi]
  · by_cases hi2 : i < 32
    · have := h2 (i - 16) (by omega)
      have e := fcells_hi G V (i - 16) (by omega)
      rw [show 16 + (i - 16) = i by omega] at this e
      rw [this, List.getElem?_toArray, e]
    · rw [Array.getElem?_eq_none (by omega), List.getElem?_toArray, List.getElem?_eq_none (by rw [fcells_length]; omega)]
theorem fcells_sz (G : Nat → Nat) (V : Nat → Value) : (fcells G V).toArray.size = 32 := by rw [List.size_toArray, fcells_length]
theorem Fb.setLo {w : World} {f : Nat} {G : Nat → Nat} {V : Nat → Value} (h : Fb w f G V) (c q : Nat) (hc : c < 16) : Fb (w.setCell ⟨f, c, none⟩ (.int .i64 (q : Int))) f (upd G c q) V := by
  unfold Fb
  rw [heap_setCell_same h]
  congr 2
  refine fcells_ext _ _ _ (by rw [Array.size_setIfInBounds, fcells_sz]) (fun k hk => ?_) (fun k hk => ?_)
  · rw [Array.getElem?_setIfInBounds, List.getElem?_toArray, fcells_lo G V k hk, fcells_sz]
    unfold upd
    by_cases e : c = k
    · subst e; simp; omega
    · rw [if_neg e, if_neg (fun x => e x.symm)]
  · rw [Array.getElem?_setIfInBounds, if_neg (by omega), List.getElem?_toArray, fcells_hi G V k hk]
theorem Fb.setHi {w : World} {f : Nat} {G : Nat → Nat} {V : Nat → Value} (h : Fb w f G V) (c : Nat) (u : Value) (hc : c < 16) : Fb (w.setCell ⟨f, 16 + c, none⟩ u) f G (updV V c u) := by
  unfold Fb
  rw [heap_setCell_same h]
  congr 2
  refine fcells_ext _ _ _ (by rw [Array.size_setIfInBounds, fcells_sz]) (fun k hk => ?_) (fun k hk => ?_)
  · rw [Array.getElem?_setIfInBounds, if_neg (by omega), List.getElem?_toArray, fcells_lo G V k hk]
  · rw [Array.getElem?_setIfInBounds, List.getElem?_toArray, fcells_hi G V k hk, fcells_sz]
    unfold updV
    by_cases e : c = k
    · subst e; simp; omega
    · rw [if_neg (by omega), if_neg (fun x => e x.symm)]

/-- A code in a block. -/
theorem wpList_boxC {ops : Array Oper} {rest : List Oper} {op : Oper} {a : Act} {w : World} {Q : Exit → Act → World → Prop} (hgd : op.guard = none) (x : Operand) (ho : op.op = .box 132 x) (p q : Int) (hx : a.eval x = .agg #[.int .i64 p, .int .i64 q])
    (h : ∀ b w1, w1.heap[b]? = some (.cells #[.int .i64 p, .int .i64 q] 132 (0, 0)) → Keeps (fun _ => False) w w1 → w.heap.size ≤ b → wpList Try.prog ops Q rest (a.put op.dst (.pointer (some ⟨b, 0, none⟩))) w1) : wpList Try.prog ops Q (op :: rest) a w :=
  wpList_plain hgd fun _ hK => by
    unfold Oper.wp execOp
    simp only [ho, hx, Instr.box, Sem.run_bind, newVar, Sem.run_pure, Result.andThen_ok]
    exact hK _ _ (h w.heap.size _ (heap_alloc_new _ _) ((Keeps.refl _ w).alloc _) (Nat.le_refl _))

theorem info3 : (Try.prog.info? 3).map (fun i => (i.zero, i.size, i.bytes)) = some (some (.int .i64 0), 1, 8) := by kernel_rfl

/-- What add leaves. -/
def AddPost (w : World) (f c n cap0 : Nat) (i q : Int) (ad : Option Addr) (xs : List Value) (w' : World) : Prop :=
  ∃ g cap w0 w1 w2, Keeps (fun _ => False) w w0 ∧ w1 = (if n = 0 then w0.setCell ⟨f, c, none⟩ (.int .i64 q) else w0) ∧ w2.ownsRow (f + 1) 3 1 (.slice (some ⟨g, 0, none⟩) (n + 1) cap) (n + 1) (xs ++ [.int .i64 i]) ∧ Keeps (fun k => (Value.slice ad n cap0).ownBlock = some k) w1 w2 ∧
        ((Value.slice ad n cap0).ownBlock = some g ∨ w.heap.size ≤ g) ∧ g < w2.heap.size ∧ w' = w2.setCell ⟨f, 16 + c, none⟩ (.slice (some ⟨g, 0, none⟩) (n + 1) cap)

set_option maxHeartbeats 8000000 in
set_option maxRecDepth 1000000 in
theorem add_run (f c n cap0 : Nat) (i q : Int) (ad : Option Addr) (xs : List Value) (w : World) (hc : (c : Int) < 16) (hn : n ≤ 1000) (hf : f < w.heap.size)
    (h1 : w.cell? ⟨f, 16 + c, none⟩ = some (.slice ad n cap0)) (e1 : w.frozen? ⟨f, 16 + c, none⟩ = false) (h2 : ∃ g, w.cell? ⟨f, c, none⟩ = some (.int .i64 g)) (e2 : w.frozen? ⟨f, c, none⟩ = false) (hown : w.ownsRow (f + 1) 3 1 (.slice ad n cap0) n xs) :
    Calls Try.prog 80 #[.pointer (some ⟨f, 0, none⟩), .int .i64 i, .agg #[.int .i64 (c : Int), .int .i64 q]] w fun e w' => e = .returned (.tuple #[]) ∧ AddPost w f c n cap0 i q ad xs w' := by
  obtain ⟨i0, hi, hz0, hz1, hz2⟩ := info_parts info3
  have hlow : ∀ k, (Value.slice ad n cap0).ownBlock = some k → f + 1 ≤ k := fun k hk => (hown.lt k hk).1
  have hne : some f ≠ (Value.slice ad n cap0).ownBlock := fun h => by have := hlow f h.symm; omega
  have HO : Hid (w.ownsRow (f + 1) 3 1 (.slice ad n cap0) n xs) := hown
  obtain ⟨g0, h2⟩ := h2
  have HOw : Hid (∀ k, (Value.slice ad n cap0).ownBlock = some k → k < w.heap.size) := fun k hk => (hown.lt k hk).2
  clear hown hlow
  go_enter Try.func80, Try.ntmps80
  go_wp2_with (refine wpList_boxC rfl _ rfl (c : Int) q rfl ?_; intro b3 w3 hT3 hK3 hb3; have c3 : w3.cell? ⟨b3, 0, none⟩ = some (.int .i64 (c : Int)) := cell_of_heap hT3 rfl; have c4 : w3.cell? ⟨b3, 1, none⟩ = some (.int .i64 q) := cell_of_heap hT3 rfl; have k3 : w3.cell? ⟨f, 16 + c, none⟩ = some (.slice ad n cap0) := (World.cell?_of_block (hK3.block f hf (fun h => h))).trans h1; have k4 : w3.cell? ⟨f, c, none⟩ = some (.int .i64 g0) := (World.cell?_of_block (hK3.block f hf (fun h => h))).trans h2; have g3 : w3.frozen? ⟨f, 16 + c, none⟩ = false := (World.frozen?_of_block (hK3.block f hf (fun h => h))).trans e1; have g4 : w3.frozen? ⟨f, c, none⟩ = false := (World.frozen?_of_block (hK3.block f hf (fun h => h))).trans e2; have HO3 : Hid (w3.ownsRow (f + 1) 3 1 (.slice ad n cap0) n xs) := owns_heap HO.out (fun k e => hK3.block k (HO.out.lt k e).2 (fun h => h)); have HK3 : Hid (Keeps (fun _ => False) w w3) := hK3; have hb3' : f < w3.heap.size := Nat.lt_of_lt_of_le hf hK3.size; have hbb : b3 < w3.heap.size := lt_of_heap hT3; have hbf : b3 ≠ f := (by omega); clear hK3 hT3 HO h1 h2 e1 e2)
  have hnb : some b3 ≠ (Value.slice ad n cap0).ownBlock := fun h => by have := (HO3.out.lt b3 h.symm).2; have := (HOw.out b3 h.symm); omega
  by_cases hn0 : n = 0
  · subst hn0
    have hq : ((((0 : Nat) : Int)) == 0) = true := rfl
    go_quiet (fail)
    go_wp2
    go_region
    go_wp2
    obtain ⟨w5, hw5⟩ : ∃ w5, ((w3.drewN (nq + 1)).setCell ⟨f, c, none⟩ (.int .i64 q)) = w5 := ⟨_, rfl⟩
    rw [hw5]
    have k5 : w5.cell? ⟨f, 16 + c, none⟩ = some (.slice ad 0 cap0) := by rw [← hw5, World.cell?_setCell_other _ _ _ _ (by first | (simp; done) | (simp; omega))]; exact k3
    have g5 : w5.frozen? ⟨f, 16 + c, none⟩ = false := by rw [← hw5, World.frozen?_setCell]; exact g3
    have c5 : w5.cell? ⟨b3, 0, none⟩ = some (.int .i64 (c : Int)) := by rw [← hw5, World.cell?_setCell_other _ _ _ _ (by first | (simp; done) | (simp; omega))]; exact c3
    have HO5 : Hid (w5.ownsRow (f + 1) 3 1 (.slice ad 0 cap0) 0 xs) := by rw [← hw5]; exact owns_far (w := w3.drewN (nq + 1)) HO3.out (p := ⟨f, c, none⟩) (fun e => hne e.symm) _
    have hz5 : w5.heap.size = w3.heap.size := by rw [← hw5]; simp [World.setCell]
    have hb5 : f < w5.heap.size := by omega
    have hbb5 : b3 < w5.heap.size := by omega
    have hws : w.heap.size ≤ w5.heap.size := by have := HK3.out.size; omega
    have HK5 : Hid (∃ w0, Keeps (fun _ => False) w w0 ∧ w5 = (if (0 : Nat) = 0 then w0.setCell ⟨f, c, none⟩ (.int .i64 q) else w0)) := ⟨w3.drewN (nq + 1), HK3.out.drewN _, by rw [if_pos rfl]; exact hw5.symm⟩
    clear hw5 hz5
    clear HK3 k3 k4 g3 g4 c3 c4 HO3
    go_region_law ((refine step_append_lies _ (by rfl) _ _ _ (by rfl) (f + 1) 3 i0 _ 1 8 Try.underlying22 hi hz0 hz1 hz2 rfl (by omega) (.slice ad 0 cap0) 0 xs (by rfl) ((HO5.out.alloc _).drew) ⟨w5.heap.size, 0, none⟩ 1 1 [.int .i64 i] (by rfl) (by rfl) (World.news_of_block (cs := #[.int .i64 i]) (t := 3) (fr := (0, 0)) (heap_alloc_new w5 _)) (by simp [Value.oneCell']) (by omega) (by unfold maxLen; omega) (by omega) (by simp; omega) (w5.heap.size + 1) (by simp) ?_; intro g cap w4 hown4 hgrow4 hat4 hlt4; have m4 : w4.cell? ⟨f, 16 + c, none⟩ = some (.slice ad 0 cap0) := (hgrow4.cell_far ⟨f, 16 + c, none⟩ (by simp; omega) hne).trans (by simp [World.cell?_alloc_past _ _ _ hb5]; exact k5); have e4 : w4.frozen? ⟨f, 16 + c, none⟩ = false := (hgrow4.frozen_far ⟨f, 16 + c, none⟩ (by simp; omega) hne).trans (by simp [World.frozen?_alloc_past _ _ _ hb5]; exact g5); have d4 : w4.cell? ⟨b3, 0, none⟩ = some (.int .i64 (c : Int)) := (hgrow4.cell_far ⟨b3, 0, none⟩ (by simp; omega) hnb).trans (by simp [World.cell?_alloc_past _ _ _ hbb5]; exact c5)))
    all_goals
      go_wp2
      go_end0
      obtain ⟨w0, hK0, hw0⟩ := HK5.out
      refine ⟨rfl, g, cap, w0, w5, w4, hK0, hw0, hown4, ?_, ?_, hlt4, rfl⟩
      · exact (((Keeps.refl _ w5).alloc _).drew).grown hgrow4 (fun k _ e => e)
      · rcases hat4 with h | h
        · exact .inl h
        · exact .inr (by omega)
  · have hq : (((n : Nat) : Int) == 0) = false := by simp; omega
    go_quiet (fail)
    go_wp2
    obtain ⟨w5, hw5⟩ : ∃ w5, w3.drewN nq = w5 := ⟨_, rfl⟩
    rw [hw5]
    have k5 : w5.cell? ⟨f, 16 + c, none⟩ = some (.slice ad n cap0) := by rw [← hw5]; exact k3
    have g5 : w5.frozen? ⟨f, 16 + c, none⟩ = false := by rw [← hw5]; exact g3
    have c5 : w5.cell? ⟨b3, 0, none⟩ = some (.int .i64 (c : Int)) := by rw [← hw5]; exact c3
    have HO5 : Hid (w5.ownsRow (f + 1) 3 1 (.slice ad n cap0) n xs) := by rw [← hw5]; exact HO3.out
    have hz5 : w5.heap.size = w3.heap.size := by rw [← hw5]; rfl
    have hb5 : f < w5.heap.size := by omega
    have hbb5 : b3 < w5.heap.size := by omega
    have hws : w.heap.size ≤ w5.heap.size := by have := HK3.out.size; omega
    have HK5 : Hid (∃ w0, Keeps (fun _ => False) w w0 ∧ w5 = (if n = 0 then w0.setCell ⟨f, c, none⟩ (.int .i64 q) else w0)) := ⟨w3.drewN nq, HK3.out.drewN _, by rw [if_neg hn0]; exact hw5.symm⟩
    clear hw5 hz5
    clear HK3 k3 k4 g3 g4 c3 c4 HO3
    go_region_law ((refine step_append_lies _ (by rfl) _ _ _ (by rfl) (f + 1) 3 i0 _ 1 8 Try.underlying22 hi hz0 hz1 hz2 rfl (by omega) (.slice ad n cap0) n xs (by rfl) ((HO5.out.alloc _).drew) ⟨w5.heap.size, 0, none⟩ 1 1 [.int .i64 i] (by rfl) (by rfl) (World.news_of_block (cs := #[.int .i64 i]) (t := 3) (fr := (0, 0)) (heap_alloc_new w5 _)) (by simp [Value.oneCell']) (by omega) (by unfold maxLen; omega) (by omega) (by simp; omega) (w5.heap.size + 1) (by simp) ?_; intro g cap w4 hown4 hgrow4 hat4 hlt4; have m4 : w4.cell? ⟨f, 16 + c, none⟩ = some (.slice ad n cap0) := (hgrow4.cell_far ⟨f, 16 + c, none⟩ (by simp; omega) hne).trans (by simp [World.cell?_alloc_past _ _ _ hb5]; exact k5); have e4 : w4.frozen? ⟨f, 16 + c, none⟩ = false := (hgrow4.frozen_far ⟨f, 16 + c, none⟩ (by simp; omega) hne).trans (by simp [World.frozen?_alloc_past _ _ _ hb5]; exact g5); have d4 : w4.cell? ⟨b3, 0, none⟩ = some (.int .i64 (c : Int)) := (hgrow4.cell_far ⟨b3, 0, none⟩ (by simp; omega) hnb).trans (by simp [World.cell?_alloc_past _ _ _ hbb5]; exact c5)))
    all_goals
      go_wp2
      go_end0
      obtain ⟨w0, hK0, hw0⟩ := HK5.out
      refine ⟨rfl, g, cap, w0, w5, w4, hK0, hw0, hown4, ?_, ?_, hlt4, rfl⟩
      · exact (((Keeps.refl _ w5).alloc _).drew).grown hgrow4 (fun k _ e => e)
      · rcases hat4 with h | h
        · exact .inl h
        · exact .inr (by omega)

end Go.Proofs.Ytfbghchgfbjogaa

/-
  Deflate, Pack and Unpack answer as the document's: Deflates, for all texts, methods, bytes and sizes.
-/
import Derived.Test.YtebjooebdehlnaaGreatRows
import Derived.Test.YtebjooebdehlnaaGreatYDallProof7
import Derived.ProofKit
import Derived.OpenShut
import Derived.ShutString
import Derived.ChangeOld
import Derived.Below
namespace Go.Proofs.YtebjooebdehlnaaGreat
open Go.RowKit
open Hf Tb
set_option linter.unusedVariables false
set_option linter.unusedSimpArgs false

def errAt (w : World) (b : Nat) : Int := match w.cell? ⟨b, 4, none⟩ with | some (.int _ e) => e | _ => 0
theorem FS.errAt {w : World} {b : Nat} {v : Value} {s : ByteArray} {most : Nat} {L : Bts} {xs : List Nat} {er : Int} (h : FS w b v s most L xs er) : errAt w b = er := by
  obtain ⟨c2, c3, c4, cf, p0, c1⟩ := h.cell
  show (match w.cell? ⟨b, 4, none⟩ with | some (.int _ e) => e | _ => 0) = er
  rw [c4]
/-- How the document's Inflate stands: T is what the blocks come to. -/
def Ist (T : Rs) (m : Nat) (w3 : World) (b : Nat) (s : ByteArray) (l : Nat) (w' : World) : Prop :=
  ∃ L1 x1 v1 er, FS w' b v1 s m L1 x1 er ∧ FAdv w3 w' b (.slice none 0 0) v1 ∧ ((er = 0 ∧ (l ≠ 0 → T = .ok (L1, x1)) ∧ (l = 0 → T = blocks m L1 x1)) ∨ (er ≠ 0 ∧ T = .error er))
theorem Ist.after {T : Rs} {m : Nat} {w3 w4 w5 : World} {b : Nat} {s : ByteArray} {l k : Nat} {L1 L2 L3 : Bts} {x1 : List Nat} {v1 : Value} (hT : T = blocks m L1 x1) (h1 : getL 1 L1 = some (l, L2)) (h2 : getL 2 L2 = some (k, L3)) (hA : FAdv w3 w4 b (.slice none 0 0) v1) (hP : FPost (inside m k L3 x1) w4 b v1 s m w5) : Ist T m w3 b s l w5 ∧ (l = 0 → errAt w5 b = 0 → 8 * s.size - posOf w5 b < L1.length) := by
  have hl1 := getL_len h1
  have hl2 := getL_len h2
  rcases h3 : inside m k L3 x1 with er | ⟨L', o'⟩
  · obtain ⟨v', L', o', hS, hA2⟩ := hP.1 er h3
    have hne := (inside_err h3).ne
    refine ⟨⟨L', o', v', er, hS, hA.trans hA2, .inr ⟨hne, by rw [hT, blocks_bad h1 h2 h3]⟩⟩, fun _ e => absurd (hS.errAt.symm.trans e) hne⟩
  · obtain ⟨v', hS, hA2⟩ := hP.2 L' o' h3
    have hl3 := inside_len h3
    refine ⟨⟨L', o', v', 0, hS, hA.trans hA2, .inl ⟨rfl, fun hl => ?_, fun hl => ?_⟩⟩, fun _ _ => by rw [hS.left]; simp only at hl3; omega⟩
    · have : l = 1 := by have := getL_lt h1; omega
      subst this
      rw [hT, blocks_last h1 h2 h3]
    · rw [hT, blocks_next h1 (by omega) h2 h3]

set_option maxHeartbeats 16000000 in
set_option maxRecDepth 100000 in
theorem rinflate_ok (s : ByteArray) (most : Int) (w : World) (hs : s.size ≤ 281474976710656) :
    Calls Tryz.prog 27 #[.string s, .int .i64 most] w (InfPost (inflP (bytesOf s) most) w) := by
  obtain ⟨R, hR⟩ : ∃ R, inflP (bytesOf s) most = R := ⟨_, rfl⟩
  rw [hR]
  by_cases hm0 : most < 0
  · have e : R = .error 700 := by rw [← hR]; unfold inflP; rw [if_neg (by omega)]
    subst e
    clear hR
    go_enter Tryz.func27, Tryz.ntmps27
    go_wp2
    go_ret3
    exact InfPost.bad (Keeps.refl _ _)
  · by_cases hm1 : 8192 < most
    · have e : R = .error 700 := by rw [← hR]; unfold inflP; rw [if_neg (by omega)]
      subst e
      clear hR
      go_enter Tryz.func27, Tryz.ntmps27
      go_wp2
      go_ret3
      exact InfPost.bad (Keeps.refl _ _)
    · obtain ⟨m, rfl⟩ := Int.eq_ofNat_of_zero_le (show 0 ≤ most by omega)
      have hR2 : inflB (bytesOf s) m = R := by rw [← hR]; unfold inflP; rw [if_pos (by omega)]; rfl
      have hm2 : m ≤ 8192 := by omega
      obtain ⟨T, hT⟩ : ∃ T, blocks m (bitsL (bytesOf s)) [] = T := ⟨_, rfl⟩
      have HR : Hid ((∀ e, T = .error e → R = .error e) ∧ ∀ L1 x1, T = .ok (L1, x1) → R = .ok (x1, s.size - L1.length / 8)) := by
        rw [← hR2]
        unfold inflB
        rw [hT]
        exact ⟨fun e h => by rw [h], fun L1 x1 h => by rw [h]; simp only; rw [bytesOf_length]⟩
      have HS : Hid (s.size ≤ 281474976710656 ∧ blocks m (bitsL (bytesOf s)) [] = T) := ⟨hs, hT⟩
      clear hR hR2 hs hT
      go_enter Tryz.func27, Tryz.ntmps27
      go_wp2
      generalize hw3 : World.alloc _ _ = w3
      obtain ⟨b, hb⟩ : ∃ b, w.heap.size = b := ⟨_, rfl⟩
      rw [hb]
      have H3 : Hid (Ist T m w3 b s 0 w3 ∧ Keeps (fun _ => False) w w3 ∧ w.heap.size ≤ b) := by
        have hk : Keeps (fun _ => False) w w3 := by rw [← hw3]; exact (Keeps.refl _ w).alloc _
        refine ⟨⟨bitsL (bytesOf s), [], .slice none 0 0, 0, ⟨⟨0, ?_, by omega, by simp⟩, OwnB.nil _ _, HS.out.1, Nat.zero_le _, hm2, fun x hx => by cases hx⟩, FAdv.refl _ _ _, .inl ⟨rfl, fun e => absurd rfl e, fun _ => HS.out.2.symm⟩⟩, hk, by omega⟩
        unfold Fl
        rw [← hw3, ← hb]; exact heap_alloc_new _ _
      clear hw3 hb
      have HKw : Hid (∀ w' v1, FAdv w3 w' b (.slice none 0 0) v1 → Keeps (fun _ => False) w w') := fun w' v1 k => by
        refine H3.out.2.1.trans k.keep ?_
        rintro i hi (e | e)
        · have := H3.out.2.2; omega
        · cases e
      go_loopw [8] (fun s8 w' => ∃ l : Nat, l ≤ 1 ∧ s8 = .int .i64 (l : Int) ∧ Hid (Ist T m w3 b s l w')) (fun s8 w' => if intOf s8 = 0 ∧ errAt w' b = 0 then 1 + (8 * s.size - posOf w' b) else 0)
      case atStart => exact ⟨0, by omega, rfl, H3.out.1⟩
      case round =>
        obtain ⟨l, hl, rfl, HW⟩ := hrel
        obtain ⟨L1, x1, v1, er, hS, hA, hC⟩ := HW.out
        clear HW
        obtain ⟨c2, c3, c4, cf, p0, c1⟩ := hS.cell
        rcases hC with ⟨rfl, hok, hno⟩ | ⟨her, hbad⟩
        · by_cases hl0 : l = 0
          · subst hl0
            have HS1 : Hid (FS wr b v1 s m L1 x1 0 ∧ FAdv w3 wr b (.slice none 0 0) v1 ∧ T = blocks m L1 x1 ∧ errAt wr b = 0) := ⟨hS, hA, hno rfl, hS.errAt⟩
            have HC : Hid (Calls Tryz.prog 62 #[.pointer (some ⟨b, 0, none⟩), .int .i64 1] wr (GP 1 L1 0 wr b v1 s m x1)) := get_gen hS 1 (by omega)
            clear hS hA hok hno c2 c3 cf c1
            go_wp2_with fail
            refine HC.out.mono ?_
            rintro e w4 ⟨l, er4, L2, hx, rfl, hS4, hK4, _, hG4, _⟩
            have hl2 : l < 2 := hx
            have H4 : Hid (Keeps (fun k => k = b) wr w4 ∧ ((er4 = 0 ∧ getL 1 L1 = some (l, L2)) ∨ (er4 = 700 ∧ getL 1 L1 = none))) := ⟨hK4, hG4 rfl⟩
            have HC2 : Hid (Calls Tryz.prog 62 #[.pointer (some ⟨b, 0, none⟩), .int .i64 2] w4 (GP 2 L2 er4 w4 b v1 s m x1)) := get_gen hS4 2 (by omega)
            clear HC hx hS4 hK4 hG4 c4
            go_wp2_with fail
            refine HC2.out.mono ?_
            rintro e w5 ⟨k, er5, L3, hx, rfl, hS5, hK5, _, hG5, hG5n⟩
            have hk4 : k < 4 := hx
            obtain ⟨c2, c3, c4, cf, p0, c1⟩ := hS5.cell
            have hD : (er5 = 0 ∧ getL 1 L1 = some (l, L2) ∧ getL 2 L2 = some (k, L3)) ∨ (er5 = 700 ∧ T = .error 700) := by
              rcases H4.out.2 with ⟨rfl, g1⟩ | ⟨rfl, g1⟩
              · rcases hG5 rfl with ⟨rfl, g2⟩ | ⟨rfl, g2⟩
                · exact .inl ⟨rfl, g1, g2⟩
                · exact .inr ⟨rfl, by rw [HS1.out.2.2.1, blocks_none2 g1 g2]⟩
              · exact .inr ⟨hG5n (by decide), by rw [HS1.out.2.2.1, blocks_none1 g1]⟩
            have H5 : Hid (FS w5 b v1 s m L3 x1 er5 ∧ FAdv w3 w5 b (.slice none 0 0) v1) := ⟨hS5, HS1.out.2.1.trans (FAdv.ofB v1 (H4.out.1.trans hK5 (fun _ _ h => h)))⟩
            clear HC2 hx hS5 hK5 hG5 hG5n H4 c2 c3 cf c1
            rcases hD with ⟨rfl, g1, g2⟩ | ⟨rfl, hbad⟩
            · have HA : Hid (∀ w6, FPost (inside m k L3 x1) w5 b v1 s m w6 → Ist T m w3 b s l w6 ∧ (l = 0 → errAt w6 b = 0 → 8 * s.size - posOf w6 b < L1.length)) := fun w6 hP => Ist.after HS1.out.2.2.1 g1 g2 H5.out.2 hP
              clear g1 g2
              obtain rfl | rfl | rfl | rfl : k = 0 ∨ k = 1 ∨ k = 2 ∨ k = 3 := by omega
              · have HC : Hid (Calls Tryz.prog 63 #[.pointer (some ⟨b, 0, none⟩)] w5 fun e w' => e = .returned (.tuple #[]) ∧ FPost (inside m 0 L3 x1) w5 b v1 s m w') := rstored_ok H5.out.1
                go_wp2_with fail
                refine HC.out.mono ?_
                rintro e w6 ⟨rfl, hP6⟩
                have H6 : Hid (Ist T m w3 b s l w6 ∧ (l = 0 → errAt w6 b = 0 → 8 * s.size - posOf w6 b < L1.length)) := HA.out w6 hP6
                clear HC hP6
                go_wp2
                go_roundw
                case rel => exact ⟨l, by omega, rfl, H6.out.1⟩
                case measure =>
                  have h7 := HS1.out.1.left
                  have h8 := HS1.out.2.2.2
                  have h9 := H6.out.2
                  by_cases hc : (l : Int) = 0 ∧ errAt w6 b = 0
                  · have := h9 (by omega) hc.2
                    simp only [intOf, h8, hc.1, hc.2]; simp; omega
                  · have hc' : ¬ (l = 0 ∧ errAt w6 b = 0) := fun e => hc ⟨by have := e.1; omega, e.2⟩
                    simp only [intOf, h8]; simp; rw [if_neg hc']; omega
              · have HC1 : Hid (Calls Tryz.prog 52 #[] w5 fun e w' => ∃ v, e = .returned v ∧ Own w' w5.heap.size v fixL ∧ Keeps (fun _ => False) w5 w') := rfixed_ok w5
                go_wp2_with fail
                refine HC1.out.mono ?_
                rintro e w6 ⟨u, rfl, hO6, hK6⟩
                obtain ⟨a, cap, rfl, hrow6, _, _⟩ := own_row hO6
                have HC2 : Hid (Calls Tryz.prog 65 #[.slice a 288 cap] w6 fun e w' => ∃ q, e = .returned (.pointer (some ⟨q, 0, none⟩)) ∧ Keeps (fun _ => False) w6 w' ∧ RBk w' w6.heap.size w'.heap.size q fixLs) := by
                  have := rbookOf_ok a fixLs cap w6 hrow6 (by rw [fixLs_length]; omega) (by rw [fixLs_length]; omega)
                  rw [fixLs_length] at this; exact this
                rw [show fixL.length = 288 from fixLs_length]
                have HK6 : Hid (Keeps (fun _ => False) w5 w6) := hK6
                clear HC1 hO6 hrow6 hK6
                go_wp2_with fail
                refine HC2.out.mono ?_
                rintro e w7 ⟨q1, rfl, hK7, hB7⟩
                have H7 : Hid (Keeps (fun _ => False) w5 w7 ∧ RBk w7 w5.heap.size w7.heap.size q1 fixLs) := ⟨HK6.out.trans hK7 (fun _ _ h => h), hB7.wider HK6.out.size (Nat.le_refl _) (Nat.le_refl _)⟩
                have HC3 : Hid (Calls Tryz.prog 53 #[] w7 fun e w' => ∃ g, e = .returned (.slice (some ⟨g, 0, none⟩) 30 30) ∧ Blk w' g fiveLs ∧ Keeps (fun _ => False) w7 w') := rfives_ok w7
                clear HC2 hK7 hB7 HK6
                go_wp2_with fail
                refine HC3.out.mono ?_
                rintro e w8 ⟨g, rfl, hB8, hK8⟩
                have hrow8 : Row w8 (some ⟨g, 0, none⟩) fiveLs := .inr ⟨g, 0, rfl, hB8.lt, fun q hq => by rw [Nat.zero_add]; exact hB8.cell q hq⟩
                have H8 : Hid (Keeps (fun _ => False) w5 w8 ∧ RBk w8 w5.heap.size w8.heap.size q1 fixLs) := ⟨H7.out.1.trans hK8 (fun _ _ h => h), (H7.out.2.kept hK8 (fun _ _ _ h => h)).wider (Nat.le_refl _) hK8.size (Nat.le_refl _)⟩
                have HC4 : Hid (Calls Tryz.prog 65 #[.slice (some ⟨g, 0, none⟩) 30 30] w8 fun e w' => ∃ q, e = .returned (.pointer (some ⟨q, 0, none⟩)) ∧ Keeps (fun _ => False) w8 w' ∧ RBk w' w8.heap.size w'.heap.size q fiveLs) := rbookOf_ok (some ⟨g, 0, none⟩) fiveLs 30 w8 hrow8 (by decide) (by decide)
                clear HC3 hB8 hK8 hrow8 H7
                go_wp2_with fail
                refine HC4.out.mono ?_
                rintro e w9 ⟨q2, rfl, hK9, hB9⟩
                have H9 : Hid (Keeps (fun _ => False) w5 w9 ∧ RBk w9 w5.heap.size w9.heap.size q1 fixLs ∧ RBk w9 w5.heap.size w9.heap.size q2 fiveLs) := ⟨H8.out.1.trans hK9 (fun _ _ h => h), (H8.out.2.kept hK9 (fun _ _ _ h => h)).wider (Nat.le_refl _) hK9.size (Nat.le_refl _), hB9.wider H8.out.1.size (Nat.le_refl _) (Nat.le_refl _)⟩
                have HC : Hid (Calls Tryz.prog 64 #[.pointer (some ⟨b, 0, none⟩), .pointer (some ⟨q1, 0, none⟩), .pointer (some ⟨q2, 0, none⟩)] w9 fun e w' => e = .returned (.tuple #[]) ∧ FPost (inside m 1 L3 x1) w5 b v1 s m w') := by
                  refine (rcoded_ok (H5.out.1.keptF H9.out.1) H9.out.2.1 H9.out.2.2 ⟨.inl H5.out.1.lt, fun k e => .inl (H5.out.1.ownlt k e).2⟩ (by rw [fixLs_length]; omega) (by decide)).mono ?_
                  rintro e w' ⟨he, hP⟩
                  exact ⟨he, FPost.trans (FAdv.ofF b v1 H9.out.1) hP⟩
                clear HC4 hK9 hB9 H8 H9
                go_wp2_with fail
                refine HC.out.mono ?_
                rintro e w6 ⟨rfl, hP6⟩
                have H6 : Hid (Ist T m w3 b s l w6 ∧ (l = 0 → errAt w6 b = 0 → 8 * s.size - posOf w6 b < L1.length)) := HA.out w6 hP6
                clear HC hP6
                go_wp2
                go_roundw
                case rel => exact ⟨l, by omega, rfl, H6.out.1⟩
                case measure =>
                  have h7 := HS1.out.1.left
                  have h8 := HS1.out.2.2.2
                  have h9 := H6.out.2
                  by_cases hc : (l : Int) = 0 ∧ errAt w6 b = 0
                  · have := h9 (by omega) hc.2
                    simp only [intOf, h8, hc.1, hc.2]; simp; omega
                  · have hc' : ¬ (l = 0 ∧ errAt w6 b = 0) := fun e => hc ⟨by have := e.1; omega, e.2⟩
                    simp only [intOf, h8]; simp; rw [if_neg hc']; omega
              · have HC : Hid (Calls Tryz.prog 66 #[.pointer (some ⟨b, 0, none⟩)] w5 fun e w' => e = .returned (.tuple #[]) ∧ FPost (inside m 2 L3 x1) w5 b v1 s m w') := rdynamic_ok H5.out.1
                go_wp2_with fail
                refine HC.out.mono ?_
                rintro e w6 ⟨rfl, hP6⟩
                have H6 : Hid (Ist T m w3 b s l w6 ∧ (l = 0 → errAt w6 b = 0 → 8 * s.size - posOf w6 b < L1.length)) := HA.out w6 hP6
                clear HC hP6
                go_wp2
                go_roundw
                case rel => exact ⟨l, by omega, rfl, H6.out.1⟩
                case measure =>
                  have h7 := HS1.out.1.left
                  have h8 := HS1.out.2.2.2
                  have h9 := H6.out.2
                  by_cases hc : (l : Int) = 0 ∧ errAt w6 b = 0
                  · have := h9 (by omega) hc.2
                    simp only [intOf, h8, hc.1, hc.2]; simp; omega
                  · have hc' : ¬ (l = 0 ∧ errAt w6 b = 0) := fun e => hc ⟨by have := e.1; omega, e.2⟩
                    simp only [intOf, h8]; simp; rw [if_neg hc']; omega
              · have HC : Hid (Calls Tryz.prog 67 #[.pointer (some ⟨b, 0, none⟩)] w5 fun e w' => e = .returned (.tuple #[]) ∧ FPost (inside m 3 L3 x1) w5 b v1 s m w') := by
                  refine (wrong_ok H5.out.1).mono ?_
                  rintro e w' ⟨he, hS', hK'⟩
                  exact ⟨he, FPost.bad hS' (FAdv.ofB v1 hK')⟩
                go_wp2_with fail
                refine HC.out.mono ?_
                rintro e w6 ⟨rfl, hP6⟩
                have H6 : Hid (Ist T m w3 b s l w6 ∧ (l = 0 → errAt w6 b = 0 → 8 * s.size - posOf w6 b < L1.length)) := HA.out w6 hP6
                clear HC hP6
                go_wp2
                go_roundw
                case rel => exact ⟨l, by omega, rfl, H6.out.1⟩
                case measure =>
                  have h7 := HS1.out.1.left
                  have h8 := HS1.out.2.2.2
                  have h9 := H6.out.2
                  by_cases hc : (l : Int) = 0 ∧ errAt w6 b = 0
                  · have := h9 (by omega) hc.2
                    simp only [intOf, h8, hc.1, hc.2]; simp; omega
                  · have hc' : ¬ (l = 0 ∧ errAt w6 b = 0) := fun e => hc ⟨by have := e.1; omega, e.2⟩
                    simp only [intOf, h8]; simp; rw [if_neg hc']; omega
            · have e : R = .error 700 := HR.out.1 700 hbad
              subst e
              have HKK : Hid (Keeps (fun _ => False) w w5) := HKw.out w5 v1 H5.out.2
              have her : ¬ ((700 : Int) = 0) := by decide
              clear hbad
              go_wp2
              go_quiet (fail)
              go_wp2
              go_ret3
              exact InfPost.bad (HKK.out.drewN _)
          · obtain ⟨q, hq⟩ : ∃ q, s.size - L1.length / 8 = q := ⟨_, rfl⟩
            have e : R = .ok (x1, q) := by rw [← hq]; exact HR.out.2 L1 x1 (hok hl0)
            subst e
            have hlz : ¬ ((l : Int) = 0) := by omega
            have hlb : ((l : Int) == 0) = false := by simp; omega
            obtain ⟨p, p1, p2, p3⟩ := hS.fl
            have hpl : L1.length = 8 * s.size - p := by rw [p3, List.length_drop, bitsL_length, bytesOf_length]
            have hcp : wr.cell? ⟨b, 1, none⟩ = some (.int .i64 (p : Int)) := cell_of_heap p1 rfl
            have hz := hS.sz
            have hd1 : ((p : Int) + 7) / 8 = (q : Int) := by omega
            have hd2 : ((p : Int) + 7).tdiv 8 = (q : Int) := by rw [Int.tdiv_eq_ediv_of_nonneg (by omega)]; exact hd1
            have hd3 : IntKind.i64.wrap (q : Int) = (q : Int) := wrap_i64_small _ (by omega) (by omega)
            have hd4 : IntKind.i64.wrap ((p : Int) + 7) = (p : Int) + 7 := wrap_i64_small _ (by omega) (by omega)
            have hcv : ∀ n, (convert 39 9 v1).run Tryz.prog (wr.drewN n) = .ok (.string (textOf x1)) (wr.drewN n) := fun n => OwnB.text Tryz.underlying39 (show OwnB (wr.drewN n) (b + 1) v1 x1 from hS.own) hS.byt
            have HKK : Hid (Keeps (fun _ => False) w wr) := HKw.out wr v1 hA
            obtain ⟨av, cv, hv1⟩ := hS.own.form
            have HV : Hid (v1 = .slice av x1.length cv) := hv1
            clear hS hA hok hno c3 cf c1 hq p1 p2 p3 hpl hv1
            go_wp2
            go_quiet (fail)
            go_wp2
            go_ret3
            exact ⟨rfl, HKK.out.drewN _⟩
        · have e : R = .error er := HR.out.1 er hbad
          subst e
          have heb : (er == 0) = false := by simp; exact her
          have hen : ¬ (er = 0) := her
          have HKK : Hid (Keeps (fun _ => False) w wr) := HKw.out wr v1 hA
          clear hS hA c2 c3 cf c1 hbad her
          by_cases hl0 : l = 0
          · subst hl0
            go_wp2
            go_quiet (fail)
            go_wp2
            go_ret3
            exact InfPost.bad (HKK.out.drewN _)
          · have hlz : ¬ ((l : Int) = 0) := by omega
            have hlb : ((l : Int) == 0) = false := by simp; omega
            go_wp2
            go_quiet (fail)
            go_wp2
            go_ret3
            exact InfPost.bad (HKK.out.drewN _)

end Go.Proofs.YtebjooebdehlnaaGreat

namespace Go.Proofs.YtebjooebdehlnaaGreat.Bk
open Go.RowKit
open Hf Tb
open Mt (Tk RowT mayF okT sumZ expF toksN)
set_option linter.unusedVariables false
set_option linter.unusedSimpArgs false

theorem rtokens_of (s : ByteArray) (w : World) (hs : s.size ≤ 300) : Calls Tryz.prog 22 #[.string s] w fun e w' => ∃ a cap, e = .returned (.tuple #[.slice a (kOf s) cap, .int .i64 0]) ∧ RowT w' a (toksOf s) ∧ Keeps (fun _ => False) w w' := by
  refine (Mt.rtokens_ok s w hs).mono ?_
  rintro e w' ⟨K, v, rfl, hst, ho, hk⟩
  obtain rfl := kOf_eq s K hst
  obtain ⟨a, cap, rfl, hR, _⟩ := ho.row
  refine ⟨a, cap, ?_, hR, hk⟩
  rw [Mt.toksN_len]
set_option maxHeartbeats 1000000 in
set_option maxRecDepth 100000 in
theorem rdeflate_long (s : ByteArray) (w : World) (hs : ¬ s.size ≤ 300) (hb : s.size ≤ 140737488355328) :
    Calls Tryz.prog 9 #[.string s] w (StrPost ⟨#[]⟩ 900 w) := by
  have HT := hide (Mt.rtokens_long s w hs hb)
  go_enter Tryz.func9, Tryz.ntmps9
  go_wp2_with fail
  refine HT.out.mono ?_
  rintro e w1 ⟨rfl, hw⟩
  obtain rfl := hw.symm
  clear hw HT
  go_wp2
  go_ret2
  exact ⟨rfl, Keeps.refl _ w⟩
set_option maxHeartbeats 4000000 in
set_option maxRecDepth 100000 in
theorem rdeflate_ok (s : ByteArray) (w : World) (hs : s.size ≤ 300) :
    Calls Tryz.prog 9 #[.string s] w (StrPost (defT s) 0 w) := by
  have HT := hide (rtokens_of s w hs)
  have HS : Hid (∀ w, Calls Tryz.prog 23 #[.string s] w (StrPost (stoS s) 0 w)) := fun w => rstored_ok s w hs
  have HF : Hid (∀ a cap w, RowT w a (toksOf s) → Calls Tryz.prog 24 #[.slice a (kOf s) cap] w (StrPost (fixS s) 0 w)) := fun a cap w hR => by
    have := rfixed_ok8 a (toksOf s) cap w hR (toksOf_may s hs)
    rw [toksOf_len] at this; exact this
  have HC : Hid (∀ a cap w, RowT w a (toksOf s) → Calls Tryz.prog 25 #[.slice a (kOf s) cap] w (StrPost (dynS s) 0 w)) := fun a cap w hR => by
    have := rdynamic_ok8 a (toksOf s) cap w hR (toksOf_may s hs)
    rw [toksOf_len] at this; exact this
  have hd : defT s = shT (shT (stoS s) (fixS s)) (dynS s) := rfl
  rw [hd]
  generalize stoS s = A at *
  generalize fixS s = B at *
  generalize dynS s = C at *
  generalize toksOf s = ts at *
  generalize kOf s = K at *
  clear hd
  go_enter Tryz.func9, Tryz.ntmps9
  go_wp2_with fail
  refine HT.out.mono ?_
  rintro e w1 ⟨a, cap, rfl, hR1, hk1⟩
  have H1 : Hid (RowT w1 a ts ∧ Keeps (fun _ => False) w w1) := ⟨hR1, hk1⟩
  clear hR1 hk1 HT
  go_wp2_with fail
  refine (HS.out w1).mono ?_
  rintro e w2 ⟨rfl, hk2⟩
  have H2 : Hid (RowT w2 a ts ∧ Keeps (fun _ => False) w w2) := ⟨RowT.keptF H1.out.1 hk2, H1.out.2.trans hk2 (fun _ _ h => h)⟩
  clear hk2 H1 HS
  go_wp2_with fail
  refine (HF.out a cap w2 H2.out.1).mono ?_
  rintro e w3 ⟨rfl, hk3⟩
  have H3 : Hid (RowT w3 a ts ∧ Keeps (fun _ => False) w w3) := ⟨RowT.keptF H2.out.1 hk3, H2.out.2.trans hk3 (fun _ _ h => h)⟩
  clear hk3 H2 HF
  by_cases h1 : B.size < A.size
  · have hz1 : (B.size : Int) < (A.size : Int) := by omega
    have hX : Hid (shT A B = B) := if_pos h1
    go_wp2_with fail
    refine (HC.out a cap w3 H3.out.1).mono ?_
    rintro e w4 ⟨rfl, hk4⟩
    have H4 := hide (H3.out.2.trans hk4 (fun _ _ h => h))
    clear hk4 H3 HC
    by_cases h2 : C.size < B.size
    · have hz2 : (C.size : Int) < (B.size : Int) := by omega
      have hY : Hid (shT B C = C) := if_pos h2
      go_wp2
      go_ret2
      exact ⟨by rw [hX.out, hY.out]; rfl, H4.out⟩
    · have hz2 : ¬ (C.size : Int) < (B.size : Int) := by omega
      have hY : Hid (shT B C = B) := if_neg h2
      go_wp2
      go_ret2
      exact ⟨by rw [hX.out, hY.out]; rfl, H4.out⟩
  · have hz1 : ¬ (B.size : Int) < (A.size : Int) := by omega
    have hX : Hid (shT A B = A) := if_neg h1
    go_wp2_with fail
    refine (HC.out a cap w3 H3.out.1).mono ?_
    rintro e w4 ⟨rfl, hk4⟩
    have H4 := hide (H3.out.2.trans hk4 (fun _ _ h => h))
    clear hk4 H3 HC
    by_cases h2 : C.size < A.size
    · have hz2 : (C.size : Int) < (A.size : Int) := by omega
      have hY : Hid (shT A C = C) := if_pos h2
      go_wp2
      go_ret2
      exact ⟨by rw [hX.out, hY.out]; rfl, H4.out⟩
    · have hz2 : ¬ (C.size : Int) < (A.size : Int) := by omega
      have hY : Hid (shT A C = A) := if_neg h2
      go_wp2
      go_ret2
      exact ⟨by rw [hX.out, hY.out]; rfl, H4.out⟩

def RPckPost (m : Int) (t : ByteArray) (er : Int) (w : World) (e : Ending) (w' : World) : Prop := e = .returned (.tuple #[.int .i64 m, .string t, .int .i64 er]) ∧ Keeps (fun _ => False) w w'
set_option maxHeartbeats 1000000 in
set_option maxRecDepth 100000 in
theorem rpack_long (s : ByteArray) (w : World) (hs : ¬ s.size ≤ 300) (hb : s.size ≤ 140737488355328) :
    Calls Tryz.prog 11 #[.string s] w (RPckPost 0 ⟨#[]⟩ 900 w) := by
  have HD := hide (rdeflate_long s w hs hb)
  go_enter Tryz.func11, Tryz.ntmps11
  go_wp2_with fail
  refine HD.out.mono ?_
  rintro e w1 ⟨rfl, hk1⟩
  have H1 := hide hk1
  clear hk1 HD
  go_wp2
  go_ret3
  exact ⟨rfl, H1.out⟩
set_option maxHeartbeats 1000000 in
set_option maxRecDepth 100000 in
theorem rpack_ok (s : ByteArray) (w : World) (hs : s.size ≤ 300) :
    Calls Tryz.prog 11 #[.string s] w (RPckPost (pkM s) (pkT s) 0 w) := by
  have HD := hide (rdeflate_ok s w hs)
  have hl := defT_size s
  unfold pkM pkT
  generalize defT s = X at *
  by_cases h : X.size < s.size
  · rw [if_pos h, if_pos h]
    have hz : (X.size : Int) < (s.size : Int) := by omega
    go_enter Tryz.func11, Tryz.ntmps11
    go_wp2_with fail
    refine HD.out.mono ?_
    rintro e w1 ⟨rfl, hk1⟩
    have H1 := hide hk1
    clear hk1 HD
    go_wp2
    go_ret3
    exact ⟨rfl, H1.out⟩
  · rw [if_neg h, if_neg h]
    have hz : ¬ (X.size : Int) < (s.size : Int) := by omega
    go_enter Tryz.func11, Tryz.ntmps11
    go_wp2_with fail
    refine HD.out.mono ?_
    rintro e w1 ⟨rfl, hk1⟩
    have H1 := hide hk1
    clear hk1 HD
    go_wp2
    go_ret3
    exact ⟨rfl, H1.out⟩

set_option maxHeartbeats 2000000 in
set_option maxRecDepth 100000 in
theorem runpack_ok (m : Int) (p : ByteArray) (n : Int) (w : World) (hp : p.size ≤ 281474976710656) :
    Calls Tryz.prog 13 #[.int .i64 m, .string p, .int .i64 n] w (StrPost (unT m p n).1 (unT m p n).2 w) := by
  have HI : Hid (∀ w, Calls Tryz.prog 27 #[.string p, .int .i64 n] w fun e w' => e = .returned (.tuple #[.string (infT p n), .int .i64 (infK p n), .int .i64 (infE p n)]) ∧ Keeps (fun _ => False) w w') := fun w => rinflate_ok p n w hp
  unfold unT
  by_cases h1 : n < 0
  · rw [if_pos (.inl h1)]
    clear HI
    go_enter Tryz.func13, Tryz.ntmps13
    go_wp2
    go_ret2
    exact ⟨rfl, Keeps.refl _ w⟩
  · by_cases h2 : 300 < n
    · rw [if_pos (.inr h2)]
      clear HI
      go_enter Tryz.func13, Tryz.ntmps13
      go_wp2
      go_ret2
      exact ⟨rfl, Keeps.refl _ w⟩
    · rw [if_neg (by omega)]
      by_cases h3 : m = 0
      · subst h3
        rw [if_pos rfl]
        clear HI
        by_cases h4 : (p.size : Int) = n
        · rw [if_pos h4]
          go_enter Tryz.func13, Tryz.ntmps13
          go_wp2
          go_ret2
          exact ⟨rfl, Keeps.refl _ w⟩
        · rw [if_neg h4]
          go_enter Tryz.func13, Tryz.ntmps13
          go_wp2
          go_ret2
          exact ⟨rfl, Keeps.refl _ w⟩
      · rw [if_neg h3]
        by_cases h4 : m = 8
        · subst h4
          rw [if_pos rfl]
          generalize infT p n = X at *
          generalize infK p n = T at *
          generalize infE p n = E at *
          by_cases e1 : E = 0
          · subst e1
            by_cases e2 : T = (p.size : Int)
            · subst e2
              by_cases e3 : (X.size : Int) = n
              · rw [if_pos ⟨rfl, rfl, e3⟩]
                go_enter Tryz.func13, Tryz.ntmps13
                go_wp2_with fail
                refine (HI.out w).mono ?_
                rintro e w1 ⟨rfl, hk1⟩
                have H1 := hide hk1
                clear hk1 HI
                go_wp2
                all_goals go_ret2
                all_goals exact ⟨rfl, H1.out⟩
              · rw [if_neg (fun h => e3 h.2.2)]
                go_enter Tryz.func13, Tryz.ntmps13
                go_wp2_with fail
                refine (HI.out w).mono ?_
                rintro e w1 ⟨rfl, hk1⟩
                have H1 := hide hk1
                clear hk1 HI
                go_wp2
                all_goals go_ret2
                all_goals exact ⟨rfl, H1.out⟩
            · rw [if_neg (fun h => e2 h.2.1)]
              go_enter Tryz.func13, Tryz.ntmps13
              go_wp2_with fail
              refine (HI.out w).mono ?_
              rintro e w1 ⟨rfl, hk1⟩
              have H1 := hide hk1
              clear hk1 HI
              go_wp2
              all_goals go_ret2
              all_goals exact ⟨rfl, H1.out⟩
          · rw [if_neg (fun h => e1 h.1)]
            go_enter Tryz.func13, Tryz.ntmps13
            go_wp2_with fail
            refine (HI.out w).mono ?_
            rintro e w1 ⟨rfl, hk1⟩
            have H1 := hide hk1
            clear hk1 HI
            go_wp2
            all_goals go_ret2
            all_goals exact ⟨rfl, H1.out⟩
        · rw [if_neg h4]
          clear HI
          go_enter Tryz.func13, Tryz.ntmps13
          go_wp2
          go_ret2
          exact ⟨rfl, Keeps.refl _ w⟩

end Go.Proofs.YtebjooebdehlnaaGreat.Bk

namespace Go.Proofs.YtebjooebdehlnaaGreat.Bk
open Go.RowKit
open Hf Tb
set_option linter.unusedVariables false
set_option linter.unusedSimpArgs false

theorem both_deflate (s : ByteArray) (hb : s.size ≤ 140737488355328) : ∃ T E, (∀ w, Calls Tryz.prog 8 #[.string s] w (StrPost T E w)) ∧ (∀ w, Calls Tryz.prog 9 #[.string s] w (StrPost T E w)) := by
  by_cases h : s.size ≤ 300
  · exact ⟨_, _, fun w => deflate_ok s w h, fun w => rdeflate_ok s w h⟩
  · exact ⟨_, _, fun w => deflate_long s w h (by omega), fun w => rdeflate_long s w h hb⟩
theorem both_pack (s : ByteArray) (hb : s.size ≤ 140737488355328) : ∃ M T E, (∀ w, Calls Tryz.prog 10 #[.string s] w (PckPost M T E w)) ∧ (∀ w, Calls Tryz.prog 11 #[.string s] w (PckPost M T E w)) := by
  by_cases h : s.size ≤ 300
  · exact ⟨_, _, _, fun w => pack_ok s w h, fun w => rpack_ok s w h⟩
  · exact ⟨_, _, _, fun w => pack_long s w h (by omega), fun w => rpack_long s w h hb⟩
theorem both_unpack (m : Int) (p : ByteArray) (n : Int) (hp : p.size ≤ 140737488355328) : ∃ T E, (∀ w, Calls Tryz.prog 12 #[.int .i64 m, .string p, .int .i64 n] w (StrPost T E w)) ∧ (∀ w, Calls Tryz.prog 13 #[.int .i64 m, .string p, .int .i64 n] w (StrPost T E w)) :=
  ⟨_, _, fun w => unpack_ok m p n w (by omega), fun w => runpack_ok m p n w (by omega)⟩

set_option maxHeartbeats 8000000 in
set_option maxRecDepth 100000 in
theorem all9 (s : ByteArray) (m : Int) (p : ByteArray) (n : Int) (w : World) (hb : s.size ≤ 140737488355328) (hp : p.size ≤ 140737488355328) :
    Calls Tryz.prog 3 #[.string s, .int .i64 m, .string p, .int .i64 n] w fun e w' => e = .returned (.bool true) ∧ Keeps (fun _ => False) w w' := by
  have HA := hide awake9
  obtain ⟨T1, E1, h1, h2⟩ := both_deflate s hb
  obtain ⟨M, T2, E2, h3, h4⟩ := both_pack s hb
  obtain ⟨T3, E3, h5, h6⟩ := both_unpack m p n hp
  have HC1 := hide h1
  have HC2 := hide h2
  have HC3 := hide h3
  have HC4 := hide h4
  have HC5 := hide h5
  have HC6 := hide h6
  clear h1 h2 h3 h4 h5 h6
  go_enter Tryz.func3, Tryz.ntmps3
  go_wp2_with fail
  refine (HC1.out w).mono ?_
  rintro e w1 ⟨rfl, hk1⟩
  have H1 := hide hk1
  clear hk1 HC1
  go_wp2_with fail
  refine (HC2.out w1).mono ?_
  rintro e w2 ⟨rfl, hk2⟩
  have H2 := hide (H1.out.trans hk2 (fun _ _ h => h))
  clear hk2 HC2 H1
  go_wp2_with fail
  refine (HC3.out w2).mono ?_
  rintro e w3 ⟨rfl, hk3⟩
  have H3 := hide (H2.out.trans hk3 (fun _ _ h => h))
  clear hk3 HC3 H2
  go_wp2_with fail
  refine (HC4.out w3).mono ?_
  rintro e w4 ⟨rfl, hk4⟩
  have H4 := hide (H3.out.trans hk4 (fun _ _ h => h))
  clear hk4 HC4 H3
  go_wp2_with fail
  refine (HC5.out w4).mono ?_
  rintro e w5 ⟨rfl, hk5⟩
  have H5 := hide (H4.out.trans hk5 (fun _ _ h => h))
  clear hk5 HC5 H4
  go_wp2_with fail
  refine (HC6.out w5).mono ?_
  rintro e w6 ⟨rfl, hk6⟩
  have H6 := hide (H5.out.trans hk6 (fun _ _ h => h))
  clear hk6 HC6 H5
  go_wp2_with (first
    | (go_at_call 14; refine (num_any _ _).mono ?_; rintro e w' ⟨rfl, hw⟩; obtain rfl := hw.symm; clear hw)
    | (go_at_call 15; refine (HA.out w6).mono ?_; rintro e w7 ⟨rfl, hk7⟩; have H7 := hide (H6.out.trans hk7 (fun _ _ h => h)); clear hk7))
  go_ret
  exact ⟨rfl, H7.out⟩
theorem all9_walk (s : ByteArray) (m : Int) (p : ByteArray) (n : Int) (w : World) (hs : s.size ≤ 140737488355328) (hp : p.size ≤ 140737488355328) :
    Calls Tryz.prog 3 #[.string s, .int .i64 m, .string p, .int .i64 n] w fun e w' => e = .returned (.bool true) ∧ Below w.heap.size w w' := by
  refine (all9 s m p n w hs hp).mono ?_
  rintro e w' ⟨rfl, hk⟩
  exact ⟨rfl, hk.below _ (Nat.le_refl _) (fun _ h => h.elim)⟩

end Go.Proofs.YtebjooebdehlnaaGreat.Bk

namespace Go.Proofs.YtebjooebdehlnaaGreat
open Go.ChangeShapes Go.WideShapes Go.ChangeAt Go.RowKit
open Go.ChangeMaps (open_string shut_string)
open Mt Bk
set_option linter.unusedVariables false

theorem deflates_own : ownKnob Tryz.prog.godebug = none := by kernel_rfl
theorem deflates_laidOut : laidOutB Tryz.prog = true := by kernel_rfl

set_option maxRecDepth 100000 in
theorem deflates_lifted (os : Os) (started : os.Started) (H : Type) (enc : TypeId × Value → H) :
    ReturnsInHanded {} Tryz.checked os 3 .any (Rows.deflatesSpec.pre6 enc Tryz.prog Tryz.f3 Rows.deflatesRow.domain false) (Rows.deflatesSpec.post enc Tryz.prog Tryz.f3 false true false false) := by
  refine returnsInHanded_of_change_sized (C := Tryz.checked) deflates_own started (by kernel_rfl) Tryz.func3
    (ChangeSpec.witness6 (enc := enc) (C := Tryz.checked) false ⟨#[], #[.string ⟨#[]⟩, .int .i64 0, .string ⟨#[]⟩, .int .i64 0], []⟩ 8 (by kernel_rfl) (by kernel_rfl) (by kernel_rfl) (by kernel_rfl)) ?_
  intro W base args ds gs before hval0 hW hcnd hsz0 _
  have hsz : (DataW.weightsEach Tryz.prog (Tryz.f3.params.toList ++ Rows.deflatesSpec.plain.varTypes Tryz.prog) (ds ++ gs)).all (· ≤ reachBytes) = true := hsz0
  have hval : ∀ (j : Nat) t v, Tryz.f3.params[j]? = some t → args[j]? = some v → Value.okWide Tryz.prog W .any base t v := hval0
  have hW' := hW
  obtain ⟨p, q, hA0, hV, rfl, hfz, hnd⟩ := hW
  have hA : DataW.TrodAll enc Tryz.prog W 0 (fun _ => true) true Tryz.f3.params.toList args.toList ds p := hA0
  rw [Tryz.params3] at hA hval hsz
  obtain ⟨v0, vs0, d0, ds0, p0, q0, hargs, rfl, rfl, h0, r0⟩ := trodAll_cons hA
  obtain ⟨v1, vs1, d1, ds1, p1, q1, rfl, rfl, rfl, h1, r1⟩ := trodAll_cons r0
  obtain ⟨v2, vs2, d2, ds2, p2, q2, rfl, rfl, rfl, h2, r2⟩ := trodAll_cons r1
  obtain ⟨v3, vs3, d3, ds3, p3, q3, rfl, rfl, rfl, h3, r3⟩ := trodAll_cons r2
  obtain ⟨rfl, rfl, rfl⟩ := trodAll_nil r3
  obtain rfl : args = #[v0, v1, v2, v3] := by cases args; simp_all
  obtain ⟨rfl, rfl⟩ := trodVars_none hV
  obtain ⟨a0, rfl, rfl, rfl, w0⟩ := open_string Tryz.underlying9 (hval 0 9 v0 rfl rfl) h0
  obtain ⟨a1, rfl, rfl, rfl, w1⟩ := open_int Tryz.underlying3 (hval 1 3 v1 rfl rfl) h1
  obtain ⟨a2, rfl, rfl, rfl, w2⟩ := open_string Tryz.underlying9 (hval 2 9 v2 rfl rfl) h2
  obtain ⟨a3, rfl, rfl, rfl, w3⟩ := open_int Tryz.underlying3 (hval 3 3 v3 rfl rfl) h3
  clear hA0 hval0
  refine (all9_walk a0 a1 a2 a3 W (by have := sized_string hsz (j := 0) (t := 9) rfl rfl; rw [Array.length_toList] at this; exact Nat.le_trans this (by decide)) (by have := sized_string hsz (j := 2) (t := 9) rfl rfl; rw [Array.length_toList] at this; exact Nat.le_trans this (by decide))).mono fun e W' ⟨he, bel⟩ => ?_
  subst he
  exact ⟨_, rfl, _, _, _, [], [], [], hW', trodAll_mk1 (shut_bool Tryz.underlying4 _), (trodAll_cons_mk (shut_string Tryz.underlying9 w0) (trodAll_cons_mk (shut_int Tryz.underlying3 w1) (trodAll_cons_mk (shut_string Tryz.underlying9 w2) (trodAll_cons_mk (shut_int Tryz.underlying3 w3) trodAll_mk0)))), rfl, bel.frame _, fun h => by cases h⟩

theorem deflates_over : Rows.deflatesRow.holds Tryz.pinned (OpenSpec.ofChange Rows.deflatesSpec) :=
  OpenClaim.holds_of_wide 3 Tryz.f3 rfl rfl rfl rfl rfl rfl rfl ⟨rfl, rfl, rfl, rfl, rfl⟩ rfl rfl rfl rfl rfl (by kernel_rfl) Tryz.func3 (by kernel_rfl)
    (of_decide_eq_true (by kernel_rfl)) (by unfold Func.isWrapper; first | (rw [if_pos (by decide +kernel)]; kernel_rfl) | (rw [if_neg (by decide +kernel)]; exact ⟨rfl, rfl⟩))
    (fun os started H enc _ => deflates_lifted os started H enc)

theorem deflates_holds : Rows.DeflatesSaid := deflates_over

end Go.Proofs.YtebjooebdehlnaaGreat

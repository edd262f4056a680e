/-
  The document's Inflate, and the law that both answer alike (printed by a script).
-/
import Derived.Test.YtdbfbijalhknnaaRdyn
import Derived.Test.YtdbfbijalhknnaaAwake
namespace Go.Proofs.Ytdbfbijalhknnaa
open Go.RowKit
open Hf Tb
set_option linter.unusedVariables false
set_option linter.unusedSimpArgs false

def errAt (w : World) (b : Nat) : Int := match w.cell? ⟨b, 4, none⟩ with | some (.int _ e) => e | _ => 0
theorem FS.errAt {w : World} {b : Nat} {v : Value} {s : ByteArray} {most : Nat} {L : Bts} {xs : List Nat} {er : Int} (h : FS w b v s most L xs er) : errAt w b = er := by
  obtain ⟨c2, c3, c4, cf, p0, c1⟩ := h.cell
  show (match w.cell? ⟨b, 4, none⟩ with | some (.int _ e) => e | _ => 0) = er
  rw [c4]
/-- How the document's Inflate stands: T is what the blocks come to. -/
def Ist (T : Rs) (m : Nat) (w3 : World) (b : Nat) (s : ByteArray) (l : Nat) (w' : World) : Prop :=
  ∃ L1 x1 v1 er, FS w' b v1 s m L1 x1 er ∧ FAdv w3 w' b (.slice none 0 0) v1 ∧ ((er = 0 ∧ (l ≠ 0 → T = .ok (L1, x1)) ∧ (l = 0 → T = blocks m L1 x1)) ∨ (er ≠ 0 ∧ T = .error er))
theorem Ist.after {T : Rs} {m : Nat} {w3 w4 w5 : World} {b : Nat} {s : ByteArray} {l k : Nat} {L1 L2 L3 : Bts} {x1 : List Nat} {v1 : Value} (hT : T = blocks m L1 x1) (h1 : getL 1 L1 = some (l, L2)) (h2 : getL 2 L2 = some (k, L3)) (hA : FAdv w3 w4 b (.slice none 0 0) v1) (hP : FPost (inside m k L3 x1) w4 b v1 s m w5) : Ist T m w3 b s l w5 ∧ (l = 0 → errAt w5 b = 0 → 8 * s.size - posOf w5 b < L1.length) := by
  have hl1 := getL_len h1
  have hl2 := getL_len h2
  rcases h3 : inside m k L3 x1 with er | ⟨L', o'⟩
  · obtain ⟨v', L', o', hS, hA2⟩ := hP.1 er h3
    have hne := (inside_err h3).ne
    refine ⟨⟨L', o', v', er, hS, hA.trans hA2, .inr ⟨hne, by rw [hT, blocks_bad h1 h2 h3]⟩⟩, fun _ e => absurd (hS.errAt.symm.trans e) hne⟩
  · obtain ⟨v', hS, hA2⟩ := hP.2 L' o' h3
    have hl3 := inside_len h3
    refine ⟨⟨L', o', v', 0, hS, hA.trans hA2, .inl ⟨rfl, fun hl => ?_, fun hl => ?_⟩⟩, fun _ _ => by rw [hS.left]; simp only at hl3; omega⟩
    · have : l = 1 := by have := getL_lt h1; omega
      subst this
      rw [hT, blocks_last h1 h2 h3]
    · rw [hT, blocks_next h1 (by omega) h2 h3]

set_option maxHeartbeats 16000000 in
set_option maxRecDepth 100000 in
theorem rinflate_ok (s : ByteArray) (most : Int) (w : World) (hs : s.size ≤ 281474976710656) :
    Calls Try.prog 10 #[.string s, .int .i64 most] w (InfPost (inflP (bytesOf s) most) w) := by
  obtain ⟨R, hR⟩ : ∃ R, inflP (bytesOf s) most = R := ⟨_, rfl⟩
  rw [hR]
  by_cases hm0 : most < 0
  · have e : R = .error 700 := by rw [← hR]; unfold inflP; rw [if_neg (by omega)]
    subst e
    clear hR
    go_enter Try.func10, Try.ntmps10
    go_wp2
    go_ret3
    exact InfPost.bad (Keeps.refl _ _)
  · by_cases hm1 : 8192 < most
    · have e : R = .error 700 := by rw [← hR]; unfold inflP; rw [if_neg (by omega)]
      subst e
      clear hR
      go_enter Try.func10, Try.ntmps10
      go_wp2
      go_ret3
      exact InfPost.bad (Keeps.refl _ _)
    · obtain ⟨m, rfl⟩ := Int.eq_ofNat_of_zero_le (show 0 ≤ most by omega)
      have hR2 : inflB (bytesOf s) m = R := by rw [← hR]; unfold inflP; rw [if_pos (by omega)]; rfl
      have hm2 : m ≤ 8192 := by omega
      obtain ⟨T, hT⟩ : ∃ T, blocks m (bitsL (bytesOf s)) [] = T := ⟨_, rfl⟩
      have HR : Hid ((∀ e, T = .error e → R = .error e) ∧ ∀ L1 x1, T = .ok (L1, x1) → R = .ok (x1, s.size - L1.length / 8)) := by
        rw [← hR2]
        unfold inflB
        rw [hT]
        exact ⟨fun e h => by rw [h], fun L1 x1 h => by rw [h]; simp only; rw [bytesOf_length]⟩
      have HS : Hid (s.size ≤ 281474976710656 ∧ blocks m (bitsL (bytesOf s)) [] = T) := ⟨hs, hT⟩
      clear hR hR2 hs hT
      go_enter Try.func10, Try.ntmps10
      go_wp2
      generalize hw3 : World.alloc _ _ = w3
      obtain ⟨b, hb⟩ : ∃ b, w.heap.size = b := ⟨_, rfl⟩
      rw [hb]
      have H3 : Hid (Ist T m w3 b s 0 w3 ∧ Keeps (fun _ => False) w w3 ∧ w.heap.size ≤ b) := by
        have hk : Keeps (fun _ => False) w w3 := by rw [← hw3]; exact (Keeps.refl _ w).alloc _
        refine ⟨⟨bitsL (bytesOf s), [], .slice none 0 0, 0, ⟨⟨0, ?_, by omega, by simp⟩, OwnB.nil _ _, HS.out.1, Nat.zero_le _, hm2, fun x hx => by cases hx⟩, FAdv.refl _ _ _, .inl ⟨rfl, fun e => absurd rfl e, fun _ => HS.out.2.symm⟩⟩, hk, by omega⟩
        unfold Fl
        rw [← hw3, ← hb]; exact heap_alloc_new _ _
      clear hw3 hb
      have HKw : Hid (∀ w' v1, FAdv w3 w' b (.slice none 0 0) v1 → Keeps (fun _ => False) w w') := fun w' v1 k => by
        refine H3.out.2.1.trans k.keep ?_
        rintro i hi (e | e)
        · have := H3.out.2.2; omega
        · cases e
      go_loopw [8] (fun s8 w' => ∃ l : Nat, l ≤ 1 ∧ s8 = .int .i64 (l : Int) ∧ Hid (Ist T m w3 b s l w')) (fun s8 w' => if intOf s8 = 0 ∧ errAt w' b = 0 then 1 + (8 * s.size - posOf w' b) else 0)
      case atStart => exact ⟨0, by omega, rfl, H3.out.1⟩
      case round =>
        obtain ⟨l, hl, rfl, HW⟩ := hrel
        obtain ⟨L1, x1, v1, er, hS, hA, hC⟩ := HW.out
        clear HW
        obtain ⟨c2, c3, c4, cf, p0, c1⟩ := hS.cell
        rcases hC with ⟨rfl, hok, hno⟩ | ⟨her, hbad⟩
        · by_cases hl0 : l = 0
          · subst hl0
            have HS1 : Hid (FS wr b v1 s m L1 x1 0 ∧ FAdv w3 wr b (.slice none 0 0) v1 ∧ T = blocks m L1 x1 ∧ errAt wr b = 0) := ⟨hS, hA, hno rfl, hS.errAt⟩
            have HC : Hid (Calls Try.prog 20 #[.pointer (some ⟨b, 0, none⟩), .int .i64 1] wr (GP 1 L1 0 wr b v1 s m x1)) := get_gen hS 1 (by omega)
            clear hS hA hok hno c2 c3 cf c1
            go_wp2_with fail
            refine HC.out.mono ?_
            rintro e w4 ⟨l, er4, L2, hx, rfl, hS4, hK4, _, hG4, _⟩
            have hl2 : l < 2 := hx
            have H4 : Hid (Keeps (fun k => k = b) wr w4 ∧ ((er4 = 0 ∧ getL 1 L1 = some (l, L2)) ∨ (er4 = 700 ∧ getL 1 L1 = none))) := ⟨hK4, hG4 rfl⟩
            have HC2 : Hid (Calls Try.prog 20 #[.pointer (some ⟨b, 0, none⟩), .int .i64 2] w4 (GP 2 L2 er4 w4 b v1 s m x1)) := get_gen hS4 2 (by omega)
            clear HC hx hS4 hK4 hG4 c4
            go_wp2_with fail
            refine HC2.out.mono ?_
            rintro e w5 ⟨k, er5, L3, hx, rfl, hS5, hK5, _, hG5, hG5n⟩
            have hk4 : k < 4 := hx
            obtain ⟨c2, c3, c4, cf, p0, c1⟩ := hS5.cell
            have hD : (er5 = 0 ∧ getL 1 L1 = some (l, L2) ∧ getL 2 L2 = some (k, L3)) ∨ (er5 = 700 ∧ T = .error 700) := by
              rcases H4.out.2 with ⟨rfl, g1⟩ | ⟨rfl, g1⟩
              · rcases hG5 rfl with ⟨rfl, g2⟩ | ⟨rfl, g2⟩
                · exact .inl ⟨rfl, g1, g2⟩
                · exact .inr ⟨rfl, by rw [HS1.out.2.2.1, blocks_none2 g1 g2]⟩
              · exact .inr ⟨hG5n (by decide), by rw [HS1.out.2.2.1, blocks_none1 g1]⟩
            have H5 : Hid (FS w5 b v1 s m L3 x1 er5 ∧ FAdv w3 w5 b (.slice none 0 0) v1) := ⟨hS5, HS1.out.2.1.trans (FAdv.ofB v1 (H4.out.1.trans hK5 (fun _ _ h => h)))⟩
            clear HC2 hx hS5 hK5 hG5 hG5n H4 c2 c3 cf c1
            rcases hD with ⟨rfl, g1, g2⟩ | ⟨rfl, hbad⟩
            · have HA : Hid (∀ w6, FPost (inside m k L3 x1) w5 b v1 s m w6 → Ist T m w3 b s l w6 ∧ (l = 0 → errAt w6 b = 0 → 8 * s.size - posOf w6 b < L1.length)) := fun w6 hP => Ist.after HS1.out.2.2.1 g1 g2 H5.out.2 hP
              clear g1 g2
              obtain rfl | rfl | rfl | rfl : k = 0 ∨ k = 1 ∨ k = 2 ∨ k = 3 := by omega
              · have HC : Hid (Calls Try.prog 21 #[.pointer (some ⟨b, 0, none⟩)] w5 fun e w' => e = .returned (.tuple #[]) ∧ FPost (inside m 0 L3 x1) w5 b v1 s m w') := rstored_ok H5.out.1
                go_wp2_with fail
                refine HC.out.mono ?_
                rintro e w6 ⟨rfl, hP6⟩
                have H6 : Hid (Ist T m w3 b s l w6 ∧ (l = 0 → errAt w6 b = 0 → 8 * s.size - posOf w6 b < L1.length)) := HA.out w6 hP6
                clear HC hP6
                go_wp2
                go_roundw
                case rel => exact ⟨l, by omega, rfl, H6.out.1⟩
                case measure =>
                  have h7 := HS1.out.1.left
                  have h8 := HS1.out.2.2.2
                  have h9 := H6.out.2
                  by_cases hc : (l : Int) = 0 ∧ errAt w6 b = 0
                  · have := h9 (by omega) hc.2
                    simp only [intOf, h8, hc.1, hc.2]; simp; omega
                  · have hc' : ¬ (l = 0 ∧ errAt w6 b = 0) := fun e => hc ⟨by have := e.1; omega, e.2⟩
                    simp only [intOf, h8]; simp; rw [if_neg hc']; omega
              · have HC1 : Hid (Calls Try.prog 24 #[] w5 fun e w' => ∃ v, e = .returned v ∧ Own w' w5.heap.size v fixL ∧ Keeps (fun _ => False) w5 w') := rfixed_ok w5
                go_wp2_with fail
                refine HC1.out.mono ?_
                rintro e w6 ⟨u, rfl, hO6, hK6⟩
                obtain ⟨a, cap, rfl, hrow6, _, _⟩ := own_row hO6
                have HC2 : Hid (Calls Try.prog 23 #[.slice a 288 cap] w6 fun e w' => ∃ q, e = .returned (.pointer (some ⟨q, 0, none⟩)) ∧ Keeps (fun _ => False) w6 w' ∧ RBk w' w6.heap.size w'.heap.size q fixLs) := by
                  have := rbookOf_ok a fixLs cap w6 hrow6 (by rw [fixLs_length]; omega) (by rw [fixLs_length]; omega)
                  rw [fixLs_length] at this; exact this
                rw [show fixL.length = 288 from fixLs_length]
                have HK6 : Hid (Keeps (fun _ => False) w5 w6) := hK6
                clear HC1 hO6 hrow6 hK6
                go_wp2_with fail
                refine HC2.out.mono ?_
                rintro e w7 ⟨q1, rfl, hK7, hB7⟩
                have H7 : Hid (Keeps (fun _ => False) w5 w7 ∧ RBk w7 w5.heap.size w7.heap.size q1 fixLs) := ⟨HK6.out.trans hK7 (fun _ _ h => h), hB7.wider HK6.out.size (Nat.le_refl _) (Nat.le_refl _)⟩
                have HC3 : Hid (Calls Try.prog 25 #[] w7 fun e w' => ∃ g, e = .returned (.slice (some ⟨g, 0, none⟩) 30 30) ∧ Blk w' g fiveLs ∧ Keeps (fun _ => False) w7 w') := rfives_ok w7
                clear HC2 hK7 hB7 HK6
                go_wp2_with fail
                refine HC3.out.mono ?_
                rintro e w8 ⟨g, rfl, hB8, hK8⟩
                have hrow8 : Row w8 (some ⟨g, 0, none⟩) fiveLs := .inr ⟨g, 0, rfl, hB8.lt, fun q hq => by rw [Nat.zero_add]; exact hB8.cell q hq⟩
                have H8 : Hid (Keeps (fun _ => False) w5 w8 ∧ RBk w8 w5.heap.size w8.heap.size q1 fixLs) := ⟨H7.out.1.trans hK8 (fun _ _ h => h), (H7.out.2.kept hK8 (fun _ _ _ h => h)).wider (Nat.le_refl _) hK8.size (Nat.le_refl _)⟩
                have HC4 : Hid (Calls Try.prog 23 #[.slice (some ⟨g, 0, none⟩) 30 30] w8 fun e w' => ∃ q, e = .returned (.pointer (some ⟨q, 0, none⟩)) ∧ Keeps (fun _ => False) w8 w' ∧ RBk w' w8.heap.size w'.heap.size q fiveLs) := rbookOf_ok (some ⟨g, 0, none⟩) fiveLs 30 w8 hrow8 (by decide) (by decide)
                clear HC3 hB8 hK8 hrow8 H7
                go_wp2_with fail
                refine HC4.out.mono ?_
                rintro e w9 ⟨q2, rfl, hK9, hB9⟩
                have H9 : Hid (Keeps (fun _ => False) w5 w9 ∧ RBk w9 w5.heap.size w9.heap.size q1 fixLs ∧ RBk w9 w5.heap.size w9.heap.size q2 fiveLs) := ⟨H8.out.1.trans hK9 (fun _ _ h => h), (H8.out.2.kept hK9 (fun _ _ _ h => h)).wider (Nat.le_refl _) hK9.size (Nat.le_refl _), hB9.wider H8.out.1.size (Nat.le_refl _) (Nat.le_refl _)⟩
                have HC : Hid (Calls Try.prog 22 #[.pointer (some ⟨b, 0, none⟩), .pointer (some ⟨q1, 0, none⟩), .pointer (some ⟨q2, 0, none⟩)] w9 fun e w' => e = .returned (.tuple #[]) ∧ FPost (inside m 1 L3 x1) w5 b v1 s m w') := by
                  refine (rcoded_ok (H5.out.1.keptF H9.out.1) H9.out.2.1 H9.out.2.2 ⟨.inl H5.out.1.lt, fun k e => .inl (H5.out.1.ownlt k e).2⟩ (by rw [fixLs_length]; omega) (by decide)).mono ?_
                  rintro e w' ⟨he, hP⟩
                  exact ⟨he, FPost.trans (FAdv.ofF b v1 H9.out.1) hP⟩
                clear HC4 hK9 hB9 H8 H9
                go_wp2_with fail
                refine HC.out.mono ?_
                rintro e w6 ⟨rfl, hP6⟩
                have H6 : Hid (Ist T m w3 b s l w6 ∧ (l = 0 → errAt w6 b = 0 → 8 * s.size - posOf w6 b < L1.length)) := HA.out w6 hP6
                clear HC hP6
                go_wp2
                go_roundw
                case rel => exact ⟨l, by omega, rfl, H6.out.1⟩
                case measure =>
                  have h7 := HS1.out.1.left
                  have h8 := HS1.out.2.2.2
                  have h9 := H6.out.2
                  by_cases hc : (l : Int) = 0 ∧ errAt w6 b = 0
                  · have := h9 (by omega) hc.2
                    simp only [intOf, h8, hc.1, hc.2]; simp; omega
                  · have hc' : ¬ (l = 0 ∧ errAt w6 b = 0) := fun e => hc ⟨by have := e.1; omega, e.2⟩
                    simp only [intOf, h8]; simp; rw [if_neg hc']; omega
              · have HC : Hid (Calls Try.prog 26 #[.pointer (some ⟨b, 0, none⟩)] w5 fun e w' => e = .returned (.tuple #[]) ∧ FPost (inside m 2 L3 x1) w5 b v1 s m w') := rdynamic_ok H5.out.1
                go_wp2_with fail
                refine HC.out.mono ?_
                rintro e w6 ⟨rfl, hP6⟩
                have H6 : Hid (Ist T m w3 b s l w6 ∧ (l = 0 → errAt w6 b = 0 → 8 * s.size - posOf w6 b < L1.length)) := HA.out w6 hP6
                clear HC hP6
                go_wp2
                go_roundw
                case rel => exact ⟨l, by omega, rfl, H6.out.1⟩
                case measure =>
                  have h7 := HS1.out.1.left
                  have h8 := HS1.out.2.2.2
                  have h9 := H6.out.2
                  by_cases hc : (l : Int) = 0 ∧ errAt w6 b = 0
                  · have := h9 (by omega) hc.2
                    simp only [intOf, h8, hc.1, hc.2]; simp; omega
                  · have hc' : ¬ (l = 0 ∧ errAt w6 b = 0) := fun e => hc ⟨by have := e.1; omega, e.2⟩
                    simp only [intOf, h8]; simp; rw [if_neg hc']; omega
              · have HC : Hid (Calls Try.prog 27 #[.pointer (some ⟨b, 0, none⟩)] w5 fun e w' => e = .returned (.tuple #[]) ∧ FPost (inside m 3 L3 x1) w5 b v1 s m w') := by
                  refine (wrong_ok H5.out.1).mono ?_
                  rintro e w' ⟨he, hS', hK'⟩
                  exact ⟨he, FPost.bad hS' (FAdv.ofB v1 hK')⟩
                go_wp2_with fail
                refine HC.out.mono ?_
                rintro e w6 ⟨rfl, hP6⟩
                have H6 : Hid (Ist T m w3 b s l w6 ∧ (l = 0 → errAt w6 b = 0 → 8 * s.size - posOf w6 b < L1.length)) := HA.out w6 hP6
                clear HC hP6
                go_wp2
                go_roundw
                case rel => exact ⟨l, by omega, rfl, H6.out.1⟩
                case measure =>
                  have h7 := HS1.out.1.left
                  have h8 := HS1.out.2.2.2
                  have h9 := H6.out.2
                  by_cases hc : (l : Int) = 0 ∧ errAt w6 b = 0
                  · have := h9 (by omega) hc.2
                    simp only [intOf, h8, hc.1, hc.2]; simp; omega
                  · have hc' : ¬ (l = 0 ∧ errAt w6 b = 0) := fun e => hc ⟨by have := e.1; omega, e.2⟩
                    simp only [intOf, h8]; simp; rw [if_neg hc']; omega
            · have e : R = .error 700 := HR.out.1 700 hbad
              subst e
              have HKK : Hid (Keeps (fun _ => False) w w5) := HKw.out w5 v1 H5.out.2
              have her : ¬ ((700 : Int) = 0) := by decide
              clear hbad
              go_wp2
              go_quiet (fail)
              go_wp2
              go_ret3
              exact InfPost.bad (HKK.out.drewN _)
          · obtain ⟨q, hq⟩ : ∃ q, s.size - L1.length / 8 = q := ⟨_, rfl⟩
            have e : R = .ok (x1, q) := by rw [← hq]; exact HR.out.2 L1 x1 (hok hl0)
            subst e
            have hlz : ¬ ((l : Int) = 0) := by omega
            have hlb : ((l : Int) == 0) = false := by simp; omega
            obtain ⟨p, p1, p2, p3⟩ := hS.fl
            have hpl : L1.length = 8 * s.size - p := by rw [p3, List.length_drop, bitsL_length, bytesOf_length]
            have hcp : wr.cell? ⟨b, 1, none⟩ = some (.int .i64 (p : Int)) := cell_of_heap p1 rfl
            have hz := hS.sz
            have hd1 : ((p : Int) + 7) / 8 = (q : Int) := by omega
            have hd2 : ((p : Int) + 7).tdiv 8 = (q : Int) := by rw [Int.tdiv_eq_ediv_of_nonneg (by omega)]; exact hd1
            have hd3 : IntKind.i64.wrap (q : Int) = (q : Int) := wrap_i64_small _ (by omega) (by omega)
            have hd4 : IntKind.i64.wrap ((p : Int) + 7) = (p : Int) + 7 := wrap_i64_small _ (by omega) (by omega)
            have hcv : ∀ n, (convert 37 9 v1).run Try.prog (wr.drewN n) = .ok (.string (textOf x1)) (wr.drewN n) := fun n => OwnB.text Try.underlying37 (show OwnB (wr.drewN n) (b + 1) v1 x1 from hS.own) hS.byt
            have HKK : Hid (Keeps (fun _ => False) w wr) := HKw.out wr v1 hA
            obtain ⟨av, cv, hv1⟩ := hS.own.form
            have HV : Hid (v1 = .slice av x1.length cv) := hv1
            clear hS hA hok hno c3 cf c1 hq p1 p2 p3 hpl hv1
            go_wp2
            go_quiet (fail)
            go_wp2
            go_ret3
            exact ⟨rfl, HKK.out.drewN _⟩
        · have e : R = .error er := HR.out.1 er hbad
          subst e
          have heb : (er == 0) = false := by simp; exact her
          have hen : ¬ (er = 0) := her
          have HKK : Hid (Keeps (fun _ => False) w wr) := HKw.out wr v1 hA
          clear hS hA c2 c3 cf c1 hbad her
          by_cases hl0 : l = 0
          · subst hl0
            go_wp2
            go_quiet (fail)
            go_wp2
            go_ret3
            exact InfPost.bad (HKK.out.drewN _)
          · have hlz : ¬ ((l : Int) = 0) := by omega
            have hlb : ((l : Int) == 0) = false := by simp; omega
            go_wp2
            go_quiet (fail)
            go_wp2
            go_ret3
            exact InfPost.bad (HKK.out.drewN _)

end Go.Proofs.Ytdbfbijalhknnaa

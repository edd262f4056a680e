/-
  spread, putCopy and told of package inflate: what a symbol stands for.
-/
import Derived.Test.YtdbfbijalhknnaaSymb
namespace Go.Proofs.Ytdbfbijalhknnaa
open Go.RowKit
open Hf Tb
set_option linter.unusedVariables false
set_option linter.unusedSimpArgs false

theorem NumPost.trans {R : Option (Nat × Bts)} {w w2 : World} {b r : Nat} {v : Value} {s : ByteArray} {most : Nat} {xs : List Nat} {e : Ending} {w' : World} (ha : Rdv w w2 b r v) (h : NumPost R w2 b r v s most xs e w') : NumPost R w b r v s most xs e w' :=
  ⟨fun hn => ⟨(h.1 hn).1, ha.lost (h.1 hn).2⟩, fun i L' hs => by obtain ⟨h1, h2, h3⟩ := h.2 i L' hs; exact ⟨h1, h2, ha.trans h3⟩⟩
theorem NumPost.none {w : World} {b r : Nat} {v : Value} {s : ByteArray} {most : Nat} {xs : List Nat} {w' : World} (h : Keeps (Own3 b r v) w w') : NumPost none w b r v s most xs (.returned (.tuple #[.int .i64 0, .int .i64 700])) w' :=
  ⟨fun _ => ⟨rfl, h⟩, fun _ _ e => by cases e⟩
theorem above_ok {w : World} {b r : Nat} {v : Value} {s : ByteArray} {most : Nat} {L : Bts} {xs : List Nat} (h : St w b r v s most L xs) (a k : Nat) (ha : a ≤ 100000) (hk : k ≤ 16) :
    Calls Try.prog 82 #[.pointer (some ⟨b, 0, none⟩), .int .i64 (a : Int), .int .i64 (k : Int)] w (NumPost (aboveL a k L) w b r v s most xs) := by
  rcases hg : aboveL a k L with _ | ⟨x, L'⟩
  · refine (above_none h a k hk hg).mono ?_
    rintro e w' ⟨rfl, h2⟩
    exact NumPost.none h2
  · refine (above_some h a k x L' ha hk hg).mono ?_
    rintro e w' ⟨rfl, h2⟩
    exact ⟨fun e => by (cases e), fun i L1 e => by cases e; exact ⟨rfl, h2⟩⟩

set_option maxHeartbeats 800000 in
theorem spreadL_ok {w : World} {b r : Nat} {v : Value} {s : ByteArray} {most : Nat} {L : Bts} {xs : List Nat} (h : St w b r v s most L xs) (i : Nat) :
    Calls Try.prog 75 #[.pointer (some ⟨b, 0, none⟩), .int .i64 (i : Int), .func (.func 76) #[] #[]] w (NumPost (sprL i L) w b r v s most xs) := by
  have HS : Hid (St w b r v s most L xs) := h
  clear h
  by_cases hi : 257 ≤ i ∧ i ≤ 285
  · have HC : Hid (Calls Try.prog 76 #[.int .i64 (i : Int)] w fun e w' => e = .returned (.tuple #[.int .i64 ((lenF (i - 257)).1 : Int), .int .i64 ((lenF (i - 257)).2 : Int), .int .i64 0]) ∧ Keeps (fun _ => False) w w') := by
      have := lengthOf_ok (i : Int) w
      have e : inLS (i : Int) = true := by unfold inLS; simp; omega
      unfold ofL at this
      rw [e, if_pos rfl, show ((i : Int) - 257).toNat = i - 257 by omega] at this
      exact this
    have HL : Hid ((lenF (i - 257)).1 ≤ 258 ∧ (lenF (i - 257)).2 ≤ 5) := lenF_le (i - 257) (by omega)
    have HE : Hid (sprL i = aboveL (lenF (i - 257)).1 (lenF (i - 257)).2) := by unfold sprL; exact if_pos hi
    rw [HE.out]
    generalize (lenF (i - 257)).1 = p at *
    generalize (lenF (i - 257)).2 = q at *
    clear hi HE
    go_enter Try.func75, Try.ntmps75
    go_wp2_with fail
    refine HC.out.mono ?_
    rintro e w2 ⟨rfl, hk2⟩
    have HA : Hid (St w2 b r v s most L xs ∧ Rdv w w2 b r v) := ⟨HS.out.keptF hk2, Rdv.ofF b r v hk2⟩
    clear hk2 HC
    go_wp2_with fail
    refine (above_ok HA.out.1 p q (by have := HL.out; omega) (by have := HL.out; omega)).mono ?_
    intro e w3 hP
    have HP : Hid (NumPost (aboveL p q L) w b r v s most xs e w3) := hP.trans HA.out.2
    clear hP
    rcases ha : aboveL p q L with _ | ⟨x, L1⟩
    · have HPn := HP.out.1 ha
      obtain ⟨rfl, hk⟩ := HPn
      clear hk ha
      go_wp2
      go_ret2
      exact HP.out
    · have HPn := HP.out.2 x L1 ha
      obtain ⟨rfl, hk⟩ := HPn
      clear hk ha
      go_wp2
      go_ret2
      exact HP.out
  · have HC : Hid (Calls Try.prog 76 #[.int .i64 (i : Int)] w fun e w' => e = .returned (.tuple #[.int .i64 0, .int .i64 0, .int .i64 600]) ∧ Keeps (fun _ => False) w w') := by
      have := lengthOf_ok (i : Int) w
      have e : inLS (i : Int) = false := by unfold inLS; simp; omega
      unfold ofL at this
      rw [e] at this
      exact this
    have HE : Hid (sprL i L = none) := by unfold sprL; rw [if_neg hi]; rfl
    rw [HE.out]
    clear hi HE
    go_enter Try.func75, Try.ntmps75
    go_wp2_with fail
    refine HC.out.mono ?_
    rintro e w2 ⟨rfl, hk2⟩
    have HA : Hid (Keeps (Own3 b r v) w w2) := (Adv.ofF b r v hk2).keep
    clear hk2 HC
    go_wp2
    go_ret2
    exact NumPost.none HA.out

set_option maxHeartbeats 800000 in
theorem spreadD_ok {w : World} {b r : Nat} {v : Value} {s : ByteArray} {most : Nat} {L : Bts} {xs : List Nat} (h : St w b r v s most L xs) (i : Nat) :
    Calls Try.prog 75 #[.pointer (some ⟨b, 0, none⟩), .int .i64 (i : Int), .func (.func 77) #[] #[]] w (NumPost (sprD i L) w b r v s most xs) := by
  have HS : Hid (St w b r v s most L xs) := h
  clear h
  by_cases hi : i ≤ 29
  · have HC : Hid (Calls Try.prog 77 #[.int .i64 (i : Int)] w fun e w' => e = .returned (.tuple #[.int .i64 ((dstF i).1 : Int), .int .i64 ((dstF i).2 : Int), .int .i64 0]) ∧ Keeps (fun _ => False) w w') := by
      have := distOf_ok (i : Int) w
      have e : inDS (i : Int) = true := by unfold inDS; simp; omega
      unfold ofD at this
      rw [e, if_pos rfl, show ((i : Int)).toNat = i by omega] at this
      exact this
    have HL : Hid ((dstF i).1 ≤ 24577 ∧ (dstF i).2 ≤ 13) := dstF_le i hi
    have HE : Hid (sprD i = aboveL (dstF i).1 (dstF i).2) := by unfold sprD; exact if_pos hi
    rw [HE.out]
    generalize (dstF i).1 = p at *
    generalize (dstF i).2 = q at *
    clear hi HE
    go_enter Try.func75, Try.ntmps75
    go_wp2_with fail
    refine HC.out.mono ?_
    rintro e w2 ⟨rfl, hk2⟩
    have HA : Hid (St w2 b r v s most L xs ∧ Rdv w w2 b r v) := ⟨HS.out.keptF hk2, Rdv.ofF b r v hk2⟩
    clear hk2 HC
    go_wp2_with fail
    refine (above_ok HA.out.1 p q (by have := HL.out; omega) (by have := HL.out; omega)).mono ?_
    intro e w3 hP
    have HP : Hid (NumPost (aboveL p q L) w b r v s most xs e w3) := hP.trans HA.out.2
    clear hP
    rcases ha : aboveL p q L with _ | ⟨x, L1⟩
    · have HPn := HP.out.1 ha
      obtain ⟨rfl, hk⟩ := HPn
      clear hk ha
      go_wp2
      go_ret2
      exact HP.out
    · have HPn := HP.out.2 x L1 ha
      obtain ⟨rfl, hk⟩ := HPn
      clear hk ha
      go_wp2
      go_ret2
      exact HP.out
  · have HC : Hid (Calls Try.prog 77 #[.int .i64 (i : Int)] w fun e w' => e = .returned (.tuple #[.int .i64 0, .int .i64 0, .int .i64 600]) ∧ Keeps (fun _ => False) w w') := by
      have := distOf_ok (i : Int) w
      have e : inDS (i : Int) = false := by unfold inDS; simp; omega
      unfold ofD at this
      rw [e] at this
      exact this
    have HE : Hid (sprD i L = none) := by unfold sprD; rw [if_neg hi]; rfl
    rw [HE.out]
    clear hi HE
    go_enter Try.func75, Try.ntmps75
    go_wp2_with fail
    refine HC.out.mono ?_
    rintro e w2 ⟨rfl, hk2⟩
    have HA : Hid (Keeps (Own3 b r v) w w2) := (Adv.ofF b r v hk2).keep
    clear hk2 HC
    go_wp2
    go_ret2
    exact NumPost.none HA.out

end Go.Proofs.Ytdbfbijalhknnaa

/-
  Inflate: the text that a stream comes to, for every text and every bound. strings.Clone: the same text; by the library's own contract of what it calls. What Unpack of package deflate answers. What the sums of layer 2 are, over lists of numbers below 256: the rest's step is linear and one to one. The machine's words on numbers of 32 bits, and the contracts of afterByte, Join and Of of package crc, for every world. Entries that may be, their texts, and what two of them come to (no program in sight). Which of two entries wins: the program's ranks, each called through its value. Which of two entries wins: beats. The program's maker of texts: Text and Len of package wire.
-/
import Derived.Test.YtfbghchgfbjogaaRows
import Derived.Test.YtfbghchgfbjogaaM09
import Derived.BigQuiet
import Derived.WalkKit
import Derived.WalkSpells
import Derived.WalkLawsBesides
import Derived.Shelf.Pu.Clone
import Derived.LoopN
import Derived.Laws.EntriesVeiled
import Derived.Deep.RegionHeld3
namespace Go.Proofs.Ytfbghchgfbjogaa
open Go.RowKit
open Hf Tb
set_option linter.unusedVariables false
set_option linter.unusedSimpArgs false

theorem OwnB.text {T : TypeId} (hT : Try.prog.underlying T = some (.slice 5)) {w : World} {base : Nat} {v : Value} {xs : List Nat} (h : OwnB w base v xs) (hx : ∀ y ∈ xs, y < 256) :
    (convert T 9 v).run Try.prog w = .ok (.string (textOf xs)) w := by
  by_cases h0 : xs.length = 0
  · have e : xs = [] := List.length_eq_zero_iff.1 h0
    subst e
    rcases h.2 with ⟨rfl, _⟩ | ⟨g, cap, cur, rfl, _⟩
    · exact run_convert_bytes_nil w T 5 hT Try.underlying5 0 0 9 Try.underlying9
    · exact run_convert_bytes_back w T 9 5 ⟨g, 0, none⟩ cap [] hT Try.underlying5 Try.underlying9 (fun j hj => by simp at hj)
  · obtain ⟨g, cap, rfl, _⟩ := h.cell 0 (by omega)
    have e : xs.length = (xs.map UInt8.ofNat).length := by rw [List.length_map]
    rw [e]
    refine run_convert_bytes_back w T 9 5 ⟨g, 0, none⟩ cap (xs.map UInt8.ofNat) hT Try.underlying5 Try.underlying9 ?_
    intro j hj
    rw [List.length_map] at hj
    obtain ⟨g', cap', e', hc⟩ := h.cell j hj
    simp only [Value.slice.injEq, Option.some.injEq, Addr.mk.injEq] at e'
    rw [addr_add, e'.1.1, hc]
    have : xs[j] < 256 := hx _ (List.getElem_mem hj)
    simp only [List.getElem_map, UInt8.toNat_ofNat']
    rw [Nat.mod_eq_of_lt (by omega)]

def txR : Except Int (List Nat × Nat) → ByteArray
  | .ok r => textOf r.1
  | .error _ => ⟨#[]⟩
def tkR : Except Int (List Nat × Nat) → Int
  | .ok r => (r.2 : Int)
  | .error _ => 0
def erR : Except Int (List Nat × Nat) → Int
  | .ok _ => 0
  | .error e => e
/-- What Inflate leaves. -/
def InfPost (R : Except Int (List Nat × Nat)) (w : World) (e : Ending) (w' : World) : Prop :=
  e = .returned (.tuple #[.string (txR R), .int .i64 (tkR R), .int .i64 (erR R)]) ∧ Keeps (fun _ => False) w w'
theorem InfPost.bad {er : Int} {w w' : World} (h : Keeps (fun _ => False) w w') : InfPost (.error er) w (.returned (.tuple #[.string ⟨#[]⟩, .int .i64 0, .int .i64 er])) w' := ⟨rfl, h⟩
set_option maxHeartbeats 4000000 in
set_option maxRecDepth 100000 in
theorem inflate_ok (s : ByteArray) (most : Int) (w : World) (hs : s.size ≤ 281474976710656) (hG : GRow w) :
    Calls Try.prog 28 #[.string s, .int .i64 most] w (InfPost (inflP (bytesOf s) most) w) := by
  obtain ⟨R, hR⟩ : ∃ R, inflP (bytesOf s) most = R := ⟨_, rfl⟩
  rw [hR]
  by_cases hm0 : most < 0
  · have e : R = .error 700 := by rw [← hR]; unfold inflP; rw [if_neg (by omega)]
    subst e
    clear hR
    go_enter Try.func28, Try.ntmps28
    go_wp2
    go_ret3
    exact InfPost.bad (Keeps.refl _ _)
  · by_cases hm1 : 8192 < most
    · have e : R = .error 700 := by rw [← hR]; unfold inflP; rw [if_neg (by omega)]
      subst e
      clear hR
      go_enter Try.func28, Try.ntmps28
      go_wp2
      go_ret3
      exact InfPost.bad (Keeps.refl _ _)
    · obtain ⟨m, rfl⟩ := Int.eq_ofNat_of_zero_le (show 0 ≤ most by omega)
      have hR2 : inflB (bytesOf s) m = R := by rw [← hR]; unfold inflP; rw [if_pos (by omega)]; rfl
      have hm2 : m ≤ 8192 := by omega
      have HR : Hid (inflB (bytesOf s) m = R) := hR2
      have HS : Hid (s.size ≤ 281474976710656 ∧ GRow w) := ⟨hs, hG⟩
      have HC : Hid (Calls Try.prog 36 #[.string s] w fun e w' => e = .returned (.pointer (some ⟨w.heap.size, 0, none⟩)) ∧ w' = w.alloc (.cells #[.string s, .int .i64 0] 85)) := of_any s w
      clear hR hR2 hs hG
      go_enter Try.func28, Try.ntmps28
      go_wp2_with fail
      refine HC.out.mono ?_
      rintro e w2 ⟨rfl, hw2⟩
      have H2 : Hid (Rd 85 w2 w.heap.size s 0 ∧ Keeps (fun _ => False) w w2 ∧ w2.heap.size = w.heap.size + 1) := by
        rw [hw2]; exact ⟨heap_alloc_new _ _, (Keeps.refl _ w).alloc _, by simp⟩
      clear hw2 HC
      go_wp2
      generalize hw3 : World.alloc _ _ = w3
      obtain ⟨b, hb⟩ : ∃ b, w2.heap.size = b := ⟨_, rfl⟩
      obtain ⟨r, hr⟩ : ∃ r, w.heap.size = r := ⟨_, rfl⟩
      rw [hb, hr]
      have H3 : Hid (St w3 b r (.slice none 0 0) s m (bitsL (bytesOf s)) [] ∧ Keeps (fun _ => False) w w3 ∧ w.heap.size ≤ r ∧ w.heap.size ≤ b) := by
        have h2 := H2.out
        rw [hr] at h2
        have hk : Keeps (fun _ => False) w2 w3 := by rw [← hw3]; exact (Keeps.refl _ w2).alloc _
        have hkw := h2.2.1.trans hk (fun _ _ h => h)
        refine ⟨⟨⟨.pointer none, ?_, .inl rfl⟩, ⟨0, h2.1.kept hk (fun h => h), by omega, by simp⟩, OwnB.nil _ _, by omega, HS.out.1, Nat.zero_le _, hm2, fun x hx => by cases hx⟩, hkw, by omega, by omega⟩
        rw [← hw3, ← hb, ← hr]; exact heap_alloc_new _ _
      clear hw3 hb hr H2
      have H4 : Hid (∃ L1 x1 v1, St w3 b r v1 s m L1 x1 ∧ Adv w3 w3 b r (.slice none 0 0) v1 ∧ (false = true → blocks m (bitsL (bytesOf s)) [] = .ok (L1, x1)) ∧ (false = false → blocks m (bitsL (bytesOf s)) [] = blocks m L1 x1)) := ⟨_, _, _, H3.out.1, Adv.refl _ _ _ _, fun e => by (cases e), fun _ => rfl⟩
      go_loopw [8] (fun s8 w' => ∃ t : Bool, s8 = .bool t ∧ Hid (∃ L1 x1 v1, St w' b r v1 s m L1 x1 ∧ Adv w3 w' b r (.slice none 0 0) v1 ∧ (t = true → blocks m (bitsL (bytesOf s)) [] = .ok (L1, x1)) ∧ (t = false → blocks m (bitsL (bytesOf s)) [] = blocks m L1 x1))) (fun s8 w' => match s8 with | .bool true => 0 | _ => 1 + (8 * s.size - posOf w' r))
      case atStart => exact ⟨false, rfl, H4⟩
      case round =>
        clear H4
        obtain ⟨t, rfl, HW⟩ := hrel
        obtain ⟨L1, x1, v1, hS, hA, ht, hf⟩ := HW.out
        clear HW
        cases t
        · have HS1 : Hid (St wr b r v1 s m L1 x1 ∧ Adv w3 wr b r (.slice none 0 0) v1 ∧ blocks m (bitsL (bytesOf s)) [] = blocks m L1 x1) := ⟨hS, hA, hf rfl⟩
          have HC : Hid (Calls Try.prog 37 #[.pointer (some ⟨b, 0, none⟩)] wr (BlkPost L1 x1 wr b r v1 s m)) := block_ok hS
          clear hS hA ht hf
          go_wp2_with fail
          refine HC.out.mono ?_
          intro e w5 hP
          clear HC
          rcases hP with ⟨er, t, hb, her, rfl, hk⟩ | ⟨t, L', o', v', rfl, hS5, hA5, ht5, hf5⟩
          · have e : R = .error er := by rw [← HR.out]; unfold inflB; rw [HS1.out.2.2, hb]
            subst e
            have HK : Hid (Keeps (fun _ => False) w w5) := by
              have k := HS1.out.2.1.lost hk
              refine H3.out.2.1.trans k ?_
              rintro i hi (e | e | e)
              · have := H3.out.2.2.2; omega
              · have := H3.out.2.2.1; omega
              · cases e
            have hne := her.ne
            clear hb her hk
            go_wp2
            go_ret3
            exact InfPost.bad HK.out
          · have H5 : Hid (∃ L1 x1 v1, St w5 b r v1 s m L1 x1 ∧ Adv w3 w5 b r (.slice none 0 0) v1 ∧ (t = true → blocks m (bitsL (bytesOf s)) [] = .ok (L1, x1)) ∧ (t = false → blocks m (bitsL (bytesOf s)) [] = blocks m L1 x1)) := ⟨L', o', v', hS5, HS1.out.2.1.trans hA5, fun e => by rw [HS1.out.2.2]; exact ht5 e, fun e => by rw [HS1.out.2.2]; exact (hf5 e).1⟩
            have HM : Hid (t = false → 8 * s.size - posOf w5 r < 8 * s.size - posOf wr r) := fun e => by rw [hS5.left, HS1.out.1.left]; exact (hf5 e).2
            clear hS5 hA5 ht5 hf5
            go_wp2
            go_roundw
            case rel => exact ⟨t, rfl, H5⟩
            case measure =>
              cases t
              · have := HM.out rfl; simp only; omega
              · simp only; omega
        · have hE := ht rfl
          have HC : Hid (Calls Try.prog 38 #[.pointer (some ⟨r, 0, none⟩)] wr fun e w' => e = .returned (.int .i64 0) ∧ St w' b r v1 s m (alignL L1) x1 ∧ Rdv wr w' b r v1) := hS.align
          have hc := hS.c0
          have HA : Hid (Adv w3 wr b r (.slice none 0 0) v1) := hA
          obtain ⟨q, hq⟩ : ∃ q, s.size - L1.length / 8 = q := ⟨_, rfl⟩
          have e : R = .ok (x1, q) := by rw [← HR.out]; unfold inflB; rw [hE, bytesOf_length, ← hq]
          subst e
          have HQ : Hid (s.size - L1.length / 8 = q) := hq
          clear hq
          clear hS hA ht hf hE HR
          go_wp2_with fail
          refine HC.out.mono ?_
          rintro e w5 ⟨rfl, hS5, hA5⟩
          clear HC hc
          obtain ⟨p, p1, p2, p3⟩ := hS5.rd
          have hpl : (alignL L1).length = 8 * s.size - p := by rw [p3, List.length_drop, bitsL_length, bytesOf_length]
          have hal : (alignL L1).length = L1.length / 8 * 8 := by unfold alignL; rw [List.length_drop]; omega
          have hpq : p / 8 = s.size - L1.length / 8 := by omega
          rw [HQ.out] at hpq
          have hz := hS5.sz
          have hd1 : (p : Int) / 8 = (q : Int) := by omega
          have hd2 : (p : Int).tdiv 8 = (q : Int) := by rw [Int.tdiv_eq_ediv_of_nonneg (by omega)]; exact hd1
          have hd3 : IntKind.i64.wrap (q : Int) = (q : Int) := wrap_i64_small _ (by omega) (by omega)
          have hc0 := hS5.c0
          have hc1 := hS5.c1
          have hcv : ∀ n, (convert 38 9 v1).run Try.prog (w5.drewN n) = .ok (.string (textOf x1)) (w5.drewN n) := fun n => OwnB.text Try.underlying38 (show OwnB (w5.drewN n) (b + 1) v1 x1 from hS5.own) hS5.byt
          have HAt : Hid (∀ n, Calls Try.prog 39 #[.pointer (some ⟨r, 0, none⟩)] (w5.drewN n) fun e w' => e = .returned (.int .i64 (p : Int)) ∧ w' = (w5.drewN n)) := fun n => at_ok r p s (w5.drewN n) p1
          have HK : Hid (Keeps (fun _ => False) w w5) := by
            have k := HA.out.lost hA5.keep
            refine H3.out.2.1.trans k ?_
            rintro i hi (e | e | e)
            · have := H3.out.2.2.2; omega
            · have := H3.out.2.2.1; omega
            · cases e
          obtain ⟨av, cv, hv1⟩ := hS5.own.form
          clear hS5 hA5 p1 p2 p3 hpl hal hpq HA H3
          have HV : Hid (v1 = .slice av x1.length cv) := hv1
          clear hv1
          go_wp2
          go_quiet ((go_at_call 39; exact Calls.quiet_of_same (HAt.out _)))
          go_wp2
          go_ret3
          exact ⟨rfl, HK.out.drewN _⟩

end Go.Proofs.Ytfbghchgfbjogaa

namespace Go.Proofs.Ytfbghchgfbjogaa.Bk
open Go.RowKit Go.Shelf
set_option linter.unusedVariables false
set_option linter.unusedSimpArgs false

def clRen : Ren := ⟨fun x => if x = 25 then 25 else 0, fun x => if x = 0 then 0 else if x = 3 then 3 else if x = 4 then 4 else if x = 5 then 5 else if x = 9 then 9 else if x = 37 then 38 else if x = 47 then 65 else 0, fun x => x⟩
set_option maxRecDepth 100000 in
theorem clLays : LaysPu.n25 Try.prog clRen where
  mixed := by kernel_rfl
  f25 := by kernel_rfl
  t0 := by kernel_rfl
  a0 := fun _ => by kernel_rfl
  z0 := fun _ => by kernel_rfl
  v0 := fun _ => by kernel_rfl
  i0 := by kernel_rfl
  t3 := by kernel_rfl
  a3 := fun _ => by kernel_rfl
  z3 := fun _ => by kernel_rfl
  v3 := fun _ => by kernel_rfl
  i3 := by kernel_rfl
  t4 := by kernel_rfl
  a4 := fun _ => by kernel_rfl
  z4 := fun _ => by kernel_rfl
  v4 := fun _ => by kernel_rfl
  i4 := by kernel_rfl
  t5 := by kernel_rfl
  a5 := fun _ => by kernel_rfl
  z5 := fun _ => by kernel_rfl
  v5 := fun _ => by kernel_rfl
  i5 := by kernel_rfl
  t9 := by kernel_rfl
  a9 := fun _ => by kernel_rfl
  z9 := fun _ => by kernel_rfl
  v9 := fun _ => by kernel_rfl
  i9 := by kernel_rfl
  t37 := by kernel_rfl
  a37 := fun _ => by kernel_rfl
  z37 := fun _ => by kernel_rfl
  v37 := fun _ => by kernel_rfl
  i37 := by kernel_rfl
  t47 := by kernel_rfl
  a47 := fun _ => by kernel_rfl
  z47 := fun _ => by kernel_rfl
  v47 := fun _ => by kernel_rfl
  i47 := by kernel_rfl
theorem lite_ok (s : ByteArray) (w : World) (hs : s.size ≤ 281474976710656) : Calls Try.prog 25 #[.string s] w fun e w' => e = .returned (.string s) ∧ Keeps (fun _ => False) w w' := by
  refine (AnyPu.stringslite_Clone clLays s w hs).mono ?_
  rintro e w' ⟨rfl, hb⟩
  exact ⟨rfl, hb.os, hb.tape, hb.output, hb.size, fun k hk _ => hb.block k hk⟩
theorem hideC {p : Prop} (h : p) : Hid p := h
set_option maxHeartbeats 1000000 in
set_option maxRecDepth 100000 in
theorem clone_ok (s : ByteArray) (w : World) (hs : s.size ≤ 281474976710656) : Calls Try.prog 18 #[.string s] w fun e w' => e = .returned (.string s) ∧ Keeps (fun _ => False) w w' := by
  have HC := hideC (lite_ok s w hs)
  go_enter Try.func18, Try.ntmps18
  go_wp2_with fail
  refine HC.out.mono ?_
  rintro e w1 ⟨rfl, hk1⟩
  have H1 := hideC hk1
  clear hk1 HC
  go_wp2
  go_ret
  exact ⟨rfl, H1.out⟩

end Go.Proofs.Ytfbghchgfbjogaa.Bk

namespace Go.Proofs.Ytfbghchgfbjogaa.Bk
open Go.RowKit
open Hf Tb
set_option linter.unusedVariables false
set_option linter.unusedSimpArgs false

theorem hide {p : Prop} (h : p) : Hid p := h

def infT (p : ByteArray) (n : Int) : ByteArray := txR (inflP (bytesOf p) n)

def infK (p : ByteArray) (n : Int) : Int := tkR (inflP (bytesOf p) n)

def infE (p : ByteArray) (n : Int) : Int := erR (inflP (bytesOf p) n)

def unT (m : Int) (p : ByteArray) (n : Int) : ByteArray × Int :=
  if n < 0 ∨ 300 < n then (⟨#[]⟩, 900)
  else if m = 0 then (if (p.size : Int) = n then (p, 0) else (⟨#[]⟩, 900))
  else if m = 8 then (if infE p n = 0 ∧ infK p n = (p.size : Int) ∧ ((infT p n).size : Int) = n then (infT p n, 0) else (⟨#[]⟩, 900))
  else (⟨#[]⟩, 900)

def StrPost (t : ByteArray) (er : Int) (w : World) (e : Ending) (w' : World) : Prop := e = .returned (.tuple #[.string t, .int .i64 er]) ∧ Keeps (fun _ => False) w w'

set_option maxHeartbeats 2000000 in
set_option maxRecDepth 100000 in
theorem unpack_ok (m : Int) (p : ByteArray) (n : Int) (w : World) (hp : p.size ≤ 281474976710656) :
    Calls Try.prog 22 #[.int .i64 m, .string p, .int .i64 n] w (StrPost (unT m p n).1 (unT m p n).2 w) := by
  have HC : Hid (∀ w, Calls Try.prog 18 #[.string p] w fun e w' => e = .returned (.string p) ∧ Keeps (fun _ => False) w w') := fun w => clone_ok p w (by omega)
  have HI : Hid (∀ w, Calls Try.prog 28 #[.string p, .int .i64 n] w fun e w' => e = .returned (.tuple #[.string (infT p n), .int .i64 (infK p n), .int .i64 (infE p n)]) ∧ Keeps (fun _ => False) w w') := fun w => inflate_ok p n w hp trivial
  unfold unT
  by_cases h1 : n < 0
  · rw [if_pos (.inl h1)]
    clear HC HI
    go_enter Try.func22, Try.ntmps22
    go_wp2
    go_ret2
    exact ⟨rfl, Keeps.refl _ w⟩
  · by_cases h2 : 300 < n
    · rw [if_pos (.inr h2)]
      clear HC HI
      go_enter Try.func22, Try.ntmps22
      go_wp2
      go_ret2
      exact ⟨rfl, Keeps.refl _ w⟩
    · rw [if_neg (by omega)]
      by_cases h3 : m = 0
      · subst h3
        rw [if_pos rfl]
        clear HI
        by_cases h4 : (p.size : Int) = n
        · rw [if_pos h4]
          go_enter Try.func22, Try.ntmps22
          go_wp2_with fail
          refine (HC.out w).mono ?_
          rintro e w1 ⟨rfl, hk1⟩
          have H1 := hide hk1
          clear hk1 HC
          go_wp2
          go_ret2
          exact ⟨rfl, H1.out⟩
        · rw [if_neg h4]
          clear HC
          go_enter Try.func22, Try.ntmps22
          go_wp2
          go_ret2
          exact ⟨rfl, Keeps.refl _ w⟩
      · rw [if_neg h3]
        by_cases h4 : m = 8
        · subst h4
          rw [if_pos rfl]
          clear HC
          generalize infT p n = X at *
          generalize infK p n = T at *
          generalize infE p n = E at *
          by_cases e1 : E = 0
          · subst e1
            by_cases e2 : T = (p.size : Int)
            · subst e2
              by_cases e3 : (X.size : Int) = n
              · rw [if_pos ⟨rfl, rfl, e3⟩]
                go_enter Try.func22, Try.ntmps22
                go_wp2_with fail
                refine (HI.out w).mono ?_
                rintro e w1 ⟨rfl, hk1⟩
                have H1 := hide hk1
                clear hk1 HI
                go_wp2
                go_ret2
                exact ⟨rfl, H1.out⟩
              · rw [if_neg (fun h => e3 h.2.2)]
                go_enter Try.func22, Try.ntmps22
                go_wp2_with fail
                refine (HI.out w).mono ?_
                rintro e w1 ⟨rfl, hk1⟩
                have H1 := hide hk1
                clear hk1 HI
                go_wp2
                go_ret2
                exact ⟨rfl, H1.out⟩
            · rw [if_neg (fun h => e2 h.2.1)]
              go_enter Try.func22, Try.ntmps22
              go_wp2_with fail
              refine (HI.out w).mono ?_
              rintro e w1 ⟨rfl, hk1⟩
              have H1 := hide hk1
              clear hk1 HI
              go_wp2
              go_ret2
              exact ⟨rfl, H1.out⟩
          · rw [if_neg (fun h => e1 h.1)]
            go_enter Try.func22, Try.ntmps22
            go_wp2_with fail
            refine (HI.out w).mono ?_
            rintro e w1 ⟨rfl, hk1⟩
            have H1 := hide hk1
            clear hk1 HI
            go_wp2
            go_ret2
            exact ⟨rfl, H1.out⟩
        · rw [if_neg h4]
          clear HC HI
          go_enter Try.func22, Try.ntmps22
          go_wp2
          go_ret2
          exact ⟨rfl, Keeps.refl _ w⟩

end Go.Proofs.Ytfbghchgfbjogaa.Bk

namespace Go.Proofs.Ytfbghchgfbjogaa.Cr
open Go.RowKit
set_option linter.unusedVariables false
set_option linter.unusedSimpArgs false

/-- One bit further. -/
def st (x : Nat) : Nat := (x / 2) ^^^ (if x % 2 = 1 then 3988292384 else 0)
def stN : Nat → Nat → Nat
  | 0, x => x
  | n + 1, x => stN n (st x)
def st8 (x : Nat) : Nat := stN 8 x
def turnL (x : Nat) (l : List Nat) : Nat := l.foldl (fun x b => st8 (x ^^^ b)) x
def flipW (x : Nat) : Nat := 4294967295 ^^^ x
def joinL (a : Nat) (l : List Nat) : Nat := flipW (turnL (flipW a) l)

theorem st_lt {x : Nat} (h : x < 4294967296) : st x < 4294967296 := by
  unfold st
  have : x / 2 < 2 ^ 32 := by omega
  refine Nat.xor_lt_two_pow (n := 32) this ?_
  split <;> decide
theorem stN_lt {x : Nat} (h : x < 4294967296) (n : Nat) : stN n x < 4294967296 := by
  induction n generalizing x with
  | zero => exact h
  | succ n ih => exact ih (st_lt h)
theorem st8_lt {x : Nat} (h : x < 4294967296) : st8 x < 4294967296 := stN_lt h 8
theorem stN_succ' (n x : Nat) : stN (n + 1) x = st (stN n x) := by
  induction n generalizing x with
  | zero => rfl
  | succ n ih => exact ih (st x)
theorem xor32 {a b : Nat} (ha : a < 4294967296) (hb : b < 4294967296) : a ^^^ b < 4294967296 := Nat.xor_lt_two_pow (n := 32) ha hb
theorem flipW_lt {x : Nat} (h : x < 4294967296) : flipW x < 4294967296 := by
  unfold flipW
  have h0 : (4294967295 : Nat) < 4294967296 := by omega
  exact xor32 h0 h
theorem turnL_lt {x : Nat} (h : x < 4294967296) (l : List Nat) (hl : ∀ b ∈ l, b < 256) : turnL x l < 4294967296 := by
  induction l generalizing x with
  | nil => exact h
  | cons b l ih =>
    refine ih (st8_lt (xor32 h ?_)) (fun c hc => hl c (List.mem_cons_of_mem _ hc))
    have := hl b (List.mem_cons_self ..); omega
theorem turnL_snoc (x : Nat) (l : List Nat) (b : Nat) : turnL x (l ++ [b]) = st8 (turnL x l ^^^ b) := by simp [turnL, List.foldl_append]
theorem joinL_lt {x : Nat} (h : x < 4294967296) (l : List Nat) (hl : ∀ b ∈ l, b < 256) : joinL x l < 4294967296 := flipW_lt (turnL_lt (flipW_lt h) l hl)
end Go.Proofs.Ytfbghchgfbjogaa.Cr

namespace Go.Proofs.Ytfbghchgfbjogaa.Cr
open Go.RowKit
set_option linter.unusedVariables false
set_option linter.unusedSimpArgs false

theorem wrap_u32_small (n : Int) (h0 : 0 ≤ n) (h1 : n < 4294967296) : IntKind.u32.wrap n = n := by
  simp [IntKind.wrap, IntKind.bits, IntKind.signed]; omega
theorem ofInt32_toNat (a : Nat) (h : a < 4294967296) : (BitVec.ofInt 32 (a : Int)).toNat = a := by
  rw [BitVec.ofInt_natCast, BitVec.toNat_ofNat]; exact Nat.mod_eq_of_lt (by omega)
theorem u32_xor_nat (a b : Nat) (ha : a < 4294967296) (hb : b < 4294967296) : bits .xor .u32 (a : Int) (b : Int) = ((a ^^^ b : Nat) : Int) := by
  show IntKind.u32.wrap (((BitVec.ofInt 32 (a : Int) ^^^ BitVec.ofInt 32 (b : Int)).toNat : Nat) : Int) = _
  rw [BitVec.toNat_xor, ofInt32_toNat a ha, ofInt32_toNat b hb]
  have := xor32 ha hb
  exact wrap_u32_small _ (by omega) (by omega)
theorem u32_and_one (a : Nat) (ha : a < 4294967296) : bits .and .u32 (a : Int) 1 = ((a % 2 : Nat) : Int) := by
  show IntKind.u32.wrap (((BitVec.ofInt 32 (a : Int) &&& BitVec.ofInt 32 ((1 : Nat) : Int)).toNat : Nat) : Int) = _
  rw [BitVec.toNat_and, ofInt32_toNat a ha, ofInt32_toNat 1 (by decide), Nat.and_one_is_mod]
  exact wrap_u32_small _ (by omega) (by omega)

theorem st_odd (x : Nat) (hx : x < 4294967296) (h : x % 2 = 1) : bits .xor .u32 ((x : Int) / 2) 3988292384 = ((st x : Nat) : Int) := by
  have e : (x : Int) / 2 = ((x / 2 : Nat) : Int) := by omega
  rw [e, show (3988292384 : Int) = ((3988292384 : Nat) : Int) from rfl, u32_xor_nat _ _ (by omega) (by omega)]
  unfold st; rw [if_pos h]
theorem st_even (x : Nat) (h : x % 2 = 0) : (x : Int) / 2 = ((st x : Nat) : Int) := by
  have e : st x = x / 2 := by unfold st; rw [if_neg (by omega), Nat.xor_zero]
  rw [e]; omega

set_option maxHeartbeats 400000 in
theorem after_ok (x : Nat) (w : World) (hx : x < 4294967296) :
    Calls Try.prog 40 #[.int .u32 x] w fun e w' => e = .returned (.int .u32 (st8 x : Nat)) ∧ w' = w := by
  have HX : Hid (x < 4294967296) := hx
  clear hx
  go_enter Try.func40, Try.ntmps40
  go_wp2
  go_loopw [0, 4] (fun r i w' => w' = w ∧ ∃ j : Nat, j ≤ 8 ∧ i = .int .i64 j ∧ r = .int .u32 ((stN j x : Nat) : Int)) (fun _ i _ => 8 - (intOf i).toNat)
  case atStart => exact ⟨rfl, 0, Nat.zero_le _, rfl, rfl⟩
  case round =>
    obtain ⟨rfl, j, hj, rfl, rfl⟩ := hrel
    have HL : Hid (stN j x < 4294967296) := stN_lt HX.out j
    have HN : Hid (stN (j + 1) x = st (stN j x)) := stN_succ' j x
    by_cases hlt : j < 8
    · rcases Nat.mod_two_eq_zero_or_one (stN j x) with h0 | h1
      · have HA : bits .and .u32 ((stN j x : Nat) : Int) 1 = 0 := by rw [u32_and_one _ HL.out, h0]; rfl
        have HE : Hid (((stN j x : Nat) : Int) / 2 = ((st (stN j x) : Nat) : Int)) := st_even _ h0
        clear h0
        go_wp2
        go_roundw
        case rel => exact ⟨trivial, j + 1, by omega, by go_num, by rw [HN.out, HE.out]⟩
        case measure => simp [intOf]; omega
      · have HA : bits .and .u32 ((stN j x : Nat) : Int) 1 = 1 := by rw [u32_and_one _ HL.out, h1]; rfl
        have HE : Hid (bits .xor .u32 (((stN j x : Nat) : Int) / 2) 3988292384 = ((st (stN j x) : Nat) : Int)) := st_odd _ HL.out h1
        clear h1
        go_wp2
        go_roundw
        case rel => exact ⟨trivial, j + 1, by omega, by go_num, by rw [HN.out, HE.out]⟩
        case measure => simp [intOf]; omega
    · go_wp2
      go_ret
      have : j = 8 := by omega
      subst this
      exact ⟨rfl, rfl⟩

theorem bytesOf_lt (s : ByteArray) : ∀ y ∈ bytesOf s, y < 256 := by
  intro y hy
  obtain ⟨b, _, rfl⟩ := List.mem_map.1 hy
  exact UInt8.toNat_lt b
theorem bytesOf_snoc (s : ByteArray) (j : Nat) (h : j < s.size) : (bytesOf s).take (j + 1) = (bytesOf s).take j ++ [s[j].toNat] := by
  have h' : j < (bytesOf s).length := by rw [bytesOf_length]; exact h
  have := bytesOf_get s j h
  rw [List.getD, List.getElem?_eq_getElem h', Option.getD_some] at this
  rw [List.take_add_one, List.getElem?_eq_getElem h', this]; rfl
/-- The number for which a number stands. -/
def low32 (a : Int) : Nat := (a % 4294967296).toNat
theorem low32_lt (a : Int) : low32 a < 4294967296 := by unfold low32; omega
def joinS (a : Int) (s : ByteArray) : Nat := joinL (low32 a) (bytesOf s)
theorem joinS_lt (a : Int) (s : ByteArray) : joinS a s < 4294967296 := joinL_lt (low32_lt a) _ (bytesOf_lt s)
theorem u32_flip (x : Nat) (hx : x < 4294967296) : bits .xor .u32 IntKind.u32.max (x : Int) = ((flipW x : Nat) : Int) := by
  rw [show IntKind.u32.max = ((4294967295 : Nat) : Int) by decide, u32_xor_nat _ _ (by omega) hx]; rfl
theorem low32_cast (a : Int) : a % 4294967296 = ((low32 a : Nat) : Int) := by unfold low32; omega
theorem u32_flip_low (a : Int) : bits .xor .u32 IntKind.u32.max (a % 4294967296) = ((flipW (low32 a) : Nat) : Int) := by
  rw [low32_cast, u32_flip _ (low32_lt a)]
def restAt (x : Nat) (s : ByteArray) (j : Nat) : Nat := turnL x ((bytesOf s).take j)
theorem restAt_lt {x : Nat} (hx : x < 4294967296) (s : ByteArray) (j : Nat) : restAt x s j < 4294967296 := turnL_lt hx _ (fun y hy => bytesOf_lt s y (List.mem_of_mem_take hy))
theorem restAt_succ (x : Nat) (s : ByteArray) (j : Nat) (h : j < s.size) : restAt x s (j + 1) = st8 (restAt x s j ^^^ s[j].toNat) := by
  unfold restAt; rw [bytesOf_snoc s j h, turnL_snoc]
theorem restAt_all (x : Nat) (s : ByteArray) : restAt x s s.size = turnL x (bytesOf s) := by
  unfold restAt; rw [← bytesOf_length, List.take_length]

set_option maxHeartbeats 400000 in
theorem join_ok (a : Int) (s : ByteArray) (w : World) (hs : s.size ≤ 1125899906842624) :
    Calls Try.prog 29 #[.int .i64 a, .string s] w fun e w' => e = .returned (.int .i64 (joinS a s : Nat)) ∧ w' = w := by
  have HS : Hid (s.size ≤ 1125899906842624) := hs
  clear hs
  have HF := u32_flip_low a
  have HFL := flipW_lt (low32_lt a)
  have HJ : Hid (joinS a s = flipW (restAt (flipW (low32 a)) s s.size)) := by rw [restAt_all]; rfl
  go_enter Try.func29, Try.ntmps29
  go_wp2
  go_loopw [5, 12] (fun r i w' => w' = w ∧ ∃ j : Nat, j ≤ s.size ∧ i = .int .i64 j ∧ r = .int .u32 ((restAt (flipW (low32 a)) s j : Nat) : Int)) (fun _ i _ => s.size - (intOf i).toNat)
  case atStart => exact ⟨rfl, 0, Nat.zero_le _, rfl, rfl⟩
  case round =>
    clear HF
    obtain ⟨rfl, j, hj, rfl, rfl⟩ := hrel
    have HL : Hid (restAt (flipW (low32 a)) s j < 4294967296) := restAt_lt HFL s j
    by_cases hlt : j < s.size
    · have hb : s[j].toNat < 256 := UInt8.toNat_lt _
      have HB : bits .xor .u32 ((restAt (flipW (low32 a)) s j : Nat) : Int) ((s[j].toNat : Int) % 4294967296) = ((restAt (flipW (low32 a)) s j ^^^ s[j].toNat : Nat) : Int) := by
        rw [show ((s[j].toNat : Int) % 4294967296) = ((s[j].toNat : Nat) : Int) by omega, u32_xor_nat _ _ HL.out (by omega)]
      have HT : Hid (restAt (flipW (low32 a)) s j ^^^ s[j].toNat < 4294967296) := xor32 HL.out (by omega)
      have HN : Hid (restAt (flipW (low32 a)) s (j + 1) = st8 (restAt (flipW (low32 a)) s j ^^^ s[j].toNat)) := restAt_succ _ s j hlt
      clear hb
      go_wp2_with fail
      refine (after_ok _ wr HT.out).mono ?_
      rintro e w' ⟨rfl, hw⟩
      obtain rfl := hw.symm; clear hw
      rw [← HN.out]
      have hs' := HS.out
      go_wp2
      go_roundw
      case rel => exact ⟨trivial, j + 1, by omega, by go_num, rfl⟩
      case measure => simp [intOf]; omega
    · have : j = s.size := by omega
      subst this
      have HE := u32_flip _ HL.out
      rw [← HJ.out] at HE
      have HW : wrap64 ((joinS a s : Nat) : Int) = ((joinS a s : Nat) : Int) := by have := joinS_lt a s; simp only [wrap64]; omega
      go_wp2
      go_ret
      exact ⟨congrArg (fun z => Ending.returned (Value.int .i64 z)) HW, rfl⟩

set_option maxHeartbeats 400000 in
theorem of_ok (s : ByteArray) (w : World) (hs : s.size ≤ 1125899906842624) :
    Calls Try.prog 23 #[.string s] w fun e w' => e = .returned (.int .i64 (joinS 0 s : Nat)) ∧ w' = w := by
  have HJ := join_ok 0 s
  go_enter Try.func23, Try.ntmps23
  go_wp2_with fail
  refine (join_ok 0 s w hs).mono ?_
  rintro e w' ⟨rfl, hw⟩
  obtain rfl := hw.symm; clear hw
  go_wp2
  go_ret
  exact ⟨rfl, rfl⟩

set_option maxHeartbeats 400000 in
theorem num_any (n : Int) (w : World) :
    Calls Try.prog 10 #[.int .i64 n] w fun e w' => e = .returned (.int .i64 n) ∧ w' = w := by
  go_enter Try.func10, Try.ntmps10
  go_wp2
  go_ret
  exact ⟨rfl, rfl⟩

end Go.Proofs.Ytfbghchgfbjogaa.Cr

namespace Go.Proofs.Ytfbghchgfbjogaa.Zp
open Go.RowKit
set_option linter.unusedVariables false
set_option linter.unusedSimpArgs false

/-- Is a text's sum what the entry tells? -/
def okT (e : Ent) : Bool := decide ((Bk.unT e.mt e.pk e.sz).2 = 0) && decide (((Cr.joinS 0 (Bk.unT e.mt e.pk e.sz).1 : Nat) : Int) = e.cr)
/-- May an entry be? Its text, and what Text answers. -/
def mayE (x : It) : Bool := heldB x && (x.1.gn || okT x.1)
def txtE (x : It) : ByteArray := bif mayE x && !x.1.gn then (Bk.unT x.1.mt x.1.pk x.1.sz).1 else ⟨#[]⟩
def tErr (x : It) : Int := bif mayE x then (bif x.1.gn then 1501 else 0) else 1500
/-- Does the first one win over the second? -/
def beatB (y x : Ent) : Bool := decide (x.st < y.st) || (decide (x.st = y.st) && decide (x.nd < y.nd))
def mayM (x y : It) : Bool := mayE x && (mayE y && decide (x.1.nm = y.1.nm))
def mErr (x y : It) : Int := bif mayM x y then 0 else 1500
def wonE (x y : It) : Ent := bif beatB y.1 x.1 then y.1 else x.1
/-- What two come to: the entry, its vector. -/
def mEnt (x y : It) : Ent := bif mayM x y then (wonE x y).vec none 0 0 else Ent.zero
def mVec (x y : It) : List Int := bif mayM x y then joinL x.2 y.2 else []
def mrg (x y : It) : It := (mEnt x y, mVec x y)

theorem mayE_held {x : It} (h : mayE x = true) : heldB x = true := by
  simp only [mayE, Bool.and_eq_true] at h; exact h.1
theorem mayE_vec {x : It} (h : mayE x = true) : mayB x.2 = true := headB_may (heldB_head (mayE_held h))
/-- With another vector it may be as well. -/
theorem may_vec {x : It} (h : mayE x = true) (a : Option Addr) (n c : Nat) {zs : List Int} (hz : mayB zs = true) : mayE (x.1.vec a n c, zs) = true := by
  have h1 := mayE_held h
  have h2 := headB_st (heldB_head h1)
  have h3 : headB zs x.1.st x.1.nd = true := headB_of hz h2.1 h2.2
  simp only [mayE, heldB, Bool.and_eq_true] at h ⊢
  exact ⟨⟨h3, h.1.2⟩, h.2⟩
theorem won_or (x y : It) : wonE x y = x.1 ∨ wonE x y = y.1 := by unfold wonE; cases beatB y.1 x.1 <;> simp
theorem mayM_l {x y : It} (h : mayM x y = true) : mayE x = true := by simp only [mayM, Bool.and_eq_true] at h; exact h.1
theorem mayM_r {x y : It} (h : mayM x y = true) : mayE y = true := by simp only [mayM, Bool.and_eq_true] at h; exact h.2.1
theorem mayM_n {x y : It} (h : mayM x y = true) : x.1.nm = y.1.nm := by simp only [mayM, Bool.and_eq_true, decide_eq_true_eq] at h; exact h.2.2
theorem mayM_of {x y : It} (h1 : mayE x = true) (h2 : mayE y = true) (h3 : x.1.nm = y.1.nm) : mayM x y = true := by simp only [mayM, Bool.and_eq_true, decide_eq_true_eq]; exact ⟨h1, h2, h3⟩
theorem jmay {x y : It} (h1 : mayE x = true) (h2 : mayE y = true) : mayB (joinL x.2 y.2) = true :=
  mayB_of (joinL_len x.2 y.2) (fun i hi => by
    rw [joinL_at _ _ _ (by rw [joinL_len] at hi; exact hi)]
    have a := mayB_cnt (mayE_vec h1) i
    have b := mayB_cnt (mayE_vec h2) i
    omega)
/-- What two come to may be. -/
theorem mrg_may {x y : It} (h : mayM x y = true) : mayE (mrg x y) = true := by
  have h1 := mayM_l h
  have h2 := mayM_r h
  have e : mrg x y = ((wonE x y).vec none 0 0, joinL x.2 y.2) := by unfold mrg mEnt mVec; rw [h]; rfl
  rw [e]
  rcases won_or x y with q | q <;> rw [q]
  · exact may_vec h1 _ _ _ (jmay h1 h2)
  · exact may_vec h2 _ _ _ (jmay h1 h2)
theorem mrg_eq {x y : It} (h : mayM x y = true) : mrg x y = ((wonE x y).vec none 0 0, joinL x.2 y.2) := by unfold mrg mEnt mVec; rw [h]; rfl
theorem mrg_nm {x y : It} (h : mayM x y = true) : (mrg x y).1.nm = x.1.nm := by
  rw [mrg_eq h]
  rcases won_or x y with q | q <;> rw [q]
  · rfl
  · exact (mayM_n h).symm
/-- Where the vectors lie does not matter. -/
theorem mEnt_vec (x y : It) (a a' : Option Addr) (n n' c c' : Nat) : mEnt (x.1.vec a n c, x.2) (y.1.vec a' n' c', y.2) = mEnt x y ∧ mVec (x.1.vec a n c, x.2) (y.1.vec a' n' c', y.2) = mVec x y ∧ mErr (x.1.vec a n c, x.2) (y.1.vec a' n' c', y.2) = mErr x y := by
  have e : mayM (x.1.vec a n c, x.2) (y.1.vec a' n' c', y.2) = mayM x y := rfl
  have e2 : (wonE (x.1.vec a n c, x.2) (y.1.vec a' n' c', y.2)).vec none 0 0 = (wonE x y).vec none 0 0 := by
    have : beatB (y.1.vec a' n' c') (x.1.vec a n c) = beatB y.1 x.1 := rfl
    unfold wonE
    rw [this]
    cases beatB y.1 x.1 <;> rfl
  refine ⟨?_, ?_, ?_⟩
  · unfold mEnt; rw [e, e2]
  · unfold mVec; rw [e]
  · unfold mErr; rw [e]
theorem e_comm (ys zs : List Int) : joinL ys zs = joinL zs ys :=
  at_ext (by rw [joinL_len, joinL_len]) (fun i hi => by
    rw [joinL_len] at hi
    rw [joinL_at _ _ _ hi, joinL_at _ _ _ hi]; exact Int.max_comm _ _)
theorem e_assoc (xs ys zs : List Int) : joinL (joinL xs ys) zs = joinL xs (joinL ys zs) :=
  at_ext (by rw [joinL_len, joinL_len]) (fun i hi => by
    rw [joinL_len] at hi
    rw [joinL_at _ _ _ hi, joinL_at _ _ _ hi, joinL_at _ _ _ hi, joinL_at _ _ _ hi]
    generalize at_ xs i = x
    generalize at_ ys i = y
    generalize at_ zs i = z
    omega)
theorem e_idem (xs : List Int) (h : xs.length = 4) : joinL xs xs = xs :=
  at_ext (by rw [joinL_len, h]) (fun i hi => by
    rw [joinL_len] at hi
    rw [joinL_at _ _ _ hi]; omega)
theorem e_back (xs ys : List Int) : joinL (joinL xs ys) xs = joinL xs ys :=
  at_ext (by rw [joinL_len, joinL_len]) (fun i hi => by
    rw [joinL_len] at hi
    rw [joinL_at _ _ _ hi, joinL_at _ _ _ hi]
    generalize at_ xs i = x
    generalize at_ ys i = y
    omega)

theorem beat_yes {x y : Ent} (h : x.st < y.st) : beatB y x = true := by simp [beatB, h]
theorem beat_no {x y : Ent} (h : y.st < x.st) : beatB y x = false := by simp [beatB]; omega
theorem beat_self {x y : Ent} (h : x.st = y.st) (h2 : x.nd = y.nd) : beatB y x = false := by simp [beatB]; omega
theorem won_yes {x y : It} (h : x.1.st < y.1.st) : wonE x y = y.1 := by unfold wonE; rw [beat_yes h]; rfl
theorem won_no {x y : It} (h : y.1.st < x.1.st) : wonE x y = x.1 := by unfold wonE; rw [beat_no h]; rfl
theorem won_self {x y : It} (h : x.1.st = y.1.st) (h2 : x.1.nd = y.1.nd) : wonE x y = x.1 := by unfold wonE; rw [beat_self h h2]; rfl
theorem mrg_comm {x y : It} (h1 : mayE x = true) (h2 : mayE y = true) (hn : x.1.nm = y.1.nm) (hs : x.1.st ≠ y.1.st) : mrg x y = mrg y x := by
  rw [mrg_eq (mayM_of h1 h2 hn), mrg_eq (mayM_of h2 h1 hn.symm), e_comm x.2 y.2]
  by_cases h : x.1.st < y.1.st
  · rw [won_yes h, won_no h]
  · rw [won_no (by omega), won_yes (by omega)]
theorem mrg_self {x y : It} (h1 : mayE x = true) (h2 : mayE y = true) (hn : x.1.nm = y.1.nm) : mrg (mrg x y) (mrg x y) = mrg x y := by
  have hm := mayM_of h1 h2 hn
  have h3 := mrg_may hm
  rw [mrg_eq (mayM_of h3 h3 rfl), won_self rfl rfl]
  have hv : (mrg x y).2 = joinL x.2 y.2 := by rw [mrg_eq hm]
  have e1 : (mrg x y).1.vec none 0 0 = (mrg x y).1 := by rw [mrg_eq hm]; rfl
  rw [e1, e_idem _ (mayB_len (mayE_vec h3))]
theorem mrg_back {x y : It} (h1 : mayE x = true) (h2 : mayE y = true) (hn : x.1.nm = y.1.nm) (hs : x.1.st ≠ y.1.st) : mrg (mrg x y) x = mrg x y := by
  have hm := mayM_of h1 h2 hn
  have h3 := mrg_may hm
  rw [mrg_eq (mayM_of h3 h1 (mrg_nm hm))]
  rw [mrg_eq hm]
  simp only
  rw [e_back]
  by_cases h : x.1.st < y.1.st
  · rw [won_yes h, won_no (x := (y.1.vec none 0 0, joinL x.2 y.2)) (y := x) h]; rfl
  · have h' : y.1.st < x.1.st := by omega
    rw [won_no h', won_self (x := (x.1.vec none 0 0, joinL x.2 y.2)) (y := x) rfl rfl]; rfl
theorem mrg_assoc {x y z : It} (h1 : mayE x = true) (h2 : mayE y = true) (h3 : mayE z = true) (hn : x.1.nm = y.1.nm) (hn2 : y.1.nm = z.1.nm) (s1 : x.1.st ≠ y.1.st) (s2 : y.1.st ≠ z.1.st) (s3 : x.1.st ≠ z.1.st) : mrg (mrg x y) z = mrg x (mrg y z) := by
  have hm := mayM_of h1 h2 hn
  have hm2 := mayM_of h2 h3 hn2
  have h4 := mrg_may hm
  have h5 := mrg_may hm2
  rw [mrg_eq (mayM_of h4 h3 ((mrg_nm hm).trans (hn.trans hn2))), mrg_eq (mayM_of h1 h5 (hn.trans (mrg_nm hm2).symm))]
  rw [mrg_eq hm, mrg_eq hm2]
  simp only
  rw [e_assoc]
  by_cases q1 : x.1.st < y.1.st
  · rw [won_yes q1]
    by_cases q2 : y.1.st < z.1.st
    · rw [won_yes q2, won_yes (x := (y.1.vec none 0 0, joinL x.2 y.2)) (y := z) q2, won_yes (x := x) (y := (z.1.vec none 0 0, joinL y.2 z.2)) (by show x.1.st < z.1.st; omega)]; try rfl
    · have q3 : z.1.st < y.1.st := by omega
      rw [won_no q3, won_no (x := (y.1.vec none 0 0, joinL x.2 y.2)) (y := z) q3, won_yes (x := x) (y := (y.1.vec none 0 0, joinL y.2 z.2)) q1]; try rfl
  · have q1' : y.1.st < x.1.st := by omega
    rw [won_no q1']
    by_cases q2 : y.1.st < z.1.st
    · rw [won_yes q2]
      by_cases q3 : x.1.st < z.1.st
      · rw [won_yes (x := (x.1.vec none 0 0, joinL x.2 y.2)) (y := z) q3, won_yes (x := x) (y := (z.1.vec none 0 0, joinL y.2 z.2)) q3]; try rfl
      · have q3' : z.1.st < x.1.st := by omega
        rw [won_no (x := (x.1.vec none 0 0, joinL x.2 y.2)) (y := z) q3', won_no (x := x) (y := (z.1.vec none 0 0, joinL y.2 z.2)) q3']; try rfl
    · have q2' : z.1.st < y.1.st := by omega
      rw [won_no q2', won_no (x := (x.1.vec none 0 0, joinL x.2 y.2)) (y := z) (by show z.1.st < x.1.st; omega), won_no (x := x) (y := (y.1.vec none 0 0, joinL y.2 z.2)) q1']; try rfl

end Go.Proofs.Ytfbghchgfbjogaa.Zp

namespace Go.Proofs.Ytfbghchgfbjogaa.Zp
open Go.RowKit
set_option linter.unusedVariables false
set_option linter.unusedSimpArgs false

/-- Block b is a side. -/
def Sdb (w : World) (b : Nat) (e : Ent) : Prop := w.heap[b]? = some (.cells #[.string e.nm, .bool e.gn, .slice e.va e.vn e.vc, .int .i64 e.st, .int .i64 e.nd, .int .i64 e.mt, .string e.pk, .int .i64 e.sz, .int .i64 e.cr] 46 (0, 0))
theorem Sdb.lt {w : World} {b : Nat} {e : Ent} (h : Sdb w b e) : b < w.heap.size := lt_of_heap h
theorem Sdb.keptF {w w' : World} {b : Nat} {e : Ent} (h : Sdb w b e) (hk : Keeps (fun _ => False) w w') : Sdb w' b e := (hk.block b h.lt (fun h => h)).trans h
theorem Sdb.c3 {w : World} {b : Nat} {e : Ent} (h : Sdb w b e) : w.cell? ⟨b, 3, none⟩ = some (.int .i64 e.st) := cell_of_heap h rfl
theorem Sdb.c4 {w : World} {b : Nat} {e : Ent} (h : Sdb w b e) : w.cell? ⟨b, 4, none⟩ = some (.int .i64 e.nd) := cell_of_heap h rfl
theorem Sdb.cells {w : World} {b : Nat} {e : Ent} (h : Sdb w b e) : w.cell? ⟨b, 0, none⟩ = some (.string e.nm) ∧ w.cell? ⟨b, 1, none⟩ = some (.bool e.gn) ∧ w.cell? ⟨b, 2, none⟩ = some (.slice e.va e.vn e.vc) ∧ w.cell? ⟨b, 3, none⟩ = some (.int .i64 e.st) ∧ w.cell? ⟨b, 4, none⟩ = some (.int .i64 e.nd) ∧ w.cell? ⟨b, 5, none⟩ = some (.int .i64 e.mt) ∧ w.cell? ⟨b, 6, none⟩ = some (.string e.pk) ∧ w.cell? ⟨b, 7, none⟩ = some (.int .i64 e.sz) ∧ w.cell? ⟨b, 8, none⟩ = some (.int .i64 e.cr) :=
  ⟨cell_of_heap h rfl, cell_of_heap h rfl, cell_of_heap h rfl, cell_of_heap h rfl, cell_of_heap h rfl, cell_of_heap h rfl, cell_of_heap h rfl, cell_of_heap h rfl, cell_of_heap h rfl⟩
theorem wpList_boxS {ops : Array Oper} {rest : List Oper} {op : Oper} {a : Act} {w : World} {Q : Exit → Act → World → Prop} (hgd : op.guard = none) (x : Operand) (ho : op.op = .box 46 x) (e : Ent) (hx : a.eval x = .agg #[.string e.nm, .bool e.gn, .slice e.va e.vn e.vc, .int .i64 e.st, .int .i64 e.nd, .int .i64 e.mt, .string e.pk, .int .i64 e.sz, .int .i64 e.cr])
    (h : ∀ b w1, Sdb w1 b e → Keeps (fun _ => False) w w1 → w.heap.size ≤ b → wpList Try.prog ops Q rest (a.put op.dst (.pointer (some ⟨b, 0, none⟩))) w1) : wpList Try.prog ops Q (op :: rest) a w :=
  wpList_plain hgd fun _ hK => by
    unfold Oper.wp execOp
    simp only [ho, hx, Instr.box, Sem.run_bind, newVar, Sem.run_pure, Result.andThen_ok]
    exact hK _ _ (h w.heap.size _ (heap_alloc_new _ _) ((Keeps.refl _ w).alloc _) (Nat.le_refl _))
set_option maxHeartbeats 1000000 in
set_option maxRecDepth 1000000 in
theorem stamp_ok (e : Ent) (w : World) : Calls Try.prog 30 #[.agg #[.string e.nm, .bool e.gn, .slice e.va e.vn e.vc, .int .i64 e.st, .int .i64 e.nd, .int .i64 e.mt, .string e.pk, .int .i64 e.sz, .int .i64 e.cr]] w fun r w' => r = .returned (.int .i64 e.st) ∧ Keeps (fun _ => False) w w' := by
  go_enter Try.func30, Try.ntmps30
  go_wp2_with (refine wpList_boxS rfl _ rfl e rfl ?_; intro b w1 hE hK hb; have HK : Hid (Keeps (fun _ => False) w w1) := hK; have c3 := hE.c3; clear hE hK hb)
  go_ret
  exact ⟨rfl, HK.out⟩
set_option maxHeartbeats 1000000 in
set_option maxRecDepth 1000000 in
theorem node_ok (e : Ent) (w : World) : Calls Try.prog 31 #[.agg #[.string e.nm, .bool e.gn, .slice e.va e.vn e.vc, .int .i64 e.st, .int .i64 e.nd, .int .i64 e.mt, .string e.pk, .int .i64 e.sz, .int .i64 e.cr]] w fun r w' => r = .returned (.int .i64 e.nd) ∧ Keeps (fun _ => False) w w' := by
  go_enter Try.func31, Try.ntmps31
  go_wp2_with (refine wpList_boxS rfl _ rfl e rfl ?_; intro b w1 hE hK hb; have HK : Hid (Keeps (fun _ => False) w w1) := hK; have c4 := hE.c4; clear hE hK hb)
  go_ret
  exact ⟨rfl, HK.out⟩

def ranksV : Value := .agg #[.func (.func 30) #[] #[], .func (.func 31) #[] #[]]
set_option maxHeartbeats 1000000 in
set_option maxRecDepth 100000 in
theorem ranks_ok (w : World) : Calls Try.prog 24 #[] w fun e w' => e = .returned ranksV ∧ Keeps (fun _ => False) w w' := by
  unfold ranksV
  go_enter Try.func24, Try.ntmps24
  go_wp2
  refine bodyPost_ret (v := ranksV) ?_ rfl ⟨rfl, (Keeps.refl _ w).alloc _⟩
  rw [results_cell rfl]
  exact run_loadVar_mid _ w.heap.size 0 58 [.func (.func 30) #[] #[], .func (.func 31) #[] #[]] _ (fun j v hv => by
    have hh : ((w.alloc (.cells #[.func (.func 30) #[] #[], .func (.func 31) #[] #[]] 58)).heap[w.heap.size]?) = _ := heap_alloc_new _ _
    exact cell_of_heap hh (by rw [Nat.zero_add]; simpa using hv)) Try.underlying58 rfl (by kernel_rfl)
theorem ranks_at (A2 : Array Value) (h : ranksV = .agg A2) : (∀ w, (Instr.index 58 (.agg A2) (.int .i64 0)).run Try.prog w = .ok (.func (.func 30) #[] #[]) w) ∧ (∀ w, (Instr.index 58 (.agg A2) (.int .i64 1)).run Try.prog w = .ok (.func (.func 31) #[] #[]) w) := by
  unfold ranksV at h
  cases h
  refine ⟨fun w => ?_, fun w => ?_⟩
  all_goals simp [Instr.index, asIntOf, Sem.run_bind, Try.runUnderlying58, Try.sizeOf57, Try.isAgg57, part]

end Go.Proofs.Ytfbghchgfbjogaa.Zp

namespace Go.Proofs.Ytfbghchgfbjogaa.Zp
open Go.RowKit
set_option linter.unusedVariables false
set_option linter.unusedSimpArgs false

set_option maxHeartbeats 8000000 in
set_option maxRecDepth 1000000 in
theorem beats_ok (e f : Ent) (w : World) : Calls Try.prog 17 #[.agg #[.string e.nm, .bool e.gn, .slice e.va e.vn e.vc, .int .i64 e.st, .int .i64 e.nd, .int .i64 e.mt, .string e.pk, .int .i64 e.sz, .int .i64 e.cr], .agg #[.string f.nm, .bool f.gn, .slice f.va f.vn f.vc, .int .i64 f.st, .int .i64 f.nd, .int .i64 f.mt, .string f.pk, .int .i64 f.sz, .int .i64 f.cr]] w fun r w' => r = .returned (.bool (beatB e f)) ∧ Keeps (fun _ => False) w w' := by
  have HS : Hid (∀ w, Calls Try.prog 30 #[.agg #[.string e.nm, .bool e.gn, .slice e.va e.vn e.vc, .int .i64 e.st, .int .i64 e.nd, .int .i64 e.mt, .string e.pk, .int .i64 e.sz, .int .i64 e.cr]] w fun r w' => r = .returned (.int .i64 e.st) ∧ Keeps (fun _ => False) w w') := stamp_ok e
  have HS2 : Hid (∀ w, Calls Try.prog 30 #[.agg #[.string f.nm, .bool f.gn, .slice f.va f.vn f.vc, .int .i64 f.st, .int .i64 f.nd, .int .i64 f.mt, .string f.pk, .int .i64 f.sz, .int .i64 f.cr]] w fun r w' => r = .returned (.int .i64 f.st) ∧ Keeps (fun _ => False) w w') := stamp_ok f
  have HN : Hid (∀ w, Calls Try.prog 31 #[.agg #[.string e.nm, .bool e.gn, .slice e.va e.vn e.vc, .int .i64 e.st, .int .i64 e.nd, .int .i64 e.mt, .string e.pk, .int .i64 e.sz, .int .i64 e.cr]] w fun r w' => r = .returned (.int .i64 e.nd) ∧ Keeps (fun _ => False) w w') := node_ok e
  have HN2 : Hid (∀ w, Calls Try.prog 31 #[.agg #[.string f.nm, .bool f.gn, .slice f.va f.vn f.vc, .int .i64 f.st, .int .i64 f.nd, .int .i64 f.mt, .string f.pk, .int .i64 f.sz, .int .i64 f.cr]] w fun r w' => r = .returned (.int .i64 f.nd) ∧ Keeps (fun _ => False) w w') := node_ok f
  have HK : Hid (∀ w, Calls Try.prog 24 #[] w fun e w' => e = .returned ranksV ∧ Keeps (fun _ => False) w w') := ranks_ok
  go_enter Try.func17, Try.ntmps17
  go_wp2_with (first
    | ((fail_if_success (clear A1)); refine wpList_boxS rfl _ rfl e rfl ?_; intro b1 w1 hE hK hb; have A1 : Hid (Sdb w1 b1 e ∧ Keeps (fun _ => False) w w1) := ⟨hE, hK⟩; clear hE hK hb)
    | ((fail_if_success (clear A2)); refine wpList_boxS rfl _ rfl f rfl ?_; intro b2 w2 hE hK hb; have A2 : Hid (Sdb w2 b1 e ∧ Sdb w2 b2 f ∧ Keeps (fun _ => False) w w2) := ⟨A1.out.1.keptF hK, hE, A1.out.2.trans hK (fun _ _ h => h)⟩; clear hE hK hb)
    | (go_at_call 24; refine (HK.out w2).mono ?_; rintro r w3 ⟨rfl, h⟩; have A3 : Hid (Sdb w3 b1 e ∧ Sdb w3 b2 f ∧ Keeps (fun _ => False) w w3) := ⟨A2.out.1.keptF h, A2.out.2.1.keptF h, A2.out.2.2.trans h (fun _ _ h => h)⟩; clear h))
  have HC : Hid (∀ w', Keeps (fun _ => False) w3 w' → (w'.cell? ⟨b1, 0, none⟩ = some (.string e.nm) ∧ w'.cell? ⟨b1, 1, none⟩ = some (.bool e.gn) ∧ w'.cell? ⟨b1, 2, none⟩ = some (.slice e.va e.vn e.vc) ∧ w'.cell? ⟨b1, 3, none⟩ = some (.int .i64 e.st) ∧ w'.cell? ⟨b1, 4, none⟩ = some (.int .i64 e.nd) ∧ w'.cell? ⟨b1, 5, none⟩ = some (.int .i64 e.mt) ∧ w'.cell? ⟨b1, 6, none⟩ = some (.string e.pk) ∧ w'.cell? ⟨b1, 7, none⟩ = some (.int .i64 e.sz) ∧ w'.cell? ⟨b1, 8, none⟩ = some (.int .i64 e.cr)) ∧ (w'.cell? ⟨b2, 0, none⟩ = some (.string f.nm) ∧ w'.cell? ⟨b2, 1, none⟩ = some (.bool f.gn) ∧ w'.cell? ⟨b2, 2, none⟩ = some (.slice f.va f.vn f.vc) ∧ w'.cell? ⟨b2, 3, none⟩ = some (.int .i64 f.st) ∧ w'.cell? ⟨b2, 4, none⟩ = some (.int .i64 f.nd) ∧ w'.cell? ⟨b2, 5, none⟩ = some (.int .i64 f.mt) ∧ w'.cell? ⟨b2, 6, none⟩ = some (.string f.pk) ∧ w'.cell? ⟨b2, 7, none⟩ = some (.int .i64 f.sz) ∧ w'.cell? ⟨b2, 8, none⟩ = some (.int .i64 f.cr))) := fun w' hk => ⟨(A3.out.1.keptF hk).cells, (A3.out.2.1.keptF hk).cells⟩
  have K0 : Hid (Keeps (fun _ => False) w3 w3) := Keeps.refl _ _
  have HW : Hid (Keeps (fun _ => False) w w3) := A3.out.2.2
  clear A1 A2 A3 HK
  refine wp_loop_rounds 3 ?_
  rw [rounds_succ]
  obtain ⟨A2, hA2⟩ : ∃ A2, ranksV = .agg A2 := ⟨_, rfl⟩
  have HX : Hid ((∀ w, (Instr.index 58 (.agg A2) (.int .i64 0)).run Try.prog w = .ok (.func (.func 30) #[] #[]) w) ∧ (∀ w, (Instr.index 58 (.agg A2) (.int .i64 1)).run Try.prog w = .ok (.func (.func 31) #[] #[]) w)) := ranks_at A2 hA2
  have hx0 := HX.out.1
  rw [hA2]
  clear hA2
  obtain ⟨p0, p1, p2, p3, p4, p5, p6, p7, p8⟩ := (HC.out w3 K0.out).1
  obtain ⟨pa, pb, pc, pd, pe, pf, pg, ph, pi⟩ := (HC.out w3 K0.out).2
  by_cases hs : e.st = f.st
  · have q1 : (e.st != f.st) = false := by simp [hs]
    have HQ : Hid (e.st = f.st) := hs
    clear hs
    go_wp2
    go_region_held3 (fun w' => w'.cell? ⟨b1, 0, none⟩ = some (.string e.nm) ∧ w'.cell? ⟨b1, 1, none⟩ = some (.bool e.gn) ∧ w'.cell? ⟨b1, 2, none⟩ = some (.slice e.va e.vn e.vc) ∧ w'.cell? ⟨b1, 3, none⟩ = some (.int .i64 e.st) ∧ w'.cell? ⟨b1, 4, none⟩ = some (.int .i64 e.nd) ∧ w'.cell? ⟨b1, 5, none⟩ = some (.int .i64 e.mt) ∧ w'.cell? ⟨b1, 6, none⟩ = some (.string e.pk) ∧ w'.cell? ⟨b1, 7, none⟩ = some (.int .i64 e.sz) ∧ w'.cell? ⟨b1, 8, none⟩ = some (.int .i64 e.cr) ∧ w'.cell? ⟨b2, 0, none⟩ = some (.string f.nm) ∧ w'.cell? ⟨b2, 1, none⟩ = some (.bool f.gn) ∧ w'.cell? ⟨b2, 2, none⟩ = some (.slice f.va f.vn f.vc) ∧ w'.cell? ⟨b2, 3, none⟩ = some (.int .i64 f.st) ∧ w'.cell? ⟨b2, 4, none⟩ = some (.int .i64 f.nd) ∧ w'.cell? ⟨b2, 5, none⟩ = some (.int .i64 f.mt) ∧ w'.cell? ⟨b2, 6, none⟩ = some (.string f.pk) ∧ w'.cell? ⟨b2, 7, none⟩ = some (.int .i64 f.sz) ∧ w'.cell? ⟨b2, 8, none⟩ = some (.int .i64 f.cr)) (go_keep)
      (first
        | (go_at_call 30; (fail_if_success (clear M1a)); refine (HS.out _).mono ?_; rintro r w4 ⟨rfl, h⟩; have M1a : Hid (Keeps (fun _ => False) w3 w4) := (K0.out.drew).trans h (fun _ _ h => h); clear p0 p1 p2 p3 p4 p5 p6 p7 p8 pa pb pc pd pe pf pg ph pi; obtain ⟨u10, u11, u12, u13, u14, u15, u16, u17, u18⟩ := (HC.out w4 M1a.out).1; obtain ⟨u1a, u1b, u1c, u1d, u1e, u1f, u1g, u1h, u1i⟩ := (HC.out w4 M1a.out).2; clear h)
        | (go_at_call 30; (fail_if_success (clear M1b)); refine (HS2.out _).mono ?_; rintro r w5 ⟨rfl, h⟩; have M1b : Hid (Keeps (fun _ => False) w3 w5) := M1a.out.trans h (fun _ _ h => h); clear u10 u11 u12 u13 u14 u15 u16 u17 u18 u1a u1b u1c u1d u1e u1f u1g u1h u1i; obtain ⟨v10, v11, v12, v13, v14, v15, v16, v17, v18⟩ := (HC.out w5 M1b.out).1; obtain ⟨v1a, v1b, v1c, v1d, v1e, v1f, v1g, v1h, v1i⟩ := (HC.out w5 M1b.out).2; clear h))
    clear HS HS2 hx0
    have hx1 := HX.out.2
    go_wp2
    rw [rounds_succ]
    by_cases hn : e.nd = f.nd
    · have q2 : (e.nd != f.nd) = false := by simp [hn]
      have HB : Hid (beatB e f = false) := by show _ = _; simp [beatB, HQ.out, hn]
      clear hn
      go_wp2
      go_region_held3 (fun w' => w'.cell? ⟨b1, 0, none⟩ = some (.string e.nm) ∧ w'.cell? ⟨b1, 1, none⟩ = some (.bool e.gn) ∧ w'.cell? ⟨b1, 2, none⟩ = some (.slice e.va e.vn e.vc) ∧ w'.cell? ⟨b1, 3, none⟩ = some (.int .i64 e.st) ∧ w'.cell? ⟨b1, 4, none⟩ = some (.int .i64 e.nd) ∧ w'.cell? ⟨b1, 5, none⟩ = some (.int .i64 e.mt) ∧ w'.cell? ⟨b1, 6, none⟩ = some (.string e.pk) ∧ w'.cell? ⟨b1, 7, none⟩ = some (.int .i64 e.sz) ∧ w'.cell? ⟨b1, 8, none⟩ = some (.int .i64 e.cr) ∧ w'.cell? ⟨b2, 0, none⟩ = some (.string f.nm) ∧ w'.cell? ⟨b2, 1, none⟩ = some (.bool f.gn) ∧ w'.cell? ⟨b2, 2, none⟩ = some (.slice f.va f.vn f.vc) ∧ w'.cell? ⟨b2, 3, none⟩ = some (.int .i64 f.st) ∧ w'.cell? ⟨b2, 4, none⟩ = some (.int .i64 f.nd) ∧ w'.cell? ⟨b2, 5, none⟩ = some (.int .i64 f.mt) ∧ w'.cell? ⟨b2, 6, none⟩ = some (.string f.pk) ∧ w'.cell? ⟨b2, 7, none⟩ = some (.int .i64 f.sz) ∧ w'.cell? ⟨b2, 8, none⟩ = some (.int .i64 f.cr)) (go_keep)
        (first
          | (go_at_call 31; (fail_if_success (clear M2a)); refine (HN.out _).mono ?_; rintro r w6 ⟨rfl, h⟩; have M2a : Hid (Keeps (fun _ => False) w3 w6) := (M1b.out.drew).trans h (fun _ _ h => h); clear v10 v11 v12 v13 v14 v15 v16 v17 v18 v1a v1b v1c v1d v1e v1f v1g v1h v1i; obtain ⟨u20, u21, u22, u23, u24, u25, u26, u27, u28⟩ := (HC.out w6 M2a.out).1; obtain ⟨u2a, u2b, u2c, u2d, u2e, u2f, u2g, u2h, u2i⟩ := (HC.out w6 M2a.out).2; clear h)
          | (go_at_call 31; (fail_if_success (clear M2b)); refine (HN2.out _).mono ?_; rintro r w7 ⟨rfl, h⟩; have M2b : Hid (Keeps (fun _ => False) w3 w7) := M2a.out.trans h (fun _ _ h => h); clear u20 u21 u22 u23 u24 u25 u26 u27 u28 u2a u2b u2c u2d u2e u2f u2g u2h u2i; obtain ⟨v20, v21, v22, v23, v24, v25, v26, v27, v28⟩ := (HC.out w7 M2b.out).1; obtain ⟨v2a, v2b, v2c, v2d, v2e, v2f, v2g, v2h, v2i⟩ := (HC.out w7 M2b.out).2; clear h))
      go_wp2
      rw [rounds_succ]
      go_wp2
      go_ret
      exact ⟨by rw [HB.out]; rfl, HW.out.trans M2b.out (fun _ _ h => h)⟩
    · have q2 : (e.nd != f.nd) = true := by simp [hn]
      have HB : Hid (beatB e f = decide (f.nd < e.nd)) := by show _ = _; simp [beatB, HQ.out]
      clear hn
      go_wp2
      go_region_held3 (fun w' => w'.cell? ⟨b1, 0, none⟩ = some (.string e.nm) ∧ w'.cell? ⟨b1, 1, none⟩ = some (.bool e.gn) ∧ w'.cell? ⟨b1, 2, none⟩ = some (.slice e.va e.vn e.vc) ∧ w'.cell? ⟨b1, 3, none⟩ = some (.int .i64 e.st) ∧ w'.cell? ⟨b1, 4, none⟩ = some (.int .i64 e.nd) ∧ w'.cell? ⟨b1, 5, none⟩ = some (.int .i64 e.mt) ∧ w'.cell? ⟨b1, 6, none⟩ = some (.string e.pk) ∧ w'.cell? ⟨b1, 7, none⟩ = some (.int .i64 e.sz) ∧ w'.cell? ⟨b1, 8, none⟩ = some (.int .i64 e.cr) ∧ w'.cell? ⟨b2, 0, none⟩ = some (.string f.nm) ∧ w'.cell? ⟨b2, 1, none⟩ = some (.bool f.gn) ∧ w'.cell? ⟨b2, 2, none⟩ = some (.slice f.va f.vn f.vc) ∧ w'.cell? ⟨b2, 3, none⟩ = some (.int .i64 f.st) ∧ w'.cell? ⟨b2, 4, none⟩ = some (.int .i64 f.nd) ∧ w'.cell? ⟨b2, 5, none⟩ = some (.int .i64 f.mt) ∧ w'.cell? ⟨b2, 6, none⟩ = some (.string f.pk) ∧ w'.cell? ⟨b2, 7, none⟩ = some (.int .i64 f.sz) ∧ w'.cell? ⟨b2, 8, none⟩ = some (.int .i64 f.cr)) (go_keep)
        (first
          | (go_at_call 31; (fail_if_success (clear M3a)); refine (HN.out _).mono ?_; rintro r w6 ⟨rfl, h⟩; have M3a : Hid (Keeps (fun _ => False) w3 w6) := (M1b.out.drew).trans h (fun _ _ h => h); clear v10 v11 v12 v13 v14 v15 v16 v17 v18 v1a v1b v1c v1d v1e v1f v1g v1h v1i; obtain ⟨u30, u31, u32, u33, u34, u35, u36, u37, u38⟩ := (HC.out w6 M3a.out).1; obtain ⟨u3a, u3b, u3c, u3d, u3e, u3f, u3g, u3h, u3i⟩ := (HC.out w6 M3a.out).2; clear h)
          | (go_at_call 31; (fail_if_success (clear M3b)); refine (HN2.out _).mono ?_; rintro r w7 ⟨rfl, h⟩; have M3b : Hid (Keeps (fun _ => False) w3 w7) := M3a.out.trans h (fun _ _ h => h); clear u30 u31 u32 u33 u34 u35 u36 u37 u38 u3a u3b u3c u3d u3e u3f u3g u3h u3i; obtain ⟨v30, v31, v32, v33, v34, v35, v36, v37, v38⟩ := (HC.out w7 M3b.out).1; obtain ⟨v3a, v3b, v3c, v3d, v3e, v3f, v3g, v3h, v3i⟩ := (HC.out w7 M3b.out).2; clear h))
      go_wp2
      go_region_held3 (fun w' => w'.cell? ⟨b1, 0, none⟩ = some (.string e.nm) ∧ w'.cell? ⟨b1, 1, none⟩ = some (.bool e.gn) ∧ w'.cell? ⟨b1, 2, none⟩ = some (.slice e.va e.vn e.vc) ∧ w'.cell? ⟨b1, 3, none⟩ = some (.int .i64 e.st) ∧ w'.cell? ⟨b1, 4, none⟩ = some (.int .i64 e.nd) ∧ w'.cell? ⟨b1, 5, none⟩ = some (.int .i64 e.mt) ∧ w'.cell? ⟨b1, 6, none⟩ = some (.string e.pk) ∧ w'.cell? ⟨b1, 7, none⟩ = some (.int .i64 e.sz) ∧ w'.cell? ⟨b1, 8, none⟩ = some (.int .i64 e.cr) ∧ w'.cell? ⟨b2, 0, none⟩ = some (.string f.nm) ∧ w'.cell? ⟨b2, 1, none⟩ = some (.bool f.gn) ∧ w'.cell? ⟨b2, 2, none⟩ = some (.slice f.va f.vn f.vc) ∧ w'.cell? ⟨b2, 3, none⟩ = some (.int .i64 f.st) ∧ w'.cell? ⟨b2, 4, none⟩ = some (.int .i64 f.nd) ∧ w'.cell? ⟨b2, 5, none⟩ = some (.int .i64 f.mt) ∧ w'.cell? ⟨b2, 6, none⟩ = some (.string f.pk) ∧ w'.cell? ⟨b2, 7, none⟩ = some (.int .i64 f.sz) ∧ w'.cell? ⟨b2, 8, none⟩ = some (.int .i64 f.cr)) (go_keep)
        (first
          | (go_at_call 31; (fail_if_success (clear M4a)); refine (HN.out _).mono ?_; rintro r w8 ⟨rfl, h⟩; have M4a : Hid (Keeps (fun _ => False) w3 w8) := (M3b.out.drew).trans h (fun _ _ h => h); clear v30 v31 v32 v33 v34 v35 v36 v37 v38 v3a v3b v3c v3d v3e v3f v3g v3h v3i; obtain ⟨u40, u41, u42, u43, u44, u45, u46, u47, u48⟩ := (HC.out w8 M4a.out).1; obtain ⟨u4a, u4b, u4c, u4d, u4e, u4f, u4g, u4h, u4i⟩ := (HC.out w8 M4a.out).2; clear h)
          | (go_at_call 31; (fail_if_success (clear M4b)); refine (HN2.out _).mono ?_; rintro r w9 ⟨rfl, h⟩; have M4b : Hid (Keeps (fun _ => False) w3 w9) := M4a.out.trans h (fun _ _ h => h); clear u40 u41 u42 u43 u44 u45 u46 u47 u48 u4a u4b u4c u4d u4e u4f u4g u4h u4i; obtain ⟨v40, v41, v42, v43, v44, v45, v46, v47, v48⟩ := (HC.out w9 M4b.out).1; obtain ⟨v4a, v4b, v4c, v4d, v4e, v4f, v4g, v4h, v4i⟩ := (HC.out w9 M4b.out).2; clear h))
      go_wp2
      go_ret
      exact ⟨by rw [HB.out]; rfl, HW.out.trans M4b.out (fun _ _ h => h)⟩
  · have q1 : (e.st != f.st) = true := by simp [hs]
    have HB : Hid (beatB e f = decide (f.st < e.st)) := by show _ = _; have : decide (f.st = e.st) = false := decide_eq_false (fun h => hs h.symm); simp [beatB, this]
    clear hs
    go_wp2
    go_region_held3 (fun w' => w'.cell? ⟨b1, 0, none⟩ = some (.string e.nm) ∧ w'.cell? ⟨b1, 1, none⟩ = some (.bool e.gn) ∧ w'.cell? ⟨b1, 2, none⟩ = some (.slice e.va e.vn e.vc) ∧ w'.cell? ⟨b1, 3, none⟩ = some (.int .i64 e.st) ∧ w'.cell? ⟨b1, 4, none⟩ = some (.int .i64 e.nd) ∧ w'.cell? ⟨b1, 5, none⟩ = some (.int .i64 e.mt) ∧ w'.cell? ⟨b1, 6, none⟩ = some (.string e.pk) ∧ w'.cell? ⟨b1, 7, none⟩ = some (.int .i64 e.sz) ∧ w'.cell? ⟨b1, 8, none⟩ = some (.int .i64 e.cr) ∧ w'.cell? ⟨b2, 0, none⟩ = some (.string f.nm) ∧ w'.cell? ⟨b2, 1, none⟩ = some (.bool f.gn) ∧ w'.cell? ⟨b2, 2, none⟩ = some (.slice f.va f.vn f.vc) ∧ w'.cell? ⟨b2, 3, none⟩ = some (.int .i64 f.st) ∧ w'.cell? ⟨b2, 4, none⟩ = some (.int .i64 f.nd) ∧ w'.cell? ⟨b2, 5, none⟩ = some (.int .i64 f.mt) ∧ w'.cell? ⟨b2, 6, none⟩ = some (.string f.pk) ∧ w'.cell? ⟨b2, 7, none⟩ = some (.int .i64 f.sz) ∧ w'.cell? ⟨b2, 8, none⟩ = some (.int .i64 f.cr)) (go_keep)
      (first
        | (go_at_call 30; (fail_if_success (clear M5a)); refine (HS.out _).mono ?_; rintro r w4 ⟨rfl, h⟩; have M5a : Hid (Keeps (fun _ => False) w3 w4) := (K0.out.drew).trans h (fun _ _ h => h); clear p0 p1 p2 p3 p4 p5 p6 p7 p8 pa pb pc pd pe pf pg ph pi; obtain ⟨u50, u51, u52, u53, u54, u55, u56, u57, u58⟩ := (HC.out w4 M5a.out).1; obtain ⟨u5a, u5b, u5c, u5d, u5e, u5f, u5g, u5h, u5i⟩ := (HC.out w4 M5a.out).2; clear h)
        | (go_at_call 30; (fail_if_success (clear M5b)); refine (HS2.out _).mono ?_; rintro r w5 ⟨rfl, h⟩; have M5b : Hid (Keeps (fun _ => False) w3 w5) := M5a.out.trans h (fun _ _ h => h); clear u50 u51 u52 u53 u54 u55 u56 u57 u58 u5a u5b u5c u5d u5e u5f u5g u5h u5i; obtain ⟨v50, v51, v52, v53, v54, v55, v56, v57, v58⟩ := (HC.out w5 M5b.out).1; obtain ⟨v5a, v5b, v5c, v5d, v5e, v5f, v5g, v5h, v5i⟩ := (HC.out w5 M5b.out).2; clear h))
    go_wp2
    go_region_held3 (fun w' => w'.cell? ⟨b1, 0, none⟩ = some (.string e.nm) ∧ w'.cell? ⟨b1, 1, none⟩ = some (.bool e.gn) ∧ w'.cell? ⟨b1, 2, none⟩ = some (.slice e.va e.vn e.vc) ∧ w'.cell? ⟨b1, 3, none⟩ = some (.int .i64 e.st) ∧ w'.cell? ⟨b1, 4, none⟩ = some (.int .i64 e.nd) ∧ w'.cell? ⟨b1, 5, none⟩ = some (.int .i64 e.mt) ∧ w'.cell? ⟨b1, 6, none⟩ = some (.string e.pk) ∧ w'.cell? ⟨b1, 7, none⟩ = some (.int .i64 e.sz) ∧ w'.cell? ⟨b1, 8, none⟩ = some (.int .i64 e.cr) ∧ w'.cell? ⟨b2, 0, none⟩ = some (.string f.nm) ∧ w'.cell? ⟨b2, 1, none⟩ = some (.bool f.gn) ∧ w'.cell? ⟨b2, 2, none⟩ = some (.slice f.va f.vn f.vc) ∧ w'.cell? ⟨b2, 3, none⟩ = some (.int .i64 f.st) ∧ w'.cell? ⟨b2, 4, none⟩ = some (.int .i64 f.nd) ∧ w'.cell? ⟨b2, 5, none⟩ = some (.int .i64 f.mt) ∧ w'.cell? ⟨b2, 6, none⟩ = some (.string f.pk) ∧ w'.cell? ⟨b2, 7, none⟩ = some (.int .i64 f.sz) ∧ w'.cell? ⟨b2, 8, none⟩ = some (.int .i64 f.cr)) (go_keep)
      (first
        | (go_at_call 30; (fail_if_success (clear M6a)); refine (HS.out _).mono ?_; rintro r w6 ⟨rfl, h⟩; have M6a : Hid (Keeps (fun _ => False) w3 w6) := (M5b.out.drew).trans h (fun _ _ h => h); clear v50 v51 v52 v53 v54 v55 v56 v57 v58 v5a v5b v5c v5d v5e v5f v5g v5h v5i; obtain ⟨u60, u61, u62, u63, u64, u65, u66, u67, u68⟩ := (HC.out w6 M6a.out).1; obtain ⟨u6a, u6b, u6c, u6d, u6e, u6f, u6g, u6h, u6i⟩ := (HC.out w6 M6a.out).2; clear h)
        | (go_at_call 30; (fail_if_success (clear M6b)); refine (HS2.out _).mono ?_; rintro r w7 ⟨rfl, h⟩; have M6b : Hid (Keeps (fun _ => False) w3 w7) := M6a.out.trans h (fun _ _ h => h); clear u60 u61 u62 u63 u64 u65 u66 u67 u68 u6a u6b u6c u6d u6e u6f u6g u6h u6i; obtain ⟨v60, v61, v62, v63, v64, v65, v66, v67, v68⟩ := (HC.out w7 M6b.out).1; obtain ⟨v6a, v6b, v6c, v6d, v6e, v6f, v6g, v6h, v6i⟩ := (HC.out w7 M6b.out).2; clear h))
    go_wp2
    go_ret
    exact ⟨by rw [HB.out]; rfl, HW.out.trans M6b.out (fun _ _ h => h)⟩

end Go.Proofs.Ytfbghchgfbjogaa.Zp

namespace Go.Proofs.Ytfbghchgfbjogaa.Zp
open Go.RowKit
set_option linter.unusedVariables false
set_option linter.unusedSimpArgs false

theorem OwnB.slice {w : World} {base : Nat} {v : Value} {xs : List Nat} (h : OwnB w base v xs) : ∃ a cap0, v = .slice a xs.length cap0 := by
  rcases h.2 with ⟨rfl, h0⟩ | ⟨g, cap, cur, rfl, _⟩
  · exact ⟨none, 0, by rw [h0]⟩
  · exact ⟨_, cap, rfl⟩
/-- What only makes memory leaves the text as it is. -/
theorem OntoT.keptF {T : Lay} {p : Nat} {v : Value} {L : List Nat} {w1 w' w'' : World} (h : OntoT T w1 w' p v L) (hk : Keeps (fun _ => False) w' w'') : OntoT T w1 w'' p v L := by
  obtain ⟨v', h1, h2, h3⟩ := h
  exact ⟨v', h1.keptF hk, h2, h3.trans hk (fun _ _ h => h.elim)⟩

end Go.Proofs.Ytfbghchgfbjogaa.Zp

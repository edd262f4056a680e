/-
  A block with codes of its own comes to its text: InflateDynamic, for all texts.
-/
import Derived.Test.YtebjooebdehlnaaRows
import Derived.Test.YtebjooebdehlnaaG19
import Derived.ProofKit
import Derived.OpenShut
import Derived.ShutString
import Derived.ChangeOld
import Derived.Below
namespace Go.Proofs.Ytebjooebdehlnaa.Bk
open Go.RowKit
open Hf Tb
open Mt (Tk RowT mayF sumZ expF)
set_option linter.unusedVariables false
set_option linter.unusedSimpArgs false

end Go.Proofs.Ytebjooebdehlnaa.Bk

namespace Go.Proofs.Ytebjooebdehlnaa.Bk
open Go.RowKit
open Hf Tb
set_option linter.unusedVariables false
set_option linter.unusedSimpArgs false

theorem align_head : Bt.alignOf (bitsOf 1 1 ++ bitsOf 0 2) = bitsOf 1 8 := by decide

end Go.Proofs.Ytebjooebdehlnaa.Bk

namespace Go.Proofs.Ytebjooebdehlnaa.Bk
open Go.RowKit
open Hf Tb
open Mt (Tk RowT mayF sumZ expF OwnK)
set_option linter.unusedVariables false
set_option linter.unusedSimpArgs false

theorem RowT.lit {w : World} {b : Nat} {ts : List Tk} {T : TypeId} (h : w.heap[b]? = some (.cells (Mt.tkVs ts).toArray T (0, 0))) : RowT w (some ⟨b, 0, none⟩) ts := by
  refine .inr ⟨b, 0, rfl, lt_of_heap h, fun i hi => ?_⟩
  obtain ⟨e1, e2, e3⟩ := Mt.tkVs_get ts i hi
  rw [Nat.zero_add]
  exact ⟨cell_of_heap h (by rw [List.getElem?_toArray]; exact e1), cell_of_heap h (by rw [List.getElem?_toArray]; exact e2), cell_of_heap h (by rw [List.getElem?_toArray]; exact e3)⟩
theorem RowT.keptF {w w' : World} {a : Option Addr} {ts : List Tk} (h : RowT w a ts) (hk : Keeps (fun _ => False) w w') : RowT w' a ts := Mt.RowT.kept h hk (fun _ _ h => h)
/-- Fixed and Dynamic, in one word each for all rows of tokens. -/
def fixT (ts : List Tk) : ByteArray := bif mayT ts then textOf (pack (fixedB ts)) else ⟨#[]⟩
def dynT (ts : List Tk) : ByteArray := bif mayT ts then textOf (pack (dynOf ts)) else ⟨#[]⟩
def blkE (ts : List Tk) : Int := bif mayT ts then 0 else 800
/-- Inflate at what is told by a block. -/
theorem inf_of {L : Bts} {most : Nat} {o : List Nat} (h : inflP (pack L) (most : Int) = .ok (o, (pack L).length)) (hl : (pack L).length ≤ 100000) (w : World) :
    Calls Try.prog 7 #[.string (textOf (pack L)), .int .i64 (most : Int)] w fun e w' => e = .returned (.tuple #[.string (textOf o), .int .i64 ((pack L).length : Int), .int .i64 0]) ∧ Keeps (fun _ => False) w w' := by
  refine (inf_at (s := textOf (pack L)) (most := (most : Int)) (t := textOf o) (k := ((pack L).length : Int)) (er := 0) (by rw [textOf_size]; omega) (by rw [bytesOf_text _ (pack_lt L), h]; rfl) w trivial).mono ?_
  rintro e w' ⟨rfl, hk, _⟩
  exact ⟨rfl, hk⟩

/-! ### awake -/
def wk : List Tk := [(97, 0, 0), (97, 0, 0)]
theorem wk_step : Mt.step (bytesOf ⟨#[97, 97]⟩) 2 = 2 := by decide +kernel
theorem wk_toks : Mt.toksN (bytesOf ⟨#[97, 97]⟩) 2 = wk := by decide +kernel
theorem wk_may : mayT wk = true := by decide +kernel
theorem wk_exp : expF [] wk = [97, 97] := by decide +kernel
theorem wk_fix : textOf (pack (fixedB wk)) = ⟨#[75, 76, 4, 0]⟩ := by decide +kernel
theorem wk_sto : textOf (pack (storeB (bytesOf ⟨#[104, 105]⟩))) = ⟨#[1, 2, 0, 253, 255, 104, 105]⟩ := by decide +kernel
theorem wk_no : mayT [(0, 3, 1)] = false := by decide +kernel
theorem dynOf_len {ts : List Tk} (h : mayT ts = true) : (pack (dynOf ts)).length ≤ 100000 := by
  obtain ⟨m1, m2, m3, m4⟩ := mayT_is h
  have hD := dyn3_of ts (by omega)
  have hF : Full (lenA ts) (lenB ts) := ⟨hD.mA, by rw [hD.rA]; exact Nat.le_refl _, hD.mB, by rcases hD.rB with e | e; rw [e]; exact Nat.le_refl _; rw [room_zero _ e]; decide⟩
  have y1 := tksB_len hF ts m4 (fun t ht => by obtain ⟨c, hc⟩ := m4 t ht; exact hasT_of ts (by omega) t ht c hc)
  have y2 := codeB_le hD.mA 256
  have x1 := threeB_len (cutL (rowOf (lenC ts)) 4)
  have x2 := codesB_len hD.mC (cutL (lenA ts) 257 ++ cutL (lenB ts) 1)
  have x3 := upL_le (rowOf (lenC ts)) 4
  have x4 := upL_le (lenA ts) 257
  have x5 := upL_le (lenB ts) 1
  rw [rowOf_length] at x3
  rw [hD.lA] at x4
  rw [hD.lB] at x5
  rw [cutL_length] at x1
  rw [List.length_append, cutL_length, cutL_length] at x2
  rw [pack_length]
  unfold dynOf dynB hdrB
  simp only [List.length_append, bitsOf_length]
  omega
theorem fixOf_len {ts : List Tk} (h : mayT ts = true) : (pack (fixedB ts)).length ≤ 100000 := by
  obtain ⟨m1, m2, m3, m4⟩ := mayT_is h
  have y1 := tksB_len full_fix ts m4 (fun t ht => by obtain ⟨c, hc⟩ := m4 t ht; exact hasT_fix t c hc)
  have y2 := codeB_le full_fix.m1 256
  rw [pack_length]
  unfold fixedB
  simp only [List.length_append, bitsOf_length]
  omega

end Go.Proofs.Ytebjooebdehlnaa.Bk

namespace Go.Proofs.Ytebjooebdehlnaa
open Go.RowKit
open Hf Tb
open Mt (Tk RowT mayF okT sumZ expF OwnK toksN)
open Bk (mayT dynOf StrPost)
set_option linter.unusedVariables false
set_option linter.unusedSimpArgs false

theorem dyn_text {ts : List Tk} : bytesOf (textOf (pack (dynOf ts))) = pack (dynOf ts) := bytesOf_text _ (fun y hy => pack_lt _ y hy)
theorem dyn_size {ts : List Tk} (h : mayT ts = true) : (textOf (pack (dynOf ts))).size ≤ 100000 := by
  rw [textOf_size]; exact Bk.dynOf_len h
/-- The stream is told, whatever lies behind it. -/
theorem dyn_told (s : ByteArray) {ts : List Tk} (h : mayT ts = true) (he : expF [] ts = bytesOf s) (hz : sumZ ts = (s.size : Int)) (hs : s.size ≤ 300) :
    inflP (bytesOf (textOf (pack (dynOf ts)) ++ s)) 8192 = .ok (bytesOf s, (textOf (pack (dynOf ts))).size) := by
  have h1 := Bk.dyn_back h 8192 (by omega) (by omega) (bytesOf s)
  rw [he] at h1
  rw [bytesOf_app, dyn_text, textOf_size]
  exact h1
/-- Within its own size it is told, within less it is too long. -/
theorem dyn_less (s : ByteArray) {ts : List Tk} (h : mayT ts = true) (he : expF [] ts = bytesOf s) (hz : sumZ ts = (s.size : Int)) (hs : s.size ≤ 300) :
    (s.size = 0 → ∃ r, inflP (bytesOf (textOf (pack (dynOf ts)))) 0 = .ok r) ∧ (0 < s.size → inflP (bytesOf (textOf (pack (dynOf ts)))) ((s.size : Int) - 1) = .error 701) := by
  have h1 := Bk.dyn_back h s.size (by omega) (by omega) []
  rw [List.append_nil, ← dyn_text] at h1
  constructor
  · intro h0
    rw [h0] at h1
    exact ⟨_, h1⟩
  · intro h0
    obtain ⟨_, _, _, _, b5, _⟩ := bound_pure _ [] s.size (by omega) _ _ h1
    have e : (expF [] ts).length = s.size := by rw [he, bytesOf_length]
    rw [e] at b5
    exact b5 h0

set_option maxHeartbeats 4000000 in
set_option maxRecDepth 100000 in
theorem dynamic_walk (s : ByteArray) (w : World) (hG : GRow w) (hs : s.size ≤ 140737488355328) :
    Calls Try.prog 3 #[.string s] w fun e w' => e = .returned (.bool true) ∧ Below w.heap.size w w' := by
  have HA : Hid (Calls Try.prog 4 #[] w fun e w' => e = .returned (.bool true) ∧ Keeps (fun _ => False) w w' ∧ GRow w') := awake7 w hG
  have HT : Hid (∀ w, Calls Try.prog 5 #[.string s] w (TokPost7 s w)) := fun w => rtokens7 s w hs
  have hsz : (s.size : Int) ≤ 140737488355328 := by omega
  clear hG
  go_enter Try.func3, Try.ntmps3
  go_wp2_with fail
  refine HA.out.mono ?_
  rintro e w1 ⟨rfl, hk1⟩
  have H1 : Hid (Keeps (fun _ => False) w w1) := hk1.1
  clear hk1 HA
  go_wp2_with fail
  refine (HT.out w1).mono ?_
  rintro e w2 ⟨a, ts, cap, rfl, hR, hm, hx, hk2⟩
  have H2 : Hid (Keeps (fun _ => False) w w2) := H1.out.trans hk2 (fun _ _ h => h)
  have HD : Hid (Calls Try.prog 6 #[.slice a ts.length cap] w2 (StrPost (textOf (pack (dynOf ts))) 0 w2)) := Bk.rdynamic_ok8 a ts cap w2 hR hm
  have hX2 := dyn_size hm
  have HM : Hid (s.size ≤ 300 → inflP (bytesOf (textOf (pack (dynOf ts)) ++ s)) 8192 = .ok (bytesOf s, (textOf (pack (dynOf ts))).size)) := fun h => dyn_told s hm (hx h).1 (hx h).2 h
  have HL : Hid (s.size ≤ 300 → (s.size = 0 → ∃ r, inflP (bytesOf (textOf (pack (dynOf ts)))) 0 = .ok r) ∧ (0 < s.size → inflP (bytesOf (textOf (pack (dynOf ts)))) ((s.size : Int) - 1) = .error 701)) := fun h => dyn_less s hm (hx h).1 (hx h).2 h
  generalize textOf (pack (dynOf ts)) = X at *
  generalize ts.length = n at *
  clear hk2 H1 HT hR hm hx
  by_cases h3 : s.size ≤ 300
  · rw [if_pos h3]
    go_wp2_with fail
    refine HD.out.mono ?_
    rintro e w3 ⟨rfl, hk3⟩
    have H3 : Hid (Keeps (fun _ => False) w w3) := H2.out.trans hk3 (fun _ _ h => h)
    clear hk3 H2 HD
    have HM' := HM.out h3
    obtain ⟨hl1, hl2⟩ := HL.out h3
    have hXb : (X.size : Int) ≤ 100000 := by omega
    have hsb : (s.size : Int) ≤ 300 := by omega
    have HC1 : Hid (∀ w, Calls Try.prog 7 #[.string (X ++ s), .int .i64 8192] w fun e w' => e = .returned (.tuple #[.string s, .int .i64 (X.size : Int), .int .i64 0]) ∧ Keeps (fun _ => False) w w') := fun w => by
      have := inflate_ok (X ++ s) 8192 w (by rw [app_size]; omega) trivial
      rw [HM'] at this
      refine this.mono (fun e w' hp => ⟨?_, hp.2⟩)
      rw [hp.1]
      show Ending.returned (.tuple #[.string (textOf (bytesOf s)), _, _]) = _
      rw [Bk.textOf_bytes8]; rfl
    by_cases h0 : s.size = 0
    · obtain ⟨⟨o, t⟩, hr⟩ := hl1 h0
      have HC2 : Hid (∀ w, Calls Try.prog 7 #[.string X, .int .i64 0] w fun e w' => e = .returned (.tuple #[.string (textOf o), .int .i64 (t : Int), .int .i64 0]) ∧ Keeps (fun _ => False) w w') := fun w => by
        have := inflate_ok X 0 w (by omega) trivial
        rw [hr] at this
        exact this.mono (fun e w' hp => hp)
      have h0z : (s.size : Int) = 0 := by omega
      clear hr hl1 hl2 HM' HM HL hX2
      go_wp2_with fail
      refine (HC1.out w3).mono ?_
      rintro e w4 ⟨rfl, hk4⟩
      have H4 : Hid (Keeps (fun _ => False) w w4) := H3.out.trans hk4 (fun _ _ h => h)
      clear hk4 HC1 H3
      go_wp2_with fail
      refine (HC2.out w4).mono ?_
      rintro e w5 ⟨rfl, hk5⟩
      have H5 : Hid (Keeps (fun _ => False) w w5) := H4.out.trans hk5 (fun _ _ h => h)
      clear hk5 HC2 H4
      go_wp2_with (first
        | (go_at_call 8; refine (num_any _ _).mono ?_; rintro e w' ⟨rfl, hw⟩; obtain rfl := hw.symm; clear hw))
      go_ret
      exact ⟨rfl, H5.out.below _ (Nat.le_refl _) (fun _ h => h.elim)⟩
    · have h0z : (0 : Int) < (s.size : Int) := by omega
      have h0n : ¬ (s.size : Int) = 0 := by omega
      have h0l : ¬ (s.size : Int) - 1 < 0 := by omega
      have hbq : ((s.size : Int) == 0) = false := beq_false_of_ne h0n
      have hr := hl2 (by omega)
      have HC2 : Hid (∀ w, Calls Try.prog 7 #[.string X, .int .i64 ((s.size : Int) - 1)] w fun e w' => e = .returned (.tuple #[.string ⟨#[]⟩, .int .i64 0, .int .i64 701]) ∧ Keeps (fun _ => False) w w') := fun w => by
        have := inflate_ok X ((s.size : Int) - 1) w (by omega) trivial
        rw [hr] at this
        exact this.mono (fun e w' hp => hp)
      clear hr hl1 hl2 HM' HM HL hX2
      go_wp2_with fail
      refine (HC1.out w3).mono ?_
      rintro e w4 ⟨rfl, hk4⟩
      have H4 : Hid (Keeps (fun _ => False) w w4) := H3.out.trans hk4 (fun _ _ h => h)
      clear hk4 HC1 H3
      go_wp2_with fail
      refine (HC2.out w4).mono ?_
      rintro e w5 ⟨rfl, hk5⟩
      have H5 : Hid (Keeps (fun _ => False) w w5) := H4.out.trans hk5 (fun _ _ h => h)
      clear hk5 HC2 H4
      go_wp2_with (first
        | (go_at_call 8; refine (num_any _ _).mono ?_; rintro e w' ⟨rfl, hw⟩; obtain rfl := hw.symm; clear hw))
      go_ret
      exact ⟨rfl, H5.out.below _ (Nat.le_refl _) (fun _ h => h.elim)⟩
  · rw [if_neg h3]
    go_wp2_with fail
    refine HD.out.mono ?_
    rintro e w3 ⟨rfl, hk3⟩
    have H3 : Hid (Keeps (fun _ => False) w w3) := H2.out.trans hk3 (fun _ _ h => h)
    clear hk3 H2 HD
    have hz : (300 : Int) < (s.size : Int) := by omega
    go_wp2_with fail
    go_ret
    exact ⟨rfl, H3.out.below _ (Nat.le_refl _) (fun _ h => h.elim)⟩

end Go.Proofs.Ytebjooebdehlnaa

namespace Go.Proofs.Ytebjooebdehlnaa
open Go.ChangeShapes Go.WideShapes Go.ChangeAt Go.RowKit
open Go.ChangeMaps (open_string shut_string)
set_option linter.unusedVariables false

theorem inflateDynamic_own : ownKnob Try.prog.godebug = none := by kernel_rfl
theorem inflateDynamic_laidOut : laidOutB Try.prog = true := by kernel_rfl

set_option maxRecDepth 100000 in
theorem inflateDynamic_lifted (os : Os) (started : os.Started) (H : Type) (enc : TypeId × Value → H) :
    ReturnsInHanded {} Try.checked os 3 .any (Rows.inflateDynamicSpec.pre6 enc Try.prog Try.f3 Rows.inflateDynamicRow.domain false) (Rows.inflateDynamicSpec.post enc Try.prog Try.f3 false true false false) := by
  refine returnsInHanded_of_change_sized (C := Try.checked) inflateDynamic_own started (by kernel_rfl) Try.func3
    (ChangeSpec.witness6 (enc := enc) (C := Try.checked) false ⟨#[], #[.string ⟨#[]⟩], []⟩ 8 (by kernel_rfl) (by kernel_rfl) (by kernel_rfl) (by kernel_rfl)) ?_
  intro W base args ds gs before hval0 hW hcnd hsz0 _
  have hsz : (DataW.weightsEach Try.prog (Try.f3.params.toList ++ Rows.inflateDynamicSpec.plain.varTypes Try.prog) (ds ++ gs)).all (· ≤ reachBytes) = true := hsz0
  have hval : ∀ (j : Nat) t v, Try.f3.params[j]? = some t → args[j]? = some v → Value.okWide Try.prog W .any base t v := hval0
  have hW' := hW
  obtain ⟨p, q, hA0, hV, rfl, hfz, hnd⟩ := hW
  have hA : DataW.TrodAll enc Try.prog W 0 (fun _ => true) true Try.f3.params.toList args.toList ds p := hA0
  rw [Try.params3] at hA hval hsz
  obtain ⟨v0, vs0, d0, ds0, p0, q0, hargs, rfl, rfl, h0, r0⟩ := trodAll_cons hA
  obtain ⟨rfl, rfl, rfl⟩ := trodAll_nil r0
  obtain rfl : args = #[v0] := by cases args; simp_all
  obtain ⟨rfl, rfl⟩ := trodVars_none hV
  obtain ⟨a0, rfl, rfl, rfl, w0⟩ := open_string Try.underlying9 (hval 0 9 v0 rfl rfl) h0
  clear hA0 hval0
  refine (dynamic_walk a0 W trivial (by have := sized_string hsz (j := 0) (t := 9) rfl rfl; rw [Array.length_toList] at this; exact Nat.le_trans this (by decide))).mono fun e W' ⟨he, bel⟩ => ?_
  subst he
  exact ⟨_, rfl, _, _, _, [], [], [], hW', trodAll_mk1 (shut_bool Try.underlying4 _), (trodAll_cons_mk (shut_string Try.underlying9 w0) trodAll_mk0), rfl, bel.frame _, fun h => by cases h⟩

theorem inflateDynamic_over : Rows.inflateDynamicRow.holds Try.pinned (OpenSpec.ofChange Rows.inflateDynamicSpec) :=
  OpenClaim.holds_of_wide 3 Try.f3 rfl rfl rfl rfl rfl rfl rfl ⟨rfl, rfl, rfl, rfl, rfl⟩ rfl rfl rfl rfl rfl (by kernel_rfl) Try.func3 (by kernel_rfl)
    (of_decide_eq_true (by kernel_rfl)) (by unfold Func.isWrapper; first | (rw [if_pos (by decide +kernel)]; kernel_rfl) | (rw [if_neg (by decide +kernel)]; exact ⟨rfl, rfl⟩))
    (fun os started H enc _ => inflateDynamic_lifted os started H enc)

theorem inflateDynamic_holds : Rows.InflateDynamicSaid := inflateDynamic_over

end Go.Proofs.Ytebjooebdehlnaa

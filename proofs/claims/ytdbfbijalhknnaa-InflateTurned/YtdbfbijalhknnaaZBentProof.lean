/-
  A stream of which one bit was turned is told as something, or refused, and never more than the bound: InflateTurned, for all texts, places, bits and bounds.
-/
import Derived.Test.YtdbfbijalhknnaaRows
import Derived.Test.YtdbfbijalhknnaaG21
import Derived.BigRegion
import Derived.BigQuiet
import Derived.ProofKit
import Derived.OpenShut
import Derived.ShutString
import Derived.ChangeOld
import Derived.Below
namespace Go.Proofs.Ytdbfbijalhknnaa
open Go.RowKit
open Hf Tb
set_option linter.unusedVariables false
set_option linter.unusedSimpArgs false

/-- Block g begins with the bytes ys, and none of them is barred. -/
def Byb (w : World) (g : Nat) (ys : List Nat) : Prop :=
  ∃ cs fr, w.heap[g]? = some (.cells cs 5 fr) ∧ (∀ i (h : i < ys.length), cs[i]? = some (byteV ys[i])) ∧ (ys.length ≤ fr.1 ∨ fr.2 = 0)

theorem Byb.cell {w : World} {g : Nat} {ys : List Nat} (h : Byb w g ys) (i : Nat) (hi : i < ys.length) : w.cell? ⟨g, i, none⟩ = some (.int .u8 (ys[i] : Nat)) := by
  obtain ⟨cs, fr, h1, h2, h3⟩ := h
  exact cell_of_heap h1 (h2 i hi)
theorem Byb.free {w : World} {g : Nat} {ys : List Nat} (h : Byb w g ys) (i : Nat) (hi : i < ys.length) : w.frozen? ⟨g, i, none⟩ = false := by
  obtain ⟨cs, fr, h1, h2, h3⟩ := h
  simp only [World.frozen?, h1]
  rcases h3 with h3 | h3
  · simp; omega
  · simp; omega
theorem Byb.set {w : World} {g : Nat} {ys : List Nat} (h : Byb w g ys) (i y : Nat) : Byb (w.setCell ⟨g, i, none⟩ (.int .u8 (y : Nat))) g (ys.set i y) := by
  obtain ⟨cs, fr, h1, h2, h3⟩ := h
  refine ⟨_, fr, heap_setCell_same h1 _, ?_, by simpa using h3⟩
  intro t ht
  rw [List.length_set] at ht
  rw [List.getElem_set, Array.getElem?_setIfInBounds]
  have hc := h2 t ht
  by_cases e : i = t
  · subst e
    have : i < cs.size := (Array.getElem?_eq_some_iff.1 hc).1
    simp [this, byteV]
  · rw [if_neg e, if_neg e]; exact hc
theorem Byb.kept {S : Nat → Prop} {w w' : World} {g : Nat} {ys : List Nat} (h : Byb w g ys) (hk : Keeps S w w') (hg : ¬ S g) : Byb w' g ys := by
  obtain ⟨cs, fr, h1, r⟩ := h
  exact ⟨cs, fr, (hk.block g (lt_of_heap h1) hg).trans h1, r⟩
theorem Byb.text {w : World} {g : Nat} {ys : List Nat} (h : Byb w g ys) (hy : ∀ y ∈ ys, y < 256) (cap : Nat) :
    (convert 37 9 (.slice (some ⟨g, 0, none⟩) ys.length cap)).run Try.prog w = .ok (.string (textOf ys)) w := by
  have e : ys.length = (ys.map UInt8.ofNat).length := by rw [List.length_map]
  rw [e]
  refine run_convert_bytes_back w 37 9 5 ⟨g, 0, none⟩ cap (ys.map UInt8.ofNat) Try.underlying37 Try.underlying5 Try.underlying9 ?_
  intro j hj
  rw [List.length_map] at hj
  rw [addr_add, h.cell j hj]
  have : ys[j] < 256 := hy _ (List.getElem_mem hj)
  simp only [List.getElem_map, UInt8.toNat_ofNat']
  rw [Nat.mod_eq_of_lt (by omega)]
theorem Byb.of_string (w : World) (s : ByteArray) : ∃ w' cap, (convert 9 37 (.string s)).run Try.prog w = .ok (.slice (some ⟨w.heap.size, 0, none⟩) s.size cap) w' ∧ Byb w' w.heap.size (bytesOf s) ∧ Keeps (fun _ => False) w w' ∧ s.size ≤ cap := by
  refine ⟨_, _, run_bytes_of_string w 9 37 5 s Try.underlying9 Try.underlying37 Try.underlying5, ⟨_, _, heap_alloc_new _ _, ?_, .inl ?_⟩, ((Keeps.refl _ w).drew.alloc _), ?_⟩
  · intro i hi
    rw [bytesOf_length] at hi
    rw [bytesRow_at s _ i hi]
    have := bytesOf_get s i hi
    rw [List.getD, List.getElem?_eq_getElem (by rw [bytesOf_length]; exact hi), Option.getD_some] at this
    simp only [byteV, this]; rfl
  · rw [bytesOf_length]
    show s.size ≤ (bytesRow s _).size
    unfold bytesRow; simp
  · exact grownCap_ge w _ _ _

theorem u8_xor_nat (a b : Nat) (ha : a < 256) (hb : b < 256) : bits .xor .u8 (a : Int) (b : Int) = ((a ^^^ b : Nat) : Int) := by
  show IntKind.u8.wrap (((BitVec.ofInt 8 (a : Int) ^^^ BitVec.ofInt 8 (b : Int)).toNat : Nat) : Int) = _
  have e : ∀ z : Nat, z < 256 → (BitVec.ofInt 8 (z : Int)).toNat = z := fun z hz => by rw [BitVec.ofInt_natCast, BitVec.toNat_ofNat]; exact Nat.mod_eq_of_lt (by omega)
  rw [BitVec.toNat_xor, e a ha, e b hb]
  have : a ^^^ b < 2 ^ 8 := Nat.xor_lt_two_pow ha hb
  simp [IntKind.wrap, IntKind.bits, IntKind.signed]; omega
theorem xor8 {a b : Nat} (ha : a < 256) (hb : b < 256) : a ^^^ b < 256 := Nat.xor_lt_two_pow (n := 8) ha hb

end Go.Proofs.Ytdbfbijalhknnaa

namespace Go.Proofs.Ytdbfbijalhknnaa.Bk
open Go.RowKit
open Hf Tb
open Mt (Tk RowT mayF sumZ expF)
set_option linter.unusedVariables false
set_option linter.unusedSimpArgs false

end Go.Proofs.Ytdbfbijalhknnaa.Bk

namespace Go.Proofs.Ytdbfbijalhknnaa.Bk
open Go.RowKit
open Hf Tb
set_option linter.unusedVariables false
set_option linter.unusedSimpArgs false

theorem align_head : Bt.alignOf (bitsOf 1 1 ++ bitsOf 0 2) = bitsOf 1 8 := by decide

end Go.Proofs.Ytdbfbijalhknnaa.Bk

namespace Go.Proofs.Ytdbfbijalhknnaa.Bk
open Go.RowKit
open Hf Tb
open Mt (Tk RowT mayF sumZ expF OwnK)
set_option linter.unusedVariables false
set_option linter.unusedSimpArgs false

theorem RowT.lit {w : World} {b : Nat} {ts : List Tk} {T : TypeId} (h : w.heap[b]? = some (.cells (Mt.tkVs ts).toArray T (0, 0))) : RowT w (some ⟨b, 0, none⟩) ts := by
  refine .inr ⟨b, 0, rfl, lt_of_heap h, fun i hi => ?_⟩
  obtain ⟨e1, e2, e3⟩ := Mt.tkVs_get ts i hi
  rw [Nat.zero_add]
  exact ⟨cell_of_heap h (by rw [List.getElem?_toArray]; exact e1), cell_of_heap h (by rw [List.getElem?_toArray]; exact e2), cell_of_heap h (by rw [List.getElem?_toArray]; exact e3)⟩
theorem RowT.keptF {w w' : World} {a : Option Addr} {ts : List Tk} (h : RowT w a ts) (hk : Keeps (fun _ => False) w w') : RowT w' a ts := Mt.RowT.kept h hk (fun _ _ h => h)
/-- Fixed and Dynamic, in one word each for all rows of tokens. -/
def fixT (ts : List Tk) : ByteArray := bif mayT ts then textOf (pack (fixedB ts)) else ⟨#[]⟩
def dynT (ts : List Tk) : ByteArray := bif mayT ts then textOf (pack (dynOf ts)) else ⟨#[]⟩
def blkE (ts : List Tk) : Int := bif mayT ts then 0 else 800
/-- Inflate at what is told by a block. -/
theorem inf_of {L : Bts} {most : Nat} {o : List Nat} (h : inflP (pack L) (most : Int) = .ok (o, (pack L).length)) (hl : (pack L).length ≤ 100000) (w : World) :
    Calls Try.prog 9 #[.string (textOf (pack L)), .int .i64 (most : Int)] w fun e w' => e = .returned (.tuple #[.string (textOf o), .int .i64 ((pack L).length : Int), .int .i64 0]) ∧ Keeps (fun _ => False) w w' := by
  refine (inf_at (s := textOf (pack L)) (most := (most : Int)) (t := textOf o) (k := ((pack L).length : Int)) (er := 0) (by rw [textOf_size]; omega) (by rw [bytesOf_text _ (pack_lt L), h]; rfl) w trivial).mono ?_
  rintro e w' ⟨rfl, hk, _⟩
  exact ⟨rfl, hk⟩

/-! ### awake -/
def wk : List Tk := [(97, 0, 0), (97, 0, 0)]
theorem wk_step : Mt.step (bytesOf ⟨#[97, 97]⟩) 2 = 2 := by decide +kernel
theorem wk_toks : Mt.toksN (bytesOf ⟨#[97, 97]⟩) 2 = wk := by decide +kernel
theorem wk_may : mayT wk = true := by decide +kernel
theorem wk_exp : expF [] wk = [97, 97] := by decide +kernel
theorem wk_fix : textOf (pack (fixedB wk)) = ⟨#[75, 76, 4, 0]⟩ := by decide +kernel
theorem wk_sto : textOf (pack (storeB (bytesOf ⟨#[104, 105]⟩))) = ⟨#[1, 2, 0, 253, 255, 104, 105]⟩ := by decide +kernel
theorem wk_no : mayT [(0, 3, 1)] = false := by decide +kernel
theorem dynOf_len {ts : List Tk} (h : mayT ts = true) : (pack (dynOf ts)).length ≤ 100000 := by
  obtain ⟨m1, m2, m3, m4⟩ := mayT_is h
  have hD := dyn3_of ts (by omega)
  have hF : Full (lenA ts) (lenB ts) := ⟨hD.mA, by rw [hD.rA]; exact Nat.le_refl _, hD.mB, by rcases hD.rB with e | e; rw [e]; exact Nat.le_refl _; rw [room_zero _ e]; decide⟩
  have y1 := tksB_len hF ts m4 (fun t ht => by obtain ⟨c, hc⟩ := m4 t ht; exact hasT_of ts (by omega) t ht c hc)
  have y2 := codeB_le hD.mA 256
  have x1 := threeB_len (cutL (rowOf (lenC ts)) 4)
  have x2 := codesB_len hD.mC (cutL (lenA ts) 257 ++ cutL (lenB ts) 1)
  have x3 := upL_le (rowOf (lenC ts)) 4
  have x4 := upL_le (lenA ts) 257
  have x5 := upL_le (lenB ts) 1
  rw [rowOf_length] at x3
  rw [hD.lA] at x4
  rw [hD.lB] at x5
  rw [cutL_length] at x1
  rw [List.length_append, cutL_length, cutL_length] at x2
  rw [pack_length]
  unfold dynOf dynB hdrB
  simp only [List.length_append, bitsOf_length]
  omega
theorem fixOf_len {ts : List Tk} (h : mayT ts = true) : (pack (fixedB ts)).length ≤ 100000 := by
  obtain ⟨m1, m2, m3, m4⟩ := mayT_is h
  have y1 := tksB_len full_fix ts m4 (fun t ht => by obtain ⟨c, hc⟩ := m4 t ht; exact hasT_fix t c hc)
  have y2 := codeB_le full_fix.m1 256
  rw [pack_length]
  unfold fixedB
  simp only [List.length_append, bitsOf_length]
  omega

end Go.Proofs.Ytdbfbijalhknnaa.Bk

namespace Go.Proofs.Ytdbfbijalhknnaa
open Go.RowKit
open Hf Tb
open Mt (Tk RowT mayF okT sumZ expF OwnK toksN)
open Bk (mayT dynOf StrPost)
set_option linter.unusedVariables false
set_option linter.unusedSimpArgs false

theorem dyn_some {ts : List Tk} (h : mayT ts = true) : 1 ≤ (pack (dynOf ts)).length := by
  obtain ⟨h1, h2, h3, h4⟩ := Bk.mayT_is h
  have h5 := Bk.dyn_back h 8192 (by omega) (by omega) []
  exact (bound_pure _ [] 8192 (by omega) _ _ h5).2.1
theorem dyn_size {ts : List Tk} (h : mayT ts = true) : 1 ≤ (textOf (pack (dynOf ts))).size ∧ (textOf (pack (dynOf ts))).size ≤ 100000 := by
  rw [textOf_size]; exact ⟨dyn_some h, Bk.dynOf_len h⟩
theorem set_lt {ys : List Nat} (hy : ∀ y ∈ ys, y < 256) (i z : Nat) (hz : z < 256) : ∀ y ∈ ys.set i z, y < 256 := by
  intro y hm
  rcases List.mem_or_eq_of_mem_set hm with h | h
  · exact hy _ h
  · rw [h]; exact hz
theorem and7 (x : Int) : ∃ q : Nat, bits .and .i64 x 7 = (q : Int) ∧ q < 8 := by
  have h := i64_and_mask x 3 (by decide)
  refine ⟨(x % 8).toNat, ?_, by omega⟩
  rw [show ((2 ^ 3 - 1 : Nat) : Int) = 7 from rfl, show ((2 ^ 3 : Nat) : Int) = 8 from rfl] at h
  rw [h]; omega

theorem pow_mod {q : Nat} (h : 2 ^ q < 256) : (2 : Int) ^ q % 256 = ((2 ^ q : Nat) : Int) := by
  have e : (2 : Int) ^ q = ((2 ^ q : Nat) : Int) := by simp
  rw [e]
  generalize 2 ^ q = p at h
  omega
theorem size_le {a b : Nat} (h : a = b) (h2 : b ≤ 100000) : a ≤ 281474976710656 := by omega
theorem z8192 {k : Nat} (h : k < 8193) : (k : Int) ≤ 8192 := by omega
theorem z100000 {k : Nat} (h : k ≤ 100000) : (k : Int) ≤ 100000 := by omega
theorem z8 {k : Nat} (h : k < 8) : (k : Int) < 8 := by omega

set_option maxHeartbeats 4000000 in
set_option maxRecDepth 100000 in
theorem turned_walk (s : ByteArray) (at_ bit most : Int) (w : World) (hG : GRow w) (hs : s.size ≤ 140737488355328) :
    Calls Try.prog 8 #[.string s, .int .i64 at_, .int .i64 bit, .int .i64 most] w fun e w' => e = .returned (.bool true) ∧ Below w.heap.size w w' := by
  have HA : Hid (Calls Try.prog 12 #[] w fun e w' => e = .returned (.bool true) ∧ Keeps (fun _ => False) w w' ∧ GRow w') := awake7 w hG
  have HT : Hid (∀ w, Calls Try.prog 14 #[.string s] w (TokPost7 s w)) := fun w => rtokens7 s w hs
  have hsz : (s.size : Int) ≤ 140737488355328 := by omega
  clear hG
  go_enter Try.func8, Try.ntmps8
  go_wp2_with fail
  refine HA.out.mono ?_
  rintro e w1 ⟨rfl, hk1⟩
  have H1 : Hid (Keeps (fun _ => False) w w1) := hk1.1
  clear hk1 HA
  go_wp2_with fail
  refine (HT.out w1).mono ?_
  rintro e w2 ⟨a, ts, cap, rfl, hR, hm, hx, hk2⟩
  have H2 : Hid (Keeps (fun _ => False) w w2) := H1.out.trans hk2 (fun _ _ h => h)
  have HD : Hid (Calls Try.prog 15 #[.slice a ts.length cap] w2 (StrPost (textOf (pack (dynOf ts))) 0 w2)) := Bk.rdynamic_ok8 a ts cap w2 hR hm
  obtain ⟨hX1, hX2⟩ := dyn_size hm
  generalize textOf (pack (dynOf ts)) = X at *
  generalize ts.length = n at *
  clear hk2 H1 HT hR hm hx
  by_cases h3 : s.size ≤ 300
  · rw [if_pos h3]
    go_wp2_with fail
    refine HD.out.mono ?_
    rintro e w3 ⟨rfl, hk3⟩
    have H3 : Hid (Keeps (fun _ => False) w w3) := H2.out.trans hk3 (fun _ _ h => h)
    clear hk3 H2 HD
    have hXa : ¬ (X.size : Int) < 1 := by omega
    have hXb : (X.size : Int) ≤ 100000 := by omega
    obtain ⟨w4, cap4, hcv, hbt, hkp, hcap⟩ := Byb.of_string w3 X
    obtain ⟨g, hg⟩ : ∃ g, g = w3.heap.size := ⟨_, rfl⟩
    have HG : Hid (w.heap.size ≤ g) := show _ ≤ _ by rw [hg]; exact H3.out.size
    have HB4 : Hid (Byb w4 g (bytesOf X)) := by rw [hg]; exact hbt
    have H4 : Hid (Keeps (fun _ => False) w w4) := H3.out.trans hkp (fun _ _ h => h)
    rw [← hg] at hcv
    clear hbt hkp hg H3
    obtain ⟨i, hi, hi1, hi2, hi3⟩ := u64_mod7 at_ X.size (by omega) (by omega)
    obtain ⟨q, hq, hq8⟩ := and7 bit
    obtain ⟨k, hk, hk1, hk2, hk3⟩ := u64_mod7 most 8193 (by decide) (by decide)
    have hkz : (k : Int) ≤ 8192 := z8192 hk
    have hbl : i < (bytesOf X).length := by rw [bytesOf_length]; exact hi
    have hfz : w4.frozen? ⟨g, i, none⟩ = false := HB4.out.free i hbl
    obtain ⟨y, hy⟩ : ∃ y, y = (bytesOf X)[i] := ⟨_, rfl⟩
    have hcl := HB4.out.cell i hbl
    rw [← hy] at hcl
    have hy8 : y < 256 := by rw [hy]; exact Mt.bytesOf_lt X _ (List.getElem_mem hbl)
    have hq2 : 2 ^ q < 256 := Nat.pow_lt_pow_right (by decide) hq8
    have HX : bits .xor .u8 (y : Int) (2 ^ q % 256) = ((y ^^^ 2 ^ q : Nat) : Int) := by rw [pow_mod hq2]; exact u8_xor_nat y (2 ^ q) hy8 hq2
    have hX1' : (X.size : Int) ≤ 100000 := z100000 hX2
    have hqz : (q : Int) < 8 := z8 hq8
    have HS : Hid (Byb (w4.setCell ⟨g, i, none⟩ (.int .u8 ((y ^^^ 2 ^ q : Nat) : Int))) g ((bytesOf X).set i (y ^^^ 2 ^ q))) := HB4.out.set i (y ^^^ 2 ^ q)
    have HSL : Hid (∀ c ∈ (bytesOf X).set i (y ^^^ 2 ^ q), c < 256) := set_lt (Mt.bytesOf_lt X) i _ (xor8 hy8 hq2)
    have HSZ : Hid (((bytesOf X).set i (y ^^^ 2 ^ q)).length = X.size) := by show _ = _; rw [List.length_set, bytesOf_length]
    generalize (bytesOf X).set i (y ^^^ 2 ^ q) = Y at *
    generalize y ^^^ 2 ^ q = z at *
    clear hy hbl hy8 hq2 hX1 hs
    go_wp2_with fail
    clear hcv hi1 hi2 hi3
    go_region
    have H5 : Hid (Keeps (fun _ => False) w (w4.setCell ⟨g, i, none⟩ (.int .u8 (z : Int))).drew) := (H4.out.setCell (fun h => absurd h (Nat.not_lt.2 HG.out)) _).drew
    have HB5 : Hid (Byb (w4.setCell ⟨g, i, none⟩ (.int .u8 (z : Int))).drew g Y) := HS.out.kept ((Keeps.refl (fun _ => False) _).drew) (fun h => h)
    generalize (w4.setCell ⟨g, i, none⟩ (.int .u8 (z : Int))).drew = w5 at *
    clear HX HS H4 HB4 HG hfz hcl hq hqz hq8 hi
    have hcv := HB5.out.text HSL.out cap4
    rw [HSZ.out] at hcv
    obtain ⟨T, hT⟩ : ∃ T, textOf Y = T := ⟨_, rfl⟩
    have HTz : Hid (T.size = X.size) := by show _ = _; rw [← hT, textOf_size]; exact HSZ.out
    rw [hT] at hcv
    clear HB5 hT HSL HSZ
    have hk1' : (IntKind.u64.wrap most).tmod 8193 = (k : Int) := hk1
    have hk2' : IntKind.u64.wrap most % 8193 = (k : Int) := hk2
    clear hk1 hk2
    have HI : Hid (Calls Try.prog 9 #[.string T, .int .i64 (k : Int)] w5 (InfPost (inflP (bytesOf T) (k : Int)) w5)) := inflate_ok T (k : Int) w5 (size_le HTz.out hX2) trivial
    rcases hR : inflP (bytesOf T) (k : Int) with er | ⟨o, t⟩
    · rw [hR] at HI
      have her := inflP_err _ _ _ hR
      clear hR
      rcases her with rfl | rfl
      all_goals
        go_wp2_with fail
        refine HI.out.mono ?_
        rintro e w6 ⟨rfl, hk6⟩
        have H6 : Hid (Keeps (fun _ => False) w w6) := H5.out.trans hk6 (fun _ _ h => h)
        clear hk6 HI H5
        simp only [txR, tkR, erR]
        go_wp2_with (first
          | (go_at_call 11; refine (num_any _ _).mono ?_; rintro e w' ⟨rfl, hw⟩; obtain rfl := hw.symm; clear hw))
        go_ret
        exact ⟨rfl, H6.out.below _ (Nat.le_refl _) (fun _ h => h.elim)⟩
    · obtain ⟨b1, b2, b3, _, _, _⟩ := bound_pure (bytesOf T) [] k (Nat.le_of_lt_succ hk) o t hR
      rw [hR] at HI
      rw [bytesOf_length, HTz.out] at b3
      obtain ⟨O, hO⟩ : ∃ O, textOf o = O := ⟨_, rfl⟩
      have hOs : (O.size : Int) ≤ (k : Int) := by rw [← hO, textOf_size]; exact Int.ofNat_le.2 b1
      have HI' : Hid (Calls Try.prog 9 #[.string T, .int .i64 (k : Int)] w5 fun e w' => e = .returned (.tuple #[.string O, .int .i64 (t : Int), .int .i64 0]) ∧ Keeps (fun _ => False) w5 w') := by
        show Calls _ _ _ _ _
        rw [← hO]; exact HI.out.mono (fun e w' hp => hp)
      have hb2 : (1 : Int) ≤ (t : Int) := Int.ofNat_le.2 b2
      have hb3 : (t : Int) ≤ (X.size : Int) := Int.ofNat_le.2 b3
      clear hR HI b1 b2 b3 hO
      go_wp2_with fail
      refine HI'.out.mono ?_
      rintro e w6 ⟨rfl, hk6⟩
      have H6 : Hid (Keeps (fun _ => False) w w6) := H5.out.trans hk6 (fun _ _ h => h)
      clear hk6 HI' H5
      go_wp2_with (first
        | (go_at_call 11; refine (num_any _ _).mono ?_; rintro e w' ⟨rfl, hw⟩; obtain rfl := hw.symm; clear hw))
      go_ret
      exact ⟨rfl, H6.out.below _ (Nat.le_refl _) (fun _ h => h.elim)⟩
  · rw [if_neg h3]
    go_wp2_with fail
    refine HD.out.mono ?_
    rintro e w3 ⟨rfl, hk3⟩
    have H3 : Hid (Keeps (fun _ => False) w w3) := H2.out.trans hk3 (fun _ _ h => h)
    clear hk3 H2 HD
    have hz : (300 : Int) < (s.size : Int) := by omega
    go_wp2_with fail
    go_ret
    exact ⟨rfl, H3.out.below _ (Nat.le_refl _) (fun _ h => h.elim)⟩

end Go.Proofs.Ytdbfbijalhknnaa

namespace Go.Proofs.Ytdbfbijalhknnaa
open Go.ChangeShapes Go.WideShapes Go.ChangeAt Go.RowKit
open Go.ChangeMaps (open_string shut_string)
set_option linter.unusedVariables false

theorem inflateTurned_own : ownKnob Try.prog.godebug = none := by kernel_rfl
theorem inflateTurned_laidOut : laidOutB Try.prog = true := by kernel_rfl

set_option maxRecDepth 100000 in
theorem inflateTurned_lifted (os : Os) (started : os.Started) (H : Type) (enc : TypeId × Value → H) :
    ReturnsInHanded {} Try.checked os 8 .any (Rows.inflateTurnedSpec.pre6 enc Try.prog Try.f8 Rows.inflateTurnedRow.domain false) (Rows.inflateTurnedSpec.post enc Try.prog Try.f8 false true false false) := by
  refine returnsInHanded_of_change_sized (C := Try.checked) inflateTurned_own started (by kernel_rfl) Try.func8
    (ChangeSpec.witness6 (enc := enc) (C := Try.checked) false ⟨#[], #[.string ⟨#[]⟩, .int .i64 0, .int .i64 0, .int .i64 0], []⟩ 8 (by kernel_rfl) (by kernel_rfl) (by kernel_rfl) (by kernel_rfl)) ?_
  intro W base args ds gs before hval0 hW hcnd hsz0 _
  have hsz : (DataW.weightsEach Try.prog (Try.f8.params.toList ++ Rows.inflateTurnedSpec.plain.varTypes Try.prog) (ds ++ gs)).all (· ≤ reachBytes) = true := hsz0
  have hval : ∀ (j : Nat) t v, Try.f8.params[j]? = some t → args[j]? = some v → Value.okWide Try.prog W .any base t v := hval0
  have hW' := hW
  obtain ⟨p, q, hA0, hV, rfl, hfz, hnd⟩ := hW
  have hA : DataW.TrodAll enc Try.prog W 0 (fun _ => true) true Try.f8.params.toList args.toList ds p := hA0
  rw [Try.params8] at hA hval hsz
  obtain ⟨v0, vs0, d0, ds0, p0, q0, hargs, rfl, rfl, h0, r0⟩ := trodAll_cons hA
  obtain ⟨v1, vs1, d1, ds1, p1, q1, rfl, rfl, rfl, h1, r1⟩ := trodAll_cons r0
  obtain ⟨v2, vs2, d2, ds2, p2, q2, rfl, rfl, rfl, h2, r2⟩ := trodAll_cons r1
  obtain ⟨v3, vs3, d3, ds3, p3, q3, rfl, rfl, rfl, h3, r3⟩ := trodAll_cons r2
  obtain ⟨rfl, rfl, rfl⟩ := trodAll_nil r3
  obtain rfl : args = #[v0, v1, v2, v3] := by cases args; simp_all
  obtain ⟨rfl, rfl⟩ := trodVars_none hV
  obtain ⟨a0, rfl, rfl, rfl, w0⟩ := open_string Try.underlying9 (hval 0 9 v0 rfl rfl) h0
  obtain ⟨a1, rfl, rfl, rfl, w1⟩ := open_int Try.underlying3 (hval 1 3 v1 rfl rfl) h1
  obtain ⟨a2, rfl, rfl, rfl, w2⟩ := open_int Try.underlying3 (hval 2 3 v2 rfl rfl) h2
  obtain ⟨a3, rfl, rfl, rfl, w3⟩ := open_int Try.underlying3 (hval 3 3 v3 rfl rfl) h3
  clear hA0 hval0
  refine (turned_walk a0 a1 a2 a3 W trivial (by have := sized_string hsz (j := 0) (t := 9) rfl rfl; rw [Array.length_toList] at this; exact Nat.le_trans this (by decide))).mono fun e W' ⟨he, bel⟩ => ?_
  subst he
  exact ⟨_, rfl, _, _, _, [], [], [], hW', trodAll_mk1 (shut_bool Try.underlying4 _), (trodAll_cons_mk (shut_string Try.underlying9 w0) (trodAll_cons_mk (shut_int Try.underlying3 w1) (trodAll_cons_mk (shut_int Try.underlying3 w2) (trodAll_cons_mk (shut_int Try.underlying3 w3) trodAll_mk0)))), rfl, bel.frame _, fun h => by cases h⟩

theorem inflateTurned_over : Rows.inflateTurnedRow.holds Try.pinned (OpenSpec.ofChange Rows.inflateTurnedSpec) :=
  OpenClaim.holds_of_wide 8 Try.f8 rfl rfl rfl rfl rfl rfl rfl ⟨rfl, rfl, rfl, rfl, rfl⟩ rfl rfl rfl rfl rfl (by kernel_rfl) Try.func8 (by kernel_rfl)
    (of_decide_eq_true (by kernel_rfl)) (by unfold Func.isWrapper; first | (rw [if_pos (by decide +kernel)]; kernel_rfl) | (rw [if_neg (by decide +kernel)]; exact ⟨rfl, rfl⟩))
    (fun os started H enc _ => inflateTurned_lifted os started H enc)

theorem inflateTurned_holds : Rows.InflateTurnedSaid := inflateTurned_over

end Go.Proofs.Ytdbfbijalhknnaa

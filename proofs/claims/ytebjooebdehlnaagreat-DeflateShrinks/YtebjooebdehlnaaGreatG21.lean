/-
  Inflate: the text that a stream comes to, for every text and every bound. What every program answers that is one (awake), and Inflate at given texts. What every program answers that is one (awake of layer 8), and the calls at given tokens. Deflate, Pack and Unpack in plain words: the shortest of three blocks; what is packed is unpacked again. strings.Clone: the same text; by the library's own contract of what it calls. Deflate of package deflate: the first of the shortest of three blocks. Deflate, Pack and Unpack of package deflate: what they answer. What every program answers that is one (awake of layer 9).
-/
import Derived.Test.YtebjooebdehlnaaGreatRows
import Derived.Test.YtebjooebdehlnaaGreatG20
import Derived.BigQuiet
import Derived.WalkKit
import Derived.WalkSpells
import Derived.WalkLawsBesides
import Derived.Shelf.Pu.Clone
import Derived.LoopN
import Derived.Laws.EntriesVeiled
namespace Go.Proofs.YtebjooebdehlnaaGreat
open Go.RowKit
open Hf Tb
set_option linter.unusedVariables false
set_option linter.unusedSimpArgs false

theorem OwnB.text {T : TypeId} (hT : Tryz.prog.underlying T = some (.slice 5)) {w : World} {base : Nat} {v : Value} {xs : List Nat} (h : OwnB w base v xs) (hx : ∀ y ∈ xs, y < 256) :
    (convert T 9 v).run Tryz.prog w = .ok (.string (textOf xs)) w := by
  by_cases h0 : xs.length = 0
  · have e : xs = [] := List.length_eq_zero_iff.1 h0
    subst e
    rcases h.2 with ⟨rfl, _⟩ | ⟨g, cap, cur, rfl, _⟩
    · exact run_convert_bytes_nil w T 5 hT Tryz.underlying5 0 0 9 Tryz.underlying9
    · exact run_convert_bytes_back w T 9 5 ⟨g, 0, none⟩ cap [] hT Tryz.underlying5 Tryz.underlying9 (fun j hj => by simp at hj)
  · obtain ⟨g, cap, rfl, _⟩ := h.cell 0 (by omega)
    have e : xs.length = (xs.map UInt8.ofNat).length := by rw [List.length_map]
    rw [e]
    refine run_convert_bytes_back w T 9 5 ⟨g, 0, none⟩ cap (xs.map UInt8.ofNat) hT Tryz.underlying5 Tryz.underlying9 ?_
    intro j hj
    rw [List.length_map] at hj
    obtain ⟨g', cap', e', hc⟩ := h.cell j hj
    simp only [Value.slice.injEq, Option.some.injEq, Addr.mk.injEq] at e'
    rw [addr_add, e'.1.1, hc]
    have : xs[j] < 256 := hx _ (List.getElem_mem hj)
    simp only [List.getElem_map, UInt8.toNat_ofNat']
    rw [Nat.mod_eq_of_lt (by omega)]

def txR : Except Int (List Nat × Nat) → ByteArray
  | .ok r => textOf r.1
  | .error _ => ⟨#[]⟩
def tkR : Except Int (List Nat × Nat) → Int
  | .ok r => (r.2 : Int)
  | .error _ => 0
def erR : Except Int (List Nat × Nat) → Int
  | .ok _ => 0
  | .error e => e
/-- What Inflate leaves. -/
def InfPost (R : Except Int (List Nat × Nat)) (w : World) (e : Ending) (w' : World) : Prop :=
  e = .returned (.tuple #[.string (txR R), .int .i64 (tkR R), .int .i64 (erR R)]) ∧ Keeps (fun _ => False) w w'
theorem InfPost.bad {er : Int} {w w' : World} (h : Keeps (fun _ => False) w w') : InfPost (.error er) w (.returned (.tuple #[.string ⟨#[]⟩, .int .i64 0, .int .i64 er])) w' := ⟨rfl, h⟩
set_option maxHeartbeats 4000000 in
set_option maxRecDepth 100000 in
theorem inflate_ok (s : ByteArray) (most : Int) (w : World) (hs : s.size ≤ 281474976710656) (hG : GRow w) :
    Calls Tryz.prog 16 #[.string s, .int .i64 most] w (InfPost (inflP (bytesOf s) most) w) := by
  obtain ⟨R, hR⟩ : ∃ R, inflP (bytesOf s) most = R := ⟨_, rfl⟩
  rw [hR]
  by_cases hm0 : most < 0
  · have e : R = .error 700 := by rw [← hR]; unfold inflP; rw [if_neg (by omega)]
    subst e
    clear hR
    go_enter Tryz.func16, Tryz.ntmps16
    go_wp2
    go_ret3
    exact InfPost.bad (Keeps.refl _ _)
  · by_cases hm1 : 8192 < most
    · have e : R = .error 700 := by rw [← hR]; unfold inflP; rw [if_neg (by omega)]
      subst e
      clear hR
      go_enter Tryz.func16, Tryz.ntmps16
      go_wp2
      go_ret3
      exact InfPost.bad (Keeps.refl _ _)
    · obtain ⟨m, rfl⟩ := Int.eq_ofNat_of_zero_le (show 0 ≤ most by omega)
      have hR2 : inflB (bytesOf s) m = R := by rw [← hR]; unfold inflP; rw [if_pos (by omega)]; rfl
      have hm2 : m ≤ 8192 := by omega
      have HR : Hid (inflB (bytesOf s) m = R) := hR2
      have HS : Hid (s.size ≤ 281474976710656 ∧ GRow w) := ⟨hs, hG⟩
      have HC : Hid (Calls Tryz.prog 28 #[.string s] w fun e w' => e = .returned (.pointer (some ⟨w.heap.size, 0, none⟩)) ∧ w' = w.alloc (.cells #[.string s, .int .i64 0] 121)) := of_any s w
      clear hR hR2 hs hG
      go_enter Tryz.func16, Tryz.ntmps16
      go_wp2_with fail
      refine HC.out.mono ?_
      rintro e w2 ⟨rfl, hw2⟩
      have H2 : Hid (Rd 121 w2 w.heap.size s 0 ∧ Keeps (fun _ => False) w w2 ∧ w2.heap.size = w.heap.size + 1) := by
        rw [hw2]; exact ⟨heap_alloc_new _ _, (Keeps.refl _ w).alloc _, by simp⟩
      clear hw2 HC
      go_wp2
      generalize hw3 : World.alloc _ _ = w3
      obtain ⟨b, hb⟩ : ∃ b, w2.heap.size = b := ⟨_, rfl⟩
      obtain ⟨r, hr⟩ : ∃ r, w.heap.size = r := ⟨_, rfl⟩
      rw [hb, hr]
      have H3 : Hid (St w3 b r (.slice none 0 0) s m (bitsL (bytesOf s)) [] ∧ Keeps (fun _ => False) w w3 ∧ w.heap.size ≤ r ∧ w.heap.size ≤ b) := by
        have h2 := H2.out
        rw [hr] at h2
        have hk : Keeps (fun _ => False) w2 w3 := by rw [← hw3]; exact (Keeps.refl _ w2).alloc _
        have hkw := h2.2.1.trans hk (fun _ _ h => h)
        refine ⟨⟨⟨.pointer none, ?_, .inl rfl⟩, ⟨0, h2.1.kept hk (fun h => h), by omega, by simp⟩, OwnB.nil _ _, by omega, HS.out.1, Nat.zero_le _, hm2, fun x hx => by cases hx⟩, hkw, by omega, by omega⟩
        rw [← hw3, ← hb, ← hr]; exact heap_alloc_new _ _
      clear hw3 hb hr H2
      have H4 : Hid (∃ L1 x1 v1, St w3 b r v1 s m L1 x1 ∧ Adv w3 w3 b r (.slice none 0 0) v1 ∧ (false = true → blocks m (bitsL (bytesOf s)) [] = .ok (L1, x1)) ∧ (false = false → blocks m (bitsL (bytesOf s)) [] = blocks m L1 x1)) := ⟨_, _, _, H3.out.1, Adv.refl _ _ _ _, fun e => by (cases e), fun _ => rfl⟩
      go_loopw [8] (fun s8 w' => ∃ t : Bool, s8 = .bool t ∧ Hid (∃ L1 x1 v1, St w' b r v1 s m L1 x1 ∧ Adv w3 w' b r (.slice none 0 0) v1 ∧ (t = true → blocks m (bitsL (bytesOf s)) [] = .ok (L1, x1)) ∧ (t = false → blocks m (bitsL (bytesOf s)) [] = blocks m L1 x1))) (fun s8 w' => match s8 with | .bool true => 0 | _ => 1 + (8 * s.size - posOf w' r))
      case atStart => exact ⟨false, rfl, H4⟩
      case round =>
        clear H4
        obtain ⟨t, rfl, HW⟩ := hrel
        obtain ⟨L1, x1, v1, hS, hA, ht, hf⟩ := HW.out
        clear HW
        cases t
        · have HS1 : Hid (St wr b r v1 s m L1 x1 ∧ Adv w3 wr b r (.slice none 0 0) v1 ∧ blocks m (bitsL (bytesOf s)) [] = blocks m L1 x1) := ⟨hS, hA, hf rfl⟩
          have HC : Hid (Calls Tryz.prog 29 #[.pointer (some ⟨b, 0, none⟩)] wr (BlkPost L1 x1 wr b r v1 s m)) := block_ok hS
          clear hS hA ht hf
          go_wp2_with fail
          refine HC.out.mono ?_
          intro e w5 hP
          clear HC
          rcases hP with ⟨er, t, hb, her, rfl, hk⟩ | ⟨t, L', o', v', rfl, hS5, hA5, ht5, hf5⟩
          · have e : R = .error er := by rw [← HR.out]; unfold inflB; rw [HS1.out.2.2, hb]
            subst e
            have HK : Hid (Keeps (fun _ => False) w w5) := by
              have k := HS1.out.2.1.lost hk
              refine H3.out.2.1.trans k ?_
              rintro i hi (e | e | e)
              · have := H3.out.2.2.2; omega
              · have := H3.out.2.2.1; omega
              · cases e
            have hne := her.ne
            clear hb her hk
            go_wp2
            go_ret3
            exact InfPost.bad HK.out
          · have H5 : Hid (∃ L1 x1 v1, St w5 b r v1 s m L1 x1 ∧ Adv w3 w5 b r (.slice none 0 0) v1 ∧ (t = true → blocks m (bitsL (bytesOf s)) [] = .ok (L1, x1)) ∧ (t = false → blocks m (bitsL (bytesOf s)) [] = blocks m L1 x1)) := ⟨L', o', v', hS5, HS1.out.2.1.trans hA5, fun e => by rw [HS1.out.2.2]; exact ht5 e, fun e => by rw [HS1.out.2.2]; exact (hf5 e).1⟩
            have HM : Hid (t = false → 8 * s.size - posOf w5 r < 8 * s.size - posOf wr r) := fun e => by rw [hS5.left, HS1.out.1.left]; exact (hf5 e).2
            clear hS5 hA5 ht5 hf5
            go_wp2
            go_roundw
            case rel => exact ⟨t, rfl, H5⟩
            case measure =>
              cases t
              · have := HM.out rfl; simp only; omega
              · simp only; omega
        · have hE := ht rfl
          have HC : Hid (Calls Tryz.prog 30 #[.pointer (some ⟨r, 0, none⟩)] wr fun e w' => e = .returned (.int .i64 0) ∧ St w' b r v1 s m (alignL L1) x1 ∧ Rdv wr w' b r v1) := hS.align
          have hc := hS.c0
          have HA : Hid (Adv w3 wr b r (.slice none 0 0) v1) := hA
          obtain ⟨q, hq⟩ : ∃ q, s.size - L1.length / 8 = q := ⟨_, rfl⟩
          have e : R = .ok (x1, q) := by rw [← HR.out]; unfold inflB; rw [hE, bytesOf_length, ← hq]
          subst e
          have HQ : Hid (s.size - L1.length / 8 = q) := hq
          clear hq
          clear hS hA ht hf hE HR
          go_wp2_with fail
          refine HC.out.mono ?_
          rintro e w5 ⟨rfl, hS5, hA5⟩
          clear HC hc
          obtain ⟨p, p1, p2, p3⟩ := hS5.rd
          have hpl : (alignL L1).length = 8 * s.size - p := by rw [p3, List.length_drop, bitsL_length, bytesOf_length]
          have hal : (alignL L1).length = L1.length / 8 * 8 := by unfold alignL; rw [List.length_drop]; omega
          have hpq : p / 8 = s.size - L1.length / 8 := by omega
          rw [HQ.out] at hpq
          have hz := hS5.sz
          have hd1 : (p : Int) / 8 = (q : Int) := by omega
          have hd2 : (p : Int).tdiv 8 = (q : Int) := by rw [Int.tdiv_eq_ediv_of_nonneg (by omega)]; exact hd1
          have hd3 : IntKind.i64.wrap (q : Int) = (q : Int) := wrap_i64_small _ (by omega) (by omega)
          have hc0 := hS5.c0
          have hc1 := hS5.c1
          have hcv : ∀ n, (convert 39 9 v1).run Tryz.prog (w5.drewN n) = .ok (.string (textOf x1)) (w5.drewN n) := fun n => OwnB.text Tryz.underlying39 (show OwnB (w5.drewN n) (b + 1) v1 x1 from hS5.own) hS5.byt
          have HAt : Hid (∀ n, Calls Tryz.prog 31 #[.pointer (some ⟨r, 0, none⟩)] (w5.drewN n) fun e w' => e = .returned (.int .i64 (p : Int)) ∧ w' = (w5.drewN n)) := fun n => at_ok r p s (w5.drewN n) p1
          have HK : Hid (Keeps (fun _ => False) w w5) := by
            have k := HA.out.lost hA5.keep
            refine H3.out.2.1.trans k ?_
            rintro i hi (e | e | e)
            · have := H3.out.2.2.2; omega
            · have := H3.out.2.2.1; omega
            · cases e
          obtain ⟨av, cv, hv1⟩ := hS5.own.form
          clear hS5 hA5 p1 p2 p3 hpl hal hpq HA H3
          have HV : Hid (v1 = .slice av x1.length cv) := hv1
          clear hv1
          go_wp2
          go_quiet ((go_at_call 31; exact Calls.quiet_of_same (HAt.out _)))
          go_wp2
          go_ret3
          exact ⟨rfl, HK.out.drewN _⟩

end Go.Proofs.YtebjooebdehlnaaGreat

namespace Go.Proofs.YtebjooebdehlnaaGreat
open Go.RowKit
open Hf Tb
set_option linter.unusedVariables false
set_option linter.unusedSimpArgs false

theorem GRow.keptF {w w' : World} (h : GRow w) (hk : Keeps (fun _ => False) w w') : GRow w' := trivial
/-- Inflate at a text and a bound of which the answer is known. -/
theorem inf_at {s : ByteArray} {most : Int} {t : ByteArray} {k er : Int} (hs : s.size ≤ 281474976710656) (h : (txR (inflP (bytesOf s) most), tkR (inflP (bytesOf s) most), erR (inflP (bytesOf s) most)) = (t, k, er)) (w : World) (hG : GRow w) :
    Calls Tryz.prog 16 #[.string s, .int .i64 most] w fun e w' => e = .returned (.tuple #[.string t, .int .i64 k, .int .i64 er]) ∧ Keeps (fun _ => False) w w' ∧ GRow w' := by
  simp only [Prod.mk.injEq] at h
  refine (inflate_ok s most w hs hG).mono ?_
  rintro e w' ⟨rfl, hk⟩
  exact ⟨by rw [h.1, h.2.1, h.2.2], hk, hG.keptF hk⟩

theorem aw1 : (txR (inflP (bytesOf ⟨#[1, 2, 0, 253, 255, 104, 105, 120]⟩) 9), tkR (inflP (bytesOf ⟨#[1, 2, 0, 253, 255, 104, 105, 120]⟩) 9), erR (inflP (bytesOf ⟨#[1, 2, 0, 253, 255, 104, 105, 120]⟩) 9)) = ((⟨#[104, 105]⟩ : ByteArray), 7, 0) := by decide +kernel
theorem aw2 : (txR (inflP (bytesOf ⟨#[75, 76, 4, 0]⟩) 9), tkR (inflP (bytesOf ⟨#[75, 76, 4, 0]⟩) 9), erR (inflP (bytesOf ⟨#[75, 76, 4, 0]⟩) 9)) = ((⟨#[97, 97]⟩ : ByteArray), 4, 0) := by decide +kernel
theorem aw3 : (txR (inflP (bytesOf ⟨#[75, 76, 4, 0]⟩) 1), tkR (inflP (bytesOf ⟨#[75, 76, 4, 0]⟩) 1), erR (inflP (bytesOf ⟨#[75, 76, 4, 0]⟩) 1)) = ((⟨#[]⟩ : ByteArray), 0, 701) := by decide +kernel
theorem aw4 : (txR (inflP (bytesOf ⟨#[7]⟩) 9), tkR (inflP (bytesOf ⟨#[7]⟩) 9), erR (inflP (bytesOf ⟨#[7]⟩) 9)) = ((⟨#[]⟩ : ByteArray), 0, 700) := by decide +kernel
theorem aw5 : (txR (inflP (bytesOf ⟨#[]⟩) 9), tkR (inflP (bytesOf ⟨#[]⟩) 9), erR (inflP (bytesOf ⟨#[]⟩) 9)) = ((⟨#[]⟩ : ByteArray), 0, 700) := by decide +kernel

end Go.Proofs.YtebjooebdehlnaaGreat

namespace Go.Proofs.YtebjooebdehlnaaGreat.Bk
open Go.RowKit
open Hf Tb
open Mt (Tk RowT mayF sumZ expF OwnK)
set_option linter.unusedVariables false
set_option linter.unusedSimpArgs false

theorem RowT.lit {w : World} {b : Nat} {ts : List Tk} {T : TypeId} (h : w.heap[b]? = some (.cells (Mt.tkVs ts).toArray T (0, 0))) : RowT w (some ⟨b, 0, none⟩) ts := by
  refine .inr ⟨b, 0, rfl, lt_of_heap h, fun i hi => ?_⟩
  obtain ⟨e1, e2, e3⟩ := Mt.tkVs_get ts i hi
  rw [Nat.zero_add]
  exact ⟨cell_of_heap h (by rw [List.getElem?_toArray]; exact e1), cell_of_heap h (by rw [List.getElem?_toArray]; exact e2), cell_of_heap h (by rw [List.getElem?_toArray]; exact e3)⟩
theorem RowT.keptF {w w' : World} {a : Option Addr} {ts : List Tk} (h : RowT w a ts) (hk : Keeps (fun _ => False) w w') : RowT w' a ts := Mt.RowT.kept h hk (fun _ _ h => h)
/-- Fixed and Dynamic, in one word each for all rows of tokens. -/
def fixT (ts : List Tk) : ByteArray := bif mayT ts then textOf (pack (fixedB ts)) else ⟨#[]⟩
def dynT (ts : List Tk) : ByteArray := bif mayT ts then textOf (pack (dynOf ts)) else ⟨#[]⟩
def blkE (ts : List Tk) : Int := bif mayT ts then 0 else 800
theorem fixed_all (a : Option Addr) (ts : List Tk) (cap : Nat) (w : World) (hR : RowT w a ts) (hl : ts.length ≤ 9223372036854775806) : Calls Tryz.prog 19 #[.slice a ts.length cap] w (StrPost (fixT ts) (blkE ts) w) := by
  cases hm : mayT ts with
  | true => have := fixed_ok8 a ts cap w hR hm; unfold fixT blkE; rw [hm]; exact this
  | false => have := fixed_bad a ts cap w hR hl hm; unfold fixT blkE; rw [hm]; exact this
theorem dynamic_all (a : Option Addr) (ts : List Tk) (cap : Nat) (w : World) (hR : RowT w a ts) (hl : ts.length ≤ 9223372036854775806) : Calls Tryz.prog 20 #[.slice a ts.length cap] w (StrPost (dynT ts) (blkE ts) w) := by
  cases hm : mayT ts with
  | true => have := dynamic_ok8 a ts cap w hR hm; unfold dynT blkE; rw [hm]; exact this
  | false => have := dynamic_bad a ts cap w hR hl hm; unfold dynT blkE; rw [hm]; exact this
/-- Inflate at what is told by a block. -/
theorem inf_of {L : Bts} {most : Nat} {o : List Nat} (h : inflP (pack L) (most : Int) = .ok (o, (pack L).length)) (hl : (pack L).length ≤ 100000) (w : World) :
    Calls Tryz.prog 16 #[.string (textOf (pack L)), .int .i64 (most : Int)] w fun e w' => e = .returned (.tuple #[.string (textOf o), .int .i64 ((pack L).length : Int), .int .i64 0]) ∧ Keeps (fun _ => False) w w' := by
  refine (inf_at (s := textOf (pack L)) (most := (most : Int)) (t := textOf o) (k := ((pack L).length : Int)) (er := 0) (by rw [textOf_size]; omega) (by rw [bytesOf_text _ (pack_lt L), h]; rfl) w trivial).mono ?_
  rintro e w' ⟨rfl, hk, _⟩
  exact ⟨rfl, hk⟩

/-! ### awake -/
def wk : List Tk := [(97, 0, 0), (97, 0, 0)]
theorem wk_step : Mt.step (bytesOf ⟨#[97, 97]⟩) 2 = 2 := by decide +kernel
theorem wk_toks : Mt.toksN (bytesOf ⟨#[97, 97]⟩) 2 = wk := by decide +kernel
theorem wk_may : mayT wk = true := by decide +kernel
theorem wk_exp : expF [] wk = [97, 97] := by decide +kernel
theorem wk_fix : textOf (pack (fixedB wk)) = ⟨#[75, 76, 4, 0]⟩ := by decide +kernel
theorem wk_sto : textOf (pack (storeB (bytesOf ⟨#[104, 105]⟩))) = ⟨#[1, 2, 0, 253, 255, 104, 105]⟩ := by decide +kernel
theorem wk_no : mayT [(0, 3, 1)] = false := by decide +kernel
theorem tokens_rowT (s : ByteArray) (w : World) (hs : s.size ≤ 300) :
    Calls Tryz.prog 17 #[.string s] w fun e w' => ∃ K a cap, e = .returned (.tuple #[.slice a K cap, .int .i64 0]) ∧ Mt.step (bytesOf s) K = s.size ∧ RowT w' a (Mt.toksN (bytesOf s) K) ∧ K ≤ s.size ∧ Keeps (fun _ => False) w w' := by
  refine (Mt.tokens_ok s w hs).mono ?_
  rintro e w' ⟨K, v, rfl, hK, hO, hk⟩
  obtain ⟨a, cap, rfl, hR, _⟩ := hO.row
  rw [Mt.toksN_len] at hO ⊢
  refine ⟨K, a, cap, rfl, hK, hR, ?_, hk⟩
  have := Mt.step_grow (bytesOf s) 0 K
  simp only [Nat.zero_add] at this
  omega
theorem wk_tokens (w : World) : Calls Tryz.prog 17 #[.string ⟨#[97, 97]⟩] w fun e w' => ∃ a cap, e = .returned (.tuple #[.slice a 2 cap, .int .i64 0]) ∧ RowT w' a wk ∧ Keeps (fun _ => False) w w' := by
  refine (tokens_rowT ⟨#[97, 97]⟩ w (by decide)).mono ?_
  rintro e w' ⟨K, a, cap, rfl, hK, hR, _, hk⟩
  have e1 : K = 2 := Mt.step_uniq (bytesOf ⟨#[97, 97]⟩) K 2 (by rw [hK]; rfl) (by rw [wk_step]; rfl)
  subst e1
  rw [wk_toks] at hR
  exact ⟨a, cap, rfl, hR, hk⟩
theorem dynOf_len {ts : List Tk} (h : mayT ts = true) : (pack (dynOf ts)).length ≤ 100000 := by
  obtain ⟨m1, m2, m3, m4⟩ := mayT_is h
  have hD := dyn3_of ts (by omega)
  have hF : Full (lenA ts) (lenB ts) := ⟨hD.mA, by rw [hD.rA]; exact Nat.le_refl _, hD.mB, by rcases hD.rB with e | e; rw [e]; exact Nat.le_refl _; rw [room_zero _ e]; decide⟩
  have y1 := tksB_len hF ts m4 (fun t ht => by obtain ⟨c, hc⟩ := m4 t ht; exact hasT_of ts (by omega) t ht c hc)
  have y2 := codeB_le hD.mA 256
  have x1 := threeB_len (cutL (rowOf (lenC ts)) 4)
  have x2 := codesB_len hD.mC (cutL (lenA ts) 257 ++ cutL (lenB ts) 1)
  have x3 := upL_le (rowOf (lenC ts)) 4
  have x4 := upL_le (lenA ts) 257
  have x5 := upL_le (lenB ts) 1
  rw [rowOf_length] at x3
  rw [hD.lA] at x4
  rw [hD.lB] at x5
  rw [cutL_length] at x1
  rw [List.length_append, cutL_length, cutL_length] at x2
  rw [pack_length]
  unfold dynOf dynB hdrB
  simp only [List.length_append, bitsOf_length]
  omega
theorem fixOf_len {ts : List Tk} (h : mayT ts = true) : (pack (fixedB ts)).length ≤ 100000 := by
  obtain ⟨m1, m2, m3, m4⟩ := mayT_is h
  have y1 := tksB_len full_fix ts m4 (fun t ht => by obtain ⟨c, hc⟩ := m4 t ht; exact hasT_fix t c hc)
  have y2 := codeB_le full_fix.m1 256
  rw [pack_length]
  unfold fixedB
  simp only [List.length_append, bitsOf_length]
  omega

end Go.Proofs.YtebjooebdehlnaaGreat.Bk

namespace Go.Proofs.YtebjooebdehlnaaGreat.Bk
open Hf Tb
open Mt (Tk RowT mayF okT sumZ expF toksN)
set_option linter.unusedVariables false
set_option linter.unusedSimpArgs false

theorem bytesOf_lt9 (s : ByteArray) : ∀ c ∈ bytesOf s, c < 256 := by
  intro c hc
  simp only [bytesOf, List.mem_map] at hc
  obtain ⟨u, _, rfl⟩ := hc
  exact UInt8.toNat_lt _
theorem textOf_bytes9 (s : ByteArray) : textOf (bytesOf s) = s := by
  unfold textOf bytesOf
  rw [List.map_map]
  have : (UInt8.ofNat ∘ UInt8.toNat) = id := by funext u; simp
  rw [this, List.map_id]

/-! ### The tokens of a text -/
theorem step_hits (ys : List Nat) : ∀ n k, Mt.step ys k ≤ ys.length → ys.length - Mt.step ys k ≤ n → ∃ K, Mt.step ys K = ys.length
  | 0, k, h, hn => ⟨k, by omega⟩
  | n + 1, k, h, hn => by
    by_cases e : Mt.step ys k = ys.length
    · exact ⟨k, e⟩
    · have h1 := Mt.step_le ys k (by omega)
      have h2 := Mt.step_grow ys k 1
      exact step_hits ys n (k + 1) h1 (by omega)
def kOf (s : ByteArray) : Nat := ((List.range (s.size + 1)).find? (fun K => Mt.step (bytesOf s) K == s.size)).getD 0
theorem kOf_step (s : ByteArray) : Mt.step (bytesOf s) (kOf s) = s.size := by
  obtain ⟨K, hK⟩ := step_hits (bytesOf s) (bytesOf s).length 0 (Nat.zero_le _) (Nat.sub_le _ _)
  rw [bytesOf_length] at hK
  have hg := Mt.step_grow (bytesOf s) 0 K
  have h0 : Mt.step (bytesOf s) 0 = 0 := rfl
  simp only [Nat.zero_add, h0] at hg
  have hin : K ∈ List.range (s.size + 1) := List.mem_range.2 (by omega)
  unfold kOf
  rcases hf : (List.range (s.size + 1)).find? (fun K => Mt.step (bytesOf s) K == s.size) with _ | x
  · have := List.find?_eq_none.1 hf K hin
    rw [hK] at this
    simp at this
  · have := List.find?_some hf
    simpa using this
theorem kOf_eq (s : ByteArray) (K : Nat) (h : Mt.step (bytesOf s) K = s.size) : K = kOf s :=
  Mt.step_uniq (bytesOf s) K (kOf s) (by rw [h, bytesOf_length]) (by rw [kOf_step, bytesOf_length])
def toksOf (s : ByteArray) : List Tk := toksN (bytesOf s) (kOf s)
theorem toksOf_len (s : ByteArray) : (toksOf s).length = kOf s := Mt.toksN_len _ _
theorem toksOf_may (s : ByteArray) (hs : s.size ≤ 300) : mayT (toksOf s) = true := by
  unfold mayT toksOf
  rw [Mt.may_toks (bytesOf s) (bytesOf_lt9 s) (by rw [bytesOf_length]; exact hs) _ (by rw [kOf_step, bytesOf_length]; exact Nat.le_refl _), Mt.sumZ_toks, kOf_step, Bool.true_and]
  exact decide_eq_true (by omega)
theorem toksOf_exp (s : ByteArray) : expF [] (toksOf s) = bytesOf s := Mt.exp_all _ _ (by rw [kOf_step, bytesOf_length])
theorem toksOf_sum (s : ByteArray) : sumZ (toksOf s) = (s.size : Int) := by unfold toksOf; rw [Mt.sumZ_toks, kOf_step]
theorem kOf_le (s : ByteArray) : kOf s ≤ s.size := by
  have hg := Mt.step_grow (bytesOf s) 0 (kOf s)
  have h0 : Mt.step (bytesOf s) 0 = 0 := rfl
  simp only [Nat.zero_add, h0, kOf_step] at hg
  exact hg

/-! ### Deflate -/
def stoS (s : ByteArray) : ByteArray := textOf (pack (storeB (bytesOf s)))
def fixS (s : ByteArray) : ByteArray := textOf (pack (fixedB (toksOf s)))
def dynS (s : ByteArray) : ByteArray := textOf (pack (dynOf (toksOf s)))
def shT (a b : ByteArray) : ByteArray := if b.size < a.size then b else a
def defT (s : ByteArray) : ByteArray := shT (shT (stoS s) (fixS s)) (dynS s)
theorem shT_or (a b : ByteArray) : shT a b = a ∨ shT a b = b := by unfold shT; split; exact .inr rfl; exact .inl rfl
theorem shT_le (a b : ByteArray) : (shT a b).size ≤ a.size ∧ (shT a b).size ≤ b.size := by unfold shT; split <;> omega
theorem defT_or (s : ByteArray) : defT s = stoS s ∨ defT s = fixS s ∨ defT s = dynS s := by
  unfold defT
  rcases shT_or (shT (stoS s) (fixS s)) (dynS s) with e | e
  · rw [e]
    rcases shT_or (stoS s) (fixS s) with e | e
    · exact .inl e
    · exact .inr (.inl e)
  · exact .inr (.inr e)
theorem defT_le (s : ByteArray) : (defT s).size ≤ (stoS s).size ∧ (defT s).size ≤ (fixS s).size ∧ (defT s).size ≤ (dynS s).size := by
  unfold defT
  have h1 := shT_le (stoS s) (fixS s)
  have h2 := shT_le (shT (stoS s) (fixS s)) (dynS s)
  omega
theorem stoS_size (s : ByteArray) : (stoS s).size = s.size + 5 := by
  unfold stoS; rw [textOf_size, pack_length, storeB_length, bytesOf_length]; omega
theorem codeB_fix : (codeB fixLs 256).length = 7 := by rw [codeB_length]; decide +kernel
theorem fixS_ge (s : ByteArray) : 2 ≤ (fixS s).size := by
  unfold fixS; rw [textOf_size, pack_length]; unfold fixedB
  simp only [List.length_append, bitsOf_length, codeB_fix]; omega
theorem dynS_ge (s : ByteArray) : 2 ≤ (dynS s).size := by
  unfold dynS; rw [textOf_size, pack_length]; unfold dynOf dynB hdrB
  simp only [List.length_append, bitsOf_length]; omega
theorem defT_ge (s : ByteArray) : 2 ≤ (defT s).size := by
  have := stoS_size s; have := fixS_ge s; have := dynS_ge s
  rcases defT_or s with e | e | e <;> rw [e] <;> omega
theorem def_back (s : ByteArray) (hs : s.size ≤ 300) (more : List Nat) (most : Nat) (h1 : s.size ≤ most) (h2 : most ≤ 8192) : inflP (bytesOf (defT s) ++ more) (most : Int) = .ok (bytesOf s, (defT s).size) := by
  have hm := toksOf_may s hs
  rcases defT_or s with e | e | e <;> rw [e]
  · unfold stoS
    rw [bytesOf_text _ (pack_lt _), textOf_size]
    exact inflB_stored (bytesOf s) more (bytesOf_lt9 s) (by rw [bytesOf_length]; omega) most (by rw [bytesOf_length]; exact h1) h2
  · unfold fixS
    rw [bytesOf_text _ (pack_lt _), textOf_size, ← toksOf_exp s]
    exact fix_back hm most (by rw [toksOf_sum]; omega) h2 more
  · unfold dynS
    rw [bytesOf_text _ (pack_lt _), textOf_size, ← toksOf_exp s]
    exact dyn_back hm most (by rw [toksOf_sum]; omega) h2 more
theorem defT_size (s : ByteArray) : (defT s).size ≤ s.size + 5 := by
  have := (defT_le s).1
  rw [stoS_size] at this; exact this

/-! ### Pack, Unpack -/
def pkM (s : ByteArray) : Int := if (defT s).size < s.size then 8 else 0
def pkT (s : ByteArray) : ByteArray := if (defT s).size < s.size then defT s else s
def infT (p : ByteArray) (n : Int) : ByteArray := txR (inflP (bytesOf p) n)
def infK (p : ByteArray) (n : Int) : Int := tkR (inflP (bytesOf p) n)
def infE (p : ByteArray) (n : Int) : Int := erR (inflP (bytesOf p) n)
def unT (m : Int) (p : ByteArray) (n : Int) : ByteArray × Int :=
  if n < 0 ∨ 300 < n then (⟨#[]⟩, 900)
  else if m = 0 then (if (p.size : Int) = n then (p, 0) else (⟨#[]⟩, 900))
  else if m = 8 then (if infE p n = 0 ∧ infK p n = (p.size : Int) ∧ ((infT p n).size : Int) = n then (infT p n, 0) else (⟨#[]⟩, 900))
  else (⟨#[]⟩, 900)
theorem inf_def (s : ByteArray) (hs : s.size ≤ 300) (n : Nat) (h1 : s.size ≤ n) (h2 : n ≤ 8192) : infT (defT s) n = s ∧ infK (defT s) n = ((defT s).size : Int) ∧ infE (defT s) n = 0 := by
  have h := def_back s hs [] n h1 h2
  rw [List.append_nil] at h
  unfold infT infK infE
  rw [h]
  exact ⟨textOf_bytes9 s, rfl, rfl⟩
theorem un_pack (s : ByteArray) (hs : s.size ≤ 300) : unT (pkM s) (pkT s) s.size = (s, 0) := by
  obtain ⟨h1, h2, h3⟩ := inf_def s hs s.size (Nat.le_refl _) (by omega)
  unfold unT pkM pkT
  rw [if_neg (by omega)]
  by_cases h : (defT s).size < s.size
  · simp only [if_pos h]
    rw [if_neg (by omega), if_pos trivial, if_pos ⟨h3, h2, by rw [h1]⟩, h1]
  · simp only [if_neg h]
    rw [if_pos trivial, if_pos trivial]
theorem un_more (s : ByteArray) (hs : s.size ≤ 300) : unT (pkM s) (pkT s) ((s.size : Int) + 1) = (⟨#[]⟩, 900) := by
  obtain ⟨h1, h2, h3⟩ := inf_def s hs (s.size + 1) (by omega) (by omega)
  rw [show ((s.size + 1 : Nat) : Int) = (s.size : Int) + 1 by push_cast; rfl] at h1 h2 h3
  unfold unT pkM pkT
  by_cases h0 : 300 < (s.size : Int) + 1
  · rw [if_pos (.inr h0)]
  · rw [if_neg (by omega)]
    by_cases h : (defT s).size < s.size
    · simp only [if_pos h]
      rw [if_neg (by omega), if_pos trivial, if_neg]
      rintro ⟨_, _, e⟩
      rw [h1] at e; omega
    · simp only [if_neg h]
      rw [if_pos trivial, if_neg (by omega)]
theorem un_tail (s x : ByteArray) (hs : s.size ≤ 300) (hx : 0 < x.size) : unT (pkM s) (pkT s ++ x) s.size = (⟨#[]⟩, 900) := by
  have hz : ∀ a : ByteArray, (a ++ x).size = a.size + x.size := fun a => by simp
  unfold unT pkM pkT
  rw [if_neg (by omega)]
  by_cases h : (defT s).size < s.size
  · simp only [if_pos h]
    rw [if_neg (by omega), if_pos trivial, if_neg]
    rintro ⟨_, e, _⟩
    have hb := def_back s hs (bytesOf x) s.size (Nat.le_refl _) (by omega)
    have ha : bytesOf (defT s ++ x) = bytesOf (defT s) ++ bytesOf x := by unfold bytesOf; simp
    unfold infK at e
    rw [ha, hb, hz] at e
    have e2 : (((defT s).size : Nat) : Int) = (((defT s).size + x.size : Nat) : Int) := e
    omega
  · simp only [if_neg h]
    rw [if_pos trivial, if_neg (by rw [hz]; omega)]
theorem un_less (s : ByteArray) (hs : s.size ≤ 300) (h0 : 0 < s.size) (h : (defT s).size < s.size) : unT (pkM s) (pkT s) ((s.size : Int) - 1) = (⟨#[]⟩, 900) := by
  have hb := def_back s hs [] s.size (Nat.le_refl _) (by omega)
  rw [List.append_nil] at hb
  have h5 := (bound_pure (bytesOf (defT s)) [] s.size (by omega) _ _ hb).2.2.2.2.1 (by rw [bytesOf_length]; exact h0)
  rw [bytesOf_length] at h5
  unfold unT pkM pkT
  rw [if_neg (by omega)]
  simp only [if_pos h]
  rw [if_neg (by omega), if_pos trivial, if_neg]
  rintro ⟨e, _, _⟩
  unfold infE at e
  rw [h5] at e
  have : (701 : Int) = 0 := e
  omega
theorem pkT_le (s : ByteArray) : (pkT s).size ≤ s.size := by unfold pkT; split <;> omega
theorem pkM_iff (s : ByteArray) : pkM s = 8 ↔ (defT s).size < s.size := by
  unfold pkM; split
  · simp_all
  · constructor
    · intro e; omega
    · intro e; contradiction

end Go.Proofs.YtebjooebdehlnaaGreat.Bk

namespace Go.Proofs.YtebjooebdehlnaaGreat.Bk
open Go.RowKit Go.Shelf
set_option linter.unusedVariables false
set_option linter.unusedSimpArgs false

def clRen : Ren := ⟨fun x => if x = 25 then 61 else 0, fun x => if x = 0 then 0 else if x = 3 then 3 else if x = 4 then 4 else if x = 5 then 5 else if x = 9 then 9 else if x = 37 then 39 else if x = 47 then 144 else 0, fun x => x⟩
set_option maxRecDepth 100000 in
theorem clLays : LaysPu.n25 Tryz.prog clRen where
  mixed := by kernel_rfl
  f25 := by kernel_rfl
  t0 := by kernel_rfl
  a0 := fun _ => by kernel_rfl
  z0 := fun _ => by kernel_rfl
  v0 := fun _ => by kernel_rfl
  i0 := by kernel_rfl
  t3 := by kernel_rfl
  a3 := fun _ => by kernel_rfl
  z3 := fun _ => by kernel_rfl
  v3 := fun _ => by kernel_rfl
  i3 := by kernel_rfl
  t4 := by kernel_rfl
  a4 := fun _ => by kernel_rfl
  z4 := fun _ => by kernel_rfl
  v4 := fun _ => by kernel_rfl
  i4 := by kernel_rfl
  t5 := by kernel_rfl
  a5 := fun _ => by kernel_rfl
  z5 := fun _ => by kernel_rfl
  v5 := fun _ => by kernel_rfl
  i5 := by kernel_rfl
  t9 := by kernel_rfl
  a9 := fun _ => by kernel_rfl
  z9 := fun _ => by kernel_rfl
  v9 := fun _ => by kernel_rfl
  i9 := by kernel_rfl
  t37 := by kernel_rfl
  a37 := fun _ => by kernel_rfl
  z37 := fun _ => by kernel_rfl
  v37 := fun _ => by kernel_rfl
  i37 := by kernel_rfl
  t47 := by kernel_rfl
  a47 := fun _ => by kernel_rfl
  z47 := fun _ => by kernel_rfl
  v47 := fun _ => by kernel_rfl
  i47 := by kernel_rfl
theorem lite_ok (s : ByteArray) (w : World) (hs : s.size ≤ 281474976710656) : Calls Tryz.prog 61 #[.string s] w fun e w' => e = .returned (.string s) ∧ Keeps (fun _ => False) w w' := by
  refine (AnyPu.stringslite_Clone clLays s w hs).mono ?_
  rintro e w' ⟨rfl, hb⟩
  exact ⟨rfl, hb.os, hb.tape, hb.output, hb.size, fun k hk _ => hb.block k hk⟩
theorem hideC {p : Prop} (h : p) : Hid p := h
set_option maxHeartbeats 1000000 in
set_option maxRecDepth 100000 in
theorem clone_ok (s : ByteArray) (w : World) (hs : s.size ≤ 281474976710656) : Calls Tryz.prog 26 #[.string s] w fun e w' => e = .returned (.string s) ∧ Keeps (fun _ => False) w w' := by
  have HC := hideC (lite_ok s w hs)
  go_enter Tryz.func26, Tryz.ntmps26
  go_wp2_with fail
  refine HC.out.mono ?_
  rintro e w1 ⟨rfl, hk1⟩
  have H1 := hideC hk1
  clear hk1 HC
  go_wp2
  go_ret
  exact ⟨rfl, H1.out⟩

end Go.Proofs.YtebjooebdehlnaaGreat.Bk

namespace Go.Proofs.YtebjooebdehlnaaGreat.Bk
open Go.RowKit
open Hf Tb
open Mt (Tk RowT mayF okT sumZ expF toksN)
set_option linter.unusedVariables false
set_option linter.unusedSimpArgs false

/-- A text and its tokens, as a value. -/
def srcV (s : ByteArray) (a : Option Addr) (n cap : Nat) : Value := .agg #[.string s, .slice a n cap]
def OneS (x : ByteArray) (w : World) (e : Ending) (w' : World) : Prop := e = .returned (.string x) ∧ Keeps (fun _ => False) w w'

/-- Block b is a text and its tokens. -/
def Srcb (w : World) (b : Nat) (s : ByteArray) (a : Option Addr) (n cap : Nat) : Prop := w.heap[b]? = some (.cells #[.string s, .slice a n cap] 49 (0, 0))
theorem Srcb.lt {w : World} {b : Nat} {s : ByteArray} {a : Option Addr} {n cap : Nat} (h : Srcb w b s a n cap) : b < w.heap.size := lt_of_heap h
theorem Srcb.keptF {w w' : World} {b : Nat} {s : ByteArray} {a : Option Addr} {n cap : Nat} (h : Srcb w b s a n cap) (hk : Keeps (fun _ => False) w w') : Srcb w' b s a n cap := (hk.block b h.lt (fun h => h)).trans h
theorem Srcb.c0 {w : World} {b : Nat} {s : ByteArray} {a : Option Addr} {n cap : Nat} (h : Srcb w b s a n cap) : w.cell? ⟨b, 0, none⟩ = some (.string s) := cell_of_heap h rfl
theorem Srcb.c1 {w : World} {b : Nat} {s : ByteArray} {a : Option Addr} {n cap : Nat} (h : Srcb w b s a n cap) : w.cell? ⟨b, 1, none⟩ = some (.slice a n cap) := cell_of_heap h rfl
theorem Srcb.new (w : World) (s : ByteArray) (a : Option Addr) (n cap : Nat) : Srcb (w.alloc (.cells #[.string s, .slice a n cap] 49)) w.heap.size s a n cap := heap_alloc_new _ _
def srcCs (s : ByteArray) (a : Option Addr) (n cap : Nat) : List Value := [.string s, .slice a n cap]
theorem Srcb.range {w : World} {b : Nat} {s : ByteArray} {a : Option Addr} {n cap : Nat} (h : Srcb w b s a n cap) : w.rangeAt b 0 (srcCs s a n cap) := fun j v hv => by
  match j, hv with
  | 0, hv => simp [srcCs] at hv; subst hv; exact h.c0
  | 1, hv => simp [srcCs] at hv; subst hv; exact h.c1
  | j + 2, hv => simp [srcCs] at hv
theorem sizeSrc : (Tryz.prog.info? 49).map (·.size) = some 2 := by kernel_rfl
theorem wpList_boxS {ops : Array Oper} {rest : List Oper} {op : Oper} {a : Act} {w : World} {Q : Exit → Act → World → Prop} (hgd : op.guard = none) (x : Operand) (ho : op.op = .box 49 x) (s : ByteArray) (p : Option Addr) (n cap : Nat) (hx : a.eval x = .agg #[.string s, .slice p n cap])
    (h : ∀ b w1, Srcb w1 b s p n cap → Keeps (fun _ => False) w w1 → w.heap.size ≤ b → wpList Tryz.prog ops Q rest (a.put op.dst (.pointer (some ⟨b, 0, none⟩))) w1) : wpList Tryz.prog ops Q (op :: rest) a w :=
  wpList_plain hgd fun _ hK => by
    unfold Oper.wp execOp
    simp only [ho, hx, Instr.box, Sem.run_bind, newVar, Sem.run_pure, Result.andThen_ok]
    exact hK _ _ (h w.heap.size _ (Srcb.new w s p n cap) ((Keeps.refl _ w).alloc _) (Nat.le_refl _))
theorem wpList_loadS {ops : Array Oper} {rest : List Oper} {op : Oper} {a : Act} {w : World} {Q : Exit → Act → World → Prop} (hgd : op.guard = none) (x : Operand) (ho : op.op = .load 49 x) (b : Nat) (hx : a.eval x = .pointer (some ⟨b, 0, none⟩)) {s : ByteArray} {p : Option Addr} {n cap : Nat} (hA : Srcb w b s p n cap)
    (h : wpList Tryz.prog ops Q rest (a.put op.dst (srcV s p n cap)) w) : wpList Tryz.prog ops Q (op :: rest) a w :=
  wpList_load_mid hgd 49 x ho b 0 hx (srcCs s p n cap) _ hA.range Tryz.underlying49 rfl sizeSrc h

set_option maxHeartbeats 1000000 in
set_option maxRecDepth 100000 in
theorem srcStored_ok (s : ByteArray) (a : Option Addr) (n cap : Nat) (w : World) (hs : s.size ≤ 300) :
    Calls Tryz.prog 95 #[srcV s a n cap] w (OneS (stoS s) w) := by
  have HC : Hid (∀ w, Calls Tryz.prog 18 #[.string s] w (StrPost (stoS s) 0 w)) := fun w => stored_ok8 s w hs
  unfold srcV
  go_enter Tryz.func95, Tryz.ntmps95
  go_wp2_with fail
  refine (HC.out _).mono ?_
  rintro e w1 ⟨rfl, hk1⟩
  have H1 := hide hk1
  clear hk1 HC
  go_wp2
  go_ret
  exact ⟨rfl, ((Keeps.refl _ w).alloc _).trans H1.out (fun _ _ h => h)⟩

set_option maxHeartbeats 1000000 in
set_option maxRecDepth 100000 in
theorem srcFixed_ok (s : ByteArray) (a : Option Addr) (cap : Nat) (w : World) (hs : s.size ≤ 300) (hR : RowT w a (toksOf s)) :
    Calls Tryz.prog 96 #[srcV s a (kOf s) cap] w (OneS (fixS s) w) := by
  have HC : Hid (∀ w, RowT w a (toksOf s) → Calls Tryz.prog 19 #[.slice a (kOf s) cap] w (StrPost (fixS s) 0 w)) := fun w hR => by
    have := fixed_ok8 a (toksOf s) cap w hR (toksOf_may s hs)
    rw [toksOf_len] at this; exact this
  have HR := hide hR
  clear hR
  generalize fixS s = X at *
  generalize kOf s = K at *
  unfold srcV
  go_enter Tryz.func96, Tryz.ntmps96
  go_wp2_with fail
  refine (HC.out _ (RowT.keptF HR.out ((Keeps.refl _ w).alloc _))).mono ?_
  rintro e w1 ⟨rfl, hk1⟩
  have H1 := hide hk1
  clear hk1 HC HR
  go_wp2
  go_ret
  exact ⟨rfl, ((Keeps.refl _ w).alloc _).trans H1.out (fun _ _ h => h)⟩

set_option maxHeartbeats 1000000 in
set_option maxRecDepth 100000 in
theorem srcDynamic_ok (s : ByteArray) (a : Option Addr) (cap : Nat) (w : World) (hs : s.size ≤ 300) (hR : RowT w a (toksOf s)) :
    Calls Tryz.prog 97 #[srcV s a (kOf s) cap] w (OneS (dynS s) w) := by
  have HC : Hid (∀ w, RowT w a (toksOf s) → Calls Tryz.prog 20 #[.slice a (kOf s) cap] w (StrPost (dynS s) 0 w)) := fun w hR => by
    have := dynamic_ok8 a (toksOf s) cap w hR (toksOf_may s hs)
    rw [toksOf_len] at this; exact this
  have HR := hide hR
  clear hR
  generalize dynS s = X at *
  generalize kOf s = K at *
  unfold srcV
  go_enter Tryz.func97, Tryz.ntmps97
  go_wp2_with fail
  refine (HC.out _ (RowT.keptF HR.out ((Keeps.refl _ w).alloc _))).mono ?_
  rintro e w1 ⟨rfl, hk1⟩
  have H1 := hide hk1
  clear hk1 HC HR
  go_wp2
  go_ret
  exact ⟨rfl, ((Keeps.refl _ w).alloc _).trans H1.out (fun _ _ h => h)⟩

def kindsV : Value := .agg #[.func (.func 95) #[] #[], .func (.func 96) #[] #[], .func (.func 97) #[] #[]]
set_option maxHeartbeats 1000000 in
set_option maxRecDepth 100000 in
theorem kinds_ok (w : World) : Calls Tryz.prog 45 #[] w fun e w' => e = .returned kindsV ∧ Keeps (fun _ => False) w w' := by
  unfold kindsV
  go_enter Tryz.func45, Tryz.ntmps45
  go_wp2
  refine bodyPost_ret (v := kindsV) ?_ rfl ⟨rfl, (Keeps.refl _ w).alloc _⟩
  rw [Lm.results_cell rfl]
  exact run_loadVar_mid _ w.heap.size 0 91 [.func (.func 95) #[] #[], .func (.func 96) #[] #[], .func (.func 97) #[] #[]] _ (fun j v hv => by
    have hh : ((w.alloc (.cells #[.func (.func 95) #[] #[], .func (.func 96) #[] #[], .func (.func 97) #[] #[]] 91)).heap[w.heap.size]?) = _ := heap_alloc_new _ _
    exact cell_of_heap hh (by rw [Nat.zero_add]; simpa using hv)) Tryz.underlying91 rfl (by kernel_rfl)
theorem kinds_at (A3 : Array Value) (h : kindsV = .agg A3) : (∀ w, (Instr.index 91 (.agg A3) (.int .i64 0)).run Tryz.prog w = .ok (.func (.func 95) #[] #[]) w) ∧ (∀ w, (Instr.index 91 (.agg A3) (.int .i64 1)).run Tryz.prog w = .ok (.func (.func 96) #[] #[]) w) ∧ (∀ w, (Instr.index 91 (.agg A3) (.int .i64 2)).run Tryz.prog w = .ok (.func (.func 97) #[] #[]) w) := by
  unfold kindsV at h
  cases h
  refine ⟨fun w => ?_, fun w => ?_, fun w => ?_⟩
  all_goals simp [Instr.index, asIntOf, Sem.run_bind, Tryz.runUnderlying91, Tryz.sizeOf90, Tryz.isAgg90, part]
set_option maxHeartbeats 2000000 in
set_option maxRecDepth 100000 in
theorem shortest_ok (s : ByteArray) (a : Option Addr) (cap : Nat) (w : World) (hs : s.size ≤ 300) (hR : RowT w a (toksOf s)) :
    Calls Tryz.prog 21 #[srcV s a (kOf s) cap] w (OneS (defT s) w) := by
  have HS : Hid (∀ w, Calls Tryz.prog 95 #[srcV s a (kOf s) cap] w (OneS (stoS s) w)) := fun w => srcStored_ok s a (kOf s) cap w hs
  have HF : Hid (∀ w, RowT w a (toksOf s) → Calls Tryz.prog 96 #[srcV s a (kOf s) cap] w (OneS (fixS s) w)) := fun w h => srcFixed_ok s a cap w hs h
  have HD : Hid (∀ w, RowT w a (toksOf s) → Calls Tryz.prog 97 #[srcV s a (kOf s) cap] w (OneS (dynS s) w)) := fun w h => srcDynamic_ok s a cap w hs h
  have HK : Hid (∀ w, Calls Tryz.prog 45 #[] w fun e w' => e = .returned kindsV ∧ Keeps (fun _ => False) w w') := kinds_ok
  have HR := hide hR
  have hd : defT s = shT (shT (stoS s) (fixS s)) (dynS s) := rfl
  rw [hd]
  generalize stoS s = A at *
  generalize fixS s = B at *
  generalize dynS s = C at *
  generalize toksOf s = ts at *
  generalize kOf s = K at *
  clear hR hd
  obtain ⟨V, hV⟩ : ∃ V, srcV s a K cap = V := ⟨_, rfl⟩
  simp only [hV] at HS HF HD
  unfold srcV
  go_enter Tryz.func21, Tryz.ntmps21
  go_wp2_with (refine wpList_boxS rfl _ rfl s a K cap rfl ?_; intro b w1 hS1 hk1 hb1)
  have H1 : Hid (Srcb w1 b s a K cap ∧ RowT w1 a ts ∧ Keeps (fun _ => False) w w1) := ⟨hS1, RowT.keptF HR.out hk1, hk1⟩
  clear hS1 hk1 hb1 HR
  have HNx : Hid (∀ (u v : World), (Srcb u b s a K cap ∧ RowT u a ts ∧ Keeps (fun _ => False) w u) → Keeps (fun _ => False) u v → (Srcb v b s a K cap ∧ RowT v a ts ∧ Keeps (fun _ => False) w v)) := fun u v h hk => ⟨h.1.keptF hk, RowT.keptF h.2.1 hk, h.2.2.trans hk (fun _ _ h => h)⟩
  refine (HK.out w1).mono ?_
  rintro e w2 ⟨rfl, hk2⟩
  have H2 := hide (HNx.out _ _ H1.out hk2)
  clear hk2 HK H1
  go_wp2_with fail
  refine wp_loop_rounds 4 ?_
  rw [rounds_succ]
  obtain ⟨A3, hA3⟩ : ∃ A3, kindsV = .agg A3 := ⟨_, rfl⟩
  have HX := hide (kinds_at A3 hA3)
  have hx0 := HX.out.1
  rw [hA3]
  go_wp2_with (refine wpList_loadS rfl _ rfl b rfl H2.out.1 ?_)
  refine (HS.out w2).mono ?_
  rintro e w3 ⟨rfl, hk3⟩
  have H3 := hide (HNx.out _ _ H2.out hk3)
  clear hk3 HS H2 hx0
  have hx1 := HX.out.2.1
  go_wp2
  by_cases h1 : B.size < A.size
  · have hz1 : (B.size : Int) < (A.size : Int) := by omega
    have hX : Hid (shT A B = B) := if_pos h1
    rw [rounds_succ]
    go_wp2_with (refine wpList_loadS rfl _ rfl b rfl H3.out.1 ?_)
    refine (HF.out w3 H3.out.2.1).mono ?_
    rintro e w4 ⟨rfl, hkw4⟩
    have H4 := hide (HNx.out _ _ H3.out hkw4)
    clear hkw4 H3 HF hx1
    go_wp2
    have hx2 := HX.out.2.2
    by_cases h2 : C.size < B.size
    · have hz2 : (C.size : Int) < (B.size : Int) := by omega
      have hY : Hid (shT B C = C) := if_pos h2
      rw [rounds_succ]
      go_wp2_with (refine wpList_loadS rfl _ rfl b rfl H4.out.1 ?_)
      refine (HD.out w4 H4.out.2.1).mono ?_
      rintro e w5 ⟨rfl, hkw5⟩
      have H5 := hide (HNx.out _ _ H4.out hkw5)
      clear hkw5 H4 HD hx2
      go_wp2
      rw [rounds_succ]
      go_wp2
      go_ret
      exact ⟨by rw [hX.out, hY.out]; rfl, H5.out.2.2⟩
    · have hz2 : ¬ (C.size : Int) < (B.size : Int) := by omega
      have hY : Hid (shT B C = B) := if_neg h2
      rw [rounds_succ]
      go_wp2_with (refine wpList_loadS rfl _ rfl b rfl H4.out.1 ?_)
      refine (HD.out w4 H4.out.2.1).mono ?_
      rintro e w5 ⟨rfl, hkw5⟩
      have H5 := hide (HNx.out _ _ H4.out hkw5)
      clear hkw5 H4 HD hx2
      go_wp2
      rw [rounds_succ]
      go_wp2
      go_ret
      exact ⟨by rw [hX.out, hY.out]; rfl, H5.out.2.2⟩
  · have hz1 : ¬ (B.size : Int) < (A.size : Int) := by omega
    have hX : Hid (shT A B = A) := if_neg h1
    rw [rounds_succ]
    go_wp2_with (refine wpList_loadS rfl _ rfl b rfl H3.out.1 ?_)
    refine (HF.out w3 H3.out.2.1).mono ?_
    rintro e w4 ⟨rfl, hkw4⟩
    have H4 := hide (HNx.out _ _ H3.out hkw4)
    clear hkw4 H3 HF hx1
    go_wp2
    have hx2 := HX.out.2.2
    by_cases h2 : C.size < A.size
    · have hz2 : (C.size : Int) < (A.size : Int) := by omega
      have hY : Hid (shT A C = C) := if_pos h2
      rw [rounds_succ]
      go_wp2_with (refine wpList_loadS rfl _ rfl b rfl H4.out.1 ?_)
      refine (HD.out w4 H4.out.2.1).mono ?_
      rintro e w5 ⟨rfl, hkw5⟩
      have H5 := hide (HNx.out _ _ H4.out hkw5)
      clear hkw5 H4 HD hx2
      go_wp2
      rw [rounds_succ]
      go_wp2
      go_ret
      exact ⟨by rw [hX.out, hY.out]; rfl, H5.out.2.2⟩
    · have hz2 : ¬ (C.size : Int) < (A.size : Int) := by omega
      have hY : Hid (shT A C = A) := if_neg h2
      rw [rounds_succ]
      go_wp2_with (refine wpList_loadS rfl _ rfl b rfl H4.out.1 ?_)
      refine (HD.out w4 H4.out.2.1).mono ?_
      rintro e w5 ⟨rfl, hkw5⟩
      have H5 := hide (HNx.out _ _ H4.out hkw5)
      clear hkw5 H4 HD hx2
      go_wp2
      rw [rounds_succ]
      go_wp2
      go_ret
      exact ⟨by rw [hX.out, hY.out]; rfl, H5.out.2.2⟩

end Go.Proofs.YtebjooebdehlnaaGreat.Bk

namespace Go.Proofs.YtebjooebdehlnaaGreat.Bk
open Go.RowKit
open Hf Tb
open Mt (Tk RowT mayF okT sumZ expF toksN)
set_option linter.unusedVariables false
set_option linter.unusedSimpArgs false

theorem tokens_of (s : ByteArray) (w : World) (hs : s.size ≤ 300) : Calls Tryz.prog 17 #[.string s] w fun e w' => ∃ a cap, e = .returned (.tuple #[.slice a (kOf s) cap, .int .i64 0]) ∧ RowT w' a (toksOf s) ∧ Keeps (fun _ => False) w w' := by
  refine (tokens_rowT s w hs).mono ?_
  rintro e w' ⟨K, a, cap, rfl, hK, hR, _, hk⟩
  obtain rfl := kOf_eq s K hK
  exact ⟨a, cap, rfl, hR, hk⟩

set_option maxHeartbeats 1000000 in
set_option maxRecDepth 100000 in
theorem deflate_long (s : ByteArray) (w : World) (hs : ¬ s.size ≤ 300) (hb : s.size ≤ 281474976710656) :
    Calls Tryz.prog 8 #[.string s] w (StrPost ⟨#[]⟩ 900 w) := by
  have hz : 300 < (s.size : Int) := by omega
  go_enter Tryz.func8, Tryz.ntmps8
  go_wp2
  go_ret2
  exact ⟨rfl, Keeps.refl _ w⟩
set_option maxHeartbeats 1000000 in
set_option maxRecDepth 100000 in
theorem deflate_ok (s : ByteArray) (w : World) (hs : s.size ≤ 300) :
    Calls Tryz.prog 8 #[.string s] w (StrPost (defT s) 0 w) := by
  have hz : ¬ 300 < (s.size : Int) := by omega
  have HT := hide (tokens_of s w hs)
  have HS : Hid (∀ a cap w, RowT w a (toksOf s) → Calls Tryz.prog 21 #[.agg #[.string s, .slice a (kOf s) cap]] w (OneS (defT s) w)) := fun a cap w h => shortest_ok s a cap w hs h
  generalize defT s = X at *
  generalize toksOf s = ts at *
  generalize kOf s = K at *
  go_enter Tryz.func8, Tryz.ntmps8
  go_wp2_with fail
  refine HT.out.mono ?_
  rintro e w1 ⟨a, cap, rfl, hR1, hk1⟩
  have H1 : Hid (RowT w1 a ts ∧ Keeps (fun _ => False) w w1) := ⟨hR1, hk1⟩
  clear hR1 hk1 HT
  go_wp2_with fail
  refine (HS.out a cap w1 H1.out.1).mono ?_
  rintro e w2 ⟨rfl, hk2⟩
  have H2 := hide (H1.out.2.trans hk2 (fun _ _ h => h))
  clear hk2 H1 HS
  go_wp2
  go_ret2
  exact ⟨rfl, H2.out⟩

def PckPost (m : Int) (t : ByteArray) (er : Int) (w : World) (e : Ending) (w' : World) : Prop := e = .returned (.tuple #[.int .i64 m, .string t, .int .i64 er]) ∧ Keeps (fun _ => False) w w'
set_option maxHeartbeats 1000000 in
set_option maxRecDepth 100000 in
theorem pack_long (s : ByteArray) (w : World) (hs : ¬ s.size ≤ 300) (hb : s.size ≤ 281474976710656) :
    Calls Tryz.prog 10 #[.string s] w (PckPost 0 ⟨#[]⟩ 900 w) := by
  have HD := hide (deflate_long s w hs hb)
  go_enter Tryz.func10, Tryz.ntmps10
  go_wp2_with fail
  refine HD.out.mono ?_
  rintro e w1 ⟨rfl, hk1⟩
  have H1 := hide hk1
  clear hk1 HD
  go_wp2
  go_ret3
  exact ⟨rfl, H1.out⟩
set_option maxHeartbeats 1000000 in
set_option maxRecDepth 100000 in
theorem pack_ok (s : ByteArray) (w : World) (hs : s.size ≤ 300) :
    Calls Tryz.prog 10 #[.string s] w (PckPost (pkM s) (pkT s) 0 w) := by
  have HD := hide (deflate_ok s w hs)
  have HC : Hid (∀ w, Calls Tryz.prog 26 #[.string s] w fun e w' => e = .returned (.string s) ∧ Keeps (fun _ => False) w w') := fun w => clone_ok s w (by omega)
  have hl := defT_size s
  unfold pkM pkT
  generalize defT s = X at *
  by_cases h : X.size < s.size
  · rw [if_pos h, if_pos h]
    have hz : (X.size : Int) < (s.size : Int) := by omega
    go_enter Tryz.func10, Tryz.ntmps10
    go_wp2_with fail
    refine HD.out.mono ?_
    rintro e w1 ⟨rfl, hk1⟩
    have H1 := hide hk1
    clear hk1 HD
    go_wp2
    go_ret3
    exact ⟨rfl, H1.out⟩
  · rw [if_neg h, if_neg h]
    have hz : ¬ (X.size : Int) < (s.size : Int) := by omega
    go_enter Tryz.func10, Tryz.ntmps10
    go_wp2_with fail
    refine HD.out.mono ?_
    rintro e w1 ⟨rfl, hk1⟩
    have H1 := hide hk1
    clear hk1 HD
    go_wp2_with fail
    refine (HC.out w1).mono ?_
    rintro e w2 ⟨rfl, hk2⟩
    have H2 := hide (H1.out.trans hk2 (fun _ _ h => h))
    clear hk2 H1 HC
    go_wp2
    go_ret3
    exact ⟨rfl, H2.out⟩

set_option maxHeartbeats 2000000 in
set_option maxRecDepth 100000 in
theorem unpack_ok (m : Int) (p : ByteArray) (n : Int) (w : World) (hp : p.size ≤ 281474976710656) :
    Calls Tryz.prog 12 #[.int .i64 m, .string p, .int .i64 n] w (StrPost (unT m p n).1 (unT m p n).2 w) := by
  have HC : Hid (∀ w, Calls Tryz.prog 26 #[.string p] w fun e w' => e = .returned (.string p) ∧ Keeps (fun _ => False) w w') := fun w => clone_ok p w (by omega)
  have HI : Hid (∀ w, Calls Tryz.prog 16 #[.string p, .int .i64 n] w fun e w' => e = .returned (.tuple #[.string (infT p n), .int .i64 (infK p n), .int .i64 (infE p n)]) ∧ Keeps (fun _ => False) w w') := fun w => inflate_ok p n w hp trivial
  unfold unT
  by_cases h1 : n < 0
  · rw [if_pos (.inl h1)]
    clear HC HI
    go_enter Tryz.func12, Tryz.ntmps12
    go_wp2
    go_ret2
    exact ⟨rfl, Keeps.refl _ w⟩
  · by_cases h2 : 300 < n
    · rw [if_pos (.inr h2)]
      clear HC HI
      go_enter Tryz.func12, Tryz.ntmps12
      go_wp2
      go_ret2
      exact ⟨rfl, Keeps.refl _ w⟩
    · rw [if_neg (by omega)]
      by_cases h3 : m = 0
      · subst h3
        rw [if_pos rfl]
        clear HI
        by_cases h4 : (p.size : Int) = n
        · rw [if_pos h4]
          go_enter Tryz.func12, Tryz.ntmps12
          go_wp2_with fail
          refine (HC.out w).mono ?_
          rintro e w1 ⟨rfl, hk1⟩
          have H1 := hide hk1
          clear hk1 HC
          go_wp2
          go_ret2
          exact ⟨rfl, H1.out⟩
        · rw [if_neg h4]
          clear HC
          go_enter Tryz.func12, Tryz.ntmps12
          go_wp2
          go_ret2
          exact ⟨rfl, Keeps.refl _ w⟩
      · rw [if_neg h3]
        by_cases h4 : m = 8
        · subst h4
          rw [if_pos rfl]
          clear HC
          generalize infT p n = X at *
          generalize infK p n = T at *
          generalize infE p n = E at *
          by_cases e1 : E = 0
          · subst e1
            by_cases e2 : T = (p.size : Int)
            · subst e2
              by_cases e3 : (X.size : Int) = n
              · rw [if_pos ⟨rfl, rfl, e3⟩]
                go_enter Tryz.func12, Tryz.ntmps12
                go_wp2_with fail
                refine (HI.out w).mono ?_
                rintro e w1 ⟨rfl, hk1⟩
                have H1 := hide hk1
                clear hk1 HI
                go_wp2
                go_ret2
                exact ⟨rfl, H1.out⟩
              · rw [if_neg (fun h => e3 h.2.2)]
                go_enter Tryz.func12, Tryz.ntmps12
                go_wp2_with fail
                refine (HI.out w).mono ?_
                rintro e w1 ⟨rfl, hk1⟩
                have H1 := hide hk1
                clear hk1 HI
                go_wp2
                go_ret2
                exact ⟨rfl, H1.out⟩
            · rw [if_neg (fun h => e2 h.2.1)]
              go_enter Tryz.func12, Tryz.ntmps12
              go_wp2_with fail
              refine (HI.out w).mono ?_
              rintro e w1 ⟨rfl, hk1⟩
              have H1 := hide hk1
              clear hk1 HI
              go_wp2
              go_ret2
              exact ⟨rfl, H1.out⟩
          · rw [if_neg (fun h => e1 h.1)]
            go_enter Tryz.func12, Tryz.ntmps12
            go_wp2_with fail
            refine (HI.out w).mono ?_
            rintro e w1 ⟨rfl, hk1⟩
            have H1 := hide hk1
            clear hk1 HI
            go_wp2
            go_ret2
            exact ⟨rfl, H1.out⟩
        · rw [if_neg h4]
          clear HC HI
          go_enter Tryz.func12, Tryz.ntmps12
          go_wp2
          go_ret2
          exact ⟨rfl, Keeps.refl _ w⟩

end Go.Proofs.YtebjooebdehlnaaGreat.Bk

namespace Go.Proofs.YtebjooebdehlnaaGreat.Bk
open Go.RowKit
open Hf Tb
open Mt (Tk RowT mayF okT sumZ expF toksN)
set_option linter.unusedVariables false
set_option linter.unusedSimpArgs false

def s20 : ByteArray := ⟨#[97, 97, 97, 97, 97, 97, 97, 97, 97, 97, 97, 97, 97, 97, 97, 97, 97, 97, 97, 97]⟩
def sxy : ByteArray := ⟨#[120, 121]⟩
theorem s20_fix : (fixS s20).size < 20 := by decide +kernel
theorem s20_def : (defT s20).size < s20.size := by
  have := (defT_le s20).2.1
  have := s20_fix
  have : s20.size = 20 := rfl
  omega
theorem s20_pk : pkM s20 = 8 ∧ pkT s20 = defT s20 := by unfold pkM pkT; rw [if_pos s20_def, if_pos s20_def]; exact ⟨rfl, rfl⟩
theorem sxy_pk : pkM sxy = 0 ∧ pkT sxy = sxy := by
  have h : ¬ (defT sxy).size < sxy.size := by have := defT_ge sxy; have : sxy.size = 2 := rfl; omega
  unfold pkM pkT; rw [if_neg h, if_neg h]; exact ⟨rfl, rfl⟩

set_option maxHeartbeats 4000000 in
set_option maxRecDepth 100000 in
theorem awake9 (w : World) : Calls Tryz.prog 15 #[] w fun e w' => e = .returned (.bool true) ∧ Keeps (fun _ => False) w w' := by
  have HD : Hid (∀ w, Calls Tryz.prog 8 #[.string ⟨#[97, 97, 97, 97, 97, 97, 97, 97, 97, 97, 97, 97, 97, 97, 97, 97, 97, 97, 97, 97]⟩] w (StrPost (defT s20) 0 w)) := fun w => deflate_ok s20 w (by decide)
  have HP : Hid (∀ w, Calls Tryz.prog 10 #[.string ⟨#[97, 97, 97, 97, 97, 97, 97, 97, 97, 97, 97, 97, 97, 97, 97, 97, 97, 97, 97, 97]⟩] w (PckPost 8 (defT s20) 0 w)) := fun w => by
    have := pack_ok s20 w (by decide)
    rw [s20_pk.1, s20_pk.2] at this; exact this
  have HX : Hid (∀ w, Calls Tryz.prog 10 #[.string ⟨#[120, 121]⟩] w (PckPost 0 ⟨#[120, 121]⟩ 0 w)) := fun w => by
    have := pack_ok sxy w (by decide)
    rw [sxy_pk.1, sxy_pk.2] at this; exact this
  have hsz : (defT s20).size ≤ 281474976710656 := by have := s20_def; have : s20.size = 20 := rfl; omega
  have HU : Hid (∀ w, Calls Tryz.prog 12 #[.int .i64 8, .string (defT s20), .int .i64 20] w (StrPost ⟨#[97, 97, 97, 97, 97, 97, 97, 97, 97, 97, 97, 97, 97, 97, 97, 97, 97, 97, 97, 97]⟩ 0 w)) := fun w => by
    have h1 := un_pack s20 (by decide)
    rw [s20_pk.1, s20_pk.2] at h1
    have h2 := unpack_ok 8 (defT s20) 20 w hsz
    rw [show ((s20.size : Nat) : Int) = 20 from rfl] at h1
    rw [h1] at h2; exact h2
  have HV : Hid (∀ w, Calls Tryz.prog 12 #[.int .i64 8, .string (defT s20), .int .i64 19] w (StrPost ⟨#[]⟩ 900 w)) := fun w => by
    have h1 := un_less s20 (by decide) (by decide) s20_def
    rw [s20_pk.1, s20_pk.2] at h1
    have h2 := unpack_ok 8 (defT s20) 19 w hsz
    rw [show ((s20.size : Nat) : Int) - 1 = 19 from rfl] at h1
    rw [h1] at h2; exact h2
  have HW : Hid (∀ w, Calls Tryz.prog 12 #[.int .i64 1, .string ⟨#[]⟩, .int .i64 0] w (StrPost ⟨#[]⟩ 900 w)) := fun w => by
    have h2 := unpack_ok 1 ⟨#[]⟩ 0 w (by decide)
    exact h2
  generalize defT s20 = X at *
  go_enter Tryz.func15, Tryz.ntmps15
  go_wp2_with fail
  refine (HD.out w).mono ?_
  rintro e w1 ⟨rfl, hk1⟩
  have H1 := hide hk1
  clear hk1 HD
  go_wp2_with fail
  refine (HP.out w1).mono ?_
  rintro e w2 ⟨rfl, hk2⟩
  have H2 := hide (H1.out.trans hk2 (fun _ _ h => h))
  clear hk2 HP H1
  go_wp2_with fail
  refine (HX.out w2).mono ?_
  rintro e w3 ⟨rfl, hk3⟩
  have H3 := hide (H2.out.trans hk3 (fun _ _ h => h))
  clear hk3 HX H2
  go_wp2_with fail
  refine (HU.out w3).mono ?_
  rintro e w4 ⟨rfl, hk4⟩
  have H4 := hide (H3.out.trans hk4 (fun _ _ h => h))
  clear hk4 HU H3
  go_wp2_with fail
  refine (HV.out w4).mono ?_
  rintro e w5 ⟨rfl, hk5⟩
  have H5 := hide (H4.out.trans hk5 (fun _ _ h => h))
  clear hk5 HV H4
  go_wp2_with fail
  refine (HW.out w5).mono ?_
  rintro e w6 ⟨rfl, hk6⟩
  have H6 := hide (H5.out.trans hk6 (fun _ _ h => h))
  clear hk6 HW H5
  go_wp2_with (first
    | (go_at_call 14; refine (num_any _ _).mono ?_; rintro e w' ⟨rfl, hw⟩; obtain rfl := hw.symm; clear hw))
  go_ret
  exact ⟨rfl, H6.out⟩

end Go.Proofs.YtebjooebdehlnaaGreat.Bk

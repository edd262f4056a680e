/-
  InflateForms: bytes that are no stream. InflateBound: what is told within a bound is told within each greater one, and with bytes behind. The document's Tokens and Dynamic, one behind the other: what they answer of a text.
-/
import Derived.Test.YtdbfbijalhknnabRows
import Derived.Test.YtdbfbijalhknnabG19
namespace Go.Proofs.Ytdbfbijalhknnab
open Go.RowKit
open Hf Tb
set_option linter.unusedVariables false
set_option linter.unusedSimpArgs false

theorem u64_mod7 (c : Int) (n : Nat) (hn : 0 < n) (hn2 : n ≤ 1125899906842624) : ∃ k : Nat, k < n ∧ (IntKind.u64.wrap c).tmod (n : Int) = (k : Int) ∧ IntKind.u64.wrap c % (n : Int) = (k : Int) ∧ wrap64 (k : Int) = (k : Int) := by
  have e : IntKind.u64.wrap c = c % 18446744073709551616 := by simp [IntKind.wrap, IntKind.bits, IntKind.signed]
  have h0 : 0 ≤ IntKind.u64.wrap c := by rw [e]; omega
  have h1 : 0 ≤ IntKind.u64.wrap c % (n : Int) := Int.emod_nonneg _ (by omega)
  have h2 : IntKind.u64.wrap c % (n : Int) < (n : Int) := Int.emod_lt_of_pos _ (by omega)
  have h3 : (IntKind.u64.wrap c).tmod (n : Int) = IntKind.u64.wrap c % (n : Int) := Int.tmod_eq_emod_of_nonneg h0
  rw [h3]
  exact ⟨(IntKind.u64.wrap c % (n : Int)).toNat, by omega, by omega, by omega, by unfold wrap64; omega⟩
theorem wpList_stopV {P : Program} {ops : Array Oper} {rest : List Oper} {op : Oper} {a : Act} {w : World} {Q : Exit → Act → World → Prop} (s t : TypeId) (x : Operand) (ho : op.op = .convert s t x)
    (h : Stop (wpList P ops Q (op :: rest) a w)) : wpList P ops Q (op :: rest) a w := h.go

def badL : List ByteArray := [⟨#[6]⟩, ⟨#[1]⟩, ⟨#[1, 2]⟩, ⟨#[1, 2, 0, 253]⟩, ⟨#[1, 2, 0, 252, 255, 104, 105]⟩, ⟨#[1, 2, 0, 253, 255, 104]⟩, ⟨#[3]⟩, ⟨#[75]⟩, ⟨#[75, 76]⟩, ⟨#[75, 76, 4]⟩, ⟨#[5]⟩, ⟨#[5, 0]⟩, ⟨#[5, 224, 129, 8]⟩, ⟨#[3, 2]⟩, ⟨#[0, 0, 0, 255, 255]⟩, ⟨#[253, 0]⟩]
def badT (k : Nat) : ByteArray := badL.getD k ⟨#[]⟩
theorem bad_all : ∀ k : Fin 16, (txR (inflP (bytesOf (badT k.val)) 8192), tkR (inflP (bytesOf (badT k.val)) 8192), erR (inflP (bytesOf (badT k.val)) 8192)) = ((⟨#[]⟩ : ByteArray), 0, 700) ∧ (badT k.val).size ≤ 10 := by decide +kernel
theorem fo1 : (txR (inflP (bytesOf ⟨#[3, 0]⟩) (-1)), tkR (inflP (bytesOf ⟨#[3, 0]⟩) (-1)), erR (inflP (bytesOf ⟨#[3, 0]⟩) (-1))) = ((⟨#[]⟩ : ByteArray), 0, 700) := by decide +kernel
theorem fo2 : (txR (inflP (bytesOf ⟨#[3, 0]⟩) 8193), tkR (inflP (bytesOf ⟨#[3, 0]⟩) 8193), erR (inflP (bytesOf ⟨#[3, 0]⟩) 8193)) = ((⟨#[]⟩ : ByteArray), 0, 700) := by decide +kernel
theorem fo3 : (txR (inflP (bytesOf ⟨#[3, 0]⟩) 0), tkR (inflP (bytesOf ⟨#[3, 0]⟩) 0), erR (inflP (bytesOf ⟨#[3, 0]⟩) 0)) = ((⟨#[]⟩ : ByteArray), 2, 0) := by decide +kernel

end Go.Proofs.Ytdbfbijalhknnab

namespace Go.Proofs.Ytdbfbijalhknnab
open Go.RowKit
open Hf Tb
set_option linter.unusedVariables false
set_option linter.unusedSimpArgs false

theorem bytesOf_take (s : ByteArray) (k : Nat) : bytesOf (s.extract 0 k) = (bytesOf s).take k := by
  unfold bytesOf
  rw [ByteArray.data_extract, Array.toList_extract, List.extract_eq_drop_take', List.map_drop, List.map_take]
  simp
theorem bytesOf_app (s t : ByteArray) : bytesOf (s ++ t) = bytesOf s ++ bytesOf t := by
  unfold bytesOf
  rw [ByteArray.data_append, Array.toList_append, List.map_append]
theorem take_size (s : ByteArray) (k : Nat) : (s.extract 0 k).size ≤ s.size := by
  rw [← bytesOf_length, bytesOf_take, List.length_take, bytesOf_length]; omega
theorem app_size (s t : ByteArray) : (s ++ t).size = s.size + t.size := by
  rw [← bytesOf_length, bytesOf_app, List.length_append, bytesOf_length, bytesOf_length]

end Go.Proofs.Ytdbfbijalhknnab

namespace Go.Proofs.Ytdbfbijalhknnab
open Go.RowKit
open Hf Tb
open Mt (Tk RowT mayF okT sumZ expF OwnK toksN)
open Bk (mayT dynOf StrPost)
set_option linter.unusedVariables false
set_option linter.unusedSimpArgs false

theorem toks_mayT (s : ByteArray) (K : Nat) (hs : s.size ≤ 300) (h : Mt.step (bytesOf s) K = s.size) : mayT (toksN (bytesOf s) K) = true := by
  unfold mayT
  rw [Mt.may_toks (bytesOf s) (Mt.bytesOf_lt s) (by rw [bytesOf_length]; exact hs) K (by rw [h, bytesOf_length]; exact Nat.le_refl _), Mt.sumZ_toks, h, Bool.true_and]
  exact decide_eq_true (by omega)
theorem nil_mayT : mayT [] = true := by decide
/-- What the document's Tokens answers: tokens that may be, and come to the text; or none, and 500. -/
def TokPost7 (s : ByteArray) (w : World) (e : Ending) (w' : World) : Prop :=
  ∃ (a : Option Addr) (ts : List Tk) (cap : Nat), e = .returned (.tuple #[.slice a ts.length cap, .int .i64 (if s.size ≤ 300 then 0 else 500)]) ∧ RowT w' a ts ∧ mayT ts = true ∧ (s.size ≤ 300 → expF [] ts = bytesOf s ∧ sumZ ts = (s.size : Int)) ∧ Keeps (fun _ => False) w w'
theorem rtokens7 (s : ByteArray) (w : World) (hb : s.size ≤ 140737488355328) : Calls Try.prog 5 #[.string s] w (TokPost7 s w) := by
  by_cases hs : s.size ≤ 300
  · refine (Mt.rtokens_ok s w hs).mono ?_
    rintro e w' ⟨K, v, rfl, hst, ho, hk⟩
    obtain ⟨a, cap, rfl, hR, _⟩ := ho.row
    refine ⟨a, toksN (bytesOf s) K, cap, by rw [if_pos hs], hR, toks_mayT s K hs hst, fun _ => ⟨Mt.exp_all _ _ (by rw [hst, bytesOf_length]), by rw [Mt.sumZ_toks, hst]⟩, hk⟩
  · refine (Mt.rtokens_long s w hs hb).mono ?_
    rintro e w' ⟨rfl, rfl⟩
    exact ⟨none, [], 0, by rw [if_neg hs]; rfl, .inl rfl, nil_mayT, fun h => absurd h hs, Keeps.refl _ _⟩

end Go.Proofs.Ytdbfbijalhknnab

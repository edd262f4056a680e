/-
  InflateForms: bytes that are no stream. InflateBound: what is told within a bound is told within each greater one, and with bytes behind. The document's Tokens and Dynamic, one behind the other: what they answer of a text.
-/
import Derived.Test.YtdbfbijalhknnaaRows
import Derived.Test.YtdbfbijalhknnaaG20
namespace Go.Proofs.Ytdbfbijalhknnaa
open Go.RowKit
open Hf Tb
set_option linter.unusedVariables false
set_option linter.unusedSimpArgs false

theorem u64_mod7 (c : Int) (n : Nat) (hn : 0 < n) (hn2 : n ≤ 1125899906842624) : ∃ k : Nat, k < n ∧ (IntKind.u64.wrap c).tmod (n : Int) = (k : Int) ∧ IntKind.u64.wrap c % (n : Int) = (k : Int) ∧ wrap64 (k : Int) = (k : Int) := by
  have e : IntKind.u64.wrap c = c % 18446744073709551616 := by simp [IntKind.wrap, IntKind.bits, IntKind.signed]
  have h0 : 0 ≤ IntKind.u64.wrap c := by rw [e]; omega
  have h1 : 0 ≤ IntKind.u64.wrap c % (n : Int) := Int.emod_nonneg _ (by omega)
  have h2 : IntKind.u64.wrap c % (n : Int) < (n : Int) := Int.emod_lt_of_pos _ (by omega)
  have h3 : (IntKind.u64.wrap c).tmod (n : Int) = IntKind.u64.wrap c % (n : Int) := Int.tmod_eq_emod_of_nonneg h0
  rw [h3]
  exact ⟨(IntKind.u64.wrap c % (n : Int)).toNat, by omega, by omega, by omega, by unfold wrap64; omega⟩
theorem wpList_stopV {P : Program} {ops : Array Oper} {rest : List Oper} {op : Oper} {a : Act} {w : World} {Q : Exit → Act → World → Prop} (s t : TypeId) (x : Operand) (ho : op.op = .convert s t x)
    (h : Stop (wpList P ops Q (op :: rest) a w)) : wpList P ops Q (op :: rest) a w := h.go

def badL : List ByteArray := [⟨#[6]⟩, ⟨#[1]⟩, ⟨#[1, 2]⟩, ⟨#[1, 2, 0, 253]⟩, ⟨#[1, 2, 0, 252, 255, 104, 105]⟩, ⟨#[1, 2, 0, 253, 255, 104]⟩, ⟨#[3]⟩, ⟨#[75]⟩, ⟨#[75, 76]⟩, ⟨#[75, 76, 4]⟩, ⟨#[5]⟩, ⟨#[5, 0]⟩, ⟨#[5, 224, 129, 8]⟩, ⟨#[3, 2]⟩, ⟨#[0, 0, 0, 255, 255]⟩, ⟨#[253, 0]⟩]
def badT (k : Nat) : ByteArray := badL.getD k ⟨#[]⟩
theorem bad_all : ∀ k : Fin 16, (txR (inflP (bytesOf (badT k.val)) 8192), tkR (inflP (bytesOf (badT k.val)) 8192), erR (inflP (bytesOf (badT k.val)) 8192)) = ((⟨#[]⟩ : ByteArray), 0, 700) ∧ (badT k.val).size ≤ 10 := by decide +kernel
theorem fo1 : (txR (inflP (bytesOf ⟨#[3, 0]⟩) (-1)), tkR (inflP (bytesOf ⟨#[3, 0]⟩) (-1)), erR (inflP (bytesOf ⟨#[3, 0]⟩) (-1))) = ((⟨#[]⟩ : ByteArray), 0, 700) := by decide +kernel
theorem fo2 : (txR (inflP (bytesOf ⟨#[3, 0]⟩) 8193), tkR (inflP (bytesOf ⟨#[3, 0]⟩) 8193), erR (inflP (bytesOf ⟨#[3, 0]⟩) 8193)) = ((⟨#[]⟩ : ByteArray), 0, 700) := by decide +kernel
theorem fo3 : (txR (inflP (bytesOf ⟨#[3, 0]⟩) 0), tkR (inflP (bytesOf ⟨#[3, 0]⟩) 0), erR (inflP (bytesOf ⟨#[3, 0]⟩) 0)) = ((⟨#[]⟩ : ByteArray), 2, 0) := by decide +kernel

set_option maxHeartbeats 4000000 in
set_option maxRecDepth 100000 in
theorem forms_walk (x : Int) (w : World) (hG : GRow w) :
    Calls Try.prog 5 #[.int .i64 x] w fun e w' => e = .returned (.bool true) ∧ Below w.heap.size w w' := by
  have HA : Hid (Calls Try.prog 12 #[] w fun e w' => e = .returned (.bool true) ∧ Keeps (fun _ => False) w w' ∧ GRow w') := awake7 w hG
  obtain ⟨k, hk, hk1, hk2, hk3⟩ := u64_mod7 x 16 (by decide) (by decide)
  have hk1' : (IntKind.u64.wrap x).tmod 16 = (k : Int) := hk1
  have hk2' : IntKind.u64.wrap x % 16 = (k : Int) := hk2
  have hkz : (k : Int) < 16 := by omega
  clear hk1 hk2
  obtain ⟨t, ht⟩ : ∃ t, badT k = t := ⟨_, rfl⟩
  have HC1 : Hid (∀ w, GRow w → Calls Try.prog 9 #[.string t, .int .i64 8192] w fun e w' => e = .returned (.tuple #[.string ⟨#[]⟩, .int .i64 0, .int .i64 700]) ∧ Keeps (fun _ => False) w w' ∧ GRow w') := fun w h => by
    have hb := bad_all ⟨k, hk⟩
    simp only at hb
    rw [ht] at hb
    exact inf_at (by omega) hb.1 w h
  have HC2 : Hid (∀ w, GRow w → Calls Try.prog 9 #[.string ⟨#[3, 0]⟩, .int .i64 (-1)] w fun e w' => e = .returned (.tuple #[.string ⟨#[]⟩, .int .i64 0, .int .i64 700]) ∧ Keeps (fun _ => False) w w' ∧ GRow w') := fun w h => inf_at (by decide) fo1 w h
  have HC3 : Hid (∀ w, GRow w → Calls Try.prog 9 #[.string ⟨#[3, 0]⟩, .int .i64 8193] w fun e w' => e = .returned (.tuple #[.string ⟨#[]⟩, .int .i64 0, .int .i64 700]) ∧ Keeps (fun _ => False) w w' ∧ GRow w') := fun w h => inf_at (by decide) fo2 w h
  have HC4 : Hid (∀ w, GRow w → Calls Try.prog 9 #[.string ⟨#[3, 0]⟩, .int .i64 0] w fun e w' => e = .returned (.tuple #[.string ⟨#[]⟩, .int .i64 2, .int .i64 0]) ∧ Keeps (fun _ => False) w w' ∧ GRow w') := fun w h => inf_at (by decide) fo3 w h
  have HT : Hid (badT k = t ∧ k < 16) := ⟨ht, hk⟩
  clear hG ht
  go_enter Try.func5, Try.ntmps5
  go_wp2_with fail
  refine HA.out.mono ?_
  rintro e w1 ⟨rfl, hk1⟩
  have H1 : Hid (Keeps (fun _ => False) w w1 ∧ GRow w1) := hk1
  clear hk1 HA
  go_wp2_with (refine wpList_stopV 3 30 _ rfl ?_)
  generalize hw2 : World.alloc _ _ = w2
  have H2 : Hid (Keeps (fun _ => False) w w2 ∧ GRow w2) := by
    have hk : Keeps (fun _ => False) w1 w2 := by rw [← hw2]; exact (Keeps.refl _ w1).alloc _
    exact ⟨H1.out.1.trans hk (fun _ _ h => h), H1.out.2.keptF hk⟩
  have hcell : w2.cell? ⟨w1.heap.size, k, none⟩ = some (.string t) := by
    rw [← HT.out.1, ← hw2]
    have hk := HT.out.2
    refine cell_of_heap (heap_alloc_new w1 _) ?_
    match k, hk with
    | 0, _ | 1, _ | 2, _ | 3, _ | 4, _ | 5, _ | 6, _ | 7, _ | 8, _ | 9, _ | 10, _ | 11, _ | 12, _ | 13, _ | 14, _ | 15, _ => rfl
  generalize w1.heap.size = B at *
  clear hw2 H1
  refine ⟨?_⟩
  go_wp2_with fail
  refine (HC1.out w2 H2.out.2).mono ?_
  rintro e w3 ⟨rfl, hk1⟩
  have H3 : Hid (Keeps (fun _ => False) w w3 ∧ GRow w3) := ⟨H2.out.1.trans hk1.1 (fun _ _ h => h), hk1.2⟩
  clear hk1 HC1 H2 hcell
  go_wp2_with fail
  refine (HC2.out w3 H3.out.2).mono ?_
  rintro e w4 ⟨rfl, hk1⟩
  have H4 : Hid (Keeps (fun _ => False) w w4 ∧ GRow w4) := ⟨H3.out.1.trans hk1.1 (fun _ _ h => h), hk1.2⟩
  clear hk1 HC2 H3
  go_wp2_with fail
  refine (HC3.out w4 H4.out.2).mono ?_
  rintro e w5 ⟨rfl, hk1⟩
  have H5 : Hid (Keeps (fun _ => False) w w5 ∧ GRow w5) := ⟨H4.out.1.trans hk1.1 (fun _ _ h => h), hk1.2⟩
  clear hk1 HC3 H4
  go_wp2_with fail
  refine (HC4.out w5 H5.out.2).mono ?_
  rintro e w6 ⟨rfl, hk1⟩
  have H6 : Hid (Keeps (fun _ => False) w w6 ∧ GRow w6) := ⟨H5.out.1.trans hk1.1 (fun _ _ h => h), hk1.2⟩
  clear hk1 HC4 H5
  go_wp2_with (first
    | (go_at_call 11; refine (num_any _ _).mono ?_; rintro e w' ⟨rfl, hw⟩; obtain rfl := hw.symm; clear hw))
  go_ret
  exact ⟨rfl, H6.out.1.below _ (Nat.le_refl _) (fun _ h => h.elim)⟩

end Go.Proofs.Ytdbfbijalhknnaa

namespace Go.Proofs.Ytdbfbijalhknnaa
open Go.RowKit
open Hf Tb
set_option linter.unusedVariables false
set_option linter.unusedSimpArgs false

theorem bytesOf_take (s : ByteArray) (k : Nat) : bytesOf (s.extract 0 k) = (bytesOf s).take k := by
  unfold bytesOf
  rw [ByteArray.data_extract, Array.toList_extract, List.extract_eq_drop_take', List.map_drop, List.map_take]
  simp
theorem bytesOf_app (s t : ByteArray) : bytesOf (s ++ t) = bytesOf s ++ bytesOf t := by
  unfold bytesOf
  rw [ByteArray.data_append, Array.toList_append, List.map_append]
theorem take_size (s : ByteArray) (k : Nat) : (s.extract 0 k).size ≤ s.size := by
  rw [← bytesOf_length, bytesOf_take, List.length_take, bytesOf_length]; omega
theorem app_size (s t : ByteArray) : (s ++ t).size = s.size + t.size := by
  rw [← bytesOf_length, bytesOf_app, List.length_append, bytesOf_length, bytesOf_length]

set_option maxHeartbeats 4000000 in
set_option maxRecDepth 100000 in
theorem bound_walk (s : ByteArray) (x : Int) (more : ByteArray) (w : World) (hG : GRow w) (hs : s.size ≤ 140737488355328) (hs2 : more.size ≤ 140737488355328) :
    Calls Try.prog 4 #[.string s, .int .i64 x, .string more] w fun e w' => e = .returned (.bool true) ∧ Below w.heap.size w w' := by
  have HA : Hid (Calls Try.prog 12 #[] w fun e w' => e = .returned (.bool true) ∧ Keeps (fun _ => False) w w' ∧ GRow w') := awake7 w hG
  obtain ⟨k, hk, hk1, hk2, hk3⟩ := u64_mod7 x 8193 (by decide) (by decide)
  have hk1' : (IntKind.u64.wrap x).tmod 8193 = (k : Int) := hk1
  have hk2' : IntKind.u64.wrap x % 8193 = (k : Int) := hk2
  have hkz : (k : Int) ≤ 8192 := by omega
  clear hk1 hk2
  have HC1 : Hid (∀ w, GRow w → Calls Try.prog 9 #[.string s, .int .i64 (k : Int)] w (InfPost (inflP (bytesOf s) (k : Int)) w)) := fun w h => inflate_ok s (k : Int) w (by omega) h
  rcases hR : inflP (bytesOf s) (k : Int) with er | ⟨o, t⟩
  · rw [hR] at HC1
    have her := inflP_err _ _ _ hR
    have hne := her.ne
    clear hR hG
    go_enter Try.func4, Try.ntmps4
    go_wp2_with fail
    refine HA.out.mono ?_
    rintro e w1 ⟨rfl, hk1⟩
    have H1 : Hid (Keeps (fun _ => False) w w1 ∧ GRow w1) := hk1
    clear hk1 HA
    go_wp2_with fail
    refine (HC1.out w1 H1.out.2).mono ?_
    rintro e w2 ⟨rfl, hk1⟩
    have H2 : Hid (Keeps (fun _ => False) w w2) := H1.out.1.trans hk1 (fun _ _ h => h)
    clear hk1 HC1 H1
    simp only [txR, tkR, erR]
    go_wp2_with (first
      | (go_at_call 11; refine (num_any _ _).mono ?_; rintro e w' ⟨rfl, hw⟩; obtain rfl := hw.symm; clear hw))
    go_ret
    exact ⟨rfl, H2.out.below _ (Nat.le_refl _) (fun _ h => h.elim)⟩
  · obtain ⟨b1, b2, b3, b4, b5, b6⟩ := bound_pure (bytesOf s) (bytesOf more) k (by omega) o t hR
    rw [bytesOf_length] at b3
    rw [hR] at HC1
    obtain ⟨T, hT⟩ : ∃ T, textOf o = T := ⟨_, rfl⟩
    have hTs : T.size = o.length := by rw [← hT, textOf_size]
    obtain ⟨n, hn⟩ : ∃ n, o.length = n := ⟨_, rfl⟩
    rw [hn] at hTs b1 b5
    have HC1' : Hid (∀ w, GRow w → Calls Try.prog 9 #[.string s, .int .i64 (k : Int)] w fun e w' => e = .returned (.tuple #[.string T, .int .i64 (t : Int), .int .i64 0]) ∧ Keeps (fun _ => False) w w' ∧ GRow w') := fun w h => by
      rw [← hT]
      exact (HC1.out w h).mono (fun e w' hp => ⟨hp.1, hp.2, h.keptF hp.2⟩)
    have HC2 : Hid (∀ w, GRow w → Calls Try.prog 9 #[.string (s.extract 0 t ++ more), .int .i64 8192] w fun e w' => e = .returned (.tuple #[.string T, .int .i64 (t : Int), .int .i64 0]) ∧ Keeps (fun _ => False) w w' ∧ GRow w') := fun w h => by
      have := inflate_ok (s.extract 0 t ++ more) 8192 w (by rw [app_size]; have := take_size s t; omega) h
      rw [bytesOf_app, bytesOf_take, b4] at this
      rw [← hT]
      exact this.mono (fun e w' hp => ⟨hp.1, hp.2, h.keptF hp.2⟩)
    have HC3 : Hid (0 < n → ∀ w, GRow w → Calls Try.prog 9 #[.string s, .int .i64 ((n : Int) - 1)] w fun e w' => e = .returned (.tuple #[.string ⟨#[]⟩, .int .i64 0, .int .i64 701]) ∧ Keeps (fun _ => False) w w' ∧ GRow w') := fun hn w h => by
      have := inflate_ok s ((n : Int) - 1) w (by omega) h
      rw [b5 hn] at this
      exact this.mono (fun e w' hp => ⟨hp.1, hp.2, h.keptF hp.2⟩)
    have HC4 : Hid (∀ w, GRow w → Calls Try.prog 9 #[.string (s.extract 0 (t - 1)), .int .i64 8192] w fun e w' => e = .returned (.tuple #[.string ⟨#[]⟩, .int .i64 0, .int .i64 700]) ∧ Keeps (fun _ => False) w w' ∧ GRow w') := fun w h => by
      have := inflate_ok (s.extract 0 (t - 1)) 8192 w (by have := take_size s (t - 1); omega) h
      rw [bytesOf_take, b6] at this
      exact this.mono (fun e w' hp => ⟨hp.1, hp.2, h.keptF hp.2⟩)
    have hb1 : (n : Int) ≤ (k : Int) := by omega
    have hb2 : (1 : Int) ≤ (t : Int) := by omega
    have hb3 : (t : Int) ≤ (s.size : Int) := by omega
    have hsz : (s.size : Int) ≤ 140737488355328 := by omega
    have hsz2 : (more.size : Int) ≤ 140737488355328 := by omega
    clear hR hG b4 b5 b6 HC1 hT hn hs hs2
    go_enter Try.func4, Try.ntmps4
    go_wp2_with fail
    refine HA.out.mono ?_
    rintro e w1 ⟨rfl, hk1⟩
    have H1 : Hid (Keeps (fun _ => False) w w1 ∧ GRow w1) := hk1
    clear hk1 HA
    go_wp2_with fail
    refine (HC1'.out w1 H1.out.2).mono ?_
    rintro e w2 ⟨rfl, hk1⟩
    have H2 : Hid (Keeps (fun _ => False) w w2 ∧ GRow w2) := ⟨H1.out.1.trans hk1.1 (fun _ _ h => h), hk1.2⟩
    clear hk1 HC1' H1
    go_wp2_with (first
      | (go_at_call 11; refine (num_any _ _).mono ?_; rintro e w' ⟨rfl, hw⟩; obtain rfl := hw.symm; clear hw))
    refine (HC2.out w2 H2.out.2).mono ?_
    rintro e w3 ⟨rfl, hk1⟩
    have H3 : Hid (Keeps (fun _ => False) w w3 ∧ GRow w3) := ⟨H2.out.1.trans hk1.1 (fun _ _ h => h), hk1.2⟩
    clear hk1 HC2 H2
    have ht1 : (t : Int) - 1 = ((t - 1 : Nat) : Int) := by omega
    have HT1 : Hid ((t : Int) - 1 = ((t - 1 : Nat) : Int)) := ht1
    clear ht1
    by_cases hn0 : 0 < n
    · have hnz : 0 < (n : Int) := by omega
      have HC3' := HC3.out hn0
      have HC3'' : Hid (∀ w, GRow w → Calls Try.prog 9 #[.string s, .int .i64 ((n : Int) - 1)] w fun e w' => e = .returned (.tuple #[.string ⟨#[]⟩, .int .i64 0, .int .i64 701]) ∧ Keeps (fun _ => False) w w' ∧ GRow w') := HC3'
      clear HC3' HC3
      go_wp2_with (first
        | (go_at_call 11; refine (num_any _ _).mono ?_; rintro e w' ⟨rfl, hw⟩; obtain rfl := hw.symm; clear hw))
      refine (HC3''.out w3 H3.out.2).mono ?_
      rintro e w4 ⟨rfl, hk1⟩
      have H4 : Hid (Keeps (fun _ => False) w w4 ∧ GRow w4) := ⟨H3.out.1.trans hk1.1 (fun _ _ h => h), hk1.2⟩
      clear hk1 HC3'' H3
      have ht1 := HT1.out
      go_wp2_with (first
        | (go_at_call 11; refine (num_any _ _).mono ?_; rintro e w' ⟨rfl, hw⟩; obtain rfl := hw.symm; clear hw))
      refine (HC4.out w4 H4.out.2).mono ?_
      rintro e w5 ⟨rfl, hk1⟩
      have H5 : Hid (Keeps (fun _ => False) w w5 ∧ GRow w5) := ⟨H4.out.1.trans hk1.1 (fun _ _ h => h), hk1.2⟩
      clear hk1 HC4 H4
      go_wp2_with (first
        | (go_at_call 11; refine (num_any _ _).mono ?_; rintro e w' ⟨rfl, hw⟩; obtain rfl := hw.symm; clear hw))
      go_ret
      exact ⟨rfl, H5.out.1.below _ (Nat.le_refl _) (fun _ h => h.elim)⟩
    · have hnz : ¬ 0 < (n : Int) := by omega
      clear HC3
      have ht1 := HT1.out
      go_wp2_with (first
        | (go_at_call 11; refine (num_any _ _).mono ?_; rintro e w' ⟨rfl, hw⟩; obtain rfl := hw.symm; clear hw))
      refine (HC4.out w3 H3.out.2).mono ?_
      rintro e w5 ⟨rfl, hk1⟩
      have H5 : Hid (Keeps (fun _ => False) w w5 ∧ GRow w5) := ⟨H3.out.1.trans hk1.1 (fun _ _ h => h), hk1.2⟩
      clear hk1 HC4 H3
      go_wp2_with (first
        | (go_at_call 11; refine (num_any _ _).mono ?_; rintro e w' ⟨rfl, hw⟩; obtain rfl := hw.symm; clear hw))
      go_ret
      exact ⟨rfl, H5.out.1.below _ (Nat.le_refl _) (fun _ h => h.elim)⟩

end Go.Proofs.Ytdbfbijalhknnaa

namespace Go.Proofs.Ytdbfbijalhknnaa
open Go.RowKit
open Hf Tb
open Mt (Tk RowT mayF okT sumZ expF OwnK toksN)
open Bk (mayT dynOf StrPost)
set_option linter.unusedVariables false
set_option linter.unusedSimpArgs false

theorem toks_mayT (s : ByteArray) (K : Nat) (hs : s.size ≤ 300) (h : Mt.step (bytesOf s) K = s.size) : mayT (toksN (bytesOf s) K) = true := by
  unfold mayT
  rw [Mt.may_toks (bytesOf s) (Mt.bytesOf_lt s) (by rw [bytesOf_length]; exact hs) K (by rw [h, bytesOf_length]; exact Nat.le_refl _), Mt.sumZ_toks, h, Bool.true_and]
  exact decide_eq_true (by omega)
theorem nil_mayT : mayT [] = true := by decide
/-- What the document's Tokens answers: tokens that may be, and come to the text; or none, and 500. -/
def TokPost7 (s : ByteArray) (w : World) (e : Ending) (w' : World) : Prop :=
  ∃ (a : Option Addr) (ts : List Tk) (cap : Nat), e = .returned (.tuple #[.slice a ts.length cap, .int .i64 (if s.size ≤ 300 then 0 else 500)]) ∧ RowT w' a ts ∧ mayT ts = true ∧ (s.size ≤ 300 → expF [] ts = bytesOf s ∧ sumZ ts = (s.size : Int)) ∧ Keeps (fun _ => False) w w'
theorem rtokens7 (s : ByteArray) (w : World) (hb : s.size ≤ 140737488355328) : Calls Try.prog 14 #[.string s] w (TokPost7 s w) := by
  by_cases hs : s.size ≤ 300
  · refine (Mt.rtokens_ok s w hs).mono ?_
    rintro e w' ⟨K, v, rfl, hst, ho, hk⟩
    obtain ⟨a, cap, rfl, hR, _⟩ := ho.row
    refine ⟨a, toksN (bytesOf s) K, cap, by rw [if_pos hs], hR, toks_mayT s K hs hst, fun _ => ⟨Mt.exp_all _ _ (by rw [hst, bytesOf_length]), by rw [Mt.sumZ_toks, hst]⟩, hk⟩
  · refine (Mt.rtokens_long s w hs hb).mono ?_
    rintro e w' ⟨rfl, rfl⟩
    exact ⟨none, [], 0, by rw [if_neg hs]; rfl, .inl rfl, nil_mayT, fun h => absurd h hs, Keeps.refl _ _⟩

end Go.Proofs.Ytdbfbijalhknnaa

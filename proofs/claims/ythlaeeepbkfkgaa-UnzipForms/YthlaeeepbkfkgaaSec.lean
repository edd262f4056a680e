/-
  The parts of an archive that the maker puts: second, end.
-/
import Derived.Test.YthlaeeepbkfkgaaFir
namespace Go.Proofs.Ythlaeeepbkfkgaa
open Go.RowKit
set_option linter.unusedVariables false
set_option linter.unusedSimpArgs false

theorem Mk.get {B : List Nat} {w1 w' : World} {p : Nat} {v : Value} {L : List Nat} (h : OntoT (Mk B) w1 w' p v L) (i : Nat) (hi : i < B.length) : w'.cell? ⟨p, 1 + i, none⟩ = some (.int .i64 ((B[i] : Nat) : Int)) := by
  obtain ⟨_, hT, _⟩ := h
  exact (Mk.cell hT i hi).1

set_option maxHeartbeats 8000000 in
set_option maxRecDepth 1000000 in
theorem second_ok (B : List Nat) (p : Nat) (v : Value) (L : List Nat) (i : Nat) (e : Ent) (ys : List Int) (w : World) (hT : Txt (Mk B) w p v L) (hB : B.length = 6) (hi : i < 6) (k : Nat) (hk6 : B[i] = k) (hk : k ≤ 100000) (hL : L.length ≤ 10000) (hv : e.vn = ys.length) (hR : Row w e.va ys) (hRp : ∀ x, e.va = some x → x.block ≠ p ∧ v.ownBlock ≠ some x.block) (hh : heldB (e, ys) = true) :
    Calls Try.prog 42 #[.pointer (some ⟨p, 0, none⟩), .int .i64 (i : Int), .agg #[.string e.nm, .bool e.gn, .slice e.va e.vn e.vc, .int .i64 e.st, .int .i64 e.nd, .int .i64 e.mt, .string e.pk, .int .i64 e.sz, .int .i64 e.cr]] w fun r w' => r = .returned (.tuple #[]) ∧ OntoT (Mk B) w w' p v (L ++ secondL (e, ys) k) := by
  obtain ⟨n1, n2, n3, n4, n5⟩ := heldB_nums hh
  have hH := heldB_head hh
  simp only at n1 n2 n3 n4 n5 hH
  have hmt : 0 ≤ e.mt ∧ e.mt ≤ 65535 := by rcases n1 with h | h <;> rw [h] <;> decide
  have hlt := hT.lt
  have hvs : ∀ k, v.ownBlock = some k → k < w.heap.size := fun k hk => (World.ownsRow.lt hT.2 k hk).2
  have hY := mayB_len (headB_may hH)
  have hRb : ∀ x, e.va = some x → x.block < w.heap.size := hR.lt (by omega)
  have HX : Hid (∀ b1 w1 w' L', Entb w1 b1 e → w.heap.size ≤ b1 → OntoT (Mk B) w1 w' p v L' → Entb w' b1 e) := fun b1 w1 w' L' hE hb hO =>
    hO.ent hE (by omega) (fun h => by have := hvs _ h; omega)
  have HG : Hid (∀ w1 w' L', OntoT (Mk B) w1 w' p v L' → w'.cell? ⟨p, 1 + i, none⟩ = some (.int .i64 (k : Int))) := fun w1 w' L' h => by
    have := Mk.get h i (by omega)
    rw [hk6] at this; exact this
  have HC : Hid (∀ w1 w' L', Keeps (fun _ => False) w w1 → L'.length ≤ 20000 → OntoT (Mk B) w1 w' p v L' → Calls Try.prog 58 #[.pointer (some ⟨p, 0, none⟩), .agg #[.string e.nm, .bool e.gn, .slice e.va e.vn e.vc, .int .i64 e.st, .int .i64 e.nd, .int .i64 e.mt, .string e.pk, .int .i64 e.sz, .int .i64 e.cr]] w' fun r w'' => r = .returned (.tuple #[]) ∧ OntoT (Mk B) w1 w'' p v (L' ++ calledL (e, ys))) := fun w1 w' L' hk hl hO =>
    called_on e ys hO (by omega) hv (hR.keptF hk) (fun x hx => Nat.lt_of_lt_of_le (hRb x hx) hk.size) hRp hH (by omega)
  have HM : Hid (∀ w1 w' L', L'.length ≤ 20000 → OntoT (Mk B) w1 w' p v L' → Calls Try.prog 57 #[.pointer (some ⟨p, 0, none⟩), .agg #[.string e.nm, .bool e.gn, .slice e.va e.vn e.vc, .int .i64 e.st, .int .i64 e.nd, .int .i64 e.mt, .string e.pk, .int .i64 e.sz, .int .i64 e.cr]] w' fun r w'' => r = .returned (.tuple #[]) ∧ OntoT (Mk B) w1 w'' p v (L' ++ commonL e)) := fun w1 w' L' hl hO =>
    common_on e hO (by omega) hmt n3 (by omega) (by omega) (by omega)
  have HP : Hid (∀ L', L' = L ++ [80, 75, 1, 2] ++ le 2 20 ++ commonL e ++ le 2 0 ++ le 2 0 ++ le 2 0 ++ le 4 0 ++ le 4 k ++ calledL (e, ys) → L ++ secondL (e, ys) k = L') := fun L' h => by rw [h, secondL]; simp only [List.append_assoc]
  have HL : Hid ((commonL e).length = 26 ∧ (calledL (e, ys)).length = e.nm.size + 26) := ⟨commonL_len e, by rw [calledL, List.length_append, headL_len hh, bytesOf_length]⟩
  have hiz : (i : Int) < 6 := by omega
  have hiz0 : (0 : Int) ≤ (i : Int) := by omega
  have hkb : k < 1099511627776 := by omega
  have HB4 : Hid (bytesOf ⟨#[80, 75, 1, 2]⟩ = [80, 75, 1, 2]) := (rfl : bytesOf ⟨#[80, 75, 1, 2]⟩ = [80, 75, 1, 2])
  have HT : Hid (Txt (Mk B) w p v L) := hT
  generalize calledL (e, ys) = C at *
  clear hT hv hR hRp hH hvs hh hmt n1 n2 n3 hY hRb hk6 hk
  go_enter Try.func42, Try.ntmps42
  go_wp2_with (first
    | (refine wpList_box9 rfl _ rfl e rfl ?_; intro b w1 hE hK hb; have HE : Hid (Entb w1 b e ∧ Keeps (fun _ => False) w w1 ∧ w.heap.size ≤ b) := ⟨hE, hK, hb⟩; have H0 : Hid (OntoT (Mk B) w1 w1 p v L) := OntoT.refl (HT.out.keptF hK); clear hE hK hb)
    | (go_at_call 56; refine (text_on ⟨#[80, 75, 1, 2]⟩ H0.out (by show L.length + 4 ≤ _; omega)).mono ?_; rintro r w2 ⟨rfl, h⟩; rw [HB4.out] at h; have H1 : Hid (OntoT (Mk B) w1 w2 p v (L ++ [80, 75, 1, 2])) := h; clear h)
    | (go_at_call 59; (fail_if_success (clear M2)); refine (numb_on 20 2 H1.out (by decide) (by simp; omega)).mono ?_; rintro r w3 ⟨rfl, h⟩; have H2 : Hid (OntoT (Mk B) w1 w3 p v (L ++ [80, 75, 1, 2] ++ le 2 20)) := h; have M2 : Hid True := trivial; clear h)
    | (refine wpList_load9 rfl _ rfl b 0 rfl e ?hA ?_; (fail_if_success (clear M9)); (case hA => exact (HX.out b w1 w3 _ HE.out.1 HE.out.2.2 H2.out).at); have M9 : Hid True := trivial)
    | (go_at_call 57; refine (HM.out w1 w3 _ (by simp [le_len]; omega) H2.out).mono ?_; rintro r w4 ⟨rfl, h⟩; have H3 : Hid (OntoT (Mk B) w1 w4 p v (L ++ [80, 75, 1, 2] ++ le 2 20 ++ commonL e)) := h; clear h)
    | (go_at_call 59; (fail_if_success (clear M4)); refine (numb_on 0 2 H3.out (by decide) (by simp [le_len, HL.out.1]; omega)).mono ?_; rintro r w5 ⟨rfl, h⟩; have H4 : Hid (OntoT (Mk B) w1 w5 p v (L ++ [80, 75, 1, 2] ++ le 2 20 ++ commonL e ++ le 2 0)) := h; have M4 : Hid True := trivial; clear h)
    | (go_at_call 59; (fail_if_success (clear M5)); refine (numb_on 0 2 H4.out (by decide) (by simp [le_len, HL.out.1]; omega)).mono ?_; rintro r w6 ⟨rfl, h⟩; have H5 : Hid (OntoT (Mk B) w1 w6 p v (L ++ [80, 75, 1, 2] ++ le 2 20 ++ commonL e ++ le 2 0 ++ le 2 0)) := h; have M5 : Hid True := trivial; clear h)
    | (go_at_call 59; (fail_if_success (clear M6)); refine (numb_on 0 2 H5.out (by decide) (by simp [le_len, HL.out.1]; omega)).mono ?_; rintro r w7 ⟨rfl, h⟩; have H6 : Hid (OntoT (Mk B) w1 w7 p v (L ++ [80, 75, 1, 2] ++ le 2 20 ++ commonL e ++ le 2 0 ++ le 2 0 ++ le 2 0)) := h; have M6 : Hid True := trivial; clear h)
    | (go_at_call 59; (fail_if_success (clear M7)); refine (numb_on 0 4 H6.out (by decide) (by simp [le_len, HL.out.1]; omega)).mono ?_; rintro r w8 ⟨rfl, h⟩; have H7 : Hid (OntoT (Mk B) w1 w8 p v (L ++ [80, 75, 1, 2] ++ le 2 20 ++ commonL e ++ le 2 0 ++ le 2 0 ++ le 2 0 ++ le 4 0)) := h; have M7 : Hid True := trivial; clear h))
  have d6 := HG.out w1 w8 _ H7.out
  have H8 : Hid (OntoT (Mk B) w1 w8.drew p v (L ++ [80, 75, 1, 2] ++ le 2 20 ++ commonL e ++ le 2 0 ++ le 2 0 ++ le 2 0 ++ le 4 0)) := H7.out.drew
  go_region_held3 (fun w' => w'.cell? ⟨p, 1 + i, none⟩ = some (.int .i64 (k : Int))) (go_keep)
    (first | (go_at_call 59; refine (numb_on k 4 H8.out hkb (by simp [le_len, HL.out.1]; omega)).mono ?_; rintro r w9 ⟨rfl, h⟩; have q6 := HG.out w1 w9 _ h; have H9 : Hid (OntoT (Mk B) w1 w9 p v (L ++ [80, 75, 1, 2] ++ le 2 20 ++ commonL e ++ le 2 0 ++ le 2 0 ++ le 2 0 ++ le 4 0 ++ le 4 k)) := h; clear h))
  clear d6 q6
  go_wp2_with (first
    | (refine wpList_load9 rfl _ rfl b 0 rfl e ?hA ?_; (case hA => exact (HX.out b w1 w9 _ HE.out.1 HE.out.2.2 H9.out).at))
    | (go_at_call 58; refine (HC.out w1 w9 _ HE.out.2.1 (by simp [le_len, HL.out.1]; omega) H9.out).mono ?_; rintro r w10 ⟨rfl, h⟩; have H10 : Hid (OntoT (Mk B) w1 w10 p v (L ++ [80, 75, 1, 2] ++ le 2 20 ++ commonL e ++ le 2 0 ++ le 2 0 ++ le 2 0 ++ le 4 0 ++ le 4 k ++ C)) := h; clear h))
  go_end0
  refine ⟨rfl, ?_⟩
  rw [HP.out _ rfl]
  exact OntoT.pre HE.out.2.1 H10.out

theorem numb_onI {T : Lay} {p : Nat} {v : Value} {L : List Nat} {w1 w' : World} (x : Int) (n k : Nat) (hx : x = (n : Int)) (h : OntoT T w1 w' p v L) (hn : n < 1099511627776) (hL : L.length + k ≤ 100000) :
    Calls Try.prog 59 #[.pointer (some ⟨p, 0, none⟩), .int .i64 x, .int .i64 (k : Int)] w' fun r w'' => r = .returned (.tuple #[]) ∧ OntoT T w1 w'' p v (L ++ le k n) := by
  subst hx; exact numb_on n k h hn hL

set_option maxHeartbeats 8000000 in
set_option maxRecDepth 1000000 in
theorem end_ok (B : List Nat) (p : Nat) (v : Value) (L : List Nat) (n f s : Nat) (w : World) (hT : Txt (Mk B) w p v L) (hs : L.length = f + s) (hL : L.length ≤ 10000) (hn : n ≤ 10000) :
    Calls Try.prog 43 #[.pointer (some ⟨p, 0, none⟩), .int .i64 (n : Int), .int .i64 (f : Int)] w fun r w' => r = .returned (.tuple #[]) ∧ OntoT (Mk B) w w' p v (L ++ endL n s f) := by
  have HT : Hid (Txt (Mk B) w p v L) := hT
  have H0 : Hid (OntoT (Mk B) w w p v L) := OntoT.refl hT
  have HS : Hid (∀ x : Int, x = (L.length : Int) - (f : Int) → x = (s : Int)) := fun x h => by omega
  have hfz : (f : Int) ≤ 10000 := by omega
  have hlz : (L.length : Int) ≤ 10000 := by omega
  have HP : Hid (∀ L', L' = L ++ [80, 75, 5, 6] ++ le 2 0 ++ le 2 0 ++ le 2 n ++ le 2 n ++ le 4 s ++ le 4 f ++ le 2 0 → L ++ endL n s f = L') := fun L' h => by rw [h, endL]; simp only [List.append_assoc]
  have HB4 : Hid (bytesOf ⟨#[80, 75, 5, 6]⟩ = [80, 75, 5, 6]) := (rfl : bytesOf ⟨#[80, 75, 5, 6]⟩ = [80, 75, 5, 6])
  have b1 : n < 1099511627776 := by omega
  have b2 : s < 1099511627776 := by omega
  have b3 : f < 1099511627776 := by omega
  clear hT hs hn
  go_enter Try.func43, Try.ntmps43
  go_wp2_with (first
    | (go_at_call 41; refine (len_ok _ p v L _ HT.out).mono ?_; rintro r w' ⟨rfl, hw⟩; obtain rfl := hw.symm; clear hw)
    | (go_at_call 56; refine (text_on ⟨#[80, 75, 5, 6]⟩ H0.out (by show L.length + 4 ≤ _; omega)).mono ?_; rintro r w2 ⟨rfl, h⟩; rw [HB4.out] at h; have H1 : Hid (OntoT (Mk B) w w2 p v (L ++ [80, 75, 5, 6])) := h; clear h)
    | (go_at_call 59; (fail_if_success (clear M2)); refine (numb_on 0 2 H1.out (by decide) (by simp; omega)).mono ?_; rintro r w3 ⟨rfl, h⟩; have H2 : Hid (OntoT (Mk B) w w3 p v (L ++ [80, 75, 5, 6] ++ le 2 0)) := h; have M2 : Hid True := trivial; clear h)
    | (go_at_call 59; (fail_if_success (clear M3)); refine (numb_on 0 2 H2.out (by decide) (by simp [le_len]; omega)).mono ?_; rintro r w4 ⟨rfl, h⟩; have H3 : Hid (OntoT (Mk B) w w4 p v (L ++ [80, 75, 5, 6] ++ le 2 0 ++ le 2 0)) := h; have M3 : Hid True := trivial; clear h)
    | (go_at_call 59; (fail_if_success (clear M4)); refine (numb_on n 2 H3.out b1 (by simp [le_len]; omega)).mono ?_; rintro r w5 ⟨rfl, h⟩; have H4 : Hid (OntoT (Mk B) w w5 p v (L ++ [80, 75, 5, 6] ++ le 2 0 ++ le 2 0 ++ le 2 n)) := h; have M4 : Hid True := trivial; clear h)
    | (go_at_call 59; (fail_if_success (clear M5)); refine (numb_on n 2 H4.out b1 (by simp [le_len]; omega)).mono ?_; rintro r w6 ⟨rfl, h⟩; have H5 : Hid (OntoT (Mk B) w w6 p v (L ++ [80, 75, 5, 6] ++ le 2 0 ++ le 2 0 ++ le 2 n ++ le 2 n)) := h; have M5 : Hid True := trivial; clear h)
    | (go_at_call 59; (fail_if_success (clear M6)); refine (numb_onI _ s 4 (HS.out _ ?hx) H5.out b2 (by simp [le_len]; omega)).mono ?_; (case hx => first | rfl | (simp only [wrap64]; omega) | (simp [IntKind.wrap, IntKind.bits, IntKind.signed]; omega)); rintro r w7 ⟨rfl, h⟩; have H6 : Hid (OntoT (Mk B) w w7 p v (L ++ [80, 75, 5, 6] ++ le 2 0 ++ le 2 0 ++ le 2 n ++ le 2 n ++ le 4 s)) := h; have M6 : Hid True := trivial; clear h)
    | (go_at_call 59; (fail_if_success (clear M7)); refine (numb_on f 4 H6.out b3 (by simp [le_len]; omega)).mono ?_; rintro r w8 ⟨rfl, h⟩; have H7 : Hid (OntoT (Mk B) w w8 p v (L ++ [80, 75, 5, 6] ++ le 2 0 ++ le 2 0 ++ le 2 n ++ le 2 n ++ le 4 s ++ le 4 f)) := h; have M7 : Hid True := trivial; clear h)
    | (go_at_call 59; (fail_if_success (clear M8)); refine (numb_on 0 2 H7.out (by decide) (by simp [le_len]; omega)).mono ?_; rintro r w9 ⟨rfl, h⟩; have H8 : Hid (OntoT (Mk B) w w9 p v (L ++ [80, 75, 5, 6] ++ le 2 0 ++ le 2 0 ++ le 2 n ++ le 2 n ++ le 4 s ++ le 4 f ++ le 2 0)) := h; have M8 : Hid True := trivial; clear h))
  go_end0
  refine ⟨rfl, ?_⟩
  rw [HP.out _ rfl]
  exact H8.out

end Go.Proofs.Ythlaeeepbkfkgaa

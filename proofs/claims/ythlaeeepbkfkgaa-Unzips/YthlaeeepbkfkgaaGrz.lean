/-
  The document's GetZip.
-/
import Derived.Test.YthlaeeepbkfkgaaGget
import Derived.Test.YthlaeeepbkfkgaaRpz
import Derived.Test.YthlaeeepbkfkgaaRget
import Derived.BigQuiet
namespace Go.Proofs.Ythlaeeepbkfkgaa
open Go.RowKit
set_option linter.unusedVariables false
set_option linter.unusedSimpArgs false

/-! ### Where the document's reader stands in a text (no program in sight). -/
/-- The bytes of s from A on. -/
def fromB (s : ByteArray) (A : Nat) : List Nat := (bytesOf s).drop A
theorem from_len (s : ByteArray) (A : Nat) : (fromB s A).length = s.size - A := by rw [fromB, List.length_drop, bytesOf_length]
theorem cut_num (s : ByteArray) (A u v : Nat) : bytesOf (s.extract (A + u) (A + v)) = ((fromB s A).drop u).take (v - u) := by
  rw [bytesOf_extract, fromB, List.drop_drop, List.drop_take]
  congr 1; omega
theorem cut_text (s : ByteArray) (A B : Nat) : s.extract A B = textOf ((fromB s A).take (B - A)) := by
  apply bytesOf_inj
  unfold fromB
  rw [bytesOf_text _ (fun y hy => bytesOf_lt s y (List.mem_of_mem_drop (List.mem_of_mem_take hy))), bytesOf_extract, List.drop_take]
theorem from_drop (s : ByteArray) (A k : Nat) : (fromB s A).drop k = fromB s (A + k) := by rw [fromB, fromB, List.drop_drop]
theorem rtk (s : ByteArray) (A : Nat) : num (bytesOf (s.extract (A + 26) (A + 28))) = tkN (fromB s A) ∧ num (bytesOf (s.extract (A + 18) (A + 22))) = tkP (fromB s A) ∧ num (bytesOf (s.extract (A + 8) (A + 10))) = num (((fromB s A).drop 8).take 2) ∧ num (bytesOf (s.extract (A + 14) (A + 18))) = num (((fromB s A).drop 14).take 4) ∧ num (bytesOf (s.extract (A + 22) (A + 26))) = num (((fromB s A).drop 22).take 4) := by
  refine ⟨?_, ?_, ?_, ?_, ?_⟩ <;> rw [cut_num] <;> rfl
theorem rmark (s : ByteArray) (A : Nat) : ((s.extract A (A + 4)).toList == (⟨#[80, 75, 3, 4]⟩ : ByteArray).toList) = markB (fromB s A) := by
  rw [beq_toList, markB, Bool.eq_iff_iff, decide_eq_true_eq, decide_eq_true_eq]
  have e : bytesOf (s.extract A (A + 4)) = (fromB s A).take 4 := by
    have := cut_num s A 0 4
    rw [Nat.add_zero] at this; exact this
  constructor
  · intro h; rw [← e, h]; rfl
  · intro h; exact bytesOf_inj (e.trans h)
theorem rname (s : ByteArray) (A n : Nat) : s.extract (A + 30) (A + 30 + n) = textOf (((fromB s A).drop 30).take n) := by
  rw [cut_text, from_drop]; congr 2; omega
theorem rhead (s : ByteArray) (A n : Nat) : s.extract (A + 30 + n) (A + 30 + n + 26) = textOf ((((fromB s A).drop 30).drop n).take 26) := by
  rw [cut_text, from_drop, from_drop]; congr 2; omega
theorem rpack (s : ByteArray) (A n p : Nat) : s.extract (A + 30 + n + 26) (A + 30 + n + 26 + p) = textOf (((((fromB s A).drop 30).drop n).drop 26).take p) := by
  rw [cut_text, from_drop, from_drop, from_drop]; congr 2; omega
theorem rrest (s : ByteArray) (A : Nat) : tkR (fromB s A) = fromB s (A + 30 + tkN (fromB s A) + 26 + tkP (fromB s A)) := by
  rw [tkR, tkB, from_drop, from_drop, from_drop, from_drop]
theorem rfF_more {es : List It} {L : List Nat} (h : es.length < 7) (h30 : 30 ≤ L.length) (hm : markB L = true) : rfF (7 - es.length) L = bif decide (56 + tkN L + tkP L ≤ L.length) then (rfF (7 - (es.length + 1)) (tkR L)).map (tkD L :: ·) else none := by
  obtain ⟨n, hn⟩ : ∃ n, 7 - es.length = n + 1 := ⟨7 - es.length - 1, by omega⟩
  rw [hn, show 7 - (es.length + 1) = n by omega, rfF, hm, decide_eq_true h30, Bool.true_and, cond_true]
theorem rfF_end {es : List It} {L : List Nat} (h : es.length = 7 ∨ L.length < 30 ∨ markB L = false) : rfF (7 - es.length) L = some [] := by
  rcases h with h | h | h
  · rw [h]; rfl
  · cases hn : 7 - es.length with
    | zero => rfl
    | succ n => rw [rfF, decide_eq_false (by omega), Bool.false_and, cond_false]
  · cases hn : 7 - es.length with
    | zero => rfl
    | succ n => rw [rfF, h, Bool.and_false, cond_false]
/-- What was taken so far, and what is taken from here on. -/
def Sofar (s : ByteArray) (es : List It) (A : Nat) : Prop := rfF 7 (bytesOf s) = (rfF (7 - es.length) (fromB s A)).map (dats es ++ ·)
theorem Sofar.zero (s : ByteArray) : Sofar s [] 0 := by
  unfold Sofar
  simp [dats, fromB]
theorem Sofar.next {s : ByteArray} {es : List It} {A : Nat} {x : It} (h : Sofar s es A) (h7 : es.length < 7) (h30 : 30 ≤ (fromB s A).length) (hm : markB (fromB s A) = true) (hl : 56 + tkN (fromB s A) + tkP (fromB s A) ≤ (fromB s A).length) (hd : dat x = tkD (fromB s A)) : Sofar s (es ++ [x]) (A + 30 + tkN (fromB s A) + 26 + tkP (fromB s A)) := by
  unfold Sofar at h ⊢
  rw [h, rfF_more h7 h30 hm, decide_eq_true hl, cond_true, rrest, dats_snoc, hd, List.length_append, List.length_singleton, Option.map_map]
  congr 1
  funext l
  simp
theorem Sofar.short {s : ByteArray} {es : List It} {A : Nat} (h : Sofar s es A) (h7 : es.length < 7) (h30 : 30 ≤ (fromB s A).length) (hm : markB (fromB s A) = true) (hl : ¬ 56 + tkN (fromB s A) + tkP (fromB s A) ≤ (fromB s A).length) : rfF 7 (bytesOf s) = none := by
  unfold Sofar at h
  rw [h, rfF_more h7 h30 hm, decide_eq_false hl, cond_false]; rfl
theorem Sofar.end {s : ByteArray} {es : List It} {A : Nat} (h : Sofar s es A) (he : es.length = 7 ∨ (fromB s A).length < 30 ∨ markB (fromB s A) = false) : some (dats es) = rfF 7 (bytesOf s) := by
  unfold Sofar at h
  rw [h, rfF_end he]; simp

/-! ### The document's GetZip. -/
/-- Where the document's reader stands: the folder so far in block b4, the next entry begins at A. -/
structure Rz (w w' : World) (b2 b4 : Nat) (a : Option Addr) (cap : Nat) (es : List It) (s : ByteArray) (A : Nat) : Prop where
  re : Folb w' b2 (.slice none 0 0)
  fo : Folb w' b4 (.slice a es.length cap)
  ow : FolO w' (b4 + 1) (.slice a es.length cap) es
  le : es.length ≤ 7
  at' : A ≤ s.size
  so : Sofar s es A
  ft : ∀ x ∈ es, Fit x
  kp : Keeps (fun _ => False) w w'
  ap : w.heap.size ≤ b2 ∧ b2 < b4
theorem Rz.keptF {w w' w'' : World} {b2 b4 : Nat} {a : Option Addr} {cap : Nat} {es : List It} {s : ByteArray} {A : Nat} (h : Rz w w' b2 b4 a cap es s A) (hk : Keeps (fun _ => False) w' w'') : Rz w w'' b2 b4 a cap es s A :=
  ⟨h.re.keptF hk, h.fo.keptF hk, h.ow.keptF hk, h.le, h.at', h.so, h.ft, h.kp.trans hk (fun _ _ h => h), h.ap⟩
/-- The next entry, in block b9. -/
structure Ry (w3 w' : World) (b9 : Nat) (e : Ent) (V : List Int) : Prop where
  en : Entb w' b9 e
  ow : OwnV w' w3.heap.size (.slice e.va e.vn e.vc) V
  kp : Keeps (fun _ => False) w3 w'
  ap : w3.heap.size ≤ b9
  aw : ∀ k, (Value.slice e.va e.vn e.vc).ownBlock = some k → k ≠ b9
theorem Ry.setf {w3 w' : World} {b9 : Nat} {e : Ent} {V : List Int} (h : Ry w3 w' b9 e V) (j : Nat) (v : Value) (u : Ent) (hu : (#[.string e.nm, .bool e.gn, .slice e.va e.vn e.vc, .int .i64 e.st, .int .i64 e.nd, .int .i64 e.mt, .string e.pk, .int .i64 e.sz, .int .i64 e.cr] : Array Value).setIfInBounds j v = #[.string u.nm, .bool u.gn, .slice u.va u.vn u.vc, .int .i64 u.st, .int .i64 u.nd, .int .i64 u.mt, .string u.pk, .int .i64 u.sz, .int .i64 u.cr]) (hv : (Value.slice u.va u.vn u.vc) = (Value.slice e.va e.vn e.vc)) : Ry w3 (w'.setCell ⟨b9, j, none⟩ v) b9 u V := by
  have hk : Keeps (fun x => x = b9) w' (w'.setCell ⟨b9, j, none⟩ v) := (Keeps.refl (fun x => x = b9) w').setCell (p := ⟨b9, j, none⟩) (fun _ => rfl) v
  refine ⟨h.en.setC j v u hu, ?_, h.kp.trans hk (fun i hi q => by have := h.ap; omega), h.ap, ?_⟩
  · rw [hv]; exact h.ow.kept hk (fun k hk q => h.aw k hk q)
  · rw [hv]; exact h.aw
theorem from_small (s : ByteArray) (A : Nat) : ∀ y ∈ fromB s A, y < 256 := fun y hy => bytesOf_lt s y (List.mem_of_mem_drop hy)
theorem wrap_lo (x : Int) (h0 : 0 ≤ x) (h1 : x ≤ 1000000000000000) : IntKind.i64.wrap x = x := by
  simp only [IntKind.wrap, IntKind.bits, IntKind.signed]; simp; omega
theorem wrap64_lo (x : Int) (h0 : 0 ≤ x) (h1 : x ≤ 1000000000000000) : wrap64 x = x := by simp only [wrap64]; omega
/-- A sum in both spellings. -/
theorem sum_nat (a b c : Nat) (h : a + b = c) (hc : c ≤ 1000000000000000) : IntKind.i64.wrap ((a : Int) + (b : Int)) = (c : Int) ∧ wrap64 ((a : Int) + (b : Int)) = (c : Int) := by
  rw [wrap_lo _ (by omega) (by omega), wrap64_lo _ (by omega) (by omega)]; omega
theorem sub_nat (a b c : Nat) (h : b + c = a) (hc : a ≤ 1000000000000000) : IntKind.i64.wrap ((a : Int) - (b : Int)) = (c : Int) ∧ wrap64 ((a : Int) - (b : Int)) = (c : Int) := by
  rw [wrap_lo _ (by omega) (by omega), wrap64_lo _ (by omega) (by omega)]; omega
theorem rmark' (s : ByteArray) (A A4 : Nat) (h : A + 4 = A4) : ((s.extract A A4).toList == [80, 75, 3, 4]) = markB (fromB s A) := by
  rw [← rmark s A, h, toList_data, toList_data]
theorem Rz.next {w w3 w7 w8 : World} {b2 b4 b9 : Nat} {a : Option Addr} {cap g c : Nat} {es : List It} {s : ByteArray} {A BP : Nat} (h : Rz w w3 b2 b4 a cap es s A) (h7 : es.length < 7) (h30 : 30 ≤ (fromB s A).length) (hm : markB (fromB s A) = true) (hl : 56 + tkN (fromB s A) + tkP (fromB s A) ≤ (fromB s A).length) (hBP : A + 30 + tkN (fromB s A) + 26 + tkP (fromB s A) = BP) (e : Ent) (V : List Int)
    (hd : dat (e, V) = tkD (fromB s A)) (hv : e.vn = V.length) (hft : Fit (e, V)) (hy : Ry w3 w7 b9 e V) (hk : Keeps (fun k => (Value.slice a es.length cap).ownBlock = some k) w7 w8) (ho : OwnF w8 (b4 + 1) (.slice (some ⟨g, 0, none⟩) (es.length + 1) c) (es ++ [(e, V)])) :
    Rz w (w8.setCell ⟨b4, 0, none⟩ (.slice (some ⟨g, 0, none⟩) (es.length + 1) c)) b2 b4 (some ⟨g, 0, none⟩) c (es ++ [(e, V)]) s BP := by
  obtain ⟨a1, a2⟩ := h.ap
  have hlen : (es ++ [(e, V)]).length = es.length + 1 := by simp
  have hlo : ∀ k, (Value.slice a es.length cap).ownBlock = some k → b4 + 1 ≤ k := fun k q => (h.ow.1.lo k q).1
  have hF : FolO w8 (b4 + 1) (.slice (some ⟨g, 0, none⟩) (es.length + 1) c) (es ++ [(e, V)]) := h.ow.add (x := (e, V)) (by have := h.fo.lt; omega) (fun _ => False) hy.kp (fun k q1 q2 q => q) hv hy.ow hk ho
  have hk7 : Keeps (fun x => x = b4) w8 (w8.setCell ⟨b4, 0, none⟩ (.slice (some ⟨g, 0, none⟩) (es.length + 1) c)) := (Keeps.refl (fun x => x = b4) w8).setCell (p := ⟨b4, 0, none⟩) (fun _ => rfl) _
  have hfl := from_len s A
  refine ⟨((h.re.keptF hy.kp).kept hk (fun q => by have := hlo b2 q; omega)).kept hk7 (by omega), ?_, ?_, by rw [hlen]; omega, by omega, ?_, ?_, ?_, h.ap⟩
  · rw [hlen]; exact (((h.fo.keptF hy.kp).kept hk (fun q => by have := hlo b4 q; omega)).set _)
  · rw [hlen]; exact hF.kept hk7 (fun k q1 q2 q => by omega)
  · rw [← hBP]; exact h.so.next h7 h30 hm hl hd
  · intro x hx
    rcases List.mem_append.1 hx with hx | hx
    · exact h.ft x hx
    · rw [List.mem_singleton.1 hx]; exact hft
  · exact ((h.kp.trans hy.kp (fun _ _ q => q)).trans hk (fun k q1 q => by have := hlo k q; omega)).trans hk7 (fun k q1 q => by omega)

set_option maxHeartbeats 16000000 in
set_option maxRecDepth 1000000 in
theorem rgetzip_ok (s : ByteArray) (w : World) (hs : s.size ≤ 140737488355328) :
    Calls Try.prog 19 #[.string s] w fun r w' => ∃ a cap es err, r = .returned (.tuple #[.agg #[.slice a es.length cap], .int .i64 err]) ∧ Got s es err ∧ FolO w' w.heap.size (.slice a es.length cap) es ∧ Keeps (fun _ => False) w w' := by
  have HS : Hid (s.size ≤ 140737488355328) := hs
  have HN : Hid (rfF 7 (bytesOf s) = none → Got s [] 1400) := fun h => got_none (rf_none h)
  clear hs
  go_enter Try.func19, Try.ntmps19
  go_wp2_with (first
    | (refine wpList_allocF rfl rfl ?_; (fail_if_success (clear A1)); intro b2 w1 hE hK hb; have A1 : Hid (Folb w1 b2 (.slice none 0 0) ∧ Keeps (fun _ => False) w w1 ∧ w.heap.size ≤ b2) := ⟨hE, hK, hb⟩; clear hE hK hb)
    | (refine wpList_allocF rfl rfl ?_; intro b4 w2 hE hK hb; have A2 : Hid (Rz w w2 b2 b4 none 0 [] s 0) := ⟨A1.out.1.keptF hK, hE, FolO.nil _ _, (by decide : 0 ≤ 7), Nat.zero_le _, Sofar.zero s, (by simp), A1.out.2.1.trans hK (fun _ _ h => h), A1.out.2.2, (by have := A1.out.1.lt; omega)⟩; clear hE hK hb))
  clear A1
  (try simp only [Act.put, List.setIfInBounds_toArray, List.set_cons_zero, List.set_cons_succ])
  go_loopw [5] (fun s5 w' => ∃ A : Nat, s5 = .int .i64 (A : Int) ∧ ∃ a cap es, Hid (Rz w w' b2 b4 a cap es s A)) (fun s5 _ => ((s.size : Int) + 1 - intOf s5).toNat)
  case atStart => exact ⟨0, rfl, none, 0, [], A2⟩
  case round =>
    clear A2
    obtain ⟨A, rfl, a, cap, es, HH⟩ := hrel
    have c4 : wr.cell? ⟨b4, 0, none⟩ = some (.slice a es.length cap) := HH.out.fo.c0
    have f4 : wr.frozen? ⟨b4, 0, none⟩ = false := HH.out.fo.free
    have hs := HS.out
    have hat := HH.out.at'
    have hA0 : (0 : Int) ≤ (A : Int) := by omega
    obtain ⟨A30, h30e⟩ : ∃ x : Nat, A + 30 = x := ⟨_, rfl⟩
    have W30 : Hid (IntKind.i64.wrap ((A : Int) + 30) = (A30 : Int) ∧ wrap64 ((A : Int) + 30) = (A30 : Int)) := sum_nat A 30 A30 h30e (by omega)
    have hfl := from_len s A
    by_cases h30 : A30 ≤ s.size
    · have h30z : (A30 : Int) ≤ (s.size : Int) := by omega
      obtain ⟨A4, h4e⟩ : ∃ x : Nat, A + 4 = x := ⟨_, rfl⟩
      have W4 : Hid (IntKind.i64.wrap ((A : Int) + 4) = (A4 : Int) ∧ wrap64 ((A : Int) + 4) = (A4 : Int)) := sum_nat A 4 A4 h4e (by omega)
      have hmk := rmark' s A A4 h4e
      have b4l : (A : Int) ≤ (A4 : Int) := by omega
      have b4h : (A4 : Int) ≤ (s.size : Int) := by omega
      have b40 : (0 : Int) ≤ (A4 : Int) := by omega
      clear h4e
      cases hm : markB (fromB s A)
      · rw [hm] at hmk
        have HE : Hid (some (dats es) = rfF 7 (bytesOf s)) := HH.out.so.end (.inr (.inr hm))
        have HP : Hid (Calls Try.prog 10 #[.agg #[.slice a es.length cap]] wr fun r w'' => r = .returned (.tuple #[.string (zipT es), .int .i64 (zErr es)]) ∧ Keeps (fun _ => False) wr w'') := rputzip_ok a cap es wr HH.out.ow.folS HH.out.ft
        have hbq := beq_toList (zipT es) s
        have hcase : (zErr es = 1300) ∨ (zErr es = 0 ∧ ¬ zipT es = s) ∨ (zErr es = 0 ∧ zipT es = s) := by
          rcases zErr_or es with q | q
          · by_cases h : zipT es = s
            · exact .inr (.inr ⟨q, h⟩)
            · exact .inr (.inl ⟨q, h⟩)
          · exact .inl q
        have HZ : Hid (∀ w6 v, Keeps (fun _ => False) wr w6 → Folb (w6.setCell ⟨b2, 0, none⟩ v) b2 v ∧ Keeps (fun _ => False) w (w6.setCell ⟨b2, 0, none⟩ v) ∧ FolO (w6.setCell ⟨b2, 0, none⟩ v) w.heap.size (.slice a es.length cap) es ∧ w6.cell? ⟨b2, 0, none⟩ = some (.slice none 0 0) ∧ w6.frozen? ⟨b2, 0, none⟩ = false ∧ w6.cell? ⟨b4, 0, none⟩ = some (.slice a es.length cap)) := fun w6 v hk => by
          have hk7 : Keeps (fun x => x = b2) w6 (w6.setCell ⟨b2, 0, none⟩ v) := (Keeps.refl (fun x => x = b2) w6).setCell (p := ⟨b2, 0, none⟩) (fun _ => rfl) _
          obtain ⟨a1, a2⟩ := HH.out.ap
          exact ⟨(HH.out.re.keptF hk).set v, (HH.out.kp.trans hk (fun _ _ h => h)).trans hk7 (fun k q1 q => by omega), ((HH.out.ow.keptF hk).kept hk7 (fun k q1 q2 q => by omega)).mono (by omega), (HH.out.re.keptF hk).c0, (HH.out.re.keptF hk).free, (HH.out.fo.keptF hk).c0⟩
        clear hat hs hfl h30e
        obtain ⟨wi30, wo30⟩ := W30.out
        obtain ⟨wi4, wo4⟩ := W4.out
        rcases hcase with q | ⟨q, hne⟩ | ⟨q, hTs⟩
        · have HG : Hid (Got s [] 1400) := got_no (rf_dats HE.out) (fun h => by rw [q] at h; exact absurd h.1 (by decide))
          rw [q] at HP
          clear q hbq HN HE
          generalize zipT es = Z at *
          go_wp2_with ((go_at_call 10; refine HP.out.mono ?_; rintro r w6 ⟨rfl, h⟩; have A6 : Hid (Keeps (fun _ => False) wr w6) := h; obtain ⟨_, _, _, k2, f2, k4⟩ := HZ.out w6 (.slice none 0 0) h; clear h))
          (try simp only [Exit.inBlock, Exit.then])
          exact bodyPost_ret (v := .tuple #[.agg #[.slice none 0 0], .int .i64 1400]) (Folb.res2 rfl rfl rfl (HZ.out w6 _ A6.out).1) rfl ⟨none, 0, [], 1400, rfl, HG.out, FolO.nil _ _, (HZ.out w6 _ A6.out).2.1⟩
        · have HG : Hid (Got s [] 1400) := got_no (rf_dats HE.out) (fun h => hne h.2)
          rw [decide_eq_false hne] at hbq
          have hb2 : ((zipT es).toList != s.toList) = true := by simp only [bne, hbq]; rfl
          rw [q] at HP
          clear q hne HN HE
          generalize zipT es = Z at *
          go_wp2_with ((go_at_call 10; refine HP.out.mono ?_; rintro r w6 ⟨rfl, h⟩; have A6 : Hid (Keeps (fun _ => False) wr w6) := h; obtain ⟨_, _, _, k2, f2, k4⟩ := HZ.out w6 (.slice none 0 0) h; clear h))
          (try simp only [Exit.inBlock, Exit.then])
          exact bodyPost_ret (v := .tuple #[.agg #[.slice none 0 0], .int .i64 1400]) (Folb.res2 rfl rfl rfl (HZ.out w6 _ A6.out).1) rfl ⟨none, 0, [], 1400, rfl, HG.out, FolO.nil _ _, (HZ.out w6 _ A6.out).2.1⟩
        · have HG : Hid (Got s es 0) := got_yes q hTs
          rw [decide_eq_true hTs] at hbq
          have hb2 : ((zipT es).toList != s.toList) = false := by simp only [bne, hbq]; rfl
          rw [q] at HP
          clear q hTs HN HE
          generalize zipT es = Z at *
          go_wp2_with ((go_at_call 10; refine HP.out.mono ?_; rintro r w6 ⟨rfl, h⟩; have A6 : Hid (Keeps (fun _ => False) wr w6) := h; obtain ⟨_, _, _, k2, f2, k4⟩ := HZ.out w6 (.slice none 0 0) h; clear h))
          (try simp only [Exit.inBlock, Exit.then])
          exact bodyPost_ret (v := .tuple #[.agg #[.slice a es.length cap], .int .i64 0]) (Folb.res2 rfl rfl rfl (HZ.out w6 _ A6.out).1) rfl ⟨a, cap, es, 0, rfl, HG.out, (HZ.out w6 _ A6.out).2.2.1, (HZ.out w6 _ A6.out).2.1⟩
      · rw [hm] at hmk
        by_cases h7 : es.length < 7
        · have h7z : (es.length : Int) ≤ 6 := by omega
          obtain ⟨A18, h18e⟩ : ∃ x : Nat, A + 18 = x := ⟨_, rfl⟩
          have W18 : Hid (IntKind.i64.wrap ((A : Int) + 18) = (A18 : Int) ∧ wrap64 ((A : Int) + 18) = (A18 : Int)) := sum_nat A 18 A18 h18e (by omega)
          obtain ⟨A22, h22e⟩ : ∃ x : Nat, A + 22 = x := ⟨_, rfl⟩
          have W22 : Hid (IntKind.i64.wrap ((A : Int) + 22) = (A22 : Int) ∧ wrap64 ((A : Int) + 22) = (A22 : Int)) := sum_nat A 22 A22 h22e (by omega)
          obtain ⟨A26, h26e⟩ : ∃ x : Nat, A + 26 = x := ⟨_, rfl⟩
          have W26 : Hid (IntKind.i64.wrap ((A : Int) + 26) = (A26 : Int) ∧ wrap64 ((A : Int) + 26) = (A26 : Int)) := sum_nat A 26 A26 h26e (by omega)
          obtain ⟨A28, h28e⟩ : ∃ x : Nat, A + 28 = x := ⟨_, rfl⟩
          have W28 : Hid (IntKind.i64.wrap ((A : Int) + 28) = (A28 : Int) ∧ wrap64 ((A : Int) + 28) = (A28 : Int)) := sum_nat A 28 A28 h28e (by omega)
          obtain ⟨t1, t2, t3, t4, t5⟩ := rtk s A
          have C3 : Hid (∀ w', Calls Try.prog 34 #[.string (s.extract (A + 8) (A + 10))] w' fun e w'' => e = .returned (.int .i64 (num (((fromB s A).drop 8).take 2) : Int)) ∧ w'' = w') := fun w' => by have := rnum_ok (s.extract (A + 8) (A + 10)) w' (by rw [ByteArray.size_extract]; omega); rw [t3] at this; exact this
          have C4 : Hid (∀ w', Calls Try.prog 34 #[.string (s.extract (A + 14) (A + 18))] w' fun e w'' => e = .returned (.int .i64 (num (((fromB s A).drop 14).take 4) : Int)) ∧ w'' = w') := fun w' => by have := rnum_ok (s.extract (A + 14) (A + 18)) w' (by rw [ByteArray.size_extract]; omega); rw [t4] at this; exact this
          have C5 : Hid (∀ w', Calls Try.prog 34 #[.string (s.extract (A + 22) (A + 26))] w' fun e w'' => e = .returned (.int .i64 (num (((fromB s A).drop 22).take 4) : Int)) ∧ w'' = w') := fun w' => by have := rnum_ok (s.extract (A + 22) (A + 26)) w' (by rw [ByteArray.size_extract]; omega); rw [t5] at this; exact this
          rw [h26e, h28e] at t1
          rw [h18e, h22e] at t2
          have n1 := rname s A (tkN (fromB s A))
          have n2 := rhead s A (tkN (fromB s A))
          have n3 := rpack s A (tkN (fromB s A)) (tkP (fromB s A))
          have hN := (num_part (fromB s A) (from_small s A) 26).1
          have hP := (num_part (fromB s A) (from_small s A) 18).2
          have hXb : bytesOf (textOf (tkX (fromB s A))) = tkX (fromB s A) := bytesOf_text _ (fun y hy => from_small s A y (List.mem_of_mem_drop (List.mem_of_mem_drop (List.mem_of_mem_take hy))))
          have hXs : (textOf (tkX (fromB s A))).size ≤ 140737488355328 := by rw [textOf_size, tkX, List.length_take]; omega
          have HD : Hid (tkD (fromB s A) = (textOf (((fromB s A).drop 30).take (tkN (fromB s A))), gGn (tkX (fromB s A)), gVec (tkX (fromB s A)), gSt (tkX (fromB s A)), gNd (tkX (fromB s A)), (num (((fromB s A).drop 8).take 2) : Int), textOf (((tkB (fromB s A)).drop 26).take (tkP (fromB s A))), (num (((fromB s A).drop 22).take 4) : Int), (num (((fromB s A).drop 14).take 4) : Int))) := rfl
          have hft1 : (textOf (((fromB s A).drop 30).take (tkN (fromB s A)))).size ≤ 65536 := by rw [textOf_size, List.length_take]; have hN := (num_part (fromB s A) (from_small s A) 26).1; unfold tkN; omega
          have hft2 : (textOf (((tkB (fromB s A)).drop 26).take (tkP (fromB s A)))).size ≤ 4294967296 := by rw [textOf_size, List.length_take]; have hP := (num_part (fromB s A) (from_small s A) 18).2; unfold tkP; omega
          have hft3 := gVec_len (tkX (fromB s A))
          replace hN : tkN (fromB s A) < 65536 := hN
          replace hP : tkP (fromB s A) < 4294967296 := hP
          have HSO : Hid (∀ (w3 w7 w8 : World) (b9 g c BP : Nat) (e : Ent) (V : List Int), Rz w w3 b2 b4 a cap es s A → 56 + tkN (fromB s A) + tkP (fromB s A) ≤ (fromB s A).length → A + 30 + tkN (fromB s A) + 26 + tkP (fromB s A) = BP → dat (e, V) = tkD (fromB s A) → e.vn = V.length → Fit (e, V) → Ry w3 w7 b9 e V → Keeps (fun k => (Value.slice a es.length cap).ownBlock = some k) w7 w8 → OwnF w8 (b4 + 1) (.slice (some ⟨g, 0, none⟩) (es.length + 1) c) (es ++ [(e, V)]) → Rz w (w8.setCell ⟨b4, 0, none⟩ (.slice (some ⟨g, 0, none⟩) (es.length + 1) c)) b2 b4 (some ⟨g, 0, none⟩) c (es ++ [(e, V)]) s BP) := fun w3 w7 w8 b9 g c BP e V q1 q2 q3 q4 q5 q6 q7 q8 q9 => q1.next h7 (by omega) hm q2 q3 e V q4 q5 q6 q7 q8 q9
          have HSH : Hid (¬ 56 + tkN (fromB s A) + tkP (fromB s A) ≤ (fromB s A).length → Got s [] 1400) := fun q => HN.out (HH.out.so.short h7 (by omega) hm q)
          have hfit : A + 30 + tkN (fromB s A) + 26 + tkP (fromB s A) ≤ s.size ↔ 56 + tkN (fromB s A) + tkP (fromB s A) ≤ (fromB s A).length := by omega
          have C1 : Hid (∀ w', Calls Try.prog 34 #[.string (s.extract A26 A28)] w' fun e w'' => e = .returned (.int .i64 (tkN (fromB s A) : Int)) ∧ w'' = w') := fun w' => by have := rnum_ok (s.extract A26 A28) w' (by rw [ByteArray.size_extract]; omega); rw [t1] at this; exact this
          have C2 : Hid (∀ w', Calls Try.prog 34 #[.string (s.extract A18 A22)] w' fun e w'' => e = .returned (.int .i64 (tkP (fromB s A) : Int)) ∧ w'' = w') := fun w' => by have := rnum_ok (s.extract A18 A22) w' (by rw [ByteArray.size_extract]; omega); rw [t2] at this; exact this
          have C6 : Hid (∀ w', Calls Try.prog 35 #[.string (s.extract (A + 30 + tkN (fromB s A)) (A + 30 + tkN (fromB s A) + 26))] w' fun r w'' => ∃ a n c, r = .returned (.tuple #[.agg #[.string ⟨#[]⟩, .bool (gGn (tkX (fromB s A))), .slice a n c, .int .i64 (gSt (tkX (fromB s A))), .int .i64 (gNd (tkX (fromB s A))), .int .i64 0, .string ⟨#[]⟩, .int .i64 0, .int .i64 0], .int .i64 (gErr (tkX (fromB s A)))]) ∧ OwnV w'' w'.heap.size (.slice a n c) (gVec (tkX (fromB s A))) ∧ n = (gVec (tkX (fromB s A))).length ∧ Keeps (fun _ => False) w' w'') := fun w' => by
            rw [show s.extract (A + 30 + tkN (fromB s A)) (A + 30 + tkN (fromB s A) + 26) = textOf (tkX (fromB s A)) from n2]
            have := rget_ok (textOf (tkX (fromB s A))) w' hXs
            rw [hXb] at this; exact this
          have HNM : Hid (s.extract (A + 30) (A + 30 + tkN (fromB s A)) = textOf (((fromB s A).drop 30).take (tkN (fromB s A)))) := n1
          have HPK : Hid (s.extract (A + 30 + tkN (fromB s A) + 26) (A + 30 + tkN (fromB s A) + 26 + tkP (fromB s A)) = textOf (((tkB (fromB s A)).drop 26).take (tkP (fromB s A)))) := n3
          have lA26A28 : (A26 : Int) ≤ (A28 : Int) := by omega
          have lA18A22 : (A18 : Int) ≤ (A22 : Int) := by omega
          have uA18 : (A18 : Int) ≤ (s.size : Int) := by omega
          have vA18 : (0 : Int) ≤ (A18 : Int) := by omega
          have uA22 : (A22 : Int) ≤ (s.size : Int) := by omega
          have vA22 : (0 : Int) ≤ (A22 : Int) := by omega
          have uA26 : (A26 : Int) ≤ (s.size : Int) := by omega
          have vA26 : (0 : Int) ≤ (A26 : Int) := by omega
          have uA28 : (A28 : Int) ≤ (s.size : Int) := by omega
          have vA28 : (0 : Int) ≤ (A28 : Int) := by omega
          have HAB : Hid ((A : Int) ≤ 140737488355328 ∧ (tkN (fromB s A) : Int) ≤ 65535 ∧ (tkP (fromB s A) : Int) ≤ 4294967295 ∧ (s.size : Int) ≤ 140737488355328) := ⟨by omega, by omega, by omega, by omega⟩
          have HFT : Hid (∀ (e : Ent) (V : List Int), dat (e, V) = tkD (fromB s A) → Fit (e, V)) := fun e V q => by
            rw [HD.out] at q
            simp only [dat, Prod.mk.injEq] at q
            obtain ⟨q1, _, q3, _, _, _, q7, _, _⟩ := q
            refine ⟨?_, ?_, ?_⟩
            · show V.length * 8 + 4096 ≤ _; rw [q3]; omega
            · show e.nm.size + 4096 ≤ _; rw [q1]; omega
            · show e.pk.size + 4096 ≤ _; rw [q7]; omega
          clear t1 t2 t3 t4 t5 n1 n2 n3 hXb hXs hft1 hft2 hft3 hN hP h18e h22e h26e h28e h30e hfl HN
          generalize num (((fromB s A).drop 8).take 2) = M at *
          generalize num (((fromB s A).drop 14).take 4) = C at *
          generalize num (((fromB s A).drop 22).take 4) = Z at *
          have hd0 := HD.out
          rw [← HNM.out, ← HPK.out] at hd0
          have HE0 := hideC hd0
          clear hd0 HD HNM HPK
          have HD := HE0
          clear HE0
          generalize gGn (tkX (fromB s A)) = gn at *
          generalize gVec (tkX (fromB s A)) = V at *
          generalize gSt (tkX (fromB s A)) = st at *
          generalize gNd (tkX (fromB s A)) = nd at *
          generalize gErr (tkX (fromB s A)) = xe at *
          generalize tkD (fromB s A) = DD at *
          have HFI : Hid (A + 30 + tkN (fromB s A) + 26 + tkP (fromB s A) ≤ s.size ↔ 56 + tkN (fromB s A) + tkP (fromB s A) ≤ (fromB s A).length) := hfit
          clear hfit
          generalize tkN (fromB s A) = N at *
          generalize tkP (fromB s A) = P at *
          generalize (fromB s A).length = FL at *
          have HAT : Hid (A ≤ s.size) := hat
          clear hat hs
          by_cases hfz : A + 30 + N + 26 + P ≤ s.size
          · have HFZ : Hid (A + 30 + N + 26 + P ≤ s.size) := hfz
            clear hfz
            obtain ⟨wi4, wo4⟩ := W4.out
            obtain ⟨wi18, wo18⟩ := W18.out
            obtain ⟨wi22, wo22⟩ := W22.out
            obtain ⟨wi26, wo26⟩ := W26.out
            obtain ⟨wi28, wo28⟩ := W28.out
            obtain ⟨wi30, wo30⟩ := W30.out
            go_wp2
            go_quiet (first | (go_at_call_of 34 (s.extract A26 A28); exact Calls.quiet_of_same (C1.out _)) | (go_at_call_of 34 (s.extract A18 A22); exact Calls.quiet_of_same (C2.out _)))
            have HH3 : Hid (Rz w (wr.drewN nq) b2 b4 a cap es s A) := HH.out.keptF ((Keeps.refl (fun _ => False) wr).drewN nq)
            have d4 : (wr.drewN nq).cell? ⟨b4, 0, none⟩ = some (.slice a es.length cap) := HH3.out.fo.c0
            have e4 : (wr.drewN nq).frozen? ⟨b4, 0, none⟩ = false := HH3.out.fo.free
            clear HH c4 f4 wi4 wo4 wi18 wo18 wi22 wo22 wi26 wo26 wi28 wo28 wi30 wo30 lA26A28 lA18A22 uA18 uA22 uA26 uA28 vA18 vA22 vA26 vA28 C1 C2
            generalize wr.drewN nq = w3 at *
            obtain ⟨bA, bN, bP, bS⟩ := HAB.out
            have hfzz : (A : Int) + 30 + (N : Int) + 26 + (P : Int) ≤ (s.size : Int) := by have := HFZ.out; omega
            have hfzn : ¬ (s.size : Int) < (A : Int) + 30 + (N : Int) + 26 + (P : Int) := by omega
            have hN0 : (0 : Int) ≤ (N : Int) := by omega
            have hP0 : (0 : Int) ≤ (P : Int) := by omega
            go_wp2_with (first
              | (go_at_call 35; refine (C6.out w3).mono ?_; rintro r w4 ⟨a1, n, c1, rfl, h1, h2, h3⟩; have G4 : Hid (OwnV w4 w3.heap.size (.slice a1 n c1) V ∧ n = V.length ∧ Keeps (fun _ => False) w3 w4) := ⟨h1, h2, h3⟩; clear h1 h2 h3)
              | (refine wpList_alloc9 rfl rfl ?_; (fail_if_success (clear G5)); intro b9 w5 hE hK hb; have G5 : Hid (Entb w5 b9 Ent.zero ∧ OwnV w5 w3.heap.size (.slice a1 n c1) V ∧ Keeps (fun _ => False) w3 w5 ∧ w4.heap.size ≤ b9) := ⟨hE, G4.out.1.keptF hK, G4.out.2.2.trans hK (fun _ _ h => h), hb⟩; clear hE hK hb)
              | (refine wpList_store9 rfl _ _ rfl b9 ⟨⟨#[]⟩, gn, a1, n, c1, st, nd, 0, ⟨#[]⟩, 0, 0⟩ rfl rfl Ent.zero ?hA ?_; (fail_if_success (clear G6)); (case hA => exact G5.out.1); intro w6 hE hK; have G6 : Hid (Ry w3 w6 b9 ⟨⟨#[]⟩, gn, a1, n, c1, st, nd, 0, ⟨#[]⟩, 0, 0⟩ V) := ⟨hE, G5.out.2.1.kept hK (fun k hk q => by have := (G4.out.1.lo k hk).2; have := G5.out.2.2.2; omega), G5.out.2.2.1.trans hK (fun k q1 q => by have := G4.out.2.2.size; have := G5.out.2.2.2; omega), Nat.le_trans G4.out.2.2.size G5.out.2.2.2, (fun k hk => by have := (G4.out.1.lo k hk).2; have := G5.out.2.2.2; omega)⟩; have q0 := hE.c0; have q5 := hE.c5; have q6 := hE.c6; have q7 := hE.c7; have q8 := hE.c8; have p0 := hE.free 0; have p5 := hE.free 5; have p6 := hE.free 6; have p7 := hE.free 7; have p8 := hE.free 8; have hne : b9 ≠ b4 := (by have := HH3.out.fo.lt; have := G6.out.ap; omega); have hne' : b4 ≠ b9 := hne.symm; have r4 : w6.cell? ⟨b4, 0, none⟩ = some (.slice a es.length cap) := (HH3.out.fo.keptF G6.out.kp).c0; have s4 : w6.frozen? ⟨b4, 0, none⟩ = false := (HH3.out.fo.keptF G6.out.kp).free; clear hE hK G5 d4 e4)
              | (go_at_call 34; (fail_if_success (clear NC3)); refine (C3.out _).mono ?_; rintro r w' ⟨rfl, hw⟩; obtain rfl := hw.symm; clear hw; have NC3 : Hid True := trivial)
              | (go_at_call 34; (fail_if_success (clear NC4)); refine (C4.out _).mono ?_; rintro r w' ⟨rfl, hw⟩; obtain rfl := hw.symm; clear hw; have NC4 : Hid True := trivial)
              | (go_at_call 34; (fail_if_success (clear NC5)); refine (C5.out _).mono ?_; rintro r w' ⟨rfl, hw⟩; obtain rfl := hw.symm; clear hw; have NC5 : Hid True := trivial)
              | (refine wpList_load9 rfl _ rfl b9 0 rfl ⟨(s.extract (A + 30) (A + 30 + N)), gn, a1, n, c1, st, nd, (M : Int), (s.extract (A + 30 + N + 26) (A + 30 + N + 26 + P)), (Z : Int), (C : Int)⟩ ?hA ?_; (case hA => exact (((((G6.out.setf 0 (.string (s.extract (A + 30) (A + 30 + N))) ⟨(s.extract (A + 30) (A + 30 + N)), gn, a1, n, c1, st, nd, 0, ⟨#[]⟩, 0, 0⟩ rfl rfl).setf 5 (.int .i64 (M : Int)) ⟨(s.extract (A + 30) (A + 30 + N)), gn, a1, n, c1, st, nd, (M : Int), ⟨#[]⟩, 0, 0⟩ rfl rfl).setf 8 (.int .i64 (C : Int)) ⟨(s.extract (A + 30) (A + 30 + N)), gn, a1, n, c1, st, nd, (M : Int), ⟨#[]⟩, 0, (C : Int)⟩ rfl rfl).setf 7 (.int .i64 (Z : Int)) ⟨(s.extract (A + 30) (A + 30 + N)), gn, a1, n, c1, st, nd, (M : Int), ⟨#[]⟩, (Z : Int), (C : Int)⟩ rfl rfl).setf 6 (.string (s.extract (A + 30 + N + 26) (A + 30 + N + 26 + P))) ⟨(s.extract (A + 30) (A + 30 + N)), gn, a1, n, c1, st, nd, (M : Int), (s.extract (A + 30 + N + 26) (A + 30 + N + 26 + P)), (Z : Int), (C : Int)⟩ rfl rfl).en.at); have G7 : Hid (Ry w3 (((((w6.setCell ⟨b9, 0, none⟩ (.string (s.extract (A + 30) (A + 30 + N)))).setCell ⟨b9, 5, none⟩ (.int .i64 (M : Int))).setCell ⟨b9, 8, none⟩ (.int .i64 (C : Int))).setCell ⟨b9, 7, none⟩ (.int .i64 (Z : Int))).setCell ⟨b9, 6, none⟩ (.string (s.extract (A + 30 + N + 26) (A + 30 + N + 26 + P)))) b9 ⟨(s.extract (A + 30) (A + 30 + N)), gn, a1, n, c1, st, nd, (M : Int), (s.extract (A + 30 + N + 26) (A + 30 + N + 26 + P)), (Z : Int), (C : Int)⟩ V) := (((((G6.out.setf 0 (.string (s.extract (A + 30) (A + 30 + N))) ⟨(s.extract (A + 30) (A + 30 + N)), gn, a1, n, c1, st, nd, 0, ⟨#[]⟩, 0, 0⟩ rfl rfl).setf 5 (.int .i64 (M : Int)) ⟨(s.extract (A + 30) (A + 30 + N)), gn, a1, n, c1, st, nd, (M : Int), ⟨#[]⟩, 0, 0⟩ rfl rfl).setf 8 (.int .i64 (C : Int)) ⟨(s.extract (A + 30) (A + 30 + N)), gn, a1, n, c1, st, nd, (M : Int), ⟨#[]⟩, 0, (C : Int)⟩ rfl rfl).setf 7 (.int .i64 (Z : Int)) ⟨(s.extract (A + 30) (A + 30 + N)), gn, a1, n, c1, st, nd, (M : Int), ⟨#[]⟩, (Z : Int), (C : Int)⟩ rfl rfl).setf 6 (.string (s.extract (A + 30 + N + 26) (A + 30 + N + 26 + P))) ⟨(s.extract (A + 30) (A + 30 + N)), gn, a1, n, c1, st, nd, (M : Int), (s.extract (A + 30 + N + 26) (A + 30 + N + 26 + P)), (Z : Int), (C : Int)⟩ rfl rfl); have t4 : (((((w6.setCell ⟨b9, 0, none⟩ (.string (s.extract (A + 30) (A + 30 + N)))).setCell ⟨b9, 5, none⟩ (.int .i64 (M : Int))).setCell ⟨b9, 8, none⟩ (.int .i64 (C : Int))).setCell ⟨b9, 7, none⟩ (.int .i64 (Z : Int))).setCell ⟨b9, 6, none⟩ (.string (s.extract (A + 30 + N + 26) (A + 30 + N + 26 + P)))).cell? ⟨b4, 0, none⟩ = some (.slice a es.length cap) := (HH3.out.fo.keptF G7.out.kp).c0; have v4 : (((((w6.setCell ⟨b9, 0, none⟩ (.string (s.extract (A + 30) (A + 30 + N)))).setCell ⟨b9, 5, none⟩ (.int .i64 (M : Int))).setCell ⟨b9, 8, none⟩ (.int .i64 (C : Int))).setCell ⟨b9, 7, none⟩ (.int .i64 (Z : Int))).setCell ⟨b9, 6, none⟩ (.string (s.extract (A + 30 + N + 26) (A + 30 + N + 26 + P)))).frozen? ⟨b4, 0, none⟩ = false := (HH3.out.fo.keptF G7.out.kp).free; have hb7 : b4 < (((((w6.setCell ⟨b9, 0, none⟩ (.string (s.extract (A + 30) (A + 30 + N)))).setCell ⟨b9, 5, none⟩ (.int .i64 (M : Int))).setCell ⟨b9, 8, none⟩ (.int .i64 (C : Int))).setCell ⟨b9, 7, none⟩ (.int .i64 (Z : Int))).setCell ⟨b9, 6, none⟩ (.string (s.extract (A + 30 + N + 26) (A + 30 + N + 26 + P)))).heap.size := (HH3.out.fo.keptF G7.out.kp).lt; clear G6 q0 q5 q6 q7 q8 p0 p5 p6 p7 p8 r4 s4; generalize (((((w6.setCell ⟨b9, 0, none⟩ (.string (s.extract (A + 30) (A + 30 + N)))).setCell ⟨b9, 5, none⟩ (.int .i64 (M : Int))).setCell ⟨b9, 8, none⟩ (.int .i64 (C : Int))).setCell ⟨b9, 7, none⟩ (.int .i64 (Z : Int))).setCell ⟨b9, 6, none⟩ (.string (s.extract (A + 30 + N + 26) (A + 30 + N + 26 + P)))) = w7 at *)
              | (refine wpList_ent rfl (.tmp 108) (.tmp 110) rfl rfl (b4 + 1) (.slice a es.length cap) es rfl ?hO w7.heap.size (⟨(s.extract (A + 30) (A + 30 + N)), gn, a1, n, c1, st, nd, (M : Int), (s.extract (A + 30 + N + 26) (A + 30 + N + 26 + P)), (Z : Int), (C : Int)⟩, V) rfl ?hR ?hb ?hn ?_; (case hO => exact (HH3.out.ow.1.keptF G7.out.kp).keptF ((Keeps.refl (fun _ => False) w7).alloc _)); (case hR => exact (Entb.new w7 ⟨(s.extract (A + 30) (A + 30 + N)), gn, a1, n, c1, st, nd, (M : Int), (s.extract (A + 30 + N + 26) (A + 30 + N + 26 + P)), (Z : Int), (C : Int)⟩).at); (case hb => simp; omega); (case hn => omega); intro g c2 w8 hO8 hG8 hat8; have hk8 : Keeps (fun k => (Value.slice a es.length cap).ownBlock = some k) w7 w8 := ((Keeps.refl _ w7).alloc _).grown hG8 (fun k _ q => q); have x4 : w8.cell? ⟨b4, 0, none⟩ = some (.slice a es.length cap) := (World.cell?_of_block (hk8.block b4 hb7 (fun q => by have := (HH3.out.ow.1.lo b4 q).1; omega))).trans t4; have y4 : w8.frozen? ⟨b4, 0, none⟩ = false := (World.frozen?_of_block (hk8.block b4 hb7 (fun q => by have := (HH3.out.ow.1.lo b4 q).1; omega))).trans v4; have G8 : Hid (Rz w (w8.setCell ⟨b4, 0, none⟩ (.slice (some ⟨g, 0, none⟩) (es.length + 1) c2)) b2 b4 (some ⟨g, 0, none⟩) c2 (es ++ [(⟨(s.extract (A + 30) (A + 30 + N)), gn, a1, n, c1, st, nd, (M : Int), (s.extract (A + 30 + N + 26) (A + 30 + N + 26 + P)), (Z : Int), (C : Int)⟩, V)]) s (A + 30 + N + 26 + P)) := HSO.out w3 w7 w8 b9 g c2 (A + 30 + N + 26 + P) ⟨(s.extract (A + 30) (A + 30 + N)), gn, a1, n, c1, st, nd, (M : Int), (s.extract (A + 30 + N + 26) (A + 30 + N + 26 + P)), (Z : Int), (C : Int)⟩ V HH3.out (HFI.out.1 HFZ.out) rfl (by rw [HD.out]; rfl) G4.out.2.1 (HFT.out _ _ (by rw [HD.out]; rfl)) G7.out hk8 hO8; clear hO8 hG8 hat8 hk8))
            go_roundw
            case rel => exact ⟨A + 30 + N + 26 + P, by push_cast; rfl, _, _, _, G8⟩
            case measure => simp [intOf]; omega
          · have HFZ : Hid ((s.size : Int) < (A : Int) + 30 + (N : Int) + 26 + (P : Int)) := (by omega : (s.size : Int) < (A : Int) + 30 + (N : Int) + 26 + (P : Int))
            have HG : Hid (Got s [] 1400) := HSH.out (fun q => hfz (HFI.out.2 q))
            clear hfz
            obtain ⟨wi4, wo4⟩ := W4.out
            obtain ⟨wi18, wo18⟩ := W18.out
            obtain ⟨wi22, wo22⟩ := W22.out
            obtain ⟨wi26, wo26⟩ := W26.out
            obtain ⟨wi28, wo28⟩ := W28.out
            obtain ⟨wi30, wo30⟩ := W30.out
            go_wp2
            go_quiet (first | (go_at_call_of 34 (s.extract A26 A28); exact Calls.quiet_of_same (C1.out _)) | (go_at_call_of 34 (s.extract A18 A22); exact Calls.quiet_of_same (C2.out _)))
            have HH3 : Hid (Rz w (wr.drewN nq) b2 b4 a cap es s A) := HH.out.keptF ((Keeps.refl (fun _ => False) wr).drewN nq)
            have k2 : (wr.drewN nq).cell? ⟨b2, 0, none⟩ = some (.slice none 0 0) := HH3.out.re.c0
            have f2 : (wr.drewN nq).frozen? ⟨b2, 0, none⟩ = false := HH3.out.re.free
            clear HH c4 f4 wi4 wo4 wi18 wo18 wi22 wo22 wi26 wo26 wi28 wo28 wi30 wo30 lA26A28 lA18A22 uA18 uA22 uA26 uA28 vA18 vA22 vA26 vA28 C1 C2
            generalize wr.drewN nq = w3 at *
            obtain ⟨bA, bN, bP, bS⟩ := HAB.out
            have hfzz := HFZ.out
            have hN0 : (0 : Int) ≤ (N : Int) := by omega
            have hP0 : (0 : Int) ≤ (P : Int) := by omega
            go_wp2
            (try simp only [Exit.inBlock, Exit.then])
            have hk7 : Keeps (fun x => x = b2) w3 (w3.setCell ⟨b2, 0, none⟩ (.slice none 0 0)) := (Keeps.refl (fun x => x = b2) w3).setCell (p := ⟨b2, 0, none⟩) (fun _ => rfl) _
            exact bodyPost_ret (v := .tuple #[.agg #[.slice none 0 0], .int .i64 1400]) (Folb.res2 rfl rfl rfl (HH3.out.re.set _)) rfl ⟨none, 0, [], 1400, rfl, HG.out, FolO.nil _ _, HH3.out.kp.trans hk7 (fun k q1 q => by have := HH3.out.ap; omega)⟩
        · have h7z : ¬ (es.length : Int) ≤ 6 := by omega
          have h7e : es.length = 7 := by have := HH.out.le; omega
          have HE : Hid (some (dats es) = rfF 7 (bytesOf s)) := HH.out.so.end (.inl h7e)
          have HP : Hid (Calls Try.prog 10 #[.agg #[.slice a es.length cap]] wr fun r w'' => r = .returned (.tuple #[.string (zipT es), .int .i64 (zErr es)]) ∧ Keeps (fun _ => False) wr w'') := rputzip_ok a cap es wr HH.out.ow.folS HH.out.ft
          have hbq := beq_toList (zipT es) s
          have hcase : (zErr es = 1300) ∨ (zErr es = 0 ∧ ¬ zipT es = s) ∨ (zErr es = 0 ∧ zipT es = s) := by
            rcases zErr_or es with q | q
            · by_cases h : zipT es = s
              · exact .inr (.inr ⟨q, h⟩)
              · exact .inr (.inl ⟨q, h⟩)
            · exact .inl q
          have HZ : Hid (∀ w6 v, Keeps (fun _ => False) wr w6 → Folb (w6.setCell ⟨b2, 0, none⟩ v) b2 v ∧ Keeps (fun _ => False) w (w6.setCell ⟨b2, 0, none⟩ v) ∧ FolO (w6.setCell ⟨b2, 0, none⟩ v) w.heap.size (.slice a es.length cap) es ∧ w6.cell? ⟨b2, 0, none⟩ = some (.slice none 0 0) ∧ w6.frozen? ⟨b2, 0, none⟩ = false ∧ w6.cell? ⟨b4, 0, none⟩ = some (.slice a es.length cap)) := fun w6 v hk => by
            have hk7 : Keeps (fun x => x = b2) w6 (w6.setCell ⟨b2, 0, none⟩ v) := (Keeps.refl (fun x => x = b2) w6).setCell (p := ⟨b2, 0, none⟩) (fun _ => rfl) _
            obtain ⟨a1, a2⟩ := HH.out.ap
            exact ⟨(HH.out.re.keptF hk).set v, (HH.out.kp.trans hk (fun _ _ h => h)).trans hk7 (fun k q1 q => by omega), ((HH.out.ow.keptF hk).kept hk7 (fun k q1 q2 q => by omega)).mono (by omega), (HH.out.re.keptF hk).c0, (HH.out.re.keptF hk).free, (HH.out.fo.keptF hk).c0⟩
          clear hat hs hfl h30e h7e h7
          obtain ⟨wi30, wo30⟩ := W30.out
          obtain ⟨wi4, wo4⟩ := W4.out
          rcases hcase with q | ⟨q, hne⟩ | ⟨q, hTs⟩
          · have HG : Hid (Got s [] 1400) := got_no (rf_dats HE.out) (fun h => by rw [q] at h; exact absurd h.1 (by decide))
            rw [q] at HP
            clear q hbq HN HE
            generalize zipT es = Z at *
            go_wp2_with ((go_at_call 10; refine HP.out.mono ?_; rintro r w6 ⟨rfl, h⟩; have A6 : Hid (Keeps (fun _ => False) wr w6) := h; obtain ⟨_, _, _, k2, f2, k4⟩ := HZ.out w6 (.slice none 0 0) h; clear h))
            (try simp only [Exit.inBlock, Exit.then])
            exact bodyPost_ret (v := .tuple #[.agg #[.slice none 0 0], .int .i64 1400]) (Folb.res2 rfl rfl rfl (HZ.out w6 _ A6.out).1) rfl ⟨none, 0, [], 1400, rfl, HG.out, FolO.nil _ _, (HZ.out w6 _ A6.out).2.1⟩
          · have HG : Hid (Got s [] 1400) := got_no (rf_dats HE.out) (fun h => hne h.2)
            rw [decide_eq_false hne] at hbq
            have hb2 : ((zipT es).toList != s.toList) = true := by simp only [bne, hbq]; rfl
            rw [q] at HP
            clear q hne HN HE
            generalize zipT es = Z at *
            go_wp2_with ((go_at_call 10; refine HP.out.mono ?_; rintro r w6 ⟨rfl, h⟩; have A6 : Hid (Keeps (fun _ => False) wr w6) := h; obtain ⟨_, _, _, k2, f2, k4⟩ := HZ.out w6 (.slice none 0 0) h; clear h))
            (try simp only [Exit.inBlock, Exit.then])
            exact bodyPost_ret (v := .tuple #[.agg #[.slice none 0 0], .int .i64 1400]) (Folb.res2 rfl rfl rfl (HZ.out w6 _ A6.out).1) rfl ⟨none, 0, [], 1400, rfl, HG.out, FolO.nil _ _, (HZ.out w6 _ A6.out).2.1⟩
          · have HG : Hid (Got s es 0) := got_yes q hTs
            rw [decide_eq_true hTs] at hbq
            have hb2 : ((zipT es).toList != s.toList) = false := by simp only [bne, hbq]; rfl
            rw [q] at HP
            clear q hTs HN HE
            generalize zipT es = Z at *
            go_wp2_with ((go_at_call 10; refine HP.out.mono ?_; rintro r w6 ⟨rfl, h⟩; have A6 : Hid (Keeps (fun _ => False) wr w6) := h; obtain ⟨_, _, _, k2, f2, k4⟩ := HZ.out w6 (.slice none 0 0) h; clear h))
            (try simp only [Exit.inBlock, Exit.then])
            exact bodyPost_ret (v := .tuple #[.agg #[.slice a es.length cap], .int .i64 0]) (Folb.res2 rfl rfl rfl (HZ.out w6 _ A6.out).1) rfl ⟨a, cap, es, 0, rfl, HG.out, (HZ.out w6 _ A6.out).2.2.1, (HZ.out w6 _ A6.out).2.1⟩
    · have h30z : ¬ (A30 : Int) ≤ (s.size : Int) := by omega
      have HE : Hid (some (dats es) = rfF 7 (bytesOf s)) := HH.out.so.end (.inr (.inl (by omega)))
      have HP : Hid (Calls Try.prog 10 #[.agg #[.slice a es.length cap]] wr fun r w'' => r = .returned (.tuple #[.string (zipT es), .int .i64 (zErr es)]) ∧ Keeps (fun _ => False) wr w'') := rputzip_ok a cap es wr HH.out.ow.folS HH.out.ft
      have hbq := beq_toList (zipT es) s
      have hcase : (zErr es = 1300) ∨ (zErr es = 0 ∧ ¬ zipT es = s) ∨ (zErr es = 0 ∧ zipT es = s) := by
        rcases zErr_or es with q | q
        · by_cases h : zipT es = s
          · exact .inr (.inr ⟨q, h⟩)
          · exact .inr (.inl ⟨q, h⟩)
        · exact .inl q
      have HZ : Hid (∀ w6 v, Keeps (fun _ => False) wr w6 → Folb (w6.setCell ⟨b2, 0, none⟩ v) b2 v ∧ Keeps (fun _ => False) w (w6.setCell ⟨b2, 0, none⟩ v) ∧ FolO (w6.setCell ⟨b2, 0, none⟩ v) w.heap.size (.slice a es.length cap) es ∧ w6.cell? ⟨b2, 0, none⟩ = some (.slice none 0 0) ∧ w6.frozen? ⟨b2, 0, none⟩ = false ∧ w6.cell? ⟨b4, 0, none⟩ = some (.slice a es.length cap)) := fun w6 v hk => by
        have hk7 : Keeps (fun x => x = b2) w6 (w6.setCell ⟨b2, 0, none⟩ v) := (Keeps.refl (fun x => x = b2) w6).setCell (p := ⟨b2, 0, none⟩) (fun _ => rfl) _
        obtain ⟨a1, a2⟩ := HH.out.ap
        exact ⟨(HH.out.re.keptF hk).set v, (HH.out.kp.trans hk (fun _ _ h => h)).trans hk7 (fun k q1 q => by omega), ((HH.out.ow.keptF hk).kept hk7 (fun k q1 q2 q => by omega)).mono (by omega), (HH.out.re.keptF hk).c0, (HH.out.re.keptF hk).free, (HH.out.fo.keptF hk).c0⟩
      clear hat hs hfl h30e
      obtain ⟨wi30, wo30⟩ := W30.out
      rcases hcase with q | ⟨q, hne⟩ | ⟨q, hTs⟩
      · have HG : Hid (Got s [] 1400) := got_no (rf_dats HE.out) (fun h => by rw [q] at h; exact absurd h.1 (by decide))
        rw [q] at HP
        clear q hbq HN HE
        generalize zipT es = Z at *
        go_wp2_with ((go_at_call 10; refine HP.out.mono ?_; rintro r w6 ⟨rfl, h⟩; have A6 : Hid (Keeps (fun _ => False) wr w6) := h; obtain ⟨_, _, _, k2, f2, k4⟩ := HZ.out w6 (.slice none 0 0) h; clear h))
        (try simp only [Exit.inBlock, Exit.then])
        exact bodyPost_ret (v := .tuple #[.agg #[.slice none 0 0], .int .i64 1400]) (Folb.res2 rfl rfl rfl (HZ.out w6 _ A6.out).1) rfl ⟨none, 0, [], 1400, rfl, HG.out, FolO.nil _ _, (HZ.out w6 _ A6.out).2.1⟩
      · have HG : Hid (Got s [] 1400) := got_no (rf_dats HE.out) (fun h => hne h.2)
        rw [decide_eq_false hne] at hbq
        have hb2 : ((zipT es).toList != s.toList) = true := by simp only [bne, hbq]; rfl
        rw [q] at HP
        clear q hne HN HE
        generalize zipT es = Z at *
        go_wp2_with ((go_at_call 10; refine HP.out.mono ?_; rintro r w6 ⟨rfl, h⟩; have A6 : Hid (Keeps (fun _ => False) wr w6) := h; obtain ⟨_, _, _, k2, f2, k4⟩ := HZ.out w6 (.slice none 0 0) h; clear h))
        (try simp only [Exit.inBlock, Exit.then])
        exact bodyPost_ret (v := .tuple #[.agg #[.slice none 0 0], .int .i64 1400]) (Folb.res2 rfl rfl rfl (HZ.out w6 _ A6.out).1) rfl ⟨none, 0, [], 1400, rfl, HG.out, FolO.nil _ _, (HZ.out w6 _ A6.out).2.1⟩
      · have HG : Hid (Got s es 0) := got_yes q hTs
        rw [decide_eq_true hTs] at hbq
        have hb2 : ((zipT es).toList != s.toList) = false := by simp only [bne, hbq]; rfl
        rw [q] at HP
        clear q hTs HN HE
        generalize zipT es = Z at *
        go_wp2_with ((go_at_call 10; refine HP.out.mono ?_; rintro r w6 ⟨rfl, h⟩; have A6 : Hid (Keeps (fun _ => False) wr w6) := h; obtain ⟨_, _, _, k2, f2, k4⟩ := HZ.out w6 (.slice none 0 0) h; clear h))
        (try simp only [Exit.inBlock, Exit.then])
        exact bodyPost_ret (v := .tuple #[.agg #[.slice a es.length cap], .int .i64 0]) (Folb.res2 rfl rfl rfl (HZ.out w6 _ A6.out).1) rfl ⟨a, cap, es, 0, rfl, HG.out, (HZ.out w6 _ A6.out).2.2.1, (HZ.out w6 _ A6.out).2.1⟩

end Go.Proofs.Ythlaeeepbkfkgaa

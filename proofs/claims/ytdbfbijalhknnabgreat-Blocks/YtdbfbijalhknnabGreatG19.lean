/-
  mayBe, Stored, Fixed and Dynamic of package block. Stored and Dynamic of package block. Stored of package block. lengthFinder of package inflate: the codes by which a dynamic block tells all lengths.
-/
import Derived.Test.YtdbfbijalhknnabGreatRows
import Derived.Test.YtdbfbijalhknnabGreatG18
namespace Go.Proofs.YtdbfbijalhknnabGreat.Bk
open Go.RowKit
open Hf Tb
open Mt (Tk RowT mayF sumZ expF)
set_option linter.unusedVariables false
set_option linter.unusedSimpArgs false

theorem exp_size {ts : List Tk} (h : mayF 0 ts = true) : (textOf (expF [] ts)).size = (sumZ ts).toNat := by
  have := Mt.exp_len ts [] (by simpa using h)
  rw [textOf_size]; simp at this; omega

set_option maxHeartbeats 1000000 in
set_option maxRecDepth 100000 in
theorem mayBe_ok (a : Option Addr) (ts : List Tk) (cap : Nat) (w : World) (hR : RowT w a ts) (hl : ts.length ≤ 9223372036854775806) :
    Calls Tryz.prog 28 #[.slice a ts.length cap] w fun e w' => e = .returned (.bool (mayT ts)) ∧ Keeps (fun _ => False) w w' := by
  cases hm : mayF 0 ts with
  | false =>
    have e : mayT ts = false := by unfold mayT; rw [hm]; rfl
    have HC := hide (Mt.expand_bad a ts cap w hR hl hm)
    rw [e]
    clear hR hl hm e
    generalize ts.length = N at *
    go_enter Tryz.func28, Tryz.ntmps28
    go_wp2_with fail
    refine HC.out.mono ?_
    rintro e w1 ⟨rfl, hK1⟩
    have H1 := hide hK1
    clear hK1 HC
    go_wp2
    go_ret
    exact ⟨rfl, H1.out⟩
  | true =>
    have HC := hide (Mt.expand_ok a ts cap w hR hl hm)
    have hz := exp_size hm
    have h0 := sumZ_len ts
    have h8 := Mt.may_sum ts 0 (by omega) hm
    obtain ⟨T, hT⟩ : ∃ T, textOf (expF [] ts) = T := ⟨_, rfl⟩
    rw [hT] at HC hz
    have e : mayT ts = decide ((T.size : Int) ≤ 300) := by
      unfold mayT; rw [hm, Bool.true_and, hz]
      apply decide_eq_decide.2; omega
    have hs : T.size ≤ 10000 := by omega
    rw [e]
    clear hR hl hm e hz h0 h8 hT
    generalize ts.length = N at *
    go_enter Tryz.func28, Tryz.ntmps28
    go_wp2_with fail
    refine HC.out.mono ?_
    rintro e w1 ⟨rfl, hK1⟩
    have H1 := hide hK1
    clear hK1 HC
    go_wp2
    go_ret
    refine ⟨?_, H1.out⟩
    first | rfl | (simp)

def StrPost (t : ByteArray) (er : Int) (w : World) (e : Ending) (w' : World) : Prop := e = .returned (.tuple #[.string t, .int .i64 er]) ∧ Keeps (fun _ => False) w w'
theorem own_first {w : World} {base : Nat} {v : Value} {xs : List Int} (h : Own w base v xs) (hn : 0 < xs.length) : ∃ g cap, v = .slice (some ⟨g, 0, none⟩) xs.length cap ∧ Pfx w g xs ∧ base ≤ g := by
  obtain ⟨g, cap, rfl, hb, _⟩ := World.ownsRow.form h hn
  refine ⟨g, cap, rfl, ⟨(World.ownsRow.lt h g rfl).2, fun j hj => (owns_cell h j _ ?_).1⟩, (World.ownsRow.lt h g rfl).1⟩
  rw [intsV, List.getElem?_map, List.getElem?_eq_getElem hj]; rfl
theorem Blk.pfx {w : World} {g : Nat} {xs : List Int} (h : Blk w g xs) : Pfx w g xs := ⟨h.lt, fun j hj => h.cell j hj⟩

set_option maxHeartbeats 1000000 in
set_option maxRecDepth 100000 in
theorem fixed_bad (a : Option Addr) (ts : List Tk) (cap : Nat) (w : World) (hR : RowT w a ts) (hl : ts.length ≤ 9223372036854775806) (hm : mayT ts = false) :
    Calls Tryz.prog 11 #[.slice a ts.length cap] w (StrPost ⟨#[]⟩ 800 w) := by
  have HC := hide (mayBe_ok a ts cap w hR hl)
  rw [hm] at HC
  generalize ts.length = N at *
  go_enter Tryz.func11, Tryz.ntmps11
  go_wp2_with fail
  refine HC.out.mono ?_
  rintro e w1 ⟨rfl, hK1⟩
  have H1 := hide hK1
  clear hK1 HC
  go_wp2
  go_ret2
  exact ⟨rfl, H1.out⟩
set_option maxHeartbeats 1000000 in
set_option maxRecDepth 100000 in
theorem dynamic_bad (a : Option Addr) (ts : List Tk) (cap : Nat) (w : World) (hR : RowT w a ts) (hl : ts.length ≤ 9223372036854775806) (hm : mayT ts = false) :
    Calls Tryz.prog 13 #[.slice a ts.length cap] w (StrPost ⟨#[]⟩ 800 w) := by
  have HC := hide (mayBe_ok a ts cap w hR hl)
  rw [hm] at HC
  generalize ts.length = N at *
  go_enter Tryz.func13, Tryz.ntmps13
  go_wp2_with fail
  refine HC.out.mono ?_
  rintro e w1 ⟨rfl, hK1⟩
  have H1 := hide hK1
  clear hK1 HC
  go_wp2
  go_ret2
  exact ⟨rfl, H1.out⟩

set_option maxHeartbeats 2000000 in
set_option maxRecDepth 100000 in
theorem fixed_ok8 (a : Option Addr) (ts : List Tk) (cap : Nat) (w : World) (hR : RowT w a ts) (hm : mayT ts = true) :
    Calls Tryz.prog 11 #[.slice a ts.length cap] w (StrPost (textOf (pack (fixedB ts))) 0 w) := by
  obtain ⟨m1, m2, m3, m4⟩ := mayT_is hm
  obtain ⟨Q, hQ⟩ : ∃ Q, StrPost (textOf (pack (fixedB ts))) 0 w = Q := ⟨_, rfl⟩
  rw [hQ]
  have HQ : Hid (StrPost (textOf (pack (fixedB ts))) 0 w = Q) := hQ
  clear hQ
  have HC := hide (mayBe_ok a ts cap w hR (by omega))
  rw [hm] at HC
  have HT : Hid (∀ w1 p b o ga ca gb, Keeps (fun _ => False) w w1 → Pg w1 p b o (bitsOf 1 1 ++ bitsOf 1 2) (.slice none 0 0) (.slice none 0 0) → w.heap.size ≤ p → w.heap.size ≤ b → (∀ k, o = some k → w.heap.size ≤ k) → gb ≠ p → Pfx w1 ga fixLs → Pfx w1 gb fiveLs → Calls Tryz.prog 29 #[.pointer (some ⟨p, 0, none⟩), .slice a ts.length cap, .slice (some ⟨ga, 0, none⟩) 288 ca, .slice (some ⟨gb, 0, none⟩) 30 30] w1 (TokPost fixLs fiveLs ts w1 p b o (bitsOf 1 1 ++ bitsOf 1 2))) := fun w1 p b o ga ca gb hk hp h1 h2 h3 hne hA hB =>
    tokensP_ok hp ga 288 ca gb 30 30 fixLs fiveLs hA hB (by decide) (by decide) full_fix hne a cap ts (hR.kept hk (fun _ _ h => h)) m3 m4 (fun t ht => by obtain ⟨c, hc⟩ := m4 t ht; exact hasT_fix t c hc) (fix_at ⟨256, by decide⟩) (by simp [bitsOf_length]) ((RowT.low hR).imp id (fun ha x e => by
      have := ha x e
      refine ⟨by omega, by omega, fun e2 => ?_⟩
      have := h3 _ e2; omega))
  generalize ts.length = N at *
  clear hR hm m1 m2 m3 m4
  go_enter Tryz.func11, Tryz.ntmps11
  go_wp2_with fail
  refine HC.out.mono ?_
  rintro e w1 ⟨rfl, hK1⟩
  have HBg := hide (begin_ok 1 w1 (by omega))
  have H1 := hide hK1
  clear hK1 HC
  go_wp2_with fail
  refine HBg.out.mono ?_
  rintro e w2 ⟨p, b, o, rfl, hP2, hK2, hp2, hb2, ho2⟩
  have H2 : Hid (Pg w2 p b o (bitsOf 1 1 ++ bitsOf 1 2) (.slice none 0 0) (.slice none 0 0) ∧ Keeps (fun _ => False) w w2 ∧ w.heap.size ≤ p ∧ w.heap.size ≤ b ∧ (∀ k, o = some k → w.heap.size ≤ k)) := by
    have := H1.out.size
    exact ⟨hP2, H1.out.trans hK2 (fun _ _ h => h), by omega, by omega, fun k e => by have := ho2 k e; omega⟩
  have HC3 : Hid (Calls Tryz.prog 30 #[] w2 fun e w' => ∃ v, e = .returned v ∧ Own w' w2.heap.size v fixLs ∧ Keeps (fun _ => False) w2 w') := Tb.fixed_ok w2
  clear HBg hP2 hK2 hp2 hb2 ho2 H1
  go_wp2_with fail
  refine HC3.out.mono ?_
  rintro e w3 ⟨v3, rfl, hO3, hK3⟩
  obtain ⟨ga, ca, rfl, hPa, hga⟩ := own_first hO3 (by decide)
  have HC4 := hide (fixedDists_ok w3)
  have H3 : Hid (Pfx w3 ga fixLs ∧ Keeps (fun _ => False) w2 w3) := ⟨hPa, hK3⟩
  have e288 : fixLs.length = 288 := by decide
  rw [e288]
  clear hO3 hK3 hPa hga HC3
  go_wp2_with fail
  refine HC4.out.mono ?_
  rintro e w4 ⟨gb, rfl, hK4, hgb, hB4⟩
  have HC5 : Hid (Calls Tryz.prog 29 #[.pointer (some ⟨p, 0, none⟩), .slice a N cap, .slice (some ⟨ga, 0, none⟩) 288 ca, .slice (some ⟨gb, 0, none⟩) 30 30] w4 (TokPost fixLs fiveLs ts w4 p b o (bitsOf 1 1 ++ bitsOf 1 2))) := by
    have k24 := H3.out.2.trans hK4 (fun _ _ h => h)
    refine HT.out w4 p b o ga ca gb (H2.out.2.1.trans k24 (fun _ _ h => h)) (H2.out.1.keptF k24) H2.out.2.2.1 H2.out.2.2.2.1 H2.out.2.2.2.2 ?_ (H3.out.1.keptF hK4) (Blk.pfx hB4)
    have := H2.out.1.lt; have := H3.out.2.size; omega
  have H4 : Hid (Keeps (fun _ => False) w w4) := (H2.out.2.1.trans H3.out.2 (fun _ _ h => h)).trans hK4 (fun _ _ h => h)
  clear hK4 hgb hB4 HC4 HT
  go_wp2_with fail
  refine HC5.out.mono ?_
  rintro e w5 ⟨rfl, o5, v1, v2, hP5, hK5⟩
  have hc5 := hP5.c0
  obtain ⟨T, hT⟩ : ∃ T, textOf (pack (fixedB ts)) = T := ⟨_, rfl⟩
  have HTx : Hid (Calls Tryz.prog 24 #[.pointer (some ⟨b, 0, none⟩)] w5 fun e w' => e = .returned (.string T) ∧ w' = w5) := by
    have := Bt.text_ok b o5 _ w5 hP5.wr
    have e : bitsOf 1 1 ++ bitsOf 1 2 ++ (tksB fixLs fiveLs ts ++ codeB fixLs 256) = fixedB ts := by unfold fixedB; simp only [List.append_assoc]
    rw [e, hT] at this; exact this
  have H5 : Hid (StrPost T 0 w (.returned (.tuple #[.string T, .int .i64 0])) w5) := by
    refine ⟨rfl, H4.out.trans hK5 ?_⟩
    rintro k hk (e | e | e)
    · have := H2.out.2.2.1; omega
    · have := H2.out.2.2.2.1; omega
    · have := H2.out.2.2.2.2 k e; omega
  rw [hT] at HQ
  clear hP5 hK5 HC5 H2 H3 H4 hT
  go_wp2_with fail
  refine HTx.out.mono ?_
  rintro e w6 ⟨rfl, hw⟩
  obtain rfl := hw.symm
  clear hw HTx
  go_wp2
  show Q (.returned (.tuple #[.string T, .int .i64 0])) w5
  rw [← HQ.out]; exact H5.out

end Go.Proofs.YtdbfbijalhknnabGreat.Bk

namespace Go.Proofs.YtdbfbijalhknnabGreat.Bk
open Go.RowKit
open Hf Tb
open Mt (Tk RowT mayF sumZ expF)
set_option linter.unusedVariables false
set_option linter.unusedSimpArgs false

set_option maxHeartbeats 4000000 in
set_option maxRecDepth 100000 in
theorem dynamic_ok8 (a : Option Addr) (ts : List Tk) (cap : Nat) (w : World) (hR : RowT w a ts) (hm : mayT ts = true) :
    Calls Tryz.prog 13 #[.slice a ts.length cap] w (StrPost (textOf (pack (dynOf ts))) 0 w) := by
  obtain ⟨m1, m2, m3, m4⟩ := mayT_is hm
  obtain ⟨Q, hQ⟩ : ∃ Q, StrPost (textOf (pack (dynOf ts))) 0 w = Q := ⟨_, rfl⟩
  rw [hQ]
  have HQ : Hid (StrPost (textOf (pack (dynOf ts))) 0 w = Q) := hQ
  clear hQ
  have hD := dyn3_of ts (by omega)
  have HC := hide (mayBe_ok a ts cap w hR (by omega))
  rw [hm] at HC
  have HCo : Hid (∀ w1, Keeps (fun _ => False) w w1 → Calls Tryz.prog 37 #[.slice a ts.length cap] w1 (CouPost ts w1)) := fun w1 hk => count_ok a ts cap w1 (hR.kept hk (fun _ _ h => h)) m3 m4 ((RowT.low hR).imp id (fun ha x e => by have := ha x e; have := hk.size; omega))
  obtain ⟨SA, hSA⟩ : ∃ S, symsA ts ++ [256] = S := ⟨_, rfl⟩
  obtain ⟨SB, hSB⟩ : ∃ S, symsB ts = S := ⟨_, rfl⟩
  have hl1 : SA.length ≤ 100000 := by rw [← hSA]; simp [symsA]; omega
  have hl2 : SB.length ≤ 100000 := by rw [← hSB]; have := symsB_len ts; omega
  have HLA : Hid (∀ q w1, Ary 71 w1 q (cntL 286 SA ++ cntL 30 SB) → Calls Tryz.prog 38 #[.slice (some ⟨q, 0, none⟩) 286 286, .int .i64 15] w1 fun e w' => ∃ g, e = .returned (.tuple #[.slice (some ⟨g, 0, none⟩) 286 286, .int .i64 0]) ∧ Pfx w' g (lenA ts) ∧ Keeps (fun _ => False) w1 w' ∧ w1.heap.size ≤ g) := fun q w1 hA => by
    have := lens_ok (some ⟨q, 0, none⟩) 286 286 SA 15 w1 (.inr ⟨q, 0, rfl, hA.lt, fun i hi => by
      rw [cntL_length] at hi
      rw [Nat.zero_add, hA.cell i (by rw [List.length_append, cntL_length, cntL_length]; omega), List.getElem_append_left (by rw [cntL_length]; omega)]⟩) (by omega) (by omega) hl1 (by omega) (by omega) (by decide)
    unfold lenA; rw [hSA]; exact this
  have HLB : Hid (∀ q w1, Ary 71 w1 q (cntL 286 SA ++ cntL 30 SB) → Calls Tryz.prog 38 #[.slice (some ⟨q, 286, none⟩) 30 30, .int .i64 15] w1 fun e w' => ∃ g, e = .returned (.tuple #[.slice (some ⟨g, 0, none⟩) 30 30, .int .i64 0]) ∧ Pfx w' g (lenB ts) ∧ Keeps (fun _ => False) w1 w' ∧ w1.heap.size ≤ g) := fun q w1 hA => by
    have := lens_ok (some ⟨q, 286, none⟩) 30 30 SB 15 w1 (.inr ⟨q, 286, rfl, hA.lt, fun i hi => by
      rw [cntL_length] at hi
      rw [hA.cell (286 + i) (by rw [List.length_append, cntL_length, cntL_length]; omega), List.getElem_append_right (by rw [cntL_length]; omega)]
      simp only [cntL_length, Nat.add_sub_cancel_left]⟩) (by omega) (by omega) hl2 (by omega) (by omega) (by decide)
    unfold lenB; rw [hSB]; exact this
  have HCoS : Hid (∀ w1 e w', CouPost ts w1 e w' → ∃ q, e = .returned (.pointer (some ⟨q, 0, none⟩)) ∧ Ary 71 w' q (cntL 286 SA ++ cntL 30 SB) ∧ Keeps (fun _ => False) w1 w' ∧ w1.heap.size ≤ q) := fun w1 e w' h => by
    rw [← hSA, ← hSB]; exact h
  have HLn : Hid (∀ w1 p b o ga gb, Pg w1 p b o (bitsOf 1 1 ++ bitsOf 2 2) (.slice none 0 0) (.slice none 0 0) → Pfx w1 ga (lenA ts) → Pfx w1 gb (lenB ts) → Calls Tryz.prog 39 #[.pointer (some ⟨p, 0, none⟩), .slice (some ⟨ga, 0, none⟩) 286 286, .slice (some ⟨gb, 0, none⟩) 30 30] w1 fun e w' => e = .returned (.tuple #[]) ∧ PgOn w1 w' p b o (bitsOf 1 1 ++ bitsOf 2 2 ++ hdrB (lenA ts) (lenB ts) (lenC ts)) (.slice none 0 0) (.slice none 0 0)) := fun w1 p b o ga gb hp hA hB => lengthsP_ok hp ga gb (lenA ts) (lenB ts) (lenC ts) hA hB hD rfl (by simp [bitsOf_length])
  have hhl : (hdrB (lenA ts) (lenB ts) (lenC ts)).length ≤ 6000 := by
    have x1 := threeB_len (cutL (rowOf (lenC ts)) 4)
    have x2 := codesB_len hD.mC (cutL (lenA ts) 257 ++ cutL (lenB ts) 1)
    have x3 := upL_le (rowOf (lenC ts)) 4
    have x4 := upL_le (lenA ts) 257
    have x5 := upL_le (lenB ts) 1
    rw [rowOf_length] at x3
    rw [hD.lA] at x4
    rw [hD.lB] at x5
    rw [cutL_length] at x1
    rw [List.length_append, cutL_length, cutL_length] at x2
    unfold hdrB
    simp only [List.length_append, bitsOf_length]
    omega
  have HT : Hid (∀ w1 p b o ga gb v1 v2, RowT w1 a ts → Pg w1 p b o (bitsOf 1 1 ++ bitsOf 2 2 ++ hdrB (lenA ts) (lenB ts) (lenC ts)) v1 v2 → (ts = [] ∨ ∀ x, a = some x → x.block ≠ p ∧ x.block ≠ b ∧ o ≠ some x.block) → gb ≠ p → Pfx w1 ga (lenA ts) → Pfx w1 gb (lenB ts) → Calls Tryz.prog 29 #[.pointer (some ⟨p, 0, none⟩), .slice a ts.length cap, .slice (some ⟨ga, 0, none⟩) 286 286, .slice (some ⟨gb, 0, none⟩) 30 30] w1 (TokPost (lenA ts) (lenB ts) ts w1 p b o (bitsOf 1 1 ++ bitsOf 2 2 ++ hdrB (lenA ts) (lenB ts) (lenC ts)))) := fun w1 p b o ga gb v1 v2 hr hp hx hne hA hB =>
    tokensP_ok hp ga 286 286 gb 30 30 (lenA ts) (lenB ts) hA hB hD.lA hD.lB ⟨hD.mA, by rw [hD.rA]; exact Nat.le_refl _, hD.mB, by rcases hD.rB with e | e; rw [e]; exact Nat.le_refl _; rw [room_zero _ e]; decide⟩ hne a cap ts hr m3 m4 (fun t ht => by obtain ⟨c, hc⟩ := m4 t ht; exact hasT_of ts (by omega) t ht c hc) hD.eA (by rw [List.length_append]; simp only [List.length_append, bitsOf_length]; omega) hx
  have HR : Hid (RowT w a ts) := hR
  generalize ts.length = N at *
  clear hR hm m1 m2 m3 m4 hD hl1 hl2 hSA hSB hhl
  go_enter Tryz.func13, Tryz.ntmps13
  go_wp2_with fail
  refine HC.out.mono ?_
  rintro e w1 ⟨rfl, hK1⟩
  have HC1 := hide (HCo.out w1 hK1)
  have H1 := hide hK1
  clear hK1 HC HCo
  go_wp2_with fail
  refine HC1.out.mono ?_
  intro e w2 hP2
  obtain ⟨q, rfl, hA2, hK2, hq2⟩ := HCoS.out _ _ _ hP2
  have HC2 := hide (HLA.out q w2 hA2)
  have H2 : Hid (Ary 71 w2 q (cntL 286 SA ++ cntL 30 SB) ∧ Keeps (fun _ => False) w w2) := ⟨hA2, H1.out.trans hK2 (fun _ _ h => h)⟩
  clear hP2 hA2 hK2 hq2 HC1 HCoS HLA H1
  go_wp2_with fail
  refine HC2.out.mono ?_
  rintro e w3 ⟨ga, rfl, hP3, hK3, hg3⟩
  have HC3 := hide (HLB.out q w3 (H2.out.1.keptF hK3))
  have H3 : Hid (Pfx w3 ga (lenA ts) ∧ Keeps (fun _ => False) w w3) := ⟨hP3, H2.out.2.trans hK3 (fun _ _ h => h)⟩
  clear hP3 hK3 hg3 HC2 HLB H2
  go_wp2_with fail
  refine HC3.out.mono ?_
  rintro e w4 ⟨gb, rfl, hP4, hK4, hg4⟩
  have HC4 := hide (begin_ok 2 w4 (by omega))
  have H4 : Hid (Pfx w4 ga (lenA ts) ∧ Pfx w4 gb (lenB ts) ∧ Keeps (fun _ => False) w w4) := ⟨H3.out.1.keptF hK4, hP4, H3.out.2.trans hK4 (fun _ _ h => h)⟩
  clear hP4 hK4 hg4 HC3 H3
  go_wp2_with fail
  refine HC4.out.mono ?_
  rintro e w5 ⟨p, b, o, rfl, hP5, hK5, hp5, hb5, ho5⟩
  have HC5 := hide (HLn.out w5 p b o ga gb hP5 (H4.out.1.keptF hK5) (H4.out.2.1.keptF hK5))
  have H5 : Hid (Pfx w5 ga (lenA ts) ∧ Pfx w5 gb (lenB ts) ∧ Keeps (fun _ => False) w w5 ∧ w.heap.size ≤ w4.heap.size ∧ w4.heap.size ≤ p ∧ w4.heap.size ≤ b ∧ (∀ k, o = some k → w4.heap.size ≤ k) ∧ ga < w4.heap.size ∧ gb < w4.heap.size ∧ w4.heap.size ≤ w5.heap.size) := ⟨H4.out.1.keptF hK5, H4.out.2.1.keptF hK5, H4.out.2.2.trans hK5 (fun _ _ h => h), H4.out.2.2.size, hp5, hb5, ho5, H4.out.1.1, H4.out.2.1.1, hK5.size⟩
  clear hP5 hK5 hp5 hb5 ho5 HC4 HLn H4
  go_wp2_with fail
  refine HC5.out.mono ?_
  rintro e w6 ⟨rfl, o6, hP6, ho6, hK6⟩
  have HC6 : Hid (Calls Tryz.prog 29 #[.pointer (some ⟨p, 0, none⟩), .slice a N cap, .slice (some ⟨ga, 0, none⟩) 286 286, .slice (some ⟨gb, 0, none⟩) 30 30] w6 (TokPost (lenA ts) (lenB ts) ts w6 p b o6 (bitsOf 1 1 ++ bitsOf 2 2 ++ hdrB (lenA ts) (lenB ts) (lenC ts)))) := by
    obtain ⟨z1, z2, z3, z4, z5, z6, z7, z8, z9, z10⟩ := H5.out
    have kw : Keeps (fun _ => False) w w6 := z3.trans hK6 (fun i hi e => by
      rcases e with e | e
      · omega
      · have := z7 _ e; omega)
    have nk : ∀ k, k < w4.heap.size → ¬ (k = b ∨ o = some k) := fun k hk e => by
      rcases e with e | e
      · omega
      · have := z7 _ e; omega
    refine HT.out w6 p b o6 ga gb _ _ (HR.out.kept kw (fun _ _ h => h)) hP6 ((RowT.low HR.out).imp id (fun ha x e => ?_)) (by omega) (z1.kept hK6 (nk ga z8)) (z2.kept hK6 (nk gb z9))
    have := ha x e
    refine ⟨by omega, by omega, fun e2 => ?_⟩
    rcases ho6 with e3 | ⟨g, e3, e4⟩
    · rw [e3] at e2; have := z7 _ e2; omega
    · rw [e3] at e2; cases e2; omega
  have H6 : Hid (Keeps (fun _ => False) w w6 ∧ (∀ k, o6 = some k → w.heap.size ≤ k) ∧ w.heap.size ≤ p ∧ w.heap.size ≤ b) := by
    obtain ⟨z1, z2, z3, z4, z5, z6, z7, z8, z9, z10⟩ := H5.out
    refine ⟨z3.trans hK6 (fun i hi e => by
      rcases e with e | e
      · omega
      · have := z7 _ e; omega), fun k e => ?_, by omega, by omega⟩
    rcases ho6 with e3 | ⟨g, e3, e4⟩
    · rw [e3] at e; have := z7 _ e; omega
    · rw [e3] at e; cases e; omega
  clear hP6 ho6 hK6 HC5 H5 HT HR
  go_wp2_with fail
  refine HC6.out.mono ?_
  rintro e w7 ⟨rfl, o7, v1, v2, hP7, hK7⟩
  have hc7 := hP7.c0
  obtain ⟨T, hT⟩ : ∃ T, textOf (pack (dynOf ts)) = T := ⟨_, rfl⟩
  have HTx : Hid (Calls Tryz.prog 24 #[.pointer (some ⟨b, 0, none⟩)] w7 fun e w' => e = .returned (.string T) ∧ w' = w7) := by
    have := Bt.text_ok b o7 _ w7 hP7.wr
    have e : bitsOf 1 1 ++ bitsOf 2 2 ++ hdrB (lenA ts) (lenB ts) (lenC ts) ++ (tksB (lenA ts) (lenB ts) ts ++ codeB (lenA ts) 256) = dynOf ts := by unfold dynOf dynB; simp only [List.append_assoc]
    rw [e, hT] at this; exact this
  have H7 : Hid (StrPost T 0 w (.returned (.tuple #[.string T, .int .i64 0])) w7) := by
    refine ⟨rfl, H6.out.1.trans hK7 ?_⟩
    rintro k hk (e | e | e)
    · have := H6.out.2.2.1; omega
    · have := H6.out.2.2.2; omega
    · have := H6.out.2.1 k e; omega
  rw [hT] at HQ
  clear hP7 hK7 HC6 H6 hT
  go_wp2_with fail
  refine HTx.out.mono ?_
  rintro e w8 ⟨rfl, hw⟩
  obtain rfl := hw.symm
  clear hw HTx
  go_wp2
  show Q (.returned (.tuple #[.string T, .int .i64 0])) w7
  rw [← HQ.out]; exact H7.out

end Go.Proofs.YtdbfbijalhknnabGreat.Bk

namespace Go.Proofs.YtdbfbijalhknnabGreat.Bk
open Go.RowKit
open Hf Tb
set_option linter.unusedVariables false
set_option linter.unusedSimpArgs false

set_option maxHeartbeats 1000000 in
set_option maxRecDepth 100000 in
theorem stored_bad8 (s : ByteArray) (w : World) (hs : ¬ s.size ≤ 300) (hb : s.size ≤ 281474976710656) :
    Calls Tryz.prog 9 #[.string s] w (StrPost ⟨#[]⟩ 800 w) := by
  have hz : 300 < (s.size : Int) := by omega
  go_enter Tryz.func9, Tryz.ntmps9
  go_wp2
  go_ret2
  exact ⟨rfl, Keeps.refl _ w⟩
theorem align_head : Bt.alignOf (bitsOf 1 1 ++ bitsOf 0 2) = bitsOf 1 8 := by decide

set_option maxHeartbeats 4000000 in
set_option maxRecDepth 100000 in
theorem stored_ok8 (s : ByteArray) (w : World) (hs : s.size ≤ 300) :
    Calls Tryz.prog 9 #[.string s] w (StrPost (textOf (pack (storeB (bytesOf s)))) 0 w) := by
  obtain ⟨T, hT⟩ : ∃ T, textOf (pack (storeB (bytesOf s))) = T := ⟨_, rfl⟩
  rw [hT]
  have HT : Hid (textOf (pack (storeB (bytesOf s))) = T) := hT
  clear hT
  have hz : ¬ 300 < (s.size : Int) := by omega
  have HBg := hide (begin_ok 0 w (by omega))
  have hxo := xor_ones s.size (by omega)
  have hsz : (s.size : Int) ≤ 300 := by omega
  go_enter Tryz.func9, Tryz.ntmps9
  go_wp2_with fail
  refine HBg.out.mono ?_
  rintro e w1 ⟨p, b, o, rfl, hP1, hK1, hp1, hb1, ho1⟩
  have hc1 := hP1.c0
  have HA1 : Hid (Calls Tryz.prog 22 #[.pointer (some ⟨b, 0, none⟩)] w1 fun e w' => e = .returned (.int .i64 0) ∧ PgOn w1 w' p b o (bitsOf 1 8) (.slice none 0 0) (.slice none 0 0)) := by
    refine (Bt.walign_ok b o _ w1 (by simp [bitsOf_length]) hP1.wr).mono ?_
    rintro e w' ⟨rfl, hO⟩
    rw [align_head] at hO
    exact ⟨rfl, hP1.onto hO⟩
  have H1 : Hid (Pg w1 p b o (bitsOf 1 1 ++ bitsOf 0 2) (.slice none 0 0) (.slice none 0 0) ∧ Keeps (fun _ => False) w w1 ∧ w.heap.size ≤ p ∧ w.heap.size ≤ b ∧ (∀ k, o = some k → w.heap.size ≤ k)) := ⟨hP1, hK1, hp1, hb1, ho1⟩
  clear hP1 hK1 hp1 hb1 ho1 HBg
  go_wp2_with fail
  refine HA1.out.mono ?_
  rintro e w2 ⟨rfl, o2, hP2, ho2, hK2⟩
  have hc2 := hP2.c0
  have H2 : Hid (Since w1 w2 p b o o2 (bitsOf 1 8) (.slice none 0 0) (.slice none 0 0)) := ⟨hP2, ho2, hK2⟩
  have HP2 : Hid (Calls Tryz.prog 23 #[.pointer (some ⟨b, 0, none⟩), .int .i64 (s.size : Int), .int .i64 16] w2 fun e w' => e = .returned (.int .i64 0) ∧ PgOn w2 w' p b o2 (bitsOf 1 8 ++ bitsOf s.size 16) (.slice none 0 0) (.slice none 0 0)) := hP2.put s.size 16 (by omega) (by omega) (by simp [bitsOf_length])
  clear hP2 ho2 hK2 HA1 hc1
  go_wp2_with fail
  refine HP2.out.mono ?_
  rintro e w3 ⟨rfl, hO3⟩
  obtain ⟨o3, hS3⟩ := H2.out.step hO3
  have hc3 := hS3.pg.c0
  have HP3 : Hid (Calls Tryz.prog 23 #[.pointer (some ⟨b, 0, none⟩), .int .i64 ((65535 - s.size : Nat) : Int), .int .i64 16] w3 fun e w' => e = .returned (.int .i64 0) ∧ PgOn w3 w' p b o3 (bitsOf 1 8 ++ bitsOf s.size 16 ++ bitsOf (65535 - s.size) 16) (.slice none 0 0) (.slice none 0 0)) := hS3.pg.put (65535 - s.size) 16 (by omega) (by omega) (by simp [bitsOf_length])
  have H3 := hide hS3
  clear hS3 hO3 HP2 H2 hc2
  go_wp2_with fail
  refine HP3.out.mono ?_
  rintro e w4 ⟨rfl, hO4⟩
  obtain ⟨o4, hS4⟩ := H3.out.step hO4
  obtain ⟨L4, hL4⟩ : ∃ L4, bitsOf 1 8 ++ bitsOf s.size 16 ++ bitsOf (65535 - s.size) 16 = L4 := ⟨_, rfl⟩
  rw [hL4] at hS4
  have HL4 : Hid (L4.length = 40 ∧ L4 ++ bitsL (bytesOf s) = storeB (bytesOf s)) := by
    refine ⟨by rw [← hL4]; simp [bitsOf_length], ?_⟩
    rw [← hL4]; unfold storeB; rw [bytesOf_length]; simp only [List.append_assoc]
  have H4 : Hid (∃ o', Since w1 w4 p b o o' (L4 ++ bitsL ((bytesOf s).take 0)) (.slice none 0 0) (.slice none 0 0)) := ⟨o4, by rw [List.take_zero, bitsL_nil, List.append_nil]; exact hS4⟩
  clear hS4 hO4 HP3 H3 hL4 hc3 hxo
  go_wp2_with fail
  go_loopw [32] (fun s32 w' => ∃ i : Nat, i ≤ s.size ∧ s32 = .int .i64 (i : Int) ∧ Hid (∃ o', Since w1 w' p b o o' (L4 ++ bitsL ((bytesOf s).take i)) (.slice none 0 0) (.slice none 0 0))) (fun s32 w' => ((s.size : Int) - intOf s32).toNat)
  case atStart => exact ⟨0, by omega, rfl, H4⟩
  case round =>
    clear H4
    obtain ⟨i, hi, rfl, HW⟩ := hrel
    by_cases hin : i < s.size
    · have hiz : (i : Int) < (s.size : Int) := by omega
      obtain ⟨o', hS⟩ := HW.out
      have hpc := hS.pg.c0
      obtain ⟨c, hc⟩ : ∃ c, s[i].toNat = c := ⟨_, rfl⟩
      have hc256 : c < 256 := by rw [← hc]; exact s[i].toNat_lt
      have hll : (bitsL ((bytesOf s).take i)).length ≤ 2400 := by rw [bitsL_len, List.length_take]; omega
      have HPt : Hid (Calls Tryz.prog 23 #[.pointer (some ⟨b, 0, none⟩), .int .i64 (IntKind.i64.wrap (s[i].toNat : Int)), .int .i64 8] wr.drew fun e w' => e = .returned (.int .i64 0) ∧ PgOn wr.drew w' p b o' (L4 ++ bitsL ((bytesOf s).take i) ++ bitsOf s[i].toNat 8) (.slice none 0 0) (.slice none 0 0)) := by
        have e : IntKind.i64.wrap (s[i].toNat : Int) = (s[i].toNat : Int) := wrap_i64_small _ (by omega) (by omega)
        rw [e]
        exact hS.drew.pg.put s[i].toNat 8 (by omega) (by omega) (by have := HL4.out.1; rw [List.length_append]; omega)
      have HTk : Hid (L4 ++ bitsL ((bytesOf s).take i) ++ bitsOf s[i].toNat 8 = L4 ++ bitsL ((bytesOf s).take (i + 1))) := by
        show _ = _
        have hbl : i < (bytesOf s).length := by rw [bytesOf_length]; exact hin
        have e1 : (bytesOf s)[i]? = some c := by
          have := bytesOf_get s i hin
          rw [List.getD, List.getElem?_eq_getElem hbl] at this
          rw [List.getElem?_eq_getElem hbl]
          simp only [Option.getD_some] at this
          rw [this, hc]
        rw [List.take_add_one, e1, bitsL_append, List.append_assoc, show (some c).toList = [c] from rfl, bitsL_one, hc]
      have HS := hide hS.drew
      clear hS HW hll hc hc256
      go_wp2_with fail
      go_region_held3 (fun w' => w'.cell? ⟨p, 0, none⟩ = some (.pointer (some ⟨b, 0, none⟩))) (go_keep)
        ((go_at_call 23; refine HPt.out.mono ?_; rintro e w5 ⟨rfl, hO5⟩; have HW2 : Hid (∃ o', Since w1 w5 p b o o' (L4 ++ bitsL ((bytesOf s).take (i + 1))) (.slice none 0 0) (.slice none 0 0)) := (by rw [HTk.out] at hO5; exact HS.out.step hO5); have hS5 : w5.cell? ⟨p, 0, none⟩ = some (.pointer (some ⟨b, 0, none⟩)) := (by obtain ⟨o3, hh⟩ := HW2.out; exact hh.pg.c0); clear hO5))
      clear HPt HS HTk hS5 hpc
      go_wp2
      go_roundw
      case rel => exact ⟨i + 1, by omega, by push_cast; rfl, HW2⟩
      case measure => simp [intOf]; omega
    · obtain rfl : i = s.size := by omega
      obtain ⟨o', hS⟩ := HW.out
      have et : (bytesOf s).take s.size = bytesOf s := List.take_of_length_le (by rw [bytesOf_length]; omega)
      rw [et] at hS
      have hpc := hS.pg.c0
      have HTx : Hid (Calls Tryz.prog 24 #[.pointer (some ⟨b, 0, none⟩)] wr fun e w' => e = .returned (.string T) ∧ w' = wr) := by
        have := Bt.text_ok b o' _ wr hS.pg.wr
        rw [HL4.out.2, HT.out] at this; exact this
      have HF : Hid (Keeps (fun _ => False) w wr) := by
        obtain ⟨z1, z2, z3, z4, z5⟩ := H1.out
        exact z2.trans hS.keep (fun k hk e => by
          rcases e with e | e
          · omega
          · have := z5 _ e; omega)
      clear hS HW et H1 HL4 HT
      go_wp2_with fail
      refine HTx.out.mono ?_
      rintro e w6 ⟨rfl, hw⟩
      obtain rfl := hw.symm
      clear hw HTx
      go_wp2
      go_ret2
      exact ⟨rfl, HF.out⟩

end Go.Proofs.YtdbfbijalhknnabGreat.Bk

namespace Go.Proofs.YtdbfbijalhknnabGreat
open Go.RowKit
open Hf Tb
set_option linter.unusedVariables false
set_option linter.unusedSimpArgs false

/-! ### The row of the lengths' lengths -/
theorem rowL_pos : ∀ i : Fin 19, ∀ j : Fin 19, (rowL.getD i.val 0 = j.val ↔ posR j.val = i.val) := by decide +kernel
theorem rowL_lt : ∀ i : Fin 19, rowL.getD i.val 0 < 19 := by decide +kernel
theorem clOf_length (t : List Int) : (clOf t).length = 19 := by simp [clOf]
theorem clOf_get (t : List Int) (j : Nat) (h : j < 19) : (clOf t)[j]? = some (t.getD (posR j) 0) := by
  simp [clOf, List.getElem?_map, List.getElem?_range h]
theorem clOf_set (acc : List Int) (x : Int) (h : acc.length < 19) : (clOf acc).set (rowL.getD acc.length 0) x = clOf (acc ++ [x]) := by
  apply List.ext_getElem?
  intro j
  have hr := rowL_lt ⟨acc.length, h⟩
  simp only at hr
  by_cases hj : j < 19
  · have hp := rowL_pos ⟨acc.length, h⟩ ⟨j, hj⟩
    simp only at hp
    rw [clOf_get _ j hj, List.getElem?_set]
    by_cases e : rowL.getD acc.length 0 = j
    · rw [if_pos e, clOf_length, if_pos hr, hp.1 e]
      simp [List.getD]
    · rw [if_neg e, clOf_get _ j hj]
      have hne : posR j ≠ acc.length := fun k => e (hp.2 k)
      congr 1
      simp only [List.getD, List.getElem?_append]
      by_cases hlt : posR j < acc.length
      · rw [if_pos hlt]
      · rw [if_neg hlt, List.getElem?_eq_none (by omega), List.getElem?_eq_none (by simp; omega)]
  · rw [List.getElem?_eq_none (by rw [List.length_set, clOf_length]; omega), List.getElem?_eq_none (by rw [clOf_length]; omega)]
theorem clOf_nil : clOf [] = List.replicate 19 0 := by decide
theorem Blk.set {w : World} {g : Nat} {xs : List Int} (h : Blk w g xs) (i : Nat) (y : Int) : Blk (w.setCell ⟨g, i, none⟩ (.int .i64 y)) g (xs.set i y) := by
  unfold Blk
  rw [heap_setCell_same h]
  congr 2
  simp [intsV, List.map_set]

/-- The codes of the lengths. -/
def lfP : Bts → Option (List Int × Bts) := bnd (aboveL 4 4) fun c => bnd (threes c []) fun t => if errC (clOf t) = 0 then retL (clOf t) else noL
def lfT (R : Option (List Int × Bts)) : Option (List Int × Bts) := match R with
  | none => none
  | some (t, L2) => if errC (clOf t) = 0 then some (clOf t, L2) else none
theorem lfP_of {L L1 : Bts} {c : Nat} (h1 : aboveL 4 4 L = some (c, L1)) : lfP L = lfT (threes c [] L1) := by
  unfold lfP
  rw [bnd_eq h1]
  rcases h2 : threes c [] L1 with _ | ⟨t, L2⟩
  · rw [bnd_none h2]; rfl
  · rw [bnd_eq h2]; unfold lfT; simp only
    split <;> rfl
theorem lfP_dyn (a b : Nat) (L : Bts) : bnd (aboveL 4 4) (fun c => bnd (threes c []) fun t => dynC a b t) L = bnd lfP (fun ys => bnd (runs ys (a + b) []) fun all => dynP a all) L := by
  rcases h1 : aboveL 4 4 L with _ | ⟨c, L1⟩
  · have e : lfP L = none := by unfold lfP; exact bnd_none h1
    rw [bnd_none h1, bnd_none e]
  · have e := lfP_of h1
    rw [bnd_eq h1]
    rcases h2 : threes c [] L1 with _ | ⟨t, L2⟩
    · rw [h2] at e
      rw [bnd_none h2, bnd_none e]
    · rw [h2] at e
      rw [bnd_eq h2]
      unfold dynC
      unfold lfT at e
      by_cases he : errC (clOf t) = 0
      · simp only [if_pos he] at e
        rw [if_pos he, bnd_eq e]
      · simp only [if_neg he] at e
        rw [if_neg he, bnd_none e]; rfl
theorem threes_le : ∀ (n : Nat) (acc : List Int) (L : Bts) (t : List Int) (L' : Bts), threes n acc L = some (t, L') → t.length = n + acc.length := fun n acc L t L' h => (threes_len n acc L t L' h).2

def FinPost (R : Option (List Int × Bts)) (w : World) (b r : Nat) (v : Value) (s : ByteArray) (most : Nat) (xs : List Nat) (e : Ending) (w' : World) : Prop :=
  (R = none → e = .returned (.tuple #[.pointer none, .int .i64 700]) ∧ Keeps (Own3 b r v) w w') ∧
  ∀ ys L', R = some (ys, L') → ∃ f, e = .returned (.tuple #[.pointer (some ⟨f, 0, none⟩), .int .i64 0]) ∧ Fnd w' w.heap.size w'.heap.size f ys ∧ St w' b r v s most L' xs ∧ Rdv w w' b r v
theorem FinPost.noneI {w : World} {b r : Nat} {v : Value} {s : ByteArray} {most : Nat} {xs : List Nat} {w' : World} (h : Keeps (Own3 b r v) w w') : FinPost none w b r v s most xs (.returned (.tuple #[.pointer none, .int .i64 700])) w' :=
  ⟨fun _ => ⟨rfl, h⟩, fun _ _ e => by cases e⟩

set_option maxHeartbeats 4000000 in
set_option maxRecDepth 100000 in
theorem lengthFinder_ok {w : World} {b r : Nat} {v : Value} {s : ByteArray} {most : Nat} {L : Bts} {xs : List Nat} (h : St w b r v s most L xs) :
    Calls Tryz.prog 144 #[.pointer (some ⟨b, 0, none⟩)] w (FinPost (lfP L) w b r v s most xs) := by
  obtain ⟨R, hR⟩ : ∃ R, lfP L = R := ⟨_, rfl⟩
  rw [hR]
  have HS0 : Hid (St w b r v s most L xs) := h
  rcases h1 : aboveL 4 4 L with _ | ⟨c, L1⟩
  · have e : R = none := by rw [← hR]; unfold lfP; exact bnd_none h1
    subst e
    have HC : Hid (Calls Tryz.prog 143 #[.pointer (some ⟨b, 0, none⟩), .int .i64 4, .int .i64 4] w fun e w' => e = .returned (.tuple #[.int .i64 0, .int .i64 700]) ∧ Keeps (Own3 b r v) w w') := above_none h 4 4 (by omega) h1
    clear h h1 hR
    go_enter Tryz.func144, Tryz.ntmps144
    go_wp2_with fail
    refine HC.out.mono ?_
    rintro e w2 ⟨rfl, hk⟩
    have HK : Hid (Keeps (Own3 b r v) w w2) := hk
    clear hk HC
    go_wp2
    go_ret2
    exact FinPost.noneI HK.out
  · have HC : Hid (Calls Tryz.prog 143 #[.pointer (some ⟨b, 0, none⟩), .int .i64 4, .int .i64 4] w fun e w' => e = .returned (.tuple #[.int .i64 (c : Int), .int .i64 0]) ∧ St w' b r v s most L1 xs ∧ Rdv w w' b r v) := above_some h 4 4 c L1 (by omega) (by omega) h1
    have hc : c ≤ 19 := by
      obtain ⟨q, hq, rfl⟩ := aboveL_some h1
      have h2 := getL_lt hq
      omega
    obtain ⟨R3, hR3⟩ : ∃ R3, threes c [] L1 = R3 := ⟨_, rfl⟩
    have HR : Hid (R = lfT R3) := by show R = _; rw [← hR, ← hR3]; exact lfP_of h1
    have HR3 : Hid (threes c [] L1 = R3) := hR3
    clear h h1 hR hR3
    go_enter Tryz.func144, Tryz.ntmps144
    go_wp2_with fail
    refine HC.out.mono ?_
    rintro e w2 ⟨rfl, hS2, hA2⟩
    have H2 : Hid (St w2 b r v s most L1 xs ∧ Rdv w w2 b r v) := ⟨hS2, hA2⟩
    clear hS2 hA2 HC
    have HCr : Hid (∀ w, Calls Tryz.prog 105 #[] w fun e w' => e = .returned (.agg (intsV rowZ).toArray) ∧ Keeps (fun _ => False) w w') := row_ok
    go_wp2_with fail
    refine (HCr.out w2).mono ?_
    rintro e w2a ⟨rfl, hKa⟩
    go_wp2_with (first
      | (refine wpList_alloc19 rfl rfl ?_; intro q w2b hAb hKb hqb)
      | (refine wpList_store19 rfl _ _ rfl q rowZ rfl rfl rfl (List.replicate 19 0) (by decide) ?hA ?_; (case hA => assumption); intro w2c hAc hKc)
      | (refine wpList_zeros rfl _ _ rfl 19 rfl rfl (by omega) ?_; intro g w3 hB3 hK3 hg3))
    have HQ : Hid (w.heap.size ≤ q ∧ q ≠ g) := ⟨by have := H2.out.2.only.size; have := hKa.size; omega, by have := hAc.lt; omega⟩
    have H3 : Hid (∃ acc L4, acc.length = 0 ∧ threes (c - 0) acc L4 = R3 ∧ St w3 b r v s most L4 xs ∧ Rdv w w3 b r v ∧ Blk w3 g (clOf acc) ∧ w.heap.size ≤ g ∧ Ary 144 w3 q rowZ) := by
      have k2c : Keeps (fun _ => False) w2 w2c := (hKa.trans hKb (fun _ _ h => h)).trans hKc (fun i hi e => by have := hKa.size; omega)
      have k23 : Keeps (fun _ => False) w2 w3 := k2c.trans hK3 (fun _ _ h => h)
      refine ⟨[], L1, rfl, HR3.out, H2.out.1.keptF k23, H2.out.2.trans (Rdv.ofF b r v k23), by rw [clOf_nil]; exact hB3, by have := H2.out.2.only.size; have := k2c.size; omega, hAc.keptF hK3⟩
    clear hB3 hK3 hg3 H2 HR3 hKa hAb hKb hqb hAc hKc HCr
    go_loopw [20] (fun s18 w' => ∃ i : Nat, i ≤ c ∧ s18 = .int .i64 (i : Int) ∧ Hid (∃ acc L4, acc.length = i ∧ threes (c - i) acc L4 = R3 ∧ St w' b r v s most L4 xs ∧ Rdv w w' b r v ∧ Blk w' g (clOf acc) ∧ w.heap.size ≤ g ∧ Ary 144 w' q rowZ)) (fun s18 _ => ((c : Int) - intOf s18).toNat)
    case atStart => exact ⟨0, by omega, rfl, H3⟩
    case round =>
      clear H3
      obtain ⟨i, hi, rfl, HW⟩ := hrel
      by_cases hic : i < c
      · have hiz : (i : Int) < (c : Int) := by omega
        have hi19 : (i : Int) < 19 := by omega
        obtain ⟨acc, L4, hlen, hE, hS, hA, hB, hg, hQ⟩ := HW.out
        clear HW
        obtain ⟨j, hj⟩ : ∃ j, rowL.getD i 0 = j := ⟨_, rfl⟩
        have hj19 : j < 19 := by rw [← hj]; exact rowL_lt ⟨i, by omega⟩
        have hjz : (j : Int) < 19 := by omega
        have hE2 : bnd (getL 3) (fun x => threes (c - (i + 1)) (acc ++ [(x : Int)])) L4 = R3 := by
          rw [show c - i = (c - (i + 1)) + 1 by omega] at hE; exact hE
        have hS1 : St wr.drew b r v s most L4 xs := ⟨hS.blk, hS.rd, hS.own, hS.rb, hS.sz, hS.lim, hS.most, hS.byt⟩
        have hrow : wr.cell? ⟨q, i, none⟩ = some (.int .i64 (j : Int)) := by
          have h19 : i < rowZ.length := by show i < 19; omega
          have e := rowZ_get ⟨i, h19⟩
          simp only at e
          rw [List.getElem?_eq_getElem h19] at e
          rw [hQ.cell i h19, Option.some.inj e, hj]
        have hql : q < wr.heap.size := hQ.lt
        have hgr : g ≠ r := by have := HS0.out.rb; have := HS0.out.lt; omega
        have hr0 : q ≠ r := by have := HS0.out.rb; have := HS0.out.lt; have := HQ.out; omega
        have hqn : ¬ Own3 b r v q := fun e => by have := HS0.out.above3 q e; have := HQ.out; omega
        rcases h4 : getL 3 L4 with _ | ⟨x, L5⟩
        · have e : R3 = none := by rw [← hE2, bnd_none h4]
          have e2 : R = none := by rw [HR.out, e]; rfl
          subst e2
          have HC : Hid (Calls Tryz.prog 85 #[.pointer (some ⟨b, 0, none⟩), .int .i64 3] wr.drew fun e w' => e = .returned (.tuple #[.int .i64 0, .int .i64 700]) ∧ w'.cell? ⟨q, i, none⟩ = some (.int .i64 (j : Int)) ∧ (∃ u, w'.cell? ⟨g, j, none⟩ = some u) ∧ w'.frozen? ⟨g, j, none⟩ = false ∧ Keeps (Own3 b r v) w w') := by
            refine (number_none hS1 3 (by omega) h4).mono ?_
            rintro e w' ⟨rfl, hk⟩
            have hgl : g < wr.drew.heap.size := hB.lt
            have hn : ¬ Own3 b r v g := fun e => by have := HS0.out.above3 g e; omega
            refine ⟨rfl, ?_, ?_, ?_, (⟨hA.only.drew⟩ : Rdv w wr.drew b r v).lost hk⟩
            · rw [World.cell?_of_block (hk.block q hql hqn)]; exact hrow
            · rw [World.cell?_of_block (hk.block g hgl hn)]; exact ⟨_, hB.cell j (by rw [clOf_length]; exact hj19)⟩
            · rw [World.frozen?_of_block (hk.block g hgl hn)]; exact hB.free j
          clear hE hE2 hS hA hB hS1 hlen h4 e HR hQ
          go_wp2
          go_region_with (go_at_call 85; refine HC.out.mono ?_; rintro e w5 ⟨rfl, d1, ⟨u, d2⟩, d3, hk5⟩; have H5 : Hid (Keeps (Own3 b r v) w w5) := hk5; clear hk5)
          all_goals
            go_wp2
            go_ret2
            exact FinPost.noneI (H5.out.setCell (p := ⟨g, j, none⟩) (fun hh => by simp only at hh; omega) _)
        · have HC : Hid (Calls Tryz.prog 85 #[.pointer (some ⟨b, 0, none⟩), .int .i64 3] wr.drew fun e w' => e = .returned (.tuple #[.int .i64 (x : Int), .int .i64 0]) ∧ w'.cell? ⟨q, i, none⟩ = some (.int .i64 (j : Int)) ∧ (∃ u, w'.cell? ⟨g, j, none⟩ = some u) ∧ w'.frozen? ⟨g, j, none⟩ = false ∧ ∃ acc L4, acc.length = i + 1 ∧ threes (c - (i + 1)) acc L4 = R3 ∧ St (w'.setCell ⟨g, j, none⟩ (.int .i64 (x : Int))) b r v s most L4 xs ∧ Rdv w (w'.setCell ⟨g, j, none⟩ (.int .i64 (x : Int))) b r v ∧ Blk (w'.setCell ⟨g, j, none⟩ (.int .i64 (x : Int))) g (clOf acc) ∧ w.heap.size ≤ g ∧ Ary 144 (w'.setCell ⟨g, j, none⟩ (.int .i64 (x : Int))) q rowZ) := by
            refine (number_some hS1 3 x L5 (by omega) h4).mono ?_
            rintro e w' ⟨rfl, hS6, hk⟩
            have hgl : g < wr.drew.heap.size := hB.lt
            have hB6 : Blk w' g (clOf acc) := hB.kept (S := fun k => k = r) (⟨hk.only.os, hk.only.tape, hk.only.output, hk.only.size, hk.only.block⟩ : Keeps (fun k => k = r) wr w') hgr
            have hk7 : Keeps (fun k => k = g) w' (w'.setCell ⟨g, j, none⟩ (.int .i64 (x : Int))) := (Keeps.refl (fun k => k = g) w').setCell (p := ⟨g, j, none⟩) (fun _ => rfl) _
            have hR7 : Rdv w (w'.setCell ⟨g, j, none⟩ (.int .i64 (x : Int))) b r v := ⟨((hA.only.drew).trans hk.only (fun _ _ e => e)).trans hk7 (fun k hh e => by omega)⟩
            obtain ⟨p, p1, p2, p3⟩ := hS6.rd
            have hS7 := (HS0.out.read (p := p) ⟨p1.kept hk7 (fun e => hgr e.symm), hR7.only⟩ p2).1
            rw [← p3] at hS7
            refine ⟨rfl, ?_, ?_, ?_, acc ++ [(x : Int)], L5, by simp [hlen], by rw [← hE2, bnd_eq h4], hS7, hR7, ?_, hg, (hQ.kept (S := fun k => k = r) (⟨hk.only.os, hk.only.tape, hk.only.output, hk.only.size, hk.only.block⟩ : Keeps (fun k => k = r) wr w') hr0).kept hk7 HQ.out.2⟩
            · rw [World.cell?_of_block (hk.only.block q hql hr0)]; exact hrow
            · exact ⟨_, hB6.cell j (by rw [clOf_length]; exact hj19)⟩
            · exact hB6.free j
            · rw [← clOf_set acc (x : Int) (by omega), hlen, hj]
              exact Blk.set hB6 j (x : Int)
          clear hE hE2 hS hA hB hS1 hlen h4 hQ
          go_wp2
          go_region_with (go_at_call 85; refine HC.out.mono ?_; rintro e w5 ⟨rfl, d1, ⟨u, d2⟩, d3, hk5⟩; have H5 : Hid (∃ acc L4, acc.length = i + 1 ∧ threes (c - (i + 1)) acc L4 = R3 ∧ St (w5.setCell ⟨g, j, none⟩ (.int .i64 (x : Int))) b r v s most L4 xs ∧ Rdv w (w5.setCell ⟨g, j, none⟩ (.int .i64 (x : Int))) b r v ∧ Blk (w5.setCell ⟨g, j, none⟩ (.int .i64 (x : Int))) g (clOf acc) ∧ w.heap.size ≤ g ∧ Ary 144 (w5.setCell ⟨g, j, none⟩ (.int .i64 (x : Int))) q rowZ) := hk5; clear hk5)
          all_goals
            clear HC hrow d1 d2 d3
            go_wp2
            go_roundw
            case rel => exact ⟨i + 1, by omega, by push_cast; rfl, H5⟩
            case measure => simp [intOf]; omega
      · obtain rfl : i = c := by omega
        obtain ⟨acc, L4, hlen, hE, hS, hA, hB, hg, hQ⟩ := HW.out
        rw [Nat.sub_self] at hE
        have e3 : R3 = some (acc, L4) := hE.symm
        have HR2 : Hid (R = if errC (clOf acc) = 0 then some (clOf acc, L4) else none) := by rw [HR.out, e3]; exact rfl
        have hrow : Row wr (some ⟨g, 0, none⟩) (clOf acc) := .inr ⟨g, 0, rfl, hB.lt, fun q hq => by rw [Nat.zero_add]; exact hB.cell q hq⟩
        have HC1 : Hid (Calls Tryz.prog 149 #[.slice (some ⟨g, 0, none⟩) 19 19] wr fun e w' => e = .returned (.int .i64 (errC (clOf acc))) ∧ Keeps (fun _ => False) wr w') := by
          have := check_ok (some ⟨g, 0, none⟩) (clOf acc) 19 wr hrow (by rw [clOf_length]; omega)
          rw [clOf_length] at this; exact this
        have HC2 : Hid (fits (clOf acc) = true → ∀ w', Keeps (fun _ => False) wr w' → Calls Tryz.prog 142 #[.slice (some ⟨g, 0, none⟩) 19 19] w' fun e w'' => ∃ f, e = .returned (.pointer (some ⟨f, 0, none⟩)) ∧ Keeps (fun _ => False) w' w'' ∧ Fnd w'' w'.heap.size w''.heap.size f (clOf acc)) := fun hf w' hk => by
          have := finderOf_ok (some ⟨g, 0, none⟩) (clOf acc) 19 w' (hrow.keptF hk) hf
          rw [clOf_length] at this; exact this
        have HF : Hid (errC (clOf acc) = 0 → fits (clOf acc) = true) := fun e => by
          have := errC_zero e
          unfold fits; rw [this.1, this.2]; rfl
        have HS : Hid (St wr b r v s most L4 xs ∧ Rdv w wr b r v) := ⟨hS, hA⟩
        clear HW hlen hE hS hA hB hg e3 HR hrow hQ HQ
        obtain ⟨er, her⟩ : ∃ er, errC (clOf acc) = er := ⟨_, rfl⟩
        rw [her] at HR2 HC1 HF
        generalize clOf acc = ys at *
        clear her
        go_wp2_with fail
        refine HC1.out.mono ?_
        rintro e w4 ⟨rfl, hK4⟩
        have HK4 : Hid (Keeps (fun _ => False) wr w4) := hK4
        clear hK4 HC1
        by_cases h0 : er = 0
        · subst h0
          have e : R = some (ys, L4) := by rw [HR2.out, if_pos rfl]
          subst e
          go_wp2_with fail
          refine (HC2.out (HF.out (by first | rfl | trivial)) w4 HK4.out).mono ?_
          rintro e w5 ⟨f, rfl, hK5, hF5⟩
          have HP : Hid (FinPost (some (ys, L4)) w b r v s most xs (.returned (.tuple #[.pointer (some ⟨f, 0, none⟩), .int .i64 0])) w5) := by
            have k45 : Keeps (fun _ => False) wr w5 := HK4.out.trans hK5 (fun _ _ h => h)
            refine ⟨fun e => by (cases e), fun _ _ e => by
              cases e
              exact ⟨f, rfl, hF5.wider (by have := HS.out.2.only.size; have := HK4.out.size; omega) (Nat.le_refl _) (Nat.le_refl _), HS.out.1.keptF k45, HS.out.2.trans (Rdv.ofF b r v k45)⟩⟩
          clear hK5 hF5 HC2
          go_wp2
          go_ret2
          exact HP.out
        · have e : R = none := by rw [HR2.out, if_neg h0]
          subst e
          have hnb : (er == 0) = false := by simp; exact h0
          have HK : Hid (Keeps (Own3 b r v) w w4) := HS.out.2.lost (HK4.out.mono (fun _ _ h => h.elim))
          clear HC2
          go_wp2
          go_ret2
          exact FinPost.noneI HK.out

end Go.Proofs.YtdbfbijalhknnabGreat

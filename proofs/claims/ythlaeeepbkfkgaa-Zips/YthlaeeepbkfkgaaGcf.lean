/-
  Folders copied: CopyEntries, CopyFolder.
-/
import Derived.Test.YthlaeeepbkfkgaaGget
import Derived.Test.YthlaeeepbkfkgaaFul
import Derived.Test.YthlaeeepbkfkgaaSame
namespace Go.Proofs.Ythlaeeepbkfkgaa
open Go.RowKit
set_option linter.unusedVariables false
set_option linter.unusedSimpArgs false

theorem dats_take {es : List It} (i : Nat) (h : i < es.length) : dats (es.take (i + 1)) = dats (es.take i) ++ [dat es[i]] := by
  unfold dats
  rw [List.take_succ_eq_append_getElem h, List.map_append]; rfl

set_option maxHeartbeats 8000000 in
set_option maxRecDepth 1000000 in
theorem copyEs_ok (a : Option Addr) (cap : Nat) (es : List It) (w : World) (hF : FolIn w a es) :
    Calls Try.prog 23 #[.slice a es.length cap] w fun r w' => ∃ a' cap' gs, r = .returned (.slice a' gs.length cap') ∧ dats gs = dats es ∧ FolO w' w.heap.size (.slice a' gs.length cap') gs ∧ Keeps (fun _ => False) w w' := by
  have HE : Hid (∀ i (hi : i < es.length), ∃ b off, a = some ⟨b, off, none⟩ ∧ ∀ w', Keeps (fun _ => False) w w' → EntAt w' b (off + i * 9) es[i].1 ∧ Calls Try.prog 38 #[.agg #[.string es[i].1.nm, .bool es[i].1.gn, .slice es[i].1.va es[i].1.vn es[i].1.vc, .int .i64 es[i].1.st, .int .i64 es[i].1.nd, .int .i64 es[i].1.mt, .string es[i].1.pk, .int .i64 es[i].1.sz, .int .i64 es[i].1.cr]] w' fun r w'' => ∃ a n c, r = .returned (.agg #[.string (es[i].1.vec a n c).nm, .bool (es[i].1.vec a n c).gn, .slice (es[i].1.vec a n c).va (es[i].1.vec a n c).vn (es[i].1.vec a n c).vc, .int .i64 (es[i].1.vec a n c).st, .int .i64 (es[i].1.vec a n c).nd, .int .i64 (es[i].1.vec a n c).mt, .string (es[i].1.vec a n c).pk, .int .i64 (es[i].1.vec a n c).sz, .int .i64 (es[i].1.vec a n c).cr]) ∧ OwnV w'' w'.heap.size (.slice a n c) es[i].2 ∧ n = es[i].2.length ∧ Keeps (fun _ => False) w' w'') := fun i hi => by
    obtain ⟨b, off, e, _, hf⟩ := hF.1.at (by omega)
    refine ⟨b, off, e, fun w' hk => ?_⟩
    obtain ⟨q1, q2, q3⟩ := hf w' hk i hi
    obtain ⟨q4, q5⟩ := hF.2.1 _ (List.getElem_mem hi)
    exact ⟨q1, copyE_ok es[i].1 es[i].2 w' q2 q3 q5 (by have := q4.1; omega)⟩
  have HL : Hid (es.length * 104 + 4096 ≤ 140737488355328) := hF.2.2
  have hlz : (es.length : Int) ≤ 1125899906842624 := by have := hF.2.2; omega
  have HT : Hid (([] : List It).length = 0 ∧ dats [] = dats (es.take 0) ∧ FolO w w.heap.size (.slice none ([] : List It).length 0) [] ∧ Keeps (fun _ => False) w w) := ⟨rfl, rfl, FolO.nil _ _, Keeps.refl _ _⟩
  clear hF
  go_enter Try.func23, Try.ntmps23
  go_wp2
  go_loopw [3, 4] (fun s3 s4 w' => ∃ i : Nat, i ≤ es.length ∧ s4 = .int .i64 (i : Int) ∧ ∃ (a' : Option Addr) (cap' : Nat) (gs : List It), s3 = .slice a' gs.length cap' ∧ Hid (gs.length = i ∧ dats gs = dats (es.take i) ∧ FolO w' w.heap.size (.slice a' gs.length cap') gs ∧ Keeps (fun _ => False) w w')) (fun _ s4 _ => ((es.length : Int) - intOf s4).toNat)
  case atStart => exact ⟨0, by omega, rfl, none, 0, [], rfl, HT⟩
  case round =>
    clear HT
    obtain ⟨i, hi, rfl, a', cap', gs, rfl, HT⟩ := hrel
    by_cases hin : i < es.length
    · have hiz : (i : Int) < (es.length : Int) := by omega
      obtain ⟨b, off, rfl, hA⟩ := HE.out i hin
      obtain ⟨e, he⟩ : ∃ e, es[i].1 = e := ⟨_, rfl⟩
      obtain ⟨ys, hy⟩ : ∃ ys, es[i].2 = ys := ⟨_, rfl⟩
      have hA1 := hA wr HT.out.2.2.2
      rw [he, hy] at hA1
      have HA : Hid (EntAt wr b (off + i * 9) e ∧ Calls Try.prog 38 #[.agg #[.string e.nm, .bool e.gn, .slice e.va e.vn e.vc, .int .i64 e.st, .int .i64 e.nd, .int .i64 e.mt, .string e.pk, .int .i64 e.sz, .int .i64 e.cr]] wr fun r w'' => ∃ a n c, r = .returned (.agg #[.string (e.vec a n c).nm, .bool (e.vec a n c).gn, .slice (e.vec a n c).va (e.vec a n c).vn (e.vec a n c).vc, .int .i64 (e.vec a n c).st, .int .i64 (e.vec a n c).nd, .int .i64 (e.vec a n c).mt, .string (e.vec a n c).pk, .int .i64 (e.vec a n c).sz, .int .i64 (e.vec a n c).cr]) ∧ OwnV w'' wr.heap.size (.slice a n c) ys ∧ n = ys.length ∧ Keeps (fun _ => False) wr w'') := hA1
      have HD : Hid (dats (es.take (i + 1)) = dats (es.take i) ++ [dat (e, ys)]) := by
        have := dats_take i hin
        have e2 : es[i] = (e, ys) := by rw [← he, ← hy]
        rw [e2] at this; exact this
      have HI : Hid (i < es.length) := hin
      clear hA hA1 he hy HE
      go_wp2_with (first
        | (refine wpList_load9 rfl _ rfl b (off + i * 9) rfl e ?hA ?_; (case hA => exact HA.out.1))
        | (go_at_call 38; refine HA.out.2.mono ?_; rintro r w5 ⟨a1, n1, c1, rfl, h1, h2, h3⟩; have H5 : Hid (OwnV w5 wr.heap.size (.slice a1 n1 c1) ys ∧ n1 = ys.length ∧ Keeps (fun _ => False) wr w5) := ⟨h1, h2, h3⟩; clear h1 h2 h3)
        | (refine wpList_ent rfl (.tmp 11) (.tmp 17) rfl rfl w.heap.size (.slice a' gs.length cap') gs rfl ?hO w5.heap.size (e.vec a1 n1 c1, ys) rfl ?hR ?hb ?hn ?_; (case hO => exact (HT.out.2.2.1.1.keptF H5.out.2.2).keptF ((Keeps.refl (fun _ => False) w5).alloc _)); (case hR => exact (Entb.new w5 (e.vec a1 n1 c1)).at); (case hb => have := (HT.out.2.2.2.trans H5.out.2.2 (fun _ _ h => h)).size; simp; omega); (case hn => have := HL.out; have := HI.out; have := HT.out.1; omega); intro g c2 w8 hO8 hG8 hat8; have hk8 : Keeps (fun k => (Value.slice a' gs.length cap').ownBlock = some k) w5 w8 := ((Keeps.refl _ w5).alloc _).grown hG8 (fun k _ q => q); have H8 : Hid (dats (gs ++ [(e.vec a1 n1 c1, ys)]) = dats (es.take (i + 1)) ∧ FolO w8 w.heap.size (.slice (some ⟨g, 0, none⟩) (gs.length + 1) c2) (gs ++ [(e.vec a1 n1 c1, ys)]) ∧ Keeps (fun _ => False) w w8) := ⟨(by rw [HD.out, ← HT.out.2.1]; simp [dats]; rfl), HT.out.2.2.1.add (x := (e.vec a1 n1 c1, ys)) HT.out.2.2.2.size (fun _ => False) H5.out.2.2 (fun _ _ _ h => h) H5.out.2.1 H5.out.1 hk8 hO8, (HT.out.2.2.2.trans H5.out.2.2 (fun _ _ h => h)).trans hk8 (fun k q1 q => by have := (HT.out.2.2.1.1.lo k q).1; omega)⟩; clear hO8 hG8 hat8 hk8))
      go_roundw
      case rel => exact ⟨i + 1, by omega, by push_cast; rfl, some ⟨g, 0, none⟩, c2, gs ++ [(e.vec a1 n1 c1, ys)], by rw [List.length_append]; rfl, by have := HT.out.1; simp; omega, H8.out.1, by rw [List.length_append]; exact H8.out.2.1, H8.out.2.2⟩
      case measure => simp [intOf]; omega
    · obtain rfl : i = es.length := by omega
      go_wp2
      go_ret
      exact ⟨a', cap', gs, rfl, by rw [HT.out.2.1, List.take_length], HT.out.2.2.1, HT.out.2.2.2⟩

set_option maxHeartbeats 8000000 in
set_option maxRecDepth 1000000 in
theorem copyF_ok (a : Option Addr) (cap : Nat) (es : List It) (w : World) (hF : FolIn w a es) :
    Calls Try.prog 8 #[.agg #[.slice a es.length cap]] w fun r w' => ∃ a' cap' gs, r = .returned (.agg #[.slice a' gs.length cap']) ∧ dats gs = dats es ∧ Fol w' a' gs ∧ Keeps (fun _ => False) w w' := by
  have HC : Hid (∀ w', Keeps (fun _ => False) w w' → Calls Try.prog 23 #[.slice a es.length cap] w' fun r w'' => ∃ a' cap' gs, r = .returned (.slice a' gs.length cap') ∧ dats gs = dats es ∧ FolO w'' w'.heap.size (.slice a' gs.length cap') gs ∧ Keeps (fun _ => False) w' w'') := fun w' hk => copyEs_ok a cap es w' ⟨hF.1.keptF hk, hF.2⟩
  clear hF
  go_enter Try.func8, Try.ntmps8
  have HV : Hid (∀ w', Keeps (fun _ => False) ((w.alloc (.cells #[.slice a es.length cap] 24)).alloc (.cells #[.slice none 0 0] 24)) w' → Folb w' (w.heap.size + 1) (.slice none 0 0)) := fun w' hk => by
    unfold Folb
    rw [hk.block (w.heap.size + 1) (by simp) (fun h => h)]
    have := heap_alloc_new (w.alloc (.cells #[.slice a es.length cap] 24)) (.cells #[.slice none 0 0] 24)
    simpa using this
  go_wp2_with (first
    | (go_at_call 23; refine (HC.out _ (((Keeps.refl _ _).alloc _).alloc _)).mono ?_; rintro r w2 ⟨a', cap', gs, rfl, h1, h2, h3⟩; have A2 : Hid (dats gs = dats es ∧ FolO w2 (w.heap.size + 2) (.slice a' gs.length cap') gs ∧ Keeps (fun _ => False) w w2 ∧ Folb w2 (w.heap.size + 1) (.slice none 0 0)) := ⟨h1, (by simpa using h2), (((Keeps.refl _ _).alloc _).alloc _).trans h3 (fun _ _ h => h), HV.out w2 h3⟩; have k2 := (HV.out w2 h3).c0; have f2 := (HV.out w2 h3).free; clear h1 h2 h3))
  (try simp only [Exit.inBlock, Exit.then])
  have hk7 : Keeps (fun x => x = w.heap.size + 1) w2 (w2.setCell ⟨w.heap.size + 1, 0, none⟩ (.slice a' gs.length cap')) := (Keeps.refl (fun x => x = w.heap.size + 1) w2).setCell (p := ⟨w.heap.size + 1, 0, none⟩) (fun _ => rfl) _
  obtain ⟨q1, q2, q3, q4⟩ := A2.out
  exact bodyPost_ret (v := .agg #[.slice a' gs.length cap']) (Folb.res1 rfl rfl (q4.set _)) rfl ⟨a', cap', gs, rfl, q1, (q2.kept hk7 (fun k p1 p2 p3 => by omega)).folS, q3.trans hk7 (fun k p1 p => by omega)⟩

end Go.Proofs.Ythlaeeepbkfkgaa

/-
  Inflate: the text that a stream comes to, for every text and every bound.
-/
import Derived.Test.YtdbfbijalhknnaaBlocks
import Derived.BigQuiet
namespace Go.Proofs.Ytdbfbijalhknnaa
open Go.RowKit
open Hf Tb
set_option linter.unusedVariables false
set_option linter.unusedSimpArgs false

theorem OwnB.text {T : TypeId} (hT : Try.prog.underlying T = some (.slice 5)) {w : World} {base : Nat} {v : Value} {xs : List Nat} (h : OwnB w base v xs) (hx : ∀ y ∈ xs, y < 256) :
    (convert T 9 v).run Try.prog w = .ok (.string (textOf xs)) w := by
  by_cases h0 : xs.length = 0
  · have e : xs = [] := List.length_eq_zero_iff.1 h0
    subst e
    rcases h.2 with ⟨rfl, _⟩ | ⟨g, cap, cur, rfl, _⟩
    · exact run_convert_bytes_nil w T 5 hT Try.underlying5 0 0 9 Try.underlying9
    · exact run_convert_bytes_back w T 9 5 ⟨g, 0, none⟩ cap [] hT Try.underlying5 Try.underlying9 (fun j hj => by simp at hj)
  · obtain ⟨g, cap, rfl, _⟩ := h.cell 0 (by omega)
    have e : xs.length = (xs.map UInt8.ofNat).length := by rw [List.length_map]
    rw [e]
    refine run_convert_bytes_back w T 9 5 ⟨g, 0, none⟩ cap (xs.map UInt8.ofNat) hT Try.underlying5 Try.underlying9 ?_
    intro j hj
    rw [List.length_map] at hj
    obtain ⟨g', cap', e', hc⟩ := h.cell j hj
    simp only [Value.slice.injEq, Option.some.injEq, Addr.mk.injEq] at e'
    rw [addr_add, e'.1.1, hc]
    have : xs[j] < 256 := hx _ (List.getElem_mem hj)
    simp only [List.getElem_map, UInt8.toNat_ofNat']
    rw [Nat.mod_eq_of_lt (by omega)]

def txR : Except Int (List Nat × Nat) → ByteArray
  | .ok r => textOf r.1
  | .error _ => ⟨#[]⟩
def tkR : Except Int (List Nat × Nat) → Int
  | .ok r => (r.2 : Int)
  | .error _ => 0
def erR : Except Int (List Nat × Nat) → Int
  | .ok _ => 0
  | .error e => e
/-- What Inflate leaves. -/
def InfPost (R : Except Int (List Nat × Nat)) (w : World) (e : Ending) (w' : World) : Prop :=
  e = .returned (.tuple #[.string (txR R), .int .i64 (tkR R), .int .i64 (erR R)]) ∧ Keeps (fun _ => False) w w'
theorem InfPost.bad {er : Int} {w w' : World} (h : Keeps (fun _ => False) w w') : InfPost (.error er) w (.returned (.tuple #[.string ⟨#[]⟩, .int .i64 0, .int .i64 er])) w' := ⟨rfl, h⟩
set_option maxHeartbeats 4000000 in
set_option maxRecDepth 100000 in
theorem inflate_ok (s : ByteArray) (most : Int) (w : World) (hs : s.size ≤ 281474976710656) (hG : GRow w) :
    Calls Try.prog 9 #[.string s, .int .i64 most] w (InfPost (inflP (bytesOf s) most) w) := by
  obtain ⟨R, hR⟩ : ∃ R, inflP (bytesOf s) most = R := ⟨_, rfl⟩
  rw [hR]
  by_cases hm0 : most < 0
  · have e : R = .error 700 := by rw [← hR]; unfold inflP; rw [if_neg (by omega)]
    subst e
    clear hR
    go_enter Try.func9, Try.ntmps9
    go_wp2
    go_ret3
    exact InfPost.bad (Keeps.refl _ _)
  · by_cases hm1 : 8192 < most
    · have e : R = .error 700 := by rw [← hR]; unfold inflP; rw [if_neg (by omega)]
      subst e
      clear hR
      go_enter Try.func9, Try.ntmps9
      go_wp2
      go_ret3
      exact InfPost.bad (Keeps.refl _ _)
    · obtain ⟨m, rfl⟩ := Int.eq_ofNat_of_zero_le (show 0 ≤ most by omega)
      have hR2 : inflB (bytesOf s) m = R := by rw [← hR]; unfold inflP; rw [if_pos (by omega)]; rfl
      have hm2 : m ≤ 8192 := by omega
      have HR : Hid (inflB (bytesOf s) m = R) := hR2
      have HS : Hid (s.size ≤ 281474976710656 ∧ GRow w) := ⟨hs, hG⟩
      have HC : Hid (Calls Try.prog 16 #[.string s] w fun e w' => e = .returned (.pointer (some ⟨w.heap.size, 0, none⟩)) ∧ w' = w.alloc (.cells #[.string s, .int .i64 0] 88)) := of_any s w
      clear hR hR2 hs hG
      go_enter Try.func9, Try.ntmps9
      go_wp2_with fail
      refine HC.out.mono ?_
      rintro e w2 ⟨rfl, hw2⟩
      have H2 : Hid (Rd 88 w2 w.heap.size s 0 ∧ Keeps (fun _ => False) w w2 ∧ w2.heap.size = w.heap.size + 1) := by
        rw [hw2]; exact ⟨heap_alloc_new _ _, (Keeps.refl _ w).alloc _, by simp⟩
      clear hw2 HC
      go_wp2
      generalize hw3 : World.alloc _ _ = w3
      obtain ⟨b, hb⟩ : ∃ b, w2.heap.size = b := ⟨_, rfl⟩
      obtain ⟨r, hr⟩ : ∃ r, w.heap.size = r := ⟨_, rfl⟩
      rw [hb, hr]
      have H3 : Hid (St w3 b r (.slice none 0 0) s m (bitsL (bytesOf s)) [] ∧ Keeps (fun _ => False) w w3 ∧ w.heap.size ≤ r ∧ w.heap.size ≤ b) := by
        have h2 := H2.out
        rw [hr] at h2
        have hk : Keeps (fun _ => False) w2 w3 := by rw [← hw3]; exact (Keeps.refl _ w2).alloc _
        have hkw := h2.2.1.trans hk (fun _ _ h => h)
        refine ⟨⟨⟨.pointer none, ?_, .inl rfl⟩, ⟨0, h2.1.kept hk (fun h => h), by omega, by simp⟩, OwnB.nil _ _, by omega, HS.out.1, Nat.zero_le _, hm2, fun x hx => by cases hx⟩, hkw, by omega, by omega⟩
        rw [← hw3, ← hb, ← hr]; exact heap_alloc_new _ _
      clear hw3 hb hr H2
      have H4 : Hid (∃ L1 x1 v1, St w3 b r v1 s m L1 x1 ∧ Adv w3 w3 b r (.slice none 0 0) v1 ∧ (false = true → blocks m (bitsL (bytesOf s)) [] = .ok (L1, x1)) ∧ (false = false → blocks m (bitsL (bytesOf s)) [] = blocks m L1 x1)) := ⟨_, _, _, H3.out.1, Adv.refl _ _ _ _, fun e => by (cases e), fun _ => rfl⟩
      go_loopw [8] (fun s8 w' => ∃ t : Bool, s8 = .bool t ∧ Hid (∃ L1 x1 v1, St w' b r v1 s m L1 x1 ∧ Adv w3 w' b r (.slice none 0 0) v1 ∧ (t = true → blocks m (bitsL (bytesOf s)) [] = .ok (L1, x1)) ∧ (t = false → blocks m (bitsL (bytesOf s)) [] = blocks m L1 x1))) (fun s8 w' => match s8 with | .bool true => 0 | _ => 1 + (8 * s.size - posOf w' r))
      case atStart => exact ⟨false, rfl, H4⟩
      case round =>
        clear H4
        obtain ⟨t, rfl, HW⟩ := hrel
        obtain ⟨L1, x1, v1, hS, hA, ht, hf⟩ := HW.out
        clear HW
        cases t
        · have HS1 : Hid (St wr b r v1 s m L1 x1 ∧ Adv w3 wr b r (.slice none 0 0) v1 ∧ blocks m (bitsL (bytesOf s)) [] = blocks m L1 x1) := ⟨hS, hA, hf rfl⟩
          have HC : Hid (Calls Try.prog 17 #[.pointer (some ⟨b, 0, none⟩)] wr (BlkPost L1 x1 wr b r v1 s m)) := block_ok hS
          clear hS hA ht hf
          go_wp2_with fail
          refine HC.out.mono ?_
          intro e w5 hP
          clear HC
          rcases hP with ⟨er, t, hb, her, rfl, hk⟩ | ⟨t, L', o', v', rfl, hS5, hA5, ht5, hf5⟩
          · have e : R = .error er := by rw [← HR.out]; unfold inflB; rw [HS1.out.2.2, hb]
            subst e
            have HK : Hid (Keeps (fun _ => False) w w5) := by
              have k := HS1.out.2.1.lost hk
              refine H3.out.2.1.trans k ?_
              rintro i hi (e | e | e)
              · have := H3.out.2.2.2; omega
              · have := H3.out.2.2.1; omega
              · cases e
            have hne := her.ne
            clear hb her hk
            go_wp2
            go_ret3
            exact InfPost.bad HK.out
          · have H5 : Hid (∃ L1 x1 v1, St w5 b r v1 s m L1 x1 ∧ Adv w3 w5 b r (.slice none 0 0) v1 ∧ (t = true → blocks m (bitsL (bytesOf s)) [] = .ok (L1, x1)) ∧ (t = false → blocks m (bitsL (bytesOf s)) [] = blocks m L1 x1)) := ⟨L', o', v', hS5, HS1.out.2.1.trans hA5, fun e => by rw [HS1.out.2.2]; exact ht5 e, fun e => by rw [HS1.out.2.2]; exact (hf5 e).1⟩
            have HM : Hid (t = false → 8 * s.size - posOf w5 r < 8 * s.size - posOf wr r) := fun e => by rw [hS5.left, HS1.out.1.left]; exact (hf5 e).2
            clear hS5 hA5 ht5 hf5
            go_wp2
            go_roundw
            case rel => exact ⟨t, rfl, H5⟩
            case measure =>
              cases t
              · have := HM.out rfl; simp only; omega
              · simp only; omega
        · have hE := ht rfl
          have HC : Hid (Calls Try.prog 18 #[.pointer (some ⟨r, 0, none⟩)] wr fun e w' => e = .returned (.int .i64 0) ∧ St w' b r v1 s m (alignL L1) x1 ∧ Rdv wr w' b r v1) := hS.align
          have hc := hS.c0
          have HA : Hid (Adv w3 wr b r (.slice none 0 0) v1) := hA
          obtain ⟨q, hq⟩ : ∃ q, s.size - L1.length / 8 = q := ⟨_, rfl⟩
          have e : R = .ok (x1, q) := by rw [← HR.out]; unfold inflB; rw [hE, bytesOf_length, ← hq]
          subst e
          have HQ : Hid (s.size - L1.length / 8 = q) := hq
          clear hq
          clear hS hA ht hf hE HR
          go_wp2_with fail
          refine HC.out.mono ?_
          rintro e w5 ⟨rfl, hS5, hA5⟩
          clear HC hc
          obtain ⟨p, p1, p2, p3⟩ := hS5.rd
          have hpl : (alignL L1).length = 8 * s.size - p := by rw [p3, List.length_drop, bitsL_length, bytesOf_length]
          have hal : (alignL L1).length = L1.length / 8 * 8 := by unfold alignL; rw [List.length_drop]; omega
          have hpq : p / 8 = s.size - L1.length / 8 := by omega
          rw [HQ.out] at hpq
          have hz := hS5.sz
          have hd1 : (p : Int) / 8 = (q : Int) := by omega
          have hd2 : (p : Int).tdiv 8 = (q : Int) := by rw [Int.tdiv_eq_ediv_of_nonneg (by omega)]; exact hd1
          have hd3 : IntKind.i64.wrap (q : Int) = (q : Int) := wrap_i64_small _ (by omega) (by omega)
          have hc0 := hS5.c0
          have hc1 := hS5.c1
          have hcv : ∀ n, (convert 37 9 v1).run Try.prog (w5.drewN n) = .ok (.string (textOf x1)) (w5.drewN n) := fun n => OwnB.text Try.underlying37 (show OwnB (w5.drewN n) (b + 1) v1 x1 from hS5.own) hS5.byt
          have HAt : Hid (∀ n, Calls Try.prog 19 #[.pointer (some ⟨r, 0, none⟩)] (w5.drewN n) fun e w' => e = .returned (.int .i64 (p : Int)) ∧ w' = (w5.drewN n)) := fun n => at_ok r p s (w5.drewN n) p1
          have HK : Hid (Keeps (fun _ => False) w w5) := by
            have k := HA.out.lost hA5.keep
            refine H3.out.2.1.trans k ?_
            rintro i hi (e | e | e)
            · have := H3.out.2.2.2; omega
            · have := H3.out.2.2.1; omega
            · cases e
          obtain ⟨av, cv, hv1⟩ := hS5.own.form
          clear hS5 hA5 p1 p2 p3 hpl hal hpq HA H3
          have HV : Hid (v1 = .slice av x1.length cv) := hv1
          clear hv1
          go_wp2
          go_quiet ((go_at_call 19; exact Calls.quiet_of_same (HAt.out _)))
          go_wp2
          go_ret3
          exact ⟨rfl, HK.out.drewN _⟩

end Go.Proofs.Ytdbfbijalhknnaa

/-
  The document's TokensMay: the same answer. A text that grows: one byte behind it, and a copy behind it. The document's Expand: the text that tokens come to. each of package block: tokens one behind the other, to be counted and to be written. What stands ahead of a dynamic block's tokens is read again (no program in sight). Rows of numbers that a slice shows, and blocks of numbers that a call owns.
-/
import Derived.Test.YtfbghchgfbjogaaGreatRows
import Derived.Test.YtfbghchgfbjogaaGreatT07
import Derived.Deep.RegionLaw
import Derived.WalkKit
import Derived.WalkSpells
import Derived.WalkLawsBesides
import Derived.Deep.MidRow
import Derived.Laws.ResultCell
import Derived.Deep.AppendLies
import Derived.Laws.OwnMore
namespace Go.Proofs.YtfbghchgfbjogaaGreat.Mt
open Go.RowKit
set_option linter.unusedVariables false
set_option linter.unusedSimpArgs false

set_option maxHeartbeats 4000000 in
set_option maxRecDepth 1000000 in
theorem rmay_ok (a : Option Addr) (ts : List Tk) (cap : Nat) (w : World) (hR : RowT w a ts) (hl : ts.length ≤ 9223372036854775806) :
    Calls Tryz.prog 102 #[.slice a ts.length cap] w fun e w' => e = .returned (.bool (mayF 0 ts)) ∧ Keeps (fun _ => False) w w' := by
  have HR : Hid (RowT w a ts) := hR
  clear hR
  obtain ⟨N, hN⟩ : ∃ N, ts.length = N := ⟨_, rfl⟩
  rw [hN] at hl ⊢
  have HN : Hid (ts.length = N) := hN
  clear hN
  go_enter Tryz.func102, Tryz.ntmps102
  go_wp2
  go_loopw [3, 4] (fun s3 s4 w' => ∃ (i : Nat) (z : Int), i ≤ N ∧ 0 ≤ z ∧ z ≤ 8192 ∧ s3 = .int .i64 z ∧ s4 = .int .i64 (i : Int) ∧ Hid (mayF z (ts.drop i) = mayF 0 ts ∧ Keeps (fun _ => False) w w')) (fun s3 s4 w' => ((N : Int) - intOf s4).toNat)
  case atStart => exact ⟨0, 0, by omega, by omega, by omega, rfl, rfl, rfl, Keeps.refl _ _⟩
  case round =>
    obtain ⟨i, z, hi, hz0, hz1, rfl, rfl, HW⟩ := hrel
    by_cases hin : i < N
    · have hiz : (i : Int) < (N : Int) := by omega
      have hil : i < ts.length := by rw [HN.out]; exact hin
      obtain ⟨b, off, rfl, hb, hc⟩ := HR.out.at (by omega)
      have hT := hc wr HW.out.2 i hil
      clear hc
      have HD : Hid (mayF 0 ts = (okT (tk ts i) z && mayF (z + sz (tk ts i)) (ts.drop (i + 1)))) := by
        show _ = _
        rw [← HW.out.1, tk_drop i hil]; rfl
      obtain ⟨⟨l, n, d⟩, ht⟩ : ∃ t, tk ts i = t := ⟨_, rfl⟩
      rw [ht] at hT HD
      clear ht
      have HK := HW.out.2
      clear HW
      have HKr : Hid (Keeps (fun _ => False) w wr) := HK
      clear HK
      by_cases hn0 : n = 0
      · subst hn0
        have hS : sz (l, 0, d) = 1 := by simp [sz]; omega
        rw [hS] at HD
        by_cases hok : isB (l, 0, d) = true
        · obtain ⟨e1, e2, _, e3⟩ := isB_iff hok
          simp only at e1 e2 e3
          subst e3
          have e1' : ¬ l < 0 := by omega
          have e2' : ¬ 255 < l := by omega
          by_cases hz : z + 1 ≤ 8192
          · have hz' : ¬ 8192 < z + 1 := by omega
            have HX : Hid (mayF (z + 1) (ts.drop (i + 1)) = mayF 0 ts) := by show _ = _; rw [HD.out]; unfold okT; rw [hok, hS, decide_eq_true hz]; simp
            clear hok hS
            go_wp2_with (first
              | (refine wpList_load3 rfl _ rfl b (off + i * 3) rfl (l, 0, 0) ?hA ?_; (case hA => assumption))
              | (refine wpList_alloc3 rfl rfl ?_; intro b5 w2 hT2 hK2 hb5; have HK2 : Hid (Keeps (fun _ => False) w w2) := HKr.out.trans hK2 (fun _ _ h => h); have HB5 : Hid (w.heap.size ≤ b5) := (by have := HKr.out.size; show _ ≤ _; omega); clear hK2 hb5)
              | (refine wpList_store3 rfl _ _ rfl b5 (l, 0, 0) rfl rfl (0, 0, 0) ?hA ?_; (case hA => assumption); intro w3 hT3 hK3; have HK3 : Hid (Keeps (fun _ => False) w w3) := HK2.out.trans hK3 (fun i hi h => by have := HB5.out; omega); obtain ⟨c0, c1, c2⟩ : w3.cell? ⟨b5, 0, none⟩ = some (.int .i64 l) ∧ w3.cell? ⟨b5, 1, none⟩ = some (.int .i64 0) ∧ w3.cell? ⟨b5, 2, none⟩ = some (.int .i64 0) := hT3.at; clear hK3 hT2 hT3))
            go_roundw
            case rel => exact ⟨i + 1, z + 1, by omega, by omega, by omega, rfl, by push_cast; rfl, HX.out, HK3.out⟩
            case measure => simp [intOf]; omega
          · have hz' : 8192 < z + 1 := by omega
            have HX : Hid (mayF 0 ts = false) := by show _ = _; rw [HD.out]; unfold okT; rw [hok, hS, decide_eq_false hz]; simp
            clear hok hS
            go_wp2_with (first
              | (refine wpList_load3 rfl _ rfl b (off + i * 3) rfl (l, 0, 0) ?hA ?_; (case hA => assumption))
              | (refine wpList_alloc3 rfl rfl ?_; intro b5 w2 hT2 hK2 hb5; have HK2 : Hid (Keeps (fun _ => False) w w2) := HKr.out.trans hK2 (fun _ _ h => h); have HB5 : Hid (w.heap.size ≤ b5) := (by have := HKr.out.size; show _ ≤ _; omega); clear hK2 hb5)
              | (refine wpList_store3 rfl _ _ rfl b5 (l, 0, 0) rfl rfl (0, 0, 0) ?hA ?_; (case hA => assumption); intro w3 hT3 hK3; have HK3 : Hid (Keeps (fun _ => False) w w3) := HK2.out.trans hK3 (fun i hi h => by have := HB5.out; omega); obtain ⟨c0, c1, c2⟩ : w3.cell? ⟨b5, 0, none⟩ = some (.int .i64 l) ∧ w3.cell? ⟨b5, 1, none⟩ = some (.int .i64 0) ∧ w3.cell? ⟨b5, 2, none⟩ = some (.int .i64 0) := hT3.at; clear hK3 hT2 hT3))
            go_ret
            exact ⟨by rw [HX.out]; rfl, HK3.out⟩
        · have hk : isC (l, 0, d) z = false := by simp [isC]
          have HX : Hid (mayF 0 ts = false) := by show _ = _; rw [HD.out]; unfold okT; rw [hk, eq_false_of_ne_true hok]; simp
          have hbad : l < 0 ∨ (¬ l < 0 ∧ 255 < l) ∨ (¬ l < 0 ∧ ¬ 255 < l ∧ ¬ d = 0) := by simp [isB] at hok; omega
          clear hok hk hS
          rcases hbad with h1 | ⟨h1, h2⟩ | ⟨h1, h2, h3⟩
          all_goals
            go_wp2_with (first
              | (refine wpList_load3 rfl _ rfl b (off + i * 3) rfl (l, 0, d) ?hA ?_; (case hA => assumption))
              | (refine wpList_alloc3 rfl rfl ?_; intro b5 w2 hT2 hK2 hb5; have HK2 : Hid (Keeps (fun _ => False) w w2) := HKr.out.trans hK2 (fun _ _ h => h); have HB5 : Hid (w.heap.size ≤ b5) := (by have := HKr.out.size; show _ ≤ _; omega); clear hK2 hb5)
              | (refine wpList_store3 rfl _ _ rfl b5 (l, 0, d) rfl rfl (0, 0, 0) ?hA ?_; (case hA => assumption); intro w3 hT3 hK3; have HK3 : Hid (Keeps (fun _ => False) w w3) := HK2.out.trans hK3 (fun i hi h => by have := HB5.out; omega); obtain ⟨c0, c1, c2⟩ : w3.cell? ⟨b5, 0, none⟩ = some (.int .i64 l) ∧ w3.cell? ⟨b5, 1, none⟩ = some (.int .i64 0) ∧ w3.cell? ⟨b5, 2, none⟩ = some (.int .i64 d) := hT3.at; clear hK3 hT2 hT3))
            go_ret
            exact ⟨by rw [HX.out]; rfl, HK3.out⟩
      · by_cases hok : isC (l, n, d) z = true
        · obtain ⟨e1, e2, e3, e4, e5, e6⟩ := isC_iff hok
          simp only at e1 e2 e3 e4 e5 e6
          subst e1
          have hS : sz (0, n, d) = n := by simp [sz]; omega
          rw [hS] at HD
          have e2' : ¬ n < 3 := by omega
          have e3' : ¬ 258 < n := by omega
          have e4' : ¬ d < 1 := by omega
          have e5' : ¬ 32768 < d := by omega
          have e6' : ¬ z < d := by omega
          by_cases hz : z + n ≤ 8192
          · have hz' : ¬ 8192 < z + n := by omega
            have HX : Hid (mayF (z + n) (ts.drop (i + 1)) = mayF 0 ts) := by show _ = _; rw [HD.out]; unfold okT; rw [hok, hS, decide_eq_true hz]; simp
            clear hok hS
            go_wp2_with (first
              | (refine wpList_load3 rfl _ rfl b (off + i * 3) rfl (0, n, d) ?hA ?_; (case hA => assumption))
              | (refine wpList_alloc3 rfl rfl ?_; intro b5 w2 hT2 hK2 hb5; have HK2 : Hid (Keeps (fun _ => False) w w2) := HKr.out.trans hK2 (fun _ _ h => h); have HB5 : Hid (w.heap.size ≤ b5) := (by have := HKr.out.size; show _ ≤ _; omega); clear hK2 hb5)
              | (refine wpList_store3 rfl _ _ rfl b5 (0, n, d) rfl rfl (0, 0, 0) ?hA ?_; (case hA => assumption); intro w3 hT3 hK3; have HK3 : Hid (Keeps (fun _ => False) w w3) := HK2.out.trans hK3 (fun i hi h => by have := HB5.out; omega); obtain ⟨c0, c1, c2⟩ : w3.cell? ⟨b5, 0, none⟩ = some (.int .i64 0) ∧ w3.cell? ⟨b5, 1, none⟩ = some (.int .i64 n) ∧ w3.cell? ⟨b5, 2, none⟩ = some (.int .i64 d) := hT3.at; clear hK3 hT2 hT3))
            go_roundw
            case rel => exact ⟨i + 1, z + n, by omega, by omega, by omega, rfl, by push_cast; rfl, HX.out, HK3.out⟩
            case measure => simp [intOf]; omega
          · have hz' : 8192 < z + n := by omega
            have HX : Hid (mayF 0 ts = false) := by show _ = _; rw [HD.out]; unfold okT; rw [hok, hS, decide_eq_false hz]; simp
            clear hok hS
            go_wp2_with (first
              | (refine wpList_load3 rfl _ rfl b (off + i * 3) rfl (0, n, d) ?hA ?_; (case hA => assumption))
              | (refine wpList_alloc3 rfl rfl ?_; intro b5 w2 hT2 hK2 hb5; have HK2 : Hid (Keeps (fun _ => False) w w2) := HKr.out.trans hK2 (fun _ _ h => h); have HB5 : Hid (w.heap.size ≤ b5) := (by have := HKr.out.size; show _ ≤ _; omega); clear hK2 hb5)
              | (refine wpList_store3 rfl _ _ rfl b5 (0, n, d) rfl rfl (0, 0, 0) ?hA ?_; (case hA => assumption); intro w3 hT3 hK3; have HK3 : Hid (Keeps (fun _ => False) w w3) := HK2.out.trans hK3 (fun i hi h => by have := HB5.out; omega); obtain ⟨c0, c1, c2⟩ : w3.cell? ⟨b5, 0, none⟩ = some (.int .i64 0) ∧ w3.cell? ⟨b5, 1, none⟩ = some (.int .i64 n) ∧ w3.cell? ⟨b5, 2, none⟩ = some (.int .i64 d) := hT3.at; clear hK3 hT2 hT3))
            go_ret
            exact ⟨by rw [HX.out]; rfl, HK3.out⟩
        · have hk : isB (l, n, d) = false := by simp [isB, hn0]
          have HX : Hid (mayF 0 ts = false) := by show _ = _; rw [HD.out]; unfold okT; rw [hk, eq_false_of_ne_true hok]; simp
          have hbad : n < 3 ∨ (¬ n < 3 ∧ 258 < n) ∨ (¬ n < 3 ∧ ¬ 258 < n ∧ d < 1) ∨ (¬ n < 3 ∧ ¬ 258 < n ∧ ¬ d < 1 ∧ 32768 < d) ∨ (¬ n < 3 ∧ ¬ 258 < n ∧ ¬ d < 1 ∧ ¬ 32768 < d ∧ z < d) ∨ (¬ n < 3 ∧ ¬ 258 < n ∧ ¬ d < 1 ∧ ¬ 32768 < d ∧ ¬ z < d ∧ ¬ l = 0) := by simp [isC] at hok; omega
          clear hok hk
          rcases hbad with h1 | ⟨h1, h2⟩ | ⟨h1, h2, h3⟩ | ⟨h1, h2, h3, h4⟩ | ⟨h1, h2, h3, h4, h5⟩ | ⟨h1, h2, h3, h4, h5, h6⟩
          all_goals
            go_wp2_with (first
              | (refine wpList_load3 rfl _ rfl b (off + i * 3) rfl (l, n, d) ?hA ?_; (case hA => assumption))
              | (refine wpList_alloc3 rfl rfl ?_; intro b5 w2 hT2 hK2 hb5; have HK2 : Hid (Keeps (fun _ => False) w w2) := HKr.out.trans hK2 (fun _ _ h => h); have HB5 : Hid (w.heap.size ≤ b5) := (by have := HKr.out.size; show _ ≤ _; omega); clear hK2 hb5)
              | (refine wpList_store3 rfl _ _ rfl b5 (l, n, d) rfl rfl (0, 0, 0) ?hA ?_; (case hA => assumption); intro w3 hT3 hK3; have HK3 : Hid (Keeps (fun _ => False) w w3) := HK2.out.trans hK3 (fun i hi h => by have := HB5.out; omega); obtain ⟨c0, c1, c2⟩ : w3.cell? ⟨b5, 0, none⟩ = some (.int .i64 l) ∧ w3.cell? ⟨b5, 1, none⟩ = some (.int .i64 n) ∧ w3.cell? ⟨b5, 2, none⟩ = some (.int .i64 d) := hT3.at; clear hK3 hT2 hT3))
            go_ret
            exact ⟨by rw [HX.out]; rfl, HK3.out⟩
    · obtain rfl : i = N := by omega
      have HX : Hid (mayF 0 ts = true) := by
        show _ = _
        rw [← HW.out.1, ← HN.out, List.drop_length]; rfl
      go_wp2
      go_ret
      exact ⟨by rw [HX.out]; rfl, HW.out.2⟩

end Go.Proofs.YtfbghchgfbjogaaGreat.Mt

namespace Go.Proofs.YtfbghchgfbjogaaGreat.Mt
open Go.RowKit
set_option linter.unusedVariables false
set_option linter.unusedSimpArgs false

/-- Bytes that a call owns. -/
def OwnB (w : World) (base : Nat) (v : Value) (xs : List Nat) : Prop := w.ownsRow base 5 1 v xs.length (xs.map byteV)
theorem OwnB.nil (w : World) (base : Nat) : OwnB w base (.slice none 0 0) [] := World.ownsRow_nil w base 5 1
theorem OwnB.kept {S : Nat → Prop} {w w' : World} {base : Nat} {v : Value} {xs : List Nat} (h : OwnB w base v xs) (hk : Keeps S w w') (hb : ∀ k, v.ownBlock = some k → ¬ S k) : OwnB w' base v xs :=
  owns_heap3 h (fun k e => hk.block k (World.ownsRow.lt h k e).2 (hb k e))
theorem OwnB.keptF {w w' : World} {base : Nat} {v : Value} {xs : List Nat} (h : OwnB w base v xs) (hk : Keeps (fun _ => False) w w') : OwnB w' base v xs := h.kept hk (fun _ _ h => h)
theorem OwnB.cell {w : World} {base : Nat} {v : Value} {xs : List Nat} (h : OwnB w base v xs) (i : Nat) (hi : i < xs.length) : ∃ g cap, v = .slice (some ⟨g, 0, none⟩) xs.length cap ∧ w.cell? ⟨g, i, none⟩ = some (.int .u8 (yb xs i : Int)) := by
  obtain ⟨g, cap, rfl, _, _⟩ := World.ownsRow.form h (by omega)
  refine ⟨g, cap, rfl, (owns_cell h i _ ?_).1⟩
  rw [List.getElem?_map, List.getElem?_eq_getElem hi, yb_eq i hi]; rfl

theorem info5 : (Tryz.prog.info? 5).map (fun i => (i.zero, i.size, i.bytes)) = some (some (.int .u8 0), 1, 1) := by kernel_rfl

end Go.Proofs.YtfbghchgfbjogaaGreat.Mt

namespace Go.Proofs.YtfbghchgfbjogaaGreat.Mt
open Go.RowKit
set_option linter.unusedVariables false
set_option linter.unusedSimpArgs false

theorem OwnB.text {T : TypeId} (hT : Tryz.prog.underlying T = some (.slice 5)) {w : World} {base : Nat} {v : Value} {xs : List Nat} (h : OwnB w base v xs) (hx : ∀ y ∈ xs, y < 256) :
    (convert T 9 v).run Tryz.prog w = .ok (.string (textOf xs)) w := by
  by_cases h0 : xs.length = 0
  · have e : xs = [] := List.length_eq_zero_iff.1 h0
    subst e
    rcases h.2 with ⟨rfl, _⟩ | ⟨g, cap, cur, rfl, _⟩
    · exact run_convert_bytes_nil w T 5 hT Tryz.underlying5 0 0 9 Tryz.underlying9
    · exact run_convert_bytes_back w T 9 5 ⟨g, 0, none⟩ cap [] hT Tryz.underlying5 Tryz.underlying9 (fun j hj => by simp at hj)
  · obtain ⟨g, cap, rfl, _⟩ := h.cell 0 (by omega)
    have e : xs.length = (xs.map UInt8.ofNat).length := by rw [List.length_map]
    rw [e]
    refine run_convert_bytes_back w T 9 5 ⟨g, 0, none⟩ cap (xs.map UInt8.ofNat) hT Tryz.underlying5 Tryz.underlying9 ?_
    intro j hj
    rw [List.length_map] at hj
    obtain ⟨g', cap', e', hc⟩ := h.cell j hj
    simp only [Value.slice.injEq, Option.some.injEq, Addr.mk.injEq] at e'
    rw [addr_add, e'.1.1, hc, yb_eq j hj]
    have : xs[j] < 256 := hx _ (List.getElem_mem hj)
    simp only [List.getElem_map, UInt8.toNat_ofNat']
    rw [Nat.mod_eq_of_lt (by omega)]
set_option maxRecDepth 100000 in
theorem append_byte (w : World) (base : Nat) (v : Value) (xs : List Nat) (h : OwnB w base v xs) (c b : Nat) (hx : w.heap[b]? = some (.cells #[.int .u8 (c : Int)] 5 (0, 0))) (hb : base ≤ w.heap.size) (hn : xs.length ≤ 1000000) :
    ∃ g cap w', (Builtin.append_ #[84, 84] 84 #[v, .slice (some ⟨b, 0, none⟩) 1 1]).run Tryz.prog w = .ok (.slice (some ⟨g, 0, none⟩) (xs.length + 1) cap) w' ∧ OwnB w' base (.slice (some ⟨g, 0, none⟩) (xs.length + 1) cap) (xs ++ [c]) ∧ w.grownBy w' v.ownBlock ∧ (v.ownBlock = some g ∨ g = w.heap.size) := by
  obtain ⟨i, hi, h1, h2, h3⟩ : ∃ i, Tryz.prog.info? 5 = some i ∧ i.zero = some (.int .u8 0) ∧ i.bytes = 1 ∧ i.size = 1 := ⟨Tryz.t5, Tryz.type5, rfl, rfl, rfl⟩
  obtain ⟨g, cap, w', hr, ho, hg, hat, hlt⟩ := run_append_lies (P := Tryz.prog) w 84 84 base 5 i (.int .u8 0) 1 1 Tryz.underlying84 hi h1 h3 h2 rfl (by decide) v xs.length (xs.map byteV) h ⟨b, 0, none⟩ 1 1 [.int .u8 (c : Int)] rfl (fun j u hu => by
      have hj : j = 0 := by have := (List.getElem?_eq_some_iff.1 hu).1; simp at this; omega
      subst hj
      simp at hu
      subst hu
      exact cell_of_heap hx rfl) (fun u hu => by simp at hu; subst hu; rfl) (by decide) (by unfold maxLen; omega) (by omega) hb _ rfl
  refine ⟨g, cap, w', hr, ?_, hg, hat⟩
  unfold OwnB
  rw [List.map_append, List.length_append]
  exact ho
theorem wpList_byte {ops : Array Oper} {rest : List Oper} {o : Oper} {a : Act} {w : World} {Q : Exit → Act → World → Prop} (hgd : o.guard = none) (s x : Operand) (ho : o.op = .call { callee := .builtin .append, args := #[s, x], argTypes := #[84, 84] }) (hty : o.type = 84)
    (base : Nat) (v : Value) (xs : List Nat) (hs : a.eval s = v) (hown : OwnB w base v xs) (b c : Nat) (hx : a.eval x = .slice (some ⟨b, 0, none⟩) 1 1) (hR : w.heap[b]? = some (.cells #[.int .u8 (c : Int)] 5 (0, 0))) (hb : base ≤ w.heap.size) (hn : xs.length ≤ 1000000)
    (h : ∀ g cap w', OwnB w' base (.slice (some ⟨g, 0, none⟩) (xs.length + 1) cap) (xs ++ [c]) → w.grownBy w' v.ownBlock → (v.ownBlock = some g ∨ g = w.heap.size) → wpList Tryz.prog ops Q rest (a.put o.dst (.slice (some ⟨g, 0, none⟩) (xs.length + 1) cap)) w') : wpList Tryz.prog ops Q (o :: rest) a w :=
  wpList_plain hgd fun _ hK => by
    obtain ⟨g, cap, w', hr, h2, h3, h4⟩ := append_byte w base v xs hown c b hR hb hn
    unfold Oper.wp execOp
    simp only [ho, hty, resolve, invoke, builtin, Sem.run_bind, Sem.run_pure, Result.andThen_ok, List.map_toArray, List.map_cons, List.map_nil, hs, hx, hr]
    exact hK _ _ (h g cap w' h2 h3 h4)

set_option maxHeartbeats 4000000 in
set_option maxRecDepth 1000000 in
theorem rexpand_bad (a : Option Addr) (ts : List Tk) (cap : Nat) (w : World) (hR : RowT w a ts) (hl : ts.length ≤ 9223372036854775806) (hm : mayF 0 ts = false) :
    Calls Tryz.prog 91 #[.slice a ts.length cap] w fun e w' => e = .returned (.tuple #[.string ⟨#[]⟩, .int .i64 500]) ∧ Keeps (fun _ => False) w w' := by
  have HC : Hid (Calls Tryz.prog 102 #[.slice a ts.length cap] w fun e w' => e = .returned (.bool false) ∧ Keeps (fun _ => False) w w') := by
    have := rmay_ok a ts cap w hR hl
    rw [hm] at this; exact this
  clear hR hm
  go_enter Tryz.func91, Tryz.ntmps91
  go_wp2_with (go_at_call 102; refine HC.out.mono ?_; rintro e w1 ⟨rfl, hK1⟩)
  go_ret2
  exact ⟨rfl, hK1⟩

/-- What stands ahead of the i-th token. -/
def Now (w0 w : World) (v : Value) (ts : List Tk) (i : Nat) (xs : List Nat) : Prop :=
  OwnB w w0.heap.size v xs ∧ expF xs (ts.drop i) = expF [] ts ∧ mayF xs.length (ts.drop i) = true ∧ (∀ y ∈ xs, y < 256) ∧ xs.length ≤ 8192 ∧ Keeps (fun _ => False) w0 w
theorem Now.ok {w0 w : World} {v : Value} {ts : List Tk} {i : Nat} {xs : List Nat} (h : Now w0 w v ts i xs) (hi : i < ts.length) : okT (tk ts i) xs.length = true ∧ mayF (xs.length + sz (tk ts i)) (ts.drop (i + 1)) = true ∧ expF (putT xs (tk ts i)) (ts.drop (i + 1)) = expF [] ts := by
  obtain ⟨_, h2, h3, _⟩ := h
  rw [tk_drop i hi] at h2 h3
  simp only [mayF, Bool.and_eq_true] at h3
  exact ⟨h3.1, h3.2, h2⟩
theorem Now.next {w0 w w1 : World} {v v' : Value} {ts : List Tk} {i : Nat} {xs : List Nat} (h : Now w0 w v ts i xs) (hi : i < ts.length) (hO : OwnB w1 w0.heap.size v' (putT xs (tk ts i))) (hk : Keeps (fun _ => False) w0 w1) : Now w0 w1 v' ts (i + 1) (putT xs (tk ts i)) := by
  obtain ⟨h1, h2, h3⟩ := h.ok hi
  have hl := put_len h1
  refine ⟨hO, h3, by rw [hl]; exact h2, put_lt h.2.2.2.1 h1, ?_, hk⟩
  have := (okT_iff h1).2
  omega
theorem keep_own {w0 w w1 : World} {v : Value} {xs : List Nat} (hO : OwnB w w0.heap.size v xs) (hk : Keeps (fun _ => False) w0 w) {o : Obj} (hG : (w.alloc o).grownBy w1 v.ownBlock) : Keeps (fun _ => False) w0 w1 :=
  (hk.alloc o).grown hG (fun k hk e => by have := (World.ownsRow.lt hO k e).1; omega)

set_option maxHeartbeats 4000000 in
set_option maxRecDepth 1000000 in
theorem rexpand_ok (a : Option Addr) (ts : List Tk) (cap : Nat) (w : World) (hR : RowT w a ts) (hl : ts.length ≤ 9223372036854775806) (hm : mayF 0 ts = true) :
    Calls Tryz.prog 91 #[.slice a ts.length cap] w fun e w' => e = .returned (.tuple #[.string (textOf (expF [] ts)), .int .i64 0]) ∧ Keeps (fun _ => False) w w' := by
  have HC : Hid (Calls Tryz.prog 102 #[.slice a ts.length cap] w fun e w' => e = .returned (.bool true) ∧ Keeps (fun _ => False) w w') := by
    have := rmay_ok a ts cap w hR hl
    rw [hm] at this; exact this
  have HR : Hid (RowT w a ts) := hR
  have HM : Hid (mayF 0 ts = true) := hm
  clear hR hm
  obtain ⟨N, hN⟩ : ∃ N, ts.length = N := ⟨_, rfl⟩
  rw [hN] at hl HC ⊢
  have HN : Hid (ts.length = N) := hN
  clear hN
  go_enter Tryz.func91, Tryz.ntmps91
  go_wp2_with (go_at_call 102; refine HC.out.mono ?_; rintro e w1 ⟨rfl, hK1⟩; have HK1 : Hid (Keeps (fun _ => False) w w1) := hK1; clear hK1)
  go_loopw [4, 5] (fun s4 s5 w' => ∃ (i : Nat) (v : Value) (xs : List Nat), s4 = v ∧ i ≤ N ∧ s5 = .int .i64 (i : Int) ∧ Hid (Now w w' v ts i xs)) (fun s4 s5 w' => ((N : Int) - intOf s5).toNat)
  case atStart => exact ⟨0, _, [], rfl, by omega, rfl, OwnB.nil _ _, rfl, HM.out, by simp, by simp, HK1.out⟩
  case round =>
    clear HC HK1
    obtain ⟨i, v, xs, hv, hi, rfl, HW⟩ := hrel
    obtain rfl := hv.symm
    clear hv
    by_cases hin : i < N
    · have hiz : (i : Int) < (N : Int) := by omega
      have hil : i < ts.length := by rw [HN.out]; exact hin
      obtain ⟨b, off, rfl, hb, hc⟩ := HR.out.at (by omega)
      have HTc : Hid (∀ w', Keeps (fun _ => False) w w' → TkAt w' b (off + i * 3) (tk ts i)) := fun w' hk => hc w' hk i hil
      clear hc
      have hok := (HW.out.ok hil).1
      have HX : Hid (∀ w' v', OwnB w' w.heap.size v' (putT xs (tk ts i)) → Keeps (fun _ => False) w w' → Now w w' v' ts (i + 1) (putT xs (tk ts i))) := fun w' v' h1 h2 => HW.out.next hil h1 h2
      have hx8 : xs.length ≤ 8192 := HW.out.2.2.2.2.1
      obtain ⟨⟨l, n, d⟩, ht⟩ : ∃ t, tk ts i = t := ⟨_, rfl⟩
      rw [ht] at HTc HX hok
      clear ht
      obtain ⟨c0, c1, c2⟩ : wr.cell? ⟨b, off + i * 3, none⟩ = some (.int .i64 l) ∧ wr.cell? ⟨b, off + i * 3 + 1, none⟩ = some (.int .i64 n) ∧ wr.cell? ⟨b, off + i * 3 + 2, none⟩ = some (.int .i64 d) := HTc.out wr HW.out.2.2.2.2.2
      rcases (okT_iff hok).1 with h | h
      · obtain ⟨e1, e2, e3, e4⟩ := isB_iff h
        simp only at e1 e2 e3 e4
        subst e3
        subst e4
        obtain ⟨c, rfl⟩ : ∃ c : Nat, l = (c : Int) := ⟨l.toNat, by omega⟩
        have hput : putT xs ((c : Int), 0, 0) = xs ++ [c] := by simp [putT]
        rw [hput] at HX
        have hc8 : (c : Int) % 256 = (c : Int) := by omega
        clear h hok hput
        go_wp2_with (first
          | (refine wpList_byte rfl _ _ rfl rfl w.heap.size v xs rfl ?hown wr.heap.size c rfl ?hR ?hb ?hn ?_; (case hown => exact HW.out.1.keptF ((Keeps.refl _ _).alloc _)); (case hR => exact heap_alloc_new _ _); (case hb => exact (HW.out.2.2.2.2.2.alloc _).size); (case hn => omega); intro g cp w4 hO4 hG4 hg4; have HW4 : Hid (Now w w4 (.slice (some ⟨g, 0, none⟩) (xs.length + 1) cp) ts (i + 1) (xs ++ [c])) := HX.out _ _ hO4 (keep_own HW.out.1 HW.out.2.2.2.2.2 hG4); obtain ⟨d0, d1, d2⟩ : w4.cell? ⟨b, off + i * 3, none⟩ = some (.int .i64 (c : Int)) ∧ w4.cell? ⟨b, off + i * 3 + 1, none⟩ = some (.int .i64 0) ∧ w4.cell? ⟨b, off + i * 3 + 2, none⟩ = some (.int .i64 0) := HTc.out w4 HW4.out.2.2.2.2.2; clear hO4 hG4 hg4 c0 c1 c2))
        obtain ⟨w0, hw0⟩ : ∃ w0, w0 = w4 := ⟨_, rfl⟩
        go_loopw [4, 6] (fun s4 s6 w' => s4 = .slice (some ⟨g, 0, none⟩) (xs.length + 1) cp ∧ s6 = .int .i64 0 ∧ w' = w4) (fun s4 s6 w' => 0)
        case atStart => exact ⟨rfl, rfl, rfl⟩
        case round =>
          obtain ⟨rfl, rfl, rfl⟩ := hrel
          go_wp2
          go_roundw
          case rel => exact ⟨i + 1, _, _, rfl, by omega, by push_cast; rfl, HW4⟩
          case measure => simp [intOf]; omega
      · obtain ⟨e1, e2, e3, e4, e5, e6⟩ := isC_iff h
        simp only at e1 e2 e3 e4 e5 e6
        subst e1
        obtain ⟨M, rfl⟩ : ∃ M : Nat, n = (M : Int) := ⟨n.toNat, by omega⟩
        obtain ⟨D, rfl⟩ : ∃ D : Nat, d = (D : Int) := ⟨d.toNat, by omega⟩
        have hput : putT xs (0, (M : Int), (D : Int)) = cop xs D M := by
          unfold putT
          rw [if_neg (by show ¬ (M : Int) = 0; omega)]; simp
        rw [hput] at HX
        have hM0 : ((M : Int) == 0) = false := by rw [beq_eq_false_iff_ne]; omega
        clear h hok hput
        go_wp2
        obtain ⟨w0, hw0⟩ : ∃ w0, w0 = wr := ⟨_, rfl⟩
        have HS : Hid (OwnB wr w.heap.size v (cop xs D 0) ∧ Keeps (fun _ => False) w wr) := ⟨HW.out.1, HW.out.2.2.2.2.2⟩
        clear c0 c1 c2 hw0
        go_loopw [4, 6] (fun s4 s6 w' => ∃ (j : Nat) (v' : Value), s4 = v' ∧ j ≤ M ∧ s6 = .int .i64 (j : Int) ∧ Hid (OwnB w' w.heap.size v' (cop xs D j) ∧ Keeps (fun _ => False) w w')) (fun s4 s6 w' => ((M : Int) - intOf s6).toNat)
        case atStart => exact ⟨0, _, rfl, by omega, rfl, HS⟩
        case round =>
          clear HS
          obtain ⟨j, v', hv', hj, rfl, HS⟩ := hrel
          obtain rfl := hv'.symm
          clear hv'
          obtain ⟨c0, c1, c2⟩ : wr.cell? ⟨b, off + i * 3, none⟩ = some (.int .i64 0) ∧ wr.cell? ⟨b, off + i * 3 + 1, none⟩ = some (.int .i64 (M : Int)) ∧ wr.cell? ⟨b, off + i * 3 + 2, none⟩ = some (.int .i64 (D : Int)) := HTc.out wr HS.out.2
          by_cases hjn : j < M
          · have hjz : (j : Int) < (M : Int) := by omega
            have hcl := cop_len xs D j
            have HY : Hid (cop xs D (j + 1) = cop xs D j ++ [yb (cop xs D j) ((cop xs D j).length - D)]) := rfl
            obtain ⟨r, hr⟩ : ∃ r, r = (cop xs D j).length - D := ⟨_, rfl⟩
            rw [← hr] at HY
            obtain ⟨g, cp, rfl, cy⟩ := HS.out.1.cell r (by omega)
            have hrr : ((cop xs D j).length : Int) - (D : Int) = (r : Int) := by omega
            have hrl : (r : Int) < ((cop xs D j).length : Int) := by omega
            have hL9 : (cop xs D j).length ≤ 10000 := by omega
            generalize cop xs D j = ys at *
            generalize yb ys r = y at *
            clear hcl hr
            go_wp2_with (first
              | (refine wpList_byte rfl _ _ rfl rfl w.heap.size (.slice (some ⟨g, 0, none⟩) ys.length cp) ys rfl ?hown wr.heap.size y rfl ?hR ?hb ?hn ?_; (case hown => exact HS.out.1.keptF ((Keeps.refl _ _).alloc _)); (case hR => exact heap_alloc_new _ _); (case hb => exact (HS.out.2.alloc _).size); (case hn => omega); intro g4 cp4 w4 hO4 hG4 hg4; have HS4 : Hid (OwnB w4 w.heap.size (.slice (some ⟨g4, 0, none⟩) (ys.length + 1) cp4) (ys ++ [y]) ∧ Keeps (fun _ => False) w w4) := ⟨hO4, keep_own HS.out.1 HS.out.2 hG4⟩; clear hO4 hG4 hg4 c0 c1 c2 cy))
            go_roundw
            case rel => exact ⟨j + 1, _, rfl, by omega, by push_cast; rfl, by rw [HY.out]; exact HS4.out.1, HS4.out.2⟩
            case measure => simp [intOf]; omega
          · obtain rfl : j = M := by omega
            have HW4 := HX.out wr v' HS.out.1 HS.out.2
            have HW5 : Hid (Now w wr v' ts (i + 1) (cop xs D j)) := HW4
            clear HW4
            go_wp2
            go_roundw
            case rel => exact ⟨i + 1, _, _, rfl, by omega, by push_cast; rfl, HW5⟩
            case measure => simp [intOf]; omega
    · obtain rfl : i = N := by omega
      have hE : xs = expF [] ts := by
        have := HW.out.2.1
        rw [← HN.out, List.drop_length] at this; exact this
      have hcv := HW.out.1.text Tryz.underlying84 HW.out.2.2.2.1
      rw [hE] at hcv
      clear hE
      go_wp2
      go_ret2
      exact ⟨rfl, HW.out.2.2.2.2.2⟩

end Go.Proofs.YtfbghchgfbjogaaGreat.Mt

namespace Go.Proofs.YtfbghchgfbjogaaGreat.Bk
open Go.RowKit
open Hf Tb
open Mt (Tk RowT TkAt tk Tkb tk_eq)
set_option linter.unusedVariables false
set_option linter.unusedSimpArgs false

theorem take_succ_tk (ts : List Tk) (i : Nat) (h : i < ts.length) : ts.take (i + 1) = ts.take i ++ [tk ts i] := by
  rw [tk_eq i h]; simp
theorem tksB_snoc (ys ds : List Int) (xs : List Tk) (t : Tk) : tksB ys ds (xs ++ [t]) = tksB ys ds xs ++ tkB ys ds t := by simp [tksB]
theorem tkB_len {ys ds : List Int} (hF : Full ys ds) (t : Tk) (a : Int) (ho : Mt.okT t a = true) (hh : hasT ys ds t) : (tkB ys ds t).length ≤ 48 := by
  have key : ∀ (zs : List Int) (i : Nat), may zs = true → (codeB zs i).length ≤ 15 := fun zs i hm => by
    rw [codeB_length]
    by_cases hi : i < zs.length
    · have := may_at hm i hi; rw [at_eq i hi]; omega
    · unfold at_; rw [List.getD, List.getElem?_eq_none (by omega)]; simp
  obtain ⟨h1, h2⟩ := Mt.okT_iff ho
  unfold tkB
  rcases h1 with h1 | h1
  · have hb := Mt.isB_iff h1
    rw [if_pos hb.2.2.1]
    have := key ys t.1.toNat hF.m1; omega
  · have hb := Mt.isC_iff h1
    rw [if_neg (by omega)]
    obtain ⟨x, hx⟩ : ∃ x : Nat, t.2.1 = (x : Int) := ⟨t.2.1.toNat, by omega⟩
    obtain ⟨y, hy⟩ : ∃ y : Nat, t.2.2 = (y : Int) := ⟨t.2.2.toNat, by omega⟩
    obtain ⟨j, e, j1, j2, j3, j4, j5⟩ := symL_is x (by omega) (by omega)
    obtain ⟨k, f, k1, k2, k3, k4, k5⟩ := symD_is y (by omega) (by omega)
    rw [hx, hy, j2, k2]
    simp only [moreB, Int.toNat_natCast, List.length_append, bitsOf_length]
    have := key ys (257 + j) hF.m1
    have := key ds k hF.m2
    omega
theorem tksB_len {ys ds : List Int} (hF : Full ys ds) : ∀ (ts : List Tk), (∀ t ∈ ts, ∃ a, Mt.okT t a = true) → (∀ t ∈ ts, hasT ys ds t) → (tksB ys ds ts).length ≤ 48 * ts.length
  | [], _, _ => by simp [tksB]
  | t :: r, ho, hh => by
    obtain ⟨a, ha⟩ := ho t (by simp)
    have h1 := tkB_len hF t a ha (hh t (by simp))
    have h2 := tksB_len hF r (fun x hx => ho x (by simp [hx])) (fun x hx => hh x (by simp [hx]))
    have e : tksB ys ds (t :: r) = tkB ys ds t ++ tksB ys ds r := by simp [tksB]
    rw [e, List.length_append, List.length_cons]; omega
/-- A row of tokens, where none of them or its block has not turned. -/
theorem RowT.keptN {S : Nat → Prop} {w w' : World} {a : Option Addr} {ts : List Tk} (h : RowT w a ts) (hk : Keeps S w w') (hb : ts = [] ∨ ∀ x, a = some x → ¬ S x.block) : RowT w' a ts := by
  rcases hb with e | hb
  · exact .inl e
  · exact Mt.RowT.kept h hk hb
theorem RowT.low {w : World} {a : Option Addr} {ts : List Tk} (h : RowT w a ts) : ts = [] ∨ ∀ x, a = some x → x.block < w.heap.size := by
  rcases h with h | ⟨b, off, rfl, h1, _⟩
  · exact .inl h
  · exact .inr (fun x e => by cases e; exact h1)
theorem RowT.cell {w : World} {ts : List Tk} {b off i : Nat} (h : RowT w (some ⟨b, off, none⟩) ts) (hi : i < ts.length) : TkAt w b (off + i * 3) (tk ts i) := by
  rcases h with h | ⟨b', off', e, _, h2⟩
  · subst h; simp at hi
  · cases e; exact h2 i hi

end Go.Proofs.YtfbghchgfbjogaaGreat.Bk

namespace Go.Proofs.YtfbghchgfbjogaaGreat.Bk
open Hf Tb
open Mt (Tk expF putT mayF okT sz sumZ)
set_option linter.unusedVariables false
set_option linter.unusedSimpArgs false

def upN (ys : List Int) (least : Nat) : Nat → Nat
  | 0 => 0
  | n + 1 => if least < n + 1 ∧ at_ ys n = 0 then upN ys least n else n + 1
def upL (ys : List Int) (least : Nat) : Nat := upN ys least ys.length
def cutL (ys : List Int) (least : Nat) : List Int := ys.take (upL ys least)
theorem upN_le (ys : List Int) (least : Nat) : ∀ n, upN ys least n ≤ n
  | 0 => Nat.le_refl _
  | n + 1 => by rw [upN]; split; exact Nat.le_succ_of_le (upN_le ys least n); exact Nat.le_refl _
theorem upN_ge (ys : List Int) (least : Nat) : ∀ n, least ≤ n → least ≤ upN ys least n
  | 0, h => by simp [upN]; omega
  | n + 1, h => by
    rw [upN]; split
    · rename_i hc; exact upN_ge ys least n (by omega)
    · exact h
theorem upN_zero (ys : List Int) (least : Nat) : ∀ n i, upN ys least n ≤ i → i < n → at_ ys i = 0
  | 0, i, _, h => by omega
  | n + 1, i, h1, h2 => by
    rw [upN] at h1
    split at h1
    · rename_i hc
      by_cases e : i = n
      · subst e; exact hc.2
      · exact upN_zero ys least n i h1 (by omega)
    · omega
theorem cutL_length (ys : List Int) (least : Nat) : (cutL ys least).length = upL ys least := by
  have := upN_le ys least ys.length
  unfold cutL upL; rw [List.length_take]; omega
theorem upL_le (ys : List Int) (least : Nat) : upL ys least ≤ ys.length := upN_le _ _ _
theorem upL_ge (ys : List Int) (least : Nat) (h : least ≤ ys.length) : least ≤ upL ys least := upN_ge _ _ _ h
theorem at_take (ys : List Int) (n i : Nat) (h : i < n) : at_ (ys.take n) i = at_ ys i := by
  unfold at_; rw [List.getD, List.getD, List.getElem?_take, if_pos h]
theorem at_out (ys : List Int) (i : Nat) (h : ys.length ≤ i) : at_ ys i = 0 := by
  unfold at_; rw [List.getD, List.getElem?_eq_none h]; rfl
theorem cut_at (ys : List Int) (least i : Nat) : at_ (cutL ys least) i = at_ ys i := by
  by_cases h : i < upL ys least
  · exact at_take ys _ i h
  · rw [at_out _ _ (by rw [cutL_length]; omega)]
    by_cases h2 : i < ys.length
    · exact (upN_zero ys least ys.length i (by unfold upL at h; omega) h2).symm
    · exact (at_out _ _ (by omega)).symm
theorem cut_rest (ys : List Int) (least : Nat) : ∀ y ∈ ys.drop (upL ys least), y = 0 := by
  intro y hy
  obtain ⟨i, hi, rfl⟩ := List.mem_iff_getElem.1 hy
  rw [List.length_drop] at hi
  rw [List.getElem_drop, ← at_eq]
  exact upN_zero ys least ys.length _ (by unfold upL; omega) (by omega)
theorem cut_cnt (ys : List Int) (least b : Nat) (hb : 0 < b) : cnt (cutL ys least) b = cnt ys b := by
  unfold cnt
  conv => rhs; rw [← List.take_append_drop (upL ys least) ys, List.countP_append]
  have : (ys.drop (upL ys least)).countP (fun y => y == (b : Int)) = 0 := by
    rw [List.countP_eq_zero]
    intro y hy
    rw [cut_rest ys least y hy]
    simp; omega
  rw [this]; rfl
theorem cut_cn (ys : List Int) (least : Nat) : cn (cutL ys least) = cn ys := by
  funext b
  unfold cn
  split
  · rfl
  · exact cut_cnt ys least b (by omega)
theorem cut_room (ys : List Int) (least : Nat) : room (cutL ys least) = room ys := by unfold room; rw [cut_cn]
theorem cut_codeV (ys : List Int) (least i : Nat) : codeV (cutL ys least) i = codeV ys i := by
  unfold codeV
  rw [cut_at, cut_cn]
  by_cases h : 0 < at_ ys i
  · have hi : i < upL ys least := by
      have h2 : i < (cutL ys least).length := lt_of_at (by rw [cut_at]; exact h)
      rw [cutL_length] at h2; exact h2
    have e : (cutL ys least).take i = ys.take i := by unfold cutL; rw [List.take_take, Nat.min_eq_left (by omega)]
    rw [e]
  · rw [decide_eq_false h]; rfl
theorem cut_codeB (ys : List Int) (least i : Nat) : codeB (cutL ys least) i = codeB ys i := by unfold codeB; rw [cut_at, cut_codeV]
theorem cut_tkB (ys ds : List Int) (a b : Nat) (t : Tk) : tkB (cutL ys a) (cutL ds b) t = tkB ys ds t := by
  unfold tkB; simp only [cut_codeB]
theorem cut_tksB (ys ds : List Int) (a b : Nat) (ts : List Tk) : tksB (cutL ys a) (cutL ds b) ts = tksB ys ds ts := by
  unfold tksB
  have : tkB (cutL ys a) (cutL ds b) = tkB ys ds := funext (cut_tkB ys ds a b)
  rw [this]
theorem cut_hasT {ys ds : List Int} {a b : Nat} {t : Tk} (h : hasT ys ds t) : hasT (cutL ys a) (cutL ds b) t := by
  unfold hasT at *; simp only [cut_at]; exact h
theorem cut_may {ys : List Int} {least : Nat} (h : may ys = true) (h1 : 1 ≤ least) (h2 : least ≤ ys.length) : may (cutL ys least) = true := by
  have hl := may_len h
  have hu := upL_ge ys least h2
  have hv := upL_le ys least
  simp only [may, Bool.and_eq_true, decide_eq_true_eq, List.all_eq_true] at h ⊢
  rw [cutL_length]
  exact ⟨⟨by omega, by omega⟩, fun x hx => h.2 x (List.mem_of_mem_take hx)⟩
theorem errC_of {ys : List Int} (h : may ys = true) (hr : room ys = 32768) : errC ys = 0 := by
  unfold errC; rw [h, hr]; rfl

def rowOf (cl : List Int) : List Int := rowL.map (at_ cl)
def threeB (row : List Int) : Bts := row.flatMap (fun n => bitsOf n.toNat 3)
def codesB (cl : List Int) (all : List Int) : Bts := all.flatMap (fun n => codeB cl n.toNat)
theorem threes_put : ∀ (row acc : List Int) (M : Bts), (∀ n ∈ row, 0 ≤ n ∧ n < 8) → threes row.length acc (threeB row ++ M) = some (acc ++ row, M)
  | [], acc, M, _ => by simp [threes, threeB, retL]
  | n :: r, acc, M, h => by
    obtain ⟨h1, h2⟩ := h n (by simp)
    have e : threeB (n :: r) ++ M = bitsOf n.toNat 3 ++ (threeB r ++ M) := by simp [threeB]
    rw [e, List.length_cons, threes, bnd_eq (getL_put n.toNat 3 (by omega) _), threes_put r _ M (fun x hx => h x (by simp [hx]))]
    rw [Int.toNat_of_nonneg h1]
    simp
theorem runs_put {cl : List Int} (hm : may cl = true) (hr : room cl ≤ 32768) (many : Nat) : ∀ (all out : List Int) (M : Bts), (∀ n ∈ all, 0 ≤ n ∧ n < 16 ∧ 0 < at_ cl n.toNat) → out.length + all.length = many → runs cl many out (codesB cl all ++ M) = some (out ++ all, M)
  | [], out, M, _, hl => by
    simp only [codesB, List.flatMap_nil, List.nil_append, List.append_nil]
    exact runs_done (by simpa using hl)
  | n :: r, out, M, h, hl => by
    obtain ⟨h1, h2, h3⟩ := h n (by simp)
    have e : codesB cl (n :: r) ++ M = codeB cl n.toNat ++ (codesB cl r ++ M) := by simp [codesB]
    have hr1 : rle n.toNat out (codesB cl r ++ M) = some ([n], codesB cl r ++ M) := by
      unfold rle
      rw [if_neg (by omega), if_neg (by omega), if_neg (by omega), Int.toNat_of_nonneg h1]; rfl
    rw [List.length_cons] at hl
    rw [e, runs_next (by omega) (symN_code hm hr (lt_of_at h3) h3 _) hr1, runs_put hm hr many r (out ++ [n]) M (fun x hx => h x (by simp [hx])) (by simp; omega)]
    simp
theorem rowL_len : rowL.length = 19 := rfl
theorem rowOf_length (cl : List Int) : (rowOf cl).length = 19 := by simp [rowOf, rowL_len]
theorem rowL_posR : ∀ j : Fin 19, posR j.val < 19 ∧ rowL.getD (posR j.val) 0 = j.val := by decide +kernel
theorem clOf_row (cl : List Int) (h : cl.length = 19) (least : Nat) : clOf (cutL (rowOf cl) least) = cl := by
  apply List.ext_getElem?
  intro j
  by_cases hj : j < 19
  · obtain ⟨p1, p2⟩ := rowL_posR ⟨j, hj⟩
    simp only at p1 p2
    have e : (cutL (rowOf cl) least).getD (posR j) 0 = at_ cl j := by
      have := cut_at (rowOf cl) least (posR j)
      unfold at_ at this
      rw [this]
      unfold rowOf
      rw [List.getD, List.getElem?_map]
      have hg : rowL[posR j]? = some j := by
        rw [List.getElem?_eq_getElem (by rw [rowL_len]; exact p1)]
        rw [List.getD, List.getElem?_eq_getElem (by rw [rowL_len]; exact p1)] at p2
        simpa using p2
      rw [hg]; rfl
    simp only [clOf, List.getElem?_map, List.getElem?_range hj, Option.map_some, e]
    unfold at_
    rw [List.getD, List.getElem?_eq_getElem (by omega)]; rfl
  · rw [List.getElem?_eq_none (by simp [clOf]; omega), List.getElem?_eq_none (by omega)]

/-- What lengths of a dynamic block are like: of bytes, of distances, of lengths. -/
structure Dyn3 (A B C : List Int) : Prop where
  lA : A.length = 286
  mA : may A = true
  rA : room A = 32768
  eA : 0 < at_ A 256
  lB : B.length = 30
  mB : may B = true
  rB : room B = 32768 ∨ ∀ y ∈ B, y = 0
  lC : C.length = 19
  mC : may C = true
  rC : room C = 32768
  sC : ∀ n ∈ C, n < 8
  hC : ∀ n ∈ cutL A 257 ++ cutL B 1, 0 < at_ C n.toNat
def hdrB (A B C : List Int) : Bts :=
  bitsOf (upL A 257 - 257) 5 ++ (bitsOf (upL B 1 - 1) 5 ++ (bitsOf (upL (rowOf C) 4 - 4) 4 ++ (threeB (cutL (rowOf C) 4) ++ codesB C (cutL A 257 ++ cutL B 1))))
theorem room_zero (ys : List Int) (h : ∀ y ∈ ys, y = 0) : room ys = 0 := by
  have hc : ∀ n, cn ys n = 0 := fun n => by
    unfold cn; split
    · rfl
    · unfold cnt
      rw [List.countP_eq_zero]
      intro y hy; rw [h y hy]; simp; omega
  have : ∀ n, sumTo (cn ys) n = 0 := fun n => by
    induction n with
    | zero => rfl
    | succ n ih => rw [sumTo, ih, hc]; simp
  exact this 16
theorem sum_zero (ys : List Int) (h : ∀ y ∈ ys, y = 0) : ys.sum = 0 := by
  induction ys with
  | nil => rfl
  | cons y r ih => rw [List.sum_cons, ih (fun x hx => h x (by simp [hx])), h y (by simp)]; rfl
theorem Dyn3.full {A B C : List Int} (h : Dyn3 A B C) : Full (cutL A 257) (cutL B 1) where
  m1 := cut_may h.mA (by decide) (by rw [h.lA]; decide)
  r1 := by rw [cut_room, h.rA]; exact Nat.le_refl _
  m2 := cut_may h.mB (by decide) (by rw [h.lB]; decide)
  r2 := by
    rw [cut_room]
    rcases h.rB with e | e
    · rw [e]; exact Nat.le_refl _
    · rw [room_zero B e]; decide
theorem dynH_put {A B C : List Int} (h : Dyn3 A B C) (M : Bts) : dynH (hdrB A B C ++ M) = some ((cutL A 257, cutL B 1), M) := by
  have a1 := upL_ge A 257 (by rw [h.lA]; decide)
  have a2 := upL_le A 257
  have b1 := upL_ge B 1 (by rw [h.lB]; decide)
  have b2 := upL_le B 1
  have c1 := upL_ge (rowOf C) 4 (by rw [rowOf_length]; decide)
  have c2 := upL_le (rowOf C) 4
  rw [h.lA] at a2
  rw [h.lB] at b2
  rw [rowOf_length] at c2
  unfold hdrB
  simp only [List.append_assoc]
  unfold dynH
  rw [bnd_eq (aboveL_put 257 _ 5 (by omega) _), bnd_eq (aboveL_put 1 _ 5 (by omega) _), if_neg (by omega), bnd_eq (aboveL_put 4 _ 4 (by omega) _)]
  have e1 : 257 + (upL A 257 - 257) = (cutL A 257).length := by rw [cutL_length]; omega
  have e2 : 1 + (upL B 1 - 1) = (cutL B 1).length := by rw [cutL_length]; omega
  have e3 : 4 + (upL (rowOf C) 4 - 4) = (cutL (rowOf C) 4).length := by rw [cutL_length]; omega
  rw [e1, e2, e3]
  have ht := threes_put (cutL (rowOf C) 4) [] (codesB C (cutL A 257 ++ cutL B 1) ++ M) (by
    intro n hn
    have hn2 : n ∈ rowOf C := List.mem_of_mem_take hn
    simp only [rowOf, List.mem_map] at hn2
    obtain ⟨j, hj, rfl⟩ := hn2
    have hj19 : j < 19 := by
      have : ∀ j ∈ rowL, j < 19 := by decide
      exact this j hj
    rw [at_eq j (by rw [h.lC]; exact hj19)]
    have := may_at h.mC j (by rw [h.lC]; exact hj19)
    exact ⟨this.1, h.sC _ (List.getElem_mem _)⟩)
  rw [bnd_eq ht, List.nil_append]
  unfold dynC
  rw [clOf_row C h.lC, if_pos (errC_of h.mC h.rC)]
  have hr := runs_put h.mC (by rw [h.rC]; exact Nat.le_refl _) ((cutL A 257).length + (cutL B 1).length) (cutL A 257 ++ cutL B 1) [] M (by
    intro n hn
    refine ⟨?_, ?_, h.hC n hn⟩
    all_goals
      rw [List.mem_append] at hn
      rcases hn with hn | hn
      · obtain ⟨i, hi, rfl⟩ := List.mem_iff_getElem.1 (List.mem_of_mem_take hn)
        have := may_at h.mA i hi; omega
      · obtain ⟨i, hi, rfl⟩ := List.mem_iff_getElem.1 (List.mem_of_mem_take hn)
        have := may_at h.mB i hi; omega) (by simp)
  rw [bnd_eq hr, List.nil_append]
  unfold dynP
  rw [List.take_left, List.drop_left]
  have h1 : mayB (cutL A 257) = true := by
    unfold mayB
    rw [errC_of h.full.m1 (by rw [cut_room, h.rA]), cut_at, decide_eq_true h.eA]; rfl
  have h2 : mayD (cutL B 1) = true := by
    unfold mayD
    rcases h.rB with e | e
    · rw [errC_of h.full.m2 (by rw [cut_room, e]), decide_eq_true rfl, Bool.or_true]
    · rw [sum_zero (cutL B 1) (fun y hy => e y (List.mem_of_mem_take hy))]; rfl
  rw [h1, h2]; rfl

/-- The bits of a block, of its kind. -/
def fixedB (ts : List Tk) : Bts := bitsOf 1 1 ++ (bitsOf 1 2 ++ (tksB fixLs fiveLs ts ++ codeB fixLs 256))
def dynB (A B C : List Int) (ts : List Tk) : Bts := bitsOf 1 1 ++ (bitsOf 2 2 ++ (hdrB A B C ++ (tksB A B ts ++ codeB A 256)))
def storeB (s : List Nat) : Bts := bitsOf 1 8 ++ (bitsOf s.length 16 ++ (bitsOf (65535 - s.length) 16 ++ bitsL s))
theorem full_fix : Full fixLs fiveLs := ⟨by decide +kernel, by decide +kernel, by decide +kernel, by decide +kernel⟩
theorem fix_at : ∀ i : Fin 288, 0 < at_ fixLs i.val := by decide +kernel
theorem five_at : ∀ i : Fin 30, 0 < at_ fiveLs i.val := by decide +kernel
theorem hasT_fix (t : Tk) (a : Int) (h : okT t a = true) : hasT fixLs fiveLs t := by
  obtain ⟨h1, h2⟩ := Mt.okT_iff h
  unfold hasT
  rcases h1 with h1 | h1
  · have hb := Mt.isB_iff h1
    rw [if_pos hb.2.2.1]
    exact fix_at ⟨t.1.toNat, by omega⟩
  · have hb := Mt.isC_iff h1
    rw [if_neg (by omega)]
    obtain ⟨x, hx⟩ : ∃ x : Nat, t.2.1 = (x : Int) := ⟨t.2.1.toNat, by omega⟩
    obtain ⟨y, hy⟩ : ∃ y : Nat, t.2.2 = (y : Int) := ⟨t.2.2.toNat, by omega⟩
    obtain ⟨j, e, j1, j2, j3, j4, j5⟩ := symL_is x (by omega) (by omega)
    obtain ⟨k, f, k1, k2, k3, k4, k5⟩ := symD_is y (by omega) (by omega)
    rw [hx, hy, j2, k2]
    exact ⟨fix_at ⟨257 + j, by omega⟩, five_at ⟨k, by omega⟩⟩
theorem mayF_ok : ∀ (ts : List Tk) (a : Int), mayF a ts = true → ∀ t ∈ ts, ∃ c, okT t c = true
  | [], a, _, t, ht => by cases ht
  | x :: r, a, h, t, ht => by
    simp only [mayF, Bool.and_eq_true] at h
    rcases List.mem_cons.1 ht with rfl | ht
    · exact ⟨a, h.1⟩
    · exact mayF_ok r _ h.2 t ht
theorem fixed_read (most : Nat) (ts : List Tk) (h : mayF 0 ts = true) (hm : sumZ ts ≤ most) (M : Bts) : blocks most (fixedB ts ++ M) [] = .ok (M, expF [] ts) := by
  unfold fixedB
  simp only [List.append_assoc]
  refine blocks_last (getL_put 1 1 (by decide) _) (getL_put 1 2 (by decide) _) ?_
  unfold inside
  rw [if_neg (by decide), if_pos rfl]
  exact coded_toks full_fix (fix_at ⟨256, by decide⟩) most ts [] h (fun t ht => by obtain ⟨c, hc⟩ := mayF_ok ts _ h t ht; exact hasT_fix t c hc) (by simp; omega) M
theorem dyn_read {A B C : List Int} (h3 : Dyn3 A B C) (most : Nat) (ts : List Tk) (h : mayF 0 ts = true) (hh : ∀ t ∈ ts, hasT A B t) (hm : sumZ ts ≤ most) (M : Bts) : blocks most (dynB A B C ts ++ M) [] = .ok (M, expF [] ts) := by
  unfold dynB
  simp only [List.append_assoc]
  refine blocks_last (getL_put 1 1 (by decide) _) (getL_put 2 2 (by decide) _) ?_
  unfold inside
  rw [if_neg (by decide), if_neg (by decide), if_pos rfl, thenE_eq (dynH_put h3 _)]
  simp only
  have := coded_toks h3.full (by rw [cut_at]; exact h3.eA) most ts [] h (fun t ht => cut_hasT (hh t ht)) (by simp; omega) M
  rw [cut_tksB, cut_codeB] at this
  exact this
/-- A text whose bits are these, with zeros up to a whole byte; bytes behind. -/
theorem inflB_of (L : Bts) (most : Nat) (o more : List Nat) (h : ∀ M, blocks most (L ++ M) [] = .ok (M, o)) (k : Nat) (hk : (k : Int) = most) (h8 : most ≤ 8192) : inflP (pack L ++ more) (k : Int) = .ok (o, (pack L).length) := by
  have hp := pack_length L
  have e : bitsL (pack L) = L ++ List.replicate ((L.length + 7) / 8 * 8 - L.length) false := by
    have h1 := pack_align L
    have h2 := readBits_pack [] (L ++ List.replicate ((L.length + 7) / 8 * 8 - L.length) false) []
    simp only [List.nil_append, List.append_nil, List.length_nil] at h2
    rw [h1] at h2
    unfold bitsL
    rw [hp]
    rw [← h2]
    congr 1
    simp; omega
  obtain rfl : k = most := by omega
  unfold inflP
  rw [if_pos (by omega), Int.toNat_natCast]
  unfold inflB
  rw [bitsL_append, e, List.append_assoc, h]
  simp only [Except.ok.injEq, Prod.mk.injEq, true_and, List.length_append, List.length_replicate, bitsL_len, hp]
  omega
theorem stored_read (most : Nat) (s : List Nat) (hs : ∀ c ∈ s, c < 256) (hl : s.length ≤ 65535) (hm : s.length ≤ most) (M : List Nat) : blocks most (storeB s ++ bitsL M) [] = .ok (bitsL M, s) := by
  have e0 : bitsOf 1 8 = bitsOf 1 1 ++ (bitsOf 0 2 ++ List.replicate 5 false) := by decide
  unfold storeB
  rw [e0]
  simp only [List.append_assoc]
  refine blocks_last (getL_put 1 1 (by decide) _) (getL_put 0 2 (by decide) _) ?_
  unfold inside
  rw [if_pos rfl]
  unfold stored
  have ha : alignL (List.replicate 5 false ++ (bitsOf s.length 16 ++ (bitsOf (65535 - s.length) 16 ++ (bitsL s ++ bitsL M)))) = bitsOf s.length 16 ++ (bitsOf (65535 - s.length) 16 ++ (bitsL s ++ bitsL M)) := by
    unfold alignL
    have : (List.replicate 5 false ++ (bitsOf s.length 16 ++ (bitsOf (65535 - s.length) 16 ++ (bitsL s ++ bitsL M)))).length % 8 = 5 := by
      simp only [List.length_append, List.length_replicate, bitsOf_length, bitsL_len]; omega
    rw [this]
    exact List.drop_left' (by simp)
  rw [ha]
  unfold storedH
  rw [thenE_eq (getL_put s.length 16 (by omega) _), thenE_eq (getL_put (65535 - s.length) 16 (by omega) _), if_pos (by omega), storedB_bytes most s (bitsL M) [] hs (by simp)]
  rw [if_pos (by simpa using hm)]; simp
theorem bitsL_pack8 (L : Bts) (n : Nat) (h : L.length = 8 * n) : bitsL (pack L) = L := by
  have h2 := readBits_pack [] L []
  simp only [List.nil_append, List.append_nil, List.length_nil] at h2
  unfold bitsL
  rw [pack_length]
  rw [show 8 * ((L.length + 7) / 8) = L.length by omega]; exact h2
theorem storeB_length (s : List Nat) : (storeB s).length = 8 * (5 + s.length) := by
  simp only [storeB, List.length_append, bitsOf_length, bitsL_len]; omega
theorem inflB_stored (s more : List Nat) (hs : ∀ c ∈ s, c < 256) (hl : s.length ≤ 8192) (most : Nat) (hm : s.length ≤ most) (h8 : most ≤ 8192) : inflP (pack (storeB s) ++ more) (most : Int) = .ok (s, (pack (storeB s)).length) := by
  unfold inflP
  rw [if_pos (by omega), Int.toNat_natCast]
  unfold inflB
  rw [bitsL_append, bitsL_pack8 _ _ (storeB_length s), stored_read most s hs (by omega) hm more]
  simp only [Except.ok.injEq, Prod.mk.injEq, true_and, List.length_append, bitsL_len]
  omega

end Go.Proofs.YtfbghchgfbjogaaGreat.Bk

namespace Go.Proofs.YtfbghchgfbjogaaGreat.Lm
open Go.RowKit
set_option linter.unusedVariables false
set_option linter.unusedSimpArgs false

def at_ (ys : List Int) (i : Nat) : Int := ys.getD i 0
theorem at_eq {ys : List Int} (i : Nat) (hi : i < ys.length) : at_ ys i = ys[i] := by simp [at_, List.getD, List.getElem?_eq_getElem hi]
theorem at_append_left (ys zs : List Int) (i : Nat) (h : i < ys.length) : at_ (ys ++ zs) i = at_ ys i := by
  simp [at_, List.getD, List.getElem?_append_left h]
theorem at_append_right (ys zs : List Int) (i : Nat) : at_ (ys ++ zs) (ys.length + i) = at_ zs i := by
  simp [at_, List.getD, List.getElem?_append_right]
theorem at_set (ys : List Int) (i j : Nat) (v : Int) : at_ (ys.set i v) j = if i = j ∧ i < ys.length then v else at_ ys j := by
  unfold at_
  rw [List.getD, List.getD, List.getElem?_set]
  by_cases e : i = j
  · subst e
    by_cases h : i < ys.length
    · simp [h]
    · simp [h, List.getElem?_eq_none (Nat.le_of_not_lt h)]
  · simp [e]
theorem at_ext {ys zs : List Int} (hl : ys.length = zs.length) (h : ∀ i, i < ys.length → at_ ys i = at_ zs i) : ys = zs := by
  apply List.ext_getElem hl
  intro i h1 h2
  have := h i h1
  rwa [at_eq i h1, at_eq i h2] at this

/-- What is known of a slice of ints. -/
def Row (w : World) (a : Option Addr) (ys : List Int) : Prop :=
  ys = [] ∨ ∃ b off, a = some ⟨b, off, none⟩ ∧ b < w.heap.size ∧ ∀ i (h : i < ys.length), w.cell? ⟨b, off + i, none⟩ = some (.int .i64 ys[i])
theorem Row.kept {S : Nat → Prop} {w w' : World} {a : Option Addr} {ys : List Int} (h : Row w a ys) (hk : Keeps S w w') (hb : ∀ x, a = some x → ¬ S x.block) : Row w' a ys := by
  rcases h with h | ⟨b, off, rfl, h1, h2⟩
  · exact .inl h
  · refine .inr ⟨b, off, rfl, Nat.lt_of_lt_of_le h1 hk.size, fun i hi => ?_⟩
    rw [World.cell?_of_block (hk.block b h1 (hb _ rfl))]; exact h2 i hi
theorem Row.keptF {w w' : World} {a : Option Addr} {ys : List Int} (h : Row w a ys) (hk : Keeps (fun _ => False) w w') : Row w' a ys := h.kept hk (fun _ _ h => h)
theorem Row.spot {w : World} {a : Option Addr} {ys : List Int} (h : Row w a ys) (hn : 0 < ys.length) :
    ∃ b off, a = some ⟨b, off, none⟩ ∧ b < w.heap.size ∧ ∀ i (h : i < ys.length), w.cell? ⟨b, off + i, none⟩ = some (.int .i64 ys[i]) := by
  rcases h with h | h
  · subst h; simp at hn
  · exact h
theorem Row.at {w : World} {a : Option Addr} {ys : List Int} (h : Row w a ys) (hn : 0 < ys.length) : ∃ b off, a = some ⟨b, off, none⟩ ∧ b < w.heap.size ∧ ∀ w', Keeps (fun _ => False) w w' → ∀ i, i < ys.length → w'.cell? ⟨b, off + i, none⟩ = some (.int .i64 (at_ ys i)) := by
  obtain ⟨b, off, rfl, hb, hc⟩ := h.spot hn
  refine ⟨b, off, rfl, hb, fun w' hk i hi => ?_⟩
  rw [World.cell?_of_block (hk.block b hb (fun h => h)), hc i hi, at_eq i hi]
theorem Row.lit (w : World) (ys : List Int) (t : TypeId) : Row (w.alloc (.cells (ys.map (fun y => Value.int .i64 y)).toArray t)) (some ⟨w.heap.size, 0, none⟩) ys := by
  refine .inr ⟨w.heap.size, 0, rfl, by simp, fun i hi => ?_⟩
  exact cell_of_heap (heap_alloc_new _ _) (by simp [hi])

def intsV (ys : List Int) : List Value := ys.map (fun y => Value.int .i64 y)
theorem intsV_get (ys : List Int) (i : Nat) (h : i < ys.length) : (intsV ys)[i]? = some (.int .i64 (at_ ys i)) := by
  simp [intsV, at_eq i h, List.getElem?_eq_getElem h]
theorem intsV_append (ys zs : List Int) : intsV (ys ++ zs) = intsV ys ++ intsV zs := by simp [intsV]
theorem intsV_set (ys : List Int) (i : Nat) (v : Int) : (intsV ys).set i (.int .i64 v) = intsV (ys.set i v) := by simp [intsV, List.map_set]

/-- A block g of numbers that a call owns: a slice of it shows ys. -/
def Own (w : World) (g cap : Nat) (ys : List Int) : Prop := w.ownsRow 0 3 1 (.slice (some ⟨g, 0, none⟩) ys.length cap) ys.length (intsV ys)
theorem Own.lt {w : World} {g cap : Nat} {ys : List Int} (h : Own w g cap ys) : g < w.heap.size := (World.ownsRow.lt h g rfl).2
theorem Own.cell {w : World} {g cap : Nat} {ys : List Int} (h : Own w g cap ys) (i : Nat) (hi : i < ys.length) : w.cell? ⟨g, i, none⟩ = some (.int .i64 (at_ ys i)) := (owns_cell h i _ (intsV_get ys i hi)).1
theorem Own.free {w : World} {g cap : Nat} {ys : List Int} (h : Own w g cap ys) (i : Nat) (hi : i < ys.length) : w.frozen? ⟨g, i, none⟩ = false := (owns_cell h i _ (intsV_get ys i hi)).2
theorem Own.set {w : World} {g cap : Nat} {ys : List Int} (h : Own w g cap ys) (i : Nat) (v : Int) : Own (w.setCell ⟨g, i, none⟩ (.int .i64 v)) g cap (ys.set i v) := by
  have := owns_set h i (.int .i64 v)
  unfold Own
  rw [List.length_set, ← intsV_set]; exact this
theorem Own.kept {S : Nat → Prop} {w w' : World} {g cap : Nat} {ys : List Int} (h : Own w g cap ys) (hk : Keeps S w w') (hb : ¬ S g) : Own w' g cap ys :=
  owns_heap h (fun k e => by simp [Value.ownBlock] at e; subst e; exact hk.block g h.lt hb)
theorem Own.row {w : World} {g cap : Nat} {ys : List Int} (h : Own w g cap ys) : Row w (some ⟨g, 0, none⟩) ys :=
  .inr ⟨g, 0, rfl, h.lt, fun i hi => by rw [Nat.zero_add, h.cell i hi, at_eq i hi]⟩
theorem Own.cap {w : World} {g cap : Nat} {ys : List Int} (h : Own w g cap ys) : ys.length ≤ cap := by
  rcases h.2 with ⟨e, _⟩ | ⟨g', cap', cur, e, _, _, hn, _⟩
  · cases e
  · simp only [Value.slice.injEq] at e; omega

/-- A slice of ints that a call owns, nil too. -/
def OwnV (w : World) (base : Nat) (v : Value) (ys : List Int) : Prop := w.ownsRow base 3 1 v ys.length (intsV ys)
theorem OwnV.nil (w : World) (base : Nat) : OwnV w base (.slice none 0 0) [] := World.ownsRow_nil w base 3 1
theorem OwnV.form {w : World} {base : Nat} {v : Value} {ys : List Int} (h : OwnV w base v ys) : (v = .slice none 0 0 ∧ ys = []) ∨ ∃ g cap, v = .slice (some ⟨g, 0, none⟩) ys.length cap ∧ base ≤ g ∧ Own w g cap ys := by
  rcases h.2 with ⟨e, h0⟩ | ⟨g, cap, cur, e, hb, hr⟩
  · exact .inl ⟨e, List.length_eq_zero_iff.1 h0⟩
  · refine .inr ⟨g, cap, e, hb, ?_⟩
    exact ⟨h.1, .inr ⟨g, cap, cur, rfl, Nat.zero_le _, hr⟩⟩
theorem OwnV.row {w : World} {base : Nat} {v : Value} {ys : List Int} (h : OwnV w base v ys) : ∃ a cap, v = .slice a ys.length cap ∧ Row w a ys ∧ (∀ x, a = some x → base ≤ x.block) := by
  rcases h.form with ⟨rfl, rfl⟩ | ⟨g, cap, rfl, hb, ho⟩
  · exact ⟨none, 0, rfl, .inl rfl, by simp⟩
  · exact ⟨_, cap, rfl, ho.row, fun x e => by simp at e; subst e; exact hb⟩
theorem OwnV.kept {S : Nat → Prop} {w w' : World} {base : Nat} {v : Value} {ys : List Int} (h : OwnV w base v ys) (hk : Keeps S w w') (hb : ∀ k, v.ownBlock = some k → ¬ S k) : OwnV w' base v ys :=
  owns_heap h (fun k e => hk.block k (World.ownsRow.lt h k e).2 (hb k e))

set_option maxRecDepth 100000 in
/-- One number more behind a slice that the call owns. -/
theorem append_one (w : World) (base : Nat) (v : Value) (ys : List Int) (h : OwnV w base v ys) (x : Int) (b : Nat) (hx : w.heap[b]? = some (.cells #[.int .i64 x] 3 (0, 0))) (hb : base ≤ w.heap.size) (hn : ys.length ≤ 1000000) :
    ∃ g cap w', (Builtin.append_ #[22, 22] 22 #[v, .slice (some ⟨b, 0, none⟩) 1 1]).run Tryz.prog w = .ok (.slice (some ⟨g, 0, none⟩) (ys.length + 1) cap) w' ∧ OwnV w' base (.slice (some ⟨g, 0, none⟩) (ys.length + 1) cap) (ys ++ [x]) ∧ w.grownBy w' v.ownBlock ∧ (v.ownBlock = some g ∨ g = w.heap.size) := by
  obtain ⟨i, hi, h1, h2, h3⟩ : ∃ i, Tryz.prog.info? 3 = some i ∧ i.zero = some (.int .i64 0) ∧ i.bytes = 8 ∧ i.size = 1 := ⟨Tryz.t3, Tryz.type3, rfl, rfl, rfl⟩
  obtain ⟨g, cap, w', hr, ho, hg, hat, hlt⟩ := run_append_lies (P := Tryz.prog) w 22 22 base 3 i (.int .i64 0) 1 8 Tryz.underlying22 hi h1 h3 h2 rfl (by decide) v ys.length (intsV ys) h ⟨b, 0, none⟩ 1 1 [.int .i64 x] rfl (fun j u hu => by
      have hj : j = 0 := by have := (List.getElem?_eq_some_iff.1 hu).1; simp at this; omega
      subst hj
      simp at hu
      subst hu
      exact cell_of_heap hx rfl) (fun u hu => by simp at hu; subst hu; rfl) (by decide) (by unfold maxLen; omega) (by omega) hb _ rfl
  refine ⟨g, cap, w', hr, ?_, hg, hat⟩
  unfold OwnV
  rw [intsV_append, List.length_append]
  exact ho
theorem wpList_one {ops : Array Oper} {rest : List Oper} {o : Oper} {a : Act} {w : World} {Q : Exit → Act → World → Prop} (hgd : o.guard = none) (s x : Operand) (ho : o.op = .call { callee := .builtin .append, args := #[s, x], argTypes := #[22, 22] }) (hty : o.type = 22)
    (base : Nat) (v : Value) (ys : List Int) (hs : a.eval s = v) (hown : OwnV w base v ys) (b : Nat) (y : Int) (hx : a.eval x = .slice (some ⟨b, 0, none⟩) 1 1) (hR : w.heap[b]? = some (.cells #[.int .i64 y] 3 (0, 0))) (hb : base ≤ w.heap.size) (hn : ys.length ≤ 1000000)
    (h : ∀ g cap w', OwnV w' base (.slice (some ⟨g, 0, none⟩) (ys.length + 1) cap) (ys ++ [y]) → w.grownBy w' v.ownBlock → (v.ownBlock = some g ∨ g = w.heap.size) → wpList Tryz.prog ops Q rest (a.put o.dst (.slice (some ⟨g, 0, none⟩) (ys.length + 1) cap)) w') : wpList Tryz.prog ops Q (o :: rest) a w :=
  wpList_plain hgd fun _ hK => by
    obtain ⟨g, cap, w', hr, h2, h3, h4⟩ := append_one w base v ys hown y b hR hb hn
    unfold Oper.wp execOp
    simp only [ho, hty, resolve, invoke, builtin, Sem.run_bind, Sem.run_pure, Result.andThen_ok, List.map_toArray, List.map_cons, List.map_nil, hs, hx, hr]
    exact hK _ _ (h g cap w' h2 h3 h4)

set_option maxRecDepth 100000 in
theorem Own.made (w : World) (n : Nat) (hn : n ≤ 1000000) : ∃ w1, (Instr.makeSlice 22 (.int .i64 (n : Int)) (.int .i64 (n : Int))).run Tryz.prog w = .ok (.slice (some ⟨w.heap.size, 0, none⟩) n n) w1 ∧ Own w1 w.heap.size n (List.replicate n 0) ∧ Keeps (fun _ => False) w w1 := by
  obtain ⟨i, hi, h1, h2, h3⟩ : ∃ i, Tryz.prog.info? 3 = some i ∧ i.zero = some (.int .i64 0) ∧ i.bytes = 8 ∧ i.size = 1 := ⟨Tryz.t3, Tryz.type3, rfl, rfl, rfl⟩
  have hr := run_make (P := Tryz.prog) w 22 3 i _ Tryz.underlying22 hi h1 .i64 .i64 n n (by omega) (by omega) (by rw [h2]; omega) (by omega)
  refine ⟨_, by simpa using hr, ?_, (Keeps.refl _ w).alloc _⟩
  refine ⟨by simp [intsV], .inr ⟨_, _, _, by simp; rfl, Nat.zero_le _, heap_alloc_new _ _, by simp, by unfold maxLen; omega, by simp [madeCells, h3], ?_⟩⟩
  apply List.ext_getElem?
  intro j
  simp only [madeCells, h3, Value.cells]
  rw [List.getElem?_take]
  by_cases hj : j < n
  · rw [if_pos (by simp; omega), Array.getElem?_toList, Array.getElem?_map, Array.getElem?_range, if_pos (by omega)]; simp [hj, Nat.mod_one, intsV]
  · rw [if_neg (by simp; omega)]; simp [hj, intsV]
theorem wpList_ints {ops : Array Oper} {rest : List Oper} {op : Oper} {a : Act} {w : World} {Q : Exit → Act → World → Prop} (hgd : op.guard = none) (l c : Operand) (ho : op.op = .makeSlice 22 l c) (n : Nat) (hl : a.eval l = .int .i64 (n : Int)) (hc : a.eval c = .int .i64 (n : Int)) (hn : n ≤ 1000000)
    (h : ∀ g w1, Own w1 g n (List.replicate n 0) → Keeps (fun _ => False) w w1 → w.heap.size ≤ g → wpList Tryz.prog ops Q rest (a.put op.dst (.slice (some ⟨g, 0, none⟩) n n)) w1) : wpList Tryz.prog ops Q (op :: rest) a w :=
  wpList_plain hgd fun _ hK => by
    obtain ⟨w1, hr, hC, hk⟩ := Own.made w n hn
    unfold Oper.wp execOp
    simp only [ho, hl, hc, hr, Sem.run_bind, Sem.run_pure, Result.andThen_ok]
    exact hK _ _ (h w.heap.size _ hC hk (Nat.le_refl _))
theorem results_cell {fn : Func} {p : Tmp} {ty : TypeId} (h : fn.results = #[.cell p ty]) (tmps : Array Value) (P : Program) (w : World) :
    (results fn tmps).run P w = ((asAddr (tmps.getD p undef)).run P w).andThen fun a w₁ => (Go.loadVar ty a).run P w₁ := by
  simp only [results, h]
  simp [Sem.run_bind, Result.andThen]
theorem keeps_setCells {S : Nat → Prop} {a : World} (b : Nat) (hb : b < a.heap.size → S b) : ∀ (vs : List Value) (o : Nat) (w : World), Keeps S a w → Keeps S a (w.setCells b o vs)
  | [], _, _, h => h
  | v :: r, o, w, h => by rw [World.setCells]; exact keeps_setCells b hb r (o + 1) _ (h.setCell hb v)

end Go.Proofs.YtfbghchgfbjogaaGreat.Lm

/-
  ZipSizes: the walk of the statement.
-/
import Derived.Test.YtgbkipadbdochaaFop
namespace Go.Proofs.Ytgbkipadbdochaa
open Go.RowKit
set_option linter.unusedVariables false
set_option linter.unusedSimpArgs false

/-- How many bytes are reckoned when i entries have been looked at. -/
def kz (es : List It) (i : Nat) : Nat := 22 + 128 * i + 2 * nmsum (es.take i) + pksum (es.take i)
theorem kz_zero (es : List It) : kz es 0 = 22 := rfl
theorem kz_succ (es : List It) (i : Nat) (hi : i < es.length) : kz es (i + 1) = kz es i + 30 + 46 + 2 * (es[i].1.nm.size + 26) + es[i].1.pk.size := by
  unfold kz nmsum pksum
  rw [List.take_succ_eq_append_getElem hi]
  simp only [List.map_append, List.sum_append, List.map_cons, List.map_nil, List.sum_cons, List.sum_nil]
  omega
theorem kz_end {es : List It} (h : ∀ x ∈ es, heldB x = true) : kz es es.length = (zipL es).length := by
  rw [kz, List.take_length, zipL_len h]
theorem kz_le {es : List It} (h : ∀ x ∈ es, heldB x = true) (h6 : es.length ≤ 6) (i : Nat) (hi : i ≤ es.length) : kz es i ≤ 10000 := by
  have := sums_le (mem_take (i := i) h)
  rw [List.length_take] at this
  unfold kz; omega
/-- The folder's own variable. -/
theorem fvar (w : World) (v : Value) : ∀ w', Keeps (fun _ => False) (w.alloc (.cells #[v] 24)) w' → w'.cell? ⟨w.heap.size, 0, none⟩ = some v := fun w' hk => by
  rw [World.cell?_of_block (hk.block w.heap.size (by simp) (fun h => h))]; exact cell_of_heap (heap_alloc_new _ _) rfl

set_option maxHeartbeats 8000000 in
set_option maxRecDepth 1000000 in
theorem sizes_main (a : Option Addr) (cap : Nat) (es : List It) (w : World) (hF : FolIn w a es) :
    Calls Try.prog 5 #[.agg #[.slice a es.length cap]] w fun r w' => r = .returned (.bool true) ∧ Keeps (fun _ => False) w w' := by
  have HP0 : Hid (∀ w', Keeps (fun _ => False) w w' → Calls Try.prog 8 #[.agg #[.slice a es.length cap]] w' fun r w'' => r = .returned (.tuple #[.string (zipT es), .int .i64 (zErr es)]) ∧ Keeps (fun _ => False) w' w'') := fun w' hk => wput_ok a cap es w' (hF.1.keptF hk) hF.fit
  have HC : Hid (∀ w', Keeps (fun _ => False) (w.alloc (.cells #[.slice a es.length cap] 24)) w' → w'.cell? ⟨w.heap.size, 0, none⟩ = some (.slice a es.length cap)) := fvar w _
  have HW0 : Hid (Keeps (fun _ => False) w (w.alloc (.cells #[.slice a es.length cap] 24))) := (Keeps.refl _ _).alloc _
  cases hw : writeB es
  · have HP : Hid (∀ w', Keeps (fun _ => False) w w' → Calls Try.prog 8 #[.agg #[.slice a es.length cap]] w' fun r w'' => r = .returned (.tuple #[.string ⟨#[]⟩, .int .i64 1300]) ∧ Keeps (fun _ => False) w' w'') := by
      have e1 : zErr es = 1300 := by rw [zErr, hw]; rfl
      have e2 : zipT es = ⟨#[]⟩ := by rw [zipT, hw]; rfl
      rw [e1, e2] at HP0; exact HP0
    have q2 := empty_yes
    clear HP0 hF hw
    go_enter Try.func5, Try.ntmps5
    go_wp2_with (first
      | (go_at_call 7; refine (awake_ok _).mono ?_; rintro r w1 ⟨rfl, h⟩; have A1 : Hid (Keeps (fun _ => False) (w.alloc (.cells #[.slice a es.length cap] 24)) w1) := h; have c1 := HC.out w1 h; clear h)
      | (go_at_call 8; refine (HP.out w1 (HW0.out.tr A1.out)).mono ?_; rintro r w2 ⟨rfl, h⟩; have A2 : Hid (Keeps (fun _ => False) w w2) := HW0.out.tr (A1.out.tr h); clear h)
      | (go_at_call 9; refine (num_any _ _).mono ?_; rintro r w' ⟨rfl, hw⟩; obtain rfl := hw.symm; clear hw))
    go_ret
    exact ⟨by first | rfl | simp, A2.out⟩
  · have hh := writeB_held hw
    have h6 := writeB_len hw
    have HP : Hid (∀ w', Keeps (fun _ => False) w w' → Calls Try.prog 8 #[.agg #[.slice a es.length cap]] w' fun r w'' => r = .returned (.tuple #[.string (zipT es), .int .i64 0]) ∧ Keeps (fun _ => False) w' w'') := by
      have e1 : zErr es = 0 := by rw [zErr, hw]; rfl
      rw [e1] at HP0; exact HP0
    have hT : (zipT es).size = (zipL es).length := by rw [zipT, hw, cond_true, textOf_size]
    have hle : (zipT es).size ≤ 4096 := by rw [hT]; exact zipL_le hw
    have HZ : Hid (∀ w', Keeps (fun _ => False) w w' → Calls Try.prog 10 #[.agg #[.slice a es.length cap]] w' fun r w'' => r = .returned (.int .i64 ((zipT es).size : Int)) ∧ Keeps (fun _ => False) w' w'') := fun w' hk => by
      have := wsize_ok a cap es w' (hF.1.keptF hk) hF.fit
      have e : zSize es = (zipT es).size := by rw [hT, zSize, hw]; rfl
      rw [e] at this
      exact this
    have HK : Hid (kz es es.length = (zipT es).size) := (by rw [hT, kz_end hh] : kz es es.length = (zipT es).size)
    generalize zipT es = Z at *
    have HS : Hid (∀ i (hi : i < es.length), ∃ b off, a = some ⟨b, off, none⟩ ∧ kz es (i + 1) = kz es i + 30 + 46 + 2 * (es[i].1.nm.size + 26) + es[i].1.pk.size ∧ es[i].1.nm.size ≤ 8 ∧ es[i].1.pk.size ≤ 300 ∧ ∀ w', Keeps (fun _ => False) w w' → EntAt w' b (off + i * 9) es[i].1) := fun i hi => by
      obtain ⟨b, off, e, _, hf⟩ := hF.1.at (by omega)
      obtain ⟨_, _, _, n4, n5⟩ := heldB_nums (hh _ (List.getElem_mem hi))
      exact ⟨b, off, e, kz_succ es i hi, n5.2, n4, fun w' hk => (hf w' hk i hi).1⟩
    have HL : Hid (∀ i, i ≤ es.length → kz es i ≤ 10000) := fun i hi => kz_le hh h6 i hi
    have hlz : (Z.size : Int) ≤ 4096 := by omega
    have h6z : (es.length : Int) ≤ 6 := by omega
    clear HP0 hF hw hT hh h6 hle
    go_enter Try.func5, Try.ntmps5
    go_wp2_with (first
      | (go_at_call 7; refine (awake_ok _).mono ?_; rintro r w1 ⟨rfl, h⟩; have A1 : Hid (Keeps (fun _ => False) (w.alloc (.cells #[.slice a es.length cap] 24)) w1) := h; have c1 := HC.out w1 h; clear h)
      | (go_at_call 8; refine (HP.out w1 (HW0.out.tr A1.out)).mono ?_; rintro r w2 ⟨rfl, h⟩; have A2 : Hid (Keeps (fun _ => False) (w.alloc (.cells #[.slice a es.length cap] 24)) w2) := A1.out.tr h; clear h)
      | (go_at_call 9; refine (num_any _ _).mono ?_; rintro r w' ⟨rfl, hw⟩; obtain rfl := hw.symm; clear hw))
    go_loopw [5, 6] (fun s5 s6 w' => ∃ i : Nat, i ≤ es.length ∧ s6 = .int .i64 (i : Int) ∧ ∃ k : Nat, s5 = .int .i64 (k : Int) ∧ Hid (k = kz es i ∧ Keeps (fun _ => False) (w.alloc (.cells #[.slice a es.length cap] 24)) w')) (fun _ s6 _ => ((es.length : Int) - intOf s6).toNat)
    case atStart => exact ⟨0, by omega, rfl, 22, rfl, (kz_zero es).symm, A2.out⟩
    case round =>
      clear A1 A2 c1
      obtain ⟨i, hi, rfl, k, rfl, HT⟩ := hrel
      have cr := HC.out wr HT.out.2
      by_cases hin : i < es.length
      · have hiz : (i : Int) < (es.length : Int) := by omega
        obtain ⟨b, off, rfl, hks, hn, hp, hA⟩ := HS.out i hin
        have hkl := HL.out i hi
        obtain ⟨e, he⟩ : ∃ e, es[i].1 = e := ⟨_, rfl⟩
        rw [he] at hks hn hp hA
        have HA : Hid (∀ w', Keeps (fun _ => False) w w' → EntAt w' b (off + i * 9) e) := hA
        have HKS : Hid (kz es (i + 1) = k + 30 + 46 + 2 * (e.nm.size + 26) + e.pk.size) := by
          show _ = _
          rw [hks, HT.out.1]
        have hkz : (k : Int) ≤ 10000 := by have := HT.out.1; omega
        have hnz : (e.nm.size : Int) ≤ 8 := by omega
        have hpz : (e.pk.size : Int) ≤ 300 := by omega
        clear hks hA he hkl hn hp HS HL
        go_wp2_with (first
          | (refine wpList_load9 rfl _ rfl b (off + i * 9) rfl e ?hA ?_; (case hA => exact HA.out wr (HW0.out.tr HT.out.2)))
          | (refine wpList_alloc9 rfl rfl ?_; intro b5 w5 hE hK hb; have B1 : Hid (Entb w5 b5 Ent.zero ∧ Keeps (fun _ => False) (w.alloc (.cells #[.slice (some ⟨b, off, none⟩) es.length cap] 24)) w5 ∧ (w.alloc (.cells #[.slice (some ⟨b, off, none⟩) es.length cap] 24)).heap.size ≤ b5) := ⟨hE, HT.out.2.tr hK, Nat.le_trans HT.out.2.size hb⟩; clear hE hK hb)
          | (refine wpList_store9 rfl _ _ rfl b5 e rfl rfl Ent.zero ?hA ?_; (case hA => exact B1.out.1); intro w6 hE hK; have B2 : Hid (Keeps (fun _ => False) (w.alloc (.cells #[.slice (some ⟨b, off, none⟩) es.length cap] 24)) w6) := B1.out.2.1.trans hK (fun k hk h => by have := B1.out.2.2; omega); have c0 := hE.c0; have c6 := hE.c6; clear hE hK))
        go_roundw
        case rel => exact ⟨i + 1, by omega, by push_cast; rfl, k + 30 + 46 + 2 * (e.nm.size + 26) + e.pk.size, by first | rfl | (push_cast; rfl) | (congr 1; push_cast; omega), HKS.out.symm, B2.out⟩
        case measure => simp [intOf]; omega
      · obtain rfl : i = es.length := by omega
        have hkZ : k = Z.size := HT.out.1.trans HK.out
        subst hkZ
        have HT2 : Hid (Keeps (fun _ => False) (w.alloc (.cells #[.slice a es.length cap] 24)) wr) := HT.out.2
        clear HT HS HL HK
        go_wp2_with (go_at_call 10; refine (HZ.out wr (HW0.out.tr HT2.out)).mono ?_; rintro r w7 ⟨rfl, h⟩; have B3 : Hid (Keeps (fun _ => False) w w7) := HW0.out.tr (HT2.out.tr h); clear h)
        go_ret
        exact ⟨by first | rfl | simp, B3.out⟩

theorem sizes_walk (a : Option Addr) (cap : Nat) (es : List It) (w : World) (hF : FolIn w a es) :
    Calls Try.prog 5 #[.agg #[.slice a es.length cap]] w fun r w' => r = .returned (.bool true) ∧ Below w.heap.size w w' :=
  (sizes_main a cap es w hF).mono (fun r w' h => ⟨h.1, h.2.below _ (Nat.le_refl _) (fun _ h => h.elim)⟩)

end Go.Proofs.Ytgbkipadbdochaa

/-
  CrcLinear returns true for every three texts.
-/
import Derived.Test.YtdkbmnpjnehimaaRow
import Derived.BigRegion
import Derived.BigQuiet
namespace Go.Proofs.Ytdkbmnpjnehimaa
open Go.RowKit
set_option linter.unusedVariables false
set_option linter.unusedSimpArgs false

theorem Try.info5 : (Try.prog.info? 5).map (fun i => (i.zero, i.size, i.bytes)) = some (some (.int .u8 0), 1, 1) := by kernel_rfl
/-- The bytes that the loop lays, j of them laid. -/
def partly (zs : List Nat) (j : Nat) : List Nat := (List.range zs.length).map fun t => if t < j then zs.getD t 0 else 0
theorem partly_length (zs : List Nat) (j : Nat) : (partly zs j).length = zs.length := by simp [partly]
theorem partly_get (zs : List Nat) (j t : Nat) (h : t < (partly zs j).length) : (partly zs j)[t] = if t < j then zs.getD t 0 else 0 := by simp [partly]
theorem partly_succ (zs : List Nat) (j : Nat) (h : j < zs.length) : (partly zs j).set j zs[j] = partly zs (j + 1) := by
  apply List.ext_getElem
  · rw [List.length_set, partly_length, partly_length]
  · intro t h1 h2
    rw [List.getElem_set, partly_get, partly_get]
    by_cases e : j = t
    · subst e
      rw [if_pos rfl, if_pos (by omega), List.getD, List.getElem?_eq_getElem h, Option.getD_some]
    · rw [if_neg e]
      by_cases hlt : t < j
      · rw [if_pos hlt, if_pos (by omega)]
      · rw [if_neg hlt, if_neg (by omega)]
theorem partly_all (zs : List Nat) : partly zs zs.length = zs := by
  apply List.ext_getElem
  · rw [partly_length]
  · intro t h1 h2
    rw [partly_get, if_pos h2, List.getD, List.getElem?_eq_getElem h2, Option.getD_some]
theorem partly_end (zs : List Nat) (k : Nat) (h : zs.length = k) : partly zs k = zs := by subst h; exact partly_all zs
def three (a b c : ByteArray) (k : Nat) : List Nat := xorL (xorL ((bytesOf a).take k) ((bytesOf b).take k)) ((bytesOf c).take k)
theorem three_length (a b c : ByteArray) (k : Nat) (ha : k ≤ a.size) (hb : k ≤ b.size) (hc : k ≤ c.size) : (three a b c k).length = k := by
  simp [three, xorL, bytesOf_length]; omega
theorem bytesOf_getElem (s : ByteArray) (i : Nat) (h : i < s.size) (h' : i < (bytesOf s).length) : (bytesOf s)[i] = s[i].toNat := by
  have := bytesOf_get s i h
  rwa [List.getD, List.getElem?_eq_getElem h', Option.getD_some] at this
theorem three_get (a b c : ByteArray) (k j : Nat) (ha : j < a.size) (hb : j < b.size) (hc : j < c.size) (h : j < (three a b c k).length) : (three a b c k)[j] = a[j].toNat ^^^ b[j].toNat ^^^ c[j].toNat := by
  simp only [three, xorL, List.getElem_zipWith, List.getElem_take]
  rw [bytesOf_getElem a j ha, bytesOf_getElem b j hb, bytesOf_getElem c j hc]

theorem three_lt (a b c : ByteArray) (k : Nat) : ∀ y ∈ three a b c k, y < 256 := by
  intro y hy
  obtain ⟨t, ht, rfl⟩ := List.getElem_of_mem hy
  simp only [three, xorL, List.getElem_zipWith, List.getElem_take]
  exact xor8 (xor8 (bytesOf_lt a _ (List.getElem_mem _)) (bytesOf_lt b _ (List.getElem_mem _))) (bytesOf_lt c _ (List.getElem_mem _))

theorem three_sum (a b c : ByteArray) (j : Nat) (ha : j ≤ a.size) (hb : j ≤ b.size) (hc : j ≤ c.size) :
    bits .xor .i64 (bits .xor .i64 ((joinS 0 (a.extract 0 j) : Nat) : Int) ((joinS 0 (b.extract 0 j) : Nat) : Int)) ((joinS 0 (c.extract 0 j) : Nat) : Int) = ((joinS 0 (textOf (three a b c j)) : Nat) : Int) := by
  rw [i64_xor_nat _ _ (joinS_lt _ _) (joinS_lt _ _), i64_xor_nat _ _ (xor32 (joinS_lt _ _) (joinS_lt _ _)) (joinS_lt _ _)]
  congr 1
  unfold joinS
  rw [bytesOf_text _ (three_lt a b c j), bytesOf_extract, bytesOf_extract, bytesOf_extract, List.drop_zero, List.drop_zero, List.drop_zero]
  exact (joinL_three _ _ _ (by simp [bytesOf_length]; omega) (by simp [bytesOf_length]; omega)).symm

set_option maxHeartbeats 800000 in
theorem linear_walk (a b c : ByteArray) (w : World) (ha : a.size ≤ 140737488355328) (hb : b.size ≤ 140737488355328) (hc : c.size ≤ 140737488355328) :
    Calls Try.prog 5 #[.string a, .string b, .string c] w fun e w' => e = .returned (.bool true) ∧ Below w.heap.size w w' := by
  obtain ⟨m1, hm1⟩ : ∃ m1 : Nat, m1 = min b.size a.size := ⟨_, rfl⟩
  obtain ⟨k, hk⟩ : ∃ k : Nat, k = min c.size m1 := ⟨_, rfl⟩
  have H1 : (if b.size < a.size then (b.size : Int) else (a.size : Int)) = (m1 : Int) := by split <;> omega
  have H2 : (if c.size < m1 then (c.size : Int) else (m1 : Int)) = (k : Int) := by split <;> omega
  have HKA : Hid (k ≤ a.size) := show _ ≤ _ by omega
  have HKB : Hid (k ≤ b.size) := show _ ≤ _ by omega
  have HKC : Hid (k ≤ c.size) := show _ ≤ _ by omega
  have HKM : Hid (k ≤ 140737488355328) := show _ ≤ _ by omega
  clear hm1 hk
  have HL : Hid ((three a b c k).length = k) := three_length a b c k HKA.out HKB.out HKC.out
  have hmk : ∃ w1, (Instr.makeSlice 27 (.int .i64 (k : Int)) (.int .i64 (k : Int))).run Try.prog w = .ok (.slice (some ⟨w.heap.size, 0, none⟩) k k) w1 ∧ Bts w1 w.heap.size (partly (three a b c k) 0) ∧ Keeps (fun _ => False) w w1 := by
    obtain ⟨i, hi, hz, hs1, hb1⟩ := info_parts Try.info5
    refine ⟨_, run_make (P := Try.prog) w 27 5 i _ Try.underlying27 hi hz .i64 .i64 k k (by omega) (Int.le_refl _) (by rw [hb1]; have := HKM.out; omega) (by have := HKM.out; omega), ⟨_, _, heap_alloc_new _ _, ?_, .inr rfl⟩, (Keeps.refl _ w).alloc _⟩
    intro t ht
    rw [partly_get, if_neg (by omega)]
    rw [partly_length, HL.out] at ht
    rw [hs1]
    have hsz : t < (madeCells (Value.int .u8 0).cells ((k : Int).toNat * 1)).size := by rw [size_madeCells]; simpa using ht
    rw [Array.getElem?_eq_getElem hsz]
    simp [madeCells, Value.cells, byteV, Nat.mod_one]
  obtain ⟨w1, hmk, hbt, hkp⟩ := hmk
  have HB1 : Hid (Bts w1 w.heap.size (partly (three a b c k) 0)) := hbt
  have HP1 : Hid (Keeps (fun _ => False) w w1) := hkp
  clear hbt hkp
  go_enter Try.func5, Try.ntmps5
  go_wp2_with (first | (go_at_call 12; refine (awake_ok _).mono ?_; rintro e w' ⟨rfl, hw⟩; obtain rfl := hw.symm; clear hw))
  clear hmk H1 H2
  obtain ⟨g, hg⟩ : ∃ g, g = w.heap.size := ⟨_, rfl⟩
  rw [← hg] at HB1
  rw [← hg]
  have HG : Hid (g = w.heap.size) := hg
  clear hg
  go_loopw [9] (fun i w' => ∃ j : Nat, j ≤ k ∧ i = .int .i64 j ∧ Bts w' g (partly (three a b c k) j) ∧ Keeps (fun _ => False) w w') (fun i _ => k - (intOf i).toNat)
  case atStart => exact ⟨0, Nat.zero_le _, rfl, HB1.out, HP1.out⟩
  case round =>
    obtain ⟨j, hj, rfl, hbt, hkp⟩ := hrel
    have HB : Hid (Bts wr g (partly (three a b c k) j)) := hbt
    have HP : Hid (Keeps (fun _ => False) w wr) := hkp
    clear hbt hkp
    by_cases hlt : j < k
    · have hja : j < a.size := Nat.lt_of_lt_of_le hlt HKA.out
      have hjb : j < b.size := Nat.lt_of_lt_of_le hlt HKB.out
      have hjc : j < c.size := Nat.lt_of_lt_of_le hlt HKC.out
      have hjl : j < (partly (three a b c k) j).length := by rw [partly_length, HL.out]; exact hlt
      have hfz : wr.frozen? ⟨g, j, none⟩ = false := HB.out.free j hjl
      obtain ⟨u0, hcl⟩ : ∃ u, wr.cell? ⟨g, j, none⟩ = some (.int .u8 u) := ⟨_, HB.out.cell j hjl⟩
      have HX : bits .xor .u8 (bits .xor .u8 (a[j].toNat : Int) (b[j].toNat : Int)) (c[j].toNat : Int) = ((a[j].toNat ^^^ b[j].toNat ^^^ c[j].toNat : Nat) : Int) := by
        have e1 : a[j].toNat < 256 := UInt8.toNat_lt _
        have e2 : b[j].toNat < 256 := UInt8.toNat_lt _
        have e3 : c[j].toNat < 256 := UInt8.toNat_lt _
        rw [u8_xor_nat _ _ e1 e2, u8_xor_nat _ _ (xor8 e1 e2) e3]
      have HS : Hid (Bts (wr.setCell ⟨g, j, none⟩ (.int .u8 ((a[j].toNat ^^^ b[j].toNat ^^^ c[j].toNat : Nat) : Int))) g (partly (three a b c k) (j + 1))) := by
        have := HB.out.set j (a[j].toNat ^^^ b[j].toNat ^^^ c[j].toNat)
        rwa [← three_get a b c k j hja hjb hjc (by rw [HL.out]; exact hlt), partly_succ _ _ (by rw [HL.out]; exact hlt), three_get a b c k j hja hjb hjc (by rw [HL.out]; exact hlt)] at this
      clear hjl
      go_wp2
      go_region
      go_wp2
      go_roundw
      case rel =>
        refine ⟨j + 1, by omega, by go_num, HS.out.kept (Keeps.refl (fun _ => False) _).drew id, (HP.out.setCell (fun h => ?_) _).drew⟩
        have := HG.out
        simp at h
        omega
      case measure => simp [intOf]; omega
    · have hjk : j = k := by omega
      subst hjk
      have HT : Hid (Bts wr g (three a b c j)) := by have := HB.out; rwa [partly_end _ _ HL.out] at this
      clear HB
      have hcv : ∀ n, (convert 27 9 (.slice (some ⟨g, 0, none⟩) j j)).run Try.prog (wr.drewN n) = .ok (.string (textOf (three a b c j))) (wr.drewN n) := by
        intro n
        have := (HT.out.kept ((Keeps.refl (fun _ => False) wr).drewN n) id).text (three_lt a b c j) j
        rwa [HL.out] at this
      have HSA : Hid ((a.extract 0 j).size ≤ 1125899906842624) := extract_small a 0 j ha
      have HSB : Hid ((b.extract 0 j).size ≤ 1125899906842624) := extract_small b 0 j hb
      have HSC : Hid ((c.extract 0 j).size ≤ 1125899906842624) := extract_small c 0 j hc
      have HST : Hid ((textOf (three a b c j)).size ≤ 1125899906842624) := show _ ≤ _ by rw [textOf_size, HL.out]; have := HKM.out; omega
      have HX : bits .xor .i64 (bits .xor .i64 ((joinS 0 (a.extract 0 j) : Nat) : Int) ((joinS 0 (b.extract 0 j) : Nat) : Int)) ((joinS 0 (c.extract 0 j) : Nat) : Int) = ((joinS 0 (textOf (three a b c j)) : Nat) : Int) := three_sum a b c j HKA.out HKB.out HKC.out
      have hja : j ≤ a.size := HKA.out
      have hjb : j ≤ b.size := HKB.out
      have hjc : j ≤ c.size := HKC.out
      go_wp2
      go_quiet (first | (go_at_call 13; exact Calls.quiet_of_same (num_any _ _)) | (go_at_call 8; exact Calls.quiet_of_same (of_ok _ _ (by first | exact HST.out | exact HSA.out | exact HSB.out | exact HSC.out))))
      go_wp2
      go_ret
      exact ⟨rfl, (HP.out.drewN _).below _ (Nat.le_refl _) (fun _ h => h.elim)⟩

end Go.Proofs.Ytdkbmnpjnehimaa

/-
  Put, Code, Align, Len and Text of a writer, for every input.
-/
import Derived.Test.YtlkgnjnnfoocpaaPut
namespace Go.Proofs.Ytlkgnjnnfoocpaa
open Go.RowKit
set_option linter.unusedVariables false
set_option linter.unusedSimpArgs false

theorem wrap64_two (k : Nat) (h : k ≤ 16) : wrap64 (2 ^ k) = 2 ^ k := by
  have e : (2 : Int) ^ k = ((2 ^ k : Nat) : Int) := by simp
  have hp : (2 : Nat) ^ k ≤ 2 ^ 16 := Nat.pow_le_pow_right (by decide) h
  rw [e]
  generalize 2 ^ k = z at hp
  simp only [wrap64]
  omega

set_option maxHeartbeats 400000 in
theorem put_nil (x k : Int) (w : World) :
    Calls Try.prog 10 #[.pointer none, .int .i64 x, .int .i64 k] w fun e w' => e = .returned (.int .i64 1) ∧ w' = w := by
  go_enter Try.func10, Try.ntmps10
  go_wp2
  go_ret
  exact ⟨rfl, rfl⟩

set_option maxHeartbeats 400000 in
theorem put_out (b : Nat) (x k : Int) (w : World) (h : k < 0 ∨ 16 < k) :
    Calls Try.prog 10 #[.pointer (some ⟨b, 0, none⟩), .int .i64 x, .int .i64 k] w fun e w' => e = .returned (.int .i64 100) ∧ w' = w := by
  by_cases h1 : k < 0
  · go_enter Try.func10, Try.ntmps10
    go_wp2
    go_ret
    exact ⟨rfl, rfl⟩
  · have h2 : 16 < k := by omega
    go_enter Try.func10, Try.ntmps10
    go_wp2
    go_ret
    exact ⟨rfl, rfl⟩

set_option maxHeartbeats 400000 in
theorem put_no (b : Nat) (x : Int) (k : Nat) (w : World) (hk : (k : Int) ≤ 16)
    (h : Calls Try.prog 26 #[.pointer (some ⟨b, 0, none⟩), .int .i64 x, .int .i64 k] w fun e w' => e = .returned (.bool false) ∧ w' = w) :
    Calls Try.prog 10 #[.pointer (some ⟨b, 0, none⟩), .int .i64 x, .int .i64 k] w fun e w' => e = .returned (.int .i64 100) ∧ w' = w := by
  have H : Hid (Calls Try.prog 26 #[.pointer (some ⟨b, 0, none⟩), .int .i64 x, .int .i64 k] w fun e w' => e = .returned (.bool false) ∧ w' = w) := h
  clear h
  have h1 : ¬ (k : Int) < 0 := by omega
  have h2 : ¬ 16 < (k : Int) := by omega
  go_enter Try.func10, Try.ntmps10
  go_wp2_with fail
  refine H.out.mono ?_
  rintro e w' ⟨rfl, rfl⟩
  go_wp2
  go_ret
  exact ⟨rfl, rfl⟩

set_option maxHeartbeats 400000 in
theorem put_ok (b : Nat) (o : Option Nat) (L : List Bool) (v k : Nat) (w : World) (hk : (k : Int) ≤ 16) (hv : v < 2 ^ k) (hL : L.length + k ≤ 65536) (hW : Hid (Wr 59 w b o L)) :
    Calls Try.prog 10 #[.pointer (some ⟨b, 0, none⟩), .int .i64 v, .int .i64 k] w fun e w' => e = .returned (.int .i64 0) ∧ Onto 59 w w' b o (L ++ bitsOf v k) := by
  have h1 : ¬ (k : Int) < 0 := by omega
  have h2 : ¬ 16 < (k : Int) := by omega
  have hmf : ∀ (fn : Fn) (first cap : Array Value) (w : World), (Instr.makeFunc fn first cap).run Try.prog w = .ok (.func fn first cap) w := fun _ _ _ _ => rfl
  have hp : (2 : Nat) ^ k ≤ 2 ^ 16 := Nat.pow_le_pow_right (by decide) (by omega)
  have HV : Hid (v < 2 ^ k) := hv
  have HP : Hid ((2 : Nat) ^ k ≤ 2 ^ 16) := hp
  clear hv hp
  go_enter Try.func10, Try.ntmps10
  go_wp2_with fail
  have hc : w.cell? ⟨b, 1, none⟩ = some (.int .i64 L.length) := by
    obtain ⟨a, cap, hb, _, _⟩ := hW.out
    exact cell_of_heap (i := 1) hb rfl
  have ht := takes_in b L.length (v : Int) k w (by omega) hk (wrap64_two k (by omega)) (by have := HV.out; exact_mod_cast this) hc (by omega)
  rw [decide_eq_true (by omega)] at ht
  refine ht.mono ?_
  rintro e w' ⟨rfl, hw⟩
  obtain rfl := hw.symm
  clear ht hc
  go_wp2_with fail
  refine (lowest_any b o L v k _ (by have := HV.out; have := HP.out; omega) hk hL hW).mono ?_
  rintro e w' ⟨rfl, hon⟩
  have HN : Hid (Onto 59 w w' b o (L ++ bitsOf v k)) := hon
  clear hon
  go_wp2
  go_ret
  exact ⟨rfl, HN.out⟩


theorem put_bad (b : Nat) (o : Option Nat) (L : List Bool) (x k : Int) (w : World) (hW : Wr 59 w b o L) (hL : L.length ≤ 65536)
    (h : ¬ (0 ≤ k ∧ k ≤ 16 ∧ 0 ≤ x ∧ x < 2 ^ k.toNat ∧ (L.length : Int) + k ≤ 65536)) :
    Calls Try.prog 10 #[.pointer (some ⟨b, 0, none⟩), .int .i64 x, .int .i64 k] w fun e w' => e = .returned (.int .i64 100) ∧ w' = w := by
  by_cases hk : k < 0 ∨ 16 < k
  · exact put_out b x k w hk
  · obtain ⟨n, rfl⟩ := Int.eq_ofNat_of_zero_le (show 0 ≤ k by omega)
    refine put_no b x n w (by omega) ?_
    by_cases hx : x < 0
    · exact takes_neg _ _ _ x w rfl hx
    · have hp := wrap64_two n (by omega)
      by_cases hx2 : x < 2 ^ n
      · have hc : w.cell? ⟨b, 1, none⟩ = some (.int .i64 L.length) := by
          obtain ⟨a, cap, hb, _, _⟩ := hW
          exact cell_of_heap (i := 1) hb rfl
        have ht := takes_in b L.length x n w (by omega) (by omega) hp hx2 hc (by omega)
        rw [Int.toNat_natCast] at h
        rw [decide_eq_false (fun h' => h ⟨by omega, by omega, by omega, hx2, h'⟩)] at ht
        exact ht
      · exact takes_big _ x n w (by omega) (by omega) hp hx2

/-! ### Code -/
set_option maxHeartbeats 400000 in
theorem code_nil (x k : Int) (w : World) :
    Calls Try.prog 12 #[.pointer none, .agg #[.int .i64 k, .int .i64 x]] w fun e w' => e = .returned (.int .i64 1) ∧ w' = w.alloc (.cells #[.int .i64 k, .int .i64 x] 37) := by
  go_enter Try.func12, Try.ntmps12
  go_wp2
  go_ret
  exact ⟨rfl, rfl⟩

set_option maxHeartbeats 400000 in
theorem code_out (b : Nat) (x k : Int) (w : World) (h : k < 1 ∨ 15 < k) :
    Calls Try.prog 12 #[.pointer (some ⟨b, 0, none⟩), .agg #[.int .i64 k, .int .i64 x]] w fun e w' => e = .returned (.int .i64 100) ∧ w' = w.alloc (.cells #[.int .i64 k, .int .i64 x] 37) := by
  by_cases h1 : k < 1
  · go_enter Try.func12, Try.ntmps12
    go_wp2
    go_ret
    exact ⟨rfl, rfl⟩
  · have h2 : 15 < k := by omega
    go_enter Try.func12, Try.ntmps12
    go_wp2
    go_ret
    exact ⟨rfl, rfl⟩

set_option maxHeartbeats 400000 in
theorem code_no (b : Nat) (x : Int) (k : Nat) (w : World) (hk1 : 1 ≤ (k : Int)) (hk : (k : Int) ≤ 15)
    (h : Calls Try.prog 26 #[.pointer (some ⟨b, 0, none⟩), .int .i64 x, .int .i64 k] (w.alloc (.cells #[.int .i64 k, .int .i64 x] 37)) fun e w' => e = .returned (.bool false) ∧ w' = w.alloc (.cells #[.int .i64 k, .int .i64 x] 37)) :
    Calls Try.prog 12 #[.pointer (some ⟨b, 0, none⟩), .agg #[.int .i64 k, .int .i64 x]] w fun e w' => e = .returned (.int .i64 100) ∧ w' = w.alloc (.cells #[.int .i64 k, .int .i64 x] 37) := by
  have H : Hid (Calls Try.prog 26 #[.pointer (some ⟨b, 0, none⟩), .int .i64 x, .int .i64 k] (w.alloc (.cells #[.int .i64 k, .int .i64 x] 37)) fun e w' => e = .returned (.bool false) ∧ w' = w.alloc (.cells #[.int .i64 k, .int .i64 x] 37)) := h
  clear h
  have h1 : ¬ (k : Int) < 1 := by omega
  have h2 : ¬ 15 < (k : Int) := by omega
  go_enter Try.func12, Try.ntmps12
  go_wp2_with fail
  refine H.out.mono ?_
  rintro e w' ⟨rfl, rfl⟩
  go_wp2
  go_ret
  exact ⟨rfl, rfl⟩

theorem Wr.alloc {T : TypeId} {w : World} {b : Nat} {o : Option Nat} {L : List Bool} (h : Wr T w b o L) (ob : Obj) : Wr T (w.alloc ob) b o L :=
  h.kept (S := fun _ => False) ((Keeps.refl _ w).alloc ob) (fun h => h) (fun _ _ h => h)

theorem Onto.of_alloc {T : TypeId} {w w' : World} {b : Nat} {o : Option Nat} {L : List Bool} {ob : Obj} (h : Onto T (w.alloc ob) w' b o L) : Onto T w w' b o L := by
  obtain ⟨o', h1, h2, h3⟩ := h
  refine ⟨o', h1, ?_, ((Keeps.refl _ w).alloc ob).trans h3 (fun _ _ h => h)⟩
  rcases h2 with h2 | ⟨g, h2, h4⟩
  · exact .inl h2
  · exact .inr ⟨g, h2, by simp at h4; omega⟩

set_option maxHeartbeats 400000 in
theorem code_ok (b : Nat) (o : Option Nat) (L : List Bool) (v k : Nat) (w : World) (hk1 : 1 ≤ (k : Int)) (hk : (k : Int) ≤ 15) (hv : v < 2 ^ k) (hL : L.length + k ≤ 65536) (hW : Hid (Wr 59 w b o L)) :
    Calls Try.prog 12 #[.pointer (some ⟨b, 0, none⟩), .agg #[.int .i64 k, .int .i64 v]] w fun e w' => e = .returned (.int .i64 0) ∧ Onto 59 w w' b o (L ++ codeOf v k) := by
  have h1 : ¬ (k : Int) < 1 := by omega
  have h2 : ¬ 15 < (k : Int) := by omega
  have hmf : ∀ (fn : Fn) (first cap : Array Value) (w : World), (Instr.makeFunc fn first cap).run Try.prog w = .ok (.func fn first cap) w := fun _ _ _ _ => rfl
  have hp : (2 : Nat) ^ k ≤ 2 ^ 16 := Nat.pow_le_pow_right (by decide) (by omega)
  have HV : Hid (v < 2 ^ k) := hv
  have HP : Hid ((2 : Nat) ^ k ≤ 2 ^ 16) := hp
  clear hv hp
  go_enter Try.func12, Try.ntmps12
  go_wp2_with fail
  have hW1 : Hid (Wr 59 (w.alloc (.cells #[.int .i64 k, .int .i64 v] 37)) b o L) := hW.out.alloc _
  have hc : (w.alloc (.cells #[.int .i64 k, .int .i64 v] 37)).cell? ⟨b, 1, none⟩ = some (.int .i64 L.length) := by
    obtain ⟨a, cap, hb, _, _⟩ := hW1.out
    exact cell_of_heap (i := 1) hb rfl
  have ht := takes_in b L.length (v : Int) k (w.alloc (.cells #[.int .i64 k, .int .i64 v] 37)) (by omega) (by omega) (wrap64_two k (by omega)) (by have := HV.out; exact_mod_cast this) hc (by omega)
  rw [decide_eq_true (by omega)] at ht
  refine ht.mono ?_
  rintro e w' ⟨rfl, hw⟩
  obtain rfl := hw.symm
  clear ht hc
  go_wp2_with fail
  refine (highest_any b o L v k _ (by have := HV.out; have := HP.out; omega) (by omega) hL hW1).mono ?_
  rintro e w' ⟨rfl, hon⟩
  have HN : Hid (Onto 59 w w' b o (L ++ codeOf v k)) := hon.of_alloc
  clear hon
  go_wp2
  go_ret
  exact ⟨rfl, HN.out⟩


theorem code_bad (b : Nat) (o : Option Nat) (L : List Bool) (x k : Int) (w : World) (hW : Wr 59 w b o L) (hL : L.length ≤ 65536)
    (h : ¬ (1 ≤ k ∧ k ≤ 15 ∧ 0 ≤ x ∧ x < 2 ^ k.toNat ∧ (L.length : Int) + k ≤ 65536)) :
    Calls Try.prog 12 #[.pointer (some ⟨b, 0, none⟩), .agg #[.int .i64 k, .int .i64 x]] w fun e w' => e = .returned (.int .i64 100) ∧ w' = w.alloc (.cells #[.int .i64 k, .int .i64 x] 37) := by
  by_cases hk : k < 1 ∨ 15 < k
  · exact code_out b x k w hk
  · obtain ⟨n, rfl⟩ := Int.eq_ofNat_of_zero_le (show 0 ≤ k by omega)
    refine code_no b x n w (by omega) (by omega) ?_
    by_cases hx : x < 0
    · exact takes_neg _ _ _ x _ rfl hx
    · have hp := wrap64_two n (by omega)
      by_cases hx2 : x < 2 ^ n
      · have hc : (w.alloc (.cells #[.int .i64 n, .int .i64 x] 37)).cell? ⟨b, 1, none⟩ = some (.int .i64 L.length) := by
          obtain ⟨a, cap, hb, _, _⟩ := hW.alloc (.cells #[.int .i64 n, .int .i64 x] 37)
          exact cell_of_heap (i := 1) hb rfl
        have ht := takes_in b L.length x n _ (by omega) (by omega) hp hx2 hc (by omega)
        rw [Int.toNat_natCast] at h
        rw [decide_eq_false (fun h' => h ⟨by omega, by omega, by omega, hx2, h'⟩)] at ht
        exact ht
      · exact takes_big _ x n _ (by omega) (by omega) hp hx2

/-! ### Align, Len, Text -/
def alignOf (L : List Bool) : List Bool := L ++ List.replicate ((L.length + 7) / 8 * 8 - L.length) false
theorem alignOf_length (L : List Bool) : (alignOf L).length = (L.length + 7) / 8 * 8 := by simp [alignOf]; omega

set_option maxHeartbeats 400000 in
theorem walign_at (b n : Nat) (w : World) (hn : (n : Int) ≤ 65536) (hc : w.cell? ⟨b, 1, none⟩ = some (.int .i64 n)) (hf : w.frozen? ⟨b, 1, none⟩ = false) :
    Calls Try.prog 14 #[.pointer (some ⟨b, 0, none⟩)] w fun e w' => e = .returned (.int .i64 0) ∧ w' = w.setCell ⟨b, 1, none⟩ (.int .i64 (((n : Int) + 7) / 8 * 8)) := by
  go_enter Try.func14, Try.ntmps14
  go_wp2_with fail
  refine (whole_any (n : Int) _ (by omega) (by omega)).mono ?_
  rintro e w' ⟨rfl, hw⟩
  obtain rfl := hw.symm
  go_wp2
  go_ret
  exact ⟨rfl, rfl⟩

theorem walign_ok (b : Nat) (o : Option Nat) (L : List Bool) (w : World) (hL : L.length ≤ 65536) (hW : Wr 59 w b o L) :
    Calls Try.prog 14 #[.pointer (some ⟨b, 0, none⟩)] w fun e w' => e = .returned (.int .i64 0) ∧ Onto 59 w w' b o (alignOf L) := by
  have hown0 := hW.own
  obtain ⟨a, cap0, hb, hown, hob⟩ := hW
  refine (walign_at b L.length w (by omega) (cell_of_heap (i := 1) hb rfl) (frozen_of_heap (i := 1) hb)).mono ?_
  rintro e w' ⟨rfl, rfl⟩
  have hpk : pack (alignOf L) = pack L := pack_align L
  refine ⟨rfl, o, ⟨a, cap0, ?_, ?_, ?_⟩, .inl rfl, (Keeps.refl _ w).setCell (fun _ => .inl rfl) _⟩
  · rw [heap_setCell_same (i := 1) hb, hpk]
    have : ((alignOf L).length : Int) = ((L.length : Int) + 7) / 8 * 8 := by rw [alignOf_length]; omega
    simp [this]
  · rw [hpk]
    exact owns_far hown (by rw [hob]; intro h; have := hown0 _ h; simp at this; omega) _
  · rw [hpk]; exact hob

theorem len_ok (b : Nat) (o : Option Nat) (L : List Bool) (w : World) (hW : Wr 59 w b o L) :
    Calls Try.prog 16 #[.pointer (some ⟨b, 0, none⟩)] w fun e w' => e = .returned (.int .i64 L.length) ∧ w' = w := by
  obtain ⟨a, cap0, hb, hown, hob⟩ := hW
  exact len_any b _ w (cell_of_heap (i := 1) hb rfl)

set_option maxHeartbeats 400000 in
theorem text_nil (w : World) :
    Calls Try.prog 18 #[.pointer none] w fun e w' => e = .returned (.string ⟨#[]⟩) ∧ w' = w := by
  go_enter Try.func18, Try.ntmps18
  go_wp2
  go_ret
  exact ⟨rfl, rfl⟩

set_option maxHeartbeats 400000 in
theorem text_at (b n cap : Nat) (a : Option Addr) (s : ByteArray) (w : World) (hc : w.cell? ⟨b, 0, none⟩ = some (.slice a n cap)) (hrun : (convert 27 9 (.slice a n cap)).run Try.prog w = .ok (.string s) w) :
    Calls Try.prog 18 #[.pointer (some ⟨b, 0, none⟩)] w fun e w' => e = .returned (.string s) ∧ w' = w := by
  go_enter Try.func18, Try.ntmps18
  go_wp2
  go_ret
  exact ⟨rfl, rfl⟩

theorem convert_row (w : World) (base n cap : Nat) (a : Option Addr) (ys : List Nat) (hy : ∀ y ∈ ys, y < 256) (h : w.ownsRow base 5 1 (.slice a n cap) n (ys.map byteV)) :
    (convert 27 9 (.slice a n cap)).run Try.prog w = .ok (.string (textOf ys)) w := by
  have hl : ys.length = n := by have := h.1; simpa using this
  rcases h.2 with ⟨hv, h0⟩ | ⟨g, cap', cur, hv, _⟩
  · cases hv
    have : ys = [] := List.eq_nil_of_length_eq_zero hl
    subst this
    exact run_convert_bytes_nil w 27 5 Try.underlying27 Try.underlying5 0 0 9 Try.underlying9
  · cases hv
    have e : ys.length = (ys.map UInt8.ofNat).length := by rw [List.length_map]
    rw [← hl, e]
    refine run_convert_bytes_back w 27 9 5 ⟨g, 0, none⟩ cap (ys.map UInt8.ofNat) Try.underlying27 Try.underlying5 Try.underlying9 ?_
    intro j hj
    rw [List.length_map] at hj
    have hget : (ys.map byteV)[j]? = some (byteV ys[j]) := by simp [hj]
    rw [addr_add, (owns_cell h j _ hget).1]
    have : ys[j] < 256 := hy _ (List.getElem_mem hj)
    simp only [List.getElem_map, byteV, UInt8.toNat_ofNat']
    rw [Nat.mod_eq_of_lt (by omega)]

theorem text_ok (b : Nat) (o : Option Nat) (L : List Bool) (w : World) (hW : Wr 59 w b o L) :
    Calls Try.prog 18 #[.pointer (some ⟨b, 0, none⟩)] w fun e w' => e = .returned (.string (textOf (pack L))) ∧ w' = w := by
  obtain ⟨a, cap0, hb, hown, hob⟩ := hW
  exact text_at b _ cap0 a _ w (cell_of_heap (i := 0) hb rfl) (convert_row w _ _ cap0 a _ (pack_lt L) hown)

end Go.Proofs.Ytlkgnjnnfoocpaa

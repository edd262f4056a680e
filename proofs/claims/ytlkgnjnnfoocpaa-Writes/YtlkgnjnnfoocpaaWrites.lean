/-
  Writes returns true for every input.
-/
import Derived.Test.YtlkgnjnnfoocpaaTwo
import Derived.Deep.RegionHeld3
namespace Go.Proofs.Ytlkgnjnnfoocpaa
open Go.RowKit
set_option linter.unusedVariables false
set_option linter.unusedSimpArgs false

/-- What the first loop holds. -/
def Half (w w' : World) (b1 b2 : Nat) : Prop := ∃ o1 o2 L, Two w' b1 o1 L b2 o2 L ∧ L.length ≤ 65536 ∧ Keeps (fun _ => False) w w'

theorem step1 {w w' w3 : World} {b1 b2 : Nat} {o1 o2 : Option Nat} {L1 L2 L : List Bool} (h : Two w' b1 o1 L1 b2 o2 L2) (hk : Keeps (fun _ => False) w w') (hb : w.heap.size ≤ b1) (ho : Onto 59 w' w3 b1 o1 L) : (∃ o1', Two w3 b1 o1' L b2 o2 L2) ∧ Keeps (fun _ => False) w w3 := by
  refine ⟨h.fst ho, ?_⟩
  obtain ⟨_, _, _, hk3⟩ := ho
  exact keep_wr hk h.1 hb hk3
theorem step2 {w w' w3 : World} {b1 b2 : Nat} {o1 o2 : Option Nat} {L1 L2 L : List Bool} (h : Two w' b1 o1 L1 b2 o2 L2) (hk : Keeps (fun _ => False) w w') (hb : w.heap.size ≤ b2) (ho : Onto 29 w' w3 b2 o2 L) : (∃ o2', Two w3 b1 o1 L1 b2 o2' L) ∧ Keeps (fun _ => False) w w3 := by
  refine ⟨h.snd ho, ?_⟩
  obtain ⟨_, _, _, hk3⟩ := ho
  exact keep_wr hk h.2.1 hb hk3
theorem box_kept {T : TypeId} {w' w3 : World} {b pb : Nat} {o : Option Nat} {L : List Bool} {X : Obj} (hp : w'.heap[pb]? = some X) (ho : Onto T w' w3 b o L) (hb : b < pb) (hown : ∀ k, o = some k → k < pb) : w3.heap[pb]? = some X := by
  obtain ⟨_, _, _, hk3⟩ := ho
  refine (hk3.block pb (lt_of_heap hp) ?_).trans hp
  rintro (h | h)
  · omega
  · have := hown _ h; omega
theorem many_cell {T : TypeId} {w : World} {b : Nat} {o : Option Nat} {L : List Bool} (h : Wr T w b o L) : w.cell? ⟨b, 1, none⟩ = some (.int .i64 L.length) := by
  obtain ⟨a, cap, hb, _, _⟩ := h
  exact cell_of_heap (i := 1) hb rfl

/-! ### Each Get in one form -/
def outB (k : Int) : Bool := decide (k < 0 ∨ 16 < k)
def endB (s : ByteArray) (p : Nat) (k : Int) : Bool := decide (8 * (s.size : Int) - p < k)
def getErr (s : ByteArray) (p : Nat) (k : Int) : Int := cond (outB k) 100 (cond (endB s p k) 101 0)
def getVal (s : ByteArray) (p : Nat) (k : Int) : Int := cond (outB k) 0 (cond (endB s p k) 0 ((val (readBits (bytesOf s) p k.toNat) : Nat) : Int))
def getPos (s : ByteArray) (p : Nat) (k : Int) : Nat := cond (outB k) p (cond (endB s p k) p (p + k.toNat))

theorem getPos_le (s : ByteArray) (p : Nat) (k : Int) (hp : p ≤ 8 * s.size) : getPos s p k ≤ 8 * s.size := by
  unfold getPos
  cases h1 : outB k with
  | true => exact hp
  | false =>
    cases h2 : endB s p k with
    | true => exact hp
    | false => have a := of_decide_eq_false h1; have b := of_decide_eq_false h2; simp only [cond]; omega

theorem Read.same {T : TypeId} {w : World} {b p : Nat} {s : ByteArray} (h : Rd T w b s p) : Read T w w b s p := ⟨h, Keeps.refl _ _⟩

theorem get_all (b p : Nat) (k : Int) (s : ByteArray) (w : World) (hs : s.size ≤ 140737488355328) (hp : p ≤ 8 * s.size) (hR : Rd 64 w b s p) :
    Calls Try.prog 22 #[.pointer (some ⟨b, 0, none⟩), .int .i64 k] w fun e w' => e = .returned (.tuple #[.int .i64 (getVal s p k), .int .i64 (getErr s p k)]) ∧ Read 64 w w' b s (getPos s p k) := by
  unfold getVal getErr getPos
  cases h1 : outB k with
  | true =>
    refine (get_out b k w (of_decide_eq_true h1)).mono ?_
    rintro e w' ⟨rfl, rfl⟩
    exact ⟨rfl, Read.same hR⟩
  | false =>
    have a := of_decide_eq_false h1
    cases h2 : endB s p k with
    | true => exact get_end b p k s w (by omega) (by omega) hs hp (of_decide_eq_true h2) hR
    | false => have c := of_decide_eq_false h2; exact get_okI b p k s w hR (by omega) (by omega) hs (by omega)

theorem rget_all (b p : Nat) (k : Int) (s : ByteArray) (w : World) (hs : s.size ≤ 140737488355328) (hp : p ≤ 8 * s.size) (hR : Rd 46 w b s p) :
    Calls Try.prog 23 #[.pointer (some ⟨b, 0, none⟩), .int .i64 k] w fun e w' => e = .returned (.tuple #[.int .i64 (getVal s p k), .int .i64 (getErr s p k)]) ∧ Read 46 w w' b s (getPos s p k) := by
  unfold getVal getErr getPos
  cases h1 : outB k with
  | true =>
    refine (rget_out b k w (of_decide_eq_true h1)).mono ?_
    rintro e w' ⟨rfl, rfl⟩
    exact ⟨rfl, Read.same hR⟩
  | false =>
    have a := of_decide_eq_false h1
    cases h2 : endB s p k with
    | true => exact rget_end b p k s w (by omega) (by omega) hs hp (of_decide_eq_true h2) hR
    | false =>
      have c := of_decide_eq_false h2
      obtain ⟨n, rfl⟩ := Int.eq_ofNat_of_zero_le (show 0 ≤ k by omega)
      exact rget_ok b p n s w (by omega) (by omega) (by omega) hR

/-- What the second loop holds. -/
def Reads (w w' : World) (r1 r2 : Nat) (s : ByteArray) : Prop := ∃ p, p ≤ 8 * s.size ∧ Rd 64 w' r1 s p ∧ Rd 46 w' r2 s p ∧ Keeps (fun _ => False) w w'

set_option maxHeartbeats 4000000 in
set_option maxRecDepth 100000 in
theorem writes_walk (a0 : Option Addr) (len0 cap0 : Nat) (f0 f1 f2 : Nat → Int) (s : ByteArray) (a2 : Option Addr) (len2 cap2 : Nat) (z2 : List Int) (w : World) (w0 : Hid (IsTri w a0 len0 f0 f1 f2)) (hs : Hid (s.size ≤ 140737488355328)) (w2 : Hid (IsRow .i64 w a2 len2 cap2 z2)) :
    Calls Try.prog 3 #[.slice a0 len0 cap0, .string s, .slice a2 len2 cap2] w fun e w' => e = .returned (.bool true) ∧ Keeps (fun _ => False) w w' := by
  go_enter Try.func3, Try.ntmps3
  go_wp2_with fail
  refine (new_ok _).mono ?_
  rintro e w1 ⟨rfl, hw1, hk1⟩
  have HH : Hid (Half w (w1.alloc (.cells #[.slice none 0 0, .int .i64 0] 29)) w.heap.size w1.heap.size) := by
    have hlt := hw1.lt
    refine ⟨none, none, [], ⟨hw1.alloc _, ⟨none, 0, heap_alloc_new w1 _, World.ownsRow_nil _ _ _ _, rfl⟩, by omega, fun _ h => by simp at h, fun _ h => by simp at h⟩, by simp, hk1.alloc _⟩
  have hb1 : w.heap.size ≤ w.heap.size := Nat.le_refl _
  have hb2 : w.heap.size ≤ w1.heap.size := hk1.size
  clear hw1 hk1
  obtain ⟨b1, hb1e⟩ : ∃ b1, b1 = w.heap.size := ⟨_, rfl⟩
  obtain ⟨b2, hb2e⟩ : ∃ b2, b2 = w1.heap.size := ⟨_, rfl⟩
  rw [← hb1e, ← hb2e] at HH
  clear hb1
  have hb1 : w.heap.size ≤ b1 := by omega
  rw [← hb2e] at hb2
  go_wp2_with fail
  rw [← hb1e, ← hb2e]
  clear hb1e hb2e
  go_loopw [9] (fun i w' => ∃ j : Nat, j ≤ len0 ∧ j ≤ 200 ∧ i = .int .i64 j ∧ Half w w' b1 b2) (fun i _ => 200 - (intOf i).toNat)
  case atStart => exact ⟨0, Nat.zero_le _, by omega, rfl, HH.out⟩
  case round =>
    obtain ⟨j, hj0, hj1, rfl, o1, o2, L, ht, hL, hk⟩ := hrel
    have HT : Hid (Two wr b1 o1 L b2 o2 L) := ht
    have HL : Hid (L.length ≤ 65536) := hL
    have HK : Hid (Keeps (fun _ => False) w wr) := hk
    clear ht hL hk HH
    by_cases hlt : (j : Int) < len0 ∧ (j : Int) < 200
    · obtain ⟨hlt0, hlt1⟩ := hlt
      obtain ⟨b0, off0, rfl, hb0, hc0⟩ : ∃ b off, a0 = some ⟨b, off, none⟩ ∧ b < w.heap.size ∧ ∀ i, i < len0 → w.cell? ⟨b, off + i * 3, none⟩ = some (.int .i64 (f0 i)) ∧ w.cell? ⟨b, off + i * 3 + 1, none⟩ = some (.int .i64 (f1 i)) ∧ w.cell? ⟨b, off + i * 3 + 2, none⟩ = some (.int .i64 (f2 i)) := by
        rcases w0.out with h | h
        · omega
        · exact h
      have hx0 : wr.cell? ⟨b0, off0 + j * 3, none⟩ = some (.int .i64 (f0 j)) := (HK.out.cell hb0).trans (hc0 j (by omega)).1
      have hx1 : wr.cell? ⟨b0, off0 + j * 3 + 1, none⟩ = some (.int .i64 (f1 j)) := (HK.out.cell hb0).trans (hc0 j (by omega)).2.1
      have hx2 : wr.cell? ⟨b0, off0 + j * 3 + 2, none⟩ = some (.int .i64 (f2 j)) := (HK.out.cell hb0).trans (hc0 j (by omega)).2.2
      clear hc0
      generalize f0 j = kd at hx0
      generalize f1 j = x at hx1
      generalize f2 j = k at hx2
      have hj0' : (0 : Int) ≤ j := by omega
      go_wp2_with fail
      · obtain ⟨wp, hwp⟩ : ∃ wp, Hid (wp = wr.alloc (.cells #[.int .i64 kd, .int .i64 x, .int .i64 k] 31)) := ⟨_, rfl⟩
        have hpb : wp.heap[wr.heap.size]? = some (.cells #[.int .i64 kd, .int .i64 x, .int .i64 k] 31 (0, 0)) := by rw [hwp.out]; exact heap_alloc_new wr _
        have HTP : Hid (Two wp.drew b1 o1 L b2 o2 L) := by show Two wp.drew b1 o1 L b2 o2 L; rw [hwp.out]; exact HT.out.apart _
        have HKP : Hid (Keeps (fun _ => False) w wp.drew) := by show Keeps (fun _ => False) w wp.drew; rw [hwp.out]; exact (HK.out.alloc _).drew
        have hl1 := HT.out.1.lt
        have hl2 := HT.out.2.1.lt
        have HO1 : Hid (∀ k, o1 = some k → k < wr.heap.size) := fun k hk => (HT.out.1.own k hk).2
        have HO2 : Hid (∀ k, o2 = some k → k < wr.heap.size) := fun k hk => (HT.out.2.1.own k hk).2
        have hsz : wr.heap.size < wp.heap.size := lt_of_heap hpb
        generalize wr.heap.size = pb at *
        have c1 : wp.cell? ⟨pb, 1, none⟩ = some (.int .i64 x) := cell_of_heap (i := 1) hpb rfl
        have c2 : wp.cell? ⟨pb, 2, none⟩ = some (.int .i64 k) := cell_of_heap (i := 2) hpb rfl
        have HPB : Hid (wp.heap[pb]? = some (.cells #[.int .i64 kd, .int .i64 x, .int .i64 k] 31 (0, 0))) := hpb
        obtain ⟨E, hE⟩ : ∃ E, Hid (E = errOf (takB 0 16 L.length x k)) := ⟨_, rfl⟩
        have hput := put_all b1 o1 L x k wp.drew HTP.out.1 HL.out
        rw [← hE.out] at hput
        have HPUT : Hid (Calls Try.prog 10 #[.pointer (some ⟨b1, 0, none⟩), .int .i64 x, .int .i64 k] wp.drew fun e w' => e = .returned (.int .i64 E) ∧ Onto 59 wp.drew w' b1 o1 (putL L x k)) := hput
        clear hput hpb hx0 hx1 hx2
        rw [← hwp.out]
        go_region_held3 (fun w' => w'.cell? ⟨pb, 1, none⟩ = some (.int .i64 x) ∧ w'.cell? ⟨pb, 2, none⟩ = some (.int .i64 k)) (go_keep)
          (first | (go_at_call 10; refine HPUT.out.mono ?_; rintro e w3 ⟨rfl, hon3⟩; have hp3 := box_kept (w' := wp.drew) HPB.out hon3 hl1 HO1.out; have c31 : w3.cell? ⟨pb, 1, none⟩ = some (.int .i64 x) := cell_of_heap (i := 1) hp3 rfl; have c32 : w3.cell? ⟨pb, 2, none⟩ = some (.int .i64 k) := cell_of_heap (i := 2) hp3 rfl; obtain ⟨⟨o1', ht3⟩, hk3⟩ := step1 HTP.out HKP.out hb1 hon3; have HP3 : Hid (w3.heap[pb]? = _) := hp3; have HT3 : Hid (Two w3 b1 o1' (putL L x k) b2 o2 L) := ht3; have HK3 : Hid (Keeps (fun _ => False) w w3) := hk3; clear hon3 hp3 ht3 hk3) | (go_at_call 9; refine (num_any _ _).mono ?_; rintro e w4 ⟨rfl, hw4⟩; obtain rfl := hw4.symm; clear hw4) | (go_at_call 11; have hrp := rput_all b2 o2 L x k w3 HT3.out.2.1 HL.out; rw [← hE.out] at hrp; refine hrp.mono ?_; rintro e w5 ⟨rfl, hon5⟩; have hp5 := box_kept HP3.out hon5 hl2 HO2.out; have c51 : w5.cell? ⟨pb, 1, none⟩ = some (.int .i64 x) := cell_of_heap (i := 1) hp5 rfl; have c52 : w5.cell? ⟨pb, 2, none⟩ = some (.int .i64 k) := cell_of_heap (i := 2) hp5 rfl; obtain ⟨⟨o2', ht5⟩, hk5⟩ := step2 HT3.out HK3.out hb2 hon5; have HT5 : Hid (Two w5 b1 o1' (putL L x k) b2 o2' (putL L x k)) := ht5; have HK5 : Hid (Keeps (fun _ => False) w w5) := hk5; clear hon5 hp5 ht5 hk5 hrp))
        have HPL : Hid ((putL L x k).length ≤ 65536) := putL_le _ _ _ HL.out
        generalize putL L x k = L' at *
        have hm : w5.cell? ⟨b2, 1, none⟩ = some (.int .i64 L'.length) := many_cell HT5.out.2.1
        go_wp2_with fail
        go_quiet ((go_at_call 16; exact Calls.quiet_of_same (len_ok b1 o1' L' _ (by exact HT5.out.1))))
        go_wp2_with fail
        go_roundw
        case rel => exact ⟨j + 1, by omega, by omega, by go_num, o1', o2', L', HT5.out, HPL.out, HK5.out.drewN nq⟩
        case measure => simp [intOf]; omega
      · obtain ⟨wp, hwp⟩ : ∃ wp, Hid (wp = (wr.alloc (.cells #[.int .i64 kd, .int .i64 x, .int .i64 k] 31)).alloc (.cells #[.int .i64 k, .int .i64 x] 37)) := ⟨_, rfl⟩
        have hpb : wp.heap[wr.heap.size + 1]? = some (.cells #[.int .i64 k, .int .i64 x] 37 (0, 0)) := by
          rw [hwp.out]
          have h := heap_alloc_new (wr.alloc (.cells #[.int .i64 kd, .int .i64 x, .int .i64 k] 31)) (.cells #[.int .i64 k, .int .i64 x] 37)
          simpa using h
        have HTP : Hid (Two wp.drew b1 o1 L b2 o2 L) := by show Two wp.drew b1 o1 L b2 o2 L; rw [hwp.out]; exact (HT.out.apart _).apart _
        have HKP : Hid (Keeps (fun _ => False) w wp.drew) := by show Keeps (fun _ => False) w wp.drew; rw [hwp.out]; exact ((HK.out.alloc _).alloc _).drew
        have hl1 : b1 < wr.heap.size + 1 := Nat.lt_succ_of_lt HT.out.1.lt
        have hl2 : b2 < wr.heap.size + 1 := Nat.lt_succ_of_lt HT.out.2.1.lt
        have HO1 : Hid (∀ k, o1 = some k → k < wr.heap.size + 1) := fun k hk => Nat.lt_succ_of_lt (HT.out.1.own k hk).2
        have HO2 : Hid (∀ k, o2 = some k → k < wr.heap.size + 1) := fun k hk => Nat.lt_succ_of_lt (HT.out.2.1.own k hk).2
        generalize wr.heap.size + 1 = pb at *
        have c1 : wp.cell? ⟨pb, 0, none⟩ = some (.int .i64 k) := cell_of_heap (i := 0) hpb rfl
        have c2 : wp.cell? ⟨pb, 1, none⟩ = some (.int .i64 x) := cell_of_heap (i := 1) hpb rfl
        have HPB : Hid (wp.heap[pb]? = some (.cells #[.int .i64 k, .int .i64 x] 37 (0, 0))) := hpb
        obtain ⟨E, hE⟩ : ∃ E, Hid (E = errOf (takB 1 15 L.length x k)) := ⟨_, rfl⟩
        have hput := code_all b1 o1 L x k wp.drew HTP.out.1 HL.out
        rw [← hE.out] at hput
        have HPUT : Hid (Calls Try.prog 12 #[.pointer (some ⟨b1, 0, none⟩), .agg #[.int .i64 k, .int .i64 x]] wp.drew fun e w' => e = .returned (.int .i64 E) ∧ Onto 59 wp.drew w' b1 o1 (codeL L x k)) := hput
        clear hput hpb hx0 hx1 hx2
        rw [← hwp.out]
        go_region_held3 (fun w' => w'.cell? ⟨pb, 0, none⟩ = some (.int .i64 k) ∧ w'.cell? ⟨pb, 1, none⟩ = some (.int .i64 x)) (go_keep)
          (first | (go_at_call 12; refine HPUT.out.mono ?_; rintro e w3 ⟨rfl, hon3⟩; have hp3 := box_kept (w' := wp.drew) HPB.out hon3 hl1 HO1.out; have c31 : w3.cell? ⟨pb, 0, none⟩ = some (.int .i64 k) := cell_of_heap (i := 0) hp3 rfl; have c32 : w3.cell? ⟨pb, 1, none⟩ = some (.int .i64 x) := cell_of_heap (i := 1) hp3 rfl; obtain ⟨⟨o1', ht3⟩, hk3⟩ := step1 HTP.out HKP.out hb1 hon3; have HP3 : Hid (w3.heap[pb]? = _) := hp3; have HT3 : Hid (Two w3 b1 o1' (codeL L x k) b2 o2 L) := ht3; have HK3 : Hid (Keeps (fun _ => False) w w3) := hk3; clear hon3 hp3 ht3 hk3) | (go_at_call 9; refine (num_any _ _).mono ?_; rintro e w4 ⟨rfl, hw4⟩; obtain rfl := hw4.symm; clear hw4) | (go_at_call 13; have hrp := rcode_all b2 o2 L x k w3 HT3.out.2.1 HL.out; rw [← hE.out] at hrp; refine hrp.mono ?_; rintro e w5 ⟨rfl, hon5⟩; have hp5 := box_kept HP3.out hon5 hl2 HO2.out; have c51 : w5.cell? ⟨pb, 0, none⟩ = some (.int .i64 k) := cell_of_heap (i := 0) hp5 rfl; have c52 : w5.cell? ⟨pb, 1, none⟩ = some (.int .i64 x) := cell_of_heap (i := 1) hp5 rfl; obtain ⟨⟨o2', ht5⟩, hk5⟩ := step2 HT3.out HK3.out hb2 hon5; have HT5 : Hid (Two w5 b1 o1' (codeL L x k) b2 o2' (codeL L x k)) := ht5; have HK5 : Hid (Keeps (fun _ => False) w w5) := hk5; clear hon5 hp5 ht5 hk5 hrp))
        have HPL : Hid ((codeL L x k).length ≤ 65536) := codeL_le _ _ _ HL.out
        generalize codeL L x k = L' at *
        have hm : w5.cell? ⟨b2, 1, none⟩ = some (.int .i64 L'.length) := many_cell HT5.out.2.1
        go_wp2_with fail
        go_quiet ((go_at_call 16; exact Calls.quiet_of_same (len_ok b1 o1' L' _ (by exact HT5.out.1))))
        go_wp2_with fail
        go_roundw
        case rel => exact ⟨j + 1, by omega, by omega, by go_num, o1', o2', L', HT5.out, HPL.out, HK5.out.drewN nq⟩
        case measure => simp [intOf]; omega
      · have HTP : Hid (Two (wr.alloc (.cells #[.int .i64 kd, .int .i64 x, .int .i64 k] 31)) b1 o1 L b2 o2 L) := HT.out.apart _
        have HKP : Hid (Keeps (fun _ => False) w (wr.alloc (.cells #[.int .i64 kd, .int .i64 x, .int .i64 k] 31))) := HK.out.alloc _
        clear hx0 hx1 hx2
        refine (walign_ok b1 o1 L _ HL.out HTP.out.1).mono ?_
        rintro e w3 ⟨rfl, hon3⟩
        obtain ⟨⟨o1', ht3⟩, hk3⟩ := step1 HTP.out HKP.out hb1 hon3
        have HT3 : Hid (Two w3 b1 o1' (alignOf L) b2 o2 L) := ht3
        have HK3 : Hid (Keeps (fun _ => False) w w3) := hk3
        clear ht3 hk3 hon3
        go_wp2_with fail
        refine (num_any _ _).mono ?_
        rintro e w4 ⟨rfl, hw4⟩
        obtain rfl := hw4.symm
        clear hw4
        go_wp2_with fail
        refine (rwalign_ok b2 o2 L w3 HL.out HT3.out.2.1).mono ?_
        rintro e w5 ⟨rfl, hon5⟩
        obtain ⟨⟨o2', ht5⟩, hk5⟩ := step2 HT3.out HK3.out hb2 hon5
        have HT5 : Hid (Two w5 b1 o1' (alignOf L) b2 o2' (alignOf L)) := ht5
        have HK5 : Hid (Keeps (fun _ => False) w w5) := hk5
        clear ht5 hk5 hon5
        have HPL : Hid ((alignOf L).length ≤ 65536) := alignOf_le _ HL.out
        generalize alignOf L = L' at *
        have hm : w5.cell? ⟨b2, 1, none⟩ = some (.int .i64 L'.length) := many_cell HT5.out.2.1
        go_wp2_with fail
        go_quiet ((go_at_call 16; exact Calls.quiet_of_same (len_ok b1 o1' L' _ (by exact HT5.out.1))))
        go_wp2_with fail
        go_roundw
        case rel => exact ⟨j + 1, by omega, by omega, by go_num, o1', o2', L', HT5.out, HPL.out, HK5.out.drewN nq⟩
        case measure => simp [intOf]; omega
    · go_wp2_with fail
      all_goals
        refine (of_ok s wr).mono ?_
        rintro e w3 ⟨rfl, hr3, hk3⟩
        have hl3 := hr3.lt
        have HR3 : Hid (Reads w (w3.alloc (.cells #[.string s, .int .i64 0] 46)) wr.heap.size w3.heap.size s) :=
          ⟨0, by omega, hr3.kept ((Keeps.refl (fun _ => False) w3).alloc _) (fun h => h), heap_alloc_new w3 _, (keep_none HK.out hk3).alloc _⟩
        have HT4 : Hid (Two (w3.alloc (.cells #[.string s, .int .i64 0] 46)) b1 o1 L b2 o2 L) := (HT.out.keptF hk3).apart _
        have hr1 : w.heap.size ≤ wr.heap.size := HK.out.size
        have hr2 : w.heap.size ≤ w3.heap.size := Nat.le_trans hr1 hk3.size
        have hr12 : wr.heap.size ≠ w3.heap.size := by omega
        clear hr3 hk3 HT HK HL hl3
        obtain ⟨r1, hr1e⟩ : ∃ r, Hid (r = wr.heap.size) := ⟨_, rfl⟩
        obtain ⟨r2, hr2e⟩ : ∃ r, Hid (r = w3.heap.size) := ⟨_, rfl⟩
        rw [← hr1e.out, ← hr2e.out] at hr12 HR3
        rw [← hr1e.out] at hr1
        rw [← hr2e.out] at hr2
        rw [← hr1e.out]
        go_wp2_with fail
        rw [← hr2e.out]
        obtain ⟨wq, hwq⟩ : ∃ wq, Hid (wq = w3.alloc (.cells #[.string s, .int .i64 0] 46)) := ⟨_, rfl⟩
        rw [← hwq.out] at HR3 HT4 ⊢
        refine (text_ok b1 o1 L wq HT4.out.1).mono ?_
        rintro e w' ⟨rfl, hw⟩
        obtain rfl := hw.symm
        clear hw
        obtain ⟨t, HTX⟩ : ∃ t, Hid (t = textOf (pack L)) := ⟨_, rfl⟩
        rw [← HTX.out]
        have hrt := rtext_ok b2 o2 L wq HT4.out.2.1
        rw [← HTX.out] at hrt
        have HRT : Hid (Calls Try.prog 19 #[.pointer (some ⟨b2, 0, none⟩)] wq fun e w' => e = .returned (.string t) ∧ w' = wq) := hrt
        clear hrt
        go_wp2_with fail
        refine HRT.out.mono ?_
        rintro e w' ⟨rfl, hw⟩
        obtain rfl := hw.symm
        clear hw HRT HT4
        go_wp2_with fail
        go_loopw [14] (fun i w' => ∃ j : Nat, j ≤ len2 ∧ j ≤ 100 ∧ i = .int .i64 j ∧ Reads w w' r1 r2 s) (fun i _ => 100 - (intOf i).toNat)
        case atStart => exact ⟨0, Nat.zero_le _, by omega, rfl, HR3.out⟩
        case round =>
          obtain ⟨j2, hj20, hj21, rfl, p, hp, hra, hrb, hk⟩ := hrel
          have HP : Hid (p ≤ 8 * s.size) := hp
          have HRA : Hid (Rd 64 wr r1 s p) := hra
          have HRB : Hid (Rd 46 wr r2 s p) := hrb
          have HK : Hid (Keeps (fun _ => False) w wr) := hk
          clear hp hra hrb hk HR3
          by_cases hlt2 : (j2 : Int) < len2 ∧ (j2 : Int) < 100
          · obtain ⟨hlt20, hlt21⟩ := hlt2
            obtain ⟨b0, off0, rfl, hb0, hc0⟩ := w2.out.spot (by omega)
            have hx : wr.cell? ⟨b0, off0 + j2, none⟩ = some (.int .i64 (z2.getD j2 0)) := (HK.out.cell hb0).trans (hc0 j2 (by omega))
            obtain ⟨y, hye⟩ : ∃ y, Hid (y = z2.getD j2 0) := ⟨_, rfl⟩
            rw [← hye.out] at hx
            have HC0 : Hid (∀ w' : World, Keeps (fun _ => False) w w' → w'.cell? ⟨b0, off0 + j2, none⟩ = some (.int .i64 y)) := fun w' h => by rw [hye.out]; exact (h.cell hb0).trans (hc0 j2 (by omega))
            clear hc0
            have hj0' : (0 : Int) ≤ j2 := by omega
            by_cases hy : (y == 99) = true
            · go_wp2_with fail
              refine (ralign_ok r1 p s wr hs.out HP.out HRA.out).mono ?_
              rintro e w5 ⟨rfl, hr5, hk5⟩
              have HR5 : Hid (Rd 64 w5 r1 s ((p + 7) / 8 * 8)) := hr5
              have HQ5 : Hid (Rd 46 w5 r2 s p) := HRB.out.kept hk5 (fun h => hr12 h.symm)
              have HK5 : Hid (Keeps (fun _ => False) w w5) := keep_rd HK.out hr1 hk5
              clear hr5 hk5 HRA HRB HK hx
              go_wp2_with fail
              refine (num_any _ _).mono ?_
              rintro e w' ⟨rfl, hw⟩
              obtain rfl := hw.symm
              clear hw
              go_wp2_with fail
              refine (rralign_ok r2 p s w5 hs.out HP.out HQ5.out).mono ?_
              rintro e w6 ⟨rfl, hr6, hk6⟩
              have HR6 : Hid (Rd 64 w6 r1 s ((p + 7) / 8 * 8)) := HR5.out.kept hk6 hr12
              have HQ6 : Hid (Rd 46 w6 r2 s ((p + 7) / 8 * 8)) := hr6
              have HK6 : Hid (Keeps (fun _ => False) w w6) := keep_rd HK5.out hr2 hk6
              have HP6 : Hid ((p + 7) / 8 * 8 ≤ 8 * s.size) := by show (p + 7) / 8 * 8 ≤ 8 * s.size; have := HP.out; omega
              clear hr6 hk6 HR5 HQ5 HK5
              go_wp2_with fail
              go_roundw
              case rel => exact ⟨j2 + 1, by omega, by omega, by go_num, _, HP6.out, HR6.out, HQ6.out, HK6.out⟩
              case measure => simp [intOf]; omega
            · have hyf : (y == 99) = false := by simpa using hy
              clear hy
              obtain ⟨V, hV⟩ : ∃ V, Hid (V = getVal s p y) := ⟨_, rfl⟩
              obtain ⟨E, hE⟩ : ∃ E, Hid (E = getErr s p y) := ⟨_, rfl⟩
              obtain ⟨p', hp'⟩ : ∃ p', Hid (p' = getPos s p y) := ⟨_, rfl⟩
              have HP6 : Hid (p' ≤ 8 * s.size) := by show p' ≤ 8 * s.size; rw [hp'.out]; exact getPos_le s p y HP.out
              have hg1 := get_all r1 p y s wr hs.out HP.out HRA.out
              rw [← hV.out, ← hE.out, ← hp'.out] at hg1
              have HG1 : Hid (Calls Try.prog 22 #[.pointer (some ⟨r1, 0, none⟩), .int .i64 y] wr fun e w' => e = .returned (.tuple #[.int .i64 V, .int .i64 E]) ∧ Read 64 wr w' r1 s p') := hg1
              clear hg1
              go_wp2_with fail
              refine HG1.out.mono ?_
              rintro e w5 ⟨rfl, hr5, hk5⟩
              have HR5 : Hid (Rd 64 w5 r1 s p') := hr5
              have HQ5 : Hid (Rd 46 w5 r2 s p) := HRB.out.kept hk5 (fun h => hr12 h.symm)
              have HK5 : Hid (Keeps (fun _ => False) w w5) := keep_rd HK.out hr1 hk5
              have hx5 : w5.cell? ⟨b0, off0 + j2, none⟩ = some (.int .i64 y) := HC0.out w5 HK5.out
              clear hr5 hk5 HRA HRB HK hx HG1
              have hg2 := rget_all r2 p y s w5 hs.out HP.out HQ5.out
              rw [← hV.out, ← hE.out, ← hp'.out] at hg2
              have HG2 : Hid (Calls Try.prog 23 #[.pointer (some ⟨r2, 0, none⟩), .int .i64 y] w5 fun e w' => e = .returned (.tuple #[.int .i64 V, .int .i64 E]) ∧ Read 46 w5 w' r2 s p') := hg2
              clear hg2
              go_wp2_with fail
              refine HG2.out.mono ?_
              rintro e w6 ⟨rfl, hr6, hk6⟩
              have HR6 : Hid (Rd 64 w6 r1 s p') := HR5.out.kept hk6 hr12
              have HQ6 : Hid (Rd 46 w6 r2 s p') := hr6
              have HK6 : Hid (Keeps (fun _ => False) w w6) := keep_rd HK5.out hr2 hk6
              have hat : w6.cell? ⟨r2, 1, none⟩ = some (.int .i64 p') := cell_of_heap (i := 1) HQ6.out rfl
              clear hr6 hk6 HR5 HQ5 HK5 hx5 HG2
              go_wp2_with fail
              go_quiet ((first | (go_at_call 9; exact Calls.quiet_of_same (num_any _ _)) | (go_at_call 24; exact Calls.quiet_of_same (at_ok r1 p' s _ (by exact HR6.out)))))
              go_wp2_with fail
              go_roundw
              case rel => exact ⟨j2 + 1, by omega, by omega, by go_num, p', HP6.out, HR6.out, HQ6.out, HK6.out.drewN nq⟩
              case measure => simp [intOf]; omega
          · go_wp2_with fail
            all_goals
              refine (awake_ok wr).mono ?_
              rintro e wz ⟨rfl, hkz⟩
              have HKZ : Hid (Keeps (fun _ => False) w wz) := keep_none HK.out hkz
              clear hkz
              go_wp2_with fail
              go_ret
              exact ⟨rfl, HKZ.out⟩

theorem writes_below (a0 : Option Addr) (len0 cap0 : Nat) (f0 f1 f2 : Nat → Int) (s : ByteArray) (a2 : Option Addr) (len2 cap2 : Nat) (z2 : List Int) (w : World) (w0 : IsTri w a0 len0 f0 f1 f2) (hs : s.size ≤ 140737488355328) (w2 : IsRow .i64 w a2 len2 cap2 z2) :
    Calls Try.prog 3 #[.slice a0 len0 cap0, .string s, .slice a2 len2 cap2] w fun e w' => e = .returned (.bool true) ∧ Below w.heap.size w w' := by
  refine (writes_walk a0 len0 cap0 f0 f1 f2 s a2 len2 cap2 z2 w w0 hs w2).mono ?_
  rintro e w' ⟨rfl, hk⟩
  exact ⟨rfl, hk.below _ (Nat.le_refl _) (fun _ h => h.elim)⟩

end Go.Proofs.Ytlkgnjnnfoocpaa

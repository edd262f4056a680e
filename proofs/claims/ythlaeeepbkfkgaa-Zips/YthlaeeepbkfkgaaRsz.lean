/-
  The document's size of an archive.
-/
import Derived.Test.YthlaeeepbkfkgaaRwm
namespace Go.Proofs.Ythlaeeepbkfkgaa
open Go.RowKit
set_option linter.unusedVariables false
set_option linter.unusedSimpArgs false

theorem wrap_sm' (x : Int) (h0 : 0 ≤ x) (h1 : x ≤ 1000000) : IntKind.i64.wrap x = x := by
  simp only [IntKind.wrap, IntKind.bits, IntKind.signed]; simp; omega
theorem size_facts (k n q K1 N2 K2 K3 K4 : Nat) (hk : k ≤ 10000) (hn : n ≤ 8) (hq : q ≤ 300) (h1 : k + 76 = K1) (h2 : 2 * n = N2) (h3 : K1 + N2 = K2) (h4 : K2 + 52 = K3) (h5 : K3 + q = K4) :
    IntKind.i64.wrap ((k : Int) + 76) = (K1 : Int) ∧ IntKind.i64.wrap (2 * (n : Int)) = (N2 : Int) ∧ IntKind.i64.wrap ((K1 : Int) + (N2 : Int)) = (K2 : Int) ∧ IntKind.i64.wrap ((K2 : Int) + 52) = (K3 : Int) ∧ IntKind.i64.wrap ((K3 : Int) + (q : Int)) = (K4 : Int) := by
  refine ⟨?_, ?_, ?_, ?_, ?_⟩ <;> rw [wrap_sm' _ (by omega) (by omega)] <;> omega

set_option maxHeartbeats 8000000 in
set_option maxRecDepth 1000000 in
theorem rsize_ok (a : Option Addr) (cap : Nat) (es : List It) (w : World) (hF : Fol w a es) (hz : ∀ x ∈ es, Fit x) :
    Calls Try.prog 13 #[.agg #[.slice a es.length cap]] w fun r w' => r = .returned (.int .i64 (zSize es : Int)) ∧ Keeps (fun _ => False) w w' := by
  have HM0 : Hid (∀ w', Keeps (fun _ => False) w w' → Calls Try.prog 15 #[.agg #[.slice a es.length cap]] w' fun r w'' => r = .returned (.bool (writeB es)) ∧ Keeps (fun _ => False) w' w'') := fun w' hk => rwrite_ok a cap es w' (hF.keptF hk) hz
  have HC : Hid (∀ w', Keeps (fun _ => False) (w.alloc (.cells #[.slice a es.length cap] 24)) w' → w'.cell? ⟨w.heap.size, 0, none⟩ = some (.slice a es.length cap)) := fvar w _
  have HW0 : Hid (Keeps (fun _ => False) w (w.alloc (.cells #[.slice a es.length cap] 24))) := (Keeps.refl _ _).alloc _
  cases hw : writeB es
  · have hZ : (zSize es : Int) = 0 := by rw [zSize, hw]; rfl
    rw [hZ]
    have HM := HM0
    rw [hw] at HM
    clear HM0 hF hz hw hZ
    go_enter Try.func13, Try.ntmps13
    go_wp2_with (go_at_call 15; refine (HM.out _ ((Keeps.refl _ _).alloc _)).mono ?_; rintro r w1 ⟨rfl, h⟩; have HK : Hid (Keeps (fun _ => False) w w1) := ((Keeps.refl _ _).alloc _).tr h; clear h)
    go_ret
    exact ⟨rfl, HK.out⟩
  · have hh := writeB_held hw
    have h6 := writeB_len hw
    have HM := HM0
    rw [hw] at HM
    have HZ : Hid (kz es es.length = zSize es) := by
      show _ = _
      rw [kz_end hh, zSize, hw]; rfl
    have HS : Hid (∀ i (hi : i < es.length), ∃ b off, a = some ⟨b, off, none⟩ ∧ kz es (i + 1) = kz es i + 30 + 46 + 2 * (es[i].1.nm.size + 26) + es[i].1.pk.size ∧ es[i].1.nm.size ≤ 8 ∧ es[i].1.pk.size ≤ 300 ∧ ∀ w', Keeps (fun _ => False) w w' → EntAt w' b (off + i * 9) es[i].1) := fun i hi => by
      obtain ⟨b, off, e, _, hf⟩ := hF.at (by omega)
      obtain ⟨_, _, _, n4, n5⟩ := heldB_nums (hh _ (List.getElem_mem hi))
      exact ⟨b, off, e, kz_succ es i hi, n5.2, n4, fun w' hk => (hf w' hk i hi).1⟩
    have HL : Hid (∀ i, i ≤ es.length → kz es i ≤ 10000) := fun i hi => kz_le hh h6 i hi
    have h6z : (es.length : Int) ≤ 6 := by omega
    clear HM0 hF hz hw hh h6
    go_enter Try.func13, Try.ntmps13
    go_wp2_with (go_at_call 15; refine (HM.out _ ((Keeps.refl _ _).alloc _)).mono ?_; rintro r w1 ⟨rfl, h⟩; have A1 : Hid (Keeps (fun _ => False) (w.alloc (.cells #[.slice a es.length cap] 24)) w1) := h; clear h)
    go_loopw [3, 4] (fun s3 s4 w' => ∃ i : Nat, i ≤ es.length ∧ s4 = .int .i64 (i : Int) ∧ ∃ k : Nat, s3 = .int .i64 (k : Int) ∧ Hid (k = kz es i ∧ Keeps (fun _ => False) (w.alloc (.cells #[.slice a es.length cap] 24)) w')) (fun _ s4 _ => ((es.length : Int) - intOf s4).toNat)
    case atStart => exact ⟨0, by omega, rfl, 22, rfl, (kz_zero es).symm, A1.out⟩
    case round =>
      clear A1
      obtain ⟨i, hi, rfl, k, rfl, HT⟩ := hrel
      have cr := HC.out wr HT.out.2
      by_cases hin : i < es.length
      · have hiz : (i : Int) < (es.length : Int) := by omega
        obtain ⟨b, off, rfl, hks, hn, hp, hA⟩ := HS.out i hin
        have hkl := HL.out i hi
        obtain ⟨e, he⟩ : ∃ e, es[i].1 = e := ⟨_, rfl⟩
        rw [he] at hks hn hp hA
        have c0 : wr.cell? ⟨b, off + i * 9, none⟩ = some (.string e.nm) := (hA wr (HW0.out.tr HT.out.2)) 0 _ rfl
        have c6 : wr.cell? ⟨b, off + i * 9 + 6, none⟩ = some (.string e.pk) := (hA wr (HW0.out.tr HT.out.2)) 6 _ rfl
        obtain ⟨K1, h1⟩ : ∃ K1 : Nat, k + 76 = K1 := ⟨_, rfl⟩
        obtain ⟨N2, h2⟩ : ∃ N2 : Nat, 2 * e.nm.size = N2 := ⟨_, rfl⟩
        obtain ⟨K2, h3⟩ : ∃ K2 : Nat, K1 + N2 = K2 := ⟨_, rfl⟩
        obtain ⟨K3, h4⟩ : ∃ K3 : Nat, K2 + 52 = K3 := ⟨_, rfl⟩
        obtain ⟨K4, h5⟩ : ∃ K4 : Nat, K3 + e.pk.size = K4 := ⟨_, rfl⟩
        have hkk : k ≤ 10000 := by have := HT.out.1; omega
        obtain ⟨f1, f2, f3, f4, f5⟩ := size_facts k e.nm.size e.pk.size K1 N2 K2 K3 K4 hkk hn hp h1 h2 h3 h4 h5
        have HKS : Hid (K4 = kz es (i + 1)) := by
          show _ = _
          rw [hks, ← HT.out.1]; omega
        have HD : Hid (Keeps (fun _ => False) (w.alloc (.cells #[.slice (some ⟨b, off, none⟩) es.length cap] 24)) wr) := HT.out.2
        clear hks hA he hkl hn hp HS HL HZ HT h1 h2 h3 h4 h5 hkk
        go_wp2
        go_quiet (fail)
        go_wp2
        go_roundw
        case rel => exact ⟨i + 1, by omega, by push_cast; rfl, K4, rfl, HKS.out, HD.out.drewN _⟩
        case measure => simp [intOf]; omega
      · obtain rfl : i = es.length := by omega
        have hk : (k : Int) = (zSize es : Int) := by rw [HT.out.1, HZ.out]
        have HT2 : Hid (Keeps (fun _ => False) (w.alloc (.cells #[.slice a es.length cap] 24)) wr) := HT.out.2
        rw [hk]
        clear HT HS HL HZ hk
        go_wp2
        go_ret
        exact ⟨rfl, HW0.out.tr HT2.out⟩

end Go.Proofs.Ythlaeeepbkfkgaa

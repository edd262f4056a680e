/-
  Tokens that may not be: MatchForms.
-/
import Derived.Test.YtgfhpbcibifoeaaAwake
import Derived.BigRegion
namespace Go.Proofs.Ytgfhpbcibifoeaa
open Go.RowKit
set_option linter.unusedVariables false
set_option linter.unusedSimpArgs false

def badL (d : Nat) : List Tk := [(-(d : Int), 0, 0), (255 + (d : Int), 0, 0), (1, 0, (d : Int)), (0, 2, 1), (0, -(d : Int), 1), (0, 258 + (d : Int), 1), (0, 3, 0), (0, 3, -(d : Int)), (0, 3, 1 + (d : Int)), ((d : Int), 3, 1)]
theorem bad_no (d r : Nat) (hd : 1 ≤ d) (hr : r < 10) : mayF 0 [(65, 0, 0), tk (badL d) r] = false := by
  have h1 : okT (65, 0, 0) 0 = true := by decide
  have hs : (0 : Int) + sz (65, 0, 0) = 1 := by decide
  have e : mayF 0 [(65, 0, 0), tk (badL d) r] = (okT (tk (badL d) r) 1 && true) := by
    show (okT (65, 0, 0) 0 && (okT (tk (badL d) r) (0 + sz (65, 0, 0)) && true)) = _
    rw [h1, hs, Bool.true_and]
  rw [e, Bool.and_true]
  have hk : ∀ t : Tk, isB t = false → isC t 1 = false → okT t 1 = false := fun t h1 h2 => by unfold okT; rw [h1, h2]; simp
  match r, hr with
  | 0, _ => exact hk _ (by simp [tk, badL, isB]; omega) (by simp [tk, badL, isC])
  | 1, _ => exact hk _ (by simp [tk, badL, isB]; omega) (by simp [tk, badL, isC])
  | 2, _ => exact hk _ (by simp [tk, badL, isB]; omega) (by simp [tk, badL, isC])
  | 3, _ => exact hk _ (by simp [tk, badL, isB]) (by simp [tk, badL, isC])
  | 4, _ => exact hk _ (by simp [tk, badL, isB]) (by simp [tk, badL, isC]; omega)
  | 5, _ => exact hk _ (by simp [tk, badL, isB]) (by simp [tk, badL, isC]; omega)
  | 6, _ => exact hk _ (by simp [tk, badL, isB]) (by simp [tk, badL, isC])
  | 7, _ => exact hk _ (by simp [tk, badL, isB]) (by simp [tk, badL, isC]; omega)
  | 8, _ => exact hk _ (by simp [tk, badL, isB]) (by simp [tk, badL, isC]; omega)
  | 9, _ => exact hk _ (by simp [tk, badL, isB]) (by simp [tk, badL, isC]; omega)
def longL (i : Nat) : List Tk := (65, 0, 0) :: List.replicate i (0, 258, 1)
theorem longL_len (i : Nat) : (longL i).length = i + 1 := by simp [longL]
theorem longL_next (i : Nat) : longL (i + 1) = longL i ++ [(0, 258, 1)] := by simp [longL, List.replicate_succ']
theorem long_no : mayF 0 (longL 32) = false := by decide +kernel
theorem long_yes : mayF 0 (longL 29) = true := by decide +kernel
theorem long_sum : sumZ (longL 29) = 7483 := by decide +kernel
theorem long_take (w : World) (a : Option Addr) (h : RowT w a (longL 32)) : RowT w a (longL 29) := by
  rcases h with h | ⟨b, off, rfl, h1, h2⟩
  · simp [longL] at h
  · refine .inr ⟨b, off, rfl, h1, fun i hi => ?_⟩
    rw [longL_len] at hi
    have := h2 i (by rw [longL_len]; omega)
    have e : tk (longL 29) i = tk (longL 32) i := by
      rw [show longL 32 = longL 29 ++ [(0, 258, 1), (0, 258, 1), (0, 258, 1)] by decide, tk_left _ _ _ (by rw [longL_len]; omega)]
    rw [e]; exact this

set_option maxHeartbeats 4000000 in
set_option maxRecDepth 1000000 in
theorem forms_walk (which x : Int) (w : World) : Calls Try.prog 5 #[.int .i64 which, .int .i64 x] w fun e w' => e = .returned (.bool true) ∧ Keeps (fun _ => False) w w' := by
  obtain ⟨r, hr, hr10⟩ : ∃ r : Nat, (IntKind.u64.wrap which).tmod 10 = (r : Int) ∧ r < 10 := by
    have e : IntKind.u64.wrap which = which % 18446744073709551616 := by simp [IntKind.wrap, IntKind.bits, IntKind.signed]
    rw [e, Int.tmod_eq_emod_of_nonneg (by omega)]
    exact ⟨(which % 18446744073709551616 % 10).toNat, by omega, by omega⟩
  obtain ⟨d, hd, hd1, hd2⟩ : ∃ d : Nat, 1 + bits .and .i64 x 1023 = (d : Int) ∧ 1 ≤ d ∧ d ≤ 1024 := by
    have := i64_and_mask x 10 (by omega)
    rw [show ((2 ^ 10 - 1 : Nat) : Int) = 1023 from rfl, show ((2 ^ 10 : Nat) : Int) = 1024 from rfl] at this
    rw [this]
    exact ⟨(1 + x % 1024).toNat, by omega, by omega, by omega⟩
  go_enter Try.func5, Try.ntmps5
  go_wp2_with (first
    | (go_at_call 19; refine (awake_ok _).mono ?_; rintro e w1 ⟨rfl, hK1⟩; have HK1 : Hid (Keeps (fun _ => False) w w1) := hK1; clear hK1)
    | (refine wpList_alloc3 rfl rfl ?_; intro b6 w2 hT2 hK2 hb6; have HK2 : Hid (Keeps (fun _ => False) w w2) := HK1.out.trans hK2 (fun _ _ h => h); have HB6 : Hid (w.heap.size ≤ b6) := (by have := HK1.out.size; show _ ≤ _; omega); clear hK2 hb6)
    | (refine wpList_store3 rfl _ _ rfl b6 (65, 0, 0) rfl rfl (0, 0, 0) ?hA ?_; (case hA => assumption); intro w3 hT3 hK3; have HK3 : Hid (Keeps (fun _ => False) w w3) := HK2.out.trans hK3 (fun i hi h => by have := HB6.out; omega); clear hK3 hT2))
  have hR := RowT.lit w3 (badL d) 40
  have HG : Hid (RowT (w3.alloc (Obj.cells #[Value.int IntKind.i64 (-(d : Int)), Value.int IntKind.i64 0, Value.int IntKind.i64 0, Value.int IntKind.i64 (255 + (d : Int)), Value.int IntKind.i64 0, Value.int IntKind.i64 0, Value.int IntKind.i64 1, Value.int IntKind.i64 0, Value.int IntKind.i64 (d : Int), Value.int IntKind.i64 0, Value.int IntKind.i64 2, Value.int IntKind.i64 1, Value.int IntKind.i64 0, Value.int IntKind.i64 (-(d : Int)), Value.int IntKind.i64 1, Value.int IntKind.i64 0, Value.int IntKind.i64 (258 + (d : Int)), Value.int IntKind.i64 1, Value.int IntKind.i64 0, Value.int IntKind.i64 3, Value.int IntKind.i64 0, Value.int IntKind.i64 0, Value.int IntKind.i64 3, Value.int IntKind.i64 (-(d : Int)), Value.int IntKind.i64 0, Value.int IntKind.i64 3, Value.int IntKind.i64 (1 + (d : Int)), Value.int IntKind.i64 (d : Int), Value.int IntKind.i64 3, Value.int IntKind.i64 1] 40)) (some ⟨w3.heap.size, 0, none⟩) (badL d) ∧ Tkb (w3.alloc (Obj.cells #[Value.int IntKind.i64 (-(d : Int)), Value.int IntKind.i64 0, Value.int IntKind.i64 0, Value.int IntKind.i64 (255 + (d : Int)), Value.int IntKind.i64 0, Value.int IntKind.i64 0, Value.int IntKind.i64 1, Value.int IntKind.i64 0, Value.int IntKind.i64 (d : Int), Value.int IntKind.i64 0, Value.int IntKind.i64 2, Value.int IntKind.i64 1, Value.int IntKind.i64 0, Value.int IntKind.i64 (-(d : Int)), Value.int IntKind.i64 1, Value.int IntKind.i64 0, Value.int IntKind.i64 (258 + (d : Int)), Value.int IntKind.i64 1, Value.int IntKind.i64 0, Value.int IntKind.i64 3, Value.int IntKind.i64 0, Value.int IntKind.i64 0, Value.int IntKind.i64 3, Value.int IntKind.i64 (-(d : Int)), Value.int IntKind.i64 0, Value.int IntKind.i64 3, Value.int IntKind.i64 (1 + (d : Int)), Value.int IntKind.i64 (d : Int), Value.int IntKind.i64 3, Value.int IntKind.i64 1] 40)) b6 (65, 0, 0) ∧ Keeps (fun _ => False) w (w3.alloc (Obj.cells #[Value.int IntKind.i64 (-(d : Int)), Value.int IntKind.i64 0, Value.int IntKind.i64 0, Value.int IntKind.i64 (255 + (d : Int)), Value.int IntKind.i64 0, Value.int IntKind.i64 0, Value.int IntKind.i64 1, Value.int IntKind.i64 0, Value.int IntKind.i64 (d : Int), Value.int IntKind.i64 0, Value.int IntKind.i64 2, Value.int IntKind.i64 1, Value.int IntKind.i64 0, Value.int IntKind.i64 (-(d : Int)), Value.int IntKind.i64 1, Value.int IntKind.i64 0, Value.int IntKind.i64 (258 + (d : Int)), Value.int IntKind.i64 1, Value.int IntKind.i64 0, Value.int IntKind.i64 3, Value.int IntKind.i64 0, Value.int IntKind.i64 0, Value.int IntKind.i64 3, Value.int IntKind.i64 (-(d : Int)), Value.int IntKind.i64 0, Value.int IntKind.i64 3, Value.int IntKind.i64 (1 + (d : Int)), Value.int IntKind.i64 (d : Int), Value.int IntKind.i64 3, Value.int IntKind.i64 1] 40))) := ⟨hR, hT3.keptF ((Keeps.refl _ w3).alloc _), HK3.out.alloc _⟩
  clear hR hT3
  generalize w3.alloc (Obj.cells #[Value.int IntKind.i64 (-(d : Int)), Value.int IntKind.i64 0, Value.int IntKind.i64 0, Value.int IntKind.i64 (255 + (d : Int)), Value.int IntKind.i64 0, Value.int IntKind.i64 0, Value.int IntKind.i64 1, Value.int IntKind.i64 0, Value.int IntKind.i64 (d : Int), Value.int IntKind.i64 0, Value.int IntKind.i64 2, Value.int IntKind.i64 1, Value.int IntKind.i64 0, Value.int IntKind.i64 (-(d : Int)), Value.int IntKind.i64 1, Value.int IntKind.i64 0, Value.int IntKind.i64 (258 + (d : Int)), Value.int IntKind.i64 1, Value.int IntKind.i64 0, Value.int IntKind.i64 3, Value.int IntKind.i64 0, Value.int IntKind.i64 0, Value.int IntKind.i64 3, Value.int IntKind.i64 (-(d : Int)), Value.int IntKind.i64 0, Value.int IntKind.i64 3, Value.int IntKind.i64 (1 + (d : Int)), Value.int IntKind.i64 (d : Int), Value.int IntKind.i64 3, Value.int IntKind.i64 1] 40) = wb at *
  generalize w3.heap.size = g at *
  clear HK3 HK2 HK1 hd
  obtain ⟨g0, off, e0, hgl, hcl⟩ := HG.out.1.at (by simp [badL])
  simp only [Option.some.injEq, Addr.mk.injEq] at e0
  obtain ⟨rfl, rfl, _⟩ := e0
  have hT := hcl wb (Keeps.refl _ _) r (by simp [badL]; omega)
  have hbad := bad_no d r hd1 hr10
  rw [Nat.zero_add] at hT
  obtain ⟨⟨l, n, q⟩, ht⟩ : ∃ t, tk (badL d) r = t := ⟨_, rfl⟩
  rw [ht] at hT hbad
  have HBad : Hid (mayF 0 [(65, 0, 0), (l, n, q)] = false) := hbad
  clear ht hbad hcl
  obtain ⟨c0, c1, c2⟩ : wb.cell? ⟨g, r * 3, none⟩ = some (.int .i64 l) ∧ wb.cell? ⟨g, r * 3 + 1, none⟩ = some (.int .i64 n) ∧ wb.cell? ⟨g, r * 3 + 2, none⟩ = some (.int .i64 q) := hT
  obtain ⟨d0, d1, d2⟩ : wb.cell? ⟨b6, 0, none⟩ = some (.int .i64 65) ∧ wb.cell? ⟨b6, 1, none⟩ = some (.int .i64 0) ∧ wb.cell? ⟨b6, 2, none⟩ = some (.int .i64 0) := HG.out.2.1.at
  have hr0 : (0 : Int) ≤ (r : Int) := by omega
  have hrz : (r : Int) < 10 := by omega
  have hwr : IntKind.i64.wrap (r : Int) = (r : Int) := wrap_i64_small _ (by omega) (by omega)
  go_region
  have hR2 : RowT (wb.alloc (Obj.cells #[Value.int IntKind.i64 65, Value.int IntKind.i64 0, Value.int IntKind.i64 0, Value.int IntKind.i64 l, Value.int IntKind.i64 n, Value.int IntKind.i64 q] 40)).drew (some ⟨wb.heap.size, 0, none⟩) [(65, 0, 0), (l, n, q)] := (RowT.lit wb [(65, 0, 0), (l, n, q)] 40).keptF (Keeps.drew (Keeps.refl _ _))
  have HC : Hid (RowT (wb.alloc (Obj.cells #[Value.int IntKind.i64 65, Value.int IntKind.i64 0, Value.int IntKind.i64 0, Value.int IntKind.i64 l, Value.int IntKind.i64 n, Value.int IntKind.i64 q] 40)).drew (some ⟨wb.heap.size, 0, none⟩) [(65, 0, 0), (l, n, q)] ∧ Tkb (wb.alloc (Obj.cells #[Value.int IntKind.i64 65, Value.int IntKind.i64 0, Value.int IntKind.i64 0, Value.int IntKind.i64 l, Value.int IntKind.i64 n, Value.int IntKind.i64 q] 40)).drew b6 (65, 0, 0) ∧ Keeps (fun _ => False) w (wb.alloc (Obj.cells #[Value.int IntKind.i64 65, Value.int IntKind.i64 0, Value.int IntKind.i64 0, Value.int IntKind.i64 l, Value.int IntKind.i64 n, Value.int IntKind.i64 q] 40)).drew) := ⟨hR2, HG.out.2.1.keptF (((Keeps.refl _ wb).alloc _).drew), (HG.out.2.2.alloc _).drew⟩
  clear hR2 HG c0 c1 c2 d0 d1 d2 hr hwr hgl
  generalize (wb.alloc (Obj.cells #[Value.int IntKind.i64 65, Value.int IntKind.i64 0, Value.int IntKind.i64 0, Value.int IntKind.i64 l, Value.int IntKind.i64 n, Value.int IntKind.i64 q] 40)).drew = wc at *
  generalize wb.heap.size = gt at *
  have HE1 : Hid (∀ w', RowT w' (some ⟨gt, 0, none⟩) [(65, 0, 0), (l, n, q)] → Calls Try.prog 11 #[.slice (some ⟨gt, 0, none⟩) 2 2] w' fun e w'' => e = .returned (.tuple #[.string ⟨#[]⟩, .int .i64 500]) ∧ Keeps (fun _ => False) w' w'') := fun w' h => expand_bad (some ⟨gt, 0, none⟩) [(65, 0, 0), (l, n, q)] 2 w' h (by simp) HBad.out
  have HM1 : Hid (∀ w', RowT w' (some ⟨gt, 0, none⟩) [(65, 0, 0), (l, n, q)] → Calls Try.prog 15 #[.slice (some ⟨gt, 0, none⟩) 2 2] w' fun e w'' => e = .returned (.bool false) ∧ Keeps (fun _ => False) w' w'') := fun w' h => by
    have := may_ok (some ⟨gt, 0, none⟩) [(65, 0, 0), (l, n, q)] 2 w' h (by simp)
    rw [HBad.out] at this; exact this
  have HE2 : Hid (∀ a cap w', RowT w' a (longL 32) → Calls Try.prog 11 #[.slice a 33 cap] w' fun e w'' => e = .returned (.tuple #[.string ⟨#[]⟩, .int .i64 500]) ∧ Keeps (fun _ => False) w' w'') := fun a cap w' h => expand_bad a (longL 32) cap w' h (by rw [longL_len]; omega) long_no
  have HM2 : Hid (∀ a cap w', RowT w' a (longL 32) → Calls Try.prog 15 #[.slice a 33 cap] w' fun e w'' => e = .returned (.bool false) ∧ Keeps (fun _ => False) w' w'') := fun a cap w' h => by
    have := may_ok a (longL 32) cap w' h (by rw [longL_len]; omega)
    rw [long_no] at this; exact this
  obtain ⟨tx, htx, HE3⟩ : ∃ tx : ByteArray, tx.size = 7483 ∧ Hid (∀ a cap w', RowT w' a (longL 32) → Calls Try.prog 11 #[.slice a 30 cap] w' fun e w'' => e = .returned (.tuple #[.string tx, .int .i64 0]) ∧ Keeps (fun _ => False) w' w'') := by
    refine ⟨textOf (expF [] (longL 29)), ?_, fun a cap w' h => expand_ok a (longL 29) cap w' (long_take w' a h) (by rw [longL_len]; omega) long_yes⟩
    rw [textOf_size]
    have := exp_len (longL 29) [] long_yes
    rw [long_sum] at this
    simp at this
    omega
  go_wp2_with (first
    | (go_at_call 11; refine (HE1.out _ HC.out.1).mono ?_; rintro e w4 ⟨rfl, hK4⟩; have HC4 : Hid (RowT w4 (some ⟨gt, 0, none⟩) [(65, 0, 0), (l, n, q)] ∧ Keeps (fun _ => False) w w4) := ⟨HC.out.1.keptF hK4, HC.out.2.2.trans hK4 (fun _ _ h => h)⟩; have hT4 := HC.out.2.1.keptF hK4; clear hK4)
    | (refine wpList_load3 rfl _ rfl b6 0 rfl (65, 0, 0) ?hA ?_; (case hA => exact (by assumption : Tkb _ b6 (65, 0, 0)).at))
    | (refine wpList_tok rfl _ _ rfl rfl w4.heap.size (.slice none 0 0) [] rfl (OwnK.nil _ _) w4.heap.size (65, 0, 0) rfl ?hR ?hb ?hn ?_; (case hR => exact (Tkb.new _ (65, 0, 0)).at); (case hb => simp); (case hn => simp); intro g1 c1 w5 hO5 hG5 hg5))
  have HL : Hid (OwnK w5 w4.heap.size (.slice (some ⟨g1, 0, none⟩) 1 c1) (longL 0) ∧ Keeps (fun _ => False) w4 w5) := ⟨hO5, ((Keeps.refl _ w4).alloc _).grown hG5 (fun _ _ e => by simp [Value.ownBlock] at e)⟩
  clear hO5 hG5 hg5 hT4 HC HE1 HBad
  go_loopw [11, 12] (fun s11 s12 w' => ∃ (i : Nat) (v : Value), s11 = v ∧ i ≤ 32 ∧ s12 = .int .i64 (i : Int) ∧ Hid (OwnK w' w4.heap.size v (longL i) ∧ Keeps (fun _ => False) w4 w')) (fun s11 s12 w' => (32 - intOf s12).toNat)
  case atStart => exact ⟨0, _, rfl, by omega, rfl, HL⟩
  case round =>
    clear HL
    obtain ⟨i, v, hv, hi, rfl, HL⟩ := hrel
    obtain rfl := hv.symm
    clear hv
    by_cases hin : i < 32
    · have hiz : (i : Int) < 32 := by omega
      go_wp2_with (first
        | (refine wpList_tok rfl _ _ rfl rfl w4.heap.size v (longL i) rfl ?hown wr.heap.size (0, 258, 1) rfl ?hR ?hb ?hn ?_; (case hown => exact HL.out.1.keptF ((Keeps.refl _ _).alloc _)); (case hR => exact (Tkb.new _ (0, 258, 1)).at); (case hb => exact (HL.out.2.alloc _).size); (case hn => rw [longL_len]; omega); intro g4 c4 w6 hO6 hG6 hg6; have HL6 : Hid (OwnK w6 w4.heap.size (.slice (some ⟨g4, 0, none⟩) ((longL i).length + 1) c4) (longL (i + 1)) ∧ Keeps (fun _ => False) w4 w6) := ⟨by rw [longL_next]; exact hO6, (HL.out.2.alloc _).grown hG6 (fun b hb e => by have := (World.ownsRow.lt HL.out.1 b e).1; omega)⟩; clear hO6 hG6 hg6))
      go_roundw
      case rel => exact ⟨i + 1, _, rfl, by omega, by push_cast; rfl, HL6⟩
      case measure => simp [intOf]; omega
    · obtain rfl : i = 32 := by omega
      obtain ⟨a', cap', rfl, hR', _, hcap⟩ := HL.out.1.row
      rw [longL_len] at hcap ⊢
      obtain ⟨ga, gf, rfl, _⟩ := hR'.at (by rw [longL_len]; omega)
      have hcz : (30 : Int) ≤ (cap' : Int) := by omega
      have HR' : Hid (RowT wr (some ⟨ga, gf, none⟩) (longL 32) ∧ RowT wr (some ⟨gt, 0, none⟩) [(65, 0, 0), (l, n, q)] ∧ Keeps (fun _ => False) w wr) := ⟨hR', HC4.out.1.keptF HL.out.2, HC4.out.2.trans HL.out.2 (fun _ _ h => h)⟩
      have htz : (tx.size : Int) = 7483 := by omega
      clear hR' HL HC4
      go_wp2_with (first
        | (go_at_call 11; (fail_if_success (clear HR5)); refine (HE2.out _ _ _ HR'.out.1).mono ?_; rintro e w5 ⟨rfl, hK5⟩; have HR5 : Hid (RowT w5 (some ⟨ga, gf, none⟩) (longL 32) ∧ RowT w5 (some ⟨gt, 0, none⟩) [(65, 0, 0), (l, n, q)] ∧ Keeps (fun _ => False) w w5) := ⟨HR'.out.1.keptF hK5, HR'.out.2.1.keptF hK5, HR'.out.2.2.trans hK5 (fun _ _ h => h)⟩; clear hK5)
        | (go_at_call 11; refine (HE3.out _ _ _ HR5.out.1).mono ?_; rintro e w6 ⟨rfl, hK6⟩; have HR6 : Hid (RowT w6 (some ⟨ga, gf, none⟩) (longL 32) ∧ RowT w6 (some ⟨gt, 0, none⟩) [(65, 0, 0), (l, n, q)] ∧ Keeps (fun _ => False) w w6) := ⟨HR5.out.1.keptF hK6, HR5.out.2.1.keptF hK6, HR5.out.2.2.trans hK6 (fun _ _ h => h)⟩; clear hK6)
        | (go_at_call 15; (fail_if_success (clear HR7)); refine (HM1.out _ HR6.out.2.1).mono ?_; rintro e w7 ⟨rfl, hK7⟩; have HR7 : Hid (RowT w7 (some ⟨ga, gf, none⟩) (longL 32) ∧ Keeps (fun _ => False) w w7) := ⟨HR6.out.1.keptF hK7, HR6.out.2.2.trans hK7 (fun _ _ h => h)⟩; clear hK7)
        | (go_at_call 15; refine (HM2.out _ _ _ HR7.out.1).mono ?_; rintro e w8 ⟨rfl, hK8⟩; have HK8 : Hid (Keeps (fun _ => False) w w8) := HR7.out.2.trans hK8 (fun _ _ h => h); clear hK8)
        | (go_at_call 14; refine (num_any _ _).mono ?_; rintro e w' ⟨rfl, hw⟩; obtain rfl := hw.symm; clear hw))
      go_ret
      exact ⟨rfl, HK8.out⟩
theorem forms_below (which x : Int) (w : World) (h0 : (Lit.int .i64 which).wf = true) (h1 : (Lit.int .i64 x).wf = true) : Calls Try.prog 5 #[.int .i64 which, .int .i64 x] w fun e w' => e = .returned (.bool true) ∧ Below w.heap.size w w' := by
  refine (forms_walk which x w).mono ?_
  rintro e w' ⟨rfl, hk⟩
  exact ⟨rfl, hk.below _ (Nat.le_refl _) (fun _ h => h.elim)⟩

end Go.Proofs.Ytgfhpbcibifoeaa

/-
  The call Expand: the text that tokens come to.
-/
import Derived.Test.YtgfhpbcibifoeaaRexp
import Derived.Test.YtgfhpbcibifoeaaCopy
namespace Go.Proofs.Ytgfhpbcibifoeaa
open Go.RowKit
set_option linter.unusedVariables false
set_option linter.unusedSimpArgs false

set_option maxHeartbeats 4000000 in
set_option maxRecDepth 1000000 in
theorem doer_byte (p : Nat) (l d : Int) (w : World) : Calls Try.prog 24 #[.pointer (some ⟨p, 0, none⟩), .agg #[.int .i64 l, .int .i64 0, .int .i64 d]] w fun e w' => e = .returned (.func (.func 28) #[.pointer (some ⟨p, 0, none⟩)] #[]) ∧ Keeps (fun _ => False) w w' := by
  go_enter Try.func24, Try.ntmps24
  go_wp2
  go_ret
  exact ⟨rfl, (Keeps.refl _ w).alloc _⟩
set_option maxHeartbeats 4000000 in
set_option maxRecDepth 1000000 in
theorem doer_copy (p : Nat) (l n d : Int) (w : World) (hn : ¬ n = 0) : Calls Try.prog 24 #[.pointer (some ⟨p, 0, none⟩), .agg #[.int .i64 l, .int .i64 n, .int .i64 d]] w fun e w' => e = .returned (.func (.func 29) #[.pointer (some ⟨p, 0, none⟩)] #[]) ∧ Keeps (fun _ => False) w w' := by
  go_enter Try.func24, Try.ntmps24
  go_wp2
  go_ret
  exact ⟨rfl, (Keeps.refl _ w).alloc _⟩

set_option maxHeartbeats 4000000 in
set_option maxRecDepth 1000000 in
theorem expand_bad (a : Option Addr) (ts : List Tk) (cap : Nat) (w : World) (hR : RowT w a ts) (hl : ts.length ≤ 9223372036854775806) (hm : mayF 0 ts = false) :
    Calls Try.prog 11 #[.slice a ts.length cap] w fun e w' => e = .returned (.tuple #[.string ⟨#[]⟩, .int .i64 500]) ∧ Keeps (fun _ => False) w w' := by
  have HC : Hid (Calls Try.prog 15 #[.slice a ts.length cap] w fun e w' => e = .returned (.bool false) ∧ Keeps (fun _ => False) w w') := by
    have := may_ok a ts cap w hR (by omega)
    rw [hm] at this; exact this
  clear hR hm
  go_enter Try.func11, Try.ntmps11
  go_wp2_with (go_at_call 15; refine HC.out.mono ?_; rintro e w1 ⟨rfl, hK1⟩)
  go_ret2
  exact ⟨rfl, hK1⟩

/-- What stands ahead of the i-th token, in a variable. -/
def NowX (w0 w : World) (p : Nat) (ts : List Tk) (i : Nat) (xs : List Nat) : Prop :=
  (∃ v, Txt w p v xs) ∧ expF xs (ts.drop i) = expF [] ts ∧ mayF xs.length (ts.drop i) = true ∧ (∀ y ∈ xs, y < 256) ∧ xs.length ≤ 8192 ∧ Keeps (fun _ => False) w0 w
theorem Txt.keptF {w w' : World} {p : Nat} {v : Value} {xs : List Nat} (h : Txt w p v xs) (hk : Keeps (fun _ => False) w w') : Txt w' p v xs := ⟨(hk.block p (lt_of_heap h.1) (fun h => h)).trans h.1, h.2.keptF hk⟩
theorem NowX.next {w0 w w1 w2 : World} {p : Nat} {v : Value} {ts : List Tk} {i : Nat} {xs : List Nat} (h : NowX w0 w p ts i xs) (hp : w0.heap.size ≤ p) (hi : i < ts.length) (hv : Txt w1 p v xs) (hk : Keeps (fun _ => False) w w1) (hO : OntoT w1 w2 p v (putT xs (tk ts i))) : NowX w0 w2 p ts (i + 1) (putT xs (tk ts i)) := by
  obtain ⟨_, h2, h3, h4, h5, h6⟩ := h
  rw [tk_drop i hi] at h2 h3
  simp only [mayF, Bool.and_eq_true] at h3
  have hl := put_len h3.1
  obtain ⟨v', hv', _, hk2⟩ := hO
  refine ⟨⟨v', hv'⟩, h2, by rw [hl]; exact h3.2, put_lt h4 h3.1, ?_, (h6.trans hk (fun _ _ h => h)).trans hk2 ?_⟩
  · have := (okT_iff h3.1).2; omega
  · rintro k hk (e | e)
    · omega
    · have := (World.ownsRow.lt hv.2 k e).1; omega

set_option maxHeartbeats 4000000 in
set_option maxRecDepth 1000000 in
theorem expand_ok (a : Option Addr) (ts : List Tk) (cap : Nat) (w : World) (hR : RowT w a ts) (hl : ts.length ≤ 9223372036854775806) (hm : mayF 0 ts = true) :
    Calls Try.prog 11 #[.slice a ts.length cap] w fun e w' => e = .returned (.tuple #[.string (textOf (expF [] ts)), .int .i64 0]) ∧ Keeps (fun _ => False) w w' := by
  have HC : Hid (Calls Try.prog 15 #[.slice a ts.length cap] w fun e w' => e = .returned (.bool true) ∧ Keeps (fun _ => False) w w') := by
    have := may_ok a ts cap w hR (by omega)
    rw [hm] at this; exact this
  have HR : Hid (RowT w a ts) := hR
  have HM : Hid (mayF 0 ts = true) := hm
  clear hR hm
  obtain ⟨N, hN⟩ : ∃ N, ts.length = N := ⟨_, rfl⟩
  rw [hN] at hl HC ⊢
  have HN : Hid (ts.length = N) := hN
  clear hN
  go_enter Try.func11, Try.ntmps11
  go_wp2_with (go_at_call 15; refine HC.out.mono ?_; rintro e w1 ⟨rfl, hK1⟩; have HK1 : Hid (Keeps (fun _ => False) w w1) := hK1; clear hK1)
  have HW : Hid (NowX w (w1.alloc (Obj.cells #[Value.slice none 0 0] 48)) w1.heap.size ts 0 []) := ⟨⟨.slice none 0 0, heap_alloc_new _ _, OwnB.nil _ _⟩, rfl, HM.out, by simp, by simp, HK1.out.alloc _⟩
  have hp : w.heap.size ≤ w1.heap.size := HK1.out.size
  generalize w1.alloc (Obj.cells #[Value.slice none 0 0] 48) = w2 at *
  generalize w1.heap.size = p at *
  clear HK1 HC
  go_loopw [13] (fun s13 w' => ∃ (i : Nat) (xs : List Nat), i ≤ N ∧ s13 = .int .i64 (i : Int) ∧ Hid (NowX w w' p ts i xs)) (fun s13 w' => ((N : Int) - intOf s13).toNat)
  case atStart => exact ⟨0, [], by omega, rfl, HW⟩
  case round =>
    clear HW
    obtain ⟨i, xs, hi, rfl, HW⟩ := hrel
    by_cases hin : i < N
    · have hiz : (i : Int) < (N : Int) := by omega
      have hil : i < ts.length := by rw [HN.out]; exact hin
      obtain ⟨b, off, rfl, hb, hc⟩ := HR.out.at (by omega)
      have hT := hc wr HW.out.2.2.2.2.2 i hil
      clear hc
      obtain ⟨v, hv⟩ := HW.out.1
      have HV : Hid (Txt wr p v xs) := hv
      have hx8 : xs.length ≤ 8192 := HW.out.2.2.2.2.1
      have HX : Hid (∀ w1 w2, Keeps (fun _ => False) wr w1 → OntoT w1 w2 p v (putT xs (tk ts i)) → NowX w w2 p ts (i + 1) (putT xs (tk ts i))) := fun w1 w2 h1 h2 => HW.out.next hp hil (hv.keptF h1) h1 h2
      have hok : okT (tk ts i) xs.length = true := by
        have := HW.out.2.2.1
        rw [tk_drop i hil] at this
        simp only [mayF, Bool.and_eq_true] at this
        exact this.1
      clear hv
      obtain ⟨⟨l, n, d⟩, ht⟩ : ∃ t, tk ts i = t := ⟨_, rfl⟩
      rw [ht] at hT HX hok
      clear ht
      rcases (okT_iff hok).1 with h | h
      · obtain ⟨e1, e2, e3, e4⟩ := isB_iff h
        simp only at e1 e2 e3 e4
        subst e3
        subst e4
        obtain ⟨c, rfl⟩ : ∃ c : Nat, l = (c : Int) := ⟨l.toNat, by omega⟩
        have hput : putT xs ((c : Int), 0, 0) = xs ++ [c] := by simp [putT]
        rw [hput] at HX
        have HP : Hid (∀ w1, Keeps (fun _ => False) wr w1 → Calls Try.prog 28 #[.pointer (some ⟨p, 0, none⟩), .agg #[.int .i64 (c : Int), .int .i64 0, .int .i64 0]] w1 fun e w' => e = .returned (.tuple #[]) ∧ OntoT w1 w' p v (xs ++ [c])) := fun w1 hk => putByte_ok p c 0 0 v xs w1 (by omega) (by omega) (HV.out.keptF hk)
        clear h hok hput
        go_wp2_with (first
          | (refine wpList_load3 rfl _ rfl b (off + i * 3) rfl ((c : Int), 0, 0) ?hA ?_; (case hA => assumption))
          | (refine wpList_alloc3 rfl rfl ?_; intro b6 w3 hT3 hK3 hb6; have HK3 : Hid (Keeps (fun _ => False) wr w3) := hK3; clear hK3)
          | (refine wpList_store3 rfl _ _ rfl b6 ((c : Int), 0, 0) rfl rfl (0, 0, 0) ?hA ?_; (case hA => assumption); intro w4 hT4 hK4; have HK4 : Hid (Keeps (fun _ => False) wr w4) := HK3.out.trans hK4 (fun i hi h => by omega); clear hK4 hT3)
          | (refine wpList_load3 rfl _ rfl b6 0 rfl ((c : Int), 0, 0) ?hA ?_; (case hA => exact (by assumption : Tkb _ b6 ((c : Int), 0, 0)).at))
          | (go_at_call 24; refine (doer_byte p (c : Int) 0 _).mono ?_; rintro e w5 ⟨rfl, hK5⟩; have hT5 := hT4.keptF hK5; have HK5 : Hid (Keeps (fun _ => False) wr w5) := HK4.out.trans hK5 (fun _ _ h => h); clear hK5 hT4)
          | (go_at_call 28; refine (HP.out _ HK5.out).mono ?_; rintro e w6 ⟨rfl, hO6⟩; have HW6 : Hid (NowX w w6 p ts (i + 1) (xs ++ [c])) := HX.out _ _ HK5.out hO6; clear hO6))
        go_roundw
        case rel => exact ⟨i + 1, _, by omega, by push_cast; rfl, HW6⟩
        case measure => simp [intOf]; omega
      · obtain ⟨e1, e2, e3, e4, e5, e6⟩ := isC_iff h
        simp only at e1 e2 e3 e4 e5 e6
        subst e1
        obtain ⟨M, rfl⟩ : ∃ M : Nat, n = (M : Int) := ⟨n.toNat, by omega⟩
        obtain ⟨D, rfl⟩ : ∃ D : Nat, d = (D : Int) := ⟨d.toNat, by omega⟩
        have hput : putT xs (0, (M : Int), (D : Int)) = cop xs D M := by
          unfold putT
          rw [if_neg (by show ¬ (M : Int) = 0; omega)]; simp
        rw [hput] at HX
        have HP : Hid (∀ w1, Keeps (fun _ => False) wr w1 → Calls Try.prog 29 #[.pointer (some ⟨p, 0, none⟩), .agg #[.int .i64 0, .int .i64 (M : Int), .int .i64 (D : Int)]] w1 fun e w' => e = .returned (.tuple #[]) ∧ OntoT w1 w' p v (cop xs D M)) := fun w1 hk => putCopy_ok p M D 0 v xs w1 (by omega) (by omega) (by omega) (by omega) (HV.out.keptF hk)
        have HDo : Hid (∀ w1, Calls Try.prog 24 #[.pointer (some ⟨p, 0, none⟩), .agg #[.int .i64 0, .int .i64 (M : Int), .int .i64 (D : Int)]] w1 fun e w' => e = .returned (.func (.func 29) #[.pointer (some ⟨p, 0, none⟩)] #[]) ∧ Keeps (fun _ => False) w1 w') := fun w1 => doer_copy p 0 (M : Int) (D : Int) w1 (by omega)
        clear h hok hput
        go_wp2_with (first
          | (refine wpList_load3 rfl _ rfl b (off + i * 3) rfl (0, (M : Int), (D : Int)) ?hA ?_; (case hA => assumption))
          | (refine wpList_alloc3 rfl rfl ?_; intro b6 w3 hT3 hK3 hb6; have HK3 : Hid (Keeps (fun _ => False) wr w3) := hK3; clear hK3)
          | (refine wpList_store3 rfl _ _ rfl b6 (0, (M : Int), (D : Int)) rfl rfl (0, 0, 0) ?hA ?_; (case hA => assumption); intro w4 hT4 hK4; have HK4 : Hid (Keeps (fun _ => False) wr w4) := HK3.out.trans hK4 (fun i hi h => by omega); clear hK4 hT3)
          | (refine wpList_load3 rfl _ rfl b6 0 rfl (0, (M : Int), (D : Int)) ?hA ?_; (case hA => exact (by assumption : Tkb _ b6 (0, (M : Int), (D : Int))).at))
          | (go_at_call 24; refine (HDo.out _).mono ?_; rintro e w5 ⟨rfl, hK5⟩; have hT5 := hT4.keptF hK5; have HK5 : Hid (Keeps (fun _ => False) wr w5) := HK4.out.trans hK5 (fun _ _ h => h); clear hK5 hT4)
          | (go_at_call 29; refine (HP.out _ HK5.out).mono ?_; rintro e w6 ⟨rfl, hO6⟩; have HW6 : Hid (NowX w w6 p ts (i + 1) (cop xs D M)) := HX.out _ _ HK5.out hO6; clear hO6))
        go_roundw
        case rel => exact ⟨i + 1, _, by omega, by push_cast; rfl, HW6⟩
        case measure => simp [intOf]; omega
    · obtain rfl : i = N := by omega
      have hE : xs = expF [] ts := by
        have := HW.out.2.1
        rw [← HN.out, List.drop_length] at this; exact this
      obtain ⟨v, hv⟩ := HW.out.1
      have hcv := hv.2.text Try.underlying48 HW.out.2.2.2.1
      have hcell : wr.cell? ⟨p, 0, none⟩ = some v := cell_of_heap hv.1 rfl
      rw [hE] at hcv
      obtain ⟨sa, sn, sc, rfl⟩ : ∃ sa sn sc, v = .slice sa sn sc := by
        rcases hv.2.2 with ⟨rfl, _⟩ | ⟨g, c, cur, rfl, _⟩
        · exact ⟨_, _, _, rfl⟩
        · exact ⟨_, _, _, rfl⟩
      clear hE hv
      go_wp2
      go_ret2
      exact ⟨rfl, HW.out.2.2.2.2.2⟩

end Go.Proofs.Ytgfhpbcibifoeaa

/-
  A copy behind a text, byte by byte. The call Expand: the text that tokens come to. each of package block: tokens one behind the other, to be counted and to be written.
-/
import Derived.Test.YtebjooebdehlnaaGreatRows
import Derived.Test.YtebjooebdehlnaaGreatG09
namespace Go.Proofs.YtebjooebdehlnaaGreat.Mt
open Go.RowKit
set_option linter.unusedVariables false
set_option linter.unusedSimpArgs false

theorem OntoT.trans {w w' w'' : World} {p : Nat} {v v' : Value} {xs : List Nat} (ho : v'.ownBlock = v.ownBlock ∨ ∃ g, v'.ownBlock = some g ∧ w.heap.size ≤ g) (hk : Keeps (fun k => k = p ∨ v.ownBlock = some k) w w') (h : OntoT w' w'' p v' xs) : OntoT w w'' p v xs := by
  obtain ⟨v2, h1, h2, h3⟩ := h
  refine ⟨v2, h1, ?_, hk.trans h3 ?_⟩
  · rcases h2 with h2 | ⟨g, h2, hg⟩
    · rw [h2]; exact ho
    · exact .inr ⟨g, h2, Nat.le_trans hk.size hg⟩
  · intro i hi h
    rcases h with h | h
    · exact .inl h
    · rcases ho with ho | ⟨g, ho, hg⟩
      · rw [ho] at h; exact .inr h
      · rw [ho] at h; cases h; omega
theorem OntoT.refl {w : World} {p : Nat} {v : Value} {xs : List Nat} (h : Txt w p v xs) : OntoT w w p v xs := ⟨v, h, .inl rfl, Keeps.refl _ _⟩

theorem copy_next {p g L cap g4 cap4 b3 y : Nat} {v : Value} {ys : List Nat} {t : Tk} {w wr w4 : World} {o : Obj} (hT : Txt wr p (.slice (some ⟨g, 0, none⟩) L cap) ys) (hL : ys.length = L)
    (hown : w4.ownsRow (p + 1) 5 1 (.slice (some ⟨g4, 0, none⟩) (L + 1) cap4) (L + 1) (ys.map byteV ++ [.int .u8 (y : Int)])) (hgrow : (wr.alloc o).drew.grownBy w4 (Value.slice (some ⟨g, 0, none⟩) L cap).ownBlock)
    (hat : (Value.slice (some ⟨g, 0, none⟩) L cap).ownBlock = some g4 ∨ g4 = wr.heap.size + 1)
    (hV : ((Value.slice (some ⟨g, 0, none⟩) L cap).ownBlock = v.ownBlock ∨ ∃ h, (Value.slice (some ⟨g, 0, none⟩) L cap).ownBlock = some h ∧ w.heap.size ≤ h) ∧ Keeps (fun k => k = p ∨ v.ownBlock = some k) w wr)
    (hS : b3 ≠ p ∧ v.ownBlock ≠ some b3 ∧ b3 < w.heap.size) (hk : Tkb wr b3 t) :
    OntoT w (w4.setCell ⟨p, 0, none⟩ (.slice (some ⟨g4, 0, none⟩) (L + 1) cap4)) p v (ys ++ [y]) ∧ Tkb (w4.setCell ⟨p, 0, none⟩ (.slice (some ⟨g4, 0, none⟩) (L + 1) cap4)) b3 t := by
  subst hL
  have hk4 : Keeps (fun k => (Value.slice (some ⟨g, 0, none⟩) ys.length cap).ownBlock = some k) wr w4 := (((Keeps.refl _ wr).alloc _).drew).grown hgrow (fun k _ e => e)
  have hO := onto_byte (c := y) (lt_of_heap hT.1) hT hown hk4 (by rcases hat with h | h; exact .inl h; exact .inr (by omega)) rfl
  refine ⟨OntoT.trans hV.1 hV.2 hO, ?_⟩
  obtain ⟨_, _, _, hk5⟩ := hO
  refine hk.kept hk5 ?_
  rintro (h | h)
  · exact hS.1 h
  · rcases hV.1 with e | ⟨q, e, hq⟩
    · rw [e] at h; exact hS.2.1 h
    · rw [e] at h; cases h; omega

set_option maxHeartbeats 8000000 in
set_option maxRecDepth 1000000 in
theorem putCopy_ok (p N D : Nat) (l : Int) (v : Value) (xs : List Nat) (w : World) (hN : N ≤ 258) (hD : 1 ≤ D) (hDx : D ≤ xs.length) (hx : xs.length ≤ 8192) (hT : Txt w p v xs) :
    Calls Tryz.prog 145 #[.pointer (some ⟨p, 0, none⟩), .agg #[.int .i64 l, .int .i64 (N : Int), .int .i64 (D : Int)]] w fun e w' => e = .returned (.tuple #[]) ∧ OntoT w w' p v (cop xs D N) := by
  have hlt := lt_of_heap hT.1
  have hown := World.ownsRow.lt hT.2
  obtain ⟨i0, hi, hz0, hz1, hz2⟩ := info_parts info5
  have HT : Hid (Txt w p v xs) := hT
  clear hT
  go_enter Tryz.func145, Tryz.ntmps145
  go_wp2_with (first
    | (refine wpList_box3 rfl _ rfl (l, (N : Int), (D : Int)) rfl ?_; intro b3 w3 hT3 hK3 hb3; have c1 : w3.cell? ⟨b3, 1, none⟩ = some (.int .i64 (N : Int)) := hT3.c1))
  have HB : Hid (OntoT w3 w3 p v (cop xs D 0) ∧ Tkb w3 b3 (l, (N : Int), (D : Int))) := ⟨OntoT.refl ⟨(hK3.block p hlt (fun h => h)).trans HT.out.1, HT.out.2.keptF hK3⟩, hT3⟩
  have HS : Hid (b3 ≠ p ∧ v.ownBlock ≠ some b3 ∧ b3 < w3.heap.size) := ⟨by omega, fun h => by have := (hown b3 h).2; omega, hT3.lt⟩
  have HK3 : Hid (Keeps (fun _ => False) w w3) := hK3
  clear hT3 hK3 c1 HT hown
  go_loopw [6] (fun s6 w' => ∃ i : Nat, i ≤ N ∧ s6 = .int .i64 (i : Int) ∧ Hid (OntoT w3 w' p v (cop xs D i) ∧ Tkb w' b3 (l, (N : Int), (D : Int)))) (fun s6 w' => ((N : Int) - intOf s6).toNat)
  case atStart => exact ⟨0, by omega, rfl, HB⟩
  case round =>
    clear HB
    obtain ⟨i, hin, rfl, HB⟩ := hrel
    by_cases hi2 : i < N
    · have hiz : (i : Int) < (N : Int) := by omega
      have hcl := cop_len xs D i
      obtain ⟨v', hT', hv', hK'⟩ := HB.out.1
      have HV : Hid ((v'.ownBlock = v.ownBlock ∨ ∃ g, v'.ownBlock = some g ∧ w3.heap.size ≤ g) ∧ Keeps (fun k => k = p ∨ v.ownBlock = some k) w3 wr) := ⟨hv', hK'⟩
      have HTk : Hid (Tkb wr b3 (l, (N : Int), (D : Int))) := HB.out.2
      have HX : Hid (cop xs D (i + 1) = cop xs D i ++ [yb (cop xs D i) ((cop xs D i).length - D)]) := rfl
      obtain ⟨r, hr⟩ : ∃ r, r = (cop xs D i).length - D := ⟨_, rfl⟩
      rw [← hr] at HX
      obtain ⟨g, cap, rfl, cy⟩ := hT'.2.cell r (by omega)
      have hw2 : IntKind.i64.wrap (((cop xs D i).length : Int) - (D : Int)) = (r : Int) := by rw [wrap_i64_small _ (by omega) (by omega)]; omega
      have k3 : wr.cell? ⟨p, 0, none⟩ = some (.slice (some ⟨g, 0, none⟩) (cop xs D i).length cap) := cell_of_heap hT'.1 rfl
      have g3 : wr.frozen? ⟨p, 0, none⟩ = false := frozen_of_heap hT'.1
      have hb3' : p < wr.heap.size := lt_of_heap hT'.1
      have d3 : wr.cell? ⟨b3, 2, none⟩ = some (.int .i64 (D : Int)) := HB.out.2.c2
      have hr0 : (0 : Int) ≤ (r : Int) := by omega
      have hrl : (r : Int) < ((cop xs D i).length : Int) := by omega
      have hL9 : (cop xs D i).length ≤ 10000 := by omega
      have hge : p + 1 ≤ g := (World.ownsRow.lt hT'.2 g rfl).1
      have hne : some p ≠ (Value.slice (some ⟨g, 0, none⟩) (cop xs D i).length cap).ownBlock := fun h => by simp [Value.ownBlock] at h; omega
      have HT' : Hid (Txt wr p (.slice (some ⟨g, 0, none⟩) (cop xs D i).length cap) (cop xs D i)) := hT'
      generalize cop xs D i = ys at *
      generalize yb ys r = y at *
      generalize hL : ys.length = L at *
      have HL : Hid (ys.length = L) := hL
      clear hL hT' hv' hK' hr hcl HB
      go_wp2
      go_region_law ((refine step_append_lies _ (by rfl) _ _ _ (by rfl) (p + 1) 5 i0 _ 1 1 Tryz.underlying155 hi hz0 hz1 hz2 rfl (by omega) (.slice (some ⟨g, 0, none⟩) L cap) L (ys.map byteV) (by rfl) (((by have := HT'.out.2; unfold OwnB at this; rw [HL.out] at this; exact this : wr.ownsRow (p + 1) 5 1 (.slice (some ⟨g, 0, none⟩) L cap) L (ys.map byteV)).alloc _).drew) ⟨wr.heap.size, 0, none⟩ 1 1 [.int .u8 (y : Int)] (by rfl) (by rfl) (World.news_of_block (cs := #[.int .u8 (y : Int)]) (t := 5) (fr := (0, 0)) (heap_alloc_new wr _)) (by simp [Value.oneCell']) (by omega) (by unfold maxLen; omega) (by omega) (by simp; omega) (wr.heap.size + 1) (by simp) ?_; intro g4 cap4 w4 hown4 hgrow4 hat4 hlt4; have k4 : w4.cell? ⟨p, 0, none⟩ = some (.slice (some ⟨g, 0, none⟩) L cap) := (hgrow4.cell_far ⟨p, 0, none⟩ (by simp; omega) hne).trans (by simp [World.cell?_alloc_past _ _ _ hb3']; exact k3); have e4 : w4.frozen? ⟨p, 0, none⟩ = false := (hgrow4.frozen_far ⟨p, 0, none⟩ (by simp; omega) hne).trans (by simp [World.frozen?_alloc_past _ _ _ hb3']; exact g3)))
      all_goals
        have HN : Hid (OntoT w3 (w4.setCell ⟨p, 0, none⟩ (.slice (some ⟨g4, 0, none⟩) (L + 1) cap4)) p v (cop xs D (i + 1)) ∧ Tkb (w4.setCell ⟨p, 0, none⟩ (.slice (some ⟨g4, 0, none⟩) (L + 1) cap4)) b3 (l, (N : Int), (D : Int))) := by
          rw [HX.out]
          exact copy_next HT'.out HL.out hown4 hgrow4 hat4 HV.out HS.out HTk.out
        generalize w4.setCell ⟨p, 0, none⟩ (.slice (some ⟨g4, 0, none⟩) (L + 1) cap4) = w5 at *
        clear k4 e4 hown4 hgrow4 hat4 hlt4 hne k3 g3 d3 cy hw2 HV HT' HX HTk hi hz0 hz1 hz2
        go_wp2
        go_roundw
      all_goals first | (exact ⟨i + 1, by omega, by push_cast; rfl, HN⟩) | (simp [intOf]; omega)
    · obtain rfl : i = N := by omega
      go_wp2
      go_end0
      exact ⟨rfl, OntoT.trans (.inl rfl) (HK3.out.mono (fun _ _ h => h.elim)) HB.out.1⟩

end Go.Proofs.YtebjooebdehlnaaGreat.Mt

namespace Go.Proofs.YtebjooebdehlnaaGreat.Mt
open Go.RowKit
set_option linter.unusedVariables false
set_option linter.unusedSimpArgs false

set_option maxHeartbeats 4000000 in
set_option maxRecDepth 1000000 in
theorem doer_byte (p : Nat) (l d : Int) (w : World) : Calls Tryz.prog 116 #[.pointer (some ⟨p, 0, none⟩), .agg #[.int .i64 l, .int .i64 0, .int .i64 d]] w fun e w' => e = .returned (.func (.func 144) #[.pointer (some ⟨p, 0, none⟩)] #[]) ∧ Keeps (fun _ => False) w w' := by
  go_enter Tryz.func116, Tryz.ntmps116
  go_wp2
  go_ret
  exact ⟨rfl, (Keeps.refl _ w).alloc _⟩
set_option maxHeartbeats 4000000 in
set_option maxRecDepth 1000000 in
theorem doer_copy (p : Nat) (l n d : Int) (w : World) (hn : ¬ n = 0) : Calls Tryz.prog 116 #[.pointer (some ⟨p, 0, none⟩), .agg #[.int .i64 l, .int .i64 n, .int .i64 d]] w fun e w' => e = .returned (.func (.func 145) #[.pointer (some ⟨p, 0, none⟩)] #[]) ∧ Keeps (fun _ => False) w w' := by
  go_enter Tryz.func116, Tryz.ntmps116
  go_wp2
  go_ret
  exact ⟨rfl, (Keeps.refl _ w).alloc _⟩

set_option maxHeartbeats 4000000 in
set_option maxRecDepth 1000000 in
theorem expand_bad (a : Option Addr) (ts : List Tk) (cap : Nat) (w : World) (hR : RowT w a ts) (hl : ts.length ≤ 9223372036854775806) (hm : mayF 0 ts = false) :
    Calls Tryz.prog 76 #[.slice a ts.length cap] w fun e w' => e = .returned (.tuple #[.string ⟨#[]⟩, .int .i64 500]) ∧ Keeps (fun _ => False) w w' := by
  have HC : Hid (Calls Tryz.prog 115 #[.slice a ts.length cap] w fun e w' => e = .returned (.bool false) ∧ Keeps (fun _ => False) w w') := by
    have := may_ok a ts cap w hR (by omega)
    rw [hm] at this; exact this
  clear hR hm
  go_enter Tryz.func76, Tryz.ntmps76
  go_wp2_with (go_at_call 115; refine HC.out.mono ?_; rintro e w1 ⟨rfl, hK1⟩)
  go_ret2
  exact ⟨rfl, hK1⟩

/-- What stands ahead of the i-th token, in a variable. -/
def NowX (w0 w : World) (p : Nat) (ts : List Tk) (i : Nat) (xs : List Nat) : Prop :=
  (∃ v, Txt w p v xs) ∧ expF xs (ts.drop i) = expF [] ts ∧ mayF xs.length (ts.drop i) = true ∧ (∀ y ∈ xs, y < 256) ∧ xs.length ≤ 8192 ∧ Keeps (fun _ => False) w0 w
theorem Txt.keptF {w w' : World} {p : Nat} {v : Value} {xs : List Nat} (h : Txt w p v xs) (hk : Keeps (fun _ => False) w w') : Txt w' p v xs := ⟨(hk.block p (lt_of_heap h.1) (fun h => h)).trans h.1, h.2.keptF hk⟩
theorem NowX.next {w0 w w1 w2 : World} {p : Nat} {v : Value} {ts : List Tk} {i : Nat} {xs : List Nat} (h : NowX w0 w p ts i xs) (hp : w0.heap.size ≤ p) (hi : i < ts.length) (hv : Txt w1 p v xs) (hk : Keeps (fun _ => False) w w1) (hO : OntoT w1 w2 p v (putT xs (tk ts i))) : NowX w0 w2 p ts (i + 1) (putT xs (tk ts i)) := by
  obtain ⟨_, h2, h3, h4, h5, h6⟩ := h
  rw [tk_drop i hi] at h2 h3
  simp only [mayF, Bool.and_eq_true] at h3
  have hl := put_len h3.1
  obtain ⟨v', hv', _, hk2⟩ := hO
  refine ⟨⟨v', hv'⟩, h2, by rw [hl]; exact h3.2, put_lt h4 h3.1, ?_, (h6.trans hk (fun _ _ h => h)).trans hk2 ?_⟩
  · have := (okT_iff h3.1).2; omega
  · rintro k hk (e | e)
    · omega
    · have := (World.ownsRow.lt hv.2 k e).1; omega

set_option maxHeartbeats 4000000 in
set_option maxRecDepth 1000000 in
theorem expand_ok (a : Option Addr) (ts : List Tk) (cap : Nat) (w : World) (hR : RowT w a ts) (hl : ts.length ≤ 9223372036854775806) (hm : mayF 0 ts = true) :
    Calls Tryz.prog 76 #[.slice a ts.length cap] w fun e w' => e = .returned (.tuple #[.string (textOf (expF [] ts)), .int .i64 0]) ∧ Keeps (fun _ => False) w w' := by
  have HC : Hid (Calls Tryz.prog 115 #[.slice a ts.length cap] w fun e w' => e = .returned (.bool true) ∧ Keeps (fun _ => False) w w') := by
    have := may_ok a ts cap w hR (by omega)
    rw [hm] at this; exact this
  have HR : Hid (RowT w a ts) := hR
  have HM : Hid (mayF 0 ts = true) := hm
  clear hR hm
  obtain ⟨N, hN⟩ : ∃ N, ts.length = N := ⟨_, rfl⟩
  rw [hN] at hl HC ⊢
  have HN : Hid (ts.length = N) := hN
  clear hN
  go_enter Tryz.func76, Tryz.ntmps76
  go_wp2_with (go_at_call 115; refine HC.out.mono ?_; rintro e w1 ⟨rfl, hK1⟩; have HK1 : Hid (Keeps (fun _ => False) w w1) := hK1; clear hK1)
  have HW : Hid (NowX w (w1.alloc (Obj.cells #[Value.slice none 0 0] 155)) w1.heap.size ts 0 []) := ⟨⟨.slice none 0 0, heap_alloc_new _ _, OwnB.nil _ _⟩, rfl, HM.out, by simp, by simp, HK1.out.alloc _⟩
  have hp : w.heap.size ≤ w1.heap.size := HK1.out.size
  generalize w1.alloc (Obj.cells #[Value.slice none 0 0] 155) = w2 at *
  generalize w1.heap.size = p at *
  clear HK1 HC
  go_loopw [13] (fun s13 w' => ∃ (i : Nat) (xs : List Nat), i ≤ N ∧ s13 = .int .i64 (i : Int) ∧ Hid (NowX w w' p ts i xs)) (fun s13 w' => ((N : Int) - intOf s13).toNat)
  case atStart => exact ⟨0, [], by omega, rfl, HW⟩
  case round =>
    clear HW
    obtain ⟨i, xs, hi, rfl, HW⟩ := hrel
    by_cases hin : i < N
    · have hiz : (i : Int) < (N : Int) := by omega
      have hil : i < ts.length := by rw [HN.out]; exact hin
      obtain ⟨b, off, rfl, hb, hc⟩ := HR.out.at (by omega)
      have hT := hc wr HW.out.2.2.2.2.2 i hil
      clear hc
      obtain ⟨v, hv⟩ := HW.out.1
      have HV : Hid (Txt wr p v xs) := hv
      have hx8 : xs.length ≤ 8192 := HW.out.2.2.2.2.1
      have HX : Hid (∀ w1 w2, Keeps (fun _ => False) wr w1 → OntoT w1 w2 p v (putT xs (tk ts i)) → NowX w w2 p ts (i + 1) (putT xs (tk ts i))) := fun w1 w2 h1 h2 => HW.out.next hp hil (hv.keptF h1) h1 h2
      have hok : okT (tk ts i) xs.length = true := by
        have := HW.out.2.2.1
        rw [tk_drop i hil] at this
        simp only [mayF, Bool.and_eq_true] at this
        exact this.1
      clear hv
      obtain ⟨⟨l, n, d⟩, ht⟩ : ∃ t, tk ts i = t := ⟨_, rfl⟩
      rw [ht] at hT HX hok
      clear ht
      rcases (okT_iff hok).1 with h | h
      · obtain ⟨e1, e2, e3, e4⟩ := isB_iff h
        simp only at e1 e2 e3 e4
        subst e3
        subst e4
        obtain ⟨c, rfl⟩ : ∃ c : Nat, l = (c : Int) := ⟨l.toNat, by omega⟩
        have hput : putT xs ((c : Int), 0, 0) = xs ++ [c] := by simp [putT]
        rw [hput] at HX
        have HP : Hid (∀ w1, Keeps (fun _ => False) wr w1 → Calls Tryz.prog 144 #[.pointer (some ⟨p, 0, none⟩), .agg #[.int .i64 (c : Int), .int .i64 0, .int .i64 0]] w1 fun e w' => e = .returned (.tuple #[]) ∧ OntoT w1 w' p v (xs ++ [c])) := fun w1 hk => putByte_ok p c 0 0 v xs w1 (by omega) (by omega) (HV.out.keptF hk)
        clear h hok hput
        go_wp2_with (first
          | (refine wpList_load3 rfl _ rfl b (off + i * 3) rfl ((c : Int), 0, 0) ?hA ?_; (case hA => assumption))
          | (refine wpList_alloc3 rfl rfl ?_; intro b6 w3 hT3 hK3 hb6; have HK3 : Hid (Keeps (fun _ => False) wr w3) := hK3; clear hK3)
          | (refine wpList_store3 rfl _ _ rfl b6 ((c : Int), 0, 0) rfl rfl (0, 0, 0) ?hA ?_; (case hA => assumption); intro w4 hT4 hK4; have HK4 : Hid (Keeps (fun _ => False) wr w4) := HK3.out.trans hK4 (fun i hi h => by omega); clear hK4 hT3)
          | (refine wpList_load3 rfl _ rfl b6 0 rfl ((c : Int), 0, 0) ?hA ?_; (case hA => exact (by assumption : Tkb _ b6 ((c : Int), 0, 0)).at))
          | (go_at_call 116; refine (doer_byte p (c : Int) 0 _).mono ?_; rintro e w5 ⟨rfl, hK5⟩; have hT5 := hT4.keptF hK5; have HK5 : Hid (Keeps (fun _ => False) wr w5) := HK4.out.trans hK5 (fun _ _ h => h); clear hK5 hT4)
          | (go_at_call 144; refine (HP.out _ HK5.out).mono ?_; rintro e w6 ⟨rfl, hO6⟩; have HW6 : Hid (NowX w w6 p ts (i + 1) (xs ++ [c])) := HX.out _ _ HK5.out hO6; clear hO6))
        go_roundw
        case rel => exact ⟨i + 1, _, by omega, by push_cast; rfl, HW6⟩
        case measure => simp [intOf]; omega
      · obtain ⟨e1, e2, e3, e4, e5, e6⟩ := isC_iff h
        simp only at e1 e2 e3 e4 e5 e6
        subst e1
        obtain ⟨M, rfl⟩ : ∃ M : Nat, n = (M : Int) := ⟨n.toNat, by omega⟩
        obtain ⟨D, rfl⟩ : ∃ D : Nat, d = (D : Int) := ⟨d.toNat, by omega⟩
        have hput : putT xs (0, (M : Int), (D : Int)) = cop xs D M := by
          unfold putT
          rw [if_neg (by show ¬ (M : Int) = 0; omega)]; simp
        rw [hput] at HX
        have HP : Hid (∀ w1, Keeps (fun _ => False) wr w1 → Calls Tryz.prog 145 #[.pointer (some ⟨p, 0, none⟩), .agg #[.int .i64 0, .int .i64 (M : Int), .int .i64 (D : Int)]] w1 fun e w' => e = .returned (.tuple #[]) ∧ OntoT w1 w' p v (cop xs D M)) := fun w1 hk => putCopy_ok p M D 0 v xs w1 (by omega) (by omega) (by omega) (by omega) (HV.out.keptF hk)
        have HDo : Hid (∀ w1, Calls Tryz.prog 116 #[.pointer (some ⟨p, 0, none⟩), .agg #[.int .i64 0, .int .i64 (M : Int), .int .i64 (D : Int)]] w1 fun e w' => e = .returned (.func (.func 145) #[.pointer (some ⟨p, 0, none⟩)] #[]) ∧ Keeps (fun _ => False) w1 w') := fun w1 => doer_copy p 0 (M : Int) (D : Int) w1 (by omega)
        clear h hok hput
        go_wp2_with (first
          | (refine wpList_load3 rfl _ rfl b (off + i * 3) rfl (0, (M : Int), (D : Int)) ?hA ?_; (case hA => assumption))
          | (refine wpList_alloc3 rfl rfl ?_; intro b6 w3 hT3 hK3 hb6; have HK3 : Hid (Keeps (fun _ => False) wr w3) := hK3; clear hK3)
          | (refine wpList_store3 rfl _ _ rfl b6 (0, (M : Int), (D : Int)) rfl rfl (0, 0, 0) ?hA ?_; (case hA => assumption); intro w4 hT4 hK4; have HK4 : Hid (Keeps (fun _ => False) wr w4) := HK3.out.trans hK4 (fun i hi h => by omega); clear hK4 hT3)
          | (refine wpList_load3 rfl _ rfl b6 0 rfl (0, (M : Int), (D : Int)) ?hA ?_; (case hA => exact (by assumption : Tkb _ b6 (0, (M : Int), (D : Int))).at))
          | (go_at_call 116; refine (HDo.out _).mono ?_; rintro e w5 ⟨rfl, hK5⟩; have hT5 := hT4.keptF hK5; have HK5 : Hid (Keeps (fun _ => False) wr w5) := HK4.out.trans hK5 (fun _ _ h => h); clear hK5 hT4)
          | (go_at_call 145; refine (HP.out _ HK5.out).mono ?_; rintro e w6 ⟨rfl, hO6⟩; have HW6 : Hid (NowX w w6 p ts (i + 1) (cop xs D M)) := HX.out _ _ HK5.out hO6; clear hO6))
        go_roundw
        case rel => exact ⟨i + 1, _, by omega, by push_cast; rfl, HW6⟩
        case measure => simp [intOf]; omega
    · obtain rfl : i = N := by omega
      have hE : xs = expF [] ts := by
        have := HW.out.2.1
        rw [← HN.out, List.drop_length] at this; exact this
      obtain ⟨v, hv⟩ := HW.out.1
      have hcv := hv.2.text Tryz.underlying155 HW.out.2.2.2.1
      have hcell : wr.cell? ⟨p, 0, none⟩ = some v := cell_of_heap hv.1 rfl
      rw [hE] at hcv
      obtain ⟨sa, sn, sc, rfl⟩ : ∃ sa sn sc, v = .slice sa sn sc := by
        rcases hv.2.2 with ⟨rfl, _⟩ | ⟨g, c, cur, rfl, _⟩
        · exact ⟨_, _, _, rfl⟩
        · exact ⟨_, _, _, rfl⟩
      clear hE hv
      go_wp2
      go_ret2
      exact ⟨rfl, HW.out.2.2.2.2.2⟩

end Go.Proofs.YtebjooebdehlnaaGreat.Mt

namespace Go.Proofs.YtebjooebdehlnaaGreat.Bk
open Go.RowKit
open Hf Tb
open Mt (Tk RowT TkAt tk Tkb tk_eq)
set_option linter.unusedVariables false
set_option linter.unusedSimpArgs false

theorem take_succ_tk (ts : List Tk) (i : Nat) (h : i < ts.length) : ts.take (i + 1) = ts.take i ++ [tk ts i] := by
  rw [tk_eq i h]; simp
theorem tksB_snoc (ys ds : List Int) (xs : List Tk) (t : Tk) : tksB ys ds (xs ++ [t]) = tksB ys ds xs ++ tkB ys ds t := by simp [tksB]
theorem tkB_len {ys ds : List Int} (hF : Full ys ds) (t : Tk) (a : Int) (ho : Mt.okT t a = true) (hh : hasT ys ds t) : (tkB ys ds t).length ≤ 48 := by
  have key : ∀ (zs : List Int) (i : Nat), may zs = true → (codeB zs i).length ≤ 15 := fun zs i hm => by
    rw [codeB_length]
    by_cases hi : i < zs.length
    · have := may_at hm i hi; rw [at_eq i hi]; omega
    · unfold at_; rw [List.getD, List.getElem?_eq_none (by omega)]; simp
  obtain ⟨h1, h2⟩ := Mt.okT_iff ho
  unfold tkB
  rcases h1 with h1 | h1
  · have hb := Mt.isB_iff h1
    rw [if_pos hb.2.2.1]
    have := key ys t.1.toNat hF.m1; omega
  · have hb := Mt.isC_iff h1
    rw [if_neg (by omega)]
    obtain ⟨x, hx⟩ : ∃ x : Nat, t.2.1 = (x : Int) := ⟨t.2.1.toNat, by omega⟩
    obtain ⟨y, hy⟩ : ∃ y : Nat, t.2.2 = (y : Int) := ⟨t.2.2.toNat, by omega⟩
    obtain ⟨j, e, j1, j2, j3, j4, j5⟩ := symL_is x (by omega) (by omega)
    obtain ⟨k, f, k1, k2, k3, k4, k5⟩ := symD_is y (by omega) (by omega)
    rw [hx, hy, j2, k2]
    simp only [moreB, Int.toNat_natCast, List.length_append, bitsOf_length]
    have := key ys (257 + j) hF.m1
    have := key ds k hF.m2
    omega
theorem tksB_len {ys ds : List Int} (hF : Full ys ds) : ∀ (ts : List Tk), (∀ t ∈ ts, ∃ a, Mt.okT t a = true) → (∀ t ∈ ts, hasT ys ds t) → (tksB ys ds ts).length ≤ 48 * ts.length
  | [], _, _ => by simp [tksB]
  | t :: r, ho, hh => by
    obtain ⟨a, ha⟩ := ho t (by simp)
    have h1 := tkB_len hF t a ha (hh t (by simp))
    have h2 := tksB_len hF r (fun x hx => ho x (by simp [hx])) (fun x hx => hh x (by simp [hx]))
    have e : tksB ys ds (t :: r) = tkB ys ds t ++ tksB ys ds r := by simp [tksB]
    rw [e, List.length_append, List.length_cons]; omega
theorem RowT.keptS {S : Nat → Prop} {w w' : World} {a : Option Addr} {ts : List Tk} (h : RowT w a ts) (hk : Keeps S w w') (hb : ∀ x, a = some x → ¬ S x.block) : RowT w' a ts := Mt.RowT.kept h hk hb
/-- A row of tokens, where none of them or its block has not turned. -/
theorem RowT.keptN {S : Nat → Prop} {w w' : World} {a : Option Addr} {ts : List Tk} (h : RowT w a ts) (hk : Keeps S w w') (hb : ts = [] ∨ ∀ x, a = some x → ¬ S x.block) : RowT w' a ts := by
  rcases hb with e | hb
  · exact .inl e
  · exact Mt.RowT.kept h hk hb
theorem RowT.low {w : World} {a : Option Addr} {ts : List Tk} (h : RowT w a ts) : ts = [] ∨ ∀ x, a = some x → x.block < w.heap.size := by
  rcases h with h | ⟨b, off, rfl, h1, _⟩
  · exact .inl h
  · exact .inr (fun x e => by cases e; exact h1)
theorem RowT.cell {w : World} {ts : List Tk} {b off i : Nat} (h : RowT w (some ⟨b, off, none⟩) ts) (hi : i < ts.length) : TkAt w b (off + i * 3) (tk ts i) := by
  rcases h with h | ⟨b', off', e, _, h2⟩
  · subst h; simp at hi
  · cases e; exact h2 i hi

/-! ### Written -/
theorem fin_eachP_ok {w w' : World} {p b : Nat} {o : Option Nat} {L : Bts} {g1 g2 : Nat} {ys ds : List Int} {ts : List Tk} (h : PcOn w w' p b o (L ++ tksB ys ds (ts.take ts.length)) g1 ys g2 ds) : PcOn w w' p b o (L ++ tksB ys ds ts) g1 ys g2 ds := by rw [List.take_length] at h; exact h

set_option maxHeartbeats 4000000 in
set_option maxRecDepth 100000 in
theorem eachP_ok {w : World} {p b : Nat} {o : Option Nat} {L : Bts} {g1 g2 : Nat} {ys ds : List Int} {ts : List Tk} {a : Option Addr} {cap : Nat} (h : Pc w p b o L g1 ys g2 ds) (hF : Full ys ds) (hR : RowT w a ts) (hN : ts.length ≤ 300) (hok : ∀ t ∈ ts, ∃ a, Mt.okT t a = true) (hh : ∀ t ∈ ts, hasT ys ds t) (hL : L.length ≤ 40000) (ha : ts = [] ∨ ∀ x, a = some x → x.block ≠ b ∧ o ≠ some x.block) :
    Calls Tryz.prog 78 #[.slice a ts.length cap, .func (.func 79) #[.pointer (some ⟨p, 0, none⟩)] #[], .func (.func 80) #[.pointer (some ⟨p, 0, none⟩)] #[]] w fun e w' => e = .returned (.tuple #[]) ∧ PcOn w w' p b o (L ++ tksB ys ds ts) g1 ys g2 ds := by
  have HI : Hid (∀ i w', i < ts.length → PcOn w w' p b o (L ++ tksB ys ds (ts.take i)) g1 ys g2 ds → ∀ b off, a = some ⟨b, off, none⟩ → TkAt w' b (off + i * 3) (tk ts i)) := fun i w' hi hI b' off e => by subst e; obtain ⟨o', _, _, hk⟩ := hI; exact RowT.cell (RowT.keptS hR hk (fun x e => by have := ha.resolve_left (fun h => by subst h; simp at hi) x e; rintro (e2 | e2); exact this.1 e2; exact this.2 e2)) hi
  have HB : Hid (∀ i w', i < ts.length → PcOn w w' p b o (L ++ tksB ys ds (ts.take i)) g1 ys g2 ds → ∀ l d, tk ts i = (l, 0, d) → ∀ w1, Keeps (fun _ => False) w' w1 → Calls Tryz.prog 79 #[.pointer (some ⟨p, 0, none⟩), .int .i64 l] w1 fun e w'' => e = .returned (.tuple #[]) ∧ PcOn w w'' p b o (L ++ tksB ys ds (ts.take (i + 1))) g1 ys g2 ds) := fun i w' hi hI l d ht w1 hk1 => by
    obtain ⟨o', hp, ho, hk⟩ := hI
    obtain ⟨c, hc⟩ := hok (tk ts i) (by rw [tk_eq i hi]; exact List.getElem_mem hi)
    have hx := hh (tk ts i) (by rw [tk_eq i hi]; exact List.getElem_mem hi)
    have hlen := tksB_len hF (ts.take i) (fun t ht => hok t (List.mem_of_mem_take ht)) (fun t ht => hh t (List.mem_of_mem_take ht))
    rw [List.length_take] at hlen
    rw [take_succ_tk ts i hi, tksB_snoc, ← List.append_assoc]
    rw [ht] at hc hx ⊢
    have hb : Mt.isB (l, 0, d) = true := by
      rcases (Mt.okT_iff hc).1 with h1 | h1
      · exact h1
      · have := Mt.isC_iff h1; simp only at this; omega
    have hb2 := Mt.isB_iff hb
    simp only at hb2
    unfold hasT at hx
    rw [if_pos rfl] at hx
    obtain ⟨m, rfl⟩ : ∃ m : Nat, l = (m : Int) := ⟨l.toNat, by omega⟩
    simp only [Int.toNat_natCast] at hx
    refine (putByteP_ok (hp.keptF hk1) hF.m1 hF.r1 m hx (by rw [List.length_append]; omega)).mono ?_
    rintro e w2 ⟨rfl, hO⟩
    refine ⟨rfl, PcOn.trans ho hk (PcOn.before hk1 ?_)⟩
    have e2 : tkB ys ds ((m : Int), 0, d) = codeB ys m := by unfold tkB; rw [if_pos rfl]; rfl
    rw [e2]; exact hO
  have HC : Hid (∀ i w', i < ts.length → PcOn w w' p b o (L ++ tksB ys ds (ts.take i)) g1 ys g2 ds → ∀ l n d, tk ts i = (l, n, d) → n ≠ 0 → ∀ w1, Keeps (fun _ => False) w' w1 → Calls Tryz.prog 80 #[.pointer (some ⟨p, 0, none⟩), syV (symL n), syV (symD d)] w1 fun e w'' => e = .returned (.tuple #[]) ∧ PcOn w w'' p b o (L ++ tksB ys ds (ts.take (i + 1))) g1 ys g2 ds) := fun i w' hi hI l n d ht hn w1 hk1 => by
    obtain ⟨o', hp, ho, hk⟩ := hI
    obtain ⟨c, hc⟩ := hok (tk ts i) (by rw [tk_eq i hi]; exact List.getElem_mem hi)
    have hx := hh (tk ts i) (by rw [tk_eq i hi]; exact List.getElem_mem hi)
    have hlen := tksB_len hF (ts.take i) (fun t ht => hok t (List.mem_of_mem_take ht)) (fun t ht => hh t (List.mem_of_mem_take ht))
    rw [List.length_take] at hlen
    rw [take_succ_tk ts i hi, tksB_snoc, ← List.append_assoc]
    rw [ht] at hc hx ⊢
    have hb : Mt.isC (l, n, d) c = true := by
      rcases (Mt.okT_iff hc).1 with h1 | h1
      · have := Mt.isB_iff h1; simp only at this; omega
      · exact h1
    have hb2 := Mt.isC_iff hb
    simp only at hb2
    unfold hasT at hx
    rw [if_neg hn] at hx
    obtain ⟨x, rfl⟩ : ∃ x : Nat, n = (x : Int) := ⟨n.toNat, by omega⟩
    obtain ⟨y, rfl⟩ : ∃ y : Nat, d = (y : Int) := ⟨d.toNat, by omega⟩
    obtain ⟨j, f, j1, j2, j3, j4, j5⟩ := symL_is x (by omega) (by omega)
    obtain ⟨k, g, k1, k2, k3, k4, k5⟩ := symD_is y (by omega) (by omega)
    have e2 : tkB ys ds (l, (x : Int), (y : Int)) = codeB ys (257 + j) ++ (bitsOf f (lenF j).2 ++ (codeB ds k ++ bitsOf g (dstF k).2)) := by
      unfold tkB
      rw [if_neg hn]
      simp only [j2, k2, moreB, Int.toNat_natCast]
    simp only [j2, k2, Int.toNat_natCast] at hx
    rw [j2, k2, e2]
    simp only [syV]
    refine (putCopyP_ok (hp.keptF hk1) hF (257 + j) k (lenF j).2 (dstF k).2 f g hx.1 hx.2 (by omega) j4 (by omega) k4 (by rw [List.length_append]; omega)).mono ?_
    rintro e w2 ⟨rfl, hO⟩
    exact ⟨rfl, PcOn.trans ho hk (PcOn.before hk1 hO)⟩
  have HW0 : Hid (PcOn w w p b o (L ++ tksB ys ds (ts.take 0)) g1 ys g2 ds) := by show PcOn w w p b o (L ++ tksB ys ds (ts.take 0)) g1 ys g2 ds; simp only [List.take_zero, tksB, List.flatMap_nil, List.append_nil]; exact ⟨o, h, .inl rfl, Keeps.refl _ w⟩
  have hspot : 0 < ts.length → ∃ b off, a = some ⟨b, off, none⟩ := fun hn => by obtain ⟨b, off, rfl, _⟩ := hR.at hn; exact ⟨b, off, rfl⟩
  have HSp : Hid (0 < ts.length → ∃ b off, a = some ⟨b, off, none⟩) := hspot
  have HLn : Hid (∀ k, (symL k) = (symL k)) := fun _ => rfl
  have HLen : Hid (∀ (k : Int) (w : World), Calls Tryz.prog 119 #[.int .i64 k] w fun e w' => e = .returned (.tuple #[syV (symL k), .int .i64 (errB (inL k))]) ∧ Keeps (fun _ => False) w w') := length_ok
  have HDis : Hid (∀ (k : Int) (w : World), Calls Tryz.prog 120 #[.int .i64 k] w fun e w' => e = .returned (.tuple #[syV (symD k), .int .i64 (errB (inD k))]) ∧ Keeps (fun _ => False) w w') := dist_ok
  obtain ⟨N, hN⟩ : ∃ N, ts.length = N := ⟨_, rfl⟩
  rw [hN] at HI HB HC HSp ⊢
  have hl : N ≤ 9223372036854775806 := by omega
  have HQ : Hid (ts.length = N) := hN
  obtain ⟨Q, hQ⟩ : ∃ Q : World → Prop, Q = fun w' => PcOn w w' p b o (L ++ tksB ys ds ts) g1 ys g2 ds := ⟨_, rfl⟩
  have HQ2 : Hid (∀ w', PcOn w w' p b o (L ++ tksB ys ds (ts.take N)) g1 ys g2 ds → Q w') := fun w' h => by rw [hQ]; exact by rw [← hN] at h; exact fin_eachP_ok h
  have hpost : (fun (e : Ending) (w' : World) => e = .returned (.tuple #[]) ∧ PcOn w w' p b o (L ++ tksB ys ds ts) g1 ys g2 ds) = fun e w' => e = .returned (.tuple #[]) ∧ Q w' := by rw [hQ]
  rw [hpost]
  clear hQ hpost hN hspot hR
  go_enter Tryz.func78, Tryz.ntmps78
  go_wp2_with fail
  go_loopw [14] (fun s14 w' => ∃ i : Nat, i ≤ N ∧ s14 = .int .i64 (i : Int) ∧ Hid (PcOn w w' p b o (L ++ tksB ys ds (ts.take i)) g1 ys g2 ds)) (fun s14 w' => ((N : Int) - intOf s14).toNat)
  case atStart => exact ⟨0, by omega, rfl, HW0⟩
  case round =>
    clear HW0
    obtain ⟨i, hi, rfl, HW⟩ := hrel
    by_cases hin : i < N
    · have hiz : (i : Int) < (N : Int) := by omega
      obtain ⟨tb, off, ha⟩ := HSp.out (by omega)
      subst ha
      obtain ⟨⟨l, n, d⟩, ht⟩ : ∃ t, tk ts i = t := ⟨_, rfl⟩
      have hT := HI.out i wr hin HW.out tb off rfl
      rw [ht] at hT
      by_cases hn0 : n = 0
      · subst hn0
        have HP := hide (HB.out i wr hin HW.out l d ht)
        clear HB HC HI ht HSp HLn HLen HDis
        go_wp2_with (first
          | (refine Mt.wpList_load3 rfl _ rfl tb (off + i * 3) rfl (l, 0, d) ?hA ?_; (case hA => assumption))
          | (refine Mt.wpList_alloc3 rfl rfl ?_; intro b6 w3 hT3 hK3 hb6; have HK3 : Hid (Keeps (fun _ => False) wr w3) := hK3; clear hK3)
          | (refine Mt.wpList_store3 rfl _ _ rfl b6 (l, 0, d) rfl rfl (0, 0, 0) ?hA ?_; (case hA => assumption); intro w4 hT4 hK4; have HK4 : Hid (Keeps (fun _ => False) wr w4) := HK3.out.trans hK4 (fun i hi h => by omega); have hx1 := hT4.c0; have hx2 := hT4.c1; clear hK4 hT3))
        refine (HP.out _ HK4.out).mono ?_
        rintro e w6 ⟨rfl, hO6⟩
        have HW6 : Hid (PcOn w w6 p b o (L ++ tksB ys ds (ts.take (i + 1))) g1 ys g2 ds) := hO6
        clear hO6 HP hT hx1 hx2 HW
        go_wp2
        go_roundw
        case rel => exact ⟨i + 1, by omega, by push_cast; rfl, HW6⟩
        case measure => simp [intOf]; omega
      · have HP := hide (HC.out i wr hin HW.out l n d ht hn0)
        clear HB HC HI ht HSp HLn
        obtain ⟨⟨l1, l2, l3⟩, hs1⟩ : ∃ s, symL n = s := ⟨_, rfl⟩
        obtain ⟨⟨d1, d2, d3⟩, hs2⟩ : ∃ s, symD d = s := ⟨_, rfl⟩
        have HL1 : Hid (∀ (w : World), Calls Tryz.prog 119 #[.int .i64 n] w fun e w' => e = .returned (.tuple #[.agg #[.int .i64 l1, .int .i64 l2, .int .i64 l3], .int .i64 (errB (inL n))]) ∧ Keeps (fun _ => False) w w') := fun w => by have := HLen.out n w; rw [hs1] at this; exact this
        have HD1 : Hid (∀ (w : World), Calls Tryz.prog 120 #[.int .i64 d] w fun e w' => e = .returned (.tuple #[.agg #[.int .i64 d1, .int .i64 d2, .int .i64 d3], .int .i64 (errB (inD d))]) ∧ Keeps (fun _ => False) w w') := fun w => by have := HDis.out d w; rw [hs2] at this; exact this
        rw [hs1, hs2] at HP
        simp only [syV] at HP
        generalize errB (inL n) = er1 at *
        generalize errB (inD d) = er2 at *
        clear hs1 hs2 HLen HDis
        go_wp2_with (first
          | (refine Mt.wpList_load3 rfl _ rfl tb (off + i * 3) rfl (l, n, d) ?hA ?_; (case hA => assumption))
          | (refine Mt.wpList_alloc3 rfl rfl ?_; intro b6 w3 hT3 hK3 hb6; have HK3 : Hid (Keeps (fun _ => False) wr w3) := hK3; clear hK3)
          | (refine Mt.wpList_store3 rfl _ _ rfl b6 (l, n, d) rfl rfl (0, 0, 0) ?hA ?_; (case hA => assumption); intro w4 hT4 hK4; have HK4 : Hid (Keeps (fun _ => False) wr w4 ∧ Tkb w4 b6 (l, n, d)) := ⟨HK3.out.trans hK4 (fun i hi h => by omega), hT4⟩; have hx1 := hT4.c1; clear hK4 hT3 hT4)
          | (go_at_call 119; refine (HL1.out _).mono ?_; rintro e w5 ⟨rfl, hK5⟩; have HK5 : Hid (Keeps (fun _ => False) wr w5 ∧ Tkb w5 b6 (l, n, d)) := ⟨HK4.out.1.trans hK5 (fun _ _ h => h), HK4.out.2.keptF hK5⟩; clear hK5 HK4)
          | (refine Tb.wpList_alloc3 rfl rfl ?_; (fail_if_success (clear hY6)); intro b7 w6 hY6 hK6 hb7; have HK6 : Hid (Keeps (fun _ => False) wr w6 ∧ Tkb w6 b6 (l, n, d) ∧ wr.heap.size ≤ b7) := ⟨HK5.out.1.trans hK6 (fun _ _ h => h), HK5.out.2.keptF hK6, by have := HK5.out.1.size; omega⟩; clear hK6 HK5)
          | (refine Tb.wpList_store3 rfl _ _ rfl b7 (l1, l2, l3) rfl rfl (0, 0, 0) hY6 ?_; intro w7 hY7 hK7; have HK7 : Hid (Keeps (fun _ => False) wr w7 ∧ Tkb w7 b6 (l, n, d) ∧ Syb w7 b7 (l1, l2, l3) ∧ b6 ≠ b7) := (by have hne : b6 ≠ b7 := (by have := HK6.out.2.1.lt; intro e; subst e; have e1 := HK6.out.2.1; have e2 := hY6; unfold Tkb at e1; unfold Syb at e2; rw [e1] at e2; simp at e2); exact ⟨HK6.out.1.trans hK7 (fun i hi h => by have := HK6.out.2.2; omega), HK6.out.2.1.kept hK7 hne, hY7, hne⟩); have hx2 := HK7.out.2.1.c2; clear hK7 HK6)
          | (go_at_call 120; refine (HD1.out _).mono ?_; rintro e w8 ⟨rfl, hK8⟩; have HK8 : Hid (Keeps (fun _ => False) wr w8 ∧ Syb w8 b7 (l1, l2, l3)) := ⟨HK7.out.1.trans hK8 (fun _ _ h => h), HK7.out.2.2.1.keptF hK8⟩; clear hK8 HK7)
          | (refine Tb.wpList_alloc3 rfl rfl ?_; intro b9 w9 hY9 hK9 hb9; have HK9 : Hid (Keeps (fun _ => False) wr w9 ∧ Syb w9 b7 (l1, l2, l3) ∧ wr.heap.size ≤ b9 ∧ b7 ≠ b9) := ⟨HK8.out.1.trans hK9 (fun _ _ h => h), HK8.out.2.keptF hK9, by have := HK8.out.1.size; omega, by have := HK8.out.2.lt; omega⟩; clear hK9 HK8)
          | (refine Tb.wpList_store3 rfl _ _ rfl b9 (d1, d2, d3) rfl rfl (0, 0, 0) hY9 ?_; intro wa hYa hKa; have HKa : Hid (Keeps (fun _ => False) wr wa) := HK9.out.1.trans hKa (fun i hi h => by have := HK9.out.2.2.1; omega); have hY7a := HK9.out.2.1.kept hKa HK9.out.2.2.2; clear hKa HK9)
          | (refine Tb.wpList_load3 rfl _ rfl b7 rfl (l1, l2, l3) hY7a ?_)
          | (refine Tb.wpList_load3 rfl _ rfl b9 rfl (d1, d2, d3) hYa ?_))
        refine (HP.out _ HKa.out).mono ?_
        rintro e wb ⟨rfl, hO6⟩
        have HW6 : Hid (PcOn w wb p b o (L ++ tksB ys ds (ts.take (i + 1))) g1 ys g2 ds) := hO6
        clear hO6 HP hT HW
        go_wp2
        go_roundw
        case rel => exact ⟨i + 1, by omega, by push_cast; rfl, HW6⟩
        case measure => simp [intOf]; omega
    · obtain rfl : i = N := by omega
      have HF := hide (HQ2.out wr HW.out)
      clear HB HC HI HSp HLn HLen HDis HW HQ2
      go_wp2
      go_end0
      exact ⟨rfl, HF.out⟩


/-! ### Counted -/
theorem fin_eachC_ok {w w' : World} {q : Nat} {ts : List Tk} (h : Cnt w' q (ts.take ts.length) ∧ Keeps (fun k => k = q) w w') : Cnt w' q ts ∧ Keeps (fun k => k = q) w w' := by rw [List.take_length] at h; exact h

set_option maxHeartbeats 4000000 in
set_option maxRecDepth 100000 in
theorem eachC_ok {w : World} {q : Nat} {ts : List Tk} {a : Option Addr} {cap : Nat} (h : Cnt w q []) (hR : RowT w a ts) (hN : ts.length ≤ 300) (hok : ∀ t ∈ ts, ∃ a, Mt.okT t a = true) (ha : ts = [] ∨ ∀ x, a = some x → x.block ≠ q) :
    Calls Tryz.prog 78 #[.slice a ts.length cap, .func (.func 83) #[.pointer (some ⟨q, 0, none⟩)] #[], .func (.func 84) #[.pointer (some ⟨q, 0, none⟩)] #[]] w fun e w' => e = .returned (.tuple #[]) ∧ Cnt w' q ts ∧ Keeps (fun k => k = q) w w' := by
  have HI : Hid (∀ i w', i < ts.length → Cnt w' q (ts.take i) ∧ Keeps (fun k => k = q) w w' → ∀ b off, a = some ⟨b, off, none⟩ → TkAt w' b (off + i * 3) (tk ts i)) := fun i w' hi hI b' off e => by subst e; exact RowT.cell (RowT.keptS hR hI.2 (fun x e => ha.resolve_left (fun h => by subst h; simp at hi) x e)) hi
  have HB : Hid (∀ i w', i < ts.length → Cnt w' q (ts.take i) ∧ Keeps (fun k => k = q) w w' → ∀ l d, tk ts i = (l, 0, d) → ∀ w1, Keeps (fun _ => False) w' w1 → Calls Tryz.prog 83 #[.pointer (some ⟨q, 0, none⟩), .int .i64 l] w1 fun e w'' => e = .returned (.tuple #[]) ∧ Cnt w'' q (ts.take (i + 1)) ∧ Keeps (fun k => k = q) w w'') := fun i w' hi hI l d ht w1 hk1 => by
    obtain ⟨c, hc⟩ := hok (tk ts i) (by rw [tk_eq i hi]; exact List.getElem_mem hi)
    rw [take_succ_tk ts i hi]
    rw [ht] at hc ⊢
    have hb : Mt.isB (l, 0, d) = true := by
      rcases (Mt.okT_iff hc).1 with h1 | h1
      · exact h1
      · have := Mt.isC_iff h1; simp only at this; omega
    have hb2 := Mt.isB_iff hb
    simp only at hb2
    obtain ⟨m, rfl⟩ : ∃ m : Nat, l = (m : Int) := ⟨l.toNat, by omega⟩
    refine (Cnt.byte (Ary.keptF hI.1 hk1) (by rw [List.length_take]; omega) m d (by omega)).mono ?_
    rintro e w2 ⟨rfl, h1, h2⟩
    exact ⟨rfl, h1, (hI.2.trans hk1 (fun _ _ h => h.elim)).trans h2 (fun _ _ h => h)⟩
  have HC : Hid (∀ i w', i < ts.length → Cnt w' q (ts.take i) ∧ Keeps (fun k => k = q) w w' → ∀ l n d, tk ts i = (l, n, d) → n ≠ 0 → ∀ w1, Keeps (fun _ => False) w' w1 → Calls Tryz.prog 84 #[.pointer (some ⟨q, 0, none⟩), syV (symL n), syV (symD d)] w1 fun e w'' => e = .returned (.tuple #[]) ∧ Cnt w'' q (ts.take (i + 1)) ∧ Keeps (fun k => k = q) w w'') := fun i w' hi hI l n d ht hn w1 hk1 => by
    obtain ⟨c, hc⟩ := hok (tk ts i) (by rw [tk_eq i hi]; exact List.getElem_mem hi)
    rw [take_succ_tk ts i hi]
    rw [ht] at hc ⊢
    have hb : Mt.isC (l, n, d) c = true := by
      rcases (Mt.okT_iff hc).1 with h1 | h1
      · have := Mt.isB_iff h1; simp only at this; omega
      · exact h1
    have hb2 := Mt.isC_iff hb
    simp only at hb2
    obtain ⟨x, rfl⟩ : ∃ x : Nat, n = (x : Int) := ⟨n.toNat, by omega⟩
    obtain ⟨y, rfl⟩ : ∃ y : Nat, d = (y : Int) := ⟨d.toNat, by omega⟩
    refine (Cnt.copy (Ary.keptF hI.1 hk1) (by rw [List.length_take]; omega) l x y (by omega) (by omega) (by omega) (by omega)).mono ?_
    rintro e w2 ⟨rfl, h1, h2⟩
    exact ⟨rfl, h1, (hI.2.trans hk1 (fun _ _ h => h.elim)).trans h2 (fun _ _ h => h)⟩
  have HW0 : Hid (Cnt w q (ts.take 0) ∧ Keeps (fun k => k = q) w w) := ⟨by rw [List.take_zero]; exact h, Keeps.refl _ w⟩
  have hspot : 0 < ts.length → ∃ b off, a = some ⟨b, off, none⟩ := fun hn => by obtain ⟨b, off, rfl, _⟩ := hR.at hn; exact ⟨b, off, rfl⟩
  have HSp : Hid (0 < ts.length → ∃ b off, a = some ⟨b, off, none⟩) := hspot
  have HLn : Hid (∀ k, (symL k) = (symL k)) := fun _ => rfl
  have HLen : Hid (∀ (k : Int) (w : World), Calls Tryz.prog 119 #[.int .i64 k] w fun e w' => e = .returned (.tuple #[syV (symL k), .int .i64 (errB (inL k))]) ∧ Keeps (fun _ => False) w w') := length_ok
  have HDis : Hid (∀ (k : Int) (w : World), Calls Tryz.prog 120 #[.int .i64 k] w fun e w' => e = .returned (.tuple #[syV (symD k), .int .i64 (errB (inD k))]) ∧ Keeps (fun _ => False) w w') := dist_ok
  obtain ⟨N, hN⟩ : ∃ N, ts.length = N := ⟨_, rfl⟩
  rw [hN] at HI HB HC HSp ⊢
  have hl : N ≤ 9223372036854775806 := by omega
  have HQ : Hid (ts.length = N) := hN
  obtain ⟨Q, hQ⟩ : ∃ Q : World → Prop, Q = fun w' => Cnt w' q ts ∧ Keeps (fun k => k = q) w w' := ⟨_, rfl⟩
  have HQ2 : Hid (∀ w', Cnt w' q (ts.take N) ∧ Keeps (fun k => k = q) w w' → Q w') := fun w' h => by rw [hQ]; exact by rw [← hN] at h; exact fin_eachC_ok h
  have hpost : (fun (e : Ending) (w' : World) => e = .returned (.tuple #[]) ∧ Cnt w' q ts ∧ Keeps (fun k => k = q) w w') = fun e w' => e = .returned (.tuple #[]) ∧ Q w' := by rw [hQ]
  rw [hpost]
  clear hQ hpost hN hspot hR
  go_enter Tryz.func78, Tryz.ntmps78
  go_wp2_with fail
  go_loopw [14] (fun s14 w' => ∃ i : Nat, i ≤ N ∧ s14 = .int .i64 (i : Int) ∧ Hid (Cnt w' q (ts.take i) ∧ Keeps (fun k => k = q) w w')) (fun s14 w' => ((N : Int) - intOf s14).toNat)
  case atStart => exact ⟨0, by omega, rfl, HW0⟩
  case round =>
    clear HW0
    obtain ⟨i, hi, rfl, HW⟩ := hrel
    by_cases hin : i < N
    · have hiz : (i : Int) < (N : Int) := by omega
      obtain ⟨tb, off, ha⟩ := HSp.out (by omega)
      subst ha
      obtain ⟨⟨l, n, d⟩, ht⟩ : ∃ t, tk ts i = t := ⟨_, rfl⟩
      have hT := HI.out i wr hin HW.out tb off rfl
      rw [ht] at hT
      by_cases hn0 : n = 0
      · subst hn0
        have HP := hide (HB.out i wr hin HW.out l d ht)
        clear HB HC HI ht HSp HLn HLen HDis
        go_wp2_with (first
          | (refine Mt.wpList_load3 rfl _ rfl tb (off + i * 3) rfl (l, 0, d) ?hA ?_; (case hA => assumption))
          | (refine Mt.wpList_alloc3 rfl rfl ?_; intro b6 w3 hT3 hK3 hb6; have HK3 : Hid (Keeps (fun _ => False) wr w3) := hK3; clear hK3)
          | (refine Mt.wpList_store3 rfl _ _ rfl b6 (l, 0, d) rfl rfl (0, 0, 0) ?hA ?_; (case hA => assumption); intro w4 hT4 hK4; have HK4 : Hid (Keeps (fun _ => False) wr w4) := HK3.out.trans hK4 (fun i hi h => by omega); have hx1 := hT4.c0; have hx2 := hT4.c1; clear hK4 hT3))
        refine (HP.out _ HK4.out).mono ?_
        rintro e w6 ⟨rfl, hO6⟩
        have HW6 : Hid (Cnt w6 q (ts.take (i + 1)) ∧ Keeps (fun k => k = q) w w6) := hO6
        clear hO6 HP hT hx1 hx2 HW
        go_wp2
        go_roundw
        case rel => exact ⟨i + 1, by omega, by push_cast; rfl, HW6⟩
        case measure => simp [intOf]; omega
      · have HP := hide (HC.out i wr hin HW.out l n d ht hn0)
        clear HB HC HI ht HSp HLn
        obtain ⟨⟨l1, l2, l3⟩, hs1⟩ : ∃ s, symL n = s := ⟨_, rfl⟩
        obtain ⟨⟨d1, d2, d3⟩, hs2⟩ : ∃ s, symD d = s := ⟨_, rfl⟩
        have HL1 : Hid (∀ (w : World), Calls Tryz.prog 119 #[.int .i64 n] w fun e w' => e = .returned (.tuple #[.agg #[.int .i64 l1, .int .i64 l2, .int .i64 l3], .int .i64 (errB (inL n))]) ∧ Keeps (fun _ => False) w w') := fun w => by have := HLen.out n w; rw [hs1] at this; exact this
        have HD1 : Hid (∀ (w : World), Calls Tryz.prog 120 #[.int .i64 d] w fun e w' => e = .returned (.tuple #[.agg #[.int .i64 d1, .int .i64 d2, .int .i64 d3], .int .i64 (errB (inD d))]) ∧ Keeps (fun _ => False) w w') := fun w => by have := HDis.out d w; rw [hs2] at this; exact this
        rw [hs1, hs2] at HP
        simp only [syV] at HP
        generalize errB (inL n) = er1 at *
        generalize errB (inD d) = er2 at *
        clear hs1 hs2 HLen HDis
        go_wp2_with (first
          | (refine Mt.wpList_load3 rfl _ rfl tb (off + i * 3) rfl (l, n, d) ?hA ?_; (case hA => assumption))
          | (refine Mt.wpList_alloc3 rfl rfl ?_; intro b6 w3 hT3 hK3 hb6; have HK3 : Hid (Keeps (fun _ => False) wr w3) := hK3; clear hK3)
          | (refine Mt.wpList_store3 rfl _ _ rfl b6 (l, n, d) rfl rfl (0, 0, 0) ?hA ?_; (case hA => assumption); intro w4 hT4 hK4; have HK4 : Hid (Keeps (fun _ => False) wr w4 ∧ Tkb w4 b6 (l, n, d)) := ⟨HK3.out.trans hK4 (fun i hi h => by omega), hT4⟩; have hx1 := hT4.c1; clear hK4 hT3 hT4)
          | (go_at_call 119; refine (HL1.out _).mono ?_; rintro e w5 ⟨rfl, hK5⟩; have HK5 : Hid (Keeps (fun _ => False) wr w5 ∧ Tkb w5 b6 (l, n, d)) := ⟨HK4.out.1.trans hK5 (fun _ _ h => h), HK4.out.2.keptF hK5⟩; clear hK5 HK4)
          | (refine Tb.wpList_alloc3 rfl rfl ?_; (fail_if_success (clear hY6)); intro b7 w6 hY6 hK6 hb7; have HK6 : Hid (Keeps (fun _ => False) wr w6 ∧ Tkb w6 b6 (l, n, d) ∧ wr.heap.size ≤ b7) := ⟨HK5.out.1.trans hK6 (fun _ _ h => h), HK5.out.2.keptF hK6, by have := HK5.out.1.size; omega⟩; clear hK6 HK5)
          | (refine Tb.wpList_store3 rfl _ _ rfl b7 (l1, l2, l3) rfl rfl (0, 0, 0) hY6 ?_; intro w7 hY7 hK7; have HK7 : Hid (Keeps (fun _ => False) wr w7 ∧ Tkb w7 b6 (l, n, d) ∧ Syb w7 b7 (l1, l2, l3) ∧ b6 ≠ b7) := (by have hne : b6 ≠ b7 := (by have := HK6.out.2.1.lt; intro e; subst e; have e1 := HK6.out.2.1; have e2 := hY6; unfold Tkb at e1; unfold Syb at e2; rw [e1] at e2; simp at e2); exact ⟨HK6.out.1.trans hK7 (fun i hi h => by have := HK6.out.2.2; omega), HK6.out.2.1.kept hK7 hne, hY7, hne⟩); have hx2 := HK7.out.2.1.c2; clear hK7 HK6)
          | (go_at_call 120; refine (HD1.out _).mono ?_; rintro e w8 ⟨rfl, hK8⟩; have HK8 : Hid (Keeps (fun _ => False) wr w8 ∧ Syb w8 b7 (l1, l2, l3)) := ⟨HK7.out.1.trans hK8 (fun _ _ h => h), HK7.out.2.2.1.keptF hK8⟩; clear hK8 HK7)
          | (refine Tb.wpList_alloc3 rfl rfl ?_; intro b9 w9 hY9 hK9 hb9; have HK9 : Hid (Keeps (fun _ => False) wr w9 ∧ Syb w9 b7 (l1, l2, l3) ∧ wr.heap.size ≤ b9 ∧ b7 ≠ b9) := ⟨HK8.out.1.trans hK9 (fun _ _ h => h), HK8.out.2.keptF hK9, by have := HK8.out.1.size; omega, by have := HK8.out.2.lt; omega⟩; clear hK9 HK8)
          | (refine Tb.wpList_store3 rfl _ _ rfl b9 (d1, d2, d3) rfl rfl (0, 0, 0) hY9 ?_; intro wa hYa hKa; have HKa : Hid (Keeps (fun _ => False) wr wa) := HK9.out.1.trans hKa (fun i hi h => by have := HK9.out.2.2.1; omega); have hY7a := HK9.out.2.1.kept hKa HK9.out.2.2.2; clear hKa HK9)
          | (refine Tb.wpList_load3 rfl _ rfl b7 rfl (l1, l2, l3) hY7a ?_)
          | (refine Tb.wpList_load3 rfl _ rfl b9 rfl (d1, d2, d3) hYa ?_))
        refine (HP.out _ HKa.out).mono ?_
        rintro e wb ⟨rfl, hO6⟩
        have HW6 : Hid (Cnt wb q (ts.take (i + 1)) ∧ Keeps (fun k => k = q) w wb) := hO6
        clear hO6 HP hT HW
        go_wp2
        go_roundw
        case rel => exact ⟨i + 1, by omega, by push_cast; rfl, HW6⟩
        case measure => simp [intOf]; omega
    · obtain rfl : i = N := by omega
      have HF := hide (HQ2.out wr HW.out)
      clear HB HC HI HSp HLn HLen HDis HW HQ2
      go_wp2
      go_end0
      exact ⟨rfl, HF.out⟩


end Go.Proofs.YtebjooebdehlnaaGreat.Bk

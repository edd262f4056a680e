/-
  The call Expand: the text that tokens come to. each of package block: tokens one behind the other, to be counted and to be written. What stands ahead of a dynamic block's tokens is read again (no program in sight).
-/
import Derived.Test.YtdbfbijalhknnabGreatRows
import Derived.Test.YtdbfbijalhknnabGreatG09
namespace Go.Proofs.YtdbfbijalhknnabGreat.Mt
open Go.RowKit
set_option linter.unusedVariables false
set_option linter.unusedSimpArgs false

set_option maxHeartbeats 4000000 in
set_option maxRecDepth 1000000 in
theorem doer_byte (p : Nat) (l d : Int) (w : World) : Calls Tryz.prog 53 #[.pointer (some ⟨p, 0, none⟩), .agg #[.int .i64 l, .int .i64 0, .int .i64 d]] w fun e w' => e = .returned (.func (.func 89) #[.pointer (some ⟨p, 0, none⟩)] #[]) ∧ Keeps (fun _ => False) w w' := by
  go_enter Tryz.func53, Tryz.ntmps53
  go_wp2
  go_ret
  exact ⟨rfl, (Keeps.refl _ w).alloc _⟩
set_option maxHeartbeats 4000000 in
set_option maxRecDepth 1000000 in
theorem doer_copy (p : Nat) (l n d : Int) (w : World) (hn : ¬ n = 0) : Calls Tryz.prog 53 #[.pointer (some ⟨p, 0, none⟩), .agg #[.int .i64 l, .int .i64 n, .int .i64 d]] w fun e w' => e = .returned (.func (.func 90) #[.pointer (some ⟨p, 0, none⟩)] #[]) ∧ Keeps (fun _ => False) w w' := by
  go_enter Tryz.func53, Tryz.ntmps53
  go_wp2
  go_ret
  exact ⟨rfl, (Keeps.refl _ w).alloc _⟩

set_option maxHeartbeats 4000000 in
set_option maxRecDepth 1000000 in
theorem expand_bad (a : Option Addr) (ts : List Tk) (cap : Nat) (w : World) (hR : RowT w a ts) (hl : ts.length ≤ 9223372036854775806) (hm : mayF 0 ts = false) :
    Calls Tryz.prog 19 #[.slice a ts.length cap] w fun e w' => e = .returned (.tuple #[.string ⟨#[]⟩, .int .i64 500]) ∧ Keeps (fun _ => False) w w' := by
  have HC : Hid (Calls Tryz.prog 52 #[.slice a ts.length cap] w fun e w' => e = .returned (.bool false) ∧ Keeps (fun _ => False) w w') := by
    have := may_ok a ts cap w hR (by omega)
    rw [hm] at this; exact this
  clear hR hm
  go_enter Tryz.func19, Tryz.ntmps19
  go_wp2_with (go_at_call 52; refine HC.out.mono ?_; rintro e w1 ⟨rfl, hK1⟩)
  go_ret2
  exact ⟨rfl, hK1⟩

/-- What stands ahead of the i-th token, in a variable. -/
def NowX (w0 w : World) (p : Nat) (ts : List Tk) (i : Nat) (xs : List Nat) : Prop :=
  (∃ v, Txt w p v xs) ∧ expF xs (ts.drop i) = expF [] ts ∧ mayF xs.length (ts.drop i) = true ∧ (∀ y ∈ xs, y < 256) ∧ xs.length ≤ 8192 ∧ Keeps (fun _ => False) w0 w
theorem Txt.keptF {w w' : World} {p : Nat} {v : Value} {xs : List Nat} (h : Txt w p v xs) (hk : Keeps (fun _ => False) w w') : Txt w' p v xs := ⟨(hk.block p (lt_of_heap h.1) (fun h => h)).trans h.1, h.2.keptF hk⟩
theorem NowX.next {w0 w w1 w2 : World} {p : Nat} {v : Value} {ts : List Tk} {i : Nat} {xs : List Nat} (h : NowX w0 w p ts i xs) (hp : w0.heap.size ≤ p) (hi : i < ts.length) (hv : Txt w1 p v xs) (hk : Keeps (fun _ => False) w w1) (hO : OntoT w1 w2 p v (putT xs (tk ts i))) : NowX w0 w2 p ts (i + 1) (putT xs (tk ts i)) := by
  obtain ⟨_, h2, h3, h4, h5, h6⟩ := h
  rw [tk_drop i hi] at h2 h3
  simp only [mayF, Bool.and_eq_true] at h3
  have hl := put_len h3.1
  obtain ⟨v', hv', _, hk2⟩ := hO
  refine ⟨⟨v', hv'⟩, h2, by rw [hl]; exact h3.2, put_lt h4 h3.1, ?_, (h6.trans hk (fun _ _ h => h)).trans hk2 ?_⟩
  · have := (okT_iff h3.1).2; omega
  · rintro k hk (e | e)
    · omega
    · have := (World.ownsRow.lt hv.2 k e).1; omega

set_option maxHeartbeats 4000000 in
set_option maxRecDepth 1000000 in
theorem expand_ok (a : Option Addr) (ts : List Tk) (cap : Nat) (w : World) (hR : RowT w a ts) (hl : ts.length ≤ 9223372036854775806) (hm : mayF 0 ts = true) :
    Calls Tryz.prog 19 #[.slice a ts.length cap] w fun e w' => e = .returned (.tuple #[.string (textOf (expF [] ts)), .int .i64 0]) ∧ Keeps (fun _ => False) w w' := by
  have HC : Hid (Calls Tryz.prog 52 #[.slice a ts.length cap] w fun e w' => e = .returned (.bool true) ∧ Keeps (fun _ => False) w w') := by
    have := may_ok a ts cap w hR (by omega)
    rw [hm] at this; exact this
  have HR : Hid (RowT w a ts) := hR
  have HM : Hid (mayF 0 ts = true) := hm
  clear hR hm
  obtain ⟨N, hN⟩ : ∃ N, ts.length = N := ⟨_, rfl⟩
  rw [hN] at hl HC ⊢
  have HN : Hid (ts.length = N) := hN
  clear hN
  go_enter Tryz.func19, Tryz.ntmps19
  go_wp2_with (go_at_call 52; refine HC.out.mono ?_; rintro e w1 ⟨rfl, hK1⟩; have HK1 : Hid (Keeps (fun _ => False) w w1) := hK1; clear hK1)
  have HW : Hid (NowX w (w1.alloc (Obj.cells #[Value.slice none 0 0] 94)) w1.heap.size ts 0 []) := ⟨⟨.slice none 0 0, heap_alloc_new _ _, OwnB.nil _ _⟩, rfl, HM.out, by simp, by simp, HK1.out.alloc _⟩
  have hp : w.heap.size ≤ w1.heap.size := HK1.out.size
  generalize w1.alloc (Obj.cells #[Value.slice none 0 0] 94) = w2 at *
  generalize w1.heap.size = p at *
  clear HK1 HC
  go_loopw [13] (fun s13 w' => ∃ (i : Nat) (xs : List Nat), i ≤ N ∧ s13 = .int .i64 (i : Int) ∧ Hid (NowX w w' p ts i xs)) (fun s13 w' => ((N : Int) - intOf s13).toNat)
  case atStart => exact ⟨0, [], by omega, rfl, HW⟩
  case round =>
    clear HW
    obtain ⟨i, xs, hi, rfl, HW⟩ := hrel
    by_cases hin : i < N
    · have hiz : (i : Int) < (N : Int) := by omega
      have hil : i < ts.length := by rw [HN.out]; exact hin
      obtain ⟨b, off, rfl, hb, hc⟩ := HR.out.at (by omega)
      have hT := hc wr HW.out.2.2.2.2.2 i hil
      clear hc
      obtain ⟨v, hv⟩ := HW.out.1
      have HV : Hid (Txt wr p v xs) := hv
      have hx8 : xs.length ≤ 8192 := HW.out.2.2.2.2.1
      have HX : Hid (∀ w1 w2, Keeps (fun _ => False) wr w1 → OntoT w1 w2 p v (putT xs (tk ts i)) → NowX w w2 p ts (i + 1) (putT xs (tk ts i))) := fun w1 w2 h1 h2 => HW.out.next hp hil (hv.keptF h1) h1 h2
      have hok : okT (tk ts i) xs.length = true := by
        have := HW.out.2.2.1
        rw [tk_drop i hil] at this
        simp only [mayF, Bool.and_eq_true] at this
        exact this.1
      clear hv
      obtain ⟨⟨l, n, d⟩, ht⟩ : ∃ t, tk ts i = t := ⟨_, rfl⟩
      rw [ht] at hT HX hok
      clear ht
      rcases (okT_iff hok).1 with h | h
      · obtain ⟨e1, e2, e3, e4⟩ := isB_iff h
        simp only at e1 e2 e3 e4
        subst e3
        subst e4
        obtain ⟨c, rfl⟩ : ∃ c : Nat, l = (c : Int) := ⟨l.toNat, by omega⟩
        have hput : putT xs ((c : Int), 0, 0) = xs ++ [c] := by simp [putT]
        rw [hput] at HX
        have HP : Hid (∀ w1, Keeps (fun _ => False) wr w1 → Calls Tryz.prog 89 #[.pointer (some ⟨p, 0, none⟩), .agg #[.int .i64 (c : Int), .int .i64 0, .int .i64 0]] w1 fun e w' => e = .returned (.tuple #[]) ∧ OntoT w1 w' p v (xs ++ [c])) := fun w1 hk => putByte_ok p c 0 0 v xs w1 (by omega) (by omega) (HV.out.keptF hk)
        clear h hok hput
        go_wp2_with (first
          | (refine wpList_load3 rfl _ rfl b (off + i * 3) rfl ((c : Int), 0, 0) ?hA ?_; (case hA => assumption))
          | (refine wpList_alloc3 rfl rfl ?_; intro b6 w3 hT3 hK3 hb6; have HK3 : Hid (Keeps (fun _ => False) wr w3) := hK3; clear hK3)
          | (refine wpList_store3 rfl _ _ rfl b6 ((c : Int), 0, 0) rfl rfl (0, 0, 0) ?hA ?_; (case hA => assumption); intro w4 hT4 hK4; have HK4 : Hid (Keeps (fun _ => False) wr w4) := HK3.out.trans hK4 (fun i hi h => by omega); clear hK4 hT3)
          | (refine wpList_load3 rfl _ rfl b6 0 rfl ((c : Int), 0, 0) ?hA ?_; (case hA => exact (by assumption : Tkb _ b6 ((c : Int), 0, 0)).at))
          | (go_at_call 53; refine (doer_byte p (c : Int) 0 _).mono ?_; rintro e w5 ⟨rfl, hK5⟩; have hT5 := hT4.keptF hK5; have HK5 : Hid (Keeps (fun _ => False) wr w5) := HK4.out.trans hK5 (fun _ _ h => h); clear hK5 hT4)
          | (go_at_call 89; refine (HP.out _ HK5.out).mono ?_; rintro e w6 ⟨rfl, hO6⟩; have HW6 : Hid (NowX w w6 p ts (i + 1) (xs ++ [c])) := HX.out _ _ HK5.out hO6; clear hO6))
        go_roundw
        case rel => exact ⟨i + 1, _, by omega, by push_cast; rfl, HW6⟩
        case measure => simp [intOf]; omega
      · obtain ⟨e1, e2, e3, e4, e5, e6⟩ := isC_iff h
        simp only at e1 e2 e3 e4 e5 e6
        subst e1
        obtain ⟨M, rfl⟩ : ∃ M : Nat, n = (M : Int) := ⟨n.toNat, by omega⟩
        obtain ⟨D, rfl⟩ : ∃ D : Nat, d = (D : Int) := ⟨d.toNat, by omega⟩
        have hput : putT xs (0, (M : Int), (D : Int)) = cop xs D M := by
          unfold putT
          rw [if_neg (by show ¬ (M : Int) = 0; omega)]; simp
        rw [hput] at HX
        have HP : Hid (∀ w1, Keeps (fun _ => False) wr w1 → Calls Tryz.prog 90 #[.pointer (some ⟨p, 0, none⟩), .agg #[.int .i64 0, .int .i64 (M : Int), .int .i64 (D : Int)]] w1 fun e w' => e = .returned (.tuple #[]) ∧ OntoT w1 w' p v (cop xs D M)) := fun w1 hk => putCopy_ok p M D 0 v xs w1 (by omega) (by omega) (by omega) (by omega) (HV.out.keptF hk)
        have HDo : Hid (∀ w1, Calls Tryz.prog 53 #[.pointer (some ⟨p, 0, none⟩), .agg #[.int .i64 0, .int .i64 (M : Int), .int .i64 (D : Int)]] w1 fun e w' => e = .returned (.func (.func 90) #[.pointer (some ⟨p, 0, none⟩)] #[]) ∧ Keeps (fun _ => False) w1 w') := fun w1 => doer_copy p 0 (M : Int) (D : Int) w1 (by omega)
        clear h hok hput
        go_wp2_with (first
          | (refine wpList_load3 rfl _ rfl b (off + i * 3) rfl (0, (M : Int), (D : Int)) ?hA ?_; (case hA => assumption))
          | (refine wpList_alloc3 rfl rfl ?_; intro b6 w3 hT3 hK3 hb6; have HK3 : Hid (Keeps (fun _ => False) wr w3) := hK3; clear hK3)
          | (refine wpList_store3 rfl _ _ rfl b6 (0, (M : Int), (D : Int)) rfl rfl (0, 0, 0) ?hA ?_; (case hA => assumption); intro w4 hT4 hK4; have HK4 : Hid (Keeps (fun _ => False) wr w4) := HK3.out.trans hK4 (fun i hi h => by omega); clear hK4 hT3)
          | (refine wpList_load3 rfl _ rfl b6 0 rfl (0, (M : Int), (D : Int)) ?hA ?_; (case hA => exact (by assumption : Tkb _ b6 (0, (M : Int), (D : Int))).at))
          | (go_at_call 53; refine (HDo.out _).mono ?_; rintro e w5 ⟨rfl, hK5⟩; have hT5 := hT4.keptF hK5; have HK5 : Hid (Keeps (fun _ => False) wr w5) := HK4.out.trans hK5 (fun _ _ h => h); clear hK5 hT4)
          | (go_at_call 90; refine (HP.out _ HK5.out).mono ?_; rintro e w6 ⟨rfl, hO6⟩; have HW6 : Hid (NowX w w6 p ts (i + 1) (cop xs D M)) := HX.out _ _ HK5.out hO6; clear hO6))
        go_roundw
        case rel => exact ⟨i + 1, _, by omega, by push_cast; rfl, HW6⟩
        case measure => simp [intOf]; omega
    · obtain rfl : i = N := by omega
      have hE : xs = expF [] ts := by
        have := HW.out.2.1
        rw [← HN.out, List.drop_length] at this; exact this
      obtain ⟨v, hv⟩ := HW.out.1
      have hcv := hv.2.text Tryz.underlying94 HW.out.2.2.2.1
      have hcell : wr.cell? ⟨p, 0, none⟩ = some v := cell_of_heap hv.1 rfl
      rw [hE] at hcv
      obtain ⟨sa, sn, sc, rfl⟩ : ∃ sa sn sc, v = .slice sa sn sc := by
        rcases hv.2.2 with ⟨rfl, _⟩ | ⟨g, c, cur, rfl, _⟩
        · exact ⟨_, _, _, rfl⟩
        · exact ⟨_, _, _, rfl⟩
      clear hE hv
      go_wp2
      go_ret2
      exact ⟨rfl, HW.out.2.2.2.2.2⟩

end Go.Proofs.YtdbfbijalhknnabGreat.Mt

namespace Go.Proofs.YtdbfbijalhknnabGreat.Bk
open Go.RowKit
open Hf Tb
open Mt (Tk RowT TkAt tk Tkb tk_eq)
set_option linter.unusedVariables false
set_option linter.unusedSimpArgs false

theorem take_succ_tk (ts : List Tk) (i : Nat) (h : i < ts.length) : ts.take (i + 1) = ts.take i ++ [tk ts i] := by
  rw [tk_eq i h]; simp
theorem tksB_snoc (ys ds : List Int) (xs : List Tk) (t : Tk) : tksB ys ds (xs ++ [t]) = tksB ys ds xs ++ tkB ys ds t := by simp [tksB]
theorem tkB_len {ys ds : List Int} (hF : Full ys ds) (t : Tk) (a : Int) (ho : Mt.okT t a = true) (hh : hasT ys ds t) : (tkB ys ds t).length ≤ 48 := by
  have key : ∀ (zs : List Int) (i : Nat), may zs = true → (codeB zs i).length ≤ 15 := fun zs i hm => by
    rw [codeB_length]
    by_cases hi : i < zs.length
    · have := may_at hm i hi; rw [at_eq i hi]; omega
    · unfold at_; rw [List.getD, List.getElem?_eq_none (by omega)]; simp
  obtain ⟨h1, h2⟩ := Mt.okT_iff ho
  unfold tkB
  rcases h1 with h1 | h1
  · have hb := Mt.isB_iff h1
    rw [if_pos hb.2.2.1]
    have := key ys t.1.toNat hF.m1; omega
  · have hb := Mt.isC_iff h1
    rw [if_neg (by omega)]
    obtain ⟨x, hx⟩ : ∃ x : Nat, t.2.1 = (x : Int) := ⟨t.2.1.toNat, by omega⟩
    obtain ⟨y, hy⟩ : ∃ y : Nat, t.2.2 = (y : Int) := ⟨t.2.2.toNat, by omega⟩
    obtain ⟨j, e, j1, j2, j3, j4, j5⟩ := symL_is x (by omega) (by omega)
    obtain ⟨k, f, k1, k2, k3, k4, k5⟩ := symD_is y (by omega) (by omega)
    rw [hx, hy, j2, k2]
    simp only [moreB, Int.toNat_natCast, List.length_append, bitsOf_length]
    have := key ys (257 + j) hF.m1
    have := key ds k hF.m2
    omega
theorem tksB_len {ys ds : List Int} (hF : Full ys ds) : ∀ (ts : List Tk), (∀ t ∈ ts, ∃ a, Mt.okT t a = true) → (∀ t ∈ ts, hasT ys ds t) → (tksB ys ds ts).length ≤ 48 * ts.length
  | [], _, _ => by simp [tksB]
  | t :: r, ho, hh => by
    obtain ⟨a, ha⟩ := ho t (by simp)
    have h1 := tkB_len hF t a ha (hh t (by simp))
    have h2 := tksB_len hF r (fun x hx => ho x (by simp [hx])) (fun x hx => hh x (by simp [hx]))
    have e : tksB ys ds (t :: r) = tkB ys ds t ++ tksB ys ds r := by simp [tksB]
    rw [e, List.length_append, List.length_cons]; omega
theorem RowT.keptS {S : Nat → Prop} {w w' : World} {a : Option Addr} {ts : List Tk} (h : RowT w a ts) (hk : Keeps S w w') (hb : ∀ x, a = some x → ¬ S x.block) : RowT w' a ts := Mt.RowT.kept h hk hb
/-- A row of tokens, where none of them or its block has not turned. -/
theorem RowT.keptN {S : Nat → Prop} {w w' : World} {a : Option Addr} {ts : List Tk} (h : RowT w a ts) (hk : Keeps S w w') (hb : ts = [] ∨ ∀ x, a = some x → ¬ S x.block) : RowT w' a ts := by
  rcases hb with e | hb
  · exact .inl e
  · exact Mt.RowT.kept h hk hb
theorem RowT.low {w : World} {a : Option Addr} {ts : List Tk} (h : RowT w a ts) : ts = [] ∨ ∀ x, a = some x → x.block < w.heap.size := by
  rcases h with h | ⟨b, off, rfl, h1, _⟩
  · exact .inl h
  · exact .inr (fun x e => by cases e; exact h1)
theorem RowT.cell {w : World} {ts : List Tk} {b off i : Nat} (h : RowT w (some ⟨b, off, none⟩) ts) (hi : i < ts.length) : TkAt w b (off + i * 3) (tk ts i) := by
  rcases h with h | ⟨b', off', e, _, h2⟩
  · subst h; simp at hi
  · cases e; exact h2 i hi

/-! ### Written -/
theorem fin_eachP_ok {w w' : World} {p b : Nat} {o : Option Nat} {L : Bts} {g1 g2 : Nat} {ys ds : List Int} {ts : List Tk} (h : PcOn w w' p b o (L ++ tksB ys ds (ts.take ts.length)) g1 ys g2 ds) : PcOn w w' p b o (L ++ tksB ys ds ts) g1 ys g2 ds := by rw [List.take_length] at h; exact h

set_option maxHeartbeats 4000000 in
set_option maxRecDepth 100000 in
theorem eachP_ok {w : World} {p b : Nat} {o : Option Nat} {L : Bts} {g1 g2 : Nat} {ys ds : List Int} {ts : List Tk} {a : Option Addr} {cap : Nat} (h : Pc w p b o L g1 ys g2 ds) (hF : Full ys ds) (hR : RowT w a ts) (hN : ts.length ≤ 300) (hok : ∀ t ∈ ts, ∃ a, Mt.okT t a = true) (hh : ∀ t ∈ ts, hasT ys ds t) (hL : L.length ≤ 40000) (ha : ts = [] ∨ ∀ x, a = some x → x.block ≠ b ∧ o ≠ some x.block) :
    Calls Tryz.prog 61 #[.slice a ts.length cap, .func (.func 62) #[.pointer (some ⟨p, 0, none⟩)] #[], .func (.func 63) #[.pointer (some ⟨p, 0, none⟩)] #[]] w fun e w' => e = .returned (.tuple #[]) ∧ PcOn w w' p b o (L ++ tksB ys ds ts) g1 ys g2 ds := by
  have HI : Hid (∀ i w', i < ts.length → PcOn w w' p b o (L ++ tksB ys ds (ts.take i)) g1 ys g2 ds → ∀ b off, a = some ⟨b, off, none⟩ → TkAt w' b (off + i * 3) (tk ts i)) := fun i w' hi hI b' off e => by subst e; obtain ⟨o', _, _, hk⟩ := hI; exact RowT.cell (RowT.keptS hR hk (fun x e => by have := ha.resolve_left (fun h => by subst h; simp at hi) x e; rintro (e2 | e2); exact this.1 e2; exact this.2 e2)) hi
  have HB : Hid (∀ i w', i < ts.length → PcOn w w' p b o (L ++ tksB ys ds (ts.take i)) g1 ys g2 ds → ∀ l d, tk ts i = (l, 0, d) → ∀ w1, Keeps (fun _ => False) w' w1 → Calls Tryz.prog 62 #[.pointer (some ⟨p, 0, none⟩), .int .i64 l] w1 fun e w'' => e = .returned (.tuple #[]) ∧ PcOn w w'' p b o (L ++ tksB ys ds (ts.take (i + 1))) g1 ys g2 ds) := fun i w' hi hI l d ht w1 hk1 => by
    obtain ⟨o', hp, ho, hk⟩ := hI
    obtain ⟨c, hc⟩ := hok (tk ts i) (by rw [tk_eq i hi]; exact List.getElem_mem hi)
    have hx := hh (tk ts i) (by rw [tk_eq i hi]; exact List.getElem_mem hi)
    have hlen := tksB_len hF (ts.take i) (fun t ht => hok t (List.mem_of_mem_take ht)) (fun t ht => hh t (List.mem_of_mem_take ht))
    rw [List.length_take] at hlen
    rw [take_succ_tk ts i hi, tksB_snoc, ← List.append_assoc]
    rw [ht] at hc hx ⊢
    have hb : Mt.isB (l, 0, d) = true := by
      rcases (Mt.okT_iff hc).1 with h1 | h1
      · exact h1
      · have := Mt.isC_iff h1; simp only at this; omega
    have hb2 := Mt.isB_iff hb
    simp only at hb2
    unfold hasT at hx
    rw [if_pos rfl] at hx
    obtain ⟨m, rfl⟩ : ∃ m : Nat, l = (m : Int) := ⟨l.toNat, by omega⟩
    simp only [Int.toNat_natCast] at hx
    refine (putByteP_ok (hp.keptF hk1) hF.m1 hF.r1 m hx (by rw [List.length_append]; omega)).mono ?_
    rintro e w2 ⟨rfl, hO⟩
    refine ⟨rfl, PcOn.trans ho hk (PcOn.before hk1 ?_)⟩
    have e2 : tkB ys ds ((m : Int), 0, d) = codeB ys m := by unfold tkB; rw [if_pos rfl]; rfl
    rw [e2]; exact hO
  have HC : Hid (∀ i w', i < ts.length → PcOn w w' p b o (L ++ tksB ys ds (ts.take i)) g1 ys g2 ds → ∀ l n d, tk ts i = (l, n, d) → n ≠ 0 → ∀ w1, Keeps (fun _ => False) w' w1 → Calls Tryz.prog 63 #[.pointer (some ⟨p, 0, none⟩), syV (symL n), syV (symD d)] w1 fun e w'' => e = .returned (.tuple #[]) ∧ PcOn w w'' p b o (L ++ tksB ys ds (ts.take (i + 1))) g1 ys g2 ds) := fun i w' hi hI l n d ht hn w1 hk1 => by
    obtain ⟨o', hp, ho, hk⟩ := hI
    obtain ⟨c, hc⟩ := hok (tk ts i) (by rw [tk_eq i hi]; exact List.getElem_mem hi)
    have hx := hh (tk ts i) (by rw [tk_eq i hi]; exact List.getElem_mem hi)
    have hlen := tksB_len hF (ts.take i) (fun t ht => hok t (List.mem_of_mem_take ht)) (fun t ht => hh t (List.mem_of_mem_take ht))
    rw [List.length_take] at hlen
    rw [take_succ_tk ts i hi, tksB_snoc, ← List.append_assoc]
    rw [ht] at hc hx ⊢
    have hb : Mt.isC (l, n, d) c = true := by
      rcases (Mt.okT_iff hc).1 with h1 | h1
      · have := Mt.isB_iff h1; simp only at this; omega
      · exact h1
    have hb2 := Mt.isC_iff hb
    simp only at hb2
    unfold hasT at hx
    rw [if_neg hn] at hx
    obtain ⟨x, rfl⟩ : ∃ x : Nat, n = (x : Int) := ⟨n.toNat, by omega⟩
    obtain ⟨y, rfl⟩ : ∃ y : Nat, d = (y : Int) := ⟨d.toNat, by omega⟩
    obtain ⟨j, f, j1, j2, j3, j4, j5⟩ := symL_is x (by omega) (by omega)
    obtain ⟨k, g, k1, k2, k3, k4, k5⟩ := symD_is y (by omega) (by omega)
    have e2 : tkB ys ds (l, (x : Int), (y : Int)) = codeB ys (257 + j) ++ (bitsOf f (lenF j).2 ++ (codeB ds k ++ bitsOf g (dstF k).2)) := by
      unfold tkB
      rw [if_neg hn]
      simp only [j2, k2, moreB, Int.toNat_natCast]
    simp only [j2, k2, Int.toNat_natCast] at hx
    rw [j2, k2, e2]
    simp only [syV]
    refine (putCopyP_ok (hp.keptF hk1) hF (257 + j) k (lenF j).2 (dstF k).2 f g hx.1 hx.2 (by omega) j4 (by omega) k4 (by rw [List.length_append]; omega)).mono ?_
    rintro e w2 ⟨rfl, hO⟩
    exact ⟨rfl, PcOn.trans ho hk (PcOn.before hk1 hO)⟩
  have HW0 : Hid (PcOn w w p b o (L ++ tksB ys ds (ts.take 0)) g1 ys g2 ds) := by show PcOn w w p b o (L ++ tksB ys ds (ts.take 0)) g1 ys g2 ds; simp only [List.take_zero, tksB, List.flatMap_nil, List.append_nil]; exact ⟨o, h, .inl rfl, Keeps.refl _ w⟩
  have hspot : 0 < ts.length → ∃ b off, a = some ⟨b, off, none⟩ := fun hn => by obtain ⟨b, off, rfl, _⟩ := hR.at hn; exact ⟨b, off, rfl⟩
  have HSp : Hid (0 < ts.length → ∃ b off, a = some ⟨b, off, none⟩) := hspot
  have HLn : Hid (∀ k, (symL k) = (symL k)) := fun _ => rfl
  have HLen : Hid (∀ (k : Int) (w : World), Calls Tryz.prog 93 #[.int .i64 k] w fun e w' => e = .returned (.tuple #[syV (symL k), .int .i64 (errB (inL k))]) ∧ Keeps (fun _ => False) w w') := length_ok
  have HDis : Hid (∀ (k : Int) (w : World), Calls Tryz.prog 94 #[.int .i64 k] w fun e w' => e = .returned (.tuple #[syV (symD k), .int .i64 (errB (inD k))]) ∧ Keeps (fun _ => False) w w') := dist_ok
  obtain ⟨N, hN⟩ : ∃ N, ts.length = N := ⟨_, rfl⟩
  rw [hN] at HI HB HC HSp ⊢
  have hl : N ≤ 9223372036854775806 := by omega
  have HQ : Hid (ts.length = N) := hN
  obtain ⟨Q, hQ⟩ : ∃ Q : World → Prop, Q = fun w' => PcOn w w' p b o (L ++ tksB ys ds ts) g1 ys g2 ds := ⟨_, rfl⟩
  have HQ2 : Hid (∀ w', PcOn w w' p b o (L ++ tksB ys ds (ts.take N)) g1 ys g2 ds → Q w') := fun w' h => by rw [hQ]; exact by rw [← hN] at h; exact fin_eachP_ok h
  have hpost : (fun (e : Ending) (w' : World) => e = .returned (.tuple #[]) ∧ PcOn w w' p b o (L ++ tksB ys ds ts) g1 ys g2 ds) = fun e w' => e = .returned (.tuple #[]) ∧ Q w' := by rw [hQ]
  rw [hpost]
  clear hQ hpost hN hspot hR
  go_enter Tryz.func61, Tryz.ntmps61
  go_wp2_with fail
  go_loopw [14] (fun s14 w' => ∃ i : Nat, i ≤ N ∧ s14 = .int .i64 (i : Int) ∧ Hid (PcOn w w' p b o (L ++ tksB ys ds (ts.take i)) g1 ys g2 ds)) (fun s14 w' => ((N : Int) - intOf s14).toNat)
  case atStart => exact ⟨0, by omega, rfl, HW0⟩
  case round =>
    clear HW0
    obtain ⟨i, hi, rfl, HW⟩ := hrel
    by_cases hin : i < N
    · have hiz : (i : Int) < (N : Int) := by omega
      obtain ⟨tb, off, ha⟩ := HSp.out (by omega)
      subst ha
      obtain ⟨⟨l, n, d⟩, ht⟩ : ∃ t, tk ts i = t := ⟨_, rfl⟩
      have hT := HI.out i wr hin HW.out tb off rfl
      rw [ht] at hT
      by_cases hn0 : n = 0
      · subst hn0
        have HP := hide (HB.out i wr hin HW.out l d ht)
        clear HB HC HI ht HSp HLn HLen HDis
        go_wp2_with (first
          | (refine Mt.wpList_load3 rfl _ rfl tb (off + i * 3) rfl (l, 0, d) ?hA ?_; (case hA => assumption))
          | (refine Mt.wpList_alloc3 rfl rfl ?_; intro b6 w3 hT3 hK3 hb6; have HK3 : Hid (Keeps (fun _ => False) wr w3) := hK3; clear hK3)
          | (refine Mt.wpList_store3 rfl _ _ rfl b6 (l, 0, d) rfl rfl (0, 0, 0) ?hA ?_; (case hA => assumption); intro w4 hT4 hK4; have HK4 : Hid (Keeps (fun _ => False) wr w4) := HK3.out.trans hK4 (fun i hi h => by omega); have hx1 := hT4.c0; have hx2 := hT4.c1; clear hK4 hT3))
        refine (HP.out _ HK4.out).mono ?_
        rintro e w6 ⟨rfl, hO6⟩
        have HW6 : Hid (PcOn w w6 p b o (L ++ tksB ys ds (ts.take (i + 1))) g1 ys g2 ds) := hO6
        clear hO6 HP hT hx1 hx2 HW
        go_wp2
        go_roundw
        case rel => exact ⟨i + 1, by omega, by push_cast; rfl, HW6⟩
        case measure => simp [intOf]; omega
      · have HP := hide (HC.out i wr hin HW.out l n d ht hn0)
        clear HB HC HI ht HSp HLn
        obtain ⟨⟨l1, l2, l3⟩, hs1⟩ : ∃ s, symL n = s := ⟨_, rfl⟩
        obtain ⟨⟨d1, d2, d3⟩, hs2⟩ : ∃ s, symD d = s := ⟨_, rfl⟩
        have HL1 : Hid (∀ (w : World), Calls Tryz.prog 93 #[.int .i64 n] w fun e w' => e = .returned (.tuple #[.agg #[.int .i64 l1, .int .i64 l2, .int .i64 l3], .int .i64 (errB (inL n))]) ∧ Keeps (fun _ => False) w w') := fun w => by have := HLen.out n w; rw [hs1] at this; exact this
        have HD1 : Hid (∀ (w : World), Calls Tryz.prog 94 #[.int .i64 d] w fun e w' => e = .returned (.tuple #[.agg #[.int .i64 d1, .int .i64 d2, .int .i64 d3], .int .i64 (errB (inD d))]) ∧ Keeps (fun _ => False) w w') := fun w => by have := HDis.out d w; rw [hs2] at this; exact this
        rw [hs1, hs2] at HP
        simp only [syV] at HP
        generalize errB (inL n) = er1 at *
        generalize errB (inD d) = er2 at *
        clear hs1 hs2 HLen HDis
        go_wp2_with (first
          | (refine Mt.wpList_load3 rfl _ rfl tb (off + i * 3) rfl (l, n, d) ?hA ?_; (case hA => assumption))
          | (refine Mt.wpList_alloc3 rfl rfl ?_; intro b6 w3 hT3 hK3 hb6; have HK3 : Hid (Keeps (fun _ => False) wr w3) := hK3; clear hK3)
          | (refine Mt.wpList_store3 rfl _ _ rfl b6 (l, n, d) rfl rfl (0, 0, 0) ?hA ?_; (case hA => assumption); intro w4 hT4 hK4; have HK4 : Hid (Keeps (fun _ => False) wr w4 ∧ Tkb w4 b6 (l, n, d)) := ⟨HK3.out.trans hK4 (fun i hi h => by omega), hT4⟩; have hx1 := hT4.c1; clear hK4 hT3 hT4)
          | (go_at_call 93; refine (HL1.out _).mono ?_; rintro e w5 ⟨rfl, hK5⟩; have HK5 : Hid (Keeps (fun _ => False) wr w5 ∧ Tkb w5 b6 (l, n, d)) := ⟨HK4.out.1.trans hK5 (fun _ _ h => h), HK4.out.2.keptF hK5⟩; clear hK5 HK4)
          | (refine Tb.wpList_alloc3 rfl rfl ?_; (fail_if_success (clear hY6)); intro b7 w6 hY6 hK6 hb7; have HK6 : Hid (Keeps (fun _ => False) wr w6 ∧ Tkb w6 b6 (l, n, d) ∧ wr.heap.size ≤ b7) := ⟨HK5.out.1.trans hK6 (fun _ _ h => h), HK5.out.2.keptF hK6, by have := HK5.out.1.size; omega⟩; clear hK6 HK5)
          | (refine Tb.wpList_store3 rfl _ _ rfl b7 (l1, l2, l3) rfl rfl (0, 0, 0) hY6 ?_; intro w7 hY7 hK7; have HK7 : Hid (Keeps (fun _ => False) wr w7 ∧ Tkb w7 b6 (l, n, d) ∧ Syb w7 b7 (l1, l2, l3) ∧ b6 ≠ b7) := (by have hne : b6 ≠ b7 := (by have := HK6.out.2.1.lt; intro e; subst e; have e1 := HK6.out.2.1; have e2 := hY6; unfold Tkb at e1; unfold Syb at e2; rw [e1] at e2; simp at e2); exact ⟨HK6.out.1.trans hK7 (fun i hi h => by have := HK6.out.2.2; omega), HK6.out.2.1.kept hK7 hne, hY7, hne⟩); have hx2 := HK7.out.2.1.c2; clear hK7 HK6)
          | (go_at_call 94; refine (HD1.out _).mono ?_; rintro e w8 ⟨rfl, hK8⟩; have HK8 : Hid (Keeps (fun _ => False) wr w8 ∧ Syb w8 b7 (l1, l2, l3)) := ⟨HK7.out.1.trans hK8 (fun _ _ h => h), HK7.out.2.2.1.keptF hK8⟩; clear hK8 HK7)
          | (refine Tb.wpList_alloc3 rfl rfl ?_; intro b9 w9 hY9 hK9 hb9; have HK9 : Hid (Keeps (fun _ => False) wr w9 ∧ Syb w9 b7 (l1, l2, l3) ∧ wr.heap.size ≤ b9 ∧ b7 ≠ b9) := ⟨HK8.out.1.trans hK9 (fun _ _ h => h), HK8.out.2.keptF hK9, by have := HK8.out.1.size; omega, by have := HK8.out.2.lt; omega⟩; clear hK9 HK8)
          | (refine Tb.wpList_store3 rfl _ _ rfl b9 (d1, d2, d3) rfl rfl (0, 0, 0) hY9 ?_; intro wa hYa hKa; have HKa : Hid (Keeps (fun _ => False) wr wa) := HK9.out.1.trans hKa (fun i hi h => by have := HK9.out.2.2.1; omega); have hY7a := HK9.out.2.1.kept hKa HK9.out.2.2.2; clear hKa HK9)
          | (refine Tb.wpList_load3 rfl _ rfl b7 rfl (l1, l2, l3) hY7a ?_)
          | (refine Tb.wpList_load3 rfl _ rfl b9 rfl (d1, d2, d3) hYa ?_))
        refine (HP.out _ HKa.out).mono ?_
        rintro e wb ⟨rfl, hO6⟩
        have HW6 : Hid (PcOn w wb p b o (L ++ tksB ys ds (ts.take (i + 1))) g1 ys g2 ds) := hO6
        clear hO6 HP hT HW
        go_wp2
        go_roundw
        case rel => exact ⟨i + 1, by omega, by push_cast; rfl, HW6⟩
        case measure => simp [intOf]; omega
    · obtain rfl : i = N := by omega
      have HF := hide (HQ2.out wr HW.out)
      clear HB HC HI HSp HLn HLen HDis HW HQ2
      go_wp2
      go_end0
      exact ⟨rfl, HF.out⟩


/-! ### Counted -/
theorem fin_eachC_ok {w w' : World} {q : Nat} {ts : List Tk} (h : Cnt w' q (ts.take ts.length) ∧ Keeps (fun k => k = q) w w') : Cnt w' q ts ∧ Keeps (fun k => k = q) w w' := by rw [List.take_length] at h; exact h

set_option maxHeartbeats 4000000 in
set_option maxRecDepth 100000 in
theorem eachC_ok {w : World} {q : Nat} {ts : List Tk} {a : Option Addr} {cap : Nat} (h : Cnt w q []) (hR : RowT w a ts) (hN : ts.length ≤ 300) (hok : ∀ t ∈ ts, ∃ a, Mt.okT t a = true) (ha : ts = [] ∨ ∀ x, a = some x → x.block ≠ q) :
    Calls Tryz.prog 61 #[.slice a ts.length cap, .func (.func 68) #[.pointer (some ⟨q, 0, none⟩)] #[], .func (.func 69) #[.pointer (some ⟨q, 0, none⟩)] #[]] w fun e w' => e = .returned (.tuple #[]) ∧ Cnt w' q ts ∧ Keeps (fun k => k = q) w w' := by
  have HI : Hid (∀ i w', i < ts.length → Cnt w' q (ts.take i) ∧ Keeps (fun k => k = q) w w' → ∀ b off, a = some ⟨b, off, none⟩ → TkAt w' b (off + i * 3) (tk ts i)) := fun i w' hi hI b' off e => by subst e; exact RowT.cell (RowT.keptS hR hI.2 (fun x e => ha.resolve_left (fun h => by subst h; simp at hi) x e)) hi
  have HB : Hid (∀ i w', i < ts.length → Cnt w' q (ts.take i) ∧ Keeps (fun k => k = q) w w' → ∀ l d, tk ts i = (l, 0, d) → ∀ w1, Keeps (fun _ => False) w' w1 → Calls Tryz.prog 68 #[.pointer (some ⟨q, 0, none⟩), .int .i64 l] w1 fun e w'' => e = .returned (.tuple #[]) ∧ Cnt w'' q (ts.take (i + 1)) ∧ Keeps (fun k => k = q) w w'') := fun i w' hi hI l d ht w1 hk1 => by
    obtain ⟨c, hc⟩ := hok (tk ts i) (by rw [tk_eq i hi]; exact List.getElem_mem hi)
    rw [take_succ_tk ts i hi]
    rw [ht] at hc ⊢
    have hb : Mt.isB (l, 0, d) = true := by
      rcases (Mt.okT_iff hc).1 with h1 | h1
      · exact h1
      · have := Mt.isC_iff h1; simp only at this; omega
    have hb2 := Mt.isB_iff hb
    simp only at hb2
    obtain ⟨m, rfl⟩ : ∃ m : Nat, l = (m : Int) := ⟨l.toNat, by omega⟩
    refine (Cnt.byte (Ary.keptF hI.1 hk1) (by rw [List.length_take]; omega) m d (by omega)).mono ?_
    rintro e w2 ⟨rfl, h1, h2⟩
    exact ⟨rfl, h1, (hI.2.trans hk1 (fun _ _ h => h.elim)).trans h2 (fun _ _ h => h)⟩
  have HC : Hid (∀ i w', i < ts.length → Cnt w' q (ts.take i) ∧ Keeps (fun k => k = q) w w' → ∀ l n d, tk ts i = (l, n, d) → n ≠ 0 → ∀ w1, Keeps (fun _ => False) w' w1 → Calls Tryz.prog 69 #[.pointer (some ⟨q, 0, none⟩), syV (symL n), syV (symD d)] w1 fun e w'' => e = .returned (.tuple #[]) ∧ Cnt w'' q (ts.take (i + 1)) ∧ Keeps (fun k => k = q) w w'') := fun i w' hi hI l n d ht hn w1 hk1 => by
    obtain ⟨c, hc⟩ := hok (tk ts i) (by rw [tk_eq i hi]; exact List.getElem_mem hi)
    rw [take_succ_tk ts i hi]
    rw [ht] at hc ⊢
    have hb : Mt.isC (l, n, d) c = true := by
      rcases (Mt.okT_iff hc).1 with h1 | h1
      · have := Mt.isB_iff h1; simp only at this; omega
      · exact h1
    have hb2 := Mt.isC_iff hb
    simp only at hb2
    obtain ⟨x, rfl⟩ : ∃ x : Nat, n = (x : Int) := ⟨n.toNat, by omega⟩
    obtain ⟨y, rfl⟩ : ∃ y : Nat, d = (y : Int) := ⟨d.toNat, by omega⟩
    refine (Cnt.copy (Ary.keptF hI.1 hk1) (by rw [List.length_take]; omega) l x y (by omega) (by omega) (by omega) (by omega)).mono ?_
    rintro e w2 ⟨rfl, h1, h2⟩
    exact ⟨rfl, h1, (hI.2.trans hk1 (fun _ _ h => h.elim)).trans h2 (fun _ _ h => h)⟩
  have HW0 : Hid (Cnt w q (ts.take 0) ∧ Keeps (fun k => k = q) w w) := ⟨by rw [List.take_zero]; exact h, Keeps.refl _ w⟩
  have hspot : 0 < ts.length → ∃ b off, a = some ⟨b, off, none⟩ := fun hn => by obtain ⟨b, off, rfl, _⟩ := hR.at hn; exact ⟨b, off, rfl⟩
  have HSp : Hid (0 < ts.length → ∃ b off, a = some ⟨b, off, none⟩) := hspot
  have HLn : Hid (∀ k, (symL k) = (symL k)) := fun _ => rfl
  have HLen : Hid (∀ (k : Int) (w : World), Calls Tryz.prog 93 #[.int .i64 k] w fun e w' => e = .returned (.tuple #[syV (symL k), .int .i64 (errB (inL k))]) ∧ Keeps (fun _ => False) w w') := length_ok
  have HDis : Hid (∀ (k : Int) (w : World), Calls Tryz.prog 94 #[.int .i64 k] w fun e w' => e = .returned (.tuple #[syV (symD k), .int .i64 (errB (inD k))]) ∧ Keeps (fun _ => False) w w') := dist_ok
  obtain ⟨N, hN⟩ : ∃ N, ts.length = N := ⟨_, rfl⟩
  rw [hN] at HI HB HC HSp ⊢
  have hl : N ≤ 9223372036854775806 := by omega
  have HQ : Hid (ts.length = N) := hN
  obtain ⟨Q, hQ⟩ : ∃ Q : World → Prop, Q = fun w' => Cnt w' q ts ∧ Keeps (fun k => k = q) w w' := ⟨_, rfl⟩
  have HQ2 : Hid (∀ w', Cnt w' q (ts.take N) ∧ Keeps (fun k => k = q) w w' → Q w') := fun w' h => by rw [hQ]; exact by rw [← hN] at h; exact fin_eachC_ok h
  have hpost : (fun (e : Ending) (w' : World) => e = .returned (.tuple #[]) ∧ Cnt w' q ts ∧ Keeps (fun k => k = q) w w') = fun e w' => e = .returned (.tuple #[]) ∧ Q w' := by rw [hQ]
  rw [hpost]
  clear hQ hpost hN hspot hR
  go_enter Tryz.func61, Tryz.ntmps61
  go_wp2_with fail
  go_loopw [14] (fun s14 w' => ∃ i : Nat, i ≤ N ∧ s14 = .int .i64 (i : Int) ∧ Hid (Cnt w' q (ts.take i) ∧ Keeps (fun k => k = q) w w')) (fun s14 w' => ((N : Int) - intOf s14).toNat)
  case atStart => exact ⟨0, by omega, rfl, HW0⟩
  case round =>
    clear HW0
    obtain ⟨i, hi, rfl, HW⟩ := hrel
    by_cases hin : i < N
    · have hiz : (i : Int) < (N : Int) := by omega
      obtain ⟨tb, off, ha⟩ := HSp.out (by omega)
      subst ha
      obtain ⟨⟨l, n, d⟩, ht⟩ : ∃ t, tk ts i = t := ⟨_, rfl⟩
      have hT := HI.out i wr hin HW.out tb off rfl
      rw [ht] at hT
      by_cases hn0 : n = 0
      · subst hn0
        have HP := hide (HB.out i wr hin HW.out l d ht)
        clear HB HC HI ht HSp HLn HLen HDis
        go_wp2_with (first
          | (refine Mt.wpList_load3 rfl _ rfl tb (off + i * 3) rfl (l, 0, d) ?hA ?_; (case hA => assumption))
          | (refine Mt.wpList_alloc3 rfl rfl ?_; intro b6 w3 hT3 hK3 hb6; have HK3 : Hid (Keeps (fun _ => False) wr w3) := hK3; clear hK3)
          | (refine Mt.wpList_store3 rfl _ _ rfl b6 (l, 0, d) rfl rfl (0, 0, 0) ?hA ?_; (case hA => assumption); intro w4 hT4 hK4; have HK4 : Hid (Keeps (fun _ => False) wr w4) := HK3.out.trans hK4 (fun i hi h => by omega); have hx1 := hT4.c0; have hx2 := hT4.c1; clear hK4 hT3))
        refine (HP.out _ HK4.out).mono ?_
        rintro e w6 ⟨rfl, hO6⟩
        have HW6 : Hid (Cnt w6 q (ts.take (i + 1)) ∧ Keeps (fun k => k = q) w w6) := hO6
        clear hO6 HP hT hx1 hx2 HW
        go_wp2
        go_roundw
        case rel => exact ⟨i + 1, by omega, by push_cast; rfl, HW6⟩
        case measure => simp [intOf]; omega
      · have HP := hide (HC.out i wr hin HW.out l n d ht hn0)
        clear HB HC HI ht HSp HLn
        obtain ⟨⟨l1, l2, l3⟩, hs1⟩ : ∃ s, symL n = s := ⟨_, rfl⟩
        obtain ⟨⟨d1, d2, d3⟩, hs2⟩ : ∃ s, symD d = s := ⟨_, rfl⟩
        have HL1 : Hid (∀ (w : World), Calls Tryz.prog 93 #[.int .i64 n] w fun e w' => e = .returned (.tuple #[.agg #[.int .i64 l1, .int .i64 l2, .int .i64 l3], .int .i64 (errB (inL n))]) ∧ Keeps (fun _ => False) w w') := fun w => by have := HLen.out n w; rw [hs1] at this; exact this
        have HD1 : Hid (∀ (w : World), Calls Tryz.prog 94 #[.int .i64 d] w fun e w' => e = .returned (.tuple #[.agg #[.int .i64 d1, .int .i64 d2, .int .i64 d3], .int .i64 (errB (inD d))]) ∧ Keeps (fun _ => False) w w') := fun w => by have := HDis.out d w; rw [hs2] at this; exact this
        rw [hs1, hs2] at HP
        simp only [syV] at HP
        generalize errB (inL n) = er1 at *
        generalize errB (inD d) = er2 at *
        clear hs1 hs2 HLen HDis
        go_wp2_with (first
          | (refine Mt.wpList_load3 rfl _ rfl tb (off + i * 3) rfl (l, n, d) ?hA ?_; (case hA => assumption))
          | (refine Mt.wpList_alloc3 rfl rfl ?_; intro b6 w3 hT3 hK3 hb6; have HK3 : Hid (Keeps (fun _ => False) wr w3) := hK3; clear hK3)
          | (refine Mt.wpList_store3 rfl _ _ rfl b6 (l, n, d) rfl rfl (0, 0, 0) ?hA ?_; (case hA => assumption); intro w4 hT4 hK4; have HK4 : Hid (Keeps (fun _ => False) wr w4 ∧ Tkb w4 b6 (l, n, d)) := ⟨HK3.out.trans hK4 (fun i hi h => by omega), hT4⟩; have hx1 := hT4.c1; clear hK4 hT3 hT4)
          | (go_at_call 93; refine (HL1.out _).mono ?_; rintro e w5 ⟨rfl, hK5⟩; have HK5 : Hid (Keeps (fun _ => False) wr w5 ∧ Tkb w5 b6 (l, n, d)) := ⟨HK4.out.1.trans hK5 (fun _ _ h => h), HK4.out.2.keptF hK5⟩; clear hK5 HK4)
          | (refine Tb.wpList_alloc3 rfl rfl ?_; (fail_if_success (clear hY6)); intro b7 w6 hY6 hK6 hb7; have HK6 : Hid (Keeps (fun _ => False) wr w6 ∧ Tkb w6 b6 (l, n, d) ∧ wr.heap.size ≤ b7) := ⟨HK5.out.1.trans hK6 (fun _ _ h => h), HK5.out.2.keptF hK6, by have := HK5.out.1.size; omega⟩; clear hK6 HK5)
          | (refine Tb.wpList_store3 rfl _ _ rfl b7 (l1, l2, l3) rfl rfl (0, 0, 0) hY6 ?_; intro w7 hY7 hK7; have HK7 : Hid (Keeps (fun _ => False) wr w7 ∧ Tkb w7 b6 (l, n, d) ∧ Syb w7 b7 (l1, l2, l3) ∧ b6 ≠ b7) := (by have hne : b6 ≠ b7 := (by have := HK6.out.2.1.lt; intro e; subst e; have e1 := HK6.out.2.1; have e2 := hY6; unfold Tkb at e1; unfold Syb at e2; rw [e1] at e2; simp at e2); exact ⟨HK6.out.1.trans hK7 (fun i hi h => by have := HK6.out.2.2; omega), HK6.out.2.1.kept hK7 hne, hY7, hne⟩); have hx2 := HK7.out.2.1.c2; clear hK7 HK6)
          | (go_at_call 94; refine (HD1.out _).mono ?_; rintro e w8 ⟨rfl, hK8⟩; have HK8 : Hid (Keeps (fun _ => False) wr w8 ∧ Syb w8 b7 (l1, l2, l3)) := ⟨HK7.out.1.trans hK8 (fun _ _ h => h), HK7.out.2.2.1.keptF hK8⟩; clear hK8 HK7)
          | (refine Tb.wpList_alloc3 rfl rfl ?_; intro b9 w9 hY9 hK9 hb9; have HK9 : Hid (Keeps (fun _ => False) wr w9 ∧ Syb w9 b7 (l1, l2, l3) ∧ wr.heap.size ≤ b9 ∧ b7 ≠ b9) := ⟨HK8.out.1.trans hK9 (fun _ _ h => h), HK8.out.2.keptF hK9, by have := HK8.out.1.size; omega, by have := HK8.out.2.lt; omega⟩; clear hK9 HK8)
          | (refine Tb.wpList_store3 rfl _ _ rfl b9 (d1, d2, d3) rfl rfl (0, 0, 0) hY9 ?_; intro wa hYa hKa; have HKa : Hid (Keeps (fun _ => False) wr wa) := HK9.out.1.trans hKa (fun i hi h => by have := HK9.out.2.2.1; omega); have hY7a := HK9.out.2.1.kept hKa HK9.out.2.2.2; clear hKa HK9)
          | (refine Tb.wpList_load3 rfl _ rfl b7 rfl (l1, l2, l3) hY7a ?_)
          | (refine Tb.wpList_load3 rfl _ rfl b9 rfl (d1, d2, d3) hYa ?_))
        refine (HP.out _ HKa.out).mono ?_
        rintro e wb ⟨rfl, hO6⟩
        have HW6 : Hid (Cnt wb q (ts.take (i + 1)) ∧ Keeps (fun k => k = q) w wb) := hO6
        clear hO6 HP hT HW
        go_wp2
        go_roundw
        case rel => exact ⟨i + 1, by omega, by push_cast; rfl, HW6⟩
        case measure => simp [intOf]; omega
    · obtain rfl : i = N := by omega
      have HF := hide (HQ2.out wr HW.out)
      clear HB HC HI HSp HLn HLen HDis HW HQ2
      go_wp2
      go_end0
      exact ⟨rfl, HF.out⟩


end Go.Proofs.YtdbfbijalhknnabGreat.Bk

namespace Go.Proofs.YtdbfbijalhknnabGreat.Bk
open Hf Tb
open Mt (Tk expF putT mayF okT sz sumZ)
set_option linter.unusedVariables false
set_option linter.unusedSimpArgs false

/-! ### Lengths without the zeros at their end -/
def upN (ys : List Int) (least : Nat) : Nat → Nat
  | 0 => 0
  | n + 1 => if least < n + 1 ∧ at_ ys n = 0 then upN ys least n else n + 1
def upL (ys : List Int) (least : Nat) : Nat := upN ys least ys.length
def cutL (ys : List Int) (least : Nat) : List Int := ys.take (upL ys least)
theorem upN_le (ys : List Int) (least : Nat) : ∀ n, upN ys least n ≤ n
  | 0 => Nat.le_refl _
  | n + 1 => by rw [upN]; split; exact Nat.le_succ_of_le (upN_le ys least n); exact Nat.le_refl _
theorem upN_ge (ys : List Int) (least : Nat) : ∀ n, least ≤ n → least ≤ upN ys least n
  | 0, h => by simp [upN]; omega
  | n + 1, h => by
    rw [upN]; split
    · rename_i hc; exact upN_ge ys least n (by omega)
    · exact h
theorem upN_zero (ys : List Int) (least : Nat) : ∀ n i, upN ys least n ≤ i → i < n → at_ ys i = 0
  | 0, i, _, h => by omega
  | n + 1, i, h1, h2 => by
    rw [upN] at h1
    split at h1
    · rename_i hc
      by_cases e : i = n
      · subst e; exact hc.2
      · exact upN_zero ys least n i h1 (by omega)
    · omega
theorem cutL_length (ys : List Int) (least : Nat) : (cutL ys least).length = upL ys least := by
  have := upN_le ys least ys.length
  unfold cutL upL; rw [List.length_take]; omega
theorem upL_le (ys : List Int) (least : Nat) : upL ys least ≤ ys.length := upN_le _ _ _
theorem upL_ge (ys : List Int) (least : Nat) (h : least ≤ ys.length) : least ≤ upL ys least := upN_ge _ _ _ h
theorem at_take (ys : List Int) (n i : Nat) (h : i < n) : at_ (ys.take n) i = at_ ys i := by
  unfold at_; rw [List.getD, List.getD, List.getElem?_take, if_pos h]
theorem at_out (ys : List Int) (i : Nat) (h : ys.length ≤ i) : at_ ys i = 0 := by
  unfold at_; rw [List.getD, List.getElem?_eq_none h]; rfl
theorem cut_at (ys : List Int) (least i : Nat) : at_ (cutL ys least) i = at_ ys i := by
  by_cases h : i < upL ys least
  · exact at_take ys _ i h
  · rw [at_out _ _ (by rw [cutL_length]; omega)]
    by_cases h2 : i < ys.length
    · exact (upN_zero ys least ys.length i (by unfold upL at h; omega) h2).symm
    · exact (at_out _ _ (by omega)).symm
theorem cut_rest (ys : List Int) (least : Nat) : ∀ y ∈ ys.drop (upL ys least), y = 0 := by
  intro y hy
  obtain ⟨i, hi, rfl⟩ := List.mem_iff_getElem.1 hy
  rw [List.length_drop] at hi
  rw [List.getElem_drop, ← at_eq]
  exact upN_zero ys least ys.length _ (by unfold upL; omega) (by omega)
theorem cut_cnt (ys : List Int) (least b : Nat) (hb : 0 < b) : cnt (cutL ys least) b = cnt ys b := by
  unfold cnt
  conv => rhs; rw [← List.take_append_drop (upL ys least) ys, List.countP_append]
  have : (ys.drop (upL ys least)).countP (fun y => y == (b : Int)) = 0 := by
    rw [List.countP_eq_zero]
    intro y hy
    rw [cut_rest ys least y hy]
    simp; omega
  rw [this]; rfl
theorem cut_cn (ys : List Int) (least : Nat) : cn (cutL ys least) = cn ys := by
  funext b
  unfold cn
  split
  · rfl
  · exact cut_cnt ys least b (by omega)
theorem cut_room (ys : List Int) (least : Nat) : room (cutL ys least) = room ys := by unfold room; rw [cut_cn]
theorem cut_codeV (ys : List Int) (least i : Nat) : codeV (cutL ys least) i = codeV ys i := by
  unfold codeV
  rw [cut_at, cut_cn]
  by_cases h : 0 < at_ ys i
  · have hi : i < upL ys least := by
      have h2 : i < (cutL ys least).length := lt_of_at (by rw [cut_at]; exact h)
      rw [cutL_length] at h2; exact h2
    have e : (cutL ys least).take i = ys.take i := by unfold cutL; rw [List.take_take, Nat.min_eq_left (by omega)]
    rw [e]
  · rw [decide_eq_false h]; rfl
theorem cut_codeB (ys : List Int) (least i : Nat) : codeB (cutL ys least) i = codeB ys i := by unfold codeB; rw [cut_at, cut_codeV]
theorem cut_tkB (ys ds : List Int) (a b : Nat) (t : Tk) : tkB (cutL ys a) (cutL ds b) t = tkB ys ds t := by
  unfold tkB; simp only [cut_codeB]
theorem cut_tksB (ys ds : List Int) (a b : Nat) (ts : List Tk) : tksB (cutL ys a) (cutL ds b) ts = tksB ys ds ts := by
  unfold tksB
  have : tkB (cutL ys a) (cutL ds b) = tkB ys ds := funext (cut_tkB ys ds a b)
  rw [this]
theorem cut_hasT {ys ds : List Int} {a b : Nat} {t : Tk} (h : hasT ys ds t) : hasT (cutL ys a) (cutL ds b) t := by
  unfold hasT at *; simp only [cut_at]; exact h
theorem cut_may {ys : List Int} {least : Nat} (h : may ys = true) (h1 : 1 ≤ least) (h2 : least ≤ ys.length) : may (cutL ys least) = true := by
  have hl := may_len h
  have hu := upL_ge ys least h2
  have hv := upL_le ys least
  simp only [may, Bool.and_eq_true, decide_eq_true_eq, List.all_eq_true] at h ⊢
  rw [cutL_length]
  exact ⟨⟨by omega, by omega⟩, fun x hx => h.2 x (List.mem_of_mem_take hx)⟩
theorem errC_of {ys : List Int} (h : may ys = true) (hr : room ys = 32768) : errC ys = 0 := by
  unfold errC; rw [h, hr]; rfl

/-! ### The lengths of lengths, in their row -/
def rowOf (cl : List Int) : List Int := rowL.map (at_ cl)
def threeB (row : List Int) : Bts := row.flatMap (fun n => bitsOf n.toNat 3)
def codesB (cl : List Int) (all : List Int) : Bts := all.flatMap (fun n => codeB cl n.toNat)
theorem threes_put : ∀ (row acc : List Int) (M : Bts), (∀ n ∈ row, 0 ≤ n ∧ n < 8) → threes row.length acc (threeB row ++ M) = some (acc ++ row, M)
  | [], acc, M, _ => by simp [threes, threeB, retL]
  | n :: r, acc, M, h => by
    obtain ⟨h1, h2⟩ := h n (by simp)
    have e : threeB (n :: r) ++ M = bitsOf n.toNat 3 ++ (threeB r ++ M) := by simp [threeB]
    rw [e, List.length_cons, threes, bnd_eq (getL_put n.toNat 3 (by omega) _), threes_put r _ M (fun x hx => h x (by simp [hx]))]
    rw [Int.toNat_of_nonneg h1]
    simp
theorem runs_put {cl : List Int} (hm : may cl = true) (hr : room cl ≤ 32768) (many : Nat) : ∀ (all out : List Int) (M : Bts), (∀ n ∈ all, 0 ≤ n ∧ n < 16 ∧ 0 < at_ cl n.toNat) → out.length + all.length = many → runs cl many out (codesB cl all ++ M) = some (out ++ all, M)
  | [], out, M, _, hl => by
    simp only [codesB, List.flatMap_nil, List.nil_append, List.append_nil]
    exact runs_done (by simpa using hl)
  | n :: r, out, M, h, hl => by
    obtain ⟨h1, h2, h3⟩ := h n (by simp)
    have e : codesB cl (n :: r) ++ M = codeB cl n.toNat ++ (codesB cl r ++ M) := by simp [codesB]
    have hr1 : rle n.toNat out (codesB cl r ++ M) = some ([n], codesB cl r ++ M) := by
      unfold rle
      rw [if_neg (by omega), if_neg (by omega), if_neg (by omega), Int.toNat_of_nonneg h1]; rfl
    rw [List.length_cons] at hl
    rw [e, runs_next (by omega) (symN_code hm hr (lt_of_at h3) h3 _) hr1, runs_put hm hr many r (out ++ [n]) M (fun x hx => h x (by simp [hx])) (by simp; omega)]
    simp
theorem rowL_len : rowL.length = 19 := rfl
theorem rowOf_length (cl : List Int) : (rowOf cl).length = 19 := by simp [rowOf, rowL_len]
theorem rowL_posR : ∀ j : Fin 19, posR j.val < 19 ∧ rowL.getD (posR j.val) 0 = j.val := by decide +kernel
theorem clOf_row (cl : List Int) (h : cl.length = 19) (least : Nat) : clOf (cutL (rowOf cl) least) = cl := by
  apply List.ext_getElem?
  intro j
  by_cases hj : j < 19
  · obtain ⟨p1, p2⟩ := rowL_posR ⟨j, hj⟩
    simp only at p1 p2
    have e : (cutL (rowOf cl) least).getD (posR j) 0 = at_ cl j := by
      have := cut_at (rowOf cl) least (posR j)
      unfold at_ at this
      rw [this]
      unfold rowOf
      rw [List.getD, List.getElem?_map]
      have hg : rowL[posR j]? = some j := by
        rw [List.getElem?_eq_getElem (by rw [rowL_len]; exact p1)]
        rw [List.getD, List.getElem?_eq_getElem (by rw [rowL_len]; exact p1)] at p2
        simpa using p2
      rw [hg]; rfl
    simp only [clOf, List.getElem?_map, List.getElem?_range hj, Option.map_some, e]
    unfold at_
    rw [List.getD, List.getElem?_eq_getElem (by omega)]; rfl
  · rw [List.getElem?_eq_none (by simp [clOf]; omega), List.getElem?_eq_none (by omega)]

/-! ### The header -/
/-- What lengths of a dynamic block are like: of bytes, of distances, of lengths. -/
structure Dyn3 (A B C : List Int) : Prop where
  lA : A.length = 286
  mA : may A = true
  rA : room A = 32768
  eA : 0 < at_ A 256
  lB : B.length = 30
  mB : may B = true
  rB : room B = 32768 ∨ ∀ y ∈ B, y = 0
  lC : C.length = 19
  mC : may C = true
  rC : room C = 32768
  sC : ∀ n ∈ C, n < 8
  hC : ∀ n ∈ cutL A 257 ++ cutL B 1, 0 < at_ C n.toNat
def hdrB (A B C : List Int) : Bts :=
  bitsOf (upL A 257 - 257) 5 ++ (bitsOf (upL B 1 - 1) 5 ++ (bitsOf (upL (rowOf C) 4 - 4) 4 ++ (threeB (cutL (rowOf C) 4) ++ codesB C (cutL A 257 ++ cutL B 1))))
theorem room_zero (ys : List Int) (h : ∀ y ∈ ys, y = 0) : room ys = 0 := by
  have hc : ∀ n, cn ys n = 0 := fun n => by
    unfold cn; split
    · rfl
    · unfold cnt
      rw [List.countP_eq_zero]
      intro y hy; rw [h y hy]; simp; omega
  have : ∀ n, sumTo (cn ys) n = 0 := fun n => by
    induction n with
    | zero => rfl
    | succ n ih => rw [sumTo, ih, hc]; simp
  exact this 16
theorem sum_zero (ys : List Int) (h : ∀ y ∈ ys, y = 0) : ys.sum = 0 := by
  induction ys with
  | nil => rfl
  | cons y r ih => rw [List.sum_cons, ih (fun x hx => h x (by simp [hx])), h y (by simp)]; rfl
theorem Dyn3.full {A B C : List Int} (h : Dyn3 A B C) : Full (cutL A 257) (cutL B 1) where
  m1 := cut_may h.mA (by decide) (by rw [h.lA]; decide)
  r1 := by rw [cut_room, h.rA]; exact Nat.le_refl _
  m2 := cut_may h.mB (by decide) (by rw [h.lB]; decide)
  r2 := by
    rw [cut_room]
    rcases h.rB with e | e
    · rw [e]; exact Nat.le_refl _
    · rw [room_zero B e]; decide
theorem dynH_put {A B C : List Int} (h : Dyn3 A B C) (M : Bts) : dynH (hdrB A B C ++ M) = some ((cutL A 257, cutL B 1), M) := by
  have a1 := upL_ge A 257 (by rw [h.lA]; decide)
  have a2 := upL_le A 257
  have b1 := upL_ge B 1 (by rw [h.lB]; decide)
  have b2 := upL_le B 1
  have c1 := upL_ge (rowOf C) 4 (by rw [rowOf_length]; decide)
  have c2 := upL_le (rowOf C) 4
  rw [h.lA] at a2
  rw [h.lB] at b2
  rw [rowOf_length] at c2
  unfold hdrB
  simp only [List.append_assoc]
  unfold dynH
  rw [bnd_eq (aboveL_put 257 _ 5 (by omega) _), bnd_eq (aboveL_put 1 _ 5 (by omega) _), if_neg (by omega), bnd_eq (aboveL_put 4 _ 4 (by omega) _)]
  have e1 : 257 + (upL A 257 - 257) = (cutL A 257).length := by rw [cutL_length]; omega
  have e2 : 1 + (upL B 1 - 1) = (cutL B 1).length := by rw [cutL_length]; omega
  have e3 : 4 + (upL (rowOf C) 4 - 4) = (cutL (rowOf C) 4).length := by rw [cutL_length]; omega
  rw [e1, e2, e3]
  have ht := threes_put (cutL (rowOf C) 4) [] (codesB C (cutL A 257 ++ cutL B 1) ++ M) (by
    intro n hn
    have hn2 : n ∈ rowOf C := List.mem_of_mem_take hn
    simp only [rowOf, List.mem_map] at hn2
    obtain ⟨j, hj, rfl⟩ := hn2
    have hj19 : j < 19 := by
      have : ∀ j ∈ rowL, j < 19 := by decide
      exact this j hj
    rw [at_eq j (by rw [h.lC]; exact hj19)]
    have := may_at h.mC j (by rw [h.lC]; exact hj19)
    exact ⟨this.1, h.sC _ (List.getElem_mem _)⟩)
  rw [bnd_eq ht, List.nil_append]
  unfold dynC
  rw [clOf_row C h.lC, if_pos (errC_of h.mC h.rC)]
  have hr := runs_put h.mC (by rw [h.rC]; exact Nat.le_refl _) ((cutL A 257).length + (cutL B 1).length) (cutL A 257 ++ cutL B 1) [] M (by
    intro n hn
    refine ⟨?_, ?_, h.hC n hn⟩
    all_goals
      rw [List.mem_append] at hn
      rcases hn with hn | hn
      · obtain ⟨i, hi, rfl⟩ := List.mem_iff_getElem.1 (List.mem_of_mem_take hn)
        have := may_at h.mA i hi; omega
      · obtain ⟨i, hi, rfl⟩ := List.mem_iff_getElem.1 (List.mem_of_mem_take hn)
        have := may_at h.mB i hi; omega) (by simp)
  rw [bnd_eq hr, List.nil_append]
  unfold dynP
  rw [List.take_left, List.drop_left]
  have h1 : mayB (cutL A 257) = true := by
    unfold mayB
    rw [errC_of h.full.m1 (by rw [cut_room, h.rA]), cut_at, decide_eq_true h.eA]; rfl
  have h2 : mayD (cutL B 1) = true := by
    unfold mayD
    rcases h.rB with e | e
    · rw [errC_of h.full.m2 (by rw [cut_room, e]), decide_eq_true rfl, Bool.or_true]
    · rw [sum_zero (cutL B 1) (fun y hy => e y (List.mem_of_mem_take hy))]; rfl
  rw [h1, h2]; rfl

/-! ### Whole blocks -/
/-- The bits of a block, of its kind. -/
def fixedB (ts : List Tk) : Bts := bitsOf 1 1 ++ (bitsOf 1 2 ++ (tksB fixLs fiveLs ts ++ codeB fixLs 256))
def dynB (A B C : List Int) (ts : List Tk) : Bts := bitsOf 1 1 ++ (bitsOf 2 2 ++ (hdrB A B C ++ (tksB A B ts ++ codeB A 256)))
def storeB (s : List Nat) : Bts := bitsOf 1 8 ++ (bitsOf s.length 16 ++ (bitsOf (65535 - s.length) 16 ++ bitsL s))
theorem bitsOf_one (v k : Nat) (b : Bool) (h : v = b.toNat) : bitsOf v (k + 1) = b :: List.replicate k false := by
  apply List.ext_getElem?
  intro i
  subst h
  by_cases hi : i < k + 1
  · simp only [bitsOf, List.getElem?_map, List.getElem?_range hi, Option.map_some]
    cases i with
    | zero => cases b <;> simp
    | succ i =>
      rw [List.getElem?_cons_succ, List.getElem?_replicate, if_pos (by omega)]
      cases b <;> simp [Nat.testBit_succ]
  · rw [List.getElem?_eq_none (by simp [bitsOf]; omega), List.getElem?_eq_none (by simp; omega)]
theorem full_fix : Full fixLs fiveLs := ⟨by decide +kernel, by decide +kernel, by decide +kernel, by decide +kernel⟩
theorem fix_at : ∀ i : Fin 288, 0 < at_ fixLs i.val := by decide +kernel
theorem five_at : ∀ i : Fin 30, 0 < at_ fiveLs i.val := by decide +kernel
theorem hasT_fix (t : Tk) (a : Int) (h : okT t a = true) : hasT fixLs fiveLs t := by
  obtain ⟨h1, h2⟩ := Mt.okT_iff h
  unfold hasT
  rcases h1 with h1 | h1
  · have hb := Mt.isB_iff h1
    rw [if_pos hb.2.2.1]
    exact fix_at ⟨t.1.toNat, by omega⟩
  · have hb := Mt.isC_iff h1
    rw [if_neg (by omega)]
    obtain ⟨x, hx⟩ : ∃ x : Nat, t.2.1 = (x : Int) := ⟨t.2.1.toNat, by omega⟩
    obtain ⟨y, hy⟩ : ∃ y : Nat, t.2.2 = (y : Int) := ⟨t.2.2.toNat, by omega⟩
    obtain ⟨j, e, j1, j2, j3, j4, j5⟩ := symL_is x (by omega) (by omega)
    obtain ⟨k, f, k1, k2, k3, k4, k5⟩ := symD_is y (by omega) (by omega)
    rw [hx, hy, j2, k2]
    exact ⟨fix_at ⟨257 + j, by omega⟩, five_at ⟨k, by omega⟩⟩
theorem mayF_ok : ∀ (ts : List Tk) (a : Int), mayF a ts = true → ∀ t ∈ ts, ∃ c, okT t c = true
  | [], a, _, t, ht => by cases ht
  | x :: r, a, h, t, ht => by
    simp only [mayF, Bool.and_eq_true] at h
    rcases List.mem_cons.1 ht with rfl | ht
    · exact ⟨a, h.1⟩
    · exact mayF_ok r _ h.2 t ht
theorem fixed_read (most : Nat) (ts : List Tk) (h : mayF 0 ts = true) (hm : sumZ ts ≤ most) (M : Bts) : blocks most (fixedB ts ++ M) [] = .ok (M, expF [] ts) := by
  unfold fixedB
  simp only [List.append_assoc]
  refine blocks_last (getL_put 1 1 (by decide) _) (getL_put 1 2 (by decide) _) ?_
  unfold inside
  rw [if_neg (by decide), if_pos rfl]
  exact coded_toks full_fix (fix_at ⟨256, by decide⟩) most ts [] h (fun t ht => by obtain ⟨c, hc⟩ := mayF_ok ts _ h t ht; exact hasT_fix t c hc) (by simp; omega) M
theorem dyn_read {A B C : List Int} (h3 : Dyn3 A B C) (most : Nat) (ts : List Tk) (h : mayF 0 ts = true) (hh : ∀ t ∈ ts, hasT A B t) (hm : sumZ ts ≤ most) (M : Bts) : blocks most (dynB A B C ts ++ M) [] = .ok (M, expF [] ts) := by
  unfold dynB
  simp only [List.append_assoc]
  refine blocks_last (getL_put 1 1 (by decide) _) (getL_put 2 2 (by decide) _) ?_
  unfold inside
  rw [if_neg (by decide), if_neg (by decide), if_pos rfl, thenE_eq (dynH_put h3 _)]
  simp only
  have := coded_toks h3.full (by rw [cut_at]; exact h3.eA) most ts [] h (fun t ht => cut_hasT (hh t ht)) (by simp; omega) M
  rw [cut_tksB, cut_codeB] at this
  exact this
/-- A text whose bits are these, with zeros up to a whole byte; bytes behind. -/
theorem inflB_of (L : Bts) (most : Nat) (o more : List Nat) (h : ∀ M, blocks most (L ++ M) [] = .ok (M, o)) (k : Nat) (hk : (k : Int) = most) (h8 : most ≤ 8192) : inflP (pack L ++ more) (k : Int) = .ok (o, (pack L).length) := by
  have hp := pack_length L
  have e : bitsL (pack L) = L ++ List.replicate ((L.length + 7) / 8 * 8 - L.length) false := by
    have h1 := pack_align L
    have h2 := readBits_pack [] (L ++ List.replicate ((L.length + 7) / 8 * 8 - L.length) false) []
    simp only [List.nil_append, List.append_nil, List.length_nil] at h2
    rw [h1] at h2
    unfold bitsL
    rw [hp]
    rw [← h2]
    congr 1
    simp; omega
  obtain rfl : k = most := by omega
  unfold inflP
  rw [if_pos (by omega), Int.toNat_natCast]
  unfold inflB
  rw [bitsL_append, e, List.append_assoc, h]
  simp only [Except.ok.injEq, Prod.mk.injEq, true_and, List.length_append, List.length_replicate, bitsL_len, hp]
  omega
theorem stored_read (most : Nat) (s : List Nat) (hs : ∀ c ∈ s, c < 256) (hl : s.length ≤ 65535) (hm : s.length ≤ most) (M : List Nat) : blocks most (storeB s ++ bitsL M) [] = .ok (bitsL M, s) := by
  have e0 : bitsOf 1 8 = bitsOf 1 1 ++ (bitsOf 0 2 ++ List.replicate 5 false) := by decide
  unfold storeB
  rw [e0]
  simp only [List.append_assoc]
  refine blocks_last (getL_put 1 1 (by decide) _) (getL_put 0 2 (by decide) _) ?_
  unfold inside
  rw [if_pos rfl]
  unfold stored
  have ha : alignL (List.replicate 5 false ++ (bitsOf s.length 16 ++ (bitsOf (65535 - s.length) 16 ++ (bitsL s ++ bitsL M)))) = bitsOf s.length 16 ++ (bitsOf (65535 - s.length) 16 ++ (bitsL s ++ bitsL M)) := by
    unfold alignL
    have : (List.replicate 5 false ++ (bitsOf s.length 16 ++ (bitsOf (65535 - s.length) 16 ++ (bitsL s ++ bitsL M)))).length % 8 = 5 := by
      simp only [List.length_append, List.length_replicate, bitsOf_length, bitsL_len]; omega
    rw [this]
    exact List.drop_left' (by simp)
  rw [ha]
  unfold storedH
  rw [thenE_eq (getL_put s.length 16 (by omega) _), thenE_eq (getL_put (65535 - s.length) 16 (by omega) _), if_pos (by omega), storedB_bytes most s (bitsL M) [] hs (by simp)]
  rw [if_pos (by simpa using hm)]; simp
theorem bitsL_pack8 (L : Bts) (n : Nat) (h : L.length = 8 * n) : bitsL (pack L) = L := by
  have h2 := readBits_pack [] L []
  simp only [List.nil_append, List.append_nil, List.length_nil] at h2
  unfold bitsL
  rw [pack_length]
  rw [show 8 * ((L.length + 7) / 8) = L.length by omega]; exact h2
theorem storeB_length (s : List Nat) : (storeB s).length = 8 * (5 + s.length) := by
  simp only [storeB, List.length_append, bitsOf_length, bitsL_len]; omega
theorem inflB_stored (s more : List Nat) (hs : ∀ c ∈ s, c < 256) (hl : s.length ≤ 8192) (most : Nat) (hm : s.length ≤ most) (h8 : most ≤ 8192) : inflP (pack (storeB s) ++ more) (most : Int) = .ok (s, (pack (storeB s)).length) := by
  unfold inflP
  rw [if_pos (by omega), Int.toNat_natCast]
  unfold inflB
  rw [bitsL_append, bitsL_pack8 _ _ (storeB_length s), stored_read most s hs (by omega) hm more]
  simp only [Except.ok.injEq, Prod.mk.injEq, true_and, List.length_append, bitsL_len]
  omega

end Go.Proofs.YtdbfbijalhknnabGreat.Bk

/-
  Any text, any tokens: every call answers as the document, and the tokens stay: Matches.
-/
import Derived.Test.YtgfhpbcibifoeaaAwake
import Derived.OpenShut
import Derived.Deep.Slices
namespace Go.Proofs.Ytgfhpbcibifoeaa
open Go.RowKit
set_option linter.unusedVariables false
set_option linter.unusedSimpArgs false

theorem step_ends (ys : List Nat) : ∀ n k, step ys k ≤ ys.length → ys.length - step ys k = n → ∃ K, step ys K = ys.length
  | 0, k, h, e => ⟨k, by omega⟩
  | n + 1, k, h, e => by
    have h1 := step_le ys k (by omega)
    have h2 := szN_pos ys (step ys k)
    have h3 : step ys (k + 1) = step ys k + szN ys (step ys k) := rfl
    by_cases hc : ys.length - step ys (k + 1) ≤ n
    · exact step_ends_aux ys n (k + 1) h1 hc
    · omega
where
  step_ends_aux (ys : List Nat) : ∀ n k, step ys k ≤ ys.length → ys.length - step ys k ≤ n → ∃ K, step ys K = ys.length
    | 0, k, h, e => ⟨k, by omega⟩
    | n + 1, k, h, e => by
      by_cases h0 : step ys k = ys.length
      · exact ⟨k, h0⟩
      · have h1 := step_le ys k (by omega)
        have h2 := szN_pos ys (step ys k)
        have h3 : step ys (k + 1) = step ys k + szN ys (step ys k) := rfl
        exact step_ends_aux ys n (k + 1) h1 (by omega)

/-- Both Tokens in one form. -/
def BothTokens (s : ByteArray) (K : Nat) (ts : List Tk) (er : Int) : Prop :=
  ts.length = K ∧ K ≤ 300 ∧ ∀ f, f = 9 ∨ f = 10 → ∀ w, Calls Try.prog f #[.string s] w fun e w' => ∃ a cap, e = .returned (.tuple #[.slice a K cap, .int .i64 er]) ∧ RowT w' a ts ∧ OwnK w' w.heap.size (.slice a K cap) ts ∧ Keeps (fun _ => False) w w'
theorem both_tokens (s : ByteArray) (hs : s.size ≤ 140737488355328) : ∃ K ts er, BothTokens s K ts er := by
  by_cases h : s.size ≤ 300
  · obtain ⟨K, hK⟩ := step_ends (bytesOf s) _ 0 (Nat.zero_le _) rfl
    rw [bytesOf_length] at hK
    have hKl : K ≤ 300 := by
      have := step_grow (bytesOf s) 0 K
      simp only [Nat.zero_add] at this
      omega
    refine ⟨K, toksN (bytesOf s) K, 0, toksN_len _ _, hKl, ?_⟩
    rintro f (rfl | rfl) w
    · refine (tokens_row s w h).mono ?_
      rintro e w' ⟨K', a, cap, rfl, h1, h2, h3, _, h5⟩
      obtain rfl := toks_of s K hK h1
      exact ⟨a, cap, rfl, h2, h3, h5⟩
    · refine (rtokens_row s w h).mono ?_
      rintro e w' ⟨K', a, cap, rfl, h1, h2, h3, _, h5⟩
      obtain rfl := toks_of s K hK h1
      exact ⟨a, cap, rfl, h2, h3, h5⟩
  · refine ⟨0, [], 500, rfl, by omega, ?_⟩
    rintro f (rfl | rfl) w
    · refine (tokens_long s w h hs).mono ?_
      rintro e w' ⟨rfl, rfl⟩
      exact ⟨none, 0, rfl, .inl rfl, OwnK.nil _ _, Keeps.refl _ _⟩
    · refine (rtokens_long s w h hs).mono ?_
      rintro e w' ⟨rfl, rfl⟩
      exact ⟨none, 0, rfl, .inl rfl, OwnK.nil _ _, Keeps.refl _ _⟩
/-- Both Expand in one form. -/
def BothExpand (N : Nat) (ts : List Tk) (tx : ByteArray) (er : Int) (mb : Bool) : Prop :=
  ∀ w a cap, RowT w a ts → (∀ f, f = 11 ∨ f = 12 → Calls Try.prog f #[.slice a N cap] w fun e w' => e = .returned (.tuple #[.string tx, .int .i64 er]) ∧ Keeps (fun _ => False) w w') ∧ (∀ f, f = 15 ∨ f = 16 → Calls Try.prog f #[.slice a N cap] w fun e w' => e = .returned (.bool mb) ∧ Keeps (fun _ => False) w w')
theorem both_expand (ts : List Tk) (N : Nat) (hN : ts.length = N) (hl : N ≤ 9223372036854775806) : ∃ tx er mb, BothExpand N ts tx er mb := by
  subst hN
  cases hm : mayF 0 ts with
  | true =>
    refine ⟨textOf (expF [] ts), 0, true, fun w a cap hR => ⟨?_, ?_⟩⟩
    · rintro f (rfl | rfl)
      · exact expand_ok a ts cap w hR hl hm
      · exact rexpand_ok a ts cap w hR hl hm
    · rintro f (rfl | rfl)
      · have := may_ok a ts cap w hR (by omega); rw [hm] at this; exact this
      · have := rmay_ok a ts cap w hR hl; rw [hm] at this; exact this
  | false =>
    refine ⟨⟨#[]⟩, 500, false, fun w a cap hR => ⟨?_, ?_⟩⟩
    · rintro f (rfl | rfl)
      · exact expand_bad a ts cap w hR hl hm
      · exact rexpand_bad a ts cap w hR hl hm
    · rintro f (rfl | rfl)
      · have := may_ok a ts cap w hR (by omega); rw [hm] at this; exact this
      · have := rmay_ok a ts cap w hR hl; rw [hm] at this; exact this

theorem RowT.spoiled {w0 w w' : World} {a : Option Addr} {ts : List Tk} {B : Nat} (h : RowT w a ts) (h0 : RowT w0 a ts) (hk : Keeps (fun k => B ≤ k) w w') (hB : w0.heap.size ≤ B) : RowT w' a ts := by
  rcases h0 with e | ⟨b, off, rfl, hb, _⟩
  · exact .inl e
  · exact h.kept hk (fun x e h => by simp only [Option.some.injEq] at e; subst e; have : B ≤ b := h; omega)
/-- What stands in a world while the law walks: the tokens that came in, those lent. -/
def Lawd (w0 w : World) (a : Option Addr) (g : Nat) (ts : List Tk) (c : Nat) : Prop := RowT w a ts ∧ LentT w g ts c ∧ Keeps (fun _ => False) w0 w
theorem Lawd.keptF {w0 w w' : World} {a : Option Addr} {g c : Nat} {ts : List Tk} (h : Lawd w0 w a g ts c) (hk : Keeps (fun _ => False) w w') : Lawd w0 w' a g ts c := ⟨h.1.keptF hk, h.2.1.kept hk (fun h => h), h.2.2.trans hk (fun _ _ h => h)⟩

set_option maxHeartbeats 4000000 in
set_option maxRecDepth 1000000 in
theorem matches_walk (s : ByteArray) (a : Option Addr) (ts : List Tk) (cap : Nat) (w : World) (hs : s.size ≤ 140737488355328) (hR : RowT w a ts) (hA : Came a ts.length cap) (hsz : ts.length * 24 + 4096 ≤ 140737488355328) :
    Calls Try.prog 3 #[.string s, .slice a ts.length cap] w fun e w' => e = .returned (.bool true) ∧ Keeps (fun _ => False) w w' := by
  obtain ⟨K, us, er, hus, hK3, hBT⟩ := both_tokens s hs
  obtain ⟨tx, er2, mb, hBE⟩ := both_expand ts ts.length rfl (by omega)
  have HL : Hid (Calls Try.prog 8 #[.slice a ts.length cap] w fun e w' => ∃ g c, e = .returned (.slice (some ⟨g, 0, none⟩) ts.length c) ∧ LentT w' g ts c ∧ Keeps (fun _ => False) w w' ∧ w.heap.size ≤ g) := lendT_ok a ts cap w hR hA hsz
  have HKp : Hid (∀ g c w', LentT w' g ts c → RowT w' a ts → Calls Try.prog 18 #[.slice (some ⟨g, 0, none⟩) ts.length c, .slice a ts.length cap] w' fun e w'' => e = .returned (.bool true) ∧ Keeps (fun _ => False) w' w'') := fun g c w' h1 h2 => keptT_yes g a ts c cap w' h1 h2 (by omega)
  have HSm : Hid (∀ a1 c1 a2 c2 w', RowT w' a1 us → RowT w' a2 us → Calls Try.prog 13 #[.slice a1 K c1, .slice a2 K c2] w' fun e w'' => e = .returned (.bool true) ∧ Keeps (fun _ => False) w' w'') := fun a1 c1 a2 c2 w' h1 h2 => by
    have := sameT_yes a1 a2 us c1 c2 w' h1 h2 (by omega)
    rw [hus] at this; exact this
  have HSp : Hid (∀ base v w', OwnK w' base v us → Calls Try.prog 17 #[v] w' fun e w'' => e = .returned (.tuple #[]) ∧ Keeps (fun k => base ≤ k) w' w'') := fun base v w' h => spoilT_ok base v us w' h (by omega)
  have HBT : Hid (∀ f, f = 9 ∨ f = 10 → ∀ w, Calls Try.prog f #[.string s] w fun e w' => ∃ a cap, e = .returned (.tuple #[.slice a K cap, .int .i64 er]) ∧ RowT w' a us ∧ OwnK w' w.heap.size (.slice a K cap) us ∧ Keeps (fun _ => False) w w') := hBT
  have HBE : Hid (BothExpand ts.length ts tx er2 mb) := hBE
  have HR : Hid (RowT w a ts) := hR
  generalize hN : ts.length = N at *
  have HN : Hid (ts.length = N) := hN
  clear hN hR hA hBT hBE hus
  go_enter Try.func3, Try.ntmps3
  go_wp2_with (first
    | (go_at_call 8; refine HL.out.mono ?_; rintro e w1 ⟨g, c, rfl, hL1, hK1, hg⟩; have HW1 : Hid (Lawd w w1 a g ts c) := ⟨HR.out.keptF hK1, hL1, hK1⟩; clear hL1 hK1)
    | (go_at_call 9; refine (HBT.out 9 (.inl rfl) _).mono ?_; rintro e w2 ⟨a1, c1, rfl, hR2, hO2, hK2⟩; have HW2 : Hid (Lawd w w2 a g ts c ∧ RowT w2 a1 us ∧ OwnK w2 w1.heap.size (.slice a1 K c1) us) := ⟨HW1.out.keptF hK2, hR2, hO2⟩; clear hR2 hO2 hK2)
    | (go_at_call 10; refine (HBT.out 10 (.inr rfl) _).mono ?_; rintro e w3 ⟨a2, c2, rfl, hR3, hO3, hK3⟩; have HW3 : Hid (Lawd w w3 a g ts c ∧ RowT w3 a1 us ∧ OwnK w3 w1.heap.size (.slice a1 K c1) us ∧ RowT w3 a2 us) := ⟨HW2.out.1.keptF hK3, HW2.out.2.1.keptF hK3, HW2.out.2.2.keptF hK3, hR3⟩; clear hR3 hO3 hK3)
    | (go_at_call 11; refine ((HBE.out _ _ _ HW3.out.1.2.1.row).1 11 (.inl rfl)).mono ?_; rintro e w4 ⟨rfl, hK4⟩; have HW4 : Hid (Lawd w w4 a g ts c ∧ RowT w4 a1 us ∧ OwnK w4 w1.heap.size (.slice a1 K c1) us ∧ RowT w4 a2 us) := ⟨HW3.out.1.keptF hK4, HW3.out.2.1.keptF hK4, HW3.out.2.2.1.keptF hK4, HW3.out.2.2.2.keptF hK4⟩; clear hK4)
    | (go_at_call 12; refine ((HBE.out _ _ _ HW4.out.1.1).1 12 (.inr rfl)).mono ?_; rintro e w5 ⟨rfl, hK5⟩; have HW5 : Hid (Lawd w w5 a g ts c ∧ RowT w5 a1 us ∧ OwnK w5 w1.heap.size (.slice a1 K c1) us ∧ RowT w5 a2 us) := ⟨HW4.out.1.keptF hK5, HW4.out.2.1.keptF hK5, HW4.out.2.2.1.keptF hK5, HW4.out.2.2.2.keptF hK5⟩; clear hK5)
    | (go_at_call 13; refine (HSm.out _ _ _ _ _ HW5.out.2.1 HW5.out.2.2.2).mono ?_; rintro e w6 ⟨rfl, hK6⟩; have HW6 : Hid (Lawd w w6 a g ts c ∧ OwnK w6 w1.heap.size (.slice a1 K c1) us) := ⟨HW5.out.1.keptF hK6, HW5.out.2.2.1.keptF hK6⟩; clear hK6)
    | (go_at_call 14; refine (num_any _ _).mono ?_; rintro e w' ⟨rfl, hw⟩; obtain rfl := hw.symm; clear hw)
    | (go_at_call 15; refine ((HBE.out _ _ _ HW6.out.1.2.1.row).2 15 (.inl rfl)).mono ?_; rintro e w7 ⟨rfl, hK7⟩; have HW7 : Hid (Lawd w w7 a g ts c ∧ OwnK w7 w1.heap.size (.slice a1 K c1) us) := ⟨HW6.out.1.keptF hK7, HW6.out.2.keptF hK7⟩; clear hK7)
    | (go_at_call 16; refine ((HBE.out _ _ _ HW7.out.1.1).2 16 (.inr rfl)).mono ?_; rintro e w8 ⟨rfl, hK8⟩; have HW8 : Hid (Lawd w w8 a g ts c ∧ OwnK w8 w1.heap.size (.slice a1 K c1) us) := ⟨HW7.out.1.keptF hK8, HW7.out.2.keptF hK8⟩; clear hK8)
    | (go_at_call 17; refine (HSp.out _ _ _ HW8.out.2).mono ?_; rintro e w9 ⟨rfl, hK9⟩; have HW9 : Hid (Lawd w w9 a g ts c) := ⟨HW8.out.1.1.spoiled HR.out hK9 HW1.out.2.2.size, HW8.out.1.2.1.kept hK9 (fun h => by have := HW1.out.2.1.1; omega), HW8.out.1.2.2.trans hK9 (fun i hi h => by have := HW1.out.2.2.size; omega)⟩; clear hK9)
    | (go_at_call 18; refine (HKp.out _ _ _ HW9.out.2.1 HW9.out.1).mono ?_; rintro e w10 ⟨rfl, hK10⟩; have HW10 : Hid (Keeps (fun _ => False) w w10) := HW9.out.2.2.trans hK10 (fun _ _ h => h); clear hK10)
    | (go_at_call 19; refine (awake_ok _).mono ?_; rintro e w11 ⟨rfl, hK11⟩; have HW11 : Hid (Keeps (fun _ => False) w w11) := HW10.out.trans hK11 (fun _ _ h => h); clear hK11))
  go_ret
  exact ⟨rfl, HW11.out⟩

/-- A slice of structs of three ints that came in, with what its datum is. -/
theorem tri_open {H : Type} {enc : TypeId × Value → H} {P : Program} {w : World} {base : Nat} {spare : Nat → Bool} {held : Bool} {t e : TypeId} {fa fb fc : Field} {fuel : Nat} {a : Option Addr} {len cap : Nat} {x : DataW H × List MemPlace}
    (ht : P.underlying t = some (.slice e)) (he : P.underlying e = some (.struct #[fa, fb, fc])) (ce : P.cellsOf e = 3) (oa : fa.offset = 0) (ob : fb.offset = 1) (oc : fc.offset = 2)
    (ca : P.cellsOf fa.type = 1) (cb : P.cellsOf fb.type = 1) (cc : P.cellsOf fc.type = 1) (ua : P.underlying fa.type = some (.int .i64)) (ub : P.underlying fb.type = some (.int .i64)) (uc : P.underlying fc.type = some (.int .i64))
    (h : DataW.trod enc P w base spare held fuel t [.slice a len cap] = some x) : ∃ ts : List Tk, ts.length = len ∧ RowT w a ts ∧ Came a len cap ∧ (len = 0 ∨ ∃ el sp, x.1 = .slice el sp ∧ el.length = len) := by
  rcases Deep.open_slice ht h with ⟨h0, _⟩ | ⟨a', len', cap', m, n, D, Pl, hcs, hb, hl, hm, hmm, rfl, hx⟩
  · cases h0; exact ⟨[], rfl, .inl rfl, .inl ⟨rfl, rfl, rfl⟩, .inl rfl⟩
  · cases hcs
    by_cases hz : len = 0
    · exact ⟨[], by simp [hz], .inl rfl, .inr ⟨_, rfl⟩, .inl hz⟩
    have hlm : len ≤ m := by rw [hmm]; split <;> omega
    have each : ∀ i, i < len → ∃ q : Int × Int × Int, w.cell? (a'.add (i * 3)) = some (.int .i64 q.1) ∧ w.cell? (a'.add (i * 3 + 1)) = some (.int .i64 q.2.1) ∧ w.cell? (a'.add (i * 3 + 2)) = some (.int .i64 q.2.2) := by
      intro i hi
      obtain ⟨cs', h1, h2⟩ := hx i (by omega)
      rw [ce] at h1
      obtain ⟨_, hlen, hcell⟩ := World.cells?_some h1
      obtain ⟨xs, k, hk, hxy, _, hxl, hf⟩ := DataW.trod_struct he h2
      match xs, hxl, cs', hlen with
      | [y0, y1, y2], _, [v0, v1, v2], _ =>
        have g0 := hf 0 fa rfl
        have g1 := hf 1 fb rfl
        have g2 := hf 2 fc rfl
        simp [oa, ob, oc, ca, cb, cc] at g0 g1 g2
        obtain ⟨n0, e0, _, _⟩ := DataW.trod_int ua g0
        obtain ⟨n1, e1, _, _⟩ := DataW.trod_int ub g1
        obtain ⟨n2, e2, _, _⟩ := DataW.trod_int uc g2
        simp at e0 e1 e2
        subst e0 e1 e2
        have r0 := hcell 0 (by omega)
        have r1 := hcell 1 (by omega)
        have r2 := hcell 2 (by omega)
        rw [Deep.add_add] at r0 r1 r2
        exact ⟨(n0, n1, n2), by simpa using r0, by simpa using r1, by simpa using r2⟩
    obtain ⟨q, hq⟩ := Deep.choose_lt each
    obtain ⟨b, off, spot⟩ := a'
    have hs0 := (hq 0 (by omega)).1
    have hspot : spot = none := by simpa [Addr.add] using World.cell?_spot hs0
    subst hspot
    refine ⟨(List.range len).map q, by simp, .inr ⟨b, off, rfl, ?_, ?_⟩, .inr ⟨_, rfl⟩, .inr ⟨_, _, rfl, by simp⟩⟩
    · exact World.block_lt_of_cell? w _ (by rw [Addr.add_mid] at hs0; exact hs0)
    · intro i hi
      have hi' : i < len := by simpa using hi
      have := hq i hi'
      simp only [Addr.add_mid] at this
      have e : tk ((List.range len).map q) i = q i := by rw [tk_eq i hi]; simp
      rw [e]
      exact ⟨this.1, by rw [Nat.add_assoc]; exact this.2.1, by rw [Nat.add_assoc]; exact this.2.2⟩
theorem matches_below (s : ByteArray) (a : Option Addr) (len cap : Nat) (ts : List Tk) (w : World) (hs : s.size ≤ 140737488355328) (h : ts.length = len ∧ RowT w a ts ∧ Came a len cap ∧ len * 24 + 4096 ≤ 140737488355328) :
    Calls Try.prog 3 #[.string s, .slice a len cap] w fun e w' => e = .returned (.bool true) ∧ Below w.heap.size w w' := by
  obtain ⟨rfl, h1, h2, h3⟩ := h
  refine (matches_walk s a ts cap w hs h1 h2 h3).mono ?_
  rintro e w' ⟨rfl, hk⟩
  exact ⟨rfl, hk.below _ (Nat.le_refl _) (fun _ h => h.elim)⟩

end Go.Proofs.Ytgfhpbcibifoeaa

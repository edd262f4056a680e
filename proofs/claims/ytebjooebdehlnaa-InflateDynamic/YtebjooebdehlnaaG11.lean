/-
  The document's put: tokens by codes, and 256; upTo and few. Small contracts: Of, Num, wholeBytes and At of package bits, for every world. next, gather, Get, Align and At of a reader, for every text of at most 2^48 bytes. A stream that is read: what lies where in memory, and the contracts of number, above and put of package inflate.
-/
import Derived.Test.YtebjooebdehlnaaRows
import Derived.Test.YtebjooebdehlnaaG10
import Derived.WalkKit
import Derived.WalkSpells
import Derived.WalkLawsBesides
import Derived.BigQuiet
import Derived.Deep.RegionLaw
namespace Go.Proofs.Ytebjooebdehlnaa.Bk
open Go.RowKit
open Hf Tb
open Mt (Tk RowT TkAt tk tk_eq mayF okT sumZ expF)
set_option linter.unusedVariables false
set_option linter.unusedSimpArgs false

/-- The document's writer, that has been written on since a world. -/
structure WS (w0 w : World) (b : Nat) (o0 o : Option Nat) (L : Bts) : Prop where
  wr : Wr 49 w b o L
  own : o = o0 ∨ ∃ g, o = some g ∧ w0.heap.size ≤ g
  keep : Keeps (fun k => k = b ∨ o0 = some k) w0 w
theorem WS.step {w0 w w' : World} {b : Nat} {o0 o : Option Nat} {L L' : Bts} (h : WS w0 w b o0 o L) (hO : Onto 49 w w' b o L') : ∃ o', WS w0 w' b o0 o' L' := by
  obtain ⟨o', h1, h2, h3⟩ := hO
  have hs := own_step h.own h.keep h2 h3
  exact ⟨o', h1, hs.1, hs.2⟩
theorem WS.keptF {w0 w w' : World} {b : Nat} {o0 o : Option Nat} {L : Bts} (h : WS w0 w b o0 o L) (hk : Keeps (fun _ => False) w w') : WS w0 w' b o0 o L :=
  ⟨h.wr.kept hk (fun h => h) (fun _ _ h => h), h.own, h.keep.trans hk (fun _ _ h => h.elim)⟩
theorem WS.fresh {w0 w w' : World} {b q : Nat} {o0 o : Option Nat} {L : Bts} (h : WS w0 w b o0 o L) (hk : Keeps (fun k => k = q) w w') (hq : w0.heap.size ≤ q) (hb : q ≠ b) (ho : o ≠ some q) : WS w0 w' b o0 o L :=
  ⟨h.wr.kept hk (fun e => hb e.symm) (fun k e e2 => ho (e2 ▸ e)), h.own, h.keep.trans hk (fun k hk2 e => by omega)⟩
/-- What is made behind a world is none of the writer's. -/
theorem WS.new {w0 w : World} {b q : Nat} {o0 o : Option Nat} {L : Bts} (h : WS w0 w b o0 o L) (hq : w.heap.size ≤ q) : q ≠ b ∧ o ≠ some q ∧ w0.heap.size ≤ q := by
  have hb := h.wr.lt
  have ho := h.wr.own
  have hz := h.keep.size
  exact ⟨by omega, fun e => by have := ho _ e; omega, by omega⟩
/-- A symbol that lies in a block of its own stays while the writer is written on. -/
theorem WS.syb {w0 w w' : World} {b q : Nat} {o0 o : Option Nat} {L L' : Bts} {s : Sy} (h : WS w0 w b o0 o L) (hy : Syb w q s) (hb : q ≠ b) (ho : o ≠ some q) (hO : Onto 49 w w' b o L') : ∃ o', WS w0 w' b o0 o' L' ∧ Syb w' q s ∧ o' ≠ some q := by
  obtain ⟨o', h1, h2, h3⟩ := hO
  have hs := own_step h.own h.keep h2 h3
  refine ⟨o', ⟨h1, hs.1, hs.2⟩, hy.kept h3 (by rintro (e | e); exact hb e; exact ho e), ?_⟩
  rcases h2 with e | ⟨g, e, hg⟩
  · rw [e]; exact ho
  · rw [e]; intro e2; cases e2; have := hy.lt; omega
/-- A block that is none of the writer's, and was there. -/
def Off (w0 : World) (b : Nat) (o0 : Option Nat) (g : Nat) : Prop := g < w0.heap.size ∧ g ≠ b ∧ o0 ≠ some g
theorem Off.not {w0 : World} {b : Nat} {o0 : Option Nat} {g : Nat} (h : Off w0 b o0 g) : ¬ (g = b ∨ o0 = some g) := by rintro (e | e); exact h.2.1 e; exact h.2.2 e
theorem WS.cds {w0 w : World} {b : Nat} {o0 o : Option Nat} {L : Bts} (h : WS w0 w b o0 o L) {g n : Nat} {f : Nat → Int × Int} (hc : Cds w0 g n f) (hg : Off w0 b o0 g) : Cds w g n f := hc.kept h.keep hg.not
theorem cds_at {w : World} {g : Nat} {ys : List Int} (h : Cds w g ys.length (codeF ys)) {i c : Nat} (hi : i < ys.length) (hc : at_ ys i = (c : Int)) : w.cell? ⟨g, i * 2, none⟩ = some (.int .i64 (c : Int)) ∧ w.cell? ⟨g, i * 2 + 1, none⟩ = some (.int .i64 (codeV ys i : Int)) := by
  have h1 := h.bits i hi
  have h2 := h.value i hi
  simp only [codeF, hc] at h1 h2; exact ⟨h1, h2⟩
theorem WS.code {w0 w : World} {b : Nat} {o0 o : Option Nat} {L : Bts} (h : WS w0 w b o0 o L) (zs : List Int) (hm : may zs = true) (hr : room zs ≤ 32768) {i c : Nat} (hi : i < zs.length) (hc : at_ zs i = (c : Int)) (h0 : 0 < c) (hL : L.length + 15 ≤ 65536) :
    Calls Try.prog 18 #[.pointer (some ⟨b, 0, none⟩), .agg #[.int .i64 (c : Int), .int .i64 (codeV zs i : Int)]] w fun e w' => e = .returned (.int .i64 0) ∧ ∃ o', WS w0 w' b o0 o' (L ++ codeB zs i) := by
  have h15 := may_at hm i hi
  rw [← at_eq i hi, hc] at h15
  refine (Bt.rcode_ok b o L (codeV zs i) c w (by omega) (by omega) (codeV_pow zs hr i c hi hc h0 (by omega)) (by omega) h.wr).mono ?_
  rintro e w' ⟨rfl, ho⟩
  refine ⟨rfl, h.step ?_⟩
  unfold codeB
  rw [hc, Int.toNat_natCast]; exact ho
theorem WS.put {w0 w : World} {b : Nat} {o0 o : Option Nat} {L : Bts} (h : WS w0 w b o0 o L) (v k : Nat) (hk : k ≤ 16) (hv : v < 2 ^ k) (hL : L.length + k ≤ 65536) :
    Calls Try.prog 16 #[.pointer (some ⟨b, 0, none⟩), .int .i64 (v : Int), .int .i64 (k : Int)] w fun e w' => e = .returned (.int .i64 0) ∧ ∃ o', WS w0 w' b o0 o' (L ++ bitsOf v k) := by
  refine (Bt.rput_ok b o L v k w (by omega) hv hL h.wr).mono ?_
  rintro e w' ⟨rfl, ho⟩
  exact ⟨rfl, h.step ho⟩
/-- A symbol that was made since, and what is written behind it. -/
theorem sym_on {w1 w2 : World} {b q : Nat} {o1 o2 : Option Nat} {L1 L2 : Bts} {s : Sy} (hy : Syb w1 q s) (hb : q ≠ b) (ho : o1 ≠ some q) (h : WS w1 w2 b o1 o2 L2) : Syb w2 q s ∧ o2 ≠ some q := by
  refine ⟨hy.kept h.keep (by rintro (e | e); exact hb e; exact ho e), ?_⟩
  rcases h.own with e | ⟨g, e, hg⟩
  · rw [e]; exact ho
  · rw [e]; intro e2; cases e2; have := hy.lt; omega
def PutPost (ys ds : List Int) (ts : List Tk) (w : World) (b : Nat) (o : Option Nat) (L : Bts) (e : Ending) (w' : World) : Prop :=
  e = .returned (.tuple #[]) ∧ ∃ o', WS w w' b o o' (L ++ (tksB ys ds ts ++ codeB ys 256))

set_option maxHeartbeats 8000000 in
set_option maxRecDepth 100000 in
theorem rputT_ok {w : World} {b : Nat} {o : Option Nat} {L : Bts} (h : Wr 49 w b o L) (g1 n1 c1 g2 n2 c2 : Nat) (ys ds : List Int) (h1 : Cds w g1 ys.length (codeF ys)) (h2 : Cds w g2 ds.length (codeF ds)) (hn1 : ys.length = n1) (hn2 : ds.length = n2) (f1 : Off w b o g1) (f2 : Off w b o g2) (hF : Full ys ds) (a : Option Addr) (cap : Nat) (ts : List Tk) (hR : RowT w a ts) (hN : ts.length ≤ 300) (hok : ∀ t ∈ ts, ∃ a, Mt.okT t a = true) (hh : ∀ t ∈ ts, hasT ys ds t) (h256 : 0 < at_ ys 256) (hL : L.length ≤ 40000) (ha : ts = [] ∨ ∀ x, a = some x → Off w b o x.block) :
    Calls Try.prog 19 #[.pointer (some ⟨b, 0, none⟩), .slice a ts.length cap, .slice (some ⟨g1, 0, none⟩) n1 c1, .slice (some ⟨g2, 0, none⟩) n2 c2] w (PutPost ys ds ts w b o L) := by
  obtain ⟨Q, hQ⟩ : ∃ Q, PutPost ys ds ts w b o L = Q := ⟨_, rfl⟩
  rw [hQ]
  have HQ : Hid (PutPost ys ds ts w b o L = Q) := hQ
  clear hQ
  have HI : Hid (∀ i w' o' L', i < ts.length → WS w w' b o o' L' → ∀ tb off, a = some ⟨tb, off, none⟩ → ∀ w1, Keeps (fun _ => False) w' w1 → TkAt w1 tb (off + i * 3) (tk ts i)) := fun i w' o' L' hi hI tb off e w1 hk => by
    subst e
    have := ha.resolve_left (fun h => by subst h; simp at hi) ⟨tb, off, none⟩ rfl
    exact RowT.cell (RowT.keptN (RowT.keptN hR hI.keep (.inr (fun x e => by cases e; exact this.not))) hk (.inr (fun _ _ h => h))) hi
  have HLen : Hid (∀ (k : Int) (w : World), Calls Try.prog 11 #[.int .i64 k] w fun e w' => e = .returned (.tuple #[syV (symL k), .int .i64 (errB (inL k))]) ∧ Keeps (fun _ => False) w w') := rlength_ok
  have HDis : Hid (∀ (k : Int) (w : World), Calls Try.prog 12 #[.int .i64 k] w fun e w' => e = .returned (.tuple #[syV (symD k), .int .i64 (errB (inD k))]) ∧ Keeps (fun _ => False) w w') := rdist_ok
  have HSp : Hid (0 < ts.length → ∃ tb off, a = some ⟨tb, off, none⟩) := fun hn => by obtain ⟨tb, off, rfl, _⟩ := hR.at hn; exact ⟨tb, off, rfl⟩
  have HB : Hid (Full ys ds ∧ Cds w g1 ys.length (codeF ys) ∧ Cds w g2 ds.length (codeF ds) ∧ Off w b o g1 ∧ Off w b o g2 ∧ ys.length = n1 ∧ ds.length = n2 ∧ 0 < at_ ys 256 ∧ L.length ≤ 40000) := ⟨hF, h1, h2, f1, f2, hn1, hn2, h256, hL⟩
  have HTl : Hid (∀ i, (tksB ys ds (ts.take i)).length ≤ 48 * 300) := fun i => by
    have := tksB_len hF (ts.take i) (fun t ht => hok t (List.mem_of_mem_take ht)) (fun t ht => hh t (List.mem_of_mem_take ht))
    rw [List.length_take] at this; omega
  have HOk : Hid (∀ i, i < ts.length → (∃ c, Mt.okT (tk ts i) c = true) ∧ hasT ys ds (tk ts i)) := fun i hi => by
    rw [tk_eq i hi]; exact ⟨hok _ (List.getElem_mem hi), hh _ (List.getElem_mem hi)⟩
  have HT1 : Hid (∀ i, i < ts.length → tksB ys ds (ts.take (i + 1)) = tksB ys ds (ts.take i) ++ tkB ys ds (tk ts i)) := fun i hi => by rw [take_succ_tk ts i hi, tksB_snoc]
  have HW0 : Hid (∃ o', WS w w b o o' (L ++ tksB ys ds (ts.take 0))) := ⟨o, by simp only [List.take_zero, tksB, List.flatMap_nil, List.append_nil]; exact ⟨h, .inl rfl, Keeps.refl _ w⟩⟩
  have HE : Hid (ts.take ts.length = ts) := List.take_length
  obtain ⟨N, hN2⟩ : ∃ N, ts.length = N := ⟨_, rfl⟩
  rw [hN2] at HI HSp HOk HT1 HE hN ⊢
  clear hN2 hR hok hh h256 hL ha h h1 h2 hF hn1 hn2 f1 f2
  go_enter Try.func19, Try.ntmps19
  go_wp2_with fail
  go_loopw [8] (fun s8 w' => ∃ i : Nat, i ≤ N ∧ s8 = .int .i64 (i : Int) ∧ Hid (∃ o', WS w w' b o o' (L ++ tksB ys ds (ts.take i)))) (fun s8 w' => ((N : Int) - intOf s8).toNat)
  case atStart => exact ⟨0, by omega, rfl, HW0⟩
  case round =>
    clear HW0
    obtain ⟨i, hi, rfl, HW⟩ := hrel
    obtain ⟨o', hS⟩ := HW.out
    have HS := hide hS
    obtain ⟨Li, hLi⟩ : ∃ Li, L ++ tksB ys ds (ts.take i) = Li := ⟨_, rfl⟩
    have HLi : Hid (L ++ tksB ys ds (ts.take i) = Li ∧ Li.length ≤ 54400) := ⟨hLi, by rw [← hLi, List.length_append]; have := HTl.out i; have := HB.out.2.2.2.2.2.2.2.2; omega⟩
    rw [hLi] at HS
    clear HW hS hLi
    by_cases hin : i < N
    · have hiz : (i : Int) < (N : Int) := by omega
      obtain ⟨tb, off, ha⟩ := HSp.out (by omega)
      subst ha
      obtain ⟨⟨l, n, d⟩, ht⟩ : ∃ t, tk ts i = t := ⟨_, rfl⟩
      obtain ⟨⟨c, hc⟩, hx⟩ := HOk.out i hin
      have HTi : Hid (L ++ tksB ys ds (ts.take (i + 1)) = Li ++ tkB ys ds (l, n, d)) := by
        show _ = _
        rw [HT1.out i hin, ht, ← List.append_assoc, HLi.out.1]
      rw [ht] at hc hx
      obtain ⟨t0, t1, t2⟩ := HI.out i wr o' Li hin HS.out tb off rfl wr (Keeps.refl _ _)
      rw [ht] at t0 t1 t2
      simp only at t0 t1 t2
      by_cases hn0 : n = 0
      · subst hn0
        have hb : Mt.isB (l, 0, d) = true := by
          rcases (Mt.okT_iff hc).1 with h1 | h1
          · exact h1
          · have := Mt.isC_iff h1; simp only at this; omega
        have hb2 := Mt.isB_iff hb
        simp only at hb2
        unfold hasT at hx
        rw [if_pos rfl] at hx
        obtain ⟨m, rfl⟩ : ∃ m : Nat, l = (m : Int) := ⟨l.toNat, by omega⟩
        simp only [Int.toNat_natCast] at hx
        have hml := lt_of_at hx
        have h15 := may_at HB.out.1.m1 m hml
        rw [← at_eq m hml] at h15
        obtain ⟨q, hq⟩ : ∃ q : Nat, at_ ys m = (q : Int) := ⟨(at_ ys m).toNat, by omega⟩
        obtain ⟨z1, z2⟩ := cds_at (HS.out.cds HB.out.2.1 HB.out.2.2.2.1) hml hq
        have HC := hide (HS.out.code ys HB.out.1.m1 HB.out.1.r1 hml hq (by omega) (by have := HLi.out.2; omega))
        have e2 : tkB ys ds ((m : Int), 0, d) = codeB ys m := by unfold tkB; rw [if_pos rfl]; rfl
        rw [e2] at HTi
        have hmz : (m : Int) < (n1 : Int) := by have := HB.out.2.2.2.2.2.1; omega
        generalize codeV ys m = V at *
        clear hb hb2 hx hml h15 hq hc ht e2
        go_wp2_with fail
        refine HC.out.mono ?_
        rintro e w6 ⟨rfl, hO6⟩
        have HW6 : Hid (∃ o', WS w w6 b o o' (L ++ tksB ys ds (ts.take (i + 1)))) := by rw [HTi.out]; exact hO6
        clear hO6 HC z1 z2 t0 t1 t2 HS HLi HTi
        go_wp2
        go_roundw
        case rel => exact ⟨i + 1, by omega, by push_cast; rfl, HW6⟩
        case measure => simp [intOf]; omega
      · have hb : Mt.isC (l, n, d) c = true := by
          rcases (Mt.okT_iff hc).1 with h1 | h1
          · have := Mt.isB_iff h1; simp only at this; omega
          · exact h1
        have hb2 := Mt.isC_iff hb
        simp only at hb2
        unfold hasT at hx
        rw [if_neg hn0] at hx
        obtain ⟨x, rfl⟩ : ∃ x : Nat, n = (x : Int) := ⟨n.toNat, by omega⟩
        obtain ⟨y, rfl⟩ : ∃ y : Nat, d = (y : Int) := ⟨d.toNat, by omega⟩
        obtain ⟨j, f, j1, j2, j3, j4, j5⟩ := symL_is x (by omega) (by omega)
        obtain ⟨k, g, k1, k2, k3, k4, k5⟩ := symD_is y (by omega) (by omega)
        have e2 : tkB ys ds (l, (x : Int), (y : Int)) = codeB ys (257 + j) ++ (bitsOf f (lenF j).2 ++ (codeB ds k ++ bitsOf g (dstF k).2)) := by
          unfold tkB
          rw [if_neg hn0]
          simp only [j2, k2, moreB, Int.toNat_natCast]
        simp only [j2, k2, Int.toNat_natCast] at hx
        rw [e2] at HTi
        have HL1 : Hid (∀ (w : World), Calls Try.prog 11 #[.int .i64 (x : Int)] w fun e w' => e = .returned (.tuple #[.agg #[.int .i64 ((257 + j : Nat) : Int), .int .i64 ((lenF j).2 : Int), .int .i64 (f : Int)], .int .i64 (errB (inL (x : Int)))]) ∧ Keeps (fun _ => False) w w') := fun w => by have := HLen.out (x : Int) w; rw [j2] at this; exact this
        have HD1 : Hid (∀ (w : World), Calls Try.prog 12 #[.int .i64 (y : Int)] w fun e w' => e = .returned (.tuple #[.agg #[.int .i64 (k : Int), .int .i64 ((dstF k).2 : Int), .int .i64 (g : Int)], .int .i64 (errB (inD (y : Int)))]) ∧ Keeps (fun _ => False) w w') := fun w => by have := HDis.out (y : Int) w; rw [k2] at this; exact this
        have hml := lt_of_at hx.1
        have hkl := lt_of_at hx.2
        have h15 := may_at HB.out.1.m1 (257 + j) hml
        have h16 := may_at HB.out.1.m2 k hkl
        rw [← at_eq _ hml] at h15
        rw [← at_eq _ hkl] at h16
        obtain ⟨q, hq⟩ : ∃ q : Nat, at_ ys (257 + j) = (q : Int) := ⟨(at_ ys (257 + j)).toNat, by omega⟩
        obtain ⟨r, hr⟩ : ∃ r : Nat, at_ ds k = (r : Int) := ⟨(at_ ds k).toNat, by omega⟩
        have hq15 : 1 ≤ q ∧ q ≤ 15 := by omega
        have hr15 : 1 ≤ r ∧ r ≤ 15 := by omega
        have l1 : (codeB ys (257 + j)).length ≤ 15 := by rw [codeB_length, hq]; omega
        have l2 : (codeB ds k).length ≤ 15 := by rw [codeB_length, hr]; omega
        obtain ⟨I, hI⟩ : ∃ I, 257 + j = I := ⟨_, rfl⟩
        obtain ⟨bl, hbl⟩ : ∃ m, (lenF j).2 = m := ⟨_, rfl⟩
        obtain ⟨bd, hbd⟩ : ∃ m, (dstF k).2 = m := ⟨_, rfl⟩
        rw [hI, hbl] at HL1
        rw [hbd] at HD1
        rw [hI, hbl, hbd] at HTi
        rw [hI] at hq hml l1
        rw [hbl] at j4
        rw [hbd] at k4
        have HCo1 : Hid (∀ w' o'' L'', L''.length + 15 ≤ 65536 → WS w w' b o o'' L'' → (w'.cell? ⟨g1, I * 2, none⟩ = some (.int .i64 (q : Int)) ∧ w'.cell? ⟨g1, I * 2 + 1, none⟩ = some (.int .i64 (codeV ys I : Int))) ∧ Calls Try.prog 18 #[.pointer (some ⟨b, 0, none⟩), .agg #[.int .i64 (q : Int), .int .i64 (codeV ys I : Int)]] w' fun e w'' => e = .returned (.int .i64 0) ∧ Onto 49 w' w'' b o'' (L'' ++ codeB ys I)) := fun w' o'' L'' hl hs => by
          refine ⟨cds_at (hs.cds HB.out.2.1 HB.out.2.2.2.1) hml hq, ?_⟩
          refine (Bt.rcode_ok b o'' L'' (codeV ys I) q w' (by omega) (by omega) (codeV_pow ys HB.out.1.r1 I q hml hq (by omega) (by omega)) (by omega) hs.wr).mono ?_
          rintro e w'' ⟨rfl, ho⟩
          unfold codeB; rw [hq, Int.toNat_natCast]; exact ⟨rfl, ho⟩
        have HCo2 : Hid (∀ w' o'' L'', L''.length + 15 ≤ 65536 → WS w w' b o o'' L'' → (w'.cell? ⟨g2, k * 2, none⟩ = some (.int .i64 (r : Int)) ∧ w'.cell? ⟨g2, k * 2 + 1, none⟩ = some (.int .i64 (codeV ds k : Int))) ∧ Calls Try.prog 18 #[.pointer (some ⟨b, 0, none⟩), .agg #[.int .i64 (r : Int), .int .i64 (codeV ds k : Int)]] w' fun e w'' => e = .returned (.int .i64 0) ∧ Onto 49 w' w'' b o'' (L'' ++ codeB ds k)) := fun w' o'' L'' hl hs => by
          refine ⟨cds_at (hs.cds HB.out.2.2.1 HB.out.2.2.2.2.1) hkl hr, ?_⟩
          refine (Bt.rcode_ok b o'' L'' (codeV ds k) r w' (by omega) (by omega) (codeV_pow ds HB.out.1.r2 k r hkl hr (by omega) (by omega)) (by omega) hs.wr).mono ?_
          rintro e w'' ⟨rfl, ho⟩
          unfold codeB; rw [hr, Int.toNat_natCast]; exact ⟨rfl, ho⟩
        have HPu1 : Hid (∀ w' o'' L'', L''.length + 16 ≤ 65536 → WS w w' b o o'' L'' → Calls Try.prog 16 #[.pointer (some ⟨b, 0, none⟩), .int .i64 (f : Int), .int .i64 (bl : Int)] w' fun e w'' => e = .returned (.int .i64 0) ∧ Onto 49 w' w'' b o'' (L'' ++ bitsOf f bl)) := fun w' o'' L'' hl hs => Bt.rput_ok b o'' L'' f bl w' (by omega) j4 (by omega) hs.wr
        have HPu2 : Hid (∀ w' o'' L'', L''.length + 16 ≤ 65536 → WS w w' b o o'' L'' → Calls Try.prog 16 #[.pointer (some ⟨b, 0, none⟩), .int .i64 (g : Int), .int .i64 (bd : Int)] w' fun e w'' => e = .returned (.int .i64 0) ∧ Onto 49 w' w'' b o'' (L'' ++ bitsOf g bd)) := fun w' o'' L'' hl hs => Bt.rput_ok b o'' L'' g bd w' (by omega) k4 (by omega) hs.wr
        have hIz : (I : Int) < (n1 : Int) := by have := HB.out.2.2.2.2.2.1; omega
        have hkz : (k : Int) < (n2 : Int) := by have := HB.out.2.2.2.2.2.2.1; omega
        have HLs : Hid ((codeB ys I).length ≤ 15 ∧ (codeB ds k).length ≤ 15 ∧ (bitsOf f bl).length ≤ 16 ∧ (bitsOf g bd).length ≤ 16) := ⟨l1, l2, by rw [bitsOf_length]; omega, by rw [bitsOf_length]; omega⟩
        generalize errB (inL (x : Int)) = er1 at *
        generalize errB (inD (y : Int)) = er2 at *
        generalize codeV ys I = V at *
        generalize codeV ds k = W at *
        have HTd : Hid (∀ w' o'' L'', WS w w' b o o'' L'' → w'.cell? ⟨tb, off + i * 3 + 2, none⟩ = some (.int .i64 (y : Int))) := fun w' o'' L'' hs => by
          have := (HI.out i w' o'' L'' hin hs tb off rfl w' (Keeps.refl _ _)).2.2
          rw [ht] at this; exact this
        clear hb hb2 hx hml hkl h15 h16 hq hr hc e2 l1 l2 hI hbl hbd j1 j2 j3 j4 j5 k1 k2 k3 k4 k5 HLen HDis ht
        go_wp2_with fail
        refine (HL1.out wr).mono ?_
        rintro e w1 ⟨rfl, hK1⟩
        have H1 := hide (HS.out.keptF hK1)
        clear hK1 HL1 t0 t1 t2 HS
        go_wp2_with (first
          | (refine Tb.wpList_alloc3 rfl rfl ?_; intro q1 w2 hY2 hK2 hq2)
          | (refine Tb.wpList_store3 rfl _ _ rfl q1 ((I : Int), (bl : Int), (f : Int)) rfl rfl (0, 0, 0) hY2 ?_; intro w3 hY3 hK3; have H3 : Hid (WS w w3 b o o' Li ∧ q1 ≠ b ∧ o' ≠ some q1 ∧ Syb w3 q1 ((I : Int), (bl : Int), (f : Int))) := (by have hn := H1.out.new hq2; exact ⟨(H1.out.keptF hK2).fresh hK3 hn.2.2 hn.1 hn.2.1, hn.1, hn.2.1, hY3⟩); have hs0 := hY3.c0; obtain ⟨⟨z1, z2⟩, hC1⟩ := HCo1.out w3 o' Li (by have := HLi.out.2; omega) H3.out.1; have HC1 := hide hC1; clear hK2 hK3 hY2 hq2 hY3 hC1))
        refine HC1.out.mono ?_
        rintro e w4 ⟨rfl, hO4⟩
        obtain ⟨o4, hW4, hY4, hn4⟩ := H3.out.1.syb H3.out.2.2.2 H3.out.2.1 H3.out.2.2.1 hO4
        have c41 := hY4.c1
        have c42 := hY4.c2
        have H4 : Hid (WS w w4 b o o4 (Li ++ codeB ys I) ∧ q1 ≠ b ∧ o4 ≠ some q1 ∧ Syb w4 q1 ((I : Int), (bl : Int), (f : Int))) := ⟨hW4, H3.out.2.1, hn4, hY4⟩
        have HP4 := hide (HPu1.out w4 o4 _ (by have := HLi.out.2; have := HLs.out; rw [List.length_append]; omega) hW4)
        clear HC1 hO4 hW4 hY4 hn4 H3 H1 z1 z2 hs0 HCo1 HPu1
        go_wp2_with fail
        refine HP4.out.mono ?_
        rintro e w5 ⟨rfl, hO5⟩
        obtain ⟨o5, hW5⟩ := H4.out.1.step hO5
        have td := HTd.out w5 o5 _ hW5
        have H5 := hide hW5
        clear HP4 hO5 hW5 H4 c41 c42
        go_wp2_with fail
        refine (HD1.out w5).mono ?_
        rintro e w6 ⟨rfl, hK6⟩
        have H6 := hide (H5.out.keptF hK6)
        clear hK6 HD1 H5 td HTd
        go_wp2_with (first
          | (refine Tb.wpList_alloc3 rfl rfl ?_; intro q2 w7 hY7 hK7 hq7)
          | (refine Tb.wpList_store3 rfl _ _ rfl q2 ((k : Int), (bd : Int), (g : Int)) rfl rfl (0, 0, 0) hY7 ?_; intro w8 hY8 hK8; have H8 : Hid (WS w w8 b o o5 (Li ++ codeB ys I ++ bitsOf f bl) ∧ q2 ≠ b ∧ o5 ≠ some q2 ∧ Syb w8 q2 ((k : Int), (bd : Int), (g : Int))) := (by have hn := H6.out.new hq7; exact ⟨(H6.out.keptF hK7).fresh hK8 hn.2.2 hn.1 hn.2.1, hn.1, hn.2.1, hY8⟩); have hs0 := hY8.c0; obtain ⟨⟨z1, z2⟩, hC2⟩ := HCo2.out w8 o5 _ (by have := HLi.out.2; have := HLs.out; rw [List.length_append, List.length_append]; omega) H8.out.1; have HC2 := hide hC2; clear hK7 hK8 hY7 hq7 hY8 hC2))
        refine HC2.out.mono ?_
        rintro e w9 ⟨rfl, hO9⟩
        obtain ⟨o9, hW9, hY9, hn9⟩ := H8.out.1.syb H8.out.2.2.2 H8.out.2.1 H8.out.2.2.1 hO9
        have c91 := hY9.c1
        have c92 := hY9.c2
        have H9 := hide hW9
        have HP9 := hide (HPu2.out w9 o9 _ (by have := HLi.out.2; have := HLs.out; rw [List.length_append, List.length_append, List.length_append]; omega) hW9)
        clear HC2 hO9 hW9 hY9 hn9 H8 H6 z1 z2 hs0 HCo2 HPu2
        go_wp2_with fail
        refine HP9.out.mono ?_
        rintro e wa ⟨rfl, hOa⟩
        have HW6 : Hid (∃ o', WS w wa b o o' (L ++ tksB ys ds (ts.take (i + 1)))) := by
          rw [HTi.out]
          obtain ⟨oa, hWa⟩ := H9.out.step hOa
          refine ⟨oa, ?_⟩
          simp only [List.append_assoc] at hWa
          exact hWa
        clear hOa HP9 H9 c91 c92 HTi HLi HLs
        go_wp2
        go_roundw
        case rel => exact ⟨i + 1, by omega, by push_cast; rfl, HW6⟩
        case measure => simp [intOf]; omega
    · obtain rfl : i = N := by omega
      have hml := lt_of_at HB.out.2.2.2.2.2.2.2.1
      have h15 := may_at HB.out.1.m1 256 hml
      rw [← at_eq 256 hml] at h15
      obtain ⟨q, hq⟩ : ∃ q : Nat, at_ ys 256 = (q : Int) := ⟨(at_ ys 256).toNat, by omega⟩
      obtain ⟨z1, z2⟩ := cds_at (HS.out.cds HB.out.2.1 HB.out.2.2.2.1) hml hq
      have HC := hide (HS.out.code ys HB.out.1.m1 HB.out.1.r1 hml hq (by have := HB.out.2.2.2.2.2.2.2.1; omega) (by have := HLi.out.2; omega))
      have h256 : (256 : Int) < (n1 : Int) := by have := HB.out.2.2.2.2.2.1; omega
      have HLe : Hid (Li = L ++ tksB ys ds ts) := by show Li = _; rw [← HLi.out.1, HE.out]
      generalize codeV ys 256 = V at *
      clear hml h15 hq HI HLen HDis HSp HTl HOk HT1 HE HLi HS
      go_wp2_with fail
      refine HC.out.mono ?_
      rintro e w6 ⟨rfl, hO6⟩
      have HF : Hid (PutPost ys ds ts w b o L (.returned (.tuple #[])) w6) := by
        refine ⟨rfl, ?_⟩
        rw [HLe.out, List.append_assoc] at hO6; exact hO6
      clear hO6 HC z1 z2
      go_wp2
      go_end0
      rw [← HQ.out]; exact HF.out

end Go.Proofs.Ytebjooebdehlnaa.Bk

namespace Go.Proofs.Ytebjooebdehlnaa
open Go.RowKit
set_option linter.unusedVariables false
set_option linter.unusedSimpArgs false

set_option maxHeartbeats 400000 in
theorem of_any (s : ByteArray) (w : World) :
    Calls Try.prog 21 #[.string s] w fun e w' => e = .returned (.pointer (some ⟨w.heap.size, 0, none⟩)) ∧ w' = w.alloc (.cells #[.string s, .int .i64 0] 75) := by
  go_enter Try.func21, Try.ntmps21
  go_wp2
  go_ret
  exact ⟨rfl, rfl⟩

set_option maxHeartbeats 400000 in
theorem num_any (n : Int) (w : World) :
    Calls Try.prog 8 #[.int .i64 n] w fun e w' => e = .returned (.int .i64 n) ∧ w' = w := by
  go_enter Try.func8, Try.ntmps8
  go_wp2
  go_ret
  exact ⟨rfl, rfl⟩

set_option maxHeartbeats 400000 in
theorem whole_any (n : Int) (w : World) (h0 : 0 ≤ n) (h1 : n ≤ 4503599627370496) :
    Calls Try.prog 33 #[.int .i64 n] w fun e w' => e = .returned (.int .i64 ((n + 7) / 8 * 8)) ∧ w' = w := by
  go_enter Try.func33, Try.ntmps33
  go_wp2
  go_ret
  exact ⟨rfl, rfl⟩

set_option maxHeartbeats 400000 in
theorem at_any (b : Nat) (n : Int) (w : World) (hc : w.cell? ⟨b, 1, none⟩ = some (.int .i64 n)) :
    Calls Try.prog 24 #[.pointer (some ⟨b, 0, none⟩)] w fun e w' => e = .returned (.int .i64 n) ∧ w' = w := by
  go_enter Try.func24, Try.ntmps24
  go_wp2
  go_ret
  exact ⟨rfl, rfl⟩

end Go.Proofs.Ytebjooebdehlnaa

namespace Go.Proofs.Ytebjooebdehlnaa
open Go.RowKit
set_option linter.unusedVariables false
set_option linter.unusedSimpArgs false

/-- A reader lies in block b, reads s and stands at bit p. -/
def Rd (T : TypeId) (w : World) (b : Nat) (s : ByteArray) (p : Nat) : Prop := w.heap[b]? = some (.cells #[.string s, .int .i64 p] T (0, 0))


set_option maxHeartbeats 400000 in
set_option maxRecDepth 100000 in
theorem next_at (b p q r : Nat) (s : ByteArray) (w : World) (hs : (s.size : Int) ≤ 281474976710656) (hp : (p : Int) < 8 * s.size) (hpq : (p : Int) / 8 = (q : Int)) (hpr : (p : Int) % 8 = (r : Int)) (htq : (p : Int).tdiv 8 = (q : Int)) (htr : (p : Int).tmod 8 = (r : Int)) (hwq : IntKind.i64.wrap (q : Int) = q) (hwr : IntKind.i64.wrap (r : Int) = r) (hr : (r : Int) < 8) (hr1 : (0 : Int) ≤ r) (hq0 : (0 : Int) ≤ q) (hq : (q : Int) < s.size) (hq' : q < s.size)
    (h0 : w.cell? ⟨b, 0, none⟩ = some (.string s)) (h1 : w.cell? ⟨b, 1, none⟩ = some (.int .i64 p)) (f1 : w.frozen? ⟨b, 1, none⟩ = false) :
    Calls Try.prog 45 #[.pointer (some ⟨b, 0, none⟩)] w fun e w' => e = .returned (.int .i64 (bits BinOp.and IntKind.i64 (wrap64 (s[q].toNat : Int) / 2 ^ r) 1)) ∧ ∃ n, w' = (w.drewN n).setCell ⟨b, 1, none⟩ (.int .i64 (p + 1)) := by
  go_enter Try.func45, Try.ntmps45
  go_wp2
  go_quiet (fail)
  go_wp2
  go_ret
  exact ⟨rfl, _, rfl⟩

/-- What a call on a reader leaves. -/
def Read (T : TypeId) (w w' : World) (b : Nat) (s : ByteArray) (p : Nat) : Prop := Rd T w' b s p ∧ Keeps (fun k => k = b) w w'

theorem Read.trans {T : TypeId} {w w' w'' : World} {b : Nat} {s : ByteArray} {p p' : Nat} (h : Read T w w' b s p) (h' : Read T w' w'' b s p') : Read T w w'' b s p' := ⟨h'.1, h.2.trans h'.2 (fun _ _ h => h)⟩

theorem next_ok (b p : Nat) (s : ByteArray) (w : World) (hs : s.size ≤ 281474976710656) (hp : p < 8 * s.size) (hR : Rd 75 w b s p) :
    Calls Try.prog 45 #[.pointer (some ⟨b, 0, none⟩)] w fun e w' => e = .returned (.int .i64 ((bitAt (bytesOf s) p).toNat : Int)) ∧ Read 75 w w' b s (p + 1) := by
  have hq' : p / 8 < s.size := by omega
  refine (next_at b p (p / 8) (p % 8) s w (by omega) (by omega) (by omega) (by omega) (by rw [Int.tdiv_eq_ediv_of_nonneg (by omega)]; omega) (by rw [Int.tmod_eq_emod_of_nonneg (by omega)]; omega) (wrap_i64_small _ (by omega) (by omega)) (wrap_i64_small _ (by omega) (by omega)) (by omega) (by omega) (by omega) (by omega) hq' (cell_of_heap (i := 0) hR rfl) (cell_of_heap (i := 1) hR rfl) (frozen_of_heap (i := 1) hR)).mono ?_
  rintro e w' ⟨rfl, n, rfl⟩
  have hb : s[p / 8].toNat < 256 := UInt8.toNat_lt _
  refine ⟨?_, ?_, ?_⟩
  · rw [show wrap64 (s[p / 8].toNat : Int) = (s[p / 8].toNat : Int) by simp only [wrap64]; omega, i64_bit _ _ (by omega)]
    unfold bitAt
    rw [bytesOf_get s (p / 8) hq']
  · show ((w.drewN n).setCell ⟨b, 1, none⟩ _).heap[b]? = _
    rw [heap_setCell_same (i := 1) (w := w.drewN n) (show (w.drewN n).heap[b]? = _ from hR)]
    simp
  · exact ((Keeps.refl (fun k => k = b) w).drewN n).setCell (p := ⟨b, 1, none⟩) (fun _ => rfl) _

set_option maxHeartbeats 1000000 in
set_option maxRecDepth 100000 in
theorem gather_ok (b p k : Nat) (s : ByteArray) (w : World) (hk : (k : Int) ≤ 16) (hs : s.size ≤ 281474976710656) (hp : p + k ≤ 8 * s.size) (hR : Hid (Rd 75 w b s p)) :
    Calls Try.prog 44 #[.int .i64 k, .func (.func 45) #[.pointer (some ⟨b, 0, none⟩)] #[]] w fun e w' => e = .returned (.int .i64 ((val (readBits (bytesOf s) p k) : Nat) : Int)) ∧ Read 75 w w' b s (p + k) := by
  have HS : Hid (s.size ≤ 281474976710656) := hs
  have HP : Hid (p + k ≤ 8 * s.size) := hp
  clear hs hp
  go_enter Try.func44, Try.ntmps44
  go_wp2
  go_loopw [5, 8] (fun x i w' => ∃ j : Nat, j ≤ k ∧ i = .int .i64 j ∧ x = .int .i64 ((val (readBits (bytesOf s) p j) : Nat) : Int) ∧ Read 75 w w' b s (p + j)) (fun _ i _ => k - (intOf i).toNat)
  case atStart => exact ⟨0, Nat.zero_le _, rfl, rfl, hR.out, Keeps.refl _ _⟩
  case round =>
    obtain ⟨j, hj, rfl, rfl, hrd⟩ := hrel
    have HR : Hid (Read 75 w wr b s (p + j)) := hrd
    clear hrd
    by_cases hlt : j < k
    · go_wp2_with fail
      refine (next_ok b (p + j) s wr HS.out (by have := HP.out; omega) HR.out.1).mono ?_
      rintro e w2 ⟨rfl, h2⟩
      have H2 : Hid (Read 75 w w2 b s (p + (j + 1))) := HR.out.trans h2
      clear h2
      go_wp2
      go_roundw
      case rel =>
        refine ⟨j + 1, by omega, by go_num, ?_, H2.out⟩
        rw [i64_or_low _ j _ (by have := val_lt (readBits (bytesOf s) p j); rw [readBits_length] at this; exact this) (by omega), readBits_succ, val_append, readBits_length]
        simp [val]
      case measure => simp [intOf]; omega
    · go_wp2
      go_ret
      have : j = k := by omega
      subst this
      exact ⟨rfl, HR.out⟩


set_option maxHeartbeats 400000 in
theorem get_nil (k : Int) (w : World) :
    Calls Try.prog 39 #[.pointer none, .int .i64 k] w fun e w' => e = .returned (.tuple #[.int .i64 0, .int .i64 1]) ∧ w' = w := by
  go_enter Try.func39, Try.ntmps39
  go_wp2
  go_ret2
  exact ⟨rfl, rfl⟩

set_option maxHeartbeats 400000 in
theorem get_out (b : Nat) (k : Int) (w : World) (h : k < 0 ∨ 16 < k) :
    Calls Try.prog 39 #[.pointer (some ⟨b, 0, none⟩), .int .i64 k] w fun e w' => e = .returned (.tuple #[.int .i64 0, .int .i64 100]) ∧ w' = w := by
  by_cases h1 : k < 0
  · go_enter Try.func39, Try.ntmps39
    go_wp2
    go_ret2
    exact ⟨rfl, rfl⟩
  · have h2 : 16 < k := by omega
    go_enter Try.func39, Try.ntmps39
    go_wp2
    go_ret2
    exact ⟨rfl, rfl⟩

set_option maxHeartbeats 400000 in
set_option maxRecDepth 100000 in
theorem get_end_at (b p k : Nat) (s : ByteArray) (w : World) (hk : (k : Int) ≤ 16) (hs : (s.size : Int) ≤ 281474976710656) (hp : (p : Int) ≤ 8 * s.size) (h : 8 * (s.size : Int) - p < k)
    (h0 : w.cell? ⟨b, 0, none⟩ = some (.string s)) (h1 : w.cell? ⟨b, 1, none⟩ = some (.int .i64 p)) :
    Calls Try.prog 39 #[.pointer (some ⟨b, 0, none⟩), .int .i64 k] w fun e w' => e = .returned (.tuple #[.int .i64 0, .int .i64 101]) ∧ ∃ n, w' = w.drewN n := by
  have h2 : ¬ (k : Int) < 0 := by omega
  have h3 : ¬ 16 < (k : Int) := by omega
  go_enter Try.func39, Try.ntmps39
  go_wp2
  go_quiet (fail)
  go_wp2
  go_ret2
  exact ⟨rfl, _, rfl⟩

set_option maxHeartbeats 400000 in
set_option maxRecDepth 100000 in
theorem get_ok (b p k : Nat) (s : ByteArray) (w : World) (hk : (k : Int) ≤ 16) (hs : (s.size : Int) ≤ 281474976710656) (hp : (p : Int) + k ≤ 8 * s.size) (hR : Hid (Rd 75 w b s p)) :
    Calls Try.prog 39 #[.pointer (some ⟨b, 0, none⟩), .int .i64 k] w fun e w' => e = .returned (.tuple #[.int .i64 ((val (readBits (bytesOf s) p k) : Nat) : Int), .int .i64 0]) ∧ Read 75 w w' b s (p + k) := by
  have h2 : ¬ (k : Int) < 0 := by omega
  have h3 : ¬ 16 < (k : Int) := by omega
  have h4 : ¬ 8 * (s.size : Int) - p < k := by omega
  have h0 : w.cell? ⟨b, 0, none⟩ = some (.string s) := cell_of_heap (i := 0) hR.out rfl
  have h1 : w.cell? ⟨b, 1, none⟩ = some (.int .i64 p) := cell_of_heap (i := 1) hR.out rfl
  have hmf : ∀ (fn : Fn) (first cap : Array Value) (w : World), (Instr.makeFunc fn first cap).run Try.prog w = .ok (.func fn first cap) w := fun _ _ _ _ => rfl
  go_enter Try.func39, Try.ntmps39
  go_wp2
  go_quiet (fail)
  go_wp2_with fail
  refine (gather_ok b p k s (w.drewN nq) hk (by omega) (by omega) (show Rd 75 (w.drewN nq) b s p from hR.out)).mono ?_
  rintro e w' ⟨rfl, hrd⟩
  have HN : Hid (Read 75 w w' b s (p + k)) := ⟨hrd.1, ((Keeps.refl (fun k => k = b) w).drewN nq).trans hrd.2 (fun _ _ h => h)⟩
  clear hrd h0 h1
  go_wp2
  go_ret2
  exact ⟨rfl, HN.out⟩

theorem get_end (b p : Nat) (k : Int) (s : ByteArray) (w : World) (hk0 : 0 ≤ k) (hk : k ≤ 16) (hs : s.size ≤ 281474976710656) (hp : p ≤ 8 * s.size) (h : 8 * (s.size : Int) - p < k) (hR : Rd 75 w b s p) :
    Calls Try.prog 39 #[.pointer (some ⟨b, 0, none⟩), .int .i64 k] w fun e w' => e = .returned (.tuple #[.int .i64 0, .int .i64 101]) ∧ Read 75 w w' b s p := by
  obtain ⟨n, rfl⟩ := Int.eq_ofNat_of_zero_le hk0
  refine (get_end_at b p n s w hk (by omega) (by omega) h (cell_of_heap (i := 0) hR rfl) (cell_of_heap (i := 1) hR rfl)).mono ?_
  rintro e w' ⟨rfl, m, rfl⟩
  exact ⟨rfl, show Rd 75 (w.drewN m) b s p from hR, (Keeps.refl _ w).drewN m⟩

set_option maxHeartbeats 400000 in
theorem ralign_at (b n : Nat) (w : World) (hn : (n : Int) ≤ 4503599627370496) (hc : w.cell? ⟨b, 1, none⟩ = some (.int .i64 n)) (hf : w.frozen? ⟨b, 1, none⟩ = false) :
    Calls Try.prog 23 #[.pointer (some ⟨b, 0, none⟩)] w fun e w' => e = .returned (.int .i64 0) ∧ w' = w.setCell ⟨b, 1, none⟩ (.int .i64 (((n : Int) + 7) / 8 * 8)) := by
  go_enter Try.func23, Try.ntmps23
  go_wp2_with fail
  refine (whole_any (n : Int) _ (by omega) (by omega)).mono ?_
  rintro e w' ⟨rfl, hw⟩
  obtain rfl := hw.symm
  go_wp2
  go_ret
  exact ⟨rfl, rfl⟩

theorem ralign_ok (b p : Nat) (s : ByteArray) (w : World) (hs : s.size ≤ 281474976710656) (hp : p ≤ 8 * s.size) (hR : Rd 75 w b s p) :
    Calls Try.prog 23 #[.pointer (some ⟨b, 0, none⟩)] w fun e w' => e = .returned (.int .i64 0) ∧ Read 75 w w' b s ((p + 7) / 8 * 8) := by
  refine (ralign_at b p w (by omega) (cell_of_heap (i := 1) hR rfl) (frozen_of_heap (i := 1) hR)).mono ?_
  rintro e w' ⟨rfl, rfl⟩
  refine ⟨rfl, ?_, (Keeps.refl (fun k => k = b) w).setCell (p := ⟨b, 1, none⟩) (fun _ => rfl) _⟩
  show (w.setCell ⟨b, 1, none⟩ _).heap[b]? = _
  rw [heap_setCell_same (i := 1) hR]
  simp

theorem at_ok (b p : Nat) (s : ByteArray) (w : World) (hR : Rd 75 w b s p) :
    Calls Try.prog 24 #[.pointer (some ⟨b, 0, none⟩)] w fun e w' => e = .returned (.int .i64 p) ∧ w' = w :=
  at_any b _ w (cell_of_heap (i := 1) hR rfl)

theorem Rd.lt {T : TypeId} {w : World} {b : Nat} {s : ByteArray} {p : Nat} (h : Rd T w b s p) : b < w.heap.size := lt_of_heap h
theorem Rd.kept {T : TypeId} {S : Nat → Prop} {w w' : World} {b : Nat} {s : ByteArray} {p : Nat} (h : Rd T w b s p) (hk : Keeps S w w') (hb : ¬ S b) : Rd T w' b s p := (hk.block b h.lt hb).trans h

end Go.Proofs.Ytebjooebdehlnaa

namespace Go.Proofs.Ytebjooebdehlnaa
open Go.RowKit
open Hf Tb
set_option linter.unusedVariables false
set_option linter.unusedSimpArgs false

/-! ### Bits -/
theorem readBits_drop (s : List Nat) (n p k : Nat) (h : p + k ≤ n) : ((readBits s 0 n).drop p).take k = readBits s p k := by
  apply List.ext_getElem?
  intro i
  by_cases hi : i < k
  · rw [List.getElem?_take, if_pos hi, List.getElem?_drop]
    simp only [readBits, List.getElem?_map, List.getElem?_range hi, List.getElem?_range (show p + i < n by omega)]
    simp
  · rw [List.getElem?_eq_none (by simp; omega), List.getElem?_eq_none (by simp [readBits]; omega)]
theorem bitsL_length (s : List Nat) : (bitsL s).length = 8 * s.length := by simp [bitsL, readBits_length]

/-! ### Bytes that a call owns -/
def OwnB (w : World) (base : Nat) (v : Value) (xs : List Nat) : Prop := w.ownsRow base 5 1 v xs.length (xs.map byteV)
theorem OwnB.nil (w : World) (base : Nat) : OwnB w base (.slice none 0 0) [] := World.ownsRow_nil w base 5 1
theorem OwnB.kept {S : Nat → Prop} {w w' : World} {base : Nat} {v : Value} {xs : List Nat} (h : OwnB w base v xs) (hk : Keeps S w w') (hb : ∀ k, v.ownBlock = some k → ¬ S k) : OwnB w' base v xs :=
  owns_heap h (fun k e => hk.block k (World.ownsRow.lt h k e).2 (hb k e))
theorem OwnB.form {w : World} {base : Nat} {v : Value} {xs : List Nat} (h : OwnB w base v xs) : ∃ a cap, v = .slice a xs.length cap := by
  rcases h.2 with ⟨e, h0⟩ | ⟨g, cap, cur, e, _⟩
  · exact ⟨none, 0, by rw [e, h0]⟩
  · exact ⟨_, cap, e⟩
theorem OwnB.cell {w : World} {base : Nat} {v : Value} {xs : List Nat} (h : OwnB w base v xs) (i : Nat) (hi : i < xs.length) : ∃ g cap, v = .slice (some ⟨g, 0, none⟩) xs.length cap ∧ w.cell? ⟨g, i, none⟩ = some (.int .u8 (xs[i] : Int)) := by
  obtain ⟨g, cap, rfl, _, _⟩ := World.ownsRow.form h (by omega)
  refine ⟨g, cap, rfl, (owns_cell h i _ ?_).1⟩
  rw [List.getElem?_map, List.getElem?_eq_getElem hi]; rfl

/-! ### What a world must have (since the row of package layout is made by a call: nothing) -/
def GRow (w : World) : Prop := True
theorem GRow.kept {S : Nat → Prop} {w w' : World} (h : GRow w) (hk : Keeps S w w') : GRow w' := trivial

/-! ### Finders and books: all that they reach lies in [lo, hi) -/
/-- The places at which b stands in a row. -/
def symF (b : Int) : List Int → Nat → List Nat
  | [], _ => []
  | y :: r, i => if y = b then i :: symF b r (i + 1) else symF b r (i + 1)
theorem nthL_sym (b : Int) (ys : List Int) : ∀ k i, nthL b ys k i = (symF b ys i)[k]? := by
  induction ys with
  | nil => intro k i; simp [nthL, symF]
  | cons y r ih =>
    intro k i
    rw [nthL, symF]
    by_cases h : y = b
    · rw [if_pos h, if_pos h]
      cases k with
      | zero => simp
      | succ k => rw [if_neg (by omega), ih]; simp
    · rw [if_neg h, if_neg h, ih]
theorem symF_snoc (b : Int) (ys : List Int) (y : Int) : ∀ i, symF b (ys ++ [y]) i = symF b ys i ++ (if y = b then [i + ys.length] else []) := by
  induction ys with
  | nil => intro i; simp [symF]
  | cons z r ih =>
    intro i
    rw [List.cons_append, symF, symF, ih, List.length_cons, show i + 1 + r.length = i + (r.length + 1) by omega]
    by_cases h : z = b
    · rw [if_pos h, if_pos h, List.cons_append]
    · rw [if_neg h, if_neg h]
theorem symF_length (b : Nat) (ys : List Int) : ∀ i, (symF (b : Int) ys i).length = cnt ys b := by
  induction ys with
  | nil => intro i; simp [symF, cnt]
  | cons y r ih =>
    intro i
    rw [symF]
    unfold cnt at *
    by_cases h : y = (b : Int)
    · rw [if_pos h, List.length_cons, ih, List.countP_cons_of_pos (by simpa using h)]
    · rw [if_neg h, ih, List.countP_cons_of_neg (by simpa using h)]
theorem symF_lt (b : Int) (ys : List Int) : ∀ i, ∀ x ∈ symF b ys i, x < i + ys.length := by
  induction ys with
  | nil => intro i x hx; simp [symF] at hx
  | cons y r ih =>
    intro i x hx
    rw [symF] at hx
    by_cases h : y = b
    · rw [if_pos h, List.mem_cons] at hx
      rcases hx with rfl | hx
      · simp
      · have := ih (i + 1) x hx; simp; omega
    · rw [if_neg h] at hx
      have := ih (i + 1) x hx; simp; omega

def Fnd (w : World) (lo hi f : Nat) (ys : List Int) : Prop :=
  lo ≤ f ∧ f < hi ∧ hi ≤ w.heap.size ∧ ∀ k, 1 ≤ k → k ≤ 15 → ∃ (F : Nat) (a : Option Addr) (cap : Nat),
    w.cell? ⟨f, k, none⟩ = some (.int .i64 (F : Int)) ∧ w.cell? ⟨f, 16 + k, none⟩ = some (.slice a (symF (k : Int) ys 0).length cap) ∧
    (symF (k : Int) ys 0 ≠ [] → F = fstC (cn ys) k) ∧ F ≤ 20000000 ∧
    ∀ j (h : j < (symF (k : Int) ys 0).length), ∃ g, a = some ⟨g, 0, none⟩ ∧ lo ≤ g ∧ g < hi ∧ w.cell? ⟨g, j, none⟩ = some (.int .i64 (((symF (k : Int) ys 0)[j] : Nat) : Int))
theorem Fnd.kept {S : Nat → Prop} {w w' : World} {lo hi f : Nat} {ys : List Int} (h : Fnd w lo hi f ys) (hk : Keeps S w w') (hS : ∀ k, lo ≤ k → k < hi → ¬ S k) : Fnd w' lo hi f ys := by
  obtain ⟨h1, h2, h3, h4⟩ := h
  refine ⟨h1, h2, Nat.le_trans h3 hk.size, fun k hk1 hk2 => ?_⟩
  obtain ⟨F, a, cap, c1, c2, c3, c4, c5⟩ := h4 k hk1 hk2
  refine ⟨F, a, cap, ?_, ?_, c3, c4, fun j hj => ?_⟩
  · rw [World.cell?_of_block (hk.block f (by omega) (hS f h1 h2))]; exact c1
  · rw [World.cell?_of_block (hk.block f (by omega) (hS f h1 h2))]; exact c2
  · obtain ⟨g, e, g1, g2, g3⟩ := c5 j hj
    exact ⟨g, e, g1, g2, by rw [World.cell?_of_block (hk.block g (by omega) (hS g g1 g2))]; exact g3⟩
def Book (w : World) (lo hi q : Nat) (ys ds : List Int) : Prop :=
  ∃ f1 f2, w.heap[q]? = some (.cells #[.pointer (some ⟨f1, 0, none⟩), .pointer (some ⟨f2, 0, none⟩)] 92 (0, 0)) ∧ lo ≤ q ∧ q < hi ∧ Fnd w lo hi f1 ys ∧ Fnd w lo hi f2 ds
theorem Book.kept {S : Nat → Prop} {w w' : World} {lo hi q : Nat} {ys ds : List Int} (h : Book w lo hi q ys ds) (hk : Keeps S w w') (hS : ∀ k, lo ≤ k → k < hi → ¬ S k) : Book w' lo hi q ys ds := by
  obtain ⟨f1, f2, h1, h2, h3, h4, h5⟩ := h
  exact ⟨f1, f2, (hk.block q (lt_of_heap h1) (hS q h2 h3)).trans h1, h2, h3, h4.kept hk hS, h5.kept hk hS⟩

/-! ### A stream -/
def Away (lo hi b r : Nat) (v : Value) : Prop := (b < lo ∨ hi ≤ b) ∧ (r < lo ∨ hi ≤ r) ∧ ∀ k, v.ownBlock = some k → k < lo ∨ hi ≤ k
/-- What a stream's calls may turn. -/
def Own3 (b r : Nat) (v : Value) : Nat → Prop := fun k => k = b ∨ k = r ∨ v.ownBlock = some k
theorem Away.not {lo hi b r : Nat} {v : Value} (h : Away lo hi b r v) : ∀ k, lo ≤ k → k < hi → ¬ Own3 b r v k := by
  rintro k h1 h2 (rfl | rfl | e)
  · have := h.1; omega
  · have := h.2.1; omega
  · have := h.2.2 k e; omega
/-- The book of fixed blocks, if it is made already. -/
def Fix (w : World) (b r : Nat) (v u : Value) : Prop := u = .pointer none ∨ ∃ q lo hi, u = .pointer (some ⟨q, 0, none⟩) ∧ Book w lo hi q fixLs fiveLs ∧ Away lo hi b r v
structure St (w : World) (b r : Nat) (v : Value) (s : ByteArray) (most : Nat) (L : Bts) (xs : List Nat) : Prop where
  blk : ∃ u, w.heap[b]? = some (.cells #[.pointer (some ⟨r, 0, none⟩), v, .int .i64 (most : Int), u] 64 (0, 0)) ∧ Fix w b r v u
  rd : ∃ p, Rd 75 w r s p ∧ p ≤ 8 * s.size ∧ L = (bitsL (bytesOf s)).drop p
  own : OwnB w (b + 1) v xs
  rb : r < b
  sz : s.size ≤ 281474976710656
  lim : xs.length ≤ most
  most : most ≤ 8192
  byt : ∀ x ∈ xs, x < 256
structure Adv (w w' : World) (b r : Nat) (v v' : Value) : Prop where
  keep : Keeps (Own3 b r v) w w'
  own : v'.ownBlock = v.ownBlock ∨ ∃ g, v'.ownBlock = some g ∧ w.heap.size ≤ g
theorem Adv.refl (w : World) (b r : Nat) (v : Value) : Adv w w b r v v := ⟨Keeps.refl _ _, .inl rfl⟩
theorem Adv.trans {w w' w'' : World} {b r : Nat} {v v' v'' : Value} (h : Adv w w' b r v v') (k : Adv w' w'' b r v' v'') : Adv w w'' b r v v'' := by
  refine ⟨h.keep.trans k.keep ?_, ?_⟩
  · rintro i hi (e | e | e)
    · exact .inl e
    · exact .inr (.inl e)
    · rcases h.own with h1 | ⟨g, h1, h2⟩
      · rw [h1] at e; exact .inr (.inr e)
      · rw [h1] at e; cases e; omega
  · rcases k.own with k1 | ⟨g, k1, k2⟩
    · rw [k1]; exact h.own
    · exact .inr ⟨g, k1, Nat.le_trans h.keep.size k2⟩
theorem Adv.lost {w w' w'' : World} {b r : Nat} {v v' : Value} (h : Adv w w' b r v v') (k : Keeps (Own3 b r v') w' w'') : Keeps (Own3 b r v) w w'' :=
  (h.trans (⟨k, .inl rfl⟩ : Adv w' w'' b r v' v')).keep
theorem Adv.ofF {w w' : World} (b r : Nat) (v : Value) (h : Keeps (fun _ => False) w w') : Adv w w' b r v v := ⟨h.mono (fun _ _ h => h.elim), .inl rfl⟩
theorem Away.adv {lo hi : Nat} {w w' : World} {b r : Nat} {v v' : Value} (h : Away lo hi b r v) (k : Adv w w' b r v v') (hh : hi ≤ w.heap.size) : Away lo hi b r v' :=
  ⟨h.1, h.2.1, fun g e => by
    rcases k.own with k1 | ⟨q, k1, k2⟩
    · rw [k1] at e; exact h.2.2 g e
    · rw [k1] at e; cases e; omega⟩
theorem Book.hi {w : World} {lo hi q : Nat} {ys ds : List Int} (h : Book w lo hi q ys ds) : hi ≤ w.heap.size := by obtain ⟨_, _, _, _, _, h4, _⟩ := h; exact h4.2.2.1
theorem Fix.adv {w w' : World} {b r : Nat} {v v' u : Value} (h : Fix w b r v u) (k : Adv w w' b r v v') : Fix w' b r v' u := by
  rcases h with h | ⟨q, lo, hi, h1, h2, h3⟩
  · exact .inl h
  · exact .inr ⟨q, lo, hi, h1, h2.kept k.keep h3.not, h3.adv k h2.hi⟩
/-- What is read alone: the reader's block may have turned. -/
structure Rdv (w w' : World) (b r : Nat) (v : Value) : Prop where
  only : Keeps (fun k => k = r) w w'
theorem Rdv.refl (w : World) (b r : Nat) (v : Value) : Rdv w w b r v := ⟨Keeps.refl _ _⟩
theorem Rdv.adv {w w' : World} {b r : Nat} {v : Value} (h : Rdv w w' b r v) : Adv w w' b r v v := ⟨h.only.mono (fun _ _ e => .inr (.inl e)), .inl rfl⟩
theorem Rdv.keep {w w' : World} {b r : Nat} {v : Value} (h : Rdv w w' b r v) : Keeps (Own3 b r v) w w' := h.adv.keep
theorem Rdv.trans {w w' w'' : World} {b r : Nat} {v : Value} (h : Rdv w w' b r v) (k : Rdv w' w'' b r v) : Rdv w w'' b r v := ⟨h.only.trans k.only (fun _ _ e => e)⟩
theorem Rdv.lost {w w' w'' : World} {b r : Nat} {v : Value} (h : Rdv w w' b r v) (k : Keeps (Own3 b r v) w' w'') : Keeps (Own3 b r v) w w'' := h.adv.lost k
theorem Rdv.ofF {w w' : World} (b r : Nat) (v : Value) (h : Keeps (fun _ => False) w w') : Rdv w w' b r v := ⟨h.mono (fun _ _ h => h.elim)⟩
theorem St.ownlt {w : World} {b r : Nat} {v : Value} {s : ByteArray} {most : Nat} {L : Bts} {xs : List Nat} (h : St w b r v s most L xs) (k : Nat) (e : v.ownBlock = some k) : b < k ∧ k < w.heap.size := World.ownsRow.lt h.own k e
theorem St.lt {w : World} {b r : Nat} {v : Value} {s : ByteArray} {most : Nat} {L : Bts} {xs : List Nat} (h : St w b r v s most L xs) : b < w.heap.size := by obtain ⟨u, h1, _⟩ := h.blk; exact lt_of_heap h1
theorem St.len {w : World} {b r : Nat} {v : Value} {s : ByteArray} {most : Nat} {L : Bts} {xs : List Nat} (h : St w b r v s most L xs) : L.length ≤ 2251799813685248 := by
  obtain ⟨p, _, hp, rfl⟩ := h.rd
  have := h.sz
  rw [List.length_drop, bitsL_length, bytesOf_length]; omega
/-- Nothing that the stream is made of has turned. -/
theorem St.keptF {w w' : World} {b r : Nat} {v : Value} {s : ByteArray} {most : Nat} {L : Bts} {xs : List Nat} (h : St w b r v s most L xs) (hk : Keeps (fun _ => False) w w') : St w' b r v s most L xs := by
  obtain ⟨u, h1, h2⟩ := h.blk
  obtain ⟨p, p1, p2, p3⟩ := h.rd
  exact ⟨⟨u, (hk.block b h.lt (fun h => h)).trans h1, h2.adv (Adv.ofF b r v hk)⟩, ⟨p, p1.kept hk (fun h => h), p2, p3⟩, h.own.kept hk (fun _ _ h => h), h.rb, h.sz, h.lim, h.most, h.byt⟩
/-- The reader alone has gone on. -/
theorem St.read {w w' : World} {b r : Nat} {v : Value} {s : ByteArray} {most : Nat} {L : Bts} {xs : List Nat} (h : St w b r v s most L xs) {p : Nat} (hr : Read 75 w w' r s p) (hp : p ≤ 8 * s.size) : St w' b r v s most ((bitsL (bytesOf s)).drop p) xs ∧ Rdv w w' b r v := by
  have hk := hr.2
  have ha : Rdv w w' b r v := ⟨hk⟩
  obtain ⟨u, h1, h2⟩ := h.blk
  have hrb := h.rb
  refine ⟨⟨⟨u, (hk.block b h.lt (fun e => by omega)).trans h1, h2.adv ha.adv⟩, ⟨p, hr.1, hp, rfl⟩, h.own.kept hk (fun k e e2 => by have := (h.ownlt k e).1; omega), h.rb, h.sz, h.lim, h.most, h.byt⟩, ha⟩
theorem St.c0 {w : World} {b r : Nat} {v : Value} {s : ByteArray} {most : Nat} {L : Bts} {xs : List Nat} (h : St w b r v s most L xs) : w.cell? ⟨b, 0, none⟩ = some (.pointer (some ⟨r, 0, none⟩)) := by
  obtain ⟨u, h1, h2⟩ := h.blk; exact cell_of_heap h1 rfl
theorem St.c1 {w : World} {b r : Nat} {v : Value} {s : ByteArray} {most : Nat} {L : Bts} {xs : List Nat} (h : St w b r v s most L xs) : w.cell? ⟨b, 1, none⟩ = some v := by
  obtain ⟨u, h1, h2⟩ := h.blk; exact cell_of_heap h1 rfl
theorem St.c2 {w : World} {b r : Nat} {v : Value} {s : ByteArray} {most : Nat} {L : Bts} {xs : List Nat} (h : St w b r v s most L xs) : w.cell? ⟨b, 2, none⟩ = some (.int .i64 (most : Int)) := by
  obtain ⟨u, h1, h2⟩ := h.blk; exact cell_of_heap h1 rfl
theorem St.free {w : World} {b r : Nat} {v : Value} {s : ByteArray} {most : Nat} {L : Bts} {xs : List Nat} (h : St w b r v s most L xs) (i : Nat) : w.frozen? ⟨b, i, none⟩ = false := by
  obtain ⟨u, h1, h2⟩ := h.blk; exact frozen_of_heap h1

/-! ### number, above -/
theorem getL_none {k : Nat} {L : Bts} (h : getL k L = none) : L.length < k := by
  unfold getL at h; split at h
  · cases h
  · omega
theorem getL_some {k x : Nat} {L L' : Bts} (h : getL k L = some (x, L')) : k ≤ L.length ∧ x = val (L.take k) ∧ L' = L.drop k := by
  unfold getL at h; split at h
  · cases h; exact ⟨by assumption, rfl, rfl⟩
  · cases h
theorem getL_lt {k x : Nat} {L L' : Bts} (h : getL k L = some (x, L')) : x < 2 ^ k := by
  obtain ⟨h1, rfl, _⟩ := getL_some h
  have := val_lt (L.take k)
  rw [List.length_take, Nat.min_eq_left h1] at this; exact this
theorem St.getEnd {w : World} {b r : Nat} {v : Value} {s : ByteArray} {most : Nat} {L : Bts} {xs : List Nat} (h : St w b r v s most L xs) (k : Nat) (hk : k ≤ 16) (hg : getL k L = none) :
    Calls Try.prog 39 #[.pointer (some ⟨r, 0, none⟩), .int .i64 (k : Int)] w fun e w' => e = .returned (.tuple #[.int .i64 0, .int .i64 101]) ∧ Keeps (Own3 b r v) w w' := by
  obtain ⟨p, p1, p2, rfl⟩ := h.rd
  have hl := getL_none hg
  rw [List.length_drop, bitsL_length, bytesOf_length] at hl
  refine (get_end r p (k : Int) s w (by omega) (by omega) h.sz p2 (by omega) p1).mono ?_
  rintro e w' ⟨rfl, hr⟩
  exact ⟨rfl, hr.2.mono (fun _ _ e => .inr (.inl e))⟩
theorem St.getOk {w : World} {b r : Nat} {v : Value} {s : ByteArray} {most : Nat} {L : Bts} {xs : List Nat} (h : St w b r v s most L xs) (k x : Nat) (L' : Bts) (hk : k ≤ 16) (hg : getL k L = some (x, L')) :
    Calls Try.prog 39 #[.pointer (some ⟨r, 0, none⟩), .int .i64 (k : Int)] w fun e w' => e = .returned (.tuple #[.int .i64 (x : Int), .int .i64 0]) ∧ St w' b r v s most L' xs ∧ Rdv w w' b r v := by
  obtain ⟨p, p1, p2, rfl⟩ := h.rd
  obtain ⟨hl, rfl, rfl⟩ := getL_some hg
  have hz := h.sz
  rw [List.length_drop, bitsL_length, bytesOf_length] at hl
  refine (get_ok r p k s w (by omega) (by omega) (by omega) p1).mono ?_
  rintro e w' ⟨rfl, hr⟩
  have e1 : ((bitsL (bytesOf s)).drop p).take k = readBits (bytesOf s) p k := readBits_drop _ _ p k (by rw [bytesOf_length]; omega)
  have h2 := h.read hr (by omega)
  refine ⟨by rw [e1], ?_, h2.2⟩
  rw [List.drop_drop]
  exact h2.1

set_option maxHeartbeats 400000 in
theorem number_none {w : World} {b r : Nat} {v : Value} {s : ByteArray} {most : Nat} {L : Bts} {xs : List Nat} (h : St w b r v s most L xs) (k : Nat) (hk : k ≤ 16) (hg : getL k L = none) :
    Calls Try.prog 31 #[.pointer (some ⟨b, 0, none⟩), .int .i64 (k : Int)] w fun e w' => e = .returned (.tuple #[.int .i64 0, .int .i64 700]) ∧ Keeps (Own3 b r v) w w' := by
  have hc := h.c0
  have HC := h.getEnd k hk hg
  have HC' : Hid (Calls Try.prog 39 #[.pointer (some ⟨r, 0, none⟩), .int .i64 (k : Int)] w fun e w' => e = .returned (.tuple #[.int .i64 0, .int .i64 101]) ∧ Keeps (Own3 b r v) w w') := HC
  clear HC
  go_enter Try.func31, Try.ntmps31
  go_wp2_with fail
  refine HC'.out.mono ?_
  rintro e w' ⟨rfl, hw⟩
  have HW : Hid (Keeps (Own3 b r v) w w') := hw
  clear hw hc HC'
  go_wp2
  go_ret2
  exact ⟨rfl, HW.out⟩

set_option maxHeartbeats 400000 in
theorem number_some {w : World} {b r : Nat} {v : Value} {s : ByteArray} {most : Nat} {L : Bts} {xs : List Nat} (h : St w b r v s most L xs) (k x : Nat) (L' : Bts) (hk : k ≤ 16) (hg : getL k L = some (x, L')) :
    Calls Try.prog 31 #[.pointer (some ⟨b, 0, none⟩), .int .i64 (k : Int)] w fun e w' => e = .returned (.tuple #[.int .i64 (x : Int), .int .i64 0]) ∧ St w' b r v s most L' xs ∧ Rdv w w' b r v := by
  have hc := h.c0
  have HC := h.getOk k x L' hk hg
  have HC' : Hid (Calls Try.prog 39 #[.pointer (some ⟨r, 0, none⟩), .int .i64 (k : Int)] w fun e w' => e = .returned (.tuple #[.int .i64 (x : Int), .int .i64 0]) ∧ St w' b r v s most L' xs ∧ Rdv w w' b r v) := HC
  clear HC
  go_enter Try.func31, Try.ntmps31
  go_wp2_with fail
  refine HC'.out.mono ?_
  rintro e w' ⟨rfl, hw⟩
  have HW : Hid (St w' b r v s most L' xs ∧ Rdv w w' b r v) := hw
  clear hw hc HC'
  go_wp2
  go_ret2
  exact ⟨rfl, HW.out⟩

theorem aboveL_none {a k : Nat} {L : Bts} (h : aboveL a k L = none) : getL k L = none := by
  unfold aboveL bnd at h
  rcases hg : getL k L with _ | ⟨m, L1⟩
  · rfl
  · rw [hg] at h; simp [retL] at h
theorem aboveL_some {a k x : Nat} {L L' : Bts} (h : aboveL a k L = some (x, L')) : ∃ m, getL k L = some (m, L') ∧ x = a + m := by
  unfold aboveL bnd at h
  rcases hg : getL k L with _ | ⟨m, L1⟩
  · rw [hg] at h; simp at h
  · rw [hg] at h; simp [retL] at h; obtain ⟨rfl, rfl⟩ := h; exact ⟨m, rfl, rfl⟩

set_option maxHeartbeats 400000 in
theorem above_none {w : World} {b r : Nat} {v : Value} {s : ByteArray} {most : Nat} {L : Bts} {xs : List Nat} (h : St w b r v s most L xs) (a k : Nat) (hk : k ≤ 16) (hg : aboveL a k L = none) :
    Calls Try.prog 61 #[.pointer (some ⟨b, 0, none⟩), .int .i64 (a : Int), .int .i64 (k : Int)] w fun e w' => e = .returned (.tuple #[.int .i64 0, .int .i64 700]) ∧ Keeps (Own3 b r v) w w' := by
  have HS : Hid (St w b r v s most L xs) := h
  have HG : Hid (getL k L = none) := aboveL_none hg
  clear h hg
  go_enter Try.func61, Try.ntmps61
  go_wp2_with fail
  refine (number_none HS.out k hk HG.out).mono ?_
  rintro e w' ⟨rfl, hw⟩
  have HW : Hid (Keeps (Own3 b r v) w w') := hw
  clear hw
  go_wp2
  go_ret2
  exact ⟨rfl, HW.out⟩

set_option maxHeartbeats 400000 in
theorem above_some {w : World} {b r : Nat} {v : Value} {s : ByteArray} {most : Nat} {L : Bts} {xs : List Nat} (h : St w b r v s most L xs) (a k x : Nat) (L' : Bts) (ha : a ≤ 100000) (hk : k ≤ 16) (hg : aboveL a k L = some (x, L')) :
    Calls Try.prog 61 #[.pointer (some ⟨b, 0, none⟩), .int .i64 (a : Int), .int .i64 (k : Int)] w fun e w' => e = .returned (.tuple #[.int .i64 (x : Int), .int .i64 0]) ∧ St w' b r v s most L' xs ∧ Rdv w w' b r v := by
  have HS : Hid (St w b r v s most L xs) := h
  obtain ⟨m, hm, rfl⟩ := aboveL_some hg
  have hlt := getL_lt hm
  have hp : (2 : Nat) ^ k ≤ 2 ^ 16 := Nat.pow_le_pow_right (by decide) hk
  have hm1 : m ≤ 65536 := by omega
  have HG : Hid (getL k L = some (m, L')) := hm
  clear h hg hm hlt hp
  go_enter Try.func61, Try.ntmps61
  go_wp2_with fail
  refine (number_some HS.out k m L' hk HG.out).mono ?_
  rintro e w' ⟨rfl, hw⟩
  have HW : Hid (St w' b r v s most L' xs ∧ Rdv w w' b r v) := hw
  clear hw
  go_wp2
  go_ret2
  exact ⟨by push_cast; rfl, HW.out⟩

end Go.Proofs.Ytebjooebdehlnaa

/-
  The document's put: tokens by codes, and 256; upTo and few. The document's fives and order (also in Rsmall). The document's upTo, few, Stored and FixedBlock. The document's forest: three rows in a struct; a tree more, and the least free one.
-/
import Derived.Test.YtfbghchgfbjogaaGreatRows
import Derived.Test.YtfbghchgfbjogaaGreatF19
import Derived.BigQuiet
namespace Go.Proofs.YtfbghchgfbjogaaGreat.Bk
open Go.RowKit
open Hf Tb
open Mt (Tk RowT TkAt tk tk_eq mayF okT sumZ expF)
set_option linter.unusedVariables false
set_option linter.unusedSimpArgs false

/-- The document's writer, that has been written on since a world. -/
structure WS (w0 w : World) (b : Nat) (o0 o : Option Nat) (L : Bts) : Prop where
  wr : Wr 99 w b o L
  own : o = o0 ∨ ∃ g, o = some g ∧ w0.heap.size ≤ g
  keep : Keeps (fun k => k = b ∨ o0 = some k) w0 w
theorem WS.step {w0 w w' : World} {b : Nat} {o0 o : Option Nat} {L L' : Bts} (h : WS w0 w b o0 o L) (hO : Onto 99 w w' b o L') : ∃ o', WS w0 w' b o0 o' L' := by
  obtain ⟨o', h1, h2, h3⟩ := hO
  have hs := own_step h.own h.keep h2 h3
  exact ⟨o', h1, hs.1, hs.2⟩
theorem WS.keptF {w0 w w' : World} {b : Nat} {o0 o : Option Nat} {L : Bts} (h : WS w0 w b o0 o L) (hk : Keeps (fun _ => False) w w') : WS w0 w' b o0 o L :=
  ⟨h.wr.kept hk (fun h => h) (fun _ _ h => h), h.own, h.keep.trans hk (fun _ _ h => h.elim)⟩
theorem WS.fresh {w0 w w' : World} {b q : Nat} {o0 o : Option Nat} {L : Bts} (h : WS w0 w b o0 o L) (hk : Keeps (fun k => k = q) w w') (hq : w0.heap.size ≤ q) (hb : q ≠ b) (ho : o ≠ some q) : WS w0 w' b o0 o L :=
  ⟨h.wr.kept hk (fun e => hb e.symm) (fun k e e2 => ho (e2 ▸ e)), h.own, h.keep.trans hk (fun k hk2 e => by omega)⟩
/-- What is made behind a world is none of the writer's. -/
theorem WS.new {w0 w : World} {b q : Nat} {o0 o : Option Nat} {L : Bts} (h : WS w0 w b o0 o L) (hq : w.heap.size ≤ q) : q ≠ b ∧ o ≠ some q ∧ w0.heap.size ≤ q := by
  have hb := h.wr.lt
  have ho := h.wr.own
  have hz := h.keep.size
  exact ⟨by omega, fun e => by have := ho _ e; omega, by omega⟩
/-- A symbol that lies in a block of its own stays while the writer is written on. -/
theorem WS.syb {w0 w w' : World} {b q : Nat} {o0 o : Option Nat} {L L' : Bts} {s : Sy} (h : WS w0 w b o0 o L) (hy : Syb w q s) (hb : q ≠ b) (ho : o ≠ some q) (hO : Onto 99 w w' b o L') : ∃ o', WS w0 w' b o0 o' L' ∧ Syb w' q s ∧ o' ≠ some q := by
  obtain ⟨o', h1, h2, h3⟩ := hO
  have hs := own_step h.own h.keep h2 h3
  refine ⟨o', ⟨h1, hs.1, hs.2⟩, hy.kept h3 (by rintro (e | e); exact hb e; exact ho e), ?_⟩
  rcases h2 with e | ⟨g, e, hg⟩
  · rw [e]; exact ho
  · rw [e]; intro e2; cases e2; have := hy.lt; omega
/-- A block that is none of the writer's, and was there. -/
def Off (w0 : World) (b : Nat) (o0 : Option Nat) (g : Nat) : Prop := g < w0.heap.size ∧ g ≠ b ∧ o0 ≠ some g
theorem Off.not {w0 : World} {b : Nat} {o0 : Option Nat} {g : Nat} (h : Off w0 b o0 g) : ¬ (g = b ∨ o0 = some g) := by rintro (e | e); exact h.2.1 e; exact h.2.2 e
theorem WS.cds {w0 w : World} {b : Nat} {o0 o : Option Nat} {L : Bts} (h : WS w0 w b o0 o L) {g n : Nat} {f : Nat → Int × Int} (hc : Cds w0 g n f) (hg : Off w0 b o0 g) : Cds w g n f := hc.kept h.keep hg.not
theorem cds_at {w : World} {g : Nat} {ys : List Int} (h : Cds w g ys.length (codeF ys)) {i c : Nat} (hi : i < ys.length) (hc : at_ ys i = (c : Int)) : w.cell? ⟨g, i * 2, none⟩ = some (.int .i64 (c : Int)) ∧ w.cell? ⟨g, i * 2 + 1, none⟩ = some (.int .i64 (codeV ys i : Int)) := by
  have h1 := h.bits i hi
  have h2 := h.value i hi
  simp only [codeF, hc] at h1 h2; exact ⟨h1, h2⟩
theorem WS.code {w0 w : World} {b : Nat} {o0 o : Option Nat} {L : Bts} (h : WS w0 w b o0 o L) (zs : List Int) (hm : may zs = true) (hr : room zs ≤ 32768) {i c : Nat} (hi : i < zs.length) (hc : at_ zs i = (c : Int)) (h0 : 0 < c) (hL : L.length + 15 ≤ 65536) :
    Calls Tryz.prog 71 #[.pointer (some ⟨b, 0, none⟩), .agg #[.int .i64 (c : Int), .int .i64 (codeV zs i : Int)]] w fun e w' => e = .returned (.int .i64 0) ∧ ∃ o', WS w0 w' b o0 o' (L ++ codeB zs i) := by
  have h15 := may_at hm i hi
  rw [← at_eq i hi, hc] at h15
  refine (Bt.rcode_ok b o L (codeV zs i) c w (by omega) (by omega) (codeV_pow zs hr i c hi hc h0 (by omega)) (by omega) h.wr).mono ?_
  rintro e w' ⟨rfl, ho⟩
  refine ⟨rfl, h.step ?_⟩
  unfold codeB
  rw [hc, Int.toNat_natCast]; exact ho
theorem WS.put {w0 w : World} {b : Nat} {o0 o : Option Nat} {L : Bts} (h : WS w0 w b o0 o L) (v k : Nat) (hk : k ≤ 16) (hv : v < 2 ^ k) (hL : L.length + k ≤ 65536) :
    Calls Tryz.prog 60 #[.pointer (some ⟨b, 0, none⟩), .int .i64 (v : Int), .int .i64 (k : Int)] w fun e w' => e = .returned (.int .i64 0) ∧ ∃ o', WS w0 w' b o0 o' (L ++ bitsOf v k) := by
  refine (Bt.rput_ok b o L v k w (by omega) hv hL h.wr).mono ?_
  rintro e w' ⟨rfl, ho⟩
  exact ⟨rfl, h.step ho⟩
def PutPost (ys ds : List Int) (ts : List Tk) (w : World) (b : Nat) (o : Option Nat) (L : Bts) (e : Ending) (w' : World) : Prop :=
  e = .returned (.tuple #[]) ∧ ∃ o', WS w w' b o o' (L ++ (tksB ys ds ts ++ codeB ys 256))

set_option maxHeartbeats 8000000 in
set_option maxRecDepth 100000 in
theorem rputT_ok {w : World} {b : Nat} {o : Option Nat} {L : Bts} (h : Wr 99 w b o L) (g1 n1 c1 g2 n2 c2 : Nat) (ys ds : List Int) (h1 : Cds w g1 ys.length (codeF ys)) (h2 : Cds w g2 ds.length (codeF ds)) (hn1 : ys.length = n1) (hn2 : ds.length = n2) (f1 : Off w b o g1) (f2 : Off w b o g2) (hF : Full ys ds) (a : Option Addr) (cap : Nat) (ts : List Tk) (hR : RowT w a ts) (hN : ts.length ≤ 300) (hok : ∀ t ∈ ts, ∃ a, Mt.okT t a = true) (hh : ∀ t ∈ ts, hasT ys ds t) (h256 : 0 < at_ ys 256) (hL : L.length ≤ 40000) (ha : ts = [] ∨ ∀ x, a = some x → Off w b o x.block) :
    Calls Tryz.prog 65 #[.pointer (some ⟨b, 0, none⟩), .slice a ts.length cap, .slice (some ⟨g1, 0, none⟩) n1 c1, .slice (some ⟨g2, 0, none⟩) n2 c2] w (PutPost ys ds ts w b o L) := by
  obtain ⟨Q, hQ⟩ : ∃ Q, PutPost ys ds ts w b o L = Q := ⟨_, rfl⟩
  rw [hQ]
  have HQ : Hid (PutPost ys ds ts w b o L = Q) := hQ
  clear hQ
  have HI : Hid (∀ i w' o' L', i < ts.length → WS w w' b o o' L' → ∀ tb off, a = some ⟨tb, off, none⟩ → ∀ w1, Keeps (fun _ => False) w' w1 → TkAt w1 tb (off + i * 3) (tk ts i)) := fun i w' o' L' hi hI tb off e w1 hk => by
    subst e
    have := ha.resolve_left (fun h => by subst h; simp at hi) ⟨tb, off, none⟩ rfl
    exact RowT.cell (RowT.keptN (RowT.keptN hR hI.keep (.inr (fun x e => by cases e; exact this.not))) hk (.inr (fun _ _ h => h))) hi
  have HLen : Hid (∀ (k : Int) (w : World), Calls Tryz.prog 66 #[.int .i64 k] w fun e w' => e = .returned (.tuple #[syV (symL k), .int .i64 (errB (inL k))]) ∧ Keeps (fun _ => False) w w') := rlength_ok
  have HDis : Hid (∀ (k : Int) (w : World), Calls Tryz.prog 67 #[.int .i64 k] w fun e w' => e = .returned (.tuple #[syV (symD k), .int .i64 (errB (inD k))]) ∧ Keeps (fun _ => False) w w') := rdist_ok
  have HSp : Hid (0 < ts.length → ∃ tb off, a = some ⟨tb, off, none⟩) := fun hn => by obtain ⟨tb, off, rfl, _⟩ := hR.at hn; exact ⟨tb, off, rfl⟩
  have HB : Hid (Full ys ds ∧ Cds w g1 ys.length (codeF ys) ∧ Cds w g2 ds.length (codeF ds) ∧ Off w b o g1 ∧ Off w b o g2 ∧ ys.length = n1 ∧ ds.length = n2 ∧ 0 < at_ ys 256 ∧ L.length ≤ 40000) := ⟨hF, h1, h2, f1, f2, hn1, hn2, h256, hL⟩
  have HTl : Hid (∀ i, (tksB ys ds (ts.take i)).length ≤ 48 * 300) := fun i => by
    have := tksB_len hF (ts.take i) (fun t ht => hok t (List.mem_of_mem_take ht)) (fun t ht => hh t (List.mem_of_mem_take ht))
    rw [List.length_take] at this; omega
  have HOk : Hid (∀ i, i < ts.length → (∃ c, Mt.okT (tk ts i) c = true) ∧ hasT ys ds (tk ts i)) := fun i hi => by
    rw [tk_eq i hi]; exact ⟨hok _ (List.getElem_mem hi), hh _ (List.getElem_mem hi)⟩
  have HT1 : Hid (∀ i, i < ts.length → tksB ys ds (ts.take (i + 1)) = tksB ys ds (ts.take i) ++ tkB ys ds (tk ts i)) := fun i hi => by rw [take_succ_tk ts i hi, tksB_snoc]
  have HW0 : Hid (∃ o', WS w w b o o' (L ++ tksB ys ds (ts.take 0))) := ⟨o, by simp only [List.take_zero, tksB, List.flatMap_nil, List.append_nil]; exact ⟨h, .inl rfl, Keeps.refl _ w⟩⟩
  have HE : Hid (ts.take ts.length = ts) := List.take_length
  obtain ⟨N, hN2⟩ : ∃ N, ts.length = N := ⟨_, rfl⟩
  rw [hN2] at HI HSp HOk HT1 HE hN ⊢
  clear hN2 hR hok hh h256 hL ha h h1 h2 hF hn1 hn2 f1 f2
  go_enter Tryz.func65, Tryz.ntmps65
  go_wp2_with fail
  go_loopw [8] (fun s8 w' => ∃ i : Nat, i ≤ N ∧ s8 = .int .i64 (i : Int) ∧ Hid (∃ o', WS w w' b o o' (L ++ tksB ys ds (ts.take i)))) (fun s8 w' => ((N : Int) - intOf s8).toNat)
  case atStart => exact ⟨0, by omega, rfl, HW0⟩
  case round =>
    clear HW0
    obtain ⟨i, hi, rfl, HW⟩ := hrel
    obtain ⟨o', hS⟩ := HW.out
    have HS := hide hS
    obtain ⟨Li, hLi⟩ : ∃ Li, L ++ tksB ys ds (ts.take i) = Li := ⟨_, rfl⟩
    have HLi : Hid (L ++ tksB ys ds (ts.take i) = Li ∧ Li.length ≤ 54400) := ⟨hLi, by rw [← hLi, List.length_append]; have := HTl.out i; have := HB.out.2.2.2.2.2.2.2.2; omega⟩
    rw [hLi] at HS
    clear HW hS hLi
    by_cases hin : i < N
    · have hiz : (i : Int) < (N : Int) := by omega
      obtain ⟨tb, off, ha⟩ := HSp.out (by omega)
      subst ha
      obtain ⟨⟨l, n, d⟩, ht⟩ : ∃ t, tk ts i = t := ⟨_, rfl⟩
      obtain ⟨⟨c, hc⟩, hx⟩ := HOk.out i hin
      have HTi : Hid (L ++ tksB ys ds (ts.take (i + 1)) = Li ++ tkB ys ds (l, n, d)) := by
        show _ = _
        rw [HT1.out i hin, ht, ← List.append_assoc, HLi.out.1]
      rw [ht] at hc hx
      obtain ⟨t0, t1, t2⟩ := HI.out i wr o' Li hin HS.out tb off rfl wr (Keeps.refl _ _)
      rw [ht] at t0 t1 t2
      simp only at t0 t1 t2
      by_cases hn0 : n = 0
      · subst hn0
        have hb : Mt.isB (l, 0, d) = true := by
          rcases (Mt.okT_iff hc).1 with h1 | h1
          · exact h1
          · have := Mt.isC_iff h1; simp only at this; omega
        have hb2 := Mt.isB_iff hb
        simp only at hb2
        unfold hasT at hx
        rw [if_pos rfl] at hx
        obtain ⟨m, rfl⟩ : ∃ m : Nat, l = (m : Int) := ⟨l.toNat, by omega⟩
        simp only [Int.toNat_natCast] at hx
        have hml := lt_of_at hx
        have h15 := may_at HB.out.1.m1 m hml
        rw [← at_eq m hml] at h15
        obtain ⟨q, hq⟩ : ∃ q : Nat, at_ ys m = (q : Int) := ⟨(at_ ys m).toNat, by omega⟩
        obtain ⟨z1, z2⟩ := cds_at (HS.out.cds HB.out.2.1 HB.out.2.2.2.1) hml hq
        have HC := hide (HS.out.code ys HB.out.1.m1 HB.out.1.r1 hml hq (by omega) (by have := HLi.out.2; omega))
        have e2 : tkB ys ds ((m : Int), 0, d) = codeB ys m := by unfold tkB; rw [if_pos rfl]; rfl
        rw [e2] at HTi
        have hmz : (m : Int) < (n1 : Int) := by have := HB.out.2.2.2.2.2.1; omega
        generalize codeV ys m = V at *
        clear hb hb2 hx hml h15 hq hc ht e2
        go_wp2_with fail
        refine HC.out.mono ?_
        rintro e w6 ⟨rfl, hO6⟩
        have HW6 : Hid (∃ o', WS w w6 b o o' (L ++ tksB ys ds (ts.take (i + 1)))) := by rw [HTi.out]; exact hO6
        clear hO6 HC z1 z2 t0 t1 t2 HS HLi HTi
        go_wp2
        go_roundw
        case rel => exact ⟨i + 1, by omega, by push_cast; rfl, HW6⟩
        case measure => simp [intOf]; omega
      · have hb : Mt.isC (l, n, d) c = true := by
          rcases (Mt.okT_iff hc).1 with h1 | h1
          · have := Mt.isB_iff h1; simp only at this; omega
          · exact h1
        have hb2 := Mt.isC_iff hb
        simp only at hb2
        unfold hasT at hx
        rw [if_neg hn0] at hx
        obtain ⟨x, rfl⟩ : ∃ x : Nat, n = (x : Int) := ⟨n.toNat, by omega⟩
        obtain ⟨y, rfl⟩ : ∃ y : Nat, d = (y : Int) := ⟨d.toNat, by omega⟩
        obtain ⟨j, f, j1, j2, j3, j4, j5⟩ := symL_is x (by omega) (by omega)
        obtain ⟨k, g, k1, k2, k3, k4, k5⟩ := symD_is y (by omega) (by omega)
        have e2 : tkB ys ds (l, (x : Int), (y : Int)) = codeB ys (257 + j) ++ (bitsOf f (lenF j).2 ++ (codeB ds k ++ bitsOf g (dstF k).2)) := by
          unfold tkB
          rw [if_neg hn0]
          simp only [j2, k2, moreB, Int.toNat_natCast]
        simp only [j2, k2, Int.toNat_natCast] at hx
        rw [e2] at HTi
        have HL1 : Hid (∀ (w : World), Calls Tryz.prog 66 #[.int .i64 (x : Int)] w fun e w' => e = .returned (.tuple #[.agg #[.int .i64 ((257 + j : Nat) : Int), .int .i64 ((lenF j).2 : Int), .int .i64 (f : Int)], .int .i64 (errB (inL (x : Int)))]) ∧ Keeps (fun _ => False) w w') := fun w => by have := HLen.out (x : Int) w; rw [j2] at this; exact this
        have HD1 : Hid (∀ (w : World), Calls Tryz.prog 67 #[.int .i64 (y : Int)] w fun e w' => e = .returned (.tuple #[.agg #[.int .i64 (k : Int), .int .i64 ((dstF k).2 : Int), .int .i64 (g : Int)], .int .i64 (errB (inD (y : Int)))]) ∧ Keeps (fun _ => False) w w') := fun w => by have := HDis.out (y : Int) w; rw [k2] at this; exact this
        have hml := lt_of_at hx.1
        have hkl := lt_of_at hx.2
        have h15 := may_at HB.out.1.m1 (257 + j) hml
        have h16 := may_at HB.out.1.m2 k hkl
        rw [← at_eq _ hml] at h15
        rw [← at_eq _ hkl] at h16
        obtain ⟨q, hq⟩ : ∃ q : Nat, at_ ys (257 + j) = (q : Int) := ⟨(at_ ys (257 + j)).toNat, by omega⟩
        obtain ⟨r, hr⟩ : ∃ r : Nat, at_ ds k = (r : Int) := ⟨(at_ ds k).toNat, by omega⟩
        have hq15 : 1 ≤ q ∧ q ≤ 15 := by omega
        have hr15 : 1 ≤ r ∧ r ≤ 15 := by omega
        have l1 : (codeB ys (257 + j)).length ≤ 15 := by rw [codeB_length, hq]; omega
        have l2 : (codeB ds k).length ≤ 15 := by rw [codeB_length, hr]; omega
        obtain ⟨I, hI⟩ : ∃ I, 257 + j = I := ⟨_, rfl⟩
        obtain ⟨bl, hbl⟩ : ∃ m, (lenF j).2 = m := ⟨_, rfl⟩
        obtain ⟨bd, hbd⟩ : ∃ m, (dstF k).2 = m := ⟨_, rfl⟩
        rw [hI, hbl] at HL1
        rw [hbd] at HD1
        rw [hI, hbl, hbd] at HTi
        rw [hI] at hq hml l1
        rw [hbl] at j4
        rw [hbd] at k4
        have HCo1 : Hid (∀ w' o'' L'', L''.length + 15 ≤ 65536 → WS w w' b o o'' L'' → (w'.cell? ⟨g1, I * 2, none⟩ = some (.int .i64 (q : Int)) ∧ w'.cell? ⟨g1, I * 2 + 1, none⟩ = some (.int .i64 (codeV ys I : Int))) ∧ Calls Tryz.prog 71 #[.pointer (some ⟨b, 0, none⟩), .agg #[.int .i64 (q : Int), .int .i64 (codeV ys I : Int)]] w' fun e w'' => e = .returned (.int .i64 0) ∧ Onto 99 w' w'' b o'' (L'' ++ codeB ys I)) := fun w' o'' L'' hl hs => by
          refine ⟨cds_at (hs.cds HB.out.2.1 HB.out.2.2.2.1) hml hq, ?_⟩
          refine (Bt.rcode_ok b o'' L'' (codeV ys I) q w' (by omega) (by omega) (codeV_pow ys HB.out.1.r1 I q hml hq (by omega) (by omega)) (by omega) hs.wr).mono ?_
          rintro e w'' ⟨rfl, ho⟩
          unfold codeB; rw [hq, Int.toNat_natCast]; exact ⟨rfl, ho⟩
        have HCo2 : Hid (∀ w' o'' L'', L''.length + 15 ≤ 65536 → WS w w' b o o'' L'' → (w'.cell? ⟨g2, k * 2, none⟩ = some (.int .i64 (r : Int)) ∧ w'.cell? ⟨g2, k * 2 + 1, none⟩ = some (.int .i64 (codeV ds k : Int))) ∧ Calls Tryz.prog 71 #[.pointer (some ⟨b, 0, none⟩), .agg #[.int .i64 (r : Int), .int .i64 (codeV ds k : Int)]] w' fun e w'' => e = .returned (.int .i64 0) ∧ Onto 99 w' w'' b o'' (L'' ++ codeB ds k)) := fun w' o'' L'' hl hs => by
          refine ⟨cds_at (hs.cds HB.out.2.2.1 HB.out.2.2.2.2.1) hkl hr, ?_⟩
          refine (Bt.rcode_ok b o'' L'' (codeV ds k) r w' (by omega) (by omega) (codeV_pow ds HB.out.1.r2 k r hkl hr (by omega) (by omega)) (by omega) hs.wr).mono ?_
          rintro e w'' ⟨rfl, ho⟩
          unfold codeB; rw [hr, Int.toNat_natCast]; exact ⟨rfl, ho⟩
        have HPu1 : Hid (∀ w' o'' L'', L''.length + 16 ≤ 65536 → WS w w' b o o'' L'' → Calls Tryz.prog 60 #[.pointer (some ⟨b, 0, none⟩), .int .i64 (f : Int), .int .i64 (bl : Int)] w' fun e w'' => e = .returned (.int .i64 0) ∧ Onto 99 w' w'' b o'' (L'' ++ bitsOf f bl)) := fun w' o'' L'' hl hs => Bt.rput_ok b o'' L'' f bl w' (by omega) j4 (by omega) hs.wr
        have HPu2 : Hid (∀ w' o'' L'', L''.length + 16 ≤ 65536 → WS w w' b o o'' L'' → Calls Tryz.prog 60 #[.pointer (some ⟨b, 0, none⟩), .int .i64 (g : Int), .int .i64 (bd : Int)] w' fun e w'' => e = .returned (.int .i64 0) ∧ Onto 99 w' w'' b o'' (L'' ++ bitsOf g bd)) := fun w' o'' L'' hl hs => Bt.rput_ok b o'' L'' g bd w' (by omega) k4 (by omega) hs.wr
        have hIz : (I : Int) < (n1 : Int) := by have := HB.out.2.2.2.2.2.1; omega
        have hkz : (k : Int) < (n2 : Int) := by have := HB.out.2.2.2.2.2.2.1; omega
        have HLs : Hid ((codeB ys I).length ≤ 15 ∧ (codeB ds k).length ≤ 15 ∧ (bitsOf f bl).length ≤ 16 ∧ (bitsOf g bd).length ≤ 16) := ⟨l1, l2, by rw [bitsOf_length]; omega, by rw [bitsOf_length]; omega⟩
        generalize errB (inL (x : Int)) = er1 at *
        generalize errB (inD (y : Int)) = er2 at *
        generalize codeV ys I = V at *
        generalize codeV ds k = W at *
        have HTd : Hid (∀ w' o'' L'', WS w w' b o o'' L'' → w'.cell? ⟨tb, off + i * 3 + 2, none⟩ = some (.int .i64 (y : Int))) := fun w' o'' L'' hs => by
          have := (HI.out i w' o'' L'' hin hs tb off rfl w' (Keeps.refl _ _)).2.2
          rw [ht] at this; exact this
        clear hb hb2 hx hml hkl h15 h16 hq hr hc e2 l1 l2 hI hbl hbd j1 j2 j3 j4 j5 k1 k2 k3 k4 k5 HLen HDis ht
        go_wp2_with fail
        refine (HL1.out wr).mono ?_
        rintro e w1 ⟨rfl, hK1⟩
        have H1 := hide (HS.out.keptF hK1)
        clear hK1 HL1 t0 t1 t2 HS
        go_wp2_with (first
          | (refine Tb.wpList_alloc3 rfl rfl ?_; intro q1 w2 hY2 hK2 hq2)
          | (refine Tb.wpList_store3 rfl _ _ rfl q1 ((I : Int), (bl : Int), (f : Int)) rfl rfl (0, 0, 0) hY2 ?_; intro w3 hY3 hK3; have H3 : Hid (WS w w3 b o o' Li ∧ q1 ≠ b ∧ o' ≠ some q1 ∧ Syb w3 q1 ((I : Int), (bl : Int), (f : Int))) := (by have hn := H1.out.new hq2; exact ⟨(H1.out.keptF hK2).fresh hK3 hn.2.2 hn.1 hn.2.1, hn.1, hn.2.1, hY3⟩); have hs0 := hY3.c0; obtain ⟨⟨z1, z2⟩, hC1⟩ := HCo1.out w3 o' Li (by have := HLi.out.2; omega) H3.out.1; have HC1 := hide hC1; clear hK2 hK3 hY2 hq2 hY3 hC1))
        refine HC1.out.mono ?_
        rintro e w4 ⟨rfl, hO4⟩
        obtain ⟨o4, hW4, hY4, hn4⟩ := H3.out.1.syb H3.out.2.2.2 H3.out.2.1 H3.out.2.2.1 hO4
        have c41 := hY4.c1
        have c42 := hY4.c2
        have H4 : Hid (WS w w4 b o o4 (Li ++ codeB ys I) ∧ q1 ≠ b ∧ o4 ≠ some q1 ∧ Syb w4 q1 ((I : Int), (bl : Int), (f : Int))) := ⟨hW4, H3.out.2.1, hn4, hY4⟩
        have HP4 := hide (HPu1.out w4 o4 _ (by have := HLi.out.2; have := HLs.out; rw [List.length_append]; omega) hW4)
        clear HC1 hO4 hW4 hY4 hn4 H3 H1 z1 z2 hs0 HCo1 HPu1
        go_wp2_with fail
        refine HP4.out.mono ?_
        rintro e w5 ⟨rfl, hO5⟩
        obtain ⟨o5, hW5⟩ := H4.out.1.step hO5
        have td := HTd.out w5 o5 _ hW5
        have H5 := hide hW5
        clear HP4 hO5 hW5 H4 c41 c42
        go_wp2_with fail
        refine (HD1.out w5).mono ?_
        rintro e w6 ⟨rfl, hK6⟩
        have H6 := hide (H5.out.keptF hK6)
        clear hK6 HD1 H5 td HTd
        go_wp2_with (first
          | (refine Tb.wpList_alloc3 rfl rfl ?_; intro q2 w7 hY7 hK7 hq7)
          | (refine Tb.wpList_store3 rfl _ _ rfl q2 ((k : Int), (bd : Int), (g : Int)) rfl rfl (0, 0, 0) hY7 ?_; intro w8 hY8 hK8; have H8 : Hid (WS w w8 b o o5 (Li ++ codeB ys I ++ bitsOf f bl) ∧ q2 ≠ b ∧ o5 ≠ some q2 ∧ Syb w8 q2 ((k : Int), (bd : Int), (g : Int))) := (by have hn := H6.out.new hq7; exact ⟨(H6.out.keptF hK7).fresh hK8 hn.2.2 hn.1 hn.2.1, hn.1, hn.2.1, hY8⟩); have hs0 := hY8.c0; obtain ⟨⟨z1, z2⟩, hC2⟩ := HCo2.out w8 o5 _ (by have := HLi.out.2; have := HLs.out; rw [List.length_append, List.length_append]; omega) H8.out.1; have HC2 := hide hC2; clear hK7 hK8 hY7 hq7 hY8 hC2))
        refine HC2.out.mono ?_
        rintro e w9 ⟨rfl, hO9⟩
        obtain ⟨o9, hW9, hY9, hn9⟩ := H8.out.1.syb H8.out.2.2.2 H8.out.2.1 H8.out.2.2.1 hO9
        have c91 := hY9.c1
        have c92 := hY9.c2
        have H9 := hide hW9
        have HP9 := hide (HPu2.out w9 o9 _ (by have := HLi.out.2; have := HLs.out; rw [List.length_append, List.length_append, List.length_append]; omega) hW9)
        clear HC2 hO9 hW9 hY9 hn9 H8 H6 z1 z2 hs0 HCo2 HPu2
        go_wp2_with fail
        refine HP9.out.mono ?_
        rintro e wa ⟨rfl, hOa⟩
        have HW6 : Hid (∃ o', WS w wa b o o' (L ++ tksB ys ds (ts.take (i + 1)))) := by
          rw [HTi.out]
          obtain ⟨oa, hWa⟩ := H9.out.step hOa
          refine ⟨oa, ?_⟩
          simp only [List.append_assoc] at hWa
          exact hWa
        clear hOa HP9 H9 c91 c92 HTi HLi HLs
        go_wp2
        go_roundw
        case rel => exact ⟨i + 1, by omega, by push_cast; rfl, HW6⟩
        case measure => simp [intOf]; omega
    · obtain rfl : i = N := by omega
      have hml := lt_of_at HB.out.2.2.2.2.2.2.2.1
      have h15 := may_at HB.out.1.m1 256 hml
      rw [← at_eq 256 hml] at h15
      obtain ⟨q, hq⟩ : ∃ q : Nat, at_ ys 256 = (q : Int) := ⟨(at_ ys 256).toNat, by omega⟩
      obtain ⟨z1, z2⟩ := cds_at (HS.out.cds HB.out.2.1 HB.out.2.2.2.1) hml hq
      have HC := hide (HS.out.code ys HB.out.1.m1 HB.out.1.r1 hml hq (by have := HB.out.2.2.2.2.2.2.2.1; omega) (by have := HLi.out.2; omega))
      have h256 : (256 : Int) < (n1 : Int) := by have := HB.out.2.2.2.2.2.1; omega
      have HLe : Hid (Li = L ++ tksB ys ds ts) := by show Li = _; rw [← HLi.out.1, HE.out]
      generalize codeV ys 256 = V at *
      clear hml h15 hq HI HLen HDis HSp HTl HOk HT1 HE HLi HS
      go_wp2_with fail
      refine HC.out.mono ?_
      rintro e w6 ⟨rfl, hO6⟩
      have HF : Hid (PutPost ys ds ts w b o L (.returned (.tuple #[])) w6) := by
        refine ⟨rfl, ?_⟩
        rw [HLe.out, List.append_assoc] at hO6; exact hO6
      clear hO6 HC z1 z2
      go_wp2
      go_end0
      rw [← HQ.out]; exact HF.out

end Go.Proofs.YtfbghchgfbjogaaGreat.Bk

namespace Go.Proofs.YtfbghchgfbjogaaGreat.Bk
open Go.RowKit
open Hf Tb
set_option linter.unusedVariables false
set_option linter.unusedSimpArgs false

def fiveN (i : Nat) : List Int := List.replicate i 5 ++ List.replicate (30 - i) 0
theorem fiveN_set : ∀ i : Fin 30, (fiveN i.val).set i.val 5 = fiveN (i.val + 1) := by decide +kernel
theorem fiveN_length (i : Nat) (h : i ≤ 30) : (fiveN i).length = 30 := by unfold fiveN; simp; omega

set_option maxHeartbeats 1000000 in
set_option maxRecDepth 100000 in
theorem rfives_ok (w : World) : Calls Tryz.prog 54 #[] w fun e w' => ∃ g, e = .returned (.slice (some ⟨g, 0, none⟩) 30 30) ∧ Blk w' g fiveLs ∧ Keeps (fun _ => False) w w' := by
  go_enter Tryz.func54, Tryz.ntmps54
  go_wp2_with (refine wpList_zeros rfl _ _ rfl 30 rfl rfl (by omega) ?_; intro g w3 hB3 hK3 hg3)
  have H3 : Hid (Blk w3 g (fiveN 0) ∧ Keeps (fun _ => False) w w3 ∧ w.heap.size ≤ g) := ⟨hB3, hK3, hg3⟩
  clear hB3 hK3 hg3
  go_loopw [2] (fun s2 w' => ∃ i : Nat, i ≤ 30 ∧ s2 = .int .i64 (i : Int) ∧ Hid (Blk w' g (fiveN i) ∧ Keeps (fun _ => False) w w' ∧ w.heap.size ≤ g)) (fun s2 _ => (30 - intOf s2).toNat)
  case atStart => exact ⟨0, by omega, rfl, H3⟩
  case round =>
    clear H3
    obtain ⟨i, hi, rfl, HW⟩ := hrel
    by_cases hin : i < 30
    · have hiz : (i : Int) < 30 := by omega
      have hc := HW.out.1.cell i (by rw [fiveN_length i hi]; exact hin)
      have hf := HW.out.1.free i
      generalize (fiveN i)[i]'_ = t at hc
      go_wp2
      go_roundw
      case rel =>
        refine ⟨i + 1, by omega, by push_cast; rfl, ?_, HW.out.2.1.setCell (p := ⟨g, i, none⟩) (fun hx => by have := HW.out.2.2; simp only at hx; omega) _, HW.out.2.2⟩
        have := Blk.set HW.out.1 i 5
        rw [fiveN_set ⟨i, hin⟩] at this; exact this
      case measure => simp [intOf]; omega
    · obtain rfl : i = 30 := by omega
      go_wp2
      go_ret
      exact ⟨g, rfl, HW.out.1, HW.out.2.1⟩

def rowI : List Int := rowL.map (fun (n : Nat) => (n : Int))
set_option maxHeartbeats 1000000 in
set_option maxRecDepth 100000 in
theorem rorder_ok (w : World) : Calls Tryz.prog 70 #[] w fun e w' => ∃ g, e = .returned (.slice (some ⟨g, 0, none⟩) 19 19) ∧ Blk w' g rowI ∧ Keeps (fun _ => False) w w' ∧ w.heap.size ≤ g := by
  go_enter Tryz.func70, Tryz.ntmps70
  go_wp2
  go_ret
  exact ⟨w.heap.size, rfl, Blk.lit w rowI, (Keeps.refl _ w).alloc _, Nat.le_refl _⟩


end Go.Proofs.YtfbghchgfbjogaaGreat.Bk

namespace Go.Proofs.YtfbghchgfbjogaaGreat.Bk
open Go.RowKit
open Hf Tb
open Mt (Tk RowT mayF okT sumZ expF)
set_option linter.unusedVariables false
set_option linter.unusedSimpArgs false

set_option maxHeartbeats 2000000 in
set_option maxRecDepth 100000 in
theorem rupTo_ok (g n cap least : Nat) (ys : List Int) (w : World) (hP : Pfx w g ys) (hn : ys.length = n) (hy : ∀ y ∈ ys, 0 ≤ y) (hl : least ≤ n) (hl1 : 1 ≤ least) (hn2 : n ≤ 1000) :
    Calls Tryz.prog 69 #[.slice (some ⟨g, 0, none⟩) n cap, .int .i64 (least : Int)] w fun e w' => e = .returned (.int .i64 (upL ys least : Int)) ∧ Keeps (fun _ => False) w w' := by
  have HP : Hid (Pfx w g ys ∧ ys.length = n ∧ ∀ y ∈ ys, 0 ≤ y) := ⟨hP, hn, hy⟩
  have HE : Hid (upN ys least n = upL ys least) := by show upN ys least n = upL ys least; rw [← hn]; rfl
  clear hP hn hy
  obtain ⟨U, hU⟩ : ∃ U, upL ys least = U := ⟨_, rfl⟩
  rw [hU] at HE ⊢
  clear hU
  go_enter Tryz.func69, Tryz.ntmps69
  go_wp2
  go_loopw [5] (fun s5 w' => ∃ m : Nat, least ≤ m ∧ m ≤ n ∧ s5 = .int .i64 (m : Int) ∧ Hid (upN ys least m = U ∧ Keeps (fun _ => False) w w')) (fun s5 w' => (intOf s5).toNat)
  case atStart => exact ⟨n, hl, Nat.le_refl _, rfl, HE.out, Keeps.refl _ w⟩
  case round =>
    obtain ⟨m, hm1, hm2, rfl, HW⟩ := hrel
    by_cases hml : m = least
    · subst hml
      have e : m = U := by rw [← HW.out.1]; exact (upN_stay ys m m (Nat.le_refl _)).symm
      subst e
      have hz : ¬ ((m : Int) < (m : Int)) := by omega
      go_wp2
      go_ret
      exact ⟨rfl, HW.out.2⟩
    · obtain ⟨k, rfl⟩ : ∃ k, m = k + 1 := ⟨m - 1, by omega⟩
      have hk1 : (least : Int) < ((k + 1 : Nat) : Int) := by omega
      have hw1 : wrap64 (((k + 1 : Nat) : Int) - 1) = (k : Int) := by rw [wrap64_small _ (by omega) (by omega)]; omega
      have hw2 : IntKind.i64.wrap (((k + 1 : Nat) : Int) - 1) = (k : Int) := by rw [wrap_i64_small _ (by omega) (by omega)]; omega
      have hkn : (k : Int) < (n : Int) := by omega
      have hkl : k < ys.length := by rw [HP.out.2.1]; omega
      have hc : wr.cell? ⟨g, k, none⟩ = some (.int .i64 (at_ ys k)) := by rw [(HP.out.1.keptF HW.out.2).2 k hkl, at_eq k hkl]
      have hx0 : 0 ≤ at_ ys k := by rw [at_eq k hkl]; exact HP.out.2.2 _ (List.getElem_mem hkl)
      have HU : Hid (upN ys least (k + 1) = if at_ ys k = 0 then upN ys least k else k + 1) := by
        show upN ys least (k + 1) = _
        rw [upN]
        by_cases e : at_ ys k = 0
        · rw [if_pos ⟨by omega, e⟩, if_pos e]
        · rw [if_neg (fun h => e h.2), if_neg e]
      generalize at_ ys k = x at *
      clear hkl
      by_cases hx : x = 0
      · subst hx
        have HW2 : Hid (upN ys least k = U ∧ Keeps (fun _ => False) w wr) := ⟨by rw [← HW.out.1, HU.out, if_pos rfl], HW.out.2⟩
        clear HW HU
        go_wp2
        go_roundw
        case rel => exact ⟨k, by omega, by omega, rfl, HW2⟩
        case measure => simp [intOf]
      · have e : k + 1 = U := by rw [← HW.out.1, HU.out, if_neg hx]
        subst e
        have hxp : 0 < x := by omega
        clear HU
        go_wp2
        go_ret
        exact ⟨rfl, HW.out.2⟩

set_option maxHeartbeats 1000000 in
set_option maxRecDepth 100000 in
theorem rfew_ok (a : Option Addr) (ts : List Tk) (cap : Nat) (w : World) (hR : RowT w a ts) (hl : ts.length ≤ 9223372036854775806) :
    Calls Tryz.prog 63 #[.slice a ts.length cap] w fun e w' => e = .returned (.bool (mayT ts)) ∧ Keeps (fun _ => False) w w' := by
  cases hm : mayF 0 ts with
  | false =>
    have e : mayT ts = false := by unfold mayT; rw [hm]; rfl
    have HC := hide (Mt.rexpand_bad a ts cap w hR hl hm)
    rw [e]
    clear hR hl hm e
    generalize ts.length = N at *
    go_enter Tryz.func63, Tryz.ntmps63
    go_wp2_with fail
    refine HC.out.mono ?_
    rintro e w1 ⟨rfl, hK1⟩
    have H1 := hide hK1
    clear hK1 HC
    go_wp2
    go_ret
    exact ⟨rfl, H1.out⟩
  | true =>
    have HC := hide (Mt.rexpand_ok a ts cap w hR hl hm)
    have hz := exp_size hm
    have h0 := sumZ_len ts
    have h8 := Mt.may_sum ts 0 (by omega) hm
    obtain ⟨T, hT⟩ : ∃ T, textOf (expF [] ts) = T := ⟨_, rfl⟩
    rw [hT] at HC hz
    have e : mayT ts = decide ((T.size : Int) ≤ 300) := by
      unfold mayT; rw [hm, Bool.true_and, hz]
      apply decide_eq_decide.2; omega
    have hs : T.size ≤ 10000 := by omega
    rw [e]
    clear hR hl hm e hz h0 h8 hT
    generalize ts.length = N at *
    go_enter Tryz.func63, Tryz.ntmps63
    go_wp2_with fail
    refine HC.out.mono ?_
    rintro e w1 ⟨rfl, hK1⟩
    have H1 := hide hK1
    clear hK1 HC
    go_wp2
    go_ret
    refine ⟨?_, H1.out⟩
    first | rfl | (simp)

theorem bytesOf_lt8 (s : ByteArray) : ∀ c ∈ bytesOf s, c < 256 := by
  intro c hc
  simp only [bytesOf, List.mem_map] at hc
  obtain ⟨u, _, rfl⟩ := hc
  exact UInt8.toNat_lt _
theorem textOf_bytes8 (s : ByteArray) : textOf (bytesOf s) = s := by
  unfold textOf bytesOf
  rw [List.map_map]
  have : (UInt8.ofNat ∘ UInt8.toNat) = id := by funext u; simp
  rw [this, List.map_id]
theorem bits13 : Bt.alignOf (bitsOf 1 3) = bitsOf 1 8 := by decide
theorem bits33 : bitsOf 3 3 = bitsOf 1 1 ++ bitsOf 1 2 := by decide
theorem bits53 : bitsOf 5 3 = bitsOf 1 1 ++ bitsOf 2 2 := by decide
theorem bytes_ext {a b : List Nat} (ha : ∀ y ∈ a, y < 256) (hb : ∀ y ∈ b, y < 256) (h : bitsL a = bitsL b) (hl : a.length = b.length) : a = b := by
  have key : ∀ (a b : List Nat), (∀ y ∈ a, y < 256) → (∀ y ∈ b, y < 256) → a.length = b.length → bitsL a = bitsL b → a = b := by
    intro a
    induction a with
    | nil => intro b _ _ hl _; exact (List.length_eq_zero_iff.1 hl.symm).symm
    | cons x r ih =>
      intro b ha hb hl h
      cases b with
      | nil => simp at hl
      | cons y t =>
        rw [bitsL_cons, bitsL_cons] at h
        obtain ⟨h1, h2⟩ := List.append_inj h (by rw [bitsOf_length, bitsOf_length])
        have e1 : x = y := by
          have := congrArg val h1
          rw [val_bitsOf x 8 (ha x (by simp)), val_bitsOf y 8 (hb y (by simp))] at this; exact this
        rw [e1, ih t (fun z hz => ha z (by simp [hz])) (fun z hz => hb z (by simp [hz])) (by simpa using hl) h2]
  exact key a b ha hb hl h
theorem pack_head (A : Bts) (n : Nat) (s : List Nat) (hA : A.length = 8 * n) (hs : ∀ y ∈ s, y < 256) : pack (A ++ bitsL s) = pack A ++ s := by
  refine bytes_ext (pack_lt _) (fun y hy => ?_) ?_ ?_
  · rw [List.mem_append] at hy
    rcases hy with hy | hy
    · exact pack_lt A y hy
    · exact hs y hy
  · rw [bitsL_append, bitsL_pack8 A n hA, bitsL_pack8 (A ++ bitsL s) (n + s.length) (by rw [List.length_append, hA, bitsL_len]; omega)]
  · rw [pack_length, List.length_append, List.length_append, pack_length, bitsL_len, hA]; omega
theorem text_append (a : List Nat) (s : ByteArray) : textOf (a ++ bytesOf s) = textOf a ++ s := by
  have e := textOf_bytes8 s
  apply ByteArray.ext
  rw [ByteArray.data_append]
  conv => rhs; rw [← e]
  simp [textOf]

theorem WS.begin (w w1 : World) (h : w1.heap[w.heap.size]? = some (.cells #[.slice none 0 0, .int .i64 0] 99 (0, 0))) (hk : Keeps (fun _ => False) w w1) : WS w1 w1 w.heap.size none none [] :=
  ⟨⟨none, 0, h, World.ownsRow_nil _ _ 5 1, rfl⟩, .inl rfl, Keeps.refl _ _⟩

set_option maxHeartbeats 2000000 in
set_option maxRecDepth 100000 in
theorem rstored_ok (s : ByteArray) (w : World) (hs : s.size ≤ 300) :
    Calls Tryz.prog 43 #[.string s] w (StrPost (textOf (pack (storeB (bytesOf s)))) 0 w) := by
  have hz : ¬ 300 < (s.size : Int) := by omega
  have hsz : (s.size : Int) ≤ 300 := by omega
  obtain ⟨T, hT⟩ : ∃ T, textOf (pack (storeB (bytesOf s))) = T := ⟨_, rfl⟩
  rw [hT]
  have HT : Hid (textOf (pack (storeB (bytesOf s))) = T) := hT
  clear hT
  go_enter Tryz.func43, Tryz.ntmps43
  go_wp2_with fail
  generalize hw1 : World.alloc _ _ = w1
  obtain ⟨b, hb⟩ : ∃ b, w.heap.size = b := ⟨_, rfl⟩
  have H1 : Hid (WS w1 w1 b none none [] ∧ Keeps (fun _ => False) w w1) := by
    have hk : Keeps (fun _ => False) w w1 := by rw [← hw1]; exact (Keeps.refl _ w).alloc _
    refine ⟨?_, hk⟩
    rw [← hb]
    exact WS.begin w w1 (by rw [← hw1]; exact heap_alloc_new _ _) hk
  rw [hb]
  have HB : Hid (w.heap.size ≤ b) := by show _ ≤ _; omega
  clear hw1 hb
  have HP1 : Hid (Calls Tryz.prog 60 #[.pointer (some ⟨b, 0, none⟩), .int .i64 1, .int .i64 3] w1 fun e w' => e = .returned (.int .i64 0) ∧ ∃ o', WS w1 w' b none o' (bitsOf 1 3)) := by
    have := H1.out.1.put 1 3 (by omega) (by decide) (by simp)
    rw [List.nil_append] at this; exact this
  refine HP1.out.mono ?_
  rintro e w2 ⟨rfl, o2, hS2⟩
  have HA2 : Hid (Calls Tryz.prog 61 #[.pointer (some ⟨b, 0, none⟩)] w2 fun e w' => e = .returned (.tuple #[]) ∧ ∃ o', WS w1 w' b none o' (bitsOf 1 8)) := by
    refine (Bt.rwalign_ok b o2 (bitsOf 1 3) w2 (by simp [bitsOf_length]) hS2.wr).mono ?_
    rintro e w' ⟨rfl, hO⟩
    rw [bits13] at hO
    exact ⟨rfl, hS2.step hO⟩
  clear HP1 hS2
  go_wp2_with fail
  refine HA2.out.mono ?_
  rintro e w3 ⟨rfl, o3, hS3⟩
  have HP3 : Hid (Calls Tryz.prog 60 #[.pointer (some ⟨b, 0, none⟩), .int .i64 (s.size : Int), .int .i64 16] w3 fun e w' => e = .returned (.int .i64 0) ∧ ∃ o', WS w1 w' b none o' (bitsOf 1 8 ++ bitsOf s.size 16)) := hS3.put s.size 16 (by omega) (by omega) (by simp [bitsOf_length])
  clear HA2 hS3
  go_wp2_with fail
  refine HP3.out.mono ?_
  rintro e w4 ⟨rfl, o4, hS4⟩
  have HP4 : Hid (Calls Tryz.prog 60 #[.pointer (some ⟨b, 0, none⟩), .int .i64 (65535 - (s.size : Int)), .int .i64 16] w4 fun e w' => e = .returned (.int .i64 0) ∧ ∃ o', WS w1 w' b none o' (bitsOf 1 8 ++ bitsOf s.size 16 ++ bitsOf (65535 - s.size) 16)) := by
    have e : ((65535 - s.size : Nat) : Int) = 65535 - (s.size : Int) := by omega
    have h2 := hS4.put (65535 - s.size) 16 (by omega) (by omega) (by simp [bitsOf_length])
    rw [e] at h2; exact h2
  clear HP3 hS4
  go_wp2_with fail
  refine HP4.out.mono ?_
  rintro e w5 ⟨rfl, o5, hS5⟩
  obtain ⟨A, hA⟩ : ∃ A, textOf (pack (bitsOf 1 8 ++ bitsOf s.size 16 ++ bitsOf (65535 - s.size) 16)) = A := ⟨_, rfl⟩
  have HTx : Hid (Calls Tryz.prog 62 #[.pointer (some ⟨b, 0, none⟩)] w5 fun e w' => e = .returned (.string A) ∧ w' = w5) := by
    have := Bt.rtext_ok b o5 _ w5 hS5.wr
    rw [hA] at this; exact this
  have HAs : Hid (A ++ s = T) := by
    show _ = _
    rw [← HT.out, ← hA, ← text_append, ← pack_head _ 5 (bytesOf s) (by simp [bitsOf_length]) (fun y hy => bytesOf_lt8 s y hy)]
    unfold storeB; rw [bytesOf_length]; simp only [List.append_assoc]
  have hAz : A.size ≤ 1000 := by rw [← hA, textOf_size, pack_length]; simp [bitsOf_length]
  have H5 : Hid (Keeps (fun _ => False) w w5) := H1.out.2.trans hS5.keep (fun k hk e => by
    have := HB.out
    rcases e with e | e
    · omega
    · cases e)
  clear HP4 hS5 hA HT
  go_wp2_with fail
  refine HTx.out.mono ?_
  rintro e w6 ⟨rfl, hw⟩
  obtain rfl := hw.symm
  clear hw HTx
  go_wp2
  go_ret2
  rw [HAs.out]
  exact ⟨rfl, H5.out⟩

theorem rcodes_pfx (g n cap : Nat) (ys : List Int) (w : World) (hP : Pfx w g ys) (hn : ys.length = n) (hm : may ys = true) (hr : room ys ≤ 32768) :
    Calls Tryz.prog 64 #[.slice (some ⟨g, 0, none⟩) n cap] w fun e w' => ∃ q, e = .returned (.tuple #[.slice (some ⟨q, 0, none⟩) n n, .int .i64 0]) ∧ Keeps (fun _ => False) w w' ∧ w.heap.size ≤ q ∧ Cds w' q ys.length (codeF ys) := by
  have := Hf.rcodes_good (some ⟨g, 0, none⟩) ys cap w hP.row (by have := (may_len hm).2; omega) (fits_of hm hr)
  rw [hn] at this ⊢; exact this
set_option maxHeartbeats 2000000 in
set_option maxRecDepth 100000 in
theorem rfixed_ok8 (a : Option Addr) (ts : List Tk) (cap : Nat) (w : World) (hR : RowT w a ts) (hm : mayT ts = true) :
    Calls Tryz.prog 44 #[.slice a ts.length cap] w (StrPost (textOf (pack (fixedB ts))) 0 w) := by
  obtain ⟨m1, m2, m3, m4⟩ := mayT_is hm
  obtain ⟨T, hT⟩ : ∃ T, textOf (pack (fixedB ts)) = T := ⟨_, rfl⟩
  rw [hT]
  have HT : Hid (textOf (pack (fixedB ts)) = T) := hT
  clear hT
  have HC := hide (rfew_ok a ts cap w hR (by omega))
  rw [hm] at HC
  have HPt : Hid (∀ w1 b o g1 g2, Keeps (fun _ => False) w w1 → Wr 99 w1 b o (bitsOf 3 3) → Cds w1 g1 fixLs.length (codeF fixLs) → Cds w1 g2 fiveLs.length (codeF fiveLs) → Off w1 b o g1 → Off w1 b o g2 → w.heap.size ≤ b → (∀ k, o = some k → w.heap.size ≤ k) → Calls Tryz.prog 65 #[.pointer (some ⟨b, 0, none⟩), .slice a ts.length cap, .slice (some ⟨g1, 0, none⟩) 288 288, .slice (some ⟨g2, 0, none⟩) 30 30] w1 (PutPost fixLs fiveLs ts w1 b o (bitsOf 3 3))) := fun w1 b o g1 g2 hk hw c1 c2 f1 f2 hb ho =>
    rputT_ok hw g1 288 288 g2 30 30 fixLs fiveLs c1 c2 (by decide) (by decide) f1 f2 full_fix a cap ts (RowT.keptN hR hk (.inr (fun _ _ h => h))) m3 m4 (fun t ht => by obtain ⟨c, hc⟩ := m4 t ht; exact hasT_fix t c hc) (fix_at ⟨256, by decide⟩) (by simp [bitsOf_length]) ((RowT.low hR).imp id (fun ha x e => by
      have h1 := ha x e
      have h2 := hk.size
      refine ⟨by omega, by omega, fun e2 => ?_⟩
      have := ho _ e2; omega))
  generalize ts.length = N at *
  clear hR hm m1 m2 m3 m4
  go_enter Tryz.func44, Tryz.ntmps44
  go_wp2_with fail
  refine HC.out.mono ?_
  rintro e w1 ⟨rfl, hK1⟩
  have H1 := hide hK1
  clear hK1 HC
  go_wp2_with fail
  generalize hw2 : World.alloc _ _ = w2
  obtain ⟨b, hb⟩ : ∃ b, w1.heap.size = b := ⟨_, rfl⟩
  have H2 : Hid (WS w2 w2 b none none [] ∧ Keeps (fun _ => False) w w2 ∧ w.heap.size ≤ b) := by
    have hk : Keeps (fun _ => False) w1 w2 := by rw [← hw2]; exact (Keeps.refl _ w1).alloc _
    refine ⟨?_, H1.out.trans hk (fun _ _ h => h), by have := H1.out.size; omega⟩
    rw [← hb]
    exact WS.begin w1 w2 (by rw [← hw2]; exact heap_alloc_new _ _) hk
  rw [hb]
  clear hw2 hb H1
  have HP1 : Hid (Calls Tryz.prog 60 #[.pointer (some ⟨b, 0, none⟩), .int .i64 3, .int .i64 3] w2 fun e w' => e = .returned (.int .i64 0) ∧ ∃ o', WS w2 w' b none o' (bitsOf 3 3)) := by
    have := H2.out.1.put 3 3 (by omega) (by decide) (by simp)
    rw [List.nil_append] at this; exact this
  refine HP1.out.mono ?_
  rintro e w3 ⟨rfl, o3, hS3⟩
  have H3 := hide hS3
  have HC3 : Hid (Calls Tryz.prog 53 #[] w3 fun e w' => ∃ v, e = .returned v ∧ Own w' w3.heap.size v fixLs ∧ Keeps (fun _ => False) w3 w') := Tb.rfixed_ok w3
  clear HP1 hS3
  go_wp2_with fail
  refine HC3.out.mono ?_
  rintro e w4 ⟨v4, rfl, hO4, hK4⟩
  obtain ⟨ga, ca, rfl, hPa, hga⟩ := own_first hO4 (by decide)
  have e288 : fixLs.length = 288 := by decide
  rw [e288]
  have HC4 := hide (rcodes_pfx ga 288 ca fixLs w4 hPa (by decide) full_fix.m1 full_fix.r1)
  have H4 : Hid (Keeps (fun _ => False) w3 w4) := hK4
  clear hO4 hPa hga hK4 HC3
  go_wp2_with fail
  refine HC4.out.mono ?_
  rintro e w5 ⟨g1, rfl, hK5, hg1, hD5⟩
  have H5 : Hid (Keeps (fun _ => False) w3 w5 ∧ w3.heap.size ≤ g1 ∧ Cds w5 g1 fixLs.length (codeF fixLs)) := ⟨H4.out.trans hK5 (fun _ _ h => h), by have := H4.out.size; omega, hD5⟩
  have HC5 := hide (rfives_ok w5)
  clear hK5 hg1 hD5 HC4 H4
  go_wp2_with fail
  refine HC5.out.mono ?_
  rintro e w6 ⟨gb, rfl, hB6, hK6⟩
  have HC6 := hide (rcodes_pfx gb 30 30 fiveLs w6 (Blk.pfx hB6) (by decide) full_fix.m2 full_fix.r2)
  have H6 : Hid (Keeps (fun _ => False) w3 w6 ∧ w3.heap.size ≤ g1 ∧ Cds w6 g1 fixLs.length (codeF fixLs)) := ⟨H5.out.1.trans hK6 (fun _ _ h => h), H5.out.2.1, H5.out.2.2.kept hK6 (fun h => h)⟩
  clear hB6 hK6 HC5 H5
  go_wp2_with fail
  refine HC6.out.mono ?_
  rintro e w7 ⟨g2, rfl, hK7, hg2, hD7⟩
  have HC7 : Hid (Calls Tryz.prog 65 #[.pointer (some ⟨b, 0, none⟩), .slice a N cap, .slice (some ⟨g1, 0, none⟩) 288 288, .slice (some ⟨g2, 0, none⟩) 30 30] w7 (PutPost fixLs fiveLs ts w7 b o3 (bitsOf 3 3))) := by
    have k37 := H6.out.1.trans hK7 (fun _ _ h => h)
    have hS7 := H3.out.keptF k37
    have kw : Keeps (fun _ => False) w w7 := H2.out.2.1.trans hS7.keep (fun k hk e => by
      have := H2.out.2.2
      rcases e with e | e
      · omega
      · cases e)
    have hc1 := H6.out.2.2.kept hK7 (fun h => h)
    have n1 := H3.out.new H6.out.2.1
    have n2 := H3.out.new (show w3.heap.size ≤ g2 by have := H6.out.1.size; omega)
    refine HPt.out w7 b o3 g1 g2 kw hS7.wr hc1 hD7 ⟨hc1.lt, n1.1, n1.2.1⟩ ⟨hD7.lt, n2.1, n2.2.1⟩ H2.out.2.2 (fun k e => ?_)
    rcases H3.out.own with e2 | ⟨g, e2, e3⟩
    · rw [e2] at e; cases e
    · rw [e2] at e; cases e; have := H2.out.2.1.size; omega
  have H7 : Hid (Keeps (fun _ => False) w w7 ∧ (∀ k, o3 = some k → w.heap.size ≤ k)) := by
    have k37 := H6.out.1.trans hK7 (fun _ _ h => h)
    have hS7 := H3.out.keptF k37
    refine ⟨H2.out.2.1.trans hS7.keep (fun k hk e => by
      have := H2.out.2.2
      rcases e with e | e
      · omega
      · cases e), fun k e => ?_⟩
    rcases H3.out.own with e2 | ⟨g, e2, e3⟩
    · rw [e2] at e; cases e
    · rw [e2] at e; cases e; have := H2.out.2.1.size; omega
  clear hK7 hg2 hD7 HC6 H6 HPt H3
  go_wp2_with fail
  refine HC7.out.mono ?_
  rintro e w8 ⟨rfl, o8, hS8⟩
  have HTx : Hid (Calls Tryz.prog 62 #[.pointer (some ⟨b, 0, none⟩)] w8 fun e w' => e = .returned (.string T) ∧ w' = w8) := by
    have := Bt.rtext_ok b o8 _ w8 hS8.wr
    have e : bitsOf 3 3 ++ (tksB fixLs fiveLs ts ++ codeB fixLs 256) = fixedB ts := by unfold fixedB; rw [bits33]; simp only [List.append_assoc]
    rw [e, HT.out] at this; exact this
  have H8 : Hid (Keeps (fun _ => False) w w8) := H7.out.1.trans hS8.keep (fun k hk e => by
    have := H2.out.2.2
    rcases e with e | e
    · omega
    · have := H7.out.2 _ e; omega)
  clear hS8 HC7 H7 H2 HT
  go_wp2_with fail
  refine HTx.out.mono ?_
  rintro e w9 ⟨rfl, hw⟩
  obtain rfl := hw.symm
  clear hw HTx
  go_wp2
  go_ret2
  exact ⟨rfl, H8.out⟩

end Go.Proofs.YtfbghchgfbjogaaGreat.Bk

namespace Go.Proofs.YtfbghchgfbjogaaGreat.Lm
open Go.RowKit
set_option linter.unusedVariables false
set_option linter.unusedSimpArgs false

def boolsV (bs : List Bool) : List Value := bs.map (fun b => Value.bool b)
/-- A slice of bools that a call owns, nil too. -/
def OwnB (w : World) (base : Nat) (v : Value) (bs : List Bool) : Prop := w.ownsRow base 4 1 v bs.length (boolsV bs)
set_option maxRecDepth 100000 in
theorem append_bool (w : World) (base : Nat) (v : Value) (bs : List Bool) (h : OwnB w base v bs) (x : Bool) (b : Nat) (hx : w.heap[b]? = some (.cells #[.bool x] 4 (0, 0))) (hb : base ≤ w.heap.size) (hn : bs.length ≤ 1000000) :
    ∃ g cap w', (Builtin.append_ #[151, 151] 151 #[v, .slice (some ⟨b, 0, none⟩) 1 1]).run Tryz.prog w = .ok (.slice (some ⟨g, 0, none⟩) (bs.length + 1) cap) w' ∧ OwnB w' base (.slice (some ⟨g, 0, none⟩) (bs.length + 1) cap) (bs ++ [x]) ∧ w.grownBy w' v.ownBlock ∧ (v.ownBlock = some g ∨ g = w.heap.size) := by
  obtain ⟨i, hi, h1, h2, h3⟩ : ∃ i, Tryz.prog.info? 4 = some i ∧ i.zero = some (.bool false) ∧ i.bytes = 1 ∧ i.size = 1 := ⟨Tryz.t4, Tryz.type4, rfl, rfl, rfl⟩
  obtain ⟨g, cap, w', hr, ho, hg, hat, hlt⟩ := run_append_lies (P := Tryz.prog) w 151 151 base 4 i (.bool false) 1 1 Tryz.underlying151 hi h1 h3 h2 rfl (by decide) v bs.length (boolsV bs) h ⟨b, 0, none⟩ 1 1 [.bool x] rfl (fun j u hu => by
      have hj : j = 0 := by have := (List.getElem?_eq_some_iff.1 hu).1; simp at this; omega
      subst hj
      simp at hu
      subst hu
      exact cell_of_heap hx rfl) (fun u hu => by simp at hu; subst hu; rfl) (by decide) (by unfold maxLen; omega) (by omega) hb _ rfl
  refine ⟨g, cap, w', hr, ?_, hg, hat⟩
  unfold OwnB
  rw [show boolsV (bs ++ [x]) = boolsV bs ++ [.bool x] by simp [boolsV], List.length_append]
  exact ho
theorem wpList_bool {ops : Array Oper} {rest : List Oper} {o : Oper} {a : Act} {w : World} {Q : Exit → Act → World → Prop} (hgd : o.guard = none) (s x : Operand) (ho : o.op = .call { callee := .builtin .append, args := #[s, x], argTypes := #[151, 151] }) (hty : o.type = 151)
    (base : Nat) (v : Value) (bs : List Bool) (hs : a.eval s = v) (hown : OwnB w base v bs) (b : Nat) (y : Bool) (hx : a.eval x = .slice (some ⟨b, 0, none⟩) 1 1) (hR : w.heap[b]? = some (.cells #[.bool y] 4 (0, 0))) (hb : base ≤ w.heap.size) (hn : bs.length ≤ 1000000)
    (h : ∀ g cap w', OwnB w' base (.slice (some ⟨g, 0, none⟩) (bs.length + 1) cap) (bs ++ [y]) → w.grownBy w' v.ownBlock → (v.ownBlock = some g ∨ g = w.heap.size) → wpList Tryz.prog ops Q rest (a.put o.dst (.slice (some ⟨g, 0, none⟩) (bs.length + 1) cap)) w') : wpList Tryz.prog ops Q (o :: rest) a w :=
  wpList_plain hgd fun _ hK => by
    obtain ⟨g, cap, w', hr, h2, h3, h4⟩ := append_bool w base v bs hown y b hR hb hn
    unfold Oper.wp execOp
    simp only [ho, hty, resolve, invoke, builtin, Sem.run_bind, Sem.run_pure, Result.andThen_ok, List.map_toArray, List.map_cons, List.map_nil, hs, hx, hr]
    exact hK _ _ (h g cap w' h2 h3 h4)

/-- Three rows of a call's own, apart from each other. -/
structure Own3 (w : World) (base : Nat) (vw vu vf : Value) (W U : List Int) (F : List Bool) : Prop where
  ow : OwnV w base vw W
  ou : OwnV w base vu U
  of' : OwnB w base vf F
  wu : ∀ k, vw.ownBlock = some k → vu.ownBlock ≠ some k
  wf : ∀ k, vw.ownBlock = some k → vf.ownBlock ≠ some k
  uf : ∀ k, vu.ownBlock = some k → vf.ownBlock ≠ some k
theorem Own3.kept {S : Nat → Prop} {w w' : World} {base : Nat} {vw vu vf : Value} {W U : List Int} {F : List Bool} (h : Own3 w base vw vu vf W U F) (hk : Keeps S w w') (hs : ∀ b, base ≤ b → ¬ S b) : Own3 w' base vw vu vf W U F :=
  ⟨h.ow.kept hk (fun k e => hs k (World.ownsRow.lt h.ow k e).1), h.ou.kept hk (fun k e => hs k (World.ownsRow.lt h.ou k e).1), owns_heap h.of' (fun k e => hk.block k (World.ownsRow.lt h.of' k e).2 (hs k (World.ownsRow.lt h.of' k e).1)), h.wu, h.wf, h.uf⟩
theorem ownBlock_slice (g n c : Nat) : (Value.slice (some ⟨g, 0, none⟩) n c).ownBlock = some g := rfl
theorem Own3.w {w w' : World} {base g n c : Nat} {vw vu vf : Value} {W U W' : List Int} {F : List Bool} (h : Own3 w base vw vu vf W U F) (ho : OwnV w' base (.slice (some ⟨g, 0, none⟩) n c) W') (hg : w.grownBy w' vw.ownBlock) (ha : vw.ownBlock = some g ∨ g = w.heap.size) : Own3 w' base (.slice (some ⟨g, 0, none⟩) n c) vu vf W' U F := by
  refine ⟨ho, owns_heap h.ou (fun k e => hg.block k (World.ownsRow.lt h.ou k e).2 (fun e' => h.wu k e'.symm e)), owns_heap h.of' (fun k e => hg.block k (World.ownsRow.lt h.of' k e).2 (fun e' => h.wf k e'.symm e)), fun k e e' => ?_, fun k e e' => ?_, h.uf⟩
  · rw [ownBlock_slice] at e
    obtain rfl := Option.some.inj e
    rcases ha with ha | ha
    · exact h.wu g ha e'
    · have := (World.ownsRow.lt h.ou g e').2; omega
  · rw [ownBlock_slice] at e
    obtain rfl := Option.some.inj e
    rcases ha with ha | ha
    · exact h.wf g ha e'
    · have := (World.ownsRow.lt h.of' g e').2; omega
theorem Own3.u {w w' : World} {base g n c : Nat} {vw vu vf : Value} {W U U' : List Int} {F : List Bool} (h : Own3 w base vw vu vf W U F) (ho : OwnV w' base (.slice (some ⟨g, 0, none⟩) n c) U') (hg : w.grownBy w' vu.ownBlock) (ha : vu.ownBlock = some g ∨ g = w.heap.size) : Own3 w' base vw (.slice (some ⟨g, 0, none⟩) n c) vf W U' F := by
  refine ⟨owns_heap h.ow (fun k e => hg.block k (World.ownsRow.lt h.ow k e).2 (fun e' => h.wu k e e'.symm)), ho, owns_heap h.of' (fun k e => hg.block k (World.ownsRow.lt h.of' k e).2 (fun e' => h.uf k e'.symm e)), fun k e e' => ?_, h.wf, fun k e e' => ?_⟩
  · rw [ownBlock_slice] at e'
    obtain rfl := Option.some.inj e'
    rcases ha with ha | ha
    · exact h.wu g e ha
    · have := (World.ownsRow.lt h.ow g e).2; omega
  · rw [ownBlock_slice] at e
    obtain rfl := Option.some.inj e
    rcases ha with ha | ha
    · exact h.uf g ha e'
    · have := (World.ownsRow.lt h.of' g e').2; omega
theorem Own3.f {w w' : World} {base g n c : Nat} {vw vu vf : Value} {W U : List Int} {F F' : List Bool} (h : Own3 w base vw vu vf W U F) (ho : OwnB w' base (.slice (some ⟨g, 0, none⟩) n c) F') (hg : w.grownBy w' vf.ownBlock) (ha : vf.ownBlock = some g ∨ g = w.heap.size) : Own3 w' base vw vu (.slice (some ⟨g, 0, none⟩) n c) W U F' := by
  refine ⟨owns_heap h.ow (fun k e => hg.block k (World.ownsRow.lt h.ow k e).2 (fun e' => h.wf k e e'.symm)), owns_heap h.ou (fun k e => hg.block k (World.ownsRow.lt h.ou k e).2 (fun e' => h.uf k e e'.symm)), ho, h.wu, fun k e e' => ?_, fun k e e' => ?_⟩
  · rw [ownBlock_slice] at e'
    obtain rfl := Option.some.inj e'
    rcases ha with ha | ha
    · exact h.wf g e ha
    · have := (World.ownsRow.lt h.ow g e).2; omega
  · rw [ownBlock_slice] at e'
    obtain rfl := Option.some.inj e'
    rcases ha with ha | ha
    · exact h.uf g e ha
    · have := (World.ownsRow.lt h.ou g e).2; omega
/-- The document's forest in block p: weights, what each is joined into, which are free. -/
structure Rf (w : World) (p : Nat) (vw vu vf : Value) (W : List Nat) (U : List Int) (F : List Bool) : Prop where
  blk : w.heap[p]? = some (.cells #[vw, vu, vf] 153 (0, 0))
  own : Own3 w (p + 1) vw vu vf (ints W) U F
  lenU : U.length = W.length
  lenF : F.length = W.length
theorem Rf.kept {S : Nat → Prop} {w w' : World} {p : Nat} {vw vu vf : Value} {W : List Nat} {U : List Int} {F : List Bool} (h : Rf w p vw vu vf W U F) (hk : Keeps S w w') (hs : ∀ b, p ≤ b → ¬ S b) : Rf w' p vw vu vf W U F :=
  ⟨(hk.block p (lt_of_heap h.blk) (hs p (Nat.le_refl _))).trans h.blk, h.own.kept hk (fun b hb => hs b (by omega)), h.lenU, h.lenF⟩
/-- The struct's block behind an append to one of its rows. -/
theorem blk_grown {w w' : World} {p : Nat} {cs : Array Value} {o : Obj} {r : Option Nat} (h : w.heap[p]? = some (.cells cs 153 (0, 0))) (hg : (w.alloc o).grownBy w' r) (hr : r ≠ some p) : w'.heap[p]? = some (.cells cs 153 (0, 0)) := by
  have hl := lt_of_heap h
  rw [hg.block p (by simp; omega) (fun e => hr e.symm), Below.heap_alloc _ _ _ hl]; exact h
theorem own_ne {w : World} {p : Nat} {e : TypeId} {s : Nat} {v : Value} {n : Nat} {xs : List Value} (h : w.ownsRow (p + 1) e s v n xs) : v.ownBlock ≠ some p := fun e' => by
  have := (World.ownsRow.lt h p e').1; omega

set_option maxHeartbeats 4000000 in
set_option maxRecDepth 1000000 in
theorem add_ok (p : Nat) (vw vu vf : Value) (W : List Nat) (U : List Int) (F : List Bool) (x : Nat) (w : World) (h : Rf w p vw vu vf W U F) (hn : W.length ≤ 1000) :
    Calls Tryz.prog 103 #[.pointer (some ⟨p, 0, none⟩), .int .i64 (x : Int)] w fun e w' => e = .returned (.tuple #[]) ∧ ∃ vw' vu' vf', Rf w' p vw' vu' vf' (W ++ [x]) (U ++ [-1]) (F ++ [true]) ∧ Keeps (fun b => p ≤ b) w w' := by
  have c0 : w.cell? ⟨p, 0, none⟩ = some vw := cell_of_heap h.blk rfl
  have hfr : w.frozen? ⟨p, 0, none⟩ = false := frozen_of_heap h.blk
  have hlt : p < w.heap.size := lt_of_heap h.blk
  have HR : Hid (Rf w p vw vu vf W U F) := h
  clear h
  have stepK : ∀ (u u' : World) (o : Obj) (r : Option Nat), Keeps (fun b => p ≤ b) w u → (u.alloc o).grownBy u' r → (∀ k, r = some k → p ≤ k) → Keeps (fun b => p ≤ b) w u' := fun u u' o r h1 h2 h3 => (h1.alloc o).grown h2 (fun k _ e => h3 k e)
  have HSt : Hid (∀ (u u' : World) (o : Obj) (r : Option Nat), Keeps (fun b => p ≤ b) w u → (u.alloc o).grownBy u' r → (∀ k, r = some k → p ≤ k) → Keeps (fun b => p ≤ b) w u') := stepK
  clear stepK
  have HKs : Hid (∀ (u : World) (i : Nat) (v : Value) (o : Obj), Keeps (fun b => b = p) u ((u.setCell ⟨p, i, none⟩ v).alloc o)) := fun u i v o => ((Keeps.refl (fun b => b = p) u).setCell (p := ⟨p, i, none⟩) (fun _ => rfl) v).alloc o
  have HNw : Hid (∀ (u : World) (i : Nat) (v : Value) (o : Obj), ((u.setCell ⟨p, i, none⟩ v).alloc o).heap[u.heap.size]? = some o) := fun u i v o => by
    have := heap_alloc_new (u.setCell ⟨p, i, none⟩ v) o
    rw [heap_size_setCell] at this; exact this
  have HBs : Hid (∀ (u : World) (i : Nat) (v : Value) (cs : Array Value), u.heap[p]? = some (.cells cs 153 (0, 0)) → (u.setCell ⟨p, i, none⟩ v).heap[p]? = some (.cells (cs.setIfInBounds i v) 153 (0, 0))) := fun u i v cs h => heap_setCell_same h v
  go_enter Tryz.func103, Tryz.ntmps103
  go_wp2_with (first
    | ((fail_if_success (clear H1)); refine wpList_one rfl _ _ rfl rfl (p + 1) vw (ints W) rfl (HR.out.own.ow.kept ((Keeps.refl (fun _ => False) w).alloc _) (fun _ _ h => h)) w.heap.size (x : Int) rfl (heap_alloc_new _ _) ?hb ?hn ?_; (case hb => simp; omega); (case hn => rw [ints_length]; omega); intro gw cw w1 hO1 hG1 hA1; have hb1 := blk_grown HR.out.blk hG1 (own_ne HR.out.own.ow); have H1 : Hid (w1.heap[p]? = some (.cells #[vw, vu, vf] 153 (0, 0)) ∧ Own3 w1 (p + 1) (.slice (some ⟨gw, 0, none⟩) ((ints W).length + 1) cw) vu vf (ints W ++ [(x : Int)]) U F ∧ Keeps (fun b => p ≤ b) w w1) := ⟨hb1, (HR.out.own.kept ((Keeps.refl (fun _ => False) w).alloc _) (fun _ _ h => h)).w hO1 hG1 hA1, HSt.out w w1 _ _ (Keeps.refl _ _) hG1 (fun k e => by (have := (World.ownsRow.lt HR.out.own.ow k e).1; omega))⟩; have d0 : w1.cell? ⟨p, 0, none⟩ = some vw := cell_of_heap hb1 rfl; have d1 : w1.cell? ⟨p, 1, none⟩ = some vu := cell_of_heap hb1 rfl; have df : w1.frozen? ⟨p, 0, none⟩ = false := frozen_of_heap hb1; have dl : p < w1.heap.size := lt_of_heap hb1; clear hO1 hG1 hA1 hb1 c0 hfr hlt)
    | ((fail_if_success (clear H2)); refine wpList_one rfl _ _ rfl rfl (p + 1) vu U rfl (H1.out.2.1.kept (HKs.out w1 0 _ _) (fun b hb e => by omega)).ou w1.heap.size (-1 : Int) rfl (HNw.out w1 0 _ _) ?hb ?hn ?_; (case hb => simp [heap_size_setCell]; omega); (case hn => rw [HR.out.lenU]; omega); intro gu cu w2 hO2 hG2 hA2; have hb2 := blk_grown (HBs.out w1 0 _ _ H1.out.1) hG2 (own_ne (H1.out.2.1.kept (HKs.out w1 0 (.slice (some ⟨gw, 0, none⟩) ((ints W).length + 1) cw) (.cells #[.int .i64 (-1)] 3)) (fun b hb e => by omega)).ou); have H2 : Hid (w2.heap[p]? = some (.cells #[.slice (some ⟨gw, 0, none⟩) ((ints W).length + 1) cw, vu, vf] 153 (0, 0)) ∧ Own3 w2 (p + 1) (.slice (some ⟨gw, 0, none⟩) ((ints W).length + 1) cw) (.slice (some ⟨gu, 0, none⟩) (U.length + 1) cu) vf (ints W ++ [(x : Int)]) (U ++ [-1]) F ∧ Keeps (fun b => p ≤ b) w w2) := ⟨hb2, (H1.out.2.1.kept (HKs.out w1 0 _ _) (fun b hb e => by omega)).u hO2 hG2 hA2, HSt.out _ w2 _ _ (H1.out.2.2.setCell (fun _ => Nat.le_refl p) _) hG2 (fun k e => by (have := (World.ownsRow.lt H1.out.2.1.ou k e).1; omega))⟩; have d0 : w2.cell? ⟨p, 1, none⟩ = some vu := cell_of_heap hb2 rfl; have d1 : w2.cell? ⟨p, 2, none⟩ = some vf := cell_of_heap hb2 rfl; have df : w2.frozen? ⟨p, 1, none⟩ = false := frozen_of_heap hb2; have dl : p < w2.heap.size := lt_of_heap hb2; clear hO2 hG2 hA2 hb2)
    | (refine wpList_bool rfl _ _ rfl rfl (p + 1) vf F rfl (H2.out.2.1.kept (HKs.out w2 1 _ _) (fun b hb e => by omega)).of' w2.heap.size true rfl (HNw.out w2 1 _ _) ?hb ?hn ?_; (case hb => simp [heap_size_setCell]; omega); (case hn => rw [HR.out.lenF]; omega); intro gf cf w3 hO3 hG3 hA3; have hb3 := blk_grown (HBs.out w2 1 _ _ H2.out.1) hG3 (own_ne (H2.out.2.1.kept (HKs.out w2 1 (.slice (some ⟨gu, 0, none⟩) (U.length + 1) cu) (.cells #[.bool true] 4)) (fun b hb e => by omega)).of'); have H3 : Hid (w3.heap[p]? = some (.cells #[.slice (some ⟨gw, 0, none⟩) ((ints W).length + 1) cw, .slice (some ⟨gu, 0, none⟩) (U.length + 1) cu, vf] 153 (0, 0)) ∧ Own3 w3 (p + 1) (.slice (some ⟨gw, 0, none⟩) ((ints W).length + 1) cw) (.slice (some ⟨gu, 0, none⟩) (U.length + 1) cu) (.slice (some ⟨gf, 0, none⟩) (F.length + 1) cf) (ints W ++ [(x : Int)]) (U ++ [-1]) (F ++ [true]) ∧ Keeps (fun b => p ≤ b) w w3) := ⟨hb3, (H2.out.2.1.kept (HKs.out w2 1 _ _) (fun b hb e => by omega)).f hO3 hG3 hA3, HSt.out _ w3 _ _ (H2.out.2.2.setCell (fun _ => Nat.le_refl p) _) hG3 (fun k e => by (have := (World.ownsRow.lt H2.out.2.1.of' k e).1; omega))⟩; have d0 : w3.cell? ⟨p, 2, none⟩ = some vf := cell_of_heap hb3 rfl; have df : w3.frozen? ⟨p, 2, none⟩ = false := frozen_of_heap hb3; clear hO3 hG3 hA3 hb3))
  go_end0
  obtain ⟨e1, e2, e3⟩ := H3.out
  refine ⟨rfl, _, _, _, ⟨HBs.out w3 2 _ _ e1, ?_, by simp [HR.out.lenU], by simp [HR.out.lenF]⟩, e3.setCell (fun _ => Nat.le_refl p) _⟩
  rw [ints_append]
  exact e2.kept ((Keeps.refl (fun b => b = p) w3).setCell (p := ⟨p, 2, none⟩) (fun _ => rfl) _) (fun b hb e => by omega)

end Go.Proofs.YtfbghchgfbjogaaGreat.Lm

/-
  The lengths of a dynamic block's codes, in plain numbers (over what Lengths answers): they leave no room, and each symbol that comes has a code. tokens of package block: tokens by codes of given lengths, and the end. The document's own writer: one, Put, Code, Align and Text, for every input. The document's own Length, LengthOf, Dist, DistOf, Fixed.
-/
import Derived.Test.YtdbfbijalhknnabRows
import Derived.Test.YtdbfbijalhknnabG08
import Derived.BigQuiet
import Derived.Deep.LoopGhost
namespace Go.Proofs.Ytdbfbijalhknnab.Bk
open Hf Tb
open Mt (Tk mayF okT sumZ sz expF)
set_option linter.unusedVariables false
set_option linter.unusedSimpArgs false

theorem sumTo_add (f g : Nat → Nat) : ∀ n, sumTo (fun i => f i + g i) n = sumTo f n + sumTo g n
  | 0 => rfl
  | n + 1 => by simp only [sumTo, sumTo_add f g n, Nat.add_mul]; omega
theorem sumTo_congr {f g : Nat → Nat} : ∀ n, (∀ i, i < n → f i = g i) → sumTo f n = sumTo g n
  | 0, _ => rfl
  | n + 1, h => by rw [sumTo, sumTo, sumTo_congr n (fun i hi => h i (by omega)), h n (by omega)]
def oneF (l n : Nat) : Nat := if n ≠ 0 ∧ n = l then 1 else 0
theorem oneF_sum : ∀ l : Fin 16, sumTo (oneF l.val) 16 = Lm.rm l.val := by decide +kernel
theorem cn_cons (l : Nat) (r : List Int) (n : Nat) : cn ((l : Int) :: r) n = cn r n + oneF l n := by
  unfold cn oneF cnt
  by_cases hn : n = 0
  · subst hn; simp
  · rw [if_neg hn, if_neg hn, List.countP_cons]
    by_cases e : n = l
    · subst e; simp [hn]
    · have : ¬ ((l : Int) = (n : Int)) := by omega
      simp [hn, e, this]
theorem room_ints : ∀ (ls : List Nat), (∀ l ∈ ls, l ≤ 15) → room (Lm.ints ls) = (ls.map Lm.rm).sum
  | [], _ => by decide
  | l :: r, h => by
    have ih := room_ints r (fun x hx => h x (by simp [hx]))
    have hl := h l (by simp)
    have e : Lm.ints (l :: r) = (l : Int) :: Lm.ints r := rfl
    have hs := oneF_sum ⟨l, by omega⟩
    simp only at hs
    rw [e, List.map_cons, List.sum_cons, ← ih, ← hs]
    unfold room
    rw [sumTo_congr 16 (fun i _ => cn_cons l (Lm.ints r) i), sumTo_add]; omega
theorem pos_zero : ∀ (ls : List Nat), (ls.map Lm.pos1).sum = 0 → ∀ l ∈ ls, l = 0
  | [], _, l, hl => by cases hl
  | x :: r, h, l, hl => by
    rw [List.map_cons, List.sum_cons] at h
    rcases List.mem_cons.1 hl with rfl | hl
    · have : Lm.pos1 l = 0 := by omega
      unfold Lm.pos1 at this; split at this <;> omega
    · exact pos_zero r (by omega) l hl
structure LenF (n : Nat) (ss : List Nat) (most : Int) (A : List Int) : Prop where
  len : A.length = n
  may : may A = true
  le : ∀ y ∈ A, y ≤ most
  pos : ∀ i ∈ ss, i < n → 0 < at_ A i
  room : room A = 32768 ∨ ∀ y ∈ A, y = 0
theorem lenL_facts (n : Nat) (ss : List Nat) (most : Int) (h1 : 2 ≤ n) (h2 : n ≤ 288) (hs : ss.length ≤ 100000) (m1 : 1 ≤ most) (m2 : most ≤ 15) (hp : n ≤ 2 ^ most.toNat) : LenF n ss most (lenL n ss most) := by
  obtain ⟨q1, q2, q3, q4, _, _⟩ := Lm.res_all (cntL n ss) most (fit_cnt n ss most h1 h2 hs m1 m2 hp)
  rw [cntL_length] at q1
  have hle : ∀ y ∈ lenL n ss most, 0 ≤ y ∧ y ≤ most := by
    intro y hy
    simp only [lenL, Lm.ints, List.mem_map] at hy
    obtain ⟨l, hl, rfl⟩ := hy
    have := q2 l hl; omega
  have hlen : (lenL n ss most).length = n := by unfold lenL; rw [ints_length, q1]
  refine ⟨hlen, ?_, fun y hy => (hle y hy).2, ?_, ?_⟩
  · simp only [Hf.may, Bool.and_eq_true, decide_eq_true_eq, List.all_eq_true, hlen, fine]
    exact ⟨⟨by omega, by omega⟩, fun y hy => by have := hle y hy; omega⟩
  · intro i hi hin
    have hc : 0 < (Lm.nats (cntL n ss)).getD i 0 := by
      unfold Lm.nats
      rw [List.getD, List.getElem?_map, cntL_get n ss i hin]
      have : 0 < ss.count i := List.count_pos_iff.2 hi
      simp only [Option.map_some, Option.getD_some]; omega
    have := q3 i hc
    unfold lenL
    rw [ints_get]; omega
  · rcases q4 with ⟨z1, z2⟩ | ⟨z1, z2⟩
    · right
      intro y hy
      simp only [lenL, Lm.ints, List.mem_map] at hy
      obtain ⟨l, hl, rfl⟩ := hy
      rw [pos_zero _ z1 l hl]; rfl
    · left
      unfold lenL
      rw [room_ints _ (fun l hl => by have := q2 l hl; omega)]; exact z2

/-! ### A dynamic block's lengths -/
def lenA (ts : List Tk) : List Int := lenL 286 (symsA ts ++ [256]) 15
def lenB (ts : List Tk) : List Int := lenL 30 (symsB ts) 15
def lenC (ts : List Tk) : List Int := lenL 19 ((cutL (lenA ts) 257 ++ cutL (lenB ts) 1).map Int.toNat) 7
def dynOf (ts : List Tk) : Bts := dynB (lenA ts) (lenB ts) (lenC ts) ts
theorem factsA (ts : List Tk) (h : ts.length ≤ 1000) : LenF 286 (symsA ts ++ [256]) 15 (lenA ts) := lenL_facts 286 _ 15 (by omega) (by omega) (by simp [symsA]; omega) (by omega) (by omega) (by decide)
theorem factsB (ts : List Tk) (h : ts.length ≤ 1000) : LenF 30 (symsB ts) 15 (lenB ts) := lenL_facts 30 _ 15 (by omega) (by omega) (by have := symsB_len ts; omega) (by omega) (by omega) (by decide)
theorem factsC (ts : List Tk) (h : ts.length ≤ 1000) : LenF 19 ((cutL (lenA ts) 257 ++ cutL (lenB ts) 1).map Int.toNat) 7 (lenC ts) := by
  refine lenL_facts 19 _ 7 (by omega) (by omega) ?_ (by omega) (by omega) (by decide)
  have a2 := upL_le (lenA ts) 257
  have b2 := upL_le (lenB ts) 1
  rw [(factsA ts h).len] at a2
  rw [(factsB ts h).len] at b2
  rw [List.length_map, List.length_append, cutL_length, cutL_length]; omega
theorem dyn3_of (ts : List Tk) (h : ts.length ≤ 1000) : Dyn3 (lenA ts) (lenB ts) (lenC ts) := by
  have fA := factsA ts h
  have fB := factsB ts h
  have fC := factsC ts h
  have e256 : 0 < at_ (lenA ts) 256 := fA.pos 256 (by simp) (by omega)
  have a1 := upL_ge (lenA ts) 257 (by rw [fA.len]; decide)
  have hx : ∀ n ∈ cutL (lenA ts) 257 ++ cutL (lenB ts) 1, 0 ≤ n ∧ n < 16 := by
    intro y hy
    rw [List.mem_append] at hy
    rcases hy with hy | hy
    · obtain ⟨i, hi, rfl⟩ := List.mem_iff_getElem.1 (List.mem_of_mem_take hy)
      have := may_at fA.may i hi; omega
    · obtain ⟨i, hi, rfl⟩ := List.mem_iff_getElem.1 (List.mem_of_mem_take hy)
      have := may_at fB.may i hi; omega
  have hC : ∀ n ∈ cutL (lenA ts) 257 ++ cutL (lenB ts) 1, 0 < at_ (lenC ts) n.toNat := fun n hn => fC.pos n.toNat (List.mem_map_of_mem hn) (by have := hx n hn; omega)
  refine ⟨fA.len, fA.may, ?_, e256, fB.len, fB.may, fB.room, fC.len, fC.may, ?_, fun n hn => by have := fC.le n hn; omega, hC⟩
  · rcases fA.room with e | e
    · exact e
    · have hl : 256 < (lenA ts).length := by rw [fA.len]; omega
      rw [at_eq 256 hl, e _ (List.getElem_mem hl)] at e256
      omega
  · rcases fC.room with e | e
    · exact e
    · exfalso
      have hl : 0 < (cutL (lenA ts) 257 ++ cutL (lenB ts) 1).length := by rw [List.length_append, cutL_length]; omega
      have h0 := hC _ (List.getElem_mem hl)
      have hl2 := lt_of_at h0
      rw [at_eq _ hl2, e _ (List.getElem_mem hl2)] at h0
      omega
theorem hasT_of (ts : List Tk) (h : ts.length ≤ 1000) (t : Tk) (ht : t ∈ ts) (a : Int) (ho : okT t a = true) : hasT (lenA ts) (lenB ts) t := by
  have fA := factsA ts h
  have fB := factsB ts h
  have hA : symA t ∈ symsA ts ++ [256] := by rw [List.mem_append]; left; exact List.mem_map_of_mem ht
  obtain ⟨h1, h2⟩ := Mt.okT_iff ho
  unfold hasT
  rcases h1 with h1 | h1
  · have hb := Mt.isB_iff h1
    rw [if_pos hb.2.2.1]
    have e : symA t = t.1.toNat := by unfold symA; rw [if_pos hb.2.2.1]
    rw [e] at hA
    exact fA.pos _ hA (by omega)
  · have hb := Mt.isC_iff h1
    have hne : ¬ t.2.1 = 0 := by omega
    rw [if_neg hne]
    have e : symA t = (symL t.2.1).1.toNat := by unfold symA; rw [if_neg hne]
    have hB : (symD t.2.2).1.toNat ∈ symsB ts := by
      unfold symsB
      rw [List.mem_flatMap]
      exact ⟨t, ht, by unfold symB; rw [if_neg hne]; simp⟩
    rw [e] at hA
    obtain ⟨x, hx⟩ : ∃ x : Nat, t.2.1 = (x : Int) := ⟨t.2.1.toNat, by omega⟩
    obtain ⟨y, hy⟩ : ∃ y : Nat, t.2.2 = (y : Int) := ⟨t.2.2.toNat, by omega⟩
    obtain ⟨j, f, j1, j2, j3, j4, j5⟩ := symL_is x (by omega) (by omega)
    obtain ⟨k, g, k1, k2, k3, k4, k5⟩ := symD_is y (by omega) (by omega)
    rw [hx, j2] at hA ⊢
    rw [hy, k2] at hB ⊢
    simp only [Int.toNat_natCast] at hA hB ⊢
    exact ⟨fA.pos _ hA (by omega), fB.pos _ hB (by omega)⟩

/-! ### Tokens of a text that is not too long -/
def mayT (ts : List Tk) : Bool := mayF 0 ts && decide (sumZ ts ≤ 300)
theorem sumZ_len : ∀ (ts : List Tk), (ts.length : Int) ≤ sumZ ts
  | [] => by simp [sumZ]
  | t :: r => by
    have := sumZ_len r
    have h1 : (1 : Int) ≤ sz t := by unfold sz; omega
    simp only [sumZ, List.length_cons]; omega
theorem mayT_is {ts : List Tk} (h : mayT ts = true) : mayF 0 ts = true ∧ sumZ ts ≤ 300 ∧ ts.length ≤ 300 ∧ ∀ t ∈ ts, ∃ a, okT t a = true := by
  simp only [mayT, Bool.and_eq_true, decide_eq_true_eq] at h
  have := sumZ_len ts
  exact ⟨h.1, h.2, by omega, mayF_ok ts 0 h.1⟩
/-- What a dynamic block tells is inflated again. -/
theorem dyn_back {ts : List Tk} (h : mayT ts = true) (most : Nat) (hm : sumZ ts ≤ most) (h8 : most ≤ 8192) (more : List Nat) : inflP (pack (dynOf ts) ++ more) (most : Int) = .ok (expF [] ts, (pack (dynOf ts)).length) := by
  obtain ⟨h1, h2, h3, h4⟩ := mayT_is h
  exact inflB_of (dynOf ts) most (expF [] ts) more (fun M => dyn_read (dyn3_of ts (by omega)) most ts h1 (fun t ht => by obtain ⟨a, ha⟩ := h4 t ht; exact hasT_of ts (by omega) t ht a ha) hm M) most rfl h8
theorem fix_back {ts : List Tk} (h : mayT ts = true) (most : Nat) (hm : sumZ ts ≤ most) (h8 : most ≤ 8192) (more : List Nat) : inflP (pack (fixedB ts) ++ more) (most : Int) = .ok (expF [] ts, (pack (fixedB ts)).length) := by
  obtain ⟨h1, h2, h3, h4⟩ := mayT_is h
  exact inflB_of (fixedB ts) most (expF [] ts) more (fun M => fixed_read most ts h1 hm M) most rfl h8

end Go.Proofs.Ytdbfbijalhknnab.Bk

namespace Go.Proofs.Ytdbfbijalhknnab.Bk
open Go.RowKit
open Hf Tb
open Mt (Tk RowT)
set_option linter.unusedVariables false
set_option linter.unusedSimpArgs false

theorem fits_of {ys : List Int} (hm : may ys = true) (hr : room ys ≤ 32768) : fits ys = true := by unfold fits; rw [hm, decide_eq_true hr]; rfl
/-- Codes of lengths that lie at a block's beginning. -/
theorem codes_pfx (g n cap : Nat) (ys : List Int) (w : World) (hP : Pfx w g ys) (hn : ys.length = n) (hm : may ys = true) (hr : room ys ≤ 32768) :
    Calls Try.prog 68 #[.slice (some ⟨g, 0, none⟩) n cap] w fun e w' => ∃ q, e = .returned (.tuple #[.slice (some ⟨q, 0, none⟩) n n, .int .i64 0]) ∧ Keeps (fun _ => False) w w' ∧ w.heap.size ≤ q ∧ Cds w' q ys.length (codeF ys) := by
  have := codes_good (some ⟨g, 0, none⟩) ys cap w hP.row (by have := (may_len hm).2; omega) (fits_of hm hr)
  rw [hn] at this ⊢; exact this
end Go.Proofs.Ytdbfbijalhknnab.Bk

namespace Go.Proofs.Ytdbfbijalhknnab.Bt
open Go.RowKit
set_option linter.unusedVariables false
set_option linter.unusedSimpArgs false

set_option maxHeartbeats 1000000 in
set_option maxRecDepth 100000 in
theorem one_in (b g q cap n r y : Nat) (x : Int) (w : World) (hnr : (n : Int) % 8 = (r : Int)) (htr : (n : Int).tmod 8 = (r : Int)) (hwq : IntKind.i64.wrap (q : Int) = q) (hwr : IntKind.i64.wrap (r : Int) = r) (hr0 : ((r : Int) == 0) = false) (hr : (r : Int) < 8) (hr1 : (0 : Int) ≤ r) (hq0 : (0 : Int) ≤ q) (hq : (q : Int) < q + 1) (hqe : (q : Int) + 1 - 1 = q) (hmc : q + 1 ≤ cap) (hcap : q ≤ 100000) (hn1 : (n : Int) ≤ 100000) (hx0 : 0 ≤ x) (hx1 : x ≤ 1) (hbg : b ≠ g)
    (h0 : w.cell? ⟨b, 0, none⟩ = some (.slice (some ⟨g, 0, none⟩) (q + 1) cap)) (h1 : w.cell? ⟨b, 1, none⟩ = some (.int .i64 n))
    (h2 : w.cell? ⟨g, q, none⟩ = some (.int .u8 y)) (f1 : w.frozen? ⟨b, 1, none⟩ = false) (f2 : w.frozen? ⟨g, q, none⟩ = false) :
    Calls Try.prog 29 #[.pointer (some ⟨b, 0, none⟩), .int .i64 x] w fun e w' => e = .returned (.tuple #[]) ∧
      w' = ((w.setCell ⟨g, q, none⟩ (.int .u8 (orByte y x r))).setCell ⟨b, 1, none⟩ (.int .i64 (n + 1))).drew := by
  go_enter Try.func29, Try.ntmps29
  go_wp2
  go_region
  go_wp2
  go_end0
  exact ⟨rfl, rfl⟩

set_option maxHeartbeats 1000000 in
set_option maxRecDepth 100000 in
theorem one_new (b n q cap0 : Nat) (a : Option Addr) (xs : List Value) (x : Int) (w : World) (hnq : (n : Int) / 8 = (q : Int)) (hnr : (n : Int) % 8 = 0) (htq : (n : Int).tdiv 8 = (q : Int)) (htr : (n : Int).tmod 8 = 0) (hwq : IntKind.i64.wrap (q : Int) = q) (hq0 : (0 : Int) ≤ q) (hq : (q : Int) < q + 1) (hqe : (q : Int) + 1 - 1 = q) (hcap : q ≤ 100000) (hn1 : (n : Int) ≤ 100000) (hx0 : 0 ≤ x) (hx1 : x ≤ 1)
    (hb : b < w.heap.size) (h0 : w.cell? ⟨b, 0, none⟩ = some (.slice a q cap0)) (h1 : w.cell? ⟨b, 1, none⟩ = some (.int .i64 n))
    (f0 : w.frozen? ⟨b, 0, none⟩ = false) (f1 : w.frozen? ⟨b, 1, none⟩ = false) (hown : w.ownsRow (b + 1) 5 1 (.slice a q cap0) q xs) :
    Calls Try.prog 29 #[.pointer (some ⟨b, 0, none⟩), .int .i64 x] w fun e w' => e = .returned (.tuple #[]) ∧
      ∃ g cap w1, w1.ownsRow (b + 1) 5 1 (.slice (some ⟨g, 0, none⟩) (q + 1) cap) (q + 1) (xs ++ [.int .u8 0]) ∧ (w.alloc (.cells #[.int .u8 0] 5)).grownBy w1 (Value.slice a q cap0).ownBlock ∧
        ((Value.slice a q cap0).ownBlock = some g ∨ g = w.heap.size + 1) ∧ g < w1.heap.size ∧
        w' = (((w1.setCell ⟨b, 0, none⟩ (.slice (some ⟨g, 0, none⟩) (q + 1) cap)).setCell ⟨g, q, none⟩ (.int .u8 (bits BinOp.or IntKind.u8 0 x))).setCell ⟨b, 1, none⟩ (.int .i64 (n + 1))).drew := by
  obtain ⟨i0, hi, hz0, hz1, hz2⟩ := info_parts Try.info5
  have HO : Hid (w.ownsRow (b + 1) 5 1 (.slice a q cap0) q xs) := hown
  clear hown
  go_enter Try.func29, Try.ntmps29
  go_wp2_with (at_builtin; refine wpList_append_lies _ rfl (.tmp 15) (.tmp 16) 47 rfl (b + 1) 5 i0 (.int .u8 0) 1 1 Try.underlying47 hi hz0 hz1 hz2 rfl (by decide) (.slice a q cap0) q xs rfl (HO.out.alloc _) ⟨w.heap.size, 0, none⟩ 1 1 [.int .u8 0] rfl rfl (cell_one_new _ _ _) ?c2 (by decide) ?b1 ?b2 ?b3 (w.heap.size + 1) (by simp) ?grow)
  case c2 => intro u hu; simp at hu; subst hu; rfl
  case b1 => unfold maxLen; omega
  case b2 => omega
  case b3 => simp; omega
  case grow =>
    intro g cap w1 hown1 hgrow hat hlt
    have hbelow : ∀ k, (Value.slice a q cap0).ownBlock = some k → b + 1 ≤ k := fun k hk => (HO.out.lt k hk).1
    have hne : some b ≠ (Value.slice a q cap0).ownBlock := fun h => by have := hbelow b h.symm; omega
    have hgb : b + 1 ≤ g := by
      rcases hat with h | h
      · exact hbelow g h
      · omega
    have hbg : b ≠ g := by omega
    have k0 : w1.cell? ⟨b, 0, none⟩ = some (.slice a q cap0) := (hgrow.cell_far ⟨b, 0, none⟩ (by simp; omega) hne).trans (by rw [World.cell?_alloc_past _ _ _ hb]; exact h0)
    have k1 : w1.cell? ⟨b, 1, none⟩ = some (.int .i64 n) := (hgrow.cell_far ⟨b, 1, none⟩ (by simp; omega) hne).trans (by rw [World.cell?_alloc_past _ _ _ hb]; exact h1)
    have e0 : w1.frozen? ⟨b, 0, none⟩ = false := (hgrow.frozen_far ⟨b, 0, none⟩ (by simp; omega) hne).trans (by rw [World.frozen?_alloc_past _ _ _ hb]; exact f0)
    have e1 : w1.frozen? ⟨b, 1, none⟩ = false := (hgrow.frozen_far ⟨b, 1, none⟩ (by simp; omega) hne).trans (by rw [World.frozen?_alloc_past _ _ _ hb]; exact f1)
    have hlx : xs.length = q := by have := HO.out.1; omega
    obtain ⟨k2, e2⟩ := owns_cell hown1 q (.int .u8 0) (by rw [← hlx]; simp)
    have HO1 : Hid (w1.ownsRow (b + 1) 5 1 (.slice (some ⟨g, 0, none⟩) (q + 1) cap) (q + 1) (xs ++ [.int .u8 0])) := hown1
    have HG : Hid ((w.alloc (.cells #[.int .u8 0] 5)).grownBy w1 (Value.slice a q cap0).ownBlock) := hgrow
    have HA : Hid ((Value.slice a q cap0).ownBlock = some g ∨ g = w.heap.size + 1) := hat
    clear hown1 hgrow hat hbelow hne h0 h1 f0 f1 HO hlx
    go_wp2
    go_region
    go_wp2
    go_end0
    refine ⟨rfl, g, cap, w1, HO1.out, HG.out, HA.out, hlt, ?_⟩
    rfl


theorem one_any (b : Nat) (o : Option Nat) (L : List Bool) (x : Bool) (w : World) (hL : L.length < 65536) (hW : Wr 49 w b o L) :
    Calls Try.prog 29 #[.pointer (some ⟨b, 0, none⟩), .int .i64 (x.toNat : Int)] w fun e w' => e = .returned (.tuple #[]) ∧ Onto 49 w w' b o (L ++ [x]) := by
  have hblt := hW.lt
  have hown0 := hW.own
  obtain ⟨a, cap0, hb, hown, hob⟩ := hW
  have c0 := cell_of_heap (i := 0) hb rfl
  have c1 := cell_of_heap (i := 1) hb rfl
  have g0 := frozen_of_heap (i := 0) hb
  have g1 := frozen_of_heap (i := 1) hb
  have hx0 : (0 : Int) ≤ (x.toNat : Int) := by omega
  have hx1 : (x.toNat : Int) ≤ 1 := by cases x <;> decide
  obtain ⟨q, r, hqr, hr8⟩ : ∃ q r, L.length = 8 * q + r ∧ r < 8 := ⟨L.length / 8, L.length % 8, by omega, by omega⟩
  have hwq : IntKind.i64.wrap (q : Int) = q := by simp [IntKind.wrap, IntKind.bits, IntKind.signed]; omega
  by_cases hr0 : r = 0
  · subst hr0
    have hpl : (pack L).length = q := by rw [pack_length]; omega
    rw [hpl] at c0 hown hob hb
    refine (one_new b L.length q cap0 a _ _ w (by omega) (by omega) (by rw [Int.tdiv_eq_ediv_of_nonneg (by omega)]; omega) (by rw [Int.tmod_eq_emod_of_nonneg (by omega)]; omega) hwq (by omega) (by omega) (by omega) (by omega) (by omega) hx0 hx1 hblt c0 c1 g0 g1 hown).mono ?_
    rintro e w' ⟨rfl, g, cap, w1, ho1, hgr, hat, hlt, rfl⟩
    have hlow : ∀ k, (Value.slice a q cap0).ownBlock = some k → b + 1 ≤ k := fun k hk => (hown.lt k hk).1
    have hne : some b ≠ (Value.slice a q cap0).ownBlock := fun h => by have := hlow b h.symm; omega
    have hgb : b + 1 ≤ g := by
      rcases hat with h | h
      · exact hlow g h
      · omega
    have hb1 : w1.heap[b]? = some (.cells #[.slice a q cap0, .int .i64 L.length] 49 (0, 0)) := (hgr.block b (by simp; omega) hne).trans ((Below.heap_alloc _ _ _ hblt).trans hb)
    have hbit : bits BinOp.or IntKind.u8 0 (x.toNat : Int) = (x.toNat : Int) := by cases x <;> decide
    have hpk : pack (L ++ [x]) = pack L ++ [x.toNat] := pack_snoc_new L x q (by omega)
    have hxl : ((pack L).map byteV).length = q := by simp [hpl]
    rw [hbit]
    refine ⟨rfl, some g, ⟨some ⟨g, 0, none⟩, cap, ?_, ?_, rfl⟩, ?_, ?_⟩
    · show (((w1.setCell ⟨b, 0, none⟩ _).setCell ⟨g, q, none⟩ _).setCell ⟨b, 1, none⟩ _).heap[b]? = _
      have h1 := heap_setCell_same (i := 0) hb1 (.slice (some ⟨g, 0, none⟩) (q + 1) cap)
      have h2 : ((w1.setCell ⟨b, 0, none⟩ (.slice (some ⟨g, 0, none⟩) (q + 1) cap)).setCell ⟨g, q, none⟩ (.int .u8 (x.toNat : Int))).heap[b]? = _ := (Below.heap_setCell _ _ _ _ (by simp; omega)).trans h1
      rw [heap_setCell_same (i := 1) h2]
      simp [hpk, hpl]
    · rw [hpk]
      have h1 := owns_far ho1 (p := ⟨b, 0, none⟩) (by simp [Value.ownBlock]; omega) (.slice (some ⟨g, 0, none⟩) (q + 1) cap)
      have h2 := owns_set h1 q (.int .u8 (x.toNat : Int))
      have h3 := owns_far h2 (p := ⟨b, 1, none⟩) (by simp [Value.ownBlock]; omega) (.int .i64 ((L.length : Int) + 1))
      rw [List.set_append_right _ _ (by omega), hxl, Nat.sub_self] at h3
      simp only [List.set_cons_zero] at h3
      rw [List.map_append, List.length_append, hpl]
      exact h3
    · rcases hat with h | h
      · exact .inl (by rw [← hob]; exact h.symm)
      · exact .inr ⟨g, rfl, by omega⟩
    · refine Keeps.drew (((((Keeps.refl _ w).alloc _).grown hgr ?_).setCell ?_ _).setCell ?_ _ |>.setCell ?_ _)
      · intro k _ hk; exact .inr (by rw [← hob]; exact hk)
      · intro _; exact .inl rfl
      · intro hg
        rcases hat with h | h
        · exact .inr (by rw [← hob]; exact h)
        · simp at hg; omega
      · intro _; exact .inl rfl
  · have hpl : (pack L).length = q + 1 := by rw [pack_length]; omega
    rw [hpl] at c0 hown hob hb
    obtain ⟨g, cap1, hv, hgb, hglt⟩ := hown.form (by omega)
    cases hv
    have hy : ((pack L).map byteV)[q]? = some (byteV (byteAt L q)) := by rw [List.getElem?_map, pack_get L q (by omega)]; rfl
    obtain ⟨k2, e2⟩ := owns_cell hown q _ hy
    have hwr : IntKind.i64.wrap (r : Int) = r := by simp [IntKind.wrap, IntKind.bits, IntKind.signed]; omega
    have hmc : q + 1 ≤ cap0 := by
      obtain ⟨_, h | ⟨g', c', cur, hv, _, _, hn, _⟩⟩ := hown
      · cases h.1
      · cases hv; exact hn
    refine (one_in b g q cap0 L.length r (byteAt L q) _ w (by omega) (by rw [Int.tmod_eq_emod_of_nonneg (by omega)]; omega) hwq hwr (beq_eq_false_iff_ne.2 (by omega)) (by omega) (by omega) (by omega) (by omega) (by omega) hmc (by omega) (by omega) hx0 hx1 (by omega) c0 c1 k2 g1 e2).mono ?_
    rintro e w' ⟨rfl, rfl⟩
    rw [orByte_eq _ r x (byteAt_small L q r hqr hr8) hr8]
    have hpk : pack (L ++ [x]) = (pack L).set q (byteAt L q + 2 ^ r * x.toNat) := pack_snoc_in L x q r hqr (by omega) hr8
    refine ⟨rfl, o, ⟨some ⟨g, 0, none⟩, cap0, ?_, ?_, ?_⟩, .inl rfl, ?_⟩
    · show ((w.setCell ⟨g, q, none⟩ _).setCell ⟨b, 1, none⟩ _).heap[b]? = _
      have h2 : (w.setCell ⟨g, q, none⟩ (.int .u8 ((byteAt L q + 2 ^ r * x.toNat : Nat) : Int))).heap[b]? = _ := (Below.heap_setCell _ _ _ _ (by simp; omega)).trans hb
      rw [heap_setCell_same (i := 1) h2]
      simp [hpk, hpl]
    · have h2 := owns_set hown q (byteV (byteAt L q + 2 ^ r * x.toNat))
      have h3 := owns_far h2 (p := ⟨b, 1, none⟩) (by simp [Value.ownBlock]; omega) (.int .i64 ((L.length : Int) + 1))
      rw [← List.map_set, ← hpk] at h3
      rw [show (pack (L ++ [x])).length = q + 1 by rw [hpk]; simp [hpl]]
      exact h3
    · rw [← hob]; rfl
    · refine Keeps.drew (((Keeps.refl _ w).setCell ?_ _).setCell ?_ _)
      · intro _; exact .inr (by rw [← hob]; rfl)
      · intro _; exact .inl rfl


/-- 'Put' by the document: what must hold for it. -/
def Takes (lo most : Int) (L : List Bool) (x k : Int) : Prop := lo ≤ k ∧ k ≤ most ∧ 0 ≤ x ∧ x < 2 ^ k.toNat ∧ (L.length : Int) + k ≤ 65536

set_option maxHeartbeats 1000000 in
set_option maxRecDepth 100000 in
theorem rput_ok (b : Nat) (o : Option Nat) (L : List Bool) (v k : Nat) (w : World) (hk : (k : Int) ≤ 16) (hv : v < 2 ^ k) (hL : L.length + k ≤ 65536) (hW : Hid (Wr 49 w b o L)) :
    Calls Try.prog 16 #[.pointer (some ⟨b, 0, none⟩), .int .i64 v, .int .i64 k] w fun e w' => e = .returned (.int .i64 0) ∧ Onto 49 w w' b o (L ++ bitsOf v k) := by
  have h1 : ¬ (k : Int) < 0 := by omega
  have h2 : ¬ 16 < (k : Int) := by omega
  have h3 : ¬ (v : Int) < 0 := by omega
  have hw2 : wrap64 (2 ^ k) = 2 ^ k := wrap64_two k (by omega)
  have hpi : (v : Int) < 2 ^ k := by exact_mod_cast hv
  have h4 : ¬ (2 : Int) ^ k ≤ (v : Int) := by omega
  have hp : (2 : Nat) ^ k ≤ 2 ^ 16 := Nat.pow_le_pow_right (by decide) (by omega)
  have hv2 : (v : Int) < 65536 := by omega
  have hc : w.cell? ⟨b, 1, none⟩ = some (.int .i64 L.length) := by
    obtain ⟨a, cap, hb, _, _⟩ := hW.out
    exact cell_of_heap (i := 1) hb rfl
  have h5 : ¬ 65536 < (L.length : Int) + k := by omega
  have hl : (L.length : Int) ≤ 65536 := by omega
  clear hp hv
  go_enter Try.func16, Try.ntmps16
  go_wp2_with fail
  go_loopw [7] (fun i w' => ∃ j : Nat, j ≤ k ∧ i = .int .i64 j ∧ Onto 49 w w' b o (L ++ bitsOf v j)) (fun i _ => k - (intOf i).toNat)
  case atStart => exact ⟨0, Nat.zero_le _, rfl, by simpa [bitsOf] using ⟨o, hW.out, .inl rfl, Keeps.refl _ _⟩⟩
  case round =>
    obtain ⟨j, hj, rfl, hon⟩ := hrel
    obtain ⟨o', hw1, ho1, hk1⟩ := hon
    have HW1 : Hid (Wr 49 wr b o' (L ++ bitsOf v j)) := hw1
    have HO1 : Hid (o' = o ∨ ∃ g, o' = some g ∧ w.heap.size ≤ g) := ho1
    have HK1 : Hid (Keeps (fun k => k = b ∨ o = some k) w wr) := hk1
    clear hw1 ho1 hk1 hc
    by_cases hlt : j < k
    · go_wp2_with fail
      rw [i64_bit v j (by omega)]
      refine (one_any b o' _ (v.testBit j) wr (by simp [bitsOf_length]; omega) HW1.out).mono ?_
      rintro e w2 ⟨rfl, hon2⟩
      have HN : Hid (Onto 49 w w2 b o (L ++ bitsOf v (j + 1))) := by
        have h := Onto.trans HO1.out HK1.out hon2
        rw [List.append_assoc, ← bitsOf_succ] at h
        exact h
      clear hon2
      go_wp2
      go_roundw
      case rel => exact ⟨j + 1, by omega, by go_num, HN.out⟩
      case measure => simp [intOf]; omega
    · have hjk : (k : Int) ≤ j := by omega
      have HJ : Hid (j = k) := by show j = k; omega
      go_wp2
      go_ret
      rw [HJ.out] at HW1
      exact ⟨rfl, o', HW1.out, HO1.out, HK1.out⟩

set_option maxHeartbeats 1000000 in
set_option maxRecDepth 100000 in
theorem rput_bad (b : Nat) (o : Option Nat) (L : List Bool) (x k : Int) (w : World) (hW : Wr 49 w b o L) (hL : L.length ≤ 65536) (h : ¬ Takes 0 16 L x k) :
    Calls Try.prog 16 #[.pointer (some ⟨b, 0, none⟩), .int .i64 x, .int .i64 k] w fun e w' => e = .returned (.int .i64 100) ∧ w' = w := by
  have hc : w.cell? ⟨b, 1, none⟩ = some (.int .i64 L.length) := by
    obtain ⟨a, cap, hb, _, _⟩ := hW
    exact cell_of_heap (i := 1) hb rfl
  clear hW
  have hl : (L.length : Int) ≤ 65536 := by omega
  unfold Takes at h
  by_cases h1 : k < 0
  · clear h
    go_enter Try.func16, Try.ntmps16
    go_wp2
    go_ret
    exact ⟨rfl, rfl⟩
  by_cases h2 : 16 < k
  · clear h
    go_enter Try.func16, Try.ntmps16
    go_wp2
    go_ret
    exact ⟨rfl, rfl⟩
  by_cases h3 : x < 0
  · clear h
    go_enter Try.func16, Try.ntmps16
    go_wp2
    go_ret
    exact ⟨rfl, rfl⟩
  obtain ⟨n, rfl⟩ := Int.eq_ofNat_of_zero_le (show 0 ≤ k by omega)
  have hw2 : wrap64 (2 ^ n) = 2 ^ n := wrap64_two n (by omega)
  rw [Int.toNat_natCast] at h
  by_cases h4 : x < 2 ^ n
  · have h5 : 65536 < (L.length : Int) + n := by
      by_cases h6 : (L.length : Int) + n ≤ 65536
      · exact absurd ⟨by omega, by omega, by omega, h4, h6⟩ h
      · omega
    have h4' : ¬ (2 : Int) ^ n ≤ x := by omega
    clear h
    go_enter Try.func16, Try.ntmps16
    go_wp2
    go_ret
    exact ⟨rfl, rfl⟩
  · have h4' : (2 : Int) ^ n ≤ x := by omega
    clear h
    go_enter Try.func16, Try.ntmps16
    go_wp2
    go_ret
    exact ⟨rfl, rfl⟩

set_option maxHeartbeats 1000000 in
set_option maxRecDepth 100000 in
theorem rcode_ok (b : Nat) (o : Option Nat) (L : List Bool) (v k : Nat) (w : World) (hk1 : 1 ≤ (k : Int)) (hk : (k : Int) ≤ 15) (hv : v < 2 ^ k) (hL : L.length + k ≤ 65536) (hW : Hid (Wr 49 w b o L)) :
    Calls Try.prog 18 #[.pointer (some ⟨b, 0, none⟩), .agg #[.int .i64 k, .int .i64 v]] w fun e w' => e = .returned (.int .i64 0) ∧ Onto 49 w w' b o (L ++ codeOf v k) := by
  have h1 : ¬ (k : Int) < 1 := by omega
  have h2 : ¬ 15 < (k : Int) := by omega
  have h3 : ¬ (v : Int) < 0 := by omega
  have hw2 : wrap64 (2 ^ k) = 2 ^ k := wrap64_two k (by omega)
  have hw3 : IntKind.i64.wrap (2 ^ k) = 2 ^ k := by rw [IntWalk.i64_left]; exact hw2
  have hpi : (v : Int) < 2 ^ k := by exact_mod_cast hv
  have h4 : ¬ (2 : Int) ^ k ≤ (v : Int) := by omega
  have hp : (2 : Nat) ^ k ≤ 2 ^ 16 := Nat.pow_le_pow_right (by decide) (by omega)
  have hv2 : (v : Int) < 65536 := by omega
  have d1 : decide ((k : Int) < 1) = false := by simp; omega
  have d2 : decide (15 < (k : Int)) = false := by simp; omega
  have d3 : decide ((v : Int) < 0) = false := by simp
  have d4 : decide ((2 : Int) ^ k ≤ (v : Int)) = false := by simp; omega
  have hblt := hW.out.lt
  have hW1 : Hid (Wr 49 (w.alloc (.cells #[.int .i64 k, .int .i64 v] 56)) b o L) := hW.out.alloc _
  have hc : (w.alloc (.cells #[.int .i64 k, .int .i64 v] 56)).cell? ⟨b, 1, none⟩ = some (.int .i64 L.length) := by
    obtain ⟨a, cap, hb, _, _⟩ := hW1.out
    exact cell_of_heap (i := 1) hb rfl
  have h5 : ¬ 65536 < (L.length : Int) + k := by omega
  have d5 : decide (65536 < (L.length : Int) + k) = false := by simp; omega
  have hl : (L.length : Int) ≤ 65536 := by omega
  have hwl : IntKind.i64.wrap ((L.length : Int) + k) = (L.length : Int) + k := by rw [IntWalk.i64_left]; simp only [wrap64]; omega
  clear hp hv
  go_enter Try.func18, Try.ntmps18
  go_wp2_with fail
  go_quiet (fail)
  go_wp2_with fail
  have HBX : Hid (∀ w', Keeps (fun k => k = b ∨ o = some k) (w.alloc (.cells #[.int .i64 k, .int .i64 v] 56)) w' → w'.heap[w.heap.size]? = some (.cells #[.int .i64 k, .int .i64 v] 56 (0, 0))) := by
    intro w' hk'
    refine (hk'.block w.heap.size (by simp) ?_).trans (heap_alloc_new w _)
    intro h
    rcases h with h | h
    · omega
    · have := (hW.out.own _ h).2; omega
  go_loopw [5] (fun i w' => ∃ t : Nat, t ≤ k ∧ i = .int .i64 ((k : Int) - 1 - t) ∧ Onto 49 (w.alloc (.cells #[.int .i64 k, .int .i64 v] 56)) w' b o (L ++ (codeOf v k).take t)) (fun i _ => (intOf i + 1).toNat)
  case atStart => exact ⟨0, Nat.zero_le _, by simp, by simpa using ⟨o, hW1.out, .inl rfl, (Keeps.refl _ _).drewN nq⟩⟩
  case round =>
    obtain ⟨t, ht, rfl, hon⟩ := hrel
    obtain ⟨o', hw1, ho1, hk1⟩ := hon
    have hbx := HBX.out wr hk1
    have hcx : wr.cell? ⟨w.heap.size, 1, none⟩ = some (.int .i64 v) := cell_of_heap (i := 1) hbx rfl
    have HW1 : Hid (Wr 49 wr b o' (L ++ (codeOf v k).take t)) := hw1
    have HO1 : Hid (o' = o ∨ ∃ g, o' = some g ∧ (w.alloc (.cells #[.int .i64 k, .int .i64 v] 56)).heap.size ≤ g) := ho1
    have HK1 : Hid (Keeps (fun k => k = b ∨ o = some k) (w.alloc (.cells #[.int .i64 k, .int .i64 v] 56)) wr) := hk1
    clear hw1 ho1 hk1 hc hbx
    by_cases hlt : t < k
    · have htk : (0 : Int) ≤ (k : Int) - 1 - t := by omega
      obtain ⟨q, hq⟩ : ∃ q : Nat, (k : Int) - 1 - t = (q : Int) := ⟨k - 1 - t, by omega⟩
      have HQ : Hid (k - 1 - t = q) := by show k - 1 - t = q; omega
      have hq0 : (0 : Int) ≤ q := by omega
      have hq9 : (q : Int) ≤ 16 := by omega
      go_wp2_with fail
      rw [i64_bit v q (by omega)]
      refine (one_any b o' _ (v.testBit q) wr (by simp [codeOf_length]; omega) HW1.out).mono ?_
      rintro e w2 ⟨rfl, hon2⟩
      have HN : Hid (Onto 49 (w.alloc (.cells #[.int .i64 k, .int .i64 v] 56)) w2 b o (L ++ (codeOf v k).take (t + 1))) := by
        have h := Onto.trans HO1.out HK1.out hon2
        rw [List.append_assoc, ← HQ.out, ← codeOf_take_succ v k t hlt] at h
        exact h
      clear hon2 hcx
      go_wp2
      go_roundw
      case rel => exact ⟨t + 1, by omega, by congr 1; omega, HN.out⟩
      case measure => simp [intOf]; omega
    · have htk : ¬ (0 : Int) ≤ (k : Int) - 1 - t := by omega
      have HJ : Hid (t = k) := by show t = k; omega
      clear d1 d2 d3 d4 d5 h1 h2 h3 h4 h5 hw2 hw3 hwl hpi hcx hv2 hl
      go_wp2
      go_ret
      rw [HJ.out, List.take_of_length_le (by rw [codeOf_length]; omega)] at HW1
      exact ⟨rfl, Onto.of_alloc ⟨o', HW1.out, HO1.out, HK1.out⟩⟩

set_option maxHeartbeats 1000000 in
set_option maxRecDepth 100000 in
theorem rcode_bad_at (b n : Nat) (x k : Int) (w : World) (hb : b < w.heap.size) (hl : (n : Int) ≤ 65536) (hc0 : w.cell? ⟨b, 1, none⟩ = some (.int .i64 n)) (h : k < 1 ∨ 15 < k ∨ x < 0) :
    Calls Try.prog 18 #[.pointer (some ⟨b, 0, none⟩), .agg #[.int .i64 k, .int .i64 x]] w fun e w' => e = .returned (.int .i64 100) ∧ ∃ m, w' = (w.alloc (.cells #[.int .i64 k, .int .i64 x] 56)).drewN m := by
  by_cases h1 : k < 1
  · have d1 : decide (k < 1) = true := by simp; omega
    clear h
    go_enter Try.func18, Try.ntmps18
    go_wp2_with fail
    go_quiet (fail)
    go_wp2
    go_ret
    exact ⟨rfl, _, rfl⟩
  have d1 : decide (k < 1) = false := by simp; omega
  by_cases h2 : 15 < k
  · have d2 : decide (15 < k) = true := by simp; omega
    clear h
    go_enter Try.func18, Try.ntmps18
    go_wp2_with fail
    go_quiet (fail)
    go_wp2
    go_ret
    exact ⟨rfl, _, rfl⟩
  have d2 : decide (15 < k) = false := by simp; omega
  have h3 : x < 0 := by omega
  have d3 : decide (x < 0) = true := by simp; omega
  clear h
  go_enter Try.func18, Try.ntmps18
  go_wp2_with fail
  go_quiet (fail)
  go_wp2
  go_ret
  exact ⟨rfl, _, rfl⟩


set_option maxHeartbeats 1000000 in
set_option maxRecDepth 100000 in
theorem rcode_bad_in (b n k : Nat) (x : Int) (w : World) (hb : b < w.heap.size) (hl : (n : Int) ≤ 65536) (hc0 : w.cell? ⟨b, 1, none⟩ = some (.int .i64 n)) (hk1 : 1 ≤ (k : Int)) (hk : (k : Int) ≤ 15) (hx : 0 ≤ x) (h : (2 : Int) ^ k ≤ x ∨ 65536 < (n : Int) + k) :
    Calls Try.prog 18 #[.pointer (some ⟨b, 0, none⟩), .agg #[.int .i64 k, .int .i64 x]] w fun e w' => e = .returned (.int .i64 100) ∧ ∃ m, w' = (w.alloc (.cells #[.int .i64 k, .int .i64 x] 56)).drewN m := by
  have d1 : decide ((k : Int) < 1) = false := by simp; omega
  have d2 : decide (15 < (k : Int)) = false := by simp; omega
  have d3 : decide (x < 0) = false := by simp; omega
  have hw2 : wrap64 (2 ^ k) = 2 ^ k := wrap64_two k (by omega)
  have hw3 : IntKind.i64.wrap (2 ^ k) = 2 ^ k := by rw [IntWalk.i64_left]; exact hw2
  have hc : (w.alloc (.cells #[.int .i64 k, .int .i64 x] 56)).cell? ⟨b, 1, none⟩ = some (.int .i64 n) := by rw [World.cell?_alloc_past _ _ _ hb]; exact hc0
  have hwl : IntKind.i64.wrap ((n : Int) + k) = (n : Int) + k := by rw [IntWalk.i64_left]; simp only [wrap64]; omega
  clear hc0
  by_cases h4 : (2 : Int) ^ k ≤ x
  · have d4 : decide ((2 : Int) ^ k ≤ x) = true := by simp; omega
    clear h
    go_enter Try.func18, Try.ntmps18
    go_wp2_with fail
    go_quiet (fail)
    go_wp2
    go_ret
    exact ⟨rfl, _, rfl⟩
  have d4 : decide ((2 : Int) ^ k ≤ x) = false := by simp; omega
  have h5 : 65536 < (n : Int) + k := by omega
  have d5 : decide (65536 < (n : Int) + k) = true := by simp; omega
  clear h
  go_enter Try.func18, Try.ntmps18
  go_wp2_with fail
  go_quiet (fail)
  go_wp2
  go_ret
  exact ⟨rfl, _, rfl⟩

theorem rcode_bad (b : Nat) (o : Option Nat) (L : List Bool) (x k : Int) (w : World) (hW : Wr 49 w b o L) (hL : L.length ≤ 65536) (h : ¬ Takes 1 15 L x k) :
    Calls Try.prog 18 #[.pointer (some ⟨b, 0, none⟩), .agg #[.int .i64 k, .int .i64 x]] w fun e w' => e = .returned (.int .i64 100) ∧ ∃ m, w' = (w.alloc (.cells #[.int .i64 k, .int .i64 x] 56)).drewN m := by
  have hb := hW.lt
  have hc : w.cell? ⟨b, 1, none⟩ = some (.int .i64 L.length) := by
    obtain ⟨a, cap, hb, _, _⟩ := hW
    exact cell_of_heap (i := 1) hb rfl
  unfold Takes at h
  by_cases h1 : k < 1 ∨ 15 < k ∨ x < 0
  · exact rcode_bad_at b L.length x k w hb (by omega) hc h1
  · obtain ⟨n, rfl⟩ := Int.eq_ofNat_of_zero_le (show 0 ≤ k by omega)
    rw [Int.toNat_natCast] at h
    refine rcode_bad_in b L.length n x w hb (by omega) hc (by omega) (by omega) (by omega) ?_
    by_cases h4 : (2 : Int) ^ n ≤ x
    · exact .inl h4
    · right
      by_cases h6 : (L.length : Int) + n ≤ 65536
      · exact absurd ⟨by omega, by omega, by omega, by omega, h6⟩ h
      · omega

set_option maxHeartbeats 400000 in
theorem rtext_at (b n cap : Nat) (a : Option Addr) (s : ByteArray) (w : World) (hc : w.cell? ⟨b, 0, none⟩ = some (.slice a n cap)) (hrun : (convert 47 9 (.slice a n cap)).run Try.prog w = .ok (.string s) w) :
    Calls Try.prog 20 #[.pointer (some ⟨b, 0, none⟩)] w fun e w' => e = .returned (.string s) ∧ w' = w := by
  go_enter Try.func20, Try.ntmps20
  go_wp2
  go_ret
  exact ⟨rfl, rfl⟩

theorem rtext_ok (b : Nat) (o : Option Nat) (L : List Bool) (w : World) (hW : Wr 49 w b o L) :
    Calls Try.prog 20 #[.pointer (some ⟨b, 0, none⟩)] w fun e w' => e = .returned (.string (textOf (pack L))) ∧ w' = w := by
  obtain ⟨a, cap0, hb, hown, hob⟩ := hW
  exact rtext_at b _ cap0 a _ w (cell_of_heap (i := 0) hb rfl) (convert_row w _ _ cap0 a _ (pack_lt L) hown)

end Go.Proofs.Ytdbfbijalhknnab.Bt

namespace Go.Proofs.Ytdbfbijalhknnab.Tb
open Go.RowKit
set_option linter.unusedVariables false
set_option linter.unusedSimpArgs false

theorem lenG_high (m : Nat) (h : 4 ≤ m) (h2 : m ≤ 23) : lenF (m + 4) = (3 + (4 + m % 4) * 2 ^ (m / 4), m / 4) := by
  rw [← lenG_eq (m + 4) (by omega)]
  unfold lenG
  rw [if_neg (by omega), if_neg (by omega), Nat.add_sub_cancel]
theorem dstG_high (m : Nat) (h : 2 ≤ m) (h2 : m ≤ 27) : dstF (m + 2) = (1 + (2 + m % 2) * 2 ^ (m / 2), m / 2) := by
  rw [← dstG_eq (m + 2) (by omega)]
  unfold dstG
  rw [if_neg (by omega), Nat.add_sub_cancel, Nat.add_mod_right]
theorem shl_fit (a q : Nat) (ha : a ≤ 7) (hq : q ≤ 14) : wrap64 ((a : Int) * 2 ^ q) = ((a * 2 ^ q : Nat) : Int) ∧ a * 2 ^ q ≤ 200000 := by
  have h1 := pow_small q hq
  have e : ((a : Int) * 2 ^ q) = ((a * 2 ^ q : Nat) : Int) := by push_cast; rfl
  have h2 : a * 2 ^ q ≤ 7 * 16384 := Nat.mul_le_mul ha h1
  rw [e]
  generalize a * 2 ^ q = z at *
  refine ⟨?_, by omega⟩
  unfold wrap64; omega

set_option maxHeartbeats 4000000 in
set_option maxRecDepth 1000000 in
theorem rlengthOf_ok (k : Int) (w : World) : Calls Try.prog 26 #[.int .i64 k] w fun e w' => e = .returned (.tuple #[.int .i64 (ofL k).1, .int .i64 (ofL k).2, .int .i64 (errB (inLS k))]) ∧ w' = w := by
  by_cases hl : k < 257
  · have HE : Hid (inLS k = false) := decide_eq_false (by omega)
    go_enter Try.func26, Try.ntmps26
    go_wp2
    go_ret3
    exact ⟨by simp [ofL, errB, HE.out], rfl⟩
  by_cases hg : 285 < k
  · have HE : Hid (inLS k = false) := decide_eq_false (by omega)
    go_enter Try.func26, Try.ntmps26
    go_wp2
    go_ret3
    exact ⟨by simp [ofL, errB, HE.out], rfl⟩
  have HE : Hid (inLS k = true) := decide_eq_true (by omega)
  have HO : Hid (ofL k = (((lenF (k - 257).toNat).1 : Int), ((lenF (k - 257).toNat).2 : Int))) := show _ = _ by unfold ofL; rw [HE.out]; rfl
  by_cases h285 : k = 285
  · subst h285
    go_enter Try.func26, Try.ntmps26
    go_wp2
    go_ret3
    exact ⟨by rw [HO.out, HE.out]; rfl, rfl⟩
  by_cases h265 : k < 265
  · have hw : wrap64 (k - 254) = k - 254 := by unfold wrap64; omega
    have HF : Hid (lenF (k - 257).toNat = ((k - 254).toNat, 0)) := show _ = _ by
      rw [← lenG_eq _ (by omega)]
      unfold lenG
      rw [if_neg (by omega), if_pos (by omega)]
      congr 1; omega
    have hk2 : ((k - 254).toNat : Int) = k - 254 := by omega
    have HK2 : Hid (((k - 254).toNat : Int) = k - 254) := hk2
    clear hk2
    go_enter Try.func26, Try.ntmps26
    go_wp2
    go_ret3
    refine ⟨?_, rfl⟩
    rw [HO.out, HE.out, HF.out, HK2.out]; rfl
  · obtain ⟨m, rfl⟩ : ∃ m : Nat, k = (m : Int) + 261 := ⟨(k - 261).toNat, by omega⟩
    have hm : 4 ≤ m ∧ m ≤ 23 := by omega
    obtain ⟨q, hq⟩ : ∃ q, m / 4 = q := ⟨_, rfl⟩
    obtain ⟨r, hr⟩ : ∃ r, m % 4 = r := ⟨_, rfl⟩
    have HF : Hid (lenF ((m : Int) + 261 - 257).toNat = (3 + (4 + r) * 2 ^ q, q)) := show _ = _ by
      rw [show ((m : Int) + 261 - 257).toNat = m + 4 by omega, lenG_high m hm.1 hm.2, hq, hr]
    have hd : (m : Int) / 4 = (q : Int) := by omega
    have hrz : (m : Int) % 4 = (r : Int) := by omega
    have hw : wrap64 ((m : Int) + 261 - 261) = (m : Int) := by unfold wrap64; omega
    obtain ⟨s1, s2⟩ := shl_fit (4 + r) q (by omega) (by omega)
    obtain ⟨z, hz⟩ : ∃ z, (4 + r) * 2 ^ q = z := ⟨_, rfl⟩
    rw [hz] at s1 s2 HF
    have hs : wrap64 ((4 + (r : Int)) * 2 ^ q) = (z : Int) := by rw [← s1]; push_cast; rfl
    have hr3 : r ≤ 3 := by omega
    have hq5 : q ≤ 5 := by omega
    clear s1 hz hq hr
    go_enter Try.func26, Try.ntmps26
    go_wp2
    go_ret3
    refine ⟨?_, rfl⟩
    rw [HO.out, HE.out, HF.out]; push_cast; rfl

set_option maxHeartbeats 4000000 in
set_option maxRecDepth 1000000 in
theorem rdistOf_ok (k : Int) (w : World) : Calls Try.prog 27 #[.int .i64 k] w fun e w' => e = .returned (.tuple #[.int .i64 (ofD k).1, .int .i64 (ofD k).2, .int .i64 (errB (inDS k))]) ∧ w' = w := by
  by_cases hl : k < 0
  · have HE : Hid (inDS k = false) := decide_eq_false (by omega)
    go_enter Try.func27, Try.ntmps27
    go_wp2
    go_ret3
    exact ⟨by simp [ofD, errB, HE.out], rfl⟩
  by_cases hg : 29 < k
  · have HE : Hid (inDS k = false) := decide_eq_false (by omega)
    go_enter Try.func27, Try.ntmps27
    go_wp2
    go_ret3
    exact ⟨by simp [ofD, errB, HE.out], rfl⟩
  have HE : Hid (inDS k = true) := decide_eq_true (by omega)
  have HO : Hid (ofD k = (((dstF k.toNat).1 : Int), ((dstF k.toNat).2 : Int))) := show _ = _ by unfold ofD; rw [HE.out]; rfl
  by_cases h4 : k < 4
  · have hw : wrap64 (k + 1) = k + 1 := by unfold wrap64; omega
    have HF : Hid (dstF k.toNat = ((k + 1).toNat, 0)) := show _ = _ by
      rw [← dstG_eq _ (by omega)]
      unfold dstG
      rw [if_pos (by omega)]
      congr 1; omega
    have hk2 : ((k + 1).toNat : Int) = k + 1 := by omega
    have HK2 : Hid (((k + 1).toNat : Int) = k + 1) := hk2
    clear hk2
    go_enter Try.func27, Try.ntmps27
    go_wp2
    go_ret3
    refine ⟨?_, rfl⟩
    rw [HO.out, HE.out, HF.out, HK2.out]; rfl
  · obtain ⟨m, rfl⟩ : ∃ m : Nat, k = (m : Int) + 2 := ⟨(k - 2).toNat, by omega⟩
    have hm : 2 ≤ m ∧ m ≤ 27 := by omega
    obtain ⟨q, hq⟩ : ∃ q, m / 2 = q := ⟨_, rfl⟩
    obtain ⟨r, hr⟩ : ∃ r, m % 2 = r := ⟨_, rfl⟩
    have HF : Hid (dstF ((m : Int) + 2).toNat = (1 + (2 + r) * 2 ^ q, q)) := show _ = _ by
      rw [show ((m : Int) + 2).toNat = m + 2 by omega, dstG_high m hm.1 hm.2, hq, hr]
    have hd : (m : Int) / 2 = (q : Int) := by omega
    have hrz : ((m : Int) + 2) % 2 = (r : Int) := by omega
    have hw : wrap64 ((m : Int) + 2 - 2) = (m : Int) := by unfold wrap64; omega
    obtain ⟨s1, s2⟩ := shl_fit (2 + r) q (by omega) (by omega)
    obtain ⟨z, hz⟩ : ∃ z, (2 + r) * 2 ^ q = z := ⟨_, rfl⟩
    rw [hz] at s1 s2 HF
    have hs : wrap64 ((2 + (r : Int)) * 2 ^ q) = (z : Int) := by rw [← s1]; push_cast; rfl
    have hr3 : r ≤ 1 := by omega
    have hq5 : q ≤ 13 := by omega
    clear s1 hz hq hr
    go_enter Try.func27, Try.ntmps27
    go_wp2
    go_ret3
    refine ⟨?_, rfl⟩
    rw [HO.out, HE.out, HF.out]; push_cast; rfl

set_option maxHeartbeats 4000000 in
set_option maxRecDepth 1000000 in
theorem rlength_ok (k : Int) (w : World) : Calls Try.prog 11 #[.int .i64 k] w fun e w' => e = .returned (.tuple #[syV (symL k), .int .i64 (errB (inL k))]) ∧ Keeps (fun _ => False) w w' := by
  by_cases hb : k < 3 ∨ 258 < k
  · have HE : Hid (inL k = false) := decide_eq_false (by omega)
    have HS : Hid (symL k = (0, 0, 0)) := show _ = _ by unfold symL; rw [HE.out]; rfl
    rcases hb with hl | hg
    · skip
      go_enter Try.func11, Try.ntmps11
      go_wp2_with (first
        | (refine wpList_alloc3 rfl rfl ?_; intro b2 w1 hT1 hK1 hb2; have HW : Hid (Syb w1 b2 (0, 0, 0) ∧ Keeps (fun _ => False) w w1 ∧ w.heap.size ≤ b2) := ⟨hT1, hK1, hb2⟩; clear hT1 hK1 hb2)
        | (refine wpList_store3 rfl _ _ rfl b2 (0, 0, 0) rfl rfl (0, 0, 0) HW.out.1 ?_; intro w2 hT2 hK2; have HK : Hid (Keeps (fun _ => False) w w2) := HW.out.2.1.trans hK2 (fun i hi e => by have := HW.out.2.2; omega); have HT : Hid (Syb w2 b2 (0, 0, 0)) := hT2; clear hT2 hK2))
      (try simp only [Exit.inBlock, Exit.then])
      refine bodyPost_ret (v := .tuple #[syV (0, 0, 0), .int .i64 600]) ?_ rfl ⟨by rw [HS.out, HE.out]; rfl, HK.out⟩
      rw [results_cell_tmp rfl]
      show ((asAddr (.pointer (some ⟨b2, 0, none⟩))).run Try.prog w2).andThen (fun a w₁ => ((loadVar 39 a).run Try.prog w₁).andThen fun v w₂ => .ok (Value.tuple #[v, .int .i64 600]) w₂) = _
      simp [asAddr, Result.andThen, HT.out.loadVar, syV]
    · have hl : ¬ (k < 3) := by omega
      go_enter Try.func11, Try.ntmps11
      go_wp2_with (first
        | (refine wpList_alloc3 rfl rfl ?_; intro b2 w1 hT1 hK1 hb2; have HW : Hid (Syb w1 b2 (0, 0, 0) ∧ Keeps (fun _ => False) w w1 ∧ w.heap.size ≤ b2) := ⟨hT1, hK1, hb2⟩; clear hT1 hK1 hb2)
        | (refine wpList_store3 rfl _ _ rfl b2 (0, 0, 0) rfl rfl (0, 0, 0) HW.out.1 ?_; intro w2 hT2 hK2; have HK : Hid (Keeps (fun _ => False) w w2) := HW.out.2.1.trans hK2 (fun i hi e => by have := HW.out.2.2; omega); have HT : Hid (Syb w2 b2 (0, 0, 0)) := hT2; clear hT2 hK2))
      (try simp only [Exit.inBlock, Exit.then])
      refine bodyPost_ret (v := .tuple #[syV (0, 0, 0), .int .i64 600]) ?_ rfl ⟨by rw [HS.out, HE.out]; rfl, HK.out⟩
      rw [results_cell_tmp rfl]
      show ((asAddr (.pointer (some ⟨b2, 0, none⟩))).run Try.prog w2).andThen (fun a w₁ => ((loadVar 39 a).run Try.prog w₁).andThen fun v w₂ => .ok (Value.tuple #[v, .int .i64 600]) w₂) = _
      simp [asAddr, Result.andThen, HT.out.loadVar, syV]
  · have HE : Hid (inL k = true) := decide_eq_true (by omega)
    obtain ⟨hl, hg⟩ : 3 ≤ k ∧ k ≤ 258 := by omega
    clear hb
    obtain ⟨kn, rfl⟩ : ∃ j : Nat, k = (j : Int) := ⟨k.toNat, by omega⟩
    have HS : Hid (symL (kn : Int) = symF lenF 28 257 kn) := show _ = _ by unfold symL; rw [HE.out, if_pos rfl]; rfl
    have HC : Hid (∀ (m : Nat) (w : World), m ≤ 28 → Calls Try.prog 26 #[.int .i64 ((m : Int) + 257)] w fun e w' => e = .returned (.tuple #[.int .i64 ((lenF m).1 : Int), .int .i64 ((lenF m).2 : Int), .int .i64 0]) ∧ w' = w) := fun m w hm => by
      have h := rlengthOf_ok ((m : Int) + 257) w
      have e1 : inLS ((m : Int) + 257) = true := decide_eq_true (by omega)
      have e2 : ofL ((m : Int) + 257) = (((lenF m).1 : Int), ((lenF m).2 : Int)) := by
        unfold ofL; rw [e1, if_pos rfl]
        rw [show ((m : Int) + 257 - 257).toNat = m by omega]
      rw [e1, e2] at h
      exact h
    go_enter Try.func11, Try.ntmps11
    go_wp2_with (first
      | (refine wpList_alloc3 rfl rfl ?_; intro b2 w1 hT1 hK1 hb2; have HW : Hid (Syb w1 b2 (0, 0, 0) ∧ Keeps (fun _ => False) w w1) := ⟨hT1, hK1⟩; have HB : Hid (w.heap.size ≤ b2) := hb2; clear hT1 hK1 hb2))
    go_loopw [4] (fun s4 w' => ∃ m : Nat, s4 = .int .i64 ((m : Int) + 257) ∧ m ≤ 28 ∧ Hid (lastLe lenF kn m = lastLe lenF kn 28) ∧ Hid (Syb w' b2 (0, 0, 0) ∧ Keeps (fun _ => False) w w')) (fun s4 w' => (intOf s4).toNat)
    case atStart => exact ⟨28, rfl, by omega, (rfl : _ = _), HW⟩
    case round =>
      clear HW
      obtain ⟨m, rfl, hm, HL, HW⟩ := hrel
      have hfm := lenF_le m hm
      by_cases hc : (lenF m).1 ≤ kn
      · have hcz : ((lenF m).1 : Int) ≤ (kn : Int) := by omega
        have HM : Hid (lastLe lenF kn 28 = m) := show _ = _ by rw [← HL.out]; exact lastLe_here hc
        have HC1 : Hid (∀ w, Calls Try.prog 26 #[.int .i64 ((m : Int) + 257)] w fun e w' => e = .returned (.tuple #[.int .i64 ((lenF m).1 : Int), .int .i64 ((lenF m).2 : Int), .int .i64 0]) ∧ w' = w) := fun w => HC.out m w hm
        obtain ⟨p, hp⟩ : ∃ p, (lenF m).1 = p := ⟨_, rfl⟩
        obtain ⟨q, hq⟩ : ∃ q, (lenF m).2 = q := ⟨_, rfl⟩
        have HPQ : Hid ((lenF m).1 = p ∧ (lenF m).2 = q) := ⟨hp, hq⟩
        rw [hp] at hcz hc hfm
        rw [hq] at hfm
        rw [hp, hq] at HC1
        clear hp hq
        go_wp2_with (first
          | (go_at_call 26; refine (HC1.out _).mono ?_; rintro e w2 ⟨rfl, hw⟩; obtain rfl := hw.symm; clear hw)
          | (refine wpList_store3 rfl _ _ rfl b2 (((m : Int) + 257), (q : Int), (kn : Int) - (p : Int)) rfl rfl (0, 0, 0) HW.out.1 ?_; intro w3 hT3 hK3; have HK : Hid (Keeps (fun _ => False) w w3) := HW.out.2.trans hK3 (fun i hi e => by have := HB.out; omega); have HT : Hid (Syb w3 b2 (((m : Int) + 257), (q : Int), (kn : Int) - (p : Int))) := hT3; clear hT3 hK3))
        (try simp only [Exit.inBlock, Exit.then])
        refine bodyPost_ret (v := .tuple #[syV (((m : Int) + 257), (q : Int), (kn : Int) - (p : Int)), .int .i64 0]) ?_ rfl ⟨by rw [HS.out, HE.out]; unfold symF; rw [HM.out, HPQ.out.1, HPQ.out.2]; simp [errB, syV, Int.add_comm], HK.out⟩
        rw [results_cell_tmp rfl]
        show ((asAddr (.pointer (some ⟨b2, 0, none⟩))).run Try.prog w3).andThen (fun a w₁ => ((loadVar 39 a).run Try.prog w₁).andThen fun v w₂ => .ok (Value.tuple #[v, .int .i64 0]) w₂) = _
        simp [asAddr, Result.andThen, HT.out.loadVar, syV]
      · have hcz : ¬ (((lenF m).1 : Int) ≤ (kn : Int)) := by omega
        have hm0 : 0 < m := by
          rcases Nat.eq_zero_or_pos m with rfl | h
          · exact absurd (show (lenF 0).1 ≤ kn from (show 3 ≤ kn by omega)) hc
          · exact h
        obtain ⟨j, rfl⟩ : ∃ j, m = j + 1 := ⟨m - 1, by omega⟩
        have HL' : Hid (lastLe lenF kn j = lastLe lenF kn 28) := show _ = _ by rw [← HL.out]; exact (lastLe_stay hc).symm
        have HC1 : Hid (∀ w, Calls Try.prog 26 #[.int .i64 (((j + 1 : Nat) : Int) + 257)] w fun e w' => e = .returned (.tuple #[.int .i64 ((lenF (j + 1)).1 : Int), .int .i64 ((lenF (j + 1)).2 : Int), .int .i64 0]) ∧ w' = w) := fun w => HC.out (j + 1) w hm
        generalize lenF (j + 1) = fj at *
        clear HL
        have hjw : wrap64 ((((j + 1 : Nat) : Int) + 257) - 1) = ((j : Int) + 257) := by unfold wrap64; omega
        go_wp2_with (first
          | (go_at_call 26; refine (HC1.out _).mono ?_; rintro e w2 ⟨rfl, hw⟩; obtain rfl := hw.symm; clear hw))
        go_roundw
        case rel => exact ⟨j, by first | rfl | (congr 1; omega), by omega, HL', HW⟩
        case measure => simp [intOf]; try omega

set_option maxHeartbeats 4000000 in
set_option maxRecDepth 1000000 in
theorem rdist_ok (k : Int) (w : World) : Calls Try.prog 12 #[.int .i64 k] w fun e w' => e = .returned (.tuple #[syV (symD k), .int .i64 (errB (inD k))]) ∧ Keeps (fun _ => False) w w' := by
  by_cases hb : k < 1 ∨ 32768 < k
  · have HE : Hid (inD k = false) := decide_eq_false (by omega)
    have HS : Hid (symD k = (0, 0, 0)) := show _ = _ by unfold symD; rw [HE.out]; rfl
    rcases hb with hl | hg
    · skip
      go_enter Try.func12, Try.ntmps12
      go_wp2_with (first
        | (refine wpList_alloc3 rfl rfl ?_; intro b2 w1 hT1 hK1 hb2; have HW : Hid (Syb w1 b2 (0, 0, 0) ∧ Keeps (fun _ => False) w w1 ∧ w.heap.size ≤ b2) := ⟨hT1, hK1, hb2⟩; clear hT1 hK1 hb2)
        | (refine wpList_store3 rfl _ _ rfl b2 (0, 0, 0) rfl rfl (0, 0, 0) HW.out.1 ?_; intro w2 hT2 hK2; have HK : Hid (Keeps (fun _ => False) w w2) := HW.out.2.1.trans hK2 (fun i hi e => by have := HW.out.2.2; omega); have HT : Hid (Syb w2 b2 (0, 0, 0)) := hT2; clear hT2 hK2))
      (try simp only [Exit.inBlock, Exit.then])
      refine bodyPost_ret (v := .tuple #[syV (0, 0, 0), .int .i64 600]) ?_ rfl ⟨by rw [HS.out, HE.out]; rfl, HK.out⟩
      rw [results_cell_tmp rfl]
      show ((asAddr (.pointer (some ⟨b2, 0, none⟩))).run Try.prog w2).andThen (fun a w₁ => ((loadVar 39 a).run Try.prog w₁).andThen fun v w₂ => .ok (Value.tuple #[v, .int .i64 600]) w₂) = _
      simp [asAddr, Result.andThen, HT.out.loadVar, syV]
    · have hl : ¬ (k < 1) := by omega
      go_enter Try.func12, Try.ntmps12
      go_wp2_with (first
        | (refine wpList_alloc3 rfl rfl ?_; intro b2 w1 hT1 hK1 hb2; have HW : Hid (Syb w1 b2 (0, 0, 0) ∧ Keeps (fun _ => False) w w1 ∧ w.heap.size ≤ b2) := ⟨hT1, hK1, hb2⟩; clear hT1 hK1 hb2)
        | (refine wpList_store3 rfl _ _ rfl b2 (0, 0, 0) rfl rfl (0, 0, 0) HW.out.1 ?_; intro w2 hT2 hK2; have HK : Hid (Keeps (fun _ => False) w w2) := HW.out.2.1.trans hK2 (fun i hi e => by have := HW.out.2.2; omega); have HT : Hid (Syb w2 b2 (0, 0, 0)) := hT2; clear hT2 hK2))
      (try simp only [Exit.inBlock, Exit.then])
      refine bodyPost_ret (v := .tuple #[syV (0, 0, 0), .int .i64 600]) ?_ rfl ⟨by rw [HS.out, HE.out]; rfl, HK.out⟩
      rw [results_cell_tmp rfl]
      show ((asAddr (.pointer (some ⟨b2, 0, none⟩))).run Try.prog w2).andThen (fun a w₁ => ((loadVar 39 a).run Try.prog w₁).andThen fun v w₂ => .ok (Value.tuple #[v, .int .i64 600]) w₂) = _
      simp [asAddr, Result.andThen, HT.out.loadVar, syV]
  · have HE : Hid (inD k = true) := decide_eq_true (by omega)
    obtain ⟨hl, hg⟩ : 1 ≤ k ∧ k ≤ 32768 := by omega
    clear hb
    obtain ⟨kn, rfl⟩ : ∃ j : Nat, k = (j : Int) := ⟨k.toNat, by omega⟩
    have HS : Hid (symD (kn : Int) = symF dstF 29 0 kn) := show _ = _ by unfold symD; rw [HE.out, if_pos rfl]; rfl
    have HC : Hid (∀ (m : Nat) (w : World), m ≤ 29 → Calls Try.prog 27 #[.int .i64 (m : Int)] w fun e w' => e = .returned (.tuple #[.int .i64 ((dstF m).1 : Int), .int .i64 ((dstF m).2 : Int), .int .i64 0]) ∧ w' = w) := fun m w hm => by
      have h := rdistOf_ok (m : Int) w
      have e1 : inDS (m : Int) = true := decide_eq_true (by omega)
      have e2 : ofD (m : Int) = (((dstF m).1 : Int), ((dstF m).2 : Int)) := by
        unfold ofD; rw [e1, if_pos rfl]
        rfl
      rw [e1, e2] at h
      exact h
    go_enter Try.func12, Try.ntmps12
    go_wp2_with (first
      | (refine wpList_alloc3 rfl rfl ?_; intro b2 w1 hT1 hK1 hb2; have HW : Hid (Syb w1 b2 (0, 0, 0) ∧ Keeps (fun _ => False) w w1) := ⟨hT1, hK1⟩; have HB : Hid (w.heap.size ≤ b2) := hb2; clear hT1 hK1 hb2))
    go_loopw [4] (fun s4 w' => ∃ m : Nat, s4 = .int .i64 (m : Int) ∧ m ≤ 29 ∧ Hid (lastLe dstF kn m = lastLe dstF kn 29) ∧ Hid (Syb w' b2 (0, 0, 0) ∧ Keeps (fun _ => False) w w')) (fun s4 w' => (intOf s4).toNat)
    case atStart => exact ⟨29, rfl, by omega, (rfl : _ = _), HW⟩
    case round =>
      clear HW
      obtain ⟨m, rfl, hm, HL, HW⟩ := hrel
      have hfm := dstF_le m hm
      by_cases hc : (dstF m).1 ≤ kn
      · have hcz : ((dstF m).1 : Int) ≤ (kn : Int) := by omega
        have HM : Hid (lastLe dstF kn 29 = m) := show _ = _ by rw [← HL.out]; exact lastLe_here hc
        have HC1 : Hid (∀ w, Calls Try.prog 27 #[.int .i64 (m : Int)] w fun e w' => e = .returned (.tuple #[.int .i64 ((dstF m).1 : Int), .int .i64 ((dstF m).2 : Int), .int .i64 0]) ∧ w' = w) := fun w => HC.out m w hm
        obtain ⟨p, hp⟩ : ∃ p, (dstF m).1 = p := ⟨_, rfl⟩
        obtain ⟨q, hq⟩ : ∃ q, (dstF m).2 = q := ⟨_, rfl⟩
        have HPQ : Hid ((dstF m).1 = p ∧ (dstF m).2 = q) := ⟨hp, hq⟩
        rw [hp] at hcz hc hfm
        rw [hq] at hfm
        rw [hp, hq] at HC1
        clear hp hq
        go_wp2_with (first
          | (go_at_call 27; refine (HC1.out _).mono ?_; rintro e w2 ⟨rfl, hw⟩; obtain rfl := hw.symm; clear hw)
          | (refine wpList_store3 rfl _ _ rfl b2 ((m : Int), (q : Int), (kn : Int) - (p : Int)) rfl rfl (0, 0, 0) HW.out.1 ?_; intro w3 hT3 hK3; have HK : Hid (Keeps (fun _ => False) w w3) := HW.out.2.trans hK3 (fun i hi e => by have := HB.out; omega); have HT : Hid (Syb w3 b2 ((m : Int), (q : Int), (kn : Int) - (p : Int))) := hT3; clear hT3 hK3))
        (try simp only [Exit.inBlock, Exit.then])
        refine bodyPost_ret (v := .tuple #[syV ((m : Int), (q : Int), (kn : Int) - (p : Int)), .int .i64 0]) ?_ rfl ⟨by rw [HS.out, HE.out]; unfold symF; rw [HM.out, HPQ.out.1, HPQ.out.2]; simp [errB, syV], HK.out⟩
        rw [results_cell_tmp rfl]
        show ((asAddr (.pointer (some ⟨b2, 0, none⟩))).run Try.prog w3).andThen (fun a w₁ => ((loadVar 39 a).run Try.prog w₁).andThen fun v w₂ => .ok (Value.tuple #[v, .int .i64 0]) w₂) = _
        simp [asAddr, Result.andThen, HT.out.loadVar, syV]
      · have hcz : ¬ (((dstF m).1 : Int) ≤ (kn : Int)) := by omega
        have hm0 : 0 < m := by
          rcases Nat.eq_zero_or_pos m with rfl | h
          · exact absurd (show (dstF 0).1 ≤ kn from (show 1 ≤ kn by omega)) hc
          · exact h
        obtain ⟨j, rfl⟩ : ∃ j, m = j + 1 := ⟨m - 1, by omega⟩
        have HL' : Hid (lastLe dstF kn j = lastLe dstF kn 29) := show _ = _ by rw [← HL.out]; exact (lastLe_stay hc).symm
        have HC1 : Hid (∀ w, Calls Try.prog 27 #[.int .i64 ((j + 1 : Nat) : Int)] w fun e w' => e = .returned (.tuple #[.int .i64 ((dstF (j + 1)).1 : Int), .int .i64 ((dstF (j + 1)).2 : Int), .int .i64 0]) ∧ w' = w) := fun w => HC.out (j + 1) w hm
        generalize dstF (j + 1) = fj at *
        clear HL
        have hjw : wrap64 (((j + 1 : Nat) : Int) - 1) = (j : Int) := by unfold wrap64; omega
        go_wp2_with (first
          | (go_at_call 27; refine (HC1.out _).mono ?_; rintro e w2 ⟨rfl, hw⟩; obtain rfl := hw.symm; clear hw))
        go_roundw
        case rel => exact ⟨j, by first | rfl | (congr 1; omega), by omega, HL', HW⟩
        case measure => simp [intOf]; try omega

def fixV (i : Nat) : Int := if 144 ≤ i ∧ i < 256 then 9 else if 256 ≤ i ∧ i < 280 then 7 else 8
theorem fix_all : ∀ i : Fin 288, fixL[i.val]? = some (fixV i.val) := by decide +kernel
theorem fix_at (i : Nat) (h : i < 288) : fixL[i]? = some (fixV i) := fix_all ⟨i, h⟩
theorem fix_next (i : Nat) (h : i < 288) : fixL.take (i + 1) = fixL.take i ++ [fixV i] := by rw [List.take_add_one, fix_at i h]; rfl

end Go.Proofs.Ytdbfbijalhknnab.Tb

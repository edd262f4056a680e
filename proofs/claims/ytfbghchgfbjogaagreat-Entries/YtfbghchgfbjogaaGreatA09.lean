/-
  put of package inflate: one byte more, if there is room for it. find and symbol of package inflate: the symbol whose code the next bits are. spread, putCopy and told of package inflate: what a symbol stands for. putCopy and told of package inflate. told of package inflate: what a symbol stands for. coded and stored of package inflate: what stands in a block.
-/
import Derived.Test.YtfbghchgfbjogaaGreatRows
import Derived.Test.YtfbghchgfbjogaaGreatA08
import Derived.BigQuiet
import Derived.BigRegion
namespace Go.Proofs.YtfbghchgfbjogaaGreat
open Go.RowKit
open Hf Tb
set_option linter.unusedVariables false
set_option linter.unusedSimpArgs false

theorem info_parts {t : TypeId} {z : Value} {n m : Nat} (h : (Tryz.prog.info? t).map (fun i => (i.zero, i.size, i.bytes)) = some (some z, n, m)) : ∃ i, Tryz.prog.info? t = some i ∧ i.zero = some z ∧ i.size = n ∧ i.bytes = m := by
  cases hi : Tryz.prog.info? t with
  | none => rw [hi] at h; cases h
  | some i => rw [hi] at h; simp at h; exact ⟨i, rfl, h.1, h.2.1, h.2.2⟩
theorem info5 : (Tryz.prog.info? 5).map (fun i => (i.zero, i.size, i.bytes)) = some (some (.int .u8 0), 1, 1) := by kernel_rfl

set_option maxHeartbeats 400000 in
theorem put_long {w : World} {b r : Nat} {v : Value} {s : ByteArray} {most : Nat} {L : Bts} {xs : List Nat} (h : St w b r v s most L xs) (c : Nat) (hl : xs.length = most) :
    Calls Tryz.prog 114 #[.pointer (some ⟨b, 0, none⟩), .int .u8 (c : Int)] w fun e w' => e = .returned (.int .i64 701) ∧ Keeps (Own3 b r v) w w' := by
  obtain ⟨a, cap0, rfl⟩ := h.own.form
  have hc1 := h.c1
  have hc2 := h.c2
  generalize hn : xs.length = n at *
  have hq : (((n : Nat) : Int) == ((most : Nat) : Int)) = true := by rw [hl]; exact beq_self_eq_true _
  clear h hl hn
  go_enter Tryz.func114, Tryz.ntmps114
  go_wp2
  go_quiet (fail)
  go_wp2
  go_ret
  exact ⟨rfl, (Keeps.refl _ w).drewN _⟩

/-- One byte behind the others. -/
theorem wpList_byte {ops : Array Oper} {rest : List Oper} {o : Oper} {a : Act} {w : World} {Q : Exit → Act → World → Prop} (hgd : o.guard = none) (s x : Operand) (ho : o.op = .call { callee := .builtin .append, args := #[s, x], argTypes := #[84, 84] })
    (base : Nat) (v : Value) (n : Nat) (xs : List Value) (hs : a.eval s = v) (hown : w.ownsRow base 5 1 v n xs) (q : Nat) (c : Nat) (hx : a.eval x = .slice (some ⟨q, 0, none⟩) 1 1) (hR : w.heap[q]? = some (.cells #[.int .u8 (c : Int)] 5 (0, 0))) (hb : base ≤ w.heap.size) (hn : n ≤ 1000000)
    (h : ∀ g cap w', w'.ownsRow base 5 1 (.slice (some ⟨g, 0, none⟩) (n + 1) cap) (n + 1) (xs ++ [.int .u8 (c : Int)]) → w.grownBy w' v.ownBlock → (v.ownBlock = some g ∨ g = w.heap.size) → g < w'.heap.size → wpList Tryz.prog ops Q rest (a.put o.dst (.slice (some ⟨g, 0, none⟩) (n + 1) cap)) w') : wpList Tryz.prog ops Q (o :: rest) a w := by
  obtain ⟨i0, hi, hz0, hz1, hz2⟩ := info_parts info5
  exact wpList_append_lies w hgd s x _ ho base 5 i0 _ 1 1 Tryz.underlying84 hi hz0 hz1 hz2 rfl (by omega) v n xs hs hown ⟨q, 0, none⟩ 1 1 [.int .u8 (c : Int)] hx rfl (World.news_of_block (cs := #[.int .u8 (c : Int)]) hR) (by simp [Value.oneCell']) (by omega) (by unfold maxLen; omega) (by omega) hb _ rfl h
set_option maxHeartbeats 2000000 in
set_option maxRecDepth 100000 in
theorem put_run {w : World} (b c n cap0 most : Nat) (ad : Option Addr) (xs : List Value) (hc : IntKind.u8.wrap (c : Int) = (c : Int)) (hn : n ≤ 10000) (hl : n ≠ most) (hb : b < w.heap.size)
    (hc1 : w.cell? ⟨b, 1, none⟩ = some (.slice ad n cap0)) (hc2 : w.cell? ⟨b, 2, none⟩ = some (.int .i64 (most : Int))) (hf : w.frozen? ⟨b, 1, none⟩ = false) (hown : w.ownsRow (b + 1) 5 1 (.slice ad n cap0) n xs) :
    Calls Tryz.prog 114 #[.pointer (some ⟨b, 0, none⟩), .int .u8 (c : Int)] w fun e w' => e = .returned (.int .i64 0) ∧
      ∃ g cap w1, w1.ownsRow (b + 1) 5 1 (.slice (some ⟨g, 0, none⟩) (n + 1) cap) (n + 1) (xs ++ [.int .u8 (c : Int)]) ∧ Keeps (fun k => (Value.slice ad n cap0).ownBlock = some k) w w1 ∧
        ((Value.slice ad n cap0).ownBlock = some g ∨ w.heap.size ≤ g) ∧ g < w1.heap.size ∧ w' = w1.setCell ⟨b, 1, none⟩ (.slice (some ⟨g, 0, none⟩) (n + 1) cap) := by
  obtain ⟨i0, hi, hz0, hz1, hz2⟩ := info_parts info5
  have hlow : ∀ k, (Value.slice ad n cap0).ownBlock = some k → b + 1 ≤ k := fun k hk => (hown.lt k hk).1
  have hne : some b ≠ (Value.slice ad n cap0).ownBlock := fun h => by have := hlow b h.symm; omega
  have HO : Hid (w.ownsRow (b + 1) 5 1 (.slice ad n cap0) n xs) := hown
  have hq : (((n : Nat) : Int) == ((most : Nat) : Int)) = false := by simp; omega
  clear hown hlow hl
  go_enter Tryz.func114, Tryz.ntmps114
  go_wp2
  go_quiet (fail)
  have hx1 : (w.drewN nq).cell? ⟨b, 1, none⟩ = some (.slice ad n cap0) := hc1
  go_wp2_with (refine wpList_byte rfl _ _ rfl (b + 1) (.slice ad n cap0) n xs rfl (World.ownsRow.alloc (show (w.drewN nq).ownsRow (b + 1) 5 1 (.slice ad n cap0) n xs from HO.out) _) w.heap.size c rfl (heap_alloc_new (w.drewN nq) _) (by simp; omega) (by omega) ?_; intro g cap w4 hown4 hgrow4 hat4 hlt4; have k4 : w4.cell? ⟨b, 1, none⟩ = some (.slice ad n cap0) := (hgrow4.cell_far ⟨b, 1, none⟩ (by simp; omega) hne).trans (by rw [World.cell?_alloc_past _ _ _ (show b < (w.drewN nq).heap.size from hb)]; exact hx1); have e4 : w4.frozen? ⟨b, 1, none⟩ = false := (hgrow4.frozen_far ⟨b, 1, none⟩ (by simp; omega) hne).trans (by rw [World.frozen?_alloc_past _ _ _ (show b < (w.drewN nq).heap.size from hb)]; exact hf))
  go_ret
  refine ⟨rfl, g, cap, w4, hown4, ?_, ?_, hlt4, rfl⟩
  · exact (((Keeps.refl _ w).drewN nq).alloc _).grown hgrow4 (fun k _ e => e)
  · rcases hat4 with h | h
    · exact .inl h
    · exact .inr (by subst h; simp)

theorem put_ok {w : World} {b r : Nat} {v : Value} {s : ByteArray} {most : Nat} {L : Bts} {xs : List Nat} (h : St w b r v s most L xs) (c : Nat) (hc : c < 256) (hl : xs.length ≠ most) :
    Calls Tryz.prog 114 #[.pointer (some ⟨b, 0, none⟩), .int .u8 (c : Int)] w fun e w' => e = .returned (.int .i64 0) ∧ ∃ v', St w' b r v' s most L (xs ++ [c]) ∧ Adv w w' b r v v' := by
  obtain ⟨a, cap0, rfl⟩ := h.own.form
  have hlim := h.lim
  have hm := h.most
  refine (put_run b c xs.length cap0 most a (xs.map byteV) (by simp [IntKind.wrap, IntKind.bits, IntKind.signed]; omega) (by omega) hl h.lt h.c1 h.c2 (h.free 1) h.own).mono ?_
  rintro e w' ⟨rfl, g, cap, w1, ho, hk, hg, hglt, rfl⟩
  refine ⟨rfl, .slice (some ⟨g, 0, none⟩) (xs.length + 1) cap, ?_⟩
  have hk2 : Keeps (Own3 b r (.slice a xs.length cap0)) w (w1.setCell ⟨b, 1, none⟩ (.slice (some ⟨g, 0, none⟩) (xs.length + 1) cap)) := (hk.mono (S' := Own3 b r (.slice a xs.length cap0)) (fun _ _ e => Or.inr (Or.inr e))).setCell (p := ⟨b, 1, none⟩) (fun _ => Or.inl rfl) _
  have hgb : b < g := by
    rcases hg with hg | hg
    · exact (h.ownlt g hg).1
    · have := h.lt; omega
  have ha : Adv w (w1.setCell ⟨b, 1, none⟩ (.slice (some ⟨g, 0, none⟩) (xs.length + 1) cap)) b r (.slice a xs.length cap0) (.slice (some ⟨g, 0, none⟩) (xs.length + 1) cap) := by
    refine ⟨hk2, ?_⟩
    rcases hg with hg | hg
    · exact .inl hg.symm
    · exact .inr ⟨g, rfl, hg⟩
  have hrb := h.rb
  obtain ⟨u, h1, h2⟩ := h.blk
  obtain ⟨p, p1, p2, p3⟩ := h.rd
  have hb1 : w1.heap[b]? = some (.cells #[.pointer (some ⟨r, 0, none⟩), .slice a xs.length cap0, .int .i64 (most : Int), u] 121 (0, 0)) := (hk.block b h.lt (fun e => by have := (h.ownlt b e).1; omega)).trans h1
  have k3 : Keeps (fun k => (Value.slice a xs.length cap0).ownBlock = some k ∨ k = b) w (w1.setCell ⟨b, 1, none⟩ (.slice (some ⟨g, 0, none⟩) (xs.length + 1) cap)) := (hk.mono (S' := fun k => (Value.slice a xs.length cap0).ownBlock = some k ∨ k = b) (fun _ _ e => Or.inl e)).setCell (p := ⟨b, 1, none⟩) (fun _ => Or.inr rfl) _
  refine ⟨⟨⟨u, ?_, h2.adv ha⟩, ⟨p, p1.kept k3 ?_, p2, p3⟩, ?_, h.rb, h.sz, by rw [List.length_append]; simp; omega, h.most, fun x hx => by
    rcases List.mem_append.1 hx with hx | hx
    · exact h.byt x hx
    · rw [List.mem_singleton] at hx; omega⟩, ha⟩
  · rw [heap_setCell_same hb1]; rfl
  · rintro (e | e)
    · have := (h.ownlt r e).1; omega
    · omega
  · have := owns_far ho (p := ⟨b, 1, none⟩) (by simp [Value.ownBlock]; omega) (.slice (some ⟨g, 0, none⟩) (xs.length + 1) cap)
    unfold OwnB
    rw [List.map_append, List.length_append]
    exact this

end Go.Proofs.YtfbghchgfbjogaaGreat

namespace Go.Proofs.YtfbghchgfbjogaaGreat
open Go.RowKit
open Hf Tb
set_option linter.unusedVariables false
set_option linter.unusedSimpArgs false

theorem findL_eq (ys : List Int) (k v : Nat) (h1 : 1 ≤ k) (h2 : k ≤ 15) : findL ys (k : Int) (v : Int) = if fstC (cn ys) k ≤ v then (symF (k : Int) ys 0)[v - fstC (cn ys) k]? else none := by
  unfold findL
  have e1 : (decide (1 ≤ (k : Int)) && decide ((k : Int) ≤ 15)) = true := by simp; omega
  rw [e1, cond_true, show ((k : Int)).toNat = k by omega]
  by_cases h : fstC (cn ys) k ≤ v
  · rw [if_pos h, decide_eq_true (by omega), cond_true, nthL_sym, show ((v : Int) - (fstC (cn ys) k : Int)).toNat = v - fstC (cn ys) k by omega]
  · rw [if_neg h, decide_eq_false (by omega), cond_false]

set_option maxHeartbeats 800000 in
set_option maxRecDepth 100000 in
theorem find_none {w : World} {lo hi f : Nat} {ys : List Int} (h : Fnd w lo hi f ys) (k v : Nat) (h1 : 1 ≤ k) (h2 : k ≤ 15) (hv : v ≤ 1000000) (hn : findL ys (k : Int) (v : Int) = none) :
    Calls Tryz.prog 121 #[.pointer (some ⟨f, 0, none⟩), .int .i64 (k : Int), .int .i64 (v : Int)] w fun e w' => e = .returned (.tuple #[.int .i64 0, .bool false]) ∧ w' = w := by
  obtain ⟨_, _, _, h4⟩ := h
  obtain ⟨F, ad, cap, c1, c2, c3, c4, c5⟩ := h4 k h1 h2
  rw [findL_eq ys k v h1 h2] at hn
  have hk : (k : Int) < 16 := by omega
  have hk0 : (0 : Int) ≤ k := by omega
  generalize hz : symF (k : Int) ys 0 = zs at *
  by_cases hlt : v < F
  · have hl : (v : Int) - F < 0 := by omega
    clear c3 c5 hn h4 hz
    go_enter Tryz.func121, Tryz.ntmps121
    go_wp2
    go_ret2
    exact ⟨rfl, rfl⟩
  · have hl : ¬ (v : Int) - F < 0 := by omega
    have hg : (zs.length : Int) ≤ (v : Int) - F := by
      by_cases he : zs = []
      · subst he; simp; omega
      · have := c3 he
        rw [if_pos (by omega), List.getElem?_eq_none_iff] at hn
        omega
    have hge : decide ((zs.length : Int) ≤ (v : Int) - F) = true := decide_eq_true hg
    clear c3 c5 hn h4 hz
    generalize zs.length = n at *
    go_enter Tryz.func121, Tryz.ntmps121
    go_wp2
    go_ret2
    exact ⟨rfl, rfl⟩

set_option maxHeartbeats 800000 in
set_option maxRecDepth 100000 in
theorem find_some {w : World} {lo hi f : Nat} {ys : List Int} (h : Fnd w lo hi f ys) (k v i : Nat) (h1 : 1 ≤ k) (h2 : k ≤ 15) (hv : v ≤ 1000000) (hn : findL ys (k : Int) (v : Int) = some i) :
    Calls Tryz.prog 121 #[.pointer (some ⟨f, 0, none⟩), .int .i64 (k : Int), .int .i64 (v : Int)] w fun e w' => e = .returned (.tuple #[.int .i64 (i : Int), .bool true]) ∧ w' = w := by
  obtain ⟨_, _, _, h4⟩ := h
  obtain ⟨F, ad, cap, c1, c2, c3, c4, c5⟩ := h4 k h1 h2
  rw [findL_eq ys k v h1 h2] at hn
  have hk : (k : Int) < 16 := by omega
  have hk0 : (0 : Int) ≤ k := by omega
  generalize hz : symF (k : Int) ys 0 = zs at *
  by_cases hF : fstC (cn ys) k ≤ v
  · rw [if_pos hF] at hn
    have he : zs ≠ [] := fun e => by subst e; simp at hn
    have eF := c3 he
    rw [← eF] at hF hn
    obtain ⟨hj, hi⟩ := List.getElem?_eq_some_iff.1 hn
    obtain ⟨g, rfl, _, _, hc⟩ := c5 (v - F) hj
    rw [hi] at hc
    obtain ⟨j, hjv⟩ : ∃ j : Nat, (v : Int) - F = (j : Int) := ⟨v - F, by omega⟩
    have ej : v - F = j := by omega
    rw [ej] at hc hj
    have hj2 : (j : Int) < (zs.length : Int) := by omega
    have hl : ¬ (v : Int) - F < 0 := by omega
    have hl2 : ¬ (j : Int) < 0 := by omega
    have hge : ¬ ((zs.length : Int) ≤ (j : Int)) := by omega
    have hw : IntKind.i64.wrap ((v : Int) - F) = (j : Int) := by rw [hjv]; exact wrap_i64_small _ (by omega) (by omega)
    have hw2 : wrap64 ((v : Int) - F) = (j : Int) := by rw [hjv]; unfold wrap64; omega
    clear c3 c5 hn h4 hz hi he eF ej
    generalize zs.length = n at *
    go_enter Tryz.func121, Tryz.ntmps121
    go_wp2
    go_ret2
    exact ⟨rfl, rfl⟩
  · rw [if_neg hF] at hn; cases hn

theorem or_one (v : Nat) (b : Bool) (hv : v ≤ 1000000) : bits .or .i64 ((2 * v : Nat) : Int) ((b.toNat : Nat) : Int) = ((2 * v + b.toNat : Nat) : Int) := by
  rw [i64_or_nat _ _ (by omega) (by cases b <;> simp)]
  congr 1
  have : b.toNat < 2 ^ 1 := by cases b <;> simp
  have := Nat.two_pow_add_eq_or_of_lt this v
  rw [Nat.pow_one] at this; exact this.symm

/-- What a call leaves that reads the next symbol, or a number. -/
def NumPost (R : Option (Nat × Bts)) (w : World) (b r : Nat) (v : Value) (s : ByteArray) (most : Nat) (xs : List Nat) (e : Ending) (w' : World) : Prop :=
  (R = none → e = .returned (.tuple #[.int .i64 0, .int .i64 700]) ∧ Keeps (Own3 b r v) w w') ∧
  ∀ i L', R = some (i, L') → e = .returned (.tuple #[.int .i64 (i : Int), .int .i64 0]) ∧ St w' b r v s most L' xs ∧ Rdv w w' b r v

set_option maxHeartbeats 2000000 in
set_option maxRecDepth 100000 in
theorem symbol_ok {w : World} {b r : Nat} {v : Value} {s : ByteArray} {most : Nat} {L : Bts} {xs : List Nat} (h : St w b r v s most L xs) {lo hi f : Nat} {ys : List Int} (hf : Fnd w lo hi f ys) (ha : Away lo hi b r v) :
    Calls Tryz.prog 115 #[.pointer (some ⟨b, 0, none⟩), .pointer (some ⟨f, 0, none⟩)] w (NumPost (symN ys L) w b r v s most xs) := by
  have HF : Hid (∀ w', Rdv w w' b r v → Fnd w' lo hi f ys) := fun w' k => hf.kept k.keep ha.not
  have H0 : Hid (St w b r v s most L xs) := h
  obtain ⟨R, hR⟩ : ∃ R, symN ys L = R := ⟨_, rfl⟩
  rw [hR]
  have HR : Hid (symN ys L = R) := hR
  clear hf ha h hR
  go_enter Tryz.func115, Tryz.ntmps115
  go_wp2
  go_loopw [6, 7] (fun s6 s7 w' => ∃ (k x : Nat) (L1 : Bts), k ≤ 15 ∧ s7 = .int .i64 ((k + 1 : Nat) : Int) ∧ s6 = .int .i64 (x : Int) ∧ Hid (x < 2 ^ k ∧ symG ys (15 - k) k x L1 = R ∧ St w' b r v s most L1 xs ∧ Rdv w w' b r v)) (fun _ s7 _ => (16 - intOf s7).toNat)
  case atStart => exact ⟨0, 0, L, by omega, rfl, rfl, by simp, HR.out, H0.out, Rdv.refl _ _ _ _⟩
  case round =>
    obtain ⟨k, x, L1, hk, rfl, rfl, HW⟩ := hrel
    by_cases h15 : k < 15
    · have hiz : ((k + 1 : Nat) : Int) ≤ 15 := by omega
      have hx : x ≤ 32768 := by
        have h1 := HW.out.1
        have h2 : (2 : Nat) ^ k ≤ 2 ^ 15 := Nat.pow_le_pow_right (by decide) (by omega)
        omega
      have HE : Hid (symG ys ((14 - k) + 1) k x L1 = R) := by
        have := HW.out.2.1
        rw [show 15 - k = (14 - k) + 1 by omega] at this; exact this
      rcases L1 with _ | ⟨bt, L2⟩
      · have HC : Hid (Calls Tryz.prog 97 #[.pointer (some ⟨b, 0, none⟩), .int .i64 1] wr fun e w' => e = .returned (.tuple #[.int .i64 0, .int .i64 700]) ∧ Keeps (Own3 b r v) wr w') := number_none HW.out.2.2.1 1 (by omega) (by simp [getL])
        go_wp2_with fail
        refine HC.out.mono ?_
        rintro e w2 ⟨rfl, hw⟩
        have HK : Hid (Keeps (Own3 b r v) w w2) := HW.out.2.2.2.lost hw
        clear hw HC
        go_wp2
        go_ret2
        have hr : R = none := by rw [← HE.out]; rfl
        exact ⟨fun _ => ⟨rfl, HK.out⟩, fun i L' e => by rw [hr] at e; cases e⟩
      · have HC : Hid (Calls Tryz.prog 97 #[.pointer (some ⟨b, 0, none⟩), .int .i64 1] wr fun e w' => e = .returned (.tuple #[.int .i64 ((bt.toNat : Nat) : Int), .int .i64 0]) ∧ St w' b r v s most L2 xs ∧ Rdv wr w' b r v) := number_some HW.out.2.2.1 1 bt.toNat L2 (by omega) (by simp [getL, val])
        have hor : bits .or .i64 ((x : Int) * 2) ((bt.toNat : Nat) : Int) = ((2 * x + bt.toNat : Nat) : Int) := by
          have := or_one x bt (by omega)
          rw [show (((2 * x : Nat)) : Int) = (x : Int) * 2 by push_cast; omega] at this; exact this
        have hb1 : bt.toNat ≤ 1 := by cases bt <;> simp
        generalize hy : 2 * x + bt.toNat = y at *
        have HY : Hid (2 * x + bt.toNat = y) := hy
        have hy1 : y ≤ 1000000 := by omega
        clear hy
        go_wp2_with fail
        refine HC.out.mono ?_
        rintro e w2 ⟨rfl, h2, hA2⟩
        have H2 : Hid (St w2 b r v s most L2 xs ∧ Rdv w w2 b r v) := ⟨h2, HW.out.2.2.2.trans hA2⟩
        clear h2 hA2 HC
        rcases hfi : findL ys ((k + 1 : Nat) : Int) (y : Int) with _ | i
        · have HC2 : Hid (Calls Tryz.prog 121 #[.pointer (some ⟨f, 0, none⟩), .int .i64 ((k : Int) + 1), .int .i64 (y : Int)] w2 fun e w' => e = .returned (.tuple #[.int .i64 0, .bool false]) ∧ w' = w2) := find_none (HF.out w2 H2.out.2) (k + 1) y (by omega) (by omega) hy1 hfi
          have HFI : Hid (findL ys ((k + 1 : Nat) : Int) (y : Int) = none) := hfi
          clear hfi
          go_wp2_with (first | (go_at_call 121; refine HC2.out.mono ?_; rintro e w3 ⟨rfl, hw3⟩; obtain rfl := hw3.symm; clear hw3))
          go_roundw
          case rel =>
            refine ⟨k + 1, y, L2, by omega, by push_cast; rfl, rfl, ?_, ?_, H2.out.1, H2.out.2⟩
            · have := HW.out.1; have := HY.out; rw [Nat.pow_succ]; omega
            · have := HE.out
              rw [symG, HY.out, HFI.out] at this
              rw [show 15 - (k + 1) = 14 - k by omega]; exact this
          case measure => simp [intOf]; omega
        · have HC2 : Hid (Calls Tryz.prog 121 #[.pointer (some ⟨f, 0, none⟩), .int .i64 ((k : Int) + 1), .int .i64 (y : Int)] w2 fun e w' => e = .returned (.tuple #[.int .i64 (i : Int), .bool true]) ∧ w' = w2) := find_some (HF.out w2 H2.out.2) (k + 1) y i (by omega) (by omega) hy1 hfi
          have HFI : Hid (findL ys ((k + 1 : Nat) : Int) (y : Int) = some i) := hfi
          clear hfi
          go_wp2_with (first | (go_at_call 121; refine HC2.out.mono ?_; rintro e w3 ⟨rfl, hw3⟩; obtain rfl := hw3.symm; clear hw3))
          go_ret2
          have hr : R = some (i, L2) := by
            rw [← HE.out, symG, HY.out, HFI.out]
          exact ⟨(fun e => by rw [hr] at e; cases e), fun i' L' e => by rw [hr] at e; cases e; exact ⟨rfl, H2.out⟩⟩
    · obtain rfl : k = 15 := by omega
      go_wp2
      go_ret2
      have hr : R = none := by rw [← HW.out.2.1]; rfl
      exact ⟨fun _ => ⟨rfl, HW.out.2.2.2.keep⟩, fun i L' e => by rw [hr] at e; cases e⟩

end Go.Proofs.YtfbghchgfbjogaaGreat

namespace Go.Proofs.YtfbghchgfbjogaaGreat
open Go.RowKit
open Hf Tb
set_option linter.unusedVariables false
set_option linter.unusedSimpArgs false

theorem NumPost.trans {R : Option (Nat × Bts)} {w w2 : World} {b r : Nat} {v : Value} {s : ByteArray} {most : Nat} {xs : List Nat} {e : Ending} {w' : World} (ha : Rdv w w2 b r v) (h : NumPost R w2 b r v s most xs e w') : NumPost R w b r v s most xs e w' :=
  ⟨fun hn => ⟨(h.1 hn).1, ha.lost (h.1 hn).2⟩, fun i L' hs => by obtain ⟨h1, h2, h3⟩ := h.2 i L' hs; exact ⟨h1, h2, ha.trans h3⟩⟩
theorem NumPost.none {w : World} {b r : Nat} {v : Value} {s : ByteArray} {most : Nat} {xs : List Nat} {w' : World} (h : Keeps (Own3 b r v) w w') : NumPost none w b r v s most xs (.returned (.tuple #[.int .i64 0, .int .i64 700])) w' :=
  ⟨fun _ => ⟨rfl, h⟩, fun _ _ e => by cases e⟩
theorem above_ok {w : World} {b r : Nat} {v : Value} {s : ByteArray} {most : Nat} {L : Bts} {xs : List Nat} (h : St w b r v s most L xs) (a k : Nat) (ha : a ≤ 100000) (hk : k ≤ 16) :
    Calls Tryz.prog 129 #[.pointer (some ⟨b, 0, none⟩), .int .i64 (a : Int), .int .i64 (k : Int)] w (NumPost (aboveL a k L) w b r v s most xs) := by
  rcases hg : aboveL a k L with _ | ⟨x, L'⟩
  · refine (above_none h a k hk hg).mono ?_
    rintro e w' ⟨rfl, h2⟩
    exact NumPost.none h2
  · refine (above_some h a k x L' ha hk hg).mono ?_
    rintro e w' ⟨rfl, h2⟩
    exact ⟨fun e => by (cases e), fun i L1 e => by cases e; exact ⟨rfl, h2⟩⟩

set_option maxHeartbeats 800000 in
theorem spreadL_ok {w : World} {b r : Nat} {v : Value} {s : ByteArray} {most : Nat} {L : Bts} {xs : List Nat} (h : St w b r v s most L xs) (i : Nat) :
    Calls Tryz.prog 122 #[.pointer (some ⟨b, 0, none⟩), .int .i64 (i : Int), .func (.func 123) #[] #[]] w (NumPost (sprL i L) w b r v s most xs) := by
  have HS : Hid (St w b r v s most L xs) := h
  clear h
  by_cases hi : 257 ≤ i ∧ i ≤ 285
  · have HC : Hid (Calls Tryz.prog 123 #[.int .i64 (i : Int)] w fun e w' => e = .returned (.tuple #[.int .i64 ((lenF (i - 257)).1 : Int), .int .i64 ((lenF (i - 257)).2 : Int), .int .i64 0]) ∧ Keeps (fun _ => False) w w') := by
      have := lengthOf_ok (i : Int) w
      have e : inLS (i : Int) = true := by unfold inLS; simp; omega
      unfold ofL at this
      rw [e, if_pos rfl, show ((i : Int) - 257).toNat = i - 257 by omega] at this
      exact this
    have HL : Hid ((lenF (i - 257)).1 ≤ 258 ∧ (lenF (i - 257)).2 ≤ 5) := lenF_le (i - 257) (by omega)
    have HE : Hid (sprL i = aboveL (lenF (i - 257)).1 (lenF (i - 257)).2) := by unfold sprL; exact if_pos hi
    rw [HE.out]
    generalize (lenF (i - 257)).1 = p at *
    generalize (lenF (i - 257)).2 = q at *
    clear hi HE
    go_enter Tryz.func122, Tryz.ntmps122
    go_wp2_with fail
    refine HC.out.mono ?_
    rintro e w2 ⟨rfl, hk2⟩
    have HA : Hid (St w2 b r v s most L xs ∧ Rdv w w2 b r v) := ⟨HS.out.keptF hk2, Rdv.ofF b r v hk2⟩
    clear hk2 HC
    go_wp2_with fail
    refine (above_ok HA.out.1 p q (by have := HL.out; omega) (by have := HL.out; omega)).mono ?_
    intro e w3 hP
    have HP : Hid (NumPost (aboveL p q L) w b r v s most xs e w3) := hP.trans HA.out.2
    clear hP
    rcases ha : aboveL p q L with _ | ⟨x, L1⟩
    · have HPn := HP.out.1 ha
      obtain ⟨rfl, hk⟩ := HPn
      clear hk ha
      go_wp2
      go_ret2
      exact HP.out
    · have HPn := HP.out.2 x L1 ha
      obtain ⟨rfl, hk⟩ := HPn
      clear hk ha
      go_wp2
      go_ret2
      exact HP.out
  · have HC : Hid (Calls Tryz.prog 123 #[.int .i64 (i : Int)] w fun e w' => e = .returned (.tuple #[.int .i64 0, .int .i64 0, .int .i64 600]) ∧ Keeps (fun _ => False) w w') := by
      have := lengthOf_ok (i : Int) w
      have e : inLS (i : Int) = false := by unfold inLS; simp; omega
      unfold ofL at this
      rw [e] at this
      exact this
    have HE : Hid (sprL i L = none) := by unfold sprL; rw [if_neg hi]; rfl
    rw [HE.out]
    clear hi HE
    go_enter Tryz.func122, Tryz.ntmps122
    go_wp2_with fail
    refine HC.out.mono ?_
    rintro e w2 ⟨rfl, hk2⟩
    have HA : Hid (Keeps (Own3 b r v) w w2) := (Adv.ofF b r v hk2).keep
    clear hk2 HC
    go_wp2
    go_ret2
    exact NumPost.none HA.out

set_option maxHeartbeats 800000 in
theorem spreadD_ok {w : World} {b r : Nat} {v : Value} {s : ByteArray} {most : Nat} {L : Bts} {xs : List Nat} (h : St w b r v s most L xs) (i : Nat) :
    Calls Tryz.prog 122 #[.pointer (some ⟨b, 0, none⟩), .int .i64 (i : Int), .func (.func 124) #[] #[]] w (NumPost (sprD i L) w b r v s most xs) := by
  have HS : Hid (St w b r v s most L xs) := h
  clear h
  by_cases hi : i ≤ 29
  · have HC : Hid (Calls Tryz.prog 124 #[.int .i64 (i : Int)] w fun e w' => e = .returned (.tuple #[.int .i64 ((dstF i).1 : Int), .int .i64 ((dstF i).2 : Int), .int .i64 0]) ∧ Keeps (fun _ => False) w w') := by
      have := distOf_ok (i : Int) w
      have e : inDS (i : Int) = true := by unfold inDS; simp; omega
      unfold ofD at this
      rw [e, if_pos rfl, show ((i : Int)).toNat = i by omega] at this
      exact this
    have HL : Hid ((dstF i).1 ≤ 24577 ∧ (dstF i).2 ≤ 13) := dstF_le i hi
    have HE : Hid (sprD i = aboveL (dstF i).1 (dstF i).2) := by unfold sprD; exact if_pos hi
    rw [HE.out]
    generalize (dstF i).1 = p at *
    generalize (dstF i).2 = q at *
    clear hi HE
    go_enter Tryz.func122, Tryz.ntmps122
    go_wp2_with fail
    refine HC.out.mono ?_
    rintro e w2 ⟨rfl, hk2⟩
    have HA : Hid (St w2 b r v s most L xs ∧ Rdv w w2 b r v) := ⟨HS.out.keptF hk2, Rdv.ofF b r v hk2⟩
    clear hk2 HC
    go_wp2_with fail
    refine (above_ok HA.out.1 p q (by have := HL.out; omega) (by have := HL.out; omega)).mono ?_
    intro e w3 hP
    have HP : Hid (NumPost (aboveL p q L) w b r v s most xs e w3) := hP.trans HA.out.2
    clear hP
    rcases ha : aboveL p q L with _ | ⟨x, L1⟩
    · have HPn := HP.out.1 ha
      obtain ⟨rfl, hk⟩ := HPn
      clear hk ha
      go_wp2
      go_ret2
      exact HP.out
    · have HPn := HP.out.2 x L1 ha
      obtain ⟨rfl, hk⟩ := HPn
      clear hk ha
      go_wp2
      go_ret2
      exact HP.out
  · have HC : Hid (Calls Tryz.prog 124 #[.int .i64 (i : Int)] w fun e w' => e = .returned (.tuple #[.int .i64 0, .int .i64 0, .int .i64 600]) ∧ Keeps (fun _ => False) w w') := by
      have := distOf_ok (i : Int) w
      have e : inDS (i : Int) = false := by unfold inDS; simp; omega
      unfold ofD at this
      rw [e] at this
      exact this
    have HE : Hid (sprD i L = none) := by unfold sprD; rw [if_neg hi]; rfl
    rw [HE.out]
    clear hi HE
    go_enter Tryz.func122, Tryz.ntmps122
    go_wp2_with fail
    refine HC.out.mono ?_
    rintro e w2 ⟨rfl, hk2⟩
    have HA : Hid (Keeps (Own3 b r v) w w2) := (Adv.ofF b r v hk2).keep
    clear hk2 HC
    go_wp2
    go_ret2
    exact NumPost.none HA.out

end Go.Proofs.YtfbghchgfbjogaaGreat

namespace Go.Proofs.YtfbghchgfbjogaaGreat
open Go.RowKit
open Hf Tb
set_option linter.unusedVariables false
set_option linter.unusedSimpArgs false

/-- What a call leaves that reads on and tells more of the text. -/
def RsPost (R : Rs) (w : World) (b r : Nat) (v : Value) (s : ByteArray) (most : Nat) (e : Ending) (w' : World) : Prop :=
  (∀ x, R = .error x → e = .returned (.int .i64 x) ∧ Keeps (Own3 b r v) w w') ∧
  ∀ L' o', R = .ok (L', o') → e = .returned (.int .i64 0) ∧ ∃ v', St w' b r v' s most L' o' ∧ Adv w w' b r v v'
theorem RsPost.trans {R : Rs} {w w2 : World} {b r : Nat} {v v2 : Value} {s : ByteArray} {most : Nat} {e : Ending} {w' : World} (ha : Adv w w2 b r v v2) (h : RsPost R w2 b r v2 s most e w') : RsPost R w b r v s most e w' :=
  ⟨fun x hx => ⟨(h.1 x hx).1, ha.lost (h.1 x hx).2⟩, fun L' o' hs => by obtain ⟨h1, v', h2, h3⟩ := h.2 L' o' hs; exact ⟨h1, v', h2, ha.trans h3⟩⟩
theorem RsPost.bad {x : Int} {w : World} {b r : Nat} {v : Value} {s : ByteArray} {most : Nat} {w' : World} (h : Keeps (Own3 b r v) w w') : RsPost (.error x) w b r v s most (.returned (.int .i64 x)) w' :=
  ⟨fun y e => by cases e; exact ⟨rfl, h⟩, fun _ _ e => by cases e⟩
theorem RsPost.good {L' : Bts} {o' : List Nat} {w : World} {b r : Nat} {v v' : Value} {s : ByteArray} {most : Nat} {w' : World} (h : St w' b r v' s most L' o') (k : Adv w w' b r v v') : RsPost (.ok (L', o')) w b r v s most (.returned (.int .i64 0)) w' :=
  ⟨fun y e => by (cases e), fun _ _ e => by cases e; exact ⟨rfl, v', h, k⟩⟩
theorem put_rs {w : World} {b r : Nat} {v : Value} {s : ByteArray} {most : Nat} {L : Bts} {xs : List Nat} (h : St w b r v s most L xs) (c : Nat) (hc : c < 256) :
    Calls Tryz.prog 114 #[.pointer (some ⟨b, 0, none⟩), .int .u8 (c : Int)] w (RsPost (mapE (put1 most c) L xs) w b r v s most) := by
  by_cases hl : xs.length = most
  · have e : mapE (put1 most c) L xs = .error 701 := by simp [mapE, put1, hl]
    rw [e]
    exact (put_long h c hl).mono (fun e w' ⟨h1, h2⟩ => by subst h1; exact RsPost.bad h2)
  · have e : mapE (put1 most c) L xs = .ok (L, xs ++ [c]) := by simp [mapE, put1, hl]
    rw [e]
    exact (put_ok h c hc hl).mono (fun e w' ⟨h1, v', h2, h3⟩ => by subst h1; exact RsPost.good h2 h3)

theorem St.bytes {w : World} {b r : Nat} {v : Value} {s : ByteArray} {most : Nat} {L : Bts} {xs : List Nat} (h : St w b r v s most L xs) (i : Nat) (hi : i < xs.length) : ∃ g cap, v = .slice (some ⟨g, 0, none⟩) xs.length cap ∧ w.cell? ⟨g, i, none⟩ = some (.int .u8 (xs[i] : Int)) := h.own.cell i hi

set_option maxHeartbeats 8000000 in
set_option maxRecDepth 1000000 in
theorem copy_loop {w : World} {b r : Nat} {v : Value} {s : ByteArray} {most : Nat} {L : Bts} {xs : List Nat} (h : St w b r v s most L xs) (n d : Nat) (hn : n ≤ 1000) (hd1 : 1 ≤ d) (hd : d ≤ xs.length) :
    Calls Tryz.prog 125 #[.pointer (some ⟨b, 0, none⟩), .int .i64 (n : Int), .int .i64 (d : Int)] w (RsPost (mapE (cpy most d n) L xs) w b r v s most) := by
  obtain ⟨a0, cap0, hv0⟩ := h.own.form
  have hc1 : w.cell? ⟨b, 1, none⟩ = some (.slice a0 xs.length cap0) := hv0 ▸ h.c1
  have hlx : xs.length ≤ 8192 := Nat.le_trans h.lim h.most
  have hdl : ¬ ((xs.length : Nat) : Int) < (d : Int) := by omega
  obtain ⟨R, hR⟩ : ∃ R, mapE (cpy most d n) L xs = R := ⟨_, rfl⟩
  rw [hR]
  have H0 : Hid (∃ ys v', mapE (cpy most d n) L ys = R ∧ d ≤ ys.length ∧ St w b r v' s most L ys ∧ Adv w w b r v v') := ⟨xs, v, hR, hd, h, Adv.refl _ _ _ _⟩
  clear hv0 h hR
  generalize xs.length = N at *
  go_enter Tryz.func125, Tryz.ntmps125
  go_wp2
  clear hc1 hdl
  go_loopw [16] (fun s16 w' => ∃ j : Nat, j ≤ n ∧ s16 = .int .i64 (j : Int) ∧ Hid (∃ ys v', mapE (cpy most d (n - j)) L ys = R ∧ d ≤ ys.length ∧ St w' b r v' s most L ys ∧ Adv w w' b r v v')) (fun s16 _ => ((n : Int) - intOf s16).toNat)
  case atStart => exact ⟨0, by omega, rfl, H0⟩
  case round =>
    clear H0
    obtain ⟨j, hj, rfl, HW⟩ := hrel
    by_cases hjn : j < n
    · have hjz : (j : Int) < (n : Int) := by omega
      obtain ⟨ys, v', hE, hdy, hS, hA⟩ := HW.out
      clear HW
      have hly : ys.length ≤ 8192 := Nat.le_trans hS.lim hS.most
      obtain ⟨i, hi⟩ : ∃ i, ys.length - d = i := ⟨_, rfl⟩
      have hil : i < ys.length := by omega
      obtain ⟨g, cap, rfl, hcell⟩ := hS.bytes i hil
      have hcb : wr.cell? ⟨b, 1, none⟩ = some (.slice (some ⟨g, 0, none⟩) ys.length cap) := hS.c1
      obtain ⟨c, hc⟩ : ∃ c, ys[i] = c := ⟨_, rfl⟩
      rw [hc] at hcell
      have hc256 : c < 256 := by rw [← hc]; exact hS.byt _ (List.getElem_mem hil)
      have hgd : ys.getD (ys.length - d) 0 = c := by rw [hi, List.getD_eq_getElem?_getD, List.getElem?_eq_getElem hil, hc]; rfl
      have hS1 : St wr.drew b r (.slice (some ⟨g, 0, none⟩) ys.length cap) s most L ys := ⟨hS.blk, hS.rd, hS.own, hS.rb, hS.sz, hS.lim, hS.most, hS.byt⟩
      have hA1 : Adv w wr.drew b r v (.slice (some ⟨g, 0, none⟩) ys.length cap) := ⟨hA.keep.drew, hA.own⟩
      have hE2 : mapE (cpy most d (n - j)) L ys = seqE (mapE (put1 most c)) (mapE (cpy most d (n - (j + 1)))) L ys := by
        rw [show n - j = (n - (j + 1)) + 1 by omega]
        simp only [mapE, cpy, seqE, put1, hgd]
        by_cases hl : ys.length = most <;> simp [hl]
      have hw1 : IntKind.i64.wrap ((ys.length : Int) - (d : Int)) = (i : Int) := by rw [wrap_i64_small _ (by omega) (by omega)]; omega
      have hw2 : wrap64 ((ys.length : Int) - (d : Int)) = (i : Int) := by unfold wrap64; omega
      have hw3 : (ys.length : Int) - (d : Int) = (i : Int) := by omega
      have hi1 : (i : Int) < (ys.length : Int) := by omega
      by_cases hl : ys.length = most
      · have HC : Hid (Calls Tryz.prog 114 #[.pointer (some ⟨b, 0, none⟩), .int .u8 (c : Int)] wr.drew fun e w' => e = .returned (.int .i64 701) ∧ Keeps (Own3 b r v) w w') := (put_long hS1 c hl).mono (fun e w' h => ⟨h.1, hA1.lost h.2⟩)
        have hRe : R = .error 701 := by rw [← hE, hE2]; simp [seqE, mapE, put1, hl]
        subst hRe
        clear hS1 hA1 hE2 hE hS hA hgd hl hc
        have HI : Hid (ys.length - d = i) := hi
        clear hi hw3 hil hdy
        generalize ys.length = M at *
        go_wp2
        go_region_with (go_at_call 114; refine HC.out.mono ?_; rintro e w5 ⟨rfl, hk5⟩; have H5 : Hid (Keeps (Own3 b r v) w w5) := hk5; clear hk5)
        all_goals
          clear HC
          go_wp2
          go_ret
          exact RsPost.bad H5.out
      · have HC : Hid (Calls Tryz.prog 114 #[.pointer (some ⟨b, 0, none⟩), .int .u8 (c : Int)] wr.drew fun e w' => e = .returned (.int .i64 0) ∧ ∃ ys v', mapE (cpy most d (n - (j + 1))) L ys = R ∧ d ≤ ys.length ∧ St w' b r v' s most L ys ∧ Adv w w' b r v v') := (put_ok hS1 c hc256 hl).mono (fun e w' h => by
          obtain ⟨h1, v2, h2, h3⟩ := h
          refine ⟨h1, ys ++ [c], v2, ?_, by simp; omega, h2, hA1.trans h3⟩
          rw [← hE, hE2]; simp [seqE, mapE, put1, hl])
        clear hS1 hA1 hE2 hE hS hA hgd hl hc
        have HI : Hid (ys.length - d = i) := hi
        clear hi hw3 hil hdy
        generalize ys.length = M at *
        go_wp2
        go_region_with (go_at_call 114; refine HC.out.mono ?_; rintro e w5 ⟨rfl, hk5⟩; have H5 : Hid (∃ ys v', mapE (cpy most d (n - (j + 1))) L ys = R ∧ d ≤ ys.length ∧ St w5 b r v' s most L ys ∧ Adv w w5 b r v v') := hk5; clear hk5)
        all_goals
          clear HC
          go_wp2
          go_roundw
          case rel => exact ⟨j + 1, by omega, by push_cast; rfl, H5⟩
          case measure => simp [intOf]; omega
    · obtain rfl : j = n := by omega
      go_wp2
      go_ret
      obtain ⟨ys, v', hE, hdy, hS, hA⟩ := HW.out
      rw [Nat.sub_self] at hE
      rw [← hE]
      exact RsPost.good hS hA

set_option maxHeartbeats 800000 in
theorem putCopy_ok {w : World} {b r : Nat} {v : Value} {s : ByteArray} {most : Nat} {L : Bts} {xs : List Nat} (h : St w b r v s most L xs) (n d : Nat) (hn : n ≤ 1000) (hd1 : 1 ≤ d) (hd : d ≤ 100000) :
    Calls Tryz.prog 125 #[.pointer (some ⟨b, 0, none⟩), .int .i64 (n : Int), .int .i64 (d : Int)] w (RsPost (mapE (putC most n d) L xs) w b r v s most) := by
  by_cases hx : xs.length < d
  · have e : mapE (putC most n d) L xs = .error 700 := by simp [mapE, putC, hx]
    rw [e]
    obtain ⟨a0, cap0, hv0⟩ := h.own.form
    have hc1 : w.cell? ⟨b, 1, none⟩ = some (.slice a0 xs.length cap0) := hv0 ▸ h.c1
    have hlx : xs.length ≤ 8192 := Nat.le_trans h.lim h.most
    have hdl : ((xs.length : Nat) : Int) < (d : Int) := by omega
    clear h hv0 e hx
    generalize xs.length = N at *
    go_enter Tryz.func125, Tryz.ntmps125
    go_wp2
    go_ret
    exact RsPost.bad (Keeps.refl _ _)
  · have e : mapE (putC most n d) L xs = mapE (cpy most d n) L xs := by simp [mapE, putC, hx]
    rw [e]
    exact copy_loop h n d hn hd1 (by omega)

end Go.Proofs.YtfbghchgfbjogaaGreat

namespace Go.Proofs.YtfbghchgfbjogaaGreat
open Go.RowKit
open Hf Tb
set_option linter.unusedVariables false
set_option linter.unusedSimpArgs false

theorem sprL_some {i x : Nat} {L L' : Bts} (h : sprL i L = some (x, L')) : x ≤ 1000 := by
  unfold sprL at h
  by_cases hi : 257 ≤ i ∧ i ≤ 285
  · rw [if_pos hi] at h
    obtain ⟨m, hm, rfl⟩ := aboveL_some h
    have h1 := lenF_le (i - 257) (by omega)
    have h2 := getL_lt hm
    have h3 : (2 : Nat) ^ (lenF (i - 257)).2 ≤ 2 ^ 5 := Nat.pow_le_pow_right (by decide) h1.2
    omega
  · rw [if_neg hi] at h; simp [noL] at h
theorem dstF_pos : ∀ i : Fin 30, 1 ≤ (dstF i.val).1 := by decide +kernel
theorem sprD_some {i x : Nat} {L L' : Bts} (h : sprD i L = some (x, L')) : 1 ≤ x ∧ x ≤ 100000 := by
  unfold sprD at h
  by_cases hi : i ≤ 29
  · rw [if_pos hi] at h
    obtain ⟨m, hm, rfl⟩ := aboveL_some h
    have h1 := dstF_le i hi
    have h2 := getL_lt hm
    have h3 : (2 : Nat) ^ (dstF i).2 ≤ 2 ^ 13 := Nat.pow_le_pow_right (by decide) h1.2
    have h4 := dstF_pos ⟨i, by omega⟩
    simp only at h4
    omega
  · rw [if_neg hi] at h; simp [noL] at h
theorem findL_small (ys : List Int) (k v i : Nat) (h1 : 1 ≤ k) (h2 : k ≤ 15) (h : findL ys (k : Int) (v : Int) = some i) : i < ys.length := by
  rw [findL_eq ys k v h1 h2] at h
  split at h
  · obtain ⟨hj, rfl⟩ := List.getElem?_eq_some_iff.1 h
    have := symF_lt (k : Int) ys 0 _ (List.getElem_mem hj)
    omega
  · cases h
theorem symG_small (ys : List Int) : ∀ (n k v : Nat) (L : Bts) (i : Nat) (L' : Bts), n + k ≤ 15 → symG ys n k v L = some (i, L') → i < ys.length
  | 0, _, _, _, _, _, _, h => by simp [symG] at h
  | n + 1, _, _, [], _, _, _, h => by simp [symG] at h
  | n + 1, k, v, b :: L, i, L', hk, h => by
    rw [symG] at h
    rcases hf : findL ys ((k + 1 : Nat) : Int) ((2 * v + b.toNat : Nat) : Int) with _ | j
    · rw [hf] at h; exact symG_small ys n (k + 1) _ L i L' (by omega) h
    · rw [hf] at h; cases h; exact findL_small ys _ _ _ (by omega) (by omega) hf
theorem symN_small {ys : List Int} {L : Bts} {i : Nat} {L' : Bts} (h : symN ys L = some (i, L')) : i < ys.length := symG_small ys 15 0 0 L i L' (by omega) h

set_option maxHeartbeats 2000000 in
set_option maxRecDepth 100000 in
theorem told_ok {w : World} {b r : Nat} {v : Value} {s : ByteArray} {most : Nat} {L : Bts} {xs : List Nat} (h : St w b r v s most L xs) {lo hi f : Nat} {ds : List Int} (hf : Fnd w lo hi f ds) (ha : Away lo hi b r v) (i : Nat) (hi1 : i ≤ 100000) :
    Calls Tryz.prog 116 #[.pointer (some ⟨b, 0, none⟩), .int .i64 (i : Int), .pointer (some ⟨f, 0, none⟩)] w (RsPost (told ds most i L xs) w b r v s most) := by
  have HS : Hid (St w b r v s most L xs) := h
  have HF : Hid (∀ w', Rdv w w' b r v → Fnd w' lo hi f ds) := fun w' k => hf.kept k.keep ha.not
  have HAw : Hid (Away lo hi b r v) := ha
  clear h hf ha
  by_cases hi : i < 256
  · have hiz : (i : Int) < 256 := by omega
    have hu : IntKind.u8.wrap (i : Int) = (i : Int) := by simp [IntKind.wrap, IntKind.bits, IntKind.signed]; omega
    have e : told ds most i L xs = mapE (put1 most i) L xs := by unfold told; rw [if_pos hi]
    rw [e]
    have HC : Hid (Calls Tryz.prog 114 #[.pointer (some ⟨b, 0, none⟩), .int .u8 (i : Int)] w (RsPost (mapE (put1 most i) L xs) w b r v s most)) := put_rs HS.out i hi
    obtain ⟨R, hR⟩ : ∃ R, mapE (put1 most i) L xs = R := ⟨_, rfl⟩
    rw [hR] at HC ⊢
    clear e hR hi
    go_enter Tryz.func116, Tryz.ntmps116
    go_wp2_with fail
    refine HC.out.mono ?_
    intro e w2 hP
    have HP : Hid (RsPost R w b r v s most e w2) := hP
    rcases R with x | ⟨L', o'⟩
    · obtain ⟨rfl, _⟩ := hP.1 x rfl
      clear hP HC
      go_wp2
      go_ret
      exact HP.out
    · obtain ⟨rfl, _⟩ := hP.2 L' o' rfl
      clear hP HC
      go_wp2
      go_ret
      exact HP.out
  · have hiz : ¬ (i : Int) < 256 := by omega
    have e : told ds most i L xs = thenE (sprL i) (fun n => thenE (symN ds) fun f => thenE (sprD f) fun d => mapE (putC most n d)) L xs := by unfold told; rw [if_neg hi]
    rw [e]
    obtain ⟨R, hR⟩ : ∃ R, thenE (sprL i) (fun n => thenE (symN ds) fun f => thenE (sprD f) fun d => mapE (putC most n d)) L xs = R := ⟨_, rfl⟩
    rw [hR]
    have HR : Hid (thenE (sprL i) (fun n => thenE (symN ds) fun f => thenE (sprD f) fun d => mapE (putC most n d)) L xs = R) := hR
    clear e hi hR
    go_enter Tryz.func116, Tryz.ntmps116
    go_wp2_with fail
    refine (spreadL_ok HS.out i).mono ?_
    intro e w2 hP
    rcases h1 : sprL i L with _ | ⟨n, L1⟩
    · obtain ⟨rfl, hk⟩ := hP.1 h1
      have HK : Hid (Keeps (Own3 b r v) w w2) := hk
      have e : R = .error 700 := by rw [← HR.out, thenE, h1]
      subst e
      clear hP h1 hk
      go_wp2
      go_ret
      exact RsPost.bad HK.out
    · obtain ⟨rfl, hS2, hA2⟩ := hP.2 n L1 h1
      have H2 : Hid (St w2 b r v s most L1 xs ∧ Rdv w w2 b r v) := ⟨hS2, hA2⟩
      have hn : n ≤ 1000 := sprL_some h1
      have HR2 : Hid (thenE (symN ds) (fun f => thenE (sprD f) fun d => mapE (putC most n d)) L1 xs = R) := by
        have := HR.out; rw [thenE, h1] at this; exact this
      clear hP h1 hS2 hA2 HR
      go_wp2_with fail
      refine (symbol_ok H2.out.1 (HF.out w2 H2.out.2) HAw.out).mono ?_
      intro e w3 hP
      rcases h3 : symN ds L1 with _ | ⟨q, L3⟩
      · obtain ⟨rfl, hk⟩ := hP.1 h3
        have HK : Hid (Keeps (Own3 b r v) w w3) := H2.out.2.lost hk
        have e : R = .error 700 := by rw [← HR2.out, thenE, h3]
        subst e
        clear hP h3 hk
        go_wp2
        go_ret
        exact RsPost.bad HK.out
      · obtain ⟨rfl, hS3, hA3⟩ := hP.2 q L3 h3
        have H3 : Hid (St w3 b r v s most L3 xs ∧ Rdv w w3 b r v) := ⟨hS3, H2.out.2.trans hA3⟩
        have HR3 : Hid (thenE (sprD q) (fun d => mapE (putC most n d)) L3 xs = R) := by
          have := HR2.out; rw [thenE, h3] at this; exact this
        clear hP h3 hS3 hA3 HR2
        go_wp2_with fail
        refine (spreadD_ok H3.out.1 q).mono ?_
        intro e w4 hP
        rcases h4 : sprD q L3 with _ | ⟨d, L4⟩
        · obtain ⟨rfl, hk⟩ := hP.1 h4
          have HK : Hid (Keeps (Own3 b r v) w w4) := H3.out.2.lost hk
          have e : R = .error 700 := by rw [← HR3.out, thenE, h4]
          subst e
          clear hP h4 hk
          go_wp2
          go_ret
          exact RsPost.bad HK.out
        · obtain ⟨rfl, hS4, hA4⟩ := hP.2 d L4 h4
          have H4 : Hid (St w4 b r v s most L4 xs ∧ Rdv w w4 b r v) := ⟨hS4, H3.out.2.trans hA4⟩
          have hd := sprD_some h4
          have HC : Hid (Calls Tryz.prog 125 #[.pointer (some ⟨b, 0, none⟩), .int .i64 (n : Int), .int .i64 (d : Int)] w4 (RsPost R w4 b r v s most)) := by
            have e : mapE (putC most n d) L4 xs = R := by have := HR3.out; rw [thenE, h4] at this; exact this
            rw [← e]; exact putCopy_ok H4.out.1 n d hn hd.1 hd.2
          clear hP h4 hS4 hA4 hd hn HR3
          go_wp2_with fail
          refine HC.out.mono ?_
          intro e w5 hP
          have HP : Hid (RsPost R w b r v s most e w5) := hP.trans H4.out.2.adv
          rcases R with x | ⟨L', o'⟩
          · obtain ⟨rfl, _⟩ := hP.1 x rfl
            clear hP HC
            go_wp2
            go_ret
            exact HP.out
          · obtain ⟨rfl, _⟩ := hP.2 L' o' rfl
            clear hP HC
            go_wp2
            go_ret
            exact HP.out

end Go.Proofs.YtfbghchgfbjogaaGreat

namespace Go.Proofs.YtfbghchgfbjogaaGreat
open Go.RowKit
open Hf Tb
set_option linter.unusedVariables false
set_option linter.unusedSimpArgs false

/-- Where a reader stands. -/
def posOf (w : World) (r : Nat) : Nat := match w.cell? ⟨r, 1, none⟩ with
  | some (.int _ n) => n.toNat
  | _ => 0
theorem St.left {w : World} {b r : Nat} {v : Value} {s : ByteArray} {most : Nat} {L : Bts} {xs : List Nat} (h : St w b r v s most L xs) : 8 * s.size - posOf w r = L.length := by
  obtain ⟨p, p1, p2, rfl⟩ := h.rd
  have : w.cell? ⟨r, 1, none⟩ = some (.int .i64 (p : Int)) := cell_of_heap p1 rfl
  unfold posOf
  rw [this, List.length_drop, bitsL_length, bytesOf_length]
  simp

set_option maxHeartbeats 4000000 in
set_option maxRecDepth 100000 in
theorem coded_ok {w : World} {b r : Nat} {v : Value} {s : ByteArray} {most : Nat} {L : Bts} {xs : List Nat} (h : St w b r v s most L xs) {lo hi q : Nat} {ys ds : List Int} (hB : Book w lo hi q ys ds) (ha : Away lo hi b r v) (hys : ys.length ≤ 100000) :
    Calls Tryz.prog 109 #[.pointer (some ⟨b, 0, none⟩), .pointer (some ⟨q, 0, none⟩)] w (RsPost (coded ys ds most L xs) w b r v s most) := by
  obtain ⟨R, hR⟩ : ∃ R, coded ys ds most L xs = R := ⟨_, rfl⟩
  rw [hR]
  have H0 : Hid (∃ L1 x1 v1, coded ys ds most L1 x1 = R ∧ St w b r v1 s most L1 x1 ∧ Adv w w b r v v1) := ⟨L, xs, v, hR, h, Adv.refl _ _ _ _⟩
  have HB : Hid (∀ w' v', Adv w w' b r v v' → Book w' lo hi q ys ds ∧ Away lo hi b r v') := fun w' v' k => ⟨hB.kept k.keep ha.not, ha.adv k hB.hi⟩
  have HY : Hid (ys.length ≤ 100000) := hys
  clear h hB ha hR hys
  go_enter Tryz.func109, Tryz.ntmps109
  go_wp2
  go_loopw [5] (fun _ w' => Hid (∃ L1 x1 v1, coded ys ds most L1 x1 = R ∧ St w' b r v1 s most L1 x1 ∧ Adv w w' b r v v1)) (fun _ w' => 8 * s.size - posOf w' r)
  case atStart => exact H0
  case round =>
    clear H0
    obtain ⟨L1, x1, v1, hE, hS, hA⟩ := hrel.out
    clear hrel
    obtain ⟨hBk, hAw⟩ := HB.out wr v1 hA
    obtain ⟨f1, f2, hq, hq1, hq2, hF1, hF2⟩ := hBk
    have hc1 : wr.cell? ⟨q, 0, none⟩ = some (.pointer (some ⟨f1, 0, none⟩)) := cell_of_heap hq rfl
    have HS : Hid (St wr b r v1 s most L1 x1 ∧ Adv w wr b r v v1) := ⟨hS, hA⟩
    have HQ : Hid (wr.heap[q]? = some (.cells #[.pointer (some ⟨f1, 0, none⟩), .pointer (some ⟨f2, 0, none⟩)] 165 (0, 0)) ∧ lo ≤ q ∧ q < hi ∧ Fnd wr lo hi f2 ds ∧ Away lo hi b r v1) := ⟨hq, hq1, hq2, hF2, hAw⟩
    have HE : Hid (coded ys ds most L1 x1 = R) := hE
    have HC : Hid (Calls Tryz.prog 115 #[.pointer (some ⟨b, 0, none⟩), .pointer (some ⟨f1, 0, none⟩)] wr (NumPost (symN ys L1) wr b r v1 s most x1)) := symbol_ok hS hF1 hAw
    clear hE hS hA hAw hq hq1 hq2 hF1 hF2
    go_wp2_with fail
    refine HC.out.mono ?_
    intro e w2 hP
    clear HC hc1
    rcases h1 : symN ys L1 with _ | ⟨i, L2⟩
    · obtain ⟨rfl, hk⟩ := hP.1 h1
      have HK : Hid (Keeps (Own3 b r v) w w2) := HS.out.2.lost hk
      have e : R = .error 700 := by rw [← HE.out, coded_none h1]
      subst e
      clear hP h1 hk
      go_wp2
      go_ret
      exact RsPost.bad HK.out
    · obtain ⟨rfl, hS2, hA2⟩ := hP.2 i L2 h1
      have H2 : Hid (St w2 b r v1 s most L2 x1 ∧ Adv w w2 b r v v1) := ⟨hS2, HS.out.2.trans hA2.adv⟩
      have HL : Hid (symN ys L1 = some (i, L2)) := h1
      have hi5 : i ≤ 100000 := by have := symN_small h1; have := HY.out; omega
      have HF : Hid (Fnd w2 lo hi f2 ds ∧ Away lo hi b r v1) := ⟨HQ.out.2.2.2.1.kept hA2.keep HQ.out.2.2.2.2.not, HQ.out.2.2.2.2⟩
      have hc2 : w2.cell? ⟨q, 1, none⟩ = some (.pointer (some ⟨f2, 0, none⟩)) := by
        have e : w2.heap[q]? = _ := (hA2.keep.block q (lt_of_heap HQ.out.1) (HQ.out.2.2.2.2.not q HQ.out.2.1 HQ.out.2.2.1)).trans HQ.out.1
        exact cell_of_heap e rfl
      clear hP h1 hS2 hA2 HQ
      by_cases h256 : i = 256
      · subst h256
        have e : R = .ok (L2, x1) := by rw [← HE.out, coded_end HL.out]
        subst e
        clear HE HL HF hc2
        go_wp2
        go_ret
        exact RsPost.good H2.out.1 H2.out.2
      · have hne : ¬ ((i : Int) = 256) := by omega
        have hnb : ((i : Int) == 256) = false := by simp; omega
        have HC : Hid (Calls Tryz.prog 116 #[.pointer (some ⟨b, 0, none⟩), .int .i64 (i : Int), .pointer (some ⟨f2, 0, none⟩)] w2 (RsPost (told ds most i L2 x1) w2 b r v1 s most)) := told_ok H2.out.1 HF.out.1 HF.out.2 i hi5
        clear hi5
        go_wp2_with fail
        refine HC.out.mono ?_
        intro e w3 hP
        clear HC hc2
        rcases h3 : told ds most i L2 x1 with er | ⟨L3, x3⟩
        · obtain ⟨rfl, hk⟩ := hP.1 er h3
          have HK : Hid (Keeps (Own3 b r v) w w3) := H2.out.2.lost hk
          have e : R = .error er := by rw [← HE.out, coded_bad HL.out h256 h3]
          subst e
          have her : ¬ (er = 0) := (told_err h3).ne
          clear hP h3 hk
          go_wp2
          go_ret
          exact RsPost.bad HK.out
        · obtain ⟨rfl, v3, hS3, hA3⟩ := hP.2 L3 x3 h3
          have H3 : Hid (coded ys ds most L3 x3 = R ∧ St w3 b r v3 s most L3 x3 ∧ Adv w w3 b r v v3 ∧ L3.length < L1.length) := ⟨by rw [← HE.out, coded_next HL.out h256 h3], hS3, H2.out.2.trans hA3, by have := symN_len HL.out; have := told_len h3; simp only at this; omega⟩
          clear hP h3 hS3 hA3
          go_wp2
          go_roundw
          case rel => exact ⟨L3, x3, v3, H3.out.1, H3.out.2.1, H3.out.2.2.1⟩
          case measure =>
            rw [H3.out.2.1.left, HS.out.1.left]
            exact H3.out.2.2.2

theorem xor_ones (m : Nat) (h : m < 65536) : bits .xor .i64 (m : Int) 65535 = ((65535 - m : Nat) : Int) := by
  show IntKind.i64.wrap (((BitVec.ofInt 64 (m : Int) ^^^ BitVec.ofInt 64 65535).toNat : Nat) : Int) = _
  have e2 : (BitVec.ofInt 64 65535).toNat = 65535 := by decide
  rw [BitVec.toNat_xor, ofInt64_toNat m (by omega), e2]
  have e : m ^^^ 65535 = 65535 - m := by
    apply Nat.eq_of_testBit_eq
    intro i
    rw [Nat.testBit_xor, show (65535 : Nat) - m = 2 ^ 16 - (m + 1) by omega, Nat.testBit_two_pow_sub_succ (by omega), show (65535 : Nat) = 2 ^ 16 - 1 by decide, Nat.testBit_two_pow_sub_one]
    by_cases hi : i < 16
    · simp [hi]
    · have : m.testBit i = false := Nat.testBit_lt_two_pow (Nat.lt_of_lt_of_le (show m < 2 ^ 16 by omega) (Nat.pow_le_pow_right (by decide) (by omega)))
      simp [hi, this]
  rw [e]
  exact wrap_i64_small _ (by omega) (by omega)
theorem St.align {w : World} {b r : Nat} {v : Value} {s : ByteArray} {most : Nat} {L : Bts} {xs : List Nat} (h : St w b r v s most L xs) :
    Calls Tryz.prog 78 #[.pointer (some ⟨r, 0, none⟩)] w fun e w' => e = .returned (.int .i64 0) ∧ St w' b r v s most (alignL L) xs ∧ Rdv w w' b r v := by
  obtain ⟨p, p1, p2, rfl⟩ := h.rd
  refine (ralign_ok r p s w h.sz p2 p1).mono ?_
  rintro e w' ⟨rfl, hr⟩
  have h2 := h.read hr (by omega)
  refine ⟨rfl, ?_, h2.2⟩
  have e : alignL ((bitsL (bytesOf s)).drop p) = (bitsL (bytesOf s)).drop ((p + 7) / 8 * 8) := by
    unfold alignL
    rw [List.drop_drop, List.length_drop, bitsL_length, bytesOf_length]
    congr 1
    omega
  rw [e]
  exact h2.1

set_option maxHeartbeats 4000000 in
set_option maxRecDepth 100000 in
theorem stored_ok {w : World} {b r : Nat} {v : Value} {s : ByteArray} {most : Nat} {L : Bts} {xs : List Nat} (h : St w b r v s most L xs) :
    Calls Tryz.prog 108 #[.pointer (some ⟨b, 0, none⟩)] w (RsPost (stored most L xs) w b r v s most) := by
  obtain ⟨R, hR⟩ : ∃ R, stored most L xs = R := ⟨_, rfl⟩
  rw [hR]
  unfold stored storedH at hR
  have HR : Hid (thenE (getL 16) (fun k => thenE (getL 16) fun m => if k + m = 65535 then storedB most k else fun _ _ => .error 700) (alignL L) xs = R) := hR
  have HC : Hid (Calls Tryz.prog 78 #[.pointer (some ⟨r, 0, none⟩)] w fun e w' => e = .returned (.int .i64 0) ∧ St w' b r v s most (alignL L) xs ∧ Rdv w w' b r v) := h.align
  have hc := h.c0
  clear h hR
  go_enter Tryz.func108, Tryz.ntmps108
  go_wp2_with fail
  refine HC.out.mono ?_
  rintro e w1 ⟨rfl, hS1, hA1⟩
  have H1 : Hid (St w1 b r v s most (alignL L) xs ∧ Rdv w w1 b r v) := ⟨hS1, hA1⟩
  clear hS1 hA1 HC hc
  generalize alignL L = L0 at *
  rcases h2 : getL 16 L0 with _ | ⟨k, L2⟩
  · have e : R = .error 700 := by rw [← HR.out, thenE_none h2]
    subst e
    have HC : Hid (Calls Tryz.prog 97 #[.pointer (some ⟨b, 0, none⟩), .int .i64 16] w1 fun e w' => e = .returned (.tuple #[.int .i64 0, .int .i64 700]) ∧ Keeps (Own3 b r v) w1 w') := number_none H1.out.1 16 (by omega) h2
    clear h2 HR
    go_wp2_with fail
    refine HC.out.mono ?_
    rintro e w2 ⟨rfl, hk⟩
    have HK : Hid (Keeps (Own3 b r v) w w2) := H1.out.2.lost hk
    clear hk HC
    go_wp2
    go_ret
    exact RsPost.bad HK.out
  · have HR2 : Hid (thenE (getL 16) (fun m => if k + m = 65535 then storedB most k else fun _ _ => .error 700) L2 xs = R) := (thenE_eq h2).symm.trans HR.out
    have HC : Hid (Calls Tryz.prog 97 #[.pointer (some ⟨b, 0, none⟩), .int .i64 16] w1 fun e w' => e = .returned (.tuple #[.int .i64 (k : Int), .int .i64 0]) ∧ St w' b r v s most L2 xs ∧ Rdv w1 w' b r v) := number_some H1.out.1 16 k L2 (by omega) h2
    have hk16 : k < 65536 := getL_lt h2
    clear h2 HR
    go_wp2_with fail
    refine HC.out.mono ?_
    rintro e w2 ⟨rfl, hS2, hA2⟩
    have H2 : Hid (St w2 b r v s most L2 xs ∧ Rdv w w2 b r v) := ⟨hS2, H1.out.2.trans hA2⟩
    clear hS2 hA2 HC H1
    rcases h3 : getL 16 L2 with _ | ⟨m, L3⟩
    · have e : R = .error 700 := by rw [← HR2.out, thenE_none h3]
      subst e
      have HC : Hid (Calls Tryz.prog 97 #[.pointer (some ⟨b, 0, none⟩), .int .i64 16] w2 fun e w' => e = .returned (.tuple #[.int .i64 0, .int .i64 700]) ∧ Keeps (Own3 b r v) w2 w') := number_none H2.out.1 16 (by omega) h3
      clear h3 HR2
      go_wp2_with fail
      refine HC.out.mono ?_
      rintro e w3 ⟨rfl, hk⟩
      have HK : Hid (Keeps (Own3 b r v) w w3) := H2.out.2.lost hk
      clear hk HC
      go_wp2
      go_ret
      exact RsPost.bad HK.out
    · have HR3 : Hid ((if k + m = 65535 then storedB most k else fun _ _ => .error 700) L3 xs = R) := (thenE_eq h3).symm.trans HR2.out
      have HC : Hid (Calls Tryz.prog 97 #[.pointer (some ⟨b, 0, none⟩), .int .i64 16] w2 fun e w' => e = .returned (.tuple #[.int .i64 (m : Int), .int .i64 0]) ∧ St w' b r v s most L3 xs ∧ Rdv w2 w' b r v) := number_some H2.out.1 16 m L3 (by omega) h3
      have hm16 : m < 65536 := getL_lt h3
      clear h3 HR2
      have hxo := xor_ones m hm16
      go_wp2_with fail
      refine HC.out.mono ?_
      rintro e w3 ⟨rfl, hS3, hA3⟩
      have H3 : Hid (St w3 b r v s most L3 xs ∧ Rdv w w3 b r v) := ⟨hS3, H2.out.2.trans hA3⟩
      clear hS3 hA3 HC H2
      by_cases hkm : k + m = 65535
      · have HR4 : Hid (storedB most k L3 xs = R) := by
          have := HR3.out; rw [if_pos hkm] at this; exact this
        have e : 65535 - m = k := by omega
        rw [e] at hxo
        clear e hkm HR3 hm16
        go_wp2
        clear hxo
        have H4 : Hid (∃ L1 x1 v1, storedB most k L1 x1 = R ∧ St w3 b r v1 s most L1 x1 ∧ Adv w w3 b r v v1) := ⟨L3, xs, v, HR4.out, H3.out.1, H3.out.2.adv⟩
        clear HR4 H3
        go_loopw [35] (fun s35 w' => ∃ j : Nat, j ≤ k ∧ s35 = .int .i64 (j : Int) ∧ Hid (∃ L1 x1 v1, storedB most (k - j) L1 x1 = R ∧ St w' b r v1 s most L1 x1 ∧ Adv w w' b r v v1)) (fun s35 _ => ((k : Int) - intOf s35).toNat)
        case atStart => exact ⟨0, by omega, rfl, H4⟩
        case round =>
          clear H4
          obtain ⟨j, hj, rfl, HW⟩ := hrel
          by_cases hjk : j < k
          · have hjz : (j : Int) < (k : Int) := by omega
            obtain ⟨L5, x5, v5, hE, hS, hA⟩ := HW.out
            clear HW
            have HS : Hid (St wr b r v5 s most L5 x5 ∧ Adv w wr b r v v5) := ⟨hS, hA⟩
            have HE : Hid (thenE (getL 8) (fun b => seqE (mapE (put1 most b)) (storedB most (k - (j + 1)))) L5 x5 = R) := by
              rw [show k - j = (k - (j + 1)) + 1 by omega] at hE; exact hE
            clear hE hS hA
            rcases h6 : getL 8 L5 with _ | ⟨c, L6⟩
            · have e : R = .error 700 := by rw [← HE.out, thenE_none h6]
              subst e
              have HC : Hid (Calls Tryz.prog 97 #[.pointer (some ⟨b, 0, none⟩), .int .i64 8] wr fun e w' => e = .returned (.tuple #[.int .i64 0, .int .i64 700]) ∧ Keeps (Own3 b r v5) wr w') := number_none HS.out.1 8 (by omega) h6
              clear h6 HE
              go_wp2_with fail
              refine HC.out.mono ?_
              rintro e w6 ⟨rfl, hk⟩
              have HK : Hid (Keeps (Own3 b r v) w w6) := HS.out.2.lost hk
              clear hk HC
              go_wp2
              go_ret
              exact RsPost.bad HK.out
            · have HE2 : Hid (seqE (mapE (put1 most c)) (storedB most (k - (j + 1))) L6 x5 = R) := (thenE_eq h6).symm.trans HE.out
              have HC : Hid (Calls Tryz.prog 97 #[.pointer (some ⟨b, 0, none⟩), .int .i64 8] wr fun e w' => e = .returned (.tuple #[.int .i64 (c : Int), .int .i64 0]) ∧ St w' b r v5 s most L6 x5 ∧ Rdv wr w' b r v5) := number_some HS.out.1 8 c L6 (by omega) h6
              have hc8 : c < 256 := getL_lt h6
              have hu : IntKind.u8.wrap (c : Int) = (c : Int) := by simp [IntKind.wrap, IntKind.bits, IntKind.signed]; omega
              clear h6 HE
              go_wp2_with fail
              refine HC.out.mono ?_
              rintro e w6 ⟨rfl, hS6, hA6⟩
              have H6 : Hid (St w6 b r v5 s most L6 x5 ∧ Adv w w6 b r v v5) := ⟨hS6, HS.out.2.trans hA6.adv⟩
              have HC2 : Hid (Calls Tryz.prog 114 #[.pointer (some ⟨b, 0, none⟩), .int .u8 (c : Int)] w6 (RsPost (mapE (put1 most c) L6 x5) w6 b r v5 s most)) := put_rs hS6 c hc8
              clear hS6 hA6 HC HS hc8
              go_wp2_with fail
              refine HC2.out.mono ?_
              intro e w7 hP
              clear HC2
              rcases h7 : mapE (put1 most c) L6 x5 with er | ⟨L7, x7⟩
              · obtain ⟨rfl, hk⟩ := hP.1 er h7
                have HK : Hid (Keeps (Own3 b r v) w w7) := H6.out.2.lost hk
                have e : R = .error er := by rw [← HE2.out, seqE_bad h7]
                subst e
                have her : ¬ (er = 0) := (mapE_err put1_err h7).ne
                clear hP h7 hk
                go_wp2
                go_ret
                exact RsPost.bad HK.out
              · obtain ⟨rfl, v7, hS7, hA7⟩ := hP.2 L7 x7 h7
                have H7 : Hid (∃ L1 x1 v1, storedB most (k - (j + 1)) L1 x1 = R ∧ St w7 b r v1 s most L1 x1 ∧ Adv w w7 b r v v1) := ⟨L7, x7, v7, by rw [← HE2.out, seqE_eq h7], hS7, H6.out.2.trans hA7⟩
                clear hP h7 hS7 hA7
                go_wp2
                go_roundw
                case rel => exact ⟨j + 1, by omega, by push_cast; rfl, H7⟩
                case measure => simp [intOf]; omega
          · obtain rfl : j = k := by omega
            go_wp2
            go_ret
            obtain ⟨L5, x5, v5, hE, hS, hA⟩ := HW.out
            rw [Nat.sub_self] at hE
            rw [← hE]
            exact RsPost.good hS hA
      · have e : R = .error 700 := by
          have := HR3.out; rw [if_neg hkm] at this; exact this.symm
        subst e
        have hne : ¬ ((k : Int) = ((65535 - m : Nat) : Int)) := by omega
        have hnb : ((k : Int) == ((65535 - m : Nat) : Int)) = false := by simp; omega
        generalize 65535 - m = m' at *
        go_wp2
        go_ret
        exact RsPost.bad H3.out.2.keep

end Go.Proofs.YtfbghchgfbjogaaGreat

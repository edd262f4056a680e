/-
  An archive of which one byte is another one (no program in sight).
-/
import Derived.Test.YthlaeeepbkfkgaaGaw
namespace Go.Proofs.Ythlaeeepbkfkgaa
open Go.RowKit
set_option linter.unusedVariables false
set_option linter.unusedSimpArgs false

/-- At how many places two rows differ. -/
def Df : List Nat → List Nat → Nat
  | x :: r, y :: s => (if x = y then 0 else 1) + Df r s
  | _, _ => 0
theorem Df_app : ∀ {a b c d : List Nat}, a.length = c.length → Df (a ++ b) (c ++ d) = Df a c + Df b d
  | [], b, [], d, _ => by simp [Df]
  | [], _, _ :: _, _, h => by simp at h
  | _ :: _, _, [], _, h => by simp at h
  | x :: r, b, y :: s, d, h => by
    have := Df_app (a := r) (b := b) (c := s) (d := d) (by simpa using h)
    simp only [List.cons_append, Df, this]; omega
theorem Df_same (a : List Nat) : Df a a = 0 := by
  induction a with
  | nil => rfl
  | cons x r ih => simp [Df, ih]
theorem Df_eq : ∀ {a b : List Nat}, a.length = b.length → Df a b = 0 → a = b
  | [], [], _, _ => rfl
  | [], _ :: _, h, _ => by simp at h
  | _ :: _, [], h, _ => by simp at h
  | x :: r, y :: s, h, hd => by
    simp only [Df] at hd
    have hx : x = y := by
      by_cases q : x = y
      · exact q
      · rw [if_neg q] at hd; omega
    have hr := Df_eq (a := r) (b := s) (by simpa using h) (by omega)
    rw [hx, hr]
theorem Df_set : ∀ (l : List Nat) (i z : Nat), Df l (l.set i z) ≤ 1
  | [], i, z => by simp [Df]
  | x :: r, 0, z => by simp only [List.set_cons_zero, Df, Df_same]; split <;> omega
  | x :: r, i + 1, z => by
    have := Df_set r i z
    simp only [List.set_cons_succ, Df]; simpa using this
theorem Df_le (k n m : Nat) : Df (le k n) (le k m) = 0 → le k n = le k m := Df_eq (by rw [le_len, le_len])

/-- An entry's head in the first part. -/
def hdL (x : It) : List Nat := [80, 75, 3, 4] ++ (commonL x.1 ++ calledL x)
theorem first_hd (x : It) : firstL x = hdL x ++ bytesOf x.1.pk := by simp only [firstL, hdL, List.append_assoc]
theorem hdL_len {x : It} (h : heldB x = true) : (hdL x).length = 56 + x.1.nm.size := by
  simp only [hdL, calledL, List.length_append, commonL_len, headL_len h, bytesOf_length, List.length_cons, List.length_nil]; omega
theorem calledL_len {x : It} (h : heldB x = true) : (calledL x).length = 26 + x.1.nm.size := by
  rw [calledL, List.length_append, headL_len h, bytesOf_length]; omega
theorem Df_hd (x y : It) : Df (hdL x) (hdL y) = Df (commonL x.1) (commonL y.1) + Df (calledL x) (calledL y) := by
  rw [hdL, hdL, Df_app rfl, Df_same, Df_app (by rw [commonL_len, commonL_len])]; omega
theorem Df_second (x y : It) (k m : Nat) : Df (secondL x k) (secondL y m) = Df (commonL x.1) (commonL y.1) + Df (le 4 k) (le 4 m) + Df (calledL x) (calledL y) := by
  rw [secondL, secondL, Df_app rfl, Df_same, Df_app rfl, Df_same, Df_app (by rw [commonL_len, commonL_len]), Df_app rfl, Df_same, Df_app rfl, Df_same, Df_app rfl, Df_same, Df_app rfl, Df_same, Df_app (by rw [le_len, le_len])]; omega
theorem Df_end (n s f n' s' f' : Nat) : Df (endL n s f) (endL n' s' f') = 2 * Df (le 2 n) (le 2 n') + Df (le 4 s) (le 4 s') + Df (le 4 f) (le 4 f') := by
  rw [endL, endL, Df_app rfl, Df_same, Df_app rfl, Df_same, Df_app rfl, Df_same, Df_app (by rw [le_len, le_len]), Df_app (by rw [le_len, le_len]), Df_app (by rw [le_len, le_len]), Df_app (by rw [le_len, le_len]), Df_same]; omega
/-- An archive of two. -/
theorem zip_two (x1 x2 : It) : zipL [x1, x2] = hdL x1 ++ (bytesOf x1.1.pk ++ (hdL x2 ++ (bytesOf x2.1.pk ++ (secondL x1 0 ++ (secondL x2 (firstL x1).length ++ endL 2 (seconds 0 [x1, x2]).length (firsts [x1, x2]).length))))) := by
  simp only [zipL, firsts, seconds, first_hd, List.append_assoc, List.append_nil, List.length_cons, List.length_nil, Nat.zero_add]
theorem two_of {es : List It} (h : es.length = 2) : ∃ x1 x2, es = [x1, x2] := by
  match es, h with
  | [x, y], _ => exact ⟨x, y, rfl⟩
/-- What differs at one place alone from an archive of two entries with short names, and is one, differs in a file's own bytes. -/
theorem near_two {x1 x2 : It} {fs : List It} (hw : writeB [x1, x2] = true) (hn1 : x1.1.nm.size = 1) (hn2 : x2.1.nm.size = 1) (hf : writeB fs = true) (hl : (zipL [x1, x2]).length = (zipL fs).length) (hd : Df (zipL [x1, x2]) (zipL fs) ≤ 1) :
    ∃ p q R1 R2, p.length = x1.1.pk.size ∧ q.length = x2.1.pk.size ∧ zipL [x1, x2] = hdL x1 ++ (bytesOf x1.1.pk ++ (R1 ++ (bytesOf x2.1.pk ++ R2))) ∧ zipL fs = hdL x1 ++ (p ++ (R1 ++ (q ++ R2))) ∧ R1.length = 57 := by
  have hx := writeB_held hw
  have hy := writeB_held hf
  have hx1 := hx x1 List.mem_cons_self
  have hx2 := hx x2 (List.mem_cons_of_mem _ List.mem_cons_self)
  have ly := writeB_len hf
  have fb := firsts_le hy
  have sb := seconds_le 0 hy
  have fa := firsts_len hx
  have sa := seconds_len 0 hx
  have fc := firsts_len hy
  have sc := seconds_len 0 hy
  have hA : zipL [x1, x2] = (firsts [x1, x2] ++ seconds 0 [x1, x2]) ++ endL 2 (seconds 0 [x1, x2]).length (firsts [x1, x2]).length := by simp only [zipL, List.append_assoc]; rfl
  have hB : zipL fs = (firsts fs ++ seconds 0 fs) ++ endL fs.length (seconds 0 fs).length (firsts fs).length := by simp only [zipL, List.append_assoc]
  have hl2 : (firsts [x1, x2] ++ seconds 0 [x1, x2]).length = (firsts fs ++ seconds 0 fs).length := by
    rw [hA, hB] at hl
    simp only [List.length_append, endL_len] at hl ⊢
    omega
  have hd2 := hd
  rw [hA, hB, Df_app hl2, Df_end] at hd2
  have hp1 : x1.1.pk.size ≤ 300 := (heldB_nums hx1).2.2.2.1
  have hp2 : x2.1.pk.size ≤ 300 := (heldB_nums hx2).2.2.2.1
  have e1 : nmsum [x1, x2] = 2 := by simp [nmsum, hn1, hn2]
  have e2 : pksum [x1, x2] = x1.1.pk.size + x2.1.pk.size := by simp [pksum]
  rw [e1, e2] at fa
  rw [e1] at sa
  have hn : 2 = fs.length := le2_inj (by decide) (by omega) (Df_le 2 2 fs.length (by omega))
  obtain ⟨y1, y2, rfl⟩ := two_of hn.symm
  rw [List.length_append, List.length_append] at hl2
  have hS : (seconds 0 [x1, x2]).length = (seconds 0 [y1, y2]).length := by
    by_cases q : Df (le 4 (seconds 0 [x1, x2]).length) (le 4 (seconds 0 [y1, y2]).length) = 0
    · exact le4_inj (by omega) (by omega) (Df_le _ _ _ q)
    · have q2 : Df (le 4 (firsts [x1, x2]).length) (le 4 (firsts [y1, y2]).length) = 0 := by omega
      have := le4_inj (by omega) (by omega) (Df_le _ _ _ q2)
      omega
  have hy1 := hy y1 List.mem_cons_self
  have hy2 := hy y2 (List.mem_cons_of_mem _ List.mem_cons_self)
  obtain ⟨_, _, _, py1, ny1⟩ := heldB_nums hy1
  obtain ⟨_, _, _, py2, ny2⟩ := heldB_nums hy2
  have e3 : nmsum [y1, y2] = y1.1.nm.size + y2.1.nm.size := by simp [nmsum]
  have e4 : pksum [y1, y2] = y1.1.pk.size + y2.1.pk.size := by simp [pksum]
  rw [e3, e4] at fc
  rw [e3] at sc
  simp only [List.length_cons, List.length_nil] at fa sa fc sc
  have m1 : y1.1.nm.size = 1 := by omega
  have m2 : y2.1.nm.size = 1 := by omega
  have hF : (firsts [x1, x2]).length = (firsts [y1, y2]).length := by omega
  have hpk : x1.1.pk.size + x2.1.pk.size = y1.1.pk.size + y2.1.pk.size := by omega
  -- the heads, twice told
  have k1 := hdL_len hx1
  have k2 := hdL_len hx2
  have k3 := hdL_len hy1
  have k4 := hdL_len hy2
  have c1 := calledL_len hx1
  have c2 := calledL_len hx2
  have c3 := calledL_len hy1
  have c4 := calledL_len hy2
  have sl := fun (x : It) (h : heldB x = true) k => secondL_len h k
  have g1 : firsts [x1, x2] = hdL x1 ++ (bytesOf x1.1.pk ++ firstL x2) := by simp only [firsts, first_hd x1, List.append_assoc, List.append_nil]
  have g2 : firsts [y1, y2] = hdL y1 ++ (bytesOf y1.1.pk ++ firstL y2) := by simp only [firsts, first_hd y1, List.append_assoc, List.append_nil]
  have g3 : seconds 0 [x1, x2] = secondL x1 0 ++ secondL x2 (firstL x1).length := by simp only [seconds, List.append_nil, Nat.zero_add]
  have g4 : seconds 0 [y1, y2] = secondL y1 0 ++ secondL y2 (firstL y1).length := by simp only [seconds, List.append_nil, Nat.zero_add]
  have hd3 : Df (firsts [x1, x2]) (firsts [y1, y2]) + Df (seconds 0 [x1, x2]) (seconds 0 [y1, y2]) ≤ 1 := by
    rw [Df_app hF] at hd2; omega
  have hd4 : Df (hdL x1) (hdL y1) + Df (secondL x1 0) (secondL y1 0) ≤ 1 := by
    have q1 : Df (firsts [x1, x2]) (firsts [y1, y2]) = Df (hdL x1) (hdL y1) + Df (bytesOf x1.1.pk ++ firstL x2) (bytesOf y1.1.pk ++ firstL y2) := by
      rw [g1, g2, Df_app (by omega)]
    have q2 : Df (seconds 0 [x1, x2]) (seconds 0 [y1, y2]) = Df (secondL x1 0) (secondL y1 0) + Df (secondL x2 (firstL x1).length) (secondL y2 (firstL y1).length) := by
      rw [g3, g4, Df_app (by rw [sl x1 hx1, sl y1 hy1]; omega)]
    omega
  rw [Df_hd, Df_second, Df_same] at hd4
  have hc1 : commonL x1.1 = commonL y1.1 := Df_eq (by rw [commonL_len, commonL_len]) (by omega)
  have hp : x1.1.pk.size = y1.1.pk.size := le4_inj (by omega) (by omega) (common_inj hc1).2.2.1
  have hq : x2.1.pk.size = y2.1.pk.size := by omega
  have hfl : (firstL x1).length = (firstL y1).length := by rw [firstL_len hx1, firstL_len hy1]; omega
  have b1 : (bytesOf x1.1.pk).length = (bytesOf y1.1.pk).length := by rw [bytesOf_length, bytesOf_length, hp]
  have b2 : (bytesOf x2.1.pk).length = (bytesOf y2.1.pk).length := by rw [bytesOf_length, bytesOf_length, hq]
  rw [zip_two, zip_two, hF, hS, hfl, Df_app (by omega), Df_app b1, Df_app (by omega), Df_app b2, Df_app (by rw [sl x1 hx1, sl y1 hy1]; omega), Df_app (by rw [sl x2 hx2, sl y2 hy2]; omega), Df_hd, Df_hd, Df_second, Df_second, Df_same, Df_same, Df_same] at hd
  have h1 : commonL x1.1 = commonL y1.1 := Df_eq (by rw [commonL_len, commonL_len]) (by omega)
  have h2 : calledL x1 = calledL y1 := Df_eq (by omega) (by omega)
  have h3 : commonL x2.1 = commonL y2.1 := Df_eq (by rw [commonL_len, commonL_len]) (by omega)
  have h4 : calledL x2 = calledL y2 := Df_eq (by omega) (by omega)
  have r1 : hdL x1 = hdL y1 := by rw [hdL, hdL, h1, h2]
  have r2 : hdL x2 = hdL y2 := by rw [hdL, hdL, h3, h4]
  have r3 : ∀ k, secondL x1 k = secondL y1 k := fun k => by rw [secondL, secondL, h1, h2]
  have r4 : ∀ k, secondL x2 k = secondL y2 k := fun k => by rw [secondL, secondL, h3, h4]
  refine ⟨bytesOf y1.1.pk, bytesOf y2.1.pk, hdL x2, secondL x1 0 ++ (secondL x2 (firstL x1).length ++ endL 2 (seconds 0 [x1, x2]).length (firsts [x1, x2]).length), by rw [bytesOf_length, hp], by rw [bytesOf_length, hq], zip_two x1 x2, ?_, by omega⟩
  rw [zip_two, ← r1, ← r2, ← r3, ← r4, hF, hS, hfl]
theorem get_same {A P Q B : List Nat} (h : P.length = Q.length) (i : Nat) (hi : i < A.length ∨ A.length + P.length ≤ i) : (A ++ (P ++ B))[i]? = (A ++ (Q ++ B))[i]? := by
  rcases hi with hi | hi
  · rw [List.getElem?_append_left hi, List.getElem?_append_left hi]
  · rw [List.getElem?_append_right (by omega), List.getElem?_append_right (by omega), List.getElem?_append_right (by omega), List.getElem?_append_right (by omega), h]
/-- A byte of a head, or behind the files, turned: no archive. -/
theorem turned_none {x1 x2 : It} (hw : writeB [x1, x2] = true) (hn1 : x1.1.nm.size = 1) (hn2 : x2.1.nm.size = 1) (i z : Nat) (hi : i < (zipL [x1, x2]).length) (hz : (zipL [x1, x2])[i]? ≠ some z)
    (ho : ¬ (57 ≤ i ∧ i < 57 + x1.1.pk.size) ∧ ¬ (114 + x1.1.pk.size ≤ i ∧ i < 114 + x1.1.pk.size + x2.1.pk.size)) : ∀ fs, writeB fs = true → (zipL [x1, x2]).set i z ≠ zipL fs := fun fs hf he => by
  have hd := Df_set (zipL [x1, x2]) i z
  have hl := congrArg List.length he
  rw [List.length_set] at hl
  rw [he] at hd
  obtain ⟨p, q, R1, R2, hp, hq, e1, e2, hr⟩ := near_two hw hn1 hn2 hf hl hd
  have hx1 := writeB_held hw x1 List.mem_cons_self
  have hh := hdL_len hx1
  have b1 := bytesOf_length x1.1.pk
  have b2 := bytesOf_length x2.1.pk
  have hs : (zipL fs)[i]? = some z := by rw [← he, List.getElem?_set_self hi]
  apply hz
  rw [← hs, e1, e2]
  rw [get_same (A := hdL x1) (P := bytesOf x1.1.pk) (Q := p) (by omega) i (by omega)]
  have := get_same (A := hdL x1 ++ (p ++ R1)) (P := bytesOf x2.1.pk) (Q := q) (B := R2) (by omega) i (by simp only [List.length_append]; omega)
  simpa only [List.append_assoc] using this
/-- An entry with other bytes packed. -/
def setP (x : It) (p : ByteArray) : It := (⟨x.1.nm, x.1.gn, x.1.va, x.1.vn, x.1.vc, x.1.st, x.1.nd, x.1.mt, p, x.1.sz, x.1.cr⟩, x.2)
theorem setP_held {x : It} {p : ByteArray} (h : heldB x = true) (hg : x.1.gn = false) (hp : p.size = x.1.pk.size) : heldB (setP x p) = true := by
  have e : heldB (setP x p) = heldB x := by
    simp only [heldB, setP, hg, cond_false, textB, packB, hp]
  rw [e]; exact h
theorem setP_parts (x : It) (p : ByteArray) (hp : p.size = x.1.pk.size) : hdL (setP x p) = hdL x ∧ ∀ k, secondL (setP x p) k = secondL x k := by
  have e1 : commonL (setP x p).1 = commonL x.1 := by simp only [commonL, setP, hp]
  have e2 : calledL (setP x p) = calledL x := rfl
  exact ⟨by rw [hdL, hdL, e1, e2], fun k => by rw [secondL, secondL, e1, e2]⟩
theorem set_mid (A P B : List Nat) (i z : Nat) (h1 : A.length ≤ i) (h2 : i < A.length + P.length) : (A ++ (P ++ B)).set i z = A ++ (P.set (i - A.length) z ++ B) := by
  rw [List.set_append_right _ _ h1, List.set_append_left _ _ (by omega)]
theorem set_text (p : ByteArray) (j z : Nat) (hz : z < 256) : bytesOf (textOf ((bytesOf p).set j z)) = (bytesOf p).set j z := bytesOf_text _ (fun y hy => by
  rcases List.mem_or_eq_of_mem_set hy with h | h
  · exact bytesOf_lt p y h
  · omega)
/-- A byte of a file's own turned: another archive. -/
theorem turned_one {x1 x2 : It} (hw : writeB [x1, x2] = true) (hg1 : x1.1.gn = false) (hg2 : x2.1.gn = false) (hn1 : x1.1.nm = ⟨#[97]⟩) (hn2 : x2.1.nm = ⟨#[98]⟩) (i z : Nat) (hzb : z < 256) (hz : (zipL [x1, x2])[i]? ≠ some z)
    (ho : (57 ≤ i ∧ i < 57 + x1.1.pk.size) ∨ (114 + x1.1.pk.size ≤ i ∧ i < 114 + x1.1.pk.size + x2.1.pk.size)) : ∃ fs, writeB fs = true ∧ (zipL [x1, x2]).set i z = zipL fs ∧ fs.length = 2 ∧ ¬ dats [x1, x2] = dats fs := by
  have hx1 := writeB_held hw x1 List.mem_cons_self
  have hx2 := writeB_held hw x2 (List.mem_cons_of_mem _ List.mem_cons_self)
  have s1 : x1.1.nm.size = 1 := by rw [hn1]; rfl
  have s2 : x2.1.nm.size = 1 := by rw [hn2]; rfl
  have k1 := hdL_len hx1
  have k2 := hdL_len hx2
  have b1 := bytesOf_length x1.1.pk
  have b2 := bytesOf_length x2.1.pk
  have fin : ∀ fs : List It, writeB fs = true → (zipL [x1, x2]).set i z = zipL fs → fs.length = 2 → ∃ fs, writeB fs = true ∧ (zipL [x1, x2]).set i z = zipL fs ∧ fs.length = 2 ∧ ¬ dats [x1, x2] = dats fs := fun fs q1 q2 q3 => by
    refine ⟨fs, q1, q2, q3, fun q4 => ?_⟩
    have q5 := zipL_dats q4
    have hil : i < (zipL [x1, x2]).length := by
      rw [zip_two]; simp only [List.length_append]; omega
    have q6 : ((zipL [x1, x2]).set i z)[i]? = some z := List.getElem?_set_self hil
    rw [q2, ← q5] at q6
    exact hz q6
  rcases ho with ho | ho
  · obtain ⟨p, hp⟩ : ∃ p, p = textOf ((bytesOf x1.1.pk).set (i - 57) z) := ⟨_, rfl⟩
    have hps : p.size = x1.1.pk.size := by rw [hp, textOf_size, List.length_set, b1]
    have hpb : bytesOf p = (bytesOf x1.1.pk).set (i - 57) z := by rw [hp]; exact set_text _ _ _ hzb
    obtain ⟨r1, r2⟩ := setP_parts x1 p hps
    have hh := setP_held hx1 hg1 hps
    have hw' : writeB [setP x1 p, x2] = true := w_pair hh hx2 hn1 hn2
    refine fin [setP x1 p, x2] hw' ?_ rfl
    have hfl : (firstL (setP x1 p)).length = (firstL x1).length := by rw [firstL_len hh, firstL_len hx1]; show 56 + x1.1.nm.size + p.size = _; rw [hps]
    have hF : (firsts [setP x1 p, x2]).length = (firsts [x1, x2]).length := by simp only [firsts, List.length_append, hfl]
    have hS : (seconds 0 [setP x1 p, x2]).length = (seconds 0 [x1, x2]).length := by simp only [seconds, r2, List.length_append, secondL_len hx2]
    rw [zip_two, zip_two, r1, r2, hfl, hF, hS, set_mid _ _ _ _ _ (by omega) (by omega)]
    show _ = hdL x1 ++ (bytesOf p ++ _)
    rw [hpb, show (hdL x1).length = 57 by omega]
  · obtain ⟨p, hp⟩ : ∃ p, p = textOf ((bytesOf x2.1.pk).set (i - (114 + x1.1.pk.size)) z) := ⟨_, rfl⟩
    have hps : p.size = x2.1.pk.size := by rw [hp, textOf_size, List.length_set, b2]
    have hpb : bytesOf p = (bytesOf x2.1.pk).set (i - (114 + x1.1.pk.size)) z := by rw [hp]; exact set_text _ _ _ hzb
    obtain ⟨r1, r2⟩ := setP_parts x2 p hps
    have hh := setP_held hx2 hg2 hps
    have hw' : writeB [x1, setP x2 p] = true := w_pair hx1 hh hn1 hn2
    refine fin [x1, setP x2 p] hw' ?_ rfl
    have hF : (firsts [x1, setP x2 p]).length = (firsts [x1, x2]).length := by
      simp only [firsts, List.length_append, firstL_len hh, firstL_len hx2, List.length_nil]; show _ + (56 + x2.1.nm.size + p.size + 0) = _; rw [hps]
    have hS : (seconds 0 [x1, setP x2 p]).length = (seconds 0 [x1, x2]).length := by simp only [seconds, r2]
    have hz2 : zipL [x1, setP x2 p] = (hdL x1 ++ (bytesOf x1.1.pk ++ hdL x2)) ++ (bytesOf p ++ (secondL x1 0 ++ (secondL x2 (firstL x1).length ++ endL 2 (seconds 0 [x1, x2]).length (firsts [x1, x2]).length))) := by
      rw [zip_two, r1, r2, hF, hS]; simp only [List.append_assoc]; rfl
    have hz1 : zipL [x1, x2] = (hdL x1 ++ (bytesOf x1.1.pk ++ hdL x2)) ++ (bytesOf x2.1.pk ++ (secondL x1 0 ++ (secondL x2 (firstL x1).length ++ endL 2 (seconds 0 [x1, x2]).length (firsts [x1, x2]).length))) := by
      rw [zip_two]; simp only [List.append_assoc]
    have hlen : (hdL x1 ++ (bytesOf x1.1.pk ++ hdL x2)).length = 114 + x1.1.pk.size := by simp only [List.length_append]; omega
    rw [hz1, hz2, set_mid _ _ _ _ _ (by omega) (by omega), hpb, hlen]

end Go.Proofs.Ythlaeeepbkfkgaa

import PyProof.Rows.All
import KE.OsGo
import KE.OsArgs
import PySem.Challenge.RW_singlechange_s03_gr_set
open PySem PySem.W
set_option Elab.async false
namespace My
/-- Pascal's numbers -/
def ch : Nat → Nat → Nat
  | _, 0 => 1
  | 0, _ + 1 => 0
  | n + 1, k + 1 => ch n k + ch n (k + 1)
theorem ch_zero (n : Nat) : ch n 0 = 1 := by cases n <;> rfl
theorem ch_succ (n k : Nat) : ch (n + 1) (k + 1) = ch n k + ch n (k + 1) := rfl
theorem ch_gt : ∀ (n k : Nat), n < k → ch n k = 0
  | 0, k + 1, _ => rfl
  | n + 1, k + 1, h => by rw [ch_succ, ch_gt n k (by omega), ch_gt n (k + 1) (by omega)]
theorem ch_self : ∀ n : Nat, ch n n = 1
  | 0 => rfl
  | n + 1 => by rw [ch_succ, ch_self n, ch_gt n (n + 1) (by omega)]
theorem ch_absorb : ∀ (n k : Nat), ch n (k + 1) * (k + 1) + ch n k * k = ch n k * n
  | 0, 0 => rfl
  | 0, k + 1 => by
    show 0 * (k + 1 + 1) + 0 * (k + 1) = 0 * 0
    omega
  | n + 1, 0 => by
    have h := ch_absorb n 0
    rw [ch_zero] at h
    rw [ch_succ, ch_zero, ch_zero]
    omega
  | n + 1, j + 1 => by
    have h1 := ch_absorb n (j + 1)
    have h0 := ch_absorb n j
    rw [ch_succ n (j + 1), ch_succ n j]
    generalize ch n j = a at *
    generalize ch n (j + 1) = b at *
    generalize ch n (j + 1 + 1) = c at *
    simp only [Nat.mul_add, Nat.add_mul, Nat.mul_one, Nat.one_mul] at *
    omega
theorem over_fold (n : Nat) : ∀ k : Nat, k ≤ n → (List.range k).foldl (fun (c i : Nat) => c * (n - i) / (i + 1)) 1 = ch n k
  | 0, _ => (ch_zero n).symm
  | k + 1, h => by
    rw [List.range_succ, List.foldl_append, over_fold n k (by omega)]
    show ch n k * (n - k) / (k + 1) = ch n (k + 1)
    have a := ch_absorb n k
    have e : ch n k * (n - k) = ch n (k + 1) * (k + 1) := by
      rw [Nat.mul_sub]
      omega
    rw [e]
    exact Nat.mul_div_cancel _ (Nat.succ_pos k)
theorem over_ch (n k : Nat) : Sx49.over n k = ch n k := by
  unfold Sx49.over
  by_cases h : n < k
  · rw [if_pos h, ch_gt n k h]
  · rw [if_neg h, over_fold n k (by omega)]
theorem set_bad {n k i : Int} (h : n < 1 ∨ 63 < n ∨ k < 0 ∨ n < k) : PySx49.gr_set n k i = [-2] := by
  have e : Sv52.setOk n k = false := by
    unfold Sv52.setOk Sv52.within
    rw [Bool.and_eq_false_iff, Bool.and_eq_false_iff, Bool.and_eq_false_iff]
    rcases h with h | h | h | h
    · exact Or.inl (Or.inl (decide_eq_false (by omega)))
    · exact Or.inl (Or.inr (decide_eq_false (by omega)))
    · exact Or.inr (Or.inl (decide_eq_false (by omega)))
    · exact Or.inr (Or.inr (decide_eq_false (by omega)))
  show ((Sx49.does (.set n k i.toNat)).v :: (Sx49.does (.set n k i.toNat)).l.map fun (y : Nat) => (y : Int)) = [-2]
  have d : Sx49.does (.set n k i.toNat) = Sv52.ok (-2) := if_pos e
  rw [d]; rfl
theorem set_in {n k : Int} (i : Int) (h1 : 1 ≤ n) (h2 : n ≤ 63) (h3 : 0 ≤ k) (h4 : k ≤ n) : Sx49.does (.set n k i.toNat) = Sx49.told (decide (i.toNat < ch n.toNat k.toNat)) [Sx49.setAt n.toNat k.toNat i.toNat] := by
  have e : Sv52.setOk n k = true := by
    unfold Sv52.setOk Sv52.within
    rw [decide_eq_true h1, decide_eq_true h2, decide_eq_true h3, decide_eq_true h4]; rfl
  rw [← over_ch]
  exact if_neg (by rw [e]; decide)
theorem set_no {n k i : Int} (h1 : 1 ≤ n) (h2 : n ≤ 63) (h3 : 0 ≤ k) (h4 : k ≤ n) (h : ch n.toNat k.toNat ≤ i.toNat) : PySx49.gr_set n k i = [-3] := by
  show ((Sx49.does (.set n k i.toNat)).v :: (Sx49.does (.set n k i.toNat)).l.map fun (y : Nat) => (y : Int)) = [-3]
  rw [set_in i h1 h2 h3 h4, decide_eq_false (by omega)]; rfl
theorem set_yes {n k i : Int} (h1 : 1 ≤ n) (h2 : n ≤ 63) (h3 : 0 ≤ k) (h4 : k ≤ n) (h : i.toNat < ch n.toNat k.toNat) : PySx49.gr_set n k i = [0, ((Sx49.setAt n.toNat k.toNat i.toNat : Nat) : Int)] := by
  show ((Sx49.does (.set n k i.toNat)).v :: (Sx49.does (.set n k i.toNat)).l.map fun (y : Nat) => (y : Int)) = _
  rw [set_in i h1 h2 h3 h4, decide_eq_true h]; rfl
theorem ch_pos : ∀ (n k : Nat), k ≤ n → 0 < ch n k
  | 0, 0, _ => by decide
  | n + 1, 0, _ => by rw [ch_zero]; omega
  | n + 1, k + 1, h => by
    rw [ch_succ]
    have := ch_pos n k (by omega)
    omega
theorem ch_le : ∀ (n k : Nat), ch n k ≤ 2 ^ n
  | 0, 0 => by decide
  | 0, k + 1 => by rw [ch_gt 0 (k + 1) (by omega)]; omega
  | n + 1, 0 => by rw [ch_zero]; exact Nat.one_le_two_pow
  | n + 1, k + 1 => by
    have a := ch_le n k
    have b := ch_le n (k + 1)
    rw [ch_succ, Nat.pow_succ]
    omega
theorem setAt_zero (n i : Nat) : Sx49.setAt n 0 i = 0 := by cases n <;> rfl
theorem setAt_none (k i : Nat) : Sx49.setAt 0 k i = 0 := by cases k <;> rfl
theorem setAt_out {n k i : Nat} (h : i < ch n (k + 1)) : Sx49.setAt (n + 1) (k + 1) i = Sx49.setAt n (k + 1) i := by
  rw [← over_ch] at h
  exact if_pos h
theorem setAt_in {n k i : Nat} (h : ¬ i < ch n (k + 1)) : Sx49.setAt (n + 1) (k + 1) i = 2 ^ n + Sx49.setAt n k (ch n k - 1 - (i - ch n (k + 1))) := by
  rw [← over_ch] at h
  have e : Sx49.setAt (n + 1) (k + 1) i = 2 ^ n + Sx49.setAt n k (Sx49.over n k - 1 - (i - Sx49.over n (k + 1))) := if_neg h
  rw [e, over_ch, over_ch]
theorem setAt_lt : ∀ (n k i : Nat), Sx49.setAt n k i < 2 ^ n
  | n, 0, i => by rw [setAt_zero]; exact Nat.two_pow_pos n
  | 0, k + 1, i => by rw [setAt_none]; decide
  | n + 1, k + 1, i => by
    by_cases h : i < ch n (k + 1)
    · have := setAt_lt n (k + 1) i
      rw [setAt_out h, Nat.pow_succ]; omega
    · have := setAt_lt n k (ch n k - 1 - (i - ch n (k + 1)))
      rw [setAt_in h, Nat.pow_succ]; omega
/-- the share of the sets that lack the last thing -/
theorem ch_share : ∀ (r j : Nat), j ≤ r + 1 → ch (r + 1) j * (r + 1 - j) = ch r j * (r + 1)
  | r, 0, _ => by rw [ch_zero, ch_zero, Nat.sub_zero]
  | r, j + 1, h => by
    have a := ch_absorb r j
    have b : ch r j * (r - j) = ch r (j + 1) * (j + 1) := by rw [Nat.mul_sub]; omega
    have c : r + 1 - (j + 1) = r - j := by omega
    rw [ch_succ, c, Nat.add_mul, b, ← Nat.mul_add]
    refine congrArg (ch r (j + 1) * ·) ?_
    omega
/-- the length of a row of sets on the way -/
structure Row (n : Int) (m : Nat) (p : Int) : Prop where
  eq : p = ((ch n.toNat m : Nat) : Int)
structure MulIs (x y q : Int) : Prop where
  eq : q = x * y
structure DivIs (x y q : Int) : Prop where
  eq : q = x.fdiv y
theorem row_start0 (n : Int) : Row n 0 1 := ⟨by rw [ch_zero]; rfl⟩
theorem row_step {n p q r : Int} {m : Nat} (R : Row n m p) (hm : (m : Int) < n) (M : MulIs p (n - (m : Int)) q) (D : DivIs q ((m : Int) + 1) r) : Row n (m + 1) r := by
  refine ⟨?_⟩
  obtain ⟨N, rfl⟩ := Int.eq_ofNat_of_zero_le (show 0 ≤ n by omega)
  have a := ch_absorb N m
  have e : ch N m * (N - m) = ch N (m + 1) * (m + 1) := by rw [Nat.mul_sub]; omega
  have s : ((N : Int) - (m : Int)) = ((N - m : Nat) : Int) := by omega
  have s1 : ((m : Int) + 1) = ((m + 1 : Nat) : Int) := by omega
  have t : ((N : Int)).toNat = N := rfl
  rw [D.eq, M.eq, R.eq, s, s1, t, ← Int.natCast_mul, e, Int.fdiv_eq_ediv_of_nonneg _ (by omega)]
  rw [← Int.natCast_ediv, Nat.mul_div_cancel _ (Nat.succ_pos m)]
theorem row_pos {n p : Int} {m : Nat} (R : Row n m p) (h : m ≤ n.toNat) : 1 ≤ p := by
  have := ch_pos n.toNat m h
  have e := R.eq
  omega
/-- the loop over the numbers, from the greatest: m of n were taken -/
structure Cut (n k i : Int) (m : Nat) (mask missing part place : Int) : Prop where
  hm : m ≤ n.toNat
  h0 : 0 ≤ missing
  h1 : missing.toNat ≤ n.toNat - m
  hp : part = ((ch (n.toNat - m) missing.toNat : Nat) : Int)
  hk : ∃ a : Nat, mask = ((2 ^ (n.toNat - m) * a : Nat) : Int)
  hs : mask + ((Sx49.setAt (n.toNat - m) missing.toNat place.toNat : Nat) : Int) = ((Sx49.setAt n.toNat k.toNat i.toNat : Nat) : Int)
theorem cut_start {n k i p : Int} (R : Row n k.toNat p) (h0 : 0 ≤ k) (h : k ≤ n) : Cut n k i 0 0 k p i := by
  refine ⟨Nat.zero_le _, h0, by omega, R.eq, ⟨0, rfl⟩, ?_⟩
  rw [Nat.sub_zero, Int.zero_add]
theorem cut_end {n k i mask missing part place : Int} {m : Nat} (C : Cut n k i m mask missing part place) (h : m = n.toNat) : mask = ((Sx49.setAt n.toNat k.toNat i.toNat : Nat) : Int) := by
  have s := C.hs
  rw [h, Nat.sub_self, setAt_none] at s
  rw [← s]
  exact (Int.add_zero mask).symm
/-- without = part * (r - missing) // r is the number of sets that lack the last -/
structure Share (n : Int) (m : Nat) (missing q : Int) : Prop where
  lt : m < n.toNat
  eq : q = ((ch (n.toNat - (m + 1)) missing.toNat : Nat) : Int)
theorem share {n k i mask missing part place x q : Int} {m : Nat} (C : Cut n k i m mask missing part place) (hm : m < n.toNat) (M : MulIs part (n - 1 - (m : Int) + 1 - missing) x) (D : DivIs x (n - 1 - (m : Int) + 1) q) : Share n m missing q := by
  refine ⟨hm, ?_⟩
  have h0 := C.h0
  have h1 := C.h1
  have hp := C.hp
  have e : n.toNat - m = (n.toNat - (m + 1)) + 1 := by omega
  rw [e] at h1 hp
  have s := ch_share (n.toNat - (m + 1)) missing.toNat h1
  have en : n - 1 - (m : Int) + 1 = ((n.toNat - (m + 1) + 1 : Nat) : Int) := by omega
  have em : n - 1 - (m : Int) + 1 - missing = ((n.toNat - (m + 1) + 1 - missing.toNat : Nat) : Int) := by omega
  rw [D.eq, M.eq, em, en, hp, ← Int.natCast_mul, s, Int.fdiv_eq_ediv_of_nonneg _ (by omega), ← Int.natCast_ediv, Nat.mul_div_cancel _ (Nat.succ_pos _)]
theorem share_nonneg {n missing q : Int} {m : Nat} (S : Share n m missing q) : 0 ≤ q := by
  have := S.eq
  omega
/-- the mathematics of a turn, over the numbers left -/
theorem out_eq {r j p : Nat} (h : p < ch r j) : j ≤ r ∧ Sx49.setAt (r + 1) j p = Sx49.setAt r j p := by
  have le : j ≤ r := by
    by_cases g : j ≤ r
    · exact g
    · rw [ch_gt r j (by omega)] at h
      omega
  refine ⟨le, ?_⟩
  cases j with
  | zero => rw [setAt_zero, setAt_zero]
  | succ j => exact setAt_out h
theorem in_eq {r j p : Nat} (h : ¬ p < ch r j) (hp : p < ch (r + 1) j) : ∃ j', j = j' + 1 ∧ ch (r + 1) j = ch r j' + ch r j ∧ Sx49.setAt (r + 1) j p = 2 ^ r + Sx49.setAt r j' (ch (r + 1) j - 1 - p) := by
  cases j with
  | zero => rw [ch_zero] at h hp; omega
  | succ j =>
    refine ⟨j, rfl, ch_succ r j, ?_⟩
    rw [setAt_in h]
    refine congrArg (fun z => 2 ^ r + Sx49.setAt r j z) ?_
    rw [ch_succ] at hp ⊢
    omega
/-- the way where the last is left out -/
theorem cut_out {n k i mask missing part place q : Int} {m : Nat} (C : Cut n k i m mask missing part place) (S : Share n m missing q) (h0 : 0 ≤ place) (h : place < q) : Cut n k i (m + 1) mask missing q place := by
  have lt := S.lt
  have eq := S.eq
  have c0 := C.h0
  have e : n.toNat - m = (n.toNat - (m + 1)) + 1 := by omega
  obtain ⟨a, hk⟩ := C.hk
  have hs := C.hs
  rw [e] at hk hs
  have o := out_eq (r := n.toNat - (m + 1)) (j := missing.toNat) (p := place.toNat) (by omega)
  refine ⟨by omega, c0, o.1, eq, ⟨2 * a, ?_⟩, ?_⟩
  · rw [hk, Nat.pow_succ, Nat.mul_assoc]
  · rw [← hs, o.2]
/-- the way where it is taken in -/
theorem cut_in {n k i mask missing part place q mask' : Int} {m : Nat} (C : Cut n k i m mask missing part place) (S : Share n m missing q) (h0 : 0 ≤ place) (h : ¬ place < q) (hp : place < part)
    (hm : mask' = mask + ((2 ^ (n.toNat - (m + 1)) : Nat) : Int)) : Cut n k i (m + 1) mask' (missing - 1) (part - q) (part - 1 - place) ∧ 1 ≤ missing := by
  have lt := S.lt
  have eq := S.eq
  have c0 := C.h0
  have c1 := C.h1
  have cp := C.hp
  have e : n.toNat - m = (n.toNat - (m + 1)) + 1 := by omega
  obtain ⟨a, hk⟩ := C.hk
  have hs := C.hs
  rw [e] at hk hs c1 cp
  obtain ⟨j, o1, o2, o3⟩ := in_eq (r := n.toNat - (m + 1)) (j := missing.toNat) (p := place.toNat) (by omega) (by omega)
  have ej : (missing - 1).toNat = j := by omega
  refine ⟨⟨by omega, by omega, by omega, ?_, ⟨2 * a + 1, ?_⟩, ?_⟩, by omega⟩
  · rw [ej]; omega
  · rw [hm, hk, Nat.mul_add, Nat.mul_one, Nat.pow_succ, Nat.mul_assoc]; rfl
  · rw [o3] at hs
    rw [← hs, hm, ej]
    have ep : (part - 1 - place).toNat = ch (n.toNat - (m + 1) + 1) missing.toNat - 1 - place.toNat := by omega
    rw [ep, Int.natCast_add]
    omega
theorem and_none (r a : Nat) : (2 ^ (r + 1) * a) &&& 2 ^ r = 0 := by
  refine Nat.eq_of_testBit_eq fun i => ?_
  rw [Nat.testBit_and, Nat.testBit_two_pow_mul, Nat.testBit_two_pow, Nat.zero_testBit]
  by_cases h : r = i
  · subst h
    have : decide (r ≥ r + 1) = false := decide_eq_false (by omega)
    rw [this]; rfl
  · rw [decide_eq_false h, Bool.and_false]
structure ShlIs (y q : Int) : Prop where
  eq : q = 1 * 2 ^ y.toNat
structure OrIs (x y q : Int) : Prop where
  eq : q = Builtin.bitOr x y
theorem or_is {n mask b mask' c : Int} {m : Nat} (hk : ∃ a : Nat, mask = ((2 ^ (n.toNat - m) * a : Nat) : Int)) (lt : m < n.toNat) (S : ShlIs c b) (O : OrIs mask b mask') (hc : c = n - 1 - (m : Int)) : mask' = mask + ((2 ^ (n.toNat - (m + 1)) : Nat) : Int) := by
  obtain ⟨a, ea⟩ := hk
  have e : n.toNat - m = (n.toNat - (m + 1)) + 1 := by omega
  have ec : c.toNat = n.toNat - (m + 1) := by omega
  have eb : b = ((2 ^ (n.toNat - (m + 1)) : Nat) : Int) := by
    rw [S.eq, ec, Int.one_mul, Int.natCast_pow]; rfl
  rw [e] at ea
  have hm : 0 ≤ mask := by rw [ea]; exact Int.natCast_nonneg _
  have hb : 0 ≤ b := by rw [eb]; exact Int.natCast_nonneg _
  rw [O.eq, PyProof.Rows.bitOr_and, PyProof.Rows.bitAnd_pp hm hb, eb, ea, Int.toNat_natCast, Int.toNat_natCast, and_none]
  exact Int.sub_zero _
theorem row_start {n : Int} : (1 : Int) ≤ 1 ∧ Row n ([] : List Int).length 1 := ⟨Int.le_refl _, row_start0 n⟩
theorem row_turn {n p q r v y z : Int} {pre : List Int} (R : Row n pre.length p) (M : MulIs p y q) (D : DivIs q z r) (hm : (pre.length : Int) < n) (hy : y = n - (pre.length : Int)) (hz : z = (pre.length : Int) + 1) : (1 : Int) ≤ r ∧ Row n (pre ++ [v]).length r := by
  subst hy hz
  have t := row_step R hm M D
  have hl : (pre ++ [v]).length = pre.length + 1 := by simp
  rw [hl]
  exact ⟨row_pos t (by omega), t⟩
theorem row_size {n k p : Int} (R : Row n (rangeKs 0 (k - 0).toNat).length p) : Row n k.toNat p := by
  rw [rangeKs_length, Int.sub_zero] at R
  exact R
theorem at_start {n k i p : Int} (R : Row n (rangeKs 0 (k - 0).toNat).length p) (h0 : 0 ≤ i) (h : i < p) (h1 : 0 ≤ k) (h2 : k ≤ n) :
    (0 ≤ i ∧ i < p ∧ 0 ≤ k ∧ k ≤ n ∧ Cut n k i ([] : List Int).length 0 k p i) := ⟨h0, h, h1, h2, cut_start (row_size R) h1 h2⟩
theorem at_out {n k i mask missing part place x q y z v : Int} {pre : List Int} (C : Cut n k i pre.length mask missing part place) (M : MulIs part y x) (D : DivIs x z q)
    (hm : pre.length < n.toNat) (hy : y = n - (pre.length : Int) - missing) (hz : z = n - (pre.length : Int)) (h0 : 0 ≤ place) (h : place < q) (h1 : 0 ≤ missing) (h2 : missing ≤ n) :
    (0 ≤ place ∧ place < q ∧ 0 ≤ missing ∧ missing ≤ n ∧ Cut n k i (pre ++ [v]).length mask missing q place) := by
  have ey : y = n - 1 - (pre.length : Int) + 1 - missing := by omega
  have ez : z = n - 1 - (pre.length : Int) + 1 := by omega
  subst ey ez
  have hl : (pre ++ [v]).length = pre.length + 1 := by simp
  rw [hl]
  exact ⟨h0, h, h1, h2, cut_out C (share C hm M D) h0 h⟩
theorem at_in {n k i mask missing part place x q y z v b c mask' : Int} {pre : List Int} (C : Cut n k i pre.length mask missing part place) (M : MulIs part y x) (D : DivIs x z q) (S : ShlIs c b) (O : OrIs mask b mask')
    (hm : pre.length < n.toNat) (hy : y = n - (pre.length : Int) - missing) (hz : z = n - (pre.length : Int)) (hc : c = n - 1 - (pre.length : Int)) (h0 : 0 ≤ place) (h : ¬ place < q) (hp : place < part) (h1 : 0 ≤ missing) (h2 : missing ≤ n) :
    (0 ≤ part - 1 - place ∧ part - 1 - place < part - q ∧ 0 ≤ missing - 1 ∧ missing - 1 ≤ n ∧ Cut n k i (pre ++ [v]).length mask' (missing - 1) (part - q) (part - 1 - place)) := by
  have ey : y = n - 1 - (pre.length : Int) + 1 - missing := by omega
  have ez : z = n - 1 - (pre.length : Int) + 1 := by omega
  subst ey ez
  have hl : (pre ++ [v]).length = pre.length + 1 := by simp
  rw [hl]
  have s := share C hm M D
  have t := cut_in C s h0 h hp (or_is C.hk hm S O hc)
  exact ⟨by omega, by omega, by omega, by omega, t.1⟩
theorem at_end {n k i mask missing part place : Int} (C : Cut n k i (downKs (n - 1) (n - 1 - -1).toNat).length mask missing part place) : mask = ((Sx49.setAt n.toNat k.toNat i.toNat : Nat) : Int) := cut_end C (by rw [downKs_length]; omega)
theorem w_three {a b c d e f x y z : Int} {u : Codec.denoteAll []} (h : Codec.withinAll [.int a b, .int c d, .int e f] (x, y, z, u) = true) : (a ≤ x ∧ x ≤ b) ∧ (c ≤ y ∧ y ≤ d) ∧ e ≤ z ∧ z ≤ f := by
  have h' : ((decide (a ≤ x) && decide (x ≤ b)) && ((decide (c ≤ y) && decide (y ≤ d)) && ((decide (e ≤ z) && decide (z ≤ f)) && true))) = true := h
  simpa using h'
theorem said : PySem.Challenge.rw_singlechange_s03_gr_set.wellSaid = true := by decide +kernel
theorem pre_i {n k i : Int} (h : PySem.Challenge.rw_singlechange_s03_gr_set.pre [.int n, .int k, .int i] = true) : 0 ≤ i := by
  obtain ⟨a, w, q, e⟩ := os_pre said h
  obtain ⟨n', k', i', u⟩ := a
  have e3 := os_j_int (List.cons.inj (List.cons.inj (List.cons.inj e).2).2).1
  have b : (0 : Int) ≤ i' := (w_three (x := n') (y := k') (z := i') (u := u) w).2.2.1
  rw [e3]; exact b
theorem no_of {n k i p : Int} (R : Row n (rangeKs 0 (k - 0).toNat).length p) (h1 : 1 ≤ n) (h2 : n ≤ 63) (h3 : 0 ≤ k) (h4 : k ≤ n) (h : p ≤ i) : PySx49.gr_set n k i = [-3] := by
  have e := (row_size R).eq
  exact set_no h1 h2 h3 h4 (by omega)
theorem yes_of {n k i p mask missing part place : Int} (R : Row n (rangeKs 0 (k - 0).toNat).length p) (C : Cut n k i (downKs (n - 1) (n - 1 - -1).toNat).length mask missing part place) (h1 : 1 ≤ n) (h2 : n ≤ 63) (h3 : 0 ≤ k) (h4 : k ≤ n) (h0 : 0 ≤ i) (h : i < p) : PySx49.gr_set n k i = [0, mask] := by
  have e := (row_size R).eq
  rw [set_yes h1 h2 h3 h4 (by omega), at_end C]
open PySem.Calls PyProof.Rows
section
variable {prog : Program} {w : World} {A : Around} {E : Value → Shared → Prop} {s : Shared} {x y : Int} {t u : Tok} {Q : Value → Shared → Prop}
theorem step_mul (lo : -100 ≤ y) (hi : y ≤ 100) (h : ∀ q, MulIs x y q → Q (.int q s.toks) { s with toks := s.toks + 1 }) :
    wpAny (model prog w) A (binaryOp .Mult (.int x t) (.int y u)) Q E s :=
  PyProof.Rows.mul_int (h _ ⟨rfl⟩) (PySem.IntMulOk.of_right (PySem.intBits_le_64 (by omega) (by omega)))
theorem step_div (lo : 1 ≤ y) (hi : y ≤ 100) (h : ∀ q, DivIs x y q → Q (.int q s.toks) { s with toks := s.toks + 1 }) :
    wpAny (model prog w) A (binaryOp .FloorDiv (.int x t) (.int y u)) Q E s :=
  PyProof.Rows.floordiv_int (by omega) (h _ ⟨rfl⟩) (Or.inl (PyProof.noPylong_small (by omega)))
theorem step_shl (lo : 0 ≤ y) (hi : y ≤ 100) (h : ∀ q, ShlIs y q → Q (.int q s.toks) { s with toks := s.toks + 1 }) :
    wpAny (model prog w) A (binaryOp .LShift (.int 1 t) (.int y u)) Q E s :=
  PyProof.Rows.lshift_int_small lo (by omega) (by decide) (h _ ⟨rfl⟩)
theorem step_or (h : ∀ q, OrIs x y q → Q (.int q s.toks) { s with toks := s.toks + 1 }) :
    wpAny (model prog w) A (binaryOp .BitOr (.int x t) (.int y u)) Q E s :=
  PyProof.Rows.or_int (h _ ⟨rfl⟩)
end
end My
open PyProof.Rows
local macro_rules | `(tactic| walk_at "binaryOp Mult int int") => `(tactic| (k_here; (with_reducible refine' My.step_mul ?k1 ?k2 ?_); (case k1 => k_dflt omega); (case k2 => k_dflt omega); intro q' hM'))
local macro_rules | `(tactic| walk_at "binaryOp FloorDiv int int") => `(tactic| (k_here; (with_reducible refine' My.step_div ?k1 ?k2 ?_); (case k1 => k_dflt omega); (case k2 => k_dflt omega); intro q' hD'))
local macro_rules | `(tactic| walk_at "binaryOp LShift int int") => `(tactic| (k_here; (with_reducible refine' My.step_shl ?k1 ?k2 ?_); (case k1 => k_dflt omega); (case k2 => k_dflt omega); intro q' hS'))
local macro_rules | `(tactic| walk_at "binaryOp BitOr int int") => `(tactic| (k_here; (with_reducible refine' My.step_or ?_); intro q' hO'))
local macro_rules | `(tactic| walk_at "pyIter ref") => `(tactic| k_extra "pyIter ref")
set_option maxRecDepth 100000 in
set_option maxHeartbeats 8000000 in
theorem PySem.Challenge.cw_singlechange_s03_gr_set_holds : PySem.Challenge.rw_singlechange_s03_gr_set.Holds := by
  k_with "state" => first
    | exact My.row_start
    | exact My.row_turn (by assumption) (by assumption) (by assumption) (by omega) (by omega) (by omega)
    | exact My.at_start (by assumption) (My.pre_i (by assumption)) (by omega) (by omega) (by omega)
    | exact My.at_out (by assumption) (by assumption) (by assumption) (by omega) (by omega) (by omega) (by omega) (by omega) (by omega) (by omega)
    | exact My.at_in (by assumption) (by assumption) (by assumption) (by assumption) (by assumption) (by omega) (by omega) (by omega) (by omega) (by omega) (by omega) (by omega) (by omega) (by omega)
  k_with "pyIter ref" => k_state_given ["n"] (fun n pre p => (1 : Int) ≤ p ∧ My.Row n pre.length p) "length"
  k_with "pyIter ref" => k_state_given ["n", "k", "i"] (fun n k i pre mask missing part place => 0 ≤ place ∧ place < part ∧ 0 ≤ missing ∧ missing ≤ n ∧ My.Cut n k i pre.length mask missing part place) "mask" "missing" "part" "place"
  open_ks with [.int 1, .int 0, .int 0]
  all_goals (os_open My.said with a w q e)
  all_goals (obtain ⟨n, k, i, u⟩ := a)
  all_goals (have e1 : n = _ := (os_j_int (List.cons.inj e).1).symm)
  all_goals (have e2 : k = _ := (os_j_int (List.cons.inj (List.cons.inj e).2).1).symm)
  all_goals (have e3 : i = _ := (os_j_int (List.cons.inj (List.cons.inj (List.cons.inj e).2).2).1).symm)
  all_goals (have b : (0 : Int) ≤ i := (My.w_three (x := n) (y := k) (z := i) (u := u) w).2.2.1)
  all_goals (subst e1 e2 e3)
  all_goals (show _ = WData.list ((PySx49.gr_set n k i).map WData.int))
  all_goals (refine os_list ?_)
  · rw [My.set_bad (Or.inl (by omega))]; rfl
  · rw [My.set_bad (Or.inr (Or.inl (by omega)))]; rfl
  · rw [My.set_bad (Or.inr (Or.inr (Or.inl (by omega))))]; rfl
  · rw [My.set_bad (Or.inr (Or.inr (Or.inr (by omega))))]; rfl
  · rw [My.no_of (by assumption) (by omega) (by omega) (by omega) (by omega) (by omega)]; rfl
  · rw [My.yes_of (by assumption) (by assumption) (by omega) (by omega) (by omega) (by omega) (by omega) (by omega)]; rfl
#print axioms PySem.Challenge.cw_singlechange_s03_gr_set_holds

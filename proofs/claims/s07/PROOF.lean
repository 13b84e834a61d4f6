import PyProof.Rows.All
import KE.OsGo
import KE.OsArgs
import PySem.Challenge.RW_singlechange_s07_gr_set_place
open PySem PySem.W
set_option Elab.async false
namespace My
/-- Pascal's numbers -/
def ch : Nat → Nat → Nat
  | _, 0 => 1
  | 0, _ + 1 => 0
  | n + 1, k + 1 => ch n k + ch n (k + 1)
theorem ch_zero (n : Nat) : ch n 0 = 1 := by cases n <;> rfl
theorem ch_succ (n k : Nat) : ch (n + 1) (k + 1) = ch n k + ch n (k + 1) := rfl
theorem ch_gt : ∀ (n k : Nat), n < k → ch n k = 0
  | 0, k + 1, _ => rfl
  | n + 1, k + 1, h => by rw [ch_succ, ch_gt n k (by omega), ch_gt n (k + 1) (by omega)]
theorem ch_self : ∀ n : Nat, ch n n = 1
  | 0 => rfl
  | n + 1 => by rw [ch_succ, ch_self n, ch_gt n (n + 1) (by omega)]
theorem ch_absorb : ∀ (n k : Nat), ch n (k + 1) * (k + 1) + ch n k * k = ch n k * n
  | 0, 0 => rfl
  | 0, k + 1 => by
    show 0 * (k + 1 + 1) + 0 * (k + 1) = 0 * 0
    omega
  | n + 1, 0 => by
    have h := ch_absorb n 0
    rw [ch_zero] at h
    rw [ch_succ, ch_zero, ch_zero]
    omega
  | n + 1, j + 1 => by
    have h1 := ch_absorb n (j + 1)
    have h0 := ch_absorb n j
    rw [ch_succ n (j + 1), ch_succ n j]
    generalize ch n j = a at *
    generalize ch n (j + 1) = b at *
    generalize ch n (j + 1 + 1) = c at *
    simp only [Nat.mul_add, Nat.add_mul, Nat.mul_one, Nat.one_mul] at *
    omega
theorem over_fold (n : Nat) : ∀ k : Nat, k ≤ n → (List.range k).foldl (fun (c i : Nat) => c * (n - i) / (i + 1)) 1 = ch n k
  | 0, _ => (ch_zero n).symm
  | k + 1, h => by
    rw [List.range_succ, List.foldl_append, over_fold n k (by omega)]
    show ch n k * (n - k) / (k + 1) = ch n (k + 1)
    have a := ch_absorb n k
    have e : ch n k * (n - k) = ch n (k + 1) * (k + 1) := by
      rw [Nat.mul_sub]
      omega
    rw [e]
    exact Nat.mul_div_cancel _ (Nat.succ_pos k)
theorem over_ch (n k : Nat) : Sx49.over n k = ch n k := by
  unfold Sx49.over
  by_cases h : n < k
  · rw [if_pos h, ch_gt n k h]
  · rw [if_neg h, over_fold n k (by omega)]
theorem ch_pos : ∀ (n k : Nat), k ≤ n → 0 < ch n k
  | 0, 0, _ => by decide
  | n + 1, 0, _ => by rw [ch_zero]; omega
  | n + 1, k + 1, h => by
    rw [ch_succ]
    have := ch_pos n k (by omega)
    omega
theorem ch_le : ∀ (n k : Nat), ch n k ≤ 2 ^ n
  | 0, 0 => by decide
  | 0, k + 1 => by rw [ch_gt 0 (k + 1) (by omega)]; omega
  | n + 1, 0 => by rw [ch_zero]; exact Nat.one_le_two_pow
  | n + 1, k + 1 => by
    have a := ch_le n k
    have b := ch_le n (k + 1)
    rw [ch_succ, Nat.pow_succ]
    omega
theorem setPlace_zero (n s : Nat) : Sx49.setPlace n 0 s = 0 := by cases n <;> rfl
theorem setPlace_none (k s : Nat) : Sx49.setPlace 0 k s = 0 := by cases k <;> rfl
theorem setPlace_out {n k s : Nat} (h : s.testBit n = false) : Sx49.setPlace (n + 1) (k + 1) s = Sx49.setPlace n (k + 1) s := if_pos h
theorem setPlace_in {n k s : Nat} (h : s.testBit n = true) : Sx49.setPlace (n + 1) (k + 1) s = ch n (k + 1) + (ch n k - 1 - Sx49.setPlace n k (s - 2 ^ n)) := by
  rw [← over_ch, ← over_ch]
  exact if_neg (by rw [h]; decide)
theorem many_succ (n s : Nat) : Sv52.many (n + 1) s = Sv52.many n s + (if s.testBit n = true then 1 else 0) := by
  unfold Sv52.many
  rw [List.range_succ, List.filter_append, List.length_append]
  refine congrArg (_ + ·) ?_
  cases h : s.testBit n <;> simp [h]
theorem many_zero (s : Nat) : Sv52.many 0 s = 0 := rfl
theorem many_le : ∀ (n s : Nat), Sv52.many n s ≤ n
  | 0, _ => Nat.le_refl _
  | n + 1, s => by
    have := many_le n s
    rw [many_succ]; split <;> omega
/-- a set below 2 ^ (n + 1): the bit n tells whether it is below 2 ^ n -/
theorem bit_out {n s : Nat} (h : s < 2 ^ (n + 1)) (b : s.testBit n = false) : s < 2 ^ n := by
  rw [Nat.testBit_eq_decide_div_mod_eq] at b
  have b' := of_decide_eq_false b
  rw [Nat.pow_succ] at h
  have p : 0 < 2 ^ n := Nat.two_pow_pos n
  have l : s / 2 ^ n < 2 := by rw [Nat.div_lt_iff_lt_mul p]; omega
  have z : s / 2 ^ n = 0 := by
    generalize s / 2 ^ n = d at b' l
    omega
  rcases Nat.div_eq_zero_iff.mp z with e | e
  · omega
  · exact e
theorem bit_in {n s : Nat} (b : s.testBit n = true) : 2 ^ n ≤ s := Nat.ge_two_pow_of_testBit b
theorem many_low {n s : Nat} : ∀ m, m ≤ n → 2 ^ n ≤ s → Sv52.many m (s - 2 ^ n) = Sv52.many m s
  | 0, _, _ => rfl
  | m + 1, h, g => by
    rw [many_succ, many_succ, many_low m (by omega) g]
    have e : (s - 2 ^ n).testBit m = s.testBit m := by
      have es : s = (s - 2 ^ n) + 2 ^ n := by omega
      conv => rhs; rw [es]
      have lt : m < n := by omega
      rw [Nat.add_comm, Nat.testBit_two_pow_add_gt lt]
    rw [e]
theorem setPlace_lt : ∀ (n s : Nat), s < 2 ^ n → Sx49.setPlace n (Sv52.many n s) s < ch n (Sv52.many n s)
  | 0, s, h => by
    rw [setPlace_none, many_zero]; decide
  | n + 1, s, h => by
    cases b : s.testBit n with
    | false =>
      have ih := setPlace_lt n s (bit_out h b)
      have e : Sv52.many (n + 1) s = Sv52.many n s := by rw [many_succ, b]; rfl
      rw [e]
      cases hk : Sv52.many n s with
      | zero => rw [setPlace_zero, ch_zero]; omega
      | succ k =>
        rw [hk] at ih
        rw [setPlace_out b, ch_succ]; omega
    | true =>
      have g := bit_in b
      have l : s - 2 ^ n < 2 ^ n := by rw [Nat.pow_succ] at h; omega
      have ih := setPlace_lt n (s - 2 ^ n) l
      have e : Sv52.many (n + 1) s = Sv52.many n s + 1 := by rw [many_succ, b]; rfl
      rw [many_low n (Nat.le_refl n) g] at ih
      rw [e, setPlace_in b, ch_succ]; omega
theorem setPlace_bad {n w : Int} (h : n < 1 ∨ 63 < n) : PySx49.gr_set_place n w = [-2] := by
  have e : Sv52.wordOk n = false := by
    unfold Sv52.wordOk Sv52.within
    rw [Bool.and_eq_false_iff]
    rcases h with h | h
    · exact Or.inl (decide_eq_false (by omega))
    · exact Or.inr (decide_eq_false (by omega))
  show ((Sx49.does (.setPlace n w.toNat)).v :: (Sx49.does (.setPlace n w.toNat)).l.map fun (y : Nat) => (y : Int)) = [-2]
  have d : Sx49.does (.setPlace n w.toNat) = Sv52.ok (-2) := if_pos e
  rw [d]; rfl
theorem setPlace_told {n : Int} (w : Int) (h1 : 1 ≤ n) (h2 : n ≤ 63) : Sx49.does (.setPlace n w.toNat) = Sx49.told (decide (w.toNat < 2 ^ n.toNat)) [Sx49.setPlace n.toNat (Sv52.many n.toNat w.toNat) w.toNat] := by
  have e : Sv52.wordOk n = true := by
    unfold Sv52.wordOk Sv52.within
    rw [decide_eq_true h1, decide_eq_true h2]; rfl
  exact if_neg (by rw [e]; decide)
theorem setPlace_no {n w : Int} (h1 : 1 ≤ n) (h2 : n ≤ 63) (h : ¬ w.toNat < 2 ^ n.toNat) : PySx49.gr_set_place n w = [-3] := by
  show ((Sx49.does (.setPlace n w.toNat)).v :: (Sx49.does (.setPlace n w.toNat)).l.map fun (y : Nat) => (y : Int)) = [-3]
  rw [setPlace_told w h1 h2, decide_eq_false h]; rfl
theorem setPlace_yes {n w : Int} (h1 : 1 ≤ n) (h2 : n ≤ 63) (h : w.toNat < 2 ^ n.toNat) : PySx49.gr_set_place n w = [0, ((Sx49.setPlace n.toNat (Sv52.many n.toNat w.toNat) w.toNat : Nat) : Int)] := by
  show ((Sx49.does (.setPlace n w.toNat)).v :: (Sx49.does (.setPlace n w.toNat)).l.map fun (y : Nat) => (y : Int)) = _
  rw [setPlace_told w h1 h2, decide_eq_true h]; rfl
theorem fdiv_pow {i : Int} {m : Nat} (h : 0 ≤ i) : i.fdiv (2 ^ m) = ((i.toNat / 2 ^ m : Nat) : Int) := by
  have e : (2 : Int) ^ m = ((2 ^ m : Nat) : Int) := by rw [Int.natCast_pow]; rfl
  rw [e, Int.fdiv_eq_ediv_of_nonneg i (Int.natCast_nonneg _)]
  conv => lhs; rw [← Int.toNat_of_nonneg h]
  rfl
structure ShrIs (x y q : Int) : Prop where
  eq : q = x.fdiv (2 ^ y.toNat)
theorem shr_no {n w q : Int} (S : ShrIs w n q) (h0 : 0 ≤ w) (h : 0 < q) : ¬ w.toNat < 2 ^ n.toNat := fun l => by
  rw [S.eq, fdiv_pow h0, Nat.div_eq_of_lt l] at h
  omega
theorem shr_yes {n w q : Int} (S : ShrIs w n q) (h0 : 0 ≤ w) (h : ¬ 0 < q) : w.toNat < 2 ^ n.toNat := by
  rw [S.eq, fdiv_pow h0] at h
  have p : 0 < 2 ^ n.toNat := Nat.two_pow_pos _
  have z : w.toNat / 2 ^ n.toNat = 0 := by
    generalize w.toNat / 2 ^ n.toNat = d at h
    omega
  rcases Nat.div_eq_zero_iff.mp z with e | e
  · omega
  · exact e
theorem shr_bit {w k q z b : Int} {m : Nat} (S : ShrIs w k q) (h0 : 0 ≤ w) (hk : k = (m : Int)) (hq : q = 2 * z + b) (hb0 : 0 ≤ b) (hb1 : b < 2) : w.toNat.testBit m = decide (b = 1) := by
  subst hk
  have e := S.eq
  rw [fdiv_pow h0, Int.toNat_natCast] at e
  rw [Nat.testBit_eq_decide_div_mod_eq]
  generalize w.toNat / 2 ^ m = d at *
  by_cases h : b = 1
  · rw [decide_eq_true h]
    exact decide_eq_true (show d % 2 = 1 by omega)
  · rw [decide_eq_false h]
    exact decide_eq_false (show ¬ d % 2 = 1 by omega)
theorem mod_out {m s : Nat} (b : s.testBit m = false) : s % 2 ^ (m + 1) = s % 2 ^ m := by
  have h := bit_out (n := m) (s := s % 2 ^ (m + 1)) (Nat.mod_lt _ (Nat.two_pow_pos _)) (by
    rw [Nat.testBit_mod_two_pow, b, Bool.and_false])
  rw [← Nat.mod_eq_of_lt h, Nat.mod_mod_of_dvd _ (Nat.pow_dvd_pow 2 (Nat.le_succ m))]
theorem mod_in {m s : Nat} (b : s.testBit m = true) : s % 2 ^ (m + 1) = 2 ^ m + s % 2 ^ m := by
  rw [Nat.testBit_eq_decide_div_mod_eq] at b
  rw [Nat.mod_pow_succ, of_decide_eq_true b, Nat.mul_one, Nat.add_comm]
theorem many_mod : ∀ (m n s : Nat), m ≤ n → Sv52.many m (s % 2 ^ n) = Sv52.many m s
  | 0, _, _, _ => rfl
  | m + 1, n, s, h => by
    rw [many_succ, many_succ, many_mod m n s (by omega), Nat.testBit_mod_two_pow, decide_eq_true (by omega : m < n), Bool.true_and]
theorem place_room (m s : Nat) : Sx49.setPlace m (Sv52.many m s) (s % 2 ^ m) < ch m (Sv52.many m s) := by
  have h := setPlace_lt m (s % 2 ^ m) (Nat.mod_lt _ (Nat.two_pow_pos _))
  rw [many_mod m m s (Nat.le_refl m)] at h
  exact h
/-- after the numbers below m: how many the set has of them, and the place of that part -/
structure Sits (w : Int) (m : Nat) (place chosen : Int) : Prop where
  isChosen : chosen = ((Sv52.many m w.toNat : Nat) : Int)
  isPlace : place = ((Sx49.setPlace m (Sv52.many m w.toNat) (w.toNat % 2 ^ m) : Nat) : Int)
theorem sits_start0 (w : Int) : Sits w 0 0 0 := ⟨rfl, by rw [setPlace_none]; rfl⟩
theorem sits_out {w place chosen : Int} {m : Nat} (S : Sits w m place chosen) (b : w.toNat.testBit m = false) : Sits w (m + 1) place chosen := by
  have e : Sv52.many (m + 1) w.toNat = Sv52.many m w.toNat := by rw [many_succ, b]; rfl
  refine ⟨by rw [e]; exact S.isChosen, ?_⟩
  rw [e, mod_out b, S.isPlace]
  cases hk : Sv52.many m w.toNat with
  | zero => rw [setPlace_zero, setPlace_zero]
  | succ k =>
    rw [setPlace_out]
    rw [Nat.testBit_mod_two_pow, decide_eq_false (by omega : ¬ m < m), Bool.false_and]
theorem sits_in {w place chosen : Int} {m : Nat} (S : Sits w m place chosen) (b : w.toNat.testBit m = true) : Sits w (m + 1) (((ch (m + 1) (chosen + 1).toNat : Nat) : Int) - 1 - place) (chosen + 1) := by
  have e : Sv52.many (m + 1) w.toNat = Sv52.many m w.toNat + 1 := by rw [many_succ, b]; rfl
  have ec := S.isChosen
  have r := place_room m w.toNat
  have t : (chosen + 1).toNat = Sv52.many m w.toNat + 1 := by omega
  refine ⟨by rw [e]; omega, ?_⟩
  have tb : (w.toNat % 2 ^ (m + 1)).testBit m = true := by
    rw [Nat.testBit_mod_two_pow, b, decide_eq_true (by omega : m < m + 1)]; rfl
  rw [t, e, setPlace_in tb, mod_in b, Nat.add_sub_cancel_left, ch_succ, S.isPlace]
  omega
theorem sits_le {w place chosen : Int} {m : Nat} (S : Sits w m place chosen) : 0 ≤ chosen ∧ chosen ≤ (m : Int) := by
  have := many_le m w.toNat
  have e := S.isChosen
  omega
theorem sits_end {w place chosen : Int} {m : Nat} (S : Sits w m place chosen) (h : w.toNat < 2 ^ m) : ((Sx49.setPlace m (Sv52.many m w.toNat) w.toNat : Nat) : Int) = place := by
  have e := S.isPlace
  rw [Nat.mod_eq_of_lt h] at e
  exact e.symm
/-- the length of a row of sets on the way -/
structure Row (n : Int) (m : Nat) (p : Int) : Prop where
  eq : p = ((ch n.toNat m : Nat) : Int)
structure MulIs (x y q : Int) : Prop where
  eq : q = x * y
structure DivIs (x y q : Int) : Prop where
  eq : q = x.fdiv y
theorem row_start0 (n : Int) : Row n 0 1 := ⟨by rw [ch_zero]; rfl⟩
theorem row_step {n p q r : Int} {m : Nat} (R : Row n m p) (hm : (m : Int) < n) (M : MulIs p (n - (m : Int)) q) (D : DivIs q ((m : Int) + 1) r) : Row n (m + 1) r := by
  refine ⟨?_⟩
  obtain ⟨N, rfl⟩ := Int.eq_ofNat_of_zero_le (show 0 ≤ n by omega)
  have a := ch_absorb N m
  have e : ch N m * (N - m) = ch N (m + 1) * (m + 1) := by rw [Nat.mul_sub]; omega
  have s : ((N : Int) - (m : Int)) = ((N - m : Nat) : Int) := by omega
  have s1 : ((m : Int) + 1) = ((m + 1 : Nat) : Int) := by omega
  have t : ((N : Int)).toNat = N := rfl
  rw [D.eq, M.eq, R.eq, s, s1, t, ← Int.natCast_mul, e, Int.fdiv_eq_ediv_of_nonneg _ (by omega)]
  rw [← Int.natCast_ediv, Nat.mul_div_cancel _ (Nat.succ_pos m)]
theorem row_pos {n p : Int} {m : Nat} (R : Row n m p) (h : m ≤ n.toNat) : 1 ≤ p := by
  have := ch_pos n.toNat m h
  have e := R.eq
  omega
theorem row_start {n : Int} : (1 : Int) ≤ 1 ∧ Row n ([] : List Int).length 1 := ⟨Int.le_refl _, row_start0 n⟩
theorem row_turn {n p q r v y z : Int} {pre : List Int} (R : Row n pre.length p) (M : MulIs p y q) (D : DivIs q z r) (hm : (pre.length : Int) < n) (hy : y = n - (pre.length : Int)) (hz : z = (pre.length : Int) + 1) : (1 : Int) ≤ r ∧ Row n (pre ++ [v]).length r := by
  subst hy hz
  have t := row_step R hm M D
  have hl : (pre ++ [v]).length = pre.length + 1 := by simp
  rw [hl]
  exact ⟨row_pos t (by omega), t⟩
theorem row_size {n k p : Int} (R : Row n (rangeKs 0 (k - 0).toNat).length p) : Row n k.toNat p := by
  rw [rangeKs_length, Int.sub_zero] at R
  exact R
theorem sits_start {w : Int} : (0 : Int) ≤ 0 ∧ (0 : Int) ≤ (([] : List Int).length : Int) ∧ Sits w ([] : List Int).length 0 0 := ⟨Int.le_refl _, Int.le_refl _, sits_start0 w⟩
theorem sits_stay {w place chosen q k z b v : Int} {pre : List Int} (S : Sits w pre.length place chosen) (H : ShrIs w k q) (e : q = 2 * z + b) (h0 : 0 ≤ w) (hb0 : 0 ≤ b) (hb1 : b < 2) (hk : k = (pre.length : Int)) (hb : ¬ b = 1) :
    0 ≤ chosen ∧ chosen ≤ ((pre ++ [v]).length : Int) ∧ Sits w (pre ++ [v]).length place chosen := by
  have hl : (pre ++ [v]).length = pre.length + 1 := by simp
  have t := sits_out S (by rw [shr_bit H h0 hk e hb0 hb1]; exact decide_eq_false hb)
  rw [hl]
  exact ⟨(sits_le t).1, (sits_le t).2, t⟩
theorem sits_take {w place chosen q k z b v nn c L r : Int} {pre : List Int} (S : Sits w pre.length place chosen) (H : ShrIs w k q) (e : q = 2 * z + b) (R : Row nn (rangeKs 0 (c - 0).toNat).length L) (hr : r = L - 1 - place) (h0 : 0 ≤ w) (hb0 : 0 ≤ b) (hb1 : b < 2) (hk : k = (pre.length : Int)) (hb : b = 1) (hn : nn = (pre.length : Int) + 1) (hc : c = chosen + 1) :
    0 ≤ c ∧ c ≤ ((pre ++ [v]).length : Int) ∧ Sits w (pre ++ [v]).length r c := by
  have hl : (pre ++ [v]).length = pre.length + 1 := by simp
  have t := sits_in S (by rw [shr_bit H h0 hk e hb0 hb1]; exact decide_eq_true hb)
  have er := (row_size R).eq
  have en : nn.toNat = pre.length + 1 := by omega
  rw [en] at er
  subst hc hr
  rw [← er] at t
  rw [hl]
  exact ⟨(sits_le t).1, (sits_le t).2, t⟩
theorem w_two {a b c d x y : Int} {u : Codec.denoteAll []} (h : Codec.withinAll [.int a b, .int c d] (x, y, u) = true) : (a ≤ x ∧ x ≤ b) ∧ c ≤ y ∧ y ≤ d := by
  have h' : ((decide (a ≤ x) && decide (x ≤ b)) && ((decide (c ≤ y) && decide (y ≤ d)) && true)) = true := h
  simpa using h'
theorem said : PySem.Challenge.rw_singlechange_s07_gr_set_place.wellSaid = true := by decide +kernel
theorem pre_i {n i : Int} (h : PySem.Challenge.rw_singlechange_s07_gr_set_place.pre [.int n, .int i] = true) : 0 ≤ i := by
  obtain ⟨a, w, q, e⟩ := os_pre said h
  obtain ⟨n', i', u⟩ := a
  have e2 := os_j_int (List.cons.inj (List.cons.inj e).2).1
  have b : (0 : Int) ≤ i' := (w_two (x := n') (y := i') (u := u) w).2.1
  rw [e2]; exact b
theorem yes_of {n w q place chosen : Int} (S : Sits w (rangeKs 0 (n - 0).toNat).length place chosen) (H : ShrIs w n q) (h0 : 0 ≤ w) (h1 : 1 ≤ n) (h2 : n ≤ 63) (h : ¬ 0 < q) : PySx49.gr_set_place n w = [0, place] := by
  rw [rangeKs_length, Int.sub_zero] at S
  have l := shr_yes H h0 h
  rw [setPlace_yes h1 h2 l, sits_end S l]
open PySem.Calls PyProof.Rows
section
variable {prog : Program} {w : World} {A : Around} {E : Value → Shared → Prop} {s : Shared} {x y : Int} {t u : Tok} {Q : Value → Shared → Prop}
theorem step_mul (lo : -100 ≤ y) (hi : y ≤ 100) (h : ∀ q, MulIs x y q → Q (.int q s.toks) { s with toks := s.toks + 1 }) :
    wpAny (model prog w) A (binaryOp .Mult (.int x t) (.int y u)) Q E s :=
  PyProof.Rows.mul_int (h _ ⟨rfl⟩) (PySem.IntMulOk.of_right (PySem.intBits_le_64 (by omega) (by omega)))
theorem step_div (lo : 1 ≤ y) (hi : y ≤ 100) (h : ∀ q, DivIs x y q → Q (.int q s.toks) { s with toks := s.toks + 1 }) :
    wpAny (model prog w) A (binaryOp .FloorDiv (.int x t) (.int y u)) Q E s :=
  PyProof.Rows.floordiv_int (by omega) (h _ ⟨rfl⟩) (Or.inl (PyProof.noPylong_small (by omega)))
theorem step_shr (lo : 0 ≤ y) (h : ∀ q, ShrIs x y q → Q (.int q s.toks) { s with toks := s.toks + 1 }) :
    wpAny (model prog w) A (binaryOp .RShift (.int x t) (.int y u)) Q E s :=
  PyProof.Rows.rshift_int lo (h _ ⟨rfl⟩)
theorem step_odd (h : ∀ z b, x = 2 * z + b → 0 ≤ b → b < 2 → Q (.int b s.toks) { s with toks := s.toks + 1 }) :
    wpAny (model prog w) A (binaryOp .Mod (.int x t) (.int 2 u)) Q E s := by
  refine PyProof.Rows.mod_int (by decide) ?_
  rw [Int.fmod_eq_emod_of_nonneg x (by decide)]
  exact h (x / 2) (x % 2) (by omega) (by omega) (by omega)
end
end My
open PyProof.Rows
local macro_rules | `(tactic| walk_at "binaryOp Mult int int") => `(tactic| (k_here; (with_reducible refine' My.step_mul ?k1 ?k2 ?_); (case k1 => k_dflt omega); (case k2 => k_dflt omega); intro q' hM'))
local macro_rules | `(tactic| walk_at "binaryOp FloorDiv int int") => `(tactic| (k_here; (with_reducible refine' My.step_div ?k1 ?k2 ?_); (case k1 => k_dflt omega); (case k2 => k_dflt omega); intro q' hD'))
local macro_rules | `(tactic| walk_at "binaryOp RShift int int") => `(tactic| (k_here; (with_reducible refine' My.step_shr ?k1 ?_); (case k1 => k_dflt omega); intro q' hR'))
local macro_rules | `(tactic| walk_at "binaryOp Mod int int") => `(tactic| (k_here; (with_reducible show wpAny _ _ (binaryOp Operator.Mod (Value.int _ _) (Value.int 2 _)) _ _ _); k_dflt (refine My.step_odd ?_); intro z' b' e' hb0' hb1'))
local macro_rules | `(tactic| walk_at "pyIter ref") => `(tactic| k_extra "pyIter ref")
set_option maxRecDepth 100000 in
set_option maxHeartbeats 8000000 in
theorem PySem.Challenge.cw_singlechange_s07_gr_set_place_holds : PySem.Challenge.rw_singlechange_s07_gr_set_place.Holds := by
  k_with "state" => first
    | exact My.row_start
    | exact My.row_turn (by assumption) (by assumption) (by assumption) (by omega) (by omega) (by omega)
    | exact My.sits_start
    | exact My.sits_stay (by assumption) (by assumption) (by assumption) (My.pre_i (by assumption)) (by omega) (by omega) (by omega) (by omega)
    | exact My.sits_take (by assumption) (by assumption) (by assumption) (by assumption) rfl (My.pre_i (by assumption)) (by omega) (by omega) (by omega) (by omega) (by omega) (by omega)
  k_with "pyIter ref" => k_state_given ["n"] (fun n pre p => (1 : Int) ≤ p ∧ My.Row n pre.length p) "length"
  k_with "pyIter ref" => k_state_given ["mask"] (fun mask pre place chosen => 0 ≤ chosen ∧ chosen ≤ (pre.length : Int) ∧ My.Sits mask pre.length place chosen) "place" "chosen"
  open_ks with [.int 1, .int 0]
  all_goals (os_open My.said with a w q e)
  all_goals (obtain ⟨n, i, u⟩ := a)
  all_goals (have e1 : n = _ := (os_j_int (List.cons.inj e).1).symm)
  all_goals (have e2 : i = _ := (os_j_int (List.cons.inj (List.cons.inj e).2).1).symm)
  all_goals (have b : (0 : Int) ≤ i := (My.w_two (x := n) (y := i) (u := u) w).2.1)
  all_goals (subst e1 e2)
  all_goals (show _ = WData.list ((PySx49.gr_set_place n i).map WData.int))
  all_goals (refine os_list ?_)
  · rw [My.setPlace_bad (Or.inl (by omega))]; rfl
  · rw [My.setPlace_bad (Or.inr (by omega))]; rfl
  · rw [My.setPlace_no (by omega) (by omega) (My.shr_no (by assumption) (by omega) (by assumption))]; rfl
  · rw [My.yes_of (by assumption) (by assumption) (by omega) (by omega) (by omega) (by omega)]; rfl
#print axioms PySem.Challenge.cw_singlechange_s07_gr_set_place_holds

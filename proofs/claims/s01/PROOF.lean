import PyProof.Rows.All
import KE.OsGo
import KE.OsArgs
import PySem.Challenge.RW_singlechange_s01_gr_word
open PySem PySem.W
set_option Elab.async false
namespace My
theorem xor_and (a : Nat) : ∀ b : Nat, (a ^^^ b) + 2 * (a &&& b) = a + b := by
  induction a using Nat.strongRecOn with
  | ind a ih =>
    intro b
    by_cases h0 : a = 0
    · subst h0; simp
    · have h := ih (a / 2) (by omega) (b / 2)
      have e1 : (a ^^^ b) / 2 = a / 2 ^^^ b / 2 := Nat.xor_div_two
      have e2 : (a &&& b) / 2 = a / 2 &&& b / 2 := Nat.and_div_two
      have e3 : (a ^^^ b) % 2 = (a % 2) ^^^ (b % 2) := Nat.xor_mod_two_pow (n := 1)
      have e4 : (a &&& b) % 2 = (a % 2) &&& (b % 2) := Nat.and_mod_two_pow (n := 1)
      rw [← e1, ← e2] at h
      generalize (a ^^^ b) = p at *
      generalize (a &&& b) = q at *
      rcases Nat.mod_two_eq_zero_or_one a with x | x <;> rcases Nat.mod_two_eq_zero_or_one b with y | y <;> rw [x, y] at e3 e4 <;> simp at e3 e4 <;> omega
theorem word_bad {n i : Int} (h : n < 1 ∨ 63 < n) : PySx49.gr_word n i = [-2] := by
  have e : Sv52.wordOk n = false := by
    unfold Sv52.wordOk Sv52.within
    rcases h with h | h
    · rw [decide_eq_false (by omega)]; rfl
    · rw [decide_eq_false (p := n ≤ 63) (by omega)]; exact Bool.and_false _
  show ((Sx49.does (.word n i.toNat)).v :: (Sx49.does (.word n i.toNat)).l.map fun (y : Nat) => (y : Int)) = [-2]
  have d : Sx49.does (.word n i.toNat) = Sv52.ok (-2) := if_pos e
  rw [d]; rfl
theorem word_ok {n : Int} (h1 : 1 ≤ n) (h2 : n ≤ 63) : Sv52.wordOk n = true := by
  unfold Sv52.wordOk Sv52.within
  rw [decide_eq_true h1, decide_eq_true h2]; rfl
theorem word_in {n i : Int} (h1 : 1 ≤ n) (h2 : n ≤ 63) : Sx49.does (.word n i.toNat) = Sx49.told (decide (i.toNat < 2 ^ n.toNat)) [i.toNat ^^^ (i.toNat / 2)] :=
  if_neg (by rw [word_ok h1 h2]; decide)
theorem fdiv_pow {i : Int} {m : Nat} (h : 0 ≤ i) : i.fdiv (2 ^ m) = ((i.toNat / 2 ^ m : Nat) : Int) := by
  have e : (2 : Int) ^ m = ((2 ^ m : Nat) : Int) := by rw [Int.natCast_pow]; rfl
  rw [e, Int.fdiv_eq_ediv_of_nonneg i (Int.natCast_nonneg _)]
  conv => lhs; rw [← Int.toNat_of_nonneg h]
  rfl
theorem word_no {n i : Int} (h1 : 1 ≤ n) (h2 : n ≤ 63) (h0 : 0 ≤ i) (h : 0 < i.fdiv (2 ^ n.toNat)) : PySx49.gr_word n i = [-3] := by
  show ((Sx49.does (.word n i.toNat)).v :: (Sx49.does (.word n i.toNat)).l.map fun (y : Nat) => (y : Int)) = [-3]
  rw [fdiv_pow h0] at h
  have g : ¬ i.toNat < 2 ^ n.toNat := fun l => by
    rw [Nat.div_eq_of_lt l] at h
    omega
  rw [word_in h1 h2, decide_eq_false g]; rfl
theorem word_yes {n i : Int} (h1 : 1 ≤ n) (h2 : n ≤ 63) (h0 : 0 ≤ i) (h : ¬ 0 < i.fdiv (2 ^ n.toNat)) : PySx49.gr_word n i = [0, ((i.toNat ^^^ (i.toNat / 2) : Nat) : Int)] := by
  show ((Sx49.does (.word n i.toNat)).v :: (Sx49.does (.word n i.toNat)).l.map fun (y : Nat) => (y : Int)) = _
  rw [fdiv_pow h0] at h
  have g : i.toNat < 2 ^ n.toNat := by
    have p : 0 < 2 ^ n.toNat := Nat.two_pow_pos _
    have z : i.toNat / 2 ^ n.toNat = 0 := by
      generalize i.toNat / 2 ^ n.toNat = d at h
      omega
    rcases Nat.div_eq_zero_iff.mp z with e | e
    · omega
    · exact e
  rw [word_in h1 h2, decide_eq_true g]; rfl
theorem xor_half {i : Int} (h : 0 ≤ i) : Builtin.bitXor i (i.fdiv 2) = ((i.toNat ^^^ (i.toNat / 2) : Nat) : Int) := by
  have e : i.fdiv 2 = ((i.toNat / 2 : Nat) : Int) := by
    have f := fdiv_pow (m := 1) h
    exact f
  have x := xor_and i.toNat (i.toNat / 2)
  rw [PyProof.Rows.bitXor_and, e, PyProof.Rows.bitAnd_pp h (Int.natCast_nonneg _), Int.toNat_natCast]
  omega
theorem w_two {a b c d x y : Int} {u : Codec.denoteAll []} (h : Codec.withinAll [.int a b, .int c d] (x, y, u) = true) : (a ≤ x ∧ x ≤ b) ∧ c ≤ y ∧ y ≤ d := by
  have h' : ((decide (a ≤ x) && decide (x ≤ b)) && ((decide (c ≤ y) && decide (y ≤ d)) && true)) = true := h
  simpa using h'
theorem said : PySem.Challenge.rw_singlechange_s01_gr_word.wellSaid = true := by decide +kernel
end My
set_option maxRecDepth 100000 in
set_option maxHeartbeats 8000000 in
theorem PySem.Challenge.cw_singlechange_s01_gr_word_holds : PySem.Challenge.rw_singlechange_s01_gr_word.Holds := by
  open_ks with [.int 1, .int 0]
  all_goals (os_open My.said with a w q e)
  all_goals (obtain ⟨n, i, u⟩ := a)
  all_goals (have e1 := (os_j_int (List.cons.inj e).1).symm)
  all_goals (have e2 := (os_j_int (List.cons.inj (List.cons.inj e).2).1).symm)
  all_goals (have b : (0 : Int) ≤ i := (My.w_two (x := n) (y := i) (u := u) w).2.1)
  all_goals (subst e1 e2)
  all_goals (show _ = WData.list ((PySx49.gr_word n i).map WData.int))
  all_goals (refine os_list ?_)
  · rw [My.word_bad (Or.inl (by omega))]; rfl
  · rw [My.word_bad (Or.inr (by omega))]; rfl
  · rw [My.word_no (by omega) (by omega) (by omega) (by assumption)]; rfl
  · rw [My.word_yes (by omega) (by omega) (by omega) (by assumption), ← My.xor_half (by omega)]; rfl
#print axioms PySem.Challenge.cw_singlechange_s01_gr_word_holds

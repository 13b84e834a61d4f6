import PyProof.Rows.All
import KE.OsGo
import KE.OsArgs
import PySem.Challenge.RW_singlechange_s02_gr_digits
open PySem PySem.W
set_option Elab.async false
namespace My
abbrev up (l : List Nat) : List Int := l.map fun (y : Nat) => (y : Int)
theorem digits_bad {k n i : Int} (h : k < 2 ∨ 16 < k ∨ n < 1 ∨ 15 < n) : PySx49.gr_digits k n i = [-2] := by
  have e : Sv52.digitsOk k n = false := by
    unfold Sv52.digitsOk Sv52.within
    rw [Bool.and_eq_false_iff, Bool.and_eq_false_iff, Bool.and_eq_false_iff]
    rcases h with h | h | h | h
    · exact Or.inl (Or.inl (decide_eq_false (by omega)))
    · exact Or.inl (Or.inr (decide_eq_false (by omega)))
    · exact Or.inr (Or.inl (decide_eq_false (by omega)))
    · exact Or.inr (Or.inr (decide_eq_false (by omega)))
  show ((Sx49.does (.digits k n i.toNat)).v :: (Sx49.does (.digits k n i.toNat)).l.map fun (y : Nat) => (y : Int)) = [-2]
  have d : Sx49.does (.digits k n i.toNat) = Sv52.ok (-2) := if_pos e
  rw [d]; rfl
theorem digits_in {k n : Int} (i : Int) (h1 : 2 ≤ k) (h2 : k ≤ 16) (h3 : 1 ≤ n) (h4 : n ≤ 15) : Sx49.does (.digits k n i.toNat) = Sx49.told (decide (i.toNat < k.toNat ^ n.toNat)) (Sx49.digitsAt k.toNat n.toNat i.toNat) := by
  have e : Sv52.digitsOk k n = true := by
    unfold Sv52.digitsOk Sv52.within
    rw [decide_eq_true h1, decide_eq_true h2, decide_eq_true h3, decide_eq_true h4]; rfl
  exact if_neg (by rw [e]; decide)
/-- the size of the row -/
structure Pow (k : Int) (m : Nat) (p : Int) : Prop where
  eq : p = ((k.toNat ^ m : Nat) : Int)
theorem digits_no {k n i p : Int} (P : Pow k n.toNat p) (h1 : 2 ≤ k) (h2 : k ≤ 16) (h3 : 1 ≤ n) (h4 : n ≤ 15) (h : p ≤ i) : PySx49.gr_digits k n i = [-3] := by
  show ((Sx49.does (.digits k n i.toNat)).v :: (Sx49.does (.digits k n i.toNat)).l.map fun (y : Nat) => (y : Int)) = [-3]
  have e := P.eq
  have g : ¬ i.toNat < k.toNat ^ n.toNat := by omega
  rw [digits_in i h1 h2 h3 h4, decide_eq_false g]; rfl
theorem digits_yes {k n i p : Int} (P : Pow k n.toNat p) (h1 : 2 ≤ k) (h2 : k ≤ 16) (h3 : 1 ≤ n) (h4 : n ≤ 15) (h0 : 0 ≤ i) (h : i < p) : PySx49.gr_digits k n i = 0 :: up (Sx49.digitsAt k.toNat n.toNat i.toNat) := by
  show ((Sx49.does (.digits k n i.toNat)).v :: (Sx49.does (.digits k n i.toNat)).l.map fun (y : Nat) => (y : Int)) = _
  have e := P.eq
  have g : i.toNat < k.toNat ^ n.toNat := by omega
  rw [digits_in i h1 h2 h3 h4, decide_eq_true g]; rfl
theorem pow_start (k : Int) : Pow k ([] : List Int).length 1 := ⟨rfl⟩
theorem pow_turn {k p v : Int} {pre : List Int} (P : Pow k pre.length p) (h : 0 ≤ k) : Pow k (pre ++ [v]).length (p * k) := by
  refine ⟨?_⟩
  rw [P.eq, List.length_append, List.length_singleton, Nat.pow_succ, Int.natCast_mul, Int.toNat_of_nonneg h]
theorem pow_pos {k p : Int} {m : Nat} (P : Pow k m p) (h : 1 ≤ k) : 0 < p := by
  have e := P.eq
  have : 0 < k.toNat ^ m := Nat.pow_pos (by omega)
  omega
theorem pow_small {k p : Int} {m : Nat} (P : Pow k m p) (h : k ≤ 16) (hm : m ≤ 15) : p ≤ 1152921504606846976 := by
  have e := P.eq
  have a : k.toNat ^ m ≤ 16 ^ m := Nat.pow_le_pow_left (by omega) m
  have b : 16 ^ m ≤ 16 ^ 15 := Nat.pow_le_pow_right (by decide) hm
  have c : (16 : Nat) ^ 15 = 1152921504606846976 := by decide
  omega
/-- the loop over the digits: what is told, and what the specification goes on with -/
structure Told (k n i : Int) (m : Nat) (digits : List Int) (part place : Int) : Prop where
  hm : m ≤ n.toNat
  hp : Pow k (n.toNat - m) part
  hd : digits ++ up (Sx49.digitsAt k.toNat (n.toNat - m) place.toNat) = up (Sx49.digitsAt k.toNat n.toNat i.toNat)
theorem told_start {k n i p : Int} (P : Pow k n.toNat p) : Told k n i ([] : List Int).length [] p i := ⟨Nat.zero_le _, P, rfl⟩
structure Half (k n : Int) (m : Nat) (q : Int) : Prop where
  lt : m < n.toNat
  hp : Pow k (n.toNat - (m + 1)) q
theorem half {k n i part place : Int} {m : Nat} {digits : List Int} (T : Told k n i m digits part place) (h : m < n.toNat) (h2 : 2 ≤ k) : Half k n m (part.fdiv k) := by
  refine ⟨h, ⟨?_⟩⟩
  have e : n.toNat - m = (n.toNat - (m + 1)) + 1 := by omega
  have ek : k = ((k.toNat : Nat) : Int) := (Int.toNat_of_nonneg (by omega)).symm
  rw [Int.fdiv_eq_ediv_of_nonneg part (by omega), T.hp.eq, e, Nat.pow_succ, Int.natCast_mul]
  rw [← ek]
  exact Int.mul_ediv_cancel _ (by omega)
structure DivIs (x y q : Int) : Prop where
  eq : q = x.fdiv y
structure ModIs (x y q : Int) : Prop where
  eq : q = x.fmod y
theorem toNat_fdiv {x y : Int} (hx : 0 ≤ x) (hy : 0 ≤ y) : (x.fdiv y).toNat = x.toNat / y.toNat := by
  rw [Int.fdiv_eq_ediv_of_nonneg x hy]
  obtain ⟨a, rfl⟩ := Int.eq_ofNat_of_zero_le hx
  obtain ⟨b, rfl⟩ := Int.eq_ofNat_of_zero_le hy
  rfl
theorem toNat_fmod {x y : Int} (hx : 0 ≤ x) (hy : 0 ≤ y) : (x.fmod y).toNat = x.toNat % y.toNat := by
  rw [Int.fmod_eq_emod_of_nonneg x hy]
  obtain ⟨a, rfl⟩ := Int.eq_ofNat_of_zero_le hx
  obtain ⟨b, rfl⟩ := Int.eq_ofNat_of_zero_le hy
  rfl
theorem turn_told {k n i part place q d r r' v : Int} {pre digits : List Int} (T : Told k n i pre.length digits part place) (H : Half k n pre.length q) (D : DivIs place q d) (M : ModIs place q r)
    (h2 : 2 ≤ k) (h0 : 0 ≤ place) (hr0 : 0 ≤ r) (hr : r < q) (hd0 : 0 ≤ d)
    (h : (d % 2 = 1 ∧ r' = q - 1 - r) ∨ (¬ d % 2 = 1 ∧ r' = r)) : Told k n i (pre ++ [v]).length (digits ++ [d]) q r' := by
  have hl : (pre ++ [v]).length = pre.length + 1 := by simp
  have lt := H.lt
  rw [hl]
  refine ⟨by omega, H.hp, ?_⟩
  have e : n.toNat - pre.length = (n.toNat - (pre.length + 1)) + 1 := by omega
  have t := T.hd
  rw [e] at t
  rw [← t, List.append_assoc]
  refine congrArg (digits ++ ·) ?_
  have eq := H.hp.eq
  have qn : q.toNat = k.toNat ^ (n.toNat - (pre.length + 1)) := by omega
  have dn : d.toNat = place.toNat / q.toNat := by rw [D.eq]; exact toNat_fdiv h0 (by omega)
  have rn : r.toNat = place.toNat % q.toNat := by rw [M.eq]; exact toNat_fmod h0 (by omega)
  generalize n.toNat - (pre.length + 1) = m at *
  show [d] ++ up (Sx49.digitsAt k.toNat m r'.toNat) = up (place.toNat / k.toNat ^ m :: Sx49.digitsAt k.toNat m (if (place.toNat / k.toNat ^ m) % 2 = 1 then k.toNat ^ m - 1 - place.toNat % k.toNat ^ m else place.toNat % k.toNat ^ m))
  rw [← qn, ← dn, ← rn]
  have ed : ((d.toNat : Nat) : Int) = d := Int.toNat_of_nonneg hd0
  show d :: up (Sx49.digitsAt k.toNat m r'.toNat) = ((d.toNat : Nat) : Int) :: up (Sx49.digitsAt k.toNat m _)
  rw [ed]
  refine congrArg (fun z => d :: up (Sx49.digitsAt k.toNat m z)) ?_
  rcases h with ⟨a, b⟩ | ⟨a, b⟩
  · rw [if_pos (by omega)]; omega
  · rw [if_neg (by omega)]; omega
theorem told_end {k n i part place : Int} {m : Nat} {digits : List Int} (T : Told k n i m digits part place) (h : m = n.toNat) : digits = up (Sx49.digitsAt k.toNat n.toNat i.toNat) := by
  have t := T.hd
  rw [h, Nat.sub_self] at t
  rw [← t]
  exact (List.append_nil _).symm
theorem w_three {a b c d e f x y z : Int} {u : Codec.denoteAll []} (h : Codec.withinAll [.int a b, .int c d, .int e f] (x, y, z, u) = true) : (a ≤ x ∧ x ≤ b) ∧ (c ≤ y ∧ y ≤ d) ∧ e ≤ z ∧ z ≤ f := by
  have h' : ((decide (a ≤ x) && decide (x ≤ b)) && ((decide (c ≤ y) && decide (y ≤ d)) && ((decide (e ≤ z) && decide (z ≤ f)) && true))) = true := h
  simpa using h'
theorem said : PySem.Challenge.rw_singlechange_s02_gr_digits.wellSaid = true := by decide +kernel
theorem pre_i {k n i : Int} (h : PySem.Challenge.rw_singlechange_s02_gr_digits.pre [.int k, .int n, .int i] = true) : 0 ≤ i := by
  obtain ⟨a, w, q, e⟩ := os_pre said h
  obtain ⟨k', n', i', u⟩ := a
  have e3 := os_j_int (List.cons.inj (List.cons.inj (List.cons.inj e).2).2).1
  have b : (0 : Int) ≤ i' := (w_three (x := k') (y := n') (z := i') (u := u) w).2.2.1
  rw [e3]; exact b
theorem row_start {k : Int} : (1 : Int) ≤ 1 ∧ Pow k ([] : List Int).length 1 := ⟨Int.le_refl _, pow_start k⟩
theorem row_turn {k p v : Int} {pre : List Int} (P : Pow k pre.length p) (h : 2 ≤ k) : (1 : Int) ≤ p * k ∧ Pow k (pre ++ [v]).length (p * k) := by
  have t := pow_turn (v := v) P (by omega)
  have := pow_pos t (by omega)
  exact ⟨by omega, t⟩
theorem row_size {k n p : Int} (P : Pow k (rangeKs 0 (n - 0).toNat).length p) : Pow k n.toNat p := by
  rw [rangeKs_length, Int.sub_zero] at P
  exact P
theorem at_start {k n i p : Int} (P : Pow k (rangeKs 0 (n - 0).toNat).length p) (h1 : 1 ≤ p) (h0 : 0 ≤ i) (h : i < p) :
    (([] : List Int).length = ([] : List Int).length ∧ ([] : List Int).length ≤ 15 ∧ 1 ≤ p ∧ 0 ≤ i ∧ i < p ∧ Told k n i ([] : List Int).length [] p i) := ⟨rfl, by simp, h1, h0, h, told_start (row_size P)⟩
theorem at_turn {k n i part place q d r r' v : Int} {pre digits : List Int} (T : Told k n i pre.length digits part place) (H : Half k n pre.length q) (D : DivIs place q d) (M : ModIs place q r)
    (hl : digits.length = pre.length) (h2 : 2 ≤ k) (hn : n ≤ 15) (h0 : 0 ≤ place) (hr0 : 0 ≤ r) (hr : r < q) (hd0 : 0 ≤ d)
    (h : (d % 2 = 1 ∧ r' = q - 1 - r) ∨ (¬ d % 2 = 1 ∧ r' = r)) :
    ((digits ++ [d]).length = (pre ++ [v]).length ∧ (digits ++ [d]).length ≤ 15 ∧ 1 ≤ q ∧ 0 ≤ r' ∧ r' < q ∧ Told k n i (pre ++ [v]).length (digits ++ [d]) q r') := by
  have lt := H.lt
  have t := turn_told (v := v) T H D M h2 h0 hr0 hr hd0 h
  refine ⟨?_, ?_, by omega, by omega, by omega, t⟩
  · simp [hl]
  · simp only [List.length_append, List.length_singleton]; omega
theorem at_end {k n i part place : Int} {digits : List Int} (T : Told k n i (rangeKs 0 (n - 0).toNat).length digits part place) : digits = up (Sx49.digitsAt k.toNat n.toNat i.toNat) := told_end T (by rw [rangeKs_length]; omega)
open PySem.Calls PyProof.Rows
section
variable {prog : Program} {w : World} {A : Around} {E : Value → Shared → Prop} {s : Shared} {x y : Int} {t u : Tok} {Q : Value → Shared → Prop}
theorem log_small {y : Int} (h0 : 0 < y) (h1 : y ≤ 1152921504606846976) : y.natAbs.log2 < 9000 := by
  have : y.natAbs.log2 < 64 := (Nat.log2_lt (by omega)).mpr (by omega)
  omega
theorem sz_ints {vs : List Value} {ns : List Int} (h : IntsAre vs ns) (hn : ns.length ≤ 100) : vs.toArray.size ≤ sizeLine := by
  rw [List.size_toArray, IntsAre.length h, PySem.sizeLine_eq]; omega
theorem step_half {n i place : Int} {m : Nat} {digits : List Int} (T : Told y n i m digits x place) (hm : m < n.toNat) (h2 : 2 ≤ y)
    (h : ∀ q, Half y n m q → 1 ≤ q → Q (.int q s.toks) { s with toks := s.toks + 1 }) (h3 : y ≤ 16) :
    wpAny (model prog w) A (binaryOp .FloorDiv (.int x t) (.int y u)) Q E s := by
  have H := half T hm h2
  have p := pow_pos H.hp (by omega)
  exact PyProof.Rows.floordiv_int (by omega) (h _ H (by omega)) (Or.inl (PyProof.noPylong_small (by omega)))
theorem step_div {k n : Int} {m : Nat} (H : Half k n m y) (hk : k ≤ 16) (hn : n ≤ 15) (h1 : 1 ≤ y) (hx : 0 ≤ x)
    (h : ∀ d, DivIs x y d → 0 ≤ d → Q (.int d s.toks) { s with toks := s.toks + 1 }) :
    wpAny (model prog w) A (binaryOp .FloorDiv (.int x t) (.int y u)) Q E s := by
  have b := pow_small H.hp hk (by omega)
  exact PyProof.Rows.floordiv_int (by omega) (h _ ⟨rfl⟩ (by rw [Int.fdiv_eq_ediv_of_nonneg x (by omega)]; exact Int.ediv_nonneg hx (by omega))) (Or.inl (PyProof.noPylong_of_log2 (log_small (by omega) b)))
theorem step_mod {k n : Int} {m : Nat} (H : Half k n m y) (h1 : 1 ≤ y)
    (h : ∀ r, ModIs x y r → 0 ≤ r → r < y → Q (.int r s.toks) { s with toks := s.toks + 1 }) :
    wpAny (model prog w) A (binaryOp .Mod (.int x t) (.int y u)) Q E s :=
  PyProof.Rows.mod_int (by omega) (h _ ⟨rfl⟩ (Int.fmod_nonneg_of_pos x (by omega)) (Int.fmod_lt_of_pos x (by omega)))
theorem step_mul (lo : 2 ≤ y) (hi : y ≤ 16) (h : Q (.int (x * y) s.toks) { s with toks := s.toks + 1 }) :
    wpAny (model prog w) A (binaryOp .Mult (.int x t) (.int y u)) Q E s :=
  PyProof.Rows.mul_int h (PySem.IntMulOk.of_right (PySem.intBits_le_64 (by omega) (by omega)))
theorem step_odd (h : ∀ z b, x = 2 * z + b → 0 ≤ b → b < 2 → Q (.int b s.toks) { s with toks := s.toks + 1 }) :
    wpAny (model prog w) A (binaryOp .Mod (.int x t) (.int 2 u)) Q E s := by
  refine PyProof.Rows.mod_int (by decide) ?_
  rw [Int.fmod_eq_emod_of_nonneg x (by decide)]
  exact h (x / 2) (x % 2) (by omega) (by omega) (by omega)
end
end My
open PyProof.Rows
local macro_rules | `(tactic| walk_at "binaryOp Mod int int") => `(tactic| (k_here; (with_reducible show wpAny _ _ (binaryOp Operator.Mod (Value.int _ _) (Value.int 2 _)) _ _ _); k_dflt (refine My.step_odd ?_); intro z' b' e' hb0' hb1'))
local macro_rules | `(tactic| walk_at "binaryOp FloorDiv int int") => `(tactic| (k_here; (with_reducible refine' My.step_div ?k1 ?k2 ?k3 ?k4 ?k5 ?_); (case k1 => assumption); (case k2 => k_dflt omega); (case k3 => k_dflt omega); (case k4 => k_dflt omega); (case k5 => k_dflt omega); intro d' hD' hd0'))
local macro_rules | `(tactic| walk_at "binaryOp FloorDiv int int") => `(tactic| (k_here; (with_reducible refine' My.step_half ?k1 ?k2 ?k3 ?_ ?k4); (case k1 => assumption); (case k2 => k_dflt omega); (case k3 => k_dflt omega); (case k4 => k_dflt omega); intro q' hH' hq1'))
local macro_rules | `(tactic| walk_at "binaryOp Mod int int") => `(tactic| (k_here; (with_reducible refine' My.step_mod ?k1 ?k2 ?_); (case k1 => assumption); (case k2 => k_dflt omega); intro r' hM' hr0' hr1'))
local macro_rules | `(tactic| walk_at "binaryOp Mult int int") => `(tactic| (k_here; (with_reducible refine' My.step_mul ?k1 ?k2 ?_); (case k1 => k_dflt omega); (case k2 => k_dflt omega)))
local macro_rules | `(tactic| walk_at "pyIter ref") => `(tactic| k_extra "pyIter ref")
local macro_rules | `(tactic| size_fits) => `(tactic| exact My.sz_ints (by assumption) (by omega))
local macro_rules | `(tactic| kst_facts1) => `(tactic| exact IntsAre.nil)
example : Int → List Int → Int → Prop := fun k pre p => (1 : Int) ≤ p ∧ My.Pow k pre.length p
example : Int → Int → Int → List Int → List Int → Int → Int → Prop := fun k n i pre digits part place => digits.length = pre.length ∧ digits.length ≤ 15 ∧ 1 ≤ part ∧ 0 ≤ place ∧ place < part ∧ My.Told k n i pre.length digits part place
set_option maxRecDepth 100000 in
set_option maxHeartbeats 8000000 in
theorem PySem.Challenge.cw_singlechange_s02_gr_digits_holds : PySem.Challenge.rw_singlechange_s02_gr_digits.Holds := by
  k_with "state" => first
    | exact My.row_start
    | exact My.row_turn (by assumption) (by omega)
    | exact My.at_start (by assumption) (by omega) (My.pre_i (by assumption)) (by omega)
    | exact My.at_turn (by assumption) (by assumption) (by assumption) (by assumption) (by assumption) (by omega) (by omega) (by omega) (by omega) (by omega) (by omega) (by omega)
  k_with "pyIter ref" => k_state_given ["k"] (fun k pre p => (1 : Int) ≤ p ∧ My.Pow k pre.length p) "length"
  k_with "pyIter ref" => k_state_given ["k", "n", "i"] (fun k n i pre digits part place => digits.length = pre.length ∧ digits.length ≤ 15 ∧ 1 ≤ part ∧ 0 ≤ place ∧ place < part ∧ My.Told k n i pre.length digits part place) "digits" "part" "place"
  open_ks with [.int 2, .int 1, .int 0]
  all_goals (os_open My.said with a w q e)
  all_goals (obtain ⟨k, n, i, u⟩ := a)
  all_goals (have e1 : k = _ := (os_j_int (List.cons.inj e).1).symm)
  all_goals (have e2 : n = _ := (os_j_int (List.cons.inj (List.cons.inj e).2).1).symm)
  all_goals (have e3 : i = _ := (os_j_int (List.cons.inj (List.cons.inj (List.cons.inj e).2).2).1).symm)
  all_goals (have b : (0 : Int) ≤ i := (My.w_three (x := k) (y := n) (z := i) (u := u) w).2.2.1)
  all_goals (subst e1 e2 e3)
  all_goals (show _ = WData.list ((PySx49.gr_digits k n i).map WData.int))
  all_goals (refine os_list ?_)
  · rw [My.digits_bad (Or.inl (by omega))]; rfl
  · rw [My.digits_bad (Or.inr (Or.inl (by omega)))]; rfl
  · rw [My.digits_bad (Or.inr (Or.inr (Or.inl (by omega))))]; rfl
  · rw [My.digits_bad (Or.inr (Or.inr (Or.inr (by omega))))]; rfl
  · rw [My.digits_no (My.row_size (by assumption)) (by omega) (by omega) (by omega) (by omega) (by omega)]; rfl
  · rw [My.digits_yes (My.row_size (by assumption)) (by omega) (by omega) (by omega) (by omega) (by omega) (by omega), ← My.at_end (by assumption)]; rfl
#print axioms PySem.Challenge.cw_singlechange_s02_gr_digits_holds

import PyProof.Rows.All
import KE.OsGo
import KE.OsArgs
import PySem.Challenge.RW_singlechange_s05_gr_place
open PySem PySem.W
set_option Elab.async false
namespace My
theorem xor_and (a : Nat) : ∀ b : Nat, (a ^^^ b) + 2 * (a &&& b) = a + b := by
  induction a using Nat.strongRecOn with
  | ind a ih =>
    intro b
    by_cases h0 : a = 0
    · subst h0; simp
    · have h := ih (a / 2) (by omega) (b / 2)
      have e1 : (a ^^^ b) / 2 = a / 2 ^^^ b / 2 := Nat.xor_div_two
      have e2 : (a &&& b) / 2 = a / 2 &&& b / 2 := Nat.and_div_two
      have e3 : (a ^^^ b) % 2 = (a % 2) ^^^ (b % 2) := Nat.xor_mod_two_pow (n := 1)
      have e4 : (a &&& b) % 2 = (a % 2) &&& (b % 2) := Nat.and_mod_two_pow (n := 1)
      rw [← e1, ← e2] at h
      generalize (a ^^^ b) = p at *
      generalize (a &&& b) = q at *
      rcases Nat.mod_two_eq_zero_or_one a with x | x <;> rcases Nat.mod_two_eq_zero_or_one b with y | y <;> rw [x, y] at e3 e4 <;> simp at e3 e4 <;> omega
theorem fdiv_pow {i : Int} {m : Nat} (h : 0 ≤ i) : i.fdiv (2 ^ m) = ((i.toNat / 2 ^ m : Nat) : Int) := by
  have e : (2 : Int) ^ m = ((2 ^ m : Nat) : Int) := by rw [Int.natCast_pow]; rfl
  rw [e, Int.fdiv_eq_ediv_of_nonneg i (Int.natCast_nonneg _)]
  conv => lhs; rw [← Int.toNat_of_nonneg h]
  rfl
/-- the place of a word, by halves -/
def gr (w : Nat) : Nat := if h : w = 0 then 0 else w ^^^ gr (w / 2)
termination_by w
decreasing_by omega
theorem gr_zero : gr 0 = 0 := by unfold gr; rfl
theorem gr_eq (w : Nat) : gr w = w ^^^ gr (w / 2) := by
  by_cases h : w = 0
  · subst h; rw [show (0 : Nat) / 2 = 0 from rfl, gr_zero]; rfl
  · conv => lhs; unfold gr
    rw [dif_neg h]
theorem fold_xor {g : Nat → Nat} : ∀ (l : List Nat) (a : Nat), l.foldl (fun (x k : Nat) => x ^^^ g k) a = a ^^^ l.foldl (fun (x k : Nat) => x ^^^ g k) 0
  | [], a => by simp
  | k :: r, a => by
    rw [List.foldl_cons, List.foldl_cons, fold_xor r (a ^^^ g k), fold_xor r (0 ^^^ g k), Nat.zero_xor, Nat.xor_assoc]
theorem fold_map {g : Nat → Nat} {f : Nat → Nat} : ∀ (l : List Nat) (a : Nat), (l.map f).foldl (fun (x k : Nat) => x ^^^ g k) a = l.foldl (fun (x k : Nat) => x ^^^ g (f k)) a
  | [], _ => rfl
  | k :: r, a => by rw [List.map_cons, List.foldl_cons, List.foldl_cons, fold_map r]
theorem wordPlace_succ (n w : Nat) : Sx49.wordPlace (n + 1) w = w ^^^ Sx49.wordPlace n (w / 2) := by
  unfold Sx49.wordPlace
  rw [List.range_succ_eq_map, List.foldl_cons, fold_map, fold_xor (g := fun k => w / 2 ^ (k + 1 + 1)), fold_xor (g := fun k => w / 2 / 2 ^ (k + 1)) _ (w / 2)]
  rw [show (0 : Nat) + 1 = 1 from rfl, Nat.pow_one, Nat.xor_assoc]
  have e : ∀ k : Nat, w / 2 ^ (k + 1 + 1) = w / 2 / 2 ^ (k + 1) := fun k => by
    rw [Nat.div_div_eq_div_mul, Nat.pow_succ 2 (k + 1), Nat.mul_comm]
  have f : (fun (x k : Nat) => x ^^^ w / 2 ^ (k + 1 + 1)) = fun (x k : Nat) => x ^^^ w / 2 / 2 ^ (k + 1) := by
    funext x k; rw [e k]
  rw [f]
theorem wordPlace_gr : ∀ (n w : Nat), w < 2 ^ n → Sx49.wordPlace n w = gr w
  | 0, w, h => by
    have : w = 0 := by simpa using h
    subst this
    rw [gr_zero]; rfl
  | n + 1, w, h => by
    rw [wordPlace_succ, gr_eq, wordPlace_gr n (w / 2) (by rw [Nat.pow_succ] at h; omega)]
theorem place_bad {n w : Int} (h : n < 1 ∨ 63 < n) : PySx49.gr_place n w = [-2] := by
  have e : Sv52.wordOk n = false := by
    unfold Sv52.wordOk Sv52.within
    rw [Bool.and_eq_false_iff]
    rcases h with h | h
    · exact Or.inl (decide_eq_false (by omega))
    · exact Or.inr (decide_eq_false (by omega))
  show ((Sx49.does (.place n w.toNat)).v :: (Sx49.does (.place n w.toNat)).l.map fun (y : Nat) => (y : Int)) = [-2]
  have d : Sx49.does (.place n w.toNat) = Sv52.ok (-2) := if_pos e
  rw [d]; rfl
theorem place_in {n : Int} (w : Int) (h1 : 1 ≤ n) (h2 : n ≤ 63) : Sx49.does (.place n w.toNat) = Sx49.told (decide (w.toNat < 2 ^ n.toNat)) [Sx49.wordPlace n.toNat w.toNat] := by
  have e : Sv52.wordOk n = true := by
    unfold Sv52.wordOk Sv52.within
    rw [decide_eq_true h1, decide_eq_true h2]; rfl
  exact if_neg (by rw [e]; decide)
theorem place_no {n w : Int} (h1 : 1 ≤ n) (h2 : n ≤ 63) (h : ¬ w.toNat < 2 ^ n.toNat) : PySx49.gr_place n w = [-3] := by
  show ((Sx49.does (.place n w.toNat)).v :: (Sx49.does (.place n w.toNat)).l.map fun (y : Nat) => (y : Int)) = [-3]
  rw [place_in w h1 h2, decide_eq_false h]; rfl
theorem place_yes {n w : Int} (h1 : 1 ≤ n) (h2 : n ≤ 63) (h : w.toNat < 2 ^ n.toNat) : PySx49.gr_place n w = [0, ((gr w.toNat : Nat) : Int)] := by
  show ((Sx49.does (.place n w.toNat)).v :: (Sx49.does (.place n w.toNat)).l.map fun (y : Nat) => (y : Int)) = _
  rw [place_in w h1 h2, decide_eq_true h, ← wordPlace_gr _ _ h]; rfl
theorem pow_no {n w : Int} (h0 : 0 ≤ w) (h : 0 < w.fdiv (2 ^ n.toNat)) : ¬ w.toNat < 2 ^ n.toNat := fun l => by
  rw [fdiv_pow h0, Nat.div_eq_of_lt l] at h
  omega
theorem pow_yes {n w : Int} (h0 : 0 ≤ w) (h : ¬ 0 < w.fdiv (2 ^ n.toNat)) : w.toNat < 2 ^ n.toNat := by
  rw [fdiv_pow h0] at h
  have p : 0 < 2 ^ n.toNat := Nat.two_pow_pos _
  have z : w.toNat / 2 ^ n.toNat = 0 := by
    generalize w.toNat / 2 ^ n.toNat = d at h
    omega
  rcases Nat.div_eq_zero_iff.mp z with e | e
  · omega
  · exact e
structure XorIs (x y q : Int) : Prop where
  eq : q.toNat = x.toNat ^^^ y.toNat
/-- what the while keeps: the place so far, flipped by what the rest is worth, is the word's -/
structure Flips (word place rest : Int) : Prop where
  eq : gr word.toNat = place.toNat ^^^ gr rest.toNat
theorem flips_start {word : Int} (h : 0 ≤ word) : 0 ≤ (0 : Int) ∧ 0 ≤ word ∧ Flips word 0 word := ⟨Int.le_refl _, h, ⟨by rw [show (0 : Int).toNat = 0 from rfl, Nat.zero_xor]⟩⟩
theorem flips_turn {word place rest q r b : Int} (F : Flips word place rest) (X : XorIs place rest q) (hr : rest = 2 * r + b) (h0 : 0 < rest) (hb0 : 0 ≤ b) (hb : b < 2) (hq : 0 ≤ q) : 0 ≤ q ∧ 0 ≤ r ∧ Flips word q r := by
  refine ⟨hq, by omega, ⟨?_⟩⟩
  rw [F.eq, X.eq, gr_eq rest.toNat, Nat.xor_assoc]
  have e : rest.toNat / 2 = r.toNat := by omega
  rw [e]
theorem flips_less {rest r b : Int} (hr : rest = 2 * r + b) (h0 : 0 < rest) (hb0 : 0 ≤ b) (hb : b < 2) : r.toNat < rest.toNat := by omega
theorem flips_end {word place rest : Int} (F : Flips word place rest) (hp : 0 ≤ place) (h0 : 0 ≤ rest) (h : ¬ 0 < rest) : ((gr word.toNat : Nat) : Int) = place := by
  have e : rest.toNat = 0 := by omega
  have f := F.eq
  rw [e, gr_zero, Nat.xor_zero] at f
  omega
theorem xor_is {x y : Int} (hx : 0 ≤ x) (hy : 0 ≤ y) : Builtin.bitXor x y = ((x.toNat ^^^ y.toNat : Nat) : Int) := by
  have t := xor_and x.toNat y.toNat
  rw [PyProof.Rows.bitXor_and, PyProof.Rows.bitAnd_pp hx hy]
  omega
theorem w_two {a b c d x y : Int} {u : Codec.denoteAll []} (h : Codec.withinAll [.int a b, .int c d] (x, y, u) = true) : (a ≤ x ∧ x ≤ b) ∧ c ≤ y ∧ y ≤ d := by
  have h' : ((decide (a ≤ x) && decide (x ≤ b)) && ((decide (c ≤ y) && decide (y ≤ d)) && true)) = true := h
  simpa using h'
theorem said : PySem.Challenge.rw_singlechange_s05_gr_place.wellSaid = true := by decide +kernel
theorem pre_i {n i : Int} (h : PySem.Challenge.rw_singlechange_s05_gr_place.pre [.int n, .int i] = true) : 0 ≤ i := by
  obtain ⟨a, w, q, e⟩ := os_pre said h
  obtain ⟨n', i', u⟩ := a
  have e2 := os_j_int (List.cons.inj (List.cons.inj e).2).1
  have b : (0 : Int) ≤ i' := (w_two (x := n') (y := i') (u := u) w).2.1
  rw [e2]; exact b
section
open PyProof.Rows PySem.Calls
variable {prog : Program} {w : World} {A : Around} {E : Value → Shared → Prop} {s : Shared} {x y : Int} {t u : Tok} {Q : Value → Shared → Prop}
theorem step_xor (hx : 0 ≤ x) (hy : 0 ≤ y) (h : ∀ q, XorIs x y q → 0 ≤ q → Q (.int q s.toks) { s with toks := s.toks + 1 }) :
    wpAny (model prog w) A (binaryOp .BitXor (.int x t) (.int y u)) Q E s := by
  refine PyProof.Rows.xor_int ?_
  rw [xor_is hx hy]
  exact h _ ⟨Int.toNat_natCast _⟩ (Int.natCast_nonneg _)
theorem step_half (h : ∀ q b, x = 2 * q + b → 0 ≤ b → b < 2 → Q (.int q s.toks) { s with toks := s.toks + 1 }) :
    wpAny (model prog w) A (binaryOp .RShift (.int x t) (.int 1 u)) Q E s := by
  have e : (2 : Int) ^ (1 : Int).toNat = 2 := by first | decide | rfl
  refine PyProof.Rows.rshift_int (by decide) ?_
  rw [e, Int.fdiv_eq_ediv_of_nonneg x (by decide)]
  exact h (x / 2) (x % 2) (by omega) (by omega) (by omega)
end
end My
open PyProof.Rows
local macro_rules | `(tactic| walk_at "binaryOp BitXor int int") => `(tactic| (k_here; (with_reducible refine' My.step_xor ?k1 ?k2 ?_); (case k1 => k_dflt omega); (case k2 => k_dflt omega); intro q' hX' hq0'))
local macro_rules | `(tactic| walk_at "binaryOp RShift int int") => `(tactic| (k_here; (with_reducible show wpAny _ _ (binaryOp Operator.RShift (Value.int _ _) (Value.int 1 _)) _ _ _); k_dflt (refine My.step_half ?_); intro r' b' e' hb0' hb1'))
set_option maxRecDepth 100000 in
set_option maxHeartbeats 8000000 in
theorem PySem.Challenge.cw_singlechange_s05_gr_place_holds : PySem.Challenge.rw_singlechange_s05_gr_place.Holds := by
  k_with "state" => first
    | exact My.flips_start (My.pre_i (by assumption))
    | exact My.flips_turn (by assumption) (by assumption) (by assumption) (by omega) (by omega) (by omega) (by omega)
  k_with "measure" => exact My.flips_less (by assumption) (by omega) (by omega) (by omega)
  k_with "exec While Compare cons nil" => k_while_given ["word"] (fun word _ place rest => 0 ≤ place ∧ 0 ≤ rest ∧ My.Flips word place rest) (fun _ _ _ rest => rest.toNat) "place" "rest"
  open_ks with [.int 1, .int 0]
  all_goals (os_open My.said with a w q e)
  all_goals (obtain ⟨n, i, u⟩ := a)
  all_goals (have e1 : n = _ := (os_j_int (List.cons.inj e).1).symm)
  all_goals (have e2 : i = _ := (os_j_int (List.cons.inj (List.cons.inj e).2).1).symm)
  all_goals (have b : (0 : Int) ≤ i := (My.w_two (x := n) (y := i) (u := u) w).2.1)
  all_goals (subst e1 e2)
  all_goals (show _ = WData.list ((PySx49.gr_place n i).map WData.int))
  all_goals (refine os_list ?_)
  · rw [My.place_bad (Or.inl (by omega))]; rfl
  · rw [My.place_bad (Or.inr (by omega))]; rfl
  · rw [My.place_no (by omega) (by omega) (My.pow_no (by omega) (by assumption))]; rfl
  · rw [My.place_yes (by omega) (by omega) (My.pow_yes (by omega) (by assumption)), My.flips_end (by assumption) (by omega) (by omega) (by omega)]; rfl
#print axioms PySem.Challenge.cw_singlechange_s05_gr_place_holds

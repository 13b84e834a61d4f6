import PyProof.Rows.All
import KE.OsGo
import KE.OsArgs
import PySem.Challenge.RW_singlechange_s06_gr_digit_place
open PySem PySem.W
set_option Elab.async false
namespace My
theorem digitPlace_cons (k d : Nat) (r : List Nat) : Sx49.digitPlace k (d :: r) = d * k ^ r.length + (if d % 2 = 1 then k ^ r.length - 1 - Sx49.digitPlace k r else Sx49.digitPlace k r) := rfl
theorem digitPlace_lt {k : Nat} : ∀ {r : List Nat}, (∀ d ∈ r, d < k) → Sx49.digitPlace k r < k ^ r.length
  | [], _ => by show 0 < k ^ 0; rw [Nat.pow_zero]; omega
  | d :: r, h => by
    have ih := digitPlace_lt (r := r) fun x hx => h x (List.mem_cons_of_mem _ hx)
    have hd := h d (List.mem_cons_self)
    rw [digitPlace_cons, List.length_cons, Nat.pow_succ, Nat.mul_comm (k ^ r.length) k]
    have m : (d + 1) * k ^ r.length ≤ k * k ^ r.length := Nat.mul_le_mul_right _ hd
    rw [Nat.add_mul] at m
    split <;> omega
/-- digits that stand in the row -/
structure Digits (k n : Nat) (r : List Nat) : Prop where
  len : r.length = n
  lt : ∀ d ∈ r, d < k
theorem digits_iff {k n : Nat} {r : List Nat} : (r.length == n && r.all fun (d : Nat) => decide (d < k)) = true ↔ Digits k n r := by
  rw [Bool.and_eq_true, beq_iff_eq, List.all_eq_true]
  constructor
  · rintro ⟨a, b⟩
    exact ⟨a, fun x hx => of_decide_eq_true (b x hx)⟩
  · rintro ⟨a, b⟩
    exact ⟨a, fun x hx => decide_eq_true (b x hx)⟩
theorem digitPlace_bad {k n : Int} {r : List Int} (h : k < 2 ∨ 16 < k ∨ n < 1 ∨ 15 < n) : PySx49.gr_digit_place k n r = [-2] := by
  have e : Sv52.digitsOk k n = false := by
    unfold Sv52.digitsOk Sv52.within
    rw [Bool.and_eq_false_iff, Bool.and_eq_false_iff, Bool.and_eq_false_iff]
    rcases h with h | h | h | h
    · exact Or.inl (Or.inl (decide_eq_false (by omega)))
    · exact Or.inl (Or.inr (decide_eq_false (by omega)))
    · exact Or.inr (Or.inl (decide_eq_false (by omega)))
    · exact Or.inr (Or.inr (decide_eq_false (by omega)))
  show ((Sx49.does (.digitPlace k n (Sx49Neutral.nats r))).v :: (Sx49.does (.digitPlace k n (Sx49Neutral.nats r))).l.map fun (y : Nat) => (y : Int)) = [-2]
  have d : Sx49.does (.digitPlace k n (Sx49Neutral.nats r)) = Sv52.ok (-2) := if_pos e
  rw [d]; rfl
theorem digitPlace_told {k n : Int} (r : List Nat) (h1 : 2 ≤ k) (h2 : k ≤ 16) (h3 : 1 ≤ n) (h4 : n ≤ 15) : Sx49.does (.digitPlace k n r) = Sx49.told (r.length == n.toNat && r.all fun (d : Nat) => decide (d < k.toNat)) [Sx49.digitPlace k.toNat r] := by
  have e : Sv52.digitsOk k n = true := by
    unfold Sv52.digitsOk Sv52.within
    rw [decide_eq_true h1, decide_eq_true h2, decide_eq_true h3, decide_eq_true h4]; rfl
  exact if_neg (by rw [e]; decide)
theorem digitPlace_no {k n : Int} {r : List Int} (h1 : 2 ≤ k) (h2 : k ≤ 16) (h3 : 1 ≤ n) (h4 : n ≤ 15) (h : ¬ Digits k.toNat n.toNat (Sx49Neutral.nats r)) : PySx49.gr_digit_place k n r = [-3] := by
  show ((Sx49.does (.digitPlace k n (Sx49Neutral.nats r))).v :: (Sx49.does (.digitPlace k n (Sx49Neutral.nats r))).l.map fun (y : Nat) => (y : Int)) = [-3]
  rw [digitPlace_told _ h1 h2 h3 h4]
  rw [Bool.eq_false_iff.mpr fun e => h (digits_iff.mp e)]; rfl
theorem digitPlace_yes {k n : Int} {r : List Int} (h1 : 2 ≤ k) (h2 : k ≤ 16) (h3 : 1 ≤ n) (h4 : n ≤ 15) (h : Digits k.toNat n.toNat (Sx49Neutral.nats r)) : PySx49.gr_digit_place k n r = [0, ((Sx49.digitPlace k.toNat (Sx49Neutral.nats r) : Nat) : Int)] := by
  show ((Sx49.does (.digitPlace k n (Sx49Neutral.nats r))).v :: (Sx49.does (.digitPlace k n (Sx49Neutral.nats r))).l.map fun (y : Nat) => (y : Int)) = _
  rw [digitPlace_told _ h1 h2 h3 h4, digits_iff.mpr h]; rfl

structure MulIs (x y q : Int) : Prop where
  eq : q = x * y
/-- the loop from the last digit on: what it has after the digits `pre`, the last one first -/
structure Back (k : Int) (pre : List Int) (place part : Int) : Prop where
  isPlace : place = ((Sx49.digitPlace k.toNat (Sx49Neutral.nats pre.reverse) : Nat) : Int)
  isPart : part = ((k.toNat ^ pre.length : Nat) : Int)
  all : ∀ d ∈ pre, 0 ≤ d ∧ d < k
theorem nats_length (l : List Int) : (Sx49Neutral.nats l).length = l.length := by
  unfold Sx49Neutral.nats; rw [List.length_map]
theorem nats_lt {k : Int} {l : List Int} (h : ∀ d ∈ l, 0 ≤ d ∧ d < k) : ∀ d ∈ Sx49Neutral.nats l, d < k.toNat := by
  intro d hd
  unfold Sx49Neutral.nats at hd
  obtain ⟨z, hz, rfl⟩ := List.mem_map.mp hd
  have := h z hz
  omega
theorem back_room {k place part : Int} {pre : List Int} (B : Back k pre place part) : 0 ≤ place ∧ place < part := by
  have lt := digitPlace_lt (k := k.toNat) (r := Sx49Neutral.nats pre.reverse) (nats_lt fun d hd => B.all d (List.mem_reverse.mp hd))
  rw [nats_length, List.length_reverse] at lt
  have e1 := B.isPlace
  have e2 := B.isPart
  omega
theorem back_start0 (k : Int) : Back k [] 0 1 := ⟨rfl, rfl, fun _ h => nomatch h⟩
theorem back_step {k place part d q z r p : Int} {pre : List Int} (B : Back k pre place part) (M : MulIs d part q) (K : MulIs part k p) (hk : 0 ≤ k) (h0 : 0 ≤ d) (h1 : d < k)
    (h : (d % 2 = 1 ∧ z = part - 1 - place) ∨ (¬ d % 2 = 1 ∧ z = place)) (hr : r = q + z) : Back k (pre ++ [d]) r p := by
  have room := back_room B
  have e1 := B.isPlace
  have e2 := B.isPart
  refine ⟨?_, ?_, ?_⟩
  · have e : Sx49Neutral.nats (pre ++ [d]).reverse = d.toNat :: Sx49Neutral.nats pre.reverse := by
      unfold Sx49Neutral.nats
      rw [List.reverse_append, List.reverse_singleton, List.singleton_append, List.map_cons]
    have l : (Sx49Neutral.nats pre.reverse).length = pre.length := by rw [nats_length, List.length_reverse]
    rw [e, digitPlace_cons, l]
    generalize Sx49.digitPlace k.toNat (Sx49Neutral.nats pre.reverse) = P at *
    have m : q = ((d.toNat * k.toNat ^ pre.length : Nat) : Int) := by
      rw [M.eq, e2, Int.natCast_mul, Int.toNat_of_nonneg h0]
    generalize d.toNat * k.toNat ^ pre.length = D at *
    generalize k.toNat ^ pre.length = R at *
    rcases h with ⟨a, b⟩ | ⟨a, b⟩
    · rw [if_pos (by omega)]; omega
    · rw [if_neg (by omega)]; omega
  · rw [K.eq, e2, List.length_append, List.length_singleton, Nat.pow_succ, Int.natCast_mul, Int.toNat_of_nonneg hk]
  · intro x hx
    rcases List.mem_append.mp hx with old | new
    · exact B.all x old
    · rw [List.mem_singleton.mp new]; exact ⟨h0, h1⟩
theorem back_start (k : Int) : (0 : Int) ≤ 0 ∧ (0 : Int) < 1 ∧ Back k [] 0 1 := ⟨Int.le_refl _, by decide, back_start0 k⟩
theorem back_turn {k place part d q z r p : Int} {pre : List Int} (B : Back k pre place part) (M : MulIs d part q) (K : MulIs part k p) (hk : 0 ≤ k) (h0 : 0 ≤ d) (h1 : d < k)
    (hr : r = q + z) (h : (d % 2 = 1 ∧ z = part - 1 - place) ∨ (¬ d % 2 = 1 ∧ z = place)) : 0 ≤ r ∧ r < p ∧ Back k (pre ++ [d]) r p := by
  have t := back_step B M K hk h0 h1 h hr
  exact ⟨(back_room t).1, (back_room t).2, t⟩
theorem asked_len {k n : Int} {ds : List Int} (h : PySx49.gr_digit_place_asked k n ds = true) (h1 : 2 ≤ k) (h2 : k ≤ 16) (h3 : 1 ≤ n) (h4 : n ≤ 15) : (ds.length : Int) = n := by
  have e : Sv52.digitsOk k n = true := by
    unfold Sv52.digitsOk Sv52.within
    rw [decide_eq_true h1, decide_eq_true h2, decide_eq_true h3, decide_eq_true h4]; rfl
  have h' : (((Sx49Neutral.whole32 k && Sx49Neutral.whole32 n) && (ds.all (fun (z : Int) => Sx49Neutral.natural z 8) && decide ((ds.length : Int) = if Sv52.digitsOk k n = true then n else 0))) && decide ((Sx49Neutral.f [[5, k, n], ds]).length < 1000000)) = true := h
  rw [Bool.and_eq_true, Bool.and_eq_true, Bool.and_eq_true (ds.all _)] at h'
  have l := of_decide_eq_true h'.1.2.2
  rw [if_pos e] at l
  exact l
theorem asked_in {k n : Int} {ds : List Int} (h : PySx49.gr_digit_place_asked k n ds = true) : ∀ d ∈ ds, 0 ≤ d := by
  have h' : (((Sx49Neutral.whole32 k && Sx49Neutral.whole32 n) && (ds.all (fun (z : Int) => Sx49Neutral.natural z 8) && decide ((ds.length : Int) = if Sv52.digitsOk k n = true then n else 0))) && decide ((Sx49Neutral.f [[5, k, n], ds]).length < 1000000)) = true := h
  rw [Bool.and_eq_true, Bool.and_eq_true, Bool.and_eq_true (ds.all _)] at h'
  intro d hd
  have l := List.all_eq_true.mp h'.1.2.1 d hd
  unfold Sx49Neutral.natural at l
  rw [Bool.and_eq_true] at l
  exact of_decide_eq_true l.1
theorem no_of {k n M : Int} {ds : List Int} (h : PySx49.gr_digit_place_asked k n ds = true) (h1 : 2 ≤ k) (h2 : k ≤ 16) (h3 : 1 ≤ n) (h4 : n ≤ 15) (hM : M ∈ ds) (hk : k ≤ M) : PySx49.gr_digit_place k n ds = [-3] := by
  refine digitPlace_no h1 h2 h3 h4 fun D => ?_
  have t := D.lt M.toNat (List.mem_map.mpr ⟨M, hM, rfl⟩)
  omega
theorem yes_of {k n place part : Int} {ds : List Int} (h : PySx49.gr_digit_place_asked k n ds = true) (h1 : 2 ≤ k) (h2 : k ≤ 16) (h3 : 1 ≤ n) (h4 : n ≤ 15) (B : Back k ds.reverse place part) : PySx49.gr_digit_place k n ds = [0, place] := by
  have l := asked_len h h1 h2 h3 h4
  have e := B.isPlace
  rw [List.reverse_reverse] at e
  rw [digitPlace_yes h1 h2 h3 h4 ⟨by rw [nats_length]; omega, nats_lt fun d hd => B.all d (List.mem_reverse.mpr hd)⟩, e]
theorem all_in {k M : Int} {ds : List Int} (h0 : ∀ d ∈ ds, 0 ≤ d) (hM : ∀ a, a ∈ ds → a ≤ M) (h : M < k) : ∀ d ∈ ds, 0 ≤ d ∧ d < k := fun d hd => ⟨h0 d hd, by have := hM d hd; omega⟩
theorem said : PySem.Challenge.rw_singlechange_s06_gr_digit_place.wellSaid = true := by decide +kernel
theorem pre_asked {k n : Int} {ds : List Int} (h : PySem.Challenge.rw_singlechange_s06_gr_digit_place.pre [.int k, .int n, ofPy (.list (ds.map PyData.int))] = true) : PySx49.gr_digit_place_asked k n ds = true := by
  obtain ⟨a, w, q, e⟩ := os_pre said h
  obtain ⟨k', n', ds', u⟩ := a
  have e1 : k' = _ := (os_j_int (List.cons.inj e).1).symm
  have e2 : n' = _ := (os_j_int (List.cons.inj (List.cons.inj e).2).1).symm
  have e3 : ds' = _ := (os_j_ints (List.cons.inj (List.cons.inj (List.cons.inj e).2).2).1).symm
  subst e1 e2 e3
  exact q
theorem pre_len {k n : Int} {ds : List Int} (h : PySem.Challenge.rw_singlechange_s06_gr_digit_place.pre [.int k, .int n, ofPy (.list (ds.map PyData.int))] = true) (h1 : 2 ≤ k) (h2 : k ≤ 16) (h3 : 1 ≤ n) (h4 : n ≤ 15) : 0 < ds.length := by
  have := asked_len (pre_asked h) h1 h2 h3 h4
  omega
section
open PySem.Calls PyProof.Rows PyProof.V PySem.Spec
variable {prog : Program} {w : World} {A : Around} {env : Env} {x : Str} {body : List Stmt} {s : Shared} {h₀ : Heap} {E : Value → Shared → Prop} {Q : Flow → Shared → Prop}
/-- the two names that a turn changes -/
abbrev two (np nq : Str) (c : Int × Tok × Int × Tok) : List (Str × Value) := [(np, .int c.1 c.2.1), (nq, .int c.2.2.1 c.2.2.2)]
/-- a loop over a handed-in list of numbers from behind, by what holds of two names between its turns -/
theorem rev_loop {l : Addr} {vs : List Value} {ns : List Int} {m₀ : Str → Option Value} {news : List (Addr × Obj)} {np nq nk : Str} {v₁ v₂ v₃ : Int} {t₁ t₂ t₃ : Tok} (stored : List Str) (P : Int → List Int → Int → Int → Prop)
    (calm : A.handled = none) (hl : h₀.IsList l vs.toArray) (hvn : IntsAre vs ns) (F : Fr h₀ env.locals s.heap m₀) (N : News h₀ env.locals s.heap news)
    (k1 : m₀ np = some (.int v₁ t₁)) (k2 : m₀ nq = some (.int v₂ t₂)) (k3 : m₀ nk = some (.int v₃ t₃)) (hb : ∀ d ∈ ns, 0 ≤ d ∧ d < v₃) (hp : P v₃ [] v₁ v₂)
    (turn : ∀ (a : Int) (t : Tok) (b : Int) (u : Tok) pre post n tn (um : Str → Option Value) h tk own, ns.reverse = pre ++ n :: post → n ∈ ns → OwnOff own (news.map (·.1)) → 0 ≤ n → n < v₃ → P v₃ pre a b →
      Fr h₀ env.locals h (fun y => if y = x then some (.int n tn) else kstB (fun z => if stored.contains z then um z else m₀ z) (two np nq (a, t, b, u)) y) → News h₀ env.locals h (news ++ own) →
      wpAny (model prog w) A (execs body env) (InvPostN h₀ env.locals (KstS (fun _ => news) (two np nq) (fun _ => True) x stored m₀ (fun pre c => P v₃ pre c.1 c.2.2.1) (pre ++ [n])) own (news.map (·.1)) { s with heap := h, toks := tk } Q) E { s with heap := h, toks := tk })
    (done : ∀ (a : Int) (t : Tok) (b : Int) (u : Tok) (um : Str → Option Value) h tk, P v₃ ns.reverse a b → Fr h₀ env.locals h (fun y => if y = x then um y else kstB (fun z => if stored.contains z then um z else m₀ z) (two np nq (a, t, b, u)) y) → News h₀ env.locals h news → Q .next { s with heap := h, toks := tk }) :
    wpAny (model prog w) A (call (.type "reversed") [.ref l]) (fun xv s₁ => wpAny (model prog w) A (pyIter xv) (fun it s₂ => LoopAtV prog w A h₀ env x body Q E it s₂) E s₁) E s := by
  have now : s.heap.IsList l vs.toArray := hl.at fun ob e => F.keep l ob e
  obtain ⟨ol, hol, _⟩ := id hl
  refine krv_reversed F N now fun D h' F' N' lt => ?_
  have hD := N' _ (List.mem_cons_self ..)
  have hne : l ≠ D := fun e => by
    have z := hD.2.2
    rw [← e, hol] at z
    cases z
  have hit : h'.IsRevIter D l ((vs.length : Int) - 1) := ⟨_, hD.1, rfl, rfl⟩
  refine wpAny_pyIter_revIter (s := { s with heap := h' }) hit ?_
  have W := Walks.listRev (prog := prog) (w := w) calm D l hne vs.toArray
  have many : vs.toArray.size = vs.length := List.size_toArray
  rw [many] at W
  have N₁ : News h₀ env.locals h' news := fun p hp => N' p (List.mem_cons_of_mem _ hp)
  have ll : l < env.locals := Nat.lt_of_lt_of_le (Heap.lt_size hol) F.above
  refine loop_invN (s := { s with heap := h' }) (fun i m nx => KstS (fun _ => news) (two np nq) (fun _ => True) x stored m₀ (fun pre c => P v₃ pre c.1 c.2.2.1) (ns.reverse.take i) m nx) W ?_ ?_ ?_ ?_ ⟨Nat.zero_le _, ?_, hl.at fun o e => F'.keep l o e⟩ F' N₁ ⟨(v₁, t₁, v₂, t₂), rfl, trivial, ?_, fun _ _ _ _ => rfl, hp⟩ ?_ ?_
  · intro hm
    rcases List.mem_cons.mp hm with atD | atL
    · exact hD.2.1 atD.symm
    · exact absurd (List.mem_singleton.mp atL).symm (Nat.ne_of_lt ll)
  · intro b hb'
    rw [List.mem_singleton.mp hb']
    exact hD.2.2
  · intro p hp' hI
    exact absurd (List.mem_singleton.mp hI) (Nat.ne_of_lt (lt p hp'))
  · intro p hp' hI
    rcases List.mem_cons.mp hI with atD | atL
    · exact absurd atD (Nat.ne_of_lt (lt p hp'))
    · have z := (N₁ p hp').2.2
      rw [List.mem_singleton.mp atL, hol] at z
      cases z
  · rw [show (vs.length : Int) - 1 - ((0 : Nat) : Int) = (vs.length : Int) - 1 by omega]; exact hit
  · intro p hp'
    rcases List.mem_cons.mp hp' with e | hp'
    · rw [e]; exact k1
    · rw [List.mem_singleton.mp hp']; exact k2
  · rintro i v m₁ nx h tk own hi' hv _ hoff ⟨c, rfl, _, h1, h2, hp'⟩ F₁ N₂
    have hv' : vs.reverse[i]? = some v := by
      rw [List.getElem?_reverse hi']
      simpa using hv
    obtain ⟨n, t, rfl, hn⟩ := (IntsAre.reverse hvn).at i v hv'
    have hs : ns.reverse.take (i + 1) = ns.reverse.take i ++ [n] := by simp [List.take_add_one, hn]
    have e : ns.reverse = ns.reverse.take i ++ n :: ns.reverse.drop (i + 1) := by
      have whole := List.take_append_drop (i + 1) ns.reverse
      rw [hs, List.append_assoc] at whole
      exact whole.symm
    have mem : n ∈ ns := List.mem_reverse.mp (List.mem_of_getElem? hn)
    rw [hs]
    exact turn c.1 c.2.1 c.2.2.1 c.2.2.2 _ _ n t m₁ h tk own e mem hoff (hb n mem).1 (hb n mem).2 hp' (kst_fr h1 h2 F₁) N₂
  · rintro m₁ nx h tk ⟨c, rfl, _, h1, h2, hp'⟩ F₁ N₂
    rw [List.take_of_length_le (by rw [List.length_reverse, ← IntsAre.length hvn]; exact Nat.le_refl _)] at hp'
    exact done c.1 c.2.1 c.2.2.1 c.2.2.2 m₁ h tk hp' (kst_frOut h1 h2 F₁) N₂
end
section
open PyProof.Rows PySem.Calls
variable {prog : Program} {w : World} {A : Around} {E : Value → Shared → Prop} {s : Shared} {x y : Int} {t u : Tok} {Q : Value → Shared → Prop}
theorem step_mul (lo : -100 ≤ y) (hi : y ≤ 100) (h : ∀ q, MulIs x y q → Q (.int q s.toks) { s with toks := s.toks + 1 }) :
    wpAny (model prog w) A (binaryOp .Mult (.int x t) (.int y u)) Q E s :=
  PyProof.Rows.mul_int (h _ ⟨rfl⟩) (PySem.IntMulOk.of_right (PySem.intBits_le_64 (by omega) (by omega)))
theorem step_mull (lo : -100 ≤ x) (hi : x ≤ 100) (h : ∀ q, MulIs x y q → Q (.int q s.toks) { s with toks := s.toks + 1 }) :
    wpAny (model prog w) A (binaryOp .Mult (.int x t) (.int y u)) Q E s :=
  PyProof.Rows.mul_int (h _ ⟨rfl⟩) (PySem.IntMulOk.of_left (PySem.intBits_le_64 (by omega) (by omega)))
theorem step_odd (h : ∀ z b, x = 2 * z + b → 0 ≤ b → b < 2 → Q (.int b s.toks) { s with toks := s.toks + 1 }) :
    wpAny (model prog w) A (binaryOp .Mod (.int x t) (.int 2 u)) Q E s := by
  refine PyProof.Rows.mod_int (by decide) ?_
  rw [Int.fmod_eq_emod_of_nonneg x (by decide)]
  exact h (x / 2) (x % 2) (by omega) (by omega) (by omega)
end
end My
open PyProof.Rows
local macro_rules | `(tactic| walk_at "binaryOp Mult int int") => `(tactic| (k_here; (with_reducible refine' My.step_mull ?k1 ?k2 ?_); (case k1 => k_dflt omega); (case k2 => k_dflt omega); intro q' hM'))
local macro_rules | `(tactic| walk_at "binaryOp Mult int int") => `(tactic| (k_here; (with_reducible refine' My.step_mul ?k1 ?k2 ?_); (case k1 => k_dflt omega); (case k2 => k_dflt omega); intro q' hM'))
local macro_rules | `(tactic| walk_at "binaryOp Mod int int") => `(tactic| (k_here; (with_reducible show wpAny _ _ (binaryOp Operator.Mod (Value.int _ _) (Value.int 2 _)) _ _ _); k_dflt (refine My.step_odd ?_); intro z' b' e' hb0' hb1'))
local macro_rules | `(tactic| walk_at "call builtin:max") => `(tactic| (k_here; (with_reducible show wpAny _ _ (call (Value.builtin _) [Value.ref _]) _ _ _); (rename Fr _ _ _ _ => F'); (with_reducible apply max_list_N); (case hh => with_unfolding_all rfl); (case F => exact F'); (case N => exact PyProof.Rows.News.nil); (case hl => is_list); (case hi => assumption); (case hne => exact My.pre_len (by assumption) (by omega) (by omega) (by omega) (by omega)); clear F'; intro g' M' t' tk' F' N' hMem' hMax'))
local macro_rules | `(tactic| walk_at "call type:reversed") => `(tactic| (k_here; (with_reducible show wpAny _ _ (call (Value.type _) [Value.ref _]) (fun xv s₁ => wpAny _ _ (pyIter xv) (fun it s₂ => LoopAtV _ _ _ _ _ _ _ _ _ it s₂) _ s₁) _ _); (rename Fr _ _ _ _ => F'); (rename News _ _ _ _ => N'); (with_unfolding_all refine' My.rev_loop (np := Str.ofString "place") (nq := Str.ofString "part") (nk := Str.ofString "k") [] (fun k pre place part => 0 ≤ place ∧ place < part ∧ My.Back k pre place part) ?ca ?hl ?hi F' N' ?k1 ?k2 ?k3 ?hb ?hp ?_ ?_); (case ca => with_unfolding_all rfl); (case hl => assumption); (case hi => assumption); (case k1 => with_unfolding_all rfl); (case k2 => with_unfolding_all rfl); (case k3 => with_unfolding_all rfl); (case hb => exact My.all_in (My.asked_in (My.pre_asked (by assumption))) (by assumption) (by omega)); (case hp => exact My.back_start _); (all_goals clear F' N'); (focus ((intro a' t' b' u' pre' post' n' tn' um' h' tk' own' kEq' kMem' kOff' kLo' kHi' kInv' kFr' kNews'); (have kMark' : KstMark := kstMark); (try dsimp only [kstB] at kFr'); (try dsimp only at kNews'); (try dsimp only at kInv'); (try simp only [List.nil_append, List.cons_append, List.append_nil] at kNews'); (try simp only [List.map_cons, List.map_nil] at kOff'); (obtain ⟨kI1', kI2', kI3'⟩ := kInv'))); rotate_left; (focus ((intro a' t' b' u' um' h' tk' kInv' kFr' kNews'); (have kMark' : KstMark := kstMark); (try dsimp only [kstB] at kFr'); (try dsimp only at kNews'); (try dsimp only at kInv'); (obtain ⟨kI1', kI2', kI3'⟩ := kInv'))); rotate_left; (all_goals (try k_fold))))
local macro_rules | `(tactic| walk_at "pyIter ref") => `(tactic| k_extra "pyIter ref")
set_option maxRecDepth 100000 in
set_option maxHeartbeats 8000000 in
theorem PySem.Challenge.cw_singlechange_s06_gr_digit_place_holds : PySem.Challenge.rw_singlechange_s06_gr_digit_place.Holds := by
  k_with "state" => exact My.back_turn (by assumption) (by assumption) (by assumption) (by omega) (by omega) (by omega) rfl (by omega)
  open_ks with [.int 2, .int 1, .list [.int 0]]
  all_goals (os_open My.said with a w q e)
  all_goals (obtain ⟨k, n, ds, u⟩ := a)
  all_goals (have e1 : k = _ := (os_j_int (List.cons.inj e).1).symm)
  all_goals (have e2 : n = _ := (os_j_int (List.cons.inj (List.cons.inj e).2).1).symm)
  all_goals (have e3 : ds = _ := (os_j_ints (List.cons.inj (List.cons.inj (List.cons.inj e).2).2).1).symm)
  all_goals (subst e1 e2 e3)
  all_goals (show _ = WData.list ((PySx49.gr_digit_place k n ds).map WData.int))
  all_goals (refine os_list ?_)
  · rw [My.digitPlace_bad (Or.inl (by omega))]; rfl
  · rw [My.digitPlace_bad (Or.inr (Or.inl (by omega)))]; rfl
  · rw [My.digitPlace_bad (Or.inr (Or.inr (Or.inl (by omega))))]; rfl
  · rw [My.digitPlace_bad (Or.inr (Or.inr (Or.inr (by omega))))]; rfl
  · rw [My.no_of (n := n) q (by omega) (by omega) (by omega) (by omega) (by assumption) (by omega)]; rfl
  · rw [My.yes_of (n := n) q (by omega) (by omega) (by omega) (by omega) (by assumption)]; rfl
#print axioms PySem.Challenge.cw_singlechange_s06_gr_digit_place_holds

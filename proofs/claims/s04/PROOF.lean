import PyProof.Rows.All
import KE.OsGo
import KE.OsArgs
import PySem.Challenge.RW_singlechange_s04_gr_order
open PySem PySem.W
set_option Elab.async false
namespace My
theorem fact_succ (n : Nat) : Sx49.fact (n + 1) = Sx49.fact n * (n + 1) := by
  unfold Sx49.fact
  rw [List.range_succ, List.foldl_append]; rfl
theorem order_bad {n i : Int} (h : n < 1 ∨ 20 < n) : PySx49.gr_order n i = [-2] := by
  have e : Sv52.orderOk n = false := by
    unfold Sv52.orderOk Sv52.within
    rw [Bool.and_eq_false_iff]
    rcases h with h | h
    · exact Or.inl (decide_eq_false (by omega))
    · exact Or.inr (decide_eq_false (by omega))
  show ((Sx49.does (.order n i.toNat)).v :: (Sx49.does (.order n i.toNat)).l.map fun (y : Nat) => (y : Int)) = [-2]
  have d : Sx49.does (.order n i.toNat) = Sv52.ok (-2) := if_pos e
  rw [d]; rfl
theorem order_in {n : Int} (i : Int) (h1 : 1 ≤ n) (h2 : n ≤ 20) : Sx49.does (.order n i.toNat) = Sx49.told (decide (i.toNat < Sx49.fact n.toNat)) (Sx49.orderAt n.toNat i.toNat) := by
  have e : Sv52.orderOk n = true := by
    unfold Sv52.orderOk Sv52.within
    rw [decide_eq_true h1, decide_eq_true h2]; rfl
  exact if_neg (by rw [e]; decide)
theorem fact_pos : ∀ n : Nat, 0 < Sx49.fact n
  | 0 => by decide
  | n + 1 => by rw [fact_succ]; exact Nat.mul_pos (fact_pos n) (Nat.succ_pos n)
theorem putAt_length (p : List Nat) (n i : Nat) : (Sv52.putAt p n i).length = p.length + 1 := by
  unfold Sv52.putAt
  rw [List.length_append, List.length_cons, List.length_take, List.length_drop]; omega
theorem orderAt_succ (n i : Nat) : Sx49.orderAt (n + 1) i = Sv52.putAt (Sx49.orderAt n (i / (n + 1))) n (if i / (n + 1) % 2 = 0 then n - i % (n + 1) else i % (n + 1)) := rfl
theorem orderAt_length : ∀ n i : Nat, (Sx49.orderAt n i).length = n
  | 0, _ => rfl
  | n + 1, i => by rw [orderAt_succ, putAt_length, orderAt_length n]
abbrev up (l : List Nat) : List Int := l.map fun (y : Nat) => (y : Int)
/-- a number put in at a spot, as the program does it -/
def put (l : List Int) (s : Int) (v : Int) : List Int := l.take s.toNat ++ v :: l.drop s.toNat
/-- the spots of r, r + 1 and so on, put in one after another -/
def fill (l : List Int) (r : Nat) : List Int → List Int
  | [] => l
  | s :: rest => fill (put l s (r : Int)) (r + 1) rest
theorem fill_nil (l : List Int) (r : Nat) : fill l r [] = l := rfl
theorem fill_cons (l : List Int) (r : Nat) (s : Int) (rest : List Int) : fill l r (s :: rest) = fill (put l s (r : Int)) (r + 1) rest := rfl
theorem put_up (l : List Nat) (s : Int) (k r : Nat) (h : s.toNat = k) : put (up l) s (r : Int) = up (Sv52.putAt l r k) := by
  unfold put Sv52.putAt
  rw [h]
  simp [up, List.map_take, List.map_drop]
theorem order_no {n i : Int} (h1 : 1 ≤ n) (h2 : n ≤ 20) (h : Sx49.fact n.toNat ≤ i.toNat) : PySx49.gr_order n i = [-3] := by
  show ((Sx49.does (.order n i.toNat)).v :: (Sx49.does (.order n i.toNat)).l.map fun (y : Nat) => (y : Int)) = [-3]
  rw [order_in i h1 h2, decide_eq_false (by omega)]; rfl
theorem order_yes {n i : Int} (h1 : 1 ≤ n) (h2 : n ≤ 20) (h : i.toNat < Sx49.fact n.toNat) : PySx49.gr_order n i = 0 :: up (Sx49.orderAt n.toNat i.toNat) := by
  show ((Sx49.does (.order n i.toNat)).v :: (Sx49.does (.order n i.toNat)).l.map fun (y : Nat) => (y : Int)) = _
  rw [order_in i h1 h2, decide_eq_true h]; rfl
structure MulIs (x y q : Int) : Prop where
  eq : q = x * y
structure DivIs (x y q : Int) : Prop where
  eq : q = x.fdiv y
structure ModIs (x y q : Int) : Prop where
  eq : q = x.fmod y
structure Fac (m : Nat) (p : Int) : Prop where
  eq : p = ((Sx49.fact m : Nat) : Int)
theorem fac_start0 : Fac 0 1 := ⟨rfl⟩
theorem fac_step {m : Nat} {p y q : Int} (F : Fac m p) (M : MulIs p y q) (hy : y = (m : Int) + 1) : Fac (m + 1) q := by
  refine ⟨?_⟩
  rw [M.eq, F.eq, hy, fact_succ, Int.natCast_mul]; rfl
theorem fac_pos {m : Nat} {p : Int} (F : Fac m p) : 1 ≤ p := by
  have := fact_pos m
  have e := F.eq
  omega
theorem toNat_fdiv {x y : Int} (hx : 0 ≤ x) (hy : 0 ≤ y) : (x.fdiv y).toNat = x.toNat / y.toNat := by
  rw [Int.fdiv_eq_ediv_of_nonneg x hy]
  obtain ⟨a, rfl⟩ := Int.eq_ofNat_of_zero_le hx
  obtain ⟨b, rfl⟩ := Int.eq_ofNat_of_zero_le hy
  rfl
theorem toNat_fmod {x y : Int} (hx : 0 ≤ x) (hy : 0 ≤ y) : (x.fmod y).toNat = x.toNat % y.toNat := by
  rw [Int.fmod_eq_emod_of_nonneg x hy]
  obtain ⟨a, rfl⟩ := Int.eq_ofNat_of_zero_le hx
  obtain ⟨b, rfl⟩ := Int.eq_ofNat_of_zero_le hy
  rfl
/-- the loop over the numbers, from the greatest: the spots of m of n are told -/
structure Told (n i : Int) (m : Nat) (spots : List Int) (place : Int) : Prop where
  hm : m ≤ n.toNat
  hb : ∀ s ∈ spots, 0 ≤ s ∧ s ≤ 20
  hd : fill (up (Sx49.orderAt (n.toNat - m) place.toNat)) (n.toNat - m) spots.reverse = up (Sx49.orderAt n.toNat i.toNat)
theorem told_start (n i : Int) : Told n i 0 [] i := ⟨Nat.zero_le _, (by intro s hs; cases hs), rfl⟩
theorem told_step {n i place y q r s : Int} {m : Nat} {spots : List Int} (T : Told n i m spots place) (hm : m < n.toNat) (h20 : n ≤ 20) (h0 : 0 ≤ place) (hy : y = n - (m : Int)) (D : DivIs place y q) (M : ModIs place y r) (hr0 : 0 ≤ r) (hr : r < y) (hq : 0 ≤ q)
    (h : (q % 2 = 0 ∧ s = y - 1 - r) ∨ (¬ q % 2 = 0 ∧ s = r)) : Told n i (m + 1) (spots ++ [s]) q := by
  have e : n.toNat - m = (n.toNat - (m + 1)) + 1 := by omega
  refine ⟨by omega, ?_, ?_⟩
  · intro z hz
    rcases List.mem_append.mp hz with hz | hz
    · exact T.hb z hz
    · have := List.mem_singleton.mp hz
      omega
  · have t := T.hd
    rw [e] at t
    rw [← t, List.reverse_append, List.reverse_singleton, List.singleton_append, fill_cons, orderAt_succ]
    refine congrArg (fun z => fill z (n.toNat - (m + 1) + 1) spots.reverse) ?_
    have yn : y.toNat = n.toNat - (m + 1) + 1 := by omega
    have qn : q.toNat = place.toNat / (n.toNat - (m + 1) + 1) := by rw [D.eq, toNat_fdiv h0 (by omega), yn]
    have rn : r.toNat = place.toNat % (n.toNat - (m + 1) + 1) := by rw [M.eq, toNat_fmod h0 (by omega), yn]
    rw [← qn, ← rn]
    refine put_up _ _ _ _ ?_
    rcases h with ⟨a, b⟩ | ⟨a, b⟩
    · rw [if_pos (by omega)]; omega
    · rw [if_neg (by omega)]; omega
theorem told_end {n i place : Int} {m : Nat} {spots : List Int} (T : Told n i m spots place) (h : m = n.toNat) : fill [] 0 spots.reverse = up (Sx49.orderAt n.toNat i.toNat) := by
  have t := T.hd
  rw [h, Nat.sub_self] at t
  exact t
theorem put_length (l : List Int) (s v : Int) : (put l s v).length = l.length + 1 := by
  unfold put
  rw [List.length_append, List.length_cons, List.length_take, List.length_drop]; omega
/-- what the second loop has after j of the spots from behind: it goes on to the whole -/
theorem fill_take (as : List Int) : ∀ (j : Nat) (a : Int), as[j]? = some a → fill [] 0 (as.take (j + 1)) = put (fill [] 0 (as.take j)) a (j : Int) := by
  have gen : ∀ (as : List Int) (l : List Int) (r j : Nat) (a : Int), as[j]? = some a → fill l r (as.take (j + 1)) = put (fill l r (as.take j)) a ((r + j : Nat) : Int) := by
    intro as
    induction as with
    | nil => intro l r j a h; simp at h
    | cons x rest ih =>
      intro l r j a h
      cases j with
      | zero =>
        have : x = a := by simpa using h
        subst this
        rfl
      | succ j =>
        have h' : rest[j]? = some a := by simpa using h
        show fill (put l x (r : Int)) (r + 1) (rest.take (j + 1)) = put (fill (put l x (r : Int)) (r + 1) (rest.take j)) a _
        rw [ih (put l x (r : Int)) (r + 1) j a h']
        have : r + 1 + j = r + (j + 1) := by omega
        rw [this]
  intro j a h
  have t := gen as [] 0 j a h
  rw [Nat.zero_add] at t
  exact t
theorem fill_length (as : List Int) : ∀ j, j ≤ as.length → (fill [] 0 (as.take j)).length = j
  | 0, _ => rfl
  | j + 1, h => by
    have lt : j < as.length := by omega
    rw [fill_take as j as[j] (List.getElem?_eq_getElem lt), put_length, fill_length as j (by omega)]
section
variable {prog : Program} {w : World} {s : Shared} {A : Around} {E : Value → Shared → Prop}
/-- one draw of an iterator that goes a list from behind -/
theorem rev_draw {c l : Addr} {k : Nat} {its : Array Value} {v : Value} {Q : Value → Shared → Prop} (hc : s.heap.IsRevIter c l (k : Int)) (hl : s.heap.IsList l its) (hv : its[k]? = some v)
    (go : ∀ g, g.IsRevIter c l ((k : Int) - 1) → Heap.SameBut c s.heap g → Q v { s with heap := g }) : wpAny (model prog w) A (Builtin.SmallTypes.nextOf (.ref c)) Q E s := by
  obtain ⟨ob, gb, cb, db⟩ := id hc
  obtain ⟨ol, gl, _, nl, dl⟩ := hl
  delta Builtin.SmallTypes.nextOf
  refine wpAny_bind (wpAny_callSpecial?_slot (name := Str.ofString "__next__") hc.typeIs PySem.F.slot_lri_next (wpAny_call_entry PySem.F.slot_lri_next hc.typeIs PySem.F.entry_lri_next ?_ (PySem.F.args_lri_next_1 _)))
  delta Builtin.«list_reverseiterator.__next__»
  refine wpAny_bind (wpAny_of_eq (a := (Value.ref c, [])) rfl ?_); try dsimp only
  refine wpAny_bind (wpAny_field gb db (x := rawInt (k : Int)) rfl ?_)
  show wpAny _ _ (if (k : Int) < 0 then _ else _) _ _ s
  rw [if_neg (by omega)]
  show wpAny _ _ (field (.ref c) 0 >>= _) _ _ s
  refine wpAny_bind (wpAny_field gb db (x := .ref l) rfl ?_)
  refine wpAny_bind (m := seqItems? (.ref l)) (wpAny_seqItems gl dl ?_)
  simp only [Int.toNat_natCast, hv]
  refine wpAny_bind (wpAny_setField gb db (by simp) ?_)
  first
  | refine wpAny_pure ⟨v, rfl, wpAny_pure (go _ ?_ (Heap.SameBut.update ..))⟩
  | refine wpAny_bind (wpAny_pure (wpAny_pure ⟨v, rfl, wpAny_pure (go _ ?_ (Heap.SameBut.update ..))⟩))
  exact ⟨_, Heap.get?_update_self _ gb (Obj.isFreed_of_fields (Obj.data_mapFields db _)), (Obj.cls_mapFields ..).trans cb, by rw [Obj.data_mapFields db]; simp⟩
/-- and its end -/
theorem rev_stop {c l : Addr} {Q : Value → Shared → Prop} (ha : A.handled = none) (hc : s.heap.IsRevIter c l (-1))
    (out : ∀ g x, Heap.ExtBut c s.heap g → (∃ ob, g.get? x = some ob ∧ ob.cls = .type "StopIteration") → E (.ref x) { s with heap := g }) : wpAny (model prog w) A (Builtin.SmallTypes.nextOf (.ref c)) Q E s := by
  obtain ⟨ob, gb, cb, db⟩ := id hc
  delta Builtin.SmallTypes.nextOf
  refine wpAny_bind (wpAny_callSpecial?_slot (name := Str.ofString "__next__") hc.typeIs PySem.F.slot_lri_next (wpAny_call_entry PySem.F.slot_lri_next hc.typeIs PySem.F.entry_lri_next ?_ (PySem.F.args_lri_next_1 _)))
  delta Builtin.«list_reverseiterator.__next__»
  refine wpAny_bind (wpAny_of_eq (a := (Value.ref c, [])) rfl ?_); try dsimp only
  refine wpAny_bind (wpAny_field gb db (x := rawInt (-1)) rfl ?_)
  show wpAny (model prog w) _ (if (-1 : Int) < 0 then _ else _) _ _ s
  rw [if_pos (show (-1 : Int) < 0 by decide)]; refine wpAny_bind (wpAny_rule (wpAny_bind (wpAny_bind ?_)))
  simp only [newExc, newTuple]; refine wpAny_bind (wpAny_newObj_type (wpAny_bind (m := firstArgMember _ _) (wpAny_of_eq (a := Value.none) rfl (wpAny_newObj_type ?_ (by size_fits)))) (by size_fits))
  simp only [raiseNew]; refine wpAny_bind (wpAny_handled ?_); rw [show A.in1.handled = none from ha]; refine wpAny_bind (wpAny_pure (wpAny_throw ?_))
  exact out _ _ (((Heap.ExtBut.refl _ _).push _).push _) ⟨_, Heap.get?_push_size _ rfl, rfl⟩
end
theorem rev_draws {prog : Program} {w : World} {A : Around} (ha : A.handled = none) (c l : Addr) (hne : l ≠ c) (its : Array Value) :
    Draws prog w A c [c, l] its.size (fun j v => j < its.size ∧ its[its.size - 1 - j]? = some v) (fun j g => j ≤ its.size ∧ g.IsRevIter c l ((its.size : Int) - 1 - (j : Int)) ∧ g.IsList l its) where
  live := fun _ _ st => let ⟨ob, gb, _⟩ := st.2.1; ⟨ob, gb⟩
  frame := fun _ _ _ st keep => ⟨st.1, st.2.1.at fun ob e => keep c (by simp) ob e, st.2.2.at fun ob e => keep l (by simp) ob e⟩
  item := fun j s Q E lt st go => by
    have e1 : (its.size : Int) - 1 - (j : Int) = ((its.size - 1 - j : Nat) : Int) := by omega
    have st1 := st.2.1
    rw [e1] at st1
    have hv : its[its.size - 1 - j]? = some (its[its.size - 1 - j]'(by omega)) := Array.getElem?_eq_getElem (by omega)
    refine rev_draw st1 st.2.2 hv fun g hg same => ?_
    have e2 : ((its.size - 1 - j : Nat) : Int) - 1 = (its.size : Int) - 1 - ((j + 1 : Nat) : Int) := by omega
    rw [e2] at hg
    exact go _ g s.toks ⟨lt, hv⟩ ⟨lt, hg, st.2.2.at fun ob eo => (same.2 l hne).trans eo⟩ same
  done := fun s Q E st out => by
    have e1 : (its.size : Int) - 1 - (its.size : Int) = -1 := by omega
    have st1 := st.2.1
    rw [e1] at st1
    exact rev_stop ha st1 out
theorem new_rev (c l : Addr) (k : Int) :
    Meets (Builtin.«enumerate.__new__» ⟨[.type "enumerate", .ref c], []⟩) (fun _ R s => s.heap.get? c = some (revObj l k) ∧
      R (.ok (.ret (.ref s.heap.objs.size))) { s with heap := s.heap.push { cls := .type "enumerate", data := .fields #[.none, .bool false, .ref c, rawInt 0, .none, .none] } }) :=
  .of_wp fun prog w A R s both => by
    obtain ⟨h0, g0, d0, t0, o0⟩ := s
    obtain ⟨hr, h⟩ := both
    have sub := sub_enumerate
    have hI : Heap.IsRevIter (Shared.heap ⟨h0, g0, d0, t0, o0⟩) c l k := ⟨_, hr, rfl, rfl⟩
    wp_walk using AutoSeq1.wpAny_loadPart' hr
    refine wpAny_stack_any fun _ => wpAny_pure ?_
    split
    · rename_i c0 _ _ _ _ _
      cases (c0 == Value.type "enumerate")
      · wp_walk using AutoSeq1.wpAny_loadPart' hr, wpAny_pyIter_revIter hI
        exact ⟨_, rfl, h⟩
      · wp_walk using AutoSeq1.wpAny_loadPart' hr, wpAny_pyIter_revIter hI
        exact ⟨_, rfl, h⟩
    · wp_walk using AutoSeq1.wpAny_loadPart' hr, wpAny_pyIter_revIter hI
      exact ⟨_, rfl, h⟩
section
open PyProof.Rows PySem.Calls
variable {prog : Program} {w : World} {s : Shared} {A : Around} {E : Value → Shared → Prop} {h₀ : Heap} {env : Env} {m : Str → Option Value}
/-- enumerate of an iterator that goes a list from behind -/
theorem enum_rev {c l : Addr} {k : Int} {Q : Value → Shared → Prop} (hr : s.heap.get? c = some (revObj l k))
    (h : ∀ g, IsEnum g s.heap.objs.size c 0 .none → (∀ b o, s.heap.get? b = some o → g.get? b = some o) → Q (.ref s.heap.objs.size) { s with heap := g }) :
    wpAny (model prog w) A (call (.type "enumerate") [.ref c]) Q E s := by
  refine callType_new PySem.F.called_enumerate (by decide) (PySem.F.typeCall_enumerate_1 _) (PySem.F.newCall_enumerate_1 _) (fun x => PySem.F.args_object_init_2 x _) PySem.F.entry_enumerate_new (new_rev c l k) ⟨hr, ?_⟩
  have he : IsEnum (s.heap.push { cls := .type "enumerate", data := .fields #[.none, .bool false, .ref c, rawInt 0, .none, .none] }) s.heap.objs.size c 0 .none := Heap.get?_push_size _ rfl
  exact ⟨⟨_, he, rfl⟩, h _ he fun b o x => Heap.get?_push_of_some _ x⟩
theorem ints_cat {vs ws : List Value} {ns ms : List Int} (h : IntsAre vs ns) (g : IntsAre ws ms) : IntsAre (vs ++ ws) (ns ++ ms) := by
  induction h with
  | nil => exact g
  | cons n t _ ih => exact IntsAre.cons n t ih
theorem ints_take : ∀ {vs : List Value} {ns : List Int} (k : Nat), IntsAre vs ns → IntsAre (vs.take k) (ns.take k)
  | _, _, 0, _ => by rw [List.take_zero, List.take_zero]; exact IntsAre.nil
  | _, _, _ + 1, .nil => IntsAre.nil
  | _, _, k + 1, .cons n t h => IntsAre.cons n t (ints_take k h)
theorem ints_drop : ∀ {vs : List Value} {ns : List Int} (k : Nat), IntsAre vs ns → IntsAre (vs.drop k) (ns.drop k)
  | _, _, 0, h => h
  | _, _, _ + 1, .nil => IntsAre.nil
  | _, _, k + 1, .cons _ _ h => ints_drop k h
theorem ints_put {vs : List Value} {ns : List Int} {a k : Int} {t : Tok} (h : IntsAre vs ns) (h0 : 0 ≤ a) : IntsAre (kl_ins vs a (.int k t)) (put ns a k) := by
  unfold kl_ins put
  rw [if_neg (show ¬ a < 0 by omega)]
  have e1 : vs.take (min a.toNat vs.length) = vs.take a.toNat := by
    by_cases g : a.toNat ≤ vs.length
    · rw [Nat.min_eq_left g]
    · rw [Nat.min_eq_right (Nat.le_of_lt (Nat.lt_of_not_le g)), List.take_of_length_le (Nat.le_refl _), List.take_of_length_le (by omega)]
  have e2 : vs.drop (min a.toNat vs.length) = vs.drop a.toNat := by
    by_cases g : a.toNat ≤ vs.length
    · rw [Nat.min_eq_left g]
    · rw [Nat.min_eq_right (Nat.le_of_lt (Nat.lt_of_not_le g)), List.drop_of_length_le (Nat.le_refl _), List.drop_of_length_le (by omega)]
  rw [e1, e2]
  exact ints_cat (ints_take _ h) (IntsAre.cons k t (ints_drop _ h))
theorem ints_back {vs : List Value} {ns : List Int} (h : IntsAre vs ns) : IntsAre vs.reverse ns.reverse := by
  induction h with
  | nil => exact IntsAre.nil
  | cons n t _ ih =>
    rw [List.reverse_cons, List.reverse_cons]; exact ints_cat ih (IntsAre.cons n t IntsAre.nil)
theorem ints_get {vs : List Value} {ns : List Int} (h : IntsAre vs ns) : ∀ (i : Nat) (v : Value), vs[i]? = some v → ∃ a, ns[i]? = some a ∧ ItemKind.int.is a v := by
  induction h with
  | nil => intro i v none; simp at none
  | cons n t _ ih =>
    intro i v e
    cases i with
    | zero =>
      have : v = .int n t := by simpa using e.symm
      exact ⟨n, by simp, t, this⟩
    | succ i => exact ih i v (by simpa using e)
/-- the pairs (j, a), a of the list from behind -/
theorem pair_src {c l e : Addr} {vs : List Value} {ns : List Int} {news : List (Addr × Obj)} (ha : A.handled = none) (hc : s.heap.get? c = some (revObj l ((vs.length : Int) - 1))) (hl : s.heap.IsList l vs.toArray) (he : IsEnum s.heap e c 0 .none) (hi : IntsAre vs ns)
    (hec : e ≠ c) (hel : e ≠ l) (hlc : l ≠ c) (Lf : env.locals ∉ [e, c, l]) (ne : h₀.get? e = none) (nc : h₀.get? c = none) (off : ∀ b ∈ [e, c, l], ∀ q ∈ news, b ≠ q.1)
    (F : Fr h₀ env.locals s.heap m) (N : News h₀ env.locals s.heap news) : PairSrc prog w A E h₀ env ItemKind.int ns.reverse (.ref e) s m news := by
  refine enumSrc (rev_draws (A := A.in1) ha c l hlc vs.toArray) he ⟨Nat.zero_le _, ?_, hl⟩ hec ?_ (by simp) Lf ne nc off ?_ ?_ F N
  · refine ⟨_, hc, rfl, ?_⟩
    show Data.fields #[.ref l, rawInt ((vs.length : Int) - 1)] = _
    simp
  · intro hm
    rcases List.mem_cons.mp hm with x | hm
    · exact hec x
    · exact hel (List.mem_singleton.mp hm)
  · rw [List.size_toArray, List.length_reverse, IntsAre.length hi]
  · intro i x hx
    have lt : i < vs.length := by simpa using hx.1
    refine ints_get (ints_back hi) i x ?_
    rw [List.getElem?_reverse lt]
    simpa using hx.2
theorem upd_in {d : Addr} {o o' : Obj} {post : List (Addr × Obj)} (hp : ∀ p ∈ post, p.1 ≠ d) : ∀ {own : List (Addr × Obj)}, (∀ p ∈ own, p.1 ≠ d) → Upd d o o' (own ++ (d, o) :: post) (own ++ (d, o') :: post)
  | [], _ => Upd.head hp
  | q :: _, h => Upd.tail (h q (List.mem_cons_self ..)) (upd_in hp fun p hm => h p (List.mem_cons_of_mem _ hm))
/-- the loop that puts number after number in at its spot -/
theorem pair_fill {D : Addr} {n0 : Nat} {as : List Int} {rest : List (Addr × Obj)} {xv : Value} {Q : Flow → Shared → Prop} {no sp nu : Str} {p1 p2 p3 p4 p5 p6 : Pos}
    (S : PairSrc prog w A E h₀ env ItemKind.int as xv s m ((D, listOf #[] n0) :: rest)) (ho : m no = some (.ref D)) (hoff : ∀ p ∈ rest, p.1 ≠ D) (hb : ∀ a ∈ as, 0 ≤ a ∧ a ≤ 20) (hlen : as.length ≤ 20)
    (done : ∀ g tk vi vl vs nn, Fr h₀ env.locals g (bindM (bindM m nu vi) sp vl) → News h₀ env.locals g ((D, listOf vs.toArray nn) :: rest) → IntsAre vs (fill [] 0 as) → Q .next { s with heap := g, toks := tk })
    (hk : env.scope.kind = .function) (k1 : env.kindOf no = some .local) (k2 : env.kindOf sp = some .local) (k3 : env.kindOf nu = some .local) (n1 : no ≠ sp) (n2 : no ≠ nu) (n3 : nu ≠ sp)
    (d1 : (no == ("__debug__" : Str)) = false) (d2 : (sp == ("__debug__" : Str)) = false) (d3 : (nu == ("__debug__" : Str)) = false) (hi : interactive env = false)
    (hs : swapsWith (.Call (.Attribute (.Name no p1) (Str.ofString "insert") p2) [.Name sp p3, .Name nu p4] [] p5) none p6.line env = pure false)
    (hbase : attributeBase (.Name no p1) (Str.ofString "insert") env (eval (.Name no p1) env) = eval (.Name no p1) env)
    (hfew : ((backTo p5 (starEach [.Name sp p3, .Name nu p4] env)).all (fun x => !x.1) && (backToKw p5 (keywordEach [] env)).all (fun x => x.1.isSome) && decide ([Expr.Name sp p3, .Name nu p4].length + ([] : List Keyword).length + (if ([] : List Keyword).isEmpty then 0 else 1) < 30)) = true)
    (hline : (p2.endLine == p5.line) = true) (htrees : backTo p5 (starEach [.Name sp p3, .Name nu p4] env) = [(false, eval (.Name sp p3) env), (false, eval (.Name nu p4) env)]) :
    wpAny (model prog w) A (pyIter xv) (fun it s₂ => PairAt3 prog w A h₀ env nu sp [.Expr (.Call (.Attribute (.Name no p1) (Str.ofString "insert") p2) [.Name sp p3, .Name nu p4] [] p5) p6] Q E it s₂) E s := by
  refine S nu sp _ Q (fun i m₁ nx => ∃ vi vl vs nn, m₁ = bindM (bindM m nu vi) sp vl ∧ nx = (D, listOf vs.toArray nn) :: rest ∧ IntsAre vs (fill [] 0 (as.take i))) ⟨m nu, m sp, [], n0, ?_, rfl, IntsAre.nil⟩ ?_ ?_
  · rw [← bindM_start m nu]; exact bindM_start m sp
  · rintro i a t v m₁ news₁ s₁ own ⟨g₁, tk₁, rfl⟩ ha hkv ⟨vi, vl, vs, nn, rfl, rfl, hvs⟩ _ hown F₁ N₁
    rw [bind2_find] at F₁
    obtain ⟨ta, rfl⟩ := ItemKind.int_is hkv
    have lt : i < as.length := by
      rcases Nat.lt_or_ge i as.length with h | h
      · exact h
      · rw [List.getElem?_eq_none h] at ha; cases ha
    have ba := hb a (List.mem_of_getElem? ha)
    have g1 : bindM (bindM m nu (some (.int (i : Int) t))) sp (some (.int a ta)) no = some (.ref D) := by
      unfold bindM; rw [if_neg n1, if_neg n2]; exact ho
    have g2 : bindM (bindM m nu (some (.int (i : Int) t))) sp (some (.int a ta)) sp = some (.int a ta) := by
      unfold bindM; rw [if_pos rfl]
    have g3 : bindM (bindM m nu (some (.int (i : Int) t))) sp (some (.int a ta)) nu = some (.int (i : Int) t) := by
      unfold bindM; rw [if_neg n3, if_pos rfl]
    have hD := N₁ (D, listOf vs.toArray nn) (List.mem_append_right _ (List.mem_cons_self ..))
    have lv : vs.length ≤ 20 := by
      rw [IntsAre.length hvs, fill_length as i (by omega)]; omega
    refine wpAny_execs_cons (wpAny_Expr_any (wpAny_Call_method_late hbase hfew hline htrees (wpAny_Name (wpAny_loadName_local hk k1 F₁.ns g1 ?_) d1)) hi hs)
    refine ⟨"list", "list.insert", PySem.F.plainAttrs_list, PySem.F.slot_list_insert, PySem.F.type_list_insert, ⟨_, hD.1, rfl⟩, (fun b e => by cases e; exact ⟨_, hD.1, rfl⟩), ?_⟩
    refine callWith_builtin rfl (evalArgs_plain (spliced_cons (wpAny_Name (wpAny_loadName_local hk k2 F₁.ns g2 ?_) d2)))
    refine spliced_cons (wpAny_Name (wpAny_loadName_local hk k3 F₁.ns g3 (spliced_nil ?_)) d3)
    have nd : ∀ p ∈ own, p.1 ≠ D := fun p hp => hown p hp (D, listOf #[] n0) (List.mem_cons_self ..)
    refine kl_insert (l := kl_ins vs a (.int (i : Int) t)) (its := vs.toArray) (n := nn) (D := D) (news' := own ++ (D, listOf (kl_ins vs a (.int (i : Int) t)).toArray (nn + 1)) :: rest) F₁ N₁ ?_ rfl (upd_in hoff nd) ?_ ?_
    · show (decide (-(2 ^ 63 : Int) ≤ a) && decide (a < 2 ^ 63)) = true
      rw [decide_eq_true (by omega), decide_eq_true (by omega)]; rfl
    · show vs.length ≤ sizeLine
      rw [PySem.sizeLine_eq]; omega
    · intro g F₂ N₂
      refine wpAny_execs_nil ?_
      refine ⟨rfl, g, _, _, _, rfl, F₂, N₂, rfl, _, _, _, _, rfl, rfl, ?_⟩
      rw [fill_take as i a ha]
      exact ints_put hvs ba.1
  · rintro g tk m' news' F' N' _ ⟨vi, vl, vs, nn, rfl, rfl, hvs⟩
    rw [List.take_length] at hvs
    exact done g tk vi vl vs nn F' N' hvs
structure Filled (ns os : List Int) : Prop where
  eq : os = fill [] 0 ns.reverse
/-- enumerate(reversed(spots)) walked, each number put in at its spot -/
theorem step_order {c l o z : Addr} {vs : List Value} {ns : List Int} {nn n0 : Nat} {zo : Obj} {Q : Flow → Shared → Prop} {no sp nu : Str} {p1 p2 p3 p4 p5 p6 : Pos}
    (F : Fr h₀ env.locals s.heap m) (N : News h₀ env.locals s.heap [(c, revObj l ((vs.length : Int) - 1)), (l, listOf vs.toArray nn), (o, listOf #[] n0), (z, zo)]) (hv : IntsAre vs ns) (ho : m no = some (.ref o))
    (b1 : o < l ∧ z < l) (b2 : z < o) (b3 : l < c ∧ o < c ∧ z < c) (hb : ∀ a ∈ ns, 0 ≤ a ∧ a ≤ 20) (hlen : ns.length ≤ 20) (ha : A.handled = none)
    (hk : env.scope.kind = .function) (k1 : env.kindOf no = some .local) (k2 : env.kindOf sp = some .local) (k3 : env.kindOf nu = some .local) (n1 : no ≠ sp) (n2 : no ≠ nu) (n3 : nu ≠ sp)
    (d1 : (no == ("__debug__" : Str)) = false) (d2 : (sp == ("__debug__" : Str)) = false) (d3 : (nu == ("__debug__" : Str)) = false) (hi : interactive env = false)
    (hs : swapsWith (.Call (.Attribute (.Name no p1) (Str.ofString "insert") p2) [.Name sp p3, .Name nu p4] [] p5) none p6.line env = pure false)
    (hbase : attributeBase (.Name no p1) (Str.ofString "insert") env (eval (.Name no p1) env) = eval (.Name no p1) env)
    (hfew : ((backTo p5 (starEach [.Name sp p3, .Name nu p4] env)).all (fun x => !x.1) && (backToKw p5 (keywordEach [] env)).all (fun x => x.1.isSome) && decide ([Expr.Name sp p3, .Name nu p4].length + ([] : List Keyword).length + (if ([] : List Keyword).isEmpty then 0 else 1) < 30)) = true)
    (hline : (p2.endLine == p5.line) = true) (htrees : backTo p5 (starEach [.Name sp p3, .Name nu p4] env) = [(false, eval (.Name sp p3) env), (false, eval (.Name nu p4) env)])
    (done : ∀ g tk vi vl ws os kk, Fr h₀ env.locals g (bindM (bindM m nu vi) sp vl) → News h₀ env.locals g [(o, listOf ws.toArray kk), (z, zo)] → IntsAre ws os → Filled ns os → os.length ≤ 20 → Q .next { s with heap := g, toks := tk }) :
    wpAny (model prog w) A (call (.type "enumerate") [.ref c]) (fun xv s₁ => wpAny (model prog w) A (pyIter xv) (fun it s₂ => PairAt3 prog w A h₀ env nu sp [.Expr (.Call (.Attribute (.Name no p1) (Str.ofString "insert") p2) [.Name sp p3, .Name nu p4] [] p5) p6] Q E it s₂) E s₁) E s := by
  obtain ⟨b11, b12⟩ := b1
  obtain ⟨b31, b32, b33⟩ := b3
  have Nc := N (c, revObj l ((vs.length : Int) - 1)) (by simp)
  have Nl := N (l, listOf vs.toArray nn) (by simp)
  have lc : c < s.heap.objs.size := Heap.lt_size Nc.1
  have lL : env.locals < s.heap.objs.size := F.ns.lt
  refine enum_rev Nc.1 fun g he keep => ?_
  have F₁ : Fr h₀ env.locals g m := ⟨F.ns.keeps keep, fun b x y => keep b x (F.keep b x y), F.above⟩
  have N₁ : News h₀ env.locals g [(o, listOf #[] n0), (z, zo)] := fun p hp => by
    have q := N p (List.mem_cons_of_mem _ (List.mem_cons_of_mem _ hp))
    exact ⟨keep _ _ q.1, q.2⟩
  have fresh : h₀.get? s.heap.objs.size = none := by
    cases q : h₀.get? s.heap.objs.size with
    | none => rfl
    | some x => exact absurd (Heap.lt_size (F.keep _ _ q)) (Nat.lt_irrefl _)
  have S : PairSrc prog w A E h₀ env ItemKind.int ns.reverse (.ref s.heap.objs.size) { s with heap := g } m [(o, listOf #[] n0), (z, zo)] := by
    refine pair_src (c := c) (l := l) (vs := vs) ha (keep _ _ Nc.1) ⟨_, keep _ _ Nl.1, rfl, nn, rfl⟩ he hv (Nat.ne_of_gt lc) (Nat.ne_of_gt (Nat.lt_trans b31 lc)) (Nat.ne_of_lt b31) ?_ fresh Nc.2.2 ?_ F₁ N₁
    · intro hm
      rcases List.mem_cons.mp hm with x | hm
      · exact Nat.ne_of_lt lL x
      · rcases List.mem_cons.mp hm with x | hm
        · exact Nc.2.1 x.symm
        · exact Nl.2.1 (List.mem_singleton.mp hm).symm
    · have oz : ∀ q ∈ [(o, listOf #[] n0), (z, zo)], q.1 < l := by
        intro q hq
        rcases List.mem_cons.mp hq with x | hq
        · rw [x]; exact b11
        · rw [List.mem_singleton.mp hq]; exact b12
      intro b hb' q hq
      have ql := oz q hq
      rcases List.mem_cons.mp hb' with x | hb'
      · rw [x]; exact Nat.ne_of_gt (Nat.lt_trans ql (Nat.lt_trans b31 lc))
      · rcases List.mem_cons.mp hb' with x | hb'
        · rw [x]; exact Nat.ne_of_gt (Nat.lt_trans ql b31)
        · rw [List.mem_singleton.mp hb']; exact Nat.ne_of_gt ql
  refine pair_fill S ho ?_ ?_ (by rw [List.length_reverse]; exact hlen) ?_ hk k1 k2 k3 n1 n2 n3 d1 d2 d3 hi hs hbase hfew hline htrees
  · intro p hp
    rw [List.mem_singleton.mp hp]
    exact Nat.ne_of_lt b2
  · intro a hm
    exact hb a (List.mem_reverse.mp hm)
  · intro g' tk vi vl ws kk F₂ N₂ hw
    refine done g' tk vi vl ws _ kk F₂ N₂ hw ⟨rfl⟩ ?_
    have q := fill_length ns.reverse ns.reverse.length (Nat.le_refl _)
    rw [List.take_length, List.length_reverse] at q
    rw [q]; exact hlen
end
theorem row_start : (1 : Int) ≤ 1 ∧ Fac ([] : List Int).length 1 := ⟨Int.le_refl _, fac_start0⟩
theorem row_turn {p y q v : Int} {pre : List Int} (F : Fac pre.length p) (M : MulIs p y q) (hy : y = (pre.length : Int) + 1) : (1 : Int) ≤ q ∧ Fac (pre ++ [v]).length q := by
  have hl : (pre ++ [v]).length = pre.length + 1 := by simp
  have t := fac_step F M hy
  rw [hl]
  exact ⟨fac_pos t, t⟩
theorem at_start {n i : Int} (h0 : 0 ≤ i) : (([] : List Int).length = ([] : List Int).length ∧ ([] : List Int).length ≤ 20 ∧ 0 ≤ i ∧ Told n i ([] : List Int).length [] i) := ⟨rfl, by simp, h0, told_start n i⟩
theorem at_turn {n i place y q r s v : Int} {pre spots : List Int} (T : Told n i pre.length spots place) (D : DivIs place y q) (M : ModIs place y r) (hl : spots.length = pre.length) (hm : pre.length < n.toNat) (h20 : n ≤ 20) (h0 : 0 ≤ place) (hy : y = n - (pre.length : Int)) (hr0 : 0 ≤ r) (hr : r < y) (hq : 0 ≤ q)
    (h : (q % 2 = 0 ∧ s = y - 1 - r) ∨ (¬ q % 2 = 0 ∧ s = r)) :
    ((spots ++ [s]).length = (pre ++ [v]).length ∧ (spots ++ [s]).length ≤ 20 ∧ 0 ≤ q ∧ Told n i (pre ++ [v]).length (spots ++ [s]) q) := by
  have e : (pre ++ [v]).length = pre.length + 1 := by simp
  have e2 : (spots ++ [s]).length = spots.length + 1 := by simp
  rw [e, e2]
  exact ⟨by omega, by omega, hq, told_step T hm h20 h0 hy D M hr0 hr hq h⟩
theorem w_two {a b c d x y : Int} {u : Codec.denoteAll []} (h : Codec.withinAll [.int a b, .int c d] (x, y, u) = true) : (a ≤ x ∧ x ≤ b) ∧ c ≤ y ∧ y ≤ d := by
  have h' : ((decide (a ≤ x) && decide (x ≤ b)) && ((decide (c ≤ y) && decide (y ≤ d)) && true)) = true := h
  simpa using h'
theorem said : PySem.Challenge.rw_singlechange_s04_gr_order.wellSaid = true := by decide +kernel
theorem pre_i {n i : Int} (h : PySem.Challenge.rw_singlechange_s04_gr_order.pre [.int n, .int i] = true) : 0 ≤ i := by
  obtain ⟨a, w, q, e⟩ := os_pre said h
  obtain ⟨n', i', u⟩ := a
  have e2 := os_j_int (List.cons.inj (List.cons.inj e).2).1
  have b : (0 : Int) ≤ i' := (w_two (x := n') (y := i') (u := u) w).2.1
  rw [e2]; exact b
theorem no_of {n i p : Int} (F : Fac (rangeKs 0 (n - 0).toNat).length p) (h1 : 1 ≤ n) (h2 : n ≤ 20) (h : p ≤ i) : PySx49.gr_order n i = [-3] := by
  have e := F.eq
  rw [rangeKs_length, Int.sub_zero] at e
  exact order_no h1 h2 (by omega)
theorem yes_of {n i p place : Int} {spots os : List Int} (F : Fac (rangeKs 0 (n - 0).toNat).length p) (T : Told n i (downKs (n - 1) (n - 1 - -1).toNat).length spots place) (O : Filled spots os) (h1 : 1 ≤ n) (h2 : n ≤ 20) (h0 : 0 ≤ i) (h : i < p) : PySx49.gr_order n i = 0 :: os := by
  have e := F.eq
  rw [rangeKs_length, Int.sub_zero] at e
  rw [order_yes h1 h2 (by omega), O.eq, told_end T (by rw [downKs_length]; omega)]
section
open PyProof.Rows PySem.Calls
variable {prog : Program} {w : World} {A : Around} {E : Value → Shared → Prop} {s : Shared} {x y : Int} {t u : Tok} {Q : Value → Shared → Prop}
theorem sz_ints {vs : List Value} {ns : List Int} (h : IntsAre vs ns) (hn : ns.length ≤ 100) : vs.toArray.size ≤ sizeLine := by
  rw [List.size_toArray, IntsAre.length h, PySem.sizeLine_eq]; omega
theorem step_mul (lo : -100 ≤ y) (hi : y ≤ 100) (h : ∀ q, MulIs x y q → Q (.int q s.toks) { s with toks := s.toks + 1 }) :
    wpAny (model prog w) A (binaryOp .Mult (.int x t) (.int y u)) Q E s :=
  PyProof.Rows.mul_int (h _ ⟨rfl⟩) (PySem.IntMulOk.of_right (PySem.intBits_le_64 (by omega) (by omega)))
theorem step_div (lo : 1 ≤ y) (hi : y ≤ 100) (hx : 0 ≤ x) (h : ∀ q, DivIs x y q → 0 ≤ q → Q (.int q s.toks) { s with toks := s.toks + 1 }) :
    wpAny (model prog w) A (binaryOp .FloorDiv (.int x t) (.int y u)) Q E s :=
  PyProof.Rows.floordiv_int (by omega) (h _ ⟨rfl⟩ (by rw [Int.fdiv_eq_ediv_of_nonneg x (by omega)]; exact Int.ediv_nonneg hx (by omega))) (Or.inl (PyProof.noPylong_small (by omega)))
theorem step_mod (lo : 1 ≤ y) (h : ∀ r, ModIs x y r → 0 ≤ r → r < y → Q (.int r s.toks) { s with toks := s.toks + 1 }) :
    wpAny (model prog w) A (binaryOp .Mod (.int x t) (.int y u)) Q E s :=
  PyProof.Rows.mod_int (by omega) (h _ ⟨rfl⟩ (Int.fmod_nonneg_of_pos x (by omega)) (Int.fmod_lt_of_pos x (by omega)))
theorem step_odd (h : ∀ z b, x = 2 * z + b → 0 ≤ b → b < 2 → Q (.int b s.toks) { s with toks := s.toks + 1 }) :
    wpAny (model prog w) A (binaryOp .Mod (.int x t) (.int 2 u)) Q E s := by
  refine PyProof.Rows.mod_int (by decide) ?_
  rw [Int.fmod_eq_emod_of_nonneg x (by decide)]
  exact h (x / 2) (x % 2) (by omega) (by omega) (by omega)
end
end My
open PyProof.Rows
local macro_rules | `(tactic| walk_at "binaryOp Mult int int") => `(tactic| (k_here; (with_reducible refine' My.step_mul ?k1 ?k2 ?_); (case k1 => k_dflt omega); (case k2 => k_dflt omega); intro q' hM'))
local macro_rules | `(tactic| walk_at "binaryOp FloorDiv int int") => `(tactic| (k_here; (with_reducible refine' My.step_div ?k1 ?k2 ?k3 ?_); (case k1 => k_dflt omega); (case k2 => k_dflt omega); (case k3 => k_dflt omega); intro q' hD' hq0'))
local macro_rules | `(tactic| walk_at "binaryOp Mod int int") => `(tactic| (k_here; (with_reducible refine' My.step_mod ?k1 ?_); (case k1 => k_dflt omega); intro r' hM' hr0' hr1'))
local macro_rules | `(tactic| walk_at "binaryOp Mod int int") => `(tactic| (k_here; (with_reducible show wpAny _ _ (binaryOp Operator.Mod (Value.int _ _) (Value.int 2 _)) _ _ _); k_dflt (refine My.step_odd ?_); intro z' b' e' hb0' hb1'))
local macro_rules | `(tactic| walk_at "pyIter ref") => `(tactic| k_extra "pyIter ref")
local macro_rules | `(tactic| size_fits) => `(tactic| exact My.sz_ints (by assumption) (by omega))
local macro_rules | `(tactic| kst_facts1) => `(tactic| exact IntsAre.nil)
local macro_rules | `(tactic| walk_at "exec For Tuple Call") => `(tactic| (k_here; (with_reducible show wpAny _ _ (exec (Stmt.For (Expr.Tuple _ _ _) (Expr.Call (Expr.Name _ _) _ _ _) _ _ _) _) _ _ _); (rename Fr _ _ _ _ => F'); (with_reducible apply For_pair3F); (case _F => with_unfolding_all exact F'); (case hh => with_unfolding_all rfl); (case hxi => with_unfolding_all rfl); (case hxc => with_unfolding_all rfl); (case hp => with_unfolding_all rfl); (case hs => (intro _; with_unfolding_all rfl))))
local macro_rules | `(tactic| walk_at "call type:enumerate") => `(tactic| (k_here; (with_reducible show wpAny _ _ (call (Value.type _) [Value.ref _]) (fun xv s₁ => wpAny _ _ (pyIter xv) (fun it s₂ => PairAt3 _ _ _ _ _ _ _ _ _ _ it s₂) _ s₁) _ _); (rename Fr _ _ _ _ => F'); (rename News _ _ _ _ => N'); (with_unfolding_all refine' My.step_order F' N' ?v ?o ?b1 ?b2 ?b3 ?bb ?ln ?ha ?hk ?k1 ?k2 ?k3 ?n1 ?n2 ?n3 ?d1 ?d2 ?d3 ?hi ?hs ?hbase ?hfew ?hline ?htrees ?_); (case v => assumption); (case o => with_unfolding_all rfl); (case b1 => assumption); (case b2 => assumption); (case b3 => assumption); (case bb => exact My.Told.hb (by assumption)); (case ln => assumption); (case ha => with_unfolding_all rfl); (case hk => with_unfolding_all rfl); (case k1 => with_unfolding_all rfl); (case k2 => with_unfolding_all rfl); (case k3 => with_unfolding_all rfl); (case n1 => decide); (case n2 => decide); (case n3 => decide); (case d1 => decide); (case d2 => decide); (case d3 => decide); (case hi => with_unfolding_all rfl); (case hs => with_unfolding_all rfl); (case hbase => with_unfolding_all rfl); (case hfew => with_unfolding_all rfl); (case hline => with_unfolding_all rfl); (case htrees => with_unfolding_all rfl); clear F' N'; intro g' tk' vi' vl' ws' os' kk' F' N' iW' oF' oL'))
set_option maxRecDepth 100000 in
set_option maxHeartbeats 8000000 in
theorem PySem.Challenge.cw_singlechange_s04_gr_order_holds : PySem.Challenge.rw_singlechange_s04_gr_order.Holds := by
  k_with "state" => first
    | exact My.row_start
    | exact My.row_turn (by assumption) (by assumption) (by omega)
    | exact My.at_start (My.pre_i (by assumption))
    | exact My.at_turn (by assumption) (by assumption) (by assumption) (by assumption) (by omega) (by omega) (by omega) (by omega) (by omega) (by omega) (by omega) (by omega)
  k_with "pyIter ref" => k_state (fun pre p => (1 : Int) ≤ p ∧ My.Fac pre.length p) "length"
  k_with "pyIter ref" => k_state_given ["n", "i"] (fun n i pre spots place => spots.length = pre.length ∧ spots.length ≤ 20 ∧ 0 ≤ place ∧ My.Told n i pre.length spots place) "spots" "place"
  open_ks with [.int 1, .int 0]
  all_goals (os_open My.said with a w q e)
  all_goals (obtain ⟨n, i, u⟩ := a)
  all_goals (have e1 : n = _ := (os_j_int (List.cons.inj e).1).symm)
  all_goals (have e2 : i = _ := (os_j_int (List.cons.inj (List.cons.inj e).2).1).symm)
  all_goals (have b : (0 : Int) ≤ i := (My.w_two (x := n) (y := i) (u := u) w).2.1)
  all_goals (subst e1 e2)
  all_goals (show _ = WData.list ((PySx49.gr_order n i).map WData.int))
  all_goals (refine os_list ?_)
  · rw [My.order_bad (Or.inl (by omega))]; rfl
  · rw [My.order_bad (Or.inr (by omega))]; rfl
  · rw [My.no_of (by assumption) (by omega) (by omega) (by omega)]; rfl
  · rw [My.yes_of (by assumption) (by assumption) (by assumption) (by omega) (by omega) (by omega) (by omega)]; rfl
#print axioms PySem.Challenge.cw_singlechange_s04_gr_order_holds

import PyProof.Rows.All
import KE.OsGo
import KE.OsArgs
import PySem.Challenge.RW_singlechange_s08_gr_order_place
open PySem PySem.W
set_option Elab.async false
namespace My
/-- an order of 0 to n - 1 -/
structure Full (n : Nat) (r : List Nat) : Prop where
  len : r.length = n
  mem : ∀ x, x < n → x ∈ r
theorem full_iff {n : Nat} {r : List Nat} : (r.length == n && (List.range n).all fun (x : Nat) => r.contains x) = true ↔ Full n r := by
  rw [Bool.and_eq_true, beq_iff_eq, List.all_eq_true]
  constructor
  · rintro ⟨a, b⟩
    exact ⟨a, fun x hx => by simpa using b x (List.mem_range.mpr hx)⟩
  · rintro ⟨a, b⟩
    exact ⟨a, fun x hx => by simpa using b x (List.mem_range.mp hx)⟩
theorem full_erase {n : Nat} {r : List Nat} (F : Full (n + 1) r) : Full n (r.erase n) := by
  refine ⟨?_, fun x hx => ?_⟩
  · rw [List.length_erase_of_mem (F.mem n (by omega)), F.len]; omega
  · exact (List.mem_erase_of_ne (by omega)).mpr (F.mem x (by omega))
theorem full_below : ∀ {n : Nat} {r : List Nat}, Full n r → ∀ x ∈ r, x < n
  | 0, r, F, x, hx => by
    have := List.length_eq_zero_iff.mp F.len
    subst this
    cases hx
  | n + 1, r, F, x, hx => by
    by_cases e : x = n
    · omega
    · have := full_below (full_erase F) x ((List.mem_erase_of_ne e).mpr hx)
      omega
theorem full_nodup : ∀ {n : Nat} {r : List Nat}, Full n r → r.Nodup
  | 0, r, F => by
    have := List.length_eq_zero_iff.mp F.len
    subst this
    exact List.nodup_nil
  | n + 1, r, F => by
    have ih := full_nodup (full_erase F)
    have p : r.Perm (n :: r.erase n) := List.perm_cons_erase (F.mem n (by omega))
    refine p.nodup_iff.mpr (List.nodup_cons.mpr ⟨fun h => ?_, ih⟩)
    have := full_below (full_erase F) n h
    omega
theorem idx_le {n : Nat} {r : List Nat} (F : Full (n + 1) r) : r.idxOf n ≤ n := by
  have h := List.idxOf_lt_length_of_mem (F.mem n (by omega))
  rw [F.len] at h
  omega
theorem orderPlace_succ (n : Nat) (r : List Nat) : Sx49.orderPlace (n + 1) r = Sx49.orderPlace n (r.erase n) * (n + 1) + (if Sx49.orderPlace n (r.erase n) % 2 = 0 then n - r.idxOf n else r.idxOf n) := rfl
theorem orderPlace_bad {n : Int} {r : List Int} (h : n < 1 ∨ 20 < n) : PySx49.gr_order_place n r = [-2] := by
  have e : Sv52.orderOk n = false := by
    unfold Sv52.orderOk Sv52.within
    rw [Bool.and_eq_false_iff]
    rcases h with h | h
    · exact Or.inl (decide_eq_false (by omega))
    · exact Or.inr (decide_eq_false (by omega))
  show ((Sx49.does (.orderPlace n (Sx49Neutral.nats r))).v :: (Sx49.does (.orderPlace n (Sx49Neutral.nats r))).l.map fun (y : Nat) => (y : Int)) = [-2]
  have d : Sx49.does (.orderPlace n (Sx49Neutral.nats r)) = Sv52.ok (-2) := if_pos e
  rw [d]; rfl
theorem orderPlace_told {n : Int} (r : List Nat) (h1 : 1 ≤ n) (h2 : n ≤ 20) : Sx49.does (.orderPlace n r) = Sx49.told (r.length == n.toNat && (List.range n.toNat).all fun (x : Nat) => r.contains x) [Sx49.orderPlace n.toNat r] := by
  have e : Sv52.orderOk n = true := by
    unfold Sv52.orderOk Sv52.within
    rw [decide_eq_true h1, decide_eq_true h2]; rfl
  exact if_neg (by rw [e]; decide)
theorem orderPlace_no {n : Int} {r : List Int} (h1 : 1 ≤ n) (h2 : n ≤ 20) (h : ¬ Full n.toNat (Sx49Neutral.nats r)) : PySx49.gr_order_place n r = [-3] := by
  show ((Sx49.does (.orderPlace n (Sx49Neutral.nats r))).v :: (Sx49.does (.orderPlace n (Sx49Neutral.nats r))).l.map fun (y : Nat) => (y : Int)) = [-3]
  rw [orderPlace_told _ h1 h2]
  rw [Bool.eq_false_iff.mpr fun e => h (full_iff.mp e)]; rfl
theorem orderPlace_yes {n : Int} {r : List Int} (h1 : 1 ≤ n) (h2 : n ≤ 20) (h : Full n.toNat (Sx49Neutral.nats r)) : PySx49.gr_order_place n r = [0, ((Sx49.orderPlace n.toNat (Sx49Neutral.nats r) : Nat) : Int)] := by
  show ((Sx49.does (.orderPlace n (Sx49Neutral.nats r))).v :: (Sx49.does (.orderPlace n (Sx49Neutral.nats r))).l.map fun (y : Nat) => (y : Int)) = _
  rw [orderPlace_told _ h1 h2, full_iff.mpr h]; rfl
theorem nats_length (l : List Int) : (Sx49Neutral.nats l).length = l.length := by
  unfold Sx49Neutral.nats; rw [List.length_map]
theorem nats_cons (a : Int) (l : List Int) : Sx49Neutral.nats (a :: l) = a.toNat :: Sx49Neutral.nats l := rfl
/-- how many smaller ones stand ahead of k -/
def spot (l : List Int) (k : Int) : Int := (((l.take (l.idxOf k)).filter fun x => decide (x < k)).length : Nat)
/-- the smaller ones, in their order -/
def low (m : Nat) (r : List Nat) : List Nat := r.filter fun x => decide (x < m)
theorem low_erase {m : Nat} {r : List Nat} (h : r.Nodup) : (low (m + 1) r).erase m = low m r := by
  unfold low
  rw [List.Nodup.erase_eq_filter (List.Pairwise.filter _ h), List.filter_filter]
  refine List.filter_congr fun x _ => ?_
  rw [Bool.eq_iff_iff]
  simp only [Bool.and_eq_true, bne_iff_ne, decide_eq_true_eq]
  omega
theorem idx_head {m : Nat} {r : List Nat} : (m :: r).idxOf m = 0 := by simp
theorem idx_tail {a m : Nat} {r : List Nat} (h : a ≠ m) : (a :: r).idxOf m = r.idxOf m + 1 := by
  rw [List.idxOf_cons]
  have : (a == m) = false := by simpa using h
  rw [this]; rfl
theorem idx_headI {m : Int} {r : List Int} : (m :: r).idxOf m = 0 := by simp
theorem idx_tailI {a m : Int} {r : List Int} (h : a ≠ m) : (a :: r).idxOf m = r.idxOf m + 1 := by
  rw [List.idxOf_cons]
  have : (a == m) = false := by simpa using h
  rw [this]; rfl
theorem spot_low {m : Nat} : ∀ {l : List Int}, (∀ d ∈ l, 0 ≤ d) → (m : Int) ∈ l → spot l (m : Int) = (((low (m + 1) (Sx49Neutral.nats l)).idxOf m : Nat) : Int)
  | [], _, h => nomatch h
  | a :: l, h0, h => by
    have ha := h0 a (List.mem_cons_self ..)
    by_cases e : a = (m : Int)
    · subst e
      unfold spot low
      rw [idx_headI, nats_cons, Int.toNat_natCast, List.filter_cons_of_pos (by simp), idx_head]
      rfl
    · have hm : (m : Int) ∈ l := by
        rcases List.mem_cons.mp h with q | q
        · exact absurd q.symm e
        · exact q
      have ih := spot_low (l := l) (fun d hd => h0 d (List.mem_cons_of_mem _ hd)) hm
      unfold spot low at ih ⊢
      rw [idx_tailI e, List.take_succ_cons, nats_cons]
      by_cases lt : a < (m : Int)
      · rw [List.filter_cons_of_pos (by simpa using lt), List.filter_cons_of_pos (by simp; omega), idx_tail (by omega), List.length_cons]
        omega
      · rw [List.filter_cons_of_neg (by simpa using lt), List.filter_cons_of_neg (by simp; omega)]
        exact ih
theorem low_mem {m x : Nat} {r : List Nat} : x ∈ low m r ↔ x ∈ r ∧ x < m := by
  unfold low
  rw [List.mem_filter]
  simp
theorem low_full {n : Nat} {r : List Nat} (F : Full n r) : ∀ m, m ≤ n → Full (n - m) (low (n - m) r)
  | 0, _ => by
    have e : low n r = r := List.filter_eq_self.mpr fun x hx => decide_eq_true (full_below F x hx)
    rw [Nat.sub_zero, e]; exact F
  | m + 1, h => by
    have ih := low_full F m (by omega)
    have e : n - m = (n - (m + 1)) + 1 := by omega
    rw [e] at ih
    have t := full_erase ih
    rw [low_erase (full_nodup F)] at t
    exact t
theorem low_all {n : Nat} {r : List Nat} (F : Full n r) : low n r = r := List.filter_eq_self.mpr fun x hx => decide_eq_true (full_below F x hx)
/-- an order of 0 to n - 1, of whole numbers -/
structure Ord (n : Int) (l : List Int) : Prop where
  full : Full n.toNat (Sx49Neutral.nats l)
  low : ∀ d ∈ l, 0 ≤ d
theorem ord_mem {n k : Int} {l : List Int} (O : Ord n l) (h0 : 0 ≤ k) (h : k < n) : k ∈ l := by
  have m := O.full.mem k.toNat (by omega)
  unfold Sx49Neutral.nats at m
  obtain ⟨z, hz, e⟩ := List.mem_map.mp m
  have z0 := O.low z hz
  have : z = k := by
    have e' : z.toNat = k.toNat := e
    omega
  rw [← this]; exact hz
/-- the loop: the place of the order of the numbers below m -/
structure Stands (l : List Int) (m : Nat) (place : Int) : Prop where
  eq : place = ((Sx49.orderPlace m (low m (Sx49Neutral.nats l)) : Nat) : Int)
structure MulIs (x y q : Int) : Prop where
  eq : q = x * y
theorem stands_start0 (l : List Int) : Stands l 0 0 := ⟨rfl⟩
theorem spot_in {n : Int} {l : List Int} {m : Nat} (O : Ord n l) (h : (m : Int) < n) : 0 ≤ spot l (m : Int) ∧ spot l (m : Int) ≤ (m : Int) := by
  have e := spot_low O.low (ord_mem O (by omega) h)
  have f := low_full O.full (n.toNat - (m + 1)) (by omega)
  rw [show n.toNat - (n.toNat - (m + 1)) = m + 1 by omega] at f
  have i := idx_le f
  omega
theorem stands_step {n place q step r : Int} {l : List Int} {m : Nat} (O : Ord n l) (S : Stands l m place) (h : (m : Int) < n) (M : MulIs place ((m : Int) + 1) q) (hr : r = q + step)
    (hs : (place % 2 = 0 ∧ step = (m : Int) - spot l (m : Int)) ∨ (¬ place % 2 = 0 ∧ step = spot l (m : Int))) : Stands l (m + 1) r := by
  refine ⟨?_⟩
  have e := spot_low O.low (ord_mem O (by omega) h)
  have b := spot_in O h
  have p := S.eq
  have d : low m (Sx49Neutral.nats l) = (low (m + 1) (Sx49Neutral.nats l)).erase m := (low_erase (full_nodup O.full)).symm
  rw [d] at p
  rw [orderPlace_succ]
  have mq : q = ((Sx49.orderPlace m ((low (m + 1) (Sx49Neutral.nats l)).erase m) * (m + 1) : Nat) : Int) := by
    rw [M.eq, p, Int.natCast_mul, Int.natCast_add]; rfl
  generalize Sx49.orderPlace m ((low (m + 1) (Sx49Neutral.nats l)).erase m) = P at *
  generalize P * (m + 1) = D at *
  generalize (low (m + 1) (Sx49Neutral.nats l)).idxOf m = I at *
  rcases hs with ⟨a, c⟩ | ⟨a, c⟩
  · rw [if_pos (by omega)]; omega
  · rw [if_neg (by omega)]; omega
theorem stands_end {n place : Int} {l : List Int} (O : Ord n l) (S : Stands l n.toNat place) : ((Sx49.orderPlace n.toNat (Sx49Neutral.nats l) : Nat) : Int) = place := by
  have e := S.eq
  rw [low_all O.full] at e
  exact e.symm
theorem stands_nonneg {place : Int} {l : List Int} {m : Nat} (S : Stands l m place) : 0 ≤ place := by
  rw [S.eq]; exact Int.natCast_nonneg _
/-- 0, 1 and so on, n of them -/
def ups (n : Nat) : List Int := (List.range n).map fun (i : Nat) => (0 : Int) + (i : Int)
theorem ups_mem {n : Nat} {x : Int} : x ∈ ups n ↔ 0 ≤ x ∧ x < (n : Int) := by
  unfold ups
  rw [List.mem_map]
  constructor
  · rintro ⟨i, hi, rfl⟩
    have := List.mem_range.mp hi
    omega
  · rintro ⟨h0, h1⟩
    exact ⟨x.toNat, List.mem_range.mpr (by omega), by omega⟩
theorem ups_length (n : Nat) : (ups n).length = n := by simp [ups]
theorem ups_rise (n : Nat) : (ups n).Pairwise (· ≤ ·) := by
  unfold ups
  rw [List.pairwise_map]
  refine List.Pairwise.imp (fun {a b} (h : a < b) => ?_) List.pairwise_lt_range
  show (0 : Int) + (a : Int) ≤ 0 + (b : Int)
  omega
theorem full_perm : ∀ {n : Nat} {r : List Nat}, Full n r → r.Perm (List.range n)
  | 0, r, F => by
    have := List.length_eq_zero_iff.mp F.len
    subst this
    exact List.Perm.refl _
  | n + 1, r, F => by
    have p : r.Perm (n :: r.erase n) := List.perm_cons_erase (F.mem n (by omega))
    have q := (full_perm (full_erase F)).cons n
    rw [List.range_succ]
    exact (p.trans q).trans (List.perm_append_singleton n (List.range n)).symm
theorem back_ints : ∀ {l : List Int}, (∀ d ∈ l, 0 ≤ d) → (Sx49Neutral.nats l).map (fun (i : Nat) => (0 : Int) + (i : Int)) = l
  | [], _ => rfl
  | a :: l, h => by
    rw [nats_cons, List.map_cons, back_ints fun d hd => h d (List.mem_cons_of_mem _ hd)]
    have := h a (List.mem_cons_self ..)
    have e : (0 : Int) + ((a.toNat : Nat) : Int) = a := by omega
    rw [e]
theorem full_ups {n : Nat} {l : List Int} (h : ∀ d ∈ l, 0 ≤ d) (F : Full n (Sx49Neutral.nats l)) : l.Perm (ups n) := by
  have p := (full_perm F).map fun (i : Nat) => (0 : Int) + (i : Int)
  rw [back_ints h] at p
  exact p
theorem ord_of {n : Int} {m : Nat} {l s : List Int} (p : s.Perm l) (e : s = ups m) (hm : n.toNat = m) : Ord n l := by
  subst e
  subst hm
  refine ⟨⟨?_, fun x hx => ?_⟩, fun d hd => (ups_mem.mp (p.mem_iff.mpr hd)).1⟩
  · rw [nats_length, ← p.length_eq, ups_length]
  · have q : (x : Int) ∈ l := p.mem_iff.mp (ups_mem.mpr (by omega))
    exact List.mem_map.mpr ⟨(x : Int), q, Int.toNat_natCast x⟩
theorem one_row {s t : List Int} (p : s.Perm t) (hs : s.Pairwise (· ≤ ·)) (ht : t.Pairwise (· ≤ ·)) : s = t :=
  List.Perm.eq_of_pairwise (le := (· ≤ ·)) (fun _ _ _ _ h1 h2 => Int.le_antisymm h1 h2) hs ht p
theorem not_ord {n : Int} {m : Nat} {l s : List Int} (p : s.Perm l) (o : s.Pairwise (· ≤ ·)) (h : ∀ d ∈ l, 0 ≤ d) (ne : ¬ s = ups m) (hm : n.toNat = m) : ¬ Full n.toNat (Sx49Neutral.nats l) := fun F => by
  subst hm
  exact ne (one_row (p.trans (full_ups h F)) o (ups_rise _))
theorem asked_parts {n : Int} {l : List Int} (h : PySx49.gr_order_place_asked n l = true) : (∀ d ∈ l, 0 ≤ d) ∧ (l.length : Int) = if Sv52.orderOk n = true then n else 0 := by
  have h' : ((Sx49Neutral.whole32 n && (l.all (fun (z : Int) => Sx49Neutral.natural z 8) && decide ((l.length : Int) = if Sv52.orderOk n = true then n else 0))) && decide ((Sx49Neutral.f [[7, n], l]).length < 1000000)) = true := h
  rw [Bool.and_eq_true, Bool.and_eq_true, Bool.and_eq_true (l.all _)] at h'
  refine ⟨fun d hd => ?_, of_decide_eq_true h'.1.2.2⟩
  have t := List.all_eq_true.mp h'.1.2.1 d hd
  unfold Sx49Neutral.natural at t
  rw [Bool.and_eq_true] at t
  exact of_decide_eq_true t.1
theorem asked_len {n : Int} {l : List Int} (h : PySx49.gr_order_place_asked n l = true) (h1 : 1 ≤ n) (h2 : n ≤ 20) : (l.length : Int) = n := by
  have e : Sv52.orderOk n = true := by
    unfold Sv52.orderOk Sv52.within
    rw [decide_eq_true h1, decide_eq_true h2]; rfl
  have t := (asked_parts h).2
  rw [if_pos e] at t
  exact t
theorem said : PySem.Challenge.rw_singlechange_s08_gr_order_place.wellSaid = true := by decide +kernel
theorem pre_asked {n : Int} {l : List Int} (h : PySem.Challenge.rw_singlechange_s08_gr_order_place.pre [.int n, ofPy (.list (l.map PyData.int))] = true) : PySx49.gr_order_place_asked n l = true := by
  obtain ⟨a, w, q, e⟩ := os_pre said h
  obtain ⟨n', l', u⟩ := a
  have e1 : n' = _ := (os_j_int (List.cons.inj e).1).symm
  have e2 : l' = _ := (os_j_ints (List.cons.inj (List.cons.inj e).2).1).symm
  subst e1 e2
  exact q
theorem pre_few {n : Int} {l : List Int} (h : PySem.Challenge.rw_singlechange_s08_gr_order_place.pre [.int n, ofPy (.list (l.map PyData.int))] = true) (h1 : 1 ≤ n) (h2 : n ≤ 20) : l.length < 64 := by
  have := asked_len (pre_asked h) h1 h2
  omega
/-- the number is in the list, which is short -/
structure Here (l : List Int) (k : Int) : Prop where
  mem : k ∈ l
  few : l.length ≤ 20
/-- a name for the list that was handed in -/
theorem name_it {s l : List Int} (_p : s.Perm l) : ∃ o, o = l := ⟨l, rfl⟩
theorem here_of {n k : Int} {o l : List Int} (O : Ord n o) (e : o = l) (h0 : 0 ≤ k) (h : k < n) (h2 : n ≤ 20) : Here l k := by
  subst e
  refine ⟨ord_mem O h0 h, ?_⟩
  have := O.full.len
  rw [nats_length] at this
  omega
theorem stands_start {n : Int} {m : Nat} {o l s : List Int} (d : o = l) (p : s.Perm l) (e : s = rangeKs 0 m) (hm : n.toNat = m) : (0 : Int) ≤ 0 ∧ Ord n o ∧ Stands o ([] : List Int).length 0 := by
  subst d
  exact ⟨Int.le_refl _, ord_of p e hm, stands_start0 o⟩
structure SpotIs (l : List Int) (k z : Int) : Prop where
  eq : z = spot l k
theorem stands_even {n place q k y z b r v x : Int} {o l pre : List Int} (O : Ord n o) (S : Stands o pre.length place) (M : MulIs place y q) (e : place = 2 * z + b) (Z : SpotIs l k x) (hr : r = q + (k - x)) (d : o = l) (hy : y = (pre.length : Int) + 1) (hk : k = (pre.length : Int)) (h : k < n) (hb : b = 0) :
    0 ≤ r ∧ Ord n o ∧ Stands o (pre ++ [v]).length r := by
  have hl : (pre ++ [v]).length = pre.length + 1 := by simp
  subst d hy hk
  rw [Z.eq] at hr
  have t := stands_step O S h M hr (Or.inl ⟨by omega, rfl⟩)
  rw [hl]
  exact ⟨stands_nonneg t, O, t⟩
theorem stands_odd {n place q k y z b r v x : Int} {o l pre : List Int} (O : Ord n o) (S : Stands o pre.length place) (M : MulIs place y q) (e : place = 2 * z + b) (Z : SpotIs l k x) (hr : r = q + x) (d : o = l) (hy : y = (pre.length : Int) + 1) (hk : k = (pre.length : Int)) (h : k < n) (hb0 : 0 ≤ b) (hb1 : b < 2) (hb : ¬ b = 0) :
    0 ≤ r ∧ Ord n o ∧ Stands o (pre ++ [v]).length r := by
  have hl : (pre ++ [v]).length = pre.length + 1 := by simp
  subst d hy hk
  rw [Z.eq] at hr
  have t := stands_step O S h M hr (Or.inr ⟨by omega, rfl⟩)
  rw [hl]
  exact ⟨stands_nonneg t, O, t⟩
theorem no_of {n : Int} {m : Nat} {l s : List Int} (q : PySx49.gr_order_place_asked n l = true) (p : s.Perm l) (o : s.Pairwise (· ≤ ·)) (ne : ¬ s = rangeKs 0 m) (hm : n.toNat = m) (h1 : 1 ≤ n) (h2 : n ≤ 20) : PySx49.gr_order_place n l = [-3] :=
  orderPlace_no h1 h2 (not_ord p o (asked_parts q).1 ne hm)
theorem yes_of {n place : Int} {o l : List Int} (O : Ord n o) (S : Stands o (rangeKs 0 (n - 0).toNat).length place) (d : o = l) (h1 : 1 ≤ n) (h2 : n ≤ 20) : PySx49.gr_order_place n l = [0, place] := by
  subst d
  rw [rangeKs_length, Int.sub_zero] at S
  rw [orderPlace_yes h1 h2 O.full, stands_end O S]
open PySem.Calls PyProof.Rows
section
variable {prog : Program} {w : World} {A : Around} {E : Value → Shared → Prop} {s : Shared} {x y : Int} {t u : Tok} {Q : Value → Shared → Prop}
theorem sz_ord {vs : List Value} {ns o : List Int} {n : Int} (h : IntsAre vs ns) (O : Ord n o) (e : o = ns) (h2 : n ≤ 20) : vs.toArray.size ≤ sizeLine := by
  subst e
  have := O.full.len
  rw [nats_length] at this
  rw [List.size_toArray, IntsAre.length h, PySem.sizeLine_eq]; omega
theorem sz_part {ws : List Value} {ms ns o : List Int} {n : Int} (h : IntsAre ws ms) (le : ms.length ≤ ns.length) (O : Ord n o) (e : o = ns) (h2 : n ≤ 20) : ws.toArray.size ≤ sizeLine := by
  subst e
  have := O.full.len
  rw [nats_length] at this
  rw [List.size_toArray, IntsAre.length h, PySem.sizeLine_eq]; omega
theorem sz_len {ms ns o : List Int} {n : Int} (le : ms.length ≤ ns.length) (O : Ord n o) (e : o = ns) (h2 : n ≤ 20) : ms.length ≤ sizeLine := by
  subst e
  have := O.full.len
  rw [nats_length] at this
  rw [PySem.sizeLine_eq]; omega
/-- len of the smaller ones ahead of k -/
theorem step_count {D : Addr} {ys : List Value} {l o : List Int} {k n : Int} (hl : s.heap.IsList D ys.toArray) (hc : CarriedAll ys (List.map PyData.int (List.filter (fun a => decide (a < k)) (List.take ((l.idxOf k : Nat) : Int).toNat l)))) (O : Ord n o) (e : o = l) (h2 : n ≤ 20)
    (h : ∀ z, SpotIs l k z → 0 ≤ z → Q (.int z (s.toks + 1)) { s with toks := s.toks + 1 + 1 }) : wpAny (model prog w) A (call (.builtin "len") [.ref D]) Q E s := by
  subst e
  have len := CarriedAll.length_eq hc
  rw [List.length_map, Int.toNat_natCast] at len
  have few := O.full.len
  rw [nats_length] at few
  have a := List.length_filter_le (fun a => decide (a < k)) (List.take (o.idxOf k) o)
  rw [List.length_take] at a
  have same : ys.toArray.size = ys.length := List.size_toArray
  refine len_list hl (by omega) (h _ ⟨?_⟩ (Int.natCast_nonneg _))
  unfold spot
  rw [same, len]
theorem step_mul (lo : -100 ≤ y) (hi : y ≤ 100) (h : ∀ q, MulIs x y q → Q (.int q s.toks) { s with toks := s.toks + 1 }) :
    wpAny (model prog w) A (binaryOp .Mult (.int x t) (.int y u)) Q E s :=
  PyProof.Rows.mul_int (h _ ⟨rfl⟩) (PySem.IntMulOk.of_right (PySem.intBits_le_64 (by omega) (by omega)))
theorem step_odd (h : ∀ z b, x = 2 * z + b → 0 ≤ b → b < 2 → Q (.int b s.toks) { s with toks := s.toks + 1 }) :
    wpAny (model prog w) A (binaryOp .Mod (.int x t) (.int 2 u)) Q E s := by
  refine PyProof.Rows.mod_int (by decide) ?_
  rw [Int.fmod_eq_emod_of_nonneg x (by decide)]
  exact h (x / 2) (x % 2) (by omega) (by omega) (by omega)
/-- order.index, of the list that was handed in: it has no dict -/
theorem step_method {P : Params} {B0 : Around} {base g : Heap} {outer : List Env} {L a : Addr} {m : Str → Option Value} {ds : List PyData} {pl : Sem Bool} {R : Value × List Value → Shared → Prop} (F : Fr g L s.heap m) (W : Well P base (.ref a) (ofPy (.list ds))) (B : Below B0 base outer g)
    (h : R (.builtin "list.index", [.ref a]) s) : wpAny (model prog w) A (getMethod (.ref a) (Str.ofString "index") pl) R E s := by
  have W' : Well P base (.ref a) (.list (ofPys ds)) := W
  cases W' with
  | list e _ =>
    have now := F.keep _ _ (B.stays _ _ e)
    exact getMethod_builtin ⟨_, now, rfl⟩ PySem.F.plainAttrs_list PySem.F.slot_list_index PySem.F.type_list_index (fun b eb => by cases eb; exact ⟨_, now, rfl⟩) h
/-- order.index(number), where the number is in it -/
theorem step_index {a : Addr} {vs : List Value} {ns : List Int} {k : Int} (hl : s.heap.IsList a vs.toArray) (hi : IntsAre vs ns) (H : Here ns k) (h : Q (.int ((ns.idxOf k : Nat) : Int) s.toks) { s with toks := s.toks + 1 }) :
    wpAny (model prog w) A (call (.builtin "list.index") [.ref a, .int k t]) Q E s := by
  obtain ⟨⟨cls, dict, data, slots⟩, stands, isCls, cnt, isData⟩ := id hl
  dsimp only at isCls isData
  subst isCls isData
  have same := IntsAre.length hi
  have inside : ns.idxOf k < ns.length := List.idxOf_lt_length_iff.mpr H.mem
  have few := H.few
  have within : ns.idxOf k < vs.toArray.size := by rw [List.size_toArray]; omega
  refine call_meets PySem.F.slot_list_index ⟨_, stands, rfl⟩ PySem.F.entry_list_index (PySem.F.args_list_index_2 ..) (PySem.SeqAt.list_indexAt a vs.toArray cnt dict slots (.int k t) (isInt k) (ns.idxOf k) within (by omega) ?_ ?_) ⟨stands, fun v hv => (eq_isInt k t hi v (by simpa using hv)).at _ _, h⟩
  · show isInt k (vs[ns.idxOf k]) = true
    rw [isInt_at k hi _ (by omega) inside]
    simpa using List.getElem_idxOf inside
  · intro i hs lt
    show isInt k vs[i] = false
    rw [isInt_at k hi i (by simpa using hs) (by omega)]
    exact ne_of_lt_idxOf lt _
end
end My
open PyProof.Rows
local macro_rules | `(tactic| walk_at "binaryOp Mult int int") => `(tactic| (k_here; (with_reducible refine' My.step_mul ?k1 ?k2 ?_); (case k1 => k_dflt omega); (case k2 => k_dflt omega); intro q' hM'))
local macro_rules | `(tactic| walk_at "binaryOp Mod int int") => `(tactic| (k_here; (with_reducible show wpAny _ _ (binaryOp Operator.Mod (Value.int _ _) (Value.int 2 _)) _ _ _); k_dflt (refine My.step_odd ?_); intro z' b' e' hb0' hb1'))
local macro_rules | `(tactic| walk_at "getMethod ref") => `(tactic| (k_here; (with_reducible show wpAny _ _ (getMethod (Value.ref _) (Str.ofString "index") _) _ _ _); (with_unfolding_all refine' My.step_method ?f ?w ?b ?_); (case f => assumption); (case w => assumption); (case b => assumption)))
local macro_rules | `(tactic| walk_at "call builtin:list.index") => `(tactic| (k_here; (with_reducible show wpAny _ _ (call (Value.builtin _) [Value.ref _, Value.int _ _]) _ _ _); (with_unfolding_all refine' My.step_index ?l ?i ?H ?_); (case l => is_list); (case i => assumption); (case H => exact My.here_of (by assumption) (by first | rfl | assumption) (by omega) (by omega) (by omega))))
local macro_rules | `(tactic| walk_at "call builtin:len") => `(tactic| (k_here; (with_reducible show wpAny _ _ (call (Value.builtin "len") [Value.ref _]) _ _ _); (with_unfolding_all refine' My.step_count ?l ?c ?o ?e ?n ?_); (case l => assumption); (case c => assumption); (case o => assumption); (case e => first | rfl | assumption); (case n => omega); intro z' hZ' hz0'))
local macro_rules | `(tactic| walk_at "call builtin:sorted") => `(tactic| (k_here; (with_reducible show wpAny _ _ (call (Value.builtin _) [Value.ref _]) _ _ _); (rename Fr _ _ _ _ => F'); (with_unfolding_all refine' kso_sorted F' PyProof.Rows.News.nil ?l ?i ?z ?_); (case l => is_list); (case i => assumption); (case z => exact My.pre_few (by assumption) (by omega) (by omega)); clear F'; intro D' v' n' c' h' F' N' l1 i' e' p' o' b'; clear b'; (try k_lt l1); (try k_sweep)))
local macro_rules | `(tactic| size_fits) => `(tactic| first | exact My.sz_ord (by assumption) (by assumption) (by first | rfl | assumption) (by omega) | exact My.sz_part (by assumption) (by assumption) (by assumption) (by first | rfl | assumption) (by omega) | exact My.sz_len (by assumption) (by assumption) (by first | rfl | assumption) (by omega))
local macro_rules | `(tactic| walk_at "pyIter ref") => `(tactic| k_extra "pyIter ref")
set_option maxRecDepth 100000 in
set_option maxHeartbeats 8000000 in
theorem PySem.Challenge.cw_singlechange_s08_gr_order_place_holds : PySem.Challenge.rw_singlechange_s08_gr_order_place.Holds := by
  k_with "state" => first
    | exact My.stands_start (by assumption) (by assumption) (by assumption) (by omega)
    | exact My.stands_even (by assumption) (by assumption) (by assumption) (by assumption) (by assumption) rfl (by first | rfl | assumption) (by omega) (by omega) (by omega) (by omega)
    | exact My.stands_odd (by assumption) (by assumption) (by assumption) (by assumption) (by assumption) rfl (by first | rfl | assumption) (by omega) (by omega) (by omega) (by omega) (by omega) (by omega)
  k_with "pyIter ref" => ((obtain ⟨ord, hOrd⟩ := My.name_it (by assumption)); k_state_given ["n"] (fun n pre place => 0 ≤ place ∧ My.Ord n ord ∧ My.Stands ord pre.length place) "place")
  open_ks with [.int 1, .list [.int 0]]
  all_goals (os_open My.said with a w q e)
  all_goals (obtain ⟨n, l, u⟩ := a)
  all_goals (have e1 : n = _ := (os_j_int (List.cons.inj e).1).symm)
  all_goals (have e2 : l = _ := (os_j_ints (List.cons.inj (List.cons.inj e).2).1).symm)
  all_goals (subst e1 e2)
  all_goals (show _ = WData.list ((PySx49.gr_order_place n l).map WData.int))
  all_goals (refine os_list ?_)
  · rw [My.orderPlace_bad (Or.inl (by omega))]; rfl
  · rw [My.orderPlace_bad (Or.inr (by omega))]; rfl
  · rw [My.yes_of (n := n) (by assumption) (by assumption) (by first | rfl | assumption) (by omega) (by omega)]; rfl
  · rw [My.no_of (n := n) q (by assumption) (by assumption) (by assumption) (by omega) (by omega) (by omega)]; rfl
#print axioms PySem.Challenge.cw_singlechange_s08_gr_order_place_holds

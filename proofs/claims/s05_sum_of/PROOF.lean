import PyProof.Rows.All
import KE.OsGo
import KE.OsArgs
import PySem.Challenge.RW_ahmesparts_s05_sum_of
open PySem PySem.W
set_option Elab.async false
theorem said : PySem.Challenge.rw_ahmesparts_s05_sum_of.wellSaid = true := by decide +kernel
namespace Ah
theorem sumOf_snoc : ∀ (l : List Nat) (x : Nat), Sw41.sumOf (l ++ [x]) = ((Sw41.sumOf l).1 * x + (Sw41.sumOf l).2, (Sw41.sumOf l).2 * x)
  | [], x => by simp [Sw41.sumOf]
  | y :: r, x => by
    rw [List.cons_append, Sw41.sumOf, Sw41.sumOf, sumOf_snoc r x]
    simp only [Nat.add_mul, Prod.mk.injEq]
    constructor
    · rw [Nat.mul_right_comm _ x y, Nat.add_assoc, Nat.add_assoc, Nat.add_comm (_ * y) (_ * x)]
    · exact Nat.mul_right_comm _ _ _
theorem sumOf_pos : ∀ (l : List Nat), (∀ x, x ∈ l → 0 < x) → 0 < (Sw41.sumOf l).2
  | [], _ => Nat.one_pos
  | y :: r, h => Nat.mul_pos (sumOf_pos r fun x hx => h x (List.mem_cons_of_mem y hx)) (h y (List.mem_cons_self))
theorem s_bad {parts : List Int} (h : ∃ x, x ∈ parts ∧ x ≤ 0) : [-2] = PySw41.sum_of parts := by
  have k : Sw41.sums (Sw41Neutral.nats parts) (parts.length : Int) = false := by
    unfold Sw41.sums
    rw [Bool.and_eq_false_iff]
    right
    rw [List.all_eq_false]
    obtain ⟨x, hx, h0⟩ := h
    refine ⟨x.toNat, List.mem_map_of_mem hx, ?_⟩
    rw [decide_eq_true_eq]
    omega
  show [-2] = (Sw41.worked (.sum (Sw41Neutral.nats parts) (parts.length : Int))).code :: Sw41Neutral.ints (Sw41.worked (.sum (Sw41Neutral.nats parts) (parts.length : Int))).out
  unfold Sw41.worked
  dsimp only
  rw [if_pos k]
  rfl
/-- the request's own bounds -/
structure Asked (ns : List Int) : Prop where
  len : ns.length ≤ 16
  item : ∀ x, x ∈ ns → 0 ≤ x ∧ x ≤ 4294967295
theorem asked_of {ns : List Int} (h : PySem.Challenge.rw_ahmesparts_s05_sum_of.pre [ofPy (PyData.list (List.map PyData.int ns))] = true) : Asked ns := by
  obtain ⟨_, _, hm, hi⟩ := os_dec_ints (os_pre_isSome h)
  exact ⟨hm, hi⟩
/-- the two running numbers -/
structure SInv (pre : List Int) (u l : Int) : Prop where
  up : u = ((Sw41.sumOf (Sw41Neutral.nats pre)).1 : Nat)
  low : l = ((Sw41.sumOf (Sw41Neutral.nats pre)).2 : Nat)
theorem s_start : 0 ≤ (0 : Int) ∧ 0 < (1 : Int) ∧ SInv [] 0 1 := ⟨by omega, by omega, ⟨rfl, rfl⟩⟩
theorem s_turn {ns pre : List Int} {u l n : Int} (I : SInv pre u l) (h : PySem.Challenge.rw_ahmesparts_s05_sum_of.pre [ofPy (PyData.list (List.map PyData.int ns))] = true)
    (m : n ∈ ns) (z : (ns.any fun x => x == 0) = false) (u0 : 0 ≤ u) (l0 : 0 < l) : 0 ≤ u * n + l ∧ 0 < l * n ∧ SInv (pre ++ [n]) (u * n + l) (l * n) := by
  have a := (asked_of h).item n m
  have b : n ≠ 0 := by
    intro e
    have := List.any_eq_false.mp z n m
    rw [e] at this
    exact this rfl
  have c : 0 ≤ u * n := Int.mul_nonneg u0 a.1
  refine ⟨by omega, Int.mul_pos l0 (by omega), ?_, ?_⟩
  · unfold Sw41Neutral.nats
    rw [List.map_append, List.map_cons, List.map_nil, sumOf_snoc, I.up, I.low]
    show _ = (((Sw41.sumOf (Sw41Neutral.nats pre)).1 * n.toNat + (Sw41.sumOf (Sw41Neutral.nats pre)).2 : Nat) : Int)
    rw [Int.natCast_add, Int.natCast_mul, show ((n.toNat : Nat) : Int) = n by omega]
  · unfold Sw41Neutral.nats
    rw [List.map_append, List.map_cons, List.map_nil, sumOf_snoc, I.low]
    show _ = (((Sw41.sumOf (Sw41Neutral.nats pre)).2 * n.toNat : Nat) : Int)
    rw [Int.natCast_mul, show ((n.toNat : Nat) : Int) = n by omega]
def gcdI (a b : Int) : Int := (Nat.gcd a.toNat b.toNat : Nat)
/-- a remainder; a quotient -/
structure Rem (x y r : Int) : Prop where
  eq : r = Int.fmod x y
structure Quo (x y q : Int) : Prop where
  eq : q = Int.fdiv x y
theorem Rem.nat {x y r : Int} (h : Rem x y r) (hx : 0 ≤ x) (hy : 0 < y) : r.toNat = x.toNat % y.toNat := by
  rw [h.eq, Int.fmod_eq_emod_of_nonneg x (by omega)]
  obtain ⟨a, rfl⟩ : ∃ a : Nat, x = a := ⟨x.toNat, by omega⟩
  obtain ⟨b, rfl⟩ : ∃ b : Nat, y = b := ⟨y.toNat, by omega⟩
  rw [← Int.natCast_emod]
  simp only [Int.toNat_natCast]
structure DInv (f s d r : Int) : Prop where
  eq : Nat.gcd d.toNat r.toNat = Nat.gcd f.toNat s.toNat
theorem d_gcd {x y r : Int} (h : Rem x y r) (hx : 0 ≤ x) (hy : 0 < y) : Nat.gcd y.toNat r.toNat = Nat.gcd x.toNat y.toNat := by
  rw [h.nat hx hy, Nat.gcd_comm x.toNat, Nat.gcd_rec y.toNat x.toNat, Nat.gcd_comm]
theorem d_start {f s r : Int} (h : Rem f s r) (f0 : 0 ≤ f) (s0 : 0 < s) (r0 : 0 ≤ r) : 0 < s ∧ 0 ≤ r ∧ DInv f s s r := ⟨s0, r0, ⟨d_gcd h f0 s0⟩⟩
theorem d_turn {f s d r r' : Int} (I : DInv f s d r) (h : Rem d r r') (d0 : 0 < d) (r0 : 0 < r) (r0' : 0 ≤ r') : 0 < r ∧ 0 ≤ r' ∧ DInv f s r r' :=
  ⟨r0, r0', ⟨(d_gcd h (by omega) r0).trans I.eq⟩⟩
theorem d_end {f s d r : Int} (I : DInv f s d r) (d0 : 0 < d) (r0 : 0 ≤ r) (r1 : ¬ 0 < r) : d = gcdI f s := by
  unfold gcdI
  rw [← I.eq, show r.toNat = 0 by omega, Nat.gcd_zero_right]
  omega
theorem sumOf_room : ∀ (l : List Nat), (∀ x, x ∈ l → x ≤ 4294967295) → (Sw41.sumOf l).2 ≤ 4294967296 ^ l.length
  | [], _ => Nat.le_refl _
  | x :: r, h => by
    have a := sumOf_room r fun y hy => h y (List.mem_cons_of_mem x hy)
    have b := h x List.mem_cons_self
    rw [Sw41.sumOf, List.length_cons, Nat.pow_succ]
    exact Nat.mul_le_mul a (by omega)
theorem gcd_pos {u l : Int} (l0 : 0 < l) : 0 < gcdI u l := by
  unfold gcdI
  have := Nat.gcd_pos_of_pos_right u.toNat (show 0 < l.toNat by omega)
  omega
theorem gcd_room {ns : List Int} {u l : Int} (h : PySem.Challenge.rw_ahmesparts_s05_sum_of.pre [ofPy (PyData.list (List.map PyData.int ns))] = true) (I : SInv ns u l) (l0 : 0 < l) : (gcdI u l).natAbs.log2 < 9000 := by
  have a := asked_of h
  have p := gcd_pos (u := u) l0
  rw [Nat.log2_lt (by omega)]
  have b := sumOf_room (Sw41Neutral.nats ns) (by
    intro y hy
    obtain ⟨x, hx, rfl⟩ := List.mem_map.mp hy
    have := a.item x hx
    omega)
  have c : (Sw41Neutral.nats ns).length ≤ 16 := by
    unfold Sw41Neutral.nats
    rw [List.length_map]
    exact a.len
  have d : 4294967296 ^ (Sw41Neutral.nats ns).length ≤ 4294967296 ^ 16 := Nat.pow_le_pow_right (by decide) c
  have e : (gcdI u l).natAbs ≤ l.toNat := by
    unfold gcdI
    have := Nat.gcd_le_right u.toNat (show 0 < l.toNat by omega)
    omega
  have f : l.toNat = (Sw41.sumOf (Sw41Neutral.nats ns)).2 := by
    rw [I.low]
    exact Int.toNat_natCast _
  have g : 4294967296 ^ 16 < 2 ^ 9000 := by decide +kernel
  rw [f] at e
  exact Nat.lt_of_le_of_lt e (Nat.lt_of_le_of_lt b (Nat.lt_of_le_of_lt d g))
theorem s_due {ns : List Int} (a : Asked ns) (z : (ns.any fun x => x == 0) = false) {u l q r : Int} (I : SInv ns u l) (hq : Quo u (gcdI u l) q) (hr : Quo l (gcdI u l) r) :
    PySw41.sum_of ns = if q < 18446744073709551616 ∧ r < 18446744073709551616 then [0, q, r] else [-1] := by
  have k : ¬ Sw41.sums (Sw41Neutral.nats ns) (ns.length : Int) = false := by
    have : Sw41.sums (Sw41Neutral.nats ns) (ns.length : Int) = true := by
      unfold Sw41.sums Sw41.between
      simp only [Bool.and_eq_true, decide_eq_true_eq, List.all_eq_true]
      have := a.len
      refine ⟨by omega, ?_⟩
      intro y hy
      obtain ⟨x, hx, rfl⟩ := List.mem_map.mp hy
      have b := a.item x hx
      have c : ¬ x = 0 := by
        intro e
        have := List.any_eq_false.mp z x hx
        rw [e] at this
        exact this rfl
      omega
    rw [this]
    exact Bool.noConfusion
  have g : gcdI u l = (Nat.gcd (Sw41.sumOf (Sw41Neutral.nats ns)).1 (Sw41.sumOf (Sw41Neutral.nats ns)).2 : Nat) := by
    unfold gcdI
    rw [I.up, I.low, Int.toNat_natCast, Int.toNat_natCast]
  have e1 : q = ((Sw41.sumOf (Sw41Neutral.nats ns)).1 / Nat.gcd (Sw41.sumOf (Sw41Neutral.nats ns)).1 (Sw41.sumOf (Sw41Neutral.nats ns)).2 : Nat) := by
    rw [hq.eq, g, I.up, Int.fdiv_eq_ediv_of_nonneg _ (by omega), Int.natCast_ediv]
  have e2 : r = ((Sw41.sumOf (Sw41Neutral.nats ns)).2 / Nat.gcd (Sw41.sumOf (Sw41Neutral.nats ns)).1 (Sw41.sumOf (Sw41Neutral.nats ns)).2 : Nat) := by
    rw [hr.eq, g, I.low, Int.fdiv_eq_ediv_of_nonneg _ (by omega), Int.natCast_ediv]
  show (Sw41.worked (.sum (Sw41Neutral.nats ns) (ns.length : Int))).code :: Sw41Neutral.ints (Sw41.worked (.sum (Sw41Neutral.nats ns) (ns.length : Int))).out = _
  unfold Sw41.worked
  dsimp only
  rw [if_neg k]
  by_cases c : q < 18446744073709551616 ∧ r < 18446744073709551616
  · rw [if_pos c, if_pos (by omega), e1, e2]
    rfl
  · rw [if_neg c, if_neg (by omega)]
    rfl
theorem s_told {ns : List Int} (a : PySem.Challenge.rw_ahmesparts_s05_sum_of.pre [ofPy (PyData.list (List.map PyData.int ns))] = true) (z : (ns.any fun x => x == 0) = false) {u l q r : Int} (I : SInv ns u l) (hq : Quo u (gcdI u l) q) (hr : Quo l (gcdI u l) r) (h1 : q < 18446744073709551616) (h2 : r < 18446744073709551616) :
    [0, q, r] = PySw41.sum_of ns := by rw [s_due (asked_of a) z I hq hr, if_pos ⟨h1, h2⟩]
theorem s_wide {ns : List Int} (a : PySem.Challenge.rw_ahmesparts_s05_sum_of.pre [ofPy (PyData.list (List.map PyData.int ns))] = true) (z : (ns.any fun x => x == 0) = false) {u l q r : Int} (I : SInv ns u l) (hq : Quo u (gcdI u l) q) (hr : Quo l (gcdI u l) r) (h1 : 18446744073709551616 ≤ q ∨ 18446744073709551616 ≤ r) :
    [-1] = PySw41.sum_of ns := by rw [s_due (asked_of a) z I hq hr, if_neg (by omega)]
theorem s_no {ns : List Int} (z : (ns.any fun x => x == 0) = true) : [-2] = PySw41.sum_of ns := by
  obtain ⟨x, hx, e⟩ := List.any_eq_true.mp z
  have : x = 0 := by simpa using e
  exact s_bad ⟨x, hx, by omega⟩
end Ah
namespace Ah
open PySem PySem.W PySem.Calls PyProof.Rows
section
variable {prog : Program} {w : World} {A : Around} {E : Value → Shared → Prop} {s : Shared} {x y : Int} {t u : Tok} {Q : Value → Shared → Prop}
theorem step_div (hy : 0 < y) (hs : y.natAbs.log2 < 9000) (h : ∀ q, Quo x y q → Q (.int q s.toks) { s with toks := s.toks + 1 }) :
    wpAny (model prog w) A (binaryOp .FloorDiv (.int x t) (.int y u)) Q E s :=
  PyProof.Rows.floordiv_int (by omega) (h _ ⟨rfl⟩) (Or.inl (PyProof.noPylong_of_log2 hs))
theorem step_mod (hy : 0 < y) (h : ∀ r, Rem x y r → 0 ≤ r → r < y → Q (.int r s.toks) { s with toks := s.toks + 1 }) :
    wpAny (model prog w) A (binaryOp .Mod (.int x t) (.int y u)) Q E s :=
  PyProof.Rows.mod_int (by omega) (h _ ⟨rfl⟩ (Int.fmod_nonneg_of_pos x hy) (Int.fmod_lt_of_pos x hy))
theorem step_mul {ns : List Int} (a : PySem.Challenge.rw_ahmesparts_s05_sum_of.pre [ofPy (PyData.list (List.map PyData.int ns))] = true) (m : y ∈ ns) (h : Q (.int (x * y) s.toks) { s with toks := s.toks + 1 }) :
    wpAny (model prog w) A (binaryOp .Mult (.int x t) (.int y u)) Q E s :=
  have b := (asked_of a).item y m
  PyProof.Rows.mul_int h (PySem.IntMulOk.of_right (PySem.intBits_le_64 (by omega) (by omega)))
end
end Ah
local macro_rules | `(tactic| walk_at "binaryOp FloorDiv int int") => `(tactic| (k_here; (with_reducible refine' Ah.step_div ?k1 ?k2 ?_); (case k1 => exact Ah.gcd_pos (by omega)); (case k2 => exact Ah.gcd_room (by assumption) (by assumption) (by omega)); intro q' e'))
local macro_rules | `(tactic| walk_at "binaryOp Mod int int") => `(tactic| (k_here; (with_reducible refine' Ah.step_mod ?k1 ?_); (case k1 => k_dflt omega); intro r' e' hr0 hr1))
local macro_rules | `(tactic| walk_at "binaryOp Mult int int") => `(tactic| (k_here; (with_reducible refine' Ah.step_mul ?k1 ?k2 ?_); (case k1 => assumption); (case k2 => assumption)))
example : List Int → Int → Int → Prop := (fun (pre : List Int) (u l : Int) => 0 ≤ u ∧ 0 < l ∧ Ah.SInv pre u l)
example : Int → Int → List Int → Int → Int → Prop := (fun f s _ d r => 0 < d ∧ 0 ≤ r ∧ Ah.DInv f s d r)
set_option maxRecDepth 100000 in
set_option maxHeartbeats 8000000 in
theorem PySem.Challenge.cw_ahmesparts_s05_sum_of_holds : PySem.Challenge.rw_ahmesparts_s05_sum_of.Holds := by
  k_with "tree" => exact Ah.d_end (by assumption) (by omega) (by omega) (by omega)
  k_with "call ref" => k_call_by "common_divisor" Ah.gcdI (fun (a b : Int) => 0 ≤ a ∧ 0 < b)
  k_with "state" => first
    | exact Ah.s_start
    | exact Ah.s_turn (by assumption) (by assumption) (by assumption) (by assumption) (by omega) (by omega)
    | exact Ah.d_turn (by assumption) (by assumption) (by omega) (by omega) (by omega)
    | exact Ah.d_start (by assumption) (by omega) (by omega) (by omega)
  k_with "measure" => omega
  k_with "exec While Compare cons nil" => k_while_given ["first", "second"] (fun f s _ d r => 0 < d ∧ 0 ≤ r ∧ Ah.DInv f s d r) (fun _ _ _ _ r => r.toNat) "divisor" "rest"
  k_with "pyIter ref" => k_state (fun (pre : List Int) (u l : Int) => 0 ≤ u ∧ 0 < l ∧ Ah.SInv pre u l) "upper" "lower"
  w_on; k_headS; (case hw => exact ⟨[.list []], by decide +kernel, by decide +kernel⟩)
  w_strict k_goS
  all_goals
    os_ints
    with_reducible rename OpenSpec.pre _ _ = true => hp'
    refine os_same_list ?_
    first
    | exact congrArg (List.map PyData.int) (Ah.s_no (by assumption))
    | exact congrArg (List.map PyData.int) (Ah.s_told hp' (by assumption) (by assumption) (by assumption) (by assumption) (by omega) (by omega))
    | exact congrArg (List.map PyData.int) (Ah.s_wide hp' (by assumption) (by assumption) (by assumption) (by assumption) (Or.inl (by omega)))
    | exact congrArg (List.map PyData.int) (Ah.s_wide hp' (by assumption) (by assumption) (by assumption) (by assumption) (Or.inr (by omega)))
#print axioms PySem.Challenge.cw_ahmesparts_s05_sum_of_holds

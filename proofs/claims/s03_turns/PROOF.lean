import PyProof.Rows.All
import KE.OsGo
import KE.OsArgs
import PySem.Challenge.RW_ahmesparts_s03_turns
open PySem PySem.W
set_option Elab.async false
namespace Ah
/-- what is due, by the document's own cases -/
theorem due_bad {p q most : Int} (h : ¬ (0 < p ∧ p < q ∧ q ≤ 1000000 ∧ 0 ≤ most ∧ most ≤ 65536)) : Sw41.proper p.toNat q.toNat most = false := by
  unfold Sw41.proper Sw41.between Sw41.MOST Sw41.ROOM
  simp only [Bool.and_eq_false_iff, decide_eq_false_iff_not]
  omega
theorem due_good {p q most : Int} (h : 0 < p ∧ p < q ∧ q ≤ 1000000 ∧ 0 ≤ most ∧ most ≤ 65536) : Sw41.proper p.toNat q.toNat most = true := by
  unfold Sw41.proper Sw41.between Sw41.MOST Sw41.ROOM
  simp only [Bool.and_eq_true, decide_eq_true_eq]
  omega
/-- a list told, or refused -/
def tell (l : List Nat) (most : Int) : List Int := (Sw41.shows l most).code :: Sw41Neutral.ints (Sw41.shows l most).out
theorem ints_length (l : List Nat) : (Sw41Neutral.ints l).length = l.length := by
  unfold Sw41Neutral.ints
  exact List.length_map _
theorem tell_all {l : List Nat} {most : Int} {xs : List Int} (e : Sw41Neutral.ints l = xs) (low : ∀ x, x ∈ xs → 0 ≤ x ∧ x < 18446744073709551616) (n : (xs.length : Int) ≤ most) : (xs.length : Int) :: xs = tell l most := by
  have n' : xs.length = l.length := by rw [← e, ints_length]
  have s : Sw41.small l = true := by
    unfold Sw41.small
    rw [List.all_eq_true]
    intro y hy
    have := low (y : Int) (by rw [← e]; exact List.mem_map_of_mem hy)
    rw [decide_eq_true_eq]
    omega
  have c : (Sw41.small l && decide ((l.length : Int) ≤ most)) = true := by
    rw [s, ← n', Bool.true_and, decide_eq_true_eq]
    exact n
  unfold tell Sw41.shows
  rw [if_pos c]
  show _ = ((l.length : Nat) : Int) :: Sw41Neutral.ints l
  rw [e, n']
theorem tell_long {l : List Nat} {most : Int} {xs ys : List Int} (e : Sw41Neutral.ints l = xs ++ ys) (n : most < (xs.length : Int) + (ys.length : Int)) : [-1] = tell l most := by
  have n' : xs.length + ys.length = l.length := by rw [← List.length_append, ← e, ints_length]
  unfold tell Sw41.shows
  rw [if_neg]
  · rfl
  · rw [Bool.and_eq_true, decide_eq_true_eq]
    omega
theorem tell_wide {l : List Nat} {most x : Int} {xs : List Int} (e : Sw41Neutral.ints l = xs) (m : x ∈ xs) (n : 18446744073709551616 ≤ x) : [-1] = tell l most := by
  unfold tell Sw41.shows
  rw [if_neg]
  · rfl
  · rw [Bool.and_eq_true]
    rintro ⟨s, _⟩
    unfold Sw41.small at s
    rw [List.all_eq_true] at s
    rw [← e] at m
    obtain ⟨y, hy, rfl⟩ := List.mem_map.mp m
    have := s y hy
    rw [decide_eq_true_eq] at this
    omega
theorem t_fuel : ∀ (f g p q : Nat), p ≤ f → p ≤ g → Sw41.turns f p q = Sw41.turns g p q
  | 0, g, p, q, h, _ => by
    have z : p = 0 := by omega
    subst z
    cases g <;> simp [Sw41.turns]
  | f + 1, 0, p, q, _, h => by
    have z : p = 0 := by omega
    subst z
    simp [Sw41.turns]
  | f + 1, g + 1, p, q, h, h' => by
    simp only [Sw41.turns]
    by_cases z : p = 0
    · rw [if_pos z, if_pos z]
    · rw [if_neg z, if_neg z]
      have a := Nat.div_add_mod q p
      have b := Nat.mod_lt q (show 0 < p by omega)
      rw [t_fuel f g _ _ (by omega) (by omega)]
theorem t_step {u q : Nat} (hu : 0 < u) : Sw41.turns u u q = q / u :: Sw41.turns (q - u * (q / u)) (q - u * (q / u)) q := by
  obtain ⟨k, rfl⟩ : ∃ k, u = k + 1 := ⟨u - 1, by omega⟩
  have a := Nat.div_add_mod q (k + 1)
  have b := Nat.mod_lt q (show 0 < k + 1 by omega)
  rw [Sw41.turns, if_neg (by omega)]
  rw [t_fuel k _ _ _ (by omega) (Nat.le_refl _)]
theorem t_zero (q : Nat) : Sw41.turns 0 0 q = [] := rfl
theorem quot_nat {u q a r : Int} (u0 : 0 < u) (q0 : 0 ≤ q) (e : q = u * a + r) (r0 : 0 ≤ r) (r1 : r < u) :
    0 ≤ a ∧ a ≤ q ∧ a.toNat = q.toNat / u.toNat ∧ r.toNat = q.toNat - u.toNat * (q.toNat / u.toNat) := by
  have a0 : 0 ≤ a := by
    rcases (by omega : a ≤ -1 ∨ 0 ≤ a) with h | h
    · have := Int.mul_le_mul_of_nonneg_left h (Int.le_of_lt u0)
      omega
    · exact h
  have a1 : 1 * a ≤ u * a := Int.mul_le_mul_of_nonneg_right (by omega) a0
  obtain ⟨m, rfl⟩ : ∃ m : Nat, a = m := ⟨a.toNat, by omega⟩
  obtain ⟨v, rfl⟩ : ∃ v : Nat, u = v := ⟨u.toNat, by omega⟩
  obtain ⟨k, rfl⟩ : ∃ k : Nat, q = k := ⟨q.toNat, by omega⟩
  obtain ⟨s, rfl⟩ : ∃ s : Nat, r = s := ⟨r.toNat, by omega⟩
  simp only [Int.toNat_natCast]
  have e' : k = s + v * m := by
    have : ((v * m : Nat) : Int) = (v : Int) * (m : Int) := by simp
    omega
  have d : k / v = m := by
    rw [e', Nat.add_mul_div_left _ _ (by omega), Nat.div_eq_of_lt (by omega)]
    omega
  rw [d]
  exact ⟨a0, by omega, rfl, by omega⟩
structure TInv (p q u : Int) (xs : List Int) : Prop where
  eq : Sw41Neutral.ints (Sw41.turns p.toNat p.toNat q.toNat) = xs ++ Sw41Neutral.ints (Sw41.turns u.toNat u.toNat q.toNat)
  low : ∀ x, x ∈ xs → 0 ≤ x ∧ x < 18446744073709551616
theorem t_start {p q : Int} : TInv p q p [] := ⟨rfl, fun _ h => nomatch h⟩
theorem t_next {u q a r : Int} (u0 : 0 < u) (q0 : 0 ≤ q) (e : q = u * a + r) (r0 : 0 ≤ r) (r1 : r < u) :
    Sw41Neutral.ints (Sw41.turns u.toNat u.toNat q.toNat) = a :: Sw41Neutral.ints (Sw41.turns r.toNat r.toNat q.toNat) := by
  obtain ⟨a0, _, ea, er⟩ := quot_nat u0 q0 e r0 r1
  rw [t_step (show 0 < u.toNat by omega), ← er, ← ea]
  show ((a.toNat : Nat) : Int) :: _ = _
  rw [show ((a.toNat : Nat) : Int) = a by omega]
  rfl
theorem t_turn {p q u a r most : Int} {xs : List Int} (I : TInv p q u xs) (e : q = u * a + r) (r0 : 0 ≤ r) (r1 : r < u)
    (u0 : 0 < u) (q0 : 0 ≤ q) (q1 : q ≤ 1000000) (n1 : (xs.length : Int) < most) :
    ((xs ++ [a]).length : Int) ≤ most ∧ TInv p q r (xs ++ [a]) := by
  obtain ⟨a0, a1, _, _⟩ := quot_nat u0 q0 e r0 r1
  refine ⟨by simp only [List.length_append, List.length_singleton]; omega, ⟨?_, ?_⟩⟩
  · rw [I.eq, t_next u0 q0 e r0 r1, List.append_assoc]
    rfl
  · intro x hx
    rcases List.mem_append.mp hx with h | h
    · exact I.low x h
    · rw [List.mem_singleton.mp h]
      omega
theorem t_bad {p q most : Int} (h : ¬ (0 < p ∧ p < q ∧ q ≤ 1000000 ∧ 0 ≤ most ∧ most ≤ 65536)) : [-2] = PySw41.turns p q most := by
  show [-2] = (if Sw41.proper p.toNat q.toNat most = false then Sw41.says (-2) else Sw41.shows (Sw41.turns p.toNat p.toNat q.toNat) most).code :: Sw41Neutral.ints (if Sw41.proper p.toNat q.toNat most = false then Sw41.says (-2) else Sw41.shows (Sw41.turns p.toNat p.toNat q.toNat) most).out
  rw [if_pos (due_bad h)]
  rfl
theorem t_due {p q most : Int} (h : 0 < p ∧ p < q ∧ q ≤ 1000000 ∧ 0 ≤ most ∧ most ≤ 65536) : PySw41.turns p q most = tell (Sw41.turns p.toNat p.toNat q.toNat) most := by
  show (if Sw41.proper p.toNat q.toNat most = false then Sw41.says (-2) else Sw41.shows (Sw41.turns p.toNat p.toNat q.toNat) most).code :: Sw41Neutral.ints (if Sw41.proper p.toNat q.toNat most = false then Sw41.says (-2) else Sw41.shows (Sw41.turns p.toNat p.toNat q.toNat) most).out = _
  rw [if_neg (by rw [due_good h]; exact Bool.noConfusion)]
  rfl
theorem t_end {p q most u : Int} {xs : List Int} (h : 0 < p ∧ p < q ∧ q ≤ 1000000 ∧ 0 ≤ most ∧ most ≤ 65536) (I : TInv p q u xs) (n : (xs.length : Int) ≤ most) (u0 : ¬ 0 < u) : (xs.length : Int) :: xs = PySw41.turns p q most := by
  rw [t_due h]
  refine tell_all ?_ I.low n
  have z : u.toNat = 0 := by omega
  have e := I.eq
  rw [z, t_zero] at e
  rw [e]
  exact List.append_nil xs
theorem t_full {p q most u : Int} {xs : List Int} (h : 0 < p ∧ p < q ∧ q ≤ 1000000 ∧ 0 ≤ most ∧ most ≤ 65536) (I : TInv p q u xs) (u0 : 0 < u)
    (n : (xs.length : Int) = most) : [-1] = PySw41.turns p q most := by
  rw [t_due h]
  have e' := I.eq
  refine tell_long e' ?_
  rw [t_step (by omega), ints_length, List.length_cons]
  omega
def isProper (p q : Int) : Bool := decide (0 < p ∧ p < q ∧ q ≤ 1000000)
def isMost (m : Int) : Bool := decide (0 ≤ m ∧ m ≤ 65536)
theorem pr1 {p q : Int} (h : ¬ 0 < p) : decide (0 < p) = isProper p q := by unfold isProper; rw [decide_eq_decide]; omega
theorem pr2 {p q : Int} (h : 0 < p) (h' : ¬ p < q) : decide (p < q) = isProper p q := by unfold isProper; rw [decide_eq_decide]; omega
theorem pr3 {p q : Int} (h : 0 < p) (h' : p < q) : decide (q ≤ 1000000) = isProper p q := by unfold isProper; rw [decide_eq_decide]; omega
theorem pm1 {m : Int} (h : ¬ 0 ≤ m) : decide (0 ≤ m) = isMost m := by unfold isMost; rw [decide_eq_decide]; omega
theorem pm2 {m : Int} (h : 0 ≤ m) : decide (m ≤ 65536) = isMost m := by unfold isMost; rw [decide_eq_decide]; omega

theorem proper_of {p q m : Int} (h : isProper p q = true) (h' : isMost m = true) : 0 < p ∧ p < q ∧ q ≤ 1000000 ∧ 0 ≤ m ∧ m ≤ 65536 := by
  unfold isProper at h
  unfold isMost at h'
  rw [decide_eq_true_eq] at h h'
  omega
theorem not_proper {p q m : Int} (h : isProper p q = false ∨ isMost m = false) : ¬ (0 < p ∧ p < q ∧ q ≤ 1000000 ∧ 0 ≤ m ∧ m ≤ 65536) := by
  unfold isProper isMost at h
  rw [decide_eq_false_iff_not, decide_eq_false_iff_not] at h
  omega
theorem t_begin {p q m : Int} (h : isProper p q = true) (h' : isMost m = true) : 0 ≤ p ∧ p < q ∧ q ≤ 1000000 ∧ ((([] : List Int).length : Nat) : Int) ≤ m ∧ m ≤ 65536 ∧ TInv p q p [] := by
  have k := proper_of h h'
  refine ⟨by omega, by omega, by omega, ?_, by omega, t_start⟩
  show (0 : Int) ≤ m
  omega
theorem rest_one {u q a r a' r' : Int} (e : q = u * a + r) (r0 : 0 ≤ r) (r1 : r < u) (e' : q = u * a' + r') (r0' : 0 ≤ r') (r1' : r' < u) : r' = r := by
  have h1 : q % u = r := by rw [e, Int.add_comm, Int.add_mul_emod_self_left]; exact Int.emod_eq_of_lt r0 r1
  have h2 : q % u = r' := by rw [e', Int.add_comm, Int.add_mul_emod_self_left]; exact Int.emod_eq_of_lt r0' r1'
  omega
theorem t_turn2 {p q u a r a' r' most : Int} {xs : List Int} (I : TInv p q u xs) (e : q = u * a + r) (e' : q = u * a' + r') (r0 : 0 ≤ r) (r1 : r < u) (r0' : 0 ≤ r') (r1' : r' < u)
    (u0 : 0 < u) (ul : u < q) (q1 : q ≤ 1000000) (n0 : (xs.length : Int) ≤ most) (n1 : ¬ (xs.length : Int) = most) (m1 : most ≤ 65536) :
    0 ≤ r' ∧ r' < q ∧ q ≤ 1000000 ∧ ((xs ++ [a]).length : Int) ≤ most ∧ most ≤ 65536 ∧ TInv p q r' (xs ++ [a]) := by
  have z := rest_one e r0 r1 e' r0' r1'
  subst z
  obtain ⟨a3, a4⟩ := t_turn I e r0 r1 u0 (by omega) q1 (by omega : (xs.length : Int) < most)
  exact ⟨r0, by omega, q1, a3, m1, a4⟩
theorem t_less {u r : Int} (r0 : 0 ≤ r) (r1 : r < u) : r.toNat < u.toNat := by omega
end Ah
namespace Ah
open PySem PySem.W PySem.Calls PyProof.Rows
section
variable {prog : Program} {w : World} {A : Around} {E : Value → Shared → Prop} {s : Shared} {x y : Int} {t u : Tok} {Q : Value → Shared → Prop}
theorem quot (x y : Int) : x = y * Int.fdiv x y + Int.fmod x y := by
  rw [Int.fmod_def]
  omega
theorem fdiv_le {x y : Int} (hx : 0 ≤ x) (hy : 0 < y) : Int.fdiv x y ≤ x := by
  rw [Int.fdiv_eq_ediv_of_nonneg x (by omega)]
  exact Int.ediv_le_self y hx
theorem step_div (hy : 0 < y) (hs : y ≤ 1000000) (hx : 0 ≤ x) (h : ∀ q r, x = y * q + r → 0 ≤ r → r < y → 0 ≤ q → q ≤ x → Q (.int q s.toks) { s with toks := s.toks + 1 }) :
    wpAny (model prog w) A (binaryOp .FloorDiv (.int x t) (.int y u)) Q E s :=
  PyProof.Rows.floordiv_int (by omega) (h _ _ (quot x y) (Int.fmod_nonneg_of_pos x hy) (Int.fmod_lt_of_pos x hy) (Int.fdiv_nonneg hx (by omega)) (fdiv_le hx hy)) (Or.inl (PyProof.noPylong_small (by omega)))
theorem step_mod (hy : 0 < y) (hs : y ≤ 1000000) (hx : 0 ≤ x) (h : ∀ q r, x = y * q + r → 0 ≤ r → r < y → 0 ≤ q → Q (.int r s.toks) { s with toks := s.toks + 1 }) :
    wpAny (model prog w) A (binaryOp .Mod (.int x t) (.int y u)) Q E s :=
  PyProof.Rows.mod_int (by omega) (h _ _ (quot x y) (Int.fmod_nonneg_of_pos x hy) (Int.fmod_lt_of_pos x hy) (Int.fdiv_nonneg hx (by omega)))
theorem step_mul (lo : 0 ≤ y) (hi : y < 18446744073709551616) (h : Q (.int (x * y) s.toks) { s with toks := s.toks + 1 }) :
    wpAny (model prog w) A (binaryOp .Mult (.int x t) (.int y u)) Q E s :=
  PyProof.Rows.mul_int h (PySem.IntMulOk.of_right (PySem.intBits_le_64 (by omega) (by omega)))
theorem chain_three {M : Model} {pos : Pos} {a : Value} {op op' op'' : CmpOp} {r r' : Sem Value} {e : PySem.Expr} {env : Env}
    (h : wpAny M A r (fun b s₁ => wpAny M A (compareOp op a b) (fun c s₂ => wpAny M A (truthy c)
      (fun t s₃ => if t then wpAny M A (compareChain pos b [op', op''] [r', eval e env]) Q E s₃ else Q c s₃) E s₂) E s₁) E s) :
    wpAny M A (compareChain pos a (op :: op' :: [op'']) (r :: r' :: evalEach [e] env)) Q E s := by
  have e1 : evalEach [e] env = [eval e env] := by simp [evalEach]
  rw [e1]
  exact PyProof.Rows.chain_link h
end
end Ah
local macro_rules | `(tactic| walk_at "compareChain") => `(tactic| (k_here; with_reducible refine' Ah.chain_three ?_))
local macro_rules | `(tactic| walk_at "binaryOp FloorDiv int int") => `(tactic| (k_here; (with_reducible refine' Ah.step_div ?k1 ?k2 ?k3 ?_); (case k1 => k_dflt omega); (case k2 => k_dflt omega); (case k3 => k_dflt omega); intro q' r' e' hr0 hr1 hq0 hq1))
local macro_rules | `(tactic| walk_at "binaryOp Mod int int") => `(tactic| (k_here; (with_reducible refine' Ah.step_mod ?k1 ?k2 ?k3 ?_); (case k1 => k_dflt omega); (case k2 => k_dflt omega); (case k3 => k_dflt omega); intro q' r' e' hr0 hr1 hq0))
local macro_rules | `(tactic| walk_at "binaryOp Mult int int") => `(tactic| (k_here; (with_reducible refine' Ah.step_mul ?k1 ?k2 ?_); (case k1 => k_dflt omega); (case k2 => k_dflt omega)))
theorem said : PySem.Challenge.rw_ahmesparts_s03_turns.wellSaid = true := by decide +kernel
local macro_rules | `(tactic| kst_facts1) => `(tactic| exact PyProof.Rows.IntsAre.nil)
example : Int → Int → Int → List Int → Int → List Int → Prop := fun p q most _ u xs => 0 ≤ u ∧ u < q ∧ q ≤ 1000000 ∧ (xs.length : Int) ≤ most ∧ most ≤ 65536 ∧ Ah.TInv p q u xs
set_option maxRecDepth 100000 in
set_option maxHeartbeats 8000000 in
theorem PySem.Challenge.cw_ahmesparts_s03_turns_holds : PySem.Challenge.rw_ahmesparts_s03_turns.Holds := by
  k_with "tree" => (first | exact Ah.pr1 (by omega) | exact Ah.pr2 (by omega) (by omega) | exact Ah.pr3 (by omega) (by omega) | exact Ah.pm1 (by omega) | exact Ah.pm2 (by omega))
  k_with "call ref" => k_call_by "is_proper_in_range" Ah.isProper
  k_with "call ref" => k_call_by "is_most_in_range" Ah.isMost
  k_with "state" => first
    | exact Ah.t_begin (by assumption) (by assumption)
    | exact Ah.t_turn2 (by assumption) (by assumption) (by assumption) (by omega) (by omega) (by omega) (by omega) (by omega) (by omega) (by omega) (by omega) (by omega) (by omega)
  k_with "measure" => omega
  k_with "exec While Compare cons nil" => k_while_given ["p", "q", "most"] (fun p q most _ u xs => 0 ≤ u ∧ u < q ∧ q ≤ 1000000 ∧ (xs.length : Int) ≤ most ∧ most ≤ 65536 ∧ Ah.TInv p q u xs) (fun _ _ _ _ u _ => u.toNat) "upper" "numbers"
  w_on; k_headS; (case hw => exact ⟨[.int 0, .int 0, .int 0], by decide +kernel, by decide +kernel⟩)
  w_strict k_goS
  all_goals
    os_open said with a w q e
    obtain ⟨p', q', m', u'⟩ := a
    have e1 := os_j_int (List.cons.inj e).1
    have e2 := os_j_int (List.cons.inj (List.cons.inj e).2).1
    have e3 := os_j_int (List.cons.inj (List.cons.inj (List.cons.inj e).2).2).1
    subst e1 e2 e3
    show ofPy (PyData.list _) = WData.list (List.map WData.int (PySw41.turns _ _ _))
    refine os_list ?_
    first
    | exact congrArg (List.map PyData.int) (Ah.t_bad (Ah.not_proper (Or.inl (by assumption))))
    | exact congrArg (List.map PyData.int) (Ah.t_bad (Ah.not_proper (Or.inr (by assumption))))
    | exact congrArg (List.map PyData.int) (Ah.t_end (Ah.proper_of (by assumption) (by assumption)) (by assumption) (by omega) (by omega))
    | exact congrArg (List.map PyData.int) (Ah.t_full (Ah.proper_of (by assumption) (by assumption)) (by assumption) (by omega) (by omega))
#print axioms PySem.Challenge.cw_ahmesparts_s03_turns_holds

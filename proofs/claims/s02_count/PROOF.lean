import PyProof.Rows.All
import KE.OsGo
import KE.OsArgs
import PySem.Challenge.RW_boardways_s02_count
open PySem PySem.W
set_option Elab.async false
namespace My
section
open Sn79Neutral
theorem sees_ring {r : Int} (h : r ≠ 0) (n : Nat) (l : List Nat) (x : Nat) : sees n r l x = sees n 1 l x := by
  unfold sees
  simp only [if_neg h, if_neg (show ¬ (1 : Int) = 0 by decide)]
theorem queens_ring {r : Int} (h : r ≠ 0) (n : Nat) : ∀ (k : Nat) (l : List Nat), Sn79Neutral.queens n r k l = Sn79Neutral.queens n 1 k l
  | 0, _ => rfl
  | k + 1, l => by
    show ((List.range n).map fun x => if sees n r l x = true then 0 else Sn79Neutral.queens n r k (x :: l)).sum = ((List.range n).map fun x => if sees n 1 l x = true then 0 else Sn79Neutral.queens n 1 k (x :: l)).sum
    have e : (fun x => if sees n r l x = true then 0 else Sn79Neutral.queens n r k (x :: l)) = (fun x => if sees n 1 l x = true then 0 else Sn79Neutral.queens n 1 k (x :: l)) := by
      funext x
      rw [sees_ring h, queens_ring h n k]
    rw [e]
theorem six {n : Int} (h1 : 1 ≤ n) (h6 : n ≤ 6) : n = 1 ∨ n = 2 ∨ n = 3 ∨ n = 4 ∨ n = 5 ∨ n = 6 := by omega
theorem f_count (n r : Int) : PySn79.count n r = if Sn79.between n 1 Sn79.FEW = false then [-2] else [(Sn79Neutral.queens n.toNat r n.toNat [] : Int)] := rfl
theorem asked_count {n r : Int} (h : PySn79.count_asked n r = true) : n ≤ 6 ∨ 12 < n := by
  have e : PySn79.count_asked n r = (decide ([[[1, n, r]]].length ≤ 400) && (([[[1, n, r]]] != ([] : List Call)) && ((asked1 [[1, n, r]] && true) && decide ((([[[1, n, r]]] : List Call).map fun c => (f c).length).sum < 1000000)))) := rfl
  have e1 : asked1 [[1, n, r]] = (whole32 n && (whole32 r && (decide (n ≤ 6) || decide (12 < n)))) := rfl
  rw [e, e1] at h
  simp only [Bool.and_eq_true, Bool.or_eq_true, decide_eq_true_eq] at h
  exact h.2.2.1.1.2.2
theorem out_count {n r : Int} (h : n < 1 ∨ 12 < n) : PySn79.count n r = [-2] := by
  rw [f_count, if_pos]
  unfold Sn79.between Sn79.FEW
  simp only [Bool.and_eq_false_iff, decide_eq_false_iff_not]
  omega
theorem count_ring {r : Int} (h : r ≠ 0) (n : Int) : PySn79.count n r = PySn79.count n 1 := by
  rw [f_count, f_count, queens_ring h]
theorem count_board : PySn79.count 1 0 = [1] ∧ PySn79.count 2 0 = [0] ∧ PySn79.count 3 0 = [0] ∧ PySn79.count 4 0 = [2] ∧ PySn79.count 5 0 = [10] ∧ PySn79.count 6 0 = [4] := by decide +kernel
theorem count_ring1 : PySn79.count 1 1 = [1] ∧ PySn79.count 2 1 = [0] ∧ PySn79.count 3 1 = [0] ∧ PySn79.count 4 1 = [0] ∧ PySn79.count 5 1 = [10] ∧ PySn79.count 6 1 = [0] := by decide +kernel
end
/-- 1 << k -/
def bit (k : Int) : Int := 1 * 2 ^ k.toNat
def rest (x y : Int) : Int := x.fmod y
theorem rest_low (x : Int) {y : Int} (h : 0 < y) : 0 ≤ rest x y := by
  unfold rest
  rw [Int.fmod_eq_emod_of_nonneg x (Int.le_of_lt h)]
  exact Int.emod_nonneg x (by omega)
theorem rest_high (x : Int) {y : Int} (h : 0 < y) : rest x y < y := by
  unfold rest
  rw [Int.fmod_eq_emod_of_nonneg x (Int.le_of_lt h)]
  exact Int.emod_lt_of_pos x h
def free (row slants c f r x : Int) : Bool := (Builtin.bitAnd c (bit x) == 0) && ((Builtin.bitAnd f (bit (rest (x - row) slants)) == 0) && (Builtin.bitAnd r (bit (rest (x + row) slants)) == 0))
def waysN (n slants : Int) : Nat → Int → Int → Int → Int → Int
  | 0, _, _, _, _ => 1
  | k + 1, row, c, f, r => ((rangeKs 0 n.toNat).map fun x => if free row slants c f r x = true then waysN n slants k (row + 1) (Builtin.bitOr c (bit x)) (Builtin.bitOr f (bit (rest (x - row) slants))) (Builtin.bitOr r (bit (rest (x + row) slants))) else 0).sum
def ways (row n slants c f r : Int) : Int := waysN n slants (n - row).toNat row c f r
def turn (row n slants c f r x : Int) : Int := if free row slants c f r x = true then ways (row + 1) n slants (Builtin.bitOr c (bit x)) (Builtin.bitOr f (bit (rest (x - row) slants))) (Builtin.bitOr r (bit (rest (x + row) slants))) else 0
theorem ways_end {row n slants c f r : Int} (h : row = n) : 1 = ways row n slants c f r := by
  have e : (n - row).toNat = 0 := by omega
  unfold ways
  rw [e]
  rfl
theorem ways_more {row n slants c f r : Int} (h : row < n) : ways row n slants c f r = ((rangeKs 0 n.toNat).map (turn row n slants c f r)).sum := by
  have e : (n - row).toNat = (n - (row + 1)).toNat + 1 := by omega
  unfold ways
  rw [e]
  rfl
theorem ways_board : (ways 0 1 1 0 0 0 = 1 ∧ ways 0 2 3 0 0 0 = 0 ∧ ways 0 3 5 0 0 0 = 0) ∧ (ways 0 4 7 0 0 0 = 2 ∧ ways 0 5 9 0 0 0 = 10 ∧ ways 0 6 11 0 0 0 = 4) := by decide +kernel
theorem ways_ring : (ways 0 1 1 0 0 0 = 1 ∧ ways 0 2 2 0 0 0 = 0 ∧ ways 0 3 3 0 0 0 = 0) ∧ (ways 0 4 4 0 0 0 = 0 ∧ ways 0 5 5 0 0 0 = 10 ∧ ways 0 6 6 0 0 0 = 0) := by decide +kernel
theorem turn_yes {row n slants c f r x : Int} (h1 : Builtin.bitAnd c (bit x) = 0) (h2 : Builtin.bitAnd f (bit (rest (x - row) slants)) = 0) (h3 : Builtin.bitAnd r (bit (rest (x + row) slants)) = 0) :
    turn row n slants c f r x = ways (row + 1) n slants (Builtin.bitOr c (bit x)) (Builtin.bitOr f (bit (rest (x - row) slants))) (Builtin.bitOr r (bit (rest (x + row) slants))) := by
  unfold turn free
  rw [h1, h2, h3]
  rfl
theorem turn_no {row n slants c f r x : Int} (h : Builtin.bitAnd c (bit x) ≠ 0 ∨ Builtin.bitAnd f (bit (rest (x - row) slants)) ≠ 0 ∨ Builtin.bitAnd r (bit (rest (x + row) slants)) ≠ 0) : turn row n slants c f r x = 0 := by
  unfold turn
  rw [if_neg]
  unfold free
  simp only [Bool.and_eq_true, beq_iff_eq]
  omega
theorem sum_more {g : Int → Int} {pre : List Int} {x t v : Int} (h : t = (pre.map g).sum) (e : g x = v) : t + v = ((pre ++ [x]).map g).sum := by
  rw [List.map_append, List.sum_append, ← h, List.map_cons, List.map_nil, List.sum_cons, List.sum_nil, e]
  omega
theorem sum_yes {row n slants c f r x t : Int} {pre : List Int} (h : t = (pre.map (turn row n slants c f r)).sum) (h1 : Builtin.bitAnd c (bit x) = 0) (h2 : Builtin.bitAnd f (bit (rest (x - row) slants)) = 0) (h3 : Builtin.bitAnd r (bit (rest (x + row) slants)) = 0) :
    t + ways (row + 1) n slants (Builtin.bitOr c (bit x)) (Builtin.bitOr f (bit (rest (x - row) slants))) (Builtin.bitOr r (bit (rest (x + row) slants))) = ((pre ++ [x]).map (turn row n slants c f r)).sum :=
  sum_more h (turn_yes h1 h2 h3)
theorem sum_no {row n slants c f r x t : Int} {pre : List Int} (h : t = (pre.map (turn row n slants c f r)).sum) (h1 : Builtin.bitAnd c (bit x) ≠ 0 ∨ Builtin.bitAnd f (bit (rest (x - row) slants)) ≠ 0 ∨ Builtin.bitAnd r (bit (rest (x + row) slants)) ≠ 0) : t = ((pre ++ [x]).map (turn row n slants c f r)).sum := by
  have e := sum_more h (turn_no (n := n) h1)
  rw [Int.add_zero] at e
  exact e
theorem tree_end {row n slants c f r t : Int} (h : t = ((rangeKs 0 (n - 0).toNat).map (turn row n slants c f r)).sum) (h1 : row < n) : t = ways row n slants c f r := by
  rw [Int.sub_zero] at h
  exact h.trans (ways_more h1).symm
theorem said_ring {n r : Int} (h1 : 1 ≤ n) (h6 : n ≤ 6) (h : r ≠ 0) : PySn79.count n r = [ways 0 n n 0 0 0] := by
  rw [count_ring h]
  obtain ⟨a1, a2, a3, a4, a5, a6⟩ := count_ring1
  obtain ⟨⟨b1, b2, b3⟩, b4, b5, b6⟩ := ways_ring
  rcases six h1 h6 with e | e | e | e | e | e <;> subst e
  · rw [a1, b1]
  · rw [a2, b2]
  · rw [a3, b3]
  · rw [a4, b4]
  · rw [a5, b5]
  · rw [a6, b6]
theorem said_board {n r : Int} (h1 : 1 ≤ n) (h6 : n ≤ 6) (h : r = 0) : PySn79.count n r = [ways 0 n (2 * n - 1) 0 0 0] := by
  subst h
  obtain ⟨a1, a2, a3, a4, a5, a6⟩ := count_board
  obtain ⟨⟨b1, b2, b3⟩, b4, b5, b6⟩ := ways_board
  rcases six h1 h6 with e | e | e | e | e | e <;> subst e
  · exact a1.trans (congrArg (fun k => [k]) b1.symm)
  · exact a2.trans (congrArg (fun k => [k]) b2.symm)
  · exact a3.trans (congrArg (fun k => [k]) b3.symm)
  · exact a4.trans (congrArg (fun k => [k]) b4.symm)
  · exact a5.trans (congrArg (fun k => [k]) b5.symm)
  · exact a6.trans (congrArg (fun k => [k]) b6.symm)
section
open PySem.Calls PyProof.Rows
variable {prog : Program} {w : World} {A : Around} {E : Value → Shared → Prop} {s : Shared} {x y : Int} {t u : Tok} {Q : Value → Shared → Prop}
theorem step_shl (h0 : 0 ≤ y) (h1 : y ≤ 1000) (h : Q (.int (bit y) s.toks) { s with toks := s.toks + 1 }) : wpAny (model prog w) A (binaryOp .LShift (.int 1 t) (.int y u)) Q E s :=
  PyProof.Rows.lshift_int_small h0 (by omega) (by decide) h
theorem step_mod (h0 : 0 < y) (h : 0 ≤ rest x y → rest x y < y → Q (.int (rest x y) s.toks) { s with toks := s.toks + 1 }) : wpAny (model prog w) A (binaryOp .Mod (.int x t) (.int y u)) Q E s :=
  PyProof.Rows.mod_int (by omega) (h (rest_low x h0) (rest_high x h0))
end
end My
local macro_rules | `(tactic| walk_at "binaryOp LShift int int") => `(tactic| (k_here; (with_reducible show wpAny _ _ (binaryOp Operator.LShift (Value.int 1 _) (Value.int _ _)) _ _ _); k_dflt (refine' My.step_shl ?k1 ?k2 ?_; (case k1 => omega); (case k2 => omega))))
local macro_rules | `(tactic| walk_at "binaryOp Mod int int") => `(tactic| (k_here; (with_reducible refine' My.step_mod ?k1 ?_); (case k1 => k_dflt omega); intro h0' h1'))
local macro_rules | `(tactic| walk_at "binaryOp BitAnd int int") => `(tactic| (k_here; with_reducible refine PyProof.Rows.and_int ?_))
local macro_rules | `(tactic| walk_at "binaryOp BitOr int int") => `(tactic| (k_here; with_reducible refine PyProof.Rows.or_int ?_))
theorem My.said : PySem.Challenge.rw_boardways_s02_count.wellSaid = true := by decide +kernel
theorem My.end_list {k : Int} {l : List Int} (h : l = [k]) : ofPy (PyData.list [PyData.int k]) = WData.list (l.map WData.int) := by
  subst h
  exact os_list (ys := [k]) rfl
example : Int → Int → Int → Int → Int → Int → List Int → Int → Prop := fun row n slants c f r pre t => t = (pre.map (My.turn row n slants c f r)).sum
set_option maxRecDepth 100000 in
set_option maxHeartbeats 8000000 in
theorem PySem.Challenge.cw_boardways_s02_count_holds : PySem.Challenge.rw_boardways_s02_count.Holds := by
  k_with "tree" => first
    | exact My.ways_end (by omega)
    | exact My.tree_end (by assumption) (by omega)
  k_with "state" => first
    | exact rfl
    | exact My.sum_yes (by assumption) (by assumption) (by assumption) (by assumption)
    | exact My.sum_no (by assumption) (by omega)
  k_with "pyIter ref" => k_state_given ["row", "n", "slants", "columns", "falling", "rising"] (fun row n slants c f r pre t => t = (pre.map (My.turn row n slants c f r)).sum) "ways"
  k_with "call ref" => (first
    | ((with_reducible rename PyProof.Rows.News _ _ _ [] => hN0); obtain ⟨nx, hnx, hN1⟩ : ∃ nx, nx = [] ∧ PyProof.Rows.News _ _ _ nx := ⟨[], rfl, hN0⟩; clear hN0; k_call_rec "ways_from_row" My.ways (fun row n slants _ _ _ => 0 ≤ row ∧ row ≤ n ∧ n ≤ 12 ∧ 1 ≤ slants ∧ slants ≤ 23) (fun row n _ _ _ _ => (n - row).toNat); subst hnx)
    | k_call_rec "ways_from_row" My.ways (fun row n slants _ _ _ => 0 ≤ row ∧ row ≤ n ∧ n ≤ 12 ∧ 1 ≤ slants ∧ slants ≤ 23) (fun row n _ _ _ _ => (n - row).toNat))
  open_ks with [.int 0, .int 0]
  all_goals (os_open My.said with a w q e; obtain ⟨(n : Int), (r : Int), u⟩ := a; have e1 : n = _ := (os_j_int (List.cons.inj e).1).symm; have e2 : r = _ := (os_j_int (List.cons.inj (List.cons.inj e).2).1).symm; clear e w; subst e1 e2; have q0 : n ≤ 6 ∨ 12 < n := My.asked_count (n := n) (r := r) q; clear q; refine (My.end_list ?_ : _ = WData.list ((PySn79.count n r).map WData.int)))
  all_goals first
    | exact My.out_count (by omega)
    | exact My.said_ring (by omega) (by omega) (by omega)
    | exact My.said_board (by omega) (by omega) (by omega)
#print axioms PySem.Challenge.cw_boardways_s02_count_holds

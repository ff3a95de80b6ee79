import PyProof.Rows.All
import KE.OsGo
import KE.OsArgs
import PySem.Challenge.RW_boardways_s03_tour
open PySem PySem.W
set_option Elab.async false
namespace My
open Sn79Neutral
theorem tours_round {r : Int} (h : r ≠ 0) (m n s : Nat) : ∀ (k : Nat) (l : List Nat), tours m n r s k l = tours m n 1 s k l
  | 0, l => by
    show (decide (r = 0) || leap n (l.headD 0) s) = (decide ((1 : Int) = 0) || leap n (l.headD 0) s)
    rw [decide_eq_false h, decide_eq_false (show ¬ (1 : Int) = 0 by decide)]
  | k + 1, l => by
    show ((List.range (m * n)).any fun x => !l.contains x && (leap n (l.headD 0) x && tours m n r s k (x :: l))) = ((List.range (m * n)).any fun x => !l.contains x && (leap n (l.headD 0) x && tours m n 1 s k (x :: l)))
    have e : (fun x => !l.contains x && (leap n (l.headD 0) x && tours m n r s k (x :: l))) = (fun x => !l.contains x && (leap n (l.headD 0) x && tours m n 1 s k (x :: l))) := by
      funext x
      rw [tours_round h m n s k]
    rw [e]
theorem f_tour (m n r : Int) : PySn79.tour m n r = if (Sn79.between m 1 Sn79.SIDE && Sn79.between n 1 Sn79.SIDE) = false then [-2] else if ((List.range (m.toNat * n.toNat)).any fun (s : Nat) => tours m.toNat n.toNat r s (m.toNat * n.toNat - 1) [s]) = true then [1] else [0] := rfl
theorem tour_round {r : Int} (h : r ≠ 0) (m n : Int) : PySn79.tour m n r = PySn79.tour m n 1 := by
  rw [f_tour, f_tour]
  simp only [tours_round h]
theorem asked_tour {m n r : Int} (h : PySn79.tour_asked m n r = true) : m < 1 ∨ 32 < m ∨ n < 1 ∨ 32 < n ∨ m * n ≤ 12 := by
  have e : PySn79.tour_asked m n r = (decide ([[[2, m, n, r]]].length ≤ 400) && (([[[2, m, n, r]]] != ([] : List Call)) && ((asked1 [[2, m, n, r]] && true) && decide ((([[[2, m, n, r]]] : List Call).map fun c => (f c).length).sum < 1000000)))) := rfl
  have e1 : asked1 [[2, m, n, r]] = (whole32 m && (whole32 n && (whole32 r && (decide (m < 1) || (decide (32 < m) || (decide (n < 1) || (decide (32 < n) || decide (m * n ≤ 12)))))))) := rfl
  rw [e, e1] at h
  simp only [Bool.and_eq_true, Bool.or_eq_true, decide_eq_true_eq] at h
  exact h.2.2.1.1.2.2.2
theorem out_tour {m n r : Int} (h : m < 1 ∨ 32 < m ∨ n < 1 ∨ 32 < n) : PySn79.tour m n r = [-2] := by
  rw [f_tour, if_pos]
  unfold Sn79.between Sn79.SIDE
  simp only [Bool.and_eq_false_iff, decide_eq_false_iff_not]
  omega
/-- the pairs of sides whose product is 12 at most -/
def pairs : List (Int × Int) := (List.range 12).flatMap fun (i : Nat) => ((List.range 12).map fun (j : Nat) => ((i : Int) + 1, (j : Int) + 1)).filter fun p => decide (p.1 * p.2 ≤ 12)
theorem tour_table : pairs.all (fun p => PySn79.tour p.1 p.2 0 == (if p = (1, 1) ∨ p = (3, 4) ∨ p = (4, 3) then [1] else [0]) && PySn79.tour p.1 p.2 1 == [0]) = true := by decide +kernel
theorem mem_pairs {m n : Int} (h1 : 1 ≤ m) (h2 : 1 ≤ n) (h : m * n ≤ 12) : (m, n) ∈ pairs := by
  have a : m ≤ 12 := Int.le_trans (by have := Int.mul_le_mul_of_nonneg_left h2 (show 0 ≤ m by omega); omega) h
  have b : n ≤ 12 := Int.le_trans (by have := Int.mul_le_mul_of_nonneg_right h1 (show 0 ≤ n by omega); omega) h
  unfold pairs
  refine List.mem_flatMap.mpr ⟨(m - 1).toNat, List.mem_range.mpr (by omega), List.mem_filter.mpr ⟨List.mem_map.mpr ⟨(n - 1).toNat, List.mem_range.mpr (by omega), ?_⟩, decide_eq_true h⟩⟩
  ext <;> simp <;> omega
theorem tour_said {m n r : Int} (h1 : 1 ≤ m) (h2 : 1 ≤ n) (h : m * n ≤ 12) : PySn79.tour m n r = if r = 0 ∧ ((m = 1 ∧ n = 1) ∨ (m = 3 ∧ n = 4) ∨ (m = 4 ∧ n = 3)) then [1] else [0] := by
  have t := List.all_eq_true.mp tour_table (m, n) (mem_pairs h1 h2 h)
  simp only [Bool.and_eq_true, beq_iff_eq, Prod.mk.injEq] at t
  by_cases hr : r = 0
  · subst hr
    simp only [true_and]
    exact t.1
  · rw [tour_round hr, t.2, if_neg (fun h => hr h.1)]
/-- what the product's bound says of each side -/
theorem sides {m n : Int} (h1 : 1 ≤ m) (h2 : 1 ≤ n) (h : m * n ≤ 12) : (m = 1 ∧ n ≤ 12) ∨ (m = 2 ∧ n ≤ 6) ∨ (m = 3 ∧ n ≤ 4) ∨ (m = 4 ∧ n ≤ 3) ∨ (m = 5 ∧ n ≤ 2) ∨ (m = 6 ∧ n ≤ 2) ∨ (7 ≤ m ∧ m ≤ 12 ∧ n = 1) := by
  have t : pairs.all (fun p => decide ((p.1 = 1 ∧ p.2 ≤ 12) ∨ (p.1 = 2 ∧ p.2 ≤ 6) ∨ (p.1 = 3 ∧ p.2 ≤ 4) ∨ (p.1 = 4 ∧ p.2 ≤ 3) ∨ (p.1 = 5 ∧ p.2 ≤ 2) ∨ (p.1 = 6 ∧ p.2 ≤ 2) ∨ (7 ≤ p.1 ∧ p.1 ≤ 12 ∧ p.2 = 1))) = true := by decide +kernel
  exact of_decide_eq_true (List.all_eq_true.mp t (m, n) (mem_pairs h1 h2 h))
/-- what is asked: a side out of its range, or the sides' bounds -/
theorem asked_sides {m n r : Int} (h : PySn79.tour_asked m n r = true) : (m < 1 ∨ 32 < m ∨ n < 1 ∨ 32 < n) ∨ (1 ≤ m ∧ 1 ≤ n ∧ m * n ≤ 12 ∧ ((m = 1 ∧ n ≤ 12) ∨ (m = 2 ∧ n ≤ 6) ∨ (m = 3 ∧ n ≤ 4) ∨ (m = 4 ∧ n ≤ 3) ∨ (m = 5 ∧ n ≤ 2) ∨ (m = 6 ∧ n ≤ 2) ∨ (7 ≤ m ∧ m ≤ 12 ∧ n = 1))) := by
  have a := asked_tour h
  by_cases o : m < 1 ∨ 32 < m ∨ n < 1 ∨ 32 < n
  · exact Or.inl o
  · have h1 : 1 ≤ m := by omega
    have h2 : 1 ≤ n := by omega
    have h3 : m * n ≤ 12 := by
      rcases a with a | a | a | a | a
      · omega
      · omega
      · omega
      · omega
      · exact a
    exact Or.inr ⟨h1, h2, h3, sides h1 h2 h3⟩
end My
theorem My.said : PySem.Challenge.rw_boardways_s03_tour.wellSaid = true := by decide +kernel
theorem My.end_list {k : Int} {l : List Int} (h : l = [k]) : ofPy (PyData.list [PyData.int k]) = WData.list (l.map WData.int) := by
  subst h
  exact os_list (ys := [k]) rfl
set_option maxRecDepth 100000 in
set_option maxHeartbeats 8000000 in
theorem PySem.Challenge.cw_boardways_s03_tour_holds : PySem.Challenge.rw_boardways_s03_tour.Holds := by
  open_ks with [.int 0, .int 0, .int 0]
  all_goals (os_open My.said with a w q e; obtain ⟨(m : Int), (n : Int), (r : Int), u⟩ := a; have e1 : m = _ := (os_j_int (List.cons.inj e).1).symm; have e2 : n = _ := (os_j_int (List.cons.inj (List.cons.inj e).2).1).symm; have e3 : r = _ := (os_j_int (List.cons.inj (List.cons.inj (List.cons.inj e).2).2).1).symm; clear e w; subst e1 e2 e3; have q0 := My.asked_sides (m := m) (n := n) (r := r) q; clear q; refine (My.end_list ?_ : _ = WData.list ((PySn79.tour m n r).map WData.int)))
  all_goals (
    first
    | exact My.out_tour (by omega)
    | (rcases q0 with q1 | ⟨h1, h2, h3, s⟩
       · exact absurd q1 (by omega)
       · rw [My.tour_said (m := m) (n := n) (r := r) h1 h2 h3]
         clear h3
         first
         | exact if_pos (show r = 0 ∧ ((m = 1 ∧ n = 1) ∨ (m = 3 ∧ n = 4) ∨ (m = 4 ∧ n = 3)) by omega)
         | exact if_neg (show ¬ (r = 0 ∧ ((m = 1 ∧ n = 1) ∨ (m = 3 ∧ n = 4) ∨ (m = 4 ∧ n = 3))) by omega)
         | (exfalso; omega)))
#print axioms PySem.Challenge.cw_boardways_s03_tour_holds

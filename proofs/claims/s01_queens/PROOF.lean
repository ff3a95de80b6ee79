import PyProof.Rows.All
import KE.OsGo
import KE.OsArgs
import PySem.Challenge.RW_boardways_s01_queens
open PySem PySem.W
set_option Elab.async false
namespace My
open Sn79Neutral
theorem sees_ring {r : Int} (h : r ≠ 0) (n : Nat) (l : List Nat) (x : Nat) : sees n r l x = sees n 1 l x := by
  unfold sees
  simp only [if_neg h, if_neg (show ¬ (1 : Int) = 0 by decide)]
theorem queens_ring {r : Int} (h : r ≠ 0) (n : Nat) : ∀ (k : Nat) (l : List Nat), Sn79Neutral.queens n r k l = Sn79Neutral.queens n 1 k l
  | 0, _ => rfl
  | k + 1, l => by
    show ((List.range n).map fun x => if sees n r l x = true then 0 else Sn79Neutral.queens n r k (x :: l)).sum = ((List.range n).map fun x => if sees n 1 l x = true then 0 else Sn79Neutral.queens n 1 k (x :: l)).sum
    have e : (fun x => if sees n r l x = true then 0 else Sn79Neutral.queens n r k (x :: l)) = (fun x => if sees n 1 l x = true then 0 else Sn79Neutral.queens n 1 k (x :: l)) := by
      funext x
      rw [sees_ring h, queens_ring h n k]
    rw [e]
theorem f_queens (n r : Int) : PySn79.queens n r = if Sn79.between n 1 Sn79.MOST = false then [-2] else if Sn79Neutral.queens n.toNat r n.toNat [] = 0 then [0] else [1] := rfl
theorem asked_queens {n r : Int} (h : PySn79.queens_asked n r = true) : n ≤ 6 ∨ 64 < n := by
  have e : PySn79.queens_asked n r = (decide ([[[0, n, r]]].length ≤ 400) && (([[[0, n, r]]] != ([] : List Call)) && ((asked1 [[0, n, r]] && true) && decide ((([[[0, n, r]]] : List Call).map fun c => (f c).length).sum < 1000000)))) := rfl
  have e1 : asked1 [[0, n, r]] = (whole32 n && (whole32 r && (decide (n ≤ 6) || decide (64 < n)))) := rfl
  rw [e, e1] at h
  simp only [Bool.and_eq_true, Bool.or_eq_true, decide_eq_true_eq] at h
  exact h.2.2.1.1.2.2
theorem out_queens {n r : Int} (h : n < 1 ∨ 64 < n) : PySn79.queens n r = [-2] := by
  rw [f_queens, if_pos]
  unfold Sn79.between Sn79.MOST
  simp only [Bool.and_eq_false_iff, decide_eq_false_iff_not]
  omega
theorem six {n : Int} (h1 : 1 ≤ n) (h6 : n ≤ 6) : n = 1 ∨ n = 2 ∨ n = 3 ∨ n = 4 ∨ n = 5 ∨ n = 6 := by omega
theorem board (r : Int) (h : r = 0) : PySn79.queens 1 r = [1] ∧ PySn79.queens 2 r = [0] ∧ PySn79.queens 3 r = [0] ∧ PySn79.queens 4 r = [1] ∧ PySn79.queens 5 r = [1] ∧ PySn79.queens 6 r = [1] := by
  subst h
  decide +kernel
theorem ring1 : PySn79.queens 1 1 = [1] ∧ PySn79.queens 2 1 = [0] ∧ PySn79.queens 3 1 = [0] ∧ PySn79.queens 4 1 = [0] ∧ PySn79.queens 5 1 = [1] ∧ PySn79.queens 6 1 = [0] := by
  decide +kernel
theorem ring_q {r : Int} (h : r ≠ 0) (n : Int) : PySn79.queens n r = PySn79.queens n 1 := by
  rw [f_queens, f_queens, queens_ring h]
theorem board_said {n r : Int} (h1 : 1 ≤ n) (h6 : n ≤ 6) (h : r = 0) : PySn79.queens n r = if n ≠ 2 ∧ n ≠ 3 then [1] else [0] := by
  obtain ⟨a1, a2, a3, a4, a5, a6⟩ := board r h
  rcases six h1 h6 with e | e | e | e | e | e <;> subst e
  · exact a1
  · exact a2
  · exact a3
  · exact a4
  · exact a5
  · exact a6
theorem ring_said {n r : Int} (h1 : 1 ≤ n) (h6 : n ≤ 6) (h : r ≠ 0) : PySn79.queens n r = if n % 2 ≠ 0 ∧ n % 3 ≠ 0 then [1] else [0] := by
  rw [ring_q h]
  obtain ⟨a1, a2, a3, a4, a5, a6⟩ := ring1
  rcases six h1 h6 with e | e | e | e | e | e <;> subst e
  · exact a1
  · exact a2
  · exact a3
  · exact a4
  · exact a5
  · exact a6
end My
theorem My.said : PySem.Challenge.rw_boardways_s01_queens.wellSaid = true := by decide +kernel
theorem My.end_list {k : Int} {l : List Int} (h : l = [k]) : ofPy (PyData.list [PyData.int k]) = WData.list (l.map WData.int) := by
  subst h
  exact os_list (ys := [k]) rfl
set_option maxRecDepth 100000 in
set_option maxHeartbeats 8000000 in
theorem PySem.Challenge.cw_boardways_s01_queens_holds : PySem.Challenge.rw_boardways_s01_queens.Holds := by
  open_ks with [.int 0, .int 0]
  all_goals (os_open My.said with a w q e; obtain ⟨(n : Int), (r : Int), u⟩ := a; have e1 : n = _ := (os_j_int (List.cons.inj e).1).symm; have e2 : r = _ := (os_j_int (List.cons.inj (List.cons.inj e).2).1).symm; clear e w; subst e1 e2; have q0 : n ≤ 6 ∨ 64 < n := My.asked_queens (n := n) (r := r) q; clear q; refine (My.end_list ?_ : _ = WData.list ((PySn79.queens n r).map WData.int)))
  all_goals (
    have f2 : Int.fmod n 2 = n % 2 := Int.fmod_eq_emod_of_nonneg n (by decide)
    have f3 : Int.fmod n 3 = n % 3 := Int.fmod_eq_emod_of_nonneg n (by decide)
    first
    | exact My.out_queens (by omega)
    | (rw [My.board_said (n := n) (r := r) (by omega) (by omega) (by omega)]; first | exact if_pos (show n ≠ 2 ∧ n ≠ 3 by omega) | exact if_neg (show ¬ (n ≠ 2 ∧ n ≠ 3) by omega))
    | (rw [My.ring_said (n := n) (r := r) (by omega) (by omega) (by omega)]; first | exact if_pos (show n % 2 ≠ 0 ∧ n % 3 ≠ 0 by omega) | exact if_neg (show ¬ (n % 2 ≠ 0 ∧ n % 3 ≠ 0) by omega)))
#print axioms PySem.Challenge.cw_boardways_s01_queens_holds

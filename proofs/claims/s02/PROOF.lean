import PyProof.Rows.All
import Wide.All
import OpenK.AllK
import Wide.FinOn
import KE.OsGo
import KE.OsArgs
import KE.OsEnd
import PySem.Challenge.RW_exactlutes_s02_of
set_option Elab.async false
namespace My
def gd (m n : Int) : Int := ((Nat.gcd m.natAbs n.natAbs : Nat) : Int)
structure Inv (l0 s0 l s : Int) : Prop where
  eq : Nat.gcd l.natAbs s.natAbs = Nat.gcd l0.natAbs s0.natAbs
theorem start {l s : Int} (h : 0 ≤ l) (g : 0 ≤ s) : 0 ≤ l ∧ 0 ≤ s ∧ Inv l s l s := ⟨h, g, ⟨rfl⟩⟩
theorem turn {l0 s0 l s : Int} (h : Inv l0 s0 l s) (hl : 0 ≤ l) (hs : 0 ≤ s) (hz : ¬ s = 0) : 0 ≤ s ∧ 0 ≤ Int.fmod l s ∧ Inv l0 s0 s (Int.fmod l s) := by
  have e : Int.fmod l s = l % s := Int.fmod_eq_emod_of_nonneg l hs
  have p : 0 < s := by omega
  refine ⟨hs, by rw [e]; exact Int.emod_nonneg _ hz, ⟨?_⟩⟩
  rw [← h.eq, e, Int.natAbs_emod_of_nonneg hl, Nat.gcd_comm s.natAbs, ← Nat.gcd_rec, Nat.gcd_comm]
theorem less {l s : Int} (hs : 0 ≤ s) (hz : ¬ s = 0) : (Int.fmod l s).toNat < s.toNat := by
  have := Int.fmod_lt_of_pos l (show 0 < s by omega)
  have := Int.fmod_nonneg_of_pos l (show 0 < s by omega)
  omega
theorem out {l0 s0 l s m n : Int} (h : Inv l0 s0 l s) (hl : 0 ≤ l) (hz : s = 0) (e1 : l0.natAbs = m.natAbs) (e2 : s0.natAbs = n.natAbs) : l = gd m n := by
  unfold gd
  have := h.eq
  rw [hz] at this
  rw [← e1, ← e2, ← this]
  simp
  omega
end My
namespace My
def fold (pre : List Int) : Int := pre.foldl gd 0
structure Small (pre : List Int) : Prop where
  all : ∀ v ∈ pre, -99 ≤ v ∧ v ≤ 99
theorem small0 : Small [] := ⟨by simp⟩
theorem small1 {pre : List Int} {v : Int} (h : Small pre) (a : -99 ≤ v) (b : v ≤ 99) : Small (pre ++ [v]) := ⟨by
  intro x hx
  rcases List.mem_append.mp hx with h1 | h1
  · exact h.all x h1
  · rw [List.mem_singleton.mp h1]; exact ⟨a, b⟩⟩
theorem fold0 : (0 : Int) = fold [] := rfl
theorem fold1 {pre : List Int} {f v : Int} (h : f = fold pre) : gd f v = fold (pre ++ [v]) := by
  unfold fold at *
  rw [List.foldl_append, ← h]; rfl
end My
namespace My
open Lute LuteA
theorem gd_abs (f v : Int) : (gd f v).natAbs = Nat.gcd f.natAbs v.natAbs := by
  unfold gd; simp
theorem fold5 (a b c e d : Int) : fold [a, b, c, e, d] = ((Iv.common ⟨a, b, c, e, d.natAbs⟩ : Nat) : Int) := by
  show gd (gd (gd (gd (gd 0 a) b) c) e) d = _
  conv => lhs; unfold gd
  congr 1
  rw [← gd, ← gd, ← gd, ← gd]
  simp only [gd_abs]
  unfold Iv.common
  show (((((Nat.gcd (Int.natAbs 0) a.natAbs).gcd b.natAbs).gcd c.natAbs).gcd e.natAbs).gcd d.natAbs) = _
  have z : Nat.gcd (Int.natAbs 0) a.natAbs = a.natAbs := by simp
  rw [z, Nat.gcd_comm _ d.natAbs, Nat.gcd_assoc, Nat.gcd_assoc]
theorem is_len {ns : List Int} (h : (ns.length : Int) ≠ 5) : [0] = PyWqauck.is_interval ns := by
  match ns with
  | [] => rfl
  | [_] => rfl
  | [_, _] => rfl
  | [_, _, _] => rfl
  | [_, _, _, _] => rfl
  | [_, _, _, _, _] => exact absurd rfl h
  | _ :: _ :: _ :: _ :: _ :: _ :: _ => rfl
theorem five {ns : List Int} (h : (ns.length : Int) = 5) : ∃ a b c e d, ns = [a, b, c, e, d] := by
  match ns, h with
  | [a, b, c, e, d], _ => exact ⟨a, b, c, e, d, rfl⟩
  | [], h => simp at h
  | [_], h => simp at h
  | [_, _], h => simp at h
  | [_, _, _], h => simp at h
  | [_, _, _, _], h => simp at h
  | _ :: _ :: _ :: _ :: _ :: _ :: _, h => simp at h; omega
structure Good (a b c e d : Int) : Prop where
  ha : -99 ≤ a ∧ a ≤ 99
  hb : -99 ≤ b ∧ b ≤ 99
  hc : -99 ≤ c ∧ c ≤ 99
  he : -99 ≤ e ∧ e ≤ 99
  hd : 1 ≤ d ∧ d ≤ 24
  one : fold [a, b, c, e, d] = 1
theorem within_iff (z : Int) : Lute.within z = true ↔ -99 ≤ z ∧ z ≤ 99 := by
  unfold Lute.within
  rw [Bool.and_eq_true, decide_eq_true_eq, decide_eq_true_eq]
  exact Iff.rfl
theorem iv_ok (x : Iv) : x.ok = true ↔ (-99 ≤ x.a ∧ x.a ≤ 99) ∧ (-99 ≤ x.b ∧ x.b ≤ 99) ∧ (-99 ≤ x.c ∧ x.c ≤ 99) ∧ (-99 ≤ x.e ∧ x.e ≤ 99) ∧ 1 ≤ x.d ∧ x.d ≤ 24 ∧ x.common = 1 := by
  unfold Iv.ok
  rw [Bool.and_eq_true, Bool.and_eq_true, Bool.and_eq_true, Bool.and_eq_true, Bool.and_eq_true, Bool.and_eq_true, within_iff, within_iff, within_iff, within_iff, decide_eq_true_eq, decide_eq_true_eq, beq_iff_eq]
  exact Iff.rfl
theorem ok_iff (a b c e d : Int) : (decide (1 ≤ d) && (⟨a, b, c, e, d.toNat⟩ : Iv).ok) = true ↔ Good a b c e d := by
  rw [Bool.and_eq_true, decide_eq_true_eq, iv_ok]
  constructor
  · rintro ⟨hd, h1, h2, h3, h4, h5, h6, h7⟩
    have e1 : d.natAbs = d.toNat := by omega
    refine ⟨h1, h2, h3, h4, ⟨hd, by simp only at h6; omega⟩, ?_⟩
    rw [fold5, e1, h7]; rfl
  · rintro ⟨h1, h2, h3, h4, ⟨hd, h5⟩, h6⟩
    have e1 : d.natAbs = d.toNat := by omega
    rw [fold5, e1] at h6
    exact ⟨hd, h1, h2, h3, h4, by simp only; omega, by simp only; omega, by omega⟩
theorem given_yes {a b c e d : Int} (h : Good a b c e d) : given [a, b, c, e, d] = some ⟨a, b, c, e, d.toNat⟩ := by
  show (if (decide (1 ≤ d) && (⟨a, b, c, e, d.toNat⟩ : Iv).ok) = true then some (⟨a, b, c, e, d.toNat⟩ : Iv) else none) = _
  rw [if_pos ((ok_iff a b c e d).mpr h)]
theorem given_no {a b c e d : Int} (h : ¬ Good a b c e d) : given [a, b, c, e, d] = none := by
  show (if (decide (1 ≤ d) && (⟨a, b, c, e, d.toNat⟩ : Iv).ok) = true then some (⟨a, b, c, e, d.toNat⟩ : Iv) else none) = _
  rw [if_neg (fun k => h ((ok_iff a b c e d).mp k))]
theorem is5 (ns : List Int) : PyWqauck.is_interval ns = [if (given ns).isSome = true then 1 else 0] := rfl
theorem is_yes {ns : List Int} (h : (ns.length : Int) = 5) (s : Small (ns.take 4)) (l : 1 ≤ ns.getD (Int.toNat 4) 0) (u : ns.getD (Int.toNat 4) 0 ≤ 24) (f : fold ns = 1) : [1] = PyWqauck.is_interval ns := by
  obtain ⟨a, b, c, e, d, rfl⟩ := five h
  have g : Good a b c e d := ⟨s.all a (by simp), s.all b (by simp), s.all c (by simp), s.all e (by simp), ⟨l, u⟩, f⟩
  rw [is5, given_yes g]
  rfl
theorem is_no {ns : List Int} (h : (ns.length : Int) = 5) (n : ¬ (Small (ns.take 4) ∧ 1 ≤ ns.getD (Int.toNat 4) 0 ∧ ns.getD (Int.toNat 4) 0 ≤ 24 ∧ fold ns = 1)) : [0] = PyWqauck.is_interval ns := by
  obtain ⟨a, b, c, e, d, rfl⟩ := five h
  rw [is5, given_no]
  · rfl
  · rintro ⟨h1, h2, h3, h4, ⟨h5, h6⟩, h7⟩
    refine n ⟨⟨?_⟩, h5, h6, h7⟩
    intro v hv
    simp at hv
    rcases hv with rfl | rfl | rfl | rfl <;> assumption
theorem is_big {ns pre post : List Int} {v : Int} (h : (ns.length : Int) = 5) (q : ns.take 4 = pre ++ v :: post) (b : 99 < if v < 0 then -v else v) : [0] = PyWqauck.is_interval ns :=
  is_no h fun k => by
    have := k.1.all v (by rw [q]; simp)
    split at b <;> omega
end My
namespace My
theorem is_nof {ns : List Int} {f : Int} (h : (ns.length : Int) = 5) (k : f = fold ns) (n : f ≠ 1) : [0] = PyWqauck.is_interval ns :=
  is_no h fun z => n (k.trans z.2.2.2)
theorem is_yesf {ns : List Int} {f : Int} (h : (ns.length : Int) = 5) (s : Small (ns.take 4)) (l : 1 ≤ ns.getD (Int.toNat 4) 0) (u : ns.getD (Int.toNat 4) 0 ≤ 24) (k : f = fold ns) (n : f = 1) : [1] = PyWqauck.is_interval ns :=
  is_yes h s l u (k ▸ n)
end My
namespace My
theorem gd_fact (m n : Int) : 0 ≤ gd m n ∧ (0 < n → 0 < gd m n ∧ gd m n ≤ n) := by
  refine ⟨Int.natCast_nonneg _, fun h => ⟨?_, ?_⟩⟩
  · have : 0 < Nat.gcd m.natAbs n.natAbs := Nat.gcd_pos_of_pos_right _ (by omega)
    unfold gd; omega
  · have : Nat.gcd m.natAbs n.natAbs ≤ n.natAbs := Nat.gcd_le_right _ (by omega)
    unfold gd; omega
end My
namespace My
theorem fold_pos5 {a b c e d : Int} (h : ¬ d < 1) : 0 < List.foldl gd 0 [a, b, c, e, d] := by
  show 0 < gd _ d
  exact ((gd_fact _ d).2 (by omega)).1
theorem fold_ne5 {a b c e d : Int} (h : ¬ d < 1) : List.foldl gd 0 [a, b, c, e, d] ≠ 0 := by
  have := fold_pos5 (a := a) (b := b) (c := c) (e := e) h
  omega
theorem fold_nef {f a b c e d : Int} (k : f = fold [a, b, c, e, d]) (h : ¬ d < 1) : f ≠ 0 := by
  rw [k]; exact fold_ne5 h
end My
namespace My
open Lute LuteA
theorem common_dvd (x : Iv) : x.common ∣ x.d ∧ x.common ∣ x.a.natAbs ∧ x.common ∣ x.b.natAbs ∧ x.common ∣ x.c.natAbs ∧ x.common ∣ x.e.natAbs := by
  unfold Iv.common
  have h1 := Nat.gcd_dvd_left x.d (Nat.gcd x.a.natAbs (Nat.gcd x.b.natAbs (Nat.gcd x.c.natAbs x.e.natAbs)))
  have h2 := Nat.gcd_dvd_right x.d (Nat.gcd x.a.natAbs (Nat.gcd x.b.natAbs (Nat.gcd x.c.natAbs x.e.natAbs)))
  have h3 := Nat.dvd_trans h2 (Nat.gcd_dvd_right _ _)
  have h4 := Nat.dvd_trans h3 (Nat.gcd_dvd_right _ _)
  exact ⟨h1, Nat.dvd_trans h2 (Nat.gcd_dvd_left _ _), Nat.dvd_trans h3 (Nat.gcd_dvd_left _ _), Nat.dvd_trans h4 (Nat.gcd_dvd_left _ _), Nat.dvd_trans h4 (Nat.gcd_dvd_right _ _)⟩
theorem common_pos {x : Iv} (h : 0 < x.d) : 0 < x.common := Nat.gcd_pos_of_pos_left _ h
theorem abs_div {z : Int} {g : Nat} (h : g ∣ z.natAbs) : (z / (g : Int)).natAbs = z.natAbs / g := by
  have h' : (g : Int) ∣ z := Int.ofNat_dvd_left.mpr h
  rw [Int.natAbs_ediv_of_dvd h', Int.natAbs_natCast]
theorem low_common {x : Iv} (h : 0 < x.d) : x.low.common = 1 := by
  obtain ⟨h1, h2, h3, h4, h5⟩ := common_dvd x
  have p := common_pos h
  have e : x.low.common = Nat.gcd (x.d / x.common) (Nat.gcd (x.a / (x.common : Int)).natAbs (Nat.gcd (x.b / (x.common : Int)).natAbs (Nat.gcd (x.c / (x.common : Int)).natAbs (x.e / (x.common : Int)).natAbs))) := rfl
  rw [e, abs_div h2, abs_div h3, abs_div h4, abs_div h5, Nat.gcd_div h4 h5, Nat.gcd_div h3 (Nat.dvd_gcd h4 h5), Nat.gcd_div h2 (Nat.dvd_gcd h3 (Nat.dvd_gcd h4 h5)), Nat.gcd_div h1 (Nat.dvd_gcd h2 (Nat.dvd_gcd h3 (Nat.dvd_gcd h4 h5)))]
  exact Nat.div_self p
theorem low_self {x : Iv} (h : x.common = 1) : x.low = x := by
  unfold Iv.low
  rw [h]
  cases x
  simp
/-- the list of the five in lowest terms, as the program tells it -/
def L5 (a b c e d : Int) : List Int := List.map (fun k' => k'.fdiv (List.foldl gd 0 [a, b, c, e, d])) [a, b, c, e, d]
theorem fold_eq {a b c e d : Int} (h : ¬ d < 1) : List.foldl gd 0 [a, b, c, e, d] = (((⟨a, b, c, e, d.toNat⟩ : Iv).common : Nat) : Int) := by
  have e1 : d.natAbs = d.toNat := by omega
  have := fold5 a b c e d
  rw [e1] at this
  exact this
theorem L5_eq {a b c e d : Int} (h : ¬ d < 1) : L5 a b c e d = rowOf (⟨a, b, c, e, d.toNat⟩ : Iv).low := by
  unfold L5
  rw [fold_eq h]
  have f (z : Int) : z.fdiv (((⟨a, b, c, e, d.toNat⟩ : Iv).common : Nat) : Int) = z / (((⟨a, b, c, e, d.toNat⟩ : Iv).common : Nat) : Int) := Int.fdiv_eq_ediv_of_nonneg z (Int.natCast_nonneg _)
  have g : d / (((⟨a, b, c, e, d.toNat⟩ : Iv).common : Nat) : Int) = ((d.toNat / (⟨a, b, c, e, d.toNat⟩ : Iv).common : Nat) : Int) := by
    rw [Int.natCast_ediv, Int.toNat_of_nonneg (by omega)]
  simp only [List.map_cons, List.map_nil, f]
  rw [g]
  rfl
theorem told_iff {x : Iv} (h : 0 < x.d) : x.told = if (-99 ≤ x.low.a ∧ x.low.a ≤ 99) ∧ (-99 ≤ x.low.b ∧ x.low.b ≤ 99) ∧ (-99 ≤ x.low.c ∧ x.low.c ≤ 99) ∧ (-99 ≤ x.low.e ∧ x.low.e ≤ 99) ∧ 1 ≤ x.low.d ∧ x.low.d ≤ 24 then some x.low else none := by
  unfold Iv.told
  rw [if_neg (by omega)]
  by_cases k : x.low.ok = true
  · rw [if_pos k, if_pos]
    have := (iv_ok x.low).mp k
    exact ⟨this.1, this.2.1, this.2.2.1, this.2.2.2.1, this.2.2.2.2.1, this.2.2.2.2.2.1⟩
  · rw [if_neg k, if_neg]
    rintro ⟨h1, h2, h3, h4, h5, h6⟩
    exact k ((iv_ok x.low).mpr ⟨h1, h2, h3, h4, h5, h6, low_common h⟩)
theorem of_eq (a b c e d : Int) : PyWqauck.of a b c e d = numbers (gives (if d < 1 then none else Iv.told ⟨a, b, c, e, d.toNat⟩)) := rfl
theorem of_lt {a b c e d : Int} (h : d < 1) : [0] = PyWqauck.of a b c e d := by
  rw [of_eq, if_pos h]; rfl
theorem small_row {x : Iv} : Small ((rowOf x).take 4) ↔ (-99 ≤ x.a ∧ x.a ≤ 99) ∧ (-99 ≤ x.b ∧ x.b ≤ 99) ∧ (-99 ≤ x.c ∧ x.c ≤ 99) ∧ (-99 ≤ x.e ∧ x.e ≤ 99) := by
  constructor
  · intro s
    exact ⟨s.all _ (by simp [rowOf]), s.all _ (by simp [rowOf]), s.all _ (by simp [rowOf]), s.all _ (by simp [rowOf])⟩
  · rintro ⟨h1, h2, h3, h4⟩
    refine ⟨fun v hv => ?_⟩
    simp [rowOf] at hv
    rcases hv with rfl | rfl | rfl | rfl <;> assumption
theorem row_d (x : Iv) : (rowOf x).getD (Int.toNat 4) 0 = (x.d : Int) := rfl
theorem of_yes {a b c e d : Int} (h : ¬ d < 1) (s : Small (List.take 4 (L5 a b c e d))) (l : 1 ≤ (L5 a b c e d).getD (Int.toNat 4) 0) (u : (L5 a b c e d).getD (Int.toNat 4) 0 ≤ 24) : [1] ++ L5 a b c e d = PyWqauck.of a b c e d := by
  rw [L5_eq h] at s l u ⊢
  rw [row_d] at l u
  obtain ⟨h1, h2, h3, h4⟩ := small_row.mp s
  rw [of_eq, if_neg h, told_iff (show 0 < d.toNat by omega), if_pos ⟨h1, h2, h3, h4, by omega, by omega⟩]
  rfl
theorem of_no {a b c e d : Int} (h : ¬ d < 1) (n : ¬ (Small (List.take 4 (L5 a b c e d)) ∧ 1 ≤ (L5 a b c e d).getD (Int.toNat 4) 0 ∧ (L5 a b c e d).getD (Int.toNat 4) 0 ≤ 24)) : [0] = PyWqauck.of a b c e d := by
  rw [L5_eq h, row_d] at n
  rw [of_eq, if_neg h, told_iff (show 0 < d.toNat by omega), if_neg]
  · rfl
  · rintro ⟨h1, h2, h3, h4, h5, h6⟩
    exact n ⟨small_row.mpr ⟨h1, h2, h3, h4⟩, by omega, by omega⟩
theorem of_big {a b c e d v : Int} {pre post : List Int} (h : ¬ d < 1) (q : List.take 4 (L5 a b c e d) = pre ++ v :: post) (b' : 99 < if v < 0 then -v else v) : [0] = PyWqauck.of a b c e d :=
  of_no h fun k => by
    have := k.1.all v (by rw [q]; simp)
    split at b' <;> omega
theorem of_nou {a b c e d : Int} (h : ¬ d < 1) (n : ¬ (L5 a b c e d).getD (Int.toNat 4) 0 ≤ 24) : [0] = PyWqauck.of a b c e d := of_no h fun k => n k.2.2
theorem of_nol {a b c e d : Int} (h : ¬ d < 1) (n : ¬ 1 ≤ (L5 a b c e d).getD (Int.toNat 4) 0) : [0] = PyWqauck.of a b c e d := of_no h fun k => n k.2.1
end My
open PySem PySem.W PySem.Calls PyProof.Rows
theorem My.said2 : PySem.Challenge.rw_exactlutes_s02_of.wellSaid = true := by decide +kernel
local macro_rules | `(tactic| walk_at "binaryOp FloorDiv int int") => `(tactic| ((refine floordiv_int ?k1 ?_ (Or.inr (PySem.PylongRoom.of (by first | assumption | (refine PySem.Heap.NoLimit.keeps ?_ (PyProof.Rows.Fr.keep (by assumption)); first | assumption | exact PyProof.Rows.Glob.nolimit (by assumption) | exact PyProof.Rows.Top.nolimit (by assumption)) | exact PyProof.Rows.Glob.nolimit (by assumption) | exact PyProof.Rows.Top.nolimit (by assumption)) (of_decide_eq_true (by with_unfolding_all rfl))))); (case k1 => (first | omega | exact My.fold_ne5 (by assumption)))))
set_option maxRecDepth 100000 in
set_option maxHeartbeats 8000000 in
theorem PySem.Challenge.cw_exactlutes_s02_of_holds : PySem.Challenge.rw_exactlutes_s02_of.Holds := by
  k_with "call ref" => k_call_by "greatest_divisor" My.gd
  k_with "fact greatest_divisor" => exact My.gd_fact
  k_with "tree" => exact My.out (by assumption) (by omega) (by omega) (by omega) (by omega)
  k_with "state" => first
    | exact My.start (by omega) (by omega)
    | exact My.turn (by assumption) (by omega) (by omega) (by omega)
    | exact My.small0
    | exact My.small1 (by assumption) (by omega) (by omega)
  k_with "measure" => exact My.less (by omega) (by omega)
  k_with "exec While Compare cons nil" => k_while_given ["larger!", "smaller!"] (fun l0 s0 _ l s => 0 ≤ l ∧ 0 ≤ s ∧ My.Inv l0 s0 l s) (fun _ _ _ _ s => s.toNat) "larger" "smaller"
  k_with "pyIter ref" => (k_of "power" => k_search (fun pre => My.Small pre))
  open_ks with [.int 0, .int 0, .int 0, .int 0, .int 1]
  all_goals (
    os_open My.said2 with a w q e
    obtain ⟨a1, a2, a3, a4, a5, u⟩ := a
    have e1 := os_j_int (List.cons.inj e).1
    have e2 := os_j_int (List.cons.inj (List.cons.inj e).2).1
    have e3 := os_j_int (List.cons.inj (List.cons.inj (List.cons.inj e).2).2).1
    have e4 := os_j_int (List.cons.inj (List.cons.inj (List.cons.inj (List.cons.inj e).2).2).2).1
    have e5 := os_j_int (List.cons.inj (List.cons.inj (List.cons.inj (List.cons.inj (List.cons.inj e).2).2).2).2).1
    clear e
    subst e1 e2 e3 e4 e5)
  all_goals first
    | exact os_list (congrArg (List.map PyData.int) (My.of_lt (by assumption)))
    | exact os_list (congrArg (List.map PyData.int) (My.of_big (by assumption) (by assumption) (by assumption)))
    | exact os_list (congrArg (List.map PyData.int) (My.of_nou (by assumption) (by assumption)))
    | exact os_list (congrArg (List.map PyData.int) (My.of_nol (by assumption) (by assumption)))
    | exact os_list (congrArg (List.map PyData.int) (My.of_yes (by assumption) (by assumption) (by assumption) (by assumption)))
#print axioms PySem.Challenge.cw_exactlutes_s02_of_holds

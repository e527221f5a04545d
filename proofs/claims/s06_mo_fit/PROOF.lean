import PyProof.Rows.All
import Wide.All
import OpenK.AllK
import Wide.FinOn
import Open.SpecLaws
import KE.OsHead
import KE.OsGo
import HandS.Base
import HandS.Call
import HandS.List
import HandS.Comp
import HandS.Ends
import HandS.Spec
import HandS.Words
import HandS.WordsList
import HandS.Wide
import PySem.Challenge.RW_newandmoving_s06_mo_fit
set_option Elab.async false
set_option linter.all false
set_option maxRecDepth 100000
set_option maxHeartbeats 2000000
namespace My
open Sh72 (Point)
/-! ### the program as plain functions -/
def sg (n : Int) : Int := if n < 2147483648 then n else n - 4294967296
def pt (ns : List Int) (j : Nat) : Point := ⟨sg (ns.getD (4 * j) 0), sg (ns.getD (4 * j + 1) 0), sg (ns.getD (4 * j + 2) 0), sg (ns.getD (4 * j + 3) 0)⟩
def pts (ns : List Int) : List Point := (List.range (ns.length / 4)).map (pt ns)
def ab (i : Int) : Int := if i < 0 then -i else i
def told (p : Point) : Bool := (decide (0 ≤ p.t) && decide (p.t ≤ 65535)) && (decide (ab p.x ≤ 32768) && (decide (ab p.y ≤ 32768) && decide (ab p.mag ≤ 65536)))
def d2 (p q : Point) : Int := (p.x - q.x) * (p.x - q.x) + (p.y - q.y) * (p.y - q.y)
def nst (p : Point) (o : Option Point) (q : Point) : Option Point := match o with
  | none => some q
  | some b => if d2 p q < d2 p b then some q else some b
def nearP (p : Point) (ps : List Point) : Option Point := ps.foldl (nst p) none
def within (r : Int) (p : Point) (ps : List Point) : Option Point := match nearP p ps with
  | none => none
  | some b => if r * r < d2 p b then none else some b
def many (most : Int) (ns : List Int) : Bool := decide (most < ((ns.length / 4 : Nat) : Int))
def okL (ns : List Int) : Bool := (pts ns).all told
def refu (b : Bool) (most : Int) (nss : List (List Int)) : Int := if (!b || nss.any (many most)) = true then -2 else if nss.all okL = true then 0 else -3
def newIx (r : Int) (before seen : List Point) : List Nat := (List.range seen.length).filter fun k => (within r (seen.getD k Sh72.nothing) before).isNone
def newAns (r : Int) (kn ln : List Int) : List Int :=
  let c := refu (decide (r ≤ 65535)) 256 [kn, ln]
  if c < 0 then [c] else (((newIx r (pts kn) (pts ln)).length : Nat) : Int) :: (newIx r (pts kn) (pts ln)).map fun k : Nat => (k : Int)
def stateOf (r d : Int) (p : Point) (seen : List Point) : Int := match within r p seen with
  | none => 3
  | some b => if d < p.mag - b.mag then 1 else if d < b.mag - p.mag then 2 else 0
def stAns (r d : Int) (kn ln : List Int) : List Int :=
  let c := refu (decide (r ≤ 65535) && decide (d ≤ 131072)) 256 [kn, ln]
  if c < 0 then [c] else 0 :: (pts kn).map fun p => stateOf r d p (pts ln)
/-! ### the mathematics -/
def Wd (ns : List Int) : Prop := ∀ x ∈ ns, 0 ≤ x
theorem sg_is {n : Int} (h : 0 ≤ n) : Sh72.signed32 n.toNat = sg n := by
  unfold Sh72.signed32 sg
  split <;> split <;> omega
theorem num_is {ns : List Int} (h : Wd ns) (i : Nat) : Sh72.signed32 (Sh72.num (Sh72Neutral.nats ns) i) = sg (ns.getD i 0) := by
  unfold Sh72.num Sh72Neutral.nats
  rw [List.getD_eq_getElem?_getD, List.getD_eq_getElem?_getD, List.getElem?_map]
  cases e : ns[i]? with
  | none => rfl
  | some x =>
    exact sg_is (h x (List.mem_of_getElem? e))
theorem len_nats (ns : List Int) : (Sh72Neutral.nats ns).length = ns.length := by
  unfold Sh72Neutral.nats
  exact List.length_map ..
theorem pts_is {ns : List Int} (h : Wd ns) : Sh72.points (Sh72Neutral.nats ns) = pts ns := by
  unfold Sh72.points pts
  rw [len_nats]
  refine List.map_congr_left fun j _ => ?_
  unfold pt
  rw [num_is h, num_is h, num_is h, num_is h]
theorem ab_is (i : Int) : (i.natAbs : Int) = ab i := by
  unfold ab
  split <;> omega
theorem fine_is (p : Point) : Sh72.fine p = told p := by
  unfold Sh72.fine told
  have hx := ab_is p.x
  have hy := ab_is p.y
  have hm := ab_is p.mag
  have e1 : decide (p.t < 65536) = decide (p.t ≤ 65535) := decide_eq_decide.mpr (by omega)
  have e2 : decide (p.x.natAbs ≤ 32768) = decide (ab p.x ≤ 32768) := decide_eq_decide.mpr (by omega)
  have e3 : decide (p.y.natAbs ≤ 32768) = decide (ab p.y ≤ 32768) := decide_eq_decide.mpr (by omega)
  have e4 : decide (p.mag.natAbs ≤ 65536) = decide (ab p.mag ≤ 65536) := decide_eq_decide.mpr (by omega)
  rw [e1, e2, e3, e4, Bool.and_assoc]
theorem fines_is (l : List Point) : Sh72.fines l = l.all told := by
  unfold Sh72.fines
  exact congrArg l.all (funext fine_is)
theorem sq_is (a : Int) : ((Sh72.square a : Nat) : Int) = a * a := by
  unfold Sh72.square
  have : 0 ≤ a * a := by
    rcases Int.le_total 0 a with h | h
    · exact Int.mul_nonneg h h
    · exact Int.mul_nonneg_of_nonpos_of_nonpos h h
  omega
theorem d2_is (p q : Point) : ((Sh72.dist2 p q : Nat) : Int) = d2 p q := by
  unfold Sh72.dist2 d2
  rw [Int.natCast_add, sq_is, sq_is]
theorem d2_comm (p q : Point) : d2 p q = d2 q p := by
  unfold d2
  have e1 : p.x - q.x = -(q.x - p.x) := by omega
  have e2 : p.y - q.y = -(q.y - p.y) := by omega
  rw [e1, e2, Int.neg_mul_neg, Int.neg_mul_neg]
theorem near_snoc (p q : Point) (ps : List Point) : nearP p (ps ++ [q]) = nst p (nearP p ps) q := by
  unfold nearP
  rw [List.foldl_append]
  rfl
theorem nst_some (p : Point) (o : Option Point) (q : Point) : ∃ b, nst p o q = some b := by
  unfold nst
  cases o with
  | none => exact ⟨_, rfl⟩
  | some b =>
    by_cases h : d2 p q < d2 p b
    · exact ⟨q, if_pos h⟩
    · exact ⟨b, if_neg h⟩
/-- the nearest: none of none, else one of them that is no farther than any -/
theorem near_min (p : Point) : ∀ (n : Nat) (ps : List Point), ps.length = n → (nearP p ps = none → ps = []) ∧ ∀ b, nearP p ps = some b → b ∈ ps ∧ ∀ q ∈ ps, d2 p b ≤ d2 p q
  | 0, ps, h => by
    have : ps = [] := List.length_eq_zero_iff.mp h
    subst this
    exact ⟨fun _ => rfl, fun b e => by cases e⟩
  | n + 1, ps, h => by
    obtain ⟨as, a, rfl⟩ : ∃ as a, ps = as ++ [a] := by
      have hne : ps ≠ [] := by intro e; rw [e] at h; cases h
      exact ⟨ps.dropLast, ps.getLast hne, (List.dropLast_concat_getLast hne).symm⟩
    have hl : as.length = n := by
      rw [List.length_append] at h
      simpa using h
    obtain ⟨i1, i2⟩ := near_min p n as hl
    rw [near_snoc]
    refine ⟨fun e => ?_, fun b e => ?_⟩
    · obtain ⟨b, hb⟩ := nst_some p (nearP p as) a
      rw [hb] at e
      cases e
    · cases hn : nearP p as with
      | none =>
        have := i1 hn
        subst this
        rw [hn] at e
        cases e
        exact ⟨by simp, fun q hq => by simp at hq; subst hq; exact Int.le_refl _⟩
      | some c =>
        rw [hn] at e
        obtain ⟨m1, m2⟩ := i2 c hn
        have e : (if d2 p a < d2 p c then some a else some c) = some b := e
        by_cases hd : d2 p a < d2 p c
        · rw [if_pos hd] at e
          cases e
          refine ⟨by simp, fun q hq => ?_⟩
          rcases List.mem_append.mp hq with hq | hq
          · exact Int.le_trans (Int.le_of_lt hd) (m2 q hq)
          · simp at hq
            subst hq
            exact Int.le_refl _
        · rw [if_neg hd] at e
          cases e
          refine ⟨List.mem_append_left _ m1, fun q hq => ?_⟩
          rcases List.mem_append.mp hq with hq | hq
          · exact m2 q hq
          · simp at hq
            subst hq
            exact Int.not_lt.mp hd
theorem within_none {r : Nat} (p : Point) (ps : List Point) : (within (r : Int) p ps).isNone = ps.all fun k => decide (r * r < Sh72.dist2 k p) := by
  obtain ⟨i1, i2⟩ := near_min p _ ps rfl
  unfold within
  cases hn : nearP p ps with
  | none =>
    rw [i1 hn]
    rfl
  | some b =>
    obtain ⟨m1, m2⟩ := i2 b hn
    have key : ∀ k, (r * r < Sh72.dist2 k p) ↔ ((r : Int) * (r : Int) < d2 p k) := fun k => by
      rw [d2_comm, ← d2_is, ← Int.natCast_mul]
      omega
    show (if (r : Int) * (r : Int) < d2 p b then (none : Option Point) else some b).isNone = _
    by_cases hd : (r : Int) * (r : Int) < d2 p b
    · rw [if_pos hd]
      symm
      show _ = true
      rw [List.all_eq_true]
      intro k hk
      exact decide_eq_true ((key k).mpr (Int.lt_of_lt_of_le hd (m2 k hk)))
    · rw [if_neg hd]
      symm
      show _ = false
      rw [List.all_eq_false]
      exact ⟨b, m1, by rw [decide_eq_true_eq]; exact fun h => hd ((key b).mp h)⟩
theorem newIx_is (r : Nat) (kn l : List Point) : newIx (r : Int) kn l = Sh72.new r kn l := by
  unfold newIx Sh72.new
  refine List.filter_congr fun i _ => ?_
  exact within_none _ _
/-! the refusals -/
theorem few_is (ns : List Int) : Sh72.few ((Sh72Neutral.nats ns).length / 4) = !many 256 ns := by
  rw [len_nats]
  unfold Sh72.few many
  rw [← decide_not]
  exact decide_eq_decide.mpr (by omega)
theorem refu2 (b : Bool) (kn ln : List Int) : refu b 256 [kn, ln] = if (b && (!many 256 kn && !many 256 ln)) = true then (if (okL kn && okL ln) = true then 0 else -3) else -2 := by
  unfold refu
  simp only [List.any_cons, List.any_nil, List.all_cons, List.all_nil, Bool.or_false, Bool.and_true]
  cases b <;> cases many 256 kn <;> cases many 256 ln <;> rfl
theorem call_new (r : Int) (kn ln : List Int) : Sh72Neutral.callOf [[0, r], kn, ln] = some (if (Sh72.few (((Sh72Neutral.nats ln).length / 4)) && (Sh72.few (((Sh72Neutral.nats kn).length / 4)) && decide ((r.toNat) ≤ 65535))) = true then .new (r.toNat) (Sh72.points (Sh72Neutral.nats kn)) (Sh72.points (Sh72Neutral.nats ln)) else .bad) := rfl
theorem new_is {r : Int} {kn ln : List Int} (hr : 0 ≤ r) (hk : Wd kn) (hl : Wd ln) : PySh72.mo_new r kn ln = newAns r kn ln := by
  unfold PySh72.mo_new Sh72Neutral.f newAns
  rw [call_new, few_is, few_is, pts_is hk, pts_is hl, refu2]
  obtain ⟨n, rfl⟩ := Int.eq_ofNat_of_zero_le hr
  have e0 : decide (((n : Int)).toNat ≤ 65535) = decide ((n : Int) ≤ 65535) := decide_eq_decide.mpr (by omega)
  rw [e0]
  have e1 : (!many 256 ln && (!many 256 kn && decide ((n : Int) ≤ 65535))) = (decide ((n : Int) ≤ 65535) && (!many 256 kn && !many 256 ln)) := by
    cases many 256 kn <;> cases many 256 ln <;> cases decide ((n : Int) ≤ 65535) <;> rfl
  rw [e1]
  cases (decide ((n : Int) ≤ 65535) && (!many 256 kn && !many 256 ln)) with
  | false => rfl
  | true =>
    show Sh72Neutral.told (Sh72.answer (.new _ _ _)) = _
    unfold Sh72.answer
    simp only [fines_is, if_true]
    unfold okL
    cases hA : (pts kn).all told <;> cases hB : (pts ln).all told
    · rfl
    · rfl
    · rfl
    · rw [newIx_is]
      rfl
theorem at_fold (p : Point) (l : List Point) : ∀ n, n + 1 ≤ l.length → nearP p (l.take (n + 1)) = some (Sh72.at_ l ((List.range (n + 1)).foldl (fun (b : Nat) (i : Nat) => if Sh72.dist2 p (Sh72.at_ l i) < Sh72.dist2 p (Sh72.at_ l b) then i else b) 0))
  | 0, h => by
    match l, h with
    | a :: l, _ =>
      show some a = some (Sh72.at_ (a :: l) (if Sh72.dist2 p (Sh72.at_ (a :: l) 0) < Sh72.dist2 p (Sh72.at_ (a :: l) 0) then 0 else 0))
      rw [if_neg (Nat.lt_irrefl _)]
      rfl
  | n + 1, h => by
    have ih := at_fold p l n (by omega)
    rw [List.range_succ, List.foldl_append]
    have e : l.take (n + 1 + 1) = l.take (n + 1) ++ [Sh72.at_ l (n + 1)] := by
      rw [List.take_add_one]
      unfold Sh72.at_
      rw [List.getD_eq_getElem?_getD, List.getElem?_eq_getElem (by omega)]
      rfl
    rw [e, near_snoc, ih]
    generalize (List.range (n + 1)).foldl _ 0 = b
    show (if d2 p (Sh72.at_ l (n + 1)) < d2 p (Sh72.at_ l b) then some (Sh72.at_ l (n + 1)) else some (Sh72.at_ l b)) = some (Sh72.at_ l (if Sh72.dist2 p (Sh72.at_ l (n + 1)) < Sh72.dist2 p (Sh72.at_ l b) then n + 1 else b))
    rw [← d2_is, ← d2_is]
    by_cases hd : Sh72.dist2 p (Sh72.at_ l (n + 1)) < Sh72.dist2 p (Sh72.at_ l b)
    · rw [if_pos hd, if_pos (by omega)]
    · rw [if_neg hd, if_neg (by omega)]
theorem state_is (r d : Nat) (p : Point) (l : List Point) : stateOf (r : Int) (d : Int) p l = ((Sh72.state r d p l : Nat) : Int) := by
  unfold stateOf within Sh72.state
  cases hl : l with
  | nil => rfl
  | cons a l' =>
    have e := at_fold p l l'.length (by rw [hl]; exact Nat.le_refl _)
    rw [List.take_of_length_le (by rw [hl]; exact Nat.le_refl _)] at e
    have e2 : Sh72.nearest p l = some ((List.range l.length).foldl (fun (b : Nat) (i : Nat) => if Sh72.dist2 p (Sh72.at_ l i) < Sh72.dist2 p (Sh72.at_ l b) then i else b) 0) := by
      rw [hl]
      rfl
    have e3 : l'.length + 1 = l.length := by rw [hl]; rfl
    rw [e3] at e
    rw [← hl, e, e2]
    generalize (List.range l.length).foldl _ 0 = i
    show (match (if (r : Int) * (r : Int) < d2 p (Sh72.at_ l i) then none else some (Sh72.at_ l i)) with | none => 3 | some b => if (d : Int) < p.mag - b.mag then 1 else if (d : Int) < b.mag - p.mag then 2 else 0) = ((if r * r < Sh72.dist2 p (Sh72.at_ l i) then 3 else if d < ((Sh72.at_ l i).mag - p.mag).natAbs then (if (Sh72.at_ l i).mag < p.mag then 1 else 2) else 0 : Nat) : Int)
    generalize Sh72.at_ l i = q
    rw [← d2_is, ← Int.natCast_mul]
    by_cases h1 : r * r < Sh72.dist2 p q
    · rw [if_pos h1, if_pos (by omega)]
      rfl
    · rw [if_neg h1, if_neg (by omega)]
      show (if (d : Int) < p.mag - q.mag then (1 : Int) else if (d : Int) < q.mag - p.mag then 2 else 0) = _
      split <;> split <;> (try split) <;> (try split) <;> omega
theorem call_states (r d : Int) (kn ln : List Int) : Sh72Neutral.callOf [[1, r, d], kn, ln] = some (if (Sh72.few (((Sh72Neutral.nats ln).length / 4)) && (Sh72.few (((Sh72Neutral.nats kn).length / 4)) && (decide ((r.toNat) ≤ 65535) && decide ((d.toNat) ≤ 131072)))) = true then .states (r.toNat) (d.toNat) (Sh72.points (Sh72Neutral.nats kn)) (Sh72.points (Sh72Neutral.nats ln)) else .bad) := rfl
theorem states_is {r d : Int} {kn ln : List Int} (hr : 0 ≤ r) (hd : 0 ≤ d) (hk : Wd kn) (hl : Wd ln) : PySh72.mo_states r d kn ln = stAns r d kn ln := by
  unfold PySh72.mo_states Sh72Neutral.f stAns
  rw [call_states, few_is, few_is, pts_is hk, pts_is hl, refu2]
  obtain ⟨n, rfl⟩ := Int.eq_ofNat_of_zero_le hr
  obtain ⟨m, rfl⟩ := Int.eq_ofNat_of_zero_le hd
  have e0 : decide (((n : Int)).toNat ≤ 65535) = decide ((n : Int) ≤ 65535) := decide_eq_decide.mpr (by omega)
  have e2 : decide (((m : Int)).toNat ≤ 131072) = decide ((m : Int) ≤ 131072) := decide_eq_decide.mpr (by omega)
  rw [e0, e2]
  generalize (decide ((n : Int) ≤ 65535) && decide ((m : Int) ≤ 131072)) = c
  have e1 : (!many 256 ln && (!many 256 kn && c)) = (c && (!many 256 kn && !many 256 ln)) := by
    cases many 256 kn <;> cases many 256 ln <;> cases c <;> rfl
  rw [e1]
  cases (c && (!many 256 kn && !many 256 ln)) with
  | false => rfl
  | true =>
    show Sh72Neutral.told (Sh72.answer (.states _ _ _ _)) = _
    unfold Sh72.answer
    simp only [fines_is, if_true]
    unfold okL
    cases hA : (pts kn).all told <;> cases hB : (pts ln).all told
    · rfl
    · rfl
    · rfl
    · show (0 : Int) :: Sh72Neutral.ints ((pts kn).map fun k => Sh72.state n m k (pts ln)) = 0 :: _
      unfold Sh72Neutral.ints
      rw [List.map_map]
      refine congrArg (List.cons 0) (List.map_congr_left fun p _ => ?_)
      exact (state_is n m p (pts ln)).symm
end My
namespace My
open Sh72 (Point)
/-! ### one list of points, at most 48 -/
theorem some_is (ns : List Int) : Sh72.some_ ((Sh72Neutral.nats ns).length / 4) = !many 48 ns := by
  rw [len_nats]
  unfold Sh72.some_ many
  rw [← decide_not]
  exact decide_eq_decide.mpr (by omega)
theorem refu1 (b : Bool) (ns : List Int) : refu b 48 [ns] = if (b && !many 48 ns) = true then (if okL ns = true then 0 else -3) else -2 := by
  unfold refu
  simp only [List.any_cons, List.any_nil, List.all_cons, List.all_nil, Bool.or_false, Bool.and_true]
  cases b <;> cases many 48 ns <;> rfl
theorem refu_in1 {b : Bool} {ns : List Int} (h : ¬ refu b 48 [ns] < 0) : b = true ∧ okL ns = true ∧ ns.length / 4 ≤ 48 := by
  rw [refu1] at h
  by_cases h1 : (b && !many 48 ns) = true
  · rw [if_pos h1] at h
    by_cases h2 : okL ns = true
    · rw [Bool.and_eq_true] at h1
      refine ⟨h1.1, h2, ?_⟩
      have h3 := h1.2
      unfold many at h3
      rw [Bool.not_eq_true', decide_eq_false_iff_not] at h3
      omega
    · rw [if_neg h2] at h
      exact absurd (by decide) h
  · rw [if_neg h1] at h
    exact absurd (by decide) h
theorem may_is (v : Nat) (a b : Point) : Sh72.may v a b = (decide (0 < b.t - a.t) && decide (d2 a b ≤ ((v : Int) * (b.t - a.t)) * ((v : Int) * (b.t - a.t)))) := by
  unfold Sh72.may
  have e1 : decide (a.t < b.t) = decide (0 < b.t - a.t) := decide_eq_decide.mpr (by omega)
  have e2 : decide (Sh72.dist2 a b ≤ Sh72.square ((v : Int) * (b.t - a.t))) = decide (d2 a b ≤ ((v : Int) * (b.t - a.t)) * ((v : Int) * (b.t - a.t))) := decide_eq_decide.mpr (by
    rw [← d2_is, ← sq_is]
    omega)
  rw [e1, e2]
def flatP (l : List (Nat × Nat)) : List Int := l.flatMap fun p => [(p.1 : Int), (p.2 : Int)]
def prsAns (q : Int) (ln : List Int) : List Int :=
  let c := refu (decide (q ≤ 65535)) 48 [ln]
  if c < 0 then [c] else (((Sh72.pairs q.toNat (pts ln)).length : Nat) : Int) :: flatP (Sh72.pairs q.toNat (pts ln))
theorem flatP_is (l : List (Nat × Nat)) : Sh72Neutral.ints (l.flatMap fun p => [p.1, p.2]) = flatP l := by
  unfold Sh72Neutral.ints flatP
  rw [List.map_flatMap]
  rfl
theorem call_pairs (q : Int) (ln : List Int) : Sh72Neutral.callOf [[2, q], ln] = some (if (Sh72.some_ (((Sh72Neutral.nats ln).length / 4)) && decide ((q.toNat) ≤ 65535)) = true then .pairs (q.toNat) (Sh72.points (Sh72Neutral.nats ln)) else .bad) := rfl
theorem prs_is {q : Int} {ln : List Int} (hq : 0 ≤ q) (hl : Wd ln) : PySh72.mo_pairs q ln = prsAns q ln := by
  unfold PySh72.mo_pairs Sh72Neutral.f prsAns
  rw [call_pairs, some_is, pts_is hl, refu1]
  have e0 : decide (q.toNat ≤ 65535) = decide (q ≤ 65535) := decide_eq_decide.mpr (by omega)
  rw [e0]
  have e1 : (!many 48 ln && decide (q ≤ 65535)) = (decide (q ≤ 65535) && !many 48 ln) := Bool.and_comm _ _
  rw [e1]
  cases (decide (q ≤ 65535) && !many 48 ln) with
  | false => rfl
  | true =>
    show Sh72Neutral.told (Sh72.answer (.pairs _ _)) = _
    unfold Sh72.answer
    simp only [fines_is, if_true]
    unfold okL
    cases hA : (pts ln).all told
    · rfl
    · show _ = (((Sh72.pairs q.toNat (pts ln)).length : Nat) : Int) :: flatP (Sh72.pairs q.toNat (pts ln))
      rw [← flatP_is]
      rfl
theorem at_is {l : List Point} {i : Nat} {p : Point} (h : l[i]? = some p) : Sh72.at_ l i = p := by
  unfold Sh72.at_
  rw [List.getD_eq_getElem?_getD, h]
  rfl
theorem at_get {l : List Point} {i : Nat} (h : i < l.length) : l[i]? = some (Sh72.at_ l i) := by
  unfold Sh72.at_
  rw [List.getD_eq_getElem?_getD, List.getElem?_eq_getElem h]
  rfl
theorem pairs_len (v : Nat) (l : List Point) : (Sh72.pairs v l).length ≤ l.length * l.length := by
  unfold Sh72.pairs
  have key : ∀ n : Nat, ((List.range n).flatMap fun i => (List.range l.length).filterMap fun j => if Sh72.may v (Sh72.at_ l i) (Sh72.at_ l j) = true then some (i, j) else none).length ≤ n * l.length := by
    intro n
    induction n with
    | zero => exact Nat.zero_le _
    | succ n ih =>
      rw [List.range_succ, List.flatMap_append, List.length_append, List.flatMap_singleton, Nat.succ_mul]
      refine Nat.add_le_add ih (Nat.le_trans (List.length_filterMap_le _ _) (Nat.le_of_eq List.length_range))
  exact key l.length
theorem pairs_in {v : Nat} {l : List Point} {p : Nat × Nat} (h : p ∈ Sh72.pairs v l) : p.1 < l.length ∧ p.2 < l.length := by
  unfold Sh72.pairs at h
  rw [List.mem_flatMap] at h
  obtain ⟨i, hi, h⟩ := h
  rw [List.mem_filterMap] at h
  obtain ⟨j, hj, h⟩ := h
  rw [List.mem_range] at hi hj
  by_cases hm : Sh72.may v (Sh72.at_ l i) (Sh72.at_ l j) = true
  · rw [if_pos hm] at h
    cases h
    exact ⟨hi, hj⟩
  · rw [if_neg hm] at h
    cases h
/-! ### ahead -/
def long (z : Int) : Int := z % 18446744073709551616
theorem long_is (z : Int) : ((Sh72.longOf z : Nat) : Int) = long z := by
  unfold Sh72.longOf long
  omega
theorem i32_is {n : Int} (h : 0 ≤ n) : Sh72Neutral.int32 n.toNat = sg n := by
  unfold Sh72Neutral.int32 sg
  split <;> split <;> omega
def aheadAns (t : Int) (ln : List Int) : List Int :=
  let c := refu true 48 [ln]
  if c < 0 then [c] else [0, long (Sh72.ahead (Sh72.at_ (pts ln) 0) (Sh72.at_ (pts ln) 1) (sg t)).1, long (Sh72.ahead (Sh72.at_ (pts ln) 0) (Sh72.at_ (pts ln) 1) (sg t)).2]
theorem call_ahead (t : Int) (ln : List Int) : Sh72Neutral.callOf [[4, t], ln] = some (.ahead (Sh72Neutral.int32 t.toNat) (Sh72.points (Sh72Neutral.nats ln))) := rfl
theorem ahead_is {t : Int} {ln : List Int} (ht : 0 ≤ t) (hl : Wd ln) (h8 : ln.length = 8) : PySh72.mo_ahead t ln = aheadAns t ln := by
  unfold PySh72.mo_ahead Sh72Neutral.f aheadAns
  rw [call_ahead, pts_is hl, refu1, i32_is ht]
  have e1 : many 48 ln = false := by
    unfold many
    rw [h8]
    rfl
  rw [e1]
  show Sh72Neutral.told (Sh72.answer (.ahead _ _)) = _
  unfold Sh72.answer
  simp only [fines_is]
  unfold okL
  cases hA : (pts ln).all told
  · rfl
  · show [(0 : Int), ((Sh72.longOf _ : Nat) : Int), ((Sh72.longOf _ : Nat) : Int)] = _
    rw [long_is, long_is]
    rfl
end My
namespace My
open Sh72 (Point)
/-! ### distances of 256ths; bounds -/
def ms (p : Int × Int) (c : Point) : Int := (p.1 - 256 * c.x) * (p.1 - 256 * c.x) + (p.2 - 256 * c.y) * (p.2 - 256 * c.y)
theorem ms_is (p : Int × Int) (c : Point) : ((Sh72.miss2 p c : Nat) : Int) = ms p c := by
  unfold Sh72.miss2 ms
  rw [Int.natCast_add, sq_is, sq_is]
theorem mul_bd {i j : Int} {A B : Nat} (ha : i.natAbs ≤ A) (hb : j.natAbs ≤ B) : (i * j).natAbs ≤ A * B := by
  rw [Int.natAbs_mul]
  exact Nat.mul_le_mul ha hb
theorem near_abs (a : Int) {b : Int} (h : 0 < b) : (Sh72.near a b).natAbs ≤ 2 * a.natAbs + b.natAbs := by
  unfold Sh72.near
  have := Int.natAbs_ediv_le_natAbs (2 * a + b) (2 * b)
  omega
theorem told_bd {p : Point} (h : told p = true) : 0 ≤ p.t ∧ p.t ≤ 65535 ∧ p.t.natAbs ≤ 65535 ∧ p.x.natAbs ≤ 32768 ∧ p.y.natAbs ≤ 32768 := by
  unfold told ab at h
  simp only [Bool.and_eq_true, decide_eq_true_eq] at h
  obtain ⟨⟨h0, h4⟩, h1, h2, _⟩ := h
  split at h1 <;> split at h2 <;> omega
/-! ### the fit -/
theorem sum_bd : ∀ (l : List Int) (B : Nat), (∀ x ∈ l, x.natAbs ≤ B) → (Sh72.sum l).natAbs ≤ l.length * B
  | [], B, _ => Nat.zero_le _
  | a :: l, B, h => by
    have ih := sum_bd l B fun x hx => h x (List.mem_cons_of_mem _ hx)
    have h1 := h a List.mem_cons_self
    have e : Sh72.sum (a :: l) = a + Sh72.sum l := rfl
    rw [e, List.length_cons, Nat.succ_mul]
    omega
theorem sumP_bd {l : List Point} {f : Point → Int} {B : Nat} (hl : l.length ≤ 96) (h : ∀ p ∈ l, (f p).natAbs ≤ B) : (Sh72.sum (l.map f)).natAbs ≤ 96 * B := by
  refine Nat.le_trans (sum_bd (l.map f) B fun x hx => ?_) ?_
  · obtain ⟨p, hp, rfl⟩ := List.mem_map.mp hx
    exact h p hp
  · rw [List.length_map]
    exact Nat.mul_le_mul_right _ hl
/-- a fit whose numbers are not too great -/
structure BF (f : Sh72.Fit) : Prop where
  x0 : f.x0.natAbs ≤ 18446744073709551616
  vx : f.vx.natAbs ≤ 18446744073709551615
  y0 : f.y0.natAbs ≤ 18446744073709551616
  vy : f.vy.natAbs ≤ 18446744073709551615
  over : f.over.natAbs ≤ 18446744073709551616
  pos : 0 < f.over
theorem sums_bd {l : List Point} (ht : ∀ p ∈ l, told p = true) (hl : l.length ≤ 96) :
    (Sh72.sum (l.map fun p => p.t)).natAbs ≤ 8388608 ∧ (Sh72.sum (l.map fun p => p.t * p.t)).natAbs ≤ 549755813888 ∧ (Sh72.sum (l.map fun p => p.x)).natAbs ≤ 4194304 ∧ (Sh72.sum (l.map fun p => p.y)).natAbs ≤ 4194304 ∧
    (Sh72.sum (l.map fun p => p.t * p.x)).natAbs ≤ 274877906944 ∧ (Sh72.sum (l.map fun p => p.t * p.y)).natAbs ≤ 274877906944 := by
  have b1 := sumP_bd (f := fun p => p.t) (B := 65535) hl fun p hp => (told_bd (ht p hp)).2.2.1
  have b2 := sumP_bd (f := fun p => p.t * p.t) (B := 65535 * 65535) hl fun p hp => mul_bd (told_bd (ht p hp)).2.2.1 (told_bd (ht p hp)).2.2.1
  have b3 := sumP_bd (f := fun p => p.x) (B := 32768) hl fun p hp => (told_bd (ht p hp)).2.2.2.1
  have b4 := sumP_bd (f := fun p => p.y) (B := 32768) hl fun p hp => (told_bd (ht p hp)).2.2.2.2
  have b5 := sumP_bd (f := fun p => p.t * p.x) (B := 65535 * 32768) hl fun p hp => mul_bd (told_bd (ht p hp)).2.2.1 (told_bd (ht p hp)).2.2.2.1
  have b6 := sumP_bd (f := fun p => p.t * p.y) (B := 65535 * 32768) hl fun p hp => mul_bd (told_bd (ht p hp)).2.2.1 (told_bd (ht p hp)).2.2.2.2
  refine ⟨?_, ?_, ?_, ?_, ?_, ?_⟩ <;> omega
theorem fit_bd {l : List Point} {f : Sh72.Fit} (ht : ∀ p ∈ l, told p = true) (hl : l.length ≤ 96) (hf : Sh72.fit l = some f) : BF f := by
  obtain ⟨b1, b2, b3, b4, b5, b6⟩ := sums_bd ht hl
  unfold Sh72.fit at hf
  dsimp only at hf
  generalize Sh72.sum (l.map fun p => p.t) = st at *
  generalize Sh72.sum (l.map fun p => p.t * p.t) = stt at *
  generalize Sh72.sum (l.map fun p => p.x) = sx at *
  generalize Sh72.sum (l.map fun p => p.y) = sy at *
  generalize Sh72.sum (l.map fun p => p.t * p.x) = stx at *
  generalize Sh72.sum (l.map fun p => p.t * p.y) = sty at *
  have bn : ((l.length : Nat) : Int).natAbs ≤ 96 := by omega
  generalize ((l.length : Nat) : Int) = n at *
  by_cases hg : n * stt - st * st ≤ 0
  · rw [if_pos hg] at hf
    cases hf
  · rw [if_neg hg] at hf
    cases hf
    have m1 := mul_bd b2 b3
    have m2 := mul_bd b1 b5
    have m3 := mul_bd bn b5
    have m4 := mul_bd b1 b3
    have m5 := mul_bd b2 b4
    have m6 := mul_bd b1 b6
    have m7 := mul_bd bn b6
    have m8 := mul_bd b1 b4
    have m9 := mul_bd bn b2
    have m0 := mul_bd b1 b1
    constructor <;> dsimp only <;> omega
theorem place_bd {f : Sh72.Fit} (h : BF f) {t : Int} (ht : t.natAbs ≤ 65536) : (f.place t).1.natAbs ≤ 1267650600228229401496703205376 ∧ (f.place t).2.natAbs ≤ 1267650600228229401496703205376 := by
  unfold Sh72.Fit.place
  have m1 := mul_bd h.vx ht
  have m2 := mul_bd h.vy ht
  have n1 := near_abs (256 * (f.x0 + f.vx * t)) h.pos
  have n2 := near_abs (256 * (f.y0 + f.vy * t)) h.pos
  have h1 := h.x0
  have h2 := h.y0
  have h3 := h.over
  dsimp only
  constructor <;> omega
theorem fold_max : ∀ (l : List Nat) (s : Nat), (s ≤ l.foldl max s ∧ (∀ x ∈ l, x ≤ l.foldl max s)) ∧ (l.foldl max s = s ∨ l.foldl max s ∈ l)
  | [], s => ⟨⟨Nat.le_refl _, fun x h => by cases h⟩, .inl rfl⟩
  | a :: l, s => by
    obtain ⟨⟨h1, h2⟩, h3⟩ := fold_max l (max s a)
    show (s ≤ l.foldl max (max s a) ∧ ∀ x ∈ a :: l, x ≤ l.foldl max (max s a)) ∧ (l.foldl max (max s a) = s ∨ l.foldl max (max s a) ∈ a :: l)
    refine ⟨⟨by omega, fun x hx => ?_⟩, ?_⟩
    · rcases List.mem_cons.mp hx with rfl | hx
      · omega
      · exact h2 x hx
    · rcases h3 with h3 | h3
      · rcases Nat.le_total a s with hs | hs
        · rw [Nat.max_eq_left hs] at h3 ⊢
          exact .inl h3
        · rw [Nat.max_eq_right hs] at h3 ⊢
          rw [h3]
          exact .inr List.mem_cons_self
      · exact .inr (List.mem_cons_of_mem _ h3)
theorem worst_is {f : Sh72.Fit} {l : List Point} {m : Int} (hm : m ∈ l.map fun p => ms (f.place p.t) p) (hle : ∀ x ∈ l.map fun p => ms (f.place p.t) p, x ≤ m) : m = ((f.worst l : Nat) : Int) := by
  unfold Sh72.Fit.worst
  obtain ⟨⟨h1, h2⟩, h3⟩ := fold_max (l.map fun p => Sh72.miss2 (f.place p.t) p) 0
  generalize (l.map fun p => Sh72.miss2 (f.place p.t) p).foldl max 0 = w at *
  obtain ⟨p, hp, rfl⟩ := List.mem_map.mp hm
  have g1 := h2 _ (List.mem_map.mpr ⟨p, hp, rfl⟩)
  have g2 := ms_is (f.place p.t) p
  rcases h3 with h3 | h3
  · omega
  · obtain ⟨q, hq, rfl⟩ := List.mem_map.mp h3
    have g3 := hle _ (List.mem_map.mpr ⟨q, hq, rfl⟩)
    have g4 := ms_is (f.place q.t) q
    omega
def fitAns (ln : List Int) : List Int :=
  let c := refu true 48 [ln]
  if c < 0 then [c] else match Sh72.fit (pts ln) with
    | none => [-4]
    | some f => [0, 5, long f.x0, long f.vx, long f.y0, long f.vy, long f.over, 1, long ((f.worst (pts ln) : Nat) : Int)]
theorem call_fit (ln : List Int) : Sh72Neutral.callOf [[5], ln] = some (if (Sh72.some_ (((Sh72Neutral.nats ln).length / 4))) = true then .fit (Sh72.points (Sh72Neutral.nats ln)) else .bad) := rfl
theorem fit_is {ln : List Int} (hl : Wd ln) : PySh72.mo_fit ln = fitAns ln := by
  unfold PySh72.mo_fit Sh72Neutral.f fitAns
  rw [call_fit, some_is, pts_is hl, refu1]
  cases many 48 ln with
  | true => rfl
  | false =>
    show Sh72Neutral.told (Sh72.answer (.fit _)) = _
    unfold Sh72.answer
    simp only [fines_is]
    unfold okL
    cases hA : (pts ln).all told
    · rfl
    · show Sh72Neutral.told (match Sh72.fit (pts ln) with | none => Sh72.fail (-4) | some f => Sh72.done [[Sh72.longOf f.x0, Sh72.longOf f.vx, Sh72.longOf f.y0, Sh72.longOf f.vy, Sh72.longOf f.over], [f.worst (pts ln) % 18446744073709551616]]) = (match Sh72.fit (pts ln) with | none => [-4] | some f => [0, 5, long f.x0, long f.vx, long f.y0, long f.vy, long f.over, 1, long ((f.worst (pts ln) : Nat) : Int)])
      cases Sh72.fit (pts ln) with
      | none => rfl
      | some f =>
        show [(0 : Int), 5, ((Sh72.longOf f.x0 : Nat) : Int), ((Sh72.longOf f.vx : Nat) : Int), ((Sh72.longOf f.y0 : Nat) : Int), ((Sh72.longOf f.vy : Nat) : Int), ((Sh72.longOf f.over : Nat) : Int), 1, ((f.worst (pts ln) % 18446744073709551616 : Nat) : Int)] = _
        rw [long_is, long_is, long_is, long_is, long_is]
        rfl
/-- a sum of products, as the program forms it -/
def sop (us vs : List Int) : Int := ((List.range us.length).map fun k => us.getD k 0 * vs.getD k 0).sum
theorem map_range {α : Type} (l : List Point) (g : Point → α) : (List.range l.length).map (fun k => g (Sh72.at_ l k)) = l.map g := by
  refine List.ext_getElem? fun i => ?_
  rw [List.getElem?_map, List.getElem?_map]
  by_cases h : i < l.length
  · rw [List.getElem?_range h, at_get h]
    rfl
  · rw [List.getElem?_eq_none (by rw [List.length_range]; omega), List.getElem?_eq_none (by omega)]
    rfl
theorem sop_is (l : List Point) (f g : Point → Int) : sop (l.map f) (l.map g) = Sh72.sum (l.map fun p => f p * g p) := by
  unfold sop
  rw [List.length_map, ← map_range l (fun p => f p * g p)]
  show List.sum _ = List.sum _
  refine congrArg List.sum (List.map_congr_left fun k hk => ?_)
  have hk := List.mem_range.mp hk
  rw [List.getD_eq_getElem?_getD, List.getD_eq_getElem?_getD, List.getElem?_map, List.getElem?_map, at_get hk]
  rfl
end My
namespace Nm
open PySem PySem.Spec PyProof.Rows L2
open PySem.W (Codec)
open Sh72 (Point)
open My
/-! ### heaps and points -/
theorem same_new {H : Hp} {l : Addr} {o : HO} (n : H l = none) : Same H (upd H l o) := fun b u e => by
  rw [upd_ne (ne_of_none e n)]
  exact e
theorem same_over {H H' : Hp} {l : Addr} {o : HO} (s : Same H H') (n : H l = none) : Same H (upd H' l o) := fun b u e => by
  rw [upd_ne (ne_of_none e n)]
  exact s b u e
def pf (p : Point) : List (Str × V) := putF "brightness" (.int p.mag) (putF "y" (.int p.y) (putF "x" (.int p.x) (putF "t" (.int p.t) [])))
theorem pf_b (p : Point) : (pf p).lookup ("brightness" : Str) = some (.int p.mag) := by
  unfold pf
  rw [lookup_putF, if_pos rfl]
theorem pf_y (p : Point) : (pf p).lookup ("y" : Str) = some (.int p.y) := by
  unfold pf
  rw [lookup_putF, if_neg (by decide +kernel), lookup_putF, if_pos rfl]
theorem pf_x (p : Point) : (pf p).lookup ("x" : Str) = some (.int p.x) := by
  unfold pf
  rw [lookup_putF, if_neg (by decide +kernel), lookup_putF, if_neg (by decide +kernel), lookup_putF, if_pos rfl]
theorem pf_t (p : Point) : (pf p).lookup ("t" : Str) = some (.int p.t) := by
  unfold pf
  rw [lookup_putF, if_neg (by decide +kernel), lookup_putF, if_neg (by decide +kernel), lookup_putF, if_neg (by decide +kernel), lookup_putF, if_pos rfl]
theorem flt {f : Str} {v : V} {fs : List (Str × V)} {n : Nat} (h : fs.length ≤ n) : (putF f v fs).length ≤ n + 1 := Nat.le_trans (length_putF f v fs) (Nat.succ_le_succ h)
/-- a Point stands at a -/
def PtAt (C : Addr) (H : Hp) (a : Addr) (p : Point) : Prop := ∃ dx, H a = some (.ins C dx (pf p))
theorem PtAt.same {C a : Addr} {H H' : Hp} {p : Point} (h : PtAt C H a p) (s : Same H H') : PtAt C H' a p := let ⟨dx, e⟩ := h; ⟨dx, s _ _ e⟩
theorem PtAt.lst {C a D : Addr} {H : Hp} {p : Point} {xs : List V} {o : HO} (h : PtAt C H a p) (hD : H D = some (.lst xs)) : PtAt C (upd H D o) a p := by
  obtain ⟨dx, e⟩ := h
  refine ⟨dx, ?_⟩
  rw [upd_ne (ne_of e hD (by intro z; cases z))]
  exact e
/-- Points stand at as -/
structure PtsAt (C : Addr) (H : Hp) (as : List Addr) (ps : List Point) : Prop where
  len : as.length = ps.length
  at_ : ∀ (j : Nat) (a : Addr), as[j]? = some a → ∃ p, ps[j]? = some p ∧ PtAt C H a p
theorem PtsAt.of {C : Addr} {H H' : Hp} {as : List Addr} {ps : List Point} (h : PtsAt C H as ps) (f : ∀ a p, PtAt C H a p → PtAt C H' a p) : PtsAt C H' as ps :=
  ⟨h.len, fun j a e => let ⟨p, e1, e2⟩ := h.at_ j a e; ⟨p, e1, f a p e2⟩⟩
theorem PtsAt.same {C : Addr} {H H' : Hp} {as : List Addr} {ps : List Point} (h : PtsAt C H as ps) (s : Same H H') : PtsAt C H' as ps := h.of fun _ _ e => e.same s
theorem PtsAt.nil {C : Addr} {H : Hp} : PtsAt C H [] [] := ⟨rfl, fun j a e => by simp at e⟩
theorem PtsAt.snoc {C : Addr} {H : Hp} {as : List Addr} {ps : List Point} {a : Addr} {p : Point} (h : PtsAt C H as ps) (k : PtAt C H a p) : PtsAt C H (as ++ [a]) (ps ++ [p]) := by
  refine ⟨by rw [List.length_append, List.length_append, h.len]; rfl, fun j b e => ?_⟩
  rw [List.getElem?_append] at e
  by_cases hj : j < as.length
  · rw [if_pos hj] at e
    obtain ⟨q, e1, e2⟩ := h.at_ j b e
    exact ⟨q, by rw [List.getElem?_append, if_pos (by rw [← h.len]; exact hj)]; exact e1, e2⟩
  · rw [if_neg hj] at e
    have hz : j - as.length = 0 := by
      cases hq : j - as.length with
      | zero => rfl
      | succ m => rw [hq] at e; simp at e
    rw [hz] at e
    have eb : a = b := Option.some.inj e
    subst eb
    refine ⟨p, ?_, k⟩
    rw [List.getElem?_append, if_neg (by rw [← h.len]; exact hj), ← h.len, hz]
    rfl
theorem PtsAt.has {C : Addr} {H : Hp} {as : List Addr} {ps : List Point} (h : PtsAt C H as ps) {j : Nat} {p : Point} (e : ps[j]? = some p) : ∃ a, as[j]? = some a ∧ PtAt C H a p := by
  have hj : j < as.length := by rw [h.len]; exact (List.getElem?_eq_some_iff.mp e).1
  obtain ⟨q, e1, e2⟩ := h.at_ j as[j] (List.getElem?_eq_getElem hj)
  rw [e] at e1
  cases e1
  exact ⟨_, List.getElem?_eq_getElem hj, e2⟩
theorem ref_at {as : List Addr} {i : Nat} {x : V} (h : (as.map V.ref)[i]? = some x) : ∃ a, as[i]? = some a ∧ x = V.ref a := by
  rw [List.getElem?_map] at h
  cases e : as[i]? with
  | none => rw [e] at h; cases h
  | some a => rw [e] at h; exact ⟨a, rfl, (Option.some.inj h).symm⟩
theorem int_at {ns : List Int} {j : Nat} (h : j < ns.length) : (ns.map V.int)[j]? = some (V.int (ns.getD j 0)) := by
  rw [List.getElem?_map, List.getD_eq_getElem?_getD, List.getElem?_eq_getElem h]
  rfl
theorem take_snoc {α : Type} {l : List α} {i : Nat} {x : α} (h : l[i]? = some x) : l.take (i + 1) = l.take i ++ [x] := by
  rw [List.take_add_one, h]
  rfl
/-- a whole number of the module's top -/
theorem pgi {X : Cx} {x : Str} {i : Int} {t : Tok} {pos : Pos} (hg : Gl X x) (hm : X.mg x = some (.int i t)) (hd : (x == ("__debug__" : Str)) = false := by decide) : PE X (.Name x pos) (tC (.int i)) := pe_glob (v := .int i) hg hm ⟨t, rfl⟩ hd
/-! ### the text by places -/
def top (i : Nat) : Stmt := PySem.Challenge.pw_newandmoving_s06_mo_fit.main.body.getD i (.Pass ⟨0, 0, 0, 0⟩)
abbrev sInit : Stmt := inClass (top 9) 0
abbrev sSg : Stmt := top 11
abbrev sCnt : Stmt := top 13
abbrev sRp : Stmt := top 14
abbrev sRps : Stmt := top 15
abbrev sTold : Stmt := top 18
abbrev sRef : Stmt := top 19
/-! ### the promises -/
def spInit (C : Addr) : Sp := fun vs H Q _ => ∃ (x dx : Addr) (p : Point), vs = [.ref x, .int p.t, .int p.x, .int p.y, .int p.mag] ∧ H x = some (.ins C dx []) ∧ ∀ H' : Hp, PtAt C H' x p → (∀ b o, H b = some o → b ≠ x → H' b = some o) → Q .non H'
def spSg : Sp := fun vs H Q _ => ∃ n : Int, vs = [.int n] ∧ Q (.int (sg n)) H
def spCnt (K : PySem.W.Frag) : Sp := fun vs H Q _ => ∃ (a : Addr) (ns : List Int), vs = [.ref a] ∧ SqL K H a (ns.map V.int) ∧ Q (.int ((ns.length / 4 : Nat) : Int)) H
def spRp (K : PySem.W.Frag) (C : Addr) : Sp := fun vs H Q _ => ∃ (a : Addr) (ns : List Int) (j : Nat), vs = [.ref a, .int (j : Int)] ∧ SqL K H a (ns.map V.int) ∧ 4 * j + 3 < ns.length ∧ ns.length ≤ 1100 ∧
  ∀ (H' : Hp) (x : Addr), Same H H' → H x = none → PtAt C H' x (pt ns j) → Q (.ref x) H'
def spRps (K : PySem.W.Frag) (C : Addr) : Sp := fun vs H Q _ => ∃ (a : Addr) (ns : List Int), vs = [.ref a] ∧ SqL K H a (ns.map V.int) ∧ ns.length ≤ 1100 ∧
  ∀ (H' : Hp) (l : Addr) (as : List Addr), Same H H' → H l = none → H' l = some (.lst (as.map V.ref)) → PtsAt C H' as (pts ns) → Q (.ref l) H'
def spTold (C : Addr) : Sp := fun vs H Q _ => ∃ (a : Addr) (p : Point), vs = [.ref a] ∧ PtAt C H a p ∧ Q (.bl (told p)) H
/-- lists of words stand at as -/
structure WsAt (K : PySem.W.Frag) (H : Hp) (as : List Addr) (nss : List (List Int)) : Prop where
  len : as.length = nss.length
  at_ : ∀ (j : Nat) (a : Addr), as[j]? = some a → ∃ ns, nss[j]? = some ns ∧ SqL K H a (ns.map V.int) ∧ ns.length ≤ 1100
def spRef (K : PySem.W.Frag) : Sp := fun vs H Q _ => ∃ (b : Bool) (most : Int) (ls : Addr) (as : List Addr) (nss : List (List Int)), vs = [.bl b, .int most, .ref ls] ∧ SqL K H ls (as.map V.ref) ∧ WsAt K H as nss ∧ nss.length ≤ 1000 ∧
  ∀ H' : Hp, Same H H' → Q (.int (refu b most nss)) H'
def spFar (C : Addr) : Sp := fun vs H Q _ => ∃ (a b : Addr) (p q : Point), vs = [.ref a, .ref b] ∧ PtAt C H a p ∧ PtAt C H b q ∧ told p = true ∧ told q = true ∧ Q (.int (d2 p q)) H
/-- v stands for the best point so far -/
def Best (C : Addr) (H : Hp) (v : V) (o : Option Point) : Prop := match o with
  | none => v = .non
  | some q => ∃ b, v = .ref b ∧ PtAt C H b q
def spNear (K : PySem.W.Frag) (C : Addr) : Sp := fun vs H Q _ => ∃ (a l : Addr) (p : Point) (as : List Addr) (ps : List Point), vs = [.ref a, .ref l] ∧ PtAt C H a p ∧ SqL K H l (as.map V.ref) ∧ PtsAt C H as ps ∧ told p = true ∧ (∀ q ∈ ps, told q = true) ∧
  ∀ v, Best C H v (nearP p ps) → Q v H
def spWi (K : PySem.W.Frag) (C : Addr) : Sp := fun vs H Q _ => ∃ (r : Int) (a l : Addr) (p : Point) (as : List Addr) (ps : List Point), vs = [.int r, .ref a, .ref l] ∧ 0 ≤ r ∧ r ≤ 65535 ∧ PtAt C H a p ∧ SqL K H l (as.map V.ref) ∧ PtsAt C H as ps ∧ told p = true ∧ (∀ q ∈ ps, told q = true) ∧
  ∀ v, Best C H v (within r p ps) → Q v H
structure Txt (K : PySem.W.Frag) (mg : Str → Option Value) (C : Addr) : Prop where
  cl : Cls K C
  nT : NoAttr K C "t"
  nX : NoAttr K C "x"
  nY : NoAttr K C "y"
  nB : NoAttr K C "brightness"
  mgC : mg "Point" = some (.ref C)
  cW : ∃ t, mg "WORDS" = some (.int 4294967296 t)
  cL : ∃ t, mg "LEAST_BELOW_ZERO" = some (.int 2147483648 t)
  c4 : ∃ t, mg "NUMBERS_A_POINT" = some (.int 4 t)
  cT : ∃ t, mg "LAST_TIME" = some (.int 65535 t)
  cP : ∃ t, mg "FARTHEST_PLACE" = some (.int 32768 t)
  cB : ∃ t, mg "GREATEST_BRIGHTNESS" = some (.int 65536 t)
  len : mg "len" = none
  range : mg "range" = none
  abs : mg "abs" = none
  any : mg "any" = none
  all : mg "all" = none
/-- a def that callers call: where it stands, how it binds, what it promises -/
structure Dn (P : Program) (w : World) (K : PySem.W.Frag) (mg : Str → Option Value) (base : Heap) (x : Str) (k : Nat) (ps : List Str) (sp : Sp) : Prop where
  ex : ∃ (f : Addr) (fd : FuncData), mg x = some (.ref f) ∧ PySem.W.keepIn K (.ref f) = true ∧ Binds K fd ps [] ∧ FnOk P w K mg base CX0 k f fd ps sp
section
variable {P : Program} {w : World} {K : PySem.W.Frag} {mg : Str → Option Value} {base : Heap}
theorem scInit : FnScope ["self", "t", "x", "y", "brightness"] ["self", "t", "x", "y", "brightness"] (defScope sInit) := ⟨rfl, rfl, rfl, by decide +kernel, rfl, by decide +kernel, by decide +kernel⟩
theorem ok_init {f C : Addr} {fd : FuncData} (F : Fun K "__init__" "Point.__init__" sInit f fd) (T : Txt K mg C) : FnOk P w K mg base CX0 1 f fd ["self", "t", "x", "y", "brightness"] (spInit C) := by
  refine F.ok scInit (fun vs H Q E h => ?_) (fun cdv A outer s H vs Q E hr h => ?_)
  · obtain ⟨x, dx, p, rfl, _⟩ := h
    rfl
  · obtain ⟨x, dx, p, rfl, hp, k⟩ := h
    refine ⟨_, pss_cons (ps_fld (pv 0) (pv 1) rfl) (pss_cons (ps_fld (pv 0) (pv 2) rfl) (pss_cons (ps_fld (pv 0) (pv 3) rfl) (pss_one (ps_fld (pv 0) (pv 4) rfl)))), ?_⟩
    refine ⟨_, rfl, _, rfl, x, C, dx, [], rfl, hp, T.cl, T.nT, (by show 0 < 1000; decide), ?_⟩
    refine ⟨_, rfl, _, rfl, x, C, dx, _, rfl, upd_same, T.cl, T.nX, Nat.lt_of_le_of_lt (flt (Nat.zero_le 0)) (by decide), ?_⟩
    refine ⟨_, rfl, _, rfl, x, C, dx, _, rfl, upd_same, T.cl, T.nY, Nat.lt_of_le_of_lt (flt (flt (Nat.zero_le 0))) (by decide), ?_⟩
    refine ⟨_, rfl, _, rfl, x, C, dx, _, rfl, upd_same, T.cl, T.nB, Nat.lt_of_le_of_lt (flt (flt (flt (Nat.zero_le 0)))) (by decide), ?_⟩
    exact k _ ⟨dx, upd_same⟩ fun b o e hb => by rw [upd_ne hb, upd_ne hb, upd_ne hb, upd_ne hb]; exact e
theorem scSg : FnScope ["word"] ["word"] (defScope sSg) := ⟨rfl, rfl, rfl, by decide +kernel, rfl, by decide +kernel, by decide +kernel⟩
theorem ok_sg {f C : Addr} {fd : FuncData} (F : Fun K "signed" "signed" sSg f fd) (T : Txt K mg C) : FnOk P w K mg base CX0 1 f fd ["word"] spSg := by
  obtain ⟨_, cW⟩ := T.cW
  obtain ⟨_, cL⟩ := T.cL
  refine F.ok scSg (fun vs H Q E h => ?_) (fun cdv A outer s H vs Q E hr h => ?_)
  · obtain ⟨n, rfl, _⟩ := h
    rfl
  · obtain ⟨n, rfl, k⟩ := h
    refine ⟨_, pss_cons (ps_if (pt_cmpR op_lt (pv 0) (pgi rfl cL) (nomark _)) (pss_one (ps_ret (pv 0))) pss_nil) (pss_one (ps_ret (pe_op op_sub (pv 0) (pgi rfl cW)))), ?_⟩
    unfold sg at k
    refine ⟨_, rfl, _, _, rfl, rfl, _, rfl, ?_⟩
    refine ite2 (fun h => ?_) (fun h => ?_)
    · rw [if_pos (of_decide_eq_true h)] at k
      exact ⟨_, rfl, k⟩
    · rw [if_neg (fun q => h (decide_eq_true q))] at k
      exact ⟨_, rfl, _, _, rfl, rfl, k⟩
theorem scCnt : FnScope ["numbers"] ["numbers"] (defScope sCnt) := ⟨rfl, rfl, rfl, by decide +kernel, rfl, by decide +kernel, by decide +kernel⟩
theorem ok_cnt {f C : Addr} {fd : FuncData} (F : Fun K "count_points" "count_points" sCnt f fd) (T : Txt K mg C) : FnOk P w K mg base CX0 1 f fd ["numbers"] (spCnt K) := by
  obtain ⟨_, c4⟩ := T.c4
  refine F.ok scCnt (fun vs H Q E h => ?_) (fun cdv A outer s H vs Q E hr h => ?_)
  · obtain ⟨a, ns, rfl, _⟩ := h
    rfl
  · obtain ⟨a, ns, rfl, hS, k⟩ := h
    refine ⟨_, pss_one (ps_ret (pe_op op_fdiv (pe_callB call_len_seq (by rfl) T.len PySem.boot_len (pa_cons (pv 0) pa_nil)) (pgi rfl c4))), ?_⟩
    refine ⟨_, rfl, a, _, rfl, .inl hS, _, _, rfl, rfl, ⟨by decide, by decide⟩, ?_⟩
    rw [List.length_map]
    exact k
theorem scRp : FnScope ["numbers", "k", "start"] ["numbers", "k"] (defScope sRp) := ⟨rfl, rfl, rfl, by decide +kernel, rfl, by decide +kernel, by decide +kernel⟩
theorem ok_rp {f C fI : Addr} {fd fdI : FuncData} (F : Fun K "read_point" "read_point" sRp f fd) (T : Txt K mg C) (M : Mk K C fI) (GI : FnOk P w K mg base CX0 1 fI fdI ["self", "t", "x", "y", "brightness"] (spInit C)) (bI : Binds K fdI ["self", "t", "x", "y", "brightness"] [])
    (DS : Dn P w K mg base "signed" 1 ["word"] spSg) : FnOk P w K mg base CX0 3 f fd ["numbers", "k"] (spRp K C) := by
  obtain ⟨_, c4⟩ := T.c4
  obtain ⟨_, _, mS, kS, bS, GS⟩ := DS.ex
  refine F.ok scRp (fun vs H Q E h => ?_) (fun cdv A outer s H vs Q E hr h => ?_)
  · obtain ⟨a, ns, j, rfl, _⟩ := h
    rfl
  · obtain ⟨a, ns, j, rfl, hS, hj, hlen, k⟩ := h
    have hr1 : Room 1 _ := hr.mono (by decide)
    refine ⟨_, pss_cons (ps_set (i := 2) scRp.nd rfl (Or.inl rfl) (pe_op op_mul (pv 1) (pgi rfl c4)))
      (pss_one (ps_ret (pe_make M GI hr rfl T.mgC bI .nil pass0
        (pa_cons (pe_call GS hr1 rfl mS kS bS .nil pass0 (pa_cons (pe_ix ix_list (pv 0) (pv 2) (fun _ _ => rfl)) pa_nil))
        (pa_cons (pe_call GS hr1 rfl mS kS bS .nil pass0 (pa_cons (pe_ix ix_list (pv 0) (pe_op op_add (pv 2) pe_int) (fun _ _ => rfl)) pa_nil))
        (pa_cons (pe_call GS hr1 rfl mS kS bS .nil pass0 (pa_cons (pe_ix ix_list (pv 0) (pe_op op_add (pv 2) pe_int) (fun _ _ => rfl)) pa_nil))
        (pa_cons (pe_call GS hr1 rfl mS kS bS .nil pass0 (pa_cons (pe_ix ix_list (pv 0) (pe_op op_add (pv 2) pe_int) (fun _ _ => rfl)) pa_nil)) pa_nil))))))), ?_⟩
    refine ⟨_, rfl, _, _, rfl, rfl, .inr ⟨by decide, by decide⟩, ?_⟩
    refine ⟨_, rfl, _, rfl, a, _, _, _, rfl, rfl, hS, at_of (j := 4 * j) (by omega) (int_at (by omega)), _, rfl, ?_⟩
    refine ⟨_, rfl, _, rfl, _, _, rfl, rfl, a, _, _, _, rfl, rfl, hS, at_of (j := 4 * j + 1) (by omega) (int_at (by omega)), _, rfl, ?_⟩
    refine ⟨_, rfl, _, rfl, _, _, rfl, rfl, a, _, _, _, rfl, rfl, hS, at_of (j := 4 * j + 2) (by omega) (int_at (by omega)), _, rfl, ?_⟩
    refine ⟨_, rfl, _, rfl, _, _, rfl, rfl, a, _, _, _, rfl, rfl, hS, at_of (j := 4 * j + 3) (by omega) (int_at (by omega)), _, rfl, ?_⟩
    intro x dx nx nd ne
    refine ⟨x, dx, pt ns j, rfl, upd_same, fun H' hA kp => ⟨rfl, ?_⟩⟩
    exact k H' x (Same.made nx nd kp) nx hA
theorem scRps : FnScope ["numbers", "k"] ["numbers"] (defScope sRps) := ⟨rfl, rfl, rfl, by decide +kernel, rfl, by decide +kernel, by decide +kernel⟩
theorem ok_rps {f C : Addr} {fd : FuncData} (F : Fun K "read_points" "read_points" sRps f fd) (T : Txt K mg C) (DC : Dn P w K mg base "count_points" 1 ["numbers"] (spCnt K)) (DR : Dn P w K mg base "read_point" 3 ["numbers", "k"] (spRp K C)) :
    FnOk P w K mg base CX0 4 f fd ["numbers"] (spRps K C) := by
  obtain ⟨_, _, mC, kC, bC, GC⟩ := DC.ex
  obtain ⟨_, _, mR, kR, bR, GR⟩ := DR.ex
  refine F.ok scRps (fun vs H Q E h => ?_) (fun cdv A outer s H vs Q E hr h => ?_)
  · obtain ⟨a, ns, rfl, _⟩ := h
    rfl
  · obtain ⟨a, ns, rfl, hS, hlen, k⟩ := h
    have hr1 : Room 1 _ := hr.mono (by decide)
    refine ⟨_, pss_one (ps_ret (pe_lc (own := [("k", 1)]) (g := gName 1) (tt := tYes) rfl scRps.nd (pi_range1 rfl T.range (pa_cons (pe_call GC hr1 rfl mC kC bC .nil pass0 (pa_cons (pv 0) pa_nil)) pa_nil))
      (blkOk_by (N := ["numbers", "k"]) (sc := defScope sRps) (by decide +kernel)) (fun _ _ _ _ _ => pg_name (i := 1) scRps.nd rfl (Or.inl rfl)) (fun _ _ _ _ _ => pts_nil)
      (fun _ _ _ _ _ => pe_call GR hr rfl mR kR bR .nil pass0 (pa_cons (pv 0) (pa_cons (pv 1) pa_nil))))), ?_⟩
    refine ⟨_, rfl, a, ns, rfl, hS, _, rfl, by omega, by omega, fun D hD => ?_⟩
    refine lc_range (lo := 0) (n := ns.length / 4) (fun i H' => Same H H' ∧ ∃ as, H' D = some (.lst (as.map V.ref)) ∧ PtsAt C H' as ((List.range i).map (pt ns))) ⟨same_new hD, [], upd_same, .nil⟩ ?_ ?_
    · rintro i H1 hi ⟨s1, as, h1, h2⟩
      refine ⟨rfl, ?_⟩
      unfold tYes
      refine iteT ?_
      refine ⟨_, rfl, _, rfl, a, ns, i, ?_, s1.seq hS, by omega, hlen, fun H2 x s2 nx hx => ?_⟩
      · show [V.ref a, V.int (0 + (i : Int))] = [V.ref a, V.int (i : Int)]
        rw [Int.zero_add]
      · have hD2 := s2 _ _ h1
        refine ⟨as.map V.ref, hD2, ?_, same_over (s1.trans s2) hD, as ++ [x], ?_, ?_⟩
        · rw [List.length_map, h2.len, List.length_map, List.length_range]
          exact small1000 (by omega)
        · rw [upd_same, List.map_append]
          rfl
        · rw [List.range_succ, List.map_append]
          exact ((h2.same s2).snoc hx).of fun b p hb => hb.lst hD2
    · rintro H1 ⟨s1, as, h1, h2⟩
      exact k H1 D as s1 hD h1 h2
theorem scTold : FnScope ["point"] ["point"] (defScope sTold) := ⟨rfl, rfl, rfl, by decide +kernel, rfl, by decide +kernel, by decide +kernel⟩
theorem ok_told {f C : Addr} {fd : FuncData} (F : Fun K "is_as_told" "is_as_told" sTold f fd) (T : Txt K mg C) : FnOk P w K mg base CX0 1 f fd ["point"] (spTold C) := by
  obtain ⟨_, cT⟩ := T.cT
  obtain ⟨_, cP⟩ := T.cP
  obtain ⟨_, cB⟩ := T.cB
  refine F.ok scTold (fun vs H Q E h => ?_) (fun cdv A outer s H vs Q E hr h => ?_)
  · obtain ⟨a, p, rfl, _⟩ := h
    rfl
  · obtain ⟨a, p, rfl, ⟨dx, hp⟩, k⟩ := h
    refine ⟨_, pss_one (ps_ret (pe_and (pe_chain op_le op_le pe_int (pe_fld (pv 0) rfl) (pgi rfl cT))
      (pe_and (pe_cmpR op_le (pe_callB call_abs (by rfl) T.abs (by decide +kernel) (pa_cons (pe_fld (pv 0) rfl) pa_nil)) (pgi rfl cP) (nomark _))
      (pe_and (pe_cmpR op_le (pe_callB call_abs (by rfl) T.abs (by decide +kernel) (pa_cons (pe_fld (pv 0) rfl) pa_nil)) (pgi rfl cP) (nomark _))
      (pe_one (pe_cmpR op_le (pe_callB call_abs (by rfl) T.abs (by decide +kernel) (pa_cons (pe_fld (pv 0) rfl) pa_nil)) (pgi rfl cB) (nomark _))))))), ?_⟩
    have k2 : ∀ b, told p = b → Q (.bl b) H := fun b e => e ▸ k
    unfold told at k2
    refine ⟨_, rfl, a, C, dx, _, _, rfl, hp, T.cl, T.nT, pf_t p, _, _, rfl, rfl, _, rfl, ?_⟩
    by_cases h1 : 0 ≤ p.t
    · rw [decide_eq_true h1]
      refine iteT ⟨_, _, rfl, rfl, _, rfl, ?_⟩
      by_cases h2 : p.t ≤ 65535
      · rw [decide_eq_true h2]
        refine iteT ⟨_, rfl, a, C, dx, _, _, rfl, hp, T.cl, T.nX, pf_x p, _, rfl, _, _, rfl, rfl, _, rfl, ?_⟩
        by_cases h3 : ab p.x ≤ 32768
        · rw [show decide ((if p.x < 0 then -p.x else p.x) ≤ 32768) = true from decide_eq_true h3]
          refine iteT ⟨_, rfl, a, C, dx, _, _, rfl, hp, T.cl, T.nY, pf_y p, _, rfl, _, _, rfl, rfl, _, rfl, ?_⟩
          by_cases h4 : ab p.y ≤ 32768
          · rw [show decide ((if p.y < 0 then -p.y else p.y) ≤ 32768) = true from decide_eq_true h4]
            refine iteT ⟨_, rfl, a, C, dx, _, _, rfl, hp, T.cl, T.nB, pf_b p, _, rfl, _, _, rfl, rfl, ?_⟩
            refine k2 _ ?_
            rw [decide_eq_true h1, decide_eq_true h2, decide_eq_true h3, decide_eq_true h4]
            rfl
          · rw [show decide ((if p.y < 0 then -p.y else p.y) ≤ 32768) = false from decide_eq_false h4]
            exact iteF (k2 _ (by rw [decide_eq_true h1, decide_eq_true h2, decide_eq_true h3, decide_eq_false h4]; rfl))
        · rw [show decide ((if p.x < 0 then -p.x else p.x) ≤ 32768) = false from decide_eq_false h3]
          exact iteF (k2 _ (by rw [decide_eq_true h1, decide_eq_true h2, decide_eq_false h3]; rfl))
      · rw [decide_eq_false h2]
        exact iteF (k2 _ (by rw [decide_eq_true h1, decide_eq_false h2]; rfl))
    · rw [decide_eq_false h1]
      exact iteF ⟨_, rfl, iteF (k2 _ (by rw [decide_eq_false h1]; rfl))⟩
theorem told_x {p : Point} (h : told p = true) : -32768 ≤ p.x ∧ p.x ≤ 32768 ∧ -32768 ≤ p.y ∧ p.y ≤ 32768 := by
  unfold told ab at h
  simp only [Bool.and_eq_true, decide_eq_true_eq] at h
  obtain ⟨_, h1, h2, _⟩ := h
  split at h1 <;> split at h2 <;> omega
theorem scRef : FnScope ["in_range", "most", "lists", "numbers", "point"] ["in_range", "most", "lists"] (defScope sRef) := ⟨rfl, rfl, rfl, by decide +kernel, rfl, by decide +kernel, by decide +kernel⟩
theorem ok_ref {f C : Addr} {fd : FuncData} (F : Fun K "refusal" "refusal" sRef f fd) (T : Txt K mg C) (DC : Dn P w K mg base "count_points" 1 ["numbers"] (spCnt K)) (DR : Dn P w K mg base "read_points" 4 ["numbers"] (spRps K C))
    (DT : Dn P w K mg base "is_as_told" 1 ["point"] (spTold C)) : FnOk P w K mg base CX0 5 f fd ["in_range", "most", "lists"] (spRef K) := by
  obtain ⟨_, _, mC, kC, bC, GC⟩ := DC.ex
  obtain ⟨_, _, mR, kR, bR, GR⟩ := DR.ex
  obtain ⟨_, _, mT, kT, bT, GT⟩ := DT.ex
  refine F.ok scRef (fun vs H Q E h => ?_) (fun cdv A outer s H vs Q E hr h => ?_)
  · obtain ⟨b, most, ls, as, nss, rfl, _⟩ := h
    rfl
  · obtain ⟨b, most, ls, as, nss, rfl, hL, hW, hlen, k⟩ := h
    have hr1 : Room 1 _ := hr.mono (by decide)
    refine ⟨_, pss_cons (ps_if (PW.pt (pw_or (pt_not (pt_val (pv 0))) (pw_or1 (pt_val (pe_callB (cr_any rfl) (by rfl) T.any (by decide +kernel) (pa_cons
          (pe_lc (own := [("numbers", 3)]) (g := gName 3) (tt := tYes) rfl scRef.nd (pi_list (pv 2)) (blkOk_by (N := ["in_range", "most", "lists", "numbers", "point"]) (sc := defScope sRef) (by decide +kernel)) (fun _ _ _ _ _ => pg_name (i := 3) scRef.nd rfl (Or.inl rfl)) (fun _ _ _ _ _ => pts_nil)
            (fun _ _ _ _ _ => pe_cmpR op_gt (pe_call GC hr1 rfl mC kC bC .nil pass0 (pa_cons (pv 3) pa_nil)) (pv 1) (nomark _))) pa_nil)))))) (pss_one (ps_ret (pe_un un_neg pe_int))) pss_nil)
      (pss_cons (ps_for PassesOwn.never rfl (pi_list (pv 2)) (pg_name (i := 3) scRef.nd rfl (Or.inl rfl))
        (pss_one (ps_if (pt_not (pt_val (pe_callB (cr_all rfl) (by rfl) T.all (by decide +kernel) (pa_cons
          (pe_lc (own := [("point", 4)]) (g := gName 4) (tt := tYes) rfl scRef.nd (pi_list (pe_call GR hr rfl mR kR bR .nil pass0 (pa_cons (pv 3) pa_nil))) (blkOk_by (N := ["in_range", "most", "lists", "numbers", "point"]) (sc := defScope sRef) (by decide +kernel)) (fun _ _ _ _ _ => pg_name (i := 4) scRef.nd rfl (Or.inl rfl)) (fun _ _ _ _ _ => pts_nil)
            (fun _ _ _ _ _ => pe_call GT hr1 rfl mT kT bT .nil pass0 (pa_cons (pv 4) pa_nil))) pa_nil)))) (pss_one (ps_ret (pe_un un_neg pe_int))) pss_nil)))
      (pss_one (ps_ret pe_int))), ?_⟩
    unfold refu at k
    refine ⟨_, rfl, b, rfl, ?_⟩
    cases b with
    | false =>
      refine iteT (iteT ⟨_, rfl, ?_⟩)
      exact k H (Same.refl H)
    | true =>
      refine iteF ?_
      refine ⟨_, rfl, ls, rfl, ⟨_, hL⟩, fun D hD => ?_⟩
      refine lc_list (K := K) (a := ls) (xs := as.map V.ref) (fun i H' => Same H H' ∧ H' D = some (.lst (((nss.take i).map (many most)).map V.bl))) ⟨same_new hD, upd_same⟩ (fun i H' _ ⟨s1, _⟩ => s1.seq hL) ?_ ?_
      · rintro i y H1 hi ⟨s1, h1⟩
        obtain ⟨c, hc, rfl⟩ := ref_at hi
        obtain ⟨ns, hn, hS, _⟩ := hW.at_ i c hc
        refine ⟨rfl, ?_⟩
        unfold tYes
        refine iteT ?_
        refine ⟨_, rfl, c, ns, rfl, s1.seq hS, _, rfl, _, _, rfl, rfl, _, h1, ?_, same_over s1 hD, ?_⟩
        · rw [List.length_map, List.length_map, List.length_take]
          exact small1000 (by omega)
        · rw [upd_same, take_snoc hn, List.map_append, List.map_append]
          rfl
      · rintro H1 ⟨s1, h1⟩
        rw [List.length_map, hW.len, List.take_length] at h1
        refine ⟨D, _, rfl, SqL.of h1, _, rfl, ?_⟩
        have ea : (nss.map (many most)).any id = nss.any (many most) := by rw [List.any_map]; rfl
        rw [ea]
        have k' : ∀ H' : Hp, Same H H' → Q (V.int (if nss.any (many most) = true then -2 else if nss.all okL = true then 0 else -3)) H' := k
        cases hA : nss.any (many most) with
        | true =>
          refine iteT ⟨_, rfl, ?_⟩
          rw [hA] at k'
          exact k' H1 s1
        | false =>
          refine iteF ?_
          rw [hA] at k'
          refine ⟨_, rfl, ls, rfl, ⟨_, s1.seq hL⟩, for_list (K := K) (a := ls) (xs := as.map V.ref) (fun i σ H' => ∃ v : Option V, σ = [some (.bl true), some (.int most), some (.ref ls), v, none] ∧ Same H H' ∧ (nss.take i).all okL = true)
            ⟨none, rfl, s1, rfl⟩ (fun i σ H' _ ⟨_, _, s2, _⟩ => s2.seq hL) ?_ ?_⟩
          · rintro i y σ H2 hi ⟨v, rfl, s2, hk⟩
            obtain ⟨c, hc, rfl⟩ := ref_at hi
            obtain ⟨ns, hn, hS, hnl⟩ := hW.at_ i c hc
            refine ⟨_, rfl, c, ns, rfl, s2.seq hS, hnl, fun H3 l ps s3 hl h3 h4 => ?_⟩
            refine ⟨l, rfl, ⟨_, SqL.of h3⟩, fun D2 hD2 => ?_⟩
            refine lc_list (K := K) (a := l) (xs := ps.map V.ref) (fun j H' => Same H3 H' ∧ H' D2 = some (.lst ((((pts ns).take j).map told).map V.bl))) ⟨same_new hD2, upd_same⟩ (fun j H' _ ⟨s4, _⟩ => s4.seq (SqL.of h3)) ?_ ?_
            · rintro j z H4 hj ⟨s4, h5⟩
              obtain ⟨e, he, rfl⟩ := ref_at hj
              obtain ⟨p, hp, hpe⟩ := h4.at_ j e he
              refine ⟨rfl, ?_⟩
              unfold tYes
              refine iteT ?_
              refine ⟨_, rfl, e, p, rfl, hpe.same s4, _, h5, ?_, same_over s4 hD2, ?_⟩
              · rw [List.length_map, List.length_map, List.length_take]
                refine small1000 (Nat.le_trans (Nat.min_le_right _ _) ?_)
                unfold pts
                rw [List.length_map, List.length_range]
                omega
              · rw [upd_same, take_snoc hp, List.map_append, List.map_append]
                rfl
            · rintro H4 ⟨s4, h5⟩
              rw [List.length_map, h4.len, List.take_length] at h5
              refine ⟨D2, _, rfl, SqL.of h5, _, rfl, ?_⟩
              have eb : ((pts ns).map told).all id = okL ns := by unfold okL; rw [List.all_map]; rfl
              rw [eb]
              have s5 : Same H H4 := (s2.trans s3).trans s4
              cases hB : okL ns with
              | false =>
                refine iteT ⟨_, rfl, ?_⟩
                have e0 : nss.all okL = false := by
                  rw [List.all_eq_false]
                  exact ⟨ns, List.mem_of_getElem? hn, by rw [hB]; exact Bool.false_ne_true⟩
                rw [e0] at k'
                exact k' H4 s5
              | true =>
                refine iteF ?_
                refine ⟨_, rfl, s5, ?_⟩
                rw [take_snoc hn, List.all_append, hk]
                show (true && (okL ns && true)) = true
                rw [hB]
                rfl
          · rintro σ H2 ⟨v, rfl, s2, hk⟩
            rw [List.length_map, hW.len, List.take_length] at hk
            rw [hk] at k'
            exact k' H2 s2
theorem range_snoc (n : Nat) : List.range (n + 1) = List.range n ++ [n] := List.range_succ
theorem refu_in {b : Bool} {kn ln : List Int} (h : ¬ refu b 256 [kn, ln] < 0) : b = true ∧ okL kn = true ∧ okL ln = true := by
  rw [refu2] at h
  by_cases h1 : (b && (!many 256 kn && !many 256 ln)) = true
  · rw [if_pos h1] at h
    by_cases h2 : (okL kn && okL ln) = true
    · simp only [Bool.and_eq_true] at h1 h2
      exact ⟨h1.1, h2.1, h2.2⟩
    · rw [if_neg h2] at h
      exact absurd (by decide) h
  · rw [if_neg h1] at h
    exact absurd (by decide) h
theorem okL_all {ns : List Int} (h : okL ns = true) : ∀ q ∈ pts ns, told q = true := fun q hq => List.all_eq_true.mp h q hq
theorem pts_len (ns : List Int) : (pts ns).length = ns.length / 4 := by
  unfold pts
  rw [List.length_map, List.length_range]
/-- a and b, both True or False and without a trace in the heap: one way on -/
def tAnd2 (ta tb : TE) : TE := fun σ H Q => ∃ c1 c2, (ta σ H fun x H1 => x = .bl c1 ∧ H1 = H) ∧ (tb σ H fun x H1 => x = .bl c2 ∧ H1 = H) ∧ Q (.bl (c1 && c2)) H
theorem pe_and2 {X : Cx} {a b : Expr} {rest : List Expr} {pos : Pos} {ta tb : TE} (ha : PE X a ta) (hb : PE X (.BoolOp .And (b :: rest) pos) tb) : PE X (.BoolOp .And (a :: b :: rest) pos) (tAnd2 ta tb) := by
  refine ⟨fun pins s σ H Q I h => ?_⟩
  obtain ⟨c1, c2, h1, h2, q⟩ := h
  refine BoolOp_and (thn (ha.run pins s σ H _ I h1) fun v s1 ⟨x, H1, I1, r1, e1, e2⟩ => ?_)
  subst e1 e2
  cases r1
  refine wpAny_truthy_bool ?_
  cases c1 with
  | true =>
    refine thn (hb.run pins s1 σ H1 _ I1 h2) fun u s2 ⟨y, H2, I2, r2, f1, f2⟩ => ?_
    subst f1 f2
    exact ⟨_, _, I2, r2, q⟩
  | false => exact ⟨.bl false, H1, I1, rfl, q⟩

/-- an object stands at a whose x and y are these -/
def XyAt (K : PySem.W.Frag) (H : Hp) (a : Addr) (x y : Int) : Prop := ∃ (D dx : Addr) (fs : List (Str × V)), H a = some (.ins D dx fs) ∧ Cls K D ∧ NoAttr K D "x" ∧ NoAttr K D "y" ∧ fs.lookup ("x" : Str) = some (.int x) ∧ fs.lookup ("y" : Str) = some (.int y)
theorem XyAt.same {a : Addr} {H H' : Hp} {x y : Int} (h : XyAt K H a x y) (s : Same H H') : XyAt K H' a x y := by
  obtain ⟨D, dx, fs, e, r⟩ := h
  exact ⟨D, dx, fs, s _ _ e, r⟩
theorem PtAt.xy {C a : Addr} {H : Hp} {p : Point} (h : PtAt C H a p) (T : Txt K mg C) : XyAt K H a p.x p.y := by
  obtain ⟨dx, e⟩ := h
  exact ⟨C, dx, pf p, e, T.cl, T.nX, T.nY, pf_x p, pf_y p⟩
def far (x y x' y' : Int) : Int := (x - x') * (x - x') + (y - y') * (y - y')
def spFar2 (K : PySem.W.Frag) : Sp := fun vs H Q _ => ∃ (a b : Addr) (x y x' y' : Int), vs = [.ref a, .ref b] ∧ XyAt K H a x y ∧ XyAt K H b x' y' ∧ (x - x').natAbs < 2 ^ 200 ∧ (y - y').natAbs < 2 ^ 200 ∧ Q (.int (far x y x' y')) H
theorem lt200 {i : Int} {B : Nat} (h : i.natAbs ≤ B) (hB : B < 2 ^ 200 := by decide) : i.natAbs < 2 ^ 200 := Nat.lt_of_le_of_lt h hB

abbrev sFar : Stmt := top 23
theorem scFar : FnScope ["a", "b", "across", "along"] ["a", "b"] (defScope sFar) := ⟨rfl, rfl, rfl, by decide +kernel, rfl, by decide +kernel, by decide +kernel⟩
theorem ok_far2 {f : Addr} {fd : FuncData} (F : Fun K "how_far" "how_far" sFar f fd) : FnOk P w K mg base CX0 1 f fd ["a", "b"] (spFar2 K) := by
  refine F.ok scFar (fun vs H Q E h => ?_) (fun cdv A outer s H vs Q E hr h => ?_)
  · obtain ⟨a, b, x, y, x', y', rfl, _⟩ := h
    rfl
  · obtain ⟨a, b, x, y, x', y', rfl, ⟨D1, d1, f1, h1, c1, nx1, ny1, lx1, ly1⟩, ⟨D2, d2, f2, h2, c2, nx2, ny2, lx2, ly2⟩, b1, b2, k⟩ := h
    refine ⟨_, pss_cons (ps_set (i := 2) scFar.nd rfl (Or.inl rfl) (pe_op op_sub (pe_fld (pv 0) rfl) (pe_fld (pv 1) rfl)))
      (pss_cons (ps_set (i := 3) scFar.nd rfl (Or.inl rfl) (pe_op op_sub (pe_fld (pv 0) rfl) (pe_fld (pv 1) rfl)))
      (pss_one (ps_ret (pe_op op_add (pe_op op_mulW (pv 2) (pv 2)) (pe_op op_mulW (pv 3) (pv 3)))))), ?_⟩
    refine ⟨_, rfl, a, D1, d1, _, _, rfl, h1, c1, nx1, lx1, _, rfl, b, D2, d2, _, _, rfl, h2, c2, nx2, lx2, _, _, rfl, rfl, ?_⟩
    refine ⟨_, rfl, a, D1, d1, _, _, rfl, h1, c1, ny1, ly1, _, rfl, b, D2, d2, _, _, rfl, h2, c2, ny2, ly2, _, _, rfl, rfl, ?_⟩
    refine ⟨_, rfl, _, rfl, _, _, rfl, rfl, wide_mul b1 b1 (by decide) (by decide) (by decide), _, rfl, _, rfl, _, _, rfl, rfl, wide_mul b2 b2 (by decide) (by decide) (by decide), _, _, rfl, rfl, k⟩
abbrev sInitF : Stmt := inClass (top 10) 0
abbrev sRnd : Stmt := top 17
structure TxtF (K : PySem.W.Frag) (mg : Str → Option Value) (C : Addr) : Prop where
  cl : Cls K C
  nX : NoAttr K C "x"
  nY : NoAttr K C "y"
  mgC : mg "FinePlace" = some (.ref C)
def ff (x y : Int) : List (Str × V) := putF "y" (.int y) (putF "x" (.int x) [])
theorem ff_y (x y : Int) : (ff x y).lookup ("y" : Str) = some (.int y) := by
  unfold ff
  rw [lookup_putF, if_pos rfl]
theorem ff_x (x y : Int) : (ff x y).lookup ("x" : Str) = some (.int x) := by
  unfold ff
  rw [lookup_putF, if_neg (by decide +kernel), lookup_putF, if_pos rfl]
theorem xy_of {C a dx : Addr} {H : Hp} {x y : Int} (T : TxtF K mg C) (h : H a = some (.ins C dx (ff x y))) : XyAt K H a x y := ⟨C, dx, ff x y, h, T.cl, T.nX, T.nY, ff_x x y, ff_y x y⟩
def spInitF (C : Addr) : Sp := fun vs H Q _ => ∃ (o dx : Addr) (x y : Int), vs = [.ref o, .int x, .int y] ∧ H o = some (.ins C dx []) ∧ ∀ H' : Hp, (∃ dx', H' o = some (.ins C dx' (ff x y))) → (∀ b u, H b = some u → b ≠ o → H' b = some u) → Q .non H'
theorem scInitF : FnScope ["self", "x", "y"] ["self", "x", "y"] (defScope sInitF) := ⟨rfl, rfl, rfl, by decide +kernel, rfl, by decide +kernel, by decide +kernel⟩
theorem ok_initF {f C : Addr} {fd : FuncData} (F : Fun K "__init__" "FinePlace.__init__" sInitF f fd) (T : TxtF K mg C) : FnOk P w K mg base CX0 1 f fd ["self", "x", "y"] (spInitF C) := by
  refine F.ok scInitF (fun vs H Q E h => ?_) (fun cdv A outer s H vs Q E hr h => ?_)
  · obtain ⟨o, dx, x, y, rfl, _⟩ := h
    rfl
  · obtain ⟨o, dx, x, y, rfl, hp, k⟩ := h
    refine ⟨_, pss_cons (ps_fld (pv 0) (pv 1) rfl) (pss_one (ps_fld (pv 0) (pv 2) rfl)), ?_⟩
    refine ⟨_, rfl, _, rfl, o, C, dx, [], rfl, hp, T.cl, T.nX, (by show 0 < 1000; decide), ?_⟩
    refine ⟨_, rfl, _, rfl, o, C, dx, _, rfl, upd_same, T.cl, T.nY, Nat.lt_of_le_of_lt (flt (Nat.zero_le 0)) (by decide), ?_⟩
    exact k _ ⟨dx, upd_same⟩ fun b u e hb => by rw [upd_ne hb, upd_ne hb]; exact e
def spRnd : Sp := fun vs H Q _ => ∃ (a b : Int), vs = [.int a, .int b] ∧ 0 < b ∧ b.natAbs < 2 ^ 200 ∧ Q (.int (Sh72.near a b)) H
theorem scRnd : FnScope ["number", "by"] ["number", "by"] (defScope sRnd) := ⟨rfl, rfl, rfl, by decide +kernel, rfl, by decide +kernel, by decide +kernel⟩
theorem ok_rnd {f : Addr} {fd : FuncData} (F : Fun K "rounded" "rounded" sRnd f fd) : FnOk P w K mg base CX0 1 f fd ["number", "by"] spRnd := by
  refine F.ok scRnd (fun vs H Q E h => ?_) (fun cdv A outer s H vs Q E hr h => ?_)
  · obtain ⟨a, b, rfl, _⟩ := h
    rfl
  · obtain ⟨a, b, rfl, h0, h1, k⟩ := h
    refine ⟨_, pss_one (ps_ret (pe_op op_fdivW (pe_op op_add (pe_op op_mul pe_int (pv 0)) (pv 1)) (pe_op op_mul pe_int (pv 1)))), ?_⟩
    have h2 : (2 * b).natAbs < 2 ^ 201 := by
      rw [Int.natAbs_mul, Nat.pow_succ, Nat.mul_comm]
      exact Nat.mul_lt_mul_of_pos_right h1 (by decide)
    refine ⟨_, rfl, _, _, rfl, rfl, .inl ⟨by decide, by decide⟩, _, rfl, _, _, rfl, rfl, _, rfl, _, _, rfl, rfl, .inl ⟨by decide, by decide⟩, _, _, rfl, rfl, wide_div (by omega) h2 (by decide) (by decide), k⟩
abbrev sLw : Stmt := top 12
def spLw : Sp := fun vs H Q _ => ∃ a : Int, vs = [.int a] ∧ Q (.int (long a)) H
theorem scLw : FnScope ["number"] ["number"] (defScope sLw) := ⟨rfl, rfl, rfl, by decide +kernel, rfl, by decide +kernel, by decide +kernel⟩
theorem ok_lw {f : Addr} {fd : FuncData} (F : Fun K "long_word" "long_word" sLw f fd) (c : ∃ t, mg "LONG_WORDS" = some (.int 18446744073709551616 t)) : FnOk P w K mg base CX0 1 f fd ["number"] spLw := by
  obtain ⟨_, c⟩ := c
  refine F.ok scLw (fun vs H Q E h => ?_) (fun cdv A outer s H vs Q E hr h => ?_)
  · obtain ⟨a, rfl, _⟩ := h
    rfl
  · obtain ⟨a, rfl, k⟩ := h
    refine ⟨_, pss_one (ps_ret (pe_op op_mod (pv 0) (pgi rfl c))), ?_⟩
    exact ⟨_, rfl, _, _, rfl, rfl, (by show (0 : Int) < 18446744073709551616; decide), k⟩
abbrev sFin : Stmt := top 16
def spFin (K : PySem.W.Frag) (C : Addr) : Sp := fun vs H Q _ => ∃ (a : Addr) (p : Point), vs = [.ref a] ∧ PtAt C H a p ∧ ∀ (H' : Hp) (o : Addr), Same H H' → XyAt K H' o (256 * p.x) (256 * p.y) → Q (.ref o) H'
theorem scFin : FnScope ["point"] ["point"] (defScope sFin) := ⟨rfl, rfl, rfl, by decide +kernel, rfl, by decide +kernel, by decide +kernel⟩
theorem ok_fin {f C CF fI : Addr} {fd fdI : FuncData} (F : Fun K "finely" "finely" sFin f fd) (T : Txt K mg C) (TF : TxtF K mg CF) (M : Mk K CF fI) (GI : FnOk P w K mg base CX0 1 fI fdI ["self", "x", "y"] (spInitF CF)) (bI : Binds K fdI ["self", "x", "y"] [])
    (c : ∃ t, mg "FINE_PARTS" = some (.int 256 t)) : FnOk P w K mg base CX0 3 f fd ["point"] (spFin K C) := by
  obtain ⟨_, c⟩ := c
  refine F.ok scFin (fun vs H Q E h => ?_) (fun cdv A outer s H vs Q E hr h => ?_)
  · obtain ⟨a, p, rfl, _⟩ := h
    rfl
  · obtain ⟨a, p, rfl, ⟨dp, hp⟩, k⟩ := h
    refine ⟨_, pss_one (ps_ret (pe_make M GI hr rfl TF.mgC bI .nil pass0 (pa_cons (pe_op op_mul (pgi rfl c) (pe_fld (pv 0) rfl)) (pa_cons (pe_op op_mul (pgi rfl c) (pe_fld (pv 0) rfl)) pa_nil)))), ?_⟩
    refine ⟨_, rfl, a, C, dp, _, _, rfl, hp, T.cl, T.nX, pf_x p, _, _, rfl, rfl, .inl ⟨by decide, by decide⟩, ?_⟩
    refine ⟨_, rfl, a, C, dp, _, _, rfl, hp, T.cl, T.nY, pf_y p, _, _, rfl, rfl, .inl ⟨by decide, by decide⟩, ?_⟩
    intro x dx nx nd ne
    refine ⟨x, dx, 256 * p.x, 256 * p.y, rfl, upd_same, fun H' ⟨dx', hA⟩ kp => ⟨rfl, ?_⟩⟩
    exact k H' x (Same.made nx nd kp) (xy_of TF hA)
abbrev sInitG : Stmt := inClass (top 22) 0
abbrev sSop : Stmt := top 24
abbrev sFit : Stmt := top 25
abbrev sPla : Stmt := top 26
/-- o.f within a comprehension: the frame's fragment is said -/
theorem pe_fldK {X : Cx} {e : Expr} {ta : TE} {f : Str} {pos : Pos} (K : PySem.W.Frag) (hK : X.K = K) (he : PE X e ta) (hb : attributeBase e f X.env (eval e X.env) = eval e X.env) : PE X (.Attribute e f pos) (tFld K ta f) := hK ▸ pe_fld he hb
structure TxtG (K : PySem.W.Frag) (mg : Str → Option Value) (C : Addr) : Prop where
  cl : Cls K C
  n1 : NoAttr K C "x0"
  n2 : NoAttr K C "vx"
  n3 : NoAttr K C "y0"
  n4 : NoAttr K C "vy"
  n5 : NoAttr K C "g"
  mgC : mg "Fit" = some (.ref C)
def gf (f : Sh72.Fit) : List (Str × V) := putF "g" (.int f.over) (putF "vy" (.int f.vy) (putF "y0" (.int f.y0) (putF "vx" (.int f.vx) (putF "x0" (.int f.x0) []))))
theorem gf_5 (f : Sh72.Fit) : (gf f).lookup ("g" : Str) = some (.int f.over) := by
  unfold gf
  rw [lookup_putF, if_pos rfl]
theorem gf_4 (f : Sh72.Fit) : (gf f).lookup ("vy" : Str) = some (.int f.vy) := by
  unfold gf
  rw [lookup_putF, if_neg (by decide +kernel), lookup_putF, if_pos rfl]
theorem gf_3 (f : Sh72.Fit) : (gf f).lookup ("y0" : Str) = some (.int f.y0) := by
  unfold gf
  rw [lookup_putF, if_neg (by decide +kernel), lookup_putF, if_neg (by decide +kernel), lookup_putF, if_pos rfl]
theorem gf_2 (f : Sh72.Fit) : (gf f).lookup ("vx" : Str) = some (.int f.vx) := by
  unfold gf
  rw [lookup_putF, if_neg (by decide +kernel), lookup_putF, if_neg (by decide +kernel), lookup_putF, if_neg (by decide +kernel), lookup_putF, if_pos rfl]
theorem gf_1 (f : Sh72.Fit) : (gf f).lookup ("x0" : Str) = some (.int f.x0) := by
  unfold gf
  rw [lookup_putF, if_neg (by decide +kernel), lookup_putF, if_neg (by decide +kernel), lookup_putF, if_neg (by decide +kernel), lookup_putF, if_neg (by decide +kernel), lookup_putF, if_pos rfl]
/-- a Fit stands at a -/
def FitAt (C : Addr) (H : Hp) (a : Addr) (f : Sh72.Fit) : Prop := ∃ dx, H a = some (.ins C dx (gf f))
theorem FitAt.same {C a : Addr} {H H' : Hp} {f : Sh72.Fit} (h : FitAt C H a f) (s : Same H H') : FitAt C H' a f := let ⟨dx, e⟩ := h; ⟨dx, s _ _ e⟩
def FitO (C : Addr) (H : Hp) (v : V) (o : Option Sh72.Fit) : Prop := match o with
  | none => v = .non
  | some f => ∃ a, v = .ref a ∧ FitAt C H a f
def spInitG (C : Addr) : Sp := fun vs H Q _ => ∃ (o dx : Addr) (f : Sh72.Fit), vs = [.ref o, .int f.x0, .int f.vx, .int f.y0, .int f.vy, .int f.over] ∧ H o = some (.ins C dx []) ∧ ∀ H' : Hp, FitAt C H' o f → (∀ b u, H b = some u → b ≠ o → H' b = some u) → Q .non H'
theorem scInitG : FnScope ["self", "x0", "vx", "y0", "vy", "g"] ["self", "x0", "vx", "y0", "vy", "g"] (defScope sInitG) := ⟨rfl, rfl, rfl, by decide +kernel, rfl, by decide +kernel, by decide +kernel⟩
theorem ok_initG {f C : Addr} {fd : FuncData} (F : Fun K "__init__" "Fit.__init__" sInitG f fd) (T : TxtG K mg C) : FnOk P w K mg base CX0 1 f fd ["self", "x0", "vx", "y0", "vy", "g"] (spInitG C) := by
  refine F.ok scInitG (fun vs H Q E h => ?_) (fun cdv A outer s H vs Q E hr h => ?_)
  · obtain ⟨o, dx, f, rfl, _⟩ := h
    rfl
  · obtain ⟨o, dx, f, rfl, hp, k⟩ := h
    refine ⟨_, pss_cons (ps_fld (pv 0) (pv 1) rfl) (pss_cons (ps_fld (pv 0) (pv 2) rfl) (pss_cons (ps_fld (pv 0) (pv 3) rfl) (pss_cons (ps_fld (pv 0) (pv 4) rfl) (pss_one (ps_fld (pv 0) (pv 5) rfl))))), ?_⟩
    refine ⟨_, rfl, _, rfl, o, C, dx, [], rfl, hp, T.cl, T.n1, (by show 0 < 1000; decide), ?_⟩
    refine ⟨_, rfl, _, rfl, o, C, dx, _, rfl, upd_same, T.cl, T.n2, Nat.lt_of_le_of_lt (flt (Nat.zero_le 0)) (by decide), ?_⟩
    refine ⟨_, rfl, _, rfl, o, C, dx, _, rfl, upd_same, T.cl, T.n3, Nat.lt_of_le_of_lt (flt (flt (Nat.zero_le 0))) (by decide), ?_⟩
    refine ⟨_, rfl, _, rfl, o, C, dx, _, rfl, upd_same, T.cl, T.n4, Nat.lt_of_le_of_lt (flt (flt (flt (Nat.zero_le 0)))) (by decide), ?_⟩
    refine ⟨_, rfl, _, rfl, o, C, dx, _, rfl, upd_same, T.cl, T.n5, Nat.lt_of_le_of_lt (flt (flt (flt (flt (Nat.zero_le 0))))) (by decide), ?_⟩
    exact k _ ⟨dx, upd_same⟩ fun b u e hb => by rw [upd_ne hb, upd_ne hb, upd_ne hb, upd_ne hb, upd_ne hb]; exact e
def spSop (K : PySem.W.Frag) : Sp := fun vs H Q _ => ∃ (a b : Addr) (us ws : List Int), vs = [.ref a, .ref b] ∧ SqL K H a (us.map V.int) ∧ SqL K H b (ws.map V.int) ∧ us.length ≤ ws.length ∧ us.length ≤ 96 ∧ (∀ x ∈ us, x.natAbs ≤ 65535) ∧ ∀ H' : Hp, Same H H' → Q (.int (sop us ws)) H'
theorem scSop : FnScope ["us", "vs", "k"] ["us", "vs"] (defScope sSop) := ⟨rfl, rfl, rfl, by decide +kernel, rfl, by decide +kernel, by decide +kernel⟩
theorem ok_sop {f C : Addr} {fd : FuncData} (F : Fun K "sum_of_products" "sum_of_products" sSop f fd) (T : Txt K mg C) (zs : mg "sum" = none) : FnOk P w K mg base CX0 1 f fd ["us", "vs"] (spSop K) := by
  refine F.ok scSop (fun vs H Q E h => ?_) (fun cdv A outer s H vs Q E hr h => ?_)
  · obtain ⟨a, b, us, ws, rfl, _⟩ := h
    rfl
  · obtain ⟨a, b, us, ws, rfl, hU, hW, hlw, h48, hb, k⟩ := h
    refine ⟨_, pss_one (ps_ret (pe_callB (cr_sum rfl) (by rfl) zs (by decide +kernel) (pa_cons
      (pe_lc (own := [("k", 2)]) (g := gName 2) (tt := tYes) rfl scSop.nd (pi_range1 rfl T.range (pa_cons (pe_callB call_len_seq (by rfl) T.len PySem.boot_len (pa_cons (pv 0) pa_nil)) pa_nil)) (blkOk_by (N := ["us", "vs", "k"]) (sc := defScope sSop) (by decide +kernel)) (fun _ _ _ _ _ => pg_name (i := 2) scSop.nd rfl (Or.inl rfl)) (fun _ _ _ _ _ => pts_nil)
        (fun _ _ _ _ _ => pe_op op_mul (pe_ix (show IxR _ (rIxL K) from ix_list) (pv 0) (pv 2) (fun _ _ => rfl)) (pe_ix (show IxR _ (rIxL K) from ix_list) (pv 1) (pv 2) (fun _ _ => rfl)))) pa_nil))), ?_⟩
    have el : (((us.map V.int).length : Nat) : Int).toNat = us.length := by
      rw [List.length_map]
      rfl
    have hlen : (us.map V.int).length ≤ 96 := by
      rw [List.length_map]
      exact h48
    refine ⟨_, rfl, a, _, rfl, .inl hU, _, rfl, by omega, by omega, fun D hD => ?_⟩
    rw [el]
    refine lc_range (lo := 0) (n := us.length) (fun i H' => Same H H' ∧ H' D = some (.lst (((List.range i).map fun k => us.getD k 0 * ws.getD k 0).map V.int))) ⟨same_new hD, upd_same⟩ ?_ ?_
    · rintro i H1 hi ⟨s1, h1⟩
      refine ⟨rfl, ?_⟩
      unfold tYes
      refine iteT ?_
      have hx : (us.getD i 0).natAbs ≤ 65535 := by
        rw [List.getD_eq_getElem?_getD, List.getElem?_eq_getElem hi]
        exact hb _ (List.getElem_mem hi)
      refine ⟨_, rfl, _, rfl, a, _, _, _, rfl, rfl, s1.seq hU, at_of (j := i) (Int.zero_add _) (int_at hi), _, rfl, _, rfl, b, _, _, _, rfl, rfl, s1.seq hW, at_of (j := i) (Int.zero_add _) (int_at (by omega)), _, _, rfl, rfl, .inl ⟨by omega, by omega⟩, _, h1, ?_, same_over s1 hD, ?_⟩
      · rw [List.length_map, List.length_map, List.length_range]
        exact small1000 (by omega)
      · rw [upd_same, range_snoc, List.map_append, List.map_append]
        rfl
    · rintro H1 ⟨s1, h1⟩
      exact ⟨D, _, rfl, SqL.of h1, k H1 s1⟩
def spFit (K : PySem.W.Frag) (C CG : Addr) : Sp := fun vs H Q _ => ∃ (l : Addr) (as : List Addr) (ps : List Point), vs = [.ref l] ∧ SqL K H l (as.map V.ref) ∧ PtsAt C H as ps ∧ (∀ q ∈ ps, told q = true) ∧ ps.length ≤ 96 ∧
  ∀ (H' : Hp) (v : V), Same H H' → FitO CG H' v (Sh72.fit ps) → Q v H'
abbrev nFit : List Str := ["points", "n", "ts", "xs", "ys", "sum_t", "sum_tt", "g", "sum_x", "sum_tx", "sum_y", "sum_ty", "point"]
theorem scFit : FnScope nFit ["points"] (defScope sFit) := ⟨rfl, rfl, rfl, by decide +kernel, rfl, by decide +kernel, by decide +kernel⟩
theorem ok_fit {f C CG fI : Addr} {fd fdI : FuncData} (F : Fun K "fit_of" "fit_of" sFit f fd) (T : Txt K mg C) (TG : TxtG K mg CG) (M : Mk K CG fI) (GI : FnOk P w K mg base CX0 1 fI fdI ["self", "x0", "vx", "y0", "vy", "g"] (spInitG CG)) (bI : Binds K fdI ["self", "x0", "vx", "y0", "vy", "g"] [])
    (zs : mg "sum" = none) (DS : Dn P w K mg base "sum_of_products" 1 ["us", "vs"] (spSop K)) : FnOk P w K mg base CX0 3 f fd ["points"] (spFit K C CG) := by
  obtain ⟨_, _, mS, kS, bS, GS⟩ := DS.ex
  refine F.ok scFit (fun vs H Q E h => ?_) (fun cdv A outer s H vs Q E hr h => ?_)
  · obtain ⟨l, as, ps, rfl, _⟩ := h
    rfl
  · obtain ⟨l, as, ps, rfl, hL, hA, tq, h48, k⟩ := h
    have hr1 : Room 1 _ := hr.mono (by decide)
    refine ⟨_, pss_cons (ps_set (i := 1) scFit.nd rfl (Or.inl rfl) (pe_callB call_len_seq (by rfl) T.len PySem.boot_len (pa_cons (pv 0) pa_nil)))
      (pss_cons (ps_setLc (i := 2) (own := [("point", 12)]) (g := gName 12) (tt := tYes) rfl scFit.nd rfl rfl (sw_true rfl rfl rfl (by decide +kernel)) (pi_list (pv 0)) (blkOk_by (N := nFit) (sc := defScope sFit) (by decide +kernel)) (fun _ _ _ _ _ => pg_name (i := 12) scFit.nd rfl (Or.inl rfl)) (fun _ _ _ _ _ => pts_nil) (fun _ _ _ _ _ => pe_fldK K rfl (pv 12) rfl))
      (pss_cons (ps_setLc (i := 3) (own := [("point", 12)]) (g := gName 12) (tt := tYes) rfl scFit.nd rfl rfl (sw_true rfl rfl rfl (by decide +kernel)) (pi_list (pv 0)) (blkOk_by (N := nFit) (sc := defScope sFit) (by decide +kernel)) (fun _ _ _ _ _ => pg_name (i := 12) scFit.nd rfl (Or.inl rfl)) (fun _ _ _ _ _ => pts_nil) (fun _ _ _ _ _ => pe_fldK K rfl (pv 12) rfl))
      (pss_cons (ps_setLc (i := 4) (own := [("point", 12)]) (g := gName 12) (tt := tYes) rfl scFit.nd rfl rfl (sw_true rfl rfl rfl (by decide +kernel)) (pi_list (pv 0)) (blkOk_by (N := nFit) (sc := defScope sFit) (by decide +kernel)) (fun _ _ _ _ _ => pg_name (i := 12) scFit.nd rfl (Or.inl rfl)) (fun _ _ _ _ _ => pts_nil) (fun _ _ _ _ _ => pe_fldK K rfl (pv 12) rfl))
      (pss_cons (ps_set (i := 5) scFit.nd rfl (Or.inl rfl) (pe_callB (cr_sum rfl) (by rfl) zs (by decide +kernel) (pa_cons (pv 2) pa_nil)))
      (pss_cons (ps_set (i := 6) scFit.nd rfl (Or.inl rfl) (pe_call GS hr1 rfl mS kS bS .nil pass0 (pa_cons (pv 2) (pa_cons (pv 2) pa_nil))))
      (pss_cons (ps_set (i := 7) scFit.nd rfl (Or.inl rfl) (pe_op op_sub (pe_op op_mul (pv 1) (pv 6)) (pe_op op_mul (pv 5) (pv 5))))
      (pss_cons (ps_if (pt_cmpR op_le (pv 7) pe_int (nomark _)) (pss_one (ps_ret pe_non)) pss_nil)
      (pss_cons (ps_set (i := 8) scFit.nd rfl (Or.inl rfl) (pe_callB (cr_sum rfl) (by rfl) zs (by decide +kernel) (pa_cons (pv 3) pa_nil)))
      (pss_cons (ps_set (i := 9) scFit.nd rfl (Or.inl rfl) (pe_call GS hr1 rfl mS kS bS .nil pass0 (pa_cons (pv 2) (pa_cons (pv 3) pa_nil))))
      (pss_cons (ps_set (i := 10) scFit.nd rfl (Or.inl rfl) (pe_callB (cr_sum rfl) (by rfl) zs (by decide +kernel) (pa_cons (pv 4) pa_nil)))
      (pss_cons (ps_set (i := 11) scFit.nd rfl (Or.inl rfl) (pe_call GS hr1 rfl mS kS bS .nil pass0 (pa_cons (pv 2) (pa_cons (pv 4) pa_nil))))
      (pss_one (ps_ret (pe_make M GI hr rfl TG.mgC bI .nil pass0
        (pa_cons (pe_op op_sub (pe_op op_mul (pv 6) (pv 8)) (pe_op op_mul (pv 5) (pv 9)))
        (pa_cons (pe_op op_sub (pe_op op_mul (pv 1) (pv 9)) (pe_op op_mul (pv 5) (pv 8)))
        (pa_cons (pe_op op_sub (pe_op op_mul (pv 6) (pv 10)) (pe_op op_mul (pv 5) (pv 11)))
        (pa_cons (pe_op op_sub (pe_op op_mul (pv 1) (pv 11)) (pe_op op_mul (pv 5) (pv 10)))
        (pa_cons (pv 7) pa_nil))))))))))))))))))), ?_⟩
    refine ⟨_, rfl, l, _, rfl, .inl hL, ?_⟩
    rw [List.length_map, hA.len]
    refine ⟨_, rfl, l, rfl, ⟨_, hL⟩, fun D hD => ?_⟩
    refine lc_list (K := K) (a := l) (xs := as.map V.ref) (fun i H' => Same H H' ∧ H' D = some (.lst (((ps.take i).map fun p => p.t).map V.int))) ⟨same_new hD, upd_same⟩ (fun i H' _ ⟨z, _⟩ => z.seq hL) ?_ ?_
    · rintro i y H1 hi ⟨s1, h1⟩
      obtain ⟨c, hc, rfl⟩ := ref_at hi
      obtain ⟨p, hp, dp, hpc⟩ := hA.at_ i c hc
      refine ⟨rfl, ?_⟩
      unfold tYes
      refine iteT ?_
      refine ⟨_, rfl, c, C, dp, _, _, rfl, s1 _ _ hpc, T.cl, T.nT, pf_t p, _, h1, ?_, same_over s1 hD, ?_⟩
      · rw [List.length_map, List.length_map, List.length_take]
        exact small1000 (by omega)
      · rw [upd_same, take_snoc hp, List.map_append, List.map_append]
        rfl
    rintro H1 ⟨s1, h1⟩
    rw [List.length_map, hA.len, List.take_length] at h1
    refine ⟨_, rfl, l, rfl, ⟨_, s1.seq hL⟩, fun D2 hD2 => ?_⟩
    refine lc_list (K := K) (a := l) (xs := as.map V.ref) (fun i H' => Same H1 H' ∧ H' D2 = some (.lst (((ps.take i).map fun p => p.x).map V.int))) ⟨same_new hD2, upd_same⟩ (fun i H' _ ⟨z, _⟩ => (s1.trans z).seq hL) ?_ ?_
    · rintro i y H2 hi ⟨s2, h2⟩
      obtain ⟨c, hc, rfl⟩ := ref_at hi
      obtain ⟨p, hp, dp, hpc⟩ := hA.at_ i c hc
      refine ⟨rfl, ?_⟩
      unfold tYes
      refine iteT ?_
      refine ⟨_, rfl, c, C, dp, _, _, rfl, s2 _ _ (s1 _ _ hpc), T.cl, T.nX, pf_x p, _, h2, ?_, same_over s2 hD2, ?_⟩
      · rw [List.length_map, List.length_map, List.length_take]
        exact small1000 (by omega)
      · rw [upd_same, take_snoc hp, List.map_append, List.map_append]
        rfl
    rintro H2 ⟨s2, h2⟩
    rw [List.length_map, hA.len, List.take_length] at h2
    have s12 := s1.trans s2
    refine ⟨_, rfl, l, rfl, ⟨_, s12.seq hL⟩, fun D3 hD3 => ?_⟩
    refine lc_list (K := K) (a := l) (xs := as.map V.ref) (fun i H' => Same H2 H' ∧ H' D3 = some (.lst (((ps.take i).map fun p => p.y).map V.int))) ⟨same_new hD3, upd_same⟩ (fun i H' _ ⟨z, _⟩ => (s12.trans z).seq hL) ?_ ?_
    · rintro i y H3 hi ⟨s3, h3⟩
      obtain ⟨c, hc, rfl⟩ := ref_at hi
      obtain ⟨p, hp, dp, hpc⟩ := hA.at_ i c hc
      refine ⟨rfl, ?_⟩
      unfold tYes
      refine iteT ?_
      refine ⟨_, rfl, c, C, dp, _, _, rfl, s3 _ _ (s12 _ _ hpc), T.cl, T.nY, pf_y p, _, h3, ?_, same_over s3 hD3, ?_⟩
      · rw [List.length_map, List.length_map, List.length_take]
        exact small1000 (by omega)
      · rw [upd_same, take_snoc hp, List.map_append, List.map_append]
        rfl
    rintro H3 ⟨s3, h3⟩
    rw [List.length_map, hA.len, List.take_length] at h3
    have s03 := s12.trans s3
    have h2 := s3 _ _ h2
    have h1 := s3 _ _ (s2 _ _ h1)
    have tb : ∀ x ∈ ps.map fun p => p.t, x.natAbs ≤ 65535 := fun x hx => by
      obtain ⟨p, hp, rfl⟩ := List.mem_map.mp hx
      exact (told_bd (tq p hp)).2.2.1
    have hle : ∀ {g : Point → Int}, (ps.map fun p => p.t).length ≤ (ps.map g).length := by
      intro g
      rw [List.length_map, List.length_map]
      exact Nat.le_refl _
    have hl48 : (ps.map fun p => p.t).length ≤ 96 := by
      rw [List.length_map]
      exact h48
    obtain ⟨b1, b2, b3, b4, b5, b6⟩ := sums_bd tq h48
    unfold Sh72.fit at k
    dsimp only at k
    refine ⟨_, rfl, D, _, rfl, SqL.of h1, ?_⟩
    rw [show (ps.map fun p => p.t).sum = Sh72.sum (ps.map fun p => p.t) from rfl]
    refine ⟨_, rfl, _, rfl, D, D, _, _, rfl, SqL.of h1, SqL.of h1, hle, hl48, tb, fun H4 s4 => ?_⟩
    rw [sop_is ps (fun p => p.t) (fun p => p.t)]
    refine ⟨_, rfl, _, rfl, _, _, rfl, rfl, .inl ⟨by omega, by omega⟩, _, rfl, _, rfl, _, _, rfl, rfl, .inl ⟨by omega, by omega⟩, _, _, rfl, rfl, ?_⟩
    refine ⟨_, rfl, _, _, rfl, rfl, _, rfl, ?_⟩
    refine ite2 (fun h => ?_) (fun h => ?_)
    · rw [if_pos (of_decide_eq_true h)] at k
      exact k H4 _ (s03.trans s4) rfl
    · rw [if_neg (fun z => h (decide_eq_true z))] at k
      refine ⟨_, rfl, D2, _, rfl, SqL.of (s4 _ _ h2), ?_⟩
      rw [show (ps.map fun p => p.x).sum = Sh72.sum (ps.map fun p => p.x) from rfl]
      refine ⟨_, rfl, _, rfl, D, D2, _, _, rfl, SqL.of (s4 _ _ h1), SqL.of (s4 _ _ h2), hle, hl48, tb, fun H5 s5 => ?_⟩
      rw [sop_is ps (fun p => p.t) (fun p => p.x)]
      have s45 := s4.trans s5
      refine ⟨_, rfl, D3, _, rfl, SqL.of (s45 _ _ h3), ?_⟩
      rw [show (ps.map fun p => p.y).sum = Sh72.sum (ps.map fun p => p.y) from rfl]
      refine ⟨_, rfl, _, rfl, D, D3, _, _, rfl, SqL.of (s45 _ _ h1), SqL.of (s45 _ _ h3), hle, hl48, tb, fun H6 s6 => ?_⟩
      rw [sop_is ps (fun p => p.t) (fun p => p.y)]
      refine ⟨_, rfl, _, rfl, _, _, rfl, rfl, .inl ⟨by omega, by omega⟩, _, rfl, _, rfl, _, _, rfl, rfl, .inl ⟨by omega, by omega⟩, _, _, rfl, rfl, ?_⟩
      refine ⟨_, rfl, _, rfl, _, _, rfl, rfl, .inl ⟨by omega, by omega⟩, _, rfl, _, rfl, _, _, rfl, rfl, .inl ⟨by omega, by omega⟩, _, _, rfl, rfl, ?_⟩
      refine ⟨_, rfl, _, rfl, _, _, rfl, rfl, .inl ⟨by omega, by omega⟩, _, rfl, _, rfl, _, _, rfl, rfl, .inl ⟨by omega, by omega⟩, _, _, rfl, rfl, ?_⟩
      refine ⟨_, rfl, _, rfl, _, _, rfl, rfl, .inl ⟨by omega, by omega⟩, _, rfl, _, rfl, _, _, rfl, rfl, .inl ⟨by omega, by omega⟩, _, _, rfl, rfl, ?_⟩
      refine ⟨_, rfl, ?_⟩
      intro x dx nx nd ne
      refine ⟨x, dx, ⟨_, _, _, _, _⟩, rfl, upd_same, fun H' hA' kp => ⟨rfl, ?_⟩⟩
      exact k H' _ ((s03.trans (s45.trans s6)).trans (Same.made nx nd kp)) ⟨x, rfl, hA'⟩
def spPla (K : PySem.W.Frag) (CG : Addr) : Sp := fun vs H Q _ => ∃ (a : Addr) (f : Sh72.Fit) (t : Int), vs = [.ref a, .int t] ∧ FitAt CG H a f ∧ BF f ∧ ∀ (H' : Hp) (o : Addr), Same H H' → XyAt K H' o (f.place t).1 (f.place t).2 → Q (.ref o) H'
theorem scPla : FnScope ["fit", "t"] ["fit", "t"] (defScope sPla) := ⟨rfl, rfl, rfl, by decide +kernel, rfl, by decide +kernel, by decide +kernel⟩
theorem ok_pla {f CF CG fI : Addr} {fd fdI : FuncData} (F : Fun K "place_at" "place_at" sPla f fd) (TF : TxtF K mg CF) (TG : TxtG K mg CG) (M : Mk K CF fI) (GI : FnOk P w K mg base CX0 1 fI fdI ["self", "x", "y"] (spInitF CF)) (bI : Binds K fdI ["self", "x", "y"] [])
    (c : ∃ t, mg "FINE_PARTS" = some (.int 256 t)) (DR : Dn P w K mg base "rounded" 1 ["number", "by"] spRnd) : FnOk P w K mg base CX0 3 f fd ["fit", "t"] (spPla K CG) := by
  obtain ⟨_, c⟩ := c
  obtain ⟨_, _, mR, kR, bR, GR⟩ := DR.ex
  refine F.ok scPla (fun vs H Q E h => ?_) (fun cdv A outer s H vs Q E hr h => ?_)
  · obtain ⟨a, f, t, rfl, _⟩ := h
    rfl
  · obtain ⟨a, f, t, rfl, ⟨dp, hp⟩, hB, k⟩ := h
    have hr1 : Room 1 _ := hr.mono (by decide)
    have v1 := hB.vx
    have v2 := hB.vy
    refine ⟨_, pss_one (ps_ret (pe_make M GI hr rfl TF.mgC bI .nil pass0
        (pa_cons (pe_call GR hr1 rfl mR kR bR .nil pass0 (pa_cons (pe_op op_mul (pgi rfl c) (pe_op op_add (pe_fld (pv 0) rfl) (pe_op op_mul (pe_fld (pv 0) rfl) (pv 1)))) (pa_cons (pe_fld (pv 0) rfl) pa_nil)))
        (pa_cons (pe_call GR hr1 rfl mR kR bR .nil pass0 (pa_cons (pe_op op_mul (pgi rfl c) (pe_op op_add (pe_fld (pv 0) rfl) (pe_op op_mul (pe_fld (pv 0) rfl) (pv 1)))) (pa_cons (pe_fld (pv 0) rfl) pa_nil))) pa_nil)))), ?_⟩
    refine ⟨_, rfl, a, CG, dp, _, _, rfl, hp, TG.cl, TG.n1, gf_1 f, _, rfl, a, CG, dp, _, _, rfl, hp, TG.cl, TG.n2, gf_2 f, _, rfl, _, _, rfl, rfl, .inl ⟨by omega, by omega⟩, _, _, rfl, rfl, _, _, rfl, rfl, .inl ⟨by decide, by decide⟩, ?_⟩
    refine ⟨_, rfl, a, CG, dp, _, _, rfl, hp, TG.cl, TG.n5, gf_5 f, _, _, rfl, hB.pos, lt200 hB.over, ?_⟩
    refine ⟨_, rfl, a, CG, dp, _, _, rfl, hp, TG.cl, TG.n3, gf_3 f, _, rfl, a, CG, dp, _, _, rfl, hp, TG.cl, TG.n4, gf_4 f, _, rfl, _, _, rfl, rfl, .inl ⟨by omega, by omega⟩, _, _, rfl, rfl, _, _, rfl, rfl, .inl ⟨by decide, by decide⟩, ?_⟩
    refine ⟨_, rfl, a, CG, dp, _, _, rfl, hp, TG.cl, TG.n5, gf_5 f, _, _, rfl, hB.pos, lt200 hB.over, ?_⟩
    intro x dx nx nd ne
    refine ⟨x, dx, (f.place t).1, (f.place t).2, rfl, upd_same, fun H' ⟨dx', hA⟩ kp => ⟨rfl, ?_⟩⟩
    exact k H' x (Same.made nx nd kp) (xy_of TF hA)
abbrev sWor : Stmt := top 27
def spWor (K : PySem.W.Frag) (C CG : Addr) : Sp := fun vs H Q _ => ∃ (a l : Addr) (f : Sh72.Fit) (as : List Addr) (ps : List Point), vs = [.ref a, .ref l] ∧ FitAt CG H a f ∧ BF f ∧ SqL K H l (as.map V.ref) ∧ PtsAt C H as ps ∧ (∀ q ∈ ps, told q = true) ∧ ps.length ≤ 100 ∧ 0 < ps.length ∧
  ∀ H' : Hp, Same H H' → Q (.int ((f.worst ps : Nat) : Int)) H'
theorem scWor : FnScope ["fit", "points", "point"] ["fit", "points"] (defScope sWor) := ⟨rfl, rfl, rfl, by decide +kernel, rfl, by decide +kernel, by decide +kernel⟩
theorem ok_wor {f C CG : Addr} {fd : FuncData} (F : Fun K "worst_of" "worst_of" sWor f fd) (T : Txt K mg C) (zm : mg "max" = none) (DF : Dn P w K mg base "how_far" 1 ["a", "b"] (spFar2 K)) (DP : Dn P w K mg base "place_at" 3 ["fit", "t"] (spPla K CG)) (DN : Dn P w K mg base "finely" 3 ["point"] (spFin K C)) : FnOk P w K mg base CX0 4 f fd ["fit", "points"] (spWor K C CG) := by
  obtain ⟨_, _, mF, kF, bF, GF⟩ := DF.ex
  obtain ⟨_, _, mP, kP, bP, GP⟩ := DP.ex
  obtain ⟨_, _, mN, kN, bN, GN⟩ := DN.ex
  refine F.ok scWor (fun vs H Q E h => ?_) (fun cdv A outer s H vs Q E hr h => ?_)
  · obtain ⟨a, l, f, as, ps, rfl, _⟩ := h
    rfl
  · obtain ⟨a, l, f, as, ps, rfl, hf, hB, hL, hA, tq, hlen, hpos, k⟩ := h
    have hr1 : Room 1 _ := hr.mono (by decide)
    refine ⟨_, pss_one (ps_ret (pe_callB (cr_max rfl) (by rfl) zm (by decide +kernel) (pa_cons
      (pe_lc (own := [("point", 2)]) (g := gName 2) (tt := tYes) rfl scWor.nd (pi_list (pv 1)) (blkOk_by (N := ["fit", "points", "point"]) (sc := defScope sWor) (by decide +kernel)) (fun _ _ _ _ _ => pg_name (i := 2) scWor.nd rfl (Or.inl rfl)) (fun _ _ _ _ _ => pts_nil)
        (fun _ _ _ _ _ => pe_call GF hr1 rfl mF kF bF .nil pass0 (pa_cons (pe_call GP hr rfl mP kP bP .nil pass0 (pa_cons (pv 0) (pa_cons (pe_fldK K rfl (pv 2) rfl) pa_nil))) (pa_cons (pe_call GN hr rfl mN kN bN .nil pass0 (pa_cons (pv 2) pa_nil)) pa_nil)))) pa_nil))), ?_⟩
    refine ⟨_, rfl, l, rfl, ⟨_, hL⟩, fun D hD => ?_⟩
    refine lc_list (K := K) (a := l) (xs := as.map V.ref) (fun i H' => Same H H' ∧ H' D = some (.lst (((ps.take i).map fun p => ms (f.place p.t) p).map V.int))) ⟨same_new hD, upd_same⟩ (fun i H' _ ⟨z, _⟩ => z.seq hL) ?_ ?_
    · rintro i y H1 hi ⟨s1, h1⟩
      obtain ⟨c, hc, rfl⟩ := ref_at hi
      obtain ⟨p, hp, hpc⟩ := hA.at_ i c hc
      obtain ⟨dp, hpd⟩ := id hpc
      have tp := told_bd (tq p (List.mem_of_getElem? hp))
      obtain ⟨z1, z2⟩ := place_bd hB (t := p.t) (by omega)
      refine ⟨rfl, ?_⟩
      unfold tYes
      refine iteT ?_
      refine ⟨_, rfl, _, rfl, c, C, dp, _, _, rfl, s1 _ _ hpd, T.cl, T.nT, pf_t p, a, f, p.t, rfl, hf.same s1, hB, fun H2 o s2 ho => ?_⟩
      refine ⟨_, rfl, c, p, rfl, hpc.same (s1.trans s2), fun H3 o2 s3 ho2 => ?_⟩
      have s13 := (s1.trans s2).trans s3
      refine ⟨o, o2, _, _, _, _, rfl, ho.same s3, ho2, lt200 (B := 1267650600228229401496703205376 + 16777216) (by omega), lt200 (B := 1267650600228229401496703205376 + 16777216) (by omega), _, s3 _ _ (s2 _ _ h1), ?_, same_over s13 hD, ?_⟩
      · rw [List.length_map, List.length_map, List.length_take]
        exact small1000 (by omega)
      · rw [upd_same, take_snoc hp, List.map_append, List.map_append]
        rfl
    · rintro H1 ⟨s1, h1⟩
      rw [List.length_map, hA.len, List.take_length] at h1
      refine ⟨D, _, rfl, SqL.of h1, by rw [List.length_map]; exact hpos, fun m hm hle => ?_⟩
      rw [worst_is hm hle]
      exact k H1 s1
abbrev sMoF : Stmt := top 28
def spMoF (K : PySem.W.Frag) : Sp := fun vs H Q _ => ∃ (b : Addr) (ln : List Int), vs = [.ref b] ∧ SqL K H b (ln.map V.int) ∧ ln.length ≤ 240 ∧
  ∀ (H' : Hp) (p : Addr), H' p = some (.lst ((fitAns ln).map V.int)) → Q (.ref p) H'
theorem scMoF : FnScope ["l", "refused", "points", "fit", "told", "number"] ["l"] (defScope sMoF) := ⟨rfl, rfl, rfl, by decide +kernel, rfl, by decide +kernel, by decide +kernel⟩
theorem fit_ne {l : List Point} {f : Sh72.Fit} (h : Sh72.fit l = some f) : 0 < l.length := by
  cases l with
  | nil => cases h
  | cons a l => exact Nat.succ_pos _
theorem ok_mof {f C CG : Addr} {fd : FuncData} (F : Fun K "mo_fit" "mo_fit" sMoF f fd) (T : Txt K mg C) (TG : TxtG K mg CG) (cM : ∃ t, mg "MOST_POINTS_JOINED" = some (.int 48 t))
    (DF : Dn P w K mg base "refusal" 5 ["in_range", "most", "lists"] (spRef K)) (DR : Dn P w K mg base "read_points" 4 ["numbers"] (spRps K C)) (DL : Dn P w K mg base "long_word" 1 ["number"] spLw) (DI : Dn P w K mg base "fit_of" 3 ["points"] (spFit K C CG)) (DW : Dn P w K mg base "worst_of" 4 ["fit", "points"] (spWor K C CG)) : FnOk P w K mg base CX0 6 f fd ["l"] (spMoF K) := by
  obtain ⟨_, cM⟩ := cM
  obtain ⟨_, _, mF, kF, bF, GF⟩ := DF.ex
  obtain ⟨_, _, mR, kR, bR, GR⟩ := DR.ex
  obtain ⟨_, _, mL, kL, bL, GL⟩ := DL.ex
  obtain ⟨_, _, mI, kI, bI, GI⟩ := DI.ex
  obtain ⟨_, _, mW, kW, bW, GW⟩ := DW.ex
  refine F.ok scMoF (fun vs H Q E h => ?_) (fun cdv A outer s H vs Q E hr h => ?_)
  · obtain ⟨b, ln, rfl, _⟩ := h
    rfl
  · obtain ⟨b, ln, rfl, hL, hll, k⟩ := h
    have hr4 : Room 4 _ := hr.mono (by decide)
    have hr3 : Room 3 _ := hr.mono (by decide)
    have hr1 : Room 1 _ := hr.mono (by decide)
    refine ⟨_, pss_cons (ps_set (i := 1) scMoF.nd rfl (Or.inl rfl) (pe_call GF hr rfl mF kF bF .nil pass0 (pa_cons pe_bl (pa_cons (pgi rfl cM) (pa_cons (pe_lst (pa_cons (pv 0) pa_nil)) pa_nil)))))
      (pss_cons (ps_if (pt_cmpR op_lt (pv 1) pe_int (nomark _)) (pss_one (ps_ret (pe_lst (pa_cons (pv 1) pa_nil)))) pss_nil)
      (pss_cons (ps_set (i := 2) scMoF.nd rfl (Or.inl rfl) (pe_call GR hr4 rfl mR kR bR .nil pass0 (pa_cons (pv 0) pa_nil)))
      (pss_cons (ps_set (i := 3) scMoF.nd rfl (Or.inl rfl) (pe_call GI hr3 rfl mI kI bI .nil pass0 (pa_cons (pv 2) pa_nil)))
      (pss_cons (ps_if (pt_cmpR op_isN (pv 3) pe_non (nomark _)) (pss_one (ps_ret (pe_lst (pa_cons (pe_un un_neg pe_int) pa_nil)))) pss_nil)
      (pss_cons (ps_setLc (i := 4) (own := [("number", 5)]) (g := gName 5) (tt := tYes) rfl scMoF.nd rfl rfl (sw_true rfl rfl rfl (by decide +kernel)) (pi_tup (pe_tup (pa_cons (pe_fld (pv 3) rfl) (pa_cons (pe_fld (pv 3) rfl) (pa_cons (pe_fld (pv 3) rfl) (pa_cons (pe_fld (pv 3) rfl) (pa_cons (pe_fld (pv 3) rfl) pa_nil)))))))
          (blkOk_by (N := ["l", "refused", "points", "fit", "told", "number"]) (sc := defScope sMoF) (by decide +kernel)) (fun _ _ _ _ _ => pg_name (i := 5) scMoF.nd rfl (Or.inl rfl)) (fun _ _ _ _ _ => pts_nil)
          (fun _ _ _ _ _ => pe_call GL hr1 rfl mL kL bL .nil pass0 (pa_cons (pv 5) pa_nil)))
      (pss_one (ps_ret (pe_op op_cat (pe_op op_cat (pe_lst (pa_cons pe_int (pa_cons (pe_callB call_len_seq (by rfl) T.len PySem.boot_len (pa_cons (pv 4) pa_nil)) pa_nil))) (pv 4))
        (pe_lst (pa_cons pe_int (pa_cons (pe_call GL hr1 rfl mL kL bL .nil pass0 (pa_cons (pe_call GW hr4 rfl mW kW bW .nil pass0 (pa_cons (pv 3) (pa_cons (pv 2) pa_nil))) pa_nil)) pa_nil))))))))))), ?_⟩
    unfold fitAns at k
    refine ⟨_, rfl, (by show 1 ≤ sizeLine; decide), fun g hg => ?_⟩
    have s1 : Same H (upd H g (.lst [.ref b])) := same_new hg
    refine ⟨true, 48, g, [b], [ln], rfl, SqL.of upd_same, ⟨rfl, fun j c e => ?_⟩, (by show 1 ≤ 1000; decide), fun H2 s2 => ?_⟩
    · match j, e with
      | 0, e =>
        have e : b = c := Option.some.inj e
        subst e
        exact ⟨ln, rfl, s1.seq hL, by omega⟩
      | j + 1, e => simp at e
    have s12 : Same H H2 := s1.trans s2
    refine ⟨_, rfl, _, _, rfl, rfl, _, rfl, ?_⟩
    refine ite2 (fun h => ?_) (fun h => ?_)
    · have h := of_decide_eq_true h
      refine ⟨_, rfl, (by show 1 ≤ sizeLine; decide), fun p hp => ?_⟩
      refine k _ p ?_
      rw [upd_same]
      show _ = some (HO.lst ((if refu true 48 [ln] < 0 then [refu true 48 [ln]] else _).map V.int))
      rw [if_pos h]
      rfl
    · have h : ¬ refu true 48 [ln] < 0 := fun z => h (decide_eq_true z)
      obtain ⟨_, ok1, l48⟩ := refu_in1 h
      have h48 : (pts ln).length ≤ 48 := by rw [pts_len]; exact l48
      have k : ∀ (H' : Hp) (p : Addr), H' p = some (.lst ((match Sh72.fit (pts ln) with
          | none => [-4]
          | some f => [0, 5, long f.x0, long f.vx, long f.y0, long f.vy, long f.over, 1, long ((f.worst (pts ln) : Nat) : Int)] : List Int).map V.int)) → Q (.ref p) H' := by
        intro H' p e
        refine k H' p ?_
        rw [if_neg h]
        exact e
      refine ⟨_, rfl, b, ln, rfl, s12.seq hL, by omega, fun H3 lx ax s3 n3 h3 p3 => ?_⟩
      refine ⟨_, rfl, lx, ax, pts ln, rfl, SqL.of h3, p3, okL_all ok1, by omega, fun H4 v s4 hv => ?_⟩
      cases hf : Sh72.fit (pts ln) with
      | none =>
        rw [hf] at hv k
        have ev : v = V.non := hv
        subst ev
        refine ⟨_, rfl, rfl, _, rfl, iteT ⟨_, rfl, (by show 1 ≤ sizeLine; decide), fun p hp => ?_⟩⟩
        exact k _ p upd_same
      | some ft =>
        have hB := fit_bd (okL_all ok1) (by omega) hf
        have hne := fit_ne hf
        rw [hf] at hv k
        obtain ⟨o, rfl, ho⟩ : ∃ o, v = V.ref o ∧ FitAt CG H4 o ft := hv
        obtain ⟨dx, hod⟩ := id ho
        refine ⟨_, rfl, rfl, false, rfl, iteF ?_⟩
        refine ⟨_, rfl, o, CG, dx, _, _, rfl, hod, TG.cl, TG.n1, gf_1 ft, _, rfl, o, CG, dx, _, _, rfl, hod, TG.cl, TG.n2, gf_2 ft, _, rfl, o, CG, dx, _, _, rfl, hod, TG.cl, TG.n3, gf_3 ft, _, rfl, o, CG, dx, _, _, rfl, hod, TG.cl, TG.n4, gf_4 ft, _, rfl, o, CG, dx, _, _, rfl, hod, TG.cl, TG.n5, gf_5 ft, (by show 5 ≤ sizeLine; decide), fun tp htp => ?_⟩
        have s5 : Same H4 (upd H4 tp (.tup ([ft.x0, ft.vx, ft.y0, ft.vy, ft.over].map V.int))) := same_new htp
        refine ⟨tp, rfl, ⟨_, SqT.of upd_same⟩, fun D hD => ?_⟩
        refine lc_tup (K := K) (a := tp) (xs := [ft.x0, ft.vx, ft.y0, ft.vy, ft.over].map V.int) (fun i H' => Same (upd H4 tp (.tup ([ft.x0, ft.vx, ft.y0, ft.vy, ft.over].map V.int))) H' ∧ H' D = some (.lst ((([ft.x0, ft.vx, ft.y0, ft.vy, ft.over].take i).map long).map V.int))) ⟨same_new hD, upd_same⟩ (fun i H' _ ⟨z, _⟩ => SqT.of (z _ _ upd_same)) ?_ ?_
        · rintro i y H6 hi ⟨s6, h6⟩
          rw [List.getElem?_map] at hi
          obtain ⟨n, hn, rfl⟩ : ∃ n, [ft.x0, ft.vx, ft.y0, ft.vy, ft.over][i]? = some n ∧ y = V.int n := by
            cases e : [ft.x0, ft.vx, ft.y0, ft.vy, ft.over][i]? with
            | none => rw [e] at hi; cases hi
            | some n => rw [e] at hi; exact ⟨n, rfl, (Option.some.inj hi).symm⟩
          refine ⟨rfl, ?_⟩
          unfold tYes
          refine iteT ?_
          refine ⟨_, rfl, n, rfl, _, h6, ?_, same_over s6 hD, ?_⟩
          · rw [List.length_map, List.length_map, List.length_take]
            exact small1000 (Nat.le_trans (Nat.min_le_right _ _) (by show 5 ≤ 1000; decide))
          · rw [upd_same, take_snoc hn, List.map_append, List.map_append]
            rfl
        · rintro H6 ⟨s6, h6⟩
          have h6 : H6 D = some (.lst ([long ft.x0, long ft.vx, long ft.y0, long ft.vy, long ft.over].map V.int)) := h6
          have s46 := s5.trans s6
          refine ⟨_, rfl, D, _, rfl, .inl (SqL.of h6), (by show 2 ≤ sizeLine; decide), fun g1 hg1 => ?_⟩
          have hD1 : (upd H6 g1 (.lst [.int 0, .int 5])) D = some (.lst ([long ft.x0, long ft.vx, long ft.y0, long ft.vy, long ft.over].map V.int)) := by
            rw [upd_ne (ne_of_none h6 hg1)]
            exact h6
          refine ⟨_, rfl, g1, D, _, _, rfl, rfl, upd_same, hD1, (by show 2 + 5 ≤ sizeLine; decide), fun g2 hg2 => ?_⟩
          have s7 : Same H6 (upd H6 g1 (.lst [.int 0, .int 5])) := same_new hg1
          have s8 : Same (upd H6 g1 (.lst [.int 0, .int 5])) (upd (upd H6 g1 (.lst [.int 0, .int 5])) g2 (.lst ([.int 0, .int 5] ++ [long ft.x0, long ft.vx, long ft.y0, long ft.vy, long ft.over].map V.int))) := same_new hg2
          have s48 := (s46.trans s7).trans s8
          refine ⟨_, rfl, _, rfl, o, lx, ft, ax, pts ln, rfl, ho.same s48, hB, SqL.of (s48 _ _ (s4 _ _ h3)), (p3.same s4).same s48, okL_all ok1, by omega, hne, fun H9 s9 => ?_⟩
          refine ⟨_, rfl, (by show 2 ≤ sizeLine; decide), fun g3 hg3 => ?_⟩
          have hg29 := s9 g2 _ upd_same
          refine ⟨g2, g3, _, _, rfl, rfl, (by rw [upd_ne (ne_of_none hg29 hg3)]; exact hg29), upd_same, (by show 7 + 2 ≤ sizeLine; decide), fun p hp => ?_⟩
          exact k _ p upd_same
end
theorem all_mk {P : Program} {w : World} {K : PySem.W.Frag} {h : Heap} {mg : Str → Option Value} {fa C1 C2 C3 f1 f2 f3 f4 f5 f6 f7 f8 f9 f10 f11 f12 f13 f14 f15 f16 f17 f18 : Addr} (X : K.In h) (G : h.Ns mainGlobals mg) (hfa : mg "mo_fit" = some (.ref fa))
    {od1 an1 od2 an2 od3 an3 od4 an4 od5 an5 od6 an6 od7 an7 od8 an8 od9 an9 od10 an10 od11 an11 od12 an12 od13 an13 od14 an14 od15 an15 od16 an16 od17 an17 od18 an18 : Option Addr} {sl1 sl2 sl3 sl4 sl5 sl6 sl7 sl8 sl9 sl10 sl11 sl12 sl13 sl14 sl15 sl16 sl17 sl18 : Array (Option Value)} {oc1 kV1 dc1 pm1 cd1 ct1 oc2 kV2 dc2 pm2 cd2 ct2 oc3 kV3 dc3 pm3 cd3 ct3 oc4 kV4 dc4 pm4 cd4 ct4 oc5 kV5 dc5 pm5 cd5 ct5 oc6 kV6 dc6 pm6 cd6 ct6 oc7 kV7 dc7 pm7 cd7 ct7 oc8 kV8 dc8 pm8 cd8 ct8 oc9 kV9 dc9 pm9 cd9 ct9 oc10 kV10 dc10 pm10 cd10 ct10 oc11 kV11 dc11 pm11 cd11 ct11 oc12 kV12 dc12 pm12 cd12 ct12 oc13 kV13 dc13 pm13 cd13 ct13 oc14 kV14 dc14 pm14 cd14 ct14 oc15 kV15 dc15 pm15 cd15 ct15 oc16 kV16 dc16 pm16 cd16 ct16 oc17 kV17 dc17 pm17 cd17 ct17 oc18 kV18 dc18 pm18 cd18 ct18 : Value} {t0 t1 t2 t3 t4 t5 t6 t7 t8 : Tok}
    (aC1 : PySem.W.nsIn K mainGlobals "Point" = some (some (.ref C1)))
    (a1 : PySem.W.findIn K (.ref C1) "__init__" = some (some (.ref f1)))
    (i1 : PySem.W.isFn K (.ref f1) = true)
    (l1 : K.lookup f1 = some ⟨oc1, od1, .func (PySem.W.fnOf "__init__" "Point.__init__" (defArgs sInit) (defBody sInit) (defScope sInit) .none kV1 dc1 pm1 an1 cd1 ct1), sl1⟩)
    (c1 : PySem.W.codeIn K cd1 "Point.__init__" = true)
    (k1 : PySem.W.keepIn K (.ref f1) = true)
    (aC2 : PySem.W.nsIn K mainGlobals "FinePlace" = some (some (.ref C2)))
    (a2 : PySem.W.findIn K (.ref C2) "__init__" = some (some (.ref f2)))
    (i2 : PySem.W.isFn K (.ref f2) = true)
    (l2 : K.lookup f2 = some ⟨oc2, od2, .func (PySem.W.fnOf "__init__" "FinePlace.__init__" (defArgs sInitF) (defBody sInitF) (defScope sInitF) .none kV2 dc2 pm2 an2 cd2 ct2), sl2⟩)
    (c2 : PySem.W.codeIn K cd2 "FinePlace.__init__" = true)
    (k2 : PySem.W.keepIn K (.ref f2) = true)
    (aC3 : PySem.W.nsIn K mainGlobals "Fit" = some (some (.ref C3)))
    (a3 : PySem.W.findIn K (.ref C3) "__init__" = some (some (.ref f3)))
    (i3 : PySem.W.isFn K (.ref f3) = true)
    (l3 : K.lookup f3 = some ⟨oc3, od3, .func (PySem.W.fnOf "__init__" "Fit.__init__" (defArgs sInitG) (defBody sInitG) (defScope sInitG) .none kV3 dc3 pm3 an3 cd3 ct3), sl3⟩)
    (c3 : PySem.W.codeIn K cd3 "Fit.__init__" = true)
    (k3 : PySem.W.keepIn K (.ref f3) = true)
    (a4 : PySem.W.nsIn K mainGlobals "signed" = some (some (.ref f4)))
    (l4 : K.lookup f4 = some ⟨oc4, od4, .func (PySem.W.fnOf "signed" "signed" (defArgs sSg) (defBody sSg) (defScope sSg) .none kV4 dc4 pm4 an4 cd4 ct4), sl4⟩)
    (c4 : PySem.W.codeIn K cd4 "signed" = true)
    (k4 : PySem.W.keepIn K (.ref f4) = true)
    (a5 : PySem.W.nsIn K mainGlobals "count_points" = some (some (.ref f5)))
    (l5 : K.lookup f5 = some ⟨oc5, od5, .func (PySem.W.fnOf "count_points" "count_points" (defArgs sCnt) (defBody sCnt) (defScope sCnt) .none kV5 dc5 pm5 an5 cd5 ct5), sl5⟩)
    (c5 : PySem.W.codeIn K cd5 "count_points" = true)
    (k5 : PySem.W.keepIn K (.ref f5) = true)
    (a6 : PySem.W.nsIn K mainGlobals "read_point" = some (some (.ref f6)))
    (l6 : K.lookup f6 = some ⟨oc6, od6, .func (PySem.W.fnOf "read_point" "read_point" (defArgs sRp) (defBody sRp) (defScope sRp) .none kV6 dc6 pm6 an6 cd6 ct6), sl6⟩)
    (c6 : PySem.W.codeIn K cd6 "read_point" = true)
    (k6 : PySem.W.keepIn K (.ref f6) = true)
    (a7 : PySem.W.nsIn K mainGlobals "read_points" = some (some (.ref f7)))
    (l7 : K.lookup f7 = some ⟨oc7, od7, .func (PySem.W.fnOf "read_points" "read_points" (defArgs sRps) (defBody sRps) (defScope sRps) .none kV7 dc7 pm7 an7 cd7 ct7), sl7⟩)
    (c7 : PySem.W.codeIn K cd7 "read_points" = true)
    (k7 : PySem.W.keepIn K (.ref f7) = true)
    (a8 : PySem.W.nsIn K mainGlobals "is_as_told" = some (some (.ref f8)))
    (l8 : K.lookup f8 = some ⟨oc8, od8, .func (PySem.W.fnOf "is_as_told" "is_as_told" (defArgs sTold) (defBody sTold) (defScope sTold) .none kV8 dc8 pm8 an8 cd8 ct8), sl8⟩)
    (c8 : PySem.W.codeIn K cd8 "is_as_told" = true)
    (k8 : PySem.W.keepIn K (.ref f8) = true)
    (a9 : PySem.W.nsIn K mainGlobals "refusal" = some (some (.ref f9)))
    (l9 : K.lookup f9 = some ⟨oc9, od9, .func (PySem.W.fnOf "refusal" "refusal" (defArgs sRef) (defBody sRef) (defScope sRef) .none kV9 dc9 pm9 an9 cd9 ct9), sl9⟩)
    (c9 : PySem.W.codeIn K cd9 "refusal" = true)
    (k9 : PySem.W.keepIn K (.ref f9) = true)
    (a10 : PySem.W.nsIn K mainGlobals "rounded" = some (some (.ref f10)))
    (l10 : K.lookup f10 = some ⟨oc10, od10, .func (PySem.W.fnOf "rounded" "rounded" (defArgs sRnd) (defBody sRnd) (defScope sRnd) .none kV10 dc10 pm10 an10 cd10 ct10), sl10⟩)
    (c10 : PySem.W.codeIn K cd10 "rounded" = true)
    (k10 : PySem.W.keepIn K (.ref f10) = true)
    (a11 : PySem.W.nsIn K mainGlobals "long_word" = some (some (.ref f11)))
    (l11 : K.lookup f11 = some ⟨oc11, od11, .func (PySem.W.fnOf "long_word" "long_word" (defArgs sLw) (defBody sLw) (defScope sLw) .none kV11 dc11 pm11 an11 cd11 ct11), sl11⟩)
    (c11 : PySem.W.codeIn K cd11 "long_word" = true)
    (k11 : PySem.W.keepIn K (.ref f11) = true)
    (a12 : PySem.W.nsIn K mainGlobals "finely" = some (some (.ref f12)))
    (l12 : K.lookup f12 = some ⟨oc12, od12, .func (PySem.W.fnOf "finely" "finely" (defArgs sFin) (defBody sFin) (defScope sFin) .none kV12 dc12 pm12 an12 cd12 ct12), sl12⟩)
    (c12 : PySem.W.codeIn K cd12 "finely" = true)
    (k12 : PySem.W.keepIn K (.ref f12) = true)
    (a13 : PySem.W.nsIn K mainGlobals "how_far" = some (some (.ref f13)))
    (l13 : K.lookup f13 = some ⟨oc13, od13, .func (PySem.W.fnOf "how_far" "how_far" (defArgs sFar) (defBody sFar) (defScope sFar) .none kV13 dc13 pm13 an13 cd13 ct13), sl13⟩)
    (c13 : PySem.W.codeIn K cd13 "how_far" = true)
    (k13 : PySem.W.keepIn K (.ref f13) = true)
    (a14 : PySem.W.nsIn K mainGlobals "sum_of_products" = some (some (.ref f14)))
    (l14 : K.lookup f14 = some ⟨oc14, od14, .func (PySem.W.fnOf "sum_of_products" "sum_of_products" (defArgs sSop) (defBody sSop) (defScope sSop) .none kV14 dc14 pm14 an14 cd14 ct14), sl14⟩)
    (c14 : PySem.W.codeIn K cd14 "sum_of_products" = true)
    (k14 : PySem.W.keepIn K (.ref f14) = true)
    (a15 : PySem.W.nsIn K mainGlobals "fit_of" = some (some (.ref f15)))
    (l15 : K.lookup f15 = some ⟨oc15, od15, .func (PySem.W.fnOf "fit_of" "fit_of" (defArgs sFit) (defBody sFit) (defScope sFit) .none kV15 dc15 pm15 an15 cd15 ct15), sl15⟩)
    (c15 : PySem.W.codeIn K cd15 "fit_of" = true)
    (k15 : PySem.W.keepIn K (.ref f15) = true)
    (a16 : PySem.W.nsIn K mainGlobals "place_at" = some (some (.ref f16)))
    (l16 : K.lookup f16 = some ⟨oc16, od16, .func (PySem.W.fnOf "place_at" "place_at" (defArgs sPla) (defBody sPla) (defScope sPla) .none kV16 dc16 pm16 an16 cd16 ct16), sl16⟩)
    (c16 : PySem.W.codeIn K cd16 "place_at" = true)
    (k16 : PySem.W.keepIn K (.ref f16) = true)
    (a17 : PySem.W.nsIn K mainGlobals "worst_of" = some (some (.ref f17)))
    (l17 : K.lookup f17 = some ⟨oc17, od17, .func (PySem.W.fnOf "worst_of" "worst_of" (defArgs sWor) (defBody sWor) (defScope sWor) .none kV17 dc17 pm17 an17 cd17 ct17), sl17⟩)
    (c17 : PySem.W.codeIn K cd17 "worst_of" = true)
    (k17 : PySem.W.keepIn K (.ref f17) = true)
    (a18 : PySem.W.nsIn K mainGlobals "mo_fit" = some (some (.ref f18)))
    (l18 : K.lookup f18 = some ⟨oc18, od18, .func (PySem.W.fnOf "mo_fit" "mo_fit" (defArgs sMoF) (defBody sMoF) (defScope sMoF) .none kV18 dc18 pm18 an18 cd18 ct18), sl18⟩)
    (c18 : PySem.W.codeIn K cd18 "mo_fit" = true)
    (k18 : PySem.W.keepIn K (.ref f18) = true)
    (n0 : PySem.W.nsIn K mainGlobals "WORDS" = some (some (.int 4294967296 t0)))
    (n1 : PySem.W.nsIn K mainGlobals "LEAST_BELOW_ZERO" = some (some (.int 2147483648 t1)))
    (n2 : PySem.W.nsIn K mainGlobals "NUMBERS_A_POINT" = some (some (.int 4 t2)))
    (n3 : PySem.W.nsIn K mainGlobals "LAST_TIME" = some (some (.int 65535 t3)))
    (n4 : PySem.W.nsIn K mainGlobals "FARTHEST_PLACE" = some (some (.int 32768 t4)))
    (n5 : PySem.W.nsIn K mainGlobals "GREATEST_BRIGHTNESS" = some (some (.int 65536 t5)))
    (n6 : PySem.W.nsIn K mainGlobals "LONG_WORDS" = some (some (.int 18446744073709551616 t6)))
    (n7 : PySem.W.nsIn K mainGlobals "FINE_PARTS" = some (some (.int 256 t7)))
    (n8 : PySem.W.nsIn K mainGlobals "MOST_POINTS_JOINED" = some (some (.int 48 t8)))
    (z0 : PySem.W.nsIn K mainGlobals "len" = some none)
    (z1 : PySem.W.nsIn K mainGlobals "range" = some none)
    (z2 : PySem.W.nsIn K mainGlobals "abs" = some none)
    (z3 : PySem.W.nsIn K mainGlobals "any" = some none)
    (z4 : PySem.W.nsIn K mainGlobals "all" = some none)
    (z5 : PySem.W.nsIn K mainGlobals "max" = some none)
    (z6 : PySem.W.nsIn K mainGlobals "sum" = some none)
    (pg1 : PySem.W.plainGet K C1 Str.empty = true)
    (hd1 : PySem.W.hasDictIn K C1 = true)
    (po1 : PySem.W.plainOver K C1 = true)
    (sa1 : PySem.W.findIn K (.ref C1) "__setattr__" = some (some (.builtin "object.__setattr__")))
    (mk1 : PySem.W.makesIn K C1 = true)
    (kc1 : PySem.W.keepIn K (.ref C1) = true)
    (na1_0 : PySem.W.findIn K (.ref C1) "t" = some none)
    (na1_1 : PySem.W.findIn K (.ref C1) "x" = some none)
    (na1_2 : PySem.W.findIn K (.ref C1) "y" = some none)
    (na1_3 : PySem.W.findIn K (.ref C1) "brightness" = some none)
    (pg2 : PySem.W.plainGet K C2 Str.empty = true)
    (hd2 : PySem.W.hasDictIn K C2 = true)
    (po2 : PySem.W.plainOver K C2 = true)
    (sa2 : PySem.W.findIn K (.ref C2) "__setattr__" = some (some (.builtin "object.__setattr__")))
    (mk2 : PySem.W.makesIn K C2 = true)
    (kc2 : PySem.W.keepIn K (.ref C2) = true)
    (na2_0 : PySem.W.findIn K (.ref C2) "x" = some none)
    (na2_1 : PySem.W.findIn K (.ref C2) "y" = some none)
    (pg3 : PySem.W.plainGet K C3 Str.empty = true)
    (hd3 : PySem.W.hasDictIn K C3 = true)
    (po3 : PySem.W.plainOver K C3 = true)
    (sa3 : PySem.W.findIn K (.ref C3) "__setattr__" = some (some (.builtin "object.__setattr__")))
    (mk3 : PySem.W.makesIn K C3 = true)
    (kc3 : PySem.W.keepIn K (.ref C3) = true)
    (na3_0 : PySem.W.findIn K (.ref C3) "x0" = some none)
    (na3_1 : PySem.W.findIn K (.ref C3) "vx" = some none)
    (na3_2 : PySem.W.findIn K (.ref C3) "y0" = some none)
    (na3_3 : PySem.W.findIn K (.ref C3) "vy" = some none)
    (na3_4 : PySem.W.findIn K (.ref C3) "g" = some none) :
    ∃ fd : FuncData, (∀ (s : Shared) (us : List Value), us.length = (["l"] : List Str).length → BindsTo s fd ⟨us, []⟩ ((["l"] : List Str).zip us)) ∧ ∀ base : Heap, K.In base → base.Ns mainGlobals mg → FnOk P w K mg base CX0 6 fa fd ["l"] (spMoF K) := by
  have e := hfa.symm.trans (PySem.W.mg_of X G a18)
  cases e
  have T : Txt K mg C1 := ⟨⟨pg1, hd1, po1, sa1⟩, na1_0, na1_1, na1_2, na1_3, PySem.W.mg_of X G aC1, ⟨_, PySem.W.mg_of X G n0⟩, ⟨_, PySem.W.mg_of X G n1⟩, ⟨_, PySem.W.mg_of X G n2⟩, ⟨_, PySem.W.mg_of X G n3⟩, ⟨_, PySem.W.mg_of X G n4⟩, ⟨_, PySem.W.mg_of X G n5⟩, PySem.W.mg_none_of X G z0, PySem.W.mg_none_of X G z1, PySem.W.mg_none_of X G z2, PySem.W.mg_none_of X G z3, PySem.W.mg_none_of X G z4⟩
  have TF : TxtF K mg C2 := ⟨⟨pg2, hd2, po2, sa2⟩, na2_0, na2_1, PySem.W.mg_of X G aC2⟩
  have TG : TxtG K mg C3 := ⟨⟨pg3, hd3, po3, sa3⟩, na3_0, na3_1, na3_2, na3_3, na3_4, PySem.W.mg_of X G aC3⟩
  have F1 := fun_mk (st := sInit) l1 c1 k1
  have b1 := F1.binds (ps := ["self", "t", "x", "y", "brightness"]) fun _ _ _ _ _ _ us hl => match us, hl with | [_, _, _, _, _], _ => rfl
  have F2 := fun_mk (st := sInitF) l2 c2 k2
  have b2 := F2.binds (ps := ["self", "x", "y"]) fun _ _ _ _ _ _ us hl => match us, hl with | [_, _, _], _ => rfl
  have F3 := fun_mk (st := sInitG) l3 c3 k3
  have b3 := F3.binds (ps := ["self", "x0", "vx", "y0", "vy", "g"]) fun _ _ _ _ _ _ us hl => match us, hl with | [_, _, _, _, _, _], _ => rfl
  have F4 := fun_mk (st := sSg) l4 c4 k4
  have b4 := F4.binds (ps := ["word"]) fun _ _ _ _ _ _ us hl => match us, hl with | [_], _ => rfl
  have F5 := fun_mk (st := sCnt) l5 c5 k5
  have b5 := F5.binds (ps := ["numbers"]) fun _ _ _ _ _ _ us hl => match us, hl with | [_], _ => rfl
  have F6 := fun_mk (st := sRp) l6 c6 k6
  have b6 := F6.binds (ps := ["numbers", "k"]) fun _ _ _ _ _ _ us hl => match us, hl with | [_, _], _ => rfl
  have F7 := fun_mk (st := sRps) l7 c7 k7
  have b7 := F7.binds (ps := ["numbers"]) fun _ _ _ _ _ _ us hl => match us, hl with | [_], _ => rfl
  have F8 := fun_mk (st := sTold) l8 c8 k8
  have b8 := F8.binds (ps := ["point"]) fun _ _ _ _ _ _ us hl => match us, hl with | [_], _ => rfl
  have F9 := fun_mk (st := sRef) l9 c9 k9
  have b9 := F9.binds (ps := ["in_range", "most", "lists"]) fun _ _ _ _ _ _ us hl => match us, hl with | [_, _, _], _ => rfl
  have F10 := fun_mk (st := sRnd) l10 c10 k10
  have b10 := F10.binds (ps := ["number", "by"]) fun _ _ _ _ _ _ us hl => match us, hl with | [_, _], _ => rfl
  have F11 := fun_mk (st := sLw) l11 c11 k11
  have b11 := F11.binds (ps := ["number"]) fun _ _ _ _ _ _ us hl => match us, hl with | [_], _ => rfl
  have F12 := fun_mk (st := sFin) l12 c12 k12
  have b12 := F12.binds (ps := ["point"]) fun _ _ _ _ _ _ us hl => match us, hl with | [_], _ => rfl
  have F13 := fun_mk (st := sFar) l13 c13 k13
  have b13 := F13.binds (ps := ["a", "b"]) fun _ _ _ _ _ _ us hl => match us, hl with | [_, _], _ => rfl
  have F14 := fun_mk (st := sSop) l14 c14 k14
  have b14 := F14.binds (ps := ["us", "vs"]) fun _ _ _ _ _ _ us hl => match us, hl with | [_, _], _ => rfl
  have F15 := fun_mk (st := sFit) l15 c15 k15
  have b15 := F15.binds (ps := ["points"]) fun _ _ _ _ _ _ us hl => match us, hl with | [_], _ => rfl
  have F16 := fun_mk (st := sPla) l16 c16 k16
  have b16 := F16.binds (ps := ["fit", "t"]) fun _ _ _ _ _ _ us hl => match us, hl with | [_, _], _ => rfl
  have F17 := fun_mk (st := sWor) l17 c17 k17
  have b17 := F17.binds (ps := ["fit", "points"]) fun _ _ _ _ _ _ us hl => match us, hl with | [_, _], _ => rfl
  have F18 := fun_mk (st := sMoF) l18 c18 k18
  refine ⟨PySem.W.fnOf "mo_fit" "mo_fit" (defArgs sMoF) (defBody sMoF) (defScope sMoF) .none kV18 dc18 pm18 an18 cd18 ct18, fun s us hu => match us, hu with | [_], _ => .of_eq rfl, fun base _ _ => ?_⟩
  have M1 : Mk K C1 f1 := ⟨mk1, a1, i1, kc1⟩
  have G1 : FnOk P w K mg base CX0 1 f1 _ _ (spInit C1) := ok_init F1 T
  have M2 : Mk K C2 f2 := ⟨mk2, a2, i2, kc2⟩
  have G2 : FnOk P w K mg base CX0 1 f2 _ _ (spInitF C2) := ok_initF F2 TF
  have M3 : Mk K C3 f3 := ⟨mk3, a3, i3, kc3⟩
  have G3 : FnOk P w K mg base CX0 1 f3 _ _ (spInitG C3) := ok_initG F3 TG
  have D4 : Dn P w K mg base "signed" 1 _ _ := ⟨⟨_, _, PySem.W.mg_of X G a4, k4, b4, ok_sg F4 T⟩⟩
  have D5 : Dn P w K mg base "count_points" 1 _ _ := ⟨⟨_, _, PySem.W.mg_of X G a5, k5, b5, ok_cnt F5 T⟩⟩
  have D6 : Dn P w K mg base "read_point" 3 _ _ := ⟨⟨_, _, PySem.W.mg_of X G a6, k6, b6, ok_rp F6 T M1 G1 b1 D4⟩⟩
  have D7 : Dn P w K mg base "read_points" 4 _ _ := ⟨⟨_, _, PySem.W.mg_of X G a7, k7, b7, ok_rps F7 T D5 D6⟩⟩
  have D8 : Dn P w K mg base "is_as_told" 1 _ _ := ⟨⟨_, _, PySem.W.mg_of X G a8, k8, b8, ok_told F8 T⟩⟩
  have D9 : Dn P w K mg base "refusal" 5 _ _ := ⟨⟨_, _, PySem.W.mg_of X G a9, k9, b9, ok_ref F9 T D5 D7 D8⟩⟩
  have D10 : Dn P w K mg base "rounded" 1 _ _ := ⟨⟨_, _, PySem.W.mg_of X G a10, k10, b10, ok_rnd F10⟩⟩
  have D11 : Dn P w K mg base "long_word" 1 _ _ := ⟨⟨_, _, PySem.W.mg_of X G a11, k11, b11, ok_lw F11 ⟨_, PySem.W.mg_of X G n6⟩⟩⟩
  have D12 : Dn P w K mg base "finely" 3 _ _ := ⟨⟨_, _, PySem.W.mg_of X G a12, k12, b12, ok_fin F12 T TF M2 G2 b2 ⟨_, PySem.W.mg_of X G n7⟩⟩⟩
  have D13 : Dn P w K mg base "how_far" 1 _ _ := ⟨⟨_, _, PySem.W.mg_of X G a13, k13, b13, ok_far2 F13⟩⟩
  have D14 : Dn P w K mg base "sum_of_products" 1 _ _ := ⟨⟨_, _, PySem.W.mg_of X G a14, k14, b14, ok_sop F14 T (PySem.W.mg_none_of X G z6)⟩⟩
  have D15 : Dn P w K mg base "fit_of" 3 _ _ := ⟨⟨_, _, PySem.W.mg_of X G a15, k15, b15, ok_fit F15 T TG M3 G3 b3 (PySem.W.mg_none_of X G z6) D14⟩⟩
  have D16 : Dn P w K mg base "place_at" 3 _ _ := ⟨⟨_, _, PySem.W.mg_of X G a16, k16, b16, ok_pla F16 TF TG M2 G2 b2 ⟨_, PySem.W.mg_of X G n7⟩ D10⟩⟩
  have D17 : Dn P w K mg base "worst_of" 4 _ _ := ⟨⟨_, _, PySem.W.mg_of X G a17, k17, b17, ok_wor F17 T (PySem.W.mg_none_of X G z5) D13 D16 D12⟩⟩
  exact ok_mof F18 T TG ⟨_, PySem.W.mg_of X G n8⟩ D9 D7 D11 D15 D17
end Nm
open PySem PySem.W PyProof.Rows
set_option maxRecDepth 100000 in
set_option maxHeartbeats 0 in
theorem PySem.Challenge.cw_newandmoving_s06_mo_fit_holds : PySem.Challenge.rw_newandmoving_s06_mo_fit.Holds := by
  w_on; k_headS; (case hw => exact ⟨[.list []], by decide +kernel, by decide +kernel⟩)
  k_fillS
  refine L2.walk_specK (r := PySem.Challenge.rw_newandmoving_s06_mo_fit) (k := 6) (CX := L2.CX0) (ps := ["l"]) (sp := Nm.spMoF) (by decide +kernel) rfl rfl ⟨rfl, by decide, by decide⟩ (fun w h Y => PySem.W.kIn_of Y) ?F ?S (fun _ _ _ _ z => z)
  case F =>
    intro w mg fa h Y KX G hmg
    refine' Nm.all_mk KX G hmg ?aC1 ?a1 ?i1 ?l1 ?c1 ?k1 ?aC2 ?a2 ?i2 ?l2 ?c2 ?k2 ?aC3 ?a3 ?i3 ?l3 ?c3 ?k3 ?a4 ?l4 ?c4 ?k4 ?a5 ?l5 ?c5 ?k5 ?a6 ?l6 ?c6 ?k6 ?a7 ?l7 ?c7 ?k7 ?a8 ?l8 ?c8 ?k8 ?a9 ?l9 ?c9 ?k9 ?a10 ?l10 ?c10 ?k10 ?a11 ?l11 ?c11 ?k11 ?a12 ?l12 ?c12 ?k12 ?a13 ?l13 ?c13 ?k13 ?a14 ?l14 ?c14 ?k14 ?a15 ?l15 ?c15 ?k15 ?a16 ?l16 ?c16 ?k16 ?a17 ?l17 ?c17 ?k17 ?a18 ?l18 ?c18 ?k18 ?n0 ?n1 ?n2 ?n3 ?n4 ?n5 ?n6 ?n7 ?n8 ?z0 ?z1 ?z2 ?z3 ?z4 ?z5 ?z6 ?pg1 ?hd1 ?po1 ?sa1 ?mk1 ?kc1 ?na1_0 ?na1_1 ?na1_2 ?na1_3 ?pg2 ?hd2 ?po2 ?sa2 ?mk2 ?kc2 ?na2_0 ?na2_1 ?pg3 ?hd3 ?po3 ?sa3 ?mk3 ?kc3 ?na3_0 ?na3_1 ?na3_2 ?na3_3 ?na3_4
    (case aC1 => k_is)
    (case a1 => k_is)
    (case i1 => k_is)
    (case l1 => k_is)
    (case c1 => k_is)
    (case k1 => k_is)
    (case aC2 => k_is)
    (case a2 => k_is)
    (case i2 => k_is)
    (case l2 => k_is)
    (case c2 => k_is)
    (case k2 => k_is)
    (case aC3 => k_is)
    (case a3 => k_is)
    (case i3 => k_is)
    (case l3 => k_is)
    (case c3 => k_is)
    (case k3 => k_is)
    (case a4 => k_is)
    (case l4 => k_is)
    (case c4 => k_is)
    (case k4 => k_is)
    (case a5 => k_is)
    (case l5 => k_is)
    (case c5 => k_is)
    (case k5 => k_is)
    (case a6 => k_is)
    (case l6 => k_is)
    (case c6 => k_is)
    (case k6 => k_is)
    (case a7 => k_is)
    (case l7 => k_is)
    (case c7 => k_is)
    (case k7 => k_is)
    (case a8 => k_is)
    (case l8 => k_is)
    (case c8 => k_is)
    (case k8 => k_is)
    (case a9 => k_is)
    (case l9 => k_is)
    (case c9 => k_is)
    (case k9 => k_is)
    (case a10 => k_is)
    (case l10 => k_is)
    (case c10 => k_is)
    (case k10 => k_is)
    (case a11 => k_is)
    (case l11 => k_is)
    (case c11 => k_is)
    (case k11 => k_is)
    (case a12 => k_is)
    (case l12 => k_is)
    (case c12 => k_is)
    (case k12 => k_is)
    (case a13 => k_is)
    (case l13 => k_is)
    (case c13 => k_is)
    (case k13 => k_is)
    (case a14 => k_is)
    (case l14 => k_is)
    (case c14 => k_is)
    (case k14 => k_is)
    (case a15 => k_is)
    (case l15 => k_is)
    (case c15 => k_is)
    (case k15 => k_is)
    (case a16 => k_is)
    (case l16 => k_is)
    (case c16 => k_is)
    (case k16 => k_is)
    (case a17 => k_is)
    (case l17 => k_is)
    (case c17 => k_is)
    (case k17 => k_is)
    (case a18 => k_is)
    (case l18 => k_is)
    (case c18 => k_is)
    (case k18 => k_is)
    (case n0 => k_is)
    (case n1 => k_is)
    (case n2 => k_is)
    (case n3 => k_is)
    (case n4 => k_is)
    (case n5 => k_is)
    (case n6 => k_is)
    (case n7 => k_is)
    (case n8 => k_is)
    (case z0 => k_is)
    (case z1 => k_is)
    (case z2 => k_is)
    (case z3 => k_is)
    (case z4 => k_is)
    (case z5 => k_is)
    (case z6 => k_is)
    (case pg1 => k_is)
    (case hd1 => k_is)
    (case po1 => k_is)
    (case sa1 => k_is)
    (case mk1 => k_is)
    (case kc1 => k_is)
    (case na1_0 => k_is)
    (case na1_1 => k_is)
    (case na1_2 => k_is)
    (case na1_3 => k_is)
    (case pg2 => k_is)
    (case hd2 => k_is)
    (case po2 => k_is)
    (case sa2 => k_is)
    (case mk2 => k_is)
    (case kc2 => k_is)
    (case na2_0 => k_is)
    (case na2_1 => k_is)
    (case pg3 => k_is)
    (case hd3 => k_is)
    (case po3 => k_is)
    (case sa3 => k_is)
    (case mk3 => k_is)
    (case kc3 => k_is)
    (case na3_0 => k_is)
    (case na3_1 => k_is)
    (case na3_2 => k_is)
    (case na3_3 => k_is)
    (case na3_4 => k_is)
  case S =>
    intro K H xs a hO hwi hask hx
    obtain ⟨ln, u⟩ := a
    have qq : (((Codec.inLen 0 240 ln && ln.all (Codec.inInt 0 4294967295))) && true) = true := hwi
    simp only [Bool.and_eq_true, List.all_eq_true] at qq
    obtain ⟨⟨qlen, qall⟩, _⟩ := qq
    have hl : My.Wd ln := fun x hx => (Codec.inInt_iff.mp (qall x hx)).1
    cases hx with
    | cons gl hn =>
      cases hn
      cases gl with
      | lst hs ha =>
        have e2 := L2.ints_dw ln _ ha
        subst e2
        refine ⟨_, ln, rfl, hs, (Codec.inNat_iff.mp qlen).2, fun H' p hp => ?_⟩
        show L2.Dw K H' (.ref p) (.list ((PySh72.mo_fit ln).map WData.int))
        rw [My.fit_is hl]
        exact .lst (L2.SqL.of hp) (L2.dw_ints _)
#print axioms PySem.Challenge.cw_newandmoving_s06_mo_fit_holds


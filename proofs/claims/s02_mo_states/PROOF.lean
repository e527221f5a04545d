import PyProof.Rows.All
import Wide.All
import OpenK.AllK
import Wide.FinOn
import Open.SpecLaws
import KE.OsHead
import KE.OsGo
import HandS.Base
import HandS.Call
import HandS.List
import HandS.Comp
import HandS.Ends
import HandS.Spec
import HandS.Words
import HandS.WordsList
import HandS.Wide
import PySem.Challenge.RW_newandmoving_s02_mo_states
set_option Elab.async false
set_option linter.all false
set_option maxRecDepth 100000
set_option maxHeartbeats 2000000
namespace My
open Sh72 (Point)
/-! ### the program as plain functions -/
def sg (n : Int) : Int := if n < 2147483648 then n else n - 4294967296
def pt (ns : List Int) (j : Nat) : Point := ⟨sg (ns.getD (4 * j) 0), sg (ns.getD (4 * j + 1) 0), sg (ns.getD (4 * j + 2) 0), sg (ns.getD (4 * j + 3) 0)⟩
def pts (ns : List Int) : List Point := (List.range (ns.length / 4)).map (pt ns)
def ab (i : Int) : Int := if i < 0 then -i else i
def told (p : Point) : Bool := (decide (0 ≤ p.t) && decide (p.t ≤ 65535)) && (decide (ab p.x ≤ 32768) && (decide (ab p.y ≤ 32768) && decide (ab p.mag ≤ 65536)))
def d2 (p q : Point) : Int := (p.x - q.x) * (p.x - q.x) + (p.y - q.y) * (p.y - q.y)
def nst (p : Point) (o : Option Point) (q : Point) : Option Point := match o with
  | none => some q
  | some b => if d2 p q < d2 p b then some q else some b
def nearP (p : Point) (ps : List Point) : Option Point := ps.foldl (nst p) none
def within (r : Int) (p : Point) (ps : List Point) : Option Point := match nearP p ps with
  | none => none
  | some b => if r * r < d2 p b then none else some b
def many (most : Int) (ns : List Int) : Bool := decide (most < ((ns.length / 4 : Nat) : Int))
def okL (ns : List Int) : Bool := (pts ns).all told
def refu (b : Bool) (most : Int) (nss : List (List Int)) : Int := if (!b || nss.any (many most)) = true then -2 else if nss.all okL = true then 0 else -3
def newIx (r : Int) (before seen : List Point) : List Nat := (List.range seen.length).filter fun k => (within r (seen.getD k Sh72.nothing) before).isNone
def newAns (r : Int) (kn ln : List Int) : List Int :=
  let c := refu (decide (r ≤ 65535)) 256 [kn, ln]
  if c < 0 then [c] else (((newIx r (pts kn) (pts ln)).length : Nat) : Int) :: (newIx r (pts kn) (pts ln)).map fun k : Nat => (k : Int)
def stateOf (r d : Int) (p : Point) (seen : List Point) : Int := match within r p seen with
  | none => 3
  | some b => if d < p.mag - b.mag then 1 else if d < b.mag - p.mag then 2 else 0
def stAns (r d : Int) (kn ln : List Int) : List Int :=
  let c := refu (decide (r ≤ 65535) && decide (d ≤ 131072)) 256 [kn, ln]
  if c < 0 then [c] else 0 :: (pts kn).map fun p => stateOf r d p (pts ln)
/-! ### the mathematics -/
def Wd (ns : List Int) : Prop := ∀ x ∈ ns, 0 ≤ x
theorem sg_is {n : Int} (h : 0 ≤ n) : Sh72.signed32 n.toNat = sg n := by
  unfold Sh72.signed32 sg
  split <;> split <;> omega
theorem num_is {ns : List Int} (h : Wd ns) (i : Nat) : Sh72.signed32 (Sh72.num (Sh72Neutral.nats ns) i) = sg (ns.getD i 0) := by
  unfold Sh72.num Sh72Neutral.nats
  rw [List.getD_eq_getElem?_getD, List.getD_eq_getElem?_getD, List.getElem?_map]
  cases e : ns[i]? with
  | none => rfl
  | some x =>
    exact sg_is (h x (List.mem_of_getElem? e))
theorem len_nats (ns : List Int) : (Sh72Neutral.nats ns).length = ns.length := by
  unfold Sh72Neutral.nats
  exact List.length_map ..
theorem pts_is {ns : List Int} (h : Wd ns) : Sh72.points (Sh72Neutral.nats ns) = pts ns := by
  unfold Sh72.points pts
  rw [len_nats]
  refine List.map_congr_left fun j _ => ?_
  unfold pt
  rw [num_is h, num_is h, num_is h, num_is h]
theorem ab_is (i : Int) : (i.natAbs : Int) = ab i := by
  unfold ab
  split <;> omega
theorem fine_is (p : Point) : Sh72.fine p = told p := by
  unfold Sh72.fine told
  have hx := ab_is p.x
  have hy := ab_is p.y
  have hm := ab_is p.mag
  have e1 : decide (p.t < 65536) = decide (p.t ≤ 65535) := decide_eq_decide.mpr (by omega)
  have e2 : decide (p.x.natAbs ≤ 32768) = decide (ab p.x ≤ 32768) := decide_eq_decide.mpr (by omega)
  have e3 : decide (p.y.natAbs ≤ 32768) = decide (ab p.y ≤ 32768) := decide_eq_decide.mpr (by omega)
  have e4 : decide (p.mag.natAbs ≤ 65536) = decide (ab p.mag ≤ 65536) := decide_eq_decide.mpr (by omega)
  rw [e1, e2, e3, e4, Bool.and_assoc]
theorem fines_is (l : List Point) : Sh72.fines l = l.all told := by
  unfold Sh72.fines
  exact congrArg l.all (funext fine_is)
theorem sq_is (a : Int) : ((Sh72.square a : Nat) : Int) = a * a := by
  unfold Sh72.square
  have : 0 ≤ a * a := by
    rcases Int.le_total 0 a with h | h
    · exact Int.mul_nonneg h h
    · exact Int.mul_nonneg_of_nonpos_of_nonpos h h
  omega
theorem d2_is (p q : Point) : ((Sh72.dist2 p q : Nat) : Int) = d2 p q := by
  unfold Sh72.dist2 d2
  rw [Int.natCast_add, sq_is, sq_is]
theorem d2_comm (p q : Point) : d2 p q = d2 q p := by
  unfold d2
  have e1 : p.x - q.x = -(q.x - p.x) := by omega
  have e2 : p.y - q.y = -(q.y - p.y) := by omega
  rw [e1, e2, Int.neg_mul_neg, Int.neg_mul_neg]
theorem near_snoc (p q : Point) (ps : List Point) : nearP p (ps ++ [q]) = nst p (nearP p ps) q := by
  unfold nearP
  rw [List.foldl_append]
  rfl
theorem nst_some (p : Point) (o : Option Point) (q : Point) : ∃ b, nst p o q = some b := by
  unfold nst
  cases o with
  | none => exact ⟨_, rfl⟩
  | some b =>
    by_cases h : d2 p q < d2 p b
    · exact ⟨q, if_pos h⟩
    · exact ⟨b, if_neg h⟩
/-- the nearest: none of none, else one of them that is no farther than any -/
theorem near_min (p : Point) : ∀ (n : Nat) (ps : List Point), ps.length = n → (nearP p ps = none → ps = []) ∧ ∀ b, nearP p ps = some b → b ∈ ps ∧ ∀ q ∈ ps, d2 p b ≤ d2 p q
  | 0, ps, h => by
    have : ps = [] := List.length_eq_zero_iff.mp h
    subst this
    exact ⟨fun _ => rfl, fun b e => by cases e⟩
  | n + 1, ps, h => by
    obtain ⟨as, a, rfl⟩ : ∃ as a, ps = as ++ [a] := by
      have hne : ps ≠ [] := by intro e; rw [e] at h; cases h
      exact ⟨ps.dropLast, ps.getLast hne, (List.dropLast_concat_getLast hne).symm⟩
    have hl : as.length = n := by
      rw [List.length_append] at h
      simpa using h
    obtain ⟨i1, i2⟩ := near_min p n as hl
    rw [near_snoc]
    refine ⟨fun e => ?_, fun b e => ?_⟩
    · obtain ⟨b, hb⟩ := nst_some p (nearP p as) a
      rw [hb] at e
      cases e
    · cases hn : nearP p as with
      | none =>
        have := i1 hn
        subst this
        rw [hn] at e
        cases e
        exact ⟨by simp, fun q hq => by simp at hq; subst hq; exact Int.le_refl _⟩
      | some c =>
        rw [hn] at e
        obtain ⟨m1, m2⟩ := i2 c hn
        have e : (if d2 p a < d2 p c then some a else some c) = some b := e
        by_cases hd : d2 p a < d2 p c
        · rw [if_pos hd] at e
          cases e
          refine ⟨by simp, fun q hq => ?_⟩
          rcases List.mem_append.mp hq with hq | hq
          · exact Int.le_trans (Int.le_of_lt hd) (m2 q hq)
          · simp at hq
            subst hq
            exact Int.le_refl _
        · rw [if_neg hd] at e
          cases e
          refine ⟨List.mem_append_left _ m1, fun q hq => ?_⟩
          rcases List.mem_append.mp hq with hq | hq
          · exact m2 q hq
          · simp at hq
            subst hq
            exact Int.not_lt.mp hd
theorem within_none {r : Nat} (p : Point) (ps : List Point) : (within (r : Int) p ps).isNone = ps.all fun k => decide (r * r < Sh72.dist2 k p) := by
  obtain ⟨i1, i2⟩ := near_min p _ ps rfl
  unfold within
  cases hn : nearP p ps with
  | none =>
    rw [i1 hn]
    rfl
  | some b =>
    obtain ⟨m1, m2⟩ := i2 b hn
    have key : ∀ k, (r * r < Sh72.dist2 k p) ↔ ((r : Int) * (r : Int) < d2 p k) := fun k => by
      rw [d2_comm, ← d2_is, ← Int.natCast_mul]
      omega
    show (if (r : Int) * (r : Int) < d2 p b then (none : Option Point) else some b).isNone = _
    by_cases hd : (r : Int) * (r : Int) < d2 p b
    · rw [if_pos hd]
      symm
      show _ = true
      rw [List.all_eq_true]
      intro k hk
      exact decide_eq_true ((key k).mpr (Int.lt_of_lt_of_le hd (m2 k hk)))
    · rw [if_neg hd]
      symm
      show _ = false
      rw [List.all_eq_false]
      exact ⟨b, m1, by rw [decide_eq_true_eq]; exact fun h => hd ((key b).mp h)⟩
theorem newIx_is (r : Nat) (kn l : List Point) : newIx (r : Int) kn l = Sh72.new r kn l := by
  unfold newIx Sh72.new
  refine List.filter_congr fun i _ => ?_
  exact within_none _ _
/-! the refusals -/
theorem few_is (ns : List Int) : Sh72.few ((Sh72Neutral.nats ns).length / 4) = !many 256 ns := by
  rw [len_nats]
  unfold Sh72.few many
  rw [← decide_not]
  exact decide_eq_decide.mpr (by omega)
theorem refu2 (b : Bool) (kn ln : List Int) : refu b 256 [kn, ln] = if (b && (!many 256 kn && !many 256 ln)) = true then (if (okL kn && okL ln) = true then 0 else -3) else -2 := by
  unfold refu
  simp only [List.any_cons, List.any_nil, List.all_cons, List.all_nil, Bool.or_false, Bool.and_true]
  cases b <;> cases many 256 kn <;> cases many 256 ln <;> rfl
theorem call_new (r : Int) (kn ln : List Int) : Sh72Neutral.callOf [[0, r], kn, ln] = some (if (Sh72.few (((Sh72Neutral.nats ln).length / 4)) && (Sh72.few (((Sh72Neutral.nats kn).length / 4)) && decide ((r.toNat) ≤ 65535))) = true then .new (r.toNat) (Sh72.points (Sh72Neutral.nats kn)) (Sh72.points (Sh72Neutral.nats ln)) else .bad) := rfl
theorem new_is {r : Int} {kn ln : List Int} (hr : 0 ≤ r) (hk : Wd kn) (hl : Wd ln) : PySh72.mo_new r kn ln = newAns r kn ln := by
  unfold PySh72.mo_new Sh72Neutral.f newAns
  rw [call_new, few_is, few_is, pts_is hk, pts_is hl, refu2]
  obtain ⟨n, rfl⟩ := Int.eq_ofNat_of_zero_le hr
  have e0 : decide (((n : Int)).toNat ≤ 65535) = decide ((n : Int) ≤ 65535) := decide_eq_decide.mpr (by omega)
  rw [e0]
  have e1 : (!many 256 ln && (!many 256 kn && decide ((n : Int) ≤ 65535))) = (decide ((n : Int) ≤ 65535) && (!many 256 kn && !many 256 ln)) := by
    cases many 256 kn <;> cases many 256 ln <;> cases decide ((n : Int) ≤ 65535) <;> rfl
  rw [e1]
  cases (decide ((n : Int) ≤ 65535) && (!many 256 kn && !many 256 ln)) with
  | false => rfl
  | true =>
    show Sh72Neutral.told (Sh72.answer (.new _ _ _)) = _
    unfold Sh72.answer
    simp only [fines_is, if_true]
    unfold okL
    cases hA : (pts kn).all told <;> cases hB : (pts ln).all told
    · rfl
    · rfl
    · rfl
    · rw [newIx_is]
      rfl
theorem at_fold (p : Point) (l : List Point) : ∀ n, n + 1 ≤ l.length → nearP p (l.take (n + 1)) = some (Sh72.at_ l ((List.range (n + 1)).foldl (fun (b : Nat) (i : Nat) => if Sh72.dist2 p (Sh72.at_ l i) < Sh72.dist2 p (Sh72.at_ l b) then i else b) 0))
  | 0, h => by
    match l, h with
    | a :: l, _ =>
      show some a = some (Sh72.at_ (a :: l) (if Sh72.dist2 p (Sh72.at_ (a :: l) 0) < Sh72.dist2 p (Sh72.at_ (a :: l) 0) then 0 else 0))
      rw [if_neg (Nat.lt_irrefl _)]
      rfl
  | n + 1, h => by
    have ih := at_fold p l n (by omega)
    rw [List.range_succ, List.foldl_append]
    have e : l.take (n + 1 + 1) = l.take (n + 1) ++ [Sh72.at_ l (n + 1)] := by
      rw [List.take_add_one]
      unfold Sh72.at_
      rw [List.getD_eq_getElem?_getD, List.getElem?_eq_getElem (by omega)]
      rfl
    rw [e, near_snoc, ih]
    generalize (List.range (n + 1)).foldl _ 0 = b
    show (if d2 p (Sh72.at_ l (n + 1)) < d2 p (Sh72.at_ l b) then some (Sh72.at_ l (n + 1)) else some (Sh72.at_ l b)) = some (Sh72.at_ l (if Sh72.dist2 p (Sh72.at_ l (n + 1)) < Sh72.dist2 p (Sh72.at_ l b) then n + 1 else b))
    rw [← d2_is, ← d2_is]
    by_cases hd : Sh72.dist2 p (Sh72.at_ l (n + 1)) < Sh72.dist2 p (Sh72.at_ l b)
    · rw [if_pos hd, if_pos (by omega)]
    · rw [if_neg hd, if_neg (by omega)]
theorem state_is (r d : Nat) (p : Point) (l : List Point) : stateOf (r : Int) (d : Int) p l = ((Sh72.state r d p l : Nat) : Int) := by
  unfold stateOf within Sh72.state
  cases hl : l with
  | nil => rfl
  | cons a l' =>
    have e := at_fold p l l'.length (by rw [hl]; exact Nat.le_refl _)
    rw [List.take_of_length_le (by rw [hl]; exact Nat.le_refl _)] at e
    have e2 : Sh72.nearest p l = some ((List.range l.length).foldl (fun (b : Nat) (i : Nat) => if Sh72.dist2 p (Sh72.at_ l i) < Sh72.dist2 p (Sh72.at_ l b) then i else b) 0) := by
      rw [hl]
      rfl
    have e3 : l'.length + 1 = l.length := by rw [hl]; rfl
    rw [e3] at e
    rw [← hl, e, e2]
    generalize (List.range l.length).foldl _ 0 = i
    show (match (if (r : Int) * (r : Int) < d2 p (Sh72.at_ l i) then none else some (Sh72.at_ l i)) with | none => 3 | some b => if (d : Int) < p.mag - b.mag then 1 else if (d : Int) < b.mag - p.mag then 2 else 0) = ((if r * r < Sh72.dist2 p (Sh72.at_ l i) then 3 else if d < ((Sh72.at_ l i).mag - p.mag).natAbs then (if (Sh72.at_ l i).mag < p.mag then 1 else 2) else 0 : Nat) : Int)
    generalize Sh72.at_ l i = q
    rw [← d2_is, ← Int.natCast_mul]
    by_cases h1 : r * r < Sh72.dist2 p q
    · rw [if_pos h1, if_pos (by omega)]
      rfl
    · rw [if_neg h1, if_neg (by omega)]
      show (if (d : Int) < p.mag - q.mag then (1 : Int) else if (d : Int) < q.mag - p.mag then 2 else 0) = _
      split <;> split <;> (try split) <;> (try split) <;> omega
theorem call_states (r d : Int) (kn ln : List Int) : Sh72Neutral.callOf [[1, r, d], kn, ln] = some (if (Sh72.few (((Sh72Neutral.nats ln).length / 4)) && (Sh72.few (((Sh72Neutral.nats kn).length / 4)) && (decide ((r.toNat) ≤ 65535) && decide ((d.toNat) ≤ 131072)))) = true then .states (r.toNat) (d.toNat) (Sh72.points (Sh72Neutral.nats kn)) (Sh72.points (Sh72Neutral.nats ln)) else .bad) := rfl
theorem states_is {r d : Int} {kn ln : List Int} (hr : 0 ≤ r) (hd : 0 ≤ d) (hk : Wd kn) (hl : Wd ln) : PySh72.mo_states r d kn ln = stAns r d kn ln := by
  unfold PySh72.mo_states Sh72Neutral.f stAns
  rw [call_states, few_is, few_is, pts_is hk, pts_is hl, refu2]
  obtain ⟨n, rfl⟩ := Int.eq_ofNat_of_zero_le hr
  obtain ⟨m, rfl⟩ := Int.eq_ofNat_of_zero_le hd
  have e0 : decide (((n : Int)).toNat ≤ 65535) = decide ((n : Int) ≤ 65535) := decide_eq_decide.mpr (by omega)
  have e2 : decide (((m : Int)).toNat ≤ 131072) = decide ((m : Int) ≤ 131072) := decide_eq_decide.mpr (by omega)
  rw [e0, e2]
  generalize (decide ((n : Int) ≤ 65535) && decide ((m : Int) ≤ 131072)) = c
  have e1 : (!many 256 ln && (!many 256 kn && c)) = (c && (!many 256 kn && !many 256 ln)) := by
    cases many 256 kn <;> cases many 256 ln <;> cases c <;> rfl
  rw [e1]
  cases (c && (!many 256 kn && !many 256 ln)) with
  | false => rfl
  | true =>
    show Sh72Neutral.told (Sh72.answer (.states _ _ _ _)) = _
    unfold Sh72.answer
    simp only [fines_is, if_true]
    unfold okL
    cases hA : (pts kn).all told <;> cases hB : (pts ln).all told
    · rfl
    · rfl
    · rfl
    · show (0 : Int) :: Sh72Neutral.ints ((pts kn).map fun k => Sh72.state n m k (pts ln)) = 0 :: _
      unfold Sh72Neutral.ints
      rw [List.map_map]
      refine congrArg (List.cons 0) (List.map_congr_left fun p _ => ?_)
      exact (state_is n m p (pts ln)).symm
end My
namespace Nm
open PySem PySem.Spec PyProof.Rows L2
open PySem.W (Codec)
open Sh72 (Point)
open My
/-! ### heaps and points -/
theorem same_new {H : Hp} {l : Addr} {o : HO} (n : H l = none) : Same H (upd H l o) := fun b u e => by
  rw [upd_ne (ne_of_none e n)]
  exact e
theorem same_over {H H' : Hp} {l : Addr} {o : HO} (s : Same H H') (n : H l = none) : Same H (upd H' l o) := fun b u e => by
  rw [upd_ne (ne_of_none e n)]
  exact s b u e
def pf (p : Point) : List (Str × V) := putF "brightness" (.int p.mag) (putF "y" (.int p.y) (putF "x" (.int p.x) (putF "t" (.int p.t) [])))
theorem pf_b (p : Point) : (pf p).lookup ("brightness" : Str) = some (.int p.mag) := by
  unfold pf
  rw [lookup_putF, if_pos rfl]
theorem pf_y (p : Point) : (pf p).lookup ("y" : Str) = some (.int p.y) := by
  unfold pf
  rw [lookup_putF, if_neg (by decide +kernel), lookup_putF, if_pos rfl]
theorem pf_x (p : Point) : (pf p).lookup ("x" : Str) = some (.int p.x) := by
  unfold pf
  rw [lookup_putF, if_neg (by decide +kernel), lookup_putF, if_neg (by decide +kernel), lookup_putF, if_pos rfl]
theorem pf_t (p : Point) : (pf p).lookup ("t" : Str) = some (.int p.t) := by
  unfold pf
  rw [lookup_putF, if_neg (by decide +kernel), lookup_putF, if_neg (by decide +kernel), lookup_putF, if_neg (by decide +kernel), lookup_putF, if_pos rfl]
theorem flt {f : Str} {v : V} {fs : List (Str × V)} {n : Nat} (h : fs.length ≤ n) : (putF f v fs).length ≤ n + 1 := Nat.le_trans (length_putF f v fs) (Nat.succ_le_succ h)
/-- a Point stands at a -/
def PtAt (C : Addr) (H : Hp) (a : Addr) (p : Point) : Prop := ∃ dx, H a = some (.ins C dx (pf p))
theorem PtAt.same {C a : Addr} {H H' : Hp} {p : Point} (h : PtAt C H a p) (s : Same H H') : PtAt C H' a p := let ⟨dx, e⟩ := h; ⟨dx, s _ _ e⟩
theorem PtAt.lst {C a D : Addr} {H : Hp} {p : Point} {xs : List V} {o : HO} (h : PtAt C H a p) (hD : H D = some (.lst xs)) : PtAt C (upd H D o) a p := by
  obtain ⟨dx, e⟩ := h
  refine ⟨dx, ?_⟩
  rw [upd_ne (ne_of e hD (by intro z; cases z))]
  exact e
/-- Points stand at as -/
structure PtsAt (C : Addr) (H : Hp) (as : List Addr) (ps : List Point) : Prop where
  len : as.length = ps.length
  at_ : ∀ (j : Nat) (a : Addr), as[j]? = some a → ∃ p, ps[j]? = some p ∧ PtAt C H a p
theorem PtsAt.of {C : Addr} {H H' : Hp} {as : List Addr} {ps : List Point} (h : PtsAt C H as ps) (f : ∀ a p, PtAt C H a p → PtAt C H' a p) : PtsAt C H' as ps :=
  ⟨h.len, fun j a e => let ⟨p, e1, e2⟩ := h.at_ j a e; ⟨p, e1, f a p e2⟩⟩
theorem PtsAt.same {C : Addr} {H H' : Hp} {as : List Addr} {ps : List Point} (h : PtsAt C H as ps) (s : Same H H') : PtsAt C H' as ps := h.of fun _ _ e => e.same s
theorem PtsAt.nil {C : Addr} {H : Hp} : PtsAt C H [] [] := ⟨rfl, fun j a e => by simp at e⟩
theorem PtsAt.snoc {C : Addr} {H : Hp} {as : List Addr} {ps : List Point} {a : Addr} {p : Point} (h : PtsAt C H as ps) (k : PtAt C H a p) : PtsAt C H (as ++ [a]) (ps ++ [p]) := by
  refine ⟨by rw [List.length_append, List.length_append, h.len]; rfl, fun j b e => ?_⟩
  rw [List.getElem?_append] at e
  by_cases hj : j < as.length
  · rw [if_pos hj] at e
    obtain ⟨q, e1, e2⟩ := h.at_ j b e
    exact ⟨q, by rw [List.getElem?_append, if_pos (by rw [← h.len]; exact hj)]; exact e1, e2⟩
  · rw [if_neg hj] at e
    have hz : j - as.length = 0 := by
      cases hq : j - as.length with
      | zero => rfl
      | succ m => rw [hq] at e; simp at e
    rw [hz] at e
    have eb : a = b := Option.some.inj e
    subst eb
    refine ⟨p, ?_, k⟩
    rw [List.getElem?_append, if_neg (by rw [← h.len]; exact hj), ← h.len, hz]
    rfl
theorem PtsAt.has {C : Addr} {H : Hp} {as : List Addr} {ps : List Point} (h : PtsAt C H as ps) {j : Nat} {p : Point} (e : ps[j]? = some p) : ∃ a, as[j]? = some a ∧ PtAt C H a p := by
  have hj : j < as.length := by rw [h.len]; exact (List.getElem?_eq_some_iff.mp e).1
  obtain ⟨q, e1, e2⟩ := h.at_ j as[j] (List.getElem?_eq_getElem hj)
  rw [e] at e1
  cases e1
  exact ⟨_, List.getElem?_eq_getElem hj, e2⟩
theorem ref_at {as : List Addr} {i : Nat} {x : V} (h : (as.map V.ref)[i]? = some x) : ∃ a, as[i]? = some a ∧ x = V.ref a := by
  rw [List.getElem?_map] at h
  cases e : as[i]? with
  | none => rw [e] at h; cases h
  | some a => rw [e] at h; exact ⟨a, rfl, (Option.some.inj h).symm⟩
theorem int_at {ns : List Int} {j : Nat} (h : j < ns.length) : (ns.map V.int)[j]? = some (V.int (ns.getD j 0)) := by
  rw [List.getElem?_map, List.getD_eq_getElem?_getD, List.getElem?_eq_getElem h]
  rfl
theorem take_snoc {α : Type} {l : List α} {i : Nat} {x : α} (h : l[i]? = some x) : l.take (i + 1) = l.take i ++ [x] := by
  rw [List.take_add_one, h]
  rfl
/-- a whole number of the module's top -/
theorem pgi {X : Cx} {x : Str} {i : Int} {t : Tok} {pos : Pos} (hg : Gl X x) (hm : X.mg x = some (.int i t)) (hd : (x == ("__debug__" : Str)) = false := by decide) : PE X (.Name x pos) (tC (.int i)) := pe_glob (v := .int i) hg hm ⟨t, rfl⟩ hd
/-! ### the text by places -/
def top (i : Nat) : Stmt := PySem.Challenge.pw_newandmoving_s02_mo_states.main.body.getD i (.Pass ⟨0, 0, 0, 0⟩)
abbrev sInit : Stmt := inClass (top 7) 0
abbrev sSg : Stmt := top 8
abbrev sCnt : Stmt := top 9
abbrev sRp : Stmt := top 10
abbrev sRps : Stmt := top 11
abbrev sTold : Stmt := top 12
abbrev sRef : Stmt := top 13
/-! ### the promises -/
def spInit (C : Addr) : Sp := fun vs H Q _ => ∃ (x dx : Addr) (p : Point), vs = [.ref x, .int p.t, .int p.x, .int p.y, .int p.mag] ∧ H x = some (.ins C dx []) ∧ ∀ H' : Hp, PtAt C H' x p → (∀ b o, H b = some o → b ≠ x → H' b = some o) → Q .non H'
def spSg : Sp := fun vs H Q _ => ∃ n : Int, vs = [.int n] ∧ Q (.int (sg n)) H
def spCnt (K : PySem.W.Frag) : Sp := fun vs H Q _ => ∃ (a : Addr) (ns : List Int), vs = [.ref a] ∧ SqL K H a (ns.map V.int) ∧ Q (.int ((ns.length / 4 : Nat) : Int)) H
def spRp (K : PySem.W.Frag) (C : Addr) : Sp := fun vs H Q _ => ∃ (a : Addr) (ns : List Int) (j : Nat), vs = [.ref a, .int (j : Int)] ∧ SqL K H a (ns.map V.int) ∧ 4 * j + 3 < ns.length ∧ ns.length ≤ 1100 ∧
  ∀ (H' : Hp) (x : Addr), Same H H' → H x = none → PtAt C H' x (pt ns j) → Q (.ref x) H'
def spRps (K : PySem.W.Frag) (C : Addr) : Sp := fun vs H Q _ => ∃ (a : Addr) (ns : List Int), vs = [.ref a] ∧ SqL K H a (ns.map V.int) ∧ ns.length ≤ 1100 ∧
  ∀ (H' : Hp) (l : Addr) (as : List Addr), Same H H' → H l = none → H' l = some (.lst (as.map V.ref)) → PtsAt C H' as (pts ns) → Q (.ref l) H'
def spTold (C : Addr) : Sp := fun vs H Q _ => ∃ (a : Addr) (p : Point), vs = [.ref a] ∧ PtAt C H a p ∧ Q (.bl (told p)) H
/-- lists of words stand at as -/
structure WsAt (K : PySem.W.Frag) (H : Hp) (as : List Addr) (nss : List (List Int)) : Prop where
  len : as.length = nss.length
  at_ : ∀ (j : Nat) (a : Addr), as[j]? = some a → ∃ ns, nss[j]? = some ns ∧ SqL K H a (ns.map V.int) ∧ ns.length ≤ 1100
def spRef (K : PySem.W.Frag) : Sp := fun vs H Q _ => ∃ (b : Bool) (most : Int) (ls : Addr) (as : List Addr) (nss : List (List Int)), vs = [.bl b, .int most, .ref ls] ∧ SqL K H ls (as.map V.ref) ∧ WsAt K H as nss ∧ nss.length ≤ 1000 ∧
  ∀ H' : Hp, Same H H' → Q (.int (refu b most nss)) H'
def spFar (C : Addr) : Sp := fun vs H Q _ => ∃ (a b : Addr) (p q : Point), vs = [.ref a, .ref b] ∧ PtAt C H a p ∧ PtAt C H b q ∧ told p = true ∧ told q = true ∧ Q (.int (d2 p q)) H
/-- v stands for the best point so far -/
def Best (C : Addr) (H : Hp) (v : V) (o : Option Point) : Prop := match o with
  | none => v = .non
  | some q => ∃ b, v = .ref b ∧ PtAt C H b q
def spNear (K : PySem.W.Frag) (C : Addr) : Sp := fun vs H Q _ => ∃ (a l : Addr) (p : Point) (as : List Addr) (ps : List Point), vs = [.ref a, .ref l] ∧ PtAt C H a p ∧ SqL K H l (as.map V.ref) ∧ PtsAt C H as ps ∧ told p = true ∧ (∀ q ∈ ps, told q = true) ∧
  ∀ v, Best C H v (nearP p ps) → Q v H
def spWi (K : PySem.W.Frag) (C : Addr) : Sp := fun vs H Q _ => ∃ (r : Int) (a l : Addr) (p : Point) (as : List Addr) (ps : List Point), vs = [.int r, .ref a, .ref l] ∧ 0 ≤ r ∧ r ≤ 65535 ∧ PtAt C H a p ∧ SqL K H l (as.map V.ref) ∧ PtsAt C H as ps ∧ told p = true ∧ (∀ q ∈ ps, told q = true) ∧
  ∀ v, Best C H v (within r p ps) → Q v H
structure Txt (K : PySem.W.Frag) (mg : Str → Option Value) (C : Addr) : Prop where
  cl : Cls K C
  nT : NoAttr K C "t"
  nX : NoAttr K C "x"
  nY : NoAttr K C "y"
  nB : NoAttr K C "brightness"
  mgC : mg "Point" = some (.ref C)
  cW : ∃ t, mg "WORDS" = some (.int 4294967296 t)
  cL : ∃ t, mg "LEAST_BELOW_ZERO" = some (.int 2147483648 t)
  c4 : ∃ t, mg "NUMBERS_A_POINT" = some (.int 4 t)
  cT : ∃ t, mg "LAST_TIME" = some (.int 65535 t)
  cP : ∃ t, mg "FARTHEST_PLACE" = some (.int 32768 t)
  cB : ∃ t, mg "GREATEST_BRIGHTNESS" = some (.int 65536 t)
  len : mg "len" = none
  range : mg "range" = none
  abs : mg "abs" = none
  any : mg "any" = none
  all : mg "all" = none
/-- a def that callers call: where it stands, how it binds, what it promises -/
structure Dn (P : Program) (w : World) (K : PySem.W.Frag) (mg : Str → Option Value) (base : Heap) (x : Str) (k : Nat) (ps : List Str) (sp : Sp) : Prop where
  ex : ∃ (f : Addr) (fd : FuncData), mg x = some (.ref f) ∧ PySem.W.keepIn K (.ref f) = true ∧ Binds K fd ps [] ∧ FnOk P w K mg base CX0 k f fd ps sp
section
variable {P : Program} {w : World} {K : PySem.W.Frag} {mg : Str → Option Value} {base : Heap}
theorem scInit : FnScope ["self", "t", "x", "y", "brightness"] ["self", "t", "x", "y", "brightness"] (defScope sInit) := ⟨rfl, rfl, rfl, by decide +kernel, rfl, by decide +kernel, by decide +kernel⟩
theorem ok_init {f C : Addr} {fd : FuncData} (F : Fun K "__init__" "Point.__init__" sInit f fd) (T : Txt K mg C) : FnOk P w K mg base CX0 1 f fd ["self", "t", "x", "y", "brightness"] (spInit C) := by
  refine F.ok scInit (fun vs H Q E h => ?_) (fun cdv A outer s H vs Q E hr h => ?_)
  · obtain ⟨x, dx, p, rfl, _⟩ := h
    rfl
  · obtain ⟨x, dx, p, rfl, hp, k⟩ := h
    refine ⟨_, pss_cons (ps_fld (pv 0) (pv 1) rfl) (pss_cons (ps_fld (pv 0) (pv 2) rfl) (pss_cons (ps_fld (pv 0) (pv 3) rfl) (pss_one (ps_fld (pv 0) (pv 4) rfl)))), ?_⟩
    refine ⟨_, rfl, _, rfl, x, C, dx, [], rfl, hp, T.cl, T.nT, (by show 0 < 1000; decide), ?_⟩
    refine ⟨_, rfl, _, rfl, x, C, dx, _, rfl, upd_same, T.cl, T.nX, Nat.lt_of_le_of_lt (flt (Nat.zero_le 0)) (by decide), ?_⟩
    refine ⟨_, rfl, _, rfl, x, C, dx, _, rfl, upd_same, T.cl, T.nY, Nat.lt_of_le_of_lt (flt (flt (Nat.zero_le 0))) (by decide), ?_⟩
    refine ⟨_, rfl, _, rfl, x, C, dx, _, rfl, upd_same, T.cl, T.nB, Nat.lt_of_le_of_lt (flt (flt (flt (Nat.zero_le 0)))) (by decide), ?_⟩
    exact k _ ⟨dx, upd_same⟩ fun b o e hb => by rw [upd_ne hb, upd_ne hb, upd_ne hb, upd_ne hb]; exact e
theorem scSg : FnScope ["word"] ["word"] (defScope sSg) := ⟨rfl, rfl, rfl, by decide +kernel, rfl, by decide +kernel, by decide +kernel⟩
theorem ok_sg {f C : Addr} {fd : FuncData} (F : Fun K "signed" "signed" sSg f fd) (T : Txt K mg C) : FnOk P w K mg base CX0 1 f fd ["word"] spSg := by
  obtain ⟨_, cW⟩ := T.cW
  obtain ⟨_, cL⟩ := T.cL
  refine F.ok scSg (fun vs H Q E h => ?_) (fun cdv A outer s H vs Q E hr h => ?_)
  · obtain ⟨n, rfl, _⟩ := h
    rfl
  · obtain ⟨n, rfl, k⟩ := h
    refine ⟨_, pss_cons (ps_if (pt_cmpR op_lt (pv 0) (pgi rfl cL) (nomark _)) (pss_one (ps_ret (pv 0))) pss_nil) (pss_one (ps_ret (pe_op op_sub (pv 0) (pgi rfl cW)))), ?_⟩
    unfold sg at k
    refine ⟨_, rfl, _, _, rfl, rfl, _, rfl, ?_⟩
    refine ite2 (fun h => ?_) (fun h => ?_)
    · rw [if_pos (of_decide_eq_true h)] at k
      exact ⟨_, rfl, k⟩
    · rw [if_neg (fun q => h (decide_eq_true q))] at k
      exact ⟨_, rfl, _, _, rfl, rfl, k⟩
theorem scCnt : FnScope ["numbers"] ["numbers"] (defScope sCnt) := ⟨rfl, rfl, rfl, by decide +kernel, rfl, by decide +kernel, by decide +kernel⟩
theorem ok_cnt {f C : Addr} {fd : FuncData} (F : Fun K "count_points" "count_points" sCnt f fd) (T : Txt K mg C) : FnOk P w K mg base CX0 1 f fd ["numbers"] (spCnt K) := by
  obtain ⟨_, c4⟩ := T.c4
  refine F.ok scCnt (fun vs H Q E h => ?_) (fun cdv A outer s H vs Q E hr h => ?_)
  · obtain ⟨a, ns, rfl, _⟩ := h
    rfl
  · obtain ⟨a, ns, rfl, hS, k⟩ := h
    refine ⟨_, pss_one (ps_ret (pe_op op_fdiv (pe_callB call_len_seq (by rfl) T.len PySem.boot_len (pa_cons (pv 0) pa_nil)) (pgi rfl c4))), ?_⟩
    refine ⟨_, rfl, a, _, rfl, .inl hS, _, _, rfl, rfl, ⟨by decide, by decide⟩, ?_⟩
    rw [List.length_map]
    exact k
theorem scRp : FnScope ["numbers", "k", "start"] ["numbers", "k"] (defScope sRp) := ⟨rfl, rfl, rfl, by decide +kernel, rfl, by decide +kernel, by decide +kernel⟩
theorem ok_rp {f C fI : Addr} {fd fdI : FuncData} (F : Fun K "read_point" "read_point" sRp f fd) (T : Txt K mg C) (M : Mk K C fI) (GI : FnOk P w K mg base CX0 1 fI fdI ["self", "t", "x", "y", "brightness"] (spInit C)) (bI : Binds K fdI ["self", "t", "x", "y", "brightness"] [])
    (DS : Dn P w K mg base "signed" 1 ["word"] spSg) : FnOk P w K mg base CX0 3 f fd ["numbers", "k"] (spRp K C) := by
  obtain ⟨_, c4⟩ := T.c4
  obtain ⟨_, _, mS, kS, bS, GS⟩ := DS.ex
  refine F.ok scRp (fun vs H Q E h => ?_) (fun cdv A outer s H vs Q E hr h => ?_)
  · obtain ⟨a, ns, j, rfl, _⟩ := h
    rfl
  · obtain ⟨a, ns, j, rfl, hS, hj, hlen, k⟩ := h
    have hr1 : Room 1 _ := hr.mono (by decide)
    refine ⟨_, pss_cons (ps_set (i := 2) scRp.nd rfl (Or.inl rfl) (pe_op op_mul (pv 1) (pgi rfl c4)))
      (pss_one (ps_ret (pe_make M GI hr rfl T.mgC bI .nil pass0
        (pa_cons (pe_call GS hr1 rfl mS kS bS .nil pass0 (pa_cons (pe_ix ix_list (pv 0) (pv 2) (fun _ _ => rfl)) pa_nil))
        (pa_cons (pe_call GS hr1 rfl mS kS bS .nil pass0 (pa_cons (pe_ix ix_list (pv 0) (pe_op op_add (pv 2) pe_int) (fun _ _ => rfl)) pa_nil))
        (pa_cons (pe_call GS hr1 rfl mS kS bS .nil pass0 (pa_cons (pe_ix ix_list (pv 0) (pe_op op_add (pv 2) pe_int) (fun _ _ => rfl)) pa_nil))
        (pa_cons (pe_call GS hr1 rfl mS kS bS .nil pass0 (pa_cons (pe_ix ix_list (pv 0) (pe_op op_add (pv 2) pe_int) (fun _ _ => rfl)) pa_nil)) pa_nil))))))), ?_⟩
    refine ⟨_, rfl, _, _, rfl, rfl, .inr ⟨by decide, by decide⟩, ?_⟩
    refine ⟨_, rfl, _, rfl, a, _, _, _, rfl, rfl, hS, at_of (j := 4 * j) (by omega) (int_at (by omega)), _, rfl, ?_⟩
    refine ⟨_, rfl, _, rfl, _, _, rfl, rfl, a, _, _, _, rfl, rfl, hS, at_of (j := 4 * j + 1) (by omega) (int_at (by omega)), _, rfl, ?_⟩
    refine ⟨_, rfl, _, rfl, _, _, rfl, rfl, a, _, _, _, rfl, rfl, hS, at_of (j := 4 * j + 2) (by omega) (int_at (by omega)), _, rfl, ?_⟩
    refine ⟨_, rfl, _, rfl, _, _, rfl, rfl, a, _, _, _, rfl, rfl, hS, at_of (j := 4 * j + 3) (by omega) (int_at (by omega)), _, rfl, ?_⟩
    intro x dx nx nd ne
    refine ⟨x, dx, pt ns j, rfl, upd_same, fun H' hA kp => ⟨rfl, ?_⟩⟩
    exact k H' x (Same.made nx nd kp) nx hA
theorem scRps : FnScope ["numbers", "k"] ["numbers"] (defScope sRps) := ⟨rfl, rfl, rfl, by decide +kernel, rfl, by decide +kernel, by decide +kernel⟩
theorem ok_rps {f C : Addr} {fd : FuncData} (F : Fun K "read_points" "read_points" sRps f fd) (T : Txt K mg C) (DC : Dn P w K mg base "count_points" 1 ["numbers"] (spCnt K)) (DR : Dn P w K mg base "read_point" 3 ["numbers", "k"] (spRp K C)) :
    FnOk P w K mg base CX0 4 f fd ["numbers"] (spRps K C) := by
  obtain ⟨_, _, mC, kC, bC, GC⟩ := DC.ex
  obtain ⟨_, _, mR, kR, bR, GR⟩ := DR.ex
  refine F.ok scRps (fun vs H Q E h => ?_) (fun cdv A outer s H vs Q E hr h => ?_)
  · obtain ⟨a, ns, rfl, _⟩ := h
    rfl
  · obtain ⟨a, ns, rfl, hS, hlen, k⟩ := h
    have hr1 : Room 1 _ := hr.mono (by decide)
    refine ⟨_, pss_one (ps_ret (pe_lc (own := [("k", 1)]) (g := gName 1) (tt := tYes) rfl scRps.nd (pi_range1 rfl T.range (pa_cons (pe_call GC hr1 rfl mC kC bC .nil pass0 (pa_cons (pv 0) pa_nil)) pa_nil))
      (blkOk_by (N := ["numbers", "k"]) (sc := defScope sRps) (by decide +kernel)) (fun _ _ _ _ _ => pg_name (i := 1) scRps.nd rfl (Or.inl rfl)) (fun _ _ _ _ _ => pts_nil)
      (fun _ _ _ _ _ => pe_call GR hr rfl mR kR bR .nil pass0 (pa_cons (pv 0) (pa_cons (pv 1) pa_nil))))), ?_⟩
    refine ⟨_, rfl, a, ns, rfl, hS, _, rfl, by omega, by omega, fun D hD => ?_⟩
    refine lc_range (lo := 0) (n := ns.length / 4) (fun i H' => Same H H' ∧ ∃ as, H' D = some (.lst (as.map V.ref)) ∧ PtsAt C H' as ((List.range i).map (pt ns))) ⟨same_new hD, [], upd_same, .nil⟩ ?_ ?_
    · rintro i H1 hi ⟨s1, as, h1, h2⟩
      refine ⟨rfl, ?_⟩
      unfold tYes
      refine iteT ?_
      refine ⟨_, rfl, _, rfl, a, ns, i, ?_, s1.seq hS, by omega, hlen, fun H2 x s2 nx hx => ?_⟩
      · show [V.ref a, V.int (0 + (i : Int))] = [V.ref a, V.int (i : Int)]
        rw [Int.zero_add]
      · have hD2 := s2 _ _ h1
        refine ⟨as.map V.ref, hD2, ?_, same_over (s1.trans s2) hD, as ++ [x], ?_, ?_⟩
        · rw [List.length_map, h2.len, List.length_map, List.length_range]
          exact small1000 (by omega)
        · rw [upd_same, List.map_append]
          rfl
        · rw [List.range_succ, List.map_append]
          exact ((h2.same s2).snoc hx).of fun b p hb => hb.lst hD2
    · rintro H1 ⟨s1, as, h1, h2⟩
      exact k H1 D as s1 hD h1 h2
theorem scTold : FnScope ["point"] ["point"] (defScope sTold) := ⟨rfl, rfl, rfl, by decide +kernel, rfl, by decide +kernel, by decide +kernel⟩
theorem ok_told {f C : Addr} {fd : FuncData} (F : Fun K "is_as_told" "is_as_told" sTold f fd) (T : Txt K mg C) : FnOk P w K mg base CX0 1 f fd ["point"] (spTold C) := by
  obtain ⟨_, cT⟩ := T.cT
  obtain ⟨_, cP⟩ := T.cP
  obtain ⟨_, cB⟩ := T.cB
  refine F.ok scTold (fun vs H Q E h => ?_) (fun cdv A outer s H vs Q E hr h => ?_)
  · obtain ⟨a, p, rfl, _⟩ := h
    rfl
  · obtain ⟨a, p, rfl, ⟨dx, hp⟩, k⟩ := h
    refine ⟨_, pss_one (ps_ret (pe_and (pe_chain op_le op_le pe_int (pe_fld (pv 0) rfl) (pgi rfl cT))
      (pe_and (pe_cmpR op_le (pe_callB call_abs (by rfl) T.abs (by decide +kernel) (pa_cons (pe_fld (pv 0) rfl) pa_nil)) (pgi rfl cP) (nomark _))
      (pe_and (pe_cmpR op_le (pe_callB call_abs (by rfl) T.abs (by decide +kernel) (pa_cons (pe_fld (pv 0) rfl) pa_nil)) (pgi rfl cP) (nomark _))
      (pe_one (pe_cmpR op_le (pe_callB call_abs (by rfl) T.abs (by decide +kernel) (pa_cons (pe_fld (pv 0) rfl) pa_nil)) (pgi rfl cB) (nomark _))))))), ?_⟩
    have k2 : ∀ b, told p = b → Q (.bl b) H := fun b e => e ▸ k
    unfold told at k2
    refine ⟨_, rfl, a, C, dx, _, _, rfl, hp, T.cl, T.nT, pf_t p, _, _, rfl, rfl, _, rfl, ?_⟩
    by_cases h1 : 0 ≤ p.t
    · rw [decide_eq_true h1]
      refine iteT ⟨_, _, rfl, rfl, _, rfl, ?_⟩
      by_cases h2 : p.t ≤ 65535
      · rw [decide_eq_true h2]
        refine iteT ⟨_, rfl, a, C, dx, _, _, rfl, hp, T.cl, T.nX, pf_x p, _, rfl, _, _, rfl, rfl, _, rfl, ?_⟩
        by_cases h3 : ab p.x ≤ 32768
        · rw [show decide ((if p.x < 0 then -p.x else p.x) ≤ 32768) = true from decide_eq_true h3]
          refine iteT ⟨_, rfl, a, C, dx, _, _, rfl, hp, T.cl, T.nY, pf_y p, _, rfl, _, _, rfl, rfl, _, rfl, ?_⟩
          by_cases h4 : ab p.y ≤ 32768
          · rw [show decide ((if p.y < 0 then -p.y else p.y) ≤ 32768) = true from decide_eq_true h4]
            refine iteT ⟨_, rfl, a, C, dx, _, _, rfl, hp, T.cl, T.nB, pf_b p, _, rfl, _, _, rfl, rfl, ?_⟩
            refine k2 _ ?_
            rw [decide_eq_true h1, decide_eq_true h2, decide_eq_true h3, decide_eq_true h4]
            rfl
          · rw [show decide ((if p.y < 0 then -p.y else p.y) ≤ 32768) = false from decide_eq_false h4]
            exact iteF (k2 _ (by rw [decide_eq_true h1, decide_eq_true h2, decide_eq_true h3, decide_eq_false h4]; rfl))
        · rw [show decide ((if p.x < 0 then -p.x else p.x) ≤ 32768) = false from decide_eq_false h3]
          exact iteF (k2 _ (by rw [decide_eq_true h1, decide_eq_true h2, decide_eq_false h3]; rfl))
      · rw [decide_eq_false h2]
        exact iteF (k2 _ (by rw [decide_eq_true h1, decide_eq_false h2]; rfl))
    · rw [decide_eq_false h1]
      exact iteF ⟨_, rfl, iteF (k2 _ (by rw [decide_eq_false h1]; rfl))⟩
theorem told_x {p : Point} (h : told p = true) : -32768 ≤ p.x ∧ p.x ≤ 32768 ∧ -32768 ≤ p.y ∧ p.y ≤ 32768 := by
  unfold told ab at h
  simp only [Bool.and_eq_true, decide_eq_true_eq] at h
  obtain ⟨_, h1, h2, _⟩ := h
  split at h1 <;> split at h2 <;> omega
abbrev sFar : Stmt := top 22
abbrev sNear : Stmt := top 23
abbrev sWi : Stmt := top 24
theorem scFar : FnScope ["a", "b", "across", "along"] ["a", "b"] (defScope sFar) := ⟨rfl, rfl, rfl, by decide +kernel, rfl, by decide +kernel, by decide +kernel⟩
theorem ok_far {f C : Addr} {fd : FuncData} (F : Fun K "how_far" "how_far" sFar f fd) (T : Txt K mg C) : FnOk P w K mg base CX0 1 f fd ["a", "b"] (spFar C) := by
  refine F.ok scFar (fun vs H Q E h => ?_) (fun cdv A outer s H vs Q E hr h => ?_)
  · obtain ⟨a, b, p, q, rfl, _⟩ := h
    rfl
  · obtain ⟨a, b, p, q, rfl, ⟨d1, h1⟩, ⟨d2, h2⟩, t1, t2, k⟩ := h
    have x1 := told_x t1
    have x2 := told_x t2
    refine ⟨_, pss_cons (ps_set (i := 2) scFar.nd rfl (Or.inl rfl) (pe_op op_sub (pe_fld (pv 0) rfl) (pe_fld (pv 1) rfl)))
      (pss_cons (ps_set (i := 3) scFar.nd rfl (Or.inl rfl) (pe_op op_sub (pe_fld (pv 0) rfl) (pe_fld (pv 1) rfl)))
      (pss_one (ps_ret (pe_op op_add (pe_op op_mul (pv 2) (pv 2)) (pe_op op_mul (pv 3) (pv 3)))))), ?_⟩
    refine ⟨_, rfl, a, C, d1, _, _, rfl, h1, T.cl, T.nX, pf_x p, _, rfl, b, C, d2, _, _, rfl, h2, T.cl, T.nX, pf_x q, _, _, rfl, rfl, ?_⟩
    refine ⟨_, rfl, a, C, d1, _, _, rfl, h1, T.cl, T.nY, pf_y p, _, rfl, b, C, d2, _, _, rfl, h2, T.cl, T.nY, pf_y q, _, _, rfl, rfl, ?_⟩
    refine ⟨_, rfl, _, rfl, _, _, rfl, rfl, .inl ⟨by omega, by omega⟩, _, rfl, _, rfl, _, _, rfl, rfl, .inl ⟨by omega, by omega⟩, _, _, rfl, rfl, k⟩
theorem scNear : FnScope ["point", "others", "best", "other"] ["point", "others"] (defScope sNear) := ⟨rfl, rfl, rfl, by decide +kernel, rfl, by decide +kernel, by decide +kernel⟩
theorem ok_near {f C : Addr} {fd : FuncData} (F : Fun K "nearest" "nearest" sNear f fd) (DF : Dn P w K mg base "how_far" 1 ["a", "b"] (spFar C)) : FnOk P w K mg base CX0 2 f fd ["point", "others"] (spNear K C) := by
  obtain ⟨_, _, mF, kF, bF, GF⟩ := DF.ex
  refine F.ok scNear (fun vs H Q E h => ?_) (fun cdv A outer s H vs Q E hr h => ?_)
  · obtain ⟨a, l, p, as, ps, rfl, _⟩ := h
    rfl
  · obtain ⟨a, l, p, as, ps, rfl, hp, hL, hA, tp, tq, k⟩ := h
    refine ⟨_, pss_cons (ps_set (i := 2) scNear.nd rfl (Or.inl rfl) pe_non)
      (pss_cons (ps_for PassesOwn.never rfl (pi_list (pv 1)) (pg_name (i := 3) scNear.nd rfl (Or.inl rfl))
        (pss_one (ps_if (PW.pt (pw_or (pt_cmpR op_isN (pv 2) pe_non (nomark _)) (pw_or1 (pt_cmpR op_lt (pe_call GF hr rfl mF kF bF .nil pass0 (pa_cons (pv 0) (pa_cons (pv 3) pa_nil))) (pe_call GF hr rfl mF kF bF .nil pass0 (pa_cons (pv 0) (pa_cons (pv 2) pa_nil))) (nomark _)))))
          (pss_one (ps_set (i := 2) scNear.nd rfl (Or.inl rfl) (pv 3))) pss_nil)))
      (pss_one (ps_ret (pv 2)))), ?_⟩
    refine ⟨_, rfl, l, rfl, ⟨_, hL⟩, for_list (K := K) (a := l) (xs := as.map V.ref) (fun i σ H' => H' = H ∧ ∃ (bv : V) (v : Option V), σ = [some (.ref a), some (.ref l), some bv, v] ∧ Best C H bv (nearP p (ps.take i)))
      ⟨rfl, .non, none, rfl, rfl⟩ (fun i σ H' _ ⟨e, _⟩ => e ▸ hL) ?_ ?_⟩
    · rintro i y σ H' hi ⟨rfl, bv, v, rfl, hB⟩
      obtain ⟨c, hc, rfl⟩ := ref_at hi
      obtain ⟨q, hq, hqc⟩ := hA.at_ i c hc
      have tqq := tq q (List.mem_of_getElem? hq)
      rw [take_snoc hq, near_snoc]
      cases hn : nearP p (ps.take i) with
      | none =>
        rw [hn] at hB
        have eb : bv = V.non := hB
        subst eb
        refine ⟨_, rfl, rfl, _, rfl, iteT (iteT ?_)⟩
        exact ⟨_, rfl, rfl, _, _, rfl, c, rfl, hqc⟩
      | some b =>
        rw [hn] at hB
        obtain ⟨c2, rfl, hc2⟩ : ∃ c2, bv = V.ref c2 ∧ PtAt C H' c2 b := hB
        have tb : told b = true := by
          have mb := ((near_min p _ (ps.take i) rfl).2 b hn).1
          exact tq b (List.mem_of_mem_take mb)
        refine ⟨_, rfl, rfl, false, rfl, iteF ?_⟩
        refine ⟨_, rfl, _, rfl, a, c, p, q, rfl, hp, hqc, tp, tqq, _, rfl, _, rfl, a, c2, p, b, rfl, hp, hc2, tp, tb, _, _, rfl, rfl, _, rfl, ?_⟩
        have en : nst p (some b) q = if d2 p q < d2 p b then some q else some b := rfl
        rw [en]
        refine ite2 (fun h => ?_) (fun h => ?_)
        · rw [if_pos (of_decide_eq_true h)]
          exact ⟨_, rfl, rfl, _, _, rfl, c, rfl, hqc⟩
        · rw [if_neg (fun z => h (decide_eq_true z))]
          exact ⟨rfl, _, _, rfl, c2, rfl, hc2⟩
    · rintro σ H' ⟨rfl, bv, v, rfl, hB⟩
      rw [List.length_map, hA.len, List.take_length] at hB
      exact ⟨_, rfl, k bv hB⟩
theorem scWi : FnScope ["r", "point", "others", "best"] ["r", "point", "others"] (defScope sWi) := ⟨rfl, rfl, rfl, by decide +kernel, rfl, by decide +kernel, by decide +kernel⟩
theorem ok_wi {f C : Addr} {fd : FuncData} (F : Fun K "nearest_within" "nearest_within" sWi f fd) (DF : Dn P w K mg base "how_far" 1 ["a", "b"] (spFar C)) (DN : Dn P w K mg base "nearest" 2 ["point", "others"] (spNear K C)) : FnOk P w K mg base CX0 3 f fd ["r", "point", "others"] (spWi K C) := by
  obtain ⟨_, _, mF, kF, bF, GF⟩ := DF.ex
  obtain ⟨_, _, mN, kN, bN, GN⟩ := DN.ex
  refine F.ok scWi (fun vs H Q E h => ?_) (fun cdv A outer s H vs Q E hr h => ?_)
  · obtain ⟨r, a, l, p, as, ps, rfl, _⟩ := h
    rfl
  · obtain ⟨r, a, l, p, as, ps, rfl, r0, r1, hp, hL, hA, tp, tq, k⟩ := h
    have hr1 : Room 1 _ := hr.mono (by decide)
    refine ⟨_, pss_cons (ps_set (i := 3) scWi.nd rfl (Or.inl rfl) (pe_call GN hr rfl mN kN bN .nil pass0 (pa_cons (pv 1) (pa_cons (pv 2) pa_nil))))
      (pss_cons (ps_if (PW.pt (pw_or (pt_cmpR op_isN (pv 3) pe_non (nomark _)) (pw_or1 (pt_cmpR op_gt (pe_call GF hr1 rfl mF kF bF .nil pass0 (pa_cons (pv 1) (pa_cons (pv 3) pa_nil))) (pe_op op_mul (pv 0) (pv 0)) (nomark _)))))
          (pss_one (ps_ret pe_non)) pss_nil)
      (pss_one (ps_ret (pv 3)))), ?_⟩
    unfold within at k
    refine ⟨_, rfl, _, rfl, a, l, p, as, ps, rfl, hp, hL, hA, tp, tq, fun v hB => ?_⟩
    cases hn : nearP p ps with
    | none =>
      rw [hn] at hB k
      have eb : v = V.non := hB
      subst eb
      exact ⟨_, rfl, rfl, _, rfl, iteT (iteT (k _ rfl))⟩
    | some b =>
      rw [hn] at hB k
      obtain ⟨c2, rfl, hc2⟩ : ∃ c2, v = V.ref c2 ∧ PtAt C H c2 b := hB
      have tb : told b = true := tq b ((near_min p _ ps rfl).2 b hn).1
      refine ⟨_, rfl, rfl, false, rfl, iteF ?_⟩
      refine ⟨_, rfl, _, rfl, a, c2, p, b, rfl, hp, hc2, tp, tb, _, rfl, _, rfl, _, _, rfl, rfl, .inl ⟨by omega, by omega⟩, _, _, rfl, rfl, _, rfl, ?_⟩
      refine ite2 (fun h => ?_) (fun h => ?_)
      · have k : Best C H .non (if r * r < d2 p b then none else some b) → Q .non H := k .non
        rw [if_pos (of_decide_eq_true h)] at k
        exact k rfl
      · have k : Best C H (.ref c2) (if r * r < d2 p b then none else some b) → Q (.ref c2) H := k (.ref c2)
        rw [if_neg (fun z => h (decide_eq_true z))] at k
        exact ⟨_, rfl, k ⟨c2, rfl, hc2⟩⟩
theorem scRef : FnScope ["in_range", "most", "lists", "numbers", "point"] ["in_range", "most", "lists"] (defScope sRef) := ⟨rfl, rfl, rfl, by decide +kernel, rfl, by decide +kernel, by decide +kernel⟩
theorem ok_ref {f C : Addr} {fd : FuncData} (F : Fun K "refusal" "refusal" sRef f fd) (T : Txt K mg C) (DC : Dn P w K mg base "count_points" 1 ["numbers"] (spCnt K)) (DR : Dn P w K mg base "read_points" 4 ["numbers"] (spRps K C))
    (DT : Dn P w K mg base "is_as_told" 1 ["point"] (spTold C)) : FnOk P w K mg base CX0 5 f fd ["in_range", "most", "lists"] (spRef K) := by
  obtain ⟨_, _, mC, kC, bC, GC⟩ := DC.ex
  obtain ⟨_, _, mR, kR, bR, GR⟩ := DR.ex
  obtain ⟨_, _, mT, kT, bT, GT⟩ := DT.ex
  refine F.ok scRef (fun vs H Q E h => ?_) (fun cdv A outer s H vs Q E hr h => ?_)
  · obtain ⟨b, most, ls, as, nss, rfl, _⟩ := h
    rfl
  · obtain ⟨b, most, ls, as, nss, rfl, hL, hW, hlen, k⟩ := h
    have hr1 : Room 1 _ := hr.mono (by decide)
    refine ⟨_, pss_cons (ps_if (PW.pt (pw_or (pt_not (pt_val (pv 0))) (pw_or1 (pt_val (pe_callB (cr_any rfl) (by rfl) T.any (by decide +kernel) (pa_cons
          (pe_lc (own := [("numbers", 3)]) (g := gName 3) (tt := tYes) rfl scRef.nd (pi_list (pv 2)) (blkOk_by (N := ["in_range", "most", "lists", "numbers", "point"]) (sc := defScope sRef) (by decide +kernel)) (fun _ _ _ _ _ => pg_name (i := 3) scRef.nd rfl (Or.inl rfl)) (fun _ _ _ _ _ => pts_nil)
            (fun _ _ _ _ _ => pe_cmpR op_gt (pe_call GC hr1 rfl mC kC bC .nil pass0 (pa_cons (pv 3) pa_nil)) (pv 1) (nomark _))) pa_nil)))))) (pss_one (ps_ret (pe_un un_neg pe_int))) pss_nil)
      (pss_cons (ps_for PassesOwn.never rfl (pi_list (pv 2)) (pg_name (i := 3) scRef.nd rfl (Or.inl rfl))
        (pss_one (ps_if (pt_not (pt_val (pe_callB (cr_all rfl) (by rfl) T.all (by decide +kernel) (pa_cons
          (pe_lc (own := [("point", 4)]) (g := gName 4) (tt := tYes) rfl scRef.nd (pi_list (pe_call GR hr rfl mR kR bR .nil pass0 (pa_cons (pv 3) pa_nil))) (blkOk_by (N := ["in_range", "most", "lists", "numbers", "point"]) (sc := defScope sRef) (by decide +kernel)) (fun _ _ _ _ _ => pg_name (i := 4) scRef.nd rfl (Or.inl rfl)) (fun _ _ _ _ _ => pts_nil)
            (fun _ _ _ _ _ => pe_call GT hr1 rfl mT kT bT .nil pass0 (pa_cons (pv 4) pa_nil))) pa_nil)))) (pss_one (ps_ret (pe_un un_neg pe_int))) pss_nil)))
      (pss_one (ps_ret pe_int))), ?_⟩
    unfold refu at k
    refine ⟨_, rfl, b, rfl, ?_⟩
    cases b with
    | false =>
      refine iteT (iteT ⟨_, rfl, ?_⟩)
      exact k H (Same.refl H)
    | true =>
      refine iteF ?_
      refine ⟨_, rfl, ls, rfl, ⟨_, hL⟩, fun D hD => ?_⟩
      refine lc_list (K := K) (a := ls) (xs := as.map V.ref) (fun i H' => Same H H' ∧ H' D = some (.lst (((nss.take i).map (many most)).map V.bl))) ⟨same_new hD, upd_same⟩ (fun i H' _ ⟨s1, _⟩ => s1.seq hL) ?_ ?_
      · rintro i y H1 hi ⟨s1, h1⟩
        obtain ⟨c, hc, rfl⟩ := ref_at hi
        obtain ⟨ns, hn, hS, _⟩ := hW.at_ i c hc
        refine ⟨rfl, ?_⟩
        unfold tYes
        refine iteT ?_
        refine ⟨_, rfl, c, ns, rfl, s1.seq hS, _, rfl, _, _, rfl, rfl, _, h1, ?_, same_over s1 hD, ?_⟩
        · rw [List.length_map, List.length_map, List.length_take]
          exact small1000 (by omega)
        · rw [upd_same, take_snoc hn, List.map_append, List.map_append]
          rfl
      · rintro H1 ⟨s1, h1⟩
        rw [List.length_map, hW.len, List.take_length] at h1
        refine ⟨D, _, rfl, SqL.of h1, _, rfl, ?_⟩
        have ea : (nss.map (many most)).any id = nss.any (many most) := by rw [List.any_map]; rfl
        rw [ea]
        have k' : ∀ H' : Hp, Same H H' → Q (V.int (if nss.any (many most) = true then -2 else if nss.all okL = true then 0 else -3)) H' := k
        cases hA : nss.any (many most) with
        | true =>
          refine iteT ⟨_, rfl, ?_⟩
          rw [hA] at k'
          exact k' H1 s1
        | false =>
          refine iteF ?_
          rw [hA] at k'
          refine ⟨_, rfl, ls, rfl, ⟨_, s1.seq hL⟩, for_list (K := K) (a := ls) (xs := as.map V.ref) (fun i σ H' => ∃ v : Option V, σ = [some (.bl true), some (.int most), some (.ref ls), v, none] ∧ Same H H' ∧ (nss.take i).all okL = true)
            ⟨none, rfl, s1, rfl⟩ (fun i σ H' _ ⟨_, _, s2, _⟩ => s2.seq hL) ?_ ?_⟩
          · rintro i y σ H2 hi ⟨v, rfl, s2, hk⟩
            obtain ⟨c, hc, rfl⟩ := ref_at hi
            obtain ⟨ns, hn, hS, hnl⟩ := hW.at_ i c hc
            refine ⟨_, rfl, c, ns, rfl, s2.seq hS, hnl, fun H3 l ps s3 hl h3 h4 => ?_⟩
            refine ⟨l, rfl, ⟨_, SqL.of h3⟩, fun D2 hD2 => ?_⟩
            refine lc_list (K := K) (a := l) (xs := ps.map V.ref) (fun j H' => Same H3 H' ∧ H' D2 = some (.lst ((((pts ns).take j).map told).map V.bl))) ⟨same_new hD2, upd_same⟩ (fun j H' _ ⟨s4, _⟩ => s4.seq (SqL.of h3)) ?_ ?_
            · rintro j z H4 hj ⟨s4, h5⟩
              obtain ⟨e, he, rfl⟩ := ref_at hj
              obtain ⟨p, hp, hpe⟩ := h4.at_ j e he
              refine ⟨rfl, ?_⟩
              unfold tYes
              refine iteT ?_
              refine ⟨_, rfl, e, p, rfl, hpe.same s4, _, h5, ?_, same_over s4 hD2, ?_⟩
              · rw [List.length_map, List.length_map, List.length_take]
                refine small1000 (Nat.le_trans (Nat.min_le_right _ _) ?_)
                unfold pts
                rw [List.length_map, List.length_range]
                omega
              · rw [upd_same, take_snoc hp, List.map_append, List.map_append]
                rfl
            · rintro H4 ⟨s4, h5⟩
              rw [List.length_map, h4.len, List.take_length] at h5
              refine ⟨D2, _, rfl, SqL.of h5, _, rfl, ?_⟩
              have eb : ((pts ns).map told).all id = okL ns := by unfold okL; rw [List.all_map]; rfl
              rw [eb]
              have s5 : Same H H4 := (s2.trans s3).trans s4
              cases hB : okL ns with
              | false =>
                refine iteT ⟨_, rfl, ?_⟩
                have e0 : nss.all okL = false := by
                  rw [List.all_eq_false]
                  exact ⟨ns, List.mem_of_getElem? hn, by rw [hB]; exact Bool.false_ne_true⟩
                rw [e0] at k'
                exact k' H4 s5
              | true =>
                refine iteF ?_
                refine ⟨_, rfl, s5, ?_⟩
                rw [take_snoc hn, List.all_append, hk]
                show (true && (okL ns && true)) = true
                rw [hB]
                rfl
          · rintro σ H2 ⟨v, rfl, s2, hk⟩
            rw [List.length_map, hW.len, List.take_length] at hk
            rw [hk] at k'
            exact k' H2 s2
theorem range_snoc (n : Nat) : List.range (n + 1) = List.range n ++ [n] := List.range_succ
theorem refu_in {b : Bool} {kn ln : List Int} (h : ¬ refu b 256 [kn, ln] < 0) : b = true ∧ okL kn = true ∧ okL ln = true := by
  rw [refu2] at h
  by_cases h1 : (b && (!many 256 kn && !many 256 ln)) = true
  · rw [if_pos h1] at h
    by_cases h2 : (okL kn && okL ln) = true
    · simp only [Bool.and_eq_true] at h1 h2
      exact ⟨h1.1, h2.1, h2.2⟩
    · rw [if_neg h2] at h
      exact absurd (by decide) h
  · rw [if_neg h1] at h
    exact absurd (by decide) h
theorem okL_all {ns : List Int} (h : okL ns = true) : ∀ q ∈ pts ns, told q = true := fun q hq => List.all_eq_true.mp h q hq
theorem pts_len (ns : List Int) : (pts ns).length = ns.length / 4 := by
  unfold pts
  rw [List.length_map, List.length_range]
/-- a and b, both True or False and without a trace in the heap: one way on -/
def tAnd2 (ta tb : TE) : TE := fun σ H Q => ∃ c1 c2, (ta σ H fun x H1 => x = .bl c1 ∧ H1 = H) ∧ (tb σ H fun x H1 => x = .bl c2 ∧ H1 = H) ∧ Q (.bl (c1 && c2)) H
theorem pe_and2 {X : Cx} {a b : Expr} {rest : List Expr} {pos : Pos} {ta tb : TE} (ha : PE X a ta) (hb : PE X (.BoolOp .And (b :: rest) pos) tb) : PE X (.BoolOp .And (a :: b :: rest) pos) (tAnd2 ta tb) := by
  refine ⟨fun pins s σ H Q I h => ?_⟩
  obtain ⟨c1, c2, h1, h2, q⟩ := h
  refine BoolOp_and (thn (ha.run pins s σ H _ I h1) fun v s1 ⟨x, H1, I1, r1, e1, e2⟩ => ?_)
  subst e1 e2
  cases r1
  refine wpAny_truthy_bool ?_
  cases c1 with
  | true =>
    refine thn (hb.run pins s1 σ H1 _ I1 h2) fun u s2 ⟨y, H2, I2, r2, f1, f2⟩ => ?_
    subst f1 f2
    exact ⟨_, _, I2, r2, q⟩
  | false => exact ⟨.bl false, H1, I1, rfl, q⟩
abbrev sState : Stmt := top 25
abbrev sSt : Stmt := top 26
def spState (K : PySem.W.Frag) (C : Addr) : Sp := fun vs H Q _ => ∃ (r d : Int) (a l : Addr) (p : Point) (as : List Addr) (ps : List Point), vs = [.int r, .int d, .ref a, .ref l] ∧ 0 ≤ r ∧ r ≤ 65535 ∧ PtAt C H a p ∧ SqL K H l (as.map V.ref) ∧ PtsAt C H as ps ∧ told p = true ∧ (∀ q ∈ ps, told q = true) ∧
  Q (.int (stateOf r d p ps)) H
def spSt (K : PySem.W.Frag) : Sp := fun vs H Q _ => ∃ (r d : Int) (a b : Addr) (kn ln : List Int), vs = [.int r, .int d, .ref a, .ref b] ∧ 0 ≤ r ∧ 0 ≤ d ∧ SqL K H a (kn.map V.int) ∧ kn.length ≤ 1100 ∧ SqL K H b (ln.map V.int) ∧ ln.length ≤ 1100 ∧
  ∀ (H' : Hp) (p : Addr), H' p = some (.lst ((stAns r d kn ln).map V.int)) → Q (.ref p) H'
theorem scState : FnScope ["r", "d", "point", "seen", "now"] ["r", "d", "point", "seen"] (defScope sState) := ⟨rfl, rfl, rfl, by decide +kernel, rfl, by decide +kernel, by decide +kernel⟩
theorem ok_state {f C : Addr} {fd : FuncData} (F : Fun K "state" "state" sState f fd) (T : Txt K mg C) (DW : Dn P w K mg base "nearest_within" 3 ["r", "point", "others"] (spWi K C))
    (c0 : ∃ t, mg "AS_IT_WAS" = some (.int 0 t)) (c1 : ∃ t, mg "BRIGHTER" = some (.int 1 t)) (c2 : ∃ t, mg "FAINTER" = some (.int 2 t)) (c3 : ∃ t, mg "GONE" = some (.int 3 t)) : FnOk P w K mg base CX0 4 f fd ["r", "d", "point", "seen"] (spState K C) := by
  obtain ⟨_, c0⟩ := c0
  obtain ⟨_, c1⟩ := c1
  obtain ⟨_, c2⟩ := c2
  obtain ⟨_, c3⟩ := c3
  obtain ⟨_, _, mW, kW, bW, GW⟩ := DW.ex
  refine F.ok scState (fun vs H Q E h => ?_) (fun cdv A outer s H vs Q E hr h => ?_)
  · obtain ⟨r, d, a, l, p, as, ps, rfl, _⟩ := h
    rfl
  · obtain ⟨r, d, a, l, p, as, ps, rfl, r0, r1, hp, hL, hA, tp, tq, k⟩ := h
    refine ⟨_, pss_cons (ps_set (i := 4) scState.nd rfl (Or.inl rfl) (pe_call GW hr rfl mW kW bW .nil pass0 (pa_cons (pv 0) (pa_cons (pv 2) (pa_cons (pv 3) pa_nil)))))
      (pss_cons (ps_if (pt_cmpR op_isN (pv 4) pe_non (nomark _)) (pss_one (ps_ret (pgi rfl c3))) pss_nil)
      (pss_cons (ps_if (pt_cmpR op_gt (pe_op op_sub (pe_fld (pv 2) rfl) (pe_fld (pv 4) rfl)) (pv 1) (nomark _)) (pss_one (ps_ret (pgi rfl c1))) pss_nil)
      (pss_cons (ps_if (pt_cmpR op_gt (pe_op op_sub (pe_fld (pv 4) rfl) (pe_fld (pv 2) rfl)) (pv 1) (nomark _)) (pss_one (ps_ret (pgi rfl c2))) pss_nil)
      (pss_one (ps_ret (pgi rfl c0)))))), ?_⟩
    unfold stateOf at k
    refine ⟨_, rfl, _, rfl, _, rfl, r, a, l, p, as, ps, rfl, r0, r1, hp, hL, hA, tp, tq, fun v hB => ?_⟩
    cases hw : within r p ps with
    | none =>
      rw [hw] at hB k
      have eb : v = V.non := hB
      subst eb
      exact ⟨_, rfl, rfl, _, rfl, iteT k⟩
    | some b =>
      rw [hw] at hB k
      obtain ⟨c, rfl, ⟨dc, hc⟩⟩ : ∃ c, v = V.ref c ∧ PtAt C H c b := hB
      obtain ⟨dp, hp⟩ := hp
      have k : Q (.int (if d < p.mag - b.mag then 1 else if d < b.mag - p.mag then 2 else 0)) H := k
      refine ⟨_, rfl, rfl, false, rfl, iteF ?_⟩
      refine ⟨_, rfl, a, C, dp, _, _, rfl, hp, T.cl, T.nB, pf_b p, _, rfl, c, C, dc, _, _, rfl, hc, T.cl, T.nB, pf_b b, _, _, rfl, rfl, _, rfl, _, _, rfl, rfl, _, rfl, ?_⟩
      refine ite2 (fun h => ?_) (fun h => ?_)
      · rw [if_pos (of_decide_eq_true h)] at k
        exact k
      rw [if_neg (fun z => h (decide_eq_true z))] at k
      refine ⟨_, rfl, c, C, dc, _, _, rfl, hc, T.cl, T.nB, pf_b b, _, rfl, a, C, dp, _, _, rfl, hp, T.cl, T.nB, pf_b p, _, _, rfl, rfl, _, rfl, _, _, rfl, rfl, _, rfl, ?_⟩
      refine ite2 (fun h => ?_) (fun h => ?_)
      · rw [if_pos (of_decide_eq_true h)] at k
        exact k
      rw [if_neg (fun z => h (decide_eq_true z))] at k
      exact k
theorem scSt : FnScope ["r", "d", "known", "l", "refused", "seen", "point"] ["r", "d", "known", "l"] (defScope sSt) := ⟨rfl, rfl, rfl, by decide +kernel, rfl, by decide +kernel, by decide +kernel⟩
theorem ok_st {f C : Addr} {fd : FuncData} (F : Fun K "mo_states" "mo_states" sSt f fd) (cM : ∃ t, mg "MOST_POINTS_SEEN" = some (.int 256 t)) (cR : ∃ t, mg "MOST_R" = some (.int 65535 t)) (cD : ∃ t, mg "MOST_D" = some (.int 131072 t))
    (DF : Dn P w K mg base "refusal" 5 ["in_range", "most", "lists"] (spRef K)) (DR : Dn P w K mg base "read_points" 4 ["numbers"] (spRps K C)) (DS : Dn P w K mg base "state" 4 ["r", "d", "point", "seen"] (spState K C)) : FnOk P w K mg base CX0 6 f fd ["r", "d", "known", "l"] (spSt K) := by
  obtain ⟨_, cM⟩ := cM
  obtain ⟨_, cR⟩ := cR
  obtain ⟨_, cD⟩ := cD
  obtain ⟨_, _, mF, kF, bF, GF⟩ := DF.ex
  obtain ⟨_, _, mR, kR, bR, GR⟩ := DR.ex
  obtain ⟨_, _, mS, kS, bS, GS⟩ := DS.ex
  refine F.ok scSt (fun vs H Q E h => ?_) (fun cdv A outer s H vs Q E hr h => ?_)
  · obtain ⟨r, d, a, b, kn, ln, rfl, _⟩ := h
    rfl
  · obtain ⟨r, d, a, b, kn, ln, rfl, r0, d0, hK, hkl, hL, hll, k⟩ := h
    have hr4 : Room 4 _ := hr.mono (by decide)
    refine ⟨_, pss_cons (ps_set (i := 4) scSt.nd rfl (Or.inl rfl) (pe_call GF hr rfl mF kF bF .nil pass0 (pa_cons (pe_and2 (pe_cmpR op_le (pv 0) (pgi rfl cR) (nomark _)) (pe_one (pe_cmpR op_le (pv 1) (pgi rfl cD) (nomark _)))) (pa_cons (pgi rfl cM) (pa_cons (pe_lst (pa_cons (pv 2) (pa_cons (pv 3) pa_nil))) pa_nil)))))
      (pss_cons (ps_if (pt_cmpR op_lt (pv 4) pe_int (nomark _)) (pss_one (ps_ret (pe_lst (pa_cons (pv 4) pa_nil)))) pss_nil)
      (pss_cons (ps_set (i := 5) scSt.nd rfl (Or.inr rfl) (pe_call GR hr4 rfl mR kR bR .nil pass0 (pa_cons (pv 3) pa_nil)))
      (pss_one (ps_ret (pe_op op_cat (pe_lst (pa_cons pe_int pa_nil))
        (pe_lc (own := [("point", 6)]) (g := gName 6) (tt := tYes) rfl scSt.nd (pi_list (pe_call GR hr4 rfl mR kR bR .nil pass0 (pa_cons (pv 2) pa_nil))) (blkOk_by (N := ["r", "d", "known", "l", "refused", "seen", "point"]) (sc := defScope sSt) (by decide +kernel)) (fun _ _ _ _ _ => pg_name (i := 6) scSt.nd rfl (Or.inl rfl)) (fun _ _ _ _ _ => pts_nil)
          (fun _ _ _ _ _ => pe_call GS hr4 rfl mS kS bS .nil pass0 (pa_cons (pv 0) (pa_cons (pv 1) (pa_cons (pv 6) (pa_cons (pv 5) pa_nil))))))))))), ?_⟩
    unfold stAns at k
    refine ⟨_, _, ⟨_, rfl, _, _, rfl, rfl, rfl, rfl⟩, ⟨_, rfl, _, _, rfl, rfl, rfl, rfl⟩, _, rfl, _, rfl, (by show 2 ≤ sizeLine; decide), fun q hq => ?_⟩
    generalize hb : (decide (r ≤ 65535) && decide (d ≤ 131072)) = cb at k
    have s1 : Same H (upd H q (.lst [.ref a, .ref b])) := same_new hq
    refine ⟨cb, 256, q, [a, b], [kn, ln], rfl, SqL.of upd_same, ⟨rfl, fun j c e => ?_⟩, (by show 2 ≤ 1000; decide), fun H2 s2 => ?_⟩
    · match j, e with
      | 0, e =>
        have e : a = c := Option.some.inj e
        subst e
        exact ⟨kn, rfl, s1.seq hK, hkl⟩
      | 1, e =>
        have e : b = c := Option.some.inj e
        subst e
        exact ⟨ln, rfl, s1.seq hL, hll⟩
      | j + 2, e => simp at e
    have s12 : Same H H2 := s1.trans s2
    refine ⟨_, rfl, _, _, rfl, rfl, _, rfl, ?_⟩
    refine ite2 (fun h => ?_) (fun h => ?_)
    · have h := of_decide_eq_true h
      refine ⟨_, rfl, (by show 1 ≤ sizeLine; decide), fun p hp => ?_⟩
      refine k _ p ?_
      rw [upd_same]
      show _ = some (HO.lst ((if refu cb 256 [kn, ln] < 0 then [refu cb 256 [kn, ln]] else _).map V.int))
      rw [if_pos h]
      rfl
    · have h : ¬ refu cb 256 [kn, ln] < 0 := fun z => h (decide_eq_true z)
      obtain ⟨r1, ok1, ok2⟩ := refu_in h
      subst r1
      have r1 : r ≤ 65535 := of_decide_eq_true (Bool.and_eq_true_iff.mp hb).1
      have k : ∀ (H' : Hp) (p : Addr), H' p = some (.lst ((0 :: (pts kn).map fun p => stateOf r d p (pts ln)).map V.int)) → Q (.ref p) H' := by
        intro H' p e
        refine k H' p ?_
        rw [if_neg h]
        exact e
      refine ⟨_, rfl, b, ln, rfl, s12.seq hL, hll, fun H3 lx ax s3 n3 h3 p3 => ?_⟩
      refine ⟨(by show 1 ≤ sizeLine; decide), fun g hg => ?_⟩
      have s4 : Same H3 (upd H3 g (.lst [.int 0])) := same_new hg
      refine ⟨_, rfl, a, kn, rfl, ((s12.trans s3).trans s4).seq hK, hkl, fun H5 lk ak s5 n5 h5 p5 => ?_⟩
      have hg5 := s5 g (.lst [.int 0]) upd_same
      have h3' := s5 _ _ (s4 _ _ h3)
      have p3' := (p3.same s4).same s5
      refine ⟨lk, rfl, ⟨_, SqL.of h5⟩, fun D hD => ?_⟩
      refine lc_list (K := K) (a := lk) (xs := ak.map V.ref) (fun i H' => Same H5 H' ∧ H' D = some (.lst ((((pts kn).take i).map fun p => stateOf r d p (pts ln)).map V.int))) ⟨same_new hD, upd_same⟩ (fun i H' _ ⟨s6, _⟩ => s6.seq (SqL.of h5)) ?_ ?_
      · rintro i y H6 hi ⟨s6, h6⟩
        obtain ⟨c, hc, rfl⟩ := ref_at hi
        obtain ⟨p, hp, hpc⟩ := p5.at_ i c hc
        refine ⟨rfl, ?_⟩
        unfold tYes
        refine iteT ?_
        refine ⟨_, rfl, _, rfl, _, rfl, _, rfl, r, d, c, lx, p, ax, pts ln, rfl, r0, r1, hpc.same s6, SqL.of (s6 _ _ h3'), p3'.same s6, okL_all ok1 p (List.mem_of_getElem? hp), okL_all ok2, _, h6, ?_, same_over s6 hD, ?_⟩
        · rw [List.length_map, List.length_map, List.length_take]
          refine small1000 (Nat.le_trans (Nat.min_le_right _ _) ?_)
          rw [pts_len]
          omega
        · rw [upd_same, take_snoc hp, List.map_append, List.map_append]
          rfl
      · rintro H6 ⟨s6, h6⟩
        rw [List.length_map, p5.len, List.take_length] at h6
        refine ⟨g, D, _, _, rfl, rfl, s6 _ _ hg5, h6, ?_, fun p hp => ?_⟩
        · rw [List.length_map, List.length_map, pts_len]
          show 1 + kn.length / 4 ≤ sizeLine
          have e2 : (1000 : Nat) < sizeLine := by decide
          omega
        · refine k _ p ?_
          rw [upd_same]
          rfl
end
theorem all_mk {P : Program} {w : World} {K : PySem.W.Frag} {h : Heap} {mg : Str → Option Value} {fa C f1 f2 f3 f4 f5 f6 f7 f8 f9 f10 f11 f12 : Addr} (X : K.In h) (G : h.Ns mainGlobals mg) (hfa : mg "mo_states" = some (.ref fa))
    {od1 an1 od2 an2 od3 an3 od4 an4 od5 an5 od6 an6 od7 an7 od8 an8 od9 an9 od10 an10 od11 an11 od12 an12 : Option Addr} {sl1 sl2 sl3 sl4 sl5 sl6 sl7 sl8 sl9 sl10 sl11 sl12 : Array (Option Value)} {oc1 kV1 dc1 pm1 cd1 ct1 oc2 kV2 dc2 pm2 cd2 ct2 oc3 kV3 dc3 pm3 cd3 ct3 oc4 kV4 dc4 pm4 cd4 ct4 oc5 kV5 dc5 pm5 cd5 ct5 oc6 kV6 dc6 pm6 cd6 ct6 oc7 kV7 dc7 pm7 cd7 ct7 oc8 kV8 dc8 pm8 cd8 ct8 oc9 kV9 dc9 pm9 cd9 ct9 oc10 kV10 dc10 pm10 cd10 ct10 oc11 kV11 dc11 pm11 cd11 ct11 oc12 kV12 dc12 pm12 cd12 ct12 : Value} {t0 t1 t2 t3 t4 t5 t6 t7 t8 t9 t10 t11 t12 : Tok}
    (aC : PySem.W.nsIn K mainGlobals "Point" = some (some (.ref C)))
    (a1 : PySem.W.findIn K (.ref C) "__init__" = some (some (.ref f1))) (i1 : PySem.W.isFn K (.ref f1) = true) (l1 : K.lookup f1 = some ⟨oc1, od1, .func (PySem.W.fnOf "__init__" "Point.__init__" (defArgs sInit) (defBody sInit) (defScope sInit) .none kV1 dc1 pm1 an1 cd1 ct1), sl1⟩) (c1 : PySem.W.codeIn K cd1 "Point.__init__" = true) (k1 : PySem.W.keepIn K (.ref f1) = true)
    (a2 : PySem.W.nsIn K mainGlobals "signed" = some (some (.ref f2))) (l2 : K.lookup f2 = some ⟨oc2, od2, .func (PySem.W.fnOf "signed" "signed" (defArgs sSg) (defBody sSg) (defScope sSg) .none kV2 dc2 pm2 an2 cd2 ct2), sl2⟩) (c2 : PySem.W.codeIn K cd2 "signed" = true) (k2 : PySem.W.keepIn K (.ref f2) = true)
    (a3 : PySem.W.nsIn K mainGlobals "count_points" = some (some (.ref f3))) (l3 : K.lookup f3 = some ⟨oc3, od3, .func (PySem.W.fnOf "count_points" "count_points" (defArgs sCnt) (defBody sCnt) (defScope sCnt) .none kV3 dc3 pm3 an3 cd3 ct3), sl3⟩) (c3 : PySem.W.codeIn K cd3 "count_points" = true) (k3 : PySem.W.keepIn K (.ref f3) = true)
    (a4 : PySem.W.nsIn K mainGlobals "read_point" = some (some (.ref f4))) (l4 : K.lookup f4 = some ⟨oc4, od4, .func (PySem.W.fnOf "read_point" "read_point" (defArgs sRp) (defBody sRp) (defScope sRp) .none kV4 dc4 pm4 an4 cd4 ct4), sl4⟩) (c4 : PySem.W.codeIn K cd4 "read_point" = true) (k4 : PySem.W.keepIn K (.ref f4) = true)
    (a5 : PySem.W.nsIn K mainGlobals "read_points" = some (some (.ref f5))) (l5 : K.lookup f5 = some ⟨oc5, od5, .func (PySem.W.fnOf "read_points" "read_points" (defArgs sRps) (defBody sRps) (defScope sRps) .none kV5 dc5 pm5 an5 cd5 ct5), sl5⟩) (c5 : PySem.W.codeIn K cd5 "read_points" = true) (k5 : PySem.W.keepIn K (.ref f5) = true)
    (a6 : PySem.W.nsIn K mainGlobals "is_as_told" = some (some (.ref f6))) (l6 : K.lookup f6 = some ⟨oc6, od6, .func (PySem.W.fnOf "is_as_told" "is_as_told" (defArgs sTold) (defBody sTold) (defScope sTold) .none kV6 dc6 pm6 an6 cd6 ct6), sl6⟩) (c6 : PySem.W.codeIn K cd6 "is_as_told" = true) (k6 : PySem.W.keepIn K (.ref f6) = true)
    (a7 : PySem.W.nsIn K mainGlobals "refusal" = some (some (.ref f7))) (l7 : K.lookup f7 = some ⟨oc7, od7, .func (PySem.W.fnOf "refusal" "refusal" (defArgs sRef) (defBody sRef) (defScope sRef) .none kV7 dc7 pm7 an7 cd7 ct7), sl7⟩) (c7 : PySem.W.codeIn K cd7 "refusal" = true) (k7 : PySem.W.keepIn K (.ref f7) = true)
    (a8 : PySem.W.nsIn K mainGlobals "how_far" = some (some (.ref f8))) (l8 : K.lookup f8 = some ⟨oc8, od8, .func (PySem.W.fnOf "how_far" "how_far" (defArgs sFar) (defBody sFar) (defScope sFar) .none kV8 dc8 pm8 an8 cd8 ct8), sl8⟩) (c8 : PySem.W.codeIn K cd8 "how_far" = true) (k8 : PySem.W.keepIn K (.ref f8) = true)
    (a9 : PySem.W.nsIn K mainGlobals "nearest" = some (some (.ref f9))) (l9 : K.lookup f9 = some ⟨oc9, od9, .func (PySem.W.fnOf "nearest" "nearest" (defArgs sNear) (defBody sNear) (defScope sNear) .none kV9 dc9 pm9 an9 cd9 ct9), sl9⟩) (c9 : PySem.W.codeIn K cd9 "nearest" = true) (k9 : PySem.W.keepIn K (.ref f9) = true)
    (a10 : PySem.W.nsIn K mainGlobals "nearest_within" = some (some (.ref f10))) (l10 : K.lookup f10 = some ⟨oc10, od10, .func (PySem.W.fnOf "nearest_within" "nearest_within" (defArgs sWi) (defBody sWi) (defScope sWi) .none kV10 dc10 pm10 an10 cd10 ct10), sl10⟩) (c10 : PySem.W.codeIn K cd10 "nearest_within" = true) (k10 : PySem.W.keepIn K (.ref f10) = true)
    (a11 : PySem.W.nsIn K mainGlobals "state" = some (some (.ref f11))) (l11 : K.lookup f11 = some ⟨oc11, od11, .func (PySem.W.fnOf "state" "state" (defArgs sState) (defBody sState) (defScope sState) .none kV11 dc11 pm11 an11 cd11 ct11), sl11⟩) (c11 : PySem.W.codeIn K cd11 "state" = true) (k11 : PySem.W.keepIn K (.ref f11) = true)
    (a12 : PySem.W.nsIn K mainGlobals "mo_states" = some (some (.ref f12))) (l12 : K.lookup f12 = some ⟨oc12, od12, .func (PySem.W.fnOf "mo_states" "mo_states" (defArgs sSt) (defBody sSt) (defScope sSt) .none kV12 dc12 pm12 an12 cd12 ct12), sl12⟩) (c12 : PySem.W.codeIn K cd12 "mo_states" = true) (k12 : PySem.W.keepIn K (.ref f12) = true)
    (n0 : PySem.W.nsIn K mainGlobals "WORDS" = some (some (.int 4294967296 t0)))
    (n1 : PySem.W.nsIn K mainGlobals "LEAST_BELOW_ZERO" = some (some (.int 2147483648 t1)))
    (n2 : PySem.W.nsIn K mainGlobals "NUMBERS_A_POINT" = some (some (.int 4 t2)))
    (n3 : PySem.W.nsIn K mainGlobals "LAST_TIME" = some (some (.int 65535 t3)))
    (n4 : PySem.W.nsIn K mainGlobals "FARTHEST_PLACE" = some (some (.int 32768 t4)))
    (n5 : PySem.W.nsIn K mainGlobals "GREATEST_BRIGHTNESS" = some (some (.int 65536 t5)))
    (n6 : PySem.W.nsIn K mainGlobals "MOST_POINTS_SEEN" = some (some (.int 256 t6)))
    (n7 : PySem.W.nsIn K mainGlobals "MOST_R" = some (some (.int 65535 t7)))
    (n8 : PySem.W.nsIn K mainGlobals "MOST_D" = some (some (.int 131072 t8)))
    (n9 : PySem.W.nsIn K mainGlobals "AS_IT_WAS" = some (some (.int 0 t9)))
    (n10 : PySem.W.nsIn K mainGlobals "BRIGHTER" = some (some (.int 1 t10)))
    (n11 : PySem.W.nsIn K mainGlobals "FAINTER" = some (some (.int 2 t11)))
    (n12 : PySem.W.nsIn K mainGlobals "GONE" = some (some (.int 3 t12)))
    (z0 : PySem.W.nsIn K mainGlobals "len" = some none)
    (z1 : PySem.W.nsIn K mainGlobals "range" = some none)
    (z2 : PySem.W.nsIn K mainGlobals "abs" = some none)
    (z3 : PySem.W.nsIn K mainGlobals "any" = some none)
    (z4 : PySem.W.nsIn K mainGlobals "all" = some none)
    (pg : PySem.W.plainGet K C Str.empty = true) (hd : PySem.W.hasDictIn K C = true) (po : PySem.W.plainOver K C = true) (sa : PySem.W.findIn K (.ref C) "__setattr__" = some (some (.builtin "object.__setattr__"))) (mk : PySem.W.makesIn K C = true) (kc : PySem.W.keepIn K (.ref C) = true)
    (nT : PySem.W.findIn K (.ref C) "t" = some none) (nX : PySem.W.findIn K (.ref C) "x" = some none) (nY : PySem.W.findIn K (.ref C) "y" = some none) (nB : PySem.W.findIn K (.ref C) "brightness" = some none) :
    ∃ fd : FuncData, (∀ (s : Shared) (us : List Value), us.length = (["r", "d", "known", "l"] : List Str).length → BindsTo s fd ⟨us, []⟩ ((["r", "d", "known", "l"] : List Str).zip us)) ∧ ∀ base : Heap, K.In base → base.Ns mainGlobals mg → FnOk P w K mg base CX0 6 fa fd ["r", "d", "known", "l"] (spSt K) := by
  have e := hfa.symm.trans (PySem.W.mg_of X G a12)
  cases e
  have T : Txt K mg C := ⟨⟨pg, hd, po, sa⟩, nT, nX, nY, nB, PySem.W.mg_of X G aC, ⟨_, PySem.W.mg_of X G n0⟩, ⟨_, PySem.W.mg_of X G n1⟩, ⟨_, PySem.W.mg_of X G n2⟩, ⟨_, PySem.W.mg_of X G n3⟩, ⟨_, PySem.W.mg_of X G n4⟩, ⟨_, PySem.W.mg_of X G n5⟩, PySem.W.mg_none_of X G z0, PySem.W.mg_none_of X G z1, PySem.W.mg_none_of X G z2, PySem.W.mg_none_of X G z3, PySem.W.mg_none_of X G z4⟩
  have F1 := fun_mk (st := sInit) l1 c1 k1
  have b1 := F1.binds (ps := ["self", "t", "x", "y", "brightness"]) fun _ _ _ _ _ _ us hl => match us, hl with | [_, _, _, _, _], _ => rfl
  have F2 := fun_mk (st := sSg) l2 c2 k2
  have b2 := F2.binds (ps := ["word"]) fun _ _ _ _ _ _ us hl => match us, hl with | [_], _ => rfl
  have F3 := fun_mk (st := sCnt) l3 c3 k3
  have b3 := F3.binds (ps := ["numbers"]) fun _ _ _ _ _ _ us hl => match us, hl with | [_], _ => rfl
  have F4 := fun_mk (st := sRp) l4 c4 k4
  have b4 := F4.binds (ps := ["numbers", "k"]) fun _ _ _ _ _ _ us hl => match us, hl with | [_, _], _ => rfl
  have F5 := fun_mk (st := sRps) l5 c5 k5
  have b5 := F5.binds (ps := ["numbers"]) fun _ _ _ _ _ _ us hl => match us, hl with | [_], _ => rfl
  have F6 := fun_mk (st := sTold) l6 c6 k6
  have b6 := F6.binds (ps := ["point"]) fun _ _ _ _ _ _ us hl => match us, hl with | [_], _ => rfl
  have F7 := fun_mk (st := sRef) l7 c7 k7
  have b7 := F7.binds (ps := ["in_range", "most", "lists"]) fun _ _ _ _ _ _ us hl => match us, hl with | [_, _, _], _ => rfl
  have F8 := fun_mk (st := sFar) l8 c8 k8
  have b8 := F8.binds (ps := ["a", "b"]) fun _ _ _ _ _ _ us hl => match us, hl with | [_, _], _ => rfl
  have F9 := fun_mk (st := sNear) l9 c9 k9
  have b9 := F9.binds (ps := ["point", "others"]) fun _ _ _ _ _ _ us hl => match us, hl with | [_, _], _ => rfl
  have F10 := fun_mk (st := sWi) l10 c10 k10
  have b10 := F10.binds (ps := ["r", "point", "others"]) fun _ _ _ _ _ _ us hl => match us, hl with | [_, _, _], _ => rfl
  have F11 := fun_mk (st := sState) l11 c11 k11
  have b11 := F11.binds (ps := ["r", "d", "point", "seen"]) fun _ _ _ _ _ _ us hl => match us, hl with | [_, _, _, _], _ => rfl
  have F12 := fun_mk (st := sSt) l12 c12 k12
  refine ⟨PySem.W.fnOf "mo_states" "mo_states" (defArgs sSt) (defBody sSt) (defScope sSt) .none kV12 dc12 pm12 an12 cd12 ct12, fun s us hu => match us, hu with | [_, _, _, _], _ => .of_eq rfl, fun base _ _ => ?_⟩
  have M : Mk K C f1 := ⟨mk, a1, i1, kc⟩
  have G1 : FnOk P w K mg base CX0 1 f1 _ _ (spInit C) := ok_init F1 T
  have D2 : Dn P w K mg base "signed" 1 _ _ := ⟨⟨_, _, PySem.W.mg_of X G a2, k2, b2, ok_sg F2 T⟩⟩
  have D3 : Dn P w K mg base "count_points" 1 _ _ := ⟨⟨_, _, PySem.W.mg_of X G a3, k3, b3, ok_cnt F3 T⟩⟩
  have D4 : Dn P w K mg base "read_point" 3 _ _ := ⟨⟨_, _, PySem.W.mg_of X G a4, k4, b4, ok_rp F4 T M G1 b1 D2⟩⟩
  have D5 : Dn P w K mg base "read_points" 4 _ _ := ⟨⟨_, _, PySem.W.mg_of X G a5, k5, b5, ok_rps F5 T D3 D4⟩⟩
  have D6 : Dn P w K mg base "is_as_told" 1 _ _ := ⟨⟨_, _, PySem.W.mg_of X G a6, k6, b6, ok_told F6 T⟩⟩
  have D7 : Dn P w K mg base "refusal" 5 _ _ := ⟨⟨_, _, PySem.W.mg_of X G a7, k7, b7, ok_ref F7 T D3 D5 D6⟩⟩
  have D8 : Dn P w K mg base "how_far" 1 _ _ := ⟨⟨_, _, PySem.W.mg_of X G a8, k8, b8, ok_far F8 T⟩⟩
  have D9 : Dn P w K mg base "nearest" 2 _ _ := ⟨⟨_, _, PySem.W.mg_of X G a9, k9, b9, ok_near F9 D8⟩⟩
  have D10 : Dn P w K mg base "nearest_within" 3 _ _ := ⟨⟨_, _, PySem.W.mg_of X G a10, k10, b10, ok_wi F10 D8 D9⟩⟩
  have D11 : Dn P w K mg base "state" 4 _ _ := ⟨⟨_, _, PySem.W.mg_of X G a11, k11, b11, ok_state F11 T D10 ⟨_, PySem.W.mg_of X G n9⟩ ⟨_, PySem.W.mg_of X G n10⟩ ⟨_, PySem.W.mg_of X G n11⟩ ⟨_, PySem.W.mg_of X G n12⟩⟩⟩
  exact ok_st F12 ⟨_, PySem.W.mg_of X G n6⟩ ⟨_, PySem.W.mg_of X G n7⟩ ⟨_, PySem.W.mg_of X G n8⟩ D7 D5 D11
end Nm
open PySem PySem.W PyProof.Rows
set_option maxRecDepth 100000 in
set_option maxHeartbeats 0 in
theorem PySem.Challenge.cw_newandmoving_s02_mo_states_holds : PySem.Challenge.rw_newandmoving_s02_mo_states.Holds := by
  w_on; k_headS; (case hw => exact ⟨[.int 0, .int 0, .list [], .list []], by decide +kernel, by decide +kernel⟩)
  k_fillS
  refine L2.walk_specK (r := PySem.Challenge.rw_newandmoving_s02_mo_states) (k := 6) (CX := L2.CX0) (ps := ["r", "d", "known", "l"]) (sp := Nm.spSt) (by decide +kernel) rfl rfl ⟨rfl, by decide, by decide⟩ (fun w h Y => PySem.W.kIn_of Y) ?F ?S (fun _ _ _ _ z => z)
  case F =>
    intro w mg fa h Y KX G hmg
    refine' Nm.all_mk KX G hmg ?aC ?a1 ?i1 ?l1 ?c1 ?k1 ?a2 ?l2 ?c2 ?k2 ?a3 ?l3 ?c3 ?k3 ?a4 ?l4 ?c4 ?k4 ?a5 ?l5 ?c5 ?k5 ?a6 ?l6 ?c6 ?k6 ?a7 ?l7 ?c7 ?k7 ?a8 ?l8 ?c8 ?k8 ?a9 ?l9 ?c9 ?k9 ?a10 ?l10 ?c10 ?k10 ?a11 ?l11 ?c11 ?k11 ?a12 ?l12 ?c12 ?k12 ?n0 ?n1 ?n2 ?n3 ?n4 ?n5 ?n6 ?n7 ?n8 ?n9 ?n10 ?n11 ?n12 ?z0 ?z1 ?z2 ?z3 ?z4 ?pg ?hd ?po ?sa ?mk ?kc ?nT ?nX ?nY ?nB
    (case aC => k_is)
    (case a1 => k_is)
    (case i1 => k_is)
    (case l1 => k_is)
    (case c1 => k_is)
    (case k1 => k_is)
    (case a2 => k_is)
    (case l2 => k_is)
    (case c2 => k_is)
    (case k2 => k_is)
    (case a3 => k_is)
    (case l3 => k_is)
    (case c3 => k_is)
    (case k3 => k_is)
    (case a4 => k_is)
    (case l4 => k_is)
    (case c4 => k_is)
    (case k4 => k_is)
    (case a5 => k_is)
    (case l5 => k_is)
    (case c5 => k_is)
    (case k5 => k_is)
    (case a6 => k_is)
    (case l6 => k_is)
    (case c6 => k_is)
    (case k6 => k_is)
    (case a7 => k_is)
    (case l7 => k_is)
    (case c7 => k_is)
    (case k7 => k_is)
    (case a8 => k_is)
    (case l8 => k_is)
    (case c8 => k_is)
    (case k8 => k_is)
    (case a9 => k_is)
    (case l9 => k_is)
    (case c9 => k_is)
    (case k9 => k_is)
    (case a10 => k_is)
    (case l10 => k_is)
    (case c10 => k_is)
    (case k10 => k_is)
    (case a11 => k_is)
    (case l11 => k_is)
    (case c11 => k_is)
    (case k11 => k_is)
    (case a12 => k_is)
    (case l12 => k_is)
    (case c12 => k_is)
    (case k12 => k_is)
    (case n0 => k_is)
    (case n1 => k_is)
    (case n2 => k_is)
    (case n3 => k_is)
    (case n4 => k_is)
    (case n5 => k_is)
    (case n6 => k_is)
    (case n7 => k_is)
    (case n8 => k_is)
    (case n9 => k_is)
    (case n10 => k_is)
    (case n11 => k_is)
    (case n12 => k_is)
    (case z0 => k_is)
    (case z1 => k_is)
    (case z2 => k_is)
    (case z3 => k_is)
    (case z4 => k_is)
    (case pg => k_is)
    (case hd => k_is)
    (case po => k_is)
    (case sa => k_is)
    (case mk => k_is)
    (case kc => k_is)
    (case nT => k_is)
    (case nX => k_is)
    (case nY => k_is)
    (case nB => k_is)
  case S =>
    intro K H xs a hO hwi hask hx
    obtain ⟨r, d, kn, ln, u⟩ := a
    have q : ((Codec.inInt 0 4294967295 r) && ((Codec.inInt 0 4294967295 d) && (((Codec.inLen 0 1100 kn && kn.all (Codec.inInt 0 4294967295))) && (((Codec.inLen 0 1100 ln && ln.all (Codec.inInt 0 4294967295))) && true)))) = true := hwi
    simp only [Bool.and_eq_true, List.all_eq_true] at q
    obtain ⟨q1, qd, ⟨q2, q3⟩, ⟨q4, q5⟩, _⟩ := q
    have hk : My.Wd kn := fun x hx => (Codec.inInt_iff.mp (q3 x hx)).1
    have hl : My.Wd ln := fun x hx => (Codec.inInt_iff.mp (q5 x hx)).1
    have d0 : 0 ≤ d := (Codec.inInt_iff.mp qd).1
    have r0 : 0 ≤ r := (Codec.inInt_iff.mp q1).1
    cases hx with
    | cons h1 h2 =>
      cases h1
      cases h2 with
      | cons hd h2 =>
       cases hd
       cases h2 with
       | cons h2 h3 =>
        cases h3 with
        | cons h3 h4 =>
          cases h4
          cases h2 with
          | lst hs2 ha2 =>
            cases h3 with
            | lst hs3 ha3 =>
              have e2 := L2.ints_dw kn _ ha2
              have e3 := L2.ints_dw ln _ ha3
              subst e2 e3
              refine ⟨r, d, _, _, kn, ln, rfl, r0, d0, hs2, (Codec.inNat_iff.mp q2).2, hs3, (Codec.inNat_iff.mp q4).2, fun H' p hp => ?_⟩
              show L2.Dw K H' (.ref p) (.list ((PySh72.mo_states r d kn ln).map WData.int))
              rw [My.states_is r0 d0 hk hl]
              exact .lst (L2.SqL.of hp) (L2.dw_ints _)
#print axioms PySem.Challenge.cw_newandmoving_s02_mo_states_holds


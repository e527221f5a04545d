import PyProof.Rows.All
import Wide.All
import OpenK.AllK
import Wide.FinOn
import Open.SpecLaws
import KE.OsHead
import KE.OsGo
import HandS.Base
import HandS.Call
import HandS.List
import HandS.Comp
import HandS.Ends
import HandS.Spec
import HandS.Words
import HandS.WordsList
import HandS.Wide
import PySem.Challenge.RW_newandmoving_s09_mo_chance1
set_option Elab.async false
set_option linter.all false
set_option maxRecDepth 100000
set_option maxHeartbeats 2000000
namespace My
/-! ### chance: what is due, as a plain function -/
def chanceAns (n r w h : Int) : List Int := [min 65536 (n % 4096 * (2 * (r % 1024) + 1) * (2 * (r % 1024) + 1) * 65536 / (max 1 (w % 65536) * max 1 (h % 65536)))]
theorem call_chance (n r w h : Int) : Sh72Neutral.callOf [[8, n, r, w, h]] = some (.chance1 (n.toNat) (r.toNat) (w.toNat) (h.toNat)) := rfl
theorem chance_is {n r w h : Int} (hn : 0 ≤ n) (hr : 0 ≤ r) (hw : 0 ≤ w) (hh : 0 ≤ h) : PySh72.mo_chance1 n r w h = chanceAns n r w h := by
  obtain ⟨n, rfl⟩ := Int.eq_ofNat_of_zero_le hn
  obtain ⟨r, rfl⟩ := Int.eq_ofNat_of_zero_le hr
  obtain ⟨w, rfl⟩ := Int.eq_ofNat_of_zero_le hw
  obtain ⟨h, rfl⟩ := Int.eq_ofNat_of_zero_le hh
  unfold PySh72.mo_chance1 Sh72Neutral.f chanceAns
  rw [call_chance]
  show [((Sh72.chance (n % 4096) (r % 1024) (w % 65536) (h % 65536) : Nat) : Int)] = _
  unfold Sh72.chance
  refine congrArg (fun z => [z]) ?_
  have mx : ∀ a b : Nat, ((max a b : Nat) : Int) = max (a : Int) (b : Int) := fun a b => by omega
  have mn : ∀ a b : Nat, ((min a b : Nat) : Int) = min (a : Int) (b : Int) := fun a b => by omega
  rw [mn, Int.natCast_ediv, Int.natCast_mul, Int.natCast_mul, Int.natCast_mul, Int.natCast_mul, mx, mx, Int.natCast_add, Int.natCast_mul, Int.natCast_emod, Int.natCast_emod, Int.natCast_emod, Int.natCast_emod]
  rfl
end My
namespace Nm
open PySem PySem.Spec PyProof.Rows L2
open PySem.W (Codec)
open My
/-- a whole number of the module's top -/
theorem pgi {X : Cx} {x : Str} {i : Int} {t : Tok} {pos : Pos} (hg : Gl X x) (hm : X.mg x = some (.int i t)) (hd : (x == ("__debug__" : Str)) = false := by decide) : PE X (.Name x pos) (tC (.int i)) := pe_glob (v := .int i) hg hm ⟨t, rfl⟩ hd
/-! ### the text by places -/
def top (i : Nat) : Stmt := PySem.Challenge.pw_newandmoving_s09_mo_chance1.main.body.getD i (.Pass ⟨0, 0, 0, 0⟩)
section
variable {P : Program} {w : World} {K : PySem.W.Frag} {mg : Str → Option Value} {base : Heap}
abbrev sMoC : Stmt := top 4
def spMoC (K : PySem.W.Frag) : Sp := fun vs H Q _ => ∃ (n r w h : Int), vs = [.int n, .int r, .int w, .int h] ∧ (0 ≤ n ∧ n ≤ 65535) ∧ (0 ≤ r ∧ r ≤ 65535) ∧ (0 ≤ w ∧ w ≤ 65535) ∧ (0 ≤ h ∧ h ≤ 65535) ∧
  ∀ (H' : Hp) (p : Addr), H' p = some (.lst ((chanceAns n r w h).map V.int)) → Q (.ref p) H'
abbrev nMoC : List Str := ["n", "r", "w", "h", "side", "reached", "field"]
theorem scMoC : FnScope nMoC ["n", "r", "w", "h"] (defScope sMoC) := ⟨rfl, rfl, rfl, by decide +kernel, rfl, by decide +kernel, by decide +kernel⟩
theorem side_is {i : Int} (h0 : 0 ≤ i) (h1 : i ≤ 65535) : (if (1 : Int) > i then 1 else i) = max 1 (i % 65536) := by
  rw [Int.emod_eq_of_lt h0 (by omega)]
  by_cases h : (1 : Int) > i
  · rw [if_pos h]
    omega
  · rw [if_neg h]
    omega
theorem cap_is (i : Int) : (if (65536 : Int) < i then 65536 else i) = min 65536 i := by
  by_cases h : (65536 : Int) < i
  · rw [if_pos h]
    omega
  · rw [if_neg h]
    omega
theorem ok_moc {f : Addr} {fd : FuncData} (F : Fun K "mo_chance1" "mo_chance1" sMoC f fd) (c1 : ∃ t, mg "CHANCE_POINTS" = some (.int 4096 t)) (c2 : ∃ t, mg "CHANCE_REACH" = some (.int 1024 t)) (c3 : ∃ t, mg "CERTAIN" = some (.int 65536 t))
    (zx : mg "max" = none) (zn : mg "min" = none) : FnOk P w K mg base CX0 1 f fd ["n", "r", "w", "h"] (spMoC K) := by
  obtain ⟨_, c1⟩ := c1
  obtain ⟨_, c2⟩ := c2
  obtain ⟨_, c3⟩ := c3
  refine F.ok scMoC (fun vs H Q E h => ?_) (fun cdv A outer s H vs Q E hr h => ?_)
  · obtain ⟨n, r, w, h, rfl, _⟩ := h
    rfl
  · obtain ⟨n, r, w, h, rfl, ⟨n0, n1⟩, ⟨r0, r1⟩, ⟨w0, w1⟩, ⟨h0, h1⟩, k⟩ := h
    refine ⟨_, pss_cons (ps_set (i := 4) scMoC.nd rfl (Or.inl rfl) (pe_op op_add (pe_op op_mul pe_int (pe_op op_mod (pv 1) (pgi rfl c2))) pe_int))
      (pss_cons (ps_set (i := 5) scMoC.nd rfl (Or.inl rfl) (pe_op op_mul (pe_op op_mul (pe_op op_mod (pv 0) (pgi rfl c1)) (pv 4)) (pv 4)))
      (pss_cons (ps_set (i := 6) scMoC.nd rfl (Or.inl rfl) (pe_op op_mul (pe_callB (call_max2 rfl) (by rfl) zx (by decide +kernel) (pa_cons (pv 2) (pa_cons pe_int pa_nil))) (pe_callB (call_max2 rfl) (by rfl) zx (by decide +kernel) (pa_cons (pv 3) (pa_cons pe_int pa_nil)))))
      (pss_one (ps_ret (pe_lst (pa_cons (pe_callB (call_min2 rfl) (by rfl) zn (by decide +kernel) (pa_cons (pe_op op_fdivW (pe_op op_mul (pv 5) (pgi rfl c3)) (pv 6)) (pa_cons (pgi rfl c3) pa_nil))) pa_nil)))))), ?_⟩
    unfold chanceAns at k
    have b1 : 0 ≤ r % 1024 ∧ r % 1024 < 1024 := ⟨Int.emod_nonneg _ (by decide), Int.emod_lt_of_pos _ (by decide)⟩
    have e1 : r % 1024 * 2 = 2 * (r % 1024) := Int.mul_comm _ _
    have bw : 0 < max 1 (w % 65536) ∧ max 1 (w % 65536) ≤ 65536 := by omega
    have bh : 0 < max 1 (h % 65536) ∧ max 1 (h % 65536) ≤ 65536 := by omega
    refine ⟨_, rfl, _, _, rfl, rfl, (by show (0 : Int) < 1024; decide), _, _, rfl, rfl, .inl ⟨by decide, by decide⟩, _, _, rfl, rfl, ?_⟩
    refine ⟨_, rfl, _, _, rfl, rfl, (by show (0 : Int) < 4096; decide), _, rfl, _, _, rfl, rfl, .inr ⟨by omega, by omega⟩, _, rfl, _, _, rfl, rfl, .inr ⟨by omega, by omega⟩, ?_⟩
    refine ⟨_, rfl, _, _, rfl, _, rfl, _, _, rfl, ?_⟩
    rw [side_is w0 w1, side_is h0 h1]
    refine ⟨_, _, rfl, rfl, .inl ⟨by omega, by omega⟩, ?_⟩
    have hf : 0 < max 1 (w % 65536) * max 1 (h % 65536) := Int.mul_pos bw.1 bh.1
    have hf2 : (max 1 (w % 65536) * max 1 (h % 65536)).natAbs < 2 ^ 64 := by
      rw [Int.natAbs_mul]
      refine Nat.lt_of_le_of_lt (Nat.mul_le_mul (show _ ≤ 65536 by omega) (show _ ≤ 65536 by omega)) (by decide)
    refine ⟨_, rfl, _, _, rfl, rfl, .inr ⟨by decide, by decide⟩, _, rfl, _, _, rfl, rfl, wide_div hf hf2 (by decide) (by decide), _, _, rfl, ?_⟩
    rw [cap_is]
    refine ⟨(by show 1 ≤ sizeLine; decide), fun p hp => ?_⟩
    exact k _ p upd_same
end
theorem all_mk {P : Program} {w : World} {K : PySem.W.Frag} {h : Heap} {mg : Str → Option Value} {fa  f1 : Addr} (X : K.In h) (G : h.Ns mainGlobals mg) (hfa : mg "mo_chance1" = some (.ref fa))
    {od1 an1 : Option Addr} {sl1 : Array (Option Value)} {oc1 kV1 dc1 pm1 cd1 ct1 : Value} {t0 t1 t2 : Tok}
    (a1 : PySem.W.nsIn K mainGlobals "mo_chance1" = some (some (.ref f1)))
    (l1 : K.lookup f1 = some ⟨oc1, od1, .func (PySem.W.fnOf "mo_chance1" "mo_chance1" (defArgs sMoC) (defBody sMoC) (defScope sMoC) .none kV1 dc1 pm1 an1 cd1 ct1), sl1⟩)
    (c1 : PySem.W.codeIn K cd1 "mo_chance1" = true)
    (k1 : PySem.W.keepIn K (.ref f1) = true)
    (n0 : PySem.W.nsIn K mainGlobals "CHANCE_POINTS" = some (some (.int 4096 t0)))
    (n1 : PySem.W.nsIn K mainGlobals "CHANCE_REACH" = some (some (.int 1024 t1)))
    (n2 : PySem.W.nsIn K mainGlobals "CERTAIN" = some (some (.int 65536 t2)))
    (z0 : PySem.W.nsIn K mainGlobals "max" = some none)
    (z1 : PySem.W.nsIn K mainGlobals "min" = some none) :
    ∃ fd : FuncData, (∀ (s : Shared) (us : List Value), us.length = (["n", "r", "w", "h"] : List Str).length → BindsTo s fd ⟨us, []⟩ ((["n", "r", "w", "h"] : List Str).zip us)) ∧ ∀ base : Heap, K.In base → base.Ns mainGlobals mg → FnOk P w K mg base CX0 1 fa fd ["n", "r", "w", "h"] (spMoC K) := by
  have e := hfa.symm.trans (PySem.W.mg_of X G a1)
  cases e
  have F1 := fun_mk (st := sMoC) l1 c1 k1
  refine ⟨PySem.W.fnOf "mo_chance1" "mo_chance1" (defArgs sMoC) (defBody sMoC) (defScope sMoC) .none kV1 dc1 pm1 an1 cd1 ct1, fun s us hu => match us, hu with | [_, _, _, _], _ => .of_eq rfl, fun base _ _ => ?_⟩
  exact ok_moc F1 ⟨_, PySem.W.mg_of X G n0⟩ ⟨_, PySem.W.mg_of X G n1⟩ ⟨_, PySem.W.mg_of X G n2⟩ (PySem.W.mg_none_of X G z0) (PySem.W.mg_none_of X G z1)
end Nm
open PySem PySem.W PyProof.Rows
set_option maxRecDepth 100000 in
set_option maxHeartbeats 0 in
theorem PySem.Challenge.cw_newandmoving_s09_mo_chance1_holds : PySem.Challenge.rw_newandmoving_s09_mo_chance1.Holds := by
  w_on; k_headS; (case hw => exact ⟨[.int 0, .int 0, .int 0, .int 0], by decide +kernel, by decide +kernel⟩)
  k_fillS
  refine L2.walk_specK (r := PySem.Challenge.rw_newandmoving_s09_mo_chance1) (k := 1) (CX := L2.CX0) (ps := ["n", "r", "w", "h"]) (sp := Nm.spMoC) (by decide +kernel) rfl rfl ⟨rfl, by decide, by decide⟩ (fun w h Y => PySem.W.kIn_of Y) ?F ?S (fun _ _ _ _ z => z)
  case F =>
    intro w mg fa h Y KX G hmg
    refine' Nm.all_mk KX G hmg ?a1 ?l1 ?c1 ?k1 ?n0 ?n1 ?n2 ?z0 ?z1
    (case a1 => k_is)
    (case l1 => k_is)
    (case c1 => k_is)
    (case k1 => k_is)
    (case n0 => k_is)
    (case n1 => k_is)
    (case n2 => k_is)
    (case z0 => k_is)
    (case z1 => k_is)
  case S =>
    intro K H xs a hO hwi hask hx
    obtain ⟨n, r, w, h, u⟩ := a
    have qq : ((Codec.inInt 0 65535 n) && ((Codec.inInt 0 65535 r) && ((Codec.inInt 0 65535 w) && ((Codec.inInt 0 65535 h) && true)))) = true := hwi
    simp only [Bool.and_eq_true, List.all_eq_true] at qq
    obtain ⟨q_n, q_r, q_w, q_h, _⟩ := qq
    have lo_n : 0 ≤ n := (Codec.inInt_iff.mp q_n).1
    have hi_n : n ≤ 65535 := (Codec.inInt_iff.mp q_n).2
    have lo_r : 0 ≤ r := (Codec.inInt_iff.mp q_r).1
    have hi_r : r ≤ 65535 := (Codec.inInt_iff.mp q_r).2
    have lo_w : 0 ≤ w := (Codec.inInt_iff.mp q_w).1
    have hi_w : w ≤ 65535 := (Codec.inInt_iff.mp q_w).2
    have lo_h : 0 ≤ h := (Codec.inInt_iff.mp q_h).1
    have hi_h : h ≤ 65535 := (Codec.inInt_iff.mp q_h).2
    cases hx with
    | cons g0 h0 =>
      cases g0
      cases h0 with
      | cons g1 h1 =>
        cases g1
        cases h1 with
        | cons g2 h2 =>
          cases g2
          cases h2 with
          | cons g3 h3 =>
            cases g3
            cases h3
            refine ⟨n, r, w, h, rfl, ⟨lo_n, hi_n⟩, ⟨lo_r, hi_r⟩, ⟨lo_w, hi_w⟩, ⟨lo_h, hi_h⟩, fun H' p hp => ?_⟩
            show L2.Dw K H' (.ref p) (.list ((PySh72.mo_chance1 n r w h).map WData.int))
            rw [My.chance_is lo_n lo_r lo_w lo_h]
            exact .lst (L2.SqL.of hp) (L2.dw_ints _)
#print axioms PySem.Challenge.cw_newandmoving_s09_mo_chance1_holds



import PyProof.Rows.All
import Wide.All
import OpenK.AllK
import Wide.FinOn
import HandS.ForMost
import HandS.Wide
import HandS.IsInst
import HandS.FStr
import PySem.Challenge.RW_stillroom_k02_digests
set_option Elab.async false
set_option linter.all false
set_option maxRecDepth 100000
namespace K02
open PySem PySem.Spec PyProof.Rows L2

/-! ### rules with plainer readings -/
section
variable {X : Cx}
theorem CallR.of {f : Value} {r r' : List V → Hp → VK → Prop} (h : CallR X f r) (k : ∀ xs H Q, r' xs H Q → r xs H Q) : CallR X f r' := fun pins s σ H xs us Q I rv q => h pins s σ H xs us Q I rv (k xs H Q q)
theorem OpR.of {f : Value → Value → Sem Value} {r r' : R2} (h : OpR X f r) (k : ∀ x y H Q, r' x y H Q → r x y H Q) : OpR X f r' := fun pins s σ H x y v u Q I rx ry q => h pins s σ H x y v u Q I rx ry (k x y H Q q)
/-- the name of a plain value's type -/
def tnm : V → Option String
  | .non => some "NoneType"
  | .bl _ => some "bool"
  | .int _ => some "int"
  | .str _ => some "str"
  | _ => none
theorem tnm_int (i : Int) : tnm (.int i) = some "int" := rfl
theorem tnm_bl (b : Bool) : tnm (.bl b) = some "bool" := rfl
theorem tnm_str (x : Str) : tnm (.str x) = some "str" := rfl
theorem tnm_non : tnm .non = some "NoneType" := rfl
theorem tnm_ref (p : Addr) : tnm (.ref p) = none := rfl
theorem scal_ii (i j : Int) : scal (.int i) (.int j) = true := rfl
theorem scal_ss (i j : Str) : scal (.str i) (.str j) = true := rfl
theorem scal_bb (i j : Bool) : scal (.bl i) (.bl j) = true := rfl
theorem scal_nn : scal .non .non = true := rfl
theorem scal_in (i : Int) : scal (.int i) .non = true := rfl
theorem scal_ni (i : Int) : scal .non (.int i) = true := rfl
def rIsiB : List V → Hp → VK → Prop := fun vs H Q => (∃ x n a b, vs = [x, .ty n] ∧ tnm x = some a ∧ kitB a n = some b ∧ Q (.bl b) H) ∨
  (∃ p n xs b, vs = [.ref p, .ty n] ∧ H p = some (.lst xs) ∧ kitB "list" n = some b ∧ Q (.bl b) H) ∨ ∃ p n xs b, vs = [.ref p, .ty n] ∧ H p = some (.tup xs) ∧ kitB "tuple" n = some b ∧ Q (.bl b) H
theorem call_isiB : CallR X (.builtin "isinstance") rIsiB := CallR.of call_isi (by
  intro vs H Q h
  rcases h with ⟨x, n, a, b, rfl, ha, hb, q⟩ | ⟨p, n, xs, b, rfl, ha, hb, q⟩ | ⟨p, n, xs, b, rfl, ha, hb, q⟩
  · refine ⟨x, .ty n, .type a, .type n, b, rfl, .ty n, ?_, kit_ty hb, q⟩
    cases x <;> cases ha
    · exact .base .non
    · exact .base (.bl _)
    · exact .base (.int _)
    · exact .base (.str _)
  · exact ⟨.ref p, .ty n, .type "list", .type n, b, rfl, .ty n, .base (.lst ha), kit_ty hb, q⟩
  · exact ⟨.ref p, .ty n, .type "tuple", .type n, b, rfl, .ty n, .base (.tup ha), kit_ty hb, q⟩)
theorem kb1 : kitB "int" "int" = some true := by decide +kernel
theorem kb2 : kitB "int" "bool" = some false := by decide +kernel
theorem kb3 : kitB "bool" "bool" = some true := by decide +kernel
theorem kb4 : kitB "bool" "int" = some true := by decide +kernel
theorem kb5 : kitB "str" "str" = some true := by decide +kernel
theorem kb6 : kitB "str" "int" = some false := by decide +kernel
theorem kb7 : kitB "list" "list" = some true := by decide +kernel
theorem kb8 : kitB "tuple" "tuple" = some true := by decide +kernel
theorem kb9 : kitB "NoneType" "int" = some false := by decide +kernel
theorem kb10 : kitB "NoneType" "list" = some false := by decide +kernel
/-- len, a copy, an item of a tracked list -/
def rLenH : List V → Hp → VK → Prop := fun vs H Q => ∃ p xs, vs = [.ref p] ∧ H p = some (.lst xs) ∧ Q (.int xs.length) H
theorem call_lenH : CallR X (.builtin "len") rLenH := CallR.of call_len_seq (by
  rintro vs H Q ⟨p, xs, rfl, h, q⟩
  exact ⟨p, xs, rfl, .inl (.inl (.inl h)), q⟩)
def rLenT : List V → Hp → VK → Prop := fun vs H Q => ∃ p xs, vs = [.ref p] ∧ H p = some (.tup xs) ∧ Q (.int xs.length) H
theorem call_lenT : CallR X (.builtin "len") rLenT := CallR.of call_len_seq (by
  rintro vs H Q ⟨p, xs, rfl, h, q⟩
  exact ⟨p, xs, rfl, .inr (.inl (.inl h)), q⟩)
def rListH : List V → Hp → VK → Prop := fun vs H Q => ∃ p xs, vs = [.ref p] ∧ H p = some (.lst xs) ∧ ∀ l, H l = none → Q (.ref l) (upd H l (.lst xs))
theorem call_listH : CallR X (.type "list") rListH := CallR.of call_list_of (by
  rintro vs H Q ⟨p, xs, rfl, h, q⟩
  exact ⟨p, xs, rfl, .inl (.inl (.inl h)), q⟩)
theorem ints_dp {K : PySem.W.Frag} {H : Hp} : ∀ ns : List Int, DpAll K H (ns.map V.int) (ns.map PyData.int)
  | [] => .nil
  | n :: r => .cons (.int n) (ints_dp r)
theorem ints_eqv : ∀ ns ms : List Int, PyData.eqvAll (ns.map PyData.int) (ms.map PyData.int) = decide (ns = ms)
  | [], [] => by simp [PyData.eqvAll]
  | [], _ :: _ => by simp [PyData.eqvAll]
  | _ :: _, [] => by simp [PyData.eqvAll]
  | n :: r, m :: q => by
    rw [List.map_cons, List.map_cons, PyData.eqvAll, ints_eqv r q]
    simp only [PyData.eqv, List.cons.injEq, Bool.decide_and]
    by_cases h : n = m <;> simp [h]
theorem ints_lay : ∀ ns : List Int, PyData.canLayAll0 (ns.map PyData.int) = true
  | [] => rfl
  | _ :: r => by rw [List.map_cons, PyData.canLayAll0, ints_lay r]; rfl
theorem ints_depth : ∀ ns : List Int, PyData.depthAll (ns.map PyData.int) = 0
  | [] => rfl
  | _ :: r => by rw [List.map_cons, PyData.depthAll, ints_depth r]; rfl
theorem ints_shaped (ns : List Int) : SeqAt.shaped (.list (ns.map PyData.int)) = true := by
  unfold SeqAt.shaped
  rw [PyData.canLay0, ints_lay, PyData.depth, ints_depth]
  rfl
/-- == and != of two tracked lists of ints -/
def rEqIL : R2 := fun x y H Q => ∃ a b ns ms, x = .ref a ∧ y = .ref b ∧ H a = some (.lst (List.map V.int ns)) ∧ H b = some (.lst (List.map V.int ms)) ∧ Q (.bl (decide (ns = ms))) H
theorem op_eqIL (hu : X.A.units + 64 < cLine) : OpR X (compareOp .Eq) rEqIL := OpR.of (op_eqD hu) (by
  rintro x y H Q ⟨a, b, ns, ms, rfl, rfl, ha, hb, q⟩
  refine ⟨_, _, .lst (.inl (.inl ha)) (ints_dp ns), .lst (.inl (.inl hb)) (ints_dp ms), ints_shaped ns, ints_shaped ms, ?_⟩
  rw [PyData.eqv, ints_eqv]
  exact q)
def rNeIL : R2 := fun x y H Q => ∃ a b ns ms, x = .ref a ∧ y = .ref b ∧ H a = some (.lst (List.map V.int ns)) ∧ H b = some (.lst (List.map V.int ms)) ∧ Q (.bl (!decide (ns = ms))) H
theorem op_neIL (hu : X.A.units + 64 < cLine) : OpR X (compareOp .NotEq) rNeIL := OpR.of (op_neD hu) (by
  rintro x y H Q ⟨a, b, ns, ms, rfl, rfl, ha, hb, q⟩
  refine ⟨_, _, .lst (.inl (.inl ha)) (ints_dp ns), .lst (.inl (.inl hb)) (ints_dp ms), ints_shaped ns, ints_shaped ms, ?_⟩
  rw [PyData.eqv, ints_eqv]
  exact q)
def rIxH : R2 := fun x y H Q => ∃ p xs i v, x = .ref p ∧ y = .int i ∧ H p = some (.lst xs) ∧ atI xs i = some v ∧ Q v H
theorem IxR.of {r r' : R2} (h : IxR X r) (k : ∀ x y H Q, r' x y H Q → r x y H Q) : IxR X r' := fun va sl pins s σ H x y v u Q I rx ry q hs => h va sl pins s σ H x y v u Q I rx ry (k x y H Q q) hs
theorem ix_listH : IxR X rIxH := IxR.of ix_list (by
  rintro x y H Q ⟨p, xs, i, v, e1, e2, h, h2, q⟩
  exact ⟨p, xs, i, v, e1, e2, .inl (.inl h), h2, q⟩)
def rIxTH : R2 := fun x y H Q => ∃ p xs i v, x = .ref p ∧ y = .int i ∧ H p = some (.tup xs) ∧ atI xs i = some v ∧ Q v H
theorem ix_tupH : IxR X rIxTH := IxR.of ix_tup (by
  rintro x y H Q ⟨p, xs, i, v, e1, e2, h, h2, q⟩
  exact ⟨p, xs, i, v, e1, e2, .inl (.inl h), h2, q⟩)
end
/-- a place in bounds -/
theorem ixN_in {n : Nat} {k : Int} (h0 : 0 ≤ k) (h1 : k < n) : ixN n k = some k.toNat := by
  unfold ixN
  rw [if_pos h0, if_pos h1]
theorem atI_in {xs : List Int} {k : Int} (h0 : 0 ≤ k) (h1 : k < xs.length) : ∃ b, xs[k.toNat]? = some b ∧ atI (xs.map V.int) k = some (.int b) := by
  have h : k.toNat < xs.length := by omega
  refine ⟨xs[k.toNat], List.getElem?_eq_getElem h, ?_⟩
  unfold atI
  rw [List.length_map, ixN_in h0 h1]
  show (xs.map V.int)[k.toNat]? = _
  rw [List.getElem?_map, List.getElem?_eq_getElem h]
  rfl
theorem mod_in (x : Int) {m : Int} (h : 0 < m) : 0 ≤ x % m ∧ x % m < m := ⟨Int.emod_nonneg x (by omega), Int.emod_lt_of_pos x h⟩

theorem tyV_upd {K : PySem.W.Frag} {H : Hp} {p : Addr} {xs : List V} : tyV K "list" (.ref p) (upd H p (.lst xs)) = True := eq_true (.inl ⟨rfl, xs, .inl (.inl upd_same)⟩)
theorem nil_sz : (0 ≤ sizeLine) = True := eq_true (Nat.zero_le _)
/-- what a for asks once its walk stands -/
def Loop (J : It) (g : TG) (tb : TS) (D : Ends) (σ : L2.St) (H1 : Hp) : Prop := ∃ W : Nat → Nat → L2.St → Hp → Prop, (∃ m, W 0 m σ H1) ∧ ∀ i m σ H, W i m σ H →
  (J.stop i H ∧ D.nx σ H) ∨ (J.go i H ∧ ∃ N : L2.St → Hp → Prop, (∀ σ' H', N σ' H' → ∃ m', m' < m ∧ W (i + 1) m' σ' H') ∧ ∀ x H', J.yld i H x H' → g x σ H' fun σ2 H2 => tb { D with nx := N, ct := N, bk := D.nx } σ2 H2)
theorem tFor_eq {wi : TI} {g : TG} {tb : TS} {D : Ends} {σ : L2.St} {H : Hp} : tFor wi g tb D σ H = wi σ H fun J H1 => Loop J g tb D σ H1 := rfl
theorem lp_range {n : Nat} {g : TG} {tb : TS} {D : Ends} {σ : L2.St} {H : Hp} (Pv : Nat → L2.St → Hp → Prop) (h0 : Pv 0 σ H)
    (hs : ∀ i σ H, i < n → Pv i σ H → g (.int i) σ H fun σ2 H2 => tb { D with nx := Pv (i + 1), ct := Pv (i + 1), bk := D.nx } σ2 H2) (hd : ∀ σ H, Pv n σ H → D.nx σ H) : Loop (Itr 0 n) g tb D σ H :=
  for_range (lo := 0) Pv h0 (fun i σ H a b => by have := hs i σ H a b; rw [Int.zero_add]; exact this) hd
theorem lp_list {K : PySem.W.Frag} {a : Addr} {xs : List V} {g : TG} {tb : TS} {D : Ends} {σ : L2.St} {H : Hp} (Pv : Nat → L2.St → Hp → Prop) (h0 : Pv 0 σ H) (hl : ∀ i σ H, i ≤ xs.length → Pv i σ H → SqL K H a xs)
    (hs : ∀ i x σ H, xs[i]? = some x → Pv i σ H → g x σ H fun σ2 H2 => tb { D with nx := Pv (i + 1), ct := Pv (i + 1), bk := D.nx } σ2 H2) (hd : ∀ σ H, Pv xs.length σ H → D.nx σ H) : Loop (Itl K a) g tb D σ H := for_list Pv h0 hl hs hd
/-- the same for a comprehension -/
def LcLoop (J : It) (g : TG) (tt : TT) (te : TE) (vs : List Nat) (σ : L2.St) (H1 : Hp) (Q : VK) : Prop := ∀ D, H1 D = none → ∃ W : Nat → Nat → Hp → Prop, (∃ m, W 0 m (upd H1 D (.lst []))) ∧ ∀ i m H, W i m H →
  (J.stop i H ∧ Q (.ref D) H) ∨ (J.go i H ∧ ∃ Nx : Hp → Prop, (∀ H', Nx H' → ∃ m', m' < m ∧ W (i + 1) m' H') ∧ ∀ x H', J.yld i H x H' → g x (wipe σ vs) H' fun σ2 H2 => wipe σ2 vs = wipe σ vs ∧ tt σ2 H2 fun b H3 =>
    if b = true then te σ2 H3 fun y H4 => ∃ acc, H4 D = some (.lst acc) ∧ acc.length < sizeLine ∧ Nx (upd H4 D (.lst (acc ++ [y]))) else Nx H3)
theorem tLc_eq {wi : TI} {g : TG} {tt : TT} {te : TE} {vs : List Nat} {σ : L2.St} {H : Hp} {Q : VK} : tLc wi g tt te vs σ H Q = wi σ H fun J H1 => LcLoop J g tt te vs σ H1 Q := rfl
/-- a comprehension over a list, whose elements leave the heap as it is: L i is what i turns have made -/
theorem lc_pure {K : PySem.W.Frag} {a : Addr} {xs : List V} {g : TG} {tt : TT} {te : TE} {vs : List Nat} {σ : L2.St} {H1 : Hp} {Q : VK} (L : Nat → List V) (hS : SqL K H1 a xs) (h0 : L 0 = [])
    (hs : ∀ i x D, xs[i]? = some x → H1 D = none → g x (wipe σ vs) (upd H1 D (.lst (L i))) fun σ2 H2 => wipe σ2 vs = wipe σ vs ∧ tt σ2 H2 fun b H3 =>
      if b = true then te σ2 H3 fun y H4 => ∃ acc, H4 D = some (.lst acc) ∧ acc.length < sizeLine ∧ upd H4 D (.lst (acc ++ [y])) = upd H1 D (.lst (L (i + 1))) else H3 = upd H1 D (.lst (L (i + 1))))
    (hd : ∀ D, H1 D = none → Q (.ref D) (upd H1 D (.lst (L xs.length)))) : LcLoop (Itl K a) g tt te vs σ H1 Q := by
  intro D hD
  refine lc_list (K := K) (a := a) (xs := xs) (fun i H => H = upd H1 D (.lst (L i))) (by rw [h0]) (fun i H _ e => ?_) (fun i x H hx e => ?_) (fun H e => ?_)
  · subst e
    exact (show Same H1 _ from fun b o e => by rw [upd_ne (ne_of_none e hD)]; exact e).seq hS
  · subst e
    exact hs i x D hx hD
  · subst e
    exact hd D hD
theorem lc_pure_range {n : Nat} {g : TG} {tt : TT} {te : TE} {vs : List Nat} {σ : L2.St} {H1 : Hp} {Q : VK} (L : Nat → List V) (h0 : L 0 = [])
    (hs : ∀ i D, i < n → H1 D = none → g (.int i) (wipe σ vs) (upd H1 D (.lst (L i))) fun σ2 H2 => wipe σ2 vs = wipe σ vs ∧ tt σ2 H2 fun b H3 =>
      if b = true then te σ2 H3 fun y H4 => ∃ acc, H4 D = some (.lst acc) ∧ acc.length < sizeLine ∧ upd H4 D (.lst (acc ++ [y])) = upd H1 D (.lst (L (i + 1))) else H3 = upd H1 D (.lst (L (i + 1))))
    (hd : ∀ D, H1 D = none → Q (.ref D) (upd H1 D (.lst (L n)))) : LcLoop (Itr 0 n) g tt te vs σ H1 Q := by
  intro D hD
  refine lc_range (lo := 0) (n := n) (fun i H => H = upd H1 D (.lst (L i))) (by rw [h0]) (fun i H hi e => ?_) (fun H e => ?_)
  · subst e
    rw [Int.zero_add]
    exact hs i D hi hD
  · subst e
    exact hd D hD
theorem same_upd {H : Hp} {p : Addr} {o : HO} (h : H p = none) : Same H (upd H p o) := fun b x e => by
  rw [upd_ne (ne_of_none e h)]
  exact e
local macro_rules | `(tactic| walk_at "vc") => `(tactic| simp only [tSeq, tAsg, tOp, rI, rI0, rU, tUn, tCB, tCons, tNil, tVar, tC, gName, gSub, rSetL, tRet, tRetN, tIfS, tNext, tTest, tB, tDrop, tIf, tNot, tAnd, tOr, tAndV, tOrV, tNotV, tAug, ipI, tCall, tCmp, t2I, tBreak, tCont, tLst, tTup, tBM, tBM0, rAppend, tyV_upd, rLenH, rLenT, rListH, rIxH, rIxTH, rIxS, rEqIL, rNeIL, rIsiB, tnm_int, tnm_bl, tnm_str, tnm_non, tnm_ref, kb1, kb2, kb3, kb4, kb5, kb6, kb7, kb8, kb9, kb10, rEq, rNe, scal_ii, scal_ss, scal_bb, scal_nn, scal_in, scal_ni,
  tFor_eq, tLc_eq, iRng1, iRng2, iList, iTup, Int.sub_zero, Int.toNat_natCast, Int.natCast_add,
  cxOf, L2.start, List.map_cons, List.map_nil, List.length_cons, List.length_nil, List.reduceReplicate, List.cons_append, List.nil_append, List.append_nil, List.set_cons_zero, List.set_cons_succ, List.getElem?_cons_zero, List.getElem?_cons_succ,
  upd_same, upd_upd, HO.lst.injEq, HO.tup.injEq, nil_sz,
  Option.some.injEq, V.int.injEq, V.bl.injEq, V.ref.injEq, V.str.injEq, V.ty.injEq, exists_eq_left', exists_eq_left, exists_and_left, exists_and_right, List.cons.injEq, and_true, true_and, and_assoc, reduceCtorEq, false_and, and_false, exists_false, exists_const, or_false, false_or, Nat.reduceAdd, Nat.reduceSub, Int.reduceLT, Int.reduceLE, Int.reduceNeg, Int.reducePow, Int.reduceToNat, ite_true, ite_false, Bool.false_eq_true, Bool.not_true, Bool.not_false, decide_true, if_true, if_false])

/-! ### hexadecimal fields of an f-string -/
section
open Builtin Builtin.Float
def hexFmt (W : Nat) : FormatSpec := { fill := 48, align := 61, width := some W, type := some 120 }
def hexDig (n : Nat) : List Nat := (Nat.toDigits 16 n).map fun c => c.toNat
def hexF (W : Nat) (a : Int) : Str := intField' (hexFmt W) (decide (a < 0)) [] (hexDig a.natAbs) [] 4
theorem hexF_nn (W n : Nat) : hexF W (n : Int) = ⟨(List.replicate (W - (hexDig n).length) 48 ++ hexDig n).toArray⟩ := by
  have h0 : decide ((n : Int) < 0) = false := decide_eq_false (by omega)
  have h1 : (n : Int).natAbs = n := by omega
  have h2 : (hexDig n).isEmpty = false := by
    unfold hexDig
    rw [List.isEmpty_map]
    have := tDigits_len_ge 16 n
    cases e : Nat.toDigits 16 n with
    | nil => rw [e] at this; simp at this
    | cons x r => rfl
  unfold hexF intField'
  rw [h0, h1]
  simp [hexFmt, h2]
  omega
structure HexOk (spec : Str) (W : Nat) : Prop where
  hp : parseFormatSpec spec.cps.toList "int" 62 = .ok (hexFmt W)
  hne : (spec.length == 0) = false
  hasc : ((spec.cps.toList.drop 1).any (· ≥ 128) || (spec.cps.getD 0 0 ≥ 128 && !([60, 62, 61, 94] : List Nat).contains (spec.cps.getD 1 0))) = false
  hw : W ≤ 100000
  hsz : spec.length ≤ sizeLine
section
variable {prog : Program} {w : World} {A : Around} {E : Value → Shared → Prop} {s : Shared}
theorem formatField_hex {a : Int} {t : Tok} {spec : Str} {W : Nat} {Q : Value → Shared → Prop} (ok : HexOk spec W) (hlen : (hexF W a).length ≤ sizeLine)
    (h : Q (.str (hexF W a) (s.toks + 1)) { s with toks := s.toks + 1 + 1 }) : wpAny (model prog w) A (formatField (.int a t) spec) Q E s := by
  obtain ⟨hp, hne, hasc, hw, hsz⟩ := ok
  show wpAny _ _ (holding [.int a t] (pyFormat (.int a t) spec)) Q E s
  refine wpAny_holding ?_
  unfold pyFormat
  refine wpAny_bind (wpAny_mkStr ?_ hsz)
  refine wpAny_bind (m := callSpecial? (.int a t) (Str.ofString "__format__") [.str spec s.toks]) (wpAny_callSpecial?_slot (name := Str.ofString "__format__") (typeIs_int _ a t) slot_int_format ?_)
  refine wpAny_call (codeAny_call_builtin slot_int_format.plain entry_int_format (slot_int_format.check _ _ _ _ _ _ _ _ (typeIs_int _ a t) (args_int_format _ _) ?_))
  unfold Builtin.«int.__format__»
  simp only [selfAndOne, noKeywords, Int.intOfSelf, asInt?, asStr?, List.isEmpty_nil, if_true, pure_bind, bind_pure, bind_assoc, hne, hasc, Bool.false_eq_true, if_false,
    show (Value.str spec s.toks == Value.none) = false from rfl]
  refine wpAny_bind (wpAny_typeNameOf (T := "str") (typeIs_str _ _ _) (by decide) fun _ => ?_)
  first | refine wpAny_bind (wpAny_typeNameOfCut_int ?_) | refine wpAny_bind (wpAny_typeNameOf_int ?_)
  simp only [hp, show (hexFmt W).type = some 120 from rfl, Option.getD_some]
  rw [if_pos (by decide)]
  show wpAny _ _ (if _ then _ else _) _ _ _
  rw [if_neg (by simp [hexFmt]; omega)]
  simp only [Nat.reduceBEq, Bool.false_eq_true, if_false, if_true, show (hexFmt W).alt = false from rfl]
  show wpAny _ _ (retStr _) _ _ _
  unfold retStr
  refine wpAny_bind (wpAny_mkStr (wpAny_pure ?_) ?hs2)
  case hs2 => exact hlen
  refine wpAny_bind (wpAny_isInstance (typeIs_str _ _ _) isSubtype_str_str (wpAny_pure ?_))
  exact h
end
/-- {x:0Wx} of a number that is not negative -/
def tFmtX (W : Nat) (te : TE) : TE := fun σ H Q => te σ H fun x H1 => ∃ n : Nat, x = .int (n : Int) ∧ (hexF W (n : Int)).length ≤ sizeLine ∧ Q (.str (hexF W (n : Int))) H1
theorem pe_fmtX {X : Cx} {W : Nat} {e : Expr} {te : TE} {pos p1 p2 : Pos} {k : Nat} {sp : String} (ok : HexOk (Str.ofString sp) W) (he : PE X e te) :
    PE X (.FormattedValue e (-1) (some (.JoinedStr [.Constant (.str (Str.ofString sp)) k p1] p2)) pos) (tFmtX W te) := by
  refine ⟨fun pins s σ H Q I h => ?_⟩
  refine wpAny_FormattedValue_spec (thn (he.run pins s σ H _ I h) fun v s1 hv => ?_)
  obtain ⟨x, H1, I1, r1, n, rfl, hz, q⟩ := hv
  obtain ⟨t, rfl⟩ := r1
  refine (pe_joined1 (pe_str (X := X))).run pins s1 σ H1 (fun v H' => v = .str (Str.ofString sp) ∧ H' = H1) I1 ⟨rfl, rfl⟩ |> fun hh => thn hh fun v2 s2 hv2 => ?_
  obtain ⟨x2, H2, I2, r2, rfl, rfl⟩ := hv2
  obtain ⟨t2, rfl⟩ := r2
  exact ⟨_, t2, rfl, formatField_hex ok hz ⟨.str (hexF W (n : Int)), H2, (I2.tok _), ⟨_, rfl⟩, q⟩⟩
end

theorem ok016 : HexOk (Str.ofString "016x") 16 := ⟨by rfl, by decide +kernel, by decide +kernel, by decide, by decide +kernel⟩
def topS (i : Nat) : Stmt := PySem.Challenge.pw_stillroom_k02_digests.main.body.getD i (.Pass ⟨0, 0, 0, 0⟩)
abbrev s_digest : Stmt := topS 4
abbrev s__law_cell : Stmt := topS 6
abbrev s__law_twice : Stmt := topS 7
abbrev s__law_bytes : Stmt := topS 8
abbrev s__law_digest : Stmt := topS 9
abbrev s_law : Stmt := topS 10
theorem sc_digest : FnScope ["data", "number", "byte"] ["data"] (defScope s_digest) := ⟨rfl, rfl, rfl, by decide +kernel, rfl, by decide +kernel, by decide +kernel⟩
theorem sc__law_cell : FnScope ["script", "k"] ["script", "k"] (defScope s__law_cell) := ⟨rfl, rfl, rfl, by decide +kernel, rfl, by decide +kernel, by decide +kernel⟩
theorem sc__law_twice : FnScope ["cell", "k", "x"] ["cell", "k"] (defScope s__law_twice) := ⟨rfl, rfl, rfl, by decide +kernel, rfl, by decide +kernel, by decide +kernel⟩
theorem sc__law_bytes : FnScope ["cell", "size", "left", "great", "data", "k"] ["cell", "size"] (defScope s__law_bytes) := ⟨rfl, rfl, rfl, by decide +kernel, rfl, by decide +kernel, by decide +kernel⟩
theorem sc__law_digest : FnScope ["data", "number", "byte", "text", "turn"] ["data"] (defScope s__law_digest) := ⟨rfl, rfl, rfl, by decide +kernel, rfl, by decide +kernel, by decide +kernel⟩
theorem sc_law : FnScope ["script", "data", "given", "found", "cell", "other", "at"] ["script"] (defScope s_law) := ⟨rfl, rfl, rfl, by decide +kernel, rfl, by decide +kernel, by decide +kernel⟩
/-- what the top has left, as far as the walk asks of it -/
structure Txt (K : PySem.W.Frag) (mg : Str → Option Value) where
  f_digest : Addr
  fd_digest : FuncData
  F_digest : Fun K "digest" "digest" s_digest f_digest fd_digest
  b_digest : Binds K fd_digest ["data"] []
  g_digest : mg "digest" = some (.ref f_digest)
  f__law_cell : Addr
  fd__law_cell : FuncData
  F__law_cell : Fun K "_law_cell" "_law_cell" s__law_cell f__law_cell fd__law_cell
  b__law_cell : Binds K fd__law_cell ["script", "k"] []
  g__law_cell : mg "_law_cell" = some (.ref f__law_cell)
  f__law_twice : Addr
  fd__law_twice : FuncData
  F__law_twice : Fun K "_law_twice" "_law_twice" s__law_twice f__law_twice fd__law_twice
  b__law_twice : Binds K fd__law_twice ["cell", "k"] []
  g__law_twice : mg "_law_twice" = some (.ref f__law_twice)
  f__law_bytes : Addr
  fd__law_bytes : FuncData
  F__law_bytes : Fun K "_law_bytes" "_law_bytes" s__law_bytes f__law_bytes fd__law_bytes
  b__law_bytes : Binds K fd__law_bytes ["cell", "size"] []
  g__law_bytes : mg "_law_bytes" = some (.ref f__law_bytes)
  f__law_digest : Addr
  fd__law_digest : FuncData
  F__law_digest : Fun K "_law_digest" "_law_digest" s__law_digest f__law_digest fd__law_digest
  b__law_digest : Binds K fd__law_digest ["data"] []
  g__law_digest : mg "_law_digest" = some (.ref f__law_digest)
  f_law : Addr
  fd_law : FuncData
  F_law : Fun K "law" "law" s_law f_law fd_law
  b_law : Binds K fd_law ["script"] []
  g_law : mg "law" = some (.ref f_law)
  t__DIGEST_START : Tok
  c__DIGEST_START : mg "_DIGEST_START" = some (.int 14695981039346656037 t__DIGEST_START)
  t__DIGEST_FACTOR : Tok
  c__DIGEST_FACTOR : mg "_DIGEST_FACTOR" = some (.int 1099511628211 t__DIGEST_FACTOR)
  t__DIGEST_BITS : Tok
  c__DIGEST_BITS : mg "_DIGEST_BITS" = some (.int 18446744073709551615 t__DIGEST_BITS)
  z_abs : mg "abs" = none
  z_int : mg "int" = none
  z_isinstance : mg "isinstance" = none
  z_len : mg "len" = none
  z_list : mg "list" = none
  z_range : mg "range" = none
  z_str : mg "str" = none
/-! ### the law's own helpers -/
/-- the cell k of the script -/
def cellA (ns : List Int) (k : Nat) : Int := ns.getD k 0
def spCell (K : PySem.W.Frag) : Sp := fun vs H Q _ => ∃ (a : Addr) (ns : List Int) (k : Nat), vs = [.ref a, .int (k : Int)] ∧ SqL K H a (ns.map V.int) ∧ Q (.int (cellA ns k)) H
def tw (c k : Int) : Int :=
  let x := (c * 48271 + k * 69621 + 7) % 2147483647
  let y := (x * x + k * 40692 + 3) % 2147483629
  let z := (y * y + k * 30269 + 5) % 2147483587
  z / 64
def spTwice : Sp := fun vs H Q _ => ∃ (c k : Int), vs = [.int c, .int k] ∧ Q (.int (tw c k)) H
def absI (c : Int) : Int := if c < 0 then -c else c
/-- the law's drawn bytes, turn by turn: what is left of the cell, the bytes so far -/
def byR (c : Int) : Nat → Int × List Int
  | 0 => (absI c, [])
  | i + 1 => if 1000000000000000000 ≤ absI c ∧ 0 < (byR c i).1 then ((byR c i).1 / 256, (byR c i).2 ++ [(byR c i).1 % 256])
      else ((byR c i).1, (byR c i).2 ++ [tw c i % 256])
def byL (c : Int) (n : Nat) : List Int := (byR c n).2
theorem byL_len (c : Int) : ∀ n, (byL c n).length = n
  | 0 => rfl
  | n + 1 => by
    have ih := byL_len c n
    unfold byL at ih ⊢
    unfold byR
    split <;> simp [ih]
theorem byL_mem (c : Int) : ∀ n, ∀ b ∈ byL c n, 0 ≤ b ∧ b < 256
  | 0 => by intro b h; cases h
  | n + 1 => by
    have ih := byL_mem c n
    intro b h
    unfold byL at ih h
    unfold byR at h
    split at h
    all_goals
      rcases List.mem_append.mp h with h | h
      · exact ih b h
      · simp at h; omega
theorem absI_eq (c : Int) : (if c < 0 then -c else c) = absI c := rfl
theorem absI_nn (c : Int) : 0 ≤ absI c := by
  unfold absI
  split <;> omega
def spBytes : Sp := fun vs H Q _ => ∃ (c : Int) (n : Nat), vs = [.int c, .int (n : Int)] ∧ n ≤ 100000 ∧ ∀ p, H p = none → Q (.ref p) (upd H p (.lst ((byL c n).map V.int)))
/-- the answer of a call of the drawn bytes, with a size that is a remainder -/
theorem bytes_mod {c x m : Int} {H : Hp} {Q : VK} {E : XK} (hm : 0 < m) (hm2 : m ≤ 100000) (h : ∀ p, H p = none → Q (.ref p) (upd H p (.lst ((byL c (x % m).toNat).map V.int)))) :
    spBytes [V.int c, V.int (x % m)] H Q E := by
  have h0 := Int.emod_nonneg x (show m ≠ 0 by omega)
  have h1 := Int.emod_lt_of_pos x hm
  exact ⟨c, (x % m).toNat, by rw [Int.toNat_of_nonneg h0], by omega, h⟩
theorem cmul_c {i j : Int} (h1 : -(2 ^ 64) < j) (h2 : j < 2 ^ 64) : CMul i j := .inr ⟨h1, h2⟩
theorem cmul_m {x m y : Int} (h1 : 0 < m) (h2 : m ≤ 2 ^ 64) : CMul (x % m) y := by
  have a := Int.emod_nonneg x (show m ≠ 0 by omega)
  have b := Int.emod_lt_of_pos x h1
  exact .inl ⟨by omega, by omega⟩
section
variable {P : Program} {w : World} {K : PySem.W.Frag} {mg : Str → Option Value} {base : Heap}
theorem ok__law_cell (T : Txt K mg) : FnOk P w K mg base CX0 1 T.f__law_cell T.fd__law_cell ["script", "k"] (spCell K) := by
  refine T.F__law_cell.ok sc__law_cell (fun vs H Q E h => ?_) (fun cdv A outer s H vs Q E hr h => ?_)
  · obtain ⟨a, ns, k, rfl, _⟩ := h
    rfl
  · obtain ⟨a, ns, k, rfl, hS, q⟩ := h
    refine ⟨_, (pss_cons (ps_if (pt_cmpR op_lt (pv 1) (pe_callB call_len_seq (by rfl) T.z_len PySem.boot_len (pa_cons (pv 0) pa_nil)) (nomark _)) (pss_one (ps_ret (pe_callTy call_int1 (by rfl) T.z_int (by decide +kernel) (pa_cons (pe_ix ix_list (pv 0) (pv 1) (fun _ _ => rfl)) pa_nil)))) pss_nil)
      (pss_one (ps_ret pe_int))), ?_⟩
    refine ⟨_, rfl, _, rfl, a, _, rfl, .inl hS, _, _, rfl, rfl, _, rfl, ite2 (fun e => ?_) (fun e => ?_)⟩
    · have e1 := of_decide_eq_true e
      rw [List.length_map] at e1
      have hk : k < ns.length := by omega
      refine ⟨_, rfl, _, rfl, a, _, _, .int (cellA ns k), rfl, rfl, hS, ?_, .inl ⟨_, rfl, q⟩⟩
      refine atI_nat ?_
      rw [List.getElem?_map, List.getElem?_eq_getElem hk]
      simp [cellA, hk]
    · have e1 : ¬ ((k : Int) < ((ns.map V.int).length : Int)) := fun z => e (decide_eq_true z)
      rw [List.length_map] at e1
      have hk : ns.length ≤ k := by omega
      have e0 : cellA ns k = 0 := by simp [cellA, hk]
      rw [e0] at q
      exact q
theorem ok__law_twice (T : Txt K mg) : FnOk P w K mg base CX0 1 T.f__law_twice T.fd__law_twice ["cell", "k"] spTwice := by
  refine T.F__law_twice.ok sc__law_twice (fun vs H Q E h => ?_) (fun cdv A outer s H vs Q E hr h => ?_)
  · obtain ⟨c, k, rfl, _⟩ := h
    rfl
  · obtain ⟨c, k, rfl, q⟩ := h
    refine ⟨_, (pss_cons (ps_set (i := 2) sc__law_twice.nd rfl (Or.inl rfl) (pe_op op_mod (pe_callTy call_int1 (by rfl) T.z_int (by decide +kernel) (pa_cons (pe_op op_add (pe_op op_add (pe_op op_mul (pv 0) pe_int) (pe_op op_mul (pv 1) pe_int)) pe_int) pa_nil)) pe_int))
      (pss_cons (ps_set (i := 2) sc__law_twice.nd rfl (Or.inl rfl) (pe_op op_mod (pe_callTy call_int1 (by rfl) T.z_int (by decide +kernel) (pa_cons (pe_op op_add (pe_op op_add (pe_op op_mul (pv 2) (pv 2)) (pe_op op_mul (pv 1) pe_int)) pe_int) pa_nil)) pe_int))
      (pss_cons (ps_set (i := 2) sc__law_twice.nd rfl (Or.inl rfl) (pe_op op_mod (pe_callTy call_int1 (by rfl) T.z_int (by decide +kernel) (pa_cons (pe_op op_add (pe_op op_add (pe_op op_mul (pv 2) (pv 2)) (pe_op op_mul (pv 1) pe_int)) pe_int) pa_nil)) pe_int))
      (pss_one (ps_ret (pe_op op_fdiv (pv 2) pe_int)))))), ?_⟩
    walk_at "vc"
    refine ⟨cmul_c (by decide) (by decide), cmul_c (by decide) (by decide), cmul_m (by decide) (by decide), cmul_c (by decide) (by decide), cmul_m (by decide) (by decide), cmul_c (by decide) (by decide), ⟨by decide, by decide⟩, ?_⟩
    exact q
theorem ok__law_bytes (T : Txt K mg) : FnOk P w K mg base CX0 2 T.f__law_bytes T.fd__law_bytes ["cell", "size"] spBytes := by
  refine T.F__law_bytes.ok sc__law_bytes (fun vs H Q E h => ?_) (fun cdv A outer s H vs Q E hr h => ?_)
  · obtain ⟨c, n, rfl, _⟩ := h
    rfl
  · obtain ⟨c, n, rfl, hn, q⟩ := h
    refine ⟨_, (pss_cons (ps_set (i := 2) sc__law_bytes.nd rfl (Or.inl rfl) (pe_callB call_abs (by rfl) T.z_abs (by decide +kernel) (pa_cons (pe_callTy call_int1 (by rfl) T.z_int (by decide +kernel) (pa_cons (pv 0) pa_nil)) pa_nil)))
      (pss_cons (ps_set (i := 3) sc__law_bytes.nd rfl (Or.inl rfl) (pe_cmpR op_ge (pv 2) (pe_op op_pow pe_int pe_int) (nomark _)))
      (pss_cons (ps_set (i := 4) sc__law_bytes.nd rfl (Or.inl rfl) (pe_lst pa_nil))
      (pss_cons (ps_for PassesOwn.never rfl (pi_range1 (by rfl) T.z_range (pa_cons (pv 1) pa_nil)) (pg_name (i := 5) sc__law_bytes.nd rfl (Or.inl rfl)) (pss_one (ps_if (PW.pt (pw_and (pt_val (pv 3)) (pw_and1 (pt_cmpR op_gt (pv 2) pe_int (nomark _))))) (pss_cons (ps_expr (pe_bm PySem.F.plainAttrs_list PySem.F.slot_list_append PySem.F.type_list_append mt_append (pv 4) (pa_cons (pe_op op_mod (pe_callTy call_int1 (by rfl) T.z_int (by decide +kernel) (pa_cons (pv 2) pa_nil)) pe_int) pa_nil)))
      (pss_one (ps_set (i := 2) sc__law_bytes.nd rfl (Or.inl rfl) (pe_op op_fdiv (pv 2) pe_int)))) (pss_one (ps_expr (pe_bm PySem.F.plainAttrs_list PySem.F.slot_list_append PySem.F.type_list_append mt_append (pv 4) (pa_cons (pe_op op_mod (pe_callTy call_int1 (by rfl) T.z_int (by decide +kernel) (pa_cons (pe_call (ok__law_twice T) hr (by rfl) T.g__law_twice T.F__law_twice.kp T.b__law_twice .nil pass0 (pa_cons (pv 0) (pa_cons (pv 5) pa_nil))) pa_nil)) pe_int) pa_nil)))))))
      (pss_one (ps_ret (pv 4))))))), ?_⟩
    walk_at "vc"
    refine ⟨⟨by decide, by decide, by decide⟩, fun p hp => ?_⟩
    refine ⟨by omega, by omega, lp_range (fun i σ H' => ∃ kv, σ = [some (.int c), some (.int n), some (.int (byR c i).1), some (.bl (decide (1000000000000000000 ≤ absI c))), some (.ref p), kv] ∧ H' = upd H p (.lst ((byR c i).2.map V.int))) ⟨_, rfl, rfl⟩ ?_ ?_⟩
    · rintro i σ H' hi ⟨kv, rfl, rfl⟩
      have hl : (byR c i).2.length = i := byL_len c i
      have hz : i < sizeLine := Nat.lt_of_lt_of_le (show i < 1000000 by omega) (by decide)
      simp only [byR]
      walk_at "vc"
      simp only [spTwice]
      walk_at "vc"
      simp only [decide_eq_true_eq, List.length_map, hl, hz, true_and, exists_eq', and_true, Int.reduceLT]
      by_cases h1 : 1000000000000000000 ≤ absI c
      · by_cases h2 : 0 < (byR c i).1
        · simp only [h1, h2, and_self, if_true, List.map_append, List.map_cons, List.map_nil, and_true]
          exact ⟨by decide, by decide⟩
        · simp only [h1, h2, and_false, if_true, if_false, List.map_append, List.map_cons, List.map_nil, and_true]
      · simp only [h1, false_and, if_false, List.map_append, List.map_cons, List.map_nil, and_true]
    · rintro σ H' ⟨kv, rfl, rfl⟩
      walk_at "vc"
      exact q p hp
end

/-! ### the digest -/
def dgS (n : Nat) (b : Int) : Nat := ((n ^^^ b.toNat) * 1099511628211) % 2 ^ 64
def dgN (ns : List Int) : Nat := ns.foldl dgS 14695981039346656037
theorem dgS_int {n : Nat} {b : Int} (h : 0 ≤ b) : Builtin.bitAnd (Builtin.bitXor (n : Int) b * 1099511628211) 18446744073709551615 = (dgS n b : Int) := by
  rw [Bits.bitXor_pp (by omega) h, Int.toNat_natCast]
  have e : (18446744073709551615 : Int) = 2 ^ 64 - 1 := by decide
  rw [e, Bits.bitAnd_mask 64 (by omega)]
  unfold dgS
  omega
theorem dgS_mod {n : Nat} {b : Int} (h : 0 ≤ b) : Builtin.bitXor (n : Int) b * 1099511628211 % (1 * 2 ^ 64) = (dgS n b : Int) := by
  rw [Bits.bitXor_pp (by omega) h, Int.toNat_natCast]
  unfold dgS
  omega
theorem foldl_take {α β : Type} (f : β → α → β) (s : β) {l : List α} {i : Nat} {x : α} (h : l[i]? = some x) : (l.take (i + 1)).foldl f s = f ((l.take i).foldl f s) x := by
  rw [List.take_add_one, h, List.foldl_append]
  simp only [Option.toList_some, List.foldl_cons, List.foldl_nil]
theorem dgN_take {ns : List Int} {i : Nat} {b : Int} (h : ns[i]? = some b) : dgN (ns.take (i + 1)) = dgS (dgN (ns.take i)) b := foldl_take dgS _ h
theorem dgN_lt (ns : List Int) : dgN ns < 2 ^ 64 := by
  rcases ns.eq_nil_or_concat with rfl | ⟨l, b, rfl⟩
  · unfold dgN
    rw [List.foldl_nil]
    decide
  · unfold dgN
    rw [List.concat_eq_append, List.foldl_append, List.foldl_cons, List.foldl_nil]
    exact Nat.mod_lt _ (by decide)
/-! ### sixteen digits -/
def hd (d : Nat) : Nat := (Nat.digitChar d).toNat
/-- the k lowest digits, the highest first -/
def hexLow : Nat → Nat → List Nat
  | 0, _ => []
  | k + 1, n => hd (n / 16 ^ k % 16) :: hexLow k n
theorem hd_at (d : Nat) (h : d < 16) : atI (Str.ofString "0123456789abcdef").cps.toList (d : Int) = some (hd d) := by
  have : ∀ d : _root_.Fin 16, atI (Str.ofString "0123456789abcdef").cps.toList ((d : Nat) : Int) = some (hd d) := by decide +kernel
  exact this ⟨d, h⟩
theorem hexLow_len (n : Nat) : ∀ k, (hexLow k n).length = k
  | 0 => rfl
  | k + 1 => by rw [hexLow, List.length_cons, hexLow_len n k]
theorem hexLow_last (n : Nat) : ∀ k, hexLow (k + 1) n = hexLow k (n / 16) ++ [hd (n % 16)]
  | 0 => by simp [hexLow]
  | k + 1 => by
    rw [hexLow, hexLow_last n k, hexLow, Nat.div_div_eq_div_mul, List.cons_append, Nat.pow_succ, Nat.mul_comm]
theorem hexDig_small {n : Nat} (h : n < 16) : hexDig n = [hd n] := by
  unfold hexDig
  rw [Nat.toDigits_of_lt_base h]
  rfl
theorem hexDig_big {n : Nat} (h : 16 ≤ n) : hexDig n = hexDig (n / 16) ++ [hd (n % 16)] := by
  unfold hexDig
  rw [Nat.toDigits_of_base_le (by decide) h, List.map_append]
  rfl
theorem hexLow_eq : ∀ (k n : Nat), n < 16 ^ (k + 1) → hexLow (k + 1) n = List.replicate (k + 1 - (hexDig n).length) 48 ++ hexDig n
  | 0, n, h => by
    have h' : n < 16 := by simpa using h
    rw [hexDig_small h']
    simp [hexLow, Nat.mod_eq_of_lt h']
  | k + 1, n, h => by
    have h2 : n / 16 < 16 ^ (k + 1) := by
      rw [Nat.pow_succ] at h
      omega
    rw [hexLow_last, hexLow_eq k (n / 16) h2]
    by_cases hb : 16 ≤ n
    · rw [hexDig_big hb, List.length_append, List.length_singleton, List.append_assoc]
      congr 2
      omega
    · have e : n / 16 = 0 := by omega
      have e2 : n % 16 = n := by omega
      rw [e, e2, hexDig_small (show n < 16 by omega), hexDig_small (show 0 < 16 by decide)]
      simp only [List.length_singleton]
      rw [show k + 1 + 1 - 1 = (k + 1 - 1) + 1 by omega, List.replicate_succ', List.append_assoc, List.append_assoc]
      rfl
theorem hexF_low {n : Nat} (h : n < 2 ^ 64) : hexF 16 (n : Int) = ⟨(hexLow 16 n).toArray⟩ := by
  rw [hexF_nn, hexLow_eq 15 n (by have : (16 : Nat) ^ (15 + 1) = 2 ^ 64 := by decide
                                  omega)]
theorem hexF_len {n : Nat} (h : n < 2 ^ 64) : (hexF 16 (n : Int)).length = 16 := by
  rw [hexF_low h]
  show (hexLow 16 n).toArray.size = 16
  rw [List.size_toArray, hexLow_len]
def spDigest : Sp := fun vs H Q _ => ∃ (a : Addr) (ns : List Int), vs = [.ref a] ∧ H a = some (.lst (ns.map V.int)) ∧ (∀ b ∈ ns, 0 ≤ b ∧ b < 256) ∧ Q (.str (hexF 16 (dgN ns : Int))) H
section
variable {P : Program} {w : World} {K : PySem.W.Frag} {mg : Str → Option Value} {base : Heap}
theorem ok_digest (T : Txt K mg) : FnOk P w K mg base CX0 1 T.f_digest T.fd_digest ["data"] spDigest := by
  refine T.F_digest.ok sc_digest (fun vs H Q E h => ?_) (fun cdv A outer s H vs Q E hr h => ?_)
  · obtain ⟨a, ns, rfl, _⟩ := h
    rfl
  · obtain ⟨a, ns, rfl, ha, hb, q⟩ := h
    refine ⟨_, (pss_cons (ps_set (i := 1) sc_digest.nd rfl (Or.inl rfl) (pe_glob (v := .int 14695981039346656037) (by rfl) T.c__DIGEST_START ⟨_, rfl⟩))
      (pss_cons (ps_for PassesOwn.never rfl (pi_list (pv 0)) (pg_name (i := 2) sc_digest.nd rfl (Or.inl rfl)) (pss_one (ps_set (i := 1) sc_digest.nd rfl (Or.inl rfl) (pe_op op_and (pe_op op_mul (pe_op op_xor (pv 1) (pv 2)) (pe_glob (v := .int 1099511628211) (by rfl) T.c__DIGEST_FACTOR ⟨_, rfl⟩)) (pe_glob (v := .int 18446744073709551615) (by rfl) T.c__DIGEST_BITS ⟨_, rfl⟩)))))
      (pss_one (ps_ret (pe_joined1 (pe_fmtX ok016 (pv 1))))))), ?_⟩
    walk_at "vc"
    refine ⟨⟨_, .inl (.inl ha)⟩, lp_list (xs := ns.map V.int) (fun i σ H' => ∃ bv, σ = [some (.ref a), some (.int (dgN (ns.take i) : Int)), bv] ∧ H' = H) ⟨_, rfl, rfl⟩ ?_ ?_ ?_⟩
    · rintro i σ H' _ ⟨bv, rfl, rfl⟩
      exact .inl (.inl ha)
    · rintro i x σ H' hx ⟨bv, rfl, rfl⟩
      rw [List.getElem?_map] at hx
      obtain ⟨b, hb1, rfl⟩ := Option.map_eq_some_iff.mp hx
      have h0 := (hb b (List.mem_of_getElem? hb1)).1
      walk_at "vc"
      rw [dgS_int h0, dgN_take hb1]
      simp only [exists_eq', and_true]
      exact cmul_c (by decide) (by decide)
    · rintro σ H' ⟨bv, rfl, rfl⟩
      rw [List.length_map, List.take_length]
      walk_at "vc"
      simp only [tFmtX, tVar]
      walk_at "vc"
      refine ⟨_, rfl, ?_, q⟩
      rw [hexF_len (dgN_lt ns)]
      decide
def spLawDigest : Sp := fun vs H Q _ => ∃ (a : Addr) (ns : List Int), vs = [.ref a] ∧ H a = some (.lst (ns.map V.int)) ∧ (∀ b ∈ ns, 0 ≤ b ∧ b < 256) ∧ Q (.str (hexF 16 (dgN ns : Int))) H
theorem ok__law_digest (T : Txt K mg) : FnOk P w K mg base CX0 1 T.f__law_digest T.fd__law_digest ["data"] spLawDigest := by
  refine T.F__law_digest.ok sc__law_digest (fun vs H Q E h => ?_) (fun cdv A outer s H vs Q E hr h => ?_)
  · obtain ⟨a, ns, rfl, _⟩ := h
    rfl
  · obtain ⟨a, ns, rfl, ha, hb, q⟩ := h
    refine ⟨_, (pss_cons (ps_set (i := 1) sc__law_digest.nd rfl (Or.inl rfl) pe_int)
      (pss_cons (ps_for PassesOwn.never rfl (pi_list (pv 0)) (pg_name (i := 2) sc__law_digest.nd rfl (Or.inl rfl)) (pss_one (ps_set (i := 1) sc__law_digest.nd rfl (Or.inl rfl) (pe_op op_mod (pe_callTy call_int1 (by rfl) T.z_int (by decide +kernel) (pa_cons (pe_op op_mul (pe_op op_xor (pv 1) (pv 2)) pe_int) pa_nil)) (pe_op op_shl pe_int pe_int)))))
      (pss_cons (ps_set (i := 3) sc__law_digest.nd rfl (Or.inl rfl) pe_str)
      (pss_cons (ps_for PassesOwn.never rfl (pi_range1 (by rfl) T.z_range (pa_cons pe_int pa_nil)) (pg_name (i := 4) sc__law_digest.nd rfl (Or.inl rfl)) (pss_cons (ps_set (i := 3) sc__law_digest.nd rfl (Or.inl rfl) (pe_op op_add_str (pe_ix ix_str pe_str (pe_op op_mod (pe_callTy call_int1 (by rfl) T.z_int (by decide +kernel) (pa_cons (pv 1) pa_nil)) pe_int) (fun _ _ => rfl)) (pv 3)))
      (pss_one (ps_set (i := 1) sc__law_digest.nd rfl (Or.inl rfl) (pe_op op_fdiv (pv 1) pe_int)))))
      (pss_one (ps_ret (pv 3))))))), ?_⟩
    walk_at "vc"
    refine ⟨⟨_, .inl (.inl ha)⟩, lp_list (xs := ns.map V.int) (fun i σ H' => ∃ bv, σ = [some (.ref a), some (.int (dgN (ns.take i) : Int)), bv, none, none] ∧ H' = H) ⟨_, rfl, rfl⟩ ?_ ?_ ?_⟩
    · rintro i σ H' _ ⟨bv, rfl, rfl⟩
      exact .inl (.inl ha)
    · rintro i x σ H' hx ⟨bv, rfl, rfl⟩
      rw [List.getElem?_map] at hx
      obtain ⟨b, hb1, rfl⟩ := Option.map_eq_some_iff.mp hx
      have h0 := (hb b (List.mem_of_getElem? hb1)).1
      walk_at "vc"
      rw [dgN_take hb1]
      exact ⟨cmul_c (by decide) (by decide), ⟨by decide, by decide, by decide⟩, by decide, dgS_mod h0, _, rfl⟩
    · rintro σ H' ⟨bv, rfl, rfl⟩
      rw [List.length_map, List.take_length]
      walk_at "vc"
      refine lp_range (n := 16) (fun i σ H'' => ∃ kv, σ = [some (.ref a), some (.int ((dgN ns / 16 ^ i : Nat) : Int)), bv, some (.str ⟨(hexLow i (dgN ns)).toArray⟩), kv] ∧ H'' = H') ⟨none, ?_, rfl⟩ ?_ ?_
      · rw [Nat.pow_zero, Nat.div_one]
        rfl
      · rintro i σ H'' hi ⟨kv, rfl, rfl⟩
        walk_at "vc"
        refine ⟨by decide +kernel, hd (dgN ns / 16 ^ i % 16), ?_, ?_, ⟨by decide, by decide⟩, ?_, ?_, _, rfl⟩
        · have := hd_at (dgN ns / 16 ^ i % 16) (Nat.mod_lt _ (by decide))
          rw [Int.natCast_emod] at this
          exact this
        · show 1 + (hexLow i (dgN ns)).toArray.size ≤ sizeLine
          rw [List.size_toArray, hexLow_len]
          exact Nat.le_trans (show 1 + i ≤ 17 by omega) (by decide)
        · rw [Nat.pow_succ, ← Nat.div_div_eq_div_mul]
          omega
        · exact congrArg Str.mk (show #[hd (dgN ns / 16 ^ i % 16)] ++ (hexLow i (dgN ns)).toArray = (hexLow (i + 1) (dgN ns)).toArray by simp [hexLow])
      · rintro σ H'' ⟨kv, rfl, rfl⟩
        walk_at "vc"
        rw [hexF_low (dgN_lt ns)] at q
        exact q
/-! ### two lists that differ in one byte -/
theorem mul_back {x F G M q : Nat} (h : F * G = 1 + M * q) (hx : x < M) : x * F % M * G % M = x := by
  rw [Nat.mod_mul_mod, Nat.mul_assoc, h, Nat.mul_add, Nat.mul_one, Nat.mul_left_comm, Nat.add_mul_mod_self_left, Nat.mod_eq_of_lt hx]
theorem mul_inj {x y F G M q : Nat} (h : F * G = 1 + M * q) (hx : x < M) (hy : y < M) (e : x * F % M = y * F % M) : x = y := by
  rw [← mul_back h hx, ← mul_back h hy, e]
theorem inv64 : 1099511628211 * 14886173955864302971 = 1 + 2 ^ 64 * 887285111055 := by decide
theorem xor_cancel {n m b : Nat} (e : n ^^^ b = m ^^^ b) : n = m := by
  have := congrArg (· ^^^ b) e
  simpa [Nat.xor_assoc] using this
theorem xor_lt {n : Nat} {b : Int} (hn : n < 2 ^ 64) (hb : 0 ≤ b ∧ b < 256) : n ^^^ b.toNat < 2 ^ 64 := Nat.xor_lt_two_pow hn (Nat.lt_of_lt_of_le (show b.toNat < 256 by omega) (by decide))
theorem dgS_lt (n : Nat) (b : Int) : dgS n b < 2 ^ 64 := Nat.mod_lt _ (by decide)
theorem dgS_inj {n m : Nat} {b : Int} (hn : n < 2 ^ 64) (hm : m < 2 ^ 64) (hb : 0 ≤ b ∧ b < 256) (e : dgS n b = dgS m b) : n = m :=
  xor_cancel (mul_inj inv64 (xor_lt hn hb) (xor_lt hm hb) e)
theorem dgS_byte {n : Nat} {b c : Int} (hn : n < 2 ^ 64) (hb : 0 ≤ b ∧ b < 256) (hc : 0 ≤ c ∧ c < 256) (e : dgS n b = dgS n c) : b = c := by
  have h := mul_inj inv64 (xor_lt hn hb) (xor_lt hn hc) e
  rw [Nat.xor_comm n, Nat.xor_comm n] at h
  have := xor_cancel h
  omega
theorem fold_ne : ∀ (l : List Int) (n m : Nat), n < 2 ^ 64 → m < 2 ^ 64 → (∀ b ∈ l, 0 ≤ b ∧ b < 256) → n ≠ m → l.foldl dgS n ≠ l.foldl dgS m
  | [], _, _, _, _, _, h => h
  | b :: r, n, m, hn, hm, hb, h => by
    rw [List.foldl_cons, List.foldl_cons]
    exact fold_ne r _ _ (dgS_lt _ _) (dgS_lt _ _) (fun c hc => hb c (List.mem_cons_of_mem _ hc)) fun e => h (dgS_inj hn hm (hb b List.mem_cons_self) e)
theorem dgN_set {ns : List Int} {k : Nat} {b c : Int} (h : ns[k]? = some b) (hb : ∀ x ∈ ns, 0 ≤ x ∧ x < 256) (hc : 0 ≤ c ∧ c < 256) (hne : c ≠ b) : dgN (ns.set k c) ≠ dgN ns := by
  obtain ⟨hk, hget⟩ := List.getElem?_eq_some_iff.mp h
  have e1 : ns = ns.take k ++ b :: ns.drop (k + 1) := by
    rw [← hget]
    simp
  have e2 : ns.set k c = ns.take k ++ c :: ns.drop (k + 1) := by
    rw [List.set_eq_take_append_cons_drop, if_pos hk]
  have f1 : ∀ x, dgN (ns.take k ++ x :: ns.drop (k + 1)) = (ns.drop (k + 1)).foldl dgS (dgS (dgN (ns.take k)) x) := by
    intro x
    unfold dgN
    rw [List.foldl_append, List.foldl_cons]
  rw [e2, f1]
  conv => rhs; rw [e1, f1]
  exact fold_ne _ _ _ (dgS_lt _ _) (dgS_lt _ _) (fun x hx => hb x (List.mem_of_mem_drop hx)) fun e => hne (dgS_byte (dgN_lt _) hc (hb b (List.mem_of_getElem? h)) e)
theorem hd_inj {d e : Nat} (hd' : d < 16) (he : e < 16) (h : hd d = hd e) : d = e := by
  have : ∀ d e : _root_.Fin 16, hd d = hd e → d = e := by decide +kernel
  have := this ⟨d, hd'⟩ ⟨e, he⟩ h
  exact congrArg (fun x : _root_.Fin 16 => x.val) this
theorem hexLow_inj {n m : Nat} : ∀ k, hexLow k n = hexLow k m → n % 16 ^ k = m % 16 ^ k
  | 0, _ => by rw [Nat.pow_zero, Nat.mod_one, Nat.mod_one]
  | k + 1, h => by
    rw [hexLow, hexLow, List.cons.injEq] at h
    have h1 := hd_inj (Nat.mod_lt _ (by decide)) (Nat.mod_lt _ (by decide)) h.1
    have h2 := hexLow_inj k h.2
    rw [Nat.pow_succ, Nat.mod_mul, Nat.mod_mul, h1, h2]
theorem hexF_inj {n m : Nat} (hn : n < 2 ^ 64) (hm : m < 2 ^ 64) (h : hexF 16 (n : Int) = hexF 16 (m : Int)) : n = m := by
  rw [hexF_low hn, hexF_low hm] at h
  have h2 : (hexLow 16 n).toArray = (hexLow 16 m).toArray := congrArg Str.cps h
  have h3 := hexLow_inj 16 (show hexLow 16 n = hexLow 16 m from by simpa using h2)
  have e : (16 : Nat) ^ 16 = 2 ^ 64 := by decide
  rw [e, Nat.mod_eq_of_lt hn, Nat.mod_eq_of_lt hm] at h3
  exact h3
def spLaw (K : PySem.W.Frag) : Sp := fun vs H Q _ => ∃ (a : Addr) (ns : List Int), vs = [.ref a] ∧ SqL K H a (ns.map V.int) ∧ ns.length ≤ 63 ∧ ∀ H', Q (.bl true) H'
theorem ok_law_of {f : Addr} {fd : FuncData} (F : Fun K "law" "law" s_law f fd) (T : Txt K mg) : FnOk P w K mg base CX0 3 f fd ["script"] (spLaw K) := by
  refine F.ok sc_law (fun vs H Q E h => ?_) (fun cdv A outer s H vs Q E hr h => ?_)
  · obtain ⟨a, ns, rfl, _⟩ := h
    rfl
  · obtain ⟨a, ns, rfl, hS, hlen, q⟩ := h
    refine ⟨_, (pss_cons (ps_set (i := 1) sc_law.nd rfl (Or.inl rfl) (pe_call (ok__law_bytes T) hr (by rfl) T.g__law_bytes T.F__law_bytes.kp T.b__law_bytes .nil pass0 (pa_cons (pe_call (ok__law_cell T) (hr.mono (by decide)) (by rfl) T.g__law_cell T.F__law_cell.kp T.b__law_cell .nil pass0 (pa_cons (pv 0) (pa_cons pe_int pa_nil))) (pa_cons (pe_op op_mod (pe_callB call_abs (by rfl) T.z_abs (by decide +kernel) (pa_cons (pe_call (ok__law_cell T) (hr.mono (by decide)) (by rfl) T.g__law_cell T.F__law_cell.kp T.b__law_cell .nil pass0 (pa_cons (pv 0) (pa_cons pe_int pa_nil))) pa_nil)) pe_int) pa_nil))))
      (pss_cons (ps_set (i := 2) sc_law.nd rfl (Or.inl rfl) (pe_callTy call_listH (by rfl) T.z_list (by decide +kernel) (pa_cons (pv 1) pa_nil)))
      (pss_cons (ps_set (i := 3) sc_law.nd rfl (Or.inl rfl) (pe_call (ok_digest T) (hr.mono (by decide)) (by rfl) T.g_digest T.F_digest.kp T.b_digest .nil pass0 (pa_cons (pv 2) pa_nil)))
      (pss_cons (ps_if (PW.pt (pw_or (pt_not (pt_val (pe_callB call_isiB (by rfl) T.z_isinstance (by decide +kernel) (pa_cons (pv 3) (pa_cons (pe_bltn (v := .ty "str") (u := .type "str") (by rfl) T.z_str (by decide +kernel) rfl) pa_nil))))) (pw_or (pt_cmpR op_ne (pv 3) (pe_call (ok__law_digest T) (hr.mono (by decide)) (by rfl) T.g__law_digest T.F__law_digest.kp T.b__law_digest .nil pass0 (pa_cons (pv 1) pa_nil)) (nomark _)) (pw_or1 (pt_cmpR (op_neIL hr.units) (pv 2) (pv 1) (nomark _)))))) (pss_one (ps_ret pe_bl)) pss_nil)
      (pss_cons (ps_if (pt_cmpR op_eq (pe_callB call_lenH (by rfl) T.z_len PySem.boot_len (pa_cons (pv 1) pa_nil)) pe_int (nomark _)) (pss_one (ps_ret (pe_cmpR op_ne (pe_call (ok_digest T) (hr.mono (by decide)) (by rfl) T.g_digest T.F_digest.kp T.b_digest .nil pass0 (pa_cons (pe_lst (pa_cons pe_int pa_nil)) pa_nil)) (pv 3) (nomark _)))) pss_nil)
      (pss_cons (ps_set (i := 4) sc_law.nd rfl (Or.inl rfl) (pe_callB call_abs (by rfl) T.z_abs (by decide +kernel) (pa_cons (pe_call (ok__law_cell T) (hr.mono (by decide)) (by rfl) T.g__law_cell T.F__law_cell.kp T.b__law_cell .nil pass0 (pa_cons (pv 0) (pa_cons pe_int pa_nil))) pa_nil)))
      (pss_cons (ps_set (i := 5) sc_law.nd rfl (Or.inl rfl) (pe_callTy call_listH (by rfl) T.z_list (by decide +kernel) (pa_cons (pv 1) pa_nil)))
      (pss_cons (ps_set (i := 6) sc_law.nd rfl (Or.inl rfl) (pe_op op_mod (pe_op op_fdiv (pv 4) pe_int) (pe_callB call_lenH (by rfl) T.z_len PySem.boot_len (pa_cons (pv 1) pa_nil))))
      (pss_cons (ps_asg (pe_op op_mod (pe_op op_add (pe_op op_add (pe_ix ix_listH (pv 5) (pv 6) (fun _ _ => rfl)) pe_int) (pe_op op_mod (pv 4) pe_int)) pe_int) (pg_sub (pv 5) (pv 6) set_list))
      (pss_one (ps_ret (pe_and (pe_cmpR op_ne (pe_call (ok_digest T) (hr.mono (by decide)) (by rfl) T.g_digest T.F_digest.kp T.b_digest .nil pass0 (pa_cons (pv 5) pa_nil)) (pv 3) (nomark _)) (pe_one (pe_cmpR op_eq (pe_call (ok_digest T) (hr.mono (by decide)) (by rfl) T.g_digest T.F_digest.kp T.b_digest .nil pass0 (pa_cons (pv 5) pa_nil)) (pe_call (ok__law_digest T) (hr.mono (by decide)) (by rfl) T.g__law_digest T.F__law_digest.kp T.b__law_digest .nil pass0 (pa_cons (pv 5) pa_nil)) (nomark _))))))))))))))), ?_⟩
    walk_at "vc"
    refine ⟨a, ns, 1, rfl, hS, ?_⟩
    walk_at "vc"
    refine ⟨a, ns, 0, rfl, hS, ?_⟩
    walk_at "vc"
    refine bytes_mod (by decide) (by decide) fun p hp => ?_
    walk_at "vc"
    have hD := byL_mem (cellA ns 1) (((if cellA ns 0 < 0 then -cellA ns 0 else cellA ns 0) % 81).toNat)
    generalize byL (cellA ns 1) (((if cellA ns 0 < 0 then -cellA ns 0 else cellA ns 0) % 81).toNat) = D at hD ⊢
    intro l hl
    have hpl : p ≠ l := ne_of_none upd_same hl
    refine ⟨l, D, rfl, upd_same, hD, ?_⟩
    walk_at "vc"
    refine ⟨p, D, rfl, (by rw [upd_ne hpl, upd_same]), hD, ?_⟩
    walk_at "vc"
    refine ⟨D, rfl, D, (by rw [upd_ne hpl, upd_same]), ?_⟩
    simp only [upd_ne hpl]
    walk_at "vc"
    refine ite2 (fun e => ?_) (fun e => ?_)
    · have e0 : D = [] := by simpa using e
      subst e0
      refine ⟨by decide, fun r hr' => ?_⟩
      refine ⟨r, [0], rfl, upd_same, (by decide), ?_⟩
      walk_at "vc"
      have ne : hexF 16 (dgN [0] : Int) ≠ hexF 16 (dgN [] : Int) := fun z => absurd (hexF_inj (dgN_lt _) (dgN_lt _) z) (by decide +kernel)
      rw [decide_eq_false ne]
      exact q _
    · have e0 : D ≠ [] := fun z => e (by simp [z])
      refine ⟨a, ns, 2, rfl, ((same_upd hp).trans (same_upd hl)).seq hS, ?_⟩
      walk_at "vc"
      simp only [upd_ne hpl]
      walk_at "vc"
      intro l1 hl1
      have hpl1 : p ≠ l1 := ne_of_none (by rw [upd_ne hpl, upd_same]) hl1
      have hll1 : l ≠ l1 := ne_of_none upd_same hl1
      rw [absI_eq]
      have ha := absI_nn (cellA ns 2)
      generalize absI (cellA ns 2) = c at ha ⊢
      refine ⟨⟨by decide, by decide⟩, ?_⟩
      simp only [upd_ne hpl1, upd_ne hpl]
      walk_at "vc"
      have hn : 0 < D.length := List.length_pos_iff.mpr e0
      rw [List.length_map]
      refine ⟨by omega, ?_⟩
      obtain ⟨m0, m1⟩ := mod_in (c / 255) (show (0 : Int) < (D.length : Int) by omega)
      obtain ⟨b, hb1, hb2⟩ := atI_in m0 m1
      refine ⟨_, hb2, b, rfl, ?_⟩
      generalize (c / 255 % (D.length : Int)) = k at m0 m1 hb1 hb2 ⊢
      have hbb := hD b (List.mem_of_getElem? hb1)
      refine ⟨k.toNat, ixN_in m0 m1, ?_⟩
      have nb : ((b + 1 + c % 255) % 256) ≠ b := by omega
      have nb2 : 0 ≤ ((b + 1 + c % 255) % 256) ∧ ((b + 1 + c % 255) % 256) < 256 := by omega
      generalize ((b + 1 + c % 255) % 256) = x at nb nb2 ⊢
      have es : (D.map V.int).set k.toNat (V.int x) = (D.set k.toNat x).map V.int := by rw [List.map_set]
      rw [es]
      have hD2 : ∀ y ∈ D.set k.toNat x, 0 ≤ y ∧ y < 256 := fun y hy => by
        rcases List.mem_or_eq_of_mem_set hy with h | h
        · exact hD y h
        · rw [h]; exact nb2
      refine ⟨l1, _, rfl, upd_same, hD2, ?_⟩
      walk_at "vc"
      have ne : hexF 16 (dgN (D.set k.toNat x) : Int) ≠ hexF 16 (dgN D : Int) := fun z => dgN_set hb1 hD nb2 nb (hexF_inj (dgN_lt _) (dgN_lt _) z)
      rw [decide_eq_false ne]
      walk_at "vc"
      refine ⟨l1, _, rfl, upd_same, hD2, ?_⟩
      walk_at "vc"
      refine ⟨l1, _, rfl, upd_same, hD2, ?_⟩
      walk_at "vc"
      exact q _
end
theorem all_mk {l : PySem.W.OpenLaw} {w : World} {K : PySem.W.Frag} {h : Heap} {mg : Str → Option Value} {fa : Addr} (X : K.In h) (G : h.Ns mainGlobals mg) (hfa : mg "law" = some (.ref fa))
    {f1 : Addr} {od1 an1 : Option Addr} {sl1 : Array (Option Value)} {oc1 kV1 dc1 pm1 cd1 ct1 : Value}
    (a1 : PySem.W.nsIn K mainGlobals "digest" = some (some (.ref f1))) (l1 : K.lookup f1 = some ⟨oc1, od1, .func (PySem.W.fnOf "digest" "digest" (defArgs s_digest) (defBody s_digest) (defScope s_digest) .none kV1 dc1 pm1 an1 cd1 ct1), sl1⟩) (c1 : PySem.W.codeIn K cd1 "digest" = true) (k1 : PySem.W.keepIn K (.ref f1) = true)
    {f2 : Addr} {od2 an2 : Option Addr} {sl2 : Array (Option Value)} {oc2 kV2 dc2 pm2 cd2 ct2 : Value}
    (a2 : PySem.W.nsIn K mainGlobals "_law_cell" = some (some (.ref f2))) (l2 : K.lookup f2 = some ⟨oc2, od2, .func (PySem.W.fnOf "_law_cell" "_law_cell" (defArgs s__law_cell) (defBody s__law_cell) (defScope s__law_cell) .none kV2 dc2 pm2 an2 cd2 ct2), sl2⟩) (c2 : PySem.W.codeIn K cd2 "_law_cell" = true) (k2 : PySem.W.keepIn K (.ref f2) = true)
    {f3 : Addr} {od3 an3 : Option Addr} {sl3 : Array (Option Value)} {oc3 kV3 dc3 pm3 cd3 ct3 : Value}
    (a3 : PySem.W.nsIn K mainGlobals "_law_twice" = some (some (.ref f3))) (l3 : K.lookup f3 = some ⟨oc3, od3, .func (PySem.W.fnOf "_law_twice" "_law_twice" (defArgs s__law_twice) (defBody s__law_twice) (defScope s__law_twice) .none kV3 dc3 pm3 an3 cd3 ct3), sl3⟩) (c3 : PySem.W.codeIn K cd3 "_law_twice" = true) (k3 : PySem.W.keepIn K (.ref f3) = true)
    {f4 : Addr} {od4 an4 : Option Addr} {sl4 : Array (Option Value)} {oc4 kV4 dc4 pm4 cd4 ct4 : Value}
    (a4 : PySem.W.nsIn K mainGlobals "_law_bytes" = some (some (.ref f4))) (l4 : K.lookup f4 = some ⟨oc4, od4, .func (PySem.W.fnOf "_law_bytes" "_law_bytes" (defArgs s__law_bytes) (defBody s__law_bytes) (defScope s__law_bytes) .none kV4 dc4 pm4 an4 cd4 ct4), sl4⟩) (c4 : PySem.W.codeIn K cd4 "_law_bytes" = true) (k4 : PySem.W.keepIn K (.ref f4) = true)
    {f5 : Addr} {od5 an5 : Option Addr} {sl5 : Array (Option Value)} {oc5 kV5 dc5 pm5 cd5 ct5 : Value}
    (a5 : PySem.W.nsIn K mainGlobals "_law_digest" = some (some (.ref f5))) (l5 : K.lookup f5 = some ⟨oc5, od5, .func (PySem.W.fnOf "_law_digest" "_law_digest" (defArgs s__law_digest) (defBody s__law_digest) (defScope s__law_digest) .none kV5 dc5 pm5 an5 cd5 ct5), sl5⟩) (c5 : PySem.W.codeIn K cd5 "_law_digest" = true) (k5 : PySem.W.keepIn K (.ref f5) = true)
    {f6 : Addr} {od6 an6 : Option Addr} {sl6 : Array (Option Value)} {oc6 kV6 dc6 pm6 cd6 ct6 : Value}
    (a6 : PySem.W.nsIn K mainGlobals "law" = some (some (.ref f6))) (l6 : K.lookup f6 = some ⟨oc6, od6, .func (PySem.W.fnOf "law" "law" (defArgs s_law) (defBody s_law) (defScope s_law) .none kV6 dc6 pm6 an6 cd6 ct6), sl6⟩) (c6 : PySem.W.codeIn K cd6 "law" = true) (k6 : PySem.W.keepIn K (.ref f6) = true)
    {t7 : Tok} (a7 : PySem.W.nsIn K mainGlobals "_DIGEST_START" = some (some (.int 14695981039346656037 t7)))
    {t8 : Tok} (a8 : PySem.W.nsIn K mainGlobals "_DIGEST_FACTOR" = some (some (.int 1099511628211 t8)))
    {t9 : Tok} (a9 : PySem.W.nsIn K mainGlobals "_DIGEST_BITS" = some (some (.int 18446744073709551615 t9)))
    (a10 : PySem.W.nsIn K mainGlobals "abs" = some none)
    (a11 : PySem.W.nsIn K mainGlobals "int" = some none)
    (a12 : PySem.W.nsIn K mainGlobals "isinstance" = some none)
    (a13 : PySem.W.nsIn K mainGlobals "len" = some none)
    (a14 : PySem.W.nsIn K mainGlobals "list" = some none)
    (a15 : PySem.W.nsIn K mainGlobals "range" = some none)
    (a16 : PySem.W.nsIn K mainGlobals "str" = some none)
    : ∃ fd : FuncData, (∀ (s : Shared) (v : Value), BindsTo s fd ⟨[v], []⟩ [("script", v)]) ∧ ∀ base : Heap, K.In base → base.Ns mainGlobals mg → FnOk l.prog w K mg base CX0 3 fa fd ["script"] (spLaw K) := by
  have e := hfa.symm.trans (PySem.W.mg_of X G a6)
  cases e
  have F1 := fun_mk (st := s_digest) l1 c1 k1
  have b1 := F1.binds (ps := ["data"]) fun _ _ _ _ _ _ us hl => match us, hl with | [_], _ => rfl
  have F2 := fun_mk (st := s__law_cell) l2 c2 k2
  have b2 := F2.binds (ps := ["script", "k"]) fun _ _ _ _ _ _ us hl => match us, hl with | [_, _], _ => rfl
  have F3 := fun_mk (st := s__law_twice) l3 c3 k3
  have b3 := F3.binds (ps := ["cell", "k"]) fun _ _ _ _ _ _ us hl => match us, hl with | [_, _], _ => rfl
  have F4 := fun_mk (st := s__law_bytes) l4 c4 k4
  have b4 := F4.binds (ps := ["cell", "size"]) fun _ _ _ _ _ _ us hl => match us, hl with | [_, _], _ => rfl
  have F5 := fun_mk (st := s__law_digest) l5 c5 k5
  have b5 := F5.binds (ps := ["data"]) fun _ _ _ _ _ _ us hl => match us, hl with | [_], _ => rfl
  have F6 := fun_mk (st := s_law) l6 c6 k6
  have b6 := F6.binds (ps := ["script"]) fun _ _ _ _ _ _ us hl => match us, hl with | [_], _ => rfl
  have T : Txt K mg := ⟨f1, _, F1, b1, PySem.W.mg_of X G a1,
    f2, _, F2, b2, PySem.W.mg_of X G a2,
    f3, _, F3, b3, PySem.W.mg_of X G a3,
    f4, _, F4, b4, PySem.W.mg_of X G a4,
    f5, _, F5, b5, PySem.W.mg_of X G a5,
    fa, _, F6, b6, PySem.W.mg_of X G a6,
    t7, PySem.W.mg_of X G a7,
    t8, PySem.W.mg_of X G a8,
    t9, PySem.W.mg_of X G a9,
    PySem.W.mg_none_of X G a10,
    PySem.W.mg_none_of X G a11,
    PySem.W.mg_none_of X G a12,
    PySem.W.mg_none_of X G a13,
    PySem.W.mg_none_of X G a14,
    PySem.W.mg_none_of X G a15,
    PySem.W.mg_none_of X G a16⟩
  refine ⟨PySem.W.fnOf "law" "law" (defArgs s_law) (defBody s_law) (defScope s_law) .none kV6 dc6 pm6 an6 cd6 ct6, fun s v => .of_eq rfl, fun base _ _ => ?_⟩
  exact ok_law_of F6 T
end K02
open PySem PySem.W PyProof.Rows
set_option maxRecDepth 100000 in
set_option maxHeartbeats 0 in
theorem PySem.Challenge.cw_stillroom_k02_digests_holds : PySem.Challenge.rw_stillroom_k02_digests.Holds := by
  w_on; o_law; k_head; (case hw => w_witness2)
  k_fill
  refine L2.walk_of (l := PySem.Challenge.rw_stillroom_k02_digests) (n := 63) (k := 3) (x := "script") (CX := fun _ => L2.CX0) (sp := fun w => K02.spLaw _) rfl (by decide) rfl ⟨rfl, by decide, by decide⟩ (fun w h Y => PySem.W.kIn_of Y) ?F (fun _ _ a ns hl _ hS => ⟨a, ns, rfl, hS, hl, fun _ => rfl⟩) (fun _ _ _ _ _ h => h)
  case F =>
    intro w mg fa h KX G hmg
    refine' K02.all_mk KX G hmg ?a1 ?l1 ?c1 ?k1 ?a2 ?l2 ?c2 ?k2 ?a3 ?l3 ?c3 ?k3 ?a4 ?l4 ?c4 ?k4 ?a5 ?l5 ?c5 ?k5 ?a6 ?l6 ?c6 ?k6 ?a7 ?a8 ?a9 ?a10 ?a11 ?a12 ?a13 ?a14 ?a15 ?a16
    (case a1 => k_is)
    (case l1 => k_is)
    (case c1 => k_is)
    (case k1 => k_is)
    (case a2 => k_is)
    (case l2 => k_is)
    (case c2 => k_is)
    (case k2 => k_is)
    (case a3 => k_is)
    (case l3 => k_is)
    (case c3 => k_is)
    (case k3 => k_is)
    (case a4 => k_is)
    (case l4 => k_is)
    (case c4 => k_is)
    (case k4 => k_is)
    (case a5 => k_is)
    (case l5 => k_is)
    (case c5 => k_is)
    (case k5 => k_is)
    (case a6 => k_is)
    (case l6 => k_is)
    (case c6 => k_is)
    (case k6 => k_is)
    (case a7 => k_is)
    (case a8 => k_is)
    (case a9 => k_is)
    (case a10 => k_is)
    (case a11 => k_is)
    (case a12 => k_is)
    (case a13 => k_is)
    (case a14 => k_is)
    (case a15 => k_is)
    (case a16 => k_is)



import PyProof.Rows.All
import Wide.All
import OpenK.AllK
import Wide.FinOn
import HandS.ForMost
import HandS.Wide
import HandS.IsInst
import HandS.FStr
import HandS.Zip
import HandS.CallLocal
import HandS.Walk
import HandS.TryOnly
import HandS.TupAny
import HandS.DictComp
import HandS.Deep
import PyProof.DictMoreH
import HandS.Text
import HandS.Codes
import KE.GoesMore
import HandS.Style
import HandS.Rev
import HandS.ExcOwn
import HandS.WordsExc
import HandS.ExcIs
import HandS.TryMany
import PySem.Challenge.RW_stillroom_k37_outlines_may_be_told_other
set_option Elab.async false
set_option linter.all false
set_option maxRecDepth 100000
namespace K37
open PySem PySem.Spec PyProof.Rows L2

/-! ### rules with plainer readings -/
section
variable {X : Cx}
theorem CallR.of {f : Value} {r r' : List V → Hp → VK → Prop} (h : CallR X f r) (k : ∀ xs H Q, r' xs H Q → r xs H Q) : CallR X f r' := fun pins s σ H xs us Q I rv q => h pins s σ H xs us Q I rv (k xs H Q q)
theorem OpR.of {f : Value → Value → Sem Value} {r r' : R2} (h : OpR X f r) (k : ∀ x y H Q, r' x y H Q → r x y H Q) : OpR X f r' := fun pins s σ H x y v u Q I rx ry q => h pins s σ H x y v u Q I rx ry (k x y H Q q)
/-- the name of a plain value's type -/
def tnm : V → Option String
  | .non => some "NoneType"
  | .bl _ => some "bool"
  | .int _ => some "int"
  | .str _ => some "str"
  | _ => none
theorem tnm_int (i : Int) : tnm (.int i) = some "int" := rfl
theorem tnm_bl (b : Bool) : tnm (.bl b) = some "bool" := rfl
theorem tnm_str (x : Str) : tnm (.str x) = some "str" := rfl
theorem tnm_non : tnm .non = some "NoneType" := rfl
theorem tnm_ref (p : Addr) : tnm (.ref p) = none := rfl
theorem scal_ii (i j : Int) : scal (.int i) (.int j) = true := rfl
theorem scal_ss (i j : Str) : scal (.str i) (.str j) = true := rfl
theorem scal_bb (i j : Bool) : scal (.bl i) (.bl j) = true := rfl
theorem scal_nn : scal .non .non = true := rfl
theorem scal_in (i : Int) : scal (.int i) .non = true := rfl
theorem scal_ni (i : Int) : scal .non (.int i) = true := rfl
def rIsiB : List V → Hp → VK → Prop := fun vs H Q => (∃ x n a b, vs = [x, .ty n] ∧ tnm x = some a ∧ kitB a n = some b ∧ Q (.bl b) H) ∨
  (∃ p n xs b, vs = [.ref p, .ty n] ∧ H p = some (.lst xs) ∧ kitB "list" n = some b ∧ Q (.bl b) H) ∨ ∃ p n xs b, vs = [.ref p, .ty n] ∧ H p = some (.tup xs) ∧ kitB "tuple" n = some b ∧ Q (.bl b) H
theorem call_isiB : CallR X (.builtin "isinstance") rIsiB := CallR.of call_isi (by
  intro vs H Q h
  rcases h with ⟨x, n, a, b, rfl, ha, hb, q⟩ | ⟨p, n, xs, b, rfl, ha, hb, q⟩ | ⟨p, n, xs, b, rfl, ha, hb, q⟩
  · refine ⟨x, .ty n, .type a, .type n, b, rfl, .ty n, ?_, kit_ty hb, q⟩
    cases x <;> cases ha
    · exact .base .non
    · exact .base (.bl _)
    · exact .base (.int _)
    · exact .base (.str _)
  · exact ⟨.ref p, .ty n, .type "list", .type n, b, rfl, .ty n, .base (.lst ha), kit_ty hb, q⟩
  · exact ⟨.ref p, .ty n, .type "tuple", .type n, b, rfl, .ty n, .base (.tup ha), kit_ty hb, q⟩)
theorem kb1 : kitB "int" "int" = some true := by decide +kernel
theorem kb2 : kitB "int" "bool" = some false := by decide +kernel
theorem kb3 : kitB "bool" "bool" = some true := by decide +kernel
theorem kb4 : kitB "bool" "int" = some true := by decide +kernel
theorem kb5 : kitB "str" "str" = some true := by decide +kernel
theorem kb6 : kitB "str" "int" = some false := by decide +kernel
theorem kb7 : kitB "list" "list" = some true := by decide +kernel
theorem kb8 : kitB "tuple" "tuple" = some true := by decide +kernel
theorem kb9 : kitB "NoneType" "int" = some false := by decide +kernel
theorem kb10 : kitB "NoneType" "list" = some false := by decide +kernel
/-- len, a copy, an item of a tracked list -/
def rLenH : List V → Hp → VK → Prop := fun vs H Q => ∃ p xs, vs = [.ref p] ∧ H p = some (.lst xs) ∧ Q (.int xs.length) H
theorem call_lenH : CallR X (.builtin "len") rLenH := CallR.of call_len_seq (by
  rintro vs H Q ⟨p, xs, rfl, h, q⟩
  exact ⟨p, xs, rfl, .inl (.inl (.inl h)), q⟩)
def rLenT : List V → Hp → VK → Prop := fun vs H Q => ∃ p xs, vs = [.ref p] ∧ H p = some (.tup xs) ∧ Q (.int xs.length) H
theorem call_lenT : CallR X (.builtin "len") rLenT := CallR.of call_len_seq (by
  rintro vs H Q ⟨p, xs, rfl, h, q⟩
  exact ⟨p, xs, rfl, .inr (.inl (.inl h)), q⟩)
def rListH : List V → Hp → VK → Prop := fun vs H Q => ∃ p xs, vs = [.ref p] ∧ H p = some (.lst xs) ∧ ∀ l, H l = none → Q (.ref l) (upd H l (.lst xs))
theorem call_listH : CallR X (.type "list") rListH := CallR.of call_list_of (by
  rintro vs H Q ⟨p, xs, rfl, h, q⟩
  exact ⟨p, xs, rfl, .inl (.inl (.inl h)), q⟩)
theorem ints_dp {K : PySem.W.Frag} {H : Hp} : ∀ ns : List Int, DpAll K H (ns.map V.int) (ns.map PyData.int)
  | [] => .nil
  | n :: r => .cons (.int n) (ints_dp r)
theorem ints_eqv : ∀ ns ms : List Int, PyData.eqvAll (ns.map PyData.int) (ms.map PyData.int) = decide (ns = ms)
  | [], [] => by simp [PyData.eqvAll]
  | [], _ :: _ => by simp [PyData.eqvAll]
  | _ :: _, [] => by simp [PyData.eqvAll]
  | n :: r, m :: q => by
    rw [List.map_cons, List.map_cons, PyData.eqvAll, ints_eqv r q]
    simp only [PyData.eqv, List.cons.injEq, Bool.decide_and]
    by_cases h : n = m <;> simp [h]
theorem ints_lay : ∀ ns : List Int, PyData.canLayAll0 (ns.map PyData.int) = true
  | [] => rfl
  | _ :: r => by rw [List.map_cons, PyData.canLayAll0, ints_lay r]; rfl
theorem ints_depth : ∀ ns : List Int, PyData.depthAll (ns.map PyData.int) = 0
  | [] => rfl
  | _ :: r => by rw [List.map_cons, PyData.depthAll, ints_depth r]; rfl
theorem ints_shaped (ns : List Int) : SeqAt.shaped (.list (ns.map PyData.int)) = true := by
  unfold SeqAt.shaped
  rw [PyData.canLay0, ints_lay, PyData.depth, ints_depth]
  rfl
/-- == and != of two tracked lists of ints -/
def rEqIL : R2 := fun x y H Q => ∃ a b ns ms, x = .ref a ∧ y = .ref b ∧ H a = some (.lst (List.map V.int ns)) ∧ H b = some (.lst (List.map V.int ms)) ∧ Q (.bl (decide (ns = ms))) H
theorem op_eqIL (hu : X.A.units + 64 < cLine) : OpR X (compareOp .Eq) rEqIL := OpR.of (op_eqD hu) (by
  rintro x y H Q ⟨a, b, ns, ms, rfl, rfl, ha, hb, q⟩
  refine ⟨_, _, .lst (.inl (.inl ha)) (ints_dp ns), .lst (.inl (.inl hb)) (ints_dp ms), ints_shaped ns, ints_shaped ms, ?_⟩
  rw [PyData.eqv, ints_eqv]
  exact q)
def rNeIL : R2 := fun x y H Q => ∃ a b ns ms, x = .ref a ∧ y = .ref b ∧ H a = some (.lst (List.map V.int ns)) ∧ H b = some (.lst (List.map V.int ms)) ∧ Q (.bl (!decide (ns = ms))) H
theorem op_neIL (hu : X.A.units + 64 < cLine) : OpR X (compareOp .NotEq) rNeIL := OpR.of (op_neD hu) (by
  rintro x y H Q ⟨a, b, ns, ms, rfl, rfl, ha, hb, q⟩
  refine ⟨_, _, .lst (.inl (.inl ha)) (ints_dp ns), .lst (.inl (.inl hb)) (ints_dp ms), ints_shaped ns, ints_shaped ms, ?_⟩
  rw [PyData.eqv, ints_eqv]
  exact q)
/-- == of two tracked tuples of plain things -/
def dS : V → PyData
  | .int i => .int i
  | .bl b => .bool b
  | _ => .none
def isS : V → Bool
  | .int _ => true
  | .bl _ => true
  | .non => true
  | _ => false
theorem isS_dp {K : PySem.W.Frag} {H : Hp} : ∀ xs : List V, xs.all isS = true → DpAll K H xs (xs.map dS)
  | [], _ => .nil
  | x :: r, h => by
    rw [List.all_cons, Bool.and_eq_true] at h
    refine .cons ?_ (isS_dp r h.2)
    have h1 := h.1
    cases x <;> first | exact .int _ | exact .bl _ | exact .non | cases h1
theorem isS_lay : ∀ xs : List V, PyData.canLayAll0 (xs.map dS) = true
  | [] => rfl
  | x :: r => by rw [List.map_cons, PyData.canLayAll0, isS_lay r]; cases x <;> rfl
theorem isS_depth : ∀ xs : List V, PyData.depthAll (xs.map dS) = 0
  | [] => rfl
  | x :: r => by rw [List.map_cons, PyData.depthAll, isS_depth r]; cases x <;> rfl
theorem isS_shaped (xs : List V) : SeqAt.shaped (.tuple (xs.map dS)) = true := by
  unfold SeqAt.shaped
  rw [PyData.canLay0, isS_lay, PyData.depth, isS_depth]
  rfl
def rEqTS : R2 := fun x y H Q => ∃ a b xs ys, x = .ref a ∧ y = .ref b ∧ H a = some (.tup xs) ∧ H b = some (.tup ys) ∧ xs.all isS = true ∧ ys.all isS = true ∧ Q (.bl (PyData.eqvAll (xs.map dS) (ys.map dS))) H
theorem op_eqTS (hu : X.A.units + 64 < cLine) : OpR X (compareOp .Eq) rEqTS := OpR.of (op_eqD hu) (by
  rintro x y H Q ⟨a, b, xs, ys, rfl, rfl, ha, hb, h1, h2, q⟩
  refine ⟨_, _, .tup (.inl (.inl ha)) (isS_dp xs h1), .tup (.inl (.inl hb)) (isS_dp ys h2), isS_shaped xs, isS_shaped ys, ?_⟩
  rw [PyData.eqv]
  exact q)
theorem dS_int (i : Int) : dS (.int i) = .int i := rfl
theorem dS_bl (b : Bool) : dS (.bl b) = .bool b := rfl
theorem isS_int (i : Int) : isS (.int i) = true := rfl
theorem isS_bl (b : Bool) : isS (.bl b) = true := rfl
theorem eqv_ii (i j : Int) : PyData.eqv (.int i) (.int j) = decide (i = j) := by rw [PyData.eqv]; rfl
theorem eqv_bb (i j : Bool) : PyData.eqv (.bool i) (.bool j) = decide (i = j) := by rw [PyData.eqv]; cases i <;> cases j <;> rfl
theorem eqvAll_nil : PyData.eqvAll [] [] = true := by rw [PyData.eqvAll]
theorem eqvAll_cons (x y : PyData) (xs ys : List PyData) : PyData.eqvAll (x :: xs) (y :: ys) = (PyData.eqv x y && PyData.eqvAll xs ys) := by rw [PyData.eqvAll]
theorem ip_of {op : Operator} {r : R2} (h : OpR X (inplaceOp op) r) : PIp X op r := fun pins s σ H x y v u Q I r1 r2 q => h pins s σ H x y v u Q I r1 r2 q
theorem SlR.of {r r' : V → Option Int → Option Int → Hp → VK → Prop} (h : SlR X r) (k : ∀ x lo hi H Q, r' x lo hi H Q → r x lo hi H Q) : SlR X r' := fun pins s σ H x v vl vu lo hi sl Q I rx hs pl pu q => h pins s σ H x v vl vu lo hi sl Q I rx hs pl pu (k x lo hi H Q q)
/-- a slice of a tracked list -/
def rSlH : V → Option Int → Option Int → Hp → VK → Prop := fun x lo hi H Q => ∃ a xs, x = .ref a ∧ H a = some (.lst xs) ∧ ∀ p, H p = none → Q (.ref p) (upd H p (.lst (cutV xs lo hi)))
theorem sl_listH : SlR X rSlH := SlR.of sl_list (by
  rintro x lo hi H Q ⟨a, xs, rfl, h, q⟩
  exact ⟨a, xs, rfl, .inl (.inl h), q⟩)
/-- == and != of two tracked pairs of a list of ints and an int -/
theorem li_dp {K : PySem.W.Frag} {H : Hp} {q : Addr} {l : Int} {ns : List Int} (hq : H q = some (.lst (List.map V.int ns))) : DpAll K H [.ref q, .int l] [.list (ns.map PyData.int), .int l] := .cons (.lst (.inl (.inl hq)) (ints_dp ns)) (.cons (.int l) .nil)
theorem li_shaped (ns : List Int) (l : Int) : SeqAt.shaped (.tuple [.list (ns.map PyData.int), .int l]) = true := by
  unfold SeqAt.shaped
  rw [PyData.canLay0, PyData.canLayAll0, PyData.canLay0, ints_lay, PyData.canLayAll0, PyData.depth, PyData.depthAll, PyData.depth, ints_depth, PyData.depthAll]
  rfl
theorem li_eqv (ns ms : List Int) (l m : Int) : PyData.eqv (.tuple [.list (ns.map PyData.int), .int l]) (.tuple [.list (ms.map PyData.int), .int m]) = (decide (ns = ms) && decide (l = m)) := by
  rw [PyData.eqv, PyData.eqvAll, PyData.eqvAll, PyData.eqvAll, PyData.eqv, PyData.eqv, ints_eqv, Bool.and_true]
  rfl
def rEqLI : R2 := fun x y H Q => ∃ a b q r l m ns ms, x = .ref a ∧ y = .ref b ∧ H a = some (.tup [.ref q, .int l]) ∧ H b = some (.tup [.ref r, .int m]) ∧ H q = some (.lst (List.map V.int ns)) ∧ H r = some (.lst (List.map V.int ms)) ∧ Q (.bl (decide (ns = ms) && decide (l = m))) H
theorem op_eqLI (hu : X.A.units + 64 < cLine) : OpR X (compareOp .Eq) rEqLI := OpR.of (op_eqD hu) (by
  rintro x y H Q ⟨a, b, q, r, l, m, ns, ms, rfl, rfl, ha, hb, hq, hr, k⟩
  refine ⟨_, _, .tup (.inl (.inl ha)) (li_dp hq), .tup (.inl (.inl hb)) (li_dp hr), li_shaped ns l, li_shaped ms m, ?_⟩
  rw [li_eqv]
  exact k)
def rNeLI : R2 := fun x y H Q => ∃ a b q r l m ns ms, x = .ref a ∧ y = .ref b ∧ H a = some (.tup [.ref q, .int l]) ∧ H b = some (.tup [.ref r, .int m]) ∧ H q = some (.lst (List.map V.int ns)) ∧ H r = some (.lst (List.map V.int ms)) ∧ Q (.bl (!(decide (ns = ms) && decide (l = m)))) H
theorem op_neLI (hu : X.A.units + 64 < cLine) : OpR X (compareOp .NotEq) rNeLI := OpR.of (op_neD hu) (by
  rintro x y H Q ⟨a, b, q, r, l, m, ns, ms, rfl, rfl, ha, hb, hq, hr, k⟩
  refine ⟨_, _, .tup (.inl (.inl ha)) (li_dp hq), .tup (.inl (.inl hb)) (li_dp hr), li_shaped ns l, li_shaped ms m, ?_⟩
  rw [li_eqv]
  exact k)
def rIxH : R2 := fun x y H Q => ∃ p xs i v, x = .ref p ∧ y = .int i ∧ H p = some (.lst xs) ∧ atI xs i = some v ∧ Q v H
theorem IxR.of {r r' : R2} (h : IxR X r) (k : ∀ x y H Q, r' x y H Q → r x y H Q) : IxR X r' := fun va sl pins s σ H x y v u Q I rx ry q hs => h va sl pins s σ H x y v u Q I rx ry (k x y H Q q) hs
theorem ix_listH : IxR X rIxH := IxR.of ix_list (by
  rintro x y H Q ⟨p, xs, i, v, e1, e2, h, h2, q⟩
  exact ⟨p, xs, i, v, e1, e2, .inl (.inl h), h2, q⟩)
def rIxTH : R2 := fun x y H Q => ∃ p xs i v, x = .ref p ∧ y = .int i ∧ H p = some (.tup xs) ∧ atI xs i = some v ∧ Q v H
theorem ix_tupH : IxR X rIxTH := IxR.of ix_tup (by
  rintro x y H Q ⟨p, xs, i, v, e1, e2, h, h2, q⟩
  exact ⟨p, xs, i, v, e1, e2, .inl (.inl h), h2, q⟩)
end
/-- a place in bounds -/
theorem ixN_in {n : Nat} {k : Int} (h0 : 0 ≤ k) (h1 : k < n) : ixN n k = some k.toNat := by
  unfold ixN
  rw [if_pos h0, if_pos h1]
theorem atI_in {xs : List Int} {k : Int} (h0 : 0 ≤ k) (h1 : k < xs.length) : ∃ b, xs[k.toNat]? = some b ∧ atI (xs.map V.int) k = some (.int b) := by
  have h : k.toNat < xs.length := by omega
  refine ⟨xs[k.toNat], List.getElem?_eq_getElem h, ?_⟩
  unfold atI
  rw [List.length_map, ixN_in h0 h1]
  show (xs.map V.int)[k.toNat]? = _
  rw [List.getElem?_map, List.getElem?_eq_getElem h]
  rfl
theorem mod_in (x : Int) {m : Int} (h : 0 < m) : 0 ≤ x % m ∧ x % m < m := ⟨Int.emod_nonneg x (by omega), Int.emod_lt_of_pos x h⟩
theorem atI_c0 {α : Type} (x : α) (xs : List α) : atI (x :: xs) 0 = some x := atI_nat (j := 0) rfl
theorem atI_c1 {α : Type} (x y : α) (xs : List α) : atI (x :: y :: xs) 1 = some y := atI_nat (j := 1) rfl
theorem atI_c2 {α : Type} (x y z : α) (xs : List α) : atI (x :: y :: z :: xs) 2 = some z := atI_nat (j := 2) rfl
theorem atI_c3 {α : Type} (x y z u : α) (xs : List α) : atI (x :: y :: z :: u :: xs) 3 = some u := atI_nat (j := 3) rfl

theorem tyV_upd {K : PySem.W.Frag} {H : Hp} {p : Addr} {xs : List V} : tyV K "list" (.ref p) (upd H p (.lst xs)) = True := eq_true (.inl ⟨rfl, xs, .inl (.inl upd_same)⟩)
theorem nil_sz : (0 ≤ sizeLine) = True := eq_true (Nat.zero_le _)
/-- what a for asks once its walk stands -/
def Loop (J : It) (g : TG) (tb : TS) (D : Ends) (σ : L2.St) (H1 : Hp) : Prop := ∃ W : Nat → Nat → L2.St → Hp → Prop, (∃ m, W 0 m σ H1) ∧ ∀ i m σ H, W i m σ H →
  (J.stop i H ∧ D.nx σ H) ∨ (J.go i H ∧ ∃ N : L2.St → Hp → Prop, (∀ σ' H', N σ' H' → ∃ m', m' < m ∧ W (i + 1) m' σ' H') ∧ ∀ x H', J.yld i H x H' → g x σ H' fun σ2 H2 => tb { D with nx := N, ct := N, bk := D.nx } σ2 H2)
theorem tFor_eq {wi : TI} {g : TG} {tb : TS} {D : Ends} {σ : L2.St} {H : Hp} : tFor wi g tb D σ H = wi σ H fun J H1 => Loop J g tb D σ H1 := rfl
theorem lp_range {n : Nat} {g : TG} {tb : TS} {D : Ends} {σ : L2.St} {H : Hp} (Pv : Nat → L2.St → Hp → Prop) (h0 : Pv 0 σ H)
    (hs : ∀ i σ H, i < n → Pv i σ H → g (.int i) σ H fun σ2 H2 => tb { D with nx := Pv (i + 1), ct := Pv (i + 1), bk := D.nx } σ2 H2) (hd : ∀ σ H, Pv n σ H → D.nx σ H) : Loop (Itr 0 n) g tb D σ H :=
  for_range (lo := 0) Pv h0 (fun i σ H a b => by have := hs i σ H a b; rw [Int.zero_add]; exact this) hd
theorem lp_list {K : PySem.W.Frag} {a : Addr} {xs : List V} {g : TG} {tb : TS} {D : Ends} {σ : L2.St} {H : Hp} (Pv : Nat → L2.St → Hp → Prop) (h0 : Pv 0 σ H) (hl : ∀ i σ H, i ≤ xs.length → Pv i σ H → SqL K H a xs)
    (hs : ∀ i x σ H, xs[i]? = some x → Pv i σ H → g x σ H fun σ2 H2 => tb { D with nx := Pv (i + 1), ct := Pv (i + 1), bk := D.nx } σ2 H2) (hd : ∀ σ H, Pv xs.length σ H → D.nx σ H) : Loop (Itl K a) g tb D σ H := for_list Pv h0 hl hs hd
/-- the same for a comprehension -/
def LcLoop (J : It) (g : TG) (tt : TT) (te : TE) (vs : List Nat) (σ : L2.St) (H1 : Hp) (Q : VK) : Prop := ∀ D, H1 D = none → ∃ W : Nat → Nat → Hp → Prop, (∃ m, W 0 m (upd H1 D (.lst []))) ∧ ∀ i m H, W i m H →
  (J.stop i H ∧ Q (.ref D) H) ∨ (J.go i H ∧ ∃ Nx : Hp → Prop, (∀ H', Nx H' → ∃ m', m' < m ∧ W (i + 1) m' H') ∧ ∀ x H', J.yld i H x H' → g x (wipe σ vs) H' fun σ2 H2 => wipe σ2 vs = wipe σ vs ∧ tt σ2 H2 fun b H3 =>
    if b = true then te σ2 H3 fun y H4 => ∃ acc, H4 D = some (.lst acc) ∧ acc.length < sizeLine ∧ Nx (upd H4 D (.lst (acc ++ [y]))) else Nx H3)
theorem tLc_eq {wi : TI} {g : TG} {tt : TT} {te : TE} {vs : List Nat} {σ : L2.St} {H : Hp} {Q : VK} : tLc wi g tt te vs σ H Q = wi σ H fun J H1 => LcLoop J g tt te vs σ H1 Q := rfl
/-- a comprehension over a list, whose elements leave the heap as it is: L i is what i turns have made -/
theorem lc_pure {K : PySem.W.Frag} {a : Addr} {xs : List V} {g : TG} {tt : TT} {te : TE} {vs : List Nat} {σ : L2.St} {H1 : Hp} {Q : VK} (L : Nat → List V) (hS : SqL K H1 a xs) (h0 : L 0 = [])
    (hs : ∀ i x D, xs[i]? = some x → H1 D = none → g x (wipe σ vs) (upd H1 D (.lst (L i))) fun σ2 H2 => wipe σ2 vs = wipe σ vs ∧ tt σ2 H2 fun b H3 =>
      if b = true then te σ2 H3 fun y H4 => ∃ acc, H4 D = some (.lst acc) ∧ acc.length < sizeLine ∧ upd H4 D (.lst (acc ++ [y])) = upd H1 D (.lst (L (i + 1))) else H3 = upd H1 D (.lst (L (i + 1))))
    (hd : ∀ D, H1 D = none → Q (.ref D) (upd H1 D (.lst (L xs.length)))) : LcLoop (Itl K a) g tt te vs σ H1 Q := by
  intro D hD
  refine lc_list (K := K) (a := a) (xs := xs) (fun i H => H = upd H1 D (.lst (L i))) (by rw [h0]) (fun i H _ e => ?_) (fun i x H hx e => ?_) (fun H e => ?_)
  · subst e
    exact (show Same H1 _ from fun b o e => by rw [upd_ne (ne_of_none e hD)]; exact e).seq hS
  · subst e
    exact hs i x D hx hD
  · subst e
    exact hd D hD
theorem lc_pure_range {n : Nat} {g : TG} {tt : TT} {te : TE} {vs : List Nat} {σ : L2.St} {H1 : Hp} {Q : VK} (L : Nat → List V) (h0 : L 0 = [])
    (hs : ∀ i D, i < n → H1 D = none → g (.int i) (wipe σ vs) (upd H1 D (.lst (L i))) fun σ2 H2 => wipe σ2 vs = wipe σ vs ∧ tt σ2 H2 fun b H3 =>
      if b = true then te σ2 H3 fun y H4 => ∃ acc, H4 D = some (.lst acc) ∧ acc.length < sizeLine ∧ upd H4 D (.lst (acc ++ [y])) = upd H1 D (.lst (L (i + 1))) else H3 = upd H1 D (.lst (L (i + 1))))
    (hd : ∀ D, H1 D = none → Q (.ref D) (upd H1 D (.lst (L n)))) : LcLoop (Itr 0 n) g tt te vs σ H1 Q := by
  intro D hD
  refine lc_range (lo := 0) (n := n) (fun i H => H = upd H1 D (.lst (L i))) (by rw [h0]) (fun i H hi e => ?_) (fun H e => ?_)
  · subst e
    rw [Int.zero_add]
    exact hs i D hi hD
  · subst e
    exact hd D hD
theorem lp_zip {K : PySem.W.Frag} {a b : Addr} {xs ys : List V} {g : TG} {tb : TS} {D : Ends} {σ : L2.St} {H : Hp} (hl : xs.length = ys.length) (Pv : Nat → L2.St → Hp → Prop) (h0 : Pv 0 σ H) (hq : ∀ i σ H, Pv i σ H → SqL K H a xs ∧ SqL K H b ys)
    (hs : ∀ (i : Nat) (x y : V) (T : Addr) (σ : L2.St) (H : Hp), xs[i]? = some x → ys[i]? = some y → Pv i σ H → H T = none → g (.ref T) σ (upd H T (.tup [x, y])) fun σ2 H2 => tb { D with nx := Pv (i + 1), ct := Pv (i + 1), bk := D.nx } σ2 H2) (hd : ∀ σ H, Pv xs.length σ H → D.nx σ H) :
    Loop (Itz K a b) g tb D σ H := RZ.for_zipL hl Pv h0 hq hs hd
theorem lc_str {x : Str} {g : TG} {tt : TT} {te : TE} {vs : List Nat} {σ : L2.St} {H1 : Hp} {Q : VK} (L : Nat → List V) (h0 : L 0 = [])
    (hs : ∀ i c D, x.cps[i]? = some c → H1 D = none → g (.str ⟨#[c]⟩) (wipe σ vs) (upd H1 D (.lst (L i))) fun σ2 H2 => wipe σ2 vs = wipe σ vs ∧ tt σ2 H2 fun b H3 =>
      if b = true then te σ2 H3 fun y H4 => ∃ acc, H4 D = some (.lst acc) ∧ acc.length < sizeLine ∧ upd H4 D (.lst (acc ++ [y])) = upd H1 D (.lst (L (i + 1))) else H3 = upd H1 D (.lst (L (i + 1))))
    (hd : ∀ D, H1 D = none → Q (.ref D) (upd H1 D (.lst (L x.cps.size)))) : LcLoop (Its x) g tt te vs σ H1 Q := by
  intro D hD
  refine ⟨fun i m H => m = x.cps.size - i ∧ i ≤ x.cps.size ∧ H = upd H1 D (.lst (L i)), ⟨x.cps.size, by simp, Nat.zero_le _, by rw [h0]⟩, ?_⟩
  rintro i m H ⟨rfl, hi, rfl⟩
  by_cases hlt : i < x.cps.size
  · refine .inr ⟨hlt, fun H' => H' = upd H1 D (.lst (L (i + 1))), fun H' p' => ⟨x.cps.size - (i + 1), by omega, rfl, hlt, p'⟩, fun v H' y => ?_⟩
    obtain ⟨e, c, hc, ev⟩ := y
    subst e ev
    exact hs i c D hc hD
  · have e : i = x.cps.size := by omega
    subst e
    exact .inl ⟨Nat.le_refl _, hd D hD⟩
theorem lc_rangeC {lo c : Int} {n : Nat} {g : TG} {tt : TT} {te : TE} {vs : List Nat} {σ : L2.St} {H1 : Hp} {Q : VK} (L : Nat → List V) (h0 : L 0 = [])
    (hs : ∀ i D, i < n → H1 D = none → g (.int (lo + (i : Nat) * c)) (wipe σ vs) (upd H1 D (.lst (L i))) fun σ2 H2 => wipe σ2 vs = wipe σ vs ∧ tt σ2 H2 fun b H3 =>
      if b = true then te σ2 H3 fun y H4 => ∃ acc, H4 D = some (.lst acc) ∧ acc.length < sizeLine ∧ upd H4 D (.lst (acc ++ [y])) = upd H1 D (.lst (L (i + 1))) else H3 = upd H1 D (.lst (L (i + 1))))
    (hd : ∀ D, H1 D = none → Q (.ref D) (upd H1 D (.lst (L n)))) : LcLoop (Itc lo c n) g tt te vs σ H1 Q := by
  intro D hD
  refine ⟨fun i m H => m = n - i ∧ i ≤ n ∧ H = upd H1 D (.lst (L i)), ⟨n, by simp, Nat.zero_le _, by rw [h0]⟩, ?_⟩
  rintro i m H ⟨rfl, hi, rfl⟩
  by_cases hlt : i < n
  · refine .inr ⟨hlt, fun H' => H' = upd H1 D (.lst (L (i + 1))), fun H' p' => ⟨n - (i + 1), by omega, rfl, hlt, p'⟩, fun v H' y => ?_⟩
    obtain ⟨e, ev⟩ := y
    subst e ev
    exact hs i D hlt hD
  · have e : i = n := by omega
    subst e
    exact .inl ⟨Nat.le_refl _, hd D hD⟩
theorem small_two {a b : Int} (ha : -(2 ^ 62) ≤ a) (ha' : a < 2 ^ 62) (hb : -(2 ^ 62) ≤ b) (hb' : b < 2 ^ 62) : Builtin.Range.small a b 2 = true := by
  unfold Builtin.Range.small Builtin.Range.rangeSize
  simp only [Builtin.Range.rangeFitsLong, Bool.and_eq_true, Bool.or_eq_true, decide_eq_true_eq, beq_iff_eq, show ((2 : Int) > 0) by decide, if_true]
  split <;> omega
theorem rg_two {n : Nat} (h : n < 1000000) : RgC 0 ((n : Int) - 1) 2 (n / 2) := by
  refine ⟨by decide, by decide, small_two (by decide) (by decide) (by omega) (by omega), ?_⟩
  unfold Builtin.Range.rangeSize
  rw [if_pos (by decide)]
  split <;> omega
theorem wh_by {c : TT} {tb : TS} {D : Ends} {σ : L2.St} {H : Hp} (W : Nat → L2.St → Hp → Prop) (m : Nat) (h0 : W m σ H)
    (hs : ∀ m σ H, W m σ H → c σ H fun b H1 => if b = true then ∃ N : L2.St → Hp → Prop, (∀ σ' H', N σ' H' → ∃ m', m' < m ∧ W m' σ' H') ∧ tb { D with nx := N, ct := N, bk := D.nx } σ H1 else D.nx σ H1) : tWhile c tb D σ H := ⟨W, ⟨m, h0⟩, hs⟩
theorem lc_rng {n : Nat} {g : TG} {tt : TT} {te : TE} {vs : List Nat} {σ : L2.St} {H1 : Hp} {Q : VK} (Pv : Addr → Nat → Hp → Prop) (h0 : ∀ D, H1 D = none → Pv D 0 (upd H1 D (.lst [])))
    (hs : ∀ D i H, i < n → H1 D = none → Pv D i H → g (.int i) (wipe σ vs) H fun σ2 H2 => wipe σ2 vs = wipe σ vs ∧ tt σ2 H2 fun b H3 =>
      if b = true then te σ2 H3 fun y H4 => ∃ acc, H4 D = some (.lst acc) ∧ acc.length < sizeLine ∧ Pv D (i + 1) (upd H4 D (.lst (acc ++ [y]))) else Pv D (i + 1) H3)
    (hd : ∀ D H, H1 D = none → Pv D n H → Q (.ref D) H) : LcLoop (Itr 0 n) g tt te vs σ H1 Q := by
  intro D hD
  refine lc_range (lo := 0) (n := n) (Pv D) (h0 D hD) (fun i H hi p => ?_) (fun H p => hd D H hD p)
  rw [Int.zero_add]
  exact hs D i H hi hD p
theorem same_upd {H : Hp} {p : Addr} {o : HO} (h : H p = none) : Same H (upd H p o) := fun b x e => by
  rw [upd_ne (ne_of_none e h)]
  exact e
theorem same_upd2 {H H' : Hp} {q : Addr} {o : HO} (s : Same H H') (h : H q = none) : Same H (upd H' q o) := fun b x e => by
  rw [upd_ne (ne_of_none e h)]
  exact s b x e

/-! ### fresh objects: the heap behind one as a heap of its own -/
def NewH (H : Hp) (o : HO) (k : Addr → Hp → Prop) : Prop := ∀ p H', Same H H' → H p = none → H' p = some o → k p H'
theorem NewH.go {H : Hp} {o : HO} {k : Addr → Hp → Prop} (h : NewH H o k) : ∀ p, H p = none → k p (upd H p o) := fun p hp => h p _ (same_upd hp) hp upd_same
section
variable {X : Cx} {es : List Expr} {t : TA} {pos : Pos}
theorem pa_mono (h : PA X es t) : PA X es (fun σ H Q => ∃ Q', t σ H Q' ∧ ∀ xs H1, Q' xs H1 → Q xs H1) := ⟨fun pos pins s σ H Q I ⟨_, q, k⟩ => thn (h.run pos pins s σ H _ I q) fun _ _ ⟨vs, H', I', r, q'⟩ => ⟨vs, H', I', r, k _ _ q'⟩⟩
theorem PE.of {e : Expr} {t t' : TE} (h : PE X e t) (k : ∀ σ H Q, t' σ H Q → t σ H Q) : PE X e t' := ⟨fun pins s σ H Q I q => h.run pins s σ H Q I (k _ _ _ q)⟩
def tTupS (t : TA) : TE := fun σ H Q => t σ H fun xs H1 => xs.length ≤ sizeLine ∧ NewH H1 (.tup xs) fun p H' => Q (.ref p) H'
def tLstS (t : TA) : TE := fun σ H Q => t σ H fun xs H1 => xs.length ≤ sizeLine ∧ NewH H1 (.lst xs) fun p H' => Q (.ref p) H'
theorem pe_tupS {x1} (h : PA X es t) : PE X (.Tuple es x1 pos) (tTupS t) := PE.of (pe_tup (pa_mono h)) fun σ H Q q => ⟨_, q, fun _ _ z => ⟨z.1, z.2.go⟩⟩
theorem pe_lstS (h : PA X es t) : PE X (.List es pos) (tLstS t) := PE.of (pe_lst (pa_mono h)) fun σ H Q q => ⟨_, q, fun _ _ z => ⟨z.1, z.2.go⟩⟩
def rListS : List V → Hp → VK → Prop := fun vs H Q => ∃ p xs, vs = [.ref p] ∧ H p = some (.lst xs) ∧ NewH H (.lst xs) fun l H' => Q (.ref l) H'
theorem call_listS : CallR X (.type "list") rListS := CallR.of call_listH fun vs H Q ⟨p, xs, e, h, q⟩ => ⟨p, xs, e, h, q.go⟩
/-- list(t) of a tuple -/
def rListT : List V → Hp → VK → Prop := fun vs H Q => ∃ p xs, vs = [.ref p] ∧ H p = some (.tup xs) ∧ NewH H (.lst xs) fun l H' => Q (.ref l) H'
theorem call_listT : CallR X (.type "list") rListT := CallR.of call_list_of fun vs H Q ⟨p, xs, e, h, q⟩ => ⟨p, xs, e, .inr (.inl (.inl h)), q.go⟩
/-- tuple(xs) of a tracked list -/
def rTupleL : List V → Hp → VK → Prop := fun vs H Q => ∃ p xs, vs = [.ref p] ∧ H p = some (.lst xs) ∧ NewH H (.tup xs) fun l H' => Q (.ref l) H'
theorem call_tupleL : CallR X (.type "tuple") rTupleL := CallR.of call_tuple_of fun vs H Q ⟨p, xs, e, h, q⟩ => ⟨p, xs, e, .inl ⟨.inl (.inl h), q.go⟩⟩
def rCatL : R2 := fun x y H Q => ∃ l b xs zs, x = .ref l ∧ y = .ref b ∧ H l = some (.lst xs) ∧ H b = some (.lst zs) ∧ xs.length + zs.length ≤ sizeLine ∧ NewH H (.lst (xs ++ zs)) fun p H' => Q (.ref p) H'
theorem op_catS : OpR X (binaryOp .Add) rCatL := OpR.of op_cat fun x y H Q ⟨l, b, xs, zs, e1, e2, h1, h2, z, q⟩ => ⟨l, b, xs, zs, e1, e2, h1, h2, z, q.go⟩
/-- [x] * n -/
def rRepS : R2 := fun x y H Q => ∃ l k v, x = .ref l ∧ y = .int k ∧ H l = some (.lst [v]) ∧ k ≤ 16777216 ∧ -(2 ^ 62) ≤ k ∧ NewH H (.lst (List.replicate k.toNat v)) fun p H' => Q (.ref p) H'
theorem rep_flat {α : Type} (n : Nat) (y : α) : (List.replicate n [y]).flatten = List.replicate n y := by
  induction n with
  | zero => rfl
  | succ n ih => rw [List.replicate_succ, List.flatten_cons, ih, List.replicate_succ]; rfl
theorem op_repS : OpR X (binaryOp .Mult) rRepS := OpR.of op_rep fun x y H Q ⟨l, k, v, e1, e2, h1, z1, z2, q⟩ => ⟨l, k, [v], e1, e2, h1, by omega, by omega, by
    rw [List.length_singleton, show sizeLine = 16777216 from rfl]; omega, by rw [rep_flat]; exact q.go⟩
def rSlS : V → Option Int → Option Int → Hp → VK → Prop := fun x lo hi H Q => ∃ a xs, x = .ref a ∧ H a = some (.lst xs) ∧ NewH H (.lst (cutV xs lo hi)) fun p H' => Q (.ref p) H'
theorem sl_listS : SlR X rSlS := SlR.of sl_listH fun x lo hi H Q ⟨a, xs, e, h, q⟩ => ⟨a, xs, e, h, q.go⟩
theorem pe_mono {e : Expr} {t : TE} (h : PE X e t) : PE X e (fun σ H Q => ∃ Q', t σ H Q' ∧ ∀ v H1, Q' v H1 → Q v H1) := ⟨fun pins s σ H Q I ⟨_, q, k⟩ => thn (h.run pins s σ H _ I q) fun _ _ ⟨v, H', I', r, q'⟩ => ⟨v, H', I', r, k _ _ q'⟩⟩
theorem PG.of {e : Expr} {t t' : TG} (h : PG X e t) (k : ∀ v σ H Q, t' v σ H Q → t v σ H Q) : PG X e t' := ⟨fun pins s σ H v u Q I r q => h.run pins s σ H v u Q I r (k _ _ _ _ q)⟩
theorem PI.of {tg e : Expr} {t t' : TI} (h : PI X tg e t) (k : ∀ σ H R, t' σ H R → t σ H R) : PI X tg e t' := ⟨fun pins s σ H R I q => h.run pins s σ H R I (k _ _ _ q)⟩
def gTupS (n : Nat) (t : TGs) : TG := fun v σ H Q => ∃ a xs, v = .ref a ∧ H a = some (.tup xs) ∧ xs.length = n ∧ t xs σ H Q
theorem pg_tupS {k : Nat} {t : TGs} {n : Nat} (hc : X.calm = true) (h : PGs X es t) (hn : (assignEach es X.env).length = n := by rfl) (hst : (assignEach es X.env).findIdx? (·.1) = none := by rfl) : PG X (.Tuple es k pos) (gTupS n t) :=
  PG.of (pg_tup hc h hn hst) fun v σ H Q ⟨a, xs, e, g, l, q⟩ => ⟨a, xs, e, .inl (.inl g), l, q⟩
def gLstS (n : Nat) (t : TGs) : TG := fun v σ H Q => ∃ a xs, v = .ref a ∧ H a = some (.lst xs) ∧ xs.length = n ∧ t xs σ H Q
theorem pg_lstS {k : Nat} {t : TGs} {n : Nat} (hc : X.calm = true) (h : PGs X es t) (hn : (assignEach es X.env).length = n := by rfl) (hst : (assignEach es X.env).findIdx? (·.1) = none := by rfl) : PG X (.Tuple es k pos) (gLstS n t) :=
  PG.of (pg_lst hc h hn hst) fun v σ H Q ⟨a, xs, e, g, l, q⟩ => ⟨a, xs, e, .inl (.inl g), l, q⟩
def iListS (K : PySem.W.Frag) (tl : TE) : TI := fun σ H R => tl σ H fun x H1 => ∃ a xs, x = .ref a ∧ H1 a = some (.lst xs) ∧ R (Itl K a) H1
theorem pi_listS {tg l : Expr} {tl : TE} (hl : PE X l tl) : PI X tg l (iListS X.K tl) := PI.of (pi_list (pe_mono hl)) fun σ H R q => ⟨_, q, fun _ _ ⟨a, xs, e, g, r⟩ => ⟨a, e, ⟨xs, .inl (.inl g)⟩, r⟩⟩
def iTupS (K : PySem.W.Frag) (tl : TE) : TI := fun σ H R => tl σ H fun x H1 => ∃ a xs, x = .ref a ∧ H1 a = some (.tup xs) ∧ R (Itt K a) H1
theorem pi_tupS {tg l : Expr} {tl : TE} (hl : PE X l tl) : PI X tg l (iTupS X.K tl) := PI.of (pi_tup (pe_mono hl)) fun σ H R q => ⟨_, q, fun _ _ ⟨a, xs, e, g, r⟩ => ⟨a, e, ⟨xs, .inl (.inl g)⟩, r⟩⟩
def tML (r : V → List V → Hp → VK → Prop) (to : TE) (t : TA) : TE := fun σ H Q => to σ H fun x H1 => ∃ p xs, x = .ref p ∧ H1 p = some (.lst xs) ∧ t σ H1 fun ys H2 => r x ys H2 Q
theorem pe_ml {to : TE} {t : TA} {e : PySem.Expr} {K : PySem.W.Frag} {r : V → List V → Hp → VK → Prop} (h : PE X e (tBM K "list" r (fun σ H Q => ∃ Q', to σ H Q' ∧ ∀ v H1, Q' v H1 → Q v H1) t)) : PE X e (tML r to t) :=
  PE.of h fun σ H Q q => ⟨_, q, fun v H1 ⟨p, xs, e, g, z⟩ => ⟨by rw [e]; exact .inl ⟨rfl, xs, .inl (.inl g)⟩, z⟩⟩
def tML0 (r : V → List V → Hp → VK → Prop) (to : TE) : TE := fun σ H Q => to σ H fun x H1 => ∃ p xs, x = .ref p ∧ H1 p = some (.lst xs) ∧ r x [] H1 Q
theorem pe_ml0 {to : TE} {e : PySem.Expr} {K : PySem.W.Frag} {r : V → List V → Hp → VK → Prop} (h : PE X e (tBM0 K "list" r (fun σ H Q => ∃ Q', to σ H Q' ∧ ∀ v H1, Q' v H1 → Q v H1))) : PE X e (tML0 r to) :=
  PE.of h fun σ H Q q => ⟨_, q, fun v H1 ⟨p, xs, e, g, z⟩ => ⟨by rw [e]; exact .inl ⟨rfl, xs, .inl (.inl g)⟩, z⟩⟩
end
/-- loops and comprehensions over any walk -/
theorem lpW {J : It} {n : Nat} {G : Hp → Prop} {Y : Nat → Hp → V → Hp → Prop} (w : Walk J n G Y) {g : TG} {tb : TS} {D : Ends} {σ : L2.St} {H : Hp} (Pv : Nat → L2.St → Hp → Prop) (h0 : Pv 0 σ H) (hG : ∀ i σ H, i ≤ n → Pv i σ H → G H)
    (hs : ∀ i x σ H H', i < n → Pv i σ H → Y i H x H' → g x σ H' fun σ2 H2 => tb { D with nx := Pv (i + 1), ct := Pv (i + 1), bk := D.nx } σ2 H2) (hd : ∀ σ H, Pv n σ H → D.nx σ H) : Loop J g tb D σ H := for_it w Pv h0 hG hs hd
theorem lcW {J : It} {n : Nat} {G : Hp → Prop} {Y : Nat → Hp → V → Hp → Prop} (w : Walk J n G Y) {g : TG} {tt : TT} {te : TE} {vs : List Nat} {σ : L2.St} {H1 : Hp} {Q : VK} (Pv : Addr → Nat → Hp → Prop) (h0 : ∀ D H, Same H1 H → H1 D = none → H D = some (.lst []) → Pv D 0 H)
    (hG : ∀ D i H, H1 D = none → i ≤ n → Pv D i H → G H) (hs : ∀ D i x H H', i < n → H1 D = none → Pv D i H → Y i H x H' → g x (wipe σ vs) H' fun σ2 H2 => wipe σ2 vs = wipe σ vs ∧ tt σ2 H2 fun b H3 =>
      if b = true then te σ2 H3 fun y H4 => ∃ acc, H4 D = some (.lst acc) ∧ acc.length < sizeLine ∧ Pv D (i + 1) (upd H4 D (.lst (acc ++ [y]))) else Pv D (i + 1) H3)
    (hd : ∀ D H, H1 D = none → Pv D n H → Q (.ref D) H) : LcLoop J g tt te vs σ H1 Q :=
  fun D hD => lc_it w (Pv D) (h0 D _ (same_upd hD) hD upd_same) (fun i H hi p => hG D i H hD hi p) (fun i x H H' hi p y => hs D i x H H' hi hD p y) fun H p => hd D H hD p
theorem lcL {J : It} {n : Nat} {G : Hp → Prop} {Y : Nat → Hp → V → Hp → Prop} (w : Walk J n G Y) {g : TG} {tt : TT} {te : TE} {vs : List Nat} {σ : L2.St} {H1 : Hp} {Q : VK} (L : Nat → List V) (hz : L 0 = []) (hG : ∀ H, Same H1 H → G H)
    (hs : ∀ D i x H H', i < n → H1 D = none → Same H1 H → H D = some (.lst (L i)) → Y i H x H' → g x (wipe σ vs) H' fun σ2 H2 => wipe σ2 vs = wipe σ vs ∧ tt σ2 H2 fun b H3 =>
      if b = true then te σ2 H3 fun y H4 => ∃ acc, H4 D = some (.lst acc) ∧ acc.length < sizeLine ∧ Same H1 (upd H4 D (.lst (acc ++ [y]))) ∧ upd H4 D (.lst (acc ++ [y])) D = some (.lst (L (i + 1))) else Same H1 H3 ∧ H3 D = some (.lst (L (i + 1))))
    (hd : ∀ D H, Same H1 H → H1 D = none → H D = some (.lst (L n)) → Q (.ref D) H) : LcLoop J g tt te vs σ H1 Q :=
  lcW w (fun D i H => Same H1 H ∧ H D = some (.lst (L i))) (fun D H s _ g => ⟨s, by rw [g, hz]⟩) (fun _ _ H _ _ p => hG H p.1) (fun D i x H H' hi hD p y => hs D i x H H' hi hD p.1 p.2 y) fun D H hD p => hd D H p.1 hD p.2
theorem walkR {n : Nat} : Walk (Itr 0 n) n (fun _ => True) (YFn fun i => .int (i : Int)) := walk_range.mono (fun _ h => h) fun i H x H' _ _ y => ⟨y.1, by rw [y.2]; show V.int (0 + (i : Int)) = V.int (i : Int); rw [Int.zero_add]⟩
theorem walkL {K : PySem.W.Frag} {a : Addr} {xs : List V} : Walk (Itl K a) xs.length (fun H => H a = some (.lst xs)) (YAt xs) := (walk_list (K := K) (a := a) (xs := xs)).mono (fun _ h => .inl (.inl h)) fun _ _ _ _ _ _ y => y
theorem walkT {K : PySem.W.Frag} {a : Addr} {xs : List V} : Walk (Itt K a) xs.length (fun H => H a = some (.tup xs)) (YAt xs) := (walk_tup (K := K) (a := a) (xs := xs)).mono (fun _ h => .inl (.inl h)) fun _ _ _ _ _ _ y => y
/-- a list of ints is walked -/
def YInt (ns : List Int) : Nat → Hp → V → Hp → Prop := fun i H v H' => H' = H ∧ ∃ b, ns[i]? = some b ∧ v = .int b
theorem walkI {K : PySem.W.Frag} {a : Addr} {ns : List Int} : Walk (Itl K a) ns.length (fun H => H a = some (.lst (List.map V.int ns))) (YInt ns) := by
  have w := walkL (K := K) (a := a) (xs := List.map V.int ns)
  rw [List.length_map] at w
  refine w.mono (fun _ h => h) fun i H x H' _ _ y => ⟨y.1, ?_⟩
  have h := y.2
  rw [List.getElem?_map] at h
  obtain ⟨b, h1, rfl⟩ := Option.map_eq_some_iff.mp h
  exact ⟨b, h1, rfl⟩
theorem sqL_eq {K : PySem.W.Frag} {H : Hp} {a : Addr} {xs : List V} (h : H a = some (.lst xs)) : (∃ xs, SqL K H a xs) = True := eq_true ⟨_, .inl (.inl h)⟩
theorem sqT_eq {K : PySem.W.Frag} {H : Hp} {a : Addr} {xs : List V} (h : H a = some (.tup xs)) : (∃ xs, SqT K H a xs) = True := eq_true ⟨_, .inl (.inl h)⟩
theorem tyL_eq {K : PySem.W.Frag} {H : Hp} {p : Addr} {xs : List V} (h : H p = some (.lst xs)) : tyV K "list" (.ref p) H = True := eq_true (.inl ⟨rfl, xs, .inl (.inl h)⟩)
theorem Same.c2 {H H' : Hp} {a b : Addr} {x y : HO} (s : Same H H') (ga : H a = some x) (gb : H b = some y) : H' a = some x ∧ H' b = some y := ⟨s _ _ ga, s _ _ gb⟩
theorem map_int_inj {xs ys : List Int} : (List.map V.int xs = List.map V.int ys) = (xs = ys) := by
  refine propext ⟨fun h => ?_, fun h => by rw [h]⟩
  induction xs generalizing ys with
  | nil => cases ys with
    | nil => rfl
    | cons y q => cases h
  | cons x r ih => cases ys with
    | nil => cases h
    | cons y q =>
      rw [List.map_cons, List.map_cons, List.cons.injEq, V.int.injEq] at h
      rw [h.1, ih h.2]
theorem sz1 : (1 ≤ sizeLine) = True := eq_true (by decide)
theorem sz2 : (2 ≤ sizeLine) = True := eq_true (by decide)
theorem sz3 : (3 ≤ sizeLine) = True := eq_true (by decide)
theorem sz4 : (4 ≤ sizeLine) = True := eq_true (by decide)
theorem sz5 : (5 ≤ sizeLine) = True := eq_true (by decide)
theorem sz6 : (6 ≤ sizeLine) = True := eq_true (by decide)
theorem sz8 : (8 ≤ sizeLine) = True := eq_true (by decide)
/-- an item of a list of ints -/
def gN (ns : List Int) (i : Nat) : Int := ns.getD i 0
theorem at_g {ns : List Int} {i : Nat} (h : i < ns.length) : atI (ns.map V.int) (i : Int) = some (V.int (gN ns i)) := by
  refine atI_nat ?_
  rw [List.getElem?_map, List.getElem?_eq_getElem h]
  simp [gN, h]
theorem at_g' {ns : List Int} {k : Int} {i : Nat} (e : k = (i : Int)) (h : i < ns.length) : atI (ns.map V.int) k = some (V.int (gN ns i)) := by
  rw [e]
  exact at_g h
theorem iteT' {c : Bool} {a b : Prop} (h : c = true) (x : a) : if c = true then a else b := by rw [if_pos h]; exact x
theorem iteF' {c : Bool} {a b : Prop} (h : c = false) (x : b) : if c = true then a else b := by rw [if_neg (by rw [h]; decide)]; exact x
theorem iteB {c : Bool} {p : Prop} [Decidable p] {a b : Prop} (h : c = decide p) (x : p → a) (y : ¬ p → b) : if c = true then a else b := by
  subst h
  exact ite2 (fun e => x (of_decide_eq_true e)) fun e => y fun z => e (decide_eq_true z)
theorem iteD {p : Prop} [Decidable p] {a b : Prop} (x : p → a) (y : ¬ p → b) : if decide p = true then a else b := iteB rfl x y
def mx (x y : Int) : Int := if x < y then y else x
def mn (x y : Int) : Int := if y < x then y else x
theorem mx_eq (x y : Int) : (if x < y then y else x) = mx x y := rfl
theorem mn_eq (x y : Int) : (if y < x then y else x) = mn x y := rfl
theorem mx_le {x y z : Int} : mx x y ≤ z ↔ x ≤ z ∧ y ≤ z := by
  unfold mx
  split <;> omega
theorem lt_mn {x y z : Int} : z < mn x y ↔ z < x ∧ z < y := by
  unfold mn
  split <;> omega
theorem toNat_mul (m n : Nat) : ((m : Int) * (n : Int)).toNat = m * n := by rw [← Int.natCast_mul, Int.toNat_natCast]
theorem atI_lit {xs : List V} {k : Int} (h0 : 0 ≤ k) (h1 : k < xs.length) : ∃ v, atI xs k = some v ∧ v ∈ xs := by
  have h : k.toNat < xs.length := by omega
  refine ⟨xs[k.toNat], ?_, List.getElem_mem h⟩
  unfold atI
  rw [ixN_in h0 h1]
  exact List.getElem?_eq_getElem h
theorem atI_lits {xs : List Int} {k : Int} (h0 : 0 ≤ k) (h1 : k < xs.length) : ∃ v, atI (List.map V.int xs) k = some (.int v) ∧ v ∈ xs := by
  obtain ⟨v, h, hm⟩ := atI_lit (xs := List.map V.int xs) h0 (by rw [List.length_map]; exact h1)
  obtain ⟨i, hi, rfl⟩ := List.mem_map.mp hm
  exact ⟨i, h, hi⟩
theorem natOf {x : Int} (h : 0 ≤ x) : ∃ n : Nat, x = (n : Int) := ⟨x.toNat, by omega⟩
theorem map_cat (xs ys : List Int) : List.map V.int xs ++ List.map V.int ys = List.map V.int (xs ++ ys) := by rw [List.map_append]
theorem map_snoc (xs : List Int) (v : Int) : List.map V.int xs ++ [V.int v] = List.map V.int (xs ++ [v]) := by rw [List.map_append]; rfl
theorem map_setV (l : List Int) (i : Nat) (v : Int) : (List.map V.int l).set i (.int v) = List.map V.int (l.set i v) := by rw [List.map_set]
/-- all but one object stand as they stood -/
def But (a : Addr) (H H' : Hp) : Prop := ∀ b o, b ≠ a → H b = some o → H' b = some o
theorem But.refl (a : Addr) (H : Hp) : But a H H := fun _ _ _ h => h
theorem But.ofSame {a : Addr} {H H' : Hp} (s : Same H H') : But a H H' := fun b o _ h => s b o h
theorem But.trans {a : Addr} {H H1 H2 : Hp} (x : But a H H1) (y : But a H1 H2) : But a H H2 := fun b o n h => y b o n (x b o n h)
theorem But.put {a : Addr} {H H' : Hp} {o : HO} (x : But a H H') : But a H (upd H' a o) := fun b o' n h => by rw [upd_ne n]; exact x b o' n h
theorem But.same {a : Addr} {H H1 H' : Hp} (s : Same H H1) (x : But a H1 H') (h : H a = none) : Same H H' := fun b o e => x b o (ne_of_none e h) (s b o e)
/-- the cell k of the script -/
def cellA (ns : List Int) (k : Nat) : Int := ns.getD k 0
def absI (c : Int) : Int := if c < 0 then -c else c
theorem absI_eq (c : Int) : (if c < 0 then -c else c) = absI c := rfl
theorem absI_nn (c : Int) : 0 ≤ absI c := by
  unfold absI
  split <;> omega
section
variable {X : Cx}
/-- xs[i] op= e reads the item first -/
def rGetL : V → V → Hp → VK → Prop := fun x y H Q => ∃ p xs i v, x = .ref p ∧ y = .int i ∧ H p = some (.lst xs) ∧ 0 ≤ i ∧ i < 2 ^ 62 ∧ xs[i.toNat]? = some v ∧ Q v H
theorem pget_list : PGet X rGetL := by
  intro pins s σ H x y v u Q I rx ry h
  obtain ⟨p, xs, i, z, rfl, rfl, hp, h0, h1, he, q⟩ := h
  cases rx
  obtain ⟨t, rfl⟩ := ry
  obtain ⟨its, r, pl, _⟩ := I.list (.inl (.inl hp))
  obtain ⟨w, ew, rw'⟩ := r.get he
  exact getItem_listL pl.isList h0 (by omega) ew ⟨z, H, I, rw', q⟩
def iZipS (K : PySem.W.Frag) (ta : TA) : TI := fun σ H R => ta σ H fun vs H1 => ∃ a b xs ys, vs = [.ref a, .ref b] ∧ H1 a = some (.lst xs) ∧ H1 b = some (.lst ys) ∧ R (Itz K a b) H1
theorem pi_zipS {e e2 : Expr} {ta : TA} {p pos tpos : Pos} {elts : List Expr} {kk : Nat} (hg : Gl X "zip") (hm : X.mg "zip" = none) (ha : PA X [e, e2] ta) (hs : starEach [e, e2] X.env = (false, eval e X.env) :: starEach [e2] X.env := by rfl) (hpl : (backTo pos (starEach [e2] X.env)).any (·.1) = false := by rfl) :
    PI X (.Tuple elts kk tpos) (.Call (.Name "zip" p) [e, e2] [] pos) (iZipS X.K ta) := PI.of (pi_zip hg hm (pa_mono ha) hs hpl) fun σ H R q => ⟨_, q, fun vs H1 ⟨a, b, xs, ys, e, g1, g2, r⟩ => ⟨a, b, xs, ys, e, .inl (.inl g1), .inl (.inl g2), r⟩⟩
end
theorem walkZ {K : PySem.W.Frag} {a b : Addr} {xs ys : List V} {n : Nat} (hn : n = min xs.length ys.length) : Walk (Itz K a b) n (fun H => H a = some (.lst xs) ∧ H b = some (.lst ys)) (YPair (fun i => xs[i]?) (fun i => ys[i]?)) :=
  (walk_zip (K := K) (a := a) (b := b) hn).mono (fun _ h => ⟨.inl (.inl h.1), .inl (.inl h.2)⟩) fun _ _ _ _ _ _ y => y
theorem cutV_take {xs : List V} {n : Nat} : cutV xs none (some (n : Int)) = xs.take n := by
  unfold cutV
  rw [HT.sIx_nat, HT.sIx_none, List.drop_zero]
  by_cases h : n ≤ xs.length
  · rw [Nat.min_eq_left h, Nat.sub_zero]
  · rw [Nat.min_eq_right (by omega), Nat.sub_zero, List.take_of_length_le (Nat.le_refl _), List.take_of_length_le (by omega)]
theorem cutV_drop {xs : List V} {n : Nat} : cutV xs (some (n : Int)) none = xs.drop n := by
  unfold cutV
  rw [HT.sIx_nat, HT.sIx_none]
  by_cases h : n ≤ xs.length
  · rw [Nat.min_eq_left h, List.take_of_length_le (by rw [List.length_drop]; exact Nat.le_refl _)]
  · rw [Nat.min_eq_right (by omega), List.drop_of_length_le (Nat.le_refl _), List.drop_of_length_le (by omega), List.take_nil]
theorem cutI_take {xs : List Int} {n : Nat} : cutV (List.map V.int xs) none (some (n : Int)) = List.map V.int (xs.take n) := by rw [cutV_take, List.map_take]
theorem cutI_drop {xs : List Int} {n : Nat} : cutV (List.map V.int xs) (some (n : Int)) none = List.map V.int (xs.drop n) := by rw [cutV_drop, List.map_drop]
/-- two lists item by item -/
inductive All2 {α β : Type} (R : α → β → Prop) : List α → List β → Prop
  | nil : All2 R [] []
  | cons {x : α} {y : β} {xs : List α} {ys : List β} : R x y → All2 R xs ys → All2 R (x :: xs) (y :: ys)
section
variable {α β : Type} {R S : α → β → Prop}
theorem All2.len {xs : List α} {ys : List β} (h : All2 R xs ys) : xs.length = ys.length := by
  induction h with
  | nil => rfl
  | cons _ _ ih => rw [List.length_cons, List.length_cons, ih]
theorem All2.mono {xs : List α} {ys : List β} (h : All2 R xs ys) (k : ∀ x y, R x y → S x y) : All2 S xs ys := by
  induction h with
  | nil => exact .nil
  | cons r _ ih => exact .cons (k _ _ r) ih
theorem All2.app {xs xs' : List α} {ys ys' : List β} (h : All2 R xs ys) (k : All2 R xs' ys') : All2 R (xs ++ xs') (ys ++ ys') := by
  induction h with
  | nil => exact k
  | cons r _ ih => exact .cons r ih
theorem All2.snoc {xs : List α} {ys : List β} {x : α} {y : β} (h : All2 R xs ys) (r : R x y) : All2 R (xs ++ [x]) (ys ++ [y]) := h.app (.cons r .nil)
theorem All2.at {xs : List α} {ys : List β} (h : All2 R xs ys) {i : Nat} {x : α} (e : xs[i]? = some x) : ∃ y, ys[i]? = some y ∧ R x y := by
  induction h generalizing i with
  | nil => simp at e
  | cons r _ ih =>
    cases i with
    | zero => exact ⟨_, rfl, by simpa using (Option.some.inj e) ▸ r⟩
    | succ i => exact ih e
theorem All2.at' {xs : List α} {ys : List β} (h : All2 R xs ys) {i : Nat} {y : β} (e : ys[i]? = some y) : ∃ x, xs[i]? = some x ∧ R x y := by
  induction h generalizing i with
  | nil => simp at e
  | cons r _ ih =>
    cases i with
    | zero => exact ⟨_, rfl, by simpa using (Option.some.inj e) ▸ r⟩
    | succ i => exact ih e
theorem All2.take {xs : List α} {ys : List β} (h : All2 R xs ys) (n : Nat) : All2 R (xs.take n) (ys.take n) := by
  induction h generalizing n with
  | nil => rw [List.take_nil, List.take_nil]; exact .nil
  | cons r _ ih =>
    cases n with
    | zero => exact .nil
    | succ n => exact .cons r (ih n)
theorem All2.drop {xs : List α} {ys : List β} (h : All2 R xs ys) (n : Nat) : All2 R (xs.drop n) (ys.drop n) := by
  induction h generalizing n with
  | nil => rw [List.drop_nil, List.drop_nil]; exact .nil
  | cons r t ih =>
    cases n with
    | zero => exact .cons r t
    | succ n => exact ih n
end
theorem tup_upd {H : Hp} {a l : Addr} {xs ys : List V} {o : HO} (h : H a = some (.tup xs)) (g : H l = some (.lst ys)) : upd H l o a = some (.tup xs) := by
  rw [upd_ne (ne_of h g (by intro z; cases z))]
  exact h
theorem tup_but {H H' : Hp} {a l : Addr} {xs ys : List V} (bt : But l H H') (h : H a = some (.tup xs)) (g : H l = some (.lst ys)) : H' a = some (.tup xs) := bt _ _ (ne_of h g (by intro z; cases z)) h
theorem cutV_take1 {xs : List V} : cutV xs none (some 1) = xs.take 1 := cutV_take (n := 1)
theorem cutV_drop1 {xs : List V} : cutV xs (some 1) none = xs.drop 1 := cutV_drop (n := 1)
section
variable {X : Cx}
/-- the script: its length, an item -/
def rLenSc (K : PySem.W.Frag) (a : Addr) (ns : List Int) : List V → Hp → VK → Prop := fun vs H Q => vs = [.ref a] ∧ SqL K H a (List.map V.int ns) ∧ Q (.int ns.length) H
theorem call_lenSc (a : Addr) (ns : List Int) : CallR X (.builtin "len") (rLenSc X.K a ns) := CallR.of call_len_seq fun vs H Q ⟨e, h, q⟩ => ⟨a, List.map V.int ns, e, .inl h, by rw [List.length_map]; exact q⟩
def rIxSc (K : PySem.W.Frag) (a : Addr) (ns : List Int) : R2 := fun x y H Q => ∃ i, x = .ref a ∧ y = .int i ∧ SqL K H a (List.map V.int ns) ∧ 0 ≤ i ∧ i < ns.length ∧ Q (.int (gN ns i.toNat)) H
theorem ix_sc (a : Addr) (ns : List Int) : IxR X (rIxSc X.K a ns) := IxR.of ix_list fun x y H Q ⟨i, e1, e2, h, h0, h1, q⟩ => ⟨a, List.map V.int ns, i, _, e1, e2, h, at_g' (Int.toNat_of_nonneg h0).symm (by omega), q⟩
end
section
variable {X : Cx}
def rSumS : List V → Hp → VK → Prop := fun vs H Q => ∃ a ns, vs = [.ref a] ∧ H a = some (.lst (List.map V.int ns)) ∧ Q (.int ns.sum) H
theorem cr_sumS (hc : X.calm = true) : CallR X (.builtin "sum") rSumS := CallR.of (cr_sum hc) fun vs H Q ⟨a, ns, e, g, q⟩ => ⟨a, ns, e, .inl (.inl g), q⟩
end
section
variable {X : Cx}
/-- t[lo:hi]: t itself or a new tuple, in either case one of these items -/
def rSlTS : V → Option Int → Option Int → Hp → VK → Prop := fun x lo hi H Q => ∃ a xs, x = .ref a ∧ H a = some (.tup xs) ∧ ∀ p H', Same H H' → (p = a ∨ H p = none) → H' p = some (.tup (cutV xs lo hi)) → Q (.ref p) H'
theorem sl_tupS : SlR X rSlTS := SlR.of sl_tupA fun x lo hi H Q ⟨a, xs, e, g, q⟩ => ⟨a, xs, e, .inl (.inl g), fun z => q a H (Same.refl _) (.inl rfl) (by
    unfold cutV
    rw [z.1, z.2, List.drop_zero, Nat.sub_zero, List.take_length]
    exact g), fun _ p hp => q p _ (same_upd hp) (.inr hp) upd_same⟩
end
theorem cutV_take3 {xs : List V} : cutV xs none (some 3) = xs.take 3 := cutV_take (n := 3)
section
variable {X : Cx}
theorem PT.of {e : Expr} {t t' : TT} (h : PT X e t) (k : ∀ σ H Q, t' σ H Q → t σ H Q) : PT X e t' := ⟨fun pins s σ H Q I q => h.run pins s σ H Q I (k _ _ _ q)⟩
/-- a list's truth -/
def tTrL (ta : TE) : TT := fun σ H Q => ta σ H fun x H1 => ∃ p xs, x = .ref p ∧ H1 p = some (.lst xs) ∧ Q (decide (0 < xs.length)) H1
theorem pt_truthL {a : Expr} {ta : TE} (ha : PE X a ta) (he : ∀ whole, isTrue a X.env whole = (do let v ← whole; standAt a.pos; holding [v] (truthy v))) : PT X a (tTrL ta) :=
  PT.of (pt_truth (pe_mono ha) he) fun σ H Q q => ⟨_, q, fun x H1 ⟨p, xs, e, g, z⟩ => ⟨decide (0 < xs.length), by rw [e]; exact .inl ⟨xs, .inl (.inl g), by cases xs <;> simp⟩, z⟩⟩
def iEnumL (K : PySem.W.Frag) (ta : TA) : TI := fun σ H R => ta σ H fun vs H1 => ∃ a xs, vs = [.ref a] ∧ H1 a = some (.lst xs) ∧ R (Ite K a) H1
theorem pi_enumL {e : Expr} {ta : TA} {p pos tpos : Pos} {elts : List Expr} {kk : Nat} (hg : Gl X "enumerate") (hm : X.mg "enumerate" = none) (ha : PA X [e] ta) (hs : starEach [e] X.env = [(false, eval e X.env)] := by rfl) :
    PI X (.Tuple elts kk tpos) (.Call (.Name "enumerate" p) [e] [] pos) (iEnumL X.K ta) := PI.of (pi_enum hg hm (pa_mono ha) hs) fun σ H R q => ⟨_, q, fun vs H1 ⟨a, xs, e, g, r⟩ => ⟨a, xs, e, .inl (.inl g), r⟩⟩
end
theorem walkE {K : PySem.W.Frag} {a : Addr} {xs : List V} : Walk (Ite K a) xs.length (fun H => H a = some (.lst xs)) (YPair (fun i => some (.int (i : Nat))) (fun i => xs[i]?)) := (walk_enum (K := K) (a := a) (xs := xs)).mono (fun _ h => .inl (.inl h)) fun _ _ _ _ _ _ y => y
theorem seq_cut {s1 R : TS} {D : Ends} {σ : L2.St} {H : Hp} (I : L2.St → Hp → Prop) (h2 : ∀ σ H, I σ H → R D σ H) (h1 : ∀ C : L2.St → Hp → Prop, (∀ σ H, I σ H → C σ H) → s1 { D with nx := C } σ H) : tSeq s1 R D σ H := h1 _ h2
section
variable {X : Cx}
theorem inV_int (i : Int) : ∀ ns : List Int, inV (.int i) (List.map V.int ns) = decide (i ∈ ns)
  | [] => by simp [inV]
  | n :: r => by
    have ih := inV_int i r
    unfold inV at ih ⊢
    rw [List.map_cons, List.any_cons, ih]
    by_cases h : n = i
    · subst h; simp [eqV]
    · simp [eqV, h, Ne.symm h]
theorem flat_ints : ∀ ns : List Int, (List.map V.int ns).all flatV = true
  | [] => rfl
  | _ :: r => by rw [List.map_cons, List.all_cons, flat_ints r]; rfl
/-- an int in a list of ints -/
def rInI : R2 := fun x y H Q => ∃ i p ns, x = .int i ∧ y = .ref p ∧ H p = some (.lst (List.map V.int ns)) ∧ Q (.bl (decide (i ∈ ns))) H
theorem op_inI : OpR X (compareOp .In) rInI := OpR.of op_in_seq fun x y H Q ⟨i, p, ns, e1, e2, g, q⟩ => ⟨p, List.map V.int ns, e2, .inl (.inl (.inl g)), by rw [e1]; rfl, flat_ints ns, by rw [e1, inV_int]; exact q⟩
/-- xs.index(i): the first place -/
def rIndexI : V → List V → Hp → VK → Prop := fun x xs H Q => ∃ p ns i j, x = .ref p ∧ xs = [.int i] ∧ H p = some (.lst (List.map V.int ns)) ∧ ns[j]? = some i ∧ (∀ m, m < j → ns[m]? ≠ some i) ∧ Q (.int ((j : Nat) : Int)) H
theorem MtR.of {id : String} {r r' : V → List V → Hp → VK → Prop} (h : MtR X id r) (k : ∀ x xs H Q, r' x xs H Q → r x xs H Q) : MtR X id r' := fun pins s σ H x xs v us Q I rx rv q => h pins s σ H x xs v us Q I rx rv (k _ _ _ _ q)
theorem mt_indexI : MtR X "list.index" rIndexI := MtR.of mt_index fun x xs H Q ⟨p, ns, i, j, e1, e2, g, hj, hm, q⟩ =>
  ⟨p, List.map V.int ns, .int i, j, .int i, e1, e2, .inl (.inl g), rfl, flat_ints ns, by rw [List.getElem?_map, hj]; rfl, by simp [eqV], fun m z hmj hz => by
    rw [List.getElem?_map] at hz
    obtain ⟨b, h1, rfl⟩ := Option.map_eq_some_iff.mp hz
    have : b ≠ i := fun e => hm m hmj (e ▸ h1)
    simp [eqV, this], q⟩
end
def sl (ns : List Int) (i j : Nat) : List Int := (ns.drop i).take (j - i)
theorem cut_sl {ns : List Int} {i j : Nat} : cutV (List.map V.int ns) (some (i : Int)) (some (j : Int)) = List.map V.int (sl ns i j) := by
  unfold cutV sl
  rw [HT.sIx_nat, HT.sIx_nat, List.length_map, ← List.map_drop, ← List.map_take]
  congr 1
  by_cases h : i < ns.length
  · rw [Nat.min_eq_left (Nat.le_of_lt h)]
    by_cases h2 : j ≤ ns.length
    · rw [Nat.min_eq_left h2]
    · rw [Nat.min_eq_right (by omega), List.take_of_length_le (by rw [List.length_drop]; exact Nat.le_refl _), List.take_of_length_le (by rw [List.length_drop]; omega)]
  · rw [List.drop_eq_nil_of_le (by omega), List.drop_eq_nil_of_le (by omega), List.take_nil, List.take_nil]
theorem sl_len (ns : List Int) (i j : Nat) : (sl ns i j).length = min (j - i) (ns.length - i) := by
  unfold sl
  rw [List.length_take, List.length_drop]
/-- a dict comprehension -/
def DcLoop (J : It) (g : TG) (tt : TT) (tk tv : TE) (vs : List Nat) (σ : L2.St) (H1 : Hp) (Q : VK) : Prop := ∀ D, H1 D = none → ∃ W : Nat → Nat → Hp → Prop, (∃ m, W 0 m (upd H1 D (.dK []))) ∧ ∀ i m H, W i m H →
  (J.stop i H ∧ Q (.ref D) H) ∨ (J.go i H ∧ ∃ Nx : Hp → Prop, (∀ H', Nx H' → ∃ m', m' < m ∧ W (i + 1) m' H') ∧ ∀ x H', J.yld i H x H' → g x (wipe σ vs) H' fun σ2 H2 => wipe σ2 vs = wipe σ vs ∧ tt σ2 H2 fun b H3 =>
    if b = true then tk σ2 H3 fun y H4 => tv σ2 H4 fun z H5 => ∃ kvs k, y = kV k ∧ H5 D = some (.dK kvs) ∧ kvs.length < sizeLine ∧ Nx (upd H5 D (.dK (putK kvs k z))) else Nx H3)
theorem tDc_eq {wi : TI} {g : TG} {tt : TT} {tk tv : TE} {vs : List Nat} {σ : L2.St} {H : Hp} {Q : VK} : tDc wi g tt tk tv vs σ H Q = wi σ H fun J H1 => DcLoop J g tt tk tv vs σ H1 Q := rfl
theorem dcW {J : It} {n : Nat} {G : Hp → Prop} {Y : Nat → Hp → V → Hp → Prop} (w : Walk J n G Y) {g : TG} {tt : TT} {tk tv : TE} {vs : List Nat} {σ : L2.St} {H1 : Hp} {Q : VK} (Pv : Addr → Nat → Hp → Prop) (h0 : ∀ D H, Same H1 H → H1 D = none → H D = some (.dK []) → Pv D 0 H)
    (hG : ∀ D i H, H1 D = none → i ≤ n → Pv D i H → G H) (hs : ∀ D i x H H', i < n → H1 D = none → Pv D i H → Y i H x H' → g x (wipe σ vs) H' fun σ2 H2 => wipe σ2 vs = wipe σ vs ∧ tt σ2 H2 fun b H3 =>
      if b = true then tk σ2 H3 fun y H4 => tv σ2 H4 fun z H5 => ∃ kvs k, y = kV k ∧ H5 D = some (.dK kvs) ∧ kvs.length < sizeLine ∧ Pv D (i + 1) (upd H5 D (.dK (putK kvs k z))) else Pv D (i + 1) H3)
    (hd : ∀ D H, H1 D = none → Pv D n H → Q (.ref D) H) : DcLoop J g tt tk tv vs σ H1 Q := by
  intro D hD
  refine ⟨fun i m H => m = n - i ∧ i ≤ n ∧ Pv D i H, ⟨n, by simp, Nat.zero_le _, h0 D _ (same_upd hD) hD upd_same⟩, ?_⟩
  rintro i m H ⟨rfl, hi, p⟩
  have q := hG D i H hD hi p
  by_cases hlt : i < n
  · exact .inr ⟨w.goes i H hlt q, Pv D (i + 1), fun H' p' => ⟨n - (i + 1), by omega, rfl, hlt, p'⟩, fun x H' y => hs D i x H H' hlt hD p (w.yields i H x H' hlt q y)⟩
  · have e : i = n := by omega
    subst e
    exact .inl ⟨w.stops H q, hd D H hD p⟩

/-! ### data at any depth: what stands there, and == of it -/
structure Cod {α : Type} [DecidableEq α] (R : Hp → V → α → Prop) (f : α → PyData) (d : Nat) : Prop where
  dp : ∀ (K : PySem.W.Frag) H v a, R H v a → Dp K H v (f a)
  eq : ∀ a b, PyData.eqv (f a) (f b) = decide (a = b)
  lay : ∀ a, PyData.canLay0 (f a) = true
  dep : ∀ a, PyData.depth (f a) ≤ d
def IntV (_ : Hp) (v : V) (i : Int) : Prop := v = .int i
def LstV {α : Type} (R : Hp → V → α → Prop) (H : Hp) (v : V) (l : List α) : Prop := ∃ a vs, v = .ref a ∧ H a = some (.lst vs) ∧ All2 (R H) vs l
def TupV {α : Type} (R : Hp → V → α → Prop) (H : Hp) (v : V) (l : List α) : Prop := ∃ a vs, v = .ref a ∧ H a = some (.tup vs) ∧ All2 (R H) vs l
def Pr2V {α β : Type} (R : Hp → V → α → Prop) (S : Hp → V → β → Prop) (H : Hp) (v : V) (p : α × β) : Prop := ∃ a x y, v = .ref a ∧ H a = some (.tup [x, y]) ∧ R H x p.1 ∧ S H y p.2
def Pr3V {α β γ : Type} (R : Hp → V → α → Prop) (S : Hp → V → β → Prop) (T : Hp → V → γ → Prop) (H : Hp) (v : V) (p : α × β × γ) : Prop := ∃ a x y z, v = .ref a ∧ H a = some (.tup [x, y, z]) ∧ R H x p.1 ∧ S H y p.2.1 ∧ T H z p.2.2
theorem cod_int : Cod IntV PyData.int 0 := ⟨fun K H v a h => by rw [show v = .int a from h]; exact .int a, eqv_ii, fun _ => rfl, fun _ => Nat.le_refl _⟩
section
variable {α β γ : Type} [DecidableEq α] [DecidableEq β] [DecidableEq γ] {R : Hp → V → α → Prop} {S : Hp → V → β → Prop} {T : Hp → V → γ → Prop} {f : α → PyData} {g : β → PyData} {h : γ → PyData} {d e k : Nat}
theorem Cod.all (c : Cod R f d) {K : PySem.W.Frag} {H : Hp} {vs : List V} {l : List α} (a : All2 (R H) vs l) : DpAll K H vs (l.map f) := by
  induction a with
  | nil => exact .nil
  | cons r _ ih => exact .cons (c.dp _ _ _ _ r) ih
theorem Cod.eqAll (c : Cod R f d) : ∀ l m : List α, PyData.eqvAll (l.map f) (m.map f) = decide (l = m)
  | [], [] => by rw [List.map_nil, eqvAll_nil]; rfl
  | [], y :: s => by rw [List.map_nil, List.map_cons, PyData.eqvAll]; simp
  | x :: r, [] => by rw [List.map_nil, List.map_cons, PyData.eqvAll]; simp
  | x :: r, y :: s => by
    rw [List.map_cons, List.map_cons, eqvAll_cons, c.eq, Cod.eqAll c r s]
    simp only [List.cons.injEq, Bool.decide_and]
theorem Cod.layAll (c : Cod R f d) : ∀ l : List α, PyData.canLayAll0 (l.map f) = true
  | [] => rfl
  | x :: r => by rw [List.map_cons, PyData.canLayAll0, c.lay, Cod.layAll c r]; rfl
theorem Cod.depAll (c : Cod R f d) : ∀ l : List α, PyData.depthAll (l.map f) ≤ d
  | [] => by rw [List.map_nil, PyData.depthAll]; exact Nat.zero_le _
  | x :: r => by rw [List.map_cons, PyData.depthAll]; exact Nat.max_le.mpr ⟨c.dep x, Cod.depAll c r⟩
theorem cod_lst (c : Cod R f d) : Cod (LstV R) (fun l => .list (l.map f)) (d + 1) :=
  ⟨fun K H v l ⟨a, vs, e, ha, hv⟩ => by rw [e]; exact .lst (.inl (.inl ha)) (c.all hv), fun l m => by rw [PyData.eqv, c.eqAll], fun l => by rw [PyData.canLay0, c.layAll], fun l => by rw [PyData.depth]; exact Nat.succ_le_succ (c.depAll l)⟩
theorem cod_tup (c : Cod R f d) : Cod (TupV R) (fun l => .tuple (l.map f)) (d + 1) :=
  ⟨fun K H v l ⟨a, vs, e, ha, hv⟩ => by rw [e]; exact .tup (.inl (.inl ha)) (c.all hv), fun l m => by rw [PyData.eqv, c.eqAll], fun l => by rw [PyData.canLay0, c.layAll], fun l => by rw [PyData.depth]; exact Nat.succ_le_succ (c.depAll l)⟩
theorem cod_p2 (c : Cod R f d) (b : Cod S g e) : Cod (Pr2V R S) (fun p => .tuple [f p.1, g p.2]) (max d e + 1) :=
  ⟨fun K H v l ⟨a, x, y, e, ha, hx, hy⟩ => by rw [e]; exact .tup (.inl (.inl ha)) (.cons (c.dp _ _ _ _ hx) (.cons (b.dp _ _ _ _ hy) .nil)),
   fun l m => by
    rw [PyData.eqv, eqvAll_cons, eqvAll_cons, eqvAll_nil, c.eq, b.eq, Bool.and_true, ← Bool.decide_and]
    exact decide_eq_decide.mpr ⟨fun z => Prod.ext z.1 z.2, fun z => by rw [z]; exact ⟨rfl, rfl⟩⟩,
   fun l => by rw [PyData.canLay0, PyData.canLayAll0, PyData.canLayAll0, PyData.canLayAll0, c.lay, b.lay]; rfl,
   fun l => by
    rw [PyData.depth, PyData.depthAll, PyData.depthAll, PyData.depthAll]
    have h1 := c.dep l.1
    have h2 := b.dep l.2
    omega⟩
theorem cod_p3 (c : Cod R f d) (b : Cod S g e) (t : Cod T h k) : Cod (Pr3V R S T) (fun p => .tuple [f p.1, g p.2.1, h p.2.2]) (max d (max e k) + 1) :=
  ⟨fun K H v l ⟨a, x, y, z, e, ha, hx, hy, hz⟩ => by rw [e]; exact .tup (.inl (.inl ha)) (.cons (c.dp _ _ _ _ hx) (.cons (b.dp _ _ _ _ hy) (.cons (t.dp _ _ _ _ hz) .nil))),
   fun l m => by
    rw [PyData.eqv, eqvAll_cons, eqvAll_cons, eqvAll_cons, eqvAll_nil, c.eq, b.eq, t.eq, Bool.and_true, ← Bool.decide_and, ← Bool.decide_and]
    exact decide_eq_decide.mpr ⟨fun z => Prod.ext z.1 (Prod.ext z.2.1 z.2.2), fun z => by rw [z]; exact ⟨rfl, rfl, rfl⟩⟩,
   fun l => by rw [PyData.canLay0, PyData.canLayAll0, PyData.canLayAll0, PyData.canLayAll0, PyData.canLayAll0, c.lay, b.lay, t.lay]; rfl,
   fun l => by
    rw [PyData.depth, PyData.depthAll, PyData.depthAll, PyData.depthAll, PyData.depthAll]
    have h1 := c.dep l.1
    have h2 := b.dep l.2.1
    have h3 := t.dep l.2.2
    omega⟩
end
section
variable {X : Cx} {α : Type} [DecidableEq α] {R : Hp → V → α → Prop} {f : α → PyData} {d : Nat}
def rEqC (R : Hp → V → α → Prop) : R2 := fun x y H Q => ∃ a b, R H x a ∧ R H y b ∧ Q (.bl (decide (a = b))) H
def rNeC (R : Hp → V → α → Prop) : R2 := fun x y H Q => ∃ a b, R H x a ∧ R H y b ∧ Q (.bl (!decide (a = b))) H
theorem Cod.shaped (c : Cod R f d) (hd : d ≤ 64) (a : α) : SeqAt.shaped (f a) = true := by
  unfold SeqAt.shaped
  rw [c.lay, decide_eq_true (Nat.le_trans (c.dep a) hd)]
  rfl
theorem op_eqC (hu : X.A.units + 64 < cLine) (c : Cod R f d) (hd : d ≤ 64) : OpR X (compareOp .Eq) (rEqC R) := OpR.of (op_eqD hu) fun x y H Q ⟨a, b, ha, hb, q⟩ => ⟨f a, f b, c.dp _ _ _ _ ha, c.dp _ _ _ _ hb, c.shaped hd a, c.shaped hd b, by rw [c.eq]; exact q⟩
theorem op_neC (hu : X.A.units + 64 < cLine) (c : Cod R f d) (hd : d ≤ 64) : OpR X (compareOp .NotEq) (rNeC R) := OpR.of (op_neD hu) fun x y H Q ⟨a, b, ha, hb, q⟩ => ⟨f a, f b, c.dp _ _ _ _ ha, c.dp _ _ _ _ hb, c.shaped hd a, c.shaped hd b, by rw [c.eq]; exact q⟩
end
theorem ints_all {H : Hp} (ns : List Int) : All2 (IntV H) (List.map V.int ns) ns := by
  induction ns with
  | nil => exact .nil
  | cons n r ih => exact .cons rfl ih
theorem ints_of {H : Hp} {vs : List V} {ns : List Int} (h : All2 (IntV H) vs ns) : vs = List.map V.int ns := by
  induction h with
  | nil => rfl
  | cons r _ ih => rw [List.map_cons, ih, show _ = V.int _ from r]
theorem intL {H : Hp} {a : Addr} {ns : List Int} (g : H a = some (.lst (List.map V.int ns))) : LstV IntV H (.ref a) ns := ⟨a, _, rfl, g, ints_all ns⟩
theorem lsv_mono {H H' : Hp} (s : Same H H') (v : V) (n : List Int) (h : LstV IntV H v n) : LstV IntV H' v n := by
  obtain ⟨a, vs, e, g, k⟩ := h
  exact ⟨a, vs, e, s _ _ g, k.mono fun _ _ z => z⟩
/-- what stands however the heap goes on, but for one list that changes -/
structure Stab {α : Type} (R : Hp → V → α → Prop) : Prop where
  mono : ∀ {H H' : Hp}, Same H H' → ∀ v a, R H v a → R H' v a
  but : ∀ {H H' : Hp} {l : Addr} {ys : List V}, But l H H' → H l = some (.lst ys) → ∀ v a, R H v a → R H' v a
theorem stab_int : Stab IntV := ⟨fun _ _ _ h => h, fun _ _ _ _ h => h⟩
section
variable {α β γ : Type} {R : Hp → V → α → Prop} {S : Hp → V → β → Prop} {T : Hp → V → γ → Prop}
theorem stab_tup (c : Stab R) : Stab (TupV R) :=
  ⟨fun s v l ⟨a, vs, e, g, k⟩ => ⟨a, vs, e, s _ _ g, k.mono (c.mono s)⟩, fun bt gl v l ⟨a, vs, e, g, k⟩ => ⟨a, vs, e, tup_but bt g gl, k.mono (c.but bt gl)⟩⟩
theorem stab_p2 (c : Stab R) (b : Stab S) : Stab (Pr2V R S) :=
  ⟨fun s v l ⟨a, x, y, e, g, h1, h2⟩ => ⟨a, x, y, e, s _ _ g, c.mono s _ _ h1, b.mono s _ _ h2⟩, fun bt gl v l ⟨a, x, y, e, g, h1, h2⟩ => ⟨a, x, y, e, tup_but bt g gl, c.but bt gl _ _ h1, b.but bt gl _ _ h2⟩⟩
theorem stab_p3 (c : Stab R) (b : Stab S) (t : Stab T) : Stab (Pr3V R S T) :=
  ⟨fun s v l ⟨a, x, y, z, e, g, h1, h2, h3⟩ => ⟨a, x, y, z, e, s _ _ g, c.mono s _ _ h1, b.mono s _ _ h2, t.mono s _ _ h3⟩, fun bt gl v l ⟨a, x, y, z, e, g, h1, h2, h3⟩ => ⟨a, x, y, z, e, tup_but bt g gl, c.but bt gl _ _ h1, b.but bt gl _ _ h2, t.but bt gl _ _ h3⟩⟩
theorem lstV_mono (c : Stab R) {H H' : Hp} (s : Same H H') (v : V) (l : List α) (h : LstV R H v l) : LstV R H' v l := by
  obtain ⟨a, vs, e, g, k⟩ := h
  exact ⟨a, vs, e, s _ _ g, k.mono (c.mono s)⟩
theorem Stab.upd (c : Stab R) {H : Hp} {l : Addr} {ys : List V} {o : HO} (g : H l = some (.lst ys)) (v : V) (a : α) (h : R H v a) : R (upd H l o) v a := c.but ((But.refl l H).put) g v a h
end

/-! ### constants of the top, texts in lists, reversed lists, zip of tuples -/
theorem SqT.of {K : PySem.W.Frag} {H : Hp} {a : Addr} {xs : List V} (h : H a = some (.tup xs)) : SqT K H a xs := .inl (.inl h)
theorem SqL.of {K : PySem.W.Frag} {H : Hp} {a : Addr} {xs : List V} (h : H a = some (.lst xs)) : SqL K H a xs := .inl (.inl h)
section
variable {X : Cx}
theorem ints_tshaped (ns : List Int) : SeqAt.shaped (.tuple (ns.map PyData.int)) = true := (cod_tup cod_int).shaped (by decide) ns
/-- == of a tracked tuple of ints and any tuple of ints -/
def rEqTK (K : PySem.W.Frag) : R2 := fun x y H Q => ∃ a b ns ms, x = .ref a ∧ y = .ref b ∧ H a = some (.tup (List.map V.int ns)) ∧ SqT K H b (List.map V.int ms) ∧ Q (.bl (decide (ns = ms))) H
theorem op_eqTK (hu : X.A.units + 64 < cLine) : OpR X (compareOp .Eq) (rEqTK X.K) := OpR.of (op_eqD hu) (by
  rintro x y H Q ⟨a, b, ns, ms, rfl, rfl, ha, hb, q⟩
  refine ⟨_, _, .tup (.inl (.inl ha)) (ints_dp ns), .tup hb (ints_dp ms), ints_tshaped ns, ints_tshaped ms, ?_⟩
  rw [(cod_tup cod_int).eq ns ms]
  exact q)
abbrev OkS := {s : Str // PyData.strOk s = true}
def StrV (_ : Hp) (v : V) (s : OkS) : Prop := v = .str s.val
theorem eqv_ss (a b : Str) : PyData.eqv (.str a) (.str b) = decide (a = b) := by
  rw [PyData.eqv]
  by_cases h : a = b
  · rw [decide_eq_true h]; exact beq_iff_eq.mpr h
  · rw [decide_eq_false h]; exact beq_eq_false_iff_ne.mpr h
def vS (s : OkS) : V := .str s.val
def dStr (s : OkS) : PyData := .str s.val
theorem cod_str : Cod StrV dStr 0 := ⟨fun K H v a h => by rw [show v = .str a.val from h]; exact .str a.val, fun a b => by
  show PyData.eqv (.str a.val) (.str b.val) = _
  rw [eqv_ss]; exact decide_eq_decide.mpr Subtype.ext_iff.symm, fun a => by show PyData.canLay0 (.str a.val) = true; rw [PyData.canLay0]; exact a.property, fun a => by show PyData.depth (.str a.val) ≤ 0; rw [PyData.depth]; exact Nat.le_refl _⟩
theorem strs_all {H : Hp} : ∀ ns : List OkS, All2 (StrV H) (List.map vS ns) ns
  | [] => .nil
  | _ :: r => .cons rfl (strs_all r)
theorem strs_of {H : Hp} {vs : List V} {ns : List OkS} (h : All2 (StrV H) vs ns) : vs = List.map vS ns := by
  induction h with
  | nil => rfl
  | cons r _ ih => rw [List.map_cons, ih, show _ = _ from r]; rfl
theorem strL {H : Hp} {a : Addr} {ns : List OkS} (g : H a = some (.lst (List.map vS ns))) : LstV StrV H (.ref a) ns := ⟨a, _, rfl, g, strs_all ns⟩
theorem stab_str : Stab StrV := ⟨fun _ _ _ h => h, fun _ _ _ _ h => h⟩
theorem strs_dp {K : PySem.W.Frag} {H : Hp} (ss : List OkS) : DpAll K H (ss.map vS) (ss.map dStr) := cod_str.all (strs_all ss)
/-- != and == of a tuple of texts of the top and a new one -/
def rNeSK (K : PySem.W.Frag) : R2 := fun x y H Q => ∃ a b ss ts, x = .ref a ∧ y = .ref b ∧ SqT K H a (List.map vS ss) ∧ H b = some (.tup (List.map vS ts)) ∧ Q (.bl (!decide (ss = ts))) H
theorem op_neSK (hu : X.A.units + 64 < cLine) : OpR X (compareOp .NotEq) (rNeSK X.K) := OpR.of (op_neD hu) (by
  rintro x y H Q ⟨a, b, ss, ts, rfl, rfl, ha, hb, q⟩
  refine ⟨_, _, .tup ha (strs_dp ss), .tup (.inl (.inl hb)) (strs_dp ts), (cod_tup cod_str).shaped (by decide) ss, (cod_tup cod_str).shaped (by decide) ts, ?_⟩
  rw [(cod_tup cod_str).eq ss ts]
  exact q)
/-- isinstance of a tuple of the top -/
def rIsiTK (K : PySem.W.Frag) : List V → Hp → VK → Prop := fun vs H Q => ∃ p n xs b, vs = [.ref p, .ty n] ∧ SqT K H p xs ∧ kitB "tuple" n = some b ∧ Q (.bl b) H
theorem call_isiTK : CallR X (.builtin "isinstance") (rIsiTK X.K) := CallR.of call_isi (by
  rintro vs H Q ⟨p, n, xs, b, rfl, hp, hb, q⟩
  refine ⟨.ref p, .ty n, .type "tuple", .type n, b, rfl, .ty n, ?_, kit_ty hb, q⟩
  rcases hp with (h | ⟨o, h⟩) | ⟨o, its, k, h1, h2, _⟩
  · exact .base (.tup h)
  · exact .fTuple h
  · exact .kTuple h1 h2)
/-- reversed(list) -/
def iRevS (K : PySem.W.Frag) (ta : TA) : TI := fun σ H R => ta σ H fun vs H1 => ∃ a xs, vs = [.ref a] ∧ H1 a = some (.lst xs) ∧ R (Itv K a xs.length) H1
theorem pi_revS {tg e : Expr} {ta : TA} {p pos : Pos} (hg : Gl X "reversed") (hm : X.mg "reversed" = none) (ha : PA X [e] ta) (hs : starEach [e] X.env = [(false, eval e X.env)] := by rfl) :
    PI X tg (.Call (.Name "reversed" p) [e] [] pos) (iRevS X.K ta) := PI.of (pi_reversed hg hm (pa_mono ha) hs) fun σ H R q => ⟨_, q, fun vs H1 ⟨a, xs, e, g, r⟩ => ⟨a, xs, e, .inl (.inl g), r⟩⟩
/-- zip of two tuples -/
def iZipTS (K : PySem.W.Frag) (ta : TA) : TI := fun σ H R => ta σ H fun vs H1 => ∃ a b xs ys, vs = [.ref a, .ref b] ∧ SqT K H1 a xs ∧ SqT K H1 b ys ∧ R (RZ.ItzT K a b) H1
theorem pi_zipTS {e e2 : Expr} {ta : TA} {p pos tpos : Pos} {elts : List Expr} {kk : Nat} (hg : Gl X "zip") (hm : X.mg "zip" = none) (ha : PA X [e, e2] ta) (hs : starEach [e, e2] X.env = (false, eval e X.env) :: starEach [e2] X.env := by rfl) (hpl : (backTo pos (starEach [e2] X.env)).any (·.1) = false := by rfl) :
    PI X (.Tuple elts kk tpos) (.Call (.Name "zip" p) [e, e2] [] pos) (iZipTS X.K ta) := PI.of (RZ.pi_zipA hg hm (pa_mono ha) hs hpl) fun σ H R q => ⟨_, q, fun vs H1 ⟨a, b, xs, ys, e, g1, g2, r⟩ => ⟨a, b, xs, ys, e, .inr ⟨g1, g2, r⟩⟩⟩
end
theorem walkV {K : PySem.W.Frag} {a : Addr} {xs : List V} : Walk (Itv K a xs.length) xs.length (fun H => H a = some (.lst xs)) (fun i H x H' => H' = H ∧ xs[xs.length - 1 - i]? = some x) := (walk_rev (K := K) (a := a) (xs := xs)).mono (fun _ h => .inl (.inl h)) fun _ _ _ _ _ _ y => y
theorem walkVI {K : PySem.W.Frag} {a : Addr} {ns : List Int} : Walk (Itv K a ns.length) ns.length (fun H => H a = some (.lst (List.map V.int ns))) (YInt ns.reverse) := by
  have w := walkV (K := K) (a := a) (xs := List.map V.int ns)
  rw [List.length_map] at w
  refine w.mono (fun _ h => h) fun i H x H' hi _ y => ⟨y.1, ?_⟩
  have h := y.2
  rw [List.getElem?_map] at h
  obtain ⟨b, h1, rfl⟩ := Option.map_eq_some_iff.mp h
  exact ⟨b, by rw [List.getElem?_reverse hi]; exact h1, rfl⟩
theorem walkZT {K : PySem.W.Frag} {a b : Addr} {xs ys : List V} {n : Nat} (hn : n = min xs.length ys.length) : Walk (RZ.ItzT K a b) n (fun H => SqT K H a xs ∧ SqT K H b ys) (YPair (fun i => xs[i]?) (fun i => ys[i]?)) := by
  subst hn
  refine ⟨fun i _ hi q => ?_, fun _ q => ⟨xs, ys, q.1, q.2, by omega⟩, fun i H v H' _ q y => ?_⟩
  · have h1 : i < xs.length := by omega
    have h2 : i < ys.length := by omega
    exact ⟨xs, ys, xs[i], ys[i], q.1, q.2, by simp [h1], by simp [h2]⟩
  · obtain ⟨T, x, z, h1, h2, h3, h4, h5⟩ := y
    exact ⟨T, x, z, h1, h2, h3, h4 xs q.1, h5 ys q.2⟩
theorem _root_.L2.Same.seqT {K : PySem.W.Frag} {H H' : Hp} (s : Same H H') {a : Addr} {xs : List V} (h : SqT K H a xs) : SqT K H' a xs := by
  rcases h with (h | ⟨o, h⟩) | h
  · exact .inl (.inl (s _ _ h))
  · exact .inl (.inr ⟨o, s _ _ h⟩)
  · exact .inr h
/-- the codes of a text -/
def cds (z : Str) : List Int := z.cps.toList.map fun (c : Nat) => (c : Int)
theorem cds_at {z : Str} {i c : Nat} (h : z.cps[i]? = some c) : (cds z)[i]? = some (c : Int) := by
  unfold cds
  rw [List.getElem?_map, Array.getElem?_toList, h]
  rfl
theorem cds_len (z : Str) : (cds z).length = z.cps.size := by unfold cds; rw [List.length_map, Array.length_toList]
section
variable {X : Cx} {α : Type} [DecidableEq α] {R : Hp → V → α → Prop} {f : α → PyData} {d : Nat}
theorem Cod.anyEq (c : Cod R f d) (a : α) : ∀ l : List α, ((l.map f).any fun z => PyData.eqv z (f a)) = decide (a ∈ l)
  | [] => by simp
  | x :: r => by
    rw [List.map_cons, List.any_cons, c.eq, Cod.anyEq c a r]
    by_cases h : x = a
    · subst h; simp
    · rw [decide_eq_false h, Bool.false_or]
      exact decide_eq_decide.mpr ⟨fun z => List.mem_cons_of_mem _ z, fun z => (List.mem_cons.mp z).resolve_left fun e => h e.symm⟩
/-- x in a list, x not in a list or a tuple, at any depth -/
def rInLC (R : Hp → V → α → Prop) : R2 := fun x y H Q => ∃ a l, R H x a ∧ LstV R H y l ∧ Q (.bl (decide (a ∈ l))) H
def rNotInLC (R : Hp → V → α → Prop) : R2 := fun x y H Q => ∃ a l, R H x a ∧ LstV R H y l ∧ Q (.bl (!decide (a ∈ l))) H
def rNotInTC (R : Hp → V → α → Prop) : R2 := fun x y H Q => ∃ a l, R H x a ∧ TupV R H y l ∧ Q (.bl (!decide (a ∈ l))) H
theorem op_inLC (hu : X.A.units + 65 < cLine) (c : Cod R f d) (hd : d < 64) : OpR X (compareOp .In) (rInLC R) := OpR.of (op_inD hu) fun x y H Q ⟨a, l, ha, hl, q⟩ => ⟨f a, l.map f, c.dp _ _ _ _ ha, (cod_lst c).dp _ _ _ _ hl, c.shaped (Nat.le_of_lt hd) a, (cod_lst c).shaped hd l, by rw [c.anyEq]; exact q⟩
theorem op_notInLC (hu : X.A.units + 65 < cLine) (c : Cod R f d) (hd : d < 64) : OpR X (compareOp .NotIn) (rNotInLC R) := OpR.of (op_notInD hu) fun x y H Q ⟨a, l, ha, hl, q⟩ => ⟨f a, l.map f, c.dp _ _ _ _ ha, (cod_lst c).dp _ _ _ _ hl, c.shaped (Nat.le_of_lt hd) a, (cod_lst c).shaped hd l, by rw [c.anyEq]; exact q⟩
theorem op_notInTC (hu : X.A.units + 65 < cLine) (c : Cod R f d) (hd : d < 64) : OpR X (compareOp .NotIn) (rNotInTC R) := by
  intro pins s σ H x y v u Q I rx ry h
  obtain ⟨a, l, ha, hl, q⟩ := h
  have sd := c.shaped (Nat.le_of_lt hd) a
  have se := (cod_tup c).shaped hd l
  obtain ⟨as, r1⟩ := Dp.reads I (f a) x v (c.dp _ _ _ _ ha) rx
  obtain ⟨bs, r2⟩ := Dp.reads I (.tuple (l.map f)) y u ((cod_tup c).dp _ _ _ _ hl) ry
  exact SeqAt.notIn_tuple_reads r2 r1 (SeqAt.canLay_of_shaped se) (SeqAt.canLay_of_shaped sd) (room_in_shaped sd hu) ⟨.bl _, H, I, rfl, by rw [c.anyEq]; exact q⟩
theorem hu5 {A : Around} {k : Nat} (hr : Room k A) : A.units + 65 < cLine := by have := hr.un; omega
/-- ''.join of a list of single signs -/
def oneS (c : Nat) : Str := ⟨#[c]⟩
theorem joinL_one : ∀ cs : List Nat, TL.joinL [] (cs.map fun c => [c]) = cs
  | [] => rfl
  | [_] => rfl
  | x :: y :: r => by
    show [x] ++ ([] ++ TL.joinL [] ((y :: r).map fun c => [c])) = _
    rw [joinL_one (y :: r)]
    rfl
theorem join_one (cs : List Nat) : Txt.join (Str.ofString "") (cs.map oneS) = ⟨cs.toArray⟩ := by
  have h := SX.join_S [] (cs.map fun c => [c])
  rw [joinL_one, List.map_map] at h
  exact h
def tJoinC (to te : TE) : TE := fun σ H Q => to σ H fun x H1 => x = .str (Str.ofString "") ∧ te σ H1 fun y H2 => ∃ (p : Addr) (cs : List Nat), y = .ref p ∧ H2 p = some (.lst (cs.map fun c => V.str (oneS c))) ∧ cs.length ≤ 1000000 ∧ Q (.str ⟨cs.toArray⟩) H2
theorem one_sum : ∀ cs : List Nat, ((cs.map oneS).map (·.length)).sum = cs.length
  | [] => rfl
  | c :: r => by
    rw [List.map_cons, List.map_cons, List.sum_cons, one_sum r, List.length_cons, Nat.add_comm]
    rfl
theorem pe_joinC {o e : Expr} {to te : TE} {apos pos : Pos} (ho : PE X o to) (he : PE X e te) (hs : starEach [e] X.env = [(false, eval e X.env)] := by rfl) (hbase : attributeBase o "join" X.env (eval o X.env) = eval o X.env := by rfl) (hline : (apos.endLine == pos.line) = true := by rfl) :
    PE X (.Call (.Attribute o "join" apos) [e] [] pos) (tJoinC to te) := PE.of (pe_join (pe_mono ho) (pe_mono he) hs hbase hline) fun σ H Q q => ⟨_, q, fun x H1 z => ⟨⟨_, z.1⟩, _, z.2, fun y H2 ⟨p, cs, e, g, hl, w⟩ => ⟨Str.ofString "", p, cs.map oneS, z.1, by rw [e], .inl (.inl (.inl (by rw [List.map_map]; exact g))), by
    rw [one_sum, List.length_map, show (Str.ofString "").length = 0 from rfl]; omega, by rw [join_one]; exact w⟩⟩⟩
end
section
variable {X : Cx}
/-- xs * n -/
def rRepL : R2 := fun x y H Q => ∃ l k xs, x = .ref l ∧ y = .int k ∧ H l = some (.lst xs) ∧ k ≤ 2 ^ 62 - 1 ∧ -(2 ^ 62) ≤ k ∧ xs.length * k.toNat ≤ sizeLine ∧ NewH H (.lst (List.replicate k.toNat xs).flatten) fun p H' => Q (.ref p) H'
theorem op_repL : OpR X (binaryOp .Mult) rRepL := OpR.of op_rep fun x y H Q ⟨l, k, xs, e1, e2, h1, z1, z2, z3, q⟩ => ⟨l, k, xs, e1, e2, h1, by omega, by omega, z3, q.go⟩
end

theorem iteP {p : Prop} {i : Decidable p} {a b : Prop} (x : p → a) (y : ¬ p → b) : @ite _ p i a b := by
  by_cases h : p
  · rw [if_pos h]; exact x h
  · rw [if_neg h]; exact y h
section
variable {X : Cx}
/-- name = {k: v for ..} on one line, the name a local -/
theorem ps_setDc {i : Nat} {y : Str} {py : Pos} {kx vx tg iter : Expr} {ifs : List Expr} {scope : Scope} {own : List (Str × Nat)} {pos spos : Pos} {wi : TI} {g : TG} {tt : TT} {tk tv : TE} (hc : X.calm = true) (hN : X.N.Nodup) (hy : X.N[i]? = some y) (hyl : X.env.scope.names.lookup y = some .local)
    (hsw : swapsWith (.DictComp kx vx [⟨tg, iter, ifs, 0⟩] scope pos) (some (.Name y py)) spos.line X.env = pure true) (hi : PI X tg iter wi) (ok : BlkOk X.N X.env.scope scope own)
    (hg : ∀ (s : Shared) (H : Hp) (C : Addr) (cl : List (Str × Addr)) (fp : List Addr), PG (X.blk s H scope (compEnvC scope cl C X.env) fp) tg g) (ht : ∀ (s : Shared) (H : Hp) (C : Addr) (cl : List (Str × Addr)) (fp : List Addr), PTs (X.blk s H scope (compEnvC scope cl C X.env) fp) ifs tt)
    (hk : ∀ (s : Shared) (H : Hp) (C : Addr) (cl : List (Str × Addr)) (fp : List Addr), PE (X.blk s H scope (compEnvC scope cl C X.env) fp) kx tk)
    (he : ∀ (s : Shared) (H : Hp) (C : Addr) (cl : List (Str × Addr)) (fp : List Addr), PE (X.blk s H scope (compEnvC scope cl C X.env) fp) vx tv) (hs : ∀ x, foldedSetIterable iter X.env x = pure x := by intro _; rfl) :
    PS X (.Assign [.Name y py] (.DictComp kx vx [⟨tg, iter, ifs, 0⟩] scope pos) spos) (tAsg (tDc wi g tt tk tv (own.map (·.2))) (gName i)) := by
  refine ⟨fun pins s σ H D I h => ?_⟩
  rw [exec_Assign_Name_used _ _ _ _ hsw]
  refine wpAny_bind (wpAny_standAt (wpAny_bind ?_))
  show wpAny _ X.A (do let _ ← comprehension (.DictComp kx vx [⟨tg, iter, ifs, 0⟩] scope pos) scope X.env (firstIterPos [⟨tg, iter, ifs, 0⟩] pos) newDict false (eval iter X.env) (some (assign (.Name y py) X.env))) _ _ s
  have h : tDc wi g tt tk tv (own.map (·.2)) σ H (fun x H1 => gName i x σ H1 D.nx) := h
  refine wpAny_bind (thn (dc_core (Qf := fun _ s' => SP X pins D .next s') hc hN I hi ok hg ht hk he hs h fun L C s' m H' I' q hn f => ?_) fun _ s' hq => wpAny_pure (wpAny_pure hq))
  show wpAny _ _ (assign (.Name y py) X.env (.ref L)) _ _ _
  refine wpAny_assign_Name (store_ok2 (v := V.ref L) I' hN hy (.inl hyl) rfl (fun s2 I2 ⟨a, sb, ha⟩ => ?_) (.inr hyl))
  obtain ⟨f0, f1, f2, f3, f4, f5⟩ := f
  have haC : C ≠ a := by
    rcases ha with z | z
    · rw [z]; exact f1
    · exact fun e => f4 y a z e.symm
  refine ⟨m, hn.sameBut sb haC, fun h3 sb3 => ?_⟩
  exact ⟨_, H', I2.turned (t' := s2.toks) (fun b o hb e => (sb3.2 b hb).trans e) f0 f1 f3 f4 f5, q⟩
theorem sw_trueD {kx vx : Expr} {gs : List Comprehension} {scope : Scope} {pos py : Pos} {y : Str} {l : Nat} {env : Env} (hk : env.scope.kind = .function) (hy : env.scope.names.lookup y = some .local) (hl : (py.line == pos.line) = true)
    (ha : (scope.names.any fun (n, k) => n == y && (k == .local || k == .cell)) = false) : swapsWith (.DictComp kx vx gs scope pos) (some (.Name y py)) l env = pure true := by
  have ky : env.kindOf y = some .local := hy
  have hb : env.blockKind = .function := by unfold Env.blockKind; rw [hk]; rfl
  unfold swapsWith
  simp only [hb, ky, ha, Expr.pos, hl]
  rfl
end

/-- enumerate(text): each character in a new pair -/
def Ites (x : Str) : It :=
  ⟨fun i _ => i < x.cps.size, fun i H v H' => ∃ T c, v = .ref T ∧ H T = none ∧ H' = upd H T (.tup [.int (i : Nat), .str ⟨#[c]⟩]) ∧ x.cps[i]? = some c, fun i _ => x.cps.size ≤ i⟩
theorem turn_enumS {P : Program} {w : World} {K : PySem.W.Frag} {elts : List Expr} {kk : Nat} {tpos : Pos} (x : Str) (t : Tok) (e it : Addr) (ty : String) (hty : ty = "str_ascii_iterator" ∨ ty = "str_iterator") :
    Turn P w K (.Tuple elts kk tpos) (Ites x) [e, it] e (fun i h => (∃ old, IsEnum h e it ((i : Nat) : Int) old) ∧ h.IsStrIter it ty x t i ∧ e ≠ it ∧ i ≤ x.cps.size) where
  mem := by simp
  obj := fun i h st b hb => by
    obtain ⟨⟨old, he⟩, ⟨o, ho, hc, hd⟩, _⟩ := st
    have e' : b = e ∨ b = it := by simpa using hb
    rcases e' with z | z
    · rw [z]; exact ⟨_, he, fun v q => nomatch q⟩
    · rw [z]; exact ⟨o, ho, fun v q => by rw [hd] at q; cases q⟩
  keep := fun i h h' st k => by
    obtain ⟨⟨old, he⟩, ⟨o, ho, r⟩, hne⟩ := st
    exact ⟨⟨old, k e (by simp) _ he⟩, ⟨o, k it (by simp) o ho, r⟩, hne⟩
  item := by
    intro X hP hw hK hc i pins s σ H E I hf st hg
    subst hP hw hK
    obtain ⟨⟨old, he⟩, hit, hne, hle⟩ := st
    have hel : e < s.heap.objs.size := Heap.lt_size he
    have hil : it < s.heap.objs.size := by obtain ⟨_, q, _⟩ := hit; exact Heap.lt_size q
    have Dr : Draws X.prog X.w X.A.in1 it [it] x.cps.size (fun i v => ∃ c u, x.cps[i]? = some c ∧ v = .str ⟨#[c]⟩ u) (fun i h => h.IsStrIter it ty x t i) := by
      rcases hty with z | z
      · rw [z]; exact Draws.strAscii (A := X.A.in1) (I.ok.hd hc) it x t
      · rw [z]; exact Draws.strWide (A := X.A.in1) (I.ok.hd hc) it x t
    refine wpAny_pyNext_enum_itemD Dr he hit hg hne (by simpa using hne) fun v h' tk hv ho hit' hT hsz hk => ?_
    obtain ⟨c, u, hcx, rfl⟩ := hv
    refine ⟨_, rfl, wpAny_letOwnedTupleGo_enum (s := { s with heap := h', toks := tk + 1 }) ho fun h'' he' sb => ?_⟩
    have hT2 : h''.get? s.heap.objs.size = some { cls := .type "tuple", data := .seq #[.int i tk, .str ⟨#[c]⟩ u] } := (sb.2 _ (Nat.ne_of_gt hel)).trans hT
    have new : ObjOk X.prog X.w (upd H s.heap.objs.size (.tup [.int (i : Nat), .str ⟨#[c]⟩])) h'' s.heap.objs.size (.tup [.int (i : Nat), .str ⟨#[c]⟩]) :=
      ⟨by show 2 ≤ sizeLine; decide, [.int i tk, .str ⟨#[c]⟩ u], .cons ⟨_, rfl⟩ (.cons ⟨_, rfl⟩ .nil), ⟨_, hT2, rfl, _, rfl⟩⟩
    have I1 : Inv X pins σ (upd H s.heap.objs.size (.tup [.int (i : Nat), .str ⟨#[c]⟩])) { s with heap := h'', toks := tk + 1 } :=
      I.turnedNew (ch := [e, it]) (fun b ob hb q => (sb.2 b (fun z => hb (by simp [z]))).trans (hk b ob (fun z => hb (by simp [z])) (fun z => hb (by simp [z])) q)) hf (Nat.le_refl _) new
    refine ⟨.ref s.heap.objs.size, _, I1, rfl, ⟨_, c, rfl, I.hok.fresh (Nat.le_refl _), rfl, hcx⟩, ⟨⟨.str ⟨#[c]⟩ u, ?_⟩, ?_, hne, Nat.succ_le_of_lt hg⟩, fun b hb => ?_⟩
    · have e1 : ((i + 1 : Nat) : Int) = (i : Int) + 1 := by omega
      rw [e1]; exact he'
    · obtain ⟨o, q, r⟩ := hit'
      exact ⟨o, (sb.2 it (Ne.symm hne)).trans q, r⟩
    · have hb' : b < s.heap.objs.size := by
        have e' : b = e ∨ b = it := by simpa using hb
        rcases e' with z | z
        · rw [z]; exact hel
        · rw [z]; exact hil
      rw [upd_ne (Nat.ne_of_lt hb')]
      exact (hf b hb).1
  done := by
    intro X hP hw hK hc i pins s σ H E I hf st hg
    subst hP hw hK
    obtain ⟨⟨old, he⟩, hit, hne, hle⟩ := st
    obtain ⟨f0, f1, f2, f3, f4, f5⟩ := hf it (by simp)
    have Dr : Draws X.prog X.w X.A.in1 it [it] x.cps.size (fun i v => ∃ c u, x.cps[i]? = some c ∧ v = .str ⟨#[c]⟩ u) (fun i h => h.IsStrIter it ty x t i) := by
      rcases hty with z | z
      · rw [z]; exact Draws.strAscii (A := X.A.in1) (I.ok.hd hc) it x t
      · rw [z]; exact Draws.strWide (A := X.A.in1) (I.ok.hd hc) it x t
    have ei : i = x.cps.size := Nat.le_antisymm hle hg
    subst ei
    exact wpAny_pyNext_enum_endD Dr he hit fun h' eb => ⟨rfl, I.turned (t' := s.toks) (fun b o hb q => eb b o hb q) f0 f1 f3 f4 f5⟩
  self := fun A i s Q E st h => let ⟨⟨_, he⟩, _⟩ := st; wpAny_pyIter_enum he h
def iEnumS (ta : TA) : TI := fun σ H R => ta σ H fun vs H1 => ∃ x, vs = [.str x] ∧ R (Ites x) H1
theorem pi_enumS {X : Cx} {e : Expr} {ta : TA} {p pos tpos : Pos} {elts : List Expr} {kk : Nat} (hg : Gl X "enumerate") (hm : X.mg "enumerate" = none) (ha : PA X [e] ta) (hs : starEach [e] X.env = [(false, eval e X.env)] := by rfl) :
    PI X (.Tuple elts kk tpos) (.Call (.Name "enumerate" p) [e] [] pos) (iEnumS ta) := by
  refine ⟨fun pins s σ H R I h => ?_⟩
  refine Call_ (ld_blt I hg hm boot_enumerate (PyProof.Rows.callWith_type1 (thn (ha.run pos pins s σ H _ I h) fun us s1 ⟨vs, H1, I1, r1, q1⟩ => ?_) hs rfl))
  obtain ⟨x, ex, q⟩ := q1
  subst ex
  cases r1 with
  | cons r rr =>
    cases rr
    obtain ⟨t, rfl⟩ := r
    refine call_enumerate_str fun h' he hit hsz hk => wpAny_pyIter_enum he ?_
    have I2 : Inv X pins σ H1 { s1 with heap := h' } := I1.kept (t' := s1.toks) hk
    refine ⟨s1.heap.objs.size + 1, [s1.heap.objs.size + 1, s1.heap.objs.size], _, _, H1, rfl, I2, turn_enumS x t (s1.heap.objs.size + 1) s1.heap.objs.size (strIterType x) (by unfold strIterType; split <;> simp), ⟨⟨.none, he⟩, hit, Nat.succ_ne_self _, Nat.zero_le _⟩, fun b hb => ?_, q⟩
    have e' : b = s1.heap.objs.size + 1 ∨ b = s1.heap.objs.size := by simpa using hb
    have hle : s1.heap.objs.size ≤ b := by
      rcases e' with z | z
      · rw [z]; exact Nat.le_add_right _ _
      · rw [z]; exact Nat.le_refl _
    exact I1.fpOk hle (I1.hok.fresh hle)
theorem walk_enumS {z : Str} : Walk (Ites z) z.cps.size (fun _ => True) (fun i H v H' => ∃ T c, v = .ref T ∧ H T = none ∧ H' = upd H T (.tup [.int (i : Nat), .str ⟨#[c]⟩]) ∧ z.cps[i]? = some c) :=
  ⟨fun _ _ hi _ => hi, fun _ _ => Nat.le_refl _, fun _ _ _ _ _ _ y => y⟩

/-! ### setdefault of a dict with tuple keys -/
section
variable {X : Cx} {pins : List (Addr × Obj)} {σ : L2.St} {H : Hp} {s : Shared} {a b : Addr} {r : Value} {d : V} {k : List L2.Key} {A : Around} {E : Value → Shared → Prop}
theorem d_setdT {kvs : List (List L2.Key × V)} {Q : Value → Shared → Prop} (hu : A.units + 1 < cLine) (I : Inv X pins σ H s) (e : H a = some (.dT kvs)) (eb : H b = some (.tup (k.map kV))) (rd : RelV d r) (hl : kvs.length < sizeLine)
    (h1 : ∀ v, valV kvs k = some v → ∀ (w' : Value) (s' : Shared), Inv X pins σ H s' → RelV v w' → Q w' s') (h2 : valV kvs k = none → ∀ (w' : Value) (s' : Shared), Inv X pins σ (upd H a (.dT (putK kvs k d))) s' → RelV d w' → Q w' s') :
    wpAny (model X.prog X.w) A (call (.builtin "dict.setdefault") [.ref a, .ref b, r]) Q E s := by
  obtain ⟨z, hd, xs, rel, dd⟩ := dt_of I.hok e
  have hz : xs.length ≤ sizeLine := by rw [← Paired.length rel]; exact z
  have hl2 : (putK kvs k d).length ≤ sizeLine := by have := length_putK kvs k d; omega
  refine call_setdefault_heap (hsz := hz) (tupleKind_room_in1 hu) (key_of I.hok eb) hd dd (fun p hp => ?_) (fun hn h' dd' hs => ?_)
  · have q := rel.val k
    rw [hp] at q
    cases q0 : valV kvs k with
    | none => rw [q0] at q; exact (show False from q).elim
    | some v0 => rw [q0] at q; exact h1 v0 q0 _ _ (I.tok _) q
  · have q := rel.val k
    rw [hn] at q
    cases q0 : valV kvs k with
    | some v0 => rw [q0] at q; exact (show False from q).elim
    | none =>
      obtain ⟨o, es, ep, hq, h3, h4, h5, _, h6⟩ := dd'
      refine h2 q0 _ _ (d_write I (by rw [e]; exact True.intro) hs ⟨o, hq⟩ ⟨hl2, hd, _, (rel.put k eb rd).keeps fun c ys ec => ?_, o, es, ep, hq, h3, h4, h5, h6⟩) rd
      rw [upd_ne (ne_of ec e (fun z => nomatch z))]
      exact ec
end
def tDSetdT (td ty tx : TE) : TE := fun σ H Q => td σ H fun x H1 => ∃ a, x = .ref a ∧ IsD H1 a ∧ ty σ H1 fun y H2 => tx σ H2 fun z H3 => ∃ (kvs : List (List L2.Key × V)) (k : List L2.Key) (b : Addr), H3 a = some (.dT kvs) ∧ y = .ref b ∧ H3 b = some (.tup (k.map kV)) ∧ kvs.length < sizeLine ∧
  (∀ v, valV kvs k = some v → Q v H3) ∧ (valV kvs k = none → Q z (upd H3 a (.dT (putK kvs k z))))
section
variable {X : Cx} {o e f : Expr} {td ty tx : TE} {apos cpos : Pos}
theorem pe_dsetdT (hu : X.A.units + 1 < cLine) (ho : PE X o td) (he : PE X e ty) (hf : PE X f tx) (m : M2 X o "setdefault" apos e f cpos) : PE X (.Call (.Attribute o "setdefault" apos) [e, f] [] cpos) (tDSetdT td ty tx) := by
  refine ⟨fun pins s σ H Q I h => ?_⟩
  refine wpAny_Call_method m.base m.few m.line PySem.F.plainAttrs_dict PySem.F.slot_dict_setdefault PySem.F.type_dict_setdefault (thn (ho.run pins s σ H _ I h) fun u s1 ⟨x, H1, I1, rx, a, ex, d, q1⟩ => ?_)
  subst ex
  obtain rfl : u = Value.ref a := rx
  obtain ⟨t1, t2, _⟩ := isD_at I1 d
  refine ⟨t1, t2, ?_⟩
  rw [m.trees]
  refine Calls.callWith_builtin rfl (Calls.evalArgs_plain (Calls.spliced_cons (thn (he.run pins s1 σ H1 _ I1 q1) fun iv s2 ⟨y, H2, I2, ry, q2⟩ =>
    Calls.spliced_cons (thn (hf.run pins s2 σ H2 _ I2 q2) fun fv s3 ⟨z, H3, I3, rz, kvs, k, b, ea, ey, eb, hl, q3, q4⟩ => Calls.spliced_nil ?_))))
  subst ey
  obtain rfl : iv = Value.ref b := ry
  exact d_setdT hu I3 ea eb rz hl (fun v hv w' s4 I4 rw' => ⟨v, _, I4, rw', q3 v hv⟩) fun hn w' s4 I4 rw' => ⟨z, _, I4, rw', q4 hn⟩
end

def tDNewTS : TE := fun _ H Q => NewH H (.dT []) fun p H' => Q (.ref p) H'
theorem pe_dnewTS {X : Cx} {pos : Pos} : PE X (.Dict [] [] pos) tDNewTS := PE.of pe_dnewT fun σ H Q q => q.go

/-! ### errors -/
section
variable {X : Cx}
/-- isinstance(e, c) in a suite, whatever class the error has -/
def rIsE1 (K : PySem.W.Frag) (cls : Value) (d : Option Addr) (a : Addr) : List V → Hp → VK → Prop := fun xs H Q => ∃ D, cls = .ref D ∧ d = none ∧ ExcC K D ∧ ∃ (C : Addr) (b : Bool), xs = [.ref a, .ref C] ∧ PySem.W.kitOne K (.ref D) (.ref C) = some b ∧ Q (.bl b) H
theorem call_isE1 {a : Addr} {oe : Obj} {cls : Value} {d : Option Addr} {pn : List (Addr × Obj)} (hz : Zc cls d oe) (hf : ∃ vs, oe.data = .fields vs) : CallR (X.suite a ((a, oe) :: pn)) (.builtin "isinstance") (rIsE1 X.K cls d a) := by
  intro pins s σ H xs us Q I r ⟨D, e1, e2, C, c, b, e3, e4, q⟩
  subst e1 e2
  exact call_isE C hz hf pins s σ H xs us Q I r ⟨.ref c, .ref c, b, e3, fun u z => z, e4, q⟩
theorem ifB {c : Bool} {a b : Prop} (x : c = true → a) (y : c = false → b) : if c = true then a else b := by
  cases c
  · rw [if_neg Bool.false_ne_true]; exact y rfl
  · rw [if_pos rfl]; exact x rfl
end
section
variable {X : Cx}
/-- all and any of a tracked list of bools -/
def rAllS : List V → Hp → VK → Prop := fun vs H Q => ∃ (a : Addr) (bs : List Bool), vs = [.ref a] ∧ H a = some (.lst (bs.map V.bl)) ∧ Q (.bl (bs.all id)) H
theorem cr_allS (hc : X.calm = true) : CallR X (.builtin "all") rAllS := CallR.of (cr_all hc) fun vs H Q ⟨a, bs, e, g, q⟩ => ⟨a, bs, e, .inl (.inl g), q⟩
def rAnyS : List V → Hp → VK → Prop := fun vs H Q => ∃ (a : Addr) (bs : List Bool), vs = [.ref a] ∧ H a = some (.lst (bs.map V.bl)) ∧ Q (.bl (bs.any id)) H
theorem cr_anyS (hc : X.calm = true) : CallR X (.builtin "any") rAnyS := CallR.of (cr_any hc) fun vs H Q ⟨a, bs, e, g, q⟩ => ⟨a, bs, e, .inl (.inl g), q⟩
theorem all_id {α : Type} (f : α → Bool) (l : List α) : (l.map f).all id = l.all f := by rw [List.all_map]; rfl
theorem any_id {α : Type} (f : α → Bool) (l : List α) : (l.map f).any id = l.any f := by rw [List.any_map]; rfl
end
/-- a plain value -/
def Pl (v : V) : Prop := ∃ a, tnm v = some a
theorem Pl.int (i : Int) : Pl (.int i) := ⟨_, rfl⟩
theorem Pl.bl (i : Bool) : Pl (.bl i) := ⟨_, rfl⟩
theorem Pl.non : Pl .non := ⟨_, rfl⟩
theorem Pl.str (i : Str) : Pl (.str i) := ⟨_, rfl⟩
theorem Pl.cs {v : V} (h : Pl v) : v = .non ∨ (∃ b, v = .bl b) ∨ (∃ i, v = .int i) ∨ ∃ s, v = .str s := by
  obtain ⟨a, h⟩ := h
  cases v <;> first | exact .inl rfl | exact .inr (.inl ⟨_, rfl⟩) | exact .inr (.inr (.inl ⟨_, rfl⟩)) | exact .inr (.inr (.inr ⟨_, rfl⟩)) | cases h
theorem kb11 : kitB "NoneType" "tuple" = some false := by decide +kernel
theorem kb12 : kitB "bool" "tuple" = some false := by decide +kernel
theorem kb13 : kitB "int" "tuple" = some false := by decide +kernel
theorem kb14 : kitB "str" "tuple" = some false := by decide +kernel
theorem kb15 : kitB "list" "tuple" = some false := by decide +kernel
theorem kb16 : kitB "NoneType" "str" = some false := by decide +kernel
theorem kb17 : kitB "bool" "str" = some false := by decide +kernel
theorem kb18 : kitB "int" "str" = some false := by decide +kernel
theorem kb19 : kitB "list" "str" = some false := by decide +kernel
theorem kb20 : kitB "tuple" "str" = some false := by decide +kernel
theorem kb21 : kitB "bool" "list" = some false := by decide +kernel
theorem kb22 : kitB "int" "list" = some false := by decide +kernel
theorem kb23 : kitB "str" "list" = some false := by decide +kernel
theorem kb24 : kitB "tuple" "list" = some false := by decide +kernel
theorem kb25 : kitB "list" "int" = some false := by decide +kernel
theorem kb26 : kitB "tuple" "int" = some false := by decide +kernel
theorem kb27 : kitB "list" "bool" = some false := by decide +kernel
theorem kb28 : kitB "tuple" "bool" = some false := by decide +kernel
theorem kb29 : kitB "NoneType" "bool" = some false := by decide +kernel
theorem kb30 : kitB "str" "bool" = some false := by decide +kernel
theorem if_true_of {c : Bool} {A B : Prop} (hc : c = true) (h : A) : if c = true then A else B := by
  rw [if_pos hc]
  exact h
theorem if_false_of {c : Bool} {A B : Prop} (hc : c = false) (h : B) : if c = true then A else B := by
  rw [hc, if_neg Bool.false_ne_true]
  exact h
/-- cuts behind more statements -/
theorem seq_cut2 {s1 s2 R : TS} {D : Ends} {σ : L2.St} {H : Hp} (I : L2.St → Hp → Prop) (h2 : ∀ σ H, I σ H → R D σ H) (h1 : ∀ C : L2.St → Hp → Prop, (∀ σ H, I σ H → C σ H) → tSeq s1 s2 { D with nx := C } σ H) : tSeq s1 (tSeq s2 R) D σ H := h1 _ h2
theorem seq_cut3 {s1 s2 s3 R : TS} {D : Ends} {σ : L2.St} {H : Hp} (I : L2.St → Hp → Prop) (h2 : ∀ σ H, I σ H → R D σ H) (h1 : ∀ C : L2.St → Hp → Prop, (∀ σ H, I σ H → C σ H) → tSeq s1 (tSeq s2 s3) { D with nx := C } σ H) : tSeq s1 (tSeq s2 (tSeq s3 R)) D σ H := h1 _ h2
theorem seq_cut4 {s1 s2 s3 s4 R : TS} {D : Ends} {σ : L2.St} {H : Hp} (I : L2.St → Hp → Prop) (h2 : ∀ σ H, I σ H → R D σ H) (h1 : ∀ C : L2.St → Hp → Prop, (∀ σ H, I σ H → C σ H) → tSeq s1 (tSeq s2 (tSeq s3 s4)) { D with nx := C } σ H) : tSeq s1 (tSeq s2 (tSeq s3 (tSeq s4 R))) D σ H := h1 _ h2
theorem seq_cut5 {s1 s2 s3 s4 s5 R : TS} {D : Ends} {σ : L2.St} {H : Hp} (I : L2.St → Hp → Prop) (h2 : ∀ σ H, I σ H → R D σ H) (h1 : ∀ C : L2.St → Hp → Prop, (∀ σ H, I σ H → C σ H) → tSeq s1 (tSeq s2 (tSeq s3 (tSeq s4 s5))) { D with nx := C } σ H) : tSeq s1 (tSeq s2 (tSeq s3 (tSeq s4 (tSeq s5 R)))) D σ H := h1 _ h2
section
variable {X : Cx}
/-- the walks within a comprehension, with the written part told apart from the context -/
theorem pi_tupK {K : PySem.W.Frag} {tg l : Expr} {tl : TE} (hl : PE X l tl) (e : X.K = K := by rfl) : PI X tg l (iTupS K tl) := by subst e; exact pi_tupS hl
theorem pi_listK {K : PySem.W.Frag} {tg l : Expr} {tl : TE} (hl : PE X l tl) (e : X.K = K := by rfl) : PI X tg l (iListS K tl) := by subst e; exact pi_listS hl
theorem pi_enumK {K : PySem.W.Frag} {e : Expr} {ta : TA} {p pos tpos : Pos} {elts : List Expr} {kk : Nat} (hg : Gl X "enumerate") (hm : X.mg "enumerate" = none) (ha : PA X [e] ta) (hK : X.K = K := by rfl) (hs : starEach [e] X.env = [(false, eval e X.env)] := by rfl) :
    PI X (.Tuple elts kk tpos) (.Call (.Name "enumerate" p) [e] [] pos) (iEnumL K ta) := by subst hK; exact pi_enumL hg hm ha hs
theorem pi_zipK {K : PySem.W.Frag} {e e2 : Expr} {ta : TA} {p pos tpos : Pos} {elts : List Expr} {kk : Nat} (hg : Gl X "zip") (hm : X.mg "zip" = none) (ha : PA X [e, e2] ta) (hK : X.K = K := by rfl) (hs : starEach [e, e2] X.env = (false, eval e X.env) :: starEach [e2] X.env := by rfl) (hpl : (backTo pos (starEach [e2] X.env)).any (·.1) = false := by rfl) :
    PI X (.Tuple elts kk tpos) (.Call (.Name "zip" p) [e, e2] [] pos) (iZipS K ta) := by subst hK; exact pi_zipS hg hm ha hs hpl
end
theorem All2.rev {α β : Type} {R : α → β → Prop} {xs : List α} {ys : List β} (h : All2 R xs ys) : All2 R xs.reverse ys.reverse := by
  induction h with
  | nil => exact .nil
  | cons r _ ih => rw [List.reverse_cons, List.reverse_cons]; exact ih.app (.cons r .nil)

/-! ### list(reversed(list)) -/
section
variable {prog : Program} {w : World} {A : Around} {E : Value → Shared → Prop} {s : Shared}
theorem list_init_rev {R : Result → Shared → Prop} {it l : Addr} {items : Array Value} (hh : A.handled = none) (hit : s.heap.IsRevIter it l ((items.size : Int) - 1)) (hl : s.heap.IsList l items) (hne : l ≠ it) (hn : items.size ≤ sizeLine) (S : Addr) (hS : s.heap.get? S = some { cls := .type "list", data := .seq #[] })
    (hSi : S ≠ it) (hSl : S ≠ l)
    (hR : ∀ h' tk acc' c', (∀ b o, b ≠ S → b ≠ it → s.heap.get? b = some o → h'.get? b = some o) → h'.get? S = some { cls := .type "list", dict := none, data := .seq acc' c', slots := #[] } →
      ItemsOf (fun i v => items[items.size - 1 - i]? = some v) acc' items.size → R (.ok (.ret .none)) { s with heap := h', toks := tk }) :
    wpAny (model prog w) A.in1 (Builtin.«list.__init__» ⟨[.ref S, .ref it], []⟩)
      (fun fin s' => match fin with | .done f => R (.ok f) s' | .again c' => c'.quiet = true ∧ codeAny (model prog w) A c' R s') (fun e s' => R (.error e) s') s := by
  have W := (Walks.listRev (prog := prog) (w := w) (A := A.in1) hh it l hne items).toS
  have hSf : S ∉ [it, l] := by simp only [List.mem_cons, List.not_mem_nil, or_false, not_or]; exact ⟨hSi, hSl⟩
  show wpAny _ A.in1 (do let old ← Builtin.List.listItems (.ref S); Builtin.List.listUpdate (.ref S) (fun _ => #[]); letGo old.toList.reverse; Builtin.List.listExtendWith (.ref S) (.ref it) .none) _ _ s
  refine wpAny_bind ?_
  unfold Builtin.List.listItems
  refine wpAny_bind (wpAny_seqItems hS rfl (wpAny_pure ?_))
  show wpAny _ A.in1 (updateSeq S (fun _ => #[]) >>= fun _ => letGo (#[] : Array Value).toList.reverse >>= fun _ => Builtin.List.listExtendWith (.ref S) (.ref it) .none) _ _ s
  refine wpAny_bind (wpAny_updateSeq hS rfl ?_)
  have hS₂ := Heap.get?_update_self (Obj.mapSeq (fun _ => (#[] : Array Value))) hS rfl
  have oth : ∀ b o, b ≠ S → s.heap.get? b = some o → (s.heap.update S (Obj.mapSeq (fun _ => (#[] : Array Value)))).get? b = some o :=
    fun b o hb e => (Heap.get?_update_other _ _ (Ne.symm hb)).trans e
  refine wpAny_bind (wpAny_letGo ?_)
  have hit1 : (s.heap.update S (Obj.mapSeq (fun _ => (#[] : Array Value)))).IsRevIter it l ((items.size : Int) - 1) := hit.at fun o e => oth it o hSi.symm e
  have hl1 : (s.heap.update S (Obj.mapSeq (fun _ => (#[] : Array Value)))).IsList l items := hl.at fun o e => oth l o hSl.symm e
  have hT := Heap.IsRevIter.typeIs (s := { s with heap := s.heap.update S (Obj.mapSeq (fun _ => (#[] : Array Value))) }) hit1
  have h1 : Builtin.List.listSameRef (.ref S) (.ref it) = false := by simp [Builtin.List.listSameRef, hSi]
  unfold Builtin.List.listExtendWith
  refine wpAny_bind (wpAny_typeOf hT ?_)
  rw [if_neg (by rw [h1]; decide)]
  refine wpAny_bind (wpAny_pyIter_revIter (s := { s with heap := s.heap.update S (Obj.mapSeq (fun _ => (#[] : Array Value))) }) hit1 ?_)
  refine wpAny_bind (wpAny_holding ?_)
  unfold Builtin.List.listLengthHint
  refine wpAny_bind (wpAny_specialOf hT RT.nolen_lri ?_)
  show wpAny _ A.in1 (specialOf (Value.ref it) (Str.ofString "__length_hint__") >>= _) _ _ _
  refine wpAny_bind (wpAny_specialOf hT RT.hint_lri ?_)
  generalize hid : ("list_reverseiterator.__length_hint__" : String) = id0
  wp_delta
  rw [show splitId id0 = some ("list_reverseiterator", "__length_hint__") from by subst hid; decide +kernel]
  subst hid
  refine wpAny_bind (wpAny_isInstance (b := true) hT (by rw [isSubtype_type]; kernel_rfl) ?_)
  refine wpAny_pure ?_
  rw [if_neg (by decide)]
  have e0 : ((items.size : Nat) : Int) - 1 - ((0 : Nat) : Int) = (items.size : Int) - 1 := by omega
  refine wpAny_pure ⟨plainId_quiet F.plain_extend_loop _, codeAny_extend_loopS W hn _ hSf _ items.size 0 _ _ _ rfl (Nat.zero_le _) ⟨Nat.zero_le _, by rw [e0]; exact hit1, hl1⟩ hS₂ (ItemsOf.nil _) fun s' acc' c' hm hS' hacc => ?_⟩
  rw [Moved.eq_with hm]
  refine hR s'.heap s'.toks acc' c' (fun b o hb hb2 e => hm.heap b o (fun hmem => ?_) (oth b o hb e)) hS' hacc
  rcases List.mem_cons.mp hmem with e' | hmem
  · exact hb e'
  · exact hb2 (List.mem_singleton.mp hmem)
theorem call_list_rev {Q : Value → Shared → Prop} {it l : Addr} {items : Array Value} (hh : A.handled = none) (hit : s.heap.IsRevIter it l ((items.size : Int) - 1)) (hl : s.heap.IsList l items) (hne : l ≠ it) (hn : items.size ≤ sizeLine)
    (hQ : ∀ h' tk acc' c', (∀ b o, b ≠ it → s.heap.get? b = some o → h'.get? b = some o) →
      h'.get? s.heap.objs.size = some { cls := .type "list", dict := none, data := .seq acc' c', slots := #[] } → ItemsOf (fun i v => items[items.size - 1 - i]? = some v) acc' items.size → Q (.ref s.heap.objs.size) { s with heap := h', toks := tk }) :
    wpAny (model prog w) A (call (.type "list") [.ref it]) Q E s := by
  obtain ⟨oi, hoi, _⟩ := id hit
  obtain ⟨ol, hol, _⟩ := id hl
  have hSi : s.heap.objs.size ≠ it := Nat.ne_of_gt (Heap.lt_size hoi)
  have hSl : s.heap.objs.size ≠ l := Nat.ne_of_gt (Heap.lt_size hol)
  refine callType_codes (Q₁ := fun obj s₁ => obj = .ref s.heap.objs.size ∧ s₁ = { s with heap := s.heap.push { cls := .type "list", data := .seq #[] } }) F.called_list (F.typeCall_list_1 _) F.entry_list_init
    (code_list_new _ ⟨rfl, rfl⟩) fun obj s₁ h₁ => ?_
  obtain ⟨rfl, rfl⟩ := h₁
  have hS : (s.heap.push { cls := .type "list", data := .seq #[] }).get? s.heap.objs.size = some { cls := .type "list", data := .seq #[] } := Heap.get?_push_size _ rfl
  refine ⟨⟨_, hS, rfl⟩, F.args_list_init_2 _ _, list_init_rev (s := { s with heap := s.heap.push { cls := .type "list", data := .seq #[] } }) (A := A.in1) hh (hit.at fun o e => Heap.get?_push_of_some _ e) (hl.push _) hne hn _ hS hSi hSl fun h' tk acc' c' hk hS' hacc => ?_⟩
  exact ⟨rfl, hQ h' tk acc' c' (fun b o hb e => hk b o (Nat.ne_of_lt (Heap.lt_size e)) hb (Heap.get?_push_of_some _ e)) hS' hacc⟩
end
section
variable {X : Cx}
/-- list(reversed(x)), x a list: a new list -/
def tLstRev (te : TE) : TE := fun σ H Q => te σ H fun v H1 => ∃ (a : Addr) (xs : List V), v = .ref a ∧ H1 a = some (.lst xs) ∧ NewH H1 (.lst xs.reverse) fun q H' => Q (.ref q) H'
theorem pe_lstRev {e : Expr} {te : TE} {p p2 pos pos2 : Pos} (hc : X.calm = true) (hg : Gl X "list") (hm : X.mg "list" = none) (hg2 : Gl X "reversed") (hm2 : X.mg "reversed" = none) (he : PE X e te)
    (hs : starEach [e] X.env = (false, eval e X.env) :: starEach [] X.env := by rfl)
    (hs2 : starEach [.Call (.Name "reversed" p2) [e] [] pos2] X.env = (false, eval (.Call (.Name "reversed" p2) [e] [] pos2) X.env) :: starEach [] X.env := by rfl) :
    PE X (.Call (.Name "list" p) [.Call (.Name "reversed" p2) [e] [] pos2] [] pos) (tLstRev te) := by
  refine ⟨fun pins s σ H Q I h => ?_⟩
  refine Call_ (ld_blt I hg hm boot_list (PyProof.Rows.callWith_type1 (args_cons (Call_ (ld_blt I hg2 hm2 PyProof.Rows.boot_reversed (PyProof.Rows.callWith_type1 (args_cons (thn (he.run pins s σ H _ I h) fun u s1 ⟨v, H1, I1, r1, q1⟩ => args_nil ?_) hs) hs rfl))) hs2) hs2 rfl))
  obtain ⟨a, xs, ev, hq0, q0⟩ := q1
  have hq : SqL X.K H1 a xs := .inl (.inl hq0)
  have q := q0.go
  subst ev
  obtain rfl : u = Value.ref a := r1
  obtain ⟨its, rv, p', hz⟩ := I1.list hq
  refine call_reversed_list p'.isList (args_nil ?_)
  have k0 : ∀ b o, s1.heap.get? b = some o → (s1.heap.push (revObj a ((its.toArray.size : Int) - 1))).get? b = some o := fun b o e => Heap.get?_push_of_some _ e
  have I2 : Inv X pins σ H1 { s1 with heap := s1.heap.push (revObj a ((its.toArray.size : Int) - 1)) } := I1.kept (t' := s1.toks) k0
  have hfp := I1.fpOk (H' := H1) (b := s1.heap.objs.size) (Nat.le_refl _) (I1.hok.fresh (Nat.le_refl _))
  have hl := p'.isList
  obtain ⟨ol, hol, _⟩ := id hl
  have hne : a ≠ s1.heap.objs.size := Nat.ne_of_lt (Heap.lt_size hol)
  have hn : its.toArray.size ≤ sizeLine := by rw [List.size_toArray, ← rv.length]; exact hz
  refine call_list_rev (s := { s1 with heap := s1.heap.push (revObj a ((its.toArray.size : Int) - 1)) }) (I1.ok.hd hc) ⟨_, Heap.get?_push_size _ rfl, rfl, rfl⟩ (hl.push _) hne hn fun h' tk acc c' hk hS hi => ?_
  have I3 : Inv X pins σ (upd H1 (s1.heap.push (revObj a ((its.toArray.size : Int) - 1))).objs.size (.lst xs.reverse)) { s1 with heap := h', toks := tk } := I2.turnedNew (ch := [s1.heap.objs.size]) (fun b o hb e => hk b o (fun z => hb (by rw [z]; exact List.mem_singleton_self _)) e) (fun b hb => by rw [List.mem_singleton.mp hb]; exact hfp) (Nat.le_refl _)
    (show ObjOk X.prog X.w _ h' _ (.lst xs.reverse) from ⟨by rw [List.length_reverse]; exact hz, acc.toList, c', RT.vals_rev rv hi, by rw [Array.toArray_toList]; exact hS⟩)
  exact ⟨.ref _, _, I3, rfl, q _ (I2.hok.fresh (Nat.le_refl _))⟩
/-- tuple(reversed(x)), x a list: a new tuple -/
def tTupRevS (te : TE) : TE := fun σ H Q => te σ H fun v H1 => ∃ (a : Addr) (xs : List V), v = .ref a ∧ H1 a = some (.lst xs) ∧ NewH H1 (.tup xs.reverse) fun q H' => Q (.ref q) H'
theorem pe_tupRevS {e : Expr} {te : TE} {p p2 pos pos2 : Pos} (hc : X.calm = true) (hg : Gl X "tuple") (hm : X.mg "tuple" = none) (hg2 : Gl X "reversed") (hm2 : X.mg "reversed" = none) (he : PE X e te)
    (hs : starEach [e] X.env = (false, eval e X.env) :: starEach [] X.env := by rfl)
    (hs2 : starEach [.Call (.Name "reversed" p2) [e] [] pos2] X.env = (false, eval (.Call (.Name "reversed" p2) [e] [] pos2) X.env) :: starEach [] X.env := by rfl) :
    PE X (.Call (.Name "tuple" p) [.Call (.Name "reversed" p2) [e] [] pos2] [] pos) (tTupRevS te) := PE.of (RT.pe_tupRev hc hg hm hg2 hm2 (pe_mono he) hs hs2) fun σ H Q q => ⟨_, q, fun v H1 ⟨a, xs, e, g, n⟩ => ⟨a, xs, e, .inl (.inl g), n.go⟩⟩
end

section
variable {X : Cx}
/-- t + u of tracked tuples: one of them or a new one, in either case these items -/
def rCatTS : R2 := fun x y H Q => ∃ a b xs ys, x = .ref a ∧ y = .ref b ∧ H a = some (.tup xs) ∧ H b = some (.tup ys) ∧ xs.length + ys.length ≤ sizeLine ∧ ∀ p H', Same H H' → H' p = some (.tup (xs ++ ys)) → Q (.ref p) H'
theorem op_catTS : OpR X (binaryOp .Add) rCatTS := OpR.of op_catA fun x y H Q ⟨a, b, xs, ys, e1, e2, g1, g2, hz, q⟩ => ⟨a, b, xs, ys, e1, e2, .inl (.inl g1), .inl (.inl g2), hz, fun z => q b H (Same.refl _) (by rw [z]; exact g2), fun _ z => q a H (Same.refl _) (by rw [z, List.append_nil]; exact g1), fun _ _ p hp => q p _ (same_upd hp) upd_same⟩
/-- xs.insert(i, y) -/
def rInsert : V → List V → Hp → VK → Prop := fun x vs H Q => ∃ (l : Addr) (xs : List V) (i : Int) (y : V), x = .ref l ∧ vs = [.int i, y] ∧ H l = some (.lst xs) ∧ xs.length < sizeLine ∧ 0 ≤ i ∧ i < 2 ^ 63 ∧ Q .non (upd H l (.lst (xs.take i.toNat ++ [y] ++ xs.drop i.toNat)))
theorem mt_insertS : MtR X "list.insert" rInsert := mt_insert
end


def topS (i : Nat) : Stmt := PySem.Challenge.pw_stillroom_k37_outlines_may_be_told_other.main.body.getD i (.Pass ⟨0, 0, 0, 0⟩)
abbrev s_bounded : Stmt := topS 2
abbrev s_middle : Stmt := topS 4
abbrev s_fill : Stmt := topS 6
abbrev s__within : Stmt := topS 7
abbrev s__edges : Stmt := topS 8
abbrev s__inside_row : Stmt := topS 9
abbrev s__first_column : Stmt := topS 10
abbrev s__law_cell : Stmt := topS 12
abbrev s__law_point : Stmt := topS 17
abbrev s__law_outlines : Stmt := topS 18
abbrev s__law_near : Stmt := topS 19
abbrev s__law_told_otherwise : Stmt := topS 20
abbrev s__law_cells : Stmt := topS 21
abbrev s__law_moved : Stmt := topS 22
abbrev s_law : Stmt := topS 23
theorem sc_bounded : FnScope ["number"] ["number"] (defScope s_bounded) := ⟨rfl, rfl, rfl, by decide +kernel, rfl, by decide +kernel, by decide +kernel⟩
theorem sc_middle : FnScope ["at"] ["at"] (defScope s_middle) := ⟨rfl, rfl, rfl, by decide +kernel, rfl, by decide +kernel, by decide +kernel⟩
theorem sc_fill : FnScope ["grid", "clip", "outlines", "colour", "width", "height", "cells", "columns", "edges", "painted", "row", "y", "crossed", "edge", "inside", "column"] ["grid", "clip", "outlines", "colour"] (defScope s_fill) := ⟨rfl, rfl, rfl, by decide +kernel, rfl, by decide +kernel, by decide +kernel⟩
theorem sc__within : FnScope ["begin", "end", "count", "at"] ["begin", "end", "count"] (defScope s__within) := ⟨rfl, rfl, rfl, by decide +kernel, rfl, by decide +kernel, by decide +kernel⟩
theorem sc__edges : FnScope ["outlines", "edges", "points", "ends", "x", "y", "x0", "y0", "x1", "y1"] ["outlines"] (defScope s__edges) := ⟨rfl, rfl, rfl, by decide +kernel, rfl, by decide +kernel, by decide +kernel⟩
theorem sc__inside_row : FnScope ["crossed", "y", "width", "begins", "edge", "inside", "count", "begin"] ["crossed", "y", "width"] (defScope s__inside_row) := ⟨rfl, rfl, rfl, by decide +kernel, rfl, by decide +kernel, by decide +kernel⟩
theorem sc__first_column : FnScope ["edge", "y", "width", "x0", "y0", "x1", "y1", "down", "across", "column"] ["edge", "y", "width"] (defScope s__first_column) := ⟨rfl, rfl, rfl, by decide +kernel, rfl, by decide +kernel, by decide +kernel⟩
theorem sc__law_cell : FnScope ["script", "k"] ["script", "k"] (defScope s__law_cell) := ⟨rfl, rfl, rfl, by decide +kernel, rfl, by decide +kernel, by decide +kernel⟩
theorem sc__law_point : FnScope ["cell", "width", "height", "which", "left"] ["cell", "width", "height"] (defScope s__law_point) := ⟨rfl, rfl, rfl, by decide +kernel, rfl, by decide +kernel, by decide +kernel⟩
theorem sc__law_outlines : FnScope ["script", "at", "width", "height", "outlines", "outline", "k", "cell"] ["script", "at", "width", "height"] (defScope s__law_outlines) := ⟨rfl, rfl, rfl, by decide +kernel, rfl, by decide +kernel, by decide +kernel⟩
theorem sc__law_near : FnScope ["outlines", "outline", "x", "y"] ["outlines"] (defScope s__law_near) := ⟨rfl, rfl, rfl, by decide +kernel, rfl, by decide +kernel, by decide +kernel⟩
theorem sc__law_told_otherwise : FnScope ["outlines", "cell", "out", "outline", "at", "row", "x", "y"] ["outlines", "cell"] (defScope s__law_told_otherwise) := ⟨rfl, rfl, rfl, by decide +kernel, rfl, by decide +kernel, by decide +kernel⟩
theorem sc__law_cells : FnScope ["width", "height", "clip", "outlines"] ["width", "height", "clip", "outlines"] (defScope s__law_cells) := ⟨rfl, rfl, rfl, by decide +kernel, rfl, by decide +kernel, by decide +kernel⟩
theorem sc__law_moved : FnScope ["outlines", "dx", "dy", "outline", "x", "y"] ["outlines", "dx", "dy"] (defScope s__law_moved) := ⟨rfl, rfl, rfl, by decide +kernel, rfl, by decide +kernel, by decide +kernel⟩
theorem sc_law : FnScope ["script", "cell", "width", "height", "clip", "first", "second", "one", "other", "change", "due", "k", "across", "down", "moved", "wide", "y", "x"] ["script"] (defScope s_law) := ⟨rfl, rfl, rfl, by decide +kernel, rfl, by decide +kernel, by decide +kernel⟩
/-- what the top has left, as far as the walk asks of it -/
structure Txt (K : PySem.W.Frag) (mg : Str → Option Value) where
  f_bounded : Addr
  fd_bounded : FuncData
  F_bounded : Fun K "bounded" "bounded" s_bounded f_bounded fd_bounded
  b_bounded : Binds K fd_bounded ["number"] []
  g_bounded : mg "bounded" = some (.ref f_bounded)
  f_middle : Addr
  fd_middle : FuncData
  F_middle : Fun K "middle" "middle" s_middle f_middle fd_middle
  b_middle : Binds K fd_middle ["at"] []
  g_middle : mg "middle" = some (.ref f_middle)
  f_fill : Addr
  fd_fill : FuncData
  F_fill : Fun K "fill" "fill" s_fill f_fill fd_fill
  b_fill : Binds K fd_fill ["grid", "clip", "outlines", "colour"] []
  g_fill : mg "fill" = some (.ref f_fill)
  f__within : Addr
  fd__within : FuncData
  F__within : Fun K "_within" "_within" s__within f__within fd__within
  b__within : Binds K fd__within ["begin", "end", "count"] []
  g__within : mg "_within" = some (.ref f__within)
  f__edges : Addr
  fd__edges : FuncData
  F__edges : Fun K "_edges" "_edges" s__edges f__edges fd__edges
  b__edges : Binds K fd__edges ["outlines"] []
  g__edges : mg "_edges" = some (.ref f__edges)
  f__inside_row : Addr
  fd__inside_row : FuncData
  F__inside_row : Fun K "_inside_row" "_inside_row" s__inside_row f__inside_row fd__inside_row
  b__inside_row : Binds K fd__inside_row ["crossed", "y", "width"] []
  g__inside_row : mg "_inside_row" = some (.ref f__inside_row)
  f__first_column : Addr
  fd__first_column : FuncData
  F__first_column : Fun K "_first_column" "_first_column" s__first_column f__first_column fd__first_column
  b__first_column : Binds K fd__first_column ["edge", "y", "width"] []
  g__first_column : mg "_first_column" = some (.ref f__first_column)
  f__law_cell : Addr
  fd__law_cell : FuncData
  F__law_cell : Fun K "_law_cell" "_law_cell" s__law_cell f__law_cell fd__law_cell
  b__law_cell : Binds K fd__law_cell ["script", "k"] []
  g__law_cell : mg "_law_cell" = some (.ref f__law_cell)
  f__law_point : Addr
  fd__law_point : FuncData
  F__law_point : Fun K "_law_point" "_law_point" s__law_point f__law_point fd__law_point
  b__law_point : Binds K fd__law_point ["cell", "width", "height"] []
  g__law_point : mg "_law_point" = some (.ref f__law_point)
  f__law_outlines : Addr
  fd__law_outlines : FuncData
  F__law_outlines : Fun K "_law_outlines" "_law_outlines" s__law_outlines f__law_outlines fd__law_outlines
  b__law_outlines : Binds K fd__law_outlines ["script", "at", "width", "height"] []
  g__law_outlines : mg "_law_outlines" = some (.ref f__law_outlines)
  f__law_near : Addr
  fd__law_near : FuncData
  F__law_near : Fun K "_law_near" "_law_near" s__law_near f__law_near fd__law_near
  b__law_near : Binds K fd__law_near ["outlines"] []
  g__law_near : mg "_law_near" = some (.ref f__law_near)
  f__law_told_otherwise : Addr
  fd__law_told_otherwise : FuncData
  F__law_told_otherwise : Fun K "_law_told_otherwise" "_law_told_otherwise" s__law_told_otherwise f__law_told_otherwise fd__law_told_otherwise
  b__law_told_otherwise : Binds K fd__law_told_otherwise ["outlines", "cell"] []
  g__law_told_otherwise : mg "_law_told_otherwise" = some (.ref f__law_told_otherwise)
  f__law_cells : Addr
  fd__law_cells : FuncData
  F__law_cells : Fun K "_law_cells" "_law_cells" s__law_cells f__law_cells fd__law_cells
  b__law_cells : Binds K fd__law_cells ["width", "height", "clip", "outlines"] []
  g__law_cells : mg "_law_cells" = some (.ref f__law_cells)
  f__law_moved : Addr
  fd__law_moved : FuncData
  F__law_moved : Fun K "_law_moved" "_law_moved" s__law_moved f__law_moved fd__law_moved
  b__law_moved : Binds K fd__law_moved ["outlines", "dx", "dy"] []
  g__law_moved : mg "_law_moved" = some (.ref f__law_moved)
  f_law : Addr
  fd_law : FuncData
  F_law : Fun K "law" "law" s_law f_law fd_law
  b_law : Binds K fd_law ["script"] []
  g_law : mg "law" = some (.ref f_law)
  t__FARTHEST : Tok
  c__FARTHEST : mg "_FARTHEST" = some (.int 1048576 t__FARTHEST)
  z_abs : mg "abs" = none
  z_int : mg "int" = none
  z_len : mg "len" = none
  z_list : mg "list" = none
  z_max : mg "max" = none
  z_min : mg "min" = none
  z_range : mg "range" = none
  z_reversed : mg "reversed" = none
  z_tuple : mg "tuple" = none
  z_zip : mg "zip" = none
open Lean in
local macro_rules
  | `(tactic| walk_at $s:str) => do
    let ws := (s.getString.splitOn " ").filter (· ≠ "")
    let ids (fs : List String) : Array (TSyntax `term) := (fs.map fun f => (⟨mkIdent f.toName⟩ : TSyntax `term)).toArray
    match ws with
    | "vc" :: fs => do
      let xs := ids fs
      `(tactic| simp (config := {maxSteps := 2000000}) only [tSeq, tAsg, tOp, rI, rI0, rU, tUn, tCB, tCons, tNil, tVar, tC, gName, gSub, rSetL, tRet, tRetN, tIfS, tNext, tTest, tB, tDrop, tIf, tNot, tAnd, tOr, tAndV, tOrV, tNotV, tAug, ipI, tCall, tCmp, t2I, tBreak, tCont, tLst, tTup, tBM, tBM0, rAppend, tyV_upd, rLenH, rLenT, rListH, rIxH, rIxTH, rIxS, rEqIL, rNeIL, rEqTS, rSlH, rRep, rCat, rExtend, tSl, tPart, tNoPart, rIxT, gTup, gCons, gNil, atI_c0, atI_c1, atI_c2, atI_c3, dS_int, dS_bl, isS_int, isS_bl, eqv_ii, eqv_bb, eqvAll_nil, eqvAll_cons, List.all_cons, List.all_nil, Bool.and_true, Bool.true_and, rIsiB, tnm_int, tnm_bl, tnm_str, tnm_non, tnm_ref, kb1, kb2, kb3, kb4, kb5, kb6, kb7, kb8, kb9, kb10, rEq, rNe, scal_ii, scal_ss, scal_bb, scal_nn, scal_in, scal_ni, tFor_eq, tLc_eq, iRng1, iRng2, iList, iTup, iZip, iStr, iRng3, tChain, tYes, wipe, tCallL, Int.sub_zero, Int.toNat_natCast, Int.natCast_add, cxOf, L2.start, List.map_cons, List.map_nil, List.length_cons, List.length_nil, List.reduceReplicate, List.cons_append, List.nil_append, List.append_nil, List.set_cons_zero, List.set_cons_succ, List.getElem?_cons_zero, List.getElem?_cons_succ, upd_same, upd_upd, HO.lst.injEq, HO.tup.injEq, nil_sz, Option.some.injEq, V.int.injEq, V.bl.injEq, V.ref.injEq, V.str.injEq, V.ty.injEq, exists_eq_left', exists_eq_left, exists_eq', exists_eq, Int.cast_ofNat_Int, Int.reduceEq, Int.reduceMul, Int.reduceAdd, Int.reduceSub, Int.natCast_zero, Int.mul_zero, Int.add_zero, exists_and_left, exists_and_right, List.cons.injEq, and_true, true_and, and_assoc, reduceCtorEq, false_and, and_false, exists_false, exists_const, or_false, false_or, Nat.reduceAdd, Nat.reduceSub, Int.reduceLT, Int.reduceLE, Int.reduceNeg, Int.reducePow, Int.reduceToNat, ite_true, ite_false, Bool.false_eq_true, Bool.not_true, Bool.not_false, decide_true, decide_false, if_true, if_false, tTupS, tLstS, rListS, rListT, rTupleL, rCatL, rRepS, rSlS, map_int_inj, sz1, sz2, sz3, sz4, sz5, sz6, sz8, CMul, Nat.reduceLT, Nat.reduceLeDiff, Nat.reducePow, or_true, true_or, List.length_map, List.length_append, List.length_replicate, decide_eq_true_eq, gt_iff_lt, ge_iff_le, Int.reduceGT, Int.reduceGE, ne_eq, not_true_eq_false, not_false_eq_true, Int.reduceToNat, gTupS, gLstS, iListS, iTupS, tML, tML0, rPop, mx_eq, mn_eq, Int.natCast_inj, bitAnd_m1, bitAnd_m2, bitAnd_m3, bitAnd_m4, bitAnd_m5, bitAnd_m6, bitAnd_m7, bitAnd_m8, bitAnd_m16, CDiv, toNat_mul, map_snoc, map_cat, map_setV, List.length_set, absI_eq, Bool.and_self, tAugS, rGetL, iZipS, cutV_take1, cutV_drop1, tPar, rLenSc, rIxSc, iRng2, rSumS, rSlTS, cutV_take3, rEqC, rNeC, tTrL, iEnumL, rInI, rIndexI, tDGet, tDIn, tDNotIn, sDPut, iEnumS, tDc_eq, eq_self, rEqTK, rNeSK, rIsiTK, iRevS, iZipTS, rInLC, rNotInLC, rNotInTC, rRepL, tJoinC, tDGet2, tDNewTS, tDSetdT, tCallS, rIsB, rNotB, rIsE1, rAllS, rAnyS, tLstRev, tTupRevS, rCatTS, rInsert, kb11, kb12, kb13, kb14, kb15, kb16, kb17, kb18, kb19, kb20, kb21, kb22, kb23, kb24, kb25, kb26, kb27, kb28, kb29, kb30, $[$xs:term],*])
    | "w" :: fs => do
      let xs := ids fs
      let ys := (fs.map fun f => (⟨mkIdent f.toName⟩ : TSyntax `term)).toArray
      `(tactic| simp (config := {maxSteps := 2000000}) only [tSeq, tAsg, tOp, rI, rI0, rU, tUn, tCB, tCons, tNil, tVar, tC, gName, gSub, rSetL, tRet, tRetN, tIfS, tNext, tTest, tB, tDrop, tIf, tNot, tAnd, tOr, tAndV, tOrV, tNotV, tAug, ipI, tCall, tCmp, t2I, tBreak, tCont, tLst, tTup, tBM, tBM0, rAppend, tyV_upd, rLenH, rLenT, rListH, rIxH, rIxTH, rIxS, rEqIL, rNeIL, rEqTS, rSlH, rRep, rCat, rExtend, tSl, tPart, tNoPart, rIxT, gTup, gCons, gNil, atI_c0, atI_c1, atI_c2, atI_c3, dS_int, dS_bl, isS_int, isS_bl, eqv_ii, eqv_bb, eqvAll_nil, eqvAll_cons, List.all_cons, List.all_nil, Bool.and_true, Bool.true_and, rIsiB, tnm_int, tnm_bl, tnm_str, tnm_non, tnm_ref, kb1, kb2, kb3, kb4, kb5, kb6, kb7, kb8, kb9, kb10, rEq, rNe, scal_ii, scal_ss, scal_bb, scal_nn, scal_in, scal_ni, tFor_eq, tLc_eq, iRng1, iRng2, iList, iTup, iZip, iStr, iRng3, tChain, tYes, wipe, tCallL, Int.sub_zero, Int.toNat_natCast, Int.natCast_add, cxOf, L2.start, List.map_cons, List.map_nil, List.length_cons, List.length_nil, List.reduceReplicate, List.cons_append, List.nil_append, List.append_nil, List.set_cons_zero, List.set_cons_succ, List.getElem?_cons_zero, List.getElem?_cons_succ, upd_same, upd_upd, HO.lst.injEq, HO.tup.injEq, nil_sz, Option.some.injEq, V.int.injEq, V.bl.injEq, V.ref.injEq, V.str.injEq, V.ty.injEq, exists_eq_left', exists_eq_left, exists_eq', exists_eq, Int.cast_ofNat_Int, Int.reduceEq, Int.reduceMul, Int.reduceAdd, Int.reduceSub, Int.natCast_zero, Int.mul_zero, Int.add_zero, exists_and_left, exists_and_right, List.cons.injEq, and_true, true_and, and_assoc, reduceCtorEq, false_and, and_false, exists_false, exists_const, or_false, false_or, Nat.reduceAdd, Nat.reduceSub, Int.reduceLT, Int.reduceLE, Int.reduceNeg, Int.reducePow, Int.reduceToNat, ite_true, ite_false, Bool.false_eq_true, Bool.not_true, Bool.not_false, decide_true, decide_false, if_true, if_false, tTupS, tLstS, rListS, rListT, rTupleL, rCatL, rRepS, rSlS, map_int_inj, sz1, sz2, sz3, sz4, sz5, sz6, sz8, CMul, Nat.reduceLT, Nat.reduceLeDiff, Nat.reducePow, or_true, true_or, List.length_map, List.length_append, List.length_replicate, decide_eq_true_eq, gt_iff_lt, ge_iff_le, Int.reduceGT, Int.reduceGE, ne_eq, not_true_eq_false, not_false_eq_true, Int.reduceToNat, gTupS, gLstS, iListS, iTupS, tML, tML0, rPop, mx_eq, mn_eq, Int.natCast_inj, bitAnd_m1, bitAnd_m2, bitAnd_m3, bitAnd_m4, bitAnd_m5, bitAnd_m6, bitAnd_m7, bitAnd_m8, bitAnd_m16, CDiv, toNat_mul, map_snoc, map_cat, map_setV, List.length_set, absI_eq, Bool.and_self, tAugS, rGetL, iZipS, cutV_take1, cutV_drop1, tPar, rLenSc, rIxSc, iRng2, rSumS, rSlTS, cutV_take3, rEqC, rNeC, tTrL, iEnumL, rInI, rIndexI, tDGet, tDIn, tDNotIn, sDPut, iEnumS, tDc_eq, eq_self, rEqTK, rNeSK, rIsiTK, iRevS, iZipTS, rInLC, rNotInLC, rNotInTC, rRepL, tJoinC, tDGet2, tDNewTS, tDSetdT, tCallS, rIsB, rNotB, rIsE1, rAllS, rAnyS, tLstRev, tTupRevS, rCatTS, rInsert, kb11, kb12, kb13, kb14, kb15, kb16, kb17, kb18, kb19, kb20, kb21, kb22, kb23, kb24, kb25, kb26, kb27, kb28, kb29, kb30, $[$xs:term],*, $[(tyL_eq $ys)],*, $[(sqL_eq $ys)],*])
    | "g" :: fs => do
      let xs := ids fs
      `(tactic| simp only [gTupS, gCons, gNil, gName, HO.tup.injEq, Option.some.injEq, exists_eq_left', exists_eq_left, exists_eq', exists_eq, V.ref.injEq, List.cons.injEq, and_assoc, exists_and_left, exists_and_right, true_and, and_true, List.length_cons, List.length_nil, Nat.reduceAdd, List.set_cons_zero, List.set_cons_succ, $[$xs:term],*])
    | "c" :: sn :: gs => do
      let s1 := mkIdent sn.toName
      let mut out ← `(tactic| skip)
      for g in gs do
        let i := mkIdent g.toName
        out ← `(tactic| ($out; replace $i := $s1 _ _ $i))
      return out
    | "n" :: sn :: suf :: gs => do
      let s1 := mkIdent sn.toName
      let mut out ← `(tactic| skip)
      for g in gs do
        let i := mkIdent g.toName
        let j := mkIdent (g ++ suf).toName
        out ← `(tactic| ($out; have $j := $s1 _ _ $i))
      return out
    | "b" :: bn :: suf :: gs => do
      let s1 := mkIdent bn.toName
      let mut out ← `(tactic| skip)
      for g in gs do
        let i := mkIdent g.toName
        let j := mkIdent (g ++ suf).toName
        let n := mkIdent ("ne_" ++ g).toName
        out ← `(tactic| ($out; have $j := $s1 _ _ $n $i))
      return out
    | _ => Macro.throwUnsupported

section
variable {P : Program} {w : World} {K : PySem.W.Frag} {mg : Str → Option Value} {base : Heap}

theorem foldl_take {α β : Type} (f : β → α → β) (s : β) {l : List α} {i : Nat} {x : α} (h : l[i]? = some x) : (l.take (i + 1)).foldl f s = f ((l.take i).foldl f s) x := by
  rw [List.take_add_one, h, List.foldl_append]
  simp only [Option.toList_some, List.foldl_cons, List.foldl_nil]
theorem take_succ {α : Type} {l : List α} {i : Nat} {x : α} (h : l[i]? = some x) : l.take (i + 1) = l.take i ++ [x] := by
  rw [List.take_add_one, h]
  rfl
theorem take_map_succ {α β : Type} (f : α → β) {l : List α} {i : Nat} {x : α} (h : l[i]? = some x) : (l.map f).take (i + 1) = (l.map f).take i ++ [f x] := take_succ (by rw [List.getElem?_map, h]; rfl)
theorem take_lt {α : Type} (l : List α) (i : Nat) {n : Nat} (h : l.length < n) : (l.take i).length < n := Nat.lt_of_le_of_lt (by rw [List.length_take]; exact Nat.min_le_right _ _) h
def YTup (ns : List Int) : Nat → Hp → V → Hp → Prop := fun i H v H' => H' = H ∧ ∃ b, ns[i]? = some b ∧ v = .int b
theorem walkTI {K : PySem.W.Frag} {a : Addr} {ns : List Int} : Walk (Itt K a) ns.length (fun H => H a = some (.tup (List.map V.int ns))) (YTup ns) := by
  have w := walkT (K := K) (a := a) (xs := List.map V.int ns)
  rw [List.length_map] at w
  refine w.mono (fun _ h => h) fun i H x H' _ _ y => ⟨y.1, ?_⟩
  have h := y.2
  rw [List.getElem?_map] at h
  obtain ⟨b, h1, rfl⟩ := Option.map_eq_some_iff.mp h
  exact ⟨b, h1, rfl⟩
theorem foldl_len {α : Type} {f : List Int → α → List Int} (h : ∀ p c, (f p c).length = p.length) : ∀ (l : List α) (p : List Int), (l.foldl f p).length = p.length
  | [], _ => rfl
  | c :: r, p => by rw [List.foldl_cons, foldl_len h r, h]
theorem ix_in {r c w h : Nat} (hr : r < h) (hc : c < w) : r * w + c < w * h := by
  have h1 : r * w + w ≤ h * w := by rw [← Nat.succ_mul]; exact Nat.mul_le_mul_right w hr
  rw [Nat.mul_comm w h]
  omega
theorem map_set (l : List Int) (i : Nat) (v : Int) : (List.map V.int l).set i (.int v) = List.map V.int (l.set i v) := by rw [List.map_set]
theorem div_in {a d : Int} {n : Nat} (h0 : 0 ≤ a) (h1 : a < d) (hn : 1 ≤ n) : 0 ≤ a * n / d ∧ a * n / d < n := by
  refine ⟨Int.ediv_nonneg (Int.mul_nonneg h0 (by omega)) (by omega), Int.ediv_lt_of_lt_mul (by omega) ?_⟩
  rw [Int.mul_comm (n : Int) d]
  exact Int.mul_lt_mul_of_pos_right h1 (by omega)
theorem foldl_ext' {α β : Type} {f g : α → β → α} {l : List β} : ∀ {a : α}, (∀ a, ∀ b ∈ l, f a b = g a b) → l.foldl f a = l.foldl g a := by
  induction l with
  | nil => exact fun _ => rfl
  | cons x r ih => exact fun {a} h => by rw [List.foldl_cons, List.foldl_cons, h a x List.mem_cons_self]; exact ih fun a b hb => h a b (List.mem_cons_of_mem _ hb)
theorem gN_ge {src : List Int} (h : ∀ v ∈ src, -1 ≤ v) (i : Nat) : -1 ≤ gN src i := by
  unfold gN
  rw [List.getD_eq_getElem?_getD]
  cases e : src[i]? with
  | none => decide
  | some b => exact h b (List.mem_of_getElem? e)
theorem cnt_lt {n : Nat} (h : n ≤ 2000000) : n < sizeLine := Nat.lt_of_le_of_lt h (by decide)
theorem cnt_le {n : Nat} (h : n ≤ 2000000) : n ≤ sizeLine := Nat.le_of_lt (cnt_lt h)
theorem cnt_leL {n : Nat} (h : n ≤ 10000000) : n ≤ sizeLine := Nat.le_trans h (by decide)

/-! ### bounds, middles, the middles within -/
theorem Qi {Q : VK} {H : Hp} {a b : Int} (e : a = b) (q : Q (.int a) H) : Q (.int b) H := e ▸ q
def bd (x : Int) : Int := if x < -1048576 then -1048576 else if 1048576 < x then 1048576 else x
theorem bd_in (x : Int) : -1048576 ≤ bd x ∧ bd x ≤ 1048576 := by
  unfold bd
  repeat' split
  all_goals omega
def sp_bounded (K : PySem.W.Frag) : Sp := fun vs H Q _ => ∃ (x : Int), vs = [.int x] ∧ (Q (.int (bd x)) H)
theorem ok_bounded (T : Txt K mg) : FnOk P w K mg base CX0 1 T.f_bounded T.fd_bounded ["number"] (sp_bounded K) := by
  refine T.F_bounded.ok sc_bounded (fun vs H Q E h => ?_) (fun cdv A outer s H vs Q E hr h => ?_)
  · obtain ⟨x, rfl, _⟩ := h
    rfl
  · obtain ⟨x, rfl, q⟩ := h
    refine ⟨_, (pss_one (ps_ret (pe_callB (call_min2 rfl) (by rfl) T.z_min (by decide +kernel) (pa_cons (pe_callB (call_max2 rfl) (by rfl) T.z_max (by decide +kernel) (pa_cons (pv 0) (pa_cons (pe_un un_neg (pe_glob (v := .int 1048576) (by rfl) T.c__FARTHEST ⟨_, rfl⟩)) pa_nil))) (pa_cons (pe_glob (v := .int 1048576) (by rfl) T.c__FARTHEST ⟨_, rfl⟩) pa_nil))))), ?_⟩
    walk_at "vc"
    refine Qi ?_ q
    unfold bd mn mx
    repeat' split
    all_goals omega
def sp_middle (K : PySem.W.Frag) : Sp := fun vs H Q _ => ∃ (x : Int), vs = [.int x] ∧ (Q (.int (4 * x + 2)) H)
theorem ok_middle (T : Txt K mg) : FnOk P w K mg base CX0 1 T.f_middle T.fd_middle ["at"] (sp_middle K) := by
  refine T.F_middle.ok sc_middle (fun vs H Q E h => ?_) (fun cdv A outer s H vs Q E hr h => ?_)
  · obtain ⟨x, rfl, _⟩ := h
    rfl
  · obtain ⟨x, rfl, q⟩ := h
    refine ⟨_, (pss_one (ps_ret (pe_op op_add (pe_op op_mul pe_int (pv 0)) pe_int))), ?_⟩
    walk_at "vc"
    exact q
def natV (l : List Nat) : List V := l.map fun (n : Nat) => V.int (n : Int)
def YNat (l : List Nat) : Nat → Hp → V → Hp → Prop := fun i H v H' => H' = H ∧ ∃ b, l[i]? = some b ∧ v = .int (b : Int)
theorem walkN {K : PySem.W.Frag} {a : Addr} {l : List Nat} : Walk (Itl K a) l.length (fun H => H a = some (.lst (natV l))) (YNat l) := by
  have w := walkL (K := K) (a := a) (xs := natV l)
  unfold natV at w ⊢
  rw [List.length_map] at w
  refine w.mono (fun _ h => h) fun i H x H' _ _ y => ⟨y.1, ?_⟩
  have h := y.2
  rw [List.getElem?_map] at h
  obtain ⟨b, h1, rfl⟩ := Option.map_eq_some_iff.mp h
  exact ⟨b, h1, rfl⟩
def inW (b e : Int) (i : Nat) : Prop := b ≤ 4 * (i : Int) + 2 ∧ 4 * (i : Int) + 2 < e
instance (b e : Int) (i : Nat) : Decidable (inW b e i) := inferInstanceAs (Decidable (_ ∧ _))
def wi (b e : Int) (n : Nat) : List Nat := (List.range n).filter fun i => decide (inW b e i)
theorem wi_succ (b e : Int) (i : Nat) : wi b e (i + 1) = wi b e i ++ if inW b e i then [i] else [] := by
  unfold wi
  rw [List.range_succ, List.filter_append]
  congr 1
  by_cases h : inW b e i <;> simp [h]
theorem wi_len (b e : Int) (n : Nat) : (wi b e n).length ≤ n := Nat.le_trans (List.length_filter_le _ _) (by rw [List.length_range]; exact Nat.le_refl _)
theorem wi_at {b e : Int} {n i k : Nat} (h : (wi b e n)[i]? = some k) : k < n ∧ inW b e k := by
  have := List.mem_filter.mp (List.mem_of_getElem? h)
  exact ⟨List.mem_range.mp this.1, of_decide_eq_true this.2⟩
def sp__within (K : PySem.W.Frag) : Sp := fun vs H Q _ => ∃ (b e : Int) (n : Nat), vs = [.int b, .int e, .int (n : Int)] ∧ (n ≤ 1000) ∧ (∀ H' p, Same H H' → H p = none → H' p = some (.lst (natV (wi b e n))) → Q (.ref p) H')
theorem ok__within (T : Txt K mg) : FnOk P w K mg base CX0 2 T.f__within T.fd__within ["begin", "end", "count"] (sp__within K) := by
  refine T.F__within.ok sc__within (fun vs H Q E h => ?_) (fun cdv A outer s H vs Q E hr h => ?_)
  · obtain ⟨b, e, n, rfl, _⟩ := h
    rfl
  · obtain ⟨b, e, n, rfl, hn, q⟩ := h
    refine ⟨_, (pss_one (ps_ret (pe_lc (own := [("at", 3)]) (g := (gName 3)) rfl sc__within.nd (pi_range1 (by rfl) T.z_range (pa_cons (pv 2) pa_nil)) (blkOk_by (own := [("at", 3)]) (N := ["begin", "end", "count", "at"]) (sc := defScope s__within) (by decide +kernel)) (fun _ _ _ _ _ => (pg_name (i := 3) sc__within.nd rfl (Or.inl rfl))) (fun _ _ _ _ _ => (pts_one (pt_chain op_le op_lt (pv 0) (pe_call (ok_middle T) hr (by rfl) T.g_middle T.F_middle.kp T.b_middle .nil pass0 (pa_cons (pv 3) pa_nil)) (pv 1)))) (fun _ _ _ _ _ => (pv 3))))), ?_⟩
    walk_at "vc"
    refine ⟨by omega, by omega, lcL walkR (L := fun i => natV (wi b e i)) rfl (fun _ _ => True.intro) (fun D i x H1 H2 hi hD s1 g1 y => ?_) (fun D H1 s1 hD g1 => q _ D s1 hD g1)⟩
    obtain ⟨rfl, rfl⟩ := y
    have hsz : (wi b e i).length < sizeLine := Nat.lt_of_le_of_lt (wi_len b e i) (Nat.lt_of_lt_of_le (show i < 1000 by omega) (by decide))
    have e1 : natV (wi b e (i + 1)) = natV (wi b e i) ++ if inW b e i then [V.int (i : Int)] else [] := by
      rw [wi_succ]
      unfold natV
      rw [List.map_append]
      congr 1
      split <;> rfl
    have hlen : (natV (wi b e i)).length < sizeLine := by unfold natV; rw [List.length_map]; exact hsz
    rw [e1]
    walk_at "vc sp_middle g1"
    refine iteP (fun h1 => iteP (fun h2 => ?_) (fun h2 => ?_)) (fun h1 => ?_)
    · rw [if_pos (show inW b e i from ⟨h1, h2⟩)]
      exact ⟨hlen, same_upd2 s1 hD, rfl⟩
    · rw [if_neg (fun z : inW b e i => h2 z.2), List.append_nil]
      exact ⟨s1, rfl⟩
    · rw [if_neg (fun z : inW b e i => h1 z.1), List.append_nil]
      exact ⟨s1, rfl⟩

/-! ### points and outlines on the heap -/
abbrev Pt := Int × Int
abbrev Edge := Int × Int × Int × Int
def PtV (H : Hp) (v : V) (p : Pt) : Prop := ∃ a, v = .ref a ∧ H a = some (.tup [.int p.1, .int p.2])
def OutV (H : Hp) (v : V) (ps : List Pt) : Prop := ∃ a vs, v = .ref a ∧ H a = some (.tup vs) ∧ All2 (PtV H) vs ps
def EdV (H : Hp) (v : V) (e : Edge) : Prop := ∃ a, v = .ref a ∧ H a = some (.tup [.int e.1, .int e.2.1, .int e.2.2.1, .int e.2.2.2])
def Outs (H : Hp) (a : Addr) (os : List (List Pt)) : Prop := ∃ vs, H a = some (.tup vs) ∧ All2 (OutV H) vs os
def Eds (H : Hp) (a : Addr) (es : List Edge) : Prop := ∃ vs, H a = some (.lst vs) ∧ All2 (EdV H) vs es
theorem PtV.mono {H H' : Hp} (s : Same H H') (v : V) (p : Pt) (h : PtV H v p) : PtV H' v p := by
  obtain ⟨a, e, g⟩ := h
  exact ⟨a, e, s _ _ g⟩
theorem OutV.mono {H H' : Hp} (s : Same H H') (v : V) (p : List Pt) (h : OutV H v p) : OutV H' v p := by
  obtain ⟨a, vs, e, g, k⟩ := h
  exact ⟨a, vs, e, s _ _ g, k.mono (PtV.mono s)⟩
theorem EdV.mono {H H' : Hp} (s : Same H H') (v : V) (p : Edge) (h : EdV H v p) : EdV H' v p := by
  obtain ⟨a, e, g⟩ := h
  exact ⟨a, e, s _ _ g⟩
theorem Outs.mono {H H' : Hp} (s : Same H H') {a : Addr} {os : List (List Pt)} (h : Outs H a os) : Outs H' a os := by
  obtain ⟨vs, g, k⟩ := h
  exact ⟨vs, s _ _ g, k.mono (OutV.mono s)⟩
theorem Eds.mono {H H' : Hp} (s : Same H H') {a : Addr} {es : List Edge} (h : Eds H a es) : Eds H' a es := by
  obtain ⟨vs, g, k⟩ := h
  exact ⟨vs, s _ _ g, k.mono (EdV.mono s)⟩
theorem PtV.upd {H : Hp} {l : Addr} {ys : List V} {o : HO} (g : H l = some (.lst ys)) (v : V) (p : Pt) (h : PtV H v p) : PtV (upd H l o) v p := by
  obtain ⟨a, e, k⟩ := h
  exact ⟨a, e, tup_upd k g⟩
theorem PtV.but {H H' : Hp} {l : Addr} {ys : List V} (bt : But l H H') (g : H l = some (.lst ys)) (v : V) (p : Pt) (h : PtV H v p) : PtV H' v p := by
  obtain ⟨a, e, k⟩ := h
  exact ⟨a, e, tup_but bt k g⟩
theorem EdV.upd {H : Hp} {l : Addr} {ys : List V} {o : HO} (g : H l = some (.lst ys)) (v : V) (p : Edge) (h : EdV H v p) : EdV (upd H l o) v p := by
  obtain ⟨a, e, k⟩ := h
  exact ⟨a, e, tup_upd k g⟩
theorem EdV.but {H H' : Hp} {l : Addr} {ys : List V} (bt : But l H H') (g : H l = some (.lst ys)) (v : V) (p : Edge) (h : EdV H v p) : EdV H' v p := by
  obtain ⟨a, e, k⟩ := h
  exact ⟨a, e, tup_but bt k g⟩
theorem OutV.upd {H : Hp} {l : Addr} {ys : List V} {o : HO} (g : H l = some (.lst ys)) (v : V) (ps : List Pt) (h : OutV H v ps) : OutV (upd H l o) v ps := by
  obtain ⟨a, vs, e, k, z⟩ := h
  exact ⟨a, vs, e, tup_upd k g, z.mono (PtV.upd g)⟩
theorem OutV.but {H H' : Hp} {l : Addr} {ys : List V} (bt : But l H H') (g : H l = some (.lst ys)) (v : V) (p : List Pt) (h : OutV H v p) : OutV H' v p := by
  obtain ⟨a, vs, e, k, z⟩ := h
  exact ⟨a, vs, e, tup_but bt k g, z.mono (PtV.but bt g)⟩
theorem Outs.but {H H' : Hp} {l a : Addr} {ys : List V} {os : List (List Pt)} (h : Outs H a os) (bt : But l H H') (g : H l = some (.lst ys)) : Outs H' a os := by
  obtain ⟨vs, k, z⟩ := h
  exact ⟨vs, tup_but bt k g, z.mono (OutV.but bt g)⟩
def bdp (p : Pt) : Pt := (bd p.1, bd p.2)
def rot {α : Type} (l : List α) : List α := l.drop 1 ++ l.take 1
def mkE (p q : Pt) : Option Edge := if p.2 < q.2 then some (p.1, p.2, q.1, q.2) else if q.2 < p.2 then some (q.1, q.2, p.1, p.2) else none
def edgesOf (ps : List Pt) : List Edge := ((ps.map bdp).zip (rot (ps.map bdp))).filterMap fun x => mkE x.1 x.2
def edgesAll (os : List (List Pt)) : List Edge := os.flatMap edgesOf
theorem edgesOf_len (ps : List Pt) : (edgesOf ps).length ≤ ps.length := by
  refine Nat.le_trans (List.length_filterMap_le _ _) ?_
  rw [List.length_zip, List.length_map]
  exact Nat.min_le_left _ _
theorem edgesAll_len : ∀ os : List (List Pt), (∀ ps ∈ os, ps.length ≤ 1000) → (edgesAll os).length ≤ os.length * 1000
  | [], _ => Nat.zero_le _
  | ps :: r, h => by
    have h1 := edgesOf_len ps
    have h2 := h ps List.mem_cons_self
    have h3 := edgesAll_len r fun x hx => h x (List.mem_cons_of_mem _ hx)
    unfold edgesAll at h3 ⊢
    rw [List.flatMap_cons, List.length_append, List.length_cons, Nat.succ_mul]
    omega
theorem edgesAll_take {os : List (List Pt)} {i : Nat} {ps : List Pt} (h : os[i]? = some ps) : edgesAll (os.take (i + 1)) = edgesAll (os.take i) ++ edgesOf ps := by
  unfold edgesAll
  rw [take_succ h, List.flatMap_append, List.flatMap_cons, List.flatMap_nil, List.append_nil]
theorem Eds.put {H H' : Hp} {p0 : Addr} {es : List V} {l : List Edge} {e : Edge} {v : V} (ge : H p0 = some (.lst es)) (he : All2 (EdV H) es l) (hv : EdV H v e) (h : H' = upd H p0 (.lst (es ++ [v]))) : Eds H' p0 (l ++ [e]) := by
  subst h
  exact ⟨_, upd_same, (he.mono (EdV.upd ge)).snoc (EdV.upd ge _ _ hv)⟩
def sp__edges (K : PySem.W.Frag) : Sp := fun vs H Q _ => ∃ (aO : Addr) (os : List (List Pt)), vs = [.ref aO] ∧ (Outs H aO os) ∧ (os.length ≤ 1000 ∧ ∀ ps ∈ os, ps.length ≤ 1000) ∧ (∀ H' p, Same H H' → H p = none → Eds H' p (edgesAll os) → Q (.ref p) H')
theorem ok__edges (T : Txt K mg) : FnOk P w K mg base CX0 2 T.f__edges T.fd__edges ["outlines"] (sp__edges K) := by
  refine T.F__edges.ok sc__edges (fun vs H Q E h => ?_) (fun cdv A outer s H vs Q E hr h => ?_)
  · obtain ⟨aO, os, rfl, _⟩ := h
    rfl
  · obtain ⟨aO, os, rfl, hO, hn, q⟩ := h
    refine ⟨_, (pss_cons (ps_set (i := 1) sc__edges.nd rfl (Or.inl rfl) (pe_lstS pa_nil))
      (pss_cons (ps_for PassesOwn.never rfl (pi_tupS (pv 0)) (pg_name (i := 2) sc__edges.nd rfl (Or.inl rfl)) (pss_cons (ps_setLc (i := 3) (own := [("x", 4), ("y", 5)]) (g := _) rfl sc__edges.nd rfl rfl (sw_true rfl rfl rfl (by decide +kernel)) (pi_tupS (pv 2)) (blkOk_by (own := [("x", 4), ("y", 5)]) (N := ["outlines", "edges", "points", "ends", "x", "y", "x0", "y0", "x1", "y1"]) (sc := defScope s__edges) (by decide +kernel)) (fun _ _ _ _ _ => (pg_tupS (n := 2) (by rfl) (pgs_cons (pg_name (i := 4) sc__edges.nd rfl (Or.inl rfl)) (pgs_cons (pg_name (i := 5) sc__edges.nd rfl (Or.inl rfl)) pgs_nil)))) (fun _ _ _ _ _ => pts_nil) (fun _ _ _ _ _ => (pe_tupS (pa_cons (pe_call (ok_bounded T) hr (by rfl) T.g_bounded T.F_bounded.kp T.b_bounded .nil pass0 (pa_cons (pv 4) pa_nil)) (pa_cons (pe_call (ok_bounded T) hr (by rfl) T.g_bounded T.F_bounded.kp T.b_bounded .nil pass0 (pa_cons (pv 5) pa_nil)) pa_nil)))))
      (pss_one (ps_for PassesOwn.never rfl (pi_zipS (by rfl) T.z_zip (pa_cons (pv 3) (pa_cons (pe_op op_catS (pe_slice sl_listS (pv 3) (po_some pe_int) po_none) (pe_slice sl_listS (pv 3) po_none (po_some pe_int))) pa_nil))) (pg_tupS (n := 2) (by rfl) (pgs_cons (pg_tupS (n := 2) (by rfl) (pgs_cons (pg_name (i := 6) sc__edges.nd rfl (Or.inl rfl)) (pgs_cons (pg_name (i := 7) sc__edges.nd rfl (Or.inl rfl)) pgs_nil))) (pgs_cons (pg_tupS (n := 2) (by rfl) (pgs_cons (pg_name (i := 8) sc__edges.nd rfl (Or.inl rfl)) (pgs_cons (pg_name (i := 9) sc__edges.nd rfl (Or.inl rfl)) pgs_nil))) pgs_nil))) (pss_one (ps_if (pt_cmpR op_lt (pv 7) (pv 9) (nomark _)) (pss_one (ps_expr (pe_ml (pe_bm PySem.F.plainAttrs_list PySem.F.slot_list_append PySem.F.type_list_append mt_append (pe_mono (pv 1)) (pa_cons (pe_tupS (pa_cons (pv 6) (pa_cons (pv 7) (pa_cons (pv 8) (pa_cons (pv 9) pa_nil))))) pa_nil))))) (pss_one (ps_if (pt_cmpR op_gt (pv 7) (pv 9) (nomark _)) (pss_one (ps_expr (pe_ml (pe_bm PySem.F.plainAttrs_list PySem.F.slot_list_append PySem.F.type_list_append mt_append (pe_mono (pv 1)) (pa_cons (pe_tupS (pa_cons (pv 8) (pa_cons (pv 9) (pa_cons (pv 6) (pa_cons (pv 7) pa_nil))))) pa_nil))))) pss_nil))))))))
      (pss_one (ps_ret (pv 1))))), ?_⟩
    obtain ⟨ws, gO, hO⟩ := hO
    walk_at "vc gO"
    intro p0 H1 s1 n1 g1
    walk_at "n s1 1 gO"
    walk_at "vc gO1"
    refine lpW (walkT (xs := ws)) (fun i σ H' => ∃ (v2 v3 v4 v5 v6 v7 v8 v9 : Option V), σ = [some (.ref aO), some (.ref p0), v2, v3, v4, v5, v6, v7, v8, v9] ∧ Same H H' ∧ Eds H' p0 (edgesAll (os.take i))) ⟨_, _, _, _, _, _, _, _, rfl, s1, [], g1, .nil⟩ ?_ ?_ ?_
    · rintro i σ H' _ ⟨_, _, _, _, _, _, _, _, _, sm, _⟩
      exact sm _ _ gO
    · rintro i x σ H' H2 hi ⟨v2, v3, v4, v5, v6, v7, v8, v9, rfl, sm, es, ge, he⟩ ⟨rfl, hx⟩
      obtain ⟨ps, hps, ap, vs, rfl, gp, hp⟩ := hO.at hx
      have gp2 := sm _ _ gp
      have hpn : vs.length ≤ 1000 := by rw [hp.len]; exact hn.2 _ (List.mem_of_getElem? hps)
      walk_at "vc gp2"
      refine lcW (walkT (xs := vs)) (fun D j H3 => Same H2 H3 ∧ ∃ us, H3 D = some (.lst us) ∧ All2 (PtV H3) us ((ps.map bdp).take j)) (fun D H3 s3 n3 g3 => ⟨s3, [], g3, .nil⟩) (fun D j H3 _ _ h => h.1 _ _ gp2) (fun D j y H3 H4 hj n3 h y4 => ?_) (fun D H3 n3 h => ?_)
      · obtain ⟨rfl, hy⟩ := y4
        obtain ⟨s3, us, gu, hu⟩ := h
        obtain ⟨pt, hpt, aq, rfl, gq⟩ := hp.at hy
        have gq4 := s3 _ _ (sm _ _ gq)
        walk_at "vc gq4 sp_bounded"
        intro t H5 s5 n5 g5
        have gu5 := s5 _ _ gu
        have hul : us.length = j := by
          rw [hu.len, List.length_take, List.length_map, ← hp.len]
          omega
        walk_at "vc gu5"
        refine ⟨Nat.lt_of_lt_of_le (show us.length < 1001 by omega) (by decide), same_upd2 (s3.trans s5) n3, ?_⟩
        rw [take_map_succ bdp hpt]
        exact (hu.mono (fun v p h => (PtV.mono s5 v p h).upd gu5)).snoc ⟨t, rfl, tup_upd g5 gu5⟩
      obtain ⟨s3, us, gu, hu⟩ := h
      rw [hp.len, show ps.length = (ps.map bdp).length by rw [List.length_map], List.take_length] at hu
      walk_at "vc gu"
      intro c1 H5 s5 n5 g5
      have gu5 := s5 _ _ gu
      walk_at "vc gu5"
      intro c2 H6 s6 n6 g6
      have g56 := s6 _ _ g5
      walk_at "vc g56 g6"
      have hul : us.length = ps.length := by rw [hu.len, List.length_map]
      refine ⟨Nat.le_trans (show (us.drop 1).length + (us.take 1).length ≤ 2000 by rw [List.length_drop, List.length_take]; rw [hul, ← hp.len]; omega) (by decide), fun c3 H7 s7 n7 g7 => ?_⟩
      have gu7 := s7 _ _ (s6 _ _ gu5)
      walk_at "vc gu7 g7"
      have hu7 := hu.mono (PtV.mono ((s5.trans s6).trans s7))
      have hr7 : All2 (PtV H7) (us.drop 1 ++ us.take 1) (rot (ps.map bdp)) := (hu7.drop 1).app (hu7.take 1)
      have s27 := ((s3.trans s5).trans s6).trans s7
      have hnr : (us.drop 1 ++ us.take 1).length = us.length := by rw [List.length_append, List.length_drop, List.length_take]; omega
      have hb := edgesAll_len (os.take i) fun x hx => hn.2 x (List.mem_of_mem_take hx)
      rw [List.length_take] at hb
      have hio : i < 1000 := by have := hO.len; omega
      have ge7 := s27 _ _ ge
      rw [edgesAll_take hps]
      have ne_gu7 : D ≠ p0 := (ne_of_none ge n3).symm
      have ne_g7 : c3 ≠ p0 := (ne_of_none (((s3.trans s5).trans s6) _ _ ge) n7).symm
      refine lpW (walkZ (xs := us) (ys := us.drop 1 ++ us.take 1) (n := us.length) (by rw [hnr, Nat.min_self])) (fun j σ H' => ∃ (v4 v5 v6 v7 v8 v9 : Option V), σ = [some (.ref aO), some (.ref p0), some (.ref ap), some (.ref D), v4, v5, v6, v7, v8, v9] ∧ But p0 H7 H' ∧
        Eds H' p0 (edgesAll (os.take i) ++ (((ps.map bdp).zip (rot (ps.map bdp))).take j).filterMap fun x => mkE x.1 x.2)) ⟨_, _, _, _, _, _, rfl, But.refl _ _, es, ge7, by rw [List.take_zero, List.filterMap_nil, List.append_nil]; exact he.mono (EdV.mono s27)⟩ ?_ ?_ ?_
      · rintro j σ H' _ ⟨_, _, _, _, _, _, _, bt, _⟩
        exact ⟨bt _ _ ne_gu7 gu7, bt _ _ ne_g7 g7⟩
      · rintro j x σ H' H8 hj ⟨v4, v5, v6, v7, v8, v9, rfl, bt, es', ge', he'⟩ ⟨T, x1, x2, rfl, nT, rfl, hx1, hx2⟩
        obtain ⟨q1, hq1, a1, rfl, ga1⟩ := hu7.at hx1
        obtain ⟨q2, hq2, a2, rfl, ga2⟩ := hr7.at hx2
        have s8 := same_upd nT (o := .tup [.ref a1, .ref a2])
        have ga1' := s8 _ _ (tup_but bt ga1 ge7)
        have ga2' := s8 _ _ (tup_but bt ga2 ge7)
        have gT : upd H' T (.tup [.ref a1, .ref a2]) T = some (.tup [.ref a1, .ref a2]) := upd_same
        have ge8 := s8 _ _ ge'
        have he8 := he'.mono (EdV.mono s8)
        have bt8 := bt.trans (But.ofSame s8)
        generalize upd H' T (.tup [.ref a1, .ref a2]) = H8 at s8 ga1' ga2' gT ge8 he8 bt8 ⊢
        have hz : ((ps.map bdp).zip (rot (ps.map bdp)))[j]? = some (q1, q2) := by rw [List.getElem?_zip_eq_some]; exact ⟨hq1, hq2⟩
        rw [take_succ hz, List.filterMap_append, ← List.append_assoc]
        have hlen : es'.length < 2000000 := by
          rw [he'.len, List.length_append]
          have := List.length_filterMap_le (fun x : Pt × Pt => mkE x.1 x.2) (((ps.map bdp).zip (rot (ps.map bdp))).take j)
          rw [List.length_take] at this
          have hpl := hp.len
          omega
        have hsz : es'.length < sizeLine := Nat.lt_trans hlen (by decide)
        walk_at "vc gT ga1' ga2' ge8"
        refine iteP (fun c1 => ?_) (fun c1 => ?_)
        · intro t H9 s9 n9 g9
          have ge9 := s9 _ _ ge8
          walk_at "vc ge9"
          refine ⟨hsz, (bt8.trans (But.ofSame s9)).put, ?_⟩
          rw [show List.filterMap (fun x : Pt × Pt => mkE x.1 x.2) [(q1, q2)] = [(q1.1, q1.2, q2.1, q2.2)] by simp [mkE, c1]]
          exact Eds.put ge9 (he8.mono (EdV.mono s9)) ⟨t, rfl, g9⟩ rfl
        · refine iteP (fun c2 => ?_) (fun c2 => ?_)
          · intro t H9 s9 n9 g9
            have ge9 := s9 _ _ ge8
            walk_at "vc ge9"
            refine ⟨hsz, (bt8.trans (But.ofSame s9)).put, ?_⟩
            rw [show List.filterMap (fun x : Pt × Pt => mkE x.1 x.2) [(q1, q2)] = [(q2.1, q2.2, q1.1, q1.2)] by simp [mkE, c1, c2]]
            exact Eds.put ge9 (he8.mono (EdV.mono s9)) ⟨t, rfl, g9⟩ rfl
          · refine ⟨bt8, ?_⟩
            rw [show List.filterMap (fun x : Pt × Pt => mkE x.1 x.2) [(q1, q2)] = [] by simp [mkE, c1, c2], List.append_nil]
            exact ⟨es', ge8, he8⟩
      · rintro σ H' ⟨v4, v5, v6, v7, v8, v9, rfl, bt, he'⟩
        refine ⟨⟨_, _, _, _, _, _, _, _, rfl⟩, But.same (sm.trans s27) bt n1, ?_⟩
        rw [List.take_of_length_le (l := (ps.map bdp).zip (rot (ps.map bdp))) (by rw [List.length_zip, List.length_map, hul]; exact Nat.min_le_left _ _)] at he'
        exact he'
    · rintro σ H' ⟨v2, v3, v4, v5, v6, v7, v8, v9, rfl, sm, he⟩
      walk_at "vc"
      rw [hO.len, List.take_length] at he
      exact q _ p0 sm n1 he
/-! ### a row of cells -/
def hitE (y : Int) (e : Edge) : Bool := decide (e.2.1 ≤ y ∧ y < e.2.2.2)
def fcE (y : Int) (w : Nat) (e : Edge) : Int :=
  mn (mx (-((2 * (e.2.2.2 - e.2.1) - (e.1 * (e.2.2.2 - e.2.1) + (y - e.2.1) * (e.2.2.1 - e.1))) / (4 * (e.2.2.2 - e.2.1)))) 0) w
def EdOk (e : Edge) : Prop := (-1048576 ≤ e.1 ∧ e.1 ≤ 1048576) ∧ (-1048576 ≤ e.2.1 ∧ e.2.1 ≤ 1048576) ∧ (-1048576 ≤ e.2.2.1 ∧ e.2.2.1 ≤ 1048576) ∧ (-1048576 ≤ e.2.2.2 ∧ e.2.2.2 ≤ 1048576)
def sp__first_column (K : PySem.W.Frag) : Sp := fun vs H Q _ => ∃ (a : Addr) (e : Edge) (y : Int) (w : Nat), vs = [.ref a, .int y, .int (w : Int)] ∧ (H a = some (.tup [.int e.1, .int e.2.1, .int e.2.2.1, .int e.2.2.2])) ∧ (hitE y e = true) ∧ (EdOk e) ∧ (Q (.int (fcE y w e)) H)
theorem ok__first_column (T : Txt K mg) : FnOk P w K mg base CX0 1 T.f__first_column T.fd__first_column ["edge", "y", "width"] (sp__first_column K) := by
  refine T.F__first_column.ok sc__first_column (fun vs H Q E h => ?_) (fun cdv A outer s H vs Q E hr h => ?_)
  · obtain ⟨a, e, y, w, rfl, _⟩ := h
    rfl
  · obtain ⟨a, e, y, w, rfl, ha, hh, ho, q⟩ := h
    refine ⟨_, (pss_cons (ps_asg (pv 0) (pg_tupS (n := 4) (by rfl) (pgs_cons (pg_name (i := 3) sc__first_column.nd rfl (Or.inl rfl)) (pgs_cons (pg_name (i := 4) sc__first_column.nd rfl (Or.inl rfl)) (pgs_cons (pg_name (i := 5) sc__first_column.nd rfl (Or.inl rfl)) (pgs_cons (pg_name (i := 6) sc__first_column.nd rfl (Or.inl rfl)) pgs_nil))))))
      (pss_cons (ps_set (i := 7) sc__first_column.nd rfl (Or.inl rfl) (pe_op op_sub (pv 6) (pv 4)))
      (pss_cons (ps_set (i := 8) sc__first_column.nd rfl (Or.inl rfl) (pe_op op_add (pe_op op_mul (pv 3) (pv 7)) (pe_op op_mul (pe_op op_sub (pv 1) (pv 4)) (pe_op op_sub (pv 5) (pv 3)))))
      (pss_cons (ps_set (i := 9) sc__first_column.nd rfl (Or.inl rfl) (pe_un un_neg (pe_op op_fdiv (pe_op op_sub (pe_op op_mul pe_int (pv 7)) (pv 8)) (pe_op op_mul pe_int (pv 7)))))
      (pss_one (ps_ret (pe_callB (call_min2 rfl) (by rfl) T.z_min (by decide +kernel) (pa_cons (pe_callB (call_max2 rfl) (by rfl) T.z_max (by decide +kernel) (pa_cons (pv 9) (pa_cons pe_int pa_nil))) (pa_cons (pv 2) pa_nil))))))))), ?_⟩
    have hh := of_decide_eq_true hh
    obtain ⟨h1, h2, h3, h4⟩ := ho
    walk_at "vc ha"
    exact ⟨.inr ⟨by omega, by omega⟩, .inr ⟨by omega, by omega⟩, by omega, by omega, q⟩
theorem fcE_in (y : Int) (w : Nat) (e : Edge) : 0 ≤ fcE y w e ∧ fcE y w e ≤ w := by
  unfold fcE mn mx
  repeat' split
  all_goals omega
def parE (es : List Edge) (y : Int) (w : Nat) (c : Nat) : Bool := decide ((es.countP fun e => hitE y e && decide (fcE y w e ≤ c)) % 2 = 1)
def cntE (y : Int) (w : Nat) (j : Nat) (e : Edge) : Bool := hitE y e && decide (fcE y w e = (j : Int))
theorem cnt_succ (es : List Edge) (y : Int) (w j : Nat) : es.countP (fun e => hitE y e && decide (fcE y w e < (j : Int) + 1)) = es.countP (fun e => hitE y e && decide (fcE y w e < (j : Int))) + es.countP (cntE y w j) := by
  induction es with
  | nil => rfl
  | cons e r ih =>
    rw [List.countP_cons, List.countP_cons, List.countP_cons, ih]
    unfold cntE
    by_cases h : hitE y e = true
    · rw [h]
      by_cases h1 : fcE y w e < (j : Int)
      · simp only [Bool.true_and, decide_eq_true_eq, h1, show fcE y w e < (j : Int) + 1 by omega, show ¬ fcE y w e = (j : Int) by omega, if_true, if_false]
        omega
      · by_cases h2 : fcE y w e = (j : Int)
        · simp only [Bool.true_and, decide_eq_true_eq, h1, h2, show (j : Int) < (j : Int) + 1 by omega, show ¬ (j : Int) < (j : Int) by omega, if_true, if_false]
          omega
        · simp only [Bool.true_and, decide_eq_true_eq, h1, h2, show ¬ fcE y w e < (j : Int) + 1 by omega, if_false]
          rfl
    · simp only [Bool.not_eq_true] at h
      simp [h]
def sp__inside_row (K : PySem.W.Frag) : Sp := fun vs H Q _ => ∃ (aE : Addr) (es : List Edge) (y : Int) (w : Nat), vs = [.ref aE, .int y, .int (w : Int)] ∧ (Eds H aE es) ∧ (∀ e ∈ es, EdOk e ∧ hitE y e = true) ∧ (w ≤ 1000) ∧ (∀ H' p, Same H H' → H p = none → H' p = some (.lst ((List.range w).map fun c => V.bl (parE es y w c))) → Q (.ref p) H')
theorem ok__inside_row (T : Txt K mg) : FnOk P w K mg base CX0 2 T.f__inside_row T.fd__inside_row ["crossed", "y", "width"] (sp__inside_row K) := by
  refine T.F__inside_row.ok sc__inside_row (fun vs H Q E h => ?_) (fun cdv A outer s H vs Q E hr h => ?_)
  · obtain ⟨aE, es, y, w, rfl, _⟩ := h
    rfl
  · obtain ⟨aE, es, y, w, rfl, hE, ho, hw, q⟩ := h
    refine ⟨_, (pss_cons (ps_set (i := 3) sc__inside_row.nd rfl (Or.inl rfl) (pe_op op_repS (pe_lstS (pa_cons pe_int pa_nil)) (pe_op op_add (pv 2) pe_int)))
      (pss_cons (ps_for PassesOwn.never rfl (pi_listS (pv 0)) (pg_name (i := 4) sc__inside_row.nd rfl (Or.inl rfl)) (pss_one (ps_augS (pv 3) (pe_call (ok__first_column T) hr (by rfl) T.g__first_column T.F__first_column.kp T.b__first_column .nil pass0 (pa_cons (pv 4) (pa_cons (pv 1) (pa_cons (pv 2) pa_nil)))) pget_list pe_int ip_add set_list)))
      (pss_cons (ps_set (i := 5) sc__inside_row.nd rfl (Or.inl rfl) (pe_lstS pa_nil))
      (pss_cons (ps_set (i := 6) sc__inside_row.nd rfl (Or.inl rfl) pe_int)
      (pss_cons (ps_for PassesOwn.never rfl (pi_listS (pe_slice sl_listS (pv 3) po_none (po_some (pv 2)))) (pg_name (i := 7) sc__inside_row.nd rfl (Or.inl rfl)) (pss_cons (ps_aug (i := 6) sc__inside_row.nd rfl (Or.inl rfl) (pv 7) ip_add)
      (pss_one (ps_expr (pe_ml (pe_bm PySem.F.plainAttrs_list PySem.F.slot_list_append PySem.F.type_list_append mt_append (pe_mono (pv 5)) (pa_cons (pe_cmpR op_eq (pe_op op_and (pv 6) pe_int) pe_int (nomark _)) pa_nil)))))))
      (pss_one (ps_ret (pv 5)))))))), ?_⟩
    obtain ⟨vs, gE, hE⟩ := hE
    walk_at "vc"
    intro p1 H1 s1 n1 g1
    walk_at "vc g1"
    refine ⟨by omega, by omega, fun pB H2 s2 n2 gB => ?_⟩
    have s12 := s1.trans s2
    have nB := s1.free n2
    rw [show ((w : Int) + 1).toNat = w + 1 by omega] at gB
    walk_at "n s12 2 gE"
    walk_at "vc gE2"
    refine lpW (walkL (xs := vs)) (fun i σ H' => ∃ (v4 v5 v6 v7 : Option V) (B : List Int), σ = [some (.ref aE), some (.int y), some (.int (w : Int)), some (.ref pB), v4, v5, v6, v7] ∧ Same H H' ∧ H' pB = some (.lst (List.map V.int B)) ∧ B.length = w + 1 ∧ ∀ j, j ≤ w → B[j]? = some (((es.take i).countP (cntE y w j) : Nat) : Int)) ⟨_, _, _, _, List.replicate (w + 1) 0, rfl, s12, by rw [gB, List.map_replicate], by rw [List.length_replicate], fun j hj => by rw [List.take_zero, List.countP_nil, List.getElem?_replicate, if_pos (by omega)]; rfl⟩ ?_ ?_ ?_
    · rintro i σ H' _ ⟨_, _, _, _, _, _, sm, _⟩
      exact sm _ _ gE
    · rintro i x σ H' H3 hi ⟨v4, v5, v6, v7, B, rfl, sm, gp, hl, hB⟩ ⟨rfl, hx⟩
      obtain ⟨e, he, ae, rfl, ga⟩ := hE.at hx
      have ga3 := sm _ _ ga
      obtain ⟨hok, hit⟩ := ho e (List.mem_of_getElem? he)
      walk_at "vc"
      refine ⟨ae, e, y, w, rfl, ga3, hit, hok, ?_⟩
      obtain ⟨f0, f1⟩ := fcE_in y w e
      obtain ⟨k, hk⟩ := natOf f0
      have hkw : k ≤ w := by omega
      have hBk := hB k hkw
      have hck : cntE y w k e = true := by unfold cntE; rw [hit, hk]; simp
      rw [hk]
      walk_at "vc gp"
      refine ⟨by omega, by omega, _, by rw [List.getElem?_map, hBk]; rfl, _, rfl, k, ?_, same_upd2 sm nB, hl, fun j hj => ?_⟩
      · rw [ixN_in (by omega) (by omega)]
        rfl
      · rw [take_succ he, List.countP_append, List.countP_cons, List.countP_nil]
        by_cases hjk : j = k
        · subst hjk
          rw [List.getElem?_set_self (by omega), hck]
          rfl
        · have hcj : cntE y w j e = false := by
            unfold cntE
            rw [hk, decide_eq_false (show ¬ (k : Int) = (j : Int) by omega), Bool.and_false]
          rw [List.getElem?_set_ne (fun z => hjk z.symm), hB j hj, hcj]
          rfl
    · rintro σ H' ⟨v4, v5, v6, v7, B, rfl, sm, gp, hl, hB⟩
      rw [hE.len, List.take_length] at hB
      walk_at "vc"
      intro pI H3 s3 n3 gI
      walk_at "n s3 3 gp"
      walk_at "vc gp3"
      intro pS H4 s4 n4 gS
      rw [cutI_take] at gS
      walk_at "vc gS"
      have sI : H pI = none := sm.free n3
      have neS : pI ≠ pS := ne_of_none gI n4
      have s34 := s3.trans s4
      have hBl : (B.take w).length = w := by rw [List.length_take, hl]; omega
      refine lpW (walkI (ns := B.take w)) (fun i σ H' => ∃ (v7 : Option V), σ = [some (.ref aE), some (.int y), some (.int (w : Int)), some (.ref pB), v4, some (.ref pI), some (.int ((es.countP (fun e => hitE y e && decide (fcE y w e < (i : Int))) : Nat) : Int)), v7] ∧ Same H H' ∧ H' pS = some (.lst (List.map V.int (B.take w))) ∧
        H' pI = some (.lst ((List.range i).map fun c => V.bl (parE es y w c)))) ⟨v7, ?_, sm.trans s34, gS, s4 _ _ gI⟩ ?_ ?_ ?_
      · rw [List.countP_eq_zero.mpr]
        · rfl
        · intro e _ z
          have := (fcE_in y w e).1
          simp only [Bool.and_eq_true, decide_eq_true_eq] at z
          omega
      · rintro i σ H' _ ⟨_, _, _, g, _⟩
        exact g
      · rintro i x σ H' H5 hi ⟨v7, rfl, sm, gS, gI⟩ ⟨rfl, b, hb, rfl⟩
        rw [hBl] at hi
        rw [List.getElem?_take, if_pos hi, hB i (by omega)] at hb
        obtain rfl := Option.some.inj hb
        walk_at "vc gI"
        have hcs := cnt_succ es y w i
        refine ⟨by rw [List.length_range]; exact Nat.lt_of_lt_of_le (show i < 1001 by omega) (by decide), by rw [hcs]; omega, same_upd2 sm sI, by rw [upd_ne neS.symm]; exact gS, ?_⟩
        have e1 : (fun e => hitE y e && decide (fcE y w e ≤ (i : Int))) = fun e => hitE y e && decide (fcE y w e < (i : Int) + 1) := funext fun e => by
          congr 1
          exact decide_eq_decide.mpr (by omega)
        have ep : parE es y w i = decide ((((es.countP fun e => hitE y e && decide (fcE y w e < (i : Int))) : Int) + (es.countP (cntE y w i) : Int)) % 2 = 1) := by
          unfold parE
          rw [e1, hcs]
          exact decide_eq_decide.mpr (by omega)
        rw [List.range_succ, List.map_append, List.map_cons, List.map_nil, ep]
      · rintro σ H' ⟨v7, rfl, sm, gS, gI⟩
        rw [hBl] at gI
        walk_at "vc"
        exact q _ pI sm sI gI
/-! ### filling -/
def fcell (es : List Edge) (col : Int) (w r : Nat) (p : List Int) (c : Nat) : List Int := if parE es (4 * (r : Int) + 2) w c = true then p.set (r * w + c) col else p
def frow (es : List Edge) (col : Int) (w : Nat) (cols : List Nat) (p : List Int) (r : Nat) : List Int := cols.foldl (fcell es col w r) p
def fil (es : List Edge) (c0 c1 c2 c3 col : Int) (w h : Nat) (cs : List Int) : List Int := (wi c1 c3 h).foldl (frow es col w (wi c0 c2 w)) cs
theorem foldl_same0 {α β : Type} {f : α → β → α} {l : List β} (h : ∀ a, ∀ b ∈ l, f a b = a) : ∀ a, l.foldl f a = a := by
  induction l with
  | nil => exact fun _ => rfl
  | cons x r ih => exact fun a => by rw [List.foldl_cons, h a x List.mem_cons_self]; exact ih (fun a b hb => h a b (List.mem_cons_of_mem _ hb)) a
theorem parE_filter (es : List Edge) (y : Int) (w c : Nat) : parE (es.filter (hitE y)) y w c = parE es y w c := by
  unfold parE
  rw [List.countP_filter, show (fun a => hitE y a && decide (fcE y w a ≤ ↑c) && hitE y a) = fun e => hitE y e && decide (fcE y w e ≤ ↑c) from funext fun e => by cases hitE y e <;> simp]
theorem parE_nil (y : Int) (w c : Nat) : parE [] y w c = false := rfl
theorem frow_none {es : List Edge} {col : Int} {w : Nat} (cols : List Nat) (p : List Int) (r : Nat) (h : es.filter (hitE (4 * (r : Int) + 2)) = []) : frow es col w cols p r = p := by
  unfold frow
  refine foldl_same0 (fun p c _ => ?_) p
  unfold fcell
  rw [← parE_filter, h, parE_nil]
  rfl
theorem Eds.putF {H H' : Hp} {p0 : Addr} {es : List V} {l : List Edge} {e : Edge} {v : V} (ge : H p0 = some (.lst es)) (he : All2 (EdV H) es l) (hv : EdV H v e) (h : H' = upd H p0 (.lst (es ++ [v]))) : Eds H' p0 (l ++ [e]) := Eds.put ge he hv h
theorem fcell_len {es : List Edge} {col : Int} {w r : Nat} (p : List Int) (c : Nat) : (fcell es col w r p c).length = p.length := by
  unfold fcell
  split
  · rw [List.length_set]
  · rfl
theorem frow_len {es : List Edge} {col : Int} {w : Nat} {cols : List Nat} (p : List Int) (r : Nat) : (frow es col w cols p r).length = p.length := foldl_len fcell_len cols p
theorem fil_len (es : List Edge) (c0 c1 c2 c3 col : Int) (w h : Nat) (cs : List Int) : (fil es c0 c1 c2 c3 col w h cs).length = cs.length := foldl_len frow_len _ cs
theorem edges_ok (os : List (List Pt)) : ∀ e ∈ edgesAll os, EdOk e := by
  intro e he
  obtain ⟨ps, _, h2⟩ := List.mem_flatMap.mp he
  obtain ⟨⟨p, q⟩, h3, h4⟩ := List.mem_filterMap.mp h2
  have hm := List.of_mem_zip h3
  have hp : ∀ x ∈ ps.map bdp, (-1048576 ≤ x.1 ∧ x.1 ≤ 1048576) ∧ (-1048576 ≤ x.2 ∧ x.2 ≤ 1048576) := fun x hx => by
    obtain ⟨z, _, rfl⟩ := List.mem_map.mp hx
    exact ⟨bd_in _, bd_in _⟩
  have h1 := hp p hm.1
  have h5 : (-1048576 ≤ q.1 ∧ q.1 ≤ 1048576) ∧ (-1048576 ≤ q.2 ∧ q.2 ≤ 1048576) := by
    rcases List.mem_append.mp hm.2 with z | z
    · exact hp q (List.mem_of_mem_drop z)
    · exact hp q (List.mem_of_mem_take z)
  unfold mkE at h4
  split at h4
  · obtain rfl := Option.some.inj h4
    exact ⟨h1.1, h1.2, h5.1, h5.2⟩
  · split at h4
    · obtain rfl := Option.some.inj h4
      exact ⟨h5.1, h5.2, h1.1, h1.2⟩
    · cases h4
def sp_fill (K : PySem.W.Frag) : Sp := fun vs H Q _ => ∃ (aG aC aK aO : Addr) (w h : Nat) (cs : List Int) (c0 c1 c2 c3 col : Int) (os : List (List Pt)), vs = [.ref aG, .ref aK, .ref aO, .int col] ∧ (H aG = some (.tup [.int (w : Int), .int (h : Int), .ref aC])) ∧ (H aC = some (.lst (List.map V.int cs))) ∧ (H aK = some (.tup [.int c0, .int c1, .int c2, .int c3])) ∧ (Outs H aO os) ∧ (cs.length = w * h) ∧ (w ≤ 100) ∧ (h ≤ 100) ∧ (os.length ≤ 1000 ∧ ∀ ps ∈ os, ps.length ≤ 1000) ∧ (∀ H' p c, Same H H' → H p = none → H c = none → H' p = some (.tup [.int (w : Int), .int (h : Int), .ref c]) → H' c = some (.lst (List.map V.int (fil (edgesAll os) c0 c1 c2 c3 col w h cs))) → Q (.ref p) H')
theorem ok_fill (T : Txt K mg) : FnOk P w K mg base CX0 3 T.f_fill T.fd_fill ["grid", "clip", "outlines", "colour"] (sp_fill K) := by
  refine T.F_fill.ok sc_fill (fun vs H Q E h => ?_) (fun cdv A outer s H vs Q E hr h => ?_)
  · obtain ⟨aG, aC, aK, aO, w, h, cs, c0, c1, c2, c3, col, os, rfl, _⟩ := h
    rfl
  · obtain ⟨aG, aC, aK, aO, w, h, cs, c0, c1, c2, c3, col, os, rfl, hG, hC, hK, hO, hl, hw, hh, hn, q⟩ := h
    refine ⟨_, (pss_cons (ps_asg (pv 0) (pg_tupS (n := 3) (by rfl) (pgs_cons (pg_name (i := 4) sc_fill.nd rfl (Or.inl rfl)) (pgs_cons (pg_name (i := 5) sc_fill.nd rfl (Or.inl rfl)) (pgs_cons (pg_name (i := 6) sc_fill.nd rfl (Or.inl rfl)) pgs_nil)))))
      (pss_cons (ps_set (i := 7) sc_fill.nd rfl (Or.inl rfl) (pe_call (ok__within T) hr (by rfl) T.g__within T.F__within.kp T.b__within .nil pass0 (pa_cons (pe_ix ix_tupH (pv 1) pe_int (fun _ _ => rfl)) (pa_cons (pe_ix ix_tupH (pv 1) pe_int (fun _ _ => rfl)) (pa_cons (pv 4) pa_nil)))))
      (pss_cons (ps_set (i := 8) sc_fill.nd rfl (Or.inl rfl) (pe_call (ok__edges T) hr (by rfl) T.g__edges T.F__edges.kp T.b__edges .nil pass0 (pa_cons (pv 2) pa_nil)))
      (pss_cons (ps_set (i := 9) sc_fill.nd rfl (Or.inl rfl) (pe_callTy call_listS (by rfl) T.z_list (by decide +kernel) (pa_cons (pv 6) pa_nil)))
      (pss_cons (ps_for PassesOwn.never rfl (pi_listS (pe_call (ok__within T) hr (by rfl) T.g__within T.F__within.kp T.b__within .nil pass0 (pa_cons (pe_ix ix_tupH (pv 1) pe_int (fun _ _ => rfl)) (pa_cons (pe_ix ix_tupH (pv 1) pe_int (fun _ _ => rfl)) (pa_cons (pv 5) pa_nil))))) (pg_name (i := 10) sc_fill.nd rfl (Or.inl rfl)) (pss_cons (ps_set (i := 11) sc_fill.nd rfl (Or.inr rfl) (pe_call (ok_middle T) (hr.mono (by decide)) (by rfl) T.g_middle T.F_middle.kp T.b_middle .nil pass0 (pa_cons (pv 10) pa_nil)))
      (pss_cons (ps_setLc (i := 12) (own := [("edge", 13)]) (g := (gName 13)) rfl sc_fill.nd rfl rfl (sw_true rfl rfl rfl (by decide +kernel)) (pi_listS (pv 8)) (blkOk_by (own := [("edge", 13)]) (N := ["grid", "clip", "outlines", "colour", "width", "height", "cells", "columns", "edges", "painted", "row", "y", "crossed", "edge", "inside", "column"]) (sc := defScope s_fill) (by decide +kernel)) (fun _ _ _ _ _ => (pg_name (i := 13) sc_fill.nd rfl (Or.inl rfl))) (fun _ _ _ _ _ => (pts_one (pt_chain op_le op_lt (pe_ix ix_tupH (pv 13) pe_int (fun _ _ => rfl)) (pv 11) (pe_ix ix_tupH (pv 13) pe_int (fun _ _ => rfl))))) (fun _ _ _ _ _ => (pv 13)))
      (pss_one (ps_if (pt_truthL (pv 12) (by intro _; rfl)) (pss_cons (ps_set (i := 14) sc_fill.nd rfl (Or.inl rfl) (pe_call (ok__inside_row T) hr (by rfl) T.g__inside_row T.F__inside_row.kp T.b__inside_row .nil pass0 (pa_cons (pv 12) (pa_cons (pv 11) (pa_cons (pv 4) pa_nil)))))
      (pss_one (ps_for PassesOwn.never rfl (pi_listS (pv 7)) (pg_name (i := 15) sc_fill.nd rfl (Or.inl rfl)) (pss_one (ps_if (pt_val (pe_ix ix_listH (pv 14) (pv 15) (fun _ _ => rfl))) (pss_one (ps_asg (pv 3) (pg_sub (pv 9) (pe_op op_add (pe_op op_mul (pv 10) (pv 4)) (pv 15)) set_list))) pss_nil))))) pss_nil)))))
      (pss_one (ps_ret (pe_tupS (pa_cons (pv 4) (pa_cons (pv 5) (pa_cons (pv 9) pa_nil))))))))))), ?_⟩
    walk_at "vc hG hK sp__within"
    refine ⟨by omega, fun H1 pC s1 n1 gC => ?_⟩
    walk_at "c s1 hG hC hK"
    have hO := hO.mono s1
    refine ⟨aO, os, rfl, hO, hn, fun H2 pE s2 n2 gE => ?_⟩
    walk_at "c s2 hG hC hK gC"
    walk_at "vc hC"
    intro pP H3 s3 n3 gP
    walk_at "n s3 3 hK"
    walk_at "vc hK3 sp__within"
    refine ⟨by omega, fun H4 pR s4 n4 gR => ?_⟩
    have neR : pP ≠ pR := ne_of_none gP n4
    have s24 := s3.trans s4
    have s02 := s1.trans s2
    walk_at "vc gR"
    refine lpW (walkN (l := wi c1 c3 h)) (fun i σ H' => ∃ (v10 v11 v12 v13 v14 v15 : Option V), σ = [some (.ref aG), some (.ref aK), some (.ref aO), some (.int col), some (.int (w : Int)), some (.int (h : Int)), some (.ref aC), some (.ref pC), some (.ref pE), some (.ref pP), v10, v11, v12, v13, v14, v15] ∧ Same H2 H' ∧ H' pR = some (.lst (natV (wi c1 c3 h))) ∧
      H' pP = some (.lst (List.map V.int (((wi c1 c3 h).take i).foldl (frow (edgesAll os) col w (wi c0 c2 w)) cs)))) ⟨_, _, _, _, _, _, rfl, s24, gR, s4 _ _ gP⟩ ?_ ?_ ?_
    · rintro i σ H' _ ⟨_, _, _, _, _, _, _, _, g, _⟩
      exact g
    · rintro i x σ H' H5 hi ⟨v10, v11, v12, v13, v14, v15, rfl, sm, gR, gP⟩ ⟨rfl, r, hr, rfl⟩
      obtain ⟨hrh, hry⟩ := wi_at hr
      rw [foldl_take _ _ hr]
      have hpl : (((wi c1 c3 h).take i).foldl (frow (edgesAll os) col w (wi c0 c2 w)) cs).length = w * h := by rw [foldl_len frow_len, hl]
      generalize ((wi c1 c3 h).take i).foldl (frow (edgesAll os) col w (wi c0 c2 w)) cs = p0 at hpl gP ⊢
      obtain ⟨vE, gE5, hE5⟩ := gE.mono sm
      have hEl : vE.length < 2000000 := by rw [hE5.len]; have := edgesAll_len os hn.2; have := hn.1; omega
      walk_at "vc sp_middle gE5"
      refine lcW (walkL (xs := vE)) (fun D j H6 => Same H5 H6 ∧ ∃ us, H6 D = some (.lst us) ∧ All2 (EdV H6) us (((edgesAll os).take j).filter (hitE (4 * (r : Int) + 2))) ∧ us.length ≤ j) (fun D H6 s6 n6 g6 => ⟨s6, [], g6, .nil, Nat.le_refl _⟩) (fun D j H6 _ _ h => h.1 _ _ gE5) (fun D j y H6 H7 hj n6 h y7 => ?_) (fun D H6 n6 h => ?_)
      · obtain ⟨rfl, hy⟩ := y7
        obtain ⟨s6, us, gu, hu, hul⟩ := h
        obtain ⟨e, he, ae, rfl, ga⟩ := hE5.at hy
        have ga6 := s6 _ _ ga
        have hun : us.length < sizeLine := cnt_lt (by omega)
        walk_at "vc ga6 gu"
        rw [take_succ he, List.filter_append]
        have skip : hitE (4 * (r : Int) + 2) e = false → All2 (EdV H7) us (((edgesAll os).take j).filter (hitE (4 * (r : Int) + 2)) ++ [e].filter (hitE (4 * (r : Int) + 2))) ∧ us.length ≤ j + 1 := fun z => by
          rw [List.filter_cons, z]
          exact ⟨by rw [show (if false = true then e :: List.filter (hitE (4 * (r : Int) + 2)) [] else List.filter (hitE (4 * (r : Int) + 2)) []) = [] from rfl, List.append_nil]; exact hu, by omega⟩
        refine iteP (fun k1 => iteP (fun k2 => ?_) (fun k2 => ⟨s6, skip (decide_eq_false fun z => k2 z.2)⟩)) (fun k1 => ⟨s6, skip (decide_eq_false fun z => k1 z.1)⟩)
        have hit : hitE (4 * (r : Int) + 2) e = true := decide_eq_true ⟨k1, k2⟩
        refine ⟨hun, same_upd2 s6 n6, ?_, by omega⟩
        rw [List.filter_cons, hit]
        exact (hu.mono (fun v p z => EdV.upd gu v p z)).snoc (EdV.upd gu _ _ ⟨ae, rfl, ga6⟩)
      obtain ⟨s6, us, gu, hu, hul⟩ := h
      rw [hE5.len, List.take_length] at hu
      have hux : us = [] ∨ 0 < us.length := by
        cases us with
        | nil => exact .inl rfl
        | cons _ _ => exact .inr (Nat.succ_pos _)
      walk_at "c s6 gR gP"
      have sm6 := sm.trans s6
      walk_at "vc gu"
      refine iteP (fun hpos => ?_) (fun hpos => ?_)
      · refine ⟨D, (edgesAll os).filter (hitE (4 * (r : Int) + 2)), 4 * (r : Int) + 2, w, rfl, ⟨us, gu, hu⟩, fun e he => ⟨edges_ok os e ((List.mem_filter.mp he).1), (List.mem_filter.mp he).2⟩, by omega, fun H7 pI s7 n7 gI => ?_⟩
        rw [show (fun c => V.bl (parE ((edgesAll os).filter (hitE (4 * (r : Int) + 2))) (4 * (r : Int) + 2) w c)) = fun c => V.bl (parE (edgesAll os) (4 * (r : Int) + 2) w c) from funext fun c => by rw [parE_filter]] at gI
        have neI : pP ≠ pI := ne_of_none gP n7
        walk_at "n sm6 6 gC"
        walk_at "c s7 gC6 gR gP"
        have sm7 := sm6.trans s7
        walk_at "vc gC6"
        refine lpW (walkN (l := wi c0 c2 w)) (fun j σ H' => ∃ (v13 v15 : Option V), σ = [some (.ref aG), some (.ref aK), some (.ref aO), some (.int col), some (.int (w : Int)), some (.int (h : Int)), some (.ref aC), some (.ref pC), some (.ref pE), some (.ref pP), some (.int (r : Int)), some (.int (4 * (r : Int) + 2)), some (.ref D), v13, some (.ref pI), v15] ∧ Same H2 H' ∧ H' pR = some (.lst (natV (wi c1 c3 h))) ∧
          H' pI = some (.lst ((List.range w).map fun c => V.bl (parE (edgesAll os) (4 * (r : Int) + 2) w c))) ∧ H' pP = some (.lst (List.map V.int (((wi c0 c2 w).take j).foldl (fcell (edgesAll os) col w r) p0)))) ⟨_, _, rfl, sm7, gR, gI, gP⟩ ?_ ?_ ?_
        · rintro j σ H' _ ⟨_, _, _, s, _⟩
          exact s _ _ gC
        · rintro j x σ H' H7 hj ⟨v13, v15, rfl, sm, gR, gI, gP⟩ ⟨rfl, c, hc, rfl⟩
          obtain ⟨hcw, hcx⟩ := wi_at hc
          rw [foldl_take _ _ hc]
          have hpl2 : (((wi c0 c2 w).take j).foldl (fcell (edgesAll os) col w r) p0).length = w * h := by rw [foldl_len fcell_len, hpl]
          generalize ((wi c0 c2 w).take j).foldl (fcell (edgesAll os) col w r) p0 = p1 at hpl2 gP ⊢
          walk_at "vc gI gP"
          refine ⟨_, atI_nat (j := c) (by rw [List.getElem?_map, List.getElem?_range hcw]; rfl), _, rfl, ?_⟩
          unfold fcell
          have hix := ix_in hrh hcw
          refine iteP (fun e => ?_) (fun e => ?_)
          · rw [if_pos e]
            refine ⟨.inr ⟨by omega, by omega⟩, r * w + c, ?_, same_upd2 sm n3, by rw [upd_ne neR.symm]; exact gR, by rw [upd_ne neI.symm]; exact gI, rfl⟩
            rw [ixN_in (by omega) (by rw [hpl2]; omega)]
            congr 1
          · rw [if_neg e]
            exact ⟨sm, gR, rfl⟩
        · rintro σ H' ⟨v13, v15, rfl, sm, gR, gI, gP⟩
          rw [List.take_length] at gP
          exact ⟨⟨_, _, _, _, _, _, rfl⟩, sm, gR, gP⟩
      · have hn0 : us.length = 0 := by omega
        rw [hu.len] at hn0
        rw [frow_none _ _ _ (List.eq_nil_of_length_eq_zero hn0)]
        exact ⟨sm6, gR, gP⟩
    · rintro σ H' ⟨v10, v11, v12, v13, v14, v15, rfl, sm, gR, gP⟩
      rw [List.take_length] at gP
      walk_at "vc"
      intro p5 H6 s6 n6 g6
      have s06 := s02.trans sm
      exact q _ p5 pP (s06.trans s6) (s06.free n6) (s02.free n3) g6 (s6 _ _ gP)

def sp__law_cell (K : PySem.W.Frag) (a : Addr) (ns : List Int) : Sp := fun vs H Q _ => ∃ (k : Int), vs = [.ref a, .int k] ∧ (0 ≤ k) ∧ (SqL K H a (List.map V.int ns)) ∧ (Q (.int (cellA ns k.toNat)) H)
theorem ok__law_cell (T : Txt K mg) (a : Addr) (ns : List Int) : FnOk P w K mg base CX0 1 T.f__law_cell T.fd__law_cell ["script", "k"] (sp__law_cell K a ns) := by
  refine T.F__law_cell.ok sc__law_cell (fun vs H Q E h => ?_) (fun cdv A outer s H vs Q E hr h => ?_)
  · obtain ⟨k, rfl, _⟩ := h
    rfl
  · obtain ⟨k, rfl, hk0, hS, q⟩ := h
    refine ⟨_, (pss_cons (ps_if (pt_cmpR op_lt (pv 1) (pe_callB call_len_seq (by rfl) T.z_len PySem.boot_len (pa_cons (pv 0) pa_nil)) (nomark _)) (pss_one (ps_ret (pe_callTy call_int1 (by rfl) T.z_int (by decide +kernel) (pa_cons (pe_ix ix_list (pv 0) (pv 1) (fun _ _ => rfl)) pa_nil)))) pss_nil)
      (pss_one (ps_ret pe_int))), ?_⟩
    obtain ⟨k, rfl⟩ := natOf hk0
    rw [Int.toNat_natCast] at q
    refine ⟨_, rfl, _, rfl, a, _, rfl, .inl hS, _, _, rfl, rfl, _, rfl, ite2 (fun e => ?_) (fun e => ?_)⟩
    · have e1 := of_decide_eq_true e
      rw [List.length_map] at e1
      have hk : k < ns.length := by omega
      refine ⟨_, rfl, _, rfl, a, _, _, .int (cellA ns k), rfl, rfl, hS, ?_, .inl ⟨_, rfl, q⟩⟩
      refine atI_nat ?_
      rw [List.getElem?_map, List.getElem?_eq_getElem hk]
      simp [cellA, hk]
    · have e1 : ¬ ((k : Int) < ((ns.map V.int).length : Int)) := fun z => e (decide_eq_true z)
      rw [List.length_map] at e1
      have hk : ns.length ≤ k := by omega
      have e0 : cellA ns k = 0 := by simp [cellA, hk]
      rw [e0] at q
      exact q

def sp__law_point (K : PySem.W.Frag) : Sp := fun vs H Q _ => ∃ (c : Int) (w h : Nat), vs = [.int c, .int (w : Int), .int (h : Int)] ∧ (0 ≤ c) ∧ (∀ (H' : Hp) (p : Addr) (pt : Pt), Same H H' → H p = none → H' p = some (.tup [.int pt.1, .int pt.2]) → Q (.ref p) H')
theorem ok__law_point (T : Txt K mg) : FnOk P w K mg base CX0 1 T.f__law_point T.fd__law_point ["cell", "width", "height"] (sp__law_point K) := by
  refine T.F__law_point.ok sc__law_point (fun vs H Q E h => ?_) (fun cdv A outer s H vs Q E hr h => ?_)
  · obtain ⟨c, w, h, rfl, _⟩ := h
    rfl
  · obtain ⟨c, w, h, rfl, hc, q⟩ := h
    refine ⟨_, (pss_cons (ps_set (i := 3) sc__law_point.nd rfl (Or.inl rfl) (pe_op op_mod (pe_callTy call_int1 (by rfl) T.z_int (by decide +kernel) (pa_cons (pv 0) pa_nil)) pe_int))
      (pss_cons (ps_set (i := 4) sc__law_point.nd rfl (Or.inl rfl) (pe_op op_fdiv (pv 0) pe_int))
      (pss_cons (ps_if (pt_cmpR op_eq (pv 3) pe_int (nomark _)) (pss_one (ps_ret (pe_tupS (pa_cons (pe_ix ix_listH (pe_lstS (pa_cons (pv 4) (pa_cons (pe_op op_sub pe_int (pv 4)) pa_nil))) (pe_op op_and (pe_callTy call_int1 (by rfl) T.z_int (by decide +kernel) (pa_cons (pv 4) pa_nil)) pe_int) (fun _ _ => rfl)) (pa_cons (pe_ix ix_listH (pe_lstS (pa_cons pe_int (pa_cons (pe_un un_neg pe_int) (pa_cons pe_int (pa_cons (pe_un un_neg pe_int) pa_nil))))) (pe_op op_and (pe_callTy call_int1 (by rfl) T.z_int (by decide +kernel) (pa_cons (pe_op op_fdiv (pv 4) pe_int) pa_nil)) pe_int) (fun _ _ => rfl)) pa_nil))))) pss_nil)
      (pss_cons (ps_if (pt_cmpR op_lt (pv 3) pe_int (nomark _)) (pss_one (ps_ret (pe_tupS (pa_cons (pe_op op_sub (pe_op op_mul pe_int (pe_op op_mod (pe_callTy call_int1 (by rfl) T.z_int (by decide +kernel) (pa_cons (pv 4) pa_nil)) (pe_op op_add (pv 1) pe_int))) pe_int) (pa_cons (pe_op op_sub (pe_op op_mul pe_int (pe_op op_mod (pe_callTy call_int1 (by rfl) T.z_int (by decide +kernel) (pa_cons (pe_op op_fdiv (pv 4) pe_int) pa_nil)) (pe_op op_add (pv 2) pe_int))) pe_int) pa_nil))))) pss_nil)
      (pss_one (ps_ret (pe_tupS (pa_cons (pe_op op_sub (pe_op op_mod (pe_callTy call_int1 (by rfl) T.z_int (by decide +kernel) (pa_cons (pv 4) pa_nil)) (pe_op op_add (pe_op op_mul pe_int (pv 1)) pe_int)) pe_int) (pa_cons (pe_op op_sub (pe_op op_mod (pe_callTy call_int1 (by rfl) T.z_int (by decide +kernel) (pa_cons (pe_op op_fdiv (pv 4) pe_int) pa_nil)) (pe_op op_add (pe_op op_mul pe_int (pv 2)) pe_int)) pe_int) pa_nil))))))))), ?_⟩
    walk_at "vc"
    refine iteP (fun _ => ?_) fun _ => iteP (fun _ => ⟨by omega, by omega, fun p H' s n g => q H' p (_, _) s n g⟩) fun _ => ⟨by omega, by omega, fun p H' s n g => q H' p (_, _) s n g⟩
    intro p1 H1 s1 n1 g1
    walk_at "vc g1"
    obtain ⟨v, h1, h2⟩ := atI_lits (xs := [c / 9, 0 - c / 9]) (k := c / 9 % 2) (by omega) (by show c / 9 % 2 < 2; omega)
    refine ⟨_, h1, fun p2 H2 s2 n2 g2 => ?_⟩
    walk_at "vc g2"
    obtain ⟨u, h3, h4⟩ := atI_lits (xs := [3000000, -3000000, 1048576, -1048577]) (k := c / 9 / 2 % 4) (by omega) (by show c / 9 / 2 % 4 < 4; omega)
    refine ⟨_, h3, fun p3 H3 s3 n3 g3 => q H3 p3 (v, u) ((s1.trans s2).trans s3) ((s1.trans s2).free n3) g3⟩
def sp__law_outlines (K : PySem.W.Frag) (a : Addr) (ns : List Int) : Sp := fun vs H Q _ => ∃ (at_ : Nat) (w h : Nat), vs = [.ref a, .int (at_ : Int), .int (w : Int), .int (h : Int)] ∧ (SqL K H a (List.map V.int ns)) ∧ (ns.length ≤ 63) ∧ (at_ ≤ 100) ∧ (∀ (H' : Hp) (p : Addr) (os : List (List Pt)), Same H H' → H p = none → Outs H' p os → os.length ≤ 15 → (∀ ps ∈ os, 1 ≤ ps.length ∧ ps.length ≤ 15) → Q (.ref p) H')
theorem ok__law_outlines (T : Txt K mg) (a : Addr) (ns : List Int) : FnOk P w K mg base CX0 2 T.f__law_outlines T.fd__law_outlines ["script", "at", "width", "height"] (sp__law_outlines K a ns) := by
  refine T.F__law_outlines.ok sc__law_outlines (fun vs H Q E h => ?_) (fun cdv A outer s H vs Q E hr h => ?_)
  · obtain ⟨at_, w, h, rfl, _⟩ := h
    rfl
  · obtain ⟨at_, w, h, rfl, hS, hlen, ha, q⟩ := h
    refine ⟨_, (pss_cons (ps_set (i := 4) sc__law_outlines.nd rfl (Or.inl rfl) (pe_lstS pa_nil))
      (pss_cons (ps_set (i := 5) sc__law_outlines.nd rfl (Or.inl rfl) (pe_lstS pa_nil))
      (pss_cons (ps_for PassesOwn.never rfl (pi_range2 (by rfl) T.z_range (pa_cons (pv 1) (pa_cons (pe_callB (call_min2 rfl) (by rfl) T.z_min (by decide +kernel) (pa_cons (pe_op op_add (pv 1) pe_int) (pa_cons (pe_callB (call_lenSc a ns) (by rfl) T.z_len PySem.boot_len (pa_cons (pv 0) pa_nil)) pa_nil))) pa_nil))) (pg_name (i := 6) sc__law_outlines.nd rfl (Or.inl rfl)) (pss_cons (ps_set (i := 7) sc__law_outlines.nd rfl (Or.inl rfl) (pe_callB call_abs (by rfl) T.z_abs (by decide +kernel) (pa_cons (pe_ix (ix_sc a ns) (pv 0) (pv 6) (fun _ _ => rfl)) pa_nil)))
      (pss_cons (ps_if (PW.pt (pw_and (pt_cmpR op_eq (pe_op op_mod (pe_callTy call_int1 (by rfl) T.z_int (by decide +kernel) (pa_cons (pv 7) pa_nil)) pe_int) pe_int (nomark _)) (pw_and1 (pt_cmpR op_gt (pe_callB call_lenH (by rfl) T.z_len PySem.boot_len (pa_cons (pv 5) pa_nil)) pe_int (nomark _))))) (pss_cons (ps_expr (pe_ml (pe_bm PySem.F.plainAttrs_list PySem.F.slot_list_append PySem.F.type_list_append mt_append (pe_mono (pv 4)) (pa_cons (pe_callTy call_tupleL (by rfl) T.z_tuple (by decide +kernel) (pa_cons (pv 5) pa_nil)) pa_nil))))
      (pss_one (ps_set (i := 5) sc__law_outlines.nd rfl (Or.inl rfl) (pe_lstS pa_nil)))) pss_nil)
      (pss_one (ps_expr (pe_ml (pe_bm PySem.F.plainAttrs_list PySem.F.slot_list_append PySem.F.type_list_append mt_append (pe_mono (pv 5)) (pa_cons (pe_call (ok__law_point T) hr (by rfl) T.g__law_point T.F__law_point.kp T.b__law_point .nil pass0 (pa_cons (pe_op op_fdiv (pv 7) pe_int) (pa_cons (pv 2) (pa_cons (pv 3) pa_nil)))) pa_nil))))))))
      (pss_cons (ps_if (pt_cmpR op_eq (pe_callB call_lenH (by rfl) T.z_len PySem.boot_len (pa_cons (pv 5) pa_nil)) pe_int (nomark _)) (pss_one (ps_expr (pe_ml (pe_bm PySem.F.plainAttrs_list PySem.F.slot_list_append PySem.F.type_list_append mt_append (pe_mono (pv 5)) (pa_cons (pe_tupS (pa_cons pe_int (pa_cons pe_int pa_nil))) pa_nil))))) pss_nil)
      (pss_cons (ps_expr (pe_ml (pe_bm PySem.F.plainAttrs_list PySem.F.slot_list_append PySem.F.type_list_append mt_append (pe_mono (pv 4)) (pa_cons (pe_callTy call_tupleL (by rfl) T.z_tuple (by decide +kernel) (pa_cons (pv 5) pa_nil)) pa_nil))))
      (pss_one (ps_ret (pe_callTy call_tupleL (by rfl) T.z_tuple (by decide +kernel) (pa_cons (pv 4) pa_nil))))))))), ?_⟩
    walk_at "vc"
    intro p1 H1 s1 n1 g1 p2 H2 s2 n2 g2
    have g12 := s2 _ _ g1
    have hS2 := (s1.trans s2).seq hS
    walk_at "vc hS2"
    obtain ⟨N, hN, hNb⟩ : ∃ N : Nat, (mn ((at_ : Int) + 14) (ns.length : Int) - at_).toNat = N ∧ N ≤ 14 ∧ ∀ i, i < N → at_ + i < ns.length := ⟨_, rfl, by unfold mn; split <;> omega, fun i hi => by revert hi; unfold mn; split <;> omega⟩
    have hmn : -1000 ≤ mn ((at_ : Int) + 14) (ns.length : Int) ∧ mn ((at_ : Int) + 14) (ns.length : Int) ≤ 1000 := by unfold mn; split <;> omega
    rw [hN]
    refine ⟨by omega, by omega, by omega, by omega, ?_⟩
    refine lpW (walk_range (lo := (at_ : Int)) (n := N)) (fun i σ H' => ∃ (kv cv : Option V) (pc : Addr) (vs us : List V) (os : List (List Pt)) (cur : List Pt), σ = [some (.ref a), some (.int (at_ : Int)), some (.int (w : Int)), some (.int (h : Int)), some (.ref p1), some (.ref pc), kv, cv] ∧ Same H H' ∧
      H' p1 = some (.lst vs) ∧ H' pc = some (.lst us) ∧ p1 ≠ pc ∧ H pc = none ∧ All2 (OutV H') vs os ∧ All2 (PtV H') us cur ∧ os.length ≤ i ∧ cur.length ≤ i ∧ ∀ ps ∈ os, 1 ≤ ps.length ∧ ps.length ≤ 15) ⟨_, _, p2, [], [], [], [], rfl, s1.trans s2, g12, g2, ne_of_none g1 n2, s1.free n2, .nil, .nil, Nat.le_refl _, Nat.le_refl _, fun _ z => nomatch z⟩ (fun _ _ _ _ _ => True.intro) ?_ ?_
    · rintro i x σ H' H3 hi ⟨kv, cv, pc, vs, us, os, cur, rfl, sm, gv, gu, nvu, nc, hv, hu, ho, hcu, hps⟩ ⟨rfl, rfl⟩
      have hS3 := sm.seq hS
      have hin := hNb.2 i hi
      have hcc := Int.ediv_nonneg (absI_nn (gN ns ((at_ : Int) + (i : Int)).toNat)) (show (0 : Int) ≤ 7 by decide)
      walk_at "vc hS3 gu gv"
      generalize absI (gN ns ((at_ : Int) + (i : Int)).toNat) = cc at *
      refine ⟨by omega, by omega, ?_⟩
      have hc0 : 0 ≤ cc / 7 := hcc
      have hnp1 : H p1 = none := n1
      -- the last step, from any list that is being made
      have last : ∀ (H4 : Hp) (pc : Addr) (vs us : List V) (os : List (List Pt)) (cur : List Pt) (pt : Pt) (t : Addr), Same H H4 → H4 p1 = some (.lst vs) → H4 pc = some (.lst us) → p1 ≠ pc → H pc = none → All2 (OutV H4) vs os → All2 (PtV H4) us cur → os.length ≤ i + 1 → cur.length ≤ i → (∀ ps ∈ os, 1 ≤ ps.length ∧ ps.length ≤ 15) →
          H4 t = some (.tup [.int pt.1, .int pt.2]) → us.length < sizeLine ∧ Same H (upd H4 pc (.lst (us ++ [V.ref t]))) ∧ upd H4 pc (.lst (us ++ [V.ref t])) p1 = some (.lst vs) ∧ All2 (OutV (upd H4 pc (.lst (us ++ [V.ref t])))) vs os ∧ All2 (PtV (upd H4 pc (.lst (us ++ [V.ref t])))) (us ++ [V.ref t]) (cur ++ [pt]) := by
        intro H4 pc vs us os cur pt t sm gv gu nvu nc hv hu ho hcu hps gt
        refine ⟨Nat.lt_of_lt_of_le (show us.length < 100 by rw [hu.len]; omega) (by decide), same_upd2 sm nc, by rw [upd_ne nvu]; exact gv, hv.mono (OutV.upd gu), (hu.mono (PtV.upd gu)).snoc ⟨t, rfl, tup_upd gt gu⟩⟩
      have same : sp__law_point K [V.int (cc / 7), V.int (w : Int), V.int (h : Int)] H3 (fun x H1 => ∃ x_1, H1 pc = some (.lst x_1) ∧ x_1.length < sizeLine ∧ Same H (upd H1 pc (.lst (x_1 ++ [x]))) ∧ ∃ x_2, upd H1 pc (.lst (x_1 ++ [x])) p1 = some (.lst x_2) ∧ ¬ p1 = pc ∧ H pc = none ∧
          ∃ x_3, All2 (OutV (upd H1 pc (.lst (x_1 ++ [x])))) x_2 x_3 ∧ ∃ x_4, All2 (PtV (upd H1 pc (.lst (x_1 ++ [x])))) (x_1 ++ [x]) x_4 ∧ x_3.length ≤ i + 1 ∧ x_4.length ≤ i + 1 ∧ ∀ ps ∈ x_3, 1 ≤ ps.length ∧ ps.length ≤ 15) E0 := by
        refine ⟨_, w, h, rfl, hc0, fun H4 t pt s4 n4 g4 => ?_⟩
        obtain ⟨l1, l2, l3, l4, l5⟩ := last H4 pc vs us os cur pt t (sm.trans s4) (s4 _ _ gv) (s4 _ _ gu) nvu nc (hv.mono (OutV.mono s4)) (hu.mono (PtV.mono s4)) (by omega) hcu hps g4
        exact ⟨us, s4 _ _ gu, l1, l2, vs, l3, nvu, nc, os, l4, cur ++ [pt], l5, by omega, by rw [List.length_append]; exact Nat.succ_le_succ hcu, hps⟩
      refine iteP (fun c1 => iteP (fun c2 => ?_) (fun c2 => same)) (fun c1 => same)
      intro t1 H4 s4 n4 g4
      have gv4 := s4 _ _ gv
      have ne_t1 : t1 ≠ p1 := (ne_of_none gv n4).symm
      refine ⟨vs, gv4, Nat.lt_of_lt_of_le (show vs.length < 100 by rw [hv.len]; omega) (by decide), fun p5 H5 s5 n5 g5 => ⟨⟨_, g5⟩, _, w, h, rfl, hc0, fun H6 t pt s6 n6 g6 => ?_⟩⟩
      have hv4 : All2 (OutV (upd H4 p1 (.lst (vs ++ [V.ref t1])))) (vs ++ [V.ref t1]) (os ++ [cur]) := by
        refine ((hv.mono (OutV.mono s4)).mono (OutV.upd gv4)).snoc ⟨t1, us, rfl, by rw [upd_ne ne_t1]; exact g4, (hu.mono (PtV.mono s4)).mono (PtV.upd gv4)⟩
      have ne5 : p1 ≠ p5 := ne_of_none (upd_same (H := H4)) n5
      have sH5 : Same H H5 := (same_upd2 (sm.trans s4) hnp1).trans s5
      have free5 : H p5 = none := (same_upd2 (sm.trans s4) hnp1).free n5
      obtain ⟨l1, l2, l3, l4, l5⟩ := last H6 p5 (vs ++ [V.ref t1]) [] (os ++ [cur]) [] pt t (sH5.trans s6) (s6 _ _ (s5 _ _ upd_same)) (s6 _ _ g5) ne5 free5 ((hv4.mono (OutV.mono s5)).mono (OutV.mono s6)) .nil
        (by rw [List.length_append]; exact Nat.succ_le_succ ho) (Nat.zero_le _) (fun ps hp => by
          rcases List.mem_append.mp hp with z | z
          · exact hps ps z
          · rw [List.mem_singleton.mp z, ← hu.len]; exact ⟨by omega, by rw [hu.len]; omega⟩) g6
      exact ⟨[], s6 _ _ g5, l1, l2, vs ++ [V.ref t1], l3, ne5, free5, os ++ [cur], l4, [pt], l5, by rw [List.length_append]; exact Nat.succ_le_succ ho, by show 1 ≤ i + 1; omega, fun ps hp => by
          rcases List.mem_append.mp hp with z | z
          · exact hps ps z
          · rw [List.mem_singleton.mp z, ← hu.len]; exact ⟨by omega, by rw [hu.len]; omega⟩⟩
    · rintro σ H' ⟨kv, cv, pc, vs, us, os, cur, rfl, sm, gv, gu, nvu, nc, hv, hu, ho, hcu, hps⟩
      have fin : ∀ (H4 : Hp) (l : Addr) (us' : List V) (cur' : List Pt), Same H H4 → H4 p1 = some (.lst vs) → All2 (OutV H4) vs os → H4 l = some (.tup us') → All2 (PtV H4) us' cur' → 1 ≤ cur'.length → cur'.length ≤ 15 →
          ∃ x, H4 p1 = some (.lst x) ∧ x.length < sizeLine ∧ NewH (upd H4 p1 (.lst (x ++ [V.ref l]))) (.tup (x ++ [V.ref l])) fun l H' => Q (V.ref l) H' := by
        intro H4 l us' cur' sm gv hv gl hu h1 h2
        refine ⟨vs, gv, Nat.lt_of_lt_of_le (show vs.length < 100 by rw [hv.len]; omega) (by decide), fun t H5 s5 n5 g5 => ?_⟩
        have ne_l : l ≠ p1 := ne_of gl gv (by intro z; cases z)
        have hv5 : All2 (OutV H5) (vs ++ [V.ref l]) (os ++ [cur']) := (((hv.mono (OutV.upd gv)).snoc ⟨l, us', rfl, by rw [upd_ne ne_l]; exact gl, hu.mono (PtV.upd gv)⟩).mono (OutV.mono s5))
        have sH : Same H H5 := (same_upd2 sm n1).trans s5
        refine q H5 t (os ++ [cur']) sH ((same_upd2 sm n1).free n5) ⟨_, g5, hv5⟩ (by rw [List.length_append]; show os.length + 1 ≤ 15; omega) fun ps hp => ?_
        rcases List.mem_append.mp hp with z | z
        · exact hps ps z
        · rw [List.mem_singleton.mp z]; exact ⟨h1, h2⟩
      walk_at "vc gu gv"
      refine iteP (fun c1 => ?_) (fun c1 => ?_)
      · intro t H3 s3 n3 g3
        have gu3 := s3 _ _ gu
        have gv3 := s3 _ _ gv
        have sm3 := sm.trans s3
        refine ⟨us, gu3, Nat.lt_of_lt_of_le (show us.length < 100 by rw [hu.len]; omega) (by decide), ⟨vs, by rw [upd_ne nvu]; exact gv3⟩, fun l H4 s4 n4 g4 => ?_⟩
        have sH4 : Same H H4 := (same_upd2 sm3 nc).trans s4
        have hu4 : All2 (PtV H4) (us ++ [V.ref t]) (cur ++ [(0, 0)]) := ((((hu.mono (PtV.mono s3)).mono (PtV.upd gu3)).snoc ⟨t, rfl, tup_upd g3 gu3⟩).mono (PtV.mono s4))
        exact fin H4 l _ _ sH4 (s4 _ _ (by rw [upd_ne nvu]; exact gv3)) (((hv.mono (OutV.mono s3)).mono (OutV.upd gu3)).mono (OutV.mono s4)) g4 hu4 (by rw [List.length_append]; show 1 ≤ cur.length + 1; omega) (by rw [List.length_append]; show cur.length + 1 ≤ 15; omega)
      · intro l H3 s3 n3 g3
        have hul := hu.len
        exact fin H3 l us cur (sm.trans s3) (s3 _ _ gv) (hv.mono (OutV.mono s3)) g3 (hu.mono (PtV.mono s3)) (by omega) (by omega)

def cntP (p q : Pt) (x y : Int) : Bool :=
  if p.2 ≤ y ∧ y < q.2 then decide (p.1 * (q.2 - p.2) + (y - p.2) * (q.1 - p.1) ≤ x * (q.2 - p.2)) else
  if q.2 ≤ y ∧ y < p.2 then decide (q.1 * (p.2 - q.2) + (y - q.2) * (p.1 - q.1) ≤ x * (p.2 - q.2)) else false

theorem fc_le {d A : Int} {w c : Nat} (hd : 0 < d) (hc : c < w) : mn (mx (-((2 * d - A) / (4 * d))) 0) w ≤ c ↔ A ≤ (4 * (c : Int) + 2) * d := by
  have h1 : mn (mx (-((2 * d - A) / (4 * d))) 0) w ≤ c ↔ -((2 * d - A) / (4 * d)) ≤ (c : Int) := by
    unfold mn mx
    repeat' split
    all_goals omega
  rw [h1, show -((2 * d - A) / (4 * d)) ≤ (c : Int) ↔ -(c : Int) ≤ (2 * d - A) / (4 * d) by omega, Int.le_ediv_iff_mul_le (by omega), show -(c : Int) * (4 * d) = -(4 * ((c : Int) * d)) by rw [Int.neg_mul, Int.mul_left_comm],
    show (4 * (c : Int) + 2) * d = 4 * ((c : Int) * d) + 2 * d by rw [Int.add_mul, Int.mul_assoc]]
  omega
theorem edge_cnt (p q : Pt) (y : Int) {w c : Nat} (hc : c < w) : ((mkE p q).map fun e => hitE y e && decide (fcE y w e ≤ c)).getD false = cntP p q (4 * (c : Int) + 2) y := by
  unfold mkE cntP
  by_cases h1 : p.2 < q.2
  · rw [if_pos h1]
    show (decide (p.2 ≤ y ∧ y < q.2) && decide (fcE y w (p.1, p.2, q.1, q.2) ≤ c)) = _
    by_cases h2 : p.2 ≤ y ∧ y < q.2
    · rw [if_pos h2, decide_eq_true h2, Bool.true_and]
      exact decide_eq_decide.mpr (fc_le (show 0 < q.2 - p.2 by omega) hc)
    · rw [if_neg h2, decide_eq_false h2, Bool.false_and, if_neg (by omega)]
  · rw [if_neg h1, if_neg (show ¬ (p.2 ≤ y ∧ y < q.2) by omega)]
    by_cases h3 : q.2 < p.2
    · rw [if_pos h3]
      show (decide (q.2 ≤ y ∧ y < p.2) && decide (fcE y w (q.1, q.2, p.1, p.2) ≤ c)) = _
      by_cases h2 : q.2 ≤ y ∧ y < p.2
      · rw [if_pos h2, decide_eq_true h2, Bool.true_and]
        exact decide_eq_decide.mpr (fc_le (show 0 < p.2 - q.2 by omega) hc)
      · rw [if_neg h2, decide_eq_false h2, Bool.false_and]
    · rw [if_neg h3, if_neg (show ¬ (q.2 ≤ y ∧ y < p.2) by omega)]
      rfl

/-! ### ways around an outline -/
def n1 (b : Bool) : Nat := if b = true then 1 else 0
def pth (f : Pt → Pt → Bool) : List Pt → Nat
  | [] => 0
  | [_] => 0
  | p :: q :: r => n1 (f p q) + pth f (q :: r)
def cyc (f : Pt → Pt → Bool) : List Pt → Nat
  | [] => 0
  | p :: r => pth f (p :: r ++ [p])
theorem pth_split (f : Pt → Pt → Bool) (x : Pt) (bs : List Pt) : ∀ as : List Pt, pth f (as ++ x :: bs) = pth f (as ++ [x]) + pth f (x :: bs)
  | [] => by simp [pth]
  | [a] => by simp [pth]
  | a :: b :: r => by
    have ih := pth_split f x bs (b :: r)
    simp only [List.cons_append] at ih ⊢
    rw [pth, pth, ih]
    omega
theorem zip_pth (f : Pt → Pt → Bool) (e : Pt) : ∀ (p : Pt) (r : List Pt), ((p :: r).zip (r ++ [e])).countP (fun x => f x.1 x.2) = pth f (p :: r ++ [e])
  | p, [] => by simp [pth, n1, List.countP_cons]
  | p, q :: r => by
    have ih := zip_pth f e q r
    simp only [List.cons_append] at ih ⊢
    rw [List.zip_cons_cons, List.countP_cons, ih, pth, n1]
    show pth f (q :: (r ++ [e])) + (if f p q = true then 1 else 0) = _
    omega
theorem zip_cyc (f : Pt → Pt → Bool) (ps : List Pt) : (ps.zip (rot ps)).countP (fun x => f x.1 x.2) = cyc f ps := by
  cases ps with
  | nil => rfl
  | cons p r => exact zip_pth f p p r
theorem cyc_rot (f : Pt → Pt → Bool) (as bs : List Pt) : cyc f (bs ++ as) = cyc f (as ++ bs) := by
  cases as with
  | nil => rw [List.append_nil, List.nil_append]
  | cons a as => cases bs with
    | nil => rw [List.append_nil, List.nil_append]
    | cons b bs =>
      show pth f (b :: (bs ++ a :: as) ++ [b]) = pth f (a :: (as ++ b :: bs) ++ [a])
      have h1 := pth_split f a (as ++ [b]) (b :: bs)
      have h2 := pth_split f b (bs ++ [a]) (a :: as)
      simp only [List.cons_append, List.append_assoc] at h1 h2 ⊢
      rw [h1, h2]
      omega
theorem pth_rev {f : Pt → Pt → Bool} (hf : ∀ p q, f p q = f q p) : ∀ l : List Pt, pth f l.reverse = pth f l
  | [] => rfl
  | [_] => rfl
  | p :: q :: r => by
    have ih := pth_rev hf (q :: r)
    rw [List.reverse_cons, List.reverse_cons] at *
    have h := pth_split f q [p] r.reverse
    rw [List.append_assoc]
    show pth f (r.reverse ++ q :: [p]) = _
    rw [h, ih, pth, pth, pth, hf q p]
    omega
theorem cyc_rev {f : Pt → Pt → Bool} (hf : ∀ p q, f p q = f q p) (l : List Pt) : cyc f l.reverse = cyc f l := by
  cases l with
  | nil => rfl
  | cons p r =>
    rw [List.reverse_cons, cyc_rot]
    show pth f (p :: r.reverse ++ [p]) = pth f (p :: r ++ [p])
    rw [← pth_rev hf (p :: r ++ [p])]
    simp
theorem cyc_last {f : Pt → Pt → Bool} (hf : ∀ p, f p p = false) (as : List Pt) (l : Pt) : cyc f (as ++ [l] ++ [l]) = cyc f (as ++ [l]) := by
  cases as with
  | nil => simp [cyc, pth, hf, n1]
  | cons a as =>
    show pth f (a :: (as ++ [l] ++ [l]) ++ [a]) = pth f (a :: (as ++ [l]) ++ [a])
    have h1 := pth_split f l [l, a] (a :: as)
    have h2 := pth_split f l [a] (a :: as)
    simp only [List.cons_append, List.append_assoc, List.nil_append] at h1 h2 ⊢
    rw [h1, h2, pth, hf, n1]
    simp
theorem cyc_mid {f : Pt → Pt → Bool} {p m q : Pt} (h : n1 (f p m) + n1 (f m q) = n1 (f p q)) (r : List Pt) : cyc f (p :: m :: q :: r) = cyc f (p :: q :: r) := by
  show pth f (p :: m :: (q :: r ++ [p])) = pth f (p :: (q :: r ++ [p]))
  simp only [List.cons_append, pth]
  omega
/-! ### one edge -/
theorem cntP_sym (x y : Int) (p q : Pt) : cntP p q x y = cntP q p x y := by
  unfold cntP
  by_cases h1 : p.2 ≤ y ∧ y < q.2
  · rw [if_pos h1, if_neg (by omega), if_pos h1]
  · by_cases h2 : q.2 ≤ y ∧ y < p.2
    · rw [if_neg h1, if_pos h2, if_pos h2]
    · rw [if_neg h1, if_neg h2, if_neg h2, if_neg h1]
theorem cntP_self (x y : Int) (p : Pt) : cntP p p x y = false := by
  unfold cntP
  rw [if_neg (by omega), if_neg (by omega)]
theorem cntP_move (x y dx dy : Int) (p q : Pt) : cntP (p.1 + dx, p.2 + dy) (q.1 + dx, q.2 + dy) (x + dx) (y + dy) = cntP p q x y := by
  have key : ∀ a b c d : Int, ((a + dx) * (c + dy - (b + dy)) + (y + dy - (b + dy)) * (d + dx - (a + dx)) ≤ (x + dx) * (c + dy - (b + dy))) ↔ (a * (c - b) + (y - b) * (d - a) ≤ x * (c - b)) := by
    intro a b c d
    rw [show c + dy - (b + dy) = c - b by omega, show y + dy - (b + dy) = y - b by omega, show d + dx - (a + dx) = d - a by omega, Int.add_mul, Int.add_mul]
    omega
  unfold cntP
  by_cases h1 : p.2 ≤ y ∧ y < q.2
  · rw [if_pos h1, if_pos (show p.2 + dy ≤ y + dy ∧ y + dy < q.2 + dy by omega)]
    exact decide_eq_decide.mpr (key _ _ _ _)
  · rw [if_neg h1, if_neg (show ¬ (p.2 + dy ≤ y + dy ∧ y + dy < q.2 + dy) by omega)]
    by_cases h2 : q.2 ≤ y ∧ y < p.2
    · rw [if_pos h2, if_pos (show q.2 + dy ≤ y + dy ∧ y + dy < p.2 + dy by omega)]
      exact decide_eq_decide.mpr (key _ _ _ _)
    · rw [if_neg h2, if_neg (show ¬ (q.2 + dy ≤ y + dy ∧ y + dy < p.2 + dy) by omega)]
/-- the line through two points, asked on a half of it -/
theorem half_lo {a b m n x y : Int} (k l : Int) (ha : m = a + k) (hb : n = b + l) : (a * (n - b) + (y - b) * (m - a) ≤ x * (n - b)) ↔ (a * (b + 2 * l - b) + (y - b) * (a + 2 * k - a) ≤ x * (b + 2 * l - b)) := by
  subst ha hb
  rw [show b + l - b = l by omega, show a + k - a = k by omega, show b + 2 * l - b = 2 * l by omega, show a + 2 * k - a = 2 * k by omega, Int.mul_left_comm a 2 l, Int.mul_left_comm (y - b) 2 k, Int.mul_left_comm x 2 l]
  omega
theorem half_hi {a b m n x y : Int} (k l : Int) (ha : m = a + k) (hb : n = b + l) : (m * (b + 2 * l - n) + (y - n) * (a + 2 * k - m) ≤ x * (b + 2 * l - n)) ↔ (a * (b + 2 * l - b) + (y - b) * (a + 2 * k - a) ≤ x * (b + 2 * l - b)) := by
  subst ha hb
  rw [show b + 2 * l - (b + l) = l by omega, show a + 2 * k - (a + k) = k by omega, show b + 2 * l - b = 2 * l by omega, show a + 2 * k - a = 2 * k by omega, Int.mul_left_comm a 2 l, Int.mul_left_comm (y - b) 2 k, Int.mul_left_comm x 2 l, Int.add_mul,
    show y - (b + l) = y - b - l by omega, Int.sub_mul (y - b), Int.mul_comm k l]
  omega
theorem cntP_mid (x y : Int) {p m q : Pt} (hx : p.1 + q.1 = 2 * m.1) (hy : p.2 + q.2 = 2 * m.2) : n1 (cntP p m x y) + n1 (cntP m q x y) = n1 (cntP p q x y) := by
  have up : ∀ {p m q : Pt}, p.1 + q.1 = 2 * m.1 → p.2 + q.2 = 2 * m.2 → p.2 < q.2 → n1 (cntP p m x y) + n1 (cntP m q x y) = n1 (cntP p q x y) := by
    intro p m q hx hy h
    obtain ⟨k, hk⟩ : ∃ k, m.1 = p.1 + k := ⟨m.1 - p.1, by omega⟩
    obtain ⟨l, hl⟩ : ∃ l, m.2 = p.2 + l := ⟨m.2 - p.2, by omega⟩
    have e1 : q.1 = p.1 + 2 * k := by omega
    have e2 : q.2 = p.2 + 2 * l := by omega
    unfold cntP
    by_cases h0 : p.2 ≤ y ∧ y < q.2
    · rw [if_pos h0]
      by_cases h1 : y < m.2
      · rw [if_pos (show p.2 ≤ y ∧ y < m.2 from ⟨h0.1, h1⟩), if_neg (show ¬ (m.2 ≤ y ∧ y < q.2) by omega), if_neg (show ¬ (q.2 ≤ y ∧ y < m.2) by omega)]
        rw [show n1 false = 0 from rfl, Nat.add_zero, e1, e2]
        congr 1
        exact decide_eq_decide.mpr (half_lo k l hk hl)
      · rw [if_neg (show ¬ (p.2 ≤ y ∧ y < m.2) by omega), if_neg (show ¬ (m.2 ≤ y ∧ y < p.2) by omega), if_pos (show m.2 ≤ y ∧ y < q.2 by omega)]
        rw [show n1 false = 0 from rfl, Nat.zero_add, e1, e2]
        congr 1
        exact decide_eq_decide.mpr (half_hi k l hk hl)
    · rw [if_neg h0, if_neg (show ¬ (q.2 ≤ y ∧ y < p.2) by omega), if_neg (show ¬ (p.2 ≤ y ∧ y < m.2) by omega), if_neg (show ¬ (m.2 ≤ y ∧ y < p.2) by omega), if_neg (show ¬ (m.2 ≤ y ∧ y < q.2) by omega), if_neg (show ¬ (q.2 ≤ y ∧ y < m.2) by omega)]
      rfl
  by_cases h : p.2 < q.2
  · exact up hx hy h
  · by_cases h2 : q.2 < p.2
    · have := up (p := q) (m := m) (q := p) (by omega) (by omega) h2
      rw [cntP_sym x y p m, cntP_sym x y m q, cntP_sym x y p q]
      omega
    · unfold cntP
      rw [if_neg (by omega), if_neg (by omega), if_neg (by omega), if_neg (by omega), if_neg (by omega), if_neg (by omega)]
      rfl
/-! ### all outlines -/
def edC (x y : Int) (ps : List Pt) : Nat := cyc (fun p q => cntP p q x y) ps
def cntO (x y : Int) (os : List (List Pt)) : Nat := (os.map (edC x y)).sum
theorem edges_edC (ps : List Pt) (y : Int) {w c : Nat} (hc : c < w) : (edgesOf ps).countP (fun e => hitE y e && decide (fcE y w e ≤ c)) = edC (4 * (c : Int) + 2) y (ps.map bdp) := by
  unfold edgesOf edC
  rw [List.countP_filterMap, ← zip_cyc]
  refine List.countP_congr fun pq _ => ?_
  rw [edge_cnt _ _ y hc]
theorem edges_cntO : ∀ (os : List (List Pt)) (y : Int) {w c : Nat}, c < w → (edgesAll os).countP (fun e => hitE y e && decide (fcE y w e ≤ c)) = cntO (4 * (c : Int) + 2) y (os.map (List.map bdp))
  | [], _, _, _, _ => rfl
  | ps :: r, y, w, c, hc => by
    have ih := edges_cntO r y hc
    unfold edgesAll cntO at *
    rw [List.flatMap_cons, List.countP_append, edges_edC ps y hc, ih, List.map_cons, List.map_cons, List.sum_cons]
theorem cntO_app (x y : Int) (as bs : List (List Pt)) : cntO x y (as ++ bs) = cntO x y as + cntO x y bs := by
  unfold cntO
  rw [List.map_append, List.sum_append]
theorem cntO_rev (x y : Int) : ∀ os : List (List Pt), cntO x y os.reverse = cntO x y os
  | [] => rfl
  | p :: r => by
    rw [List.reverse_cons, cntO_app, cntO_rev x y r]
    show cntO x y r + (edC x y p + 0) = edC x y p + cntO x y r
    omega
/-- near points are their own bounds -/
def Near (os : List (List Pt)) : Prop := ∀ ps ∈ os, ∀ p ∈ ps, (-1000 ≤ p.1 ∧ p.1 ≤ 1000) ∧ (-1000 ≤ p.2 ∧ p.2 ≤ 1000)
theorem bd_near {x : Int} (h : -1000 ≤ x ∧ x ≤ 1000) : bd x = x := by
  unfold bd
  rw [if_neg (by omega), if_neg (by omega)]
theorem near_bdp {os : List (List Pt)} (h : Near os) : os.map (List.map bdp) = os := by
  refine (List.map_congr_left fun ps hp => ?_).trans (List.map_id _)
  refine (List.map_congr_left fun p hq => ?_).trans (List.map_id _)
  obtain ⟨h1, h2⟩ := h ps hp p hq
  show (bd p.1, bd p.2) = p
  rw [bd_near h1, bd_near h2]
def parO (os : List (List Pt)) (x y : Int) : Bool := decide (cntO x y os % 2 = 1)
theorem par_near {os : List (List Pt)} (h : Near os) (y : Int) {w c : Nat} (hc : c < w) : parE (edgesAll os) y w c = parO os (4 * (c : Int) + 2) y := by
  unfold parE parO
  rw [edges_cntO os y hc, near_bdp h]
/-! ### a filled field of zeros, cell by cell -/
def cellF (os : List (List Pt)) (c0 c1 c2 c3 : Int) (w k : Nat) : Int :=
  if inW c1 c3 (k / w) ∧ inW c0 c2 (k % w) ∧ parO os (4 * ((k % w : Nat) : Int) + 2) (4 * ((k / w : Nat) : Int) + 2) = true then 1 else 0
theorem fold_cells {es : List Edge} {w r : Nat} (hw : 0 < w) : ∀ (cols : List Nat) (p : List Int), (∀ c ∈ cols, c < w) → ∀ k, k < p.length → (cols.foldl (fcell es 1 w r) p)[k]? = if k / w = r ∧ k % w ∈ cols ∧ parE es (4 * (r : Int) + 2) w (k % w) = true then some 1 else p[k]?
  | [], p, _, k, hk => by
    rw [List.foldl_nil, if_neg (fun z => nomatch z.2.1)]
  | c :: r2, p, hc, k, hk => by
    have hcw := hc c List.mem_cons_self
    rw [List.foldl_cons, fold_cells hw r2 _ (fun x hx => hc x (List.mem_cons_of_mem _ hx)) k (by rw [fcell_len]; exact hk)]
    by_cases h1 : k / w = r ∧ k % w ∈ r2 ∧ parE es (4 * (r : Int) + 2) w (k % w) = true
    · rw [if_pos h1, if_pos ⟨h1.1, List.mem_cons_of_mem _ h1.2.1, h1.2.2⟩]
    · rw [if_neg h1]
      unfold fcell
      by_cases h2 : k = r * w + c
      · have d1 : k / w = r := by rw [h2, Nat.mul_comm, Nat.mul_add_div hw, Nat.div_eq_of_lt hcw, Nat.add_zero]
        have d2 : k % w = c := by rw [h2, Nat.mul_comm, Nat.mul_add_mod, Nat.mod_eq_of_lt hcw]
        by_cases h3 : parE es (4 * (r : Int) + 2) w c = true
        · rw [if_pos h3, if_pos ⟨d1, by rw [d2]; exact List.mem_cons_self, by rw [d2]; exact h3⟩, ← h2, List.getElem?_set_self hk]
        · rw [if_neg h3, if_neg (fun z => h3 (by have := z.2.2; rw [d2] at this; exact this))]
      · have ne : ¬ (k / w = r ∧ k % w ∈ c :: r2 ∧ parE es (4 * (r : Int) + 2) w (k % w) = true) := fun z => by
          rcases List.mem_cons.mp z.2.1 with e | e
          · refine h2 ?_
            have := Nat.div_add_mod k w
            rw [z.1, e, Nat.mul_comm] at this
            exact this.symm
          · exact h1 ⟨z.1, e, z.2.2⟩
        rw [if_neg ne]
        split
        · rw [List.getElem?_set_ne (fun z => h2 z.symm)]
        · rfl
theorem fold_rows {es : List Edge} {w : Nat} (hw : 0 < w) (cols : List Nat) (hc : ∀ c ∈ cols, c < w) : ∀ (rows : List Nat) (p : List Int), ∀ k, k < p.length → (rows.foldl (frow es 1 w cols) p)[k]? = if k / w ∈ rows ∧ k % w ∈ cols ∧ parE es (4 * ((k / w : Nat) : Int) + 2) w (k % w) = true then some 1 else p[k]?
  | [], p, k, hk => by rw [List.foldl_nil, if_neg (fun z => nomatch z.1)]
  | r :: r2, p, k, hk => by
    rw [List.foldl_cons, fold_rows hw cols hc r2 _ k (by rw [frow_len]; exact hk)]
    by_cases h1 : k / w ∈ r2 ∧ k % w ∈ cols ∧ parE es (4 * ((k / w : Nat) : Int) + 2) w (k % w) = true
    · rw [if_pos h1, if_pos ⟨List.mem_cons_of_mem _ h1.1, h1.2⟩]
    · rw [if_neg h1]
      unfold frow
      rw [fold_cells hw cols p hc k hk]
      by_cases h2 : k / w = r ∧ k % w ∈ cols ∧ parE es (4 * (r : Int) + 2) w (k % w) = true
      · rw [if_pos h2, if_pos ⟨by rw [h2.1]; exact List.mem_cons_self, h2.2.1, by rw [h2.1]; exact h2.2.2⟩]
      · rw [if_neg h2, if_neg]
        rintro ⟨z1, z2, z3⟩
        rcases List.mem_cons.mp z1 with e | e
        · exact h2 ⟨e, z2, by rw [e] at z3; exact z3⟩
        · exact h1 ⟨e, z2, z3⟩
theorem mem_wi {b e : Int} {n k : Nat} : k ∈ wi b e n ↔ k < n ∧ inW b e k := by
  unfold wi
  rw [List.mem_filter, List.mem_range, decide_eq_true_eq]
def cellsF (os : List (List Pt)) (c0 c1 c2 c3 : Int) (w h : Nat) : List Int := (List.range (w * h)).map (cellF os c0 c1 c2 c3 w)
theorem fil_cells {os : List (List Pt)} (hn : Near os) {c0 c1 c2 c3 : Int} {w h : Nat} (hw : 0 < w) : fil (edgesAll os) c0 c1 c2 c3 1 w h (List.replicate (w * h) 0) = cellsF os c0 c1 c2 c3 w h := by
  refine List.ext_getElem? fun k => ?_
  unfold fil cellsF
  by_cases hk : k < w * h
  · have hd : k / w < h := Nat.div_lt_of_lt_mul hk
    have hm : k % w < w := Nat.mod_lt _ hw
    rw [fold_rows hw _ (fun c hc => (mem_wi.mp hc).1) _ _ k (by rw [List.length_replicate]; exact hk), List.getElem?_map, List.getElem?_range hk, List.getElem?_replicate, if_pos hk, par_near hn _ hm]
    unfold cellF
    by_cases z : inW c1 c3 (k / w) ∧ inW c0 c2 (k % w) ∧ parO os (4 * ((k % w : Nat) : Int) + 2) (4 * ((k / w : Nat) : Int) + 2) = true
    · rw [if_pos ⟨mem_wi.mpr ⟨hd, z.1⟩, mem_wi.mpr ⟨hm, z.2.1⟩, z.2.2⟩, Option.map_some, if_pos z]
    · rw [if_neg (fun y => z ⟨(mem_wi.mp y.1).2, (mem_wi.mp y.2.1).2, y.2.2⟩), Option.map_some, if_neg z]
  · rw [List.getElem?_eq_none (by rw [foldl_len frow_len, List.length_replicate]; omega), List.getElem?_eq_none (by rw [List.length_map, List.length_range]; omega)]
/-! ### the claims of the law -/
theorem cellF_01 (os : List (List Pt)) (c0 c1 c2 c3 : Int) (w k : Nat) : cellF os c0 c1 c2 c3 w k = 0 ∨ cellF os c0 c1 c2 c3 w k = 1 := by
  unfold cellF
  split
  · exact .inr rfl
  · exact .inl rfl
theorem cellF_xor (as bs : List (List Pt)) (c0 c1 c2 c3 : Int) (w k : Nat) : cellF (as ++ bs) c0 c1 c2 c3 w k = if cellF as c0 c1 c2 c3 w k = cellF bs c0 c1 c2 c3 w k then 0 else 1 := by
  unfold cellF parO
  rw [cntO_app]
  by_cases h1 : inW c1 c3 (k / w)
  · by_cases h2 : inW c0 c2 (k % w)
    · simp only [h1, h2, true_and, decide_eq_true_eq]
      rcases Nat.mod_two_eq_zero_or_one (cntO (4 * ((k % w : Nat) : Int) + 2) (4 * ((k / w : Nat) : Int) + 2) as) with ea | ea <;>
      rcases Nat.mod_two_eq_zero_or_one (cntO (4 * ((k % w : Nat) : Int) + 2) (4 * ((k / w : Nat) : Int) + 2) bs) with eb | eb <;>
      rw [Nat.add_mod, ea, eb] <;> decide
    · simp [h2]
  · simp [h1]
theorem cellF_comm (as bs : List (List Pt)) (c0 c1 c2 c3 : Int) (w k : Nat) : cellF (bs ++ as) c0 c1 c2 c3 w k = cellF (as ++ bs) c0 c1 c2 c3 w k := by
  unfold cellF parO
  rw [cntO_app, cntO_app, Nat.add_comm]
theorem cellF_twice (as : List (List Pt)) (c0 c1 c2 c3 : Int) (w k : Nat) : cellF (as ++ as) c0 c1 c2 c3 w k = 0 := by rw [cellF_xor, if_pos rfl]
def mvP (dx dy : Int) (p : Pt) : Pt := (p.1 + dx, p.2 + dy)
theorem pth_move (x y dx dy : Int) : ∀ l : List Pt, pth (fun p q => cntP p q (x + dx) (y + dy)) (l.map (mvP dx dy)) = pth (fun p q => cntP p q x y) l
  | [] => rfl
  | [_] => rfl
  | p :: q :: r => by
    have ih := pth_move x y dx dy (q :: r)
    rw [List.map_cons] at ih
    rw [List.map_cons, List.map_cons, pth, pth, ih]
    congr 2
    exact cntP_move x y dx dy p q
theorem edC_move (x y dx dy : Int) (l : List Pt) : edC (x + dx) (y + dy) (l.map (mvP dx dy)) = edC x y l := by
  unfold edC
  cases l with
  | nil => rfl
  | cons p r =>
    have := pth_move x y dx dy (p :: r ++ [p])
    rw [List.map_append, List.map_cons, List.map_singleton] at this
    exact this
theorem cntO_move (x y dx dy : Int) (os : List (List Pt)) : cntO (x + dx) (y + dy) (os.map (List.map (mvP dx dy))) = cntO x y os := by
  unfold cntO
  rw [List.map_map]
  congr 1
  exact List.map_congr_left fun l _ => edC_move x y dx dy l
/-- one way to tell an outline otherwise keeps its count everywhere -/
def SameO (as bs : List Pt) : Prop := ∀ x y, edC x y as = edC x y bs
theorem same_rot (as bs : List Pt) : SameO (bs ++ as) (as ++ bs) := fun x y => cyc_rot _ as bs
theorem same_rev (l : List Pt) : SameO l.reverse l := fun x y => cyc_rev (fun p q => cntP_sym x y p q) l
theorem same_last (as : List Pt) (l : Pt) : SameO (as ++ [l] ++ [l]) (as ++ [l]) := fun x y => cyc_last (fun p => cntP_self x y p) as l
theorem same_mid {p m q : Pt} (hx : p.1 + q.1 = 2 * m.1) (hy : p.2 + q.2 = 2 * m.2) (r : List Pt) : SameO (p :: m :: q :: r) (p :: q :: r) := fun x y => cyc_mid (cntP_mid x y hx hy) r
theorem SameO.trans {a b c : List Pt} (h : SameO a b) (k : SameO b c) : SameO a c := fun x y => (h x y).trans (k x y)
theorem cntO_same {as bs : List (List Pt)} (h : All2 SameO as bs) (x y : Int) : cntO x y as = cntO x y bs := by
  induction h with
  | nil => rfl
  | cons r _ ih =>
    unfold cntO at *
    rw [List.map_cons, List.map_cons, List.sum_cons, List.sum_cons, r x y, ih]
theorem cellF_same {as bs : List (List Pt)} (h : ∀ x y, cntO x y as = cntO x y bs) (c0 c1 c2 c3 : Int) (w k : Nat) : cellF as c0 c1 c2 c3 w k = cellF bs c0 c1 c2 c3 w k := by
  unfold cellF parO
  rw [h]
theorem cellF_move (os : List (List Pt)) {c0 c1 c2 c3 m0 m1 m2 m3 : Int} {w h A D x y : Nat} (hx : x < w + A) (hy : y < h + D) (e0 : m0 = mx (4 * (A : Int)) (c0 + 4 * A)) (e1 : m1 = mx (4 * (D : Int)) (c1 + 4 * D))
    (e2 : m2 = mn (4 * ((w : Int) + A)) (c2 + 4 * A)) (e3 : m3 = mn (4 * ((h : Int) + D)) (c3 + 4 * D)) :
    cellF (os.map (List.map (mvP (4 * (A : Int)) (4 * (D : Int))))) m0 m1 m2 m3 (w + A) (y * (w + A) + x) = if A ≤ x ∧ D ≤ y then cellF os c0 c1 c2 c3 w ((y - D) * w + (x - A)) else 0 := by
  have hd : (y * (w + A) + x) / (w + A) = y := by rw [Nat.mul_comm, Nat.mul_add_div (by omega), Nat.div_eq_of_lt hx, Nat.add_zero]
  have hm : (y * (w + A) + x) % (w + A) = x := by rw [Nat.mul_comm, Nat.mul_add_mod, Nat.mod_eq_of_lt hx]
  unfold cellF
  rw [hd, hm]
  by_cases hc : A ≤ x ∧ D ≤ y
  · rw [if_pos hc]
    obtain ⟨x', rfl⟩ := Nat.exists_eq_add_of_le hc.1
    obtain ⟨y', rfl⟩ := Nat.exists_eq_add_of_le hc.2
    have hx' : x' < w := by omega
    rw [show D + y' - D = y' by omega, show A + x' - A = x' by omega]
    have hd' : (y' * w + x') / w = y' := by rw [Nat.mul_comm, Nat.mul_add_div (by omega), Nat.div_eq_of_lt hx', Nat.add_zero]
    have hm' : (y' * w + x') % w = x' := by rw [Nat.mul_comm, Nat.mul_add_mod, Nat.mod_eq_of_lt hx']
    rw [hd', hm']
    have k1 : inW m1 m3 (D + y') ↔ inW c1 c3 y' := by
      subst e1 e3
      unfold inW mx mn
      split <;> split <;> omega
    have k0 : inW m0 m2 (A + x') ↔ inW c0 c2 x' := by
      subst e0 e2
      unfold inW mx mn
      split <;> split <;> omega
    have kp : parO (os.map (List.map (mvP (4 * (A : Int)) (4 * (D : Int))))) (4 * ((A + x' : Nat) : Int) + 2) (4 * ((D + y' : Nat) : Int) + 2) = parO os (4 * (x' : Int) + 2) (4 * (y' : Int) + 2) := by
      unfold parO
      rw [show 4 * ((A + x' : Nat) : Int) + 2 = (4 * (x' : Int) + 2) + 4 * (A : Int) by omega, show 4 * ((D + y' : Nat) : Int) + 2 = (4 * (y' : Int) + 2) + 4 * (D : Int) by omega, cntO_move]
    by_cases z : inW c1 c3 y' ∧ inW c0 c2 x' ∧ parO os (4 * (x' : Int) + 2) (4 * (y' : Int) + 2) = true
    · rw [if_pos z, if_pos ⟨k1.mpr z.1, k0.mpr z.2.1, by rw [kp]; exact z.2.2⟩]
    · rw [if_neg z, if_neg (fun t => z ⟨k1.mp t.1, k0.mp t.2.1, by rw [← kp]; exact t.2.2⟩)]
  · rw [if_neg hc, if_neg]
    rintro ⟨z1, z0, _⟩
    refine hc ⟨?_, ?_⟩
    · subst e0
      have := z0.1
      unfold mx at this
      split at this <;> omega
    · subst e1
      have := z1.1
      unfold mx at this
      split at this <;> omega

def nearP (p : Pt) : Pt := (mx (-900) (mn 900 p.1), mx (-900) (mn 900 p.2))
theorem near_nearP (os : List (List Pt)) : Near (os.map (List.map nearP)) := by
  intro ps hp p hq
  obtain ⟨ps0, _, rfl⟩ := List.mem_map.mp hp
  obtain ⟨p0, _, rfl⟩ := List.mem_map.mp hq
  unfold nearP mx mn
  refine ⟨⟨?_, ?_⟩, ?_, ?_⟩ <;> simp only [] <;> (repeat' split) <;> omega
def sp__law_near (K : PySem.W.Frag) : Sp := fun vs H Q _ => ∃ (aO : Addr) (os : List (List Pt)), vs = [.ref aO] ∧ (Outs H aO os) ∧ (os.length ≤ 1000 ∧ ∀ ps ∈ os, ps.length ≤ 1000) ∧ (∀ H' p, Same H H' → H p = none → Outs H' p (os.map (List.map nearP)) → Q (.ref p) H')
theorem ok__law_near (T : Txt K mg) : FnOk P w K mg base CX0 1 T.f__law_near T.fd__law_near ["outlines"] (sp__law_near K) := by
  refine T.F__law_near.ok sc__law_near (fun vs H Q E h => ?_) (fun cdv A outer s H vs Q E hr h => ?_)
  · obtain ⟨aO, os, rfl, _⟩ := h
    rfl
  · obtain ⟨aO, os, rfl, hO, hn, q⟩ := h
    refine ⟨_, (pss_one (ps_ret (pe_callTy call_tupleL (by rfl) T.z_tuple (by decide +kernel) (pa_cons (pe_lc (own := [("outline", 1)]) (g := (gName 1)) rfl sc__law_near.nd (pi_tupS (pv 0)) (blkOk_by (own := [("outline", 1)]) (N := ["outlines", "outline", "x", "y"]) (sc := defScope s__law_near) (by decide +kernel)) (fun _ _ _ _ _ => (pg_name (i := 1) sc__law_near.nd rfl (Or.inl rfl))) (fun _ _ _ _ _ => pts_nil) (fun _ _ _ _ _ => (by exact (pe_callTy call_tupleL (by rfl) T.z_tuple (by decide +kernel) (pa_cons (pe_lc (own := [("x", 2), ("y", 3)]) (g := _) rfl sc__law_near.nd (by exact (pi_tupK (K := K) (pv 1))) (blkOk_by (own := [("x", 2), ("y", 3)]) (N := ["outlines", "outline", "x", "y"]) (by kernel_rfl)) (fun _ _ _ _ _ => (pg_tupS (n := 2) (by rfl) (pgs_cons (pg_name (i := 2) sc__law_near.nd rfl (Or.inl rfl)) (pgs_cons (pg_name (i := 3) sc__law_near.nd rfl (Or.inl rfl)) pgs_nil)))) (fun _ _ _ _ _ => pts_nil) (fun _ _ _ _ _ => (pe_tupS (pa_cons (pe_callB (call_max2 rfl) (by rfl) T.z_max (by decide +kernel) (pa_cons (pe_un un_neg pe_int) (pa_cons (pe_callB (call_min2 rfl) (by rfl) T.z_min (by decide +kernel) (pa_cons pe_int (pa_cons (pv 2) pa_nil))) pa_nil))) (pa_cons (pe_callB (call_max2 rfl) (by rfl) T.z_max (by decide +kernel) (pa_cons (pe_un un_neg pe_int) (pa_cons (pe_callB (call_min2 rfl) (by rfl) T.z_min (by decide +kernel) (pa_cons pe_int (pa_cons (pv 3) pa_nil))) pa_nil))) pa_nil))))) pa_nil))))) pa_nil)))), ?_⟩
    obtain ⟨ws, gO, hO⟩ := hO
    walk_at "vc gO"
    refine lcW (walkT (xs := ws)) (fun D i H1 => Same H H1 ∧ ∃ us, H1 D = some (.lst us) ∧ All2 (OutV H1) us ((os.map (List.map nearP)).take i)) (fun D H1 s1 n1 g1 => ⟨s1, [], g1, .nil⟩) (fun D i H1 _ _ h => h.1 _ _ gO) (fun D i y H1 H2 hi n1 h y2 => ?_) (fun D H1 n1 h => ?_)
    · obtain ⟨rfl, hy⟩ := y2
      obtain ⟨s1, us, gu, hu⟩ := h
      obtain ⟨ps, hps, ap, vs, rfl, gp, hp⟩ := hO.at hy
      have gp1 := s1 _ _ gp
      have hpn := hn.2 _ (List.mem_of_getElem? hps)
      have hpl := hp.len
      walk_at "vc gp1"
      refine lcW (walkT (xs := vs)) (fun E j H3 => Same H2 H3 ∧ ∃ ws, H3 E = some (.lst ws) ∧ All2 (PtV H3) ws ((ps.map nearP).take j)) (fun D H3 s3 n3 g3 => ⟨s3, [], g3, .nil⟩) (fun D j H3 _ _ h => h.1 _ _ gp1) (fun E j y H3 H4 hj n3 h y4 => ?_) (fun E H3 n3 h => ?_)
      · obtain ⟨rfl, hy⟩ := y4
        obtain ⟨s3, ws, gw, hw⟩ := h
        obtain ⟨pt, hpt, aq, rfl, gq⟩ := hp.at hy
        have gq4 := s3 _ _ (s1 _ _ gq)
        walk_at "vc gq4"
        intro t H5 s5 n5 g5
        have gw5 := s5 _ _ gw
        have hwl := hw.len
        rw [List.length_take, List.length_map] at hwl
        walk_at "vc gw5"
        refine ⟨cnt_lt (by omega), same_upd2 (s3.trans s5) n3, ?_⟩
        rw [take_map_succ nearP hpt]
        exact (hw.mono (fun v p h => (PtV.mono s5 v p h).upd gw5)).snoc ⟨t, rfl, tup_upd g5 gw5⟩
      · obtain ⟨s3, ws, gw, hw⟩ := h
        rw [hpl, show ps.length = (ps.map nearP).length by rw [List.length_map], List.take_length] at hw
        have gu3 := s3 _ _ gu
        have hul := hu.len
        rw [List.length_take, List.length_map] at hul
        have hio := hO.len
        walk_at "vc gw"
        intro t H5 s5 n5 g5
        have gu5 := s5 _ _ gu3
        walk_at "vc gu5"
        refine ⟨cnt_lt (by omega), same_upd2 (s1.trans (s3.trans s5)) n1, ?_⟩
        rw [take_map_succ (List.map nearP) hps]
        exact (hu.mono (fun v p h => (OutV.mono (s3.trans s5) v p h).upd gu5)).snoc ⟨t, ws, rfl, tup_upd g5 gu5, hw.mono fun v p h => (PtV.mono s5 v p h).upd gu5⟩
    · obtain ⟨s1, us, gu, hu⟩ := h
      rw [hO.len, show os.length = (os.map (List.map nearP)).length by rw [List.length_map], List.take_length] at hu
      walk_at "vc gu"
      intro t H2 s2 n2 g2
      exact q H2 t (s1.trans s2) (s1.free n2) ⟨us, g2, hu.mono (OutV.mono s2)⟩
def sp__law_moved (K : PySem.W.Frag) : Sp := fun vs H Q _ => ∃ (aO : Addr) (os : List (List Pt)) (dx dy : Int), vs = [.ref aO, .int dx, .int dy] ∧ (Outs H aO os) ∧ (os.length ≤ 1000 ∧ ∀ ps ∈ os, ps.length ≤ 1000) ∧ (∀ H' p, Same H H' → H p = none → Outs H' p (os.map (List.map (mvP dx dy))) → Q (.ref p) H')
theorem ok__law_moved (T : Txt K mg) : FnOk P w K mg base CX0 1 T.f__law_moved T.fd__law_moved ["outlines", "dx", "dy"] (sp__law_moved K) := by
  refine T.F__law_moved.ok sc__law_moved (fun vs H Q E h => ?_) (fun cdv A outer s H vs Q E hr h => ?_)
  · obtain ⟨aO, os, dx, dy, rfl, _⟩ := h
    rfl
  · obtain ⟨aO, os, dx, dy, rfl, hO, hn, q⟩ := h
    refine ⟨_, (pss_one (ps_ret (pe_callTy call_tupleL (by rfl) T.z_tuple (by decide +kernel) (pa_cons (pe_lc (own := [("outline", 3)]) (g := (gName 3)) rfl sc__law_moved.nd (pi_tupS (pv 0)) (blkOk_by (own := [("outline", 3)]) (N := ["outlines", "dx", "dy", "outline", "x", "y"]) (sc := defScope s__law_moved) (by decide +kernel)) (fun _ _ _ _ _ => (pg_name (i := 3) sc__law_moved.nd rfl (Or.inl rfl))) (fun _ _ _ _ _ => pts_nil) (fun _ _ _ _ _ => (by exact (pe_callTy call_tupleL (by rfl) T.z_tuple (by decide +kernel) (pa_cons (pe_lc (own := [("x", 4), ("y", 5)]) (g := _) rfl sc__law_moved.nd (by exact (pi_tupK (K := K) (pv 3))) (blkOk_by (own := [("x", 4), ("y", 5)]) (N := ["outlines", "dx", "dy", "outline", "x", "y"]) (by kernel_rfl)) (fun _ _ _ _ _ => (pg_tupS (n := 2) (by rfl) (pgs_cons (pg_name (i := 4) sc__law_moved.nd rfl (Or.inl rfl)) (pgs_cons (pg_name (i := 5) sc__law_moved.nd rfl (Or.inl rfl)) pgs_nil)))) (fun _ _ _ _ _ => pts_nil) (fun _ _ _ _ _ => (pe_tupS (pa_cons (pe_op op_add (pv 4) (pv 1)) (pa_cons (pe_op op_add (pv 5) (pv 2)) pa_nil))))) pa_nil))))) pa_nil)))), ?_⟩
    obtain ⟨ws, gO, hO⟩ := hO
    walk_at "vc gO"
    refine lcW (walkT (xs := ws)) (fun D i H1 => Same H H1 ∧ ∃ us, H1 D = some (.lst us) ∧ All2 (OutV H1) us ((os.map (List.map (mvP dx dy))).take i)) (fun D H1 s1 n1 g1 => ⟨s1, [], g1, .nil⟩) (fun D i H1 _ _ h => h.1 _ _ gO) (fun D i y H1 H2 hi n1 h y2 => ?_) (fun D H1 n1 h => ?_)
    · obtain ⟨rfl, hy⟩ := y2
      obtain ⟨s1, us, gu, hu⟩ := h
      obtain ⟨ps, hps, ap, vs, rfl, gp, hp⟩ := hO.at hy
      have gp1 := s1 _ _ gp
      have hpn := hn.2 _ (List.mem_of_getElem? hps)
      have hpl := hp.len
      walk_at "vc gp1"
      refine lcW (walkT (xs := vs)) (fun E j H3 => Same H2 H3 ∧ ∃ ws, H3 E = some (.lst ws) ∧ All2 (PtV H3) ws ((ps.map (mvP dx dy)).take j)) (fun D H3 s3 n3 g3 => ⟨s3, [], g3, .nil⟩) (fun D j H3 _ _ h => h.1 _ _ gp1) (fun E j y H3 H4 hj n3 h y4 => ?_) (fun E H3 n3 h => ?_)
      · obtain ⟨rfl, hy⟩ := y4
        obtain ⟨s3, ws, gw, hw⟩ := h
        obtain ⟨pt, hpt, aq, rfl, gq⟩ := hp.at hy
        have gq4 := s3 _ _ (s1 _ _ gq)
        walk_at "vc gq4"
        intro t H5 s5 n5 g5
        have gw5 := s5 _ _ gw
        have hwl := hw.len
        rw [List.length_take, List.length_map] at hwl
        walk_at "vc gw5"
        refine ⟨cnt_lt (by omega), same_upd2 (s3.trans s5) n3, ?_⟩
        rw [take_map_succ (mvP dx dy) hpt]
        exact (hw.mono (fun v p h => (PtV.mono s5 v p h).upd gw5)).snoc ⟨t, rfl, tup_upd g5 gw5⟩
      · obtain ⟨s3, ws, gw, hw⟩ := h
        rw [hpl, show ps.length = (ps.map (mvP dx dy)).length by rw [List.length_map], List.take_length] at hw
        have gu3 := s3 _ _ gu
        have hul := hu.len
        rw [List.length_take, List.length_map] at hul
        have hio := hO.len
        walk_at "vc gw"
        intro t H5 s5 n5 g5
        have gu5 := s5 _ _ gu3
        walk_at "vc gu5"
        refine ⟨cnt_lt (by omega), same_upd2 (s1.trans (s3.trans s5)) n1, ?_⟩
        rw [take_map_succ (List.map (mvP dx dy)) hps]
        exact (hu.mono (fun v p h => (OutV.mono (s3.trans s5) v p h).upd gu5)).snoc ⟨t, ws, rfl, tup_upd g5 gu5, hw.mono fun v p h => (PtV.mono s5 v p h).upd gu5⟩
    · obtain ⟨s1, us, gu, hu⟩ := h
      rw [hO.len, show os.length = (os.map (List.map (mvP dx dy))).length by rw [List.length_map], List.take_length] at hu
      walk_at "vc gu"
      intro t H2 s2 n2 g2
      exact q H2 t (s1.trans s2) (s1.free n2) ⟨us, g2, hu.mono (OutV.mono s2)⟩
def sp__law_cells (K : PySem.W.Frag) : Sp := fun vs H Q _ => ∃ (aK aO : Addr) (w h : Nat) (c0 c1 c2 c3 : Int) (os : List (List Pt)), vs = [.int (w : Int), .int (h : Int), .ref aK, .ref aO] ∧ (H aK = some (.tup [.int c0, .int c1, .int c2, .int c3])) ∧ (Outs H aO os) ∧ (Near os) ∧ (1 ≤ w ∧ w ≤ 100) ∧ (h ≤ 100) ∧ (os.length ≤ 1000 ∧ ∀ ps ∈ os, ps.length ≤ 1000) ∧ (∀ H' c, Same H H' → H c = none → H' c = some (.lst (List.map V.int (cellsF os c0 c1 c2 c3 w h))) → Q (.ref c) H')
theorem ok__law_cells (T : Txt K mg) : FnOk P w K mg base CX0 4 T.f__law_cells T.fd__law_cells ["width", "height", "clip", "outlines"] (sp__law_cells K) := by
  refine T.F__law_cells.ok sc__law_cells (fun vs H Q E h => ?_) (fun cdv A outer s H vs Q E hr h => ?_)
  · obtain ⟨aK, aO, w, h, c0, c1, c2, c3, os, rfl, _⟩ := h
    rfl
  · obtain ⟨aK, aO, w, h, c0, c1, c2, c3, os, rfl, hK, hO, hN, hw, hh, hn, q⟩ := h
    refine ⟨_, (pss_one (ps_ret (pe_ix ix_tupH (pe_call (ok_fill T) hr (by rfl) T.g_fill T.F_fill.kp T.b_fill .nil pass0 (pa_cons (pe_tupS (pa_cons (pv 0) (pa_cons (pv 1) (pa_cons (pe_op op_repS (pe_lstS (pa_cons pe_int pa_nil)) (pe_op op_mul (pv 0) (pv 1))) pa_nil)))) (pa_cons (pv 2) (pa_cons (pv 3) (pa_cons pe_int pa_nil))))) pe_int (fun _ _ => rfl)))), ?_⟩
    walk_at "vc sp_fill"
    have hwh : w * h ≤ 100 * 100 := Nat.mul_le_mul hw.2 hh
    refine fun p1 H1 s1 n1 g1 => ⟨.inl ⟨by omega, by omega⟩, _, g1, by rw [← Int.natCast_mul]; omega, by rw [← Int.natCast_mul]; omega, fun p2 H2 s2 n2 g2 p3 H3 s3 n3 g3 => ?_⟩
    have s13 := s1.trans (s2.trans s3)
    refine ⟨p2, w, h, g3, List.replicate (w * h) 0, by rw [s3 _ _ g2, List.map_replicate], c0, c1, c2, c3, s13 _ _ hK, os, hO.mono s13, List.length_replicate, by omega, hh, hn.1, hn.2, fun H4 p4 p5 s4 n4 n5 g4 g5 => ⟨_, g4, _, rfl, q H4 p5 (s13.trans s4) (s13.free n5) ?_⟩⟩
    rw [g5, fil_cells hN (by omega)]
def sp__law_told_otherwise (K : PySem.W.Frag) : Sp := fun vs H Q _ => ∃ (aO : Addr) (os : List (List Pt)) (c : Int), vs = [.ref aO, .int c] ∧ (Outs H aO os) ∧ (0 ≤ c) ∧ (Near os) ∧ (os.length ≤ 100 ∧ ∀ ps ∈ os, 1 ≤ ps.length ∧ ps.length ≤ 100) ∧ (∀ H' p os', Same H H' → H p = none → Outs H' p os' → (∀ x y, cntO x y os' = cntO x y os) → Near os' → (os'.length ≤ 1000 ∧ ∀ ps ∈ os', ps.length ≤ 1000) → Q (.ref p) H')
theorem ok__law_told_otherwise (T : Txt K mg) : FnOk P w K mg base CX0 1 T.f__law_told_otherwise T.fd__law_told_otherwise ["outlines", "cell"] (sp__law_told_otherwise K) := by
  refine T.F__law_told_otherwise.ok sc__law_told_otherwise (fun vs H Q E h => ?_) (fun cdv A outer s H vs Q E hr h => ?_)
  · obtain ⟨aO, os, c, rfl, _⟩ := h
    rfl
  · obtain ⟨aO, os, c, rfl, hO, hc, hN, hn, q⟩ := h
    refine ⟨_, (pss_cons (ps_set (i := 2) sc__law_told_otherwise.nd rfl (Or.inl rfl) (pe_lstS pa_nil))
      (pss_cons (ps_for PassesOwn.never rfl (pi_tupS (pv 0)) (pg_name (i := 3) sc__law_told_otherwise.nd rfl (Or.inl rfl)) (pss_cons (ps_set (i := 4) sc__law_told_otherwise.nd rfl (Or.inl rfl) (pe_op op_mod (pe_callTy call_int1 (by rfl) T.z_int (by decide +kernel) (pa_cons (pv 1) pa_nil)) (pe_callB call_lenT (by rfl) T.z_len PySem.boot_len (pa_cons (pv 3) pa_nil))))
      (pss_cons (ps_set (i := 5) sc__law_told_otherwise.nd rfl (Or.inl rfl) (pe_callTy call_listT (by rfl) T.z_list (by decide +kernel) (pa_cons (pe_op op_catTS (pe_slice sl_tupS (pv 3) (po_some (pv 4)) po_none) (pe_slice sl_tupS (pv 3) po_none (po_some (pv 4)))) pa_nil)))
      (pss_cons (ps_if (pt_cmpR op_eq (pe_op op_and (pe_callTy call_int1 (by rfl) T.z_int (by decide +kernel) (pa_cons (pe_op op_fdiv (pv 1) pe_int) pa_nil)) pe_int) pe_int (nomark _)) (pss_one (ps_set (i := 5) sc__law_told_otherwise.nd rfl (Or.inl rfl) (pe_lstRev rfl (by rfl) T.z_list (by rfl) T.z_reversed (pv 5)))) pss_nil)
      (pss_cons (ps_if (pt_cmpR op_eq (pe_op op_and (pe_callTy call_int1 (by rfl) T.z_int (by decide +kernel) (pa_cons (pe_op op_fdiv (pv 1) pe_int) pa_nil)) pe_int) pe_int (nomark _)) (pss_one (ps_expr (pe_ml (pe_bm PySem.F.plainAttrs_list PySem.F.slot_list_append PySem.F.type_list_append mt_append (pe_mono (pv 5)) (pa_cons (pe_ix ix_listH (pv 5) (pe_op op_sub (pe_callB call_lenH (by rfl) T.z_len PySem.boot_len (pa_cons (pv 5) pa_nil)) pe_int) (fun _ _ => rfl)) pa_nil))))) pss_nil)
      (pss_cons (ps_if (PW.pt (pw_and (pt_cmpR op_eq (pe_op op_and (pe_callTy call_int1 (by rfl) T.z_int (by decide +kernel) (pa_cons (pe_op op_fdiv (pv 1) pe_int) pa_nil)) pe_int) pe_int (nomark _)) (pw_and1 (pt_cmpR op_gt (pe_callB call_lenH (by rfl) T.z_len PySem.boot_len (pa_cons (pv 5) pa_nil)) pe_int (nomark _))))) (pss_cons (ps_set (i := 6) sc__law_told_otherwise.nd rfl (Or.inl rfl) (pe_op op_add (pe_ix ix_tupH (pe_ix ix_listH (pv 5) pe_int (fun _ _ => rfl)) pe_int (fun _ _ => rfl)) (pe_ix ix_tupH (pe_ix ix_listH (pv 5) pe_int (fun _ _ => rfl)) pe_int (fun _ _ => rfl))))
      (pss_cons (ps_set (i := 7) sc__law_told_otherwise.nd rfl (Or.inl rfl) (pe_op op_add (pe_ix ix_tupH (pe_ix ix_listH (pv 5) pe_int (fun _ _ => rfl)) pe_int (fun _ _ => rfl)) (pe_ix ix_tupH (pe_ix ix_listH (pv 5) pe_int (fun _ _ => rfl)) pe_int (fun _ _ => rfl))))
      (pss_one (ps_if (PW.pt (pw_and (pt_cmpR op_eq (pe_op op_and (pv 6) pe_int) pe_int (nomark _)) (pw_and1 (pt_cmpR op_eq (pe_op op_and (pv 7) pe_int) pe_int (nomark _))))) (pss_one (ps_expr (pe_ml (pe_bm PySem.F.plainAttrs_list PySem.F.slot_list_insert PySem.F.type_list_insert mt_insertS (pe_mono (pv 5)) (pa_cons pe_int (pa_cons (pe_tupS (pa_cons (pe_op op_fdiv (pv 6) pe_int) (pa_cons (pe_op op_fdiv (pv 7) pe_int) pa_nil))) pa_nil)))))) pss_nil)))) pss_nil)
      (pss_cons (ps_expr (pe_ml (pe_bm PySem.F.plainAttrs_list PySem.F.slot_list_append PySem.F.type_list_append mt_append (pe_mono (pv 2)) (pa_cons (pe_callTy call_tupleL (by rfl) T.z_tuple (by decide +kernel) (pa_cons (pv 5) pa_nil)) pa_nil))))
      (pss_one (ps_set (i := 1) sc__law_told_otherwise.nd rfl (Or.inl rfl) (pe_op op_fdiv (pv 1) pe_int))))))))))
      (pss_one (ps_ret (pe_tupRevS rfl (by rfl) T.z_tuple (by rfl) T.z_reversed (pv 2)))))), ?_⟩
    obtain ⟨ws, gO, hO⟩ := hO
    walk_at "vc"
    intro p1 H1 s1 n1 g1
    walk_at "n s1 1 gO"
    walk_at "vc gO1"
    refine lpW (walkT (xs := ws)) (fun i σ H' => ∃ (ci : Int) (v3 v4 v5 v6 v7 : Option V) (us : List V) (dn : List (List Pt)), σ = [some (.ref aO), some (.int ci), some (.ref p1), v3, v4, v5, v6, v7] ∧ 0 ≤ ci ∧ Same H H' ∧ H' p1 = some (.lst us) ∧ All2 (OutV H') us dn ∧ All2 SameO dn (os.take i) ∧ Near dn ∧ ∀ ps ∈ dn, ps.length ≤ 1000) ⟨_, _, _, _, _, _, [], [], rfl, hc, s1, g1, .nil, .nil, fun _ z => (nomatch z), fun _ z => (nomatch z)⟩ ?_ ?_ ?_
    · rintro i σ H' _ ⟨_, _, _, _, _, _, _, _, _, _, sm, _⟩
      exact sm _ _ gO
    · rintro i x σ H' H2 hi ⟨ci, v3, v4, v5, v6, v7, us, dn, rfl, hci, sm, gv, hv, hsame, hnear, hlen⟩ ⟨rfl, hx⟩
      obtain ⟨ps, hps, ap, vs, rfl, gp, hp⟩ := hO.at hx
      have gp2 := sm _ _ gp
      have hpn := hn.2 _ (List.mem_of_getElem? hps)
      have hpl := hp.len
      have hpnear := hN _ (List.mem_of_getElem? hps)
      refine seq_cut2 (fun σ H3 => ∃ (pr : Addr) (ws : List V) (r : List Pt) (v4 v6 v7 : Option V), σ = [some (.ref aO), some (.int ci), some (.ref p1), some (.ref ap), v4, some (.ref pr), v6, v7] ∧ Same H H3 ∧ H pr = none ∧ p1 ≠ pr ∧ H3 p1 = some (.lst us) ∧ All2 (OutV H3) us dn ∧ H3 pr = some (.lst ws) ∧ All2 (PtV H3) ws r ∧ SameO r ps ∧ (∀ p ∈ r, p ∈ ps) ∧ 1 ≤ r.length ∧ r.length ≤ 100) ?_ (fun C hC => ?_)
      rotate_left
      · walk_at "vc gp2"
        obtain ⟨k, hk⟩ := natOf (show 0 ≤ ci % (vs.length : Int) from Int.emod_nonneg _ (by omega))
        rw [hk]
        refine ⟨by omega, fun q1 H3 s3 _ g3 => ?_⟩
        rw [cutV_drop] at g3
        have gp3 := s3 _ _ gp2
        walk_at "vc gp3"
        intro q2 H4 s4 _ g4
        rw [cutV_take] at g4
        refine ⟨_, s4 _ _ g3, _, g4, Nat.le_trans (show (vs.drop k).length + (vs.take k).length ≤ 1000 by rw [List.length_drop, List.length_take]; omega) (by decide), fun q3 H5 s5 g5 => ⟨_, g5, fun pr H6 s6 n6 g6 => ?_⟩⟩
        have s26 := s3.trans (s4.trans (s5.trans s6))
        refine hC _ _ ⟨pr, _, ps.drop k ++ ps.take k, _, _, _, rfl, sm.trans s26, sm.free (((s3.trans (s4.trans s5))).free n6), ne_of_none ((s3.trans (s4.trans s5)) _ _ gv) n6, s26 _ _ gv, hv.mono (OutV.mono s26), g6, ((hp.drop k).app (hp.take k)).mono (PtV.mono (sm.trans s26)), ?_, ?_, ?_, ?_⟩
        · have := same_rot (ps.take k) (ps.drop k)
          rw [List.take_append_drop] at this
          exact this
        · intro p hpm
          rcases List.mem_append.mp hpm with z | z
          · exact List.mem_of_mem_drop z
          · exact List.mem_of_mem_take z
        · rw [List.length_append, List.length_drop, List.length_take]; omega
        · rw [List.length_append, List.length_drop, List.length_take]; omega
      rintro σ H3 ⟨pr, zs, r, v4, v6, v7, rfl, s3, npr, nep, gv3, hv3, gr, hr3, hsr, hmr, hl1, hl2⟩
      refine seq_cut (fun σ H3 => ∃ (pr : Addr) (ws : List V) (r : List Pt) (v4 v6 v7 : Option V), σ = [some (.ref aO), some (.int ci), some (.ref p1), some (.ref ap), v4, some (.ref pr), v6, v7] ∧ Same H H3 ∧ H pr = none ∧ p1 ≠ pr ∧ H3 p1 = some (.lst us) ∧ All2 (OutV H3) us dn ∧ H3 pr = some (.lst ws) ∧ All2 (PtV H3) ws r ∧ SameO r ps ∧ (∀ p ∈ r, p ∈ ps) ∧ 1 ≤ r.length ∧ r.length ≤ 100) ?_ (fun C hC => ?_)
      rotate_left
      · walk_at "vc gr"
        refine iteP (fun _ pq H4 s4 n4 g4 => ?_) (fun _ => hC _ _ ⟨pr, zs, r, _, _, _, rfl, s3, npr, nep, gv3, hv3, gr, hr3, hsr, hmr, hl1, hl2⟩)
        refine hC _ _ ⟨pq, zs.reverse, r.reverse, _, _, _, rfl, s3.trans s4, s3.free n4, ne_of_none gv3 n4, s4 _ _ gv3, hv3.mono (OutV.mono s4), g4, (hr3.mono (PtV.mono s4)).rev, (same_rev r).trans hsr, fun p hp => hmr p (List.mem_reverse.mp hp), by rw [List.length_reverse]; exact hl1, by rw [List.length_reverse]; exact hl2⟩
      clear gr hr3 hsr hmr hl1 hl2 gv3 hv3 s3 npr nep
      rintro σ H3 ⟨pr, zs, r, v4, v6, v7, rfl, s3, npr, nep, gv3, hv3, gr, hr3, hsr, hmr, hl1, hl2⟩
      refine seq_cut (fun σ H3 => ∃ (ws : List V) (r : List Pt) (v4 v6 v7 : Option V), σ = [some (.ref aO), some (.int ci), some (.ref p1), some (.ref ap), v4, some (.ref pr), v6, v7] ∧ Same H H3 ∧ H3 p1 = some (.lst us) ∧ All2 (OutV H3) us dn ∧ H3 pr = some (.lst ws) ∧ All2 (PtV H3) ws r ∧ SameO r ps ∧ (∀ p ∈ r, p ∈ ps) ∧ 1 ≤ r.length ∧ r.length ≤ 101) ?_ (fun C hC => ?_)
      rotate_left
      · walk_at "vc gr"
        have hrl := hr3.len
        refine iteP (fun _ => ?_) (fun _ => hC _ _ ⟨zs, r, _, _, _, rfl, s3, gv3, hv3, gr, hr3, hsr, hmr, hl1, by omega⟩)
        obtain ⟨z, hz⟩ : ∃ z, zs[zs.length - 1]? = some z := ⟨_, List.getElem?_eq_getElem (by omega)⟩
        obtain ⟨pt, hpt, hpz⟩ := hr3.at hz
        refine ⟨z, by rw [show (zs.length : Int) - 1 = ((zs.length - 1 : Nat) : Int) by omega]; exact atI_nat hz, cnt_lt (by omega), ?_⟩
        have hrr : r = r.take (r.length - 1) ++ [pt] := by
          rw [hrl] at hpt
          have := take_succ hpt
          rw [show r.length - 1 + 1 = r.length by omega, List.take_length] at this
          exact this
        refine hC _ _ ⟨zs ++ [z], r ++ [pt], _, _, _, rfl, same_upd2 s3 npr, by rw [upd_ne nep]; exact gv3, hv3.mono (fun v p h => OutV.upd gr v p h), upd_same, (hr3.mono (PtV.upd gr)).snoc (PtV.upd gr _ _ hpz), ?_, ?_, by rw [List.length_append]; omega, by rw [List.length_append]; exact Nat.succ_le_succ hl2⟩
        · have h1 := same_last (r.take (r.length - 1)) pt
          rw [← hrr] at h1
          exact h1.trans hsr
        · intro p hp
          rcases List.mem_append.mp hp with e | e
          · exact hmr p e
          · rw [List.mem_singleton.mp e]; exact hmr _ (List.mem_of_getElem? hpt)
      clear gr hr3 hsr hmr hl1 hl2 gv3 hv3 s3
      rintro σ H3 ⟨zs, r, v4, v6, v7, rfl, s3, gv3, hv3, gr, hr3, hsr, hmr, hl1, hl2⟩
      have hbr : ∀ p ∈ r, (-1000 ≤ p.1 ∧ p.1 ≤ 1000) ∧ (-1000 ≤ p.2 ∧ p.2 ≤ 1000) := fun p hp => hpnear p (hmr p hp)
      refine seq_cut (fun σ H3 => ∃ (ws : List V) (r : List Pt) (v4 v6 v7 : Option V), σ = [some (.ref aO), some (.int ci), some (.ref p1), some (.ref ap), v4, some (.ref pr), v6, v7] ∧ Same H H3 ∧ H3 p1 = some (.lst us) ∧ All2 (OutV H3) us dn ∧ H3 pr = some (.lst ws) ∧ All2 (PtV H3) ws r ∧ SameO r ps ∧ (∀ p ∈ r, (-1000 ≤ p.1 ∧ p.1 ≤ 1000) ∧ (-1000 ≤ p.2 ∧ p.2 ≤ 1000)) ∧ r.length ≤ 102) ?_ (fun C hC => ?_)
      rotate_left
      · walk_at "vc gr"
        have hrl := hr3.len
        have stay : C [some (.ref aO), some (.int ci), some (.ref p1), some (.ref ap), v4, some (.ref pr), v6, v7] H3 := hC _ _ ⟨zs, r, _, _, _, rfl, s3, gv3, hv3, gr, hr3, hsr, hbr, by omega⟩
        refine iteP (fun _ => iteP (fun h1 => ?_) (fun _ => stay)) (fun _ => stay)
        match zs, r, hr3, h1, hbr, hsr, hl2 with
        | z0 :: z1 :: zr, p0 :: p1' :: rr, .cons ⟨a0, e0, k0⟩ (.cons ⟨a1, e1, k1⟩ hrest), _, hbr, hsr, hl2 =>
          subst e0 e1
          walk_at "vc k0 k1"
          have hr3 : All2 (PtV H3) (V.ref a0 :: V.ref a1 :: zr) (p0 :: p1' :: rr) := .cons ⟨a0, rfl, k0⟩ (.cons ⟨a1, rfl, k1⟩ hrest)
          have stay2 : ∀ v6 v7, C [some (.ref aO), some (.int ci), some (.ref p1), some (.ref ap), v4, some (.ref pr), v6, v7] H3 := fun v6 v7 => hC _ _ ⟨_, _, _, _, _, rfl, s3, gv3, hv3, gr, hr3, hsr, hbr, by omega⟩
          refine iteP (fun c1 => iteP (fun c2 => ?_) (fun _ => stay2 _ _)) (fun _ => stay2 _ _)
          intro t H4 s4 n4 g4
          have gr4 := s4 _ _ gr
          have hr4 := hr3.mono (PtV.mono s4)
          have b0 := hbr p0 List.mem_cons_self
          have b1 := hbr p1' (List.mem_cons_of_mem _ List.mem_cons_self)
          refine ⟨_, gr4, cnt_lt (by rw [hrl]; omega), ?_⟩
          show C _ (upd H4 pr (.lst (V.ref a0 :: V.ref t :: V.ref a1 :: zr)))
          have ht : PtV (upd H4 pr (.lst (V.ref a0 :: V.ref t :: V.ref a1 :: zr))) (.ref t) ((p0.1 + p1'.1) / 2, (p0.2 + p1'.2) / 2) := ⟨t, rfl, tup_upd g4 gr4⟩
          refine hC _ _ ⟨V.ref a0 :: V.ref t :: V.ref a1 :: zr, p0 :: ((p0.1 + p1'.1) / 2, (p0.2 + p1'.2) / 2) :: p1' :: rr, _, _, _, rfl, same_upd2 (s3.trans s4) npr, by rw [upd_ne nep]; exact s4 _ _ gv3, (hv3.mono (OutV.mono s4)).mono (fun v p h => OutV.upd gr4 v p h), upd_same, ?_, ?_, ?_, by simp only [List.length_cons] at hl2 ⊢; omega⟩
          · have hr5 := hr4.mono (PtV.upd gr4 (o := .lst (V.ref a0 :: V.ref t :: V.ref a1 :: zr)))
            generalize upd H4 pr (.lst (V.ref a0 :: V.ref t :: V.ref a1 :: zr)) = H5 at hr5 ht ⊢
            exact match hr5 with | .cons x y => .cons x (.cons ht y)
          · exact (same_mid (p := p0) (m := ((p0.1 + p1'.1) / 2, (p0.2 + p1'.2) / 2)) (q := p1') (by show p0.1 + p1'.1 = 2 * ((p0.1 + p1'.1) / 2); omega) (by show p0.2 + p1'.2 = 2 * ((p0.2 + p1'.2) / 2); omega) rr).trans hsr
          · intro p hp
            rcases List.mem_cons.mp hp with e | hp
            · rw [e]; exact b0
            · rcases List.mem_cons.mp hp with e | hp
              · rw [e]
                refine ⟨⟨?_, ?_⟩, ?_, ?_⟩ <;> simp only [] <;> omega
              · exact hbr p (List.mem_cons_of_mem _ hp)
      clear gr hr3 hsr hmr hl1 hl2 gv3 hv3 s3 hbr
      rintro σ H3 ⟨zs, r, v4, v6, v7, rfl, s3, gv3, hv3, gr, hr3, hsr, hbr, hl2⟩
      walk_at "vc gr"
      refine ⟨⟨_, gv3⟩, fun l H4 s4 n4 g4 => ?_⟩
      have gv4 := s4 _ _ gv3
      have hvl := hv3.len
      have hsl := hsame.len
      rw [List.length_take] at hsl
      have hos := hn.1
      refine ⟨_, gv4, cnt_lt (by omega), by omega, same_upd2 (s3.trans s4) n1, dn ++ [r], ?_, ?_, ?_, ?_⟩
      · exact ((hv3.mono (OutV.mono s4)).mono (fun v p h => OutV.upd gv4 v p h)).snoc (OutV.upd gv4 _ _ ⟨l, zs, rfl, g4, hr3.mono (PtV.mono s4)⟩)
      · rw [take_succ hps]
        exact hsame.snoc hsr
      · intro qs hq
        rcases List.mem_append.mp hq with e | e
        · exact hnear qs e
        · rw [List.mem_singleton.mp e]; exact hbr
      · intro qs hq
        rcases List.mem_append.mp hq with e | e
        · exact hlen qs e
        · rw [List.mem_singleton.mp e]; omega
    · rintro σ H' ⟨ci, v3, v4, v5, v6, v7, us, dn, rfl, hci, sm, gv, hv, hsame, hnear, hlen⟩
      walk_at "vc gv"
      intro t H2 s2 n2 g2
      rw [hO.len, List.take_length] at hsame
      refine q H2 t dn.reverse (sm.trans s2) (sm.free n2) ⟨_, g2, (hv.mono (OutV.mono s2)).rev⟩ (fun x y => by rw [cntO_rev]; exact cntO_same hsame x y) (fun ps hp => hnear ps (List.mem_reverse.mp hp)) ⟨?_, fun ps hp => hlen ps (List.mem_reverse.mp hp)⟩
      rw [List.length_reverse, hsame.len]
      have := hn.1
      omega

set_option maxHeartbeats 4000000
theorem Outs.app {H : Hp} {p a b : Addr} {xs ys : List V} {f s : List (List Pt)} (gp : H p = some (.tup (xs ++ ys))) (hx : All2 (OutV H) xs f) (hy : All2 (OutV H) ys s) : Outs H p (f ++ s) := ⟨_, gp, hx.app hy⟩
theorem Near.app {f s : List (List Pt)} (h : Near f) (k : Near s) : Near (f ++ s) := fun ps hp => (List.mem_append.mp hp).elim (h ps) (k ps)
def N9 (f : List (List Pt)) : Prop := ∀ ps ∈ f, ∀ p ∈ ps, (-900 ≤ p.1 ∧ p.1 ≤ 900) ∧ (-900 ≤ p.2 ∧ p.2 ≤ 900)
theorem n9_nearP (os : List (List Pt)) : N9 (os.map (List.map nearP)) := by
  intro ps hp p hq
  obtain ⟨ps0, _, rfl⟩ := List.mem_map.mp hp
  obtain ⟨p0, _, rfl⟩ := List.mem_map.mp hq
  unfold nearP mx mn
  refine ⟨⟨?_, ?_⟩, ?_, ?_⟩ <;> simp only [] <;> (repeat' split) <;> omega
theorem N9.moved {f : List (List Pt)} (h : N9 f) {dx dy : Int} (h0 : 0 ≤ dx) (h1 : dx ≤ 100) (h2 : 0 ≤ dy) (h3 : dy ≤ 100) : Near (f.map (List.map (mvP dx dy))) := by
  intro ps hp p hq
  obtain ⟨ps0, hp0, rfl⟩ := List.mem_map.mp hp
  obtain ⟨p0, hq0, rfl⟩ := List.mem_map.mp hq
  have := h ps0 hp0 p0 hq0
  unfold mvP
  refine ⟨⟨?_, ?_⟩, ?_, ?_⟩ <;> simp only [] <;> omega
def Lens (f : List (List Pt)) : Prop := f.length ≤ 15 ∧ ∀ ps ∈ f, 1 ≤ ps.length ∧ ps.length ≤ 15
theorem Lens.near {f : List (List Pt)} (h : Lens f) : Lens (f.map (List.map nearP)) := ⟨by rw [List.length_map]; exact h.1, fun ps hp => by
  obtain ⟨qs, hq, rfl⟩ := List.mem_map.mp hp
  rw [List.length_map]
  exact h.2 qs hq⟩
theorem Lens.two {f s : List (List Pt)} (h : Lens f) (k : Lens s) : (f ++ s).length ≤ 1000 ∧ ∀ ps ∈ f ++ s, ps.length ≤ 1000 := ⟨by rw [List.length_append]; have := h.1; have := k.1; omega, fun ps hp => by
  rcases List.mem_append.mp hp with e | e
  · have := h.2 ps e; omega
  · have := k.2 ps e; omega⟩
theorem Lens.one {f : List (List Pt)} (h : Lens f) : f.length ≤ 1000 ∧ ∀ ps ∈ f, ps.length ≤ 1000 := ⟨by have := h.1; omega, fun ps e => by have := h.2 ps e; omega⟩
theorem cellsF_len (os : List (List Pt)) (c0 c1 c2 c3 : Int) (w h : Nat) : (cellsF os c0 c1 c2 c3 w h).length = w * h := by unfold cellsF; rw [List.length_map, List.length_range]
theorem cellsF_at (os : List (List Pt)) (c0 c1 c2 c3 : Int) {w h k : Nat} (hk : k < w * h) : (cellsF os c0 c1 c2 c3 w h)[k]? = some (cellF os c0 c1 c2 c3 w k) := by
  unfold cellsF
  rw [List.getElem?_map, List.getElem?_range hk]
  rfl
theorem cellsF_ext {as bs : List (List Pt)} {c0 c1 c2 c3 : Int} {w h : Nat} (e : ∀ k, cellF as c0 c1 c2 c3 w k = cellF bs c0 c1 c2 c3 w k) : cellsF as c0 c1 c2 c3 w h = cellsF bs c0 c1 c2 c3 w h := by
  unfold cellsF
  exact List.map_congr_left fun k _ => e k
def spLaw (K : PySem.W.Frag) : Sp := fun vs H Q _ => ∃ (a : Addr) (ns : List Int), vs = [.ref a] ∧ SqL K H a (ns.map V.int) ∧ ns.length ≤ 63 ∧ ∀ H', Q (.bl true) H'
theorem ok_law_of {f : Addr} {fd : FuncData} (F : Fun K "law" "law" s_law f fd) (T : Txt K mg) : FnOk P w K mg base CX0 5 f fd ["script"] (spLaw K) := by
  refine F.ok sc_law (fun vs H Q E h => ?_) (fun cdv A outer s H vs Q E hr h => ?_)
  · obtain ⟨a, ns, rfl, _⟩ := h
    rfl
  · obtain ⟨a, ns, rfl, hS, hlen, q⟩ := h
    refine ⟨_, (pss_cons (ps_set (i := 1) sc_law.nd rfl (Or.inl rfl) (pe_callB call_abs (by rfl) T.z_abs (by decide +kernel) (pa_cons (pe_call (ok__law_cell T a ns) (hr.mono (by decide)) (by rfl) T.g__law_cell T.F__law_cell.kp T.b__law_cell .nil pass0 (pa_cons (pv 0) (pa_cons pe_int pa_nil))) pa_nil)))
      (pss_cons (ps_set (i := 2) sc_law.nd rfl (Or.inl rfl) (pe_op op_add pe_int (pe_op op_mod (pe_callTy call_int1 (by rfl) T.z_int (by decide +kernel) (pa_cons (pv 1) pa_nil)) pe_int)))
      (pss_cons (ps_set (i := 3) sc_law.nd rfl (Or.inl rfl) (pe_op op_add pe_int (pe_op op_mod (pe_callTy call_int1 (by rfl) T.z_int (by decide +kernel) (pa_cons (pe_op op_fdiv (pv 1) pe_int) pa_nil)) pe_int)))
      (pss_cons (ps_set (i := 4) sc_law.nd rfl (Or.inl rfl) (pe_tupS (pa_cons pe_int (pa_cons pe_int (pa_cons (pe_op op_mul pe_int (pv 2)) (pa_cons (pe_op op_mul pe_int (pv 3)) pa_nil))))))
      (pss_cons (ps_if (pt_cmpR op_eq (pe_op op_mod (pe_callTy call_int1 (by rfl) T.z_int (by decide +kernel) (pa_cons (pe_op op_fdiv (pv 1) pe_int) pa_nil)) pe_int) pe_int (nomark _)) (pss_one (ps_set (i := 4) sc_law.nd rfl (Or.inl rfl) (pe_tupS (pa_cons (pe_op op_sub (pe_op op_mod (pe_callTy call_int1 (by rfl) T.z_int (by decide +kernel) (pa_cons (pe_op op_fdiv (pv 1) pe_int) pa_nil)) pe_int) pe_int) (pa_cons (pe_op op_sub (pe_op op_mod (pe_callTy call_int1 (by rfl) T.z_int (by decide +kernel) (pa_cons (pe_op op_fdiv (pv 1) pe_int) pa_nil)) pe_int) pe_int) (pa_cons (pe_op op_mod (pe_callTy call_int1 (by rfl) T.z_int (by decide +kernel) (pa_cons (pe_op op_fdiv (pv 1) pe_int) pa_nil)) pe_int) (pa_cons pe_int pa_nil))))))) pss_nil)
      (pss_cons (ps_set (i := 5) sc_law.nd rfl (Or.inl rfl) (pe_call (ok__law_near T) (hr.mono (by decide)) (by rfl) T.g__law_near T.F__law_near.kp T.b__law_near .nil pass0 (pa_cons (pe_call (ok__law_outlines T a ns) (hr.mono (by decide)) (by rfl) T.g__law_outlines T.F__law_outlines.kp T.b__law_outlines .nil pass0 (pa_cons (pv 0) (pa_cons pe_int (pa_cons (pv 2) (pa_cons (pv 3) pa_nil))))) pa_nil)))
      (pss_cons (ps_set (i := 6) sc_law.nd rfl (Or.inl rfl) (pe_call (ok__law_near T) (hr.mono (by decide)) (by rfl) T.g__law_near T.F__law_near.kp T.b__law_near .nil pass0 (pa_cons (pe_call (ok__law_outlines T a ns) (hr.mono (by decide)) (by rfl) T.g__law_outlines T.F__law_outlines.kp T.b__law_outlines .nil pass0 (pa_cons (pv 0) (pa_cons pe_int (pa_cons (pv 2) (pa_cons (pv 3) pa_nil))))) pa_nil)))
      (pss_cons (ps_set (i := 7) sc_law.nd rfl (Or.inr rfl) (pe_call (ok__law_cells T) hr (by rfl) T.g__law_cells T.F__law_cells.kp T.b__law_cells .nil pass0 (pa_cons (pv 2) (pa_cons (pv 3) (pa_cons (pv 4) (pa_cons (pv 5) pa_nil))))))
      (pss_cons (ps_set (i := 8) sc_law.nd rfl (Or.inr rfl) (pe_call (ok__law_cells T) hr (by rfl) T.g__law_cells T.F__law_cells.kp T.b__law_cells .nil pass0 (pa_cons (pv 2) (pa_cons (pv 3) (pa_cons (pv 4) (pa_cons (pv 6) pa_nil))))))
      (pss_cons (ps_set (i := 9) sc_law.nd rfl (Or.inl rfl) (pe_callB call_abs (by rfl) T.z_abs (by decide +kernel) (pa_cons (pe_call (ok__law_cell T a ns) (hr.mono (by decide)) (by rfl) T.g__law_cell T.F__law_cell.kp T.b__law_cell .nil pass0 (pa_cons (pv 0) (pa_cons pe_int pa_nil))) pa_nil)))
      (pss_cons (ps_if (pt_cmpR (op_neIL hr.units) (pe_call (ok__law_cells T) hr (by rfl) T.g__law_cells T.F__law_cells.kp T.b__law_cells .nil pass0 (pa_cons (pv 2) (pa_cons (pv 3) (pa_cons (pv 4) (pa_cons (pe_call (ok__law_told_otherwise T) (hr.mono (by decide)) (by rfl) T.g__law_told_otherwise T.F__law_told_otherwise.kp T.b__law_told_otherwise .nil pass0 (pa_cons (pv 5) (pa_cons (pv 9) pa_nil))) pa_nil))))) (pv 7) (nomark _)) (pss_one (ps_ret pe_bl)) pss_nil)
      (pss_cons (ps_setLc (i := 10) (own := [("k", 11)]) (g := (gName 11)) rfl sc_law.nd rfl rfl (sw_true rfl rfl rfl (by decide +kernel)) (pi_range1 (by rfl) T.z_range (pa_cons (pe_callB call_lenH (by rfl) T.z_len PySem.boot_len (pa_cons (pv 7) pa_nil)) pa_nil)) (blkOk_by (own := [("k", 11)]) (N := ["script", "cell", "width", "height", "clip", "first", "second", "one", "other", "change", "due", "k", "across", "down", "moved", "wide", "y", "x"]) (sc := defScope s_law) (by decide +kernel)) (fun _ _ _ _ _ => (pg_name (i := 11) sc_law.nd rfl (Or.inl rfl))) (fun _ _ _ _ _ => pts_nil) (fun _ _ _ _ _ => (pe_callTy call_int1 (by rfl) T.z_int (by decide +kernel) (pa_cons (pe_cmpR op_ne (pe_ix ix_listH (pv 7) (pv 11) (fun _ _ => rfl)) (pe_ix ix_listH (pv 8) (pv 11) (fun _ _ => rfl)) (nomark _)) pa_nil))))
      (pss_cons (ps_if (PW.pt (pw_or (pt_cmpR (op_neIL hr.units) (pe_call (ok__law_cells T) hr (by rfl) T.g__law_cells T.F__law_cells.kp T.b__law_cells .nil pass0 (pa_cons (pv 2) (pa_cons (pv 3) (pa_cons (pv 4) (pa_cons (pe_op op_catTS (pv 5) (pv 6)) pa_nil))))) (pv 10) (nomark _)) (pw_or1 (pt_cmpR (op_neIL hr.units) (pe_call (ok__law_cells T) hr (by rfl) T.g__law_cells T.F__law_cells.kp T.b__law_cells .nil pass0 (pa_cons (pv 2) (pa_cons (pv 3) (pa_cons (pv 4) (pa_cons (pe_op op_catTS (pv 6) (pv 5)) pa_nil))))) (pv 10) (nomark _))))) (pss_one (ps_ret pe_bl)) pss_nil)
      (pss_cons (ps_if (pt_cmpR op_inI pe_int (pe_call (ok__law_cells T) hr (by rfl) T.g__law_cells T.F__law_cells.kp T.b__law_cells .nil pass0 (pa_cons (pv 2) (pa_cons (pv 3) (pa_cons (pv 4) (pa_cons (pe_op op_catTS (pv 5) (pv 5)) pa_nil))))) (by rfl)) (pss_one (ps_ret pe_bl)) pss_nil)
      (pss_cons (ps_set (i := 12) sc_law.nd rfl (Or.inl rfl) (pe_op op_mod (pe_callTy call_int1 (by rfl) T.z_int (by decide +kernel) (pa_cons (pe_op op_fdiv (pv 9) pe_int) pa_nil)) pe_int))
      (pss_cons (ps_set (i := 13) sc_law.nd rfl (Or.inl rfl) (pe_op op_mod (pe_callTy call_int1 (by rfl) T.z_int (by decide +kernel) (pa_cons (pe_op op_fdiv (pv 9) pe_int) pa_nil)) pe_int))
      (pss_cons (ps_set (i := 14) sc_law.nd rfl (Or.inl rfl) (pe_tupS (pa_cons (pe_op op_add (pe_ix ix_tupH (pv 4) pe_int (fun _ _ => rfl)) (pe_op op_mul pe_int (pv 12))) (pa_cons (pe_op op_add (pe_ix ix_tupH (pv 4) pe_int (fun _ _ => rfl)) (pe_op op_mul pe_int (pv 13))) (pa_cons (pe_op op_add (pe_ix ix_tupH (pv 4) pe_int (fun _ _ => rfl)) (pe_op op_mul pe_int (pv 12))) (pa_cons (pe_op op_add (pe_ix ix_tupH (pv 4) pe_int (fun _ _ => rfl)) (pe_op op_mul pe_int (pv 13))) pa_nil))))))
      (pss_cons (ps_set (i := 14) sc_law.nd rfl (Or.inl rfl) (pe_tupS (pa_cons (pe_callB (call_max2 rfl) (by rfl) T.z_max (by decide +kernel) (pa_cons (pe_op op_mul pe_int (pv 12)) (pa_cons (pe_ix ix_tupH (pv 14) pe_int (fun _ _ => rfl)) pa_nil))) (pa_cons (pe_callB (call_max2 rfl) (by rfl) T.z_max (by decide +kernel) (pa_cons (pe_op op_mul pe_int (pv 13)) (pa_cons (pe_ix ix_tupH (pv 14) pe_int (fun _ _ => rfl)) pa_nil))) (pa_cons (pe_callB (call_min2 rfl) (by rfl) T.z_min (by decide +kernel) (pa_cons (pe_op op_mul pe_int (pe_op op_add (pv 2) (pv 12))) (pa_cons (pe_ix ix_tupH (pv 14) pe_int (fun _ _ => rfl)) pa_nil))) (pa_cons (pe_ix ix_tupH (pv 14) pe_int (fun _ _ => rfl)) pa_nil))))))
      (pss_cons (ps_set (i := 14) sc_law.nd rfl (Or.inl rfl) (pe_tupS (pa_cons (pe_ix ix_tupH (pv 14) pe_int (fun _ _ => rfl)) (pa_cons (pe_ix ix_tupH (pv 14) pe_int (fun _ _ => rfl)) (pa_cons (pe_ix ix_tupH (pv 14) pe_int (fun _ _ => rfl)) (pa_cons (pe_callB (call_min2 rfl) (by rfl) T.z_min (by decide +kernel) (pa_cons (pe_op op_mul pe_int (pe_op op_add (pv 3) (pv 13))) (pa_cons (pe_ix ix_tupH (pv 14) pe_int (fun _ _ => rfl)) pa_nil))) pa_nil))))))
      (pss_cons (ps_set (i := 15) sc_law.nd rfl (Or.inl rfl) (pe_call (ok__law_cells T) hr (by rfl) T.g__law_cells T.F__law_cells.kp T.b__law_cells .nil pass0 (pa_cons (pe_op op_add (pv 2) (pv 12)) (pa_cons (pe_op op_add (pv 3) (pv 13)) (pa_cons (pv 14) (pa_cons (pe_call (ok__law_moved T) (hr.mono (by decide)) (by rfl) T.g__law_moved T.F__law_moved.kp T.b__law_moved .nil pass0 (pa_cons (pv 5) (pa_cons (pe_op op_mul pe_int (pv 12)) (pa_cons (pe_op op_mul pe_int (pv 13)) pa_nil)))) pa_nil))))))
      (pss_cons (ps_for PassesOwn.never rfl (pi_range1 (by rfl) T.z_range (pa_cons (pe_op op_add (pv 3) (pv 13)) pa_nil)) (pg_name (i := 16) sc_law.nd rfl (Or.inl rfl)) (pss_one (ps_for PassesOwn.never rfl (pi_range1 (by rfl) T.z_range (pa_cons (pe_op op_add (pv 2) (pv 12)) pa_nil)) (pg_name (i := 17) sc_law.nd rfl (Or.inl rfl)) (pss_cons (ps_set (i := 10) sc_law.nd rfl (Or.inl rfl) pe_int)
      (pss_cons (ps_if (PW.pt (pw_and (pt_cmpR op_ge (pv 17) (pv 12) (nomark _)) (pw_and1 (pt_cmpR op_ge (pv 16) (pv 13) (nomark _))))) (pss_one (ps_set (i := 10) sc_law.nd rfl (Or.inl rfl) (pe_ix ix_listH (pv 7) (pe_op op_sub (pe_op op_add (pe_op op_mul (pe_op op_sub (pv 16) (pv 13)) (pv 2)) (pv 17)) (pv 12)) (fun _ _ => rfl)))) pss_nil)
      (pss_one (ps_if (pt_cmpR op_ne (pe_ix ix_listH (pv 15) (pe_op op_add (pe_op op_mul (pv 16) (pe_op op_add (pv 2) (pv 12))) (pv 17)) (fun _ _ => rfl)) (pv 10) (nomark _)) (pss_one (ps_ret pe_bl)) pss_nil)))))))
      (pss_one (ps_ret pe_bl))))))))))))))))))))))), ?_⟩
    refine seq_cut5 (fun σ H1 => ∃ (c : Int) (w h : Nat) (aK : Addr) (c0 c1 c2 c3 : Int), σ = some (.ref a) :: some (.int c) :: some (.int (w : Int)) :: some (.int (h : Int)) :: some (.ref aK) :: List.replicate 13 none ∧ Same H H1 ∧ 1 ≤ w ∧ w ≤ 11 ∧ 1 ≤ h ∧ h ≤ 9 ∧ H1 aK = some (.tup [.int c0, .int c1, .int c2, .int c3])) ?_ (fun C hC => ?_)
    rotate_left
    · walk_at "vc sp__law_cell hS"
      have z := absI_nn (cellA ns 0)
      refine fun p1 H1 s1 n1 g1 => iteP (fun _ p2 H2 s2 n2 g2 => ?_) (fun _ => ?_)
      · exact hC _ _ ⟨_, (1 + absI (cellA ns 0) % 11).toNat, (1 + absI (cellA ns 0) / 11 % 9).toNat, p2, _, _, _, _, by rw [Int.toNat_of_nonneg (by omega), Int.toNat_of_nonneg (by omega)]; rfl, s1.trans s2, by omega, by omega, by omega, by omega, g2⟩
      · exact hC _ _ ⟨_, (1 + absI (cellA ns 0) % 11).toNat, (1 + absI (cellA ns 0) / 11 % 9).toNat, p1, _, _, _, _, by rw [Int.toNat_of_nonneg (by omega), Int.toNat_of_nonneg (by omega)]; rfl, s1, by omega, by omega, by omega, by omega, g1⟩
    rintro σ H1 ⟨c, w, h, aK, c0, c1, c2, c3, rfl, s1, w1, w2, h1, h2, gK⟩
    have hS1 := s1.seq hS
    refine seq_cut2 (fun σ H2 => ∃ (pf ps : Addr) (f s : List (List Pt)), σ = some (.ref a) :: some (.int c) :: some (.int (w : Int)) :: some (.int (h : Int)) :: some (.ref aK) :: some (.ref pf) :: some (.ref ps) :: List.replicate 11 none ∧ Same H1 H2 ∧ Outs H2 pf f ∧ Outs H2 ps s ∧ Near f ∧ Near s ∧ Lens f ∧ Lens s ∧ N9 f) ?_ (fun C hC => ?_)
    rotate_left
    · walk_at "vc sp__law_outlines sp__law_near"
      refine ⟨2, rfl, hS1, hlen, by decide, fun H2 p2 f s2 n2 o2 l2 k2 => ⟨f, o2, by omega, fun ps hp => by have := k2 ps hp; omega, fun H3 p3 s3 n3 o3 => ?_⟩⟩
      refine ⟨16, rfl, (s2.trans s3).seq hS1, hlen, by decide, fun H4 p4 s s4 n4 o4 l4 k4 => ⟨s, o4, by omega, fun ps hp => by have := k4 ps hp; omega, fun H5 p5 s5 n5 o5 => ?_⟩⟩
      exact hC _ _ ⟨p3, p5, _, _, rfl, s2.trans (s3.trans (s4.trans s5)), o3.mono (s4.trans s5), o5, near_nearP f, near_nearP s, Lens.near ⟨l2, k2⟩, Lens.near ⟨l4, k4⟩, n9_nearP f⟩
    rintro σ H2 ⟨pf, ps, f, s, rfl, s2, of, os, nf, nsn, lf, ls, n9f⟩
    have gK2 := s2 _ _ gK
    refine seq_cut2 (fun σ H3 => ∃ (po pq : Addr), σ = some (.ref a) :: some (.int c) :: some (.int (w : Int)) :: some (.int (h : Int)) :: some (.ref aK) :: some (.ref pf) :: some (.ref ps) :: some (.ref po) :: some (.ref pq) :: List.replicate 9 none ∧ Same H2 H3 ∧ H3 po = some (.lst (List.map V.int (cellsF f c0 c1 c2 c3 w h))) ∧ H3 pq = some (.lst (List.map V.int (cellsF s c0 c1 c2 c3 w h)))) ?_ (fun C hC => ?_)
    rotate_left
    · walk_at "vc sp__law_cells"
      refine ⟨_, _, _, _, gK2, f, of, nf, w1, by omega, by omega, lf.one.1, lf.one.2, fun H3 po s3 n3 g3 => ⟨_, _, _, _, s3 _ _ gK2, s, os.mono s3, nsn, w1, by omega, by omega, ls.one.1, ls.one.2, fun H4 pq s4 n4 g4 => hC _ _ ⟨po, pq, rfl, s3.trans s4, s4 _ _ g3, g4⟩⟩⟩
    rintro σ H3 ⟨po, pq, rfl, s3, go, gq⟩
    have gK3 := s3 _ _ gK2
    have of := of.mono s3
    have os := os.mono s3
    have s03 := s1.trans (s2.trans s3)
    refine seq_cut2 (fun σ H4 => ∃ ch : Int, σ = some (.ref a) :: some (.int c) :: some (.int (w : Int)) :: some (.int (h : Int)) :: some (.ref aK) :: some (.ref pf) :: some (.ref ps) :: some (.ref po) :: some (.ref pq) :: some (.int ch) :: List.replicate 8 none ∧ 0 ≤ ch ∧ Same H3 H4) ?_ (fun C hC => ?_)
    rotate_left
    · have hS3 := s03.seq hS
      walk_at "vc sp__law_cell hS3 sp__law_told_otherwise sp__law_cells"
      refine ⟨f, of, absI_nn _, nf, by have := lf.1; omega, fun ps hp => by have := lf.2 ps hp; omega, fun H4 p4 f' s4 n4 o4 e4 nf4 l4 => ⟨_, _, _, _, s4 _ _ gK3, f', o4, nf4, w1, by omega, by omega, l4.1, l4.2, fun H5 p5 s5 n5 g5 => ?_⟩⟩
      refine ⟨_, g5, _, (s4.trans s5) _ _ go, ?_⟩
      rw [cellsF_ext (cellF_same e4 c0 c1 c2 c3 w)]
      exact if_false_of (by simp) (hC _ _ ⟨_, rfl, absI_nn _, s4.trans s5⟩)
    rintro σ H4 ⟨ch, rfl, hch, s4⟩
    replace gK3 := s4 _ _ gK3
    replace of := of.mono s4
    replace os := os.mono s4
    replace go := s4 _ _ go
    replace gq := s4 _ _ gq
    have s04 := s03.trans s4
    clear gK gK2
    refine seq_cut (fun σ H5 => ∃ (pd : Addr) (v11 : Option V), σ = some (.ref a) :: some (.int c) :: some (.int (w : Int)) :: some (.int (h : Int)) :: some (.ref aK) :: some (.ref pf) :: some (.ref ps) :: some (.ref po) :: some (.ref pq) :: some (.int ch) :: some (.ref pd) :: v11 :: List.replicate 6 none ∧ Same H4 H5 ∧ H5 pd = some (.lst (List.map V.int (cellsF (f ++ s) c0 c1 c2 c3 w h)))) ?_ (fun C hC => ?_)
    rotate_left
    · walk_at "vc go"
      have hwh : w * h ≤ 11 * 9 := Nat.mul_le_mul w2 h2
      rw [cellsF_len]
      refine ⟨by omega, by omega, lcL walkR (L := fun i => List.map V.int ((cellsF (f ++ s) c0 c1 c2 c3 w h).take i)) rfl (fun _ _ => True.intro) (fun E i x H5 H6 hi hE s5 g5 y => ?_) (fun E H5 s5 hE g5 => ?_)⟩
      · obtain ⟨rfl, rfl⟩ := y
        have go5 := s5 _ _ go
        have gq5 := s5 _ _ gq
        walk_at "vc go5 gq5 g5"
        refine ⟨_, atI_nat (by rw [List.getElem?_map, cellsF_at f c0 c1 c2 c3 hi]; rfl), _, atI_nat (by rw [List.getElem?_map, cellsF_at s c0 c1 c2 c3 hi]; rfl), rfl, cnt_lt (by rw [List.length_take]; omega), same_upd2 s5 hE, ?_⟩
        rw [take_succ (cellsF_at (f ++ s) c0 c1 c2 c3 hi), cellF_xor]
        by_cases e : cellF f c0 c1 c2 c3 w i = cellF s c0 c1 c2 c3 w i
        · rw [if_pos e, if_neg (by simp [e])]
        · rw [if_neg e, if_pos (by simp [e])]
      · rw [List.take_of_length_le (by rw [cellsF_len]; exact Nat.le_refl _)] at g5
        exact hC _ _ ⟨E, none, rfl, s5, g5⟩
    rintro σ H5 ⟨pd, v11, rfl, s5, gd⟩
    replace gK3 := s5 _ _ gK3
    replace of := of.mono s5
    replace os := os.mono s5
    replace go := s5 _ _ go
    have s05 := s04.trans s5
    obtain ⟨xf, gf, hxf⟩ := of
    obtain ⟨xs, gs, hxs⟩ := os
    refine seq_cut2 (fun σ H6 => σ = some (.ref a) :: some (.int c) :: some (.int (w : Int)) :: some (.int (h : Int)) :: some (.ref aK) :: some (.ref pf) :: some (.ref ps) :: some (.ref po) :: some (.ref pq) :: some (.int ch) :: some (.ref pd) :: v11 :: List.replicate 6 none ∧ Same H5 H6) ?_ (fun C hC => ?_)
    rotate_left
    · walk_at "vc gf gs sp__law_cells"
      have e1 := hxf.len
      have e2 := hxs.len
      have l1 := lf.1
      have l2 := ls.1
      refine ⟨Nat.le_trans (show xf.length + xs.length ≤ 100 by omega) (by decide), fun p6 H6 s6 g6 => ⟨_, _, _, _, s6 _ _ gK3, f ++ s, ⟨_, g6, (hxf.app hxs).mono (OutV.mono s6)⟩, nf.app nsn, w1, by omega, by omega, (lf.two ls).1, (lf.two ls).2, fun H7 p7 s7 n7 g7 => ?_⟩⟩
      have s57 := s6.trans s7
      refine ⟨_, g7, _, s57 _ _ gd, if_false_of (by simp) ⟨_, s57 _ _ gs, _, s57 _ _ gf, Nat.le_trans (show xs.length + xf.length ≤ 100 by omega) (by decide), fun p8 H8 s8 g8 => ⟨_, _, _, _, s8 _ _ (s57 _ _ gK3), s ++ f, ⟨_, g8, (hxs.app hxf).mono (OutV.mono (s57.trans s8))⟩, nsn.app nf, w1, by omega, by omega, (ls.two lf).1, (ls.two lf).2, fun H9 p9 s9 n9 g9 => ?_⟩⟩⟩
      have s79 := s8.trans s9
      have s59 := s57.trans s79
      refine ⟨_, g9, _, s59 _ _ gd, if_false_of (by rw [cellsF_ext (cellF_comm f s c0 c1 c2 c3 w)]; simp) ⟨_, s59 _ _ gf, _, s59 _ _ gf, Nat.le_trans (show xf.length + xf.length ≤ 100 by omega) (by decide), fun p10 H10 s10 g10 => ⟨_, _, _, _, s10 _ _ (s59 _ _ gK3), f ++ f, ⟨_, g10, (hxf.app hxf).mono (OutV.mono (s59.trans s10))⟩, nf.app nf, w1, by omega, by omega, (lf.two lf).1, (lf.two lf).2, fun H11 p11 s11 n11 g11 => ?_⟩⟩⟩
      refine ⟨_, g11, ?_⟩
      rw [if_neg (fun z => by
        unfold cellsF at z
        obtain ⟨k, _, hk⟩ := List.mem_map.mp z
        rw [cellF_twice] at hk
        cases hk)]
      exact hC _ _ ⟨rfl, s59.trans (s10.trans s11)⟩
    rintro σ H6 ⟨rfl, s6⟩
    replace gK3 := s6 _ _ gK3
    replace go := s6 _ _ go
    refine seq_cut5 (fun σ H7 => ∃ (A D : Nat) (pm : Addr) (m0 m1 m2 m3 : Int), σ = some (.ref a) :: some (.int c) :: some (.int (w : Int)) :: some (.int (h : Int)) :: some (.ref aK) :: some (.ref pf) :: some (.ref ps) :: some (.ref po) :: some (.ref pq) :: some (.int ch) :: some (.ref pd) :: v11 :: some (.int (A : Int)) :: some (.int (D : Int)) :: some (.ref pm) :: List.replicate 3 none ∧ Same H6 H7 ∧ A < 4 ∧ D < 4 ∧ H7 pm = some (.tup [.int m0, .int m1, .int m2, .int m3]) ∧
      m0 = mx (4 * (A : Int)) (c0 + 4 * A) ∧ m1 = mx (4 * (D : Int)) (c1 + 4 * D) ∧ m2 = mn (4 * ((w : Int) + A)) (c2 + 4 * A) ∧ m3 = mn (4 * ((h : Int) + D)) (c3 + 4 * D)) ?_ (fun C hC => ?_)
    rotate_left
    · walk_at "vc gK3"
      intro p7 H7 s7 n7 g7
      refine ⟨_, g7, _, rfl, _, rfl, _, g7, _, rfl, _, rfl, _, g7, _, rfl, _, rfl, _, g7, _, rfl, fun p8 H8 s8 n8 g8 => ⟨_, g8, _, rfl, _, g8, _, rfl, _, g8, _, rfl, _, g8, _, rfl, _, rfl, fun p9 H9 s9 n9 g9 => ?_⟩⟩
      obtain ⟨A, hA⟩ := natOf (show 0 ≤ ch / 1000 % 4 by omega)
      obtain ⟨D, hD⟩ := natOf (show 0 ≤ ch / 4000 % 4 by omega)
      rw [hA, hD] at g9 ⊢
      exact hC _ _ ⟨A, D, p9, _, _, _, _, rfl, s7.trans (s8.trans s9), by omega, by omega, g9, rfl, rfl, rfl, rfl⟩
    rintro σ H7 ⟨A, D, pm, m0, m1, m2, m3, rfl, s7, hA, hD, gm, e0, e1, e2, e3⟩
    have of7 : Outs H7 pf f := ⟨xf, (s6.trans s7) _ _ gf, hxf.mono (OutV.mono (s6.trans s7))⟩
    replace go := s7 _ _ go
    refine seq_cut (fun σ H8 => ∃ (pw : Addr), σ = some (.ref a) :: some (.int c) :: some (.int (w : Int)) :: some (.int (h : Int)) :: some (.ref aK) :: some (.ref pf) :: some (.ref ps) :: some (.ref po) :: some (.ref pq) :: some (.int ch) :: some (.ref pd) :: v11 :: some (.int (A : Int)) :: some (.int (D : Int)) :: some (.ref pm) :: some (.ref pw) :: List.replicate 2 none ∧ Same H7 H8 ∧ H8 pw = some (.lst (List.map V.int (cellsF (f.map (List.map (mvP (4 * (A : Int)) (4 * (D : Int))))) m0 m1 m2 m3 (w + A) (h + D))))) ?_ (fun C hC => ?_)
    rotate_left
    · walk_at "vc sp__law_moved sp__law_cells"
      refine ⟨f, of7, lf.one.1, lf.one.2, fun H8 p8 s8 n8 o8 => ⟨pm, p8, w + A, by omega, h + D, by omega, rfl, rfl, _, _, _, _, s8 _ _ gm, _, o8, n9f.moved (by omega) (by omega) (by omega) (by omega), by omega, by omega, by omega, by rw [List.length_map]; exact lf.one.1, fun ps hp => ?_, fun H9 p9 s9 n9 g9 => hC _ _ ⟨p9, rfl, s8.trans s9, g9⟩⟩⟩
      obtain ⟨qs, hq, rfl⟩ := List.mem_map.mp hp
      rw [List.length_map]
      exact lf.one.2 qs hq
    rintro σ H8 ⟨pw, rfl, s8, gw⟩
    replace go := s8 _ _ go
    refine seq_cut (fun σ H9 => ∃ v10 v16 v17 : Option V, σ = some (.ref a) :: some (.int c) :: some (.int (w : Int)) :: some (.int (h : Int)) :: some (.ref aK) :: some (.ref pf) :: some (.ref ps) :: some (.ref po) :: some (.ref pq) :: some (.int ch) :: v10 :: v11 :: some (.int (A : Int)) :: some (.int (D : Int)) :: some (.ref pm) :: some (.ref pw) :: [v16, v17] ∧ H9 = H8) ?_ (fun C hC => ?_)
    rotate_left
    · walk_at "vc"
      rw [show ((h : Int) + (D : Int)).toNat = h + D by omega]
      refine ⟨by omega, by omega, lpW walkR (fun i σ H9 => ∃ v10 v16 v17 : Option V, σ = some (.ref a) :: some (.int c) :: some (.int (w : Int)) :: some (.int (h : Int)) :: some (.ref aK) :: some (.ref pf) :: some (.ref ps) :: some (.ref po) :: some (.ref pq) :: some (.int ch) :: v10 :: v11 :: some (.int (A : Int)) :: some (.int (D : Int)) :: some (.ref pm) :: some (.ref pw) :: [v16, v17] ∧ H9 = H8) ⟨_, _, _, rfl, rfl⟩ (fun _ _ _ _ _ => True.intro) ?_ ?_⟩
      · rintro y x σ H9 H10 hy ⟨v10, v16, v17, rfl, rfl⟩ ⟨rfl, rfl⟩
        walk_at "vc"
        rw [show ((w : Int) + (A : Int)).toNat = w + A by omega]
        refine ⟨by omega, by omega, lpW walkR (fun i σ H9 => ∃ v10 v17 : Option V, σ = some (.ref a) :: some (.int c) :: some (.int (w : Int)) :: some (.int (h : Int)) :: some (.ref aK) :: some (.ref pf) :: some (.ref ps) :: some (.ref po) :: some (.ref pq) :: some (.int ch) :: v10 :: v11 :: some (.int (A : Int)) :: some (.int (D : Int)) :: some (.ref pm) :: some (.ref pw) :: [some (.int (y : Int)), v17] ∧ H9 = H10) ⟨_, _, rfl, rfl⟩ (fun _ _ _ _ _ => True.intro) ?_ ?_⟩
        · rintro x z σ H11 H12 hx ⟨v10, v17, rfl, rfl⟩ ⟨rfl, rfl⟩
          walk_at "vc go gw"
          have hw' : y * (w + A) + x < (w + A) * (h + D) := ix_in hy hx
          have gv := cellF_move f hx hy e0 e1 e2 e3
          have ga : ∀ v, cellF (f.map (List.map (mvP (4 * (A : Int)) (4 * (D : Int))))) m0 m1 m2 m3 (w + A) (y * (w + A) + x) = v → atI (List.map V.int (cellsF (f.map (List.map (mvP (4 * (A : Int)) (4 * (D : Int))))) m0 m1 m2 m3 (w + A) (h + D))) ((y : Int) * ((w : Int) + (A : Int)) + (x : Int)) = some (V.int v) := fun v hv => by
            rw [show (y : Int) * ((w : Int) + (A : Int)) + (x : Int) = ((y * (w + A) + x : Nat) : Int) by rw [Int.natCast_add, Int.natCast_mul, Int.natCast_add]]
            exact atI_nat (by rw [List.getElem?_map, cellsF_at _ m0 m1 m2 m3 hw', hv]; rfl)
          have zero : ¬ (A ≤ x ∧ D ≤ y) → (-18446744073709551616 < (y : Int) ∧ (y : Int) < 18446744073709551616 ∨ -18446744073709551616 < (w : Int) + (A : Int) ∧ (w : Int) + (A : Int) < 18446744073709551616) ∧ ∃ x_1, atI (List.map V.int (cellsF (f.map (List.map (mvP (4 * (A : Int)) (4 * (D : Int))))) m0 m1 m2 m3 (w + A) (h + D))) ((y : Int) * ((w : Int) + (A : Int)) + (x : Int)) = some x_1 ∧ scal x_1 (V.int 0) = true ∧ if (!decide (x_1 = V.int 0)) = true then Q (V.bl false) H12 else True := fun z =>
            ⟨.inl ⟨by omega, by omega⟩, V.int 0, ga 0 (by rw [gv, if_neg z]), rfl, if_false_of (by decide) True.intro⟩
          refine iteP (fun k1 => iteP (fun k2 => ?_) (fun k2 => zero (by omega))) (fun k1 => zero (by omega))
          have hk : A ≤ x ∧ D ≤ y := by omega
          have hi : (y - D) * w + (x - A) < w * h := ix_in (by omega) (by omega)
          refine ⟨.inr ⟨by omega, by omega⟩, V.int (cellF f c0 c1 c2 c3 w ((y - D) * w + (x - A))), ?_, .inl ⟨by omega, by omega⟩, _, ga _ (by rw [gv, if_pos hk]), rfl, if_false_of (by simp) True.intro⟩
          rw [show ((y : Int) - (D : Int)) * (w : Int) + (x : Int) - (A : Int) = (((y - D) * w + (x - A) : Nat) : Int) by
            rw [Int.natCast_add, Int.natCast_mul, Int.ofNat_sub hk.1, Int.ofNat_sub hk.2]
            omega]
          exact atI_nat (by rw [List.getElem?_map, cellsF_at _ c0 c1 c2 c3 hi]; rfl)
        · rintro σ H9 ⟨v10, v17, rfl, rfl⟩
          exact ⟨⟨_, _, _, rfl⟩, rfl⟩
      · rintro σ H9 ⟨v10, v16, v17, rfl, rfl⟩
        exact hC _ _ ⟨_, _, _, rfl, rfl⟩
    rintro σ H9 ⟨v10, v16, v17, rfl, rfl⟩
    walk_at "vc"
    exact q _

end
theorem all_mk {l : PySem.W.OpenLaw} {w : World} {K : PySem.W.Frag} {h : Heap} {mg : Str → Option Value} {fa : Addr} (X : K.In h) (G : h.Ns mainGlobals mg) (hfa : mg "law" = some (.ref fa))
    {f1 : Addr} {od1 an1 : Option Addr} {sl1 : Array (Option Value)} {oc1 kV1 dc1 pm1 cd1 ct1 : Value}
    (a1 : PySem.W.nsIn K mainGlobals "bounded" = some (some (.ref f1))) (l1 : K.lookup f1 = some ⟨oc1, od1, .func (PySem.W.fnOf "bounded" "bounded" (defArgs s_bounded) (defBody s_bounded) (defScope s_bounded) .none kV1 dc1 pm1 an1 cd1 ct1), sl1⟩) (c1 : PySem.W.codeIn K cd1 "bounded" = true) (k1 : PySem.W.keepIn K (.ref f1) = true)
    {f2 : Addr} {od2 an2 : Option Addr} {sl2 : Array (Option Value)} {oc2 kV2 dc2 pm2 cd2 ct2 : Value}
    (a2 : PySem.W.nsIn K mainGlobals "middle" = some (some (.ref f2))) (l2 : K.lookup f2 = some ⟨oc2, od2, .func (PySem.W.fnOf "middle" "middle" (defArgs s_middle) (defBody s_middle) (defScope s_middle) .none kV2 dc2 pm2 an2 cd2 ct2), sl2⟩) (c2 : PySem.W.codeIn K cd2 "middle" = true) (k2 : PySem.W.keepIn K (.ref f2) = true)
    {f3 : Addr} {od3 an3 : Option Addr} {sl3 : Array (Option Value)} {oc3 kV3 dc3 pm3 cd3 ct3 : Value}
    (a3 : PySem.W.nsIn K mainGlobals "fill" = some (some (.ref f3))) (l3 : K.lookup f3 = some ⟨oc3, od3, .func (PySem.W.fnOf "fill" "fill" (defArgs s_fill) (defBody s_fill) (defScope s_fill) .none kV3 dc3 pm3 an3 cd3 ct3), sl3⟩) (c3 : PySem.W.codeIn K cd3 "fill" = true) (k3 : PySem.W.keepIn K (.ref f3) = true)
    {f4 : Addr} {od4 an4 : Option Addr} {sl4 : Array (Option Value)} {oc4 kV4 dc4 pm4 cd4 ct4 : Value}
    (a4 : PySem.W.nsIn K mainGlobals "_within" = some (some (.ref f4))) (l4 : K.lookup f4 = some ⟨oc4, od4, .func (PySem.W.fnOf "_within" "_within" (defArgs s__within) (defBody s__within) (defScope s__within) .none kV4 dc4 pm4 an4 cd4 ct4), sl4⟩) (c4 : PySem.W.codeIn K cd4 "_within" = true) (k4 : PySem.W.keepIn K (.ref f4) = true)
    {f5 : Addr} {od5 an5 : Option Addr} {sl5 : Array (Option Value)} {oc5 kV5 dc5 pm5 cd5 ct5 : Value}
    (a5 : PySem.W.nsIn K mainGlobals "_edges" = some (some (.ref f5))) (l5 : K.lookup f5 = some ⟨oc5, od5, .func (PySem.W.fnOf "_edges" "_edges" (defArgs s__edges) (defBody s__edges) (defScope s__edges) .none kV5 dc5 pm5 an5 cd5 ct5), sl5⟩) (c5 : PySem.W.codeIn K cd5 "_edges" = true) (k5 : PySem.W.keepIn K (.ref f5) = true)
    {f6 : Addr} {od6 an6 : Option Addr} {sl6 : Array (Option Value)} {oc6 kV6 dc6 pm6 cd6 ct6 : Value}
    (a6 : PySem.W.nsIn K mainGlobals "_inside_row" = some (some (.ref f6))) (l6 : K.lookup f6 = some ⟨oc6, od6, .func (PySem.W.fnOf "_inside_row" "_inside_row" (defArgs s__inside_row) (defBody s__inside_row) (defScope s__inside_row) .none kV6 dc6 pm6 an6 cd6 ct6), sl6⟩) (c6 : PySem.W.codeIn K cd6 "_inside_row" = true) (k6 : PySem.W.keepIn K (.ref f6) = true)
    {f7 : Addr} {od7 an7 : Option Addr} {sl7 : Array (Option Value)} {oc7 kV7 dc7 pm7 cd7 ct7 : Value}
    (a7 : PySem.W.nsIn K mainGlobals "_first_column" = some (some (.ref f7))) (l7 : K.lookup f7 = some ⟨oc7, od7, .func (PySem.W.fnOf "_first_column" "_first_column" (defArgs s__first_column) (defBody s__first_column) (defScope s__first_column) .none kV7 dc7 pm7 an7 cd7 ct7), sl7⟩) (c7 : PySem.W.codeIn K cd7 "_first_column" = true) (k7 : PySem.W.keepIn K (.ref f7) = true)
    {f8 : Addr} {od8 an8 : Option Addr} {sl8 : Array (Option Value)} {oc8 kV8 dc8 pm8 cd8 ct8 : Value}
    (a8 : PySem.W.nsIn K mainGlobals "_law_cell" = some (some (.ref f8))) (l8 : K.lookup f8 = some ⟨oc8, od8, .func (PySem.W.fnOf "_law_cell" "_law_cell" (defArgs s__law_cell) (defBody s__law_cell) (defScope s__law_cell) .none kV8 dc8 pm8 an8 cd8 ct8), sl8⟩) (c8 : PySem.W.codeIn K cd8 "_law_cell" = true) (k8 : PySem.W.keepIn K (.ref f8) = true)
    {f9 : Addr} {od9 an9 : Option Addr} {sl9 : Array (Option Value)} {oc9 kV9 dc9 pm9 cd9 ct9 : Value}
    (a9 : PySem.W.nsIn K mainGlobals "_law_point" = some (some (.ref f9))) (l9 : K.lookup f9 = some ⟨oc9, od9, .func (PySem.W.fnOf "_law_point" "_law_point" (defArgs s__law_point) (defBody s__law_point) (defScope s__law_point) .none kV9 dc9 pm9 an9 cd9 ct9), sl9⟩) (c9 : PySem.W.codeIn K cd9 "_law_point" = true) (k9 : PySem.W.keepIn K (.ref f9) = true)
    {f10 : Addr} {od10 an10 : Option Addr} {sl10 : Array (Option Value)} {oc10 kV10 dc10 pm10 cd10 ct10 : Value}
    (a10 : PySem.W.nsIn K mainGlobals "_law_outlines" = some (some (.ref f10))) (l10 : K.lookup f10 = some ⟨oc10, od10, .func (PySem.W.fnOf "_law_outlines" "_law_outlines" (defArgs s__law_outlines) (defBody s__law_outlines) (defScope s__law_outlines) .none kV10 dc10 pm10 an10 cd10 ct10), sl10⟩) (c10 : PySem.W.codeIn K cd10 "_law_outlines" = true) (k10 : PySem.W.keepIn K (.ref f10) = true)
    {f11 : Addr} {od11 an11 : Option Addr} {sl11 : Array (Option Value)} {oc11 kV11 dc11 pm11 cd11 ct11 : Value}
    (a11 : PySem.W.nsIn K mainGlobals "_law_near" = some (some (.ref f11))) (l11 : K.lookup f11 = some ⟨oc11, od11, .func (PySem.W.fnOf "_law_near" "_law_near" (defArgs s__law_near) (defBody s__law_near) (defScope s__law_near) .none kV11 dc11 pm11 an11 cd11 ct11), sl11⟩) (c11 : PySem.W.codeIn K cd11 "_law_near" = true) (k11 : PySem.W.keepIn K (.ref f11) = true)
    {f12 : Addr} {od12 an12 : Option Addr} {sl12 : Array (Option Value)} {oc12 kV12 dc12 pm12 cd12 ct12 : Value}
    (a12 : PySem.W.nsIn K mainGlobals "_law_told_otherwise" = some (some (.ref f12))) (l12 : K.lookup f12 = some ⟨oc12, od12, .func (PySem.W.fnOf "_law_told_otherwise" "_law_told_otherwise" (defArgs s__law_told_otherwise) (defBody s__law_told_otherwise) (defScope s__law_told_otherwise) .none kV12 dc12 pm12 an12 cd12 ct12), sl12⟩) (c12 : PySem.W.codeIn K cd12 "_law_told_otherwise" = true) (k12 : PySem.W.keepIn K (.ref f12) = true)
    {f13 : Addr} {od13 an13 : Option Addr} {sl13 : Array (Option Value)} {oc13 kV13 dc13 pm13 cd13 ct13 : Value}
    (a13 : PySem.W.nsIn K mainGlobals "_law_cells" = some (some (.ref f13))) (l13 : K.lookup f13 = some ⟨oc13, od13, .func (PySem.W.fnOf "_law_cells" "_law_cells" (defArgs s__law_cells) (defBody s__law_cells) (defScope s__law_cells) .none kV13 dc13 pm13 an13 cd13 ct13), sl13⟩) (c13 : PySem.W.codeIn K cd13 "_law_cells" = true) (k13 : PySem.W.keepIn K (.ref f13) = true)
    {f14 : Addr} {od14 an14 : Option Addr} {sl14 : Array (Option Value)} {oc14 kV14 dc14 pm14 cd14 ct14 : Value}
    (a14 : PySem.W.nsIn K mainGlobals "_law_moved" = some (some (.ref f14))) (l14 : K.lookup f14 = some ⟨oc14, od14, .func (PySem.W.fnOf "_law_moved" "_law_moved" (defArgs s__law_moved) (defBody s__law_moved) (defScope s__law_moved) .none kV14 dc14 pm14 an14 cd14 ct14), sl14⟩) (c14 : PySem.W.codeIn K cd14 "_law_moved" = true) (k14 : PySem.W.keepIn K (.ref f14) = true)
    {f15 : Addr} {od15 an15 : Option Addr} {sl15 : Array (Option Value)} {oc15 kV15 dc15 pm15 cd15 ct15 : Value}
    (a15 : PySem.W.nsIn K mainGlobals "law" = some (some (.ref f15))) (l15 : K.lookup f15 = some ⟨oc15, od15, .func (PySem.W.fnOf "law" "law" (defArgs s_law) (defBody s_law) (defScope s_law) .none kV15 dc15 pm15 an15 cd15 ct15), sl15⟩) (c15 : PySem.W.codeIn K cd15 "law" = true) (k15 : PySem.W.keepIn K (.ref f15) = true)
    {t16 : Tok} (a16 : PySem.W.nsIn K mainGlobals "_FARTHEST" = some (some (.int 1048576 t16)))
    (a17 : PySem.W.nsIn K mainGlobals "abs" = some none)
    (a18 : PySem.W.nsIn K mainGlobals "int" = some none)
    (a19 : PySem.W.nsIn K mainGlobals "len" = some none)
    (a20 : PySem.W.nsIn K mainGlobals "list" = some none)
    (a21 : PySem.W.nsIn K mainGlobals "max" = some none)
    (a22 : PySem.W.nsIn K mainGlobals "min" = some none)
    (a23 : PySem.W.nsIn K mainGlobals "range" = some none)
    (a24 : PySem.W.nsIn K mainGlobals "reversed" = some none)
    (a25 : PySem.W.nsIn K mainGlobals "tuple" = some none)
    (a26 : PySem.W.nsIn K mainGlobals "zip" = some none)
    : ∃ fd : FuncData, (∀ (s : Shared) (v : Value), BindsTo s fd ⟨[v], []⟩ [("script", v)]) ∧ ∀ base : Heap, K.In base → base.Ns mainGlobals mg → FnOk l.prog w K mg base CX0 5 fa fd ["script"] (spLaw K) := by
  have e := hfa.symm.trans (PySem.W.mg_of X G a15)
  cases e
  have F1 := fun_mk (st := s_bounded) l1 c1 k1
  have b1 := F1.binds (ps := ["number"]) fun _ _ _ _ _ _ us hl => match us, hl with | [_], _ => rfl
  have F2 := fun_mk (st := s_middle) l2 c2 k2
  have b2 := F2.binds (ps := ["at"]) fun _ _ _ _ _ _ us hl => match us, hl with | [_], _ => rfl
  have F3 := fun_mk (st := s_fill) l3 c3 k3
  have b3 := F3.binds (ps := ["grid", "clip", "outlines", "colour"]) fun _ _ _ _ _ _ us hl => match us, hl with | [_, _, _, _], _ => rfl
  have F4 := fun_mk (st := s__within) l4 c4 k4
  have b4 := F4.binds (ps := ["begin", "end", "count"]) fun _ _ _ _ _ _ us hl => match us, hl with | [_, _, _], _ => rfl
  have F5 := fun_mk (st := s__edges) l5 c5 k5
  have b5 := F5.binds (ps := ["outlines"]) fun _ _ _ _ _ _ us hl => match us, hl with | [_], _ => rfl
  have F6 := fun_mk (st := s__inside_row) l6 c6 k6
  have b6 := F6.binds (ps := ["crossed", "y", "width"]) fun _ _ _ _ _ _ us hl => match us, hl with | [_, _, _], _ => rfl
  have F7 := fun_mk (st := s__first_column) l7 c7 k7
  have b7 := F7.binds (ps := ["edge", "y", "width"]) fun _ _ _ _ _ _ us hl => match us, hl with | [_, _, _], _ => rfl
  have F8 := fun_mk (st := s__law_cell) l8 c8 k8
  have b8 := F8.binds (ps := ["script", "k"]) fun _ _ _ _ _ _ us hl => match us, hl with | [_, _], _ => rfl
  have F9 := fun_mk (st := s__law_point) l9 c9 k9
  have b9 := F9.binds (ps := ["cell", "width", "height"]) fun _ _ _ _ _ _ us hl => match us, hl with | [_, _, _], _ => rfl
  have F10 := fun_mk (st := s__law_outlines) l10 c10 k10
  have b10 := F10.binds (ps := ["script", "at", "width", "height"]) fun _ _ _ _ _ _ us hl => match us, hl with | [_, _, _, _], _ => rfl
  have F11 := fun_mk (st := s__law_near) l11 c11 k11
  have b11 := F11.binds (ps := ["outlines"]) fun _ _ _ _ _ _ us hl => match us, hl with | [_], _ => rfl
  have F12 := fun_mk (st := s__law_told_otherwise) l12 c12 k12
  have b12 := F12.binds (ps := ["outlines", "cell"]) fun _ _ _ _ _ _ us hl => match us, hl with | [_, _], _ => rfl
  have F13 := fun_mk (st := s__law_cells) l13 c13 k13
  have b13 := F13.binds (ps := ["width", "height", "clip", "outlines"]) fun _ _ _ _ _ _ us hl => match us, hl with | [_, _, _, _], _ => rfl
  have F14 := fun_mk (st := s__law_moved) l14 c14 k14
  have b14 := F14.binds (ps := ["outlines", "dx", "dy"]) fun _ _ _ _ _ _ us hl => match us, hl with | [_, _, _], _ => rfl
  have F15 := fun_mk (st := s_law) l15 c15 k15
  have b15 := F15.binds (ps := ["script"]) fun _ _ _ _ _ _ us hl => match us, hl with | [_], _ => rfl
  have T : Txt K mg := ⟨f1, _, F1, b1, PySem.W.mg_of X G a1,
    f2, _, F2, b2, PySem.W.mg_of X G a2,
    f3, _, F3, b3, PySem.W.mg_of X G a3,
    f4, _, F4, b4, PySem.W.mg_of X G a4,
    f5, _, F5, b5, PySem.W.mg_of X G a5,
    f6, _, F6, b6, PySem.W.mg_of X G a6,
    f7, _, F7, b7, PySem.W.mg_of X G a7,
    f8, _, F8, b8, PySem.W.mg_of X G a8,
    f9, _, F9, b9, PySem.W.mg_of X G a9,
    f10, _, F10, b10, PySem.W.mg_of X G a10,
    f11, _, F11, b11, PySem.W.mg_of X G a11,
    f12, _, F12, b12, PySem.W.mg_of X G a12,
    f13, _, F13, b13, PySem.W.mg_of X G a13,
    f14, _, F14, b14, PySem.W.mg_of X G a14,
    fa, _, F15, b15, PySem.W.mg_of X G a15,
    t16, PySem.W.mg_of X G a16,
    PySem.W.mg_none_of X G a17,
    PySem.W.mg_none_of X G a18,
    PySem.W.mg_none_of X G a19,
    PySem.W.mg_none_of X G a20,
    PySem.W.mg_none_of X G a21,
    PySem.W.mg_none_of X G a22,
    PySem.W.mg_none_of X G a23,
    PySem.W.mg_none_of X G a24,
    PySem.W.mg_none_of X G a25,
    PySem.W.mg_none_of X G a26⟩
  refine ⟨PySem.W.fnOf "law" "law" (defArgs s_law) (defBody s_law) (defScope s_law) .none kV15 dc15 pm15 an15 cd15 ct15, fun s v => .of_eq rfl, fun base _ _ => ?_⟩
  exact ok_law_of F15 T
end K37
open PySem PySem.W PyProof.Rows
set_option maxRecDepth 100000 in
set_option maxHeartbeats 0 in
theorem PySem.Challenge.cw_stillroom_k37_outlines_may_be_told_other_holds : PySem.Challenge.rw_stillroom_k37_outlines_may_be_told_other.Holds := by
  w_on; o_law; k_head; (case hw => w_witness2)
  k_fill
  refine L2.walk_of (l := PySem.Challenge.rw_stillroom_k37_outlines_may_be_told_other) (n := 63) (k := 5) (x := "script") (CX := fun _ => L2.CX0) (sp := fun w => K37.spLaw _) rfl (by decide) rfl ⟨rfl, by decide, by decide⟩ (fun w h Y => PySem.W.kIn_of Y) ?F (fun _ _ a ns hl _ hS => ⟨a, ns, rfl, hS, hl, fun _ => rfl⟩) (fun _ _ _ _ _ h => h)
  case F =>
    intro w mg fa h KX G hmg
    refine' K37.all_mk KX G hmg ?a1 ?l1 ?c1 ?k1 ?a2 ?l2 ?c2 ?k2 ?a3 ?l3 ?c3 ?k3 ?a4 ?l4 ?c4 ?k4 ?a5 ?l5 ?c5 ?k5 ?a6 ?l6 ?c6 ?k6 ?a7 ?l7 ?c7 ?k7 ?a8 ?l8 ?c8 ?k8 ?a9 ?l9 ?c9 ?k9 ?a10 ?l10 ?c10 ?k10 ?a11 ?l11 ?c11 ?k11 ?a12 ?l12 ?c12 ?k12 ?a13 ?l13 ?c13 ?k13 ?a14 ?l14 ?c14 ?k14 ?a15 ?l15 ?c15 ?k15 ?a16 ?a17 ?a18 ?a19 ?a20 ?a21 ?a22 ?a23 ?a24 ?a25 ?a26
    (case a1 => k_is)
    (case l1 => k_is)
    (case c1 => k_is)
    (case k1 => k_is)
    (case a2 => k_is)
    (case l2 => k_is)
    (case c2 => k_is)
    (case k2 => k_is)
    (case a3 => k_is)
    (case l3 => k_is)
    (case c3 => k_is)
    (case k3 => k_is)
    (case a4 => k_is)
    (case l4 => k_is)
    (case c4 => k_is)
    (case k4 => k_is)
    (case a5 => k_is)
    (case l5 => k_is)
    (case c5 => k_is)
    (case k5 => k_is)
    (case a6 => k_is)
    (case l6 => k_is)
    (case c6 => k_is)
    (case k6 => k_is)
    (case a7 => k_is)
    (case l7 => k_is)
    (case c7 => k_is)
    (case k7 => k_is)
    (case a8 => k_is)
    (case l8 => k_is)
    (case c8 => k_is)
    (case k8 => k_is)
    (case a9 => k_is)
    (case l9 => k_is)
    (case c9 => k_is)
    (case k9 => k_is)
    (case a10 => k_is)
    (case l10 => k_is)
    (case c10 => k_is)
    (case k10 => k_is)
    (case a11 => k_is)
    (case l11 => k_is)
    (case c11 => k_is)
    (case k11 => k_is)
    (case a12 => k_is)
    (case l12 => k_is)
    (case c12 => k_is)
    (case k12 => k_is)
    (case a13 => k_is)
    (case l13 => k_is)
    (case c13 => k_is)
    (case k13 => k_is)
    (case a14 => k_is)
    (case l14 => k_is)
    (case c14 => k_is)
    (case k14 => k_is)
    (case a15 => k_is)
    (case l15 => k_is)
    (case c15 => k_is)
    (case k15 => k_is)
    (case a16 => k_is)
    (case a17 => k_is)
    (case a18 => k_is)
    (case a19 => k_is)
    (case a20 => k_is)
    (case a21 => k_is)
    (case a22 => k_is)
    (case a23 => k_is)
    (case a24 => k_is)
    (case a25 => k_is)
    (case a26 => k_is)

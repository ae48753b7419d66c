

import PyProof.Rows.All
import Wide.All
import OpenK.AllK
import Wide.FinOn
import HandS.ForMost
import HandS.Wide
import HandS.IsInst
import HandS.FStr
import HandS.Zip
import HandS.CallLocal
import HandS.Walk
import HandS.TryOnly
import HandS.TupAny
import HandS.DictComp
import HandS.Deep
import PyProof.DictMoreH
import HandS.Text
import HandS.Codes
import KE.GoesMore
import HandS.Style
import HandS.Rev
import HandS.ExcOwn
import HandS.WordsExc
import HandS.ExcIs
import HandS.TryMany
import PySem.Challenge.RW_stillroom_k25_finding_and_following
set_option Elab.async false
set_option linter.all false
set_option maxRecDepth 100000
namespace K25
open PySem PySem.Spec PyProof.Rows L2

/-! ### rules with plainer readings -/
section
variable {X : Cx}
theorem CallR.of {f : Value} {r r' : List V → Hp → VK → Prop} (h : CallR X f r) (k : ∀ xs H Q, r' xs H Q → r xs H Q) : CallR X f r' := fun pins s σ H xs us Q I rv q => h pins s σ H xs us Q I rv (k xs H Q q)
theorem OpR.of {f : Value → Value → Sem Value} {r r' : R2} (h : OpR X f r) (k : ∀ x y H Q, r' x y H Q → r x y H Q) : OpR X f r' := fun pins s σ H x y v u Q I rx ry q => h pins s σ H x y v u Q I rx ry (k x y H Q q)
/-- the name of a plain value's type -/
def tnm : V → Option String
  | .non => some "NoneType"
  | .bl _ => some "bool"
  | .int _ => some "int"
  | .str _ => some "str"
  | _ => none
theorem tnm_int (i : Int) : tnm (.int i) = some "int" := rfl
theorem tnm_bl (b : Bool) : tnm (.bl b) = some "bool" := rfl
theorem tnm_str (x : Str) : tnm (.str x) = some "str" := rfl
theorem tnm_non : tnm .non = some "NoneType" := rfl
theorem tnm_ref (p : Addr) : tnm (.ref p) = none := rfl
theorem scal_ii (i j : Int) : scal (.int i) (.int j) = true := rfl
theorem scal_ss (i j : Str) : scal (.str i) (.str j) = true := rfl
theorem scal_bb (i j : Bool) : scal (.bl i) (.bl j) = true := rfl
theorem scal_nn : scal .non .non = true := rfl
theorem scal_in (i : Int) : scal (.int i) .non = true := rfl
theorem scal_ni (i : Int) : scal .non (.int i) = true := rfl
def rIsiB : List V → Hp → VK → Prop := fun vs H Q => (∃ x n a b, vs = [x, .ty n] ∧ tnm x = some a ∧ kitB a n = some b ∧ Q (.bl b) H) ∨
  (∃ p n xs b, vs = [.ref p, .ty n] ∧ H p = some (.lst xs) ∧ kitB "list" n = some b ∧ Q (.bl b) H) ∨ ∃ p n xs b, vs = [.ref p, .ty n] ∧ H p = some (.tup xs) ∧ kitB "tuple" n = some b ∧ Q (.bl b) H
theorem call_isiB : CallR X (.builtin "isinstance") rIsiB := CallR.of call_isi (by
  intro vs H Q h
  rcases h with ⟨x, n, a, b, rfl, ha, hb, q⟩ | ⟨p, n, xs, b, rfl, ha, hb, q⟩ | ⟨p, n, xs, b, rfl, ha, hb, q⟩
  · refine ⟨x, .ty n, .type a, .type n, b, rfl, .ty n, ?_, kit_ty hb, q⟩
    cases x <;> cases ha
    · exact .base .non
    · exact .base (.bl _)
    · exact .base (.int _)
    · exact .base (.str _)
  · exact ⟨.ref p, .ty n, .type "list", .type n, b, rfl, .ty n, .base (.lst ha), kit_ty hb, q⟩
  · exact ⟨.ref p, .ty n, .type "tuple", .type n, b, rfl, .ty n, .base (.tup ha), kit_ty hb, q⟩)
theorem kb1 : kitB "int" "int" = some true := by decide +kernel
theorem kb2 : kitB "int" "bool" = some false := by decide +kernel
theorem kb3 : kitB "bool" "bool" = some true := by decide +kernel
theorem kb4 : kitB "bool" "int" = some true := by decide +kernel
theorem kb5 : kitB "str" "str" = some true := by decide +kernel
theorem kb6 : kitB "str" "int" = some false := by decide +kernel
theorem kb7 : kitB "list" "list" = some true := by decide +kernel
theorem kb8 : kitB "tuple" "tuple" = some true := by decide +kernel
theorem kb9 : kitB "NoneType" "int" = some false := by decide +kernel
theorem kb10 : kitB "NoneType" "list" = some false := by decide +kernel
/-- len, a copy, an item of a tracked list -/
def rLenH : List V → Hp → VK → Prop := fun vs H Q => ∃ p xs, vs = [.ref p] ∧ H p = some (.lst xs) ∧ Q (.int xs.length) H
theorem call_lenH : CallR X (.builtin "len") rLenH := CallR.of call_len_seq (by
  rintro vs H Q ⟨p, xs, rfl, h, q⟩
  exact ⟨p, xs, rfl, .inl (.inl (.inl h)), q⟩)
def rLenT : List V → Hp → VK → Prop := fun vs H Q => ∃ p xs, vs = [.ref p] ∧ H p = some (.tup xs) ∧ Q (.int xs.length) H
theorem call_lenT : CallR X (.builtin "len") rLenT := CallR.of call_len_seq (by
  rintro vs H Q ⟨p, xs, rfl, h, q⟩
  exact ⟨p, xs, rfl, .inr (.inl (.inl h)), q⟩)
def rListH : List V → Hp → VK → Prop := fun vs H Q => ∃ p xs, vs = [.ref p] ∧ H p = some (.lst xs) ∧ ∀ l, H l = none → Q (.ref l) (upd H l (.lst xs))
theorem call_listH : CallR X (.type "list") rListH := CallR.of call_list_of (by
  rintro vs H Q ⟨p, xs, rfl, h, q⟩
  exact ⟨p, xs, rfl, .inl (.inl (.inl h)), q⟩)
theorem ints_dp {K : PySem.W.Frag} {H : Hp} : ∀ ns : List Int, DpAll K H (ns.map V.int) (ns.map PyData.int)
  | [] => .nil
  | n :: r => .cons (.int n) (ints_dp r)
theorem ints_eqv : ∀ ns ms : List Int, PyData.eqvAll (ns.map PyData.int) (ms.map PyData.int) = decide (ns = ms)
  | [], [] => by simp [PyData.eqvAll]
  | [], _ :: _ => by simp [PyData.eqvAll]
  | _ :: _, [] => by simp [PyData.eqvAll]
  | n :: r, m :: q => by
    rw [List.map_cons, List.map_cons, PyData.eqvAll, ints_eqv r q]
    simp only [PyData.eqv, List.cons.injEq, Bool.decide_and]
    by_cases h : n = m <;> simp [h]
theorem ints_lay : ∀ ns : List Int, PyData.canLayAll0 (ns.map PyData.int) = true
  | [] => rfl
  | _ :: r => by rw [List.map_cons, PyData.canLayAll0, ints_lay r]; rfl
theorem ints_depth : ∀ ns : List Int, PyData.depthAll (ns.map PyData.int) = 0
  | [] => rfl
  | _ :: r => by rw [List.map_cons, PyData.depthAll, ints_depth r]; rfl
theorem ints_shaped (ns : List Int) : SeqAt.shaped (.list (ns.map PyData.int)) = true := by
  unfold SeqAt.shaped
  rw [PyData.canLay0, ints_lay, PyData.depth, ints_depth]
  rfl
/-- == and != of two tracked lists of ints -/
def rEqIL : R2 := fun x y H Q => ∃ a b ns ms, x = .ref a ∧ y = .ref b ∧ H a = some (.lst (List.map V.int ns)) ∧ H b = some (.lst (List.map V.int ms)) ∧ Q (.bl (decide (ns = ms))) H
theorem op_eqIL (hu : X.A.units + 64 < cLine) : OpR X (compareOp .Eq) rEqIL := OpR.of (op_eqD hu) (by
  rintro x y H Q ⟨a, b, ns, ms, rfl, rfl, ha, hb, q⟩
  refine ⟨_, _, .lst (.inl (.inl ha)) (ints_dp ns), .lst (.inl (.inl hb)) (ints_dp ms), ints_shaped ns, ints_shaped ms, ?_⟩
  rw [PyData.eqv, ints_eqv]
  exact q)
def rNeIL : R2 := fun x y H Q => ∃ a b ns ms, x = .ref a ∧ y = .ref b ∧ H a = some (.lst (List.map V.int ns)) ∧ H b = some (.lst (List.map V.int ms)) ∧ Q (.bl (!decide (ns = ms))) H
theorem op_neIL (hu : X.A.units + 64 < cLine) : OpR X (compareOp .NotEq) rNeIL := OpR.of (op_neD hu) (by
  rintro x y H Q ⟨a, b, ns, ms, rfl, rfl, ha, hb, q⟩
  refine ⟨_, _, .lst (.inl (.inl ha)) (ints_dp ns), .lst (.inl (.inl hb)) (ints_dp ms), ints_shaped ns, ints_shaped ms, ?_⟩
  rw [PyData.eqv, ints_eqv]
  exact q)
/-- == of two tracked tuples of plain things -/
def dS : V → PyData
  | .int i => .int i
  | .bl b => .bool b
  | _ => .none
def isS : V → Bool
  | .int _ => true
  | .bl _ => true
  | .non => true
  | _ => false
theorem isS_dp {K : PySem.W.Frag} {H : Hp} : ∀ xs : List V, xs.all isS = true → DpAll K H xs (xs.map dS)
  | [], _ => .nil
  | x :: r, h => by
    rw [List.all_cons, Bool.and_eq_true] at h
    refine .cons ?_ (isS_dp r h.2)
    have h1 := h.1
    cases x <;> first | exact .int _ | exact .bl _ | exact .non | cases h1
theorem isS_lay : ∀ xs : List V, PyData.canLayAll0 (xs.map dS) = true
  | [] => rfl
  | x :: r => by rw [List.map_cons, PyData.canLayAll0, isS_lay r]; cases x <;> rfl
theorem isS_depth : ∀ xs : List V, PyData.depthAll (xs.map dS) = 0
  | [] => rfl
  | x :: r => by rw [List.map_cons, PyData.depthAll, isS_depth r]; cases x <;> rfl
theorem isS_shaped (xs : List V) : SeqAt.shaped (.tuple (xs.map dS)) = true := by
  unfold SeqAt.shaped
  rw [PyData.canLay0, isS_lay, PyData.depth, isS_depth]
  rfl
def rEqTS : R2 := fun x y H Q => ∃ a b xs ys, x = .ref a ∧ y = .ref b ∧ H a = some (.tup xs) ∧ H b = some (.tup ys) ∧ xs.all isS = true ∧ ys.all isS = true ∧ Q (.bl (PyData.eqvAll (xs.map dS) (ys.map dS))) H
theorem op_eqTS (hu : X.A.units + 64 < cLine) : OpR X (compareOp .Eq) rEqTS := OpR.of (op_eqD hu) (by
  rintro x y H Q ⟨a, b, xs, ys, rfl, rfl, ha, hb, h1, h2, q⟩
  refine ⟨_, _, .tup (.inl (.inl ha)) (isS_dp xs h1), .tup (.inl (.inl hb)) (isS_dp ys h2), isS_shaped xs, isS_shaped ys, ?_⟩
  rw [PyData.eqv]
  exact q)
theorem dS_int (i : Int) : dS (.int i) = .int i := rfl
theorem dS_bl (b : Bool) : dS (.bl b) = .bool b := rfl
theorem isS_int (i : Int) : isS (.int i) = true := rfl
theorem isS_bl (b : Bool) : isS (.bl b) = true := rfl
theorem eqv_ii (i j : Int) : PyData.eqv (.int i) (.int j) = decide (i = j) := by rw [PyData.eqv]; rfl
theorem eqv_bb (i j : Bool) : PyData.eqv (.bool i) (.bool j) = decide (i = j) := by rw [PyData.eqv]; cases i <;> cases j <;> rfl
theorem eqvAll_nil : PyData.eqvAll [] [] = true := by rw [PyData.eqvAll]
theorem eqvAll_cons (x y : PyData) (xs ys : List PyData) : PyData.eqvAll (x :: xs) (y :: ys) = (PyData.eqv x y && PyData.eqvAll xs ys) := by rw [PyData.eqvAll]
theorem ip_of {op : Operator} {r : R2} (h : OpR X (inplaceOp op) r) : PIp X op r := fun pins s σ H x y v u Q I r1 r2 q => h pins s σ H x y v u Q I r1 r2 q
theorem SlR.of {r r' : V → Option Int → Option Int → Hp → VK → Prop} (h : SlR X r) (k : ∀ x lo hi H Q, r' x lo hi H Q → r x lo hi H Q) : SlR X r' := fun pins s σ H x v vl vu lo hi sl Q I rx hs pl pu q => h pins s σ H x v vl vu lo hi sl Q I rx hs pl pu (k x lo hi H Q q)
/-- a slice of a tracked list -/
def rSlH : V → Option Int → Option Int → Hp → VK → Prop := fun x lo hi H Q => ∃ a xs, x = .ref a ∧ H a = some (.lst xs) ∧ ∀ p, H p = none → Q (.ref p) (upd H p (.lst (cutV xs lo hi)))
theorem sl_listH : SlR X rSlH := SlR.of sl_list (by
  rintro x lo hi H Q ⟨a, xs, rfl, h, q⟩
  exact ⟨a, xs, rfl, .inl (.inl h), q⟩)
/-- == and != of two tracked pairs of a list of ints and an int -/
theorem li_dp {K : PySem.W.Frag} {H : Hp} {q : Addr} {l : Int} {ns : List Int} (hq : H q = some (.lst (List.map V.int ns))) : DpAll K H [.ref q, .int l] [.list (ns.map PyData.int), .int l] := .cons (.lst (.inl (.inl hq)) (ints_dp ns)) (.cons (.int l) .nil)
theorem li_shaped (ns : List Int) (l : Int) : SeqAt.shaped (.tuple [.list (ns.map PyData.int), .int l]) = true := by
  unfold SeqAt.shaped
  rw [PyData.canLay0, PyData.canLayAll0, PyData.canLay0, ints_lay, PyData.canLayAll0, PyData.depth, PyData.depthAll, PyData.depth, ints_depth, PyData.depthAll]
  rfl
theorem li_eqv (ns ms : List Int) (l m : Int) : PyData.eqv (.tuple [.list (ns.map PyData.int), .int l]) (.tuple [.list (ms.map PyData.int), .int m]) = (decide (ns = ms) && decide (l = m)) := by
  rw [PyData.eqv, PyData.eqvAll, PyData.eqvAll, PyData.eqvAll, PyData.eqv, PyData.eqv, ints_eqv, Bool.and_true]
  rfl
def rEqLI : R2 := fun x y H Q => ∃ a b q r l m ns ms, x = .ref a ∧ y = .ref b ∧ H a = some (.tup [.ref q, .int l]) ∧ H b = some (.tup [.ref r, .int m]) ∧ H q = some (.lst (List.map V.int ns)) ∧ H r = some (.lst (List.map V.int ms)) ∧ Q (.bl (decide (ns = ms) && decide (l = m))) H
theorem op_eqLI (hu : X.A.units + 64 < cLine) : OpR X (compareOp .Eq) rEqLI := OpR.of (op_eqD hu) (by
  rintro x y H Q ⟨a, b, q, r, l, m, ns, ms, rfl, rfl, ha, hb, hq, hr, k⟩
  refine ⟨_, _, .tup (.inl (.inl ha)) (li_dp hq), .tup (.inl (.inl hb)) (li_dp hr), li_shaped ns l, li_shaped ms m, ?_⟩
  rw [li_eqv]
  exact k)
def rNeLI : R2 := fun x y H Q => ∃ a b q r l m ns ms, x = .ref a ∧ y = .ref b ∧ H a = some (.tup [.ref q, .int l]) ∧ H b = some (.tup [.ref r, .int m]) ∧ H q = some (.lst (List.map V.int ns)) ∧ H r = some (.lst (List.map V.int ms)) ∧ Q (.bl (!(decide (ns = ms) && decide (l = m)))) H
theorem op_neLI (hu : X.A.units + 64 < cLine) : OpR X (compareOp .NotEq) rNeLI := OpR.of (op_neD hu) (by
  rintro x y H Q ⟨a, b, q, r, l, m, ns, ms, rfl, rfl, ha, hb, hq, hr, k⟩
  refine ⟨_, _, .tup (.inl (.inl ha)) (li_dp hq), .tup (.inl (.inl hb)) (li_dp hr), li_shaped ns l, li_shaped ms m, ?_⟩
  rw [li_eqv]
  exact k)
def rIxH : R2 := fun x y H Q => ∃ p xs i v, x = .ref p ∧ y = .int i ∧ H p = some (.lst xs) ∧ atI xs i = some v ∧ Q v H
theorem IxR.of {r r' : R2} (h : IxR X r) (k : ∀ x y H Q, r' x y H Q → r x y H Q) : IxR X r' := fun va sl pins s σ H x y v u Q I rx ry q hs => h va sl pins s σ H x y v u Q I rx ry (k x y H Q q) hs
theorem ix_listH : IxR X rIxH := IxR.of ix_list (by
  rintro x y H Q ⟨p, xs, i, v, e1, e2, h, h2, q⟩
  exact ⟨p, xs, i, v, e1, e2, .inl (.inl h), h2, q⟩)
def rIxTH : R2 := fun x y H Q => ∃ p xs i v, x = .ref p ∧ y = .int i ∧ H p = some (.tup xs) ∧ atI xs i = some v ∧ Q v H
theorem ix_tupH : IxR X rIxTH := IxR.of ix_tup (by
  rintro x y H Q ⟨p, xs, i, v, e1, e2, h, h2, q⟩
  exact ⟨p, xs, i, v, e1, e2, .inl (.inl h), h2, q⟩)
end
/-- a place in bounds -/
theorem ixN_in {n : Nat} {k : Int} (h0 : 0 ≤ k) (h1 : k < n) : ixN n k = some k.toNat := by
  unfold ixN
  rw [if_pos h0, if_pos h1]
theorem atI_in {xs : List Int} {k : Int} (h0 : 0 ≤ k) (h1 : k < xs.length) : ∃ b, xs[k.toNat]? = some b ∧ atI (xs.map V.int) k = some (.int b) := by
  have h : k.toNat < xs.length := by omega
  refine ⟨xs[k.toNat], List.getElem?_eq_getElem h, ?_⟩
  unfold atI
  rw [List.length_map, ixN_in h0 h1]
  show (xs.map V.int)[k.toNat]? = _
  rw [List.getElem?_map, List.getElem?_eq_getElem h]
  rfl
theorem mod_in (x : Int) {m : Int} (h : 0 < m) : 0 ≤ x % m ∧ x % m < m := ⟨Int.emod_nonneg x (by omega), Int.emod_lt_of_pos x h⟩
theorem atI_c0 {α : Type} (x : α) (xs : List α) : atI (x :: xs) 0 = some x := atI_nat (j := 0) rfl
theorem atI_c1 {α : Type} (x y : α) (xs : List α) : atI (x :: y :: xs) 1 = some y := atI_nat (j := 1) rfl
theorem atI_c2 {α : Type} (x y z : α) (xs : List α) : atI (x :: y :: z :: xs) 2 = some z := atI_nat (j := 2) rfl
theorem atI_c3 {α : Type} (x y z u : α) (xs : List α) : atI (x :: y :: z :: u :: xs) 3 = some u := atI_nat (j := 3) rfl

theorem tyV_upd {K : PySem.W.Frag} {H : Hp} {p : Addr} {xs : List V} : tyV K "list" (.ref p) (upd H p (.lst xs)) = True := eq_true (.inl ⟨rfl, xs, .inl (.inl upd_same)⟩)
theorem nil_sz : (0 ≤ sizeLine) = True := eq_true (Nat.zero_le _)
/-- what a for asks once its walk stands -/
def Loop (J : It) (g : TG) (tb : TS) (D : Ends) (σ : L2.St) (H1 : Hp) : Prop := ∃ W : Nat → Nat → L2.St → Hp → Prop, (∃ m, W 0 m σ H1) ∧ ∀ i m σ H, W i m σ H →
  (J.stop i H ∧ D.nx σ H) ∨ (J.go i H ∧ ∃ N : L2.St → Hp → Prop, (∀ σ' H', N σ' H' → ∃ m', m' < m ∧ W (i + 1) m' σ' H') ∧ ∀ x H', J.yld i H x H' → g x σ H' fun σ2 H2 => tb { D with nx := N, ct := N, bk := D.nx } σ2 H2)
theorem tFor_eq {wi : TI} {g : TG} {tb : TS} {D : Ends} {σ : L2.St} {H : Hp} : tFor wi g tb D σ H = wi σ H fun J H1 => Loop J g tb D σ H1 := rfl
theorem lp_range {n : Nat} {g : TG} {tb : TS} {D : Ends} {σ : L2.St} {H : Hp} (Pv : Nat → L2.St → Hp → Prop) (h0 : Pv 0 σ H)
    (hs : ∀ i σ H, i < n → Pv i σ H → g (.int i) σ H fun σ2 H2 => tb { D with nx := Pv (i + 1), ct := Pv (i + 1), bk := D.nx } σ2 H2) (hd : ∀ σ H, Pv n σ H → D.nx σ H) : Loop (Itr 0 n) g tb D σ H :=
  for_range (lo := 0) Pv h0 (fun i σ H a b => by have := hs i σ H a b; rw [Int.zero_add]; exact this) hd
theorem lp_list {K : PySem.W.Frag} {a : Addr} {xs : List V} {g : TG} {tb : TS} {D : Ends} {σ : L2.St} {H : Hp} (Pv : Nat → L2.St → Hp → Prop) (h0 : Pv 0 σ H) (hl : ∀ i σ H, i ≤ xs.length → Pv i σ H → SqL K H a xs)
    (hs : ∀ i x σ H, xs[i]? = some x → Pv i σ H → g x σ H fun σ2 H2 => tb { D with nx := Pv (i + 1), ct := Pv (i + 1), bk := D.nx } σ2 H2) (hd : ∀ σ H, Pv xs.length σ H → D.nx σ H) : Loop (Itl K a) g tb D σ H := for_list Pv h0 hl hs hd
/-- the same for a comprehension -/
def LcLoop (J : It) (g : TG) (tt : TT) (te : TE) (vs : List Nat) (σ : L2.St) (H1 : Hp) (Q : VK) : Prop := ∀ D, H1 D = none → ∃ W : Nat → Nat → Hp → Prop, (∃ m, W 0 m (upd H1 D (.lst []))) ∧ ∀ i m H, W i m H →
  (J.stop i H ∧ Q (.ref D) H) ∨ (J.go i H ∧ ∃ Nx : Hp → Prop, (∀ H', Nx H' → ∃ m', m' < m ∧ W (i + 1) m' H') ∧ ∀ x H', J.yld i H x H' → g x (wipe σ vs) H' fun σ2 H2 => wipe σ2 vs = wipe σ vs ∧ tt σ2 H2 fun b H3 =>
    if b = true then te σ2 H3 fun y H4 => ∃ acc, H4 D = some (.lst acc) ∧ acc.length < sizeLine ∧ Nx (upd H4 D (.lst (acc ++ [y]))) else Nx H3)
theorem tLc_eq {wi : TI} {g : TG} {tt : TT} {te : TE} {vs : List Nat} {σ : L2.St} {H : Hp} {Q : VK} : tLc wi g tt te vs σ H Q = wi σ H fun J H1 => LcLoop J g tt te vs σ H1 Q := rfl
/-- a comprehension over a list, whose elements leave the heap as it is: L i is what i turns have made -/
theorem lc_pure {K : PySem.W.Frag} {a : Addr} {xs : List V} {g : TG} {tt : TT} {te : TE} {vs : List Nat} {σ : L2.St} {H1 : Hp} {Q : VK} (L : Nat → List V) (hS : SqL K H1 a xs) (h0 : L 0 = [])
    (hs : ∀ i x D, xs[i]? = some x → H1 D = none → g x (wipe σ vs) (upd H1 D (.lst (L i))) fun σ2 H2 => wipe σ2 vs = wipe σ vs ∧ tt σ2 H2 fun b H3 =>
      if b = true then te σ2 H3 fun y H4 => ∃ acc, H4 D = some (.lst acc) ∧ acc.length < sizeLine ∧ upd H4 D (.lst (acc ++ [y])) = upd H1 D (.lst (L (i + 1))) else H3 = upd H1 D (.lst (L (i + 1))))
    (hd : ∀ D, H1 D = none → Q (.ref D) (upd H1 D (.lst (L xs.length)))) : LcLoop (Itl K a) g tt te vs σ H1 Q := by
  intro D hD
  refine lc_list (K := K) (a := a) (xs := xs) (fun i H => H = upd H1 D (.lst (L i))) (by rw [h0]) (fun i H _ e => ?_) (fun i x H hx e => ?_) (fun H e => ?_)
  · subst e
    exact (show Same H1 _ from fun b o e => by rw [upd_ne (ne_of_none e hD)]; exact e).seq hS
  · subst e
    exact hs i x D hx hD
  · subst e
    exact hd D hD
theorem lc_pure_range {n : Nat} {g : TG} {tt : TT} {te : TE} {vs : List Nat} {σ : L2.St} {H1 : Hp} {Q : VK} (L : Nat → List V) (h0 : L 0 = [])
    (hs : ∀ i D, i < n → H1 D = none → g (.int i) (wipe σ vs) (upd H1 D (.lst (L i))) fun σ2 H2 => wipe σ2 vs = wipe σ vs ∧ tt σ2 H2 fun b H3 =>
      if b = true then te σ2 H3 fun y H4 => ∃ acc, H4 D = some (.lst acc) ∧ acc.length < sizeLine ∧ upd H4 D (.lst (acc ++ [y])) = upd H1 D (.lst (L (i + 1))) else H3 = upd H1 D (.lst (L (i + 1))))
    (hd : ∀ D, H1 D = none → Q (.ref D) (upd H1 D (.lst (L n)))) : LcLoop (Itr 0 n) g tt te vs σ H1 Q := by
  intro D hD
  refine lc_range (lo := 0) (n := n) (fun i H => H = upd H1 D (.lst (L i))) (by rw [h0]) (fun i H hi e => ?_) (fun H e => ?_)
  · subst e
    rw [Int.zero_add]
    exact hs i D hi hD
  · subst e
    exact hd D hD
theorem lp_zip {K : PySem.W.Frag} {a b : Addr} {xs ys : List V} {g : TG} {tb : TS} {D : Ends} {σ : L2.St} {H : Hp} (hl : xs.length = ys.length) (Pv : Nat → L2.St → Hp → Prop) (h0 : Pv 0 σ H) (hq : ∀ i σ H, Pv i σ H → SqL K H a xs ∧ SqL K H b ys)
    (hs : ∀ (i : Nat) (x y : V) (T : Addr) (σ : L2.St) (H : Hp), xs[i]? = some x → ys[i]? = some y → Pv i σ H → H T = none → g (.ref T) σ (upd H T (.tup [x, y])) fun σ2 H2 => tb { D with nx := Pv (i + 1), ct := Pv (i + 1), bk := D.nx } σ2 H2) (hd : ∀ σ H, Pv xs.length σ H → D.nx σ H) :
    Loop (Itz K a b) g tb D σ H := RZ.for_zipL hl Pv h0 hq hs hd
theorem lc_str {x : Str} {g : TG} {tt : TT} {te : TE} {vs : List Nat} {σ : L2.St} {H1 : Hp} {Q : VK} (L : Nat → List V) (h0 : L 0 = [])
    (hs : ∀ i c D, x.cps[i]? = some c → H1 D = none → g (.str ⟨#[c]⟩) (wipe σ vs) (upd H1 D (.lst (L i))) fun σ2 H2 => wipe σ2 vs = wipe σ vs ∧ tt σ2 H2 fun b H3 =>
      if b = true then te σ2 H3 fun y H4 => ∃ acc, H4 D = some (.lst acc) ∧ acc.length < sizeLine ∧ upd H4 D (.lst (acc ++ [y])) = upd H1 D (.lst (L (i + 1))) else H3 = upd H1 D (.lst (L (i + 1))))
    (hd : ∀ D, H1 D = none → Q (.ref D) (upd H1 D (.lst (L x.cps.size)))) : LcLoop (Its x) g tt te vs σ H1 Q := by
  intro D hD
  refine ⟨fun i m H => m = x.cps.size - i ∧ i ≤ x.cps.size ∧ H = upd H1 D (.lst (L i)), ⟨x.cps.size, by simp, Nat.zero_le _, by rw [h0]⟩, ?_⟩
  rintro i m H ⟨rfl, hi, rfl⟩
  by_cases hlt : i < x.cps.size
  · refine .inr ⟨hlt, fun H' => H' = upd H1 D (.lst (L (i + 1))), fun H' p' => ⟨x.cps.size - (i + 1), by omega, rfl, hlt, p'⟩, fun v H' y => ?_⟩
    obtain ⟨e, c, hc, ev⟩ := y
    subst e ev
    exact hs i c D hc hD
  · have e : i = x.cps.size := by omega
    subst e
    exact .inl ⟨Nat.le_refl _, hd D hD⟩
theorem lc_rangeC {lo c : Int} {n : Nat} {g : TG} {tt : TT} {te : TE} {vs : List Nat} {σ : L2.St} {H1 : Hp} {Q : VK} (L : Nat → List V) (h0 : L 0 = [])
    (hs : ∀ i D, i < n → H1 D = none → g (.int (lo + (i : Nat) * c)) (wipe σ vs) (upd H1 D (.lst (L i))) fun σ2 H2 => wipe σ2 vs = wipe σ vs ∧ tt σ2 H2 fun b H3 =>
      if b = true then te σ2 H3 fun y H4 => ∃ acc, H4 D = some (.lst acc) ∧ acc.length < sizeLine ∧ upd H4 D (.lst (acc ++ [y])) = upd H1 D (.lst (L (i + 1))) else H3 = upd H1 D (.lst (L (i + 1))))
    (hd : ∀ D, H1 D = none → Q (.ref D) (upd H1 D (.lst (L n)))) : LcLoop (Itc lo c n) g tt te vs σ H1 Q := by
  intro D hD
  refine ⟨fun i m H => m = n - i ∧ i ≤ n ∧ H = upd H1 D (.lst (L i)), ⟨n, by simp, Nat.zero_le _, by rw [h0]⟩, ?_⟩
  rintro i m H ⟨rfl, hi, rfl⟩
  by_cases hlt : i < n
  · refine .inr ⟨hlt, fun H' => H' = upd H1 D (.lst (L (i + 1))), fun H' p' => ⟨n - (i + 1), by omega, rfl, hlt, p'⟩, fun v H' y => ?_⟩
    obtain ⟨e, ev⟩ := y
    subst e ev
    exact hs i D hlt hD
  · have e : i = n := by omega
    subst e
    exact .inl ⟨Nat.le_refl _, hd D hD⟩
theorem small_two {a b : Int} (ha : -(2 ^ 62) ≤ a) (ha' : a < 2 ^ 62) (hb : -(2 ^ 62) ≤ b) (hb' : b < 2 ^ 62) : Builtin.Range.small a b 2 = true := by
  unfold Builtin.Range.small Builtin.Range.rangeSize
  simp only [Builtin.Range.rangeFitsLong, Bool.and_eq_true, Bool.or_eq_true, decide_eq_true_eq, beq_iff_eq, show ((2 : Int) > 0) by decide, if_true]
  split <;> omega
theorem rg_two {n : Nat} (h : n < 1000000) : RgC 0 ((n : Int) - 1) 2 (n / 2) := by
  refine ⟨by decide, by decide, small_two (by decide) (by decide) (by omega) (by omega), ?_⟩
  unfold Builtin.Range.rangeSize
  rw [if_pos (by decide)]
  split <;> omega
theorem wh_by {c : TT} {tb : TS} {D : Ends} {σ : L2.St} {H : Hp} (W : Nat → L2.St → Hp → Prop) (m : Nat) (h0 : W m σ H)
    (hs : ∀ m σ H, W m σ H → c σ H fun b H1 => if b = true then ∃ N : L2.St → Hp → Prop, (∀ σ' H', N σ' H' → ∃ m', m' < m ∧ W m' σ' H') ∧ tb { D with nx := N, ct := N, bk := D.nx } σ H1 else D.nx σ H1) : tWhile c tb D σ H := ⟨W, ⟨m, h0⟩, hs⟩
theorem lc_rng {n : Nat} {g : TG} {tt : TT} {te : TE} {vs : List Nat} {σ : L2.St} {H1 : Hp} {Q : VK} (Pv : Addr → Nat → Hp → Prop) (h0 : ∀ D, H1 D = none → Pv D 0 (upd H1 D (.lst [])))
    (hs : ∀ D i H, i < n → H1 D = none → Pv D i H → g (.int i) (wipe σ vs) H fun σ2 H2 => wipe σ2 vs = wipe σ vs ∧ tt σ2 H2 fun b H3 =>
      if b = true then te σ2 H3 fun y H4 => ∃ acc, H4 D = some (.lst acc) ∧ acc.length < sizeLine ∧ Pv D (i + 1) (upd H4 D (.lst (acc ++ [y]))) else Pv D (i + 1) H3)
    (hd : ∀ D H, H1 D = none → Pv D n H → Q (.ref D) H) : LcLoop (Itr 0 n) g tt te vs σ H1 Q := by
  intro D hD
  refine lc_range (lo := 0) (n := n) (Pv D) (h0 D hD) (fun i H hi p => ?_) (fun H p => hd D H hD p)
  rw [Int.zero_add]
  exact hs D i H hi hD p
theorem same_upd {H : Hp} {p : Addr} {o : HO} (h : H p = none) : Same H (upd H p o) := fun b x e => by
  rw [upd_ne (ne_of_none e h)]
  exact e
theorem same_upd2 {H H' : Hp} {q : Addr} {o : HO} (s : Same H H') (h : H q = none) : Same H (upd H' q o) := fun b x e => by
  rw [upd_ne (ne_of_none e h)]
  exact s b x e

/-! ### fresh objects: the heap behind one as a heap of its own -/
def NewH (H : Hp) (o : HO) (k : Addr → Hp → Prop) : Prop := ∀ p H', Same H H' → H p = none → H' p = some o → k p H'
theorem NewH.go {H : Hp} {o : HO} {k : Addr → Hp → Prop} (h : NewH H o k) : ∀ p, H p = none → k p (upd H p o) := fun p hp => h p _ (same_upd hp) hp upd_same
section
variable {X : Cx} {es : List Expr} {t : TA} {pos : Pos}
theorem pa_mono (h : PA X es t) : PA X es (fun σ H Q => ∃ Q', t σ H Q' ∧ ∀ xs H1, Q' xs H1 → Q xs H1) := ⟨fun pos pins s σ H Q I ⟨_, q, k⟩ => thn (h.run pos pins s σ H _ I q) fun _ _ ⟨vs, H', I', r, q'⟩ => ⟨vs, H', I', r, k _ _ q'⟩⟩
theorem PE.of {e : Expr} {t t' : TE} (h : PE X e t) (k : ∀ σ H Q, t' σ H Q → t σ H Q) : PE X e t' := ⟨fun pins s σ H Q I q => h.run pins s σ H Q I (k _ _ _ q)⟩
def tTupS (t : TA) : TE := fun σ H Q => t σ H fun xs H1 => xs.length ≤ sizeLine ∧ NewH H1 (.tup xs) fun p H' => Q (.ref p) H'
def tLstS (t : TA) : TE := fun σ H Q => t σ H fun xs H1 => xs.length ≤ sizeLine ∧ NewH H1 (.lst xs) fun p H' => Q (.ref p) H'
theorem pe_tupS {x1} (h : PA X es t) : PE X (.Tuple es x1 pos) (tTupS t) := PE.of (pe_tup (pa_mono h)) fun σ H Q q => ⟨_, q, fun _ _ z => ⟨z.1, z.2.go⟩⟩
theorem pe_lstS (h : PA X es t) : PE X (.List es pos) (tLstS t) := PE.of (pe_lst (pa_mono h)) fun σ H Q q => ⟨_, q, fun _ _ z => ⟨z.1, z.2.go⟩⟩
def rListS : List V → Hp → VK → Prop := fun vs H Q => ∃ p xs, vs = [.ref p] ∧ H p = some (.lst xs) ∧ NewH H (.lst xs) fun l H' => Q (.ref l) H'
theorem call_listS : CallR X (.type "list") rListS := CallR.of call_listH fun vs H Q ⟨p, xs, e, h, q⟩ => ⟨p, xs, e, h, q.go⟩
/-- list(t) of a tuple -/
def rListT : List V → Hp → VK → Prop := fun vs H Q => ∃ p xs, vs = [.ref p] ∧ H p = some (.tup xs) ∧ NewH H (.lst xs) fun l H' => Q (.ref l) H'
theorem call_listT : CallR X (.type "list") rListT := CallR.of call_list_of fun vs H Q ⟨p, xs, e, h, q⟩ => ⟨p, xs, e, .inr (.inl (.inl h)), q.go⟩
/-- tuple(xs) of a tracked list -/
def rTupleL : List V → Hp → VK → Prop := fun vs H Q => ∃ p xs, vs = [.ref p] ∧ H p = some (.lst xs) ∧ NewH H (.tup xs) fun l H' => Q (.ref l) H'
theorem call_tupleL : CallR X (.type "tuple") rTupleL := CallR.of call_tuple_of fun vs H Q ⟨p, xs, e, h, q⟩ => ⟨p, xs, e, .inl ⟨.inl (.inl h), q.go⟩⟩
def rCatL : R2 := fun x y H Q => ∃ l b xs zs, x = .ref l ∧ y = .ref b ∧ H l = some (.lst xs) ∧ H b = some (.lst zs) ∧ xs.length + zs.length ≤ sizeLine ∧ NewH H (.lst (xs ++ zs)) fun p H' => Q (.ref p) H'
theorem op_catS : OpR X (binaryOp .Add) rCatL := OpR.of op_cat fun x y H Q ⟨l, b, xs, zs, e1, e2, h1, h2, z, q⟩ => ⟨l, b, xs, zs, e1, e2, h1, h2, z, q.go⟩
/-- [x] * n -/
def rRepS : R2 := fun x y H Q => ∃ l k v, x = .ref l ∧ y = .int k ∧ H l = some (.lst [v]) ∧ k ≤ 16777216 ∧ -(2 ^ 62) ≤ k ∧ NewH H (.lst (List.replicate k.toNat v)) fun p H' => Q (.ref p) H'
theorem rep_flat {α : Type} (n : Nat) (y : α) : (List.replicate n [y]).flatten = List.replicate n y := by
  induction n with
  | zero => rfl
  | succ n ih => rw [List.replicate_succ, List.flatten_cons, ih, List.replicate_succ]; rfl
theorem op_repS : OpR X (binaryOp .Mult) rRepS := OpR.of op_rep fun x y H Q ⟨l, k, v, e1, e2, h1, z1, z2, q⟩ => ⟨l, k, [v], e1, e2, h1, by omega, by omega, by
    rw [List.length_singleton, show sizeLine = 16777216 from rfl]; omega, by rw [rep_flat]; exact q.go⟩
def rSlS : V → Option Int → Option Int → Hp → VK → Prop := fun x lo hi H Q => ∃ a xs, x = .ref a ∧ H a = some (.lst xs) ∧ NewH H (.lst (cutV xs lo hi)) fun p H' => Q (.ref p) H'
theorem sl_listS : SlR X rSlS := SlR.of sl_listH fun x lo hi H Q ⟨a, xs, e, h, q⟩ => ⟨a, xs, e, h, q.go⟩
theorem pe_mono {e : Expr} {t : TE} (h : PE X e t) : PE X e (fun σ H Q => ∃ Q', t σ H Q' ∧ ∀ v H1, Q' v H1 → Q v H1) := ⟨fun pins s σ H Q I ⟨_, q, k⟩ => thn (h.run pins s σ H _ I q) fun _ _ ⟨v, H', I', r, q'⟩ => ⟨v, H', I', r, k _ _ q'⟩⟩
theorem PG.of {e : Expr} {t t' : TG} (h : PG X e t) (k : ∀ v σ H Q, t' v σ H Q → t v σ H Q) : PG X e t' := ⟨fun pins s σ H v u Q I r q => h.run pins s σ H v u Q I r (k _ _ _ _ q)⟩
theorem PI.of {tg e : Expr} {t t' : TI} (h : PI X tg e t) (k : ∀ σ H R, t' σ H R → t σ H R) : PI X tg e t' := ⟨fun pins s σ H R I q => h.run pins s σ H R I (k _ _ _ q)⟩
def gTupS (n : Nat) (t : TGs) : TG := fun v σ H Q => ∃ a xs, v = .ref a ∧ H a = some (.tup xs) ∧ xs.length = n ∧ t xs σ H Q
theorem pg_tupS {k : Nat} {t : TGs} {n : Nat} (hc : X.calm = true) (h : PGs X es t) (hn : (assignEach es X.env).length = n := by rfl) (hst : (assignEach es X.env).findIdx? (·.1) = none := by rfl) : PG X (.Tuple es k pos) (gTupS n t) :=
  PG.of (pg_tup hc h hn hst) fun v σ H Q ⟨a, xs, e, g, l, q⟩ => ⟨a, xs, e, .inl (.inl g), l, q⟩
def gLstS (n : Nat) (t : TGs) : TG := fun v σ H Q => ∃ a xs, v = .ref a ∧ H a = some (.lst xs) ∧ xs.length = n ∧ t xs σ H Q
theorem pg_lstS {k : Nat} {t : TGs} {n : Nat} (hc : X.calm = true) (h : PGs X es t) (hn : (assignEach es X.env).length = n := by rfl) (hst : (assignEach es X.env).findIdx? (·.1) = none := by rfl) : PG X (.Tuple es k pos) (gLstS n t) :=
  PG.of (pg_lst hc h hn hst) fun v σ H Q ⟨a, xs, e, g, l, q⟩ => ⟨a, xs, e, .inl (.inl g), l, q⟩
def iListS (K : PySem.W.Frag) (tl : TE) : TI := fun σ H R => tl σ H fun x H1 => ∃ a xs, x = .ref a ∧ H1 a = some (.lst xs) ∧ R (Itl K a) H1
theorem pi_listS {tg l : Expr} {tl : TE} (hl : PE X l tl) : PI X tg l (iListS X.K tl) := PI.of (pi_list (pe_mono hl)) fun σ H R q => ⟨_, q, fun _ _ ⟨a, xs, e, g, r⟩ => ⟨a, e, ⟨xs, .inl (.inl g)⟩, r⟩⟩
def iTupS (K : PySem.W.Frag) (tl : TE) : TI := fun σ H R => tl σ H fun x H1 => ∃ a xs, x = .ref a ∧ H1 a = some (.tup xs) ∧ R (Itt K a) H1
theorem pi_tupS {tg l : Expr} {tl : TE} (hl : PE X l tl) : PI X tg l (iTupS X.K tl) := PI.of (pi_tup (pe_mono hl)) fun σ H R q => ⟨_, q, fun _ _ ⟨a, xs, e, g, r⟩ => ⟨a, e, ⟨xs, .inl (.inl g)⟩, r⟩⟩
def tML (r : V → List V → Hp → VK → Prop) (to : TE) (t : TA) : TE := fun σ H Q => to σ H fun x H1 => ∃ p xs, x = .ref p ∧ H1 p = some (.lst xs) ∧ t σ H1 fun ys H2 => r x ys H2 Q
theorem pe_ml {to : TE} {t : TA} {e : PySem.Expr} {K : PySem.W.Frag} {r : V → List V → Hp → VK → Prop} (h : PE X e (tBM K "list" r (fun σ H Q => ∃ Q', to σ H Q' ∧ ∀ v H1, Q' v H1 → Q v H1) t)) : PE X e (tML r to t) :=
  PE.of h fun σ H Q q => ⟨_, q, fun v H1 ⟨p, xs, e, g, z⟩ => ⟨by rw [e]; exact .inl ⟨rfl, xs, .inl (.inl g)⟩, z⟩⟩
def tML0 (r : V → List V → Hp → VK → Prop) (to : TE) : TE := fun σ H Q => to σ H fun x H1 => ∃ p xs, x = .ref p ∧ H1 p = some (.lst xs) ∧ r x [] H1 Q
theorem pe_ml0 {to : TE} {e : PySem.Expr} {K : PySem.W.Frag} {r : V → List V → Hp → VK → Prop} (h : PE X e (tBM0 K "list" r (fun σ H Q => ∃ Q', to σ H Q' ∧ ∀ v H1, Q' v H1 → Q v H1))) : PE X e (tML0 r to) :=
  PE.of h fun σ H Q q => ⟨_, q, fun v H1 ⟨p, xs, e, g, z⟩ => ⟨by rw [e]; exact .inl ⟨rfl, xs, .inl (.inl g)⟩, z⟩⟩
end
/-- loops and comprehensions over any walk -/
theorem lpW {J : It} {n : Nat} {G : Hp → Prop} {Y : Nat → Hp → V → Hp → Prop} (w : Walk J n G Y) {g : TG} {tb : TS} {D : Ends} {σ : L2.St} {H : Hp} (Pv : Nat → L2.St → Hp → Prop) (h0 : Pv 0 σ H) (hG : ∀ i σ H, i ≤ n → Pv i σ H → G H)
    (hs : ∀ i x σ H H', i < n → Pv i σ H → Y i H x H' → g x σ H' fun σ2 H2 => tb { D with nx := Pv (i + 1), ct := Pv (i + 1), bk := D.nx } σ2 H2) (hd : ∀ σ H, Pv n σ H → D.nx σ H) : Loop J g tb D σ H := for_it w Pv h0 hG hs hd
theorem lcW {J : It} {n : Nat} {G : Hp → Prop} {Y : Nat → Hp → V → Hp → Prop} (w : Walk J n G Y) {g : TG} {tt : TT} {te : TE} {vs : List Nat} {σ : L2.St} {H1 : Hp} {Q : VK} (Pv : Addr → Nat → Hp → Prop) (h0 : ∀ D H, Same H1 H → H1 D = none → H D = some (.lst []) → Pv D 0 H)
    (hG : ∀ D i H, H1 D = none → i ≤ n → Pv D i H → G H) (hs : ∀ D i x H H', i < n → H1 D = none → Pv D i H → Y i H x H' → g x (wipe σ vs) H' fun σ2 H2 => wipe σ2 vs = wipe σ vs ∧ tt σ2 H2 fun b H3 =>
      if b = true then te σ2 H3 fun y H4 => ∃ acc, H4 D = some (.lst acc) ∧ acc.length < sizeLine ∧ Pv D (i + 1) (upd H4 D (.lst (acc ++ [y]))) else Pv D (i + 1) H3)
    (hd : ∀ D H, H1 D = none → Pv D n H → Q (.ref D) H) : LcLoop J g tt te vs σ H1 Q :=
  fun D hD => lc_it w (Pv D) (h0 D _ (same_upd hD) hD upd_same) (fun i H hi p => hG D i H hD hi p) (fun i x H H' hi p y => hs D i x H H' hi hD p y) fun H p => hd D H hD p
theorem lcL {J : It} {n : Nat} {G : Hp → Prop} {Y : Nat → Hp → V → Hp → Prop} (w : Walk J n G Y) {g : TG} {tt : TT} {te : TE} {vs : List Nat} {σ : L2.St} {H1 : Hp} {Q : VK} (L : Nat → List V) (hz : L 0 = []) (hG : ∀ H, Same H1 H → G H)
    (hs : ∀ D i x H H', i < n → H1 D = none → Same H1 H → H D = some (.lst (L i)) → Y i H x H' → g x (wipe σ vs) H' fun σ2 H2 => wipe σ2 vs = wipe σ vs ∧ tt σ2 H2 fun b H3 =>
      if b = true then te σ2 H3 fun y H4 => ∃ acc, H4 D = some (.lst acc) ∧ acc.length < sizeLine ∧ Same H1 (upd H4 D (.lst (acc ++ [y]))) ∧ upd H4 D (.lst (acc ++ [y])) D = some (.lst (L (i + 1))) else Same H1 H3 ∧ H3 D = some (.lst (L (i + 1))))
    (hd : ∀ D H, Same H1 H → H1 D = none → H D = some (.lst (L n)) → Q (.ref D) H) : LcLoop J g tt te vs σ H1 Q :=
  lcW w (fun D i H => Same H1 H ∧ H D = some (.lst (L i))) (fun D H s _ g => ⟨s, by rw [g, hz]⟩) (fun _ _ H _ _ p => hG H p.1) (fun D i x H H' hi hD p y => hs D i x H H' hi hD p.1 p.2 y) fun D H hD p => hd D H p.1 hD p.2
theorem walkR {n : Nat} : Walk (Itr 0 n) n (fun _ => True) (YFn fun i => .int (i : Int)) := walk_range.mono (fun _ h => h) fun i H x H' _ _ y => ⟨y.1, by rw [y.2]; show V.int (0 + (i : Int)) = V.int (i : Int); rw [Int.zero_add]⟩
theorem walkL {K : PySem.W.Frag} {a : Addr} {xs : List V} : Walk (Itl K a) xs.length (fun H => H a = some (.lst xs)) (YAt xs) := (walk_list (K := K) (a := a) (xs := xs)).mono (fun _ h => .inl (.inl h)) fun _ _ _ _ _ _ y => y
theorem walkT {K : PySem.W.Frag} {a : Addr} {xs : List V} : Walk (Itt K a) xs.length (fun H => H a = some (.tup xs)) (YAt xs) := (walk_tup (K := K) (a := a) (xs := xs)).mono (fun _ h => .inl (.inl h)) fun _ _ _ _ _ _ y => y
/-- a list of ints is walked -/
def YInt (ns : List Int) : Nat → Hp → V → Hp → Prop := fun i H v H' => H' = H ∧ ∃ b, ns[i]? = some b ∧ v = .int b
theorem walkI {K : PySem.W.Frag} {a : Addr} {ns : List Int} : Walk (Itl K a) ns.length (fun H => H a = some (.lst (List.map V.int ns))) (YInt ns) := by
  have w := walkL (K := K) (a := a) (xs := List.map V.int ns)
  rw [List.length_map] at w
  refine w.mono (fun _ h => h) fun i H x H' _ _ y => ⟨y.1, ?_⟩
  have h := y.2
  rw [List.getElem?_map] at h
  obtain ⟨b, h1, rfl⟩ := Option.map_eq_some_iff.mp h
  exact ⟨b, h1, rfl⟩
theorem sqL_eq {K : PySem.W.Frag} {H : Hp} {a : Addr} {xs : List V} (h : H a = some (.lst xs)) : (∃ xs, SqL K H a xs) = True := eq_true ⟨_, .inl (.inl h)⟩
theorem sqT_eq {K : PySem.W.Frag} {H : Hp} {a : Addr} {xs : List V} (h : H a = some (.tup xs)) : (∃ xs, SqT K H a xs) = True := eq_true ⟨_, .inl (.inl h)⟩
theorem tyL_eq {K : PySem.W.Frag} {H : Hp} {p : Addr} {xs : List V} (h : H p = some (.lst xs)) : tyV K "list" (.ref p) H = True := eq_true (.inl ⟨rfl, xs, .inl (.inl h)⟩)
theorem Same.c2 {H H' : Hp} {a b : Addr} {x y : HO} (s : Same H H') (ga : H a = some x) (gb : H b = some y) : H' a = some x ∧ H' b = some y := ⟨s _ _ ga, s _ _ gb⟩
theorem map_int_inj {xs ys : List Int} : (List.map V.int xs = List.map V.int ys) = (xs = ys) := by
  refine propext ⟨fun h => ?_, fun h => by rw [h]⟩
  induction xs generalizing ys with
  | nil => cases ys with
    | nil => rfl
    | cons y q => cases h
  | cons x r ih => cases ys with
    | nil => cases h
    | cons y q =>
      rw [List.map_cons, List.map_cons, List.cons.injEq, V.int.injEq] at h
      rw [h.1, ih h.2]
theorem sz1 : (1 ≤ sizeLine) = True := eq_true (by decide)
theorem sz2 : (2 ≤ sizeLine) = True := eq_true (by decide)
theorem sz3 : (3 ≤ sizeLine) = True := eq_true (by decide)
theorem sz4 : (4 ≤ sizeLine) = True := eq_true (by decide)
theorem sz5 : (5 ≤ sizeLine) = True := eq_true (by decide)
theorem sz6 : (6 ≤ sizeLine) = True := eq_true (by decide)
theorem sz8 : (8 ≤ sizeLine) = True := eq_true (by decide)
/-- an item of a list of ints -/
def gN (ns : List Int) (i : Nat) : Int := ns.getD i 0
theorem at_g {ns : List Int} {i : Nat} (h : i < ns.length) : atI (ns.map V.int) (i : Int) = some (V.int (gN ns i)) := by
  refine atI_nat ?_
  rw [List.getElem?_map, List.getElem?_eq_getElem h]
  simp [gN, h]
theorem at_g' {ns : List Int} {k : Int} {i : Nat} (e : k = (i : Int)) (h : i < ns.length) : atI (ns.map V.int) k = some (V.int (gN ns i)) := by
  rw [e]
  exact at_g h
theorem iteT' {c : Bool} {a b : Prop} (h : c = true) (x : a) : if c = true then a else b := by rw [if_pos h]; exact x
theorem iteF' {c : Bool} {a b : Prop} (h : c = false) (x : b) : if c = true then a else b := by rw [if_neg (by rw [h]; decide)]; exact x
theorem iteB {c : Bool} {p : Prop} [Decidable p] {a b : Prop} (h : c = decide p) (x : p → a) (y : ¬ p → b) : if c = true then a else b := by
  subst h
  exact ite2 (fun e => x (of_decide_eq_true e)) fun e => y fun z => e (decide_eq_true z)
theorem iteD {p : Prop} [Decidable p] {a b : Prop} (x : p → a) (y : ¬ p → b) : if decide p = true then a else b := iteB rfl x y
def mx (x y : Int) : Int := if x < y then y else x
def mn (x y : Int) : Int := if y < x then y else x
theorem mx_eq (x y : Int) : (if x < y then y else x) = mx x y := rfl
theorem mn_eq (x y : Int) : (if y < x then y else x) = mn x y := rfl
theorem mx_le {x y z : Int} : mx x y ≤ z ↔ x ≤ z ∧ y ≤ z := by
  unfold mx
  split <;> omega
theorem lt_mn {x y z : Int} : z < mn x y ↔ z < x ∧ z < y := by
  unfold mn
  split <;> omega
theorem toNat_mul (m n : Nat) : ((m : Int) * (n : Int)).toNat = m * n := by rw [← Int.natCast_mul, Int.toNat_natCast]
theorem atI_lit {xs : List V} {k : Int} (h0 : 0 ≤ k) (h1 : k < xs.length) : ∃ v, atI xs k = some v ∧ v ∈ xs := by
  have h : k.toNat < xs.length := by omega
  refine ⟨xs[k.toNat], ?_, List.getElem_mem h⟩
  unfold atI
  rw [ixN_in h0 h1]
  exact List.getElem?_eq_getElem h
theorem atI_lits {xs : List Int} {k : Int} (h0 : 0 ≤ k) (h1 : k < xs.length) : ∃ v, atI (List.map V.int xs) k = some (.int v) ∧ v ∈ xs := by
  obtain ⟨v, h, hm⟩ := atI_lit (xs := List.map V.int xs) h0 (by rw [List.length_map]; exact h1)
  obtain ⟨i, hi, rfl⟩ := List.mem_map.mp hm
  exact ⟨i, h, hi⟩
theorem natOf {x : Int} (h : 0 ≤ x) : ∃ n : Nat, x = (n : Int) := ⟨x.toNat, by omega⟩
theorem map_cat (xs ys : List Int) : List.map V.int xs ++ List.map V.int ys = List.map V.int (xs ++ ys) := by rw [List.map_append]
theorem map_snoc (xs : List Int) (v : Int) : List.map V.int xs ++ [V.int v] = List.map V.int (xs ++ [v]) := by rw [List.map_append]; rfl
theorem map_setV (l : List Int) (i : Nat) (v : Int) : (List.map V.int l).set i (.int v) = List.map V.int (l.set i v) := by rw [List.map_set]
/-- all but one object stand as they stood -/
def But (a : Addr) (H H' : Hp) : Prop := ∀ b o, b ≠ a → H b = some o → H' b = some o
theorem But.refl (a : Addr) (H : Hp) : But a H H := fun _ _ _ h => h
theorem But.ofSame {a : Addr} {H H' : Hp} (s : Same H H') : But a H H' := fun b o _ h => s b o h
theorem But.trans {a : Addr} {H H1 H2 : Hp} (x : But a H H1) (y : But a H1 H2) : But a H H2 := fun b o n h => y b o n (x b o n h)
theorem But.put {a : Addr} {H H' : Hp} {o : HO} (x : But a H H') : But a H (upd H' a o) := fun b o' n h => by rw [upd_ne n]; exact x b o' n h
theorem But.same {a : Addr} {H H1 H' : Hp} (s : Same H H1) (x : But a H1 H') (h : H a = none) : Same H H' := fun b o e => x b o (ne_of_none e h) (s b o e)
/-- the cell k of the script -/
def cellA (ns : List Int) (k : Nat) : Int := ns.getD k 0
def absI (c : Int) : Int := if c < 0 then -c else c
theorem absI_eq (c : Int) : (if c < 0 then -c else c) = absI c := rfl
theorem absI_nn (c : Int) : 0 ≤ absI c := by
  unfold absI
  split <;> omega
section
variable {X : Cx}
/-- xs[i] op= e reads the item first -/
def rGetL : V → V → Hp → VK → Prop := fun x y H Q => ∃ p xs i v, x = .ref p ∧ y = .int i ∧ H p = some (.lst xs) ∧ 0 ≤ i ∧ i < 2 ^ 62 ∧ xs[i.toNat]? = some v ∧ Q v H
theorem pget_list : PGet X rGetL := by
  intro pins s σ H x y v u Q I rx ry h
  obtain ⟨p, xs, i, z, rfl, rfl, hp, h0, h1, he, q⟩ := h
  cases rx
  obtain ⟨t, rfl⟩ := ry
  obtain ⟨its, r, pl, _⟩ := I.list (.inl (.inl hp))
  obtain ⟨w, ew, rw'⟩ := r.get he
  exact getItem_listL pl.isList h0 (by omega) ew ⟨z, H, I, rw', q⟩
def iZipS (K : PySem.W.Frag) (ta : TA) : TI := fun σ H R => ta σ H fun vs H1 => ∃ a b xs ys, vs = [.ref a, .ref b] ∧ H1 a = some (.lst xs) ∧ H1 b = some (.lst ys) ∧ R (Itz K a b) H1
theorem pi_zipS {e e2 : Expr} {ta : TA} {p pos tpos : Pos} {elts : List Expr} {kk : Nat} (hg : Gl X "zip") (hm : X.mg "zip" = none) (ha : PA X [e, e2] ta) (hs : starEach [e, e2] X.env = (false, eval e X.env) :: starEach [e2] X.env := by rfl) (hpl : (backTo pos (starEach [e2] X.env)).any (·.1) = false := by rfl) :
    PI X (.Tuple elts kk tpos) (.Call (.Name "zip" p) [e, e2] [] pos) (iZipS X.K ta) := PI.of (pi_zip hg hm (pa_mono ha) hs hpl) fun σ H R q => ⟨_, q, fun vs H1 ⟨a, b, xs, ys, e, g1, g2, r⟩ => ⟨a, b, xs, ys, e, .inl (.inl g1), .inl (.inl g2), r⟩⟩
end
theorem walkZ {K : PySem.W.Frag} {a b : Addr} {xs ys : List V} {n : Nat} (hn : n = min xs.length ys.length) : Walk (Itz K a b) n (fun H => H a = some (.lst xs) ∧ H b = some (.lst ys)) (YPair (fun i => xs[i]?) (fun i => ys[i]?)) :=
  (walk_zip (K := K) (a := a) (b := b) hn).mono (fun _ h => ⟨.inl (.inl h.1), .inl (.inl h.2)⟩) fun _ _ _ _ _ _ y => y
theorem cutV_take {xs : List V} {n : Nat} : cutV xs none (some (n : Int)) = xs.take n := by
  unfold cutV
  rw [HT.sIx_nat, HT.sIx_none, List.drop_zero]
  by_cases h : n ≤ xs.length
  · rw [Nat.min_eq_left h, Nat.sub_zero]
  · rw [Nat.min_eq_right (by omega), Nat.sub_zero, List.take_of_length_le (Nat.le_refl _), List.take_of_length_le (by omega)]
theorem cutV_drop {xs : List V} {n : Nat} : cutV xs (some (n : Int)) none = xs.drop n := by
  unfold cutV
  rw [HT.sIx_nat, HT.sIx_none]
  by_cases h : n ≤ xs.length
  · rw [Nat.min_eq_left h, List.take_of_length_le (by rw [List.length_drop]; exact Nat.le_refl _)]
  · rw [Nat.min_eq_right (by omega), List.drop_of_length_le (Nat.le_refl _), List.drop_of_length_le (by omega), List.take_nil]
theorem cutI_take {xs : List Int} {n : Nat} : cutV (List.map V.int xs) none (some (n : Int)) = List.map V.int (xs.take n) := by rw [cutV_take, List.map_take]
theorem cutI_drop {xs : List Int} {n : Nat} : cutV (List.map V.int xs) (some (n : Int)) none = List.map V.int (xs.drop n) := by rw [cutV_drop, List.map_drop]
/-- two lists item by item -/
inductive All2 {α β : Type} (R : α → β → Prop) : List α → List β → Prop
  | nil : All2 R [] []
  | cons {x : α} {y : β} {xs : List α} {ys : List β} : R x y → All2 R xs ys → All2 R (x :: xs) (y :: ys)
section
variable {α β : Type} {R S : α → β → Prop}
theorem All2.len {xs : List α} {ys : List β} (h : All2 R xs ys) : xs.length = ys.length := by
  induction h with
  | nil => rfl
  | cons _ _ ih => rw [List.length_cons, List.length_cons, ih]
theorem All2.mono {xs : List α} {ys : List β} (h : All2 R xs ys) (k : ∀ x y, R x y → S x y) : All2 S xs ys := by
  induction h with
  | nil => exact .nil
  | cons r _ ih => exact .cons (k _ _ r) ih
theorem All2.app {xs xs' : List α} {ys ys' : List β} (h : All2 R xs ys) (k : All2 R xs' ys') : All2 R (xs ++ xs') (ys ++ ys') := by
  induction h with
  | nil => exact k
  | cons r _ ih => exact .cons r ih
theorem All2.snoc {xs : List α} {ys : List β} {x : α} {y : β} (h : All2 R xs ys) (r : R x y) : All2 R (xs ++ [x]) (ys ++ [y]) := h.app (.cons r .nil)
theorem All2.at {xs : List α} {ys : List β} (h : All2 R xs ys) {i : Nat} {x : α} (e : xs[i]? = some x) : ∃ y, ys[i]? = some y ∧ R x y := by
  induction h generalizing i with
  | nil => simp at e
  | cons r _ ih =>
    cases i with
    | zero => exact ⟨_, rfl, by simpa using (Option.some.inj e) ▸ r⟩
    | succ i => exact ih e
theorem All2.at' {xs : List α} {ys : List β} (h : All2 R xs ys) {i : Nat} {y : β} (e : ys[i]? = some y) : ∃ x, xs[i]? = some x ∧ R x y := by
  induction h generalizing i with
  | nil => simp at e
  | cons r _ ih =>
    cases i with
    | zero => exact ⟨_, rfl, by simpa using (Option.some.inj e) ▸ r⟩
    | succ i => exact ih e
theorem All2.take {xs : List α} {ys : List β} (h : All2 R xs ys) (n : Nat) : All2 R (xs.take n) (ys.take n) := by
  induction h generalizing n with
  | nil => rw [List.take_nil, List.take_nil]; exact .nil
  | cons r _ ih =>
    cases n with
    | zero => exact .nil
    | succ n => exact .cons r (ih n)
theorem All2.drop {xs : List α} {ys : List β} (h : All2 R xs ys) (n : Nat) : All2 R (xs.drop n) (ys.drop n) := by
  induction h generalizing n with
  | nil => rw [List.drop_nil, List.drop_nil]; exact .nil
  | cons r t ih =>
    cases n with
    | zero => exact .cons r t
    | succ n => exact ih n
end
theorem tup_upd {H : Hp} {a l : Addr} {xs ys : List V} {o : HO} (h : H a = some (.tup xs)) (g : H l = some (.lst ys)) : upd H l o a = some (.tup xs) := by
  rw [upd_ne (ne_of h g (by intro z; cases z))]
  exact h
theorem tup_but {H H' : Hp} {a l : Addr} {xs ys : List V} (bt : But l H H') (h : H a = some (.tup xs)) (g : H l = some (.lst ys)) : H' a = some (.tup xs) := bt _ _ (ne_of h g (by intro z; cases z)) h
theorem cutV_take1 {xs : List V} : cutV xs none (some 1) = xs.take 1 := cutV_take (n := 1)
theorem cutV_drop1 {xs : List V} : cutV xs (some 1) none = xs.drop 1 := cutV_drop (n := 1)
section
variable {X : Cx}
/-- the script: its length, an item -/
def rLenSc (K : PySem.W.Frag) (a : Addr) (ns : List Int) : List V → Hp → VK → Prop := fun vs H Q => vs = [.ref a] ∧ SqL K H a (List.map V.int ns) ∧ Q (.int ns.length) H
theorem call_lenSc (a : Addr) (ns : List Int) : CallR X (.builtin "len") (rLenSc X.K a ns) := CallR.of call_len_seq fun vs H Q ⟨e, h, q⟩ => ⟨a, List.map V.int ns, e, .inl h, by rw [List.length_map]; exact q⟩
def rIxSc (K : PySem.W.Frag) (a : Addr) (ns : List Int) : R2 := fun x y H Q => ∃ i, x = .ref a ∧ y = .int i ∧ SqL K H a (List.map V.int ns) ∧ 0 ≤ i ∧ i < ns.length ∧ Q (.int (gN ns i.toNat)) H
theorem ix_sc (a : Addr) (ns : List Int) : IxR X (rIxSc X.K a ns) := IxR.of ix_list fun x y H Q ⟨i, e1, e2, h, h0, h1, q⟩ => ⟨a, List.map V.int ns, i, _, e1, e2, h, at_g' (Int.toNat_of_nonneg h0).symm (by omega), q⟩
end
section
variable {X : Cx}
def rSumS : List V → Hp → VK → Prop := fun vs H Q => ∃ a ns, vs = [.ref a] ∧ H a = some (.lst (List.map V.int ns)) ∧ Q (.int ns.sum) H
theorem cr_sumS (hc : X.calm = true) : CallR X (.builtin "sum") rSumS := CallR.of (cr_sum hc) fun vs H Q ⟨a, ns, e, g, q⟩ => ⟨a, ns, e, .inl (.inl g), q⟩
end
section
variable {X : Cx}
/-- t[lo:hi]: t itself or a new tuple, in either case one of these items -/
def rSlTS : V → Option Int → Option Int → Hp → VK → Prop := fun x lo hi H Q => ∃ a xs, x = .ref a ∧ H a = some (.tup xs) ∧ ∀ p H', Same H H' → (p = a ∨ H p = none) → H' p = some (.tup (cutV xs lo hi)) → Q (.ref p) H'
theorem sl_tupS : SlR X rSlTS := SlR.of sl_tupA fun x lo hi H Q ⟨a, xs, e, g, q⟩ => ⟨a, xs, e, .inl (.inl g), fun z => q a H (Same.refl _) (.inl rfl) (by
    unfold cutV
    rw [z.1, z.2, List.drop_zero, Nat.sub_zero, List.take_length]
    exact g), fun _ p hp => q p _ (same_upd hp) (.inr hp) upd_same⟩
end
theorem cutV_take3 {xs : List V} : cutV xs none (some 3) = xs.take 3 := cutV_take (n := 3)
section
variable {X : Cx}
theorem PT.of {e : Expr} {t t' : TT} (h : PT X e t) (k : ∀ σ H Q, t' σ H Q → t σ H Q) : PT X e t' := ⟨fun pins s σ H Q I q => h.run pins s σ H Q I (k _ _ _ q)⟩
/-- a list's truth -/
def tTrL (ta : TE) : TT := fun σ H Q => ta σ H fun x H1 => ∃ p xs, x = .ref p ∧ H1 p = some (.lst xs) ∧ Q (decide (0 < xs.length)) H1
theorem pt_truthL {a : Expr} {ta : TE} (ha : PE X a ta) (he : ∀ whole, isTrue a X.env whole = (do let v ← whole; standAt a.pos; holding [v] (truthy v))) : PT X a (tTrL ta) :=
  PT.of (pt_truth (pe_mono ha) he) fun σ H Q q => ⟨_, q, fun x H1 ⟨p, xs, e, g, z⟩ => ⟨decide (0 < xs.length), by rw [e]; exact .inl ⟨xs, .inl (.inl g), by cases xs <;> simp⟩, z⟩⟩
def iEnumL (K : PySem.W.Frag) (ta : TA) : TI := fun σ H R => ta σ H fun vs H1 => ∃ a xs, vs = [.ref a] ∧ H1 a = some (.lst xs) ∧ R (Ite K a) H1
theorem pi_enumL {e : Expr} {ta : TA} {p pos tpos : Pos} {elts : List Expr} {kk : Nat} (hg : Gl X "enumerate") (hm : X.mg "enumerate" = none) (ha : PA X [e] ta) (hs : starEach [e] X.env = [(false, eval e X.env)] := by rfl) :
    PI X (.Tuple elts kk tpos) (.Call (.Name "enumerate" p) [e] [] pos) (iEnumL X.K ta) := PI.of (pi_enum hg hm (pa_mono ha) hs) fun σ H R q => ⟨_, q, fun vs H1 ⟨a, xs, e, g, r⟩ => ⟨a, xs, e, .inl (.inl g), r⟩⟩
end
theorem walkE {K : PySem.W.Frag} {a : Addr} {xs : List V} : Walk (Ite K a) xs.length (fun H => H a = some (.lst xs)) (YPair (fun i => some (.int (i : Nat))) (fun i => xs[i]?)) := (walk_enum (K := K) (a := a) (xs := xs)).mono (fun _ h => .inl (.inl h)) fun _ _ _ _ _ _ y => y
theorem seq_cut {s1 R : TS} {D : Ends} {σ : L2.St} {H : Hp} (I : L2.St → Hp → Prop) (h2 : ∀ σ H, I σ H → R D σ H) (h1 : ∀ C : L2.St → Hp → Prop, (∀ σ H, I σ H → C σ H) → s1 { D with nx := C } σ H) : tSeq s1 R D σ H := h1 _ h2
section
variable {X : Cx}
theorem inV_int (i : Int) : ∀ ns : List Int, inV (.int i) (List.map V.int ns) = decide (i ∈ ns)
  | [] => by simp [inV]
  | n :: r => by
    have ih := inV_int i r
    unfold inV at ih ⊢
    rw [List.map_cons, List.any_cons, ih]
    by_cases h : n = i
    · subst h; simp [eqV]
    · simp [eqV, h, Ne.symm h]
theorem flat_ints : ∀ ns : List Int, (List.map V.int ns).all flatV = true
  | [] => rfl
  | _ :: r => by rw [List.map_cons, List.all_cons, flat_ints r]; rfl
/-- an int in a list of ints -/
def rInI : R2 := fun x y H Q => ∃ i p ns, x = .int i ∧ y = .ref p ∧ H p = some (.lst (List.map V.int ns)) ∧ Q (.bl (decide (i ∈ ns))) H
theorem op_inI : OpR X (compareOp .In) rInI := OpR.of op_in_seq fun x y H Q ⟨i, p, ns, e1, e2, g, q⟩ => ⟨p, List.map V.int ns, e2, .inl (.inl (.inl g)), by rw [e1]; rfl, flat_ints ns, by rw [e1, inV_int]; exact q⟩
/-- xs.index(i): the first place -/
def rIndexI : V → List V → Hp → VK → Prop := fun x xs H Q => ∃ p ns i j, x = .ref p ∧ xs = [.int i] ∧ H p = some (.lst (List.map V.int ns)) ∧ ns[j]? = some i ∧ (∀ m, m < j → ns[m]? ≠ some i) ∧ Q (.int ((j : Nat) : Int)) H
theorem MtR.of {id : String} {r r' : V → List V → Hp → VK → Prop} (h : MtR X id r) (k : ∀ x xs H Q, r' x xs H Q → r x xs H Q) : MtR X id r' := fun pins s σ H x xs v us Q I rx rv q => h pins s σ H x xs v us Q I rx rv (k _ _ _ _ q)
theorem mt_indexI : MtR X "list.index" rIndexI := MtR.of mt_index fun x xs H Q ⟨p, ns, i, j, e1, e2, g, hj, hm, q⟩ =>
  ⟨p, List.map V.int ns, .int i, j, .int i, e1, e2, .inl (.inl g), rfl, flat_ints ns, by rw [List.getElem?_map, hj]; rfl, by simp [eqV], fun m z hmj hz => by
    rw [List.getElem?_map] at hz
    obtain ⟨b, h1, rfl⟩ := Option.map_eq_some_iff.mp hz
    have : b ≠ i := fun e => hm m hmj (e ▸ h1)
    simp [eqV, this], q⟩
end
def sl (ns : List Int) (i j : Nat) : List Int := (ns.drop i).take (j - i)
theorem cut_sl {ns : List Int} {i j : Nat} : cutV (List.map V.int ns) (some (i : Int)) (some (j : Int)) = List.map V.int (sl ns i j) := by
  unfold cutV sl
  rw [HT.sIx_nat, HT.sIx_nat, List.length_map, ← List.map_drop, ← List.map_take]
  congr 1
  by_cases h : i < ns.length
  · rw [Nat.min_eq_left (Nat.le_of_lt h)]
    by_cases h2 : j ≤ ns.length
    · rw [Nat.min_eq_left h2]
    · rw [Nat.min_eq_right (by omega), List.take_of_length_le (by rw [List.length_drop]; exact Nat.le_refl _), List.take_of_length_le (by rw [List.length_drop]; omega)]
  · rw [List.drop_eq_nil_of_le (by omega), List.drop_eq_nil_of_le (by omega), List.take_nil, List.take_nil]
theorem sl_len (ns : List Int) (i j : Nat) : (sl ns i j).length = min (j - i) (ns.length - i) := by
  unfold sl
  rw [List.length_take, List.length_drop]
/-- a dict comprehension -/
def DcLoop (J : It) (g : TG) (tt : TT) (tk tv : TE) (vs : List Nat) (σ : L2.St) (H1 : Hp) (Q : VK) : Prop := ∀ D, H1 D = none → ∃ W : Nat → Nat → Hp → Prop, (∃ m, W 0 m (upd H1 D (.dK []))) ∧ ∀ i m H, W i m H →
  (J.stop i H ∧ Q (.ref D) H) ∨ (J.go i H ∧ ∃ Nx : Hp → Prop, (∀ H', Nx H' → ∃ m', m' < m ∧ W (i + 1) m' H') ∧ ∀ x H', J.yld i H x H' → g x (wipe σ vs) H' fun σ2 H2 => wipe σ2 vs = wipe σ vs ∧ tt σ2 H2 fun b H3 =>
    if b = true then tk σ2 H3 fun y H4 => tv σ2 H4 fun z H5 => ∃ kvs k, y = kV k ∧ H5 D = some (.dK kvs) ∧ kvs.length < sizeLine ∧ Nx (upd H5 D (.dK (putK kvs k z))) else Nx H3)
theorem tDc_eq {wi : TI} {g : TG} {tt : TT} {tk tv : TE} {vs : List Nat} {σ : L2.St} {H : Hp} {Q : VK} : tDc wi g tt tk tv vs σ H Q = wi σ H fun J H1 => DcLoop J g tt tk tv vs σ H1 Q := rfl
theorem dcW {J : It} {n : Nat} {G : Hp → Prop} {Y : Nat → Hp → V → Hp → Prop} (w : Walk J n G Y) {g : TG} {tt : TT} {tk tv : TE} {vs : List Nat} {σ : L2.St} {H1 : Hp} {Q : VK} (Pv : Addr → Nat → Hp → Prop) (h0 : ∀ D H, Same H1 H → H1 D = none → H D = some (.dK []) → Pv D 0 H)
    (hG : ∀ D i H, H1 D = none → i ≤ n → Pv D i H → G H) (hs : ∀ D i x H H', i < n → H1 D = none → Pv D i H → Y i H x H' → g x (wipe σ vs) H' fun σ2 H2 => wipe σ2 vs = wipe σ vs ∧ tt σ2 H2 fun b H3 =>
      if b = true then tk σ2 H3 fun y H4 => tv σ2 H4 fun z H5 => ∃ kvs k, y = kV k ∧ H5 D = some (.dK kvs) ∧ kvs.length < sizeLine ∧ Pv D (i + 1) (upd H5 D (.dK (putK kvs k z))) else Pv D (i + 1) H3)
    (hd : ∀ D H, H1 D = none → Pv D n H → Q (.ref D) H) : DcLoop J g tt tk tv vs σ H1 Q := by
  intro D hD
  refine ⟨fun i m H => m = n - i ∧ i ≤ n ∧ Pv D i H, ⟨n, by simp, Nat.zero_le _, h0 D _ (same_upd hD) hD upd_same⟩, ?_⟩
  rintro i m H ⟨rfl, hi, p⟩
  have q := hG D i H hD hi p
  by_cases hlt : i < n
  · exact .inr ⟨w.goes i H hlt q, Pv D (i + 1), fun H' p' => ⟨n - (i + 1), by omega, rfl, hlt, p'⟩, fun x H' y => hs D i x H H' hlt hD p (w.yields i H x H' hlt q y)⟩
  · have e : i = n := by omega
    subst e
    exact .inl ⟨w.stops H q, hd D H hD p⟩

/-! ### data at any depth: what stands there, and == of it -/
structure Cod {α : Type} [DecidableEq α] (R : Hp → V → α → Prop) (f : α → PyData) (d : Nat) : Prop where
  dp : ∀ (K : PySem.W.Frag) H v a, R H v a → Dp K H v (f a)
  eq : ∀ a b, PyData.eqv (f a) (f b) = decide (a = b)
  lay : ∀ a, PyData.canLay0 (f a) = true
  dep : ∀ a, PyData.depth (f a) ≤ d
def IntV (_ : Hp) (v : V) (i : Int) : Prop := v = .int i
def LstV {α : Type} (R : Hp → V → α → Prop) (H : Hp) (v : V) (l : List α) : Prop := ∃ a vs, v = .ref a ∧ H a = some (.lst vs) ∧ All2 (R H) vs l
def TupV {α : Type} (R : Hp → V → α → Prop) (H : Hp) (v : V) (l : List α) : Prop := ∃ a vs, v = .ref a ∧ H a = some (.tup vs) ∧ All2 (R H) vs l
def Pr2V {α β : Type} (R : Hp → V → α → Prop) (S : Hp → V → β → Prop) (H : Hp) (v : V) (p : α × β) : Prop := ∃ a x y, v = .ref a ∧ H a = some (.tup [x, y]) ∧ R H x p.1 ∧ S H y p.2
def Pr3V {α β γ : Type} (R : Hp → V → α → Prop) (S : Hp → V → β → Prop) (T : Hp → V → γ → Prop) (H : Hp) (v : V) (p : α × β × γ) : Prop := ∃ a x y z, v = .ref a ∧ H a = some (.tup [x, y, z]) ∧ R H x p.1 ∧ S H y p.2.1 ∧ T H z p.2.2
theorem cod_int : Cod IntV PyData.int 0 := ⟨fun K H v a h => by rw [show v = .int a from h]; exact .int a, eqv_ii, fun _ => rfl, fun _ => Nat.le_refl _⟩
section
variable {α β γ : Type} [DecidableEq α] [DecidableEq β] [DecidableEq γ] {R : Hp → V → α → Prop} {S : Hp → V → β → Prop} {T : Hp → V → γ → Prop} {f : α → PyData} {g : β → PyData} {h : γ → PyData} {d e k : Nat}
theorem Cod.all (c : Cod R f d) {K : PySem.W.Frag} {H : Hp} {vs : List V} {l : List α} (a : All2 (R H) vs l) : DpAll K H vs (l.map f) := by
  induction a with
  | nil => exact .nil
  | cons r _ ih => exact .cons (c.dp _ _ _ _ r) ih
theorem Cod.eqAll (c : Cod R f d) : ∀ l m : List α, PyData.eqvAll (l.map f) (m.map f) = decide (l = m)
  | [], [] => by rw [List.map_nil, eqvAll_nil]; rfl
  | [], y :: s => by rw [List.map_nil, List.map_cons, PyData.eqvAll]; simp
  | x :: r, [] => by rw [List.map_nil, List.map_cons, PyData.eqvAll]; simp
  | x :: r, y :: s => by
    rw [List.map_cons, List.map_cons, eqvAll_cons, c.eq, Cod.eqAll c r s]
    simp only [List.cons.injEq, Bool.decide_and]
theorem Cod.layAll (c : Cod R f d) : ∀ l : List α, PyData.canLayAll0 (l.map f) = true
  | [] => rfl
  | x :: r => by rw [List.map_cons, PyData.canLayAll0, c.lay, Cod.layAll c r]; rfl
theorem Cod.depAll (c : Cod R f d) : ∀ l : List α, PyData.depthAll (l.map f) ≤ d
  | [] => by rw [List.map_nil, PyData.depthAll]; exact Nat.zero_le _
  | x :: r => by rw [List.map_cons, PyData.depthAll]; exact Nat.max_le.mpr ⟨c.dep x, Cod.depAll c r⟩
theorem cod_lst (c : Cod R f d) : Cod (LstV R) (fun l => .list (l.map f)) (d + 1) :=
  ⟨fun K H v l ⟨a, vs, e, ha, hv⟩ => by rw [e]; exact .lst (.inl (.inl ha)) (c.all hv), fun l m => by rw [PyData.eqv, c.eqAll], fun l => by rw [PyData.canLay0, c.layAll], fun l => by rw [PyData.depth]; exact Nat.succ_le_succ (c.depAll l)⟩
theorem cod_tup (c : Cod R f d) : Cod (TupV R) (fun l => .tuple (l.map f)) (d + 1) :=
  ⟨fun K H v l ⟨a, vs, e, ha, hv⟩ => by rw [e]; exact .tup (.inl (.inl ha)) (c.all hv), fun l m => by rw [PyData.eqv, c.eqAll], fun l => by rw [PyData.canLay0, c.layAll], fun l => by rw [PyData.depth]; exact Nat.succ_le_succ (c.depAll l)⟩
theorem cod_p2 (c : Cod R f d) (b : Cod S g e) : Cod (Pr2V R S) (fun p => .tuple [f p.1, g p.2]) (max d e + 1) :=
  ⟨fun K H v l ⟨a, x, y, e, ha, hx, hy⟩ => by rw [e]; exact .tup (.inl (.inl ha)) (.cons (c.dp _ _ _ _ hx) (.cons (b.dp _ _ _ _ hy) .nil)),
   fun l m => by
    rw [PyData.eqv, eqvAll_cons, eqvAll_cons, eqvAll_nil, c.eq, b.eq, Bool.and_true, ← Bool.decide_and]
    exact decide_eq_decide.mpr ⟨fun z => Prod.ext z.1 z.2, fun z => by rw [z]; exact ⟨rfl, rfl⟩⟩,
   fun l => by rw [PyData.canLay0, PyData.canLayAll0, PyData.canLayAll0, PyData.canLayAll0, c.lay, b.lay]; rfl,
   fun l => by
    rw [PyData.depth, PyData.depthAll, PyData.depthAll, PyData.depthAll]
    have h1 := c.dep l.1
    have h2 := b.dep l.2
    omega⟩
theorem cod_p3 (c : Cod R f d) (b : Cod S g e) (t : Cod T h k) : Cod (Pr3V R S T) (fun p => .tuple [f p.1, g p.2.1, h p.2.2]) (max d (max e k) + 1) :=
  ⟨fun K H v l ⟨a, x, y, z, e, ha, hx, hy, hz⟩ => by rw [e]; exact .tup (.inl (.inl ha)) (.cons (c.dp _ _ _ _ hx) (.cons (b.dp _ _ _ _ hy) (.cons (t.dp _ _ _ _ hz) .nil))),
   fun l m => by
    rw [PyData.eqv, eqvAll_cons, eqvAll_cons, eqvAll_cons, eqvAll_nil, c.eq, b.eq, t.eq, Bool.and_true, ← Bool.decide_and, ← Bool.decide_and]
    exact decide_eq_decide.mpr ⟨fun z => Prod.ext z.1 (Prod.ext z.2.1 z.2.2), fun z => by rw [z]; exact ⟨rfl, rfl, rfl⟩⟩,
   fun l => by rw [PyData.canLay0, PyData.canLayAll0, PyData.canLayAll0, PyData.canLayAll0, PyData.canLayAll0, c.lay, b.lay, t.lay]; rfl,
   fun l => by
    rw [PyData.depth, PyData.depthAll, PyData.depthAll, PyData.depthAll, PyData.depthAll]
    have h1 := c.dep l.1
    have h2 := b.dep l.2.1
    have h3 := t.dep l.2.2
    omega⟩
end
section
variable {X : Cx} {α : Type} [DecidableEq α] {R : Hp → V → α → Prop} {f : α → PyData} {d : Nat}
def rEqC (R : Hp → V → α → Prop) : R2 := fun x y H Q => ∃ a b, R H x a ∧ R H y b ∧ Q (.bl (decide (a = b))) H
def rNeC (R : Hp → V → α → Prop) : R2 := fun x y H Q => ∃ a b, R H x a ∧ R H y b ∧ Q (.bl (!decide (a = b))) H
theorem Cod.shaped (c : Cod R f d) (hd : d ≤ 64) (a : α) : SeqAt.shaped (f a) = true := by
  unfold SeqAt.shaped
  rw [c.lay, decide_eq_true (Nat.le_trans (c.dep a) hd)]
  rfl
theorem op_eqC (hu : X.A.units + 64 < cLine) (c : Cod R f d) (hd : d ≤ 64) : OpR X (compareOp .Eq) (rEqC R) := OpR.of (op_eqD hu) fun x y H Q ⟨a, b, ha, hb, q⟩ => ⟨f a, f b, c.dp _ _ _ _ ha, c.dp _ _ _ _ hb, c.shaped hd a, c.shaped hd b, by rw [c.eq]; exact q⟩
theorem op_neC (hu : X.A.units + 64 < cLine) (c : Cod R f d) (hd : d ≤ 64) : OpR X (compareOp .NotEq) (rNeC R) := OpR.of (op_neD hu) fun x y H Q ⟨a, b, ha, hb, q⟩ => ⟨f a, f b, c.dp _ _ _ _ ha, c.dp _ _ _ _ hb, c.shaped hd a, c.shaped hd b, by rw [c.eq]; exact q⟩
end
theorem ints_all {H : Hp} (ns : List Int) : All2 (IntV H) (List.map V.int ns) ns := by
  induction ns with
  | nil => exact .nil
  | cons n r ih => exact .cons rfl ih
theorem ints_of {H : Hp} {vs : List V} {ns : List Int} (h : All2 (IntV H) vs ns) : vs = List.map V.int ns := by
  induction h with
  | nil => rfl
  | cons r _ ih => rw [List.map_cons, ih, show _ = V.int _ from r]
theorem intL {H : Hp} {a : Addr} {ns : List Int} (g : H a = some (.lst (List.map V.int ns))) : LstV IntV H (.ref a) ns := ⟨a, _, rfl, g, ints_all ns⟩
theorem lsv_mono {H H' : Hp} (s : Same H H') (v : V) (n : List Int) (h : LstV IntV H v n) : LstV IntV H' v n := by
  obtain ⟨a, vs, e, g, k⟩ := h
  exact ⟨a, vs, e, s _ _ g, k.mono fun _ _ z => z⟩
/-- what stands however the heap goes on, but for one list that changes -/
structure Stab {α : Type} (R : Hp → V → α → Prop) : Prop where
  mono : ∀ {H H' : Hp}, Same H H' → ∀ v a, R H v a → R H' v a
  but : ∀ {H H' : Hp} {l : Addr} {ys : List V}, But l H H' → H l = some (.lst ys) → ∀ v a, R H v a → R H' v a
theorem stab_int : Stab IntV := ⟨fun _ _ _ h => h, fun _ _ _ _ h => h⟩
section
variable {α β γ : Type} {R : Hp → V → α → Prop} {S : Hp → V → β → Prop} {T : Hp → V → γ → Prop}
theorem stab_tup (c : Stab R) : Stab (TupV R) :=
  ⟨fun s v l ⟨a, vs, e, g, k⟩ => ⟨a, vs, e, s _ _ g, k.mono (c.mono s)⟩, fun bt gl v l ⟨a, vs, e, g, k⟩ => ⟨a, vs, e, tup_but bt g gl, k.mono (c.but bt gl)⟩⟩
theorem stab_p2 (c : Stab R) (b : Stab S) : Stab (Pr2V R S) :=
  ⟨fun s v l ⟨a, x, y, e, g, h1, h2⟩ => ⟨a, x, y, e, s _ _ g, c.mono s _ _ h1, b.mono s _ _ h2⟩, fun bt gl v l ⟨a, x, y, e, g, h1, h2⟩ => ⟨a, x, y, e, tup_but bt g gl, c.but bt gl _ _ h1, b.but bt gl _ _ h2⟩⟩
theorem stab_p3 (c : Stab R) (b : Stab S) (t : Stab T) : Stab (Pr3V R S T) :=
  ⟨fun s v l ⟨a, x, y, z, e, g, h1, h2, h3⟩ => ⟨a, x, y, z, e, s _ _ g, c.mono s _ _ h1, b.mono s _ _ h2, t.mono s _ _ h3⟩, fun bt gl v l ⟨a, x, y, z, e, g, h1, h2, h3⟩ => ⟨a, x, y, z, e, tup_but bt g gl, c.but bt gl _ _ h1, b.but bt gl _ _ h2, t.but bt gl _ _ h3⟩⟩
theorem lstV_mono (c : Stab R) {H H' : Hp} (s : Same H H') (v : V) (l : List α) (h : LstV R H v l) : LstV R H' v l := by
  obtain ⟨a, vs, e, g, k⟩ := h
  exact ⟨a, vs, e, s _ _ g, k.mono (c.mono s)⟩
theorem Stab.upd (c : Stab R) {H : Hp} {l : Addr} {ys : List V} {o : HO} (g : H l = some (.lst ys)) (v : V) (a : α) (h : R H v a) : R (upd H l o) v a := c.but ((But.refl l H).put) g v a h
end

/-! ### constants of the top, texts in lists, reversed lists, zip of tuples -/
theorem SqT.of {K : PySem.W.Frag} {H : Hp} {a : Addr} {xs : List V} (h : H a = some (.tup xs)) : SqT K H a xs := .inl (.inl h)
theorem SqL.of {K : PySem.W.Frag} {H : Hp} {a : Addr} {xs : List V} (h : H a = some (.lst xs)) : SqL K H a xs := .inl (.inl h)
section
variable {X : Cx}
theorem ints_tshaped (ns : List Int) : SeqAt.shaped (.tuple (ns.map PyData.int)) = true := (cod_tup cod_int).shaped (by decide) ns
/-- == of a tracked tuple of ints and any tuple of ints -/
def rEqTK (K : PySem.W.Frag) : R2 := fun x y H Q => ∃ a b ns ms, x = .ref a ∧ y = .ref b ∧ H a = some (.tup (List.map V.int ns)) ∧ SqT K H b (List.map V.int ms) ∧ Q (.bl (decide (ns = ms))) H
theorem op_eqTK (hu : X.A.units + 64 < cLine) : OpR X (compareOp .Eq) (rEqTK X.K) := OpR.of (op_eqD hu) (by
  rintro x y H Q ⟨a, b, ns, ms, rfl, rfl, ha, hb, q⟩
  refine ⟨_, _, .tup (.inl (.inl ha)) (ints_dp ns), .tup hb (ints_dp ms), ints_tshaped ns, ints_tshaped ms, ?_⟩
  rw [(cod_tup cod_int).eq ns ms]
  exact q)
abbrev OkS := {s : Str // PyData.strOk s = true}
def StrV (_ : Hp) (v : V) (s : OkS) : Prop := v = .str s.val
theorem eqv_ss (a b : Str) : PyData.eqv (.str a) (.str b) = decide (a = b) := by
  rw [PyData.eqv]
  by_cases h : a = b
  · rw [decide_eq_true h]; exact beq_iff_eq.mpr h
  · rw [decide_eq_false h]; exact beq_eq_false_iff_ne.mpr h
def vS (s : OkS) : V := .str s.val
def dStr (s : OkS) : PyData := .str s.val
theorem cod_str : Cod StrV dStr 0 := ⟨fun K H v a h => by rw [show v = .str a.val from h]; exact .str a.val, fun a b => by
  show PyData.eqv (.str a.val) (.str b.val) = _
  rw [eqv_ss]; exact decide_eq_decide.mpr Subtype.ext_iff.symm, fun a => by show PyData.canLay0 (.str a.val) = true; rw [PyData.canLay0]; exact a.property, fun a => by show PyData.depth (.str a.val) ≤ 0; rw [PyData.depth]; exact Nat.le_refl _⟩
theorem strs_all {H : Hp} : ∀ ns : List OkS, All2 (StrV H) (List.map vS ns) ns
  | [] => .nil
  | _ :: r => .cons rfl (strs_all r)
theorem strs_of {H : Hp} {vs : List V} {ns : List OkS} (h : All2 (StrV H) vs ns) : vs = List.map vS ns := by
  induction h with
  | nil => rfl
  | cons r _ ih => rw [List.map_cons, ih, show _ = _ from r]; rfl
theorem strL {H : Hp} {a : Addr} {ns : List OkS} (g : H a = some (.lst (List.map vS ns))) : LstV StrV H (.ref a) ns := ⟨a, _, rfl, g, strs_all ns⟩
theorem stab_str : Stab StrV := ⟨fun _ _ _ h => h, fun _ _ _ _ h => h⟩
theorem strs_dp {K : PySem.W.Frag} {H : Hp} (ss : List OkS) : DpAll K H (ss.map vS) (ss.map dStr) := cod_str.all (strs_all ss)
/-- != and == of a tuple of texts of the top and a new one -/
def rNeSK (K : PySem.W.Frag) : R2 := fun x y H Q => ∃ a b ss ts, x = .ref a ∧ y = .ref b ∧ SqT K H a (List.map vS ss) ∧ H b = some (.tup (List.map vS ts)) ∧ Q (.bl (!decide (ss = ts))) H
theorem op_neSK (hu : X.A.units + 64 < cLine) : OpR X (compareOp .NotEq) (rNeSK X.K) := OpR.of (op_neD hu) (by
  rintro x y H Q ⟨a, b, ss, ts, rfl, rfl, ha, hb, q⟩
  refine ⟨_, _, .tup ha (strs_dp ss), .tup (.inl (.inl hb)) (strs_dp ts), (cod_tup cod_str).shaped (by decide) ss, (cod_tup cod_str).shaped (by decide) ts, ?_⟩
  rw [(cod_tup cod_str).eq ss ts]
  exact q)
/-- isinstance of a tuple of the top -/
def rIsiTK (K : PySem.W.Frag) : List V → Hp → VK → Prop := fun vs H Q => ∃ p n xs b, vs = [.ref p, .ty n] ∧ SqT K H p xs ∧ kitB "tuple" n = some b ∧ Q (.bl b) H
theorem call_isiTK : CallR X (.builtin "isinstance") (rIsiTK X.K) := CallR.of call_isi (by
  rintro vs H Q ⟨p, n, xs, b, rfl, hp, hb, q⟩
  refine ⟨.ref p, .ty n, .type "tuple", .type n, b, rfl, .ty n, ?_, kit_ty hb, q⟩
  rcases hp with (h | ⟨o, h⟩) | ⟨o, its, k, h1, h2, _⟩
  · exact .base (.tup h)
  · exact .fTuple h
  · exact .kTuple h1 h2)
/-- reversed(list) -/
def iRevS (K : PySem.W.Frag) (ta : TA) : TI := fun σ H R => ta σ H fun vs H1 => ∃ a xs, vs = [.ref a] ∧ H1 a = some (.lst xs) ∧ R (Itv K a xs.length) H1
theorem pi_revS {tg e : Expr} {ta : TA} {p pos : Pos} (hg : Gl X "reversed") (hm : X.mg "reversed" = none) (ha : PA X [e] ta) (hs : starEach [e] X.env = [(false, eval e X.env)] := by rfl) :
    PI X tg (.Call (.Name "reversed" p) [e] [] pos) (iRevS X.K ta) := PI.of (pi_reversed hg hm (pa_mono ha) hs) fun σ H R q => ⟨_, q, fun vs H1 ⟨a, xs, e, g, r⟩ => ⟨a, xs, e, .inl (.inl g), r⟩⟩
/-- zip of two tuples -/
def iZipTS (K : PySem.W.Frag) (ta : TA) : TI := fun σ H R => ta σ H fun vs H1 => ∃ a b xs ys, vs = [.ref a, .ref b] ∧ SqT K H1 a xs ∧ SqT K H1 b ys ∧ R (RZ.ItzT K a b) H1
theorem pi_zipTS {e e2 : Expr} {ta : TA} {p pos tpos : Pos} {elts : List Expr} {kk : Nat} (hg : Gl X "zip") (hm : X.mg "zip" = none) (ha : PA X [e, e2] ta) (hs : starEach [e, e2] X.env = (false, eval e X.env) :: starEach [e2] X.env := by rfl) (hpl : (backTo pos (starEach [e2] X.env)).any (·.1) = false := by rfl) :
    PI X (.Tuple elts kk tpos) (.Call (.Name "zip" p) [e, e2] [] pos) (iZipTS X.K ta) := PI.of (RZ.pi_zipA hg hm (pa_mono ha) hs hpl) fun σ H R q => ⟨_, q, fun vs H1 ⟨a, b, xs, ys, e, g1, g2, r⟩ => ⟨a, b, xs, ys, e, .inr ⟨g1, g2, r⟩⟩⟩
end
theorem walkV {K : PySem.W.Frag} {a : Addr} {xs : List V} : Walk (Itv K a xs.length) xs.length (fun H => H a = some (.lst xs)) (fun i H x H' => H' = H ∧ xs[xs.length - 1 - i]? = some x) := (walk_rev (K := K) (a := a) (xs := xs)).mono (fun _ h => .inl (.inl h)) fun _ _ _ _ _ _ y => y
theorem walkVI {K : PySem.W.Frag} {a : Addr} {ns : List Int} : Walk (Itv K a ns.length) ns.length (fun H => H a = some (.lst (List.map V.int ns))) (YInt ns.reverse) := by
  have w := walkV (K := K) (a := a) (xs := List.map V.int ns)
  rw [List.length_map] at w
  refine w.mono (fun _ h => h) fun i H x H' hi _ y => ⟨y.1, ?_⟩
  have h := y.2
  rw [List.getElem?_map] at h
  obtain ⟨b, h1, rfl⟩ := Option.map_eq_some_iff.mp h
  exact ⟨b, by rw [List.getElem?_reverse hi]; exact h1, rfl⟩
theorem walkZT {K : PySem.W.Frag} {a b : Addr} {xs ys : List V} {n : Nat} (hn : n = min xs.length ys.length) : Walk (RZ.ItzT K a b) n (fun H => SqT K H a xs ∧ SqT K H b ys) (YPair (fun i => xs[i]?) (fun i => ys[i]?)) := by
  subst hn
  refine ⟨fun i _ hi q => ?_, fun _ q => ⟨xs, ys, q.1, q.2, by omega⟩, fun i H v H' _ q y => ?_⟩
  · have h1 : i < xs.length := by omega
    have h2 : i < ys.length := by omega
    exact ⟨xs, ys, xs[i], ys[i], q.1, q.2, by simp [h1], by simp [h2]⟩
  · obtain ⟨T, x, z, h1, h2, h3, h4, h5⟩ := y
    exact ⟨T, x, z, h1, h2, h3, h4 xs q.1, h5 ys q.2⟩
theorem _root_.L2.Same.seqT {K : PySem.W.Frag} {H H' : Hp} (s : Same H H') {a : Addr} {xs : List V} (h : SqT K H a xs) : SqT K H' a xs := by
  rcases h with (h | ⟨o, h⟩) | h
  · exact .inl (.inl (s _ _ h))
  · exact .inl (.inr ⟨o, s _ _ h⟩)
  · exact .inr h
/-- the codes of a text -/
def cds (z : Str) : List Int := z.cps.toList.map fun (c : Nat) => (c : Int)
theorem cds_at {z : Str} {i c : Nat} (h : z.cps[i]? = some c) : (cds z)[i]? = some (c : Int) := by
  unfold cds
  rw [List.getElem?_map, Array.getElem?_toList, h]
  rfl
theorem cds_len (z : Str) : (cds z).length = z.cps.size := by unfold cds; rw [List.length_map, Array.length_toList]
section
variable {X : Cx} {α : Type} [DecidableEq α] {R : Hp → V → α → Prop} {f : α → PyData} {d : Nat}
theorem Cod.anyEq (c : Cod R f d) (a : α) : ∀ l : List α, ((l.map f).any fun z => PyData.eqv z (f a)) = decide (a ∈ l)
  | [] => by simp
  | x :: r => by
    rw [List.map_cons, List.any_cons, c.eq, Cod.anyEq c a r]
    by_cases h : x = a
    · subst h; simp
    · rw [decide_eq_false h, Bool.false_or]
      exact decide_eq_decide.mpr ⟨fun z => List.mem_cons_of_mem _ z, fun z => (List.mem_cons.mp z).resolve_left fun e => h e.symm⟩
/-- x in a list, x not in a list or a tuple, at any depth -/
def rInLC (R : Hp → V → α → Prop) : R2 := fun x y H Q => ∃ a l, R H x a ∧ LstV R H y l ∧ Q (.bl (decide (a ∈ l))) H
def rNotInLC (R : Hp → V → α → Prop) : R2 := fun x y H Q => ∃ a l, R H x a ∧ LstV R H y l ∧ Q (.bl (!decide (a ∈ l))) H
def rNotInTC (R : Hp → V → α → Prop) : R2 := fun x y H Q => ∃ a l, R H x a ∧ TupV R H y l ∧ Q (.bl (!decide (a ∈ l))) H
theorem op_inLC (hu : X.A.units + 65 < cLine) (c : Cod R f d) (hd : d < 64) : OpR X (compareOp .In) (rInLC R) := OpR.of (op_inD hu) fun x y H Q ⟨a, l, ha, hl, q⟩ => ⟨f a, l.map f, c.dp _ _ _ _ ha, (cod_lst c).dp _ _ _ _ hl, c.shaped (Nat.le_of_lt hd) a, (cod_lst c).shaped hd l, by rw [c.anyEq]; exact q⟩
theorem op_notInLC (hu : X.A.units + 65 < cLine) (c : Cod R f d) (hd : d < 64) : OpR X (compareOp .NotIn) (rNotInLC R) := OpR.of (op_notInD hu) fun x y H Q ⟨a, l, ha, hl, q⟩ => ⟨f a, l.map f, c.dp _ _ _ _ ha, (cod_lst c).dp _ _ _ _ hl, c.shaped (Nat.le_of_lt hd) a, (cod_lst c).shaped hd l, by rw [c.anyEq]; exact q⟩
theorem op_notInTC (hu : X.A.units + 65 < cLine) (c : Cod R f d) (hd : d < 64) : OpR X (compareOp .NotIn) (rNotInTC R) := by
  intro pins s σ H x y v u Q I rx ry h
  obtain ⟨a, l, ha, hl, q⟩ := h
  have sd := c.shaped (Nat.le_of_lt hd) a
  have se := (cod_tup c).shaped hd l
  obtain ⟨as, r1⟩ := Dp.reads I (f a) x v (c.dp _ _ _ _ ha) rx
  obtain ⟨bs, r2⟩ := Dp.reads I (.tuple (l.map f)) y u ((cod_tup c).dp _ _ _ _ hl) ry
  exact SeqAt.notIn_tuple_reads r2 r1 (SeqAt.canLay_of_shaped se) (SeqAt.canLay_of_shaped sd) (room_in_shaped sd hu) ⟨.bl _, H, I, rfl, by rw [c.anyEq]; exact q⟩
theorem hu5 {A : Around} {k : Nat} (hr : Room k A) : A.units + 65 < cLine := by have := hr.un; omega
/-- ''.join of a list of single signs -/
def oneS (c : Nat) : Str := ⟨#[c]⟩
theorem joinL_one : ∀ cs : List Nat, TL.joinL [] (cs.map fun c => [c]) = cs
  | [] => rfl
  | [_] => rfl
  | x :: y :: r => by
    show [x] ++ ([] ++ TL.joinL [] ((y :: r).map fun c => [c])) = _
    rw [joinL_one (y :: r)]
    rfl
theorem join_one (cs : List Nat) : Txt.join (Str.ofString "") (cs.map oneS) = ⟨cs.toArray⟩ := by
  have h := SX.join_S [] (cs.map fun c => [c])
  rw [joinL_one, List.map_map] at h
  exact h
def tJoinC (to te : TE) : TE := fun σ H Q => to σ H fun x H1 => x = .str (Str.ofString "") ∧ te σ H1 fun y H2 => ∃ (p : Addr) (cs : List Nat), y = .ref p ∧ H2 p = some (.lst (cs.map fun c => V.str (oneS c))) ∧ cs.length ≤ 1000000 ∧ Q (.str ⟨cs.toArray⟩) H2
theorem one_sum : ∀ cs : List Nat, ((cs.map oneS).map (·.length)).sum = cs.length
  | [] => rfl
  | c :: r => by
    rw [List.map_cons, List.map_cons, List.sum_cons, one_sum r, List.length_cons, Nat.add_comm]
    rfl
theorem pe_joinC {o e : Expr} {to te : TE} {apos pos : Pos} (ho : PE X o to) (he : PE X e te) (hs : starEach [e] X.env = [(false, eval e X.env)] := by rfl) (hbase : attributeBase o "join" X.env (eval o X.env) = eval o X.env := by rfl) (hline : (apos.endLine == pos.line) = true := by rfl) :
    PE X (.Call (.Attribute o "join" apos) [e] [] pos) (tJoinC to te) := PE.of (pe_join (pe_mono ho) (pe_mono he) hs hbase hline) fun σ H Q q => ⟨_, q, fun x H1 z => ⟨⟨_, z.1⟩, _, z.2, fun y H2 ⟨p, cs, e, g, hl, w⟩ => ⟨Str.ofString "", p, cs.map oneS, z.1, by rw [e], .inl (.inl (.inl (by rw [List.map_map]; exact g))), by
    rw [one_sum, List.length_map, show (Str.ofString "").length = 0 from rfl]; omega, by rw [join_one]; exact w⟩⟩⟩
end
section
variable {X : Cx}
/-- xs * n -/
def rRepL : R2 := fun x y H Q => ∃ l k xs, x = .ref l ∧ y = .int k ∧ H l = some (.lst xs) ∧ k ≤ 2 ^ 62 - 1 ∧ -(2 ^ 62) ≤ k ∧ xs.length * k.toNat ≤ sizeLine ∧ NewH H (.lst (List.replicate k.toNat xs).flatten) fun p H' => Q (.ref p) H'
theorem op_repL : OpR X (binaryOp .Mult) rRepL := OpR.of op_rep fun x y H Q ⟨l, k, xs, e1, e2, h1, z1, z2, z3, q⟩ => ⟨l, k, xs, e1, e2, h1, by omega, by omega, z3, q.go⟩
end

theorem iteP {p : Prop} {i : Decidable p} {a b : Prop} (x : p → a) (y : ¬ p → b) : @ite _ p i a b := by
  by_cases h : p
  · rw [if_pos h]; exact x h
  · rw [if_neg h]; exact y h
section
variable {X : Cx}
/-- name = {k: v for ..} on one line, the name a local -/
theorem ps_setDc {i : Nat} {y : Str} {py : Pos} {kx vx tg iter : Expr} {ifs : List Expr} {scope : Scope} {own : List (Str × Nat)} {pos spos : Pos} {wi : TI} {g : TG} {tt : TT} {tk tv : TE} (hc : X.calm = true) (hN : X.N.Nodup) (hy : X.N[i]? = some y) (hyl : X.env.scope.names.lookup y = some .local)
    (hsw : swapsWith (.DictComp kx vx [⟨tg, iter, ifs, 0⟩] scope pos) (some (.Name y py)) spos.line X.env = pure true) (hi : PI X tg iter wi) (ok : BlkOk X.N X.env.scope scope own)
    (hg : ∀ (s : Shared) (H : Hp) (C : Addr) (cl : List (Str × Addr)) (fp : List Addr), PG (X.blk s H scope (compEnvC scope cl C X.env) fp) tg g) (ht : ∀ (s : Shared) (H : Hp) (C : Addr) (cl : List (Str × Addr)) (fp : List Addr), PTs (X.blk s H scope (compEnvC scope cl C X.env) fp) ifs tt)
    (hk : ∀ (s : Shared) (H : Hp) (C : Addr) (cl : List (Str × Addr)) (fp : List Addr), PE (X.blk s H scope (compEnvC scope cl C X.env) fp) kx tk)
    (he : ∀ (s : Shared) (H : Hp) (C : Addr) (cl : List (Str × Addr)) (fp : List Addr), PE (X.blk s H scope (compEnvC scope cl C X.env) fp) vx tv) (hs : ∀ x, foldedSetIterable iter X.env x = pure x := by intro _; rfl) :
    PS X (.Assign [.Name y py] (.DictComp kx vx [⟨tg, iter, ifs, 0⟩] scope pos) spos) (tAsg (tDc wi g tt tk tv (own.map (·.2))) (gName i)) := by
  refine ⟨fun pins s σ H D I h => ?_⟩
  rw [exec_Assign_Name_used _ _ _ _ hsw]
  refine wpAny_bind (wpAny_standAt (wpAny_bind ?_))
  show wpAny _ X.A (do let _ ← comprehension (.DictComp kx vx [⟨tg, iter, ifs, 0⟩] scope pos) scope X.env (firstIterPos [⟨tg, iter, ifs, 0⟩] pos) newDict false (eval iter X.env) (some (assign (.Name y py) X.env))) _ _ s
  have h : tDc wi g tt tk tv (own.map (·.2)) σ H (fun x H1 => gName i x σ H1 D.nx) := h
  refine wpAny_bind (thn (dc_core (Qf := fun _ s' => SP X pins D .next s') hc hN I hi ok hg ht hk he hs h fun L C s' m H' I' q hn f => ?_) fun _ s' hq => wpAny_pure (wpAny_pure hq))
  show wpAny _ _ (assign (.Name y py) X.env (.ref L)) _ _ _
  refine wpAny_assign_Name (store_ok2 (v := V.ref L) I' hN hy (.inl hyl) rfl (fun s2 I2 ⟨a, sb, ha⟩ => ?_) (.inr hyl))
  obtain ⟨f0, f1, f2, f3, f4, f5⟩ := f
  have haC : C ≠ a := by
    rcases ha with z | z
    · rw [z]; exact f1
    · exact fun e => f4 y a z e.symm
  refine ⟨m, hn.sameBut sb haC, fun h3 sb3 => ?_⟩
  exact ⟨_, H', I2.turned (t' := s2.toks) (fun b o hb e => (sb3.2 b hb).trans e) f0 f1 f3 f4 f5, q⟩
theorem sw_trueD {kx vx : Expr} {gs : List Comprehension} {scope : Scope} {pos py : Pos} {y : Str} {l : Nat} {env : Env} (hk : env.scope.kind = .function) (hy : env.scope.names.lookup y = some .local) (hl : (py.line == pos.line) = true)
    (ha : (scope.names.any fun (n, k) => n == y && (k == .local || k == .cell)) = false) : swapsWith (.DictComp kx vx gs scope pos) (some (.Name y py)) l env = pure true := by
  have ky : env.kindOf y = some .local := hy
  have hb : env.blockKind = .function := by unfold Env.blockKind; rw [hk]; rfl
  unfold swapsWith
  simp only [hb, ky, ha, Expr.pos, hl]
  rfl
end

/-- enumerate(text): each character in a new pair -/
def Ites (x : Str) : It :=
  ⟨fun i _ => i < x.cps.size, fun i H v H' => ∃ T c, v = .ref T ∧ H T = none ∧ H' = upd H T (.tup [.int (i : Nat), .str ⟨#[c]⟩]) ∧ x.cps[i]? = some c, fun i _ => x.cps.size ≤ i⟩
theorem turn_enumS {P : Program} {w : World} {K : PySem.W.Frag} {elts : List Expr} {kk : Nat} {tpos : Pos} (x : Str) (t : Tok) (e it : Addr) (ty : String) (hty : ty = "str_ascii_iterator" ∨ ty = "str_iterator") :
    Turn P w K (.Tuple elts kk tpos) (Ites x) [e, it] e (fun i h => (∃ old, IsEnum h e it ((i : Nat) : Int) old) ∧ h.IsStrIter it ty x t i ∧ e ≠ it ∧ i ≤ x.cps.size) where
  mem := by simp
  obj := fun i h st b hb => by
    obtain ⟨⟨old, he⟩, ⟨o, ho, hc, hd⟩, _⟩ := st
    have e' : b = e ∨ b = it := by simpa using hb
    rcases e' with z | z
    · rw [z]; exact ⟨_, he, fun v q => nomatch q⟩
    · rw [z]; exact ⟨o, ho, fun v q => by rw [hd] at q; cases q⟩
  keep := fun i h h' st k => by
    obtain ⟨⟨old, he⟩, ⟨o, ho, r⟩, hne⟩ := st
    exact ⟨⟨old, k e (by simp) _ he⟩, ⟨o, k it (by simp) o ho, r⟩, hne⟩
  item := by
    intro X hP hw hK hc i pins s σ H E I hf st hg
    subst hP hw hK
    obtain ⟨⟨old, he⟩, hit, hne, hle⟩ := st
    have hel : e < s.heap.objs.size := Heap.lt_size he
    have hil : it < s.heap.objs.size := by obtain ⟨_, q, _⟩ := hit; exact Heap.lt_size q
    have Dr : Draws X.prog X.w X.A.in1 it [it] x.cps.size (fun i v => ∃ c u, x.cps[i]? = some c ∧ v = .str ⟨#[c]⟩ u) (fun i h => h.IsStrIter it ty x t i) := by
      rcases hty with z | z
      · rw [z]; exact Draws.strAscii (A := X.A.in1) (I.ok.hd hc) it x t
      · rw [z]; exact Draws.strWide (A := X.A.in1) (I.ok.hd hc) it x t
    refine wpAny_pyNext_enum_itemD Dr he hit hg hne (by simpa using hne) fun v h' tk hv ho hit' hT hsz hk => ?_
    obtain ⟨c, u, hcx, rfl⟩ := hv
    refine ⟨_, rfl, wpAny_letOwnedTupleGo_enum (s := { s with heap := h', toks := tk + 1 }) ho fun h'' he' sb => ?_⟩
    have hT2 : h''.get? s.heap.objs.size = some { cls := .type "tuple", data := .seq #[.int i tk, .str ⟨#[c]⟩ u] } := (sb.2 _ (Nat.ne_of_gt hel)).trans hT
    have new : ObjOk X.prog X.w (upd H s.heap.objs.size (.tup [.int (i : Nat), .str ⟨#[c]⟩])) h'' s.heap.objs.size (.tup [.int (i : Nat), .str ⟨#[c]⟩]) :=
      ⟨by show 2 ≤ sizeLine; decide, [.int i tk, .str ⟨#[c]⟩ u], .cons ⟨_, rfl⟩ (.cons ⟨_, rfl⟩ .nil), ⟨_, hT2, rfl, _, rfl⟩⟩
    have I1 : Inv X pins σ (upd H s.heap.objs.size (.tup [.int (i : Nat), .str ⟨#[c]⟩])) { s with heap := h'', toks := tk + 1 } :=
      I.turnedNew (ch := [e, it]) (fun b ob hb q => (sb.2 b (fun z => hb (by simp [z]))).trans (hk b ob (fun z => hb (by simp [z])) (fun z => hb (by simp [z])) q)) hf (Nat.le_refl _) new
    refine ⟨.ref s.heap.objs.size, _, I1, rfl, ⟨_, c, rfl, I.hok.fresh (Nat.le_refl _), rfl, hcx⟩, ⟨⟨.str ⟨#[c]⟩ u, ?_⟩, ?_, hne, Nat.succ_le_of_lt hg⟩, fun b hb => ?_⟩
    · have e1 : ((i + 1 : Nat) : Int) = (i : Int) + 1 := by omega
      rw [e1]; exact he'
    · obtain ⟨o, q, r⟩ := hit'
      exact ⟨o, (sb.2 it (Ne.symm hne)).trans q, r⟩
    · have hb' : b < s.heap.objs.size := by
        have e' : b = e ∨ b = it := by simpa using hb
        rcases e' with z | z
        · rw [z]; exact hel
        · rw [z]; exact hil
      rw [upd_ne (Nat.ne_of_lt hb')]
      exact (hf b hb).1
  done := by
    intro X hP hw hK hc i pins s σ H E I hf st hg
    subst hP hw hK
    obtain ⟨⟨old, he⟩, hit, hne, hle⟩ := st
    obtain ⟨f0, f1, f2, f3, f4, f5⟩ := hf it (by simp)
    have Dr : Draws X.prog X.w X.A.in1 it [it] x.cps.size (fun i v => ∃ c u, x.cps[i]? = some c ∧ v = .str ⟨#[c]⟩ u) (fun i h => h.IsStrIter it ty x t i) := by
      rcases hty with z | z
      · rw [z]; exact Draws.strAscii (A := X.A.in1) (I.ok.hd hc) it x t
      · rw [z]; exact Draws.strWide (A := X.A.in1) (I.ok.hd hc) it x t
    have ei : i = x.cps.size := Nat.le_antisymm hle hg
    subst ei
    exact wpAny_pyNext_enum_endD Dr he hit fun h' eb => ⟨rfl, I.turned (t' := s.toks) (fun b o hb q => eb b o hb q) f0 f1 f3 f4 f5⟩
  self := fun A i s Q E st h => let ⟨⟨_, he⟩, _⟩ := st; wpAny_pyIter_enum he h
def iEnumS (ta : TA) : TI := fun σ H R => ta σ H fun vs H1 => ∃ x, vs = [.str x] ∧ R (Ites x) H1
theorem pi_enumS {X : Cx} {e : Expr} {ta : TA} {p pos tpos : Pos} {elts : List Expr} {kk : Nat} (hg : Gl X "enumerate") (hm : X.mg "enumerate" = none) (ha : PA X [e] ta) (hs : starEach [e] X.env = [(false, eval e X.env)] := by rfl) :
    PI X (.Tuple elts kk tpos) (.Call (.Name "enumerate" p) [e] [] pos) (iEnumS ta) := by
  refine ⟨fun pins s σ H R I h => ?_⟩
  refine Call_ (ld_blt I hg hm boot_enumerate (PyProof.Rows.callWith_type1 (thn (ha.run pos pins s σ H _ I h) fun us s1 ⟨vs, H1, I1, r1, q1⟩ => ?_) hs rfl))
  obtain ⟨x, ex, q⟩ := q1
  subst ex
  cases r1 with
  | cons r rr =>
    cases rr
    obtain ⟨t, rfl⟩ := r
    refine call_enumerate_str fun h' he hit hsz hk => wpAny_pyIter_enum he ?_
    have I2 : Inv X pins σ H1 { s1 with heap := h' } := I1.kept (t' := s1.toks) hk
    refine ⟨s1.heap.objs.size + 1, [s1.heap.objs.size + 1, s1.heap.objs.size], _, _, H1, rfl, I2, turn_enumS x t (s1.heap.objs.size + 1) s1.heap.objs.size (strIterType x) (by unfold strIterType; split <;> simp), ⟨⟨.none, he⟩, hit, Nat.succ_ne_self _, Nat.zero_le _⟩, fun b hb => ?_, q⟩
    have e' : b = s1.heap.objs.size + 1 ∨ b = s1.heap.objs.size := by simpa using hb
    have hle : s1.heap.objs.size ≤ b := by
      rcases e' with z | z
      · rw [z]; exact Nat.le_add_right _ _
      · rw [z]; exact Nat.le_refl _
    exact I1.fpOk hle (I1.hok.fresh hle)
theorem walk_enumS {z : Str} : Walk (Ites z) z.cps.size (fun _ => True) (fun i H v H' => ∃ T c, v = .ref T ∧ H T = none ∧ H' = upd H T (.tup [.int (i : Nat), .str ⟨#[c]⟩]) ∧ z.cps[i]? = some c) :=
  ⟨fun _ _ hi _ => hi, fun _ _ => Nat.le_refl _, fun _ _ _ _ _ _ y => y⟩

/-! ### setdefault of a dict with tuple keys -/
section
variable {X : Cx} {pins : List (Addr × Obj)} {σ : L2.St} {H : Hp} {s : Shared} {a b : Addr} {r : Value} {d : V} {k : List L2.Key} {A : Around} {E : Value → Shared → Prop}
theorem d_setdT {kvs : List (List L2.Key × V)} {Q : Value → Shared → Prop} (hu : A.units + 1 < cLine) (I : Inv X pins σ H s) (e : H a = some (.dT kvs)) (eb : H b = some (.tup (k.map kV))) (rd : RelV d r) (hl : kvs.length < sizeLine)
    (h1 : ∀ v, valV kvs k = some v → ∀ (w' : Value) (s' : Shared), Inv X pins σ H s' → RelV v w' → Q w' s') (h2 : valV kvs k = none → ∀ (w' : Value) (s' : Shared), Inv X pins σ (upd H a (.dT (putK kvs k d))) s' → RelV d w' → Q w' s') :
    wpAny (model X.prog X.w) A (call (.builtin "dict.setdefault") [.ref a, .ref b, r]) Q E s := by
  obtain ⟨z, hd, xs, rel, dd⟩ := dt_of I.hok e
  have hz : xs.length ≤ sizeLine := by rw [← Paired.length rel]; exact z
  have hl2 : (putK kvs k d).length ≤ sizeLine := by have := length_putK kvs k d; omega
  refine call_setdefault_heap (hsz := hz) (tupleKind_room_in1 hu) (key_of I.hok eb) hd dd (fun p hp => ?_) (fun hn h' dd' hs => ?_)
  · have q := rel.val k
    rw [hp] at q
    cases q0 : valV kvs k with
    | none => rw [q0] at q; exact (show False from q).elim
    | some v0 => rw [q0] at q; exact h1 v0 q0 _ _ (I.tok _) q
  · have q := rel.val k
    rw [hn] at q
    cases q0 : valV kvs k with
    | some v0 => rw [q0] at q; exact (show False from q).elim
    | none =>
      obtain ⟨o, es, ep, hq, h3, h4, h5, _, h6⟩ := dd'
      refine h2 q0 _ _ (d_write I (by rw [e]; exact True.intro) hs ⟨o, hq⟩ ⟨hl2, hd, _, (rel.put k eb rd).keeps fun c ys ec => ?_, o, es, ep, hq, h3, h4, h5, h6⟩) rd
      rw [upd_ne (ne_of ec e (fun z => nomatch z))]
      exact ec
end
def tDSetdT (td ty tx : TE) : TE := fun σ H Q => td σ H fun x H1 => ∃ a, x = .ref a ∧ IsD H1 a ∧ ty σ H1 fun y H2 => tx σ H2 fun z H3 => ∃ (kvs : List (List L2.Key × V)) (k : List L2.Key) (b : Addr), H3 a = some (.dT kvs) ∧ y = .ref b ∧ H3 b = some (.tup (k.map kV)) ∧ kvs.length < sizeLine ∧
  (∀ v, valV kvs k = some v → Q v H3) ∧ (valV kvs k = none → Q z (upd H3 a (.dT (putK kvs k z))))
section
variable {X : Cx} {o e f : Expr} {td ty tx : TE} {apos cpos : Pos}
theorem pe_dsetdT (hu : X.A.units + 1 < cLine) (ho : PE X o td) (he : PE X e ty) (hf : PE X f tx) (m : M2 X o "setdefault" apos e f cpos) : PE X (.Call (.Attribute o "setdefault" apos) [e, f] [] cpos) (tDSetdT td ty tx) := by
  refine ⟨fun pins s σ H Q I h => ?_⟩
  refine wpAny_Call_method m.base m.few m.line PySem.F.plainAttrs_dict PySem.F.slot_dict_setdefault PySem.F.type_dict_setdefault (thn (ho.run pins s σ H _ I h) fun u s1 ⟨x, H1, I1, rx, a, ex, d, q1⟩ => ?_)
  subst ex
  obtain rfl : u = Value.ref a := rx
  obtain ⟨t1, t2, _⟩ := isD_at I1 d
  refine ⟨t1, t2, ?_⟩
  rw [m.trees]
  refine Calls.callWith_builtin rfl (Calls.evalArgs_plain (Calls.spliced_cons (thn (he.run pins s1 σ H1 _ I1 q1) fun iv s2 ⟨y, H2, I2, ry, q2⟩ =>
    Calls.spliced_cons (thn (hf.run pins s2 σ H2 _ I2 q2) fun fv s3 ⟨z, H3, I3, rz, kvs, k, b, ea, ey, eb, hl, q3, q4⟩ => Calls.spliced_nil ?_))))
  subst ey
  obtain rfl : iv = Value.ref b := ry
  exact d_setdT hu I3 ea eb rz hl (fun v hv w' s4 I4 rw' => ⟨v, _, I4, rw', q3 v hv⟩) fun hn w' s4 I4 rw' => ⟨z, _, I4, rw', q4 hn⟩
end

def tDNewTS : TE := fun _ H Q => NewH H (.dT []) fun p H' => Q (.ref p) H'
theorem pe_dnewTS {X : Cx} {pos : Pos} : PE X (.Dict [] [] pos) tDNewTS := PE.of pe_dnewT fun σ H Q q => q.go

/-! ### errors -/
section
variable {X : Cx}
/-- isinstance(e, c) in a suite, whatever class the error has -/
def rIsE1 (K : PySem.W.Frag) (cls : Value) (d : Option Addr) (a : Addr) : List V → Hp → VK → Prop := fun xs H Q => ∃ D, cls = .ref D ∧ d = none ∧ ExcC K D ∧ ∃ (C : Addr) (b : Bool), xs = [.ref a, .ref C] ∧ PySem.W.kitOne K (.ref D) (.ref C) = some b ∧ Q (.bl b) H
theorem call_isE1 {a : Addr} {oe : Obj} {cls : Value} {d : Option Addr} {pn : List (Addr × Obj)} (hz : Zc cls d oe) (hf : ∃ vs, oe.data = .fields vs) : CallR (X.suite a ((a, oe) :: pn)) (.builtin "isinstance") (rIsE1 X.K cls d a) := by
  intro pins s σ H xs us Q I r ⟨D, e1, e2, C, c, b, e3, e4, q⟩
  subst e1 e2
  exact call_isE C hz hf pins s σ H xs us Q I r ⟨.ref c, .ref c, b, e3, fun u z => z, e4, q⟩
theorem ifB {c : Bool} {a b : Prop} (x : c = true → a) (y : c = false → b) : if c = true then a else b := by
  cases c
  · rw [if_neg Bool.false_ne_true]; exact y rfl
  · rw [if_pos rfl]; exact x rfl
end
section
variable {X : Cx}
/-- all and any of a tracked list of bools -/
def rAllS : List V → Hp → VK → Prop := fun vs H Q => ∃ (a : Addr) (bs : List Bool), vs = [.ref a] ∧ H a = some (.lst (bs.map V.bl)) ∧ Q (.bl (bs.all id)) H
theorem cr_allS (hc : X.calm = true) : CallR X (.builtin "all") rAllS := CallR.of (cr_all hc) fun vs H Q ⟨a, bs, e, g, q⟩ => ⟨a, bs, e, .inl (.inl g), q⟩
def rAnyS : List V → Hp → VK → Prop := fun vs H Q => ∃ (a : Addr) (bs : List Bool), vs = [.ref a] ∧ H a = some (.lst (bs.map V.bl)) ∧ Q (.bl (bs.any id)) H
theorem cr_anyS (hc : X.calm = true) : CallR X (.builtin "any") rAnyS := CallR.of (cr_any hc) fun vs H Q ⟨a, bs, e, g, q⟩ => ⟨a, bs, e, .inl (.inl g), q⟩
theorem all_id {α : Type} (f : α → Bool) (l : List α) : (l.map f).all id = l.all f := by rw [List.all_map]; rfl
theorem any_id {α : Type} (f : α → Bool) (l : List α) : (l.map f).any id = l.any f := by rw [List.any_map]; rfl
end
/-- a plain value -/
def Pl (v : V) : Prop := ∃ a, tnm v = some a
theorem Pl.int (i : Int) : Pl (.int i) := ⟨_, rfl⟩
theorem Pl.bl (i : Bool) : Pl (.bl i) := ⟨_, rfl⟩
theorem Pl.non : Pl .non := ⟨_, rfl⟩
theorem Pl.str (i : Str) : Pl (.str i) := ⟨_, rfl⟩
theorem Pl.cs {v : V} (h : Pl v) : v = .non ∨ (∃ b, v = .bl b) ∨ (∃ i, v = .int i) ∨ ∃ s, v = .str s := by
  obtain ⟨a, h⟩ := h
  cases v <;> first | exact .inl rfl | exact .inr (.inl ⟨_, rfl⟩) | exact .inr (.inr (.inl ⟨_, rfl⟩)) | exact .inr (.inr (.inr ⟨_, rfl⟩)) | cases h
theorem kb11 : kitB "NoneType" "tuple" = some false := by decide +kernel
theorem kb12 : kitB "bool" "tuple" = some false := by decide +kernel
theorem kb13 : kitB "int" "tuple" = some false := by decide +kernel
theorem kb14 : kitB "str" "tuple" = some false := by decide +kernel
theorem kb15 : kitB "list" "tuple" = some false := by decide +kernel
theorem kb16 : kitB "NoneType" "str" = some false := by decide +kernel
theorem kb17 : kitB "bool" "str" = some false := by decide +kernel
theorem kb18 : kitB "int" "str" = some false := by decide +kernel
theorem kb19 : kitB "list" "str" = some false := by decide +kernel
theorem kb20 : kitB "tuple" "str" = some false := by decide +kernel
theorem kb21 : kitB "bool" "list" = some false := by decide +kernel
theorem kb22 : kitB "int" "list" = some false := by decide +kernel
theorem kb23 : kitB "str" "list" = some false := by decide +kernel
theorem kb24 : kitB "tuple" "list" = some false := by decide +kernel
theorem kb25 : kitB "list" "int" = some false := by decide +kernel
theorem kb26 : kitB "tuple" "int" = some false := by decide +kernel
theorem kb27 : kitB "list" "bool" = some false := by decide +kernel
theorem kb28 : kitB "tuple" "bool" = some false := by decide +kernel
theorem kb29 : kitB "NoneType" "bool" = some false := by decide +kernel
theorem kb30 : kitB "str" "bool" = some false := by decide +kernel
theorem if_true_of {c : Bool} {A B : Prop} (hc : c = true) (h : A) : if c = true then A else B := by
  rw [if_pos hc]
  exact h
theorem if_false_of {c : Bool} {A B : Prop} (hc : c = false) (h : B) : if c = true then A else B := by
  rw [hc, if_neg Bool.false_ne_true]
  exact h
/-- cuts behind more statements -/
theorem seq_cut2 {s1 s2 R : TS} {D : Ends} {σ : L2.St} {H : Hp} (I : L2.St → Hp → Prop) (h2 : ∀ σ H, I σ H → R D σ H) (h1 : ∀ C : L2.St → Hp → Prop, (∀ σ H, I σ H → C σ H) → tSeq s1 s2 { D with nx := C } σ H) : tSeq s1 (tSeq s2 R) D σ H := h1 _ h2
theorem seq_cut3 {s1 s2 s3 R : TS} {D : Ends} {σ : L2.St} {H : Hp} (I : L2.St → Hp → Prop) (h2 : ∀ σ H, I σ H → R D σ H) (h1 : ∀ C : L2.St → Hp → Prop, (∀ σ H, I σ H → C σ H) → tSeq s1 (tSeq s2 s3) { D with nx := C } σ H) : tSeq s1 (tSeq s2 (tSeq s3 R)) D σ H := h1 _ h2
theorem seq_cut4 {s1 s2 s3 s4 R : TS} {D : Ends} {σ : L2.St} {H : Hp} (I : L2.St → Hp → Prop) (h2 : ∀ σ H, I σ H → R D σ H) (h1 : ∀ C : L2.St → Hp → Prop, (∀ σ H, I σ H → C σ H) → tSeq s1 (tSeq s2 (tSeq s3 s4)) { D with nx := C } σ H) : tSeq s1 (tSeq s2 (tSeq s3 (tSeq s4 R))) D σ H := h1 _ h2
theorem seq_cut5 {s1 s2 s3 s4 s5 R : TS} {D : Ends} {σ : L2.St} {H : Hp} (I : L2.St → Hp → Prop) (h2 : ∀ σ H, I σ H → R D σ H) (h1 : ∀ C : L2.St → Hp → Prop, (∀ σ H, I σ H → C σ H) → tSeq s1 (tSeq s2 (tSeq s3 (tSeq s4 s5))) { D with nx := C } σ H) : tSeq s1 (tSeq s2 (tSeq s3 (tSeq s4 (tSeq s5 R)))) D σ H := h1 _ h2
section
variable {X : Cx}
/-- the walks within a comprehension, with the written part told apart from the context -/
theorem pi_tupK {K : PySem.W.Frag} {tg l : Expr} {tl : TE} (hl : PE X l tl) (e : X.K = K := by rfl) : PI X tg l (iTupS K tl) := by subst e; exact pi_tupS hl
theorem pi_listK {K : PySem.W.Frag} {tg l : Expr} {tl : TE} (hl : PE X l tl) (e : X.K = K := by rfl) : PI X tg l (iListS K tl) := by subst e; exact pi_listS hl
theorem pi_enumK {K : PySem.W.Frag} {e : Expr} {ta : TA} {p pos tpos : Pos} {elts : List Expr} {kk : Nat} (hg : Gl X "enumerate") (hm : X.mg "enumerate" = none) (ha : PA X [e] ta) (hK : X.K = K := by rfl) (hs : starEach [e] X.env = [(false, eval e X.env)] := by rfl) :
    PI X (.Tuple elts kk tpos) (.Call (.Name "enumerate" p) [e] [] pos) (iEnumL K ta) := by subst hK; exact pi_enumL hg hm ha hs
theorem pi_zipK {K : PySem.W.Frag} {e e2 : Expr} {ta : TA} {p pos tpos : Pos} {elts : List Expr} {kk : Nat} (hg : Gl X "zip") (hm : X.mg "zip" = none) (ha : PA X [e, e2] ta) (hK : X.K = K := by rfl) (hs : starEach [e, e2] X.env = (false, eval e X.env) :: starEach [e2] X.env := by rfl) (hpl : (backTo pos (starEach [e2] X.env)).any (·.1) = false := by rfl) :
    PI X (.Tuple elts kk tpos) (.Call (.Name "zip" p) [e, e2] [] pos) (iZipS K ta) := by subst hK; exact pi_zipS hg hm ha hs hpl
end
theorem All2.rev {α β : Type} {R : α → β → Prop} {xs : List α} {ys : List β} (h : All2 R xs ys) : All2 R xs.reverse ys.reverse := by
  induction h with
  | nil => exact .nil
  | cons r _ ih => rw [List.reverse_cons, List.reverse_cons]; exact ih.app (.cons r .nil)
section
variable {X : Cx}
theorem ix_tupK {K : PySem.W.Frag} (e : X.K = K := by rfl) : IxR X (rIxT K) := by subst e; exact ix_tup
theorem ix_listK {K : PySem.W.Frag} (a : Addr) (ns : List Int) (e : X.K = K := by rfl) : IxR X (rIxSc K a ns) := by subst e; exact ix_sc a ns
end
theorem ifN_T {p : Prop} {i : Decidable p} {a b : Prop} (h : p) (x : b) : if (!(@decide p i)) = true then a else b := by
  rw [decide_eq_true h]
  exact x
theorem ifN_F {p : Prop} {i : Decidable p} {a b : Prop} (h : ¬ p) (x : a) : if (!(@decide p i)) = true then a else b := by
  rw [decide_eq_false h]
  exact x

/-! ### list(reversed(list)) -/
section
variable {prog : Program} {w : World} {A : Around} {E : Value → Shared → Prop} {s : Shared}
theorem list_init_rev {R : Result → Shared → Prop} {it l : Addr} {items : Array Value} (hh : A.handled = none) (hit : s.heap.IsRevIter it l ((items.size : Int) - 1)) (hl : s.heap.IsList l items) (hne : l ≠ it) (hn : items.size ≤ sizeLine) (S : Addr) (hS : s.heap.get? S = some { cls := .type "list", data := .seq #[] })
    (hSi : S ≠ it) (hSl : S ≠ l)
    (hR : ∀ h' tk acc' c', (∀ b o, b ≠ S → b ≠ it → s.heap.get? b = some o → h'.get? b = some o) → h'.get? S = some { cls := .type "list", dict := none, data := .seq acc' c', slots := #[] } →
      ItemsOf (fun i v => items[items.size - 1 - i]? = some v) acc' items.size → R (.ok (.ret .none)) { s with heap := h', toks := tk }) :
    wpAny (model prog w) A.in1 (Builtin.«list.__init__» ⟨[.ref S, .ref it], []⟩)
      (fun fin s' => match fin with | .done f => R (.ok f) s' | .again c' => c'.quiet = true ∧ codeAny (model prog w) A c' R s') (fun e s' => R (.error e) s') s := by
  have W := (Walks.listRev (prog := prog) (w := w) (A := A.in1) hh it l hne items).toS
  have hSf : S ∉ [it, l] := by simp only [List.mem_cons, List.not_mem_nil, or_false, not_or]; exact ⟨hSi, hSl⟩
  show wpAny _ A.in1 (do let old ← Builtin.List.listItems (.ref S); Builtin.List.listUpdate (.ref S) (fun _ => #[]); letGo old.toList.reverse; Builtin.List.listExtendWith (.ref S) (.ref it) .none) _ _ s
  refine wpAny_bind ?_
  unfold Builtin.List.listItems
  refine wpAny_bind (wpAny_seqItems hS rfl (wpAny_pure ?_))
  show wpAny _ A.in1 (updateSeq S (fun _ => #[]) >>= fun _ => letGo (#[] : Array Value).toList.reverse >>= fun _ => Builtin.List.listExtendWith (.ref S) (.ref it) .none) _ _ s
  refine wpAny_bind (wpAny_updateSeq hS rfl ?_)
  have hS₂ := Heap.get?_update_self (Obj.mapSeq (fun _ => (#[] : Array Value))) hS rfl
  have oth : ∀ b o, b ≠ S → s.heap.get? b = some o → (s.heap.update S (Obj.mapSeq (fun _ => (#[] : Array Value)))).get? b = some o :=
    fun b o hb e => (Heap.get?_update_other _ _ (Ne.symm hb)).trans e
  refine wpAny_bind (wpAny_letGo ?_)
  have hit1 : (s.heap.update S (Obj.mapSeq (fun _ => (#[] : Array Value)))).IsRevIter it l ((items.size : Int) - 1) := hit.at fun o e => oth it o hSi.symm e
  have hl1 : (s.heap.update S (Obj.mapSeq (fun _ => (#[] : Array Value)))).IsList l items := hl.at fun o e => oth l o hSl.symm e
  have hT := Heap.IsRevIter.typeIs (s := { s with heap := s.heap.update S (Obj.mapSeq (fun _ => (#[] : Array Value))) }) hit1
  have h1 : Builtin.List.listSameRef (.ref S) (.ref it) = false := by simp [Builtin.List.listSameRef, hSi]
  unfold Builtin.List.listExtendWith
  refine wpAny_bind (wpAny_typeOf hT ?_)
  rw [if_neg (by rw [h1]; decide)]
  refine wpAny_bind (wpAny_pyIter_revIter (s := { s with heap := s.heap.update S (Obj.mapSeq (fun _ => (#[] : Array Value))) }) hit1 ?_)
  refine wpAny_bind (wpAny_holding ?_)
  unfold Builtin.List.listLengthHint
  refine wpAny_bind (wpAny_specialOf hT RT.nolen_lri ?_)
  show wpAny _ A.in1 (specialOf (Value.ref it) (Str.ofString "__length_hint__") >>= _) _ _ _
  refine wpAny_bind (wpAny_specialOf hT RT.hint_lri ?_)
  generalize hid : ("list_reverseiterator.__length_hint__" : String) = id0
  wp_delta
  rw [show splitId id0 = some ("list_reverseiterator", "__length_hint__") from by subst hid; decide +kernel]
  subst hid
  refine wpAny_bind (wpAny_isInstance (b := true) hT (by rw [isSubtype_type]; kernel_rfl) ?_)
  refine wpAny_pure ?_
  rw [if_neg (by decide)]
  have e0 : ((items.size : Nat) : Int) - 1 - ((0 : Nat) : Int) = (items.size : Int) - 1 := by omega
  refine wpAny_pure ⟨plainId_quiet F.plain_extend_loop _, codeAny_extend_loopS W hn _ hSf _ items.size 0 _ _ _ rfl (Nat.zero_le _) ⟨Nat.zero_le _, by rw [e0]; exact hit1, hl1⟩ hS₂ (ItemsOf.nil _) fun s' acc' c' hm hS' hacc => ?_⟩
  rw [Moved.eq_with hm]
  refine hR s'.heap s'.toks acc' c' (fun b o hb hb2 e => hm.heap b o (fun hmem => ?_) (oth b o hb e)) hS' hacc
  rcases List.mem_cons.mp hmem with e' | hmem
  · exact hb e'
  · exact hb2 (List.mem_singleton.mp hmem)
theorem call_list_rev {Q : Value → Shared → Prop} {it l : Addr} {items : Array Value} (hh : A.handled = none) (hit : s.heap.IsRevIter it l ((items.size : Int) - 1)) (hl : s.heap.IsList l items) (hne : l ≠ it) (hn : items.size ≤ sizeLine)
    (hQ : ∀ h' tk acc' c', (∀ b o, b ≠ it → s.heap.get? b = some o → h'.get? b = some o) →
      h'.get? s.heap.objs.size = some { cls := .type "list", dict := none, data := .seq acc' c', slots := #[] } → ItemsOf (fun i v => items[items.size - 1 - i]? = some v) acc' items.size → Q (.ref s.heap.objs.size) { s with heap := h', toks := tk }) :
    wpAny (model prog w) A (call (.type "list") [.ref it]) Q E s := by
  obtain ⟨oi, hoi, _⟩ := id hit
  obtain ⟨ol, hol, _⟩ := id hl
  have hSi : s.heap.objs.size ≠ it := Nat.ne_of_gt (Heap.lt_size hoi)
  have hSl : s.heap.objs.size ≠ l := Nat.ne_of_gt (Heap.lt_size hol)
  refine callType_codes (Q₁ := fun obj s₁ => obj = .ref s.heap.objs.size ∧ s₁ = { s with heap := s.heap.push { cls := .type "list", data := .seq #[] } }) F.called_list (F.typeCall_list_1 _) F.entry_list_init
    (code_list_new _ ⟨rfl, rfl⟩) fun obj s₁ h₁ => ?_
  obtain ⟨rfl, rfl⟩ := h₁
  have hS : (s.heap.push { cls := .type "list", data := .seq #[] }).get? s.heap.objs.size = some { cls := .type "list", data := .seq #[] } := Heap.get?_push_size _ rfl
  refine ⟨⟨_, hS, rfl⟩, F.args_list_init_2 _ _, list_init_rev (s := { s with heap := s.heap.push { cls := .type "list", data := .seq #[] } }) (A := A.in1) hh (hit.at fun o e => Heap.get?_push_of_some _ e) (hl.push _) hne hn _ hS hSi hSl fun h' tk acc' c' hk hS' hacc => ?_⟩
  exact ⟨rfl, hQ h' tk acc' c' (fun b o hb e => hk b o (Nat.ne_of_lt (Heap.lt_size e)) hb (Heap.get?_push_of_some _ e)) hS' hacc⟩
end
section
variable {X : Cx}
/-- list(reversed(x)), x a list: a new list -/
def tLstRev (te : TE) : TE := fun σ H Q => te σ H fun v H1 => ∃ (a : Addr) (xs : List V), v = .ref a ∧ H1 a = some (.lst xs) ∧ NewH H1 (.lst xs.reverse) fun q H' => Q (.ref q) H'
theorem pe_lstRev {e : Expr} {te : TE} {p p2 pos pos2 : Pos} (hc : X.calm = true) (hg : Gl X "list") (hm : X.mg "list" = none) (hg2 : Gl X "reversed") (hm2 : X.mg "reversed" = none) (he : PE X e te)
    (hs : starEach [e] X.env = (false, eval e X.env) :: starEach [] X.env := by rfl)
    (hs2 : starEach [.Call (.Name "reversed" p2) [e] [] pos2] X.env = (false, eval (.Call (.Name "reversed" p2) [e] [] pos2) X.env) :: starEach [] X.env := by rfl) :
    PE X (.Call (.Name "list" p) [.Call (.Name "reversed" p2) [e] [] pos2] [] pos) (tLstRev te) := by
  refine ⟨fun pins s σ H Q I h => ?_⟩
  refine Call_ (ld_blt I hg hm boot_list (PyProof.Rows.callWith_type1 (args_cons (Call_ (ld_blt I hg2 hm2 PyProof.Rows.boot_reversed (PyProof.Rows.callWith_type1 (args_cons (thn (he.run pins s σ H _ I h) fun u s1 ⟨v, H1, I1, r1, q1⟩ => args_nil ?_) hs) hs rfl))) hs2) hs2 rfl))
  obtain ⟨a, xs, ev, hq0, q0⟩ := q1
  have hq : SqL X.K H1 a xs := .inl (.inl hq0)
  have q := q0.go
  subst ev
  obtain rfl : u = Value.ref a := r1
  obtain ⟨its, rv, p', hz⟩ := I1.list hq
  refine call_reversed_list p'.isList (args_nil ?_)
  have k0 : ∀ b o, s1.heap.get? b = some o → (s1.heap.push (revObj a ((its.toArray.size : Int) - 1))).get? b = some o := fun b o e => Heap.get?_push_of_some _ e
  have I2 : Inv X pins σ H1 { s1 with heap := s1.heap.push (revObj a ((its.toArray.size : Int) - 1)) } := I1.kept (t' := s1.toks) k0
  have hfp := I1.fpOk (H' := H1) (b := s1.heap.objs.size) (Nat.le_refl _) (I1.hok.fresh (Nat.le_refl _))
  have hl := p'.isList
  obtain ⟨ol, hol, _⟩ := id hl
  have hne : a ≠ s1.heap.objs.size := Nat.ne_of_lt (Heap.lt_size hol)
  have hn : its.toArray.size ≤ sizeLine := by rw [List.size_toArray, ← rv.length]; exact hz
  refine call_list_rev (s := { s1 with heap := s1.heap.push (revObj a ((its.toArray.size : Int) - 1)) }) (I1.ok.hd hc) ⟨_, Heap.get?_push_size _ rfl, rfl, rfl⟩ (hl.push _) hne hn fun h' tk acc c' hk hS hi => ?_
  have I3 : Inv X pins σ (upd H1 (s1.heap.push (revObj a ((its.toArray.size : Int) - 1))).objs.size (.lst xs.reverse)) { s1 with heap := h', toks := tk } := I2.turnedNew (ch := [s1.heap.objs.size]) (fun b o hb e => hk b o (fun z => hb (by rw [z]; exact List.mem_singleton_self _)) e) (fun b hb => by rw [List.mem_singleton.mp hb]; exact hfp) (Nat.le_refl _)
    (show ObjOk X.prog X.w _ h' _ (.lst xs.reverse) from ⟨by rw [List.length_reverse]; exact hz, acc.toList, c', RT.vals_rev rv hi, by rw [Array.toArray_toList]; exact hS⟩)
  exact ⟨.ref _, _, I3, rfl, q _ (I2.hok.fresh (Nat.le_refl _))⟩
/-- tuple(reversed(x)), x a list: a new tuple -/
def tTupRevS (te : TE) : TE := fun σ H Q => te σ H fun v H1 => ∃ (a : Addr) (xs : List V), v = .ref a ∧ H1 a = some (.lst xs) ∧ NewH H1 (.tup xs.reverse) fun q H' => Q (.ref q) H'
theorem pe_tupRevS {e : Expr} {te : TE} {p p2 pos pos2 : Pos} (hc : X.calm = true) (hg : Gl X "tuple") (hm : X.mg "tuple" = none) (hg2 : Gl X "reversed") (hm2 : X.mg "reversed" = none) (he : PE X e te)
    (hs : starEach [e] X.env = (false, eval e X.env) :: starEach [] X.env := by rfl)
    (hs2 : starEach [.Call (.Name "reversed" p2) [e] [] pos2] X.env = (false, eval (.Call (.Name "reversed" p2) [e] [] pos2) X.env) :: starEach [] X.env := by rfl) :
    PE X (.Call (.Name "tuple" p) [.Call (.Name "reversed" p2) [e] [] pos2] [] pos) (tTupRevS te) := PE.of (RT.pe_tupRev hc hg hm hg2 hm2 (pe_mono he) hs hs2) fun σ H Q q => ⟨_, q, fun v H1 ⟨a, xs, e, g, n⟩ => ⟨a, xs, e, .inl (.inl g), n.go⟩⟩
end

section
variable {X : Cx}
/-- t + u of tracked tuples: one of them or a new one, in either case these items -/
def rCatTS : R2 := fun x y H Q => ∃ a b xs ys, x = .ref a ∧ y = .ref b ∧ H a = some (.tup xs) ∧ H b = some (.tup ys) ∧ xs.length + ys.length ≤ sizeLine ∧ ∀ p H', Same H H' → H' p = some (.tup (xs ++ ys)) → Q (.ref p) H'
theorem op_catTS : OpR X (binaryOp .Add) rCatTS := OpR.of op_catA fun x y H Q ⟨a, b, xs, ys, e1, e2, g1, g2, hz, q⟩ => ⟨a, b, xs, ys, e1, e2, .inl (.inl g1), .inl (.inl g2), hz, fun z => q b H (Same.refl _) (by rw [z]; exact g2), fun _ z => q a H (Same.refl _) (by rw [z, List.append_nil]; exact g1), fun _ _ p hp => q p _ (same_upd hp) upd_same⟩
/-- xs.insert(i, y) -/
def rInsert : V → List V → Hp → VK → Prop := fun x vs H Q => ∃ (l : Addr) (xs : List V) (i : Int) (y : V), x = .ref l ∧ vs = [.int i, y] ∧ H l = some (.lst xs) ∧ xs.length < sizeLine ∧ 0 ≤ i ∧ i < 2 ^ 63 ∧ Q .non (upd H l (.lst (xs.take i.toNat ++ [y] ++ xs.drop i.toNat)))
theorem mt_insertS : MtR X "list.insert" rInsert := mt_insert
/-- x in a tuple, at any depth -/
def rInTC {α : Type} [DecidableEq α] (R : Hp → V → α → Prop) : R2 := fun x y H Q => ∃ a l, R H x a ∧ TupV R H y l ∧ Q (.bl (decide (a ∈ l))) H
theorem op_inTC {α : Type} [DecidableEq α] {R : Hp → V → α → Prop} {f : α → PyData} {d : Nat} (hu : X.A.units + 65 < cLine) (c : Cod R f d) (hd : d < 64) : OpR X (compareOp .In) (rInTC R) := by
  intro pins s σ H x y v u Q I rx ry h
  obtain ⟨a, l, ha, hl, q⟩ := h
  have sd := c.shaped (Nat.le_of_lt hd) a
  have se := (cod_tup c).shaped hd l
  obtain ⟨as, r1⟩ := Dp.reads I (f a) x v (c.dp _ _ _ _ ha) rx
  obtain ⟨bs, r2⟩ := Dp.reads I (.tuple (l.map f)) y u ((cod_tup c).dp _ _ _ _ hl) ry
  exact SeqAt.in_tuple_reads r2 r1 (SeqAt.canLay_of_shaped se) (SeqAt.canLay_of_shaped sd) (room_in_shaped sd hu) ⟨.bl _, H, I, rfl, by rw [c.anyEq]; exact q⟩
end


def topS (i : Nat) : Stmt := PySem.Challenge.pw_stillroom_k25_finding_and_following.main.body.getD i (.Pass ⟨0, 0, 0, 0⟩)
abbrev s_codes : Stmt := topS 1
abbrev s_spend : Stmt := topS 3
abbrev s_find : Stmt := topS 6
abbrev s_get : Stmt := topS 7
abbrev s_get_named : Stmt := topS 8
abbrev s_follow : Stmt := topS 9
abbrev s__is_reference : Stmt := topS 10
abbrev s__law_cell : Stmt := topS 12
abbrev s__law_twice : Stmt := topS 13
abbrev s__law_value : Stmt := topS 15
abbrev s__law_data : Stmt := topS 16
abbrev s__law_key : Stmt := topS 17
abbrev s__law_book : Stmt := topS 18
abbrev s__law_chain : Stmt := topS 19
abbrev s__law_find : Stmt := topS 20
abbrev s__law_follow : Stmt := topS 21
abbrev s_law : Stmt := topS 22
theorem sc_codes : FnScope ["text", "character"] ["text"] (defScope s_codes) := ⟨rfl, rfl, rfl, by decide +kernel, rfl, by decide +kernel, by decide +kernel⟩
theorem sc_spend : FnScope ["left", "cost"] ["left", "cost"] (defScope s_spend) := ⟨rfl, rfl, rfl, by decide +kernel, rfl, by decide +kernel, by decide +kernel⟩
theorem sc_find : FnScope ["book", "number", "objects", "low", "high", "middle"] ["book", "number"] (defScope s_find) := ⟨rfl, rfl, rfl, by decide +kernel, rfl, by decide +kernel, by decide +kernel⟩
theorem sc_get : FnScope ["value", "key"] ["value", "key"] (defScope s_get) := ⟨rfl, rfl, rfl, by decide +kernel, rfl, by decide +kernel, by decide +kernel⟩
theorem sc_get_named : FnScope ["value", "wanted", "name", "part"] ["value", "wanted"] (defScope s_get_named) := ⟨rfl, rfl, rfl, by decide +kernel, rfl, by decide +kernel, by decide +kernel⟩
theorem sc_follow : FnScope ["book", "value", "left", "_", "enough"] ["book", "value", "left"] (defScope s_follow) := ⟨rfl, rfl, rfl, by decide +kernel, rfl, by decide +kernel, by decide +kernel⟩
theorem sc__is_reference : FnScope ["value"] ["value"] (defScope s__is_reference) := ⟨rfl, rfl, rfl, by decide +kernel, rfl, by decide +kernel, by decide +kernel⟩
theorem sc__law_cell : FnScope ["script", "k"] ["script", "k"] (defScope s__law_cell) := ⟨rfl, rfl, rfl, by decide +kernel, rfl, by decide +kernel, by decide +kernel⟩
theorem sc__law_twice : FnScope ["cell", "k", "x"] ["cell", "k"] (defScope s__law_twice) := ⟨rfl, rfl, rfl, by decide +kernel, rfl, by decide +kernel, by decide +kernel⟩
theorem sc__law_value : FnScope ["cell", "k", "deep", "draw", "how", "left", "j", "pairs", "key", "pair"] ["cell", "k", "deep"] (defScope s__law_value) := ⟨rfl, rfl, rfl, by decide +kernel, rfl, by decide +kernel, by decide +kernel⟩
theorem sc__law_data : FnScope ["cell", "k", "left", "signs", "data", "j", "draw"] ["cell", "k", "left"] (defScope s__law_data) := ⟨rfl, rfl, rfl, by decide +kernel, rfl, by decide +kernel, by decide +kernel⟩
theorem sc__law_key : FnScope ["cell", "k", "draw", "names", "sign"] ["cell", "k"] (defScope s__law_key) := ⟨rfl, rfl, rfl, by decide +kernel, rfl, by decide +kernel, by decide +kernel⟩
theorem sc__law_book : FnScope ["script", "at", "cell", "numbers", "number", "k", "objects", "pages", "sign", "least", "value", "pair", "root"] ["script", "at"] (defScope s__law_book) := ⟨rfl, rfl, rfl, by decide +kernel, rfl, by decide +kernel, by decide +kernel⟩
theorem sc__law_chain : FnScope ["cell", "count", "objects", "k", "last"] ["cell"] (defScope s__law_chain) := ⟨rfl, rfl, rfl, by decide +kernel, rfl, by decide +kernel, by decide +kernel⟩
theorem sc__law_find : FnScope ["book", "number", "one", "value"] ["book", "number"] (defScope s__law_find) := ⟨rfl, rfl, rfl, by decide +kernel, rfl, by decide +kernel, by decide +kernel⟩
theorem sc__law_follow : FnScope ["book", "value", "left", "turn"] ["book", "value", "left"] (defScope s__law_follow) := ⟨rfl, rfl, rfl, by decide +kernel, rfl, by decide +kernel, by decide +kernel⟩
theorem sc_law : FnScope ["script", "cell", "book", "k", "number", "value", "left", "found", "name", "due", "key", "inner", "sign"] ["script"] (defScope s_law) := ⟨rfl, rfl, rfl, by decide +kernel, rfl, by decide +kernel, by decide +kernel⟩
/-- what the top has left, as far as the walk asks of it -/
structure Txt (K : PySem.W.Frag) (mg : Str → Option Value) where
  f_codes : Addr
  fd_codes : FuncData
  F_codes : Fun K "codes" "codes" s_codes f_codes fd_codes
  b_codes : Binds K fd_codes ["text"] []
  g_codes : mg "codes" = some (.ref f_codes)
  f_spend : Addr
  fd_spend : FuncData
  F_spend : Fun K "spend" "spend" s_spend f_spend fd_spend
  b_spend : Binds K fd_spend ["left", "cost"] []
  g_spend : mg "spend" = some (.ref f_spend)
  f_find : Addr
  fd_find : FuncData
  F_find : Fun K "find" "find" s_find f_find fd_find
  b_find : Binds K fd_find ["book", "number"] []
  g_find : mg "find" = some (.ref f_find)
  f_get : Addr
  fd_get : FuncData
  F_get : Fun K "get" "get" s_get f_get fd_get
  b_get : Binds K fd_get ["value", "key"] []
  g_get : mg "get" = some (.ref f_get)
  f_get_named : Addr
  fd_get_named : FuncData
  F_get_named : Fun K "get_named" "get_named" s_get_named f_get_named fd_get_named
  b_get_named : Binds K fd_get_named ["value", "wanted"] []
  g_get_named : mg "get_named" = some (.ref f_get_named)
  f_follow : Addr
  fd_follow : FuncData
  F_follow : Fun K "follow" "follow" s_follow f_follow fd_follow
  b_follow : Binds K fd_follow ["book", "value", "left"] []
  g_follow : mg "follow" = some (.ref f_follow)
  f__is_reference : Addr
  fd__is_reference : FuncData
  F__is_reference : Fun K "_is_reference" "_is_reference" s__is_reference f__is_reference fd__is_reference
  b__is_reference : Binds K fd__is_reference ["value"] []
  g__is_reference : mg "_is_reference" = some (.ref f__is_reference)
  f__law_cell : Addr
  fd__law_cell : FuncData
  F__law_cell : Fun K "_law_cell" "_law_cell" s__law_cell f__law_cell fd__law_cell
  b__law_cell : Binds K fd__law_cell ["script", "k"] []
  g__law_cell : mg "_law_cell" = some (.ref f__law_cell)
  f__law_twice : Addr
  fd__law_twice : FuncData
  F__law_twice : Fun K "_law_twice" "_law_twice" s__law_twice f__law_twice fd__law_twice
  b__law_twice : Binds K fd__law_twice ["cell", "k"] []
  g__law_twice : mg "_law_twice" = some (.ref f__law_twice)
  f__law_value : Addr
  fd__law_value : FuncData
  F__law_value : Fun K "_law_value" "_law_value" s__law_value f__law_value fd__law_value
  b__law_value : Binds K fd__law_value ["cell", "k", "deep"] []
  g__law_value : mg "_law_value" = some (.ref f__law_value)
  f__law_data : Addr
  fd__law_data : FuncData
  F__law_data : Fun K "_law_data" "_law_data" s__law_data f__law_data fd__law_data
  b__law_data : Binds K fd__law_data ["cell", "k", "left"] []
  g__law_data : mg "_law_data" = some (.ref f__law_data)
  f__law_key : Addr
  fd__law_key : FuncData
  F__law_key : Fun K "_law_key" "_law_key" s__law_key f__law_key fd__law_key
  b__law_key : Binds K fd__law_key ["cell", "k"] []
  g__law_key : mg "_law_key" = some (.ref f__law_key)
  f__law_book : Addr
  fd__law_book : FuncData
  F__law_book : Fun K "_law_book" "_law_book" s__law_book f__law_book fd__law_book
  b__law_book : Binds K fd__law_book ["script", "at"] []
  g__law_book : mg "_law_book" = some (.ref f__law_book)
  f__law_chain : Addr
  fd__law_chain : FuncData
  F__law_chain : Fun K "_law_chain" "_law_chain" s__law_chain f__law_chain fd__law_chain
  b__law_chain : Binds K fd__law_chain ["cell"] []
  g__law_chain : mg "_law_chain" = some (.ref f__law_chain)
  f__law_find : Addr
  fd__law_find : FuncData
  F__law_find : Fun K "_law_find" "_law_find" s__law_find f__law_find fd__law_find
  b__law_find : Binds K fd__law_find ["book", "number"] []
  g__law_find : mg "_law_find" = some (.ref f__law_find)
  f__law_follow : Addr
  fd__law_follow : FuncData
  F__law_follow : Fun K "_law_follow" "_law_follow" s__law_follow f__law_follow fd__law_follow
  b__law_follow : Binds K fd__law_follow ["book", "value", "left"] []
  g__law_follow : mg "_law_follow" = some (.ref f__law_follow)
  f_law : Addr
  fd_law : FuncData
  F_law : Fun K "law" "law" s_law f_law fd_law
  b_law : Binds K fd_law ["script"] []
  g_law : mg "law" = some (.ref f_law)
  t_MOST_STEPS : Tok
  c_MOST_STEPS : mg "MOST_STEPS" = some (.int 64 t_MOST_STEPS)
  z_abs : mg "abs" = none
  z_int : mg "int" = none
  z_isinstance : mg "isinstance" = none
  z_len : mg "len" = none
  z_max : mg "max" = none
  z_ord : mg "ord" = none
  z_range : mg "range" = none
  z_reversed : mg "reversed" = none
  z_tuple : mg "tuple" = none
open Lean in
local macro_rules
  | `(tactic| walk_at $s:str) => do
    let ws := (s.getString.splitOn " ").filter (· ≠ "")
    let ids (fs : List String) : Array (TSyntax `term) := (fs.map fun f => (⟨mkIdent f.toName⟩ : TSyntax `term)).toArray
    match ws with
    | "vc" :: fs => do
      let xs := ids fs
      `(tactic| simp (config := {maxSteps := 2000000}) only [tSeq, tAsg, tOp, rI, rI0, rU, tUn, tCB, tCons, tNil, tVar, tC, gName, gSub, rSetL, tRet, tRetN, tIfS, tNext, tTest, tB, tDrop, tIf, tNot, tAnd, tOr, tAndV, tOrV, tNotV, tAug, ipI, tCall, tCmp, t2I, tBreak, tCont, tLst, tTup, tBM, tBM0, rAppend, tyV_upd, rLenH, rLenT, rListH, rIxH, rIxTH, rIxS, rEqIL, rNeIL, rEqTS, rSlH, rRep, rCat, rExtend, tSl, tPart, tNoPart, rIxT, gTup, gCons, gNil, atI_c0, atI_c1, atI_c2, atI_c3, dS_int, dS_bl, isS_int, isS_bl, eqv_ii, eqv_bb, eqvAll_nil, eqvAll_cons, List.all_cons, List.all_nil, Bool.and_true, Bool.true_and, rIsiB, tnm_int, tnm_bl, tnm_str, tnm_non, tnm_ref, kb1, kb2, kb3, kb4, kb5, kb6, kb7, kb8, kb9, kb10, rEq, rNe, scal_ii, scal_ss, scal_bb, scal_nn, scal_in, scal_ni, tFor_eq, tLc_eq, iRng1, iRng2, iList, iTup, iZip, iStr, iRng3, tChain, tYes, wipe, tCallL, Int.sub_zero, Int.toNat_natCast, Int.natCast_add, cxOf, L2.start, List.map_cons, List.map_nil, List.length_cons, List.length_nil, List.reduceReplicate, List.cons_append, List.nil_append, List.append_nil, List.set_cons_zero, List.set_cons_succ, List.getElem?_cons_zero, List.getElem?_cons_succ, upd_same, upd_upd, HO.lst.injEq, HO.tup.injEq, nil_sz, Option.some.injEq, V.int.injEq, V.bl.injEq, V.ref.injEq, V.str.injEq, V.ty.injEq, exists_eq_left', exists_eq_left, exists_eq', exists_eq, Int.cast_ofNat_Int, Int.reduceEq, Int.reduceMul, Int.reduceAdd, Int.reduceSub, Int.natCast_zero, Int.mul_zero, Int.add_zero, exists_and_left, exists_and_right, List.cons.injEq, and_true, true_and, and_assoc, reduceCtorEq, false_and, and_false, exists_false, exists_const, or_false, false_or, Nat.reduceAdd, Nat.reduceSub, Int.reduceLT, Int.reduceLE, Int.reduceNeg, Int.reducePow, Int.reduceToNat, ite_true, ite_false, Bool.false_eq_true, Bool.not_true, Bool.not_false, decide_true, decide_false, if_true, if_false, tTupS, tLstS, rListS, rListT, rTupleL, rCatL, rRepS, rSlS, map_int_inj, sz1, sz2, sz3, sz4, sz5, sz6, sz8, CMul, Nat.reduceLT, Nat.reduceLeDiff, Nat.reducePow, or_true, true_or, List.length_map, List.length_append, List.length_replicate, decide_eq_true_eq, gt_iff_lt, ge_iff_le, Int.reduceGT, Int.reduceGE, ne_eq, not_true_eq_false, not_false_eq_true, Int.reduceToNat, gTupS, gLstS, iListS, iTupS, tML, tML0, rPop, mx_eq, mn_eq, Int.natCast_inj, bitAnd_m1, bitAnd_m2, bitAnd_m3, bitAnd_m4, bitAnd_m5, bitAnd_m6, bitAnd_m7, bitAnd_m8, bitAnd_m16, CDiv, toNat_mul, map_snoc, map_cat, map_setV, List.length_set, absI_eq, Bool.and_self, tAugS, rGetL, iZipS, cutV_take1, cutV_drop1, tPar, rLenSc, rIxSc, iRng2, rSumS, rSlTS, cutV_take3, rEqC, rNeC, tTrL, iEnumL, rInI, rIndexI, tDGet, tDIn, tDNotIn, sDPut, iEnumS, tDc_eq, eq_self, rEqTK, rNeSK, rIsiTK, iRevS, iZipTS, rInLC, rNotInLC, rNotInTC, rInTC, rRepL, tJoinC, tDGet2, tDNewTS, tDSetdT, tCallS, rIsB, rNotB, rIsE1, rAllS, rAnyS, tLstRev, tTupRevS, rCatTS, rInsert, kb11, kb12, kb13, kb14, kb15, kb16, kb17, kb18, kb19, kb20, kb21, kb22, kb23, kb24, kb25, kb26, kb27, kb28, kb29, kb30, $[$xs:term],*])
    | "w" :: fs => do
      let xs := ids fs
      let ys := (fs.map fun f => (⟨mkIdent f.toName⟩ : TSyntax `term)).toArray
      `(tactic| simp (config := {maxSteps := 2000000}) only [tSeq, tAsg, tOp, rI, rI0, rU, tUn, tCB, tCons, tNil, tVar, tC, gName, gSub, rSetL, tRet, tRetN, tIfS, tNext, tTest, tB, tDrop, tIf, tNot, tAnd, tOr, tAndV, tOrV, tNotV, tAug, ipI, tCall, tCmp, t2I, tBreak, tCont, tLst, tTup, tBM, tBM0, rAppend, tyV_upd, rLenH, rLenT, rListH, rIxH, rIxTH, rIxS, rEqIL, rNeIL, rEqTS, rSlH, rRep, rCat, rExtend, tSl, tPart, tNoPart, rIxT, gTup, gCons, gNil, atI_c0, atI_c1, atI_c2, atI_c3, dS_int, dS_bl, isS_int, isS_bl, eqv_ii, eqv_bb, eqvAll_nil, eqvAll_cons, List.all_cons, List.all_nil, Bool.and_true, Bool.true_and, rIsiB, tnm_int, tnm_bl, tnm_str, tnm_non, tnm_ref, kb1, kb2, kb3, kb4, kb5, kb6, kb7, kb8, kb9, kb10, rEq, rNe, scal_ii, scal_ss, scal_bb, scal_nn, scal_in, scal_ni, tFor_eq, tLc_eq, iRng1, iRng2, iList, iTup, iZip, iStr, iRng3, tChain, tYes, wipe, tCallL, Int.sub_zero, Int.toNat_natCast, Int.natCast_add, cxOf, L2.start, List.map_cons, List.map_nil, List.length_cons, List.length_nil, List.reduceReplicate, List.cons_append, List.nil_append, List.append_nil, List.set_cons_zero, List.set_cons_succ, List.getElem?_cons_zero, List.getElem?_cons_succ, upd_same, upd_upd, HO.lst.injEq, HO.tup.injEq, nil_sz, Option.some.injEq, V.int.injEq, V.bl.injEq, V.ref.injEq, V.str.injEq, V.ty.injEq, exists_eq_left', exists_eq_left, exists_eq', exists_eq, Int.cast_ofNat_Int, Int.reduceEq, Int.reduceMul, Int.reduceAdd, Int.reduceSub, Int.natCast_zero, Int.mul_zero, Int.add_zero, exists_and_left, exists_and_right, List.cons.injEq, and_true, true_and, and_assoc, reduceCtorEq, false_and, and_false, exists_false, exists_const, or_false, false_or, Nat.reduceAdd, Nat.reduceSub, Int.reduceLT, Int.reduceLE, Int.reduceNeg, Int.reducePow, Int.reduceToNat, ite_true, ite_false, Bool.false_eq_true, Bool.not_true, Bool.not_false, decide_true, decide_false, if_true, if_false, tTupS, tLstS, rListS, rListT, rTupleL, rCatL, rRepS, rSlS, map_int_inj, sz1, sz2, sz3, sz4, sz5, sz6, sz8, CMul, Nat.reduceLT, Nat.reduceLeDiff, Nat.reducePow, or_true, true_or, List.length_map, List.length_append, List.length_replicate, decide_eq_true_eq, gt_iff_lt, ge_iff_le, Int.reduceGT, Int.reduceGE, ne_eq, not_true_eq_false, not_false_eq_true, Int.reduceToNat, gTupS, gLstS, iListS, iTupS, tML, tML0, rPop, mx_eq, mn_eq, Int.natCast_inj, bitAnd_m1, bitAnd_m2, bitAnd_m3, bitAnd_m4, bitAnd_m5, bitAnd_m6, bitAnd_m7, bitAnd_m8, bitAnd_m16, CDiv, toNat_mul, map_snoc, map_cat, map_setV, List.length_set, absI_eq, Bool.and_self, tAugS, rGetL, iZipS, cutV_take1, cutV_drop1, tPar, rLenSc, rIxSc, iRng2, rSumS, rSlTS, cutV_take3, rEqC, rNeC, tTrL, iEnumL, rInI, rIndexI, tDGet, tDIn, tDNotIn, sDPut, iEnumS, tDc_eq, eq_self, rEqTK, rNeSK, rIsiTK, iRevS, iZipTS, rInLC, rNotInLC, rNotInTC, rInTC, rRepL, tJoinC, tDGet2, tDNewTS, tDSetdT, tCallS, rIsB, rNotB, rIsE1, rAllS, rAnyS, tLstRev, tTupRevS, rCatTS, rInsert, kb11, kb12, kb13, kb14, kb15, kb16, kb17, kb18, kb19, kb20, kb21, kb22, kb23, kb24, kb25, kb26, kb27, kb28, kb29, kb30, $[$xs:term],*, $[(tyL_eq $ys)],*, $[(sqL_eq $ys)],*])
    | "g" :: fs => do
      let xs := ids fs
      `(tactic| simp only [gTupS, gCons, gNil, gName, HO.tup.injEq, Option.some.injEq, exists_eq_left', exists_eq_left, exists_eq', exists_eq, V.ref.injEq, List.cons.injEq, and_assoc, exists_and_left, exists_and_right, true_and, and_true, List.length_cons, List.length_nil, Nat.reduceAdd, List.set_cons_zero, List.set_cons_succ, $[$xs:term],*])
    | "c" :: sn :: gs => do
      let s1 := mkIdent sn.toName
      let mut out ← `(tactic| skip)
      for g in gs do
        let i := mkIdent g.toName
        out ← `(tactic| ($out; replace $i := $s1 _ _ $i))
      return out
    | "n" :: sn :: suf :: gs => do
      let s1 := mkIdent sn.toName
      let mut out ← `(tactic| skip)
      for g in gs do
        let i := mkIdent g.toName
        let j := mkIdent (g ++ suf).toName
        out ← `(tactic| ($out; have $j := $s1 _ _ $i))
      return out
    | "b" :: bn :: suf :: gs => do
      let s1 := mkIdent bn.toName
      let mut out ← `(tactic| skip)
      for g in gs do
        let i := mkIdent g.toName
        let j := mkIdent (g ++ suf).toName
        let n := mkIdent ("ne_" ++ g).toName
        out ← `(tactic| ($out; have $j := $s1 _ _ $n $i))
      return out
    | _ => Macro.throwUnsupported

section
variable {P : Program} {w : World} {K : PySem.W.Frag} {mg : Str → Option Value} {base : Heap}

theorem foldl_take {α β : Type} (f : β → α → β) (s : β) {l : List α} {i : Nat} {x : α} (h : l[i]? = some x) : (l.take (i + 1)).foldl f s = f ((l.take i).foldl f s) x := by
  rw [List.take_add_one, h, List.foldl_append]
  simp only [Option.toList_some, List.foldl_cons, List.foldl_nil]
theorem take_succ {α : Type} {l : List α} {i : Nat} {x : α} (h : l[i]? = some x) : l.take (i + 1) = l.take i ++ [x] := by
  rw [List.take_add_one, h]
  rfl
theorem take_map_succ {α β : Type} (f : α → β) {l : List α} {i : Nat} {x : α} (h : l[i]? = some x) : (l.map f).take (i + 1) = (l.map f).take i ++ [f x] := take_succ (by rw [List.getElem?_map, h]; rfl)
theorem take_lt {α : Type} (l : List α) (i : Nat) {n : Nat} (h : l.length < n) : (l.take i).length < n := Nat.lt_of_le_of_lt (by rw [List.length_take]; exact Nat.min_le_right _ _) h
def YTup (ns : List Int) : Nat → Hp → V → Hp → Prop := fun i H v H' => H' = H ∧ ∃ b, ns[i]? = some b ∧ v = .int b
theorem walkTI {K : PySem.W.Frag} {a : Addr} {ns : List Int} : Walk (Itt K a) ns.length (fun H => H a = some (.tup (List.map V.int ns))) (YTup ns) := by
  have w := walkT (K := K) (a := a) (xs := List.map V.int ns)
  rw [List.length_map] at w
  refine w.mono (fun _ h => h) fun i H x H' _ _ y => ⟨y.1, ?_⟩
  have h := y.2
  rw [List.getElem?_map] at h
  obtain ⟨b, h1, rfl⟩ := Option.map_eq_some_iff.mp h
  exact ⟨b, h1, rfl⟩
theorem foldl_len {α : Type} {f : List Int → α → List Int} (h : ∀ p c, (f p c).length = p.length) : ∀ (l : List α) (p : List Int), (l.foldl f p).length = p.length
  | [], _ => rfl
  | c :: r, p => by rw [List.foldl_cons, foldl_len h r, h]
theorem ix_in {r c w h : Nat} (hr : r < h) (hc : c < w) : r * w + c < w * h := by
  have h1 : r * w + w ≤ h * w := by rw [← Nat.succ_mul]; exact Nat.mul_le_mul_right w hr
  rw [Nat.mul_comm w h]
  omega
theorem map_set (l : List Int) (i : Nat) (v : Int) : (List.map V.int l).set i (.int v) = List.map V.int (l.set i v) := by rw [List.map_set]
theorem div_in {a d : Int} {n : Nat} (h0 : 0 ≤ a) (h1 : a < d) (hn : 1 ≤ n) : 0 ≤ a * n / d ∧ a * n / d < n := by
  refine ⟨Int.ediv_nonneg (Int.mul_nonneg h0 (by omega)) (by omega), Int.ediv_lt_of_lt_mul (by omega) ?_⟩
  rw [Int.mul_comm (n : Int) d]
  exact Int.mul_lt_mul_of_pos_right h1 (by omega)
theorem foldl_ext' {α β : Type} {f g : α → β → α} {l : List β} : ∀ {a : α}, (∀ a, ∀ b ∈ l, f a b = g a b) → l.foldl f a = l.foldl g a := by
  induction l with
  | nil => exact fun _ => rfl
  | cons x r ih => exact fun {a} h => by rw [List.foldl_cons, List.foldl_cons, h a x List.mem_cons_self]; exact ih fun a b hb => h a b (List.mem_cons_of_mem _ hb)
theorem gN_ge {src : List Int} (h : ∀ v ∈ src, -1 ≤ v) (i : Nat) : -1 ≤ gN src i := by
  unfold gN
  rw [List.getD_eq_getElem?_getD]
  cases e : src[i]? with
  | none => decide
  | some b => exact h b (List.mem_of_getElem? e)
theorem cnt_lt {n : Nat} (h : n ≤ 2000000) : n < sizeLine := Nat.lt_of_le_of_lt h (by decide)
theorem cnt_le {n : Nat} (h : n ≤ 2000000) : n ≤ sizeLine := Nat.le_of_lt (cnt_lt h)
theorem cnt_leL {n : Nat} (h : n ≤ 10000000) : n ≤ sizeLine := Nat.le_trans h (by decide)

/-! ### values: data of tuples, told by the library's data -/
mutual
inductive TV (H : Hp) : V → PyData → Prop
  | non : TV H .non .none
  | int (i : Int) : TV H (.int i) (.int i)
  | str (x : Str) : TV H (.str x) (.str x)
  | tup {a : Addr} {xs : List V} {ds : List PyData} : H a = some (.tup xs) → TVs H xs ds → TV H (.ref a) (.tuple ds)
inductive TVs (H : Hp) : List V → List PyData → Prop
  | nil : TVs H [] []
  | cons {v : V} {vs : List V} {d : PyData} {ds : List PyData} : TV H v d → TVs H vs ds → TVs H (v :: vs) (d :: ds)
end
mutual
theorem TV.mono {H H' : Hp} (s : Same H H') {v : V} {d : PyData} : TV H v d → TV H' v d
  | .non => .non
  | .int i => .int i
  | .str x => .str x
  | .tup g h => .tup (s _ _ g) (TVs.mono s h)
theorem TVs.mono {H H' : Hp} (s : Same H H') {vs : List V} {ds : List PyData} : TVs H vs ds → TVs H' vs ds
  | .nil => .nil
  | .cons h t => .cons (TV.mono s h) (TVs.mono s t)
end
mutual
theorem TV.but {H H' : Hp} {l : Addr} {ys : List V} (bt : But l H H') (g : H l = some (.lst ys)) {v : V} {d : PyData} : TV H v d → TV H' v d
  | .non => .non
  | .int i => .int i
  | .str x => .str x
  | .tup k h => .tup (tup_but bt k g) (TVs.but bt g h)
theorem TVs.but {H H' : Hp} {l : Addr} {ys : List V} (bt : But l H H') (g : H l = some (.lst ys)) {vs : List V} {ds : List PyData} : TVs H vs ds → TVs H' vs ds
  | .nil => .nil
  | .cons h t => .cons (TV.but bt g h) (TVs.but bt g t)
end
mutual
theorem TV.dp {K : PySem.W.Frag} {H : Hp} {v : V} {d : PyData} : TV H v d → Dp K H v d
  | .non => .non
  | .int i => .int i
  | .str x => .str x
  | .tup g h => .tup (.inl (.inl g)) (TVs.dp h)
theorem TVs.dp {K : PySem.W.Frag} {H : Hp} {vs : List V} {ds : List PyData} : TVs H vs ds → DpAll K H vs ds
  | .nil => .nil
  | .cons h t => .cons (TV.dp h) (TVs.dp t)
end
theorem TV.upd {H : Hp} {l : Addr} {ys : List V} {o : HO} (g : H l = some (.lst ys)) {v : V} {d : PyData} (h : TV H v d) : TV (upd H l o) v d := h.but ((But.refl l H).put) g
theorem TVs.all {H : Hp} {vs : List V} {ds : List PyData} : TVs H vs ds → All2 (TV H) vs ds
  | .nil => .nil
  | .cons h t => .cons h (TVs.all t)
theorem TVs.of {H : Hp} {vs : List V} {ds : List PyData} (h : All2 (TV H) vs ds) : TVs H vs ds := by
  induction h with
  | nil => exact .nil
  | cons r _ ih => exact .cons r ih
theorem TVs.ints {H : Hp} : ∀ ns : List Int, TVs H (ns.map V.int) (ns.map PyData.int)
  | [] => .nil
  | n :: r => .cons (.int n) (TVs.ints r)
theorem TVs.of_ints {H : Hp} : ∀ {vs : List V} {ns : List Int}, TVs H vs (ns.map PyData.int) → vs = ns.map V.int
  | _, [], h => by cases h; rfl
  | _, n :: r, h => by
    rw [List.map_cons] at h
    cases h with
    | cons a b =>
      cases a
      rw [TVs.of_ints b]
      rfl
/-- a data value that is laid out and not too deep -/
def Sh (n : Nat) (d : PyData) : Prop := PyData.canLay0 d = true ∧ PyData.depth d ≤ n
theorem Sh.shaped {n : Nat} {d : PyData} (h : Sh n d) (hn : n ≤ 64) : SeqAt.shaped d = true := by
  unfold SeqAt.shaped
  rw [h.1, decide_eq_true (Nat.le_trans h.2 hn)]
  rfl
theorem Sh.mono {n m : Nat} {d : PyData} (h : Sh n d) (hm : n ≤ m) : Sh m d := ⟨h.1, Nat.le_trans h.2 hm⟩
theorem Sh.refl {n : Nat} {d : PyData} (h : Sh n d) : PyData.eqv d d = true := PySem.SeqAt.eqv_refl d h.1
theorem sh_non (n : Nat) : Sh n .none := ⟨rfl, Nat.zero_le _⟩
theorem sh_int (n : Nat) (i : Int) : Sh n (.int i) := ⟨rfl, by rw [PyData.depth]; exact Nat.zero_le _⟩
theorem sh_str (n : Nat) {x : Str} (h : PyData.strOk x = true) : Sh n (.str x) := ⟨by rw [PyData.canLay0]; exact h, by rw [PyData.depth]; exact Nat.zero_le _⟩
theorem layAll_iff : ∀ ds : List PyData, PyData.canLayAll0 ds = true ↔ ∀ d ∈ ds, PyData.canLay0 d = true
  | [] => by simp [PyData.canLayAll0]
  | d :: r => by
    rw [PyData.canLayAll0, Bool.and_eq_true, layAll_iff r]
    simp
theorem depAll_iff (n : Nat) : ∀ ds : List PyData, PyData.depthAll ds ≤ n ↔ ∀ d ∈ ds, PyData.depth d ≤ n
  | [] => by simp [PyData.depthAll]
  | d :: r => by
    rw [PyData.depthAll, Nat.max_le, depAll_iff n r]
    simp
theorem sh_tup {n : Nat} {ds : List PyData} : Sh (n + 1) (.tuple ds) ↔ ∀ d ∈ ds, Sh n d := by
  unfold Sh
  rw [PyData.canLay0, PyData.depth, layAll_iff, show (PyData.depthAll ds + 1 ≤ n + 1) = (PyData.depthAll ds ≤ n) from propext (Nat.add_le_add_iff_right), depAll_iff]
  exact ⟨fun h d hd => ⟨h.1 d hd, h.2 d hd⟩, fun h => ⟨fun d hd => (h d hd).1, fun d hd => (h d hd).2⟩⟩
theorem sh_sub {n : Nat} {ds : List PyData} (h : Sh n (.tuple ds)) : ∀ d ∈ ds, Sh n d := by
  cases n with
  | zero =>
    have := h.2
    rw [PyData.depth] at this
    omega
  | succ n => exact fun d hd => (sh_tup.mp h d hd).mono (Nat.le_succ n)

def sp_codes (K : PySem.W.Frag) : Sp := fun vs H Q _ => ∃ (z : Str), vs = [.str z] ∧ (z.cps.size ≤ 1000) ∧ (∀ H' p, Same H H' → H p = none → H' p = some (.lst (List.map V.int (cds z))) → Q (.ref p) H')
theorem ok_codes (T : Txt K mg) : FnOk P w K mg base CX0 1 T.f_codes T.fd_codes ["text"] (sp_codes K) := by
  refine T.F_codes.ok sc_codes (fun vs H Q E h => ?_) (fun cdv A outer s H vs Q E hr h => ?_)
  · obtain ⟨z, rfl, _⟩ := h
    rfl
  · obtain ⟨z, rfl, hz, q⟩ := h
    refine ⟨_, (pss_one (ps_ret (pe_lc (own := [("character", 1)]) (g := (gName 1)) rfl sc_codes.nd (pi_str (pv 0)) (blkOk_by (own := [("character", 1)]) (N := ["text", "character"]) (sc := defScope s_codes) (by decide +kernel)) (fun _ _ _ _ _ => (pg_name (i := 1) sc_codes.nd rfl (Or.inl rfl))) (fun _ _ _ _ _ => pts_nil) (fun _ _ _ _ _ => (pe_callB call_ord (by rfl) T.z_ord (by decide +kernel) (pa_cons (pv 1) pa_nil)))))), ?_⟩
    walk_at "vc"
    refine lcL (walk_str (z := z)) (L := fun i => List.map V.int ((cds z).take i)) rfl (fun _ _ => True.intro) (fun D i x H1 H2 hi hD s1 g1 y => ?_) (fun pL H1 s1 n1 g1 => ?_)
    · obtain ⟨rfl, c, hc, rfl⟩ := y
      walk_at "vc g1"
      refine ⟨rfl, cnt_lt (by rw [List.length_take]; omega), same_upd2 s1 hD, ?_⟩
      rw [take_succ (cds_at hc)]
      rfl
    · rw [← cds_len, List.take_length] at g1
      exact q H1 pL s1 n1 g1

/-! ### spending -/
def spdL (l c : Int) : Int := if l < mx c 0 then 0 else l - mx c 0
def spdB (l c : Int) : Bool := !decide (l < mx c 0)
theorem mx_nat (n : Nat) : mx (n : Int) 0 = n := by
  unfold mx
  rw [if_neg (by omega)]
theorem mx_nn {c : Int} (h : 0 ≤ c) : mx c 0 = c := by
  unfold mx
  rw [if_neg (by omega)]
def sp_spend (K : PySem.W.Frag) : Sp := fun vs H Q _ => ∃ (l c : Int), vs = [.int l, .int c] ∧ (NewH H (.tup [.int (spdL l c), .bl (spdB l c)]) fun p H' => Q (.ref p) H')
theorem ok_spend (T : Txt K mg) : FnOk P w K mg base CX0 1 T.f_spend T.fd_spend ["left", "cost"] (sp_spend K) := by
  refine T.F_spend.ok sc_spend (fun vs H Q E h => ?_) (fun cdv A outer s H vs Q E hr h => ?_)
  · obtain ⟨l, c, rfl, _⟩ := h
    rfl
  · obtain ⟨l, c, rfl, q⟩ := h
    refine ⟨_, (pss_cons (ps_set (i := 1) sc_spend.nd rfl (Or.inl rfl) (pe_callB (call_max2 rfl) (by rfl) T.z_max (by decide +kernel) (pa_cons (pv 1) (pa_cons pe_int pa_nil))))
      (pss_cons (ps_if (pt_cmpR op_gt (pv 1) (pv 0) (nomark _)) (pss_one (ps_ret (pe_tupS (pa_cons pe_int (pa_cons pe_bl pa_nil))))) pss_nil)
      (pss_one (ps_ret (pe_tupS (pa_cons (pe_op op_sub (pv 0) (pv 1)) (pa_cons pe_bl pa_nil))))))), ?_⟩
    walk_at "vc"
    unfold spdL spdB at q
    refine iteP (fun e => ?_) (fun e => ?_)
    · simp only [if_pos e, decide_eq_true e, Bool.not_true] at q
      exact q
    · simp only [if_neg e, decide_eq_false e, Bool.not_false] at q
      exact q

def sRef : Str := Str.ofString "ref"
def sDict : Str := Str.ofString "dict"
def sStream : Str := Str.ofString "stream"
def okDict : OkS := ⟨sDict, by decide +kernel⟩
def okStream : OkS := ⟨sStream, by decide +kernel⟩
/-- a value: its word, what is behind it, the pairs if it is a dict or a stream -/
abbrev VD := Str × List PyData × List (List Int × PyData)
def vdD (x : VD) : PyData := .tuple (.str x.1 :: x.2.1)
def prD (p : List Int × PyData) : PyData := .tuple [.tuple (p.1.map PyData.int), p.2]
structure okV (x : VD) : Prop where
  ref : x.1 = sRef → ∃ n, x.2.1 = [.int n]
  prs : x.1 = sDict ∨ x.1 = sStream → ∃ tl, x.2.1 = .tuple (x.2.2.map prD) :: tl
  dis : (x.2.2.map (·.1)).Nodup
  len : x.2.2.length ≤ 3
  sh : Sh 40 (vdD x)
/-- a value that may be None; data that may be None -/
def OV (H : Hp) (v : V) : Option VD → Prop
  | none => v = .non
  | some x => TV H v (vdD x) ∧ okV x
def OD (H : Hp) (v : V) : Option PyData → Prop
  | none => v = .non
  | some d => TV H v d
theorem OV.mono {H H' : Hp} (s : Same H H') {v : V} {o : Option VD} (h : OV H v o) : OV H' v o := by
  cases o with
  | none => exact h
  | some d => exact ⟨h.1.mono s, h.2⟩
theorem OD.mono {H H' : Hp} (s : Same H H') {v : V} {o : Option PyData} (h : OD H v o) : OD H' v o := by
  cases o with
  | none => exact h
  | some d => exact TV.mono s h
def isRef : Option VD → Bool
  | some x => decide (x.1 = sRef)
  | none => false
def refN (x : VD) : Int := match x.2.1 with
  | [.int n] => n
  | _ => 0
theorem vd_tv {H : Hp} {v : V} {x : VD} (t : TV H v (vdD x)) : ∃ p xs, v = .ref p ∧ H p = some (.tup (.str x.1 :: xs)) ∧ TVs H xs x.2.1 := by
  unfold vdD at t
  cases t with
  | tup g ts => cases ts with
    | cons a b => cases a; exact ⟨_, _, rfl, g, b⟩
theorem okV.ok {x : VD} (h : okV x) : PyData.strOk x.1 = true := by
  have h1 := h.sh.1
  unfold vdD at h1
  rw [PyData.canLay0, PyData.canLayAll0, Bool.and_eq_true, PyData.canLay0] at h1
  exact h1.1
def sp__is_reference (K : PySem.W.Frag) : Sp := fun vs H Q _ => ∃ (v : V) (o : Option VD), vs = [v] ∧ (OV H v o) ∧ (Q (.bl (isRef o)) H)
theorem ok__is_reference (T : Txt K mg) : FnOk P w K mg base CX0 1 T.f__is_reference T.fd__is_reference ["value"] (sp__is_reference K) := by
  refine T.F__is_reference.ok sc__is_reference (fun vs H Q E h => ?_) (fun cdv A outer s H vs Q E hr h => ?_)
  · obtain ⟨v, o, rfl, _⟩ := h
    rfl
  · obtain ⟨v, o, rfl, hv, q⟩ := h
    refine ⟨_, (pss_one (ps_ret (pe_and (pe_cmpR op_notN (pv 0) pe_non (nomark _)) (pe_one (pe_cmpR op_eq (pe_ix ix_tupH (pv 0) pe_int (fun _ _ => rfl)) pe_str (nomark _)))))), ?_⟩
    cases o with
    | none =>
      obtain rfl := hv
      walk_at "vc"
      exact q
    | some x =>
      obtain ⟨ht, hv⟩ := hv
      obtain ⟨p, xs, rfl, g, _⟩ := vd_tv ht
      walk_at "vc g"
      exact q
/-- the objects of a book -/
def lkF (os : List (Int × VD)) (n : Int) : Option VD := (os.find? fun o => decide (o.1 = n)).map (·.2)
def obD (o : Int × VD) : PyData := .tuple [.int o.1, vdD o.2]
def BookV (H : Hp) (v : V) (os : List (Int × VD)) : Prop := ∃ a r p xs, v = .ref a ∧ H a = some (.tup [.ref p, r]) ∧ H p = some (.tup xs) ∧ TVs H xs (os.map obD) ∧ ∀ o ∈ os, okV o.2
def Asc (os : List (Int × VD)) : Prop := os.Pairwise fun a b => a.1 < b.1
theorem BookV.mono {H H' : Hp} (s : Same H H') {v : V} {os : List (Int × VD)} (h : BookV H v os) : BookV H' v os := by
  obtain ⟨a, r, p, xs, e, ga, gp, ht, ho⟩ := h
  exact ⟨a, r, p, xs, e, s _ _ ga, s _ _ gp, ht.mono s, ho⟩
theorem ob_tv {H : Hp} {v : V} {o : Int × VD} (t : TV H v (obD o)) : ∃ b y, v = .ref b ∧ H b = some (.tup [.int o.1, y]) ∧ TV H y (vdD o.2) := by
  unfold obD at t
  cases t with
  | tup g ts => cases ts with
    | cons a b => cases b with
      | cons c d => cases a; cases d; exact ⟨_, _, rfl, g, c⟩
theorem TVs.at {H : Hp} {vs : List V} {ds : List PyData} (h : TVs H vs ds) {i : Nat} {d : PyData} (hd : ds[i]? = some d) : ∃ v, vs[i]? = some v ∧ TV H v d := h.all.at' hd
theorem lk_at {os : List (Int × VD)} (h : Asc os) {i : Nat} {o : Int × VD} (hi : os[i]? = some o) : lkF os o.1 = some o.2 := by
  unfold lkF
  induction os generalizing i with
  | nil => simp at hi
  | cons o' r ih =>
    obtain ⟨h1, h2⟩ := List.pairwise_cons.mp h
    cases i with
    | zero =>
      obtain rfl := Option.some.inj hi
      simp
    | succ i =>
      have hm := h1 _ (List.mem_of_getElem? hi)
      rw [List.find?_cons_of_neg (by simp only [decide_eq_true_eq]; omega)]
      exact ih h2 hi
theorem lk_no {os : List (Int × VD)} {n : Int} (h : ∀ o ∈ os, o.1 ≠ n) : lkF os n = none := by
  unfold lkF
  rw [List.find?_eq_none.mpr (fun o ho => by simp only [decide_eq_true_eq]; exact h o ho)]
  rfl
theorem asc_lt {os : List (Int × VD)} (h : Asc os) {i j : Nat} {a b : Int × VD} (hij : i < j) (hi : os[i]? = some a) (hj : os[j]? = some b) : a.1 < b.1 := by
  obtain ⟨li, rfl⟩ := List.getElem?_eq_some_iff.mp hi
  obtain ⟨lj, rfl⟩ := List.getElem?_eq_some_iff.mp hj
  exact List.pairwise_iff_getElem.mp h i j li lj hij
def sp_find (K : PySem.W.Frag) : Sp := fun vs H Q _ => ∃ (v : V) (n : Int) (os : List (Int × VD)), vs = [v, .int n] ∧ (BookV H v os) ∧ (Asc os) ∧ (os.length ≤ 100000) ∧ (∀ x, OV H x (lkF os n) → Q x H)
theorem ok_find (T : Txt K mg) : FnOk P w K mg base CX0 1 T.f_find T.fd_find ["book", "number"] (sp_find K) := by
  refine T.F_find.ok sc_find (fun vs H Q E h => ?_) (fun cdv A outer s H vs Q E hr h => ?_)
  · obtain ⟨v, n, os, rfl, _⟩ := h
    rfl
  · obtain ⟨v, n, os, rfl, hb, hs, hl, q⟩ := h
    refine ⟨_, (pss_cons (ps_set (i := 2) sc_find.nd rfl (Or.inl rfl) (pe_ix ix_tupH (pv 0) pe_int (fun _ _ => rfl)))
      (pss_cons (ps_set (i := 3) sc_find.nd rfl (Or.inl rfl) pe_int)
      (pss_cons (ps_set (i := 4) sc_find.nd rfl (Or.inl rfl) (pe_callB call_lenT (by rfl) T.z_len PySem.boot_len (pa_cons (pv 2) pa_nil)))
      (pss_cons (ps_while PassesOwn.never (pt_cmpR op_lt (pv 3) (pv 4) (nomark _)) (pss_cons (ps_set (i := 5) sc_find.nd rfl (Or.inl rfl) (pe_op op_fdiv (pe_op op_add (pv 3) (pv 4)) pe_int))
      (pss_cons (ps_if (pt_cmpR op_eq (pe_ix ix_tupH (pe_ix ix_tupH (pv 2) (pv 5) (fun _ _ => rfl)) pe_int (fun _ _ => rfl)) (pv 1) (nomark _)) (pss_one (ps_ret (pe_ix ix_tupH (pe_ix ix_tupH (pv 2) (pv 5) (fun _ _ => rfl)) pe_int (fun _ _ => rfl)))) pss_nil)
      (pss_one (ps_if (pt_cmpR op_lt (pe_ix ix_tupH (pe_ix ix_tupH (pv 2) (pv 5) (fun _ _ => rfl)) pe_int (fun _ _ => rfl)) (pv 1) (nomark _)) (pss_one (ps_set (i := 3) sc_find.nd rfl (Or.inl rfl) (pe_op op_add (pv 5) pe_int))) (pss_one (ps_set (i := 4) sc_find.nd rfl (Or.inl rfl) (pv 5))))))))
      (pss_one (ps_ret pe_non)))))), ?_⟩
    obtain ⟨a, r, p, xs, rfl, ga, gp, ht, ho⟩ := hb
    have hxl : xs.length = os.length := by rw [ht.all.len, List.length_map]
    walk_at "vc ga gp"
    refine wh_by (fun m σ H' => ∃ (lo hi : Nat) (v5 : Option V), σ = [some (.ref a), some (.int n), some (.ref p), some (.int (lo : Int)), some (.int (hi : Int)), v5] ∧ H' = H ∧ hi ≤ os.length ∧ hi - lo ≤ m ∧ ∀ i o, os[i]? = some o → o.1 = n → lo ≤ i ∧ i < hi) os.length ⟨0, xs.length, none, rfl, rfl, by omega, by omega, fun i o h _ => ⟨Nat.zero_le _, by have := (List.getElem?_eq_some_iff.mp h).1; omega⟩⟩ ?_
    rintro m σ H1 ⟨lo, hi, v5, rfl, rfl, h1, h2, h3⟩
    walk_at "vc gp"
    refine iteP (fun c => ?_) (fun c => ?_)
    · obtain ⟨mid, hmid⟩ : ∃ mid : Nat, ((lo : Int) + (hi : Int)) / 2 = (mid : Int) ∧ lo ≤ mid ∧ mid < hi := ⟨(lo + hi) / 2, by omega, by omega, by omega⟩
      obtain ⟨em, l1, l2⟩ := hmid
      rw [em]
      have hml : mid < os.length := by omega
      obtain ⟨x, hx, tx⟩ := ht.at (i := mid) (d := obD os[mid]) (by rw [List.getElem?_map, List.getElem?_eq_getElem hml]; rfl)
      obtain ⟨b, y, rfl, gb, ty⟩ := ob_tv tx
      have hom : os[mid]? = some os[mid] := List.getElem?_eq_getElem hml
      refine ⟨fun σ' H' => ∃ m', m' < m ∧ ∃ (lo hi : Nat) (v5 : Option V), σ' = [some (.ref a), some (.int n), some (.ref p), some (.int (lo : Int)), some (.int (hi : Int)), v5] ∧ H' = H1 ∧ hi ≤ os.length ∧ hi - lo ≤ m' ∧ ∀ i o, os[i]? = some o → o.1 = n → lo ≤ i ∧ i < hi, ?_, ?_⟩
      · rintro σ' H' ⟨m', hm', lo', hi', v', rfl, e, k1, k2, k3⟩
        exact ⟨m', hm', lo', hi', ⟨_, rfl⟩, e, k1, k2, k3⟩
      · walk_at "vc gb"
        have hx' := atI_nat hx
        refine ⟨_, hx', b, rfl, _, gb, _, rfl, rfl, ?_⟩
        refine iteP (fun e => ?_) (fun e => ?_)
        · have e : os[mid].1 = n := V.int.inj e
          refine ⟨_, hx', b, rfl, _, gb, _, rfl, q _ ?_⟩
          rw [← e, lk_at hs hom]
          exact ⟨ty, ho _ (List.mem_of_getElem? hom)⟩
        · have e : os[mid].1 ≠ n := fun z => e (by rw [z])
          have step : ∀ i o, os[i]? = some o → o.1 = n → (os[mid].1 < n → mid + 1 ≤ i) ∧ (¬ os[mid].1 < n → i < mid) := fun i o hi he => by
            refine ⟨fun hlt => ?_, fun hge => ?_⟩
            · rcases Nat.lt_trichotomy i mid with z | z | z
              · have := asc_lt hs z hi hom; omega
              · subst z; rw [hom] at hi; obtain rfl := Option.some.inj hi; exact absurd he e
              · exact z
            · rcases Nat.lt_trichotomy i mid with z | z | z
              · exact z
              · subst z; rw [hom] at hi; obtain rfl := Option.some.inj hi; exact absurd he e
              · have := asc_lt hs z hom hi; omega
          refine ⟨_, hx', b, rfl, _, gb, _, rfl, _, rfl, iteP (fun c2 => ⟨hi - (mid + 1), by omega, mid + 1, by omega, h1, Nat.le_refl _, fun i o h4 h5 => ⟨(step i o h4 h5).1 c2, (h3 i o h4 h5).2⟩⟩) (fun c2 => ⟨mid - lo, by omega, by omega, Nat.le_refl _, fun i o h4 h5 => ⟨(h3 i o h4 h5).1, (step i o h4 h5).2 c2⟩⟩)⟩
    · refine q .non ?_
      rw [lk_no (fun o hm e => by
        obtain ⟨i, hi⟩ := List.mem_iff_getElem?.mp hm
        have := h3 i o hi e
        omega)]
      rfl
def getF (o : Option VD) (ks : List Int) : Option PyData := match o with
  | none => none
  | some x => if x.1 = sDict ∨ x.1 = sStream then (x.2.2.find? fun p => decide (p.1 = ks)).map (·.2) else none
def sp_get_named (K : PySem.W.Frag) : Sp := fun vs H Q _ => ∃ (v : V) (o : Option VD) (w : Addr) (ks : List Int), vs = [v, .ref w] ∧ (OV H v o) ∧ (H w = some (.tup (List.map V.int ks))) ∧ (∀ x H', Same H H' → OD H' x (getF o ks) → Q x H')
theorem ok_get_named (T : Txt K mg) : FnOk P w K mg base CX0 1 T.f_get_named T.fd_get_named ["value", "wanted"] (sp_get_named K) := by
  refine T.F_get_named.ok sc_get_named (fun vs H Q E h => ?_) (fun cdv A outer s H vs Q E hr h => ?_)
  · obtain ⟨v, o, w, ks, rfl, _⟩ := h
    rfl
  · obtain ⟨v, o, w, ks, rfl, hv, hw, q⟩ := h
    refine ⟨_, (pss_cons (ps_if (PW.pt (pw_or (pt_cmpR op_isN (pv 0) pe_non (nomark _)) (pw_or1 (pt_cmpR (op_notInTC (hu5 hr) cod_str (by decide)) (pe_ix ix_tupH (pv 0) pe_int (fun _ _ => rfl)) (pe_tupS (pa_cons pe_str (pa_cons pe_str pa_nil))) (by rfl))))) (pss_one (ps_ret pe_non)) pss_nil)
      (pss_cons (ps_for PassesOwn.never rfl (pi_tupS (pe_ix ix_tupH (pv 0) pe_int (fun _ _ => rfl))) (pg_tupS (n := 2) (by rfl) (pgs_cons (pg_name (i := 2) sc_get_named.nd rfl (Or.inl rfl)) (pgs_cons (pg_name (i := 3) sc_get_named.nd rfl (Or.inl rfl)) pgs_nil))) (pss_one (ps_if (pt_cmpR (op_eqC hr.units (cod_tup cod_int) (by decide)) (pv 2) (pv 1) (nomark _)) (pss_one (ps_ret (pv 3))) pss_nil)))
      (pss_one (ps_ret pe_non)))), ?_⟩
    cases o with
    | none =>
      obtain rfl := hv
      walk_at "vc"
      exact q _ _ (Same.refl _) rfl
    | some x =>
      obtain ⟨ht, hv⟩ := hv
      obtain ⟨p, xs, rfl, g, hxs⟩ := vd_tv ht
      walk_at "vc g"
      intro p1 H1 s1 n1 g1
      refine ⟨⟨x.1, hv.ok⟩, rfl, [okDict, okStream], ⟨p1, _, rfl, g1, strs_all [okDict, okStream]⟩, ?_⟩
      by_cases hk : x.1 = sDict ∨ x.1 = sStream
      · have hm : (⟨x.1, hv.ok⟩ : OkS) ∈ [okDict, okStream] := by
          rcases hk with e | e
          · exact List.mem_cons.mpr (.inl (Subtype.ext e))
          · exact List.mem_cons_of_mem _ (List.mem_singleton.mpr (Subtype.ext e))
        refine ifN_T hm ?_
        obtain ⟨tl, etl⟩ := hv.prs hk
        rw [etl] at hxs
        cases hxs with
        | cons hp htl =>
          cases hp with
          | tup gp tp =>
            rename_i aP vP
            have g' := s1 _ _ g
            have gp' := s1 _ _ gp
            refine ⟨_, g', _, atI_c1 _ _ _, aP, rfl, ⟨_, gp'⟩, ?_⟩
            have hw' := s1 _ _ hw
            have tp' := tp.mono s1
            refine lpW (walkT (xs := vP)) (fun i σ H' => ∃ v2 v3 : Option V, σ = [some (.ref p), some (.ref w), v2, v3] ∧ H' = H1 ∧ ∀ z ∈ x.2.2.take i, z.1 ≠ ks) ⟨_, _, rfl, rfl, fun _ z => (nomatch z)⟩ ?_ ?_ ?_
            · rintro i σ H' _ ⟨_, _, _, rfl, _⟩
              exact gp'
            · rintro i y σ H2 H3 hi ⟨v2, v3, rfl, rfl, hn⟩ ⟨rfl, hy⟩
              obtain ⟨d, hd, td⟩ := (TVs.mono s1 tp).all.at hy
              rw [List.getElem?_map] at hd
              obtain ⟨z, hz, rfl⟩ := Option.map_eq_some_iff.mp hd
              unfold prD at td
              cases td with
              | tup gt tt => cases tt with
                | cons t1 t2 => cases t2 with
                  | cons t3 t4 =>
                    cases t4
                    cases t1 with
                    | tup g1' t1' =>
                      obtain rfl := TVs.of_ints t1'
                      rename_i aT y2 aN
                      walk_at "vc gt"
                      refine ⟨z.1, ⟨aN, _, rfl, g1', ints_all z.1⟩, ks, ⟨w, _, rfl, hw', ints_all ks⟩, ?_⟩
                      refine iteP (fun e => ?_) (fun e => ?_)
                      · refine q _ _ s1 ?_
                        unfold getF
                        simp only [if_pos hk]
                        rw [show (x.2.2.find? fun p => decide (p.1 = ks)) = some z from ?_]
                        · exact t3
                        · rw [List.find?_eq_some_iff_getElem]
                          refine ⟨by simpa using e, i, (List.getElem?_eq_some_iff.mp hz).1, (List.getElem?_eq_some_iff.mp hz).2, fun j hj => ?_⟩
                          have hjl : j < x.2.2.length := Nat.lt_trans hj (List.getElem?_eq_some_iff.mp hz).1
                          have := hn x.2.2[j] (by
                            rw [List.mem_take_iff_getElem]
                            exact ⟨j, by omega, rfl⟩)
                          simpa using this
                      · intro u hu
                        rw [take_succ hz] at hu
                        rcases List.mem_append.mp hu with h | h
                        · exact hn u h
                        · rw [List.mem_singleton.mp h]; exact e
            · rintro σ H2 ⟨v2, v3, rfl, rfl, hn⟩
              walk_at "vc"
              refine q _ _ s1 ?_
              have hl := tp.all.len
              rw [List.length_map] at hl
              rw [hl, List.take_length] at hn
              unfold getF
              simp only [if_pos hk]
              rw [List.find?_eq_none.mpr (fun z hz => by simpa using hn z hz)]
              rfl
      · have hm : ¬ (⟨x.1, hv.ok⟩ : OkS) ∈ [okDict, okStream] := fun z => by
          rcases List.mem_cons.mp z with e | e
          · exact hk (.inl (congrArg Subtype.val e))
          · exact hk (.inr (congrArg Subtype.val (List.mem_singleton.mp e)))
        refine ifN_F hm ?_
        refine q _ _ s1 ?_
        unfold getF
        simp only [if_neg hk]
        rfl
def sp_get (K : PySem.W.Frag) : Sp := fun vs H Q _ => ∃ (v : V) (o : Option VD) (z : Str), vs = [v, .str z] ∧ (OV H v o) ∧ (z.cps.size ≤ 1000) ∧ (∀ x H', Same H H' → OD H' x (getF o (cds z)) → Q x H')
theorem ok_get (T : Txt K mg) : FnOk P w K mg base CX0 2 T.f_get T.fd_get ["value", "key"] (sp_get K) := by
  refine T.F_get.ok sc_get (fun vs H Q E h => ?_) (fun cdv A outer s H vs Q E hr h => ?_)
  · obtain ⟨v, o, z, rfl, _⟩ := h
    rfl
  · obtain ⟨v, o, z, rfl, hv, hz, q⟩ := h
    refine ⟨_, (pss_one (ps_ret (pe_call (ok_get_named T) hr (by rfl) T.g_get_named T.F_get_named.kp T.b_get_named .nil pass0 (pa_cons (pv 0) (pa_cons (pe_callTy call_tupleL (by rfl) T.z_tuple (by decide +kernel) (pa_cons (pe_call (ok_codes T) hr (by rfl) T.g_codes T.F_codes.kp T.b_codes .nil pass0 (pa_cons (pv 1) pa_nil)) pa_nil)) pa_nil))))), ?_⟩
    walk_at "vc sp_codes sp_get_named"
    refine ⟨hz, fun H1 p1 s1 n1 g1 => ⟨_, g1, fun p2 H2 s2 n2 g2 => ?_⟩⟩
    exact ⟨o, hv.mono (s1.trans s2), cds z, g2, fun x H3 s3 ho => q x H3 (s1.trans (s2.trans s3)) ho⟩
def folF (os : List (Int × VD)) : Nat → Option VD → Int → Option VD × Int
  | 0, o, l => if isRef o = true then (none, l) else (o, l)
  | n + 1, none, l => (none, l)
  | n + 1, some x, l => if x.1 = sRef then (if l < 1 then (none, 0) else folF os n (lkF os (refN x)) (l - 1)) else (some x, l)
def sp_follow (K : PySem.W.Frag) : Sp := fun vs H Q _ => ∃ (b v : V) (o : Option VD) (l : Int) (os : List (Int × VD)), vs = [b, v, .int l] ∧ (BookV H b os) ∧ (OV H v o) ∧ (Asc os) ∧ (os.length ≤ 100000) ∧ (0 ≤ l) ∧ (∀ x p H', Same H H' → H p = none → H' p = some (.tup [x, .int (folF os 64 o l).2]) → OV H' x (folF os 64 o l).1 → Q (.ref p) H')
theorem ok_follow (T : Txt K mg) : FnOk P w K mg base CX0 2 T.f_follow T.fd_follow ["book", "value", "left"] (sp_follow K) := by
  refine T.F_follow.ok sc_follow (fun vs H Q E h => ?_) (fun cdv A outer s H vs Q E hr h => ?_)
  · obtain ⟨b, v, o, l, os, rfl, _⟩ := h
    rfl
  · obtain ⟨b, v, o, l, os, rfl, hb, hv, hs, hl, h0, q⟩ := h
    refine ⟨_, (pss_cons (ps_for PassesOwn.never rfl (pi_range1 (by rfl) T.z_range (pa_cons (pe_glob (v := .int 64) (by rfl) T.c_MOST_STEPS ⟨_, rfl⟩) pa_nil)) (pg_name (i := 3) sc_follow.nd rfl (Or.inl rfl)) (pss_cons (ps_if (pt_not (pt_val (pe_call (ok__is_reference T) hr (by rfl) T.g__is_reference T.F__is_reference.kp T.b__is_reference .nil pass0 (pa_cons (pv 1) pa_nil)))) (pss_one (ps_ret (pe_tupS (pa_cons (pv 1) (pa_cons (pv 2) pa_nil))))) pss_nil)
      (pss_cons (ps_asg (pe_call (ok_spend T) hr (by rfl) T.g_spend T.F_spend.kp T.b_spend .nil pass0 (pa_cons (pv 2) (pa_cons pe_int pa_nil))) (pg_tupS (n := 2) (by rfl) (pgs_cons (pg_name (i := 2) sc_follow.nd rfl (Or.inl rfl)) (pgs_cons (pg_name (i := 4) sc_follow.nd rfl (Or.inl rfl)) pgs_nil))))
      (pss_cons (ps_if (pt_not (pt_val (pv 4))) (pss_one (ps_ret (pe_tupS (pa_cons pe_non (pa_cons (pv 2) pa_nil))))) pss_nil)
      (pss_one (ps_set (i := 1) sc_follow.nd rfl (Or.inl rfl) (pe_call (ok_find T) hr (by rfl) T.g_find T.F_find.kp T.b_find .nil pass0 (pa_cons (pv 0) (pa_cons (pe_ix ix_tupH (pv 1) pe_int (fun _ _ => rfl)) pa_nil)))))))))
      (pss_cons (ps_if (pt_val (pe_call (ok__is_reference T) hr (by rfl) T.g__is_reference T.F__is_reference.kp T.b__is_reference .nil pass0 (pa_cons (pv 1) pa_nil))) (pss_one (ps_ret (pe_tupS (pa_cons pe_non (pa_cons (pv 2) pa_nil))))) pss_nil)
      (pss_one (ps_ret (pe_tupS (pa_cons (pv 1) (pa_cons (pv 2) pa_nil))))))), ?_⟩
    walk_at "vc"
    refine lpW (walkR (n := 64)) (fun i σ H' => ∃ (v : V) (o' : Option VD) (l' : Int) (v3 v4 : Option V), σ = [some b, some v, some (.int l'), v3, v4] ∧ Same H H' ∧ OV H' v o' ∧ 0 ≤ l' ∧ folF os 64 o l = folF os (64 - i) o' l') ⟨v, o, l, _, _, rfl, Same.refl _, hv, h0, rfl⟩ (fun _ _ _ _ _ => True.intro) ?_ ?_
    · rintro i x σ H1 H2 hi ⟨v, o', l', v3, v4, rfl, s1, hv1, hl0, hf⟩ ⟨rfl, rfl⟩
      rw [show 64 - i = (64 - (i + 1)) + 1 by omega] at hf
      walk_at "vc sp__is_reference"
      refine ⟨o', hv1, ?_⟩
      cases o' with
      | none =>
        refine if_true_of rfl fun p H3 s3 n3 g3 => q v p H3 (s1.trans s3) (s1.free n3) ?_ ?_
        · rw [hf]; exact g3
        · rw [hf]; exact OV.mono s3 hv1
      | some x =>
        by_cases hk : x.1 = sRef
        · refine if_false_of (by show (!decide (x.1 = sRef)) = false; rw [decide_eq_true hk]; rfl) ?_
          rw [folF, if_pos hk] at hf
          obtain ⟨tx, okx⟩ := hv1
          obtain ⟨pv, ys, rfl, gv, tys⟩ := vd_tv tx
          obtain ⟨m, hm⟩ := okx.ref hk
          rw [hm] at tys
          cases tys with
          | cons t1 t2 =>
            cases t1
            cases t2
            have hrn : refN x = m := by unfold refN; rw [hm]
            rw [hrn] at hf
            walk_at "vc sp_spend"
            intro p3 H3 s3 n3 g3
            have gv3 := s3 _ _ gv
            walk_at "vc g3 gv3"
            have hsp : spdL l' 1 = if l' < 1 then 0 else l' - 1 := by unfold spdL mx; rw [if_neg (show ¬ (1 : Int) < 0 by decide)]
            have hsb : spdB l' 1 = !decide (l' < 1) := by unfold spdB mx; rw [if_neg (show ¬ (1 : Int) < 0 by decide)]
            by_cases hl1 : l' < 1
            · rw [if_pos hl1] at hsp hf
              rw [hsb, decide_eq_true hl1, if_pos (by decide), hsp]
              exact fun p4 H4 s4 n4 g4 => q .non p4 H4 (s1.trans (s3.trans s4)) (((s1.trans s3)).free n4) (by rw [hf]; exact g4) (by rw [hf]; exact rfl)
            · rw [if_neg hl1] at hsp hf
              rw [hsb, decide_eq_false hl1, if_neg (by decide), hsp]
              refine ⟨b, m, os, rfl, hb.mono (s1.trans s3), hs, hl, fun x hx => ⟨s1.trans s3, _, hx, by omega, hf⟩⟩
        · refine if_true_of (by show (!decide (x.1 = sRef)) = true; rw [decide_eq_false hk]; rfl) fun p H3 s3 n3 g3 => q v p H3 (s1.trans s3) (s1.free n3) ?_ ?_
          · rw [hf, folF, if_neg hk]; exact g3
          · rw [hf, folF, if_neg hk]; exact OV.mono s3 hv1
    · rintro σ H1 ⟨v, o', l', v3, v4, rfl, s1, hv1, hl0, hf⟩
      rw [Nat.sub_self] at hf
      walk_at "vc sp__is_reference"
      refine ⟨o', hv1, ?_⟩
      cases hr : isRef o'
      · rw [if_neg (by decide)]
        intro p H3 s3 n3 g3
        rw [folF, hr, if_neg (by decide)] at hf
        exact q v p H3 (s1.trans s3) (s1.free n3) (by rw [hf]; exact g3) (by rw [hf]; exact OV.mono s3 hv1)
      · rw [if_pos rfl]
        intro p H3 s3 n3 g3
        rw [folF, hr, if_pos rfl] at hf
        exact q .non p H3 (s1.trans s3) (s1.free n3) (by rw [hf]; exact g3) (by rw [hf]; exact rfl)
theorem folF_none (os : List (Int × VD)) (n : Nat) (l : Int) : folF os n none l = (none, l) := by cases n <;> rfl
theorem folF_other (os : List (Int × VD)) (n : Nat) {x : VD} (h : x.1 ≠ sRef) (l : Int) : folF os n (some x) l = (some x, l) := by
  cases n with
  | zero =>
    unfold folF
    rw [show isRef (some x) = false from decide_eq_false h, if_neg (by decide)]
  | succ n => rw [folF, if_neg h]
def refV (n : Int) : VD := (sRef, [.int n], [])
theorem ok_ref (n : Int) : okV (refV n) := ⟨fun _ => ⟨n, rfl⟩, fun z => absurd (show sRef = sDict ∨ sRef = sStream from z) (by decide +kernel), List.nodup_nil, Nat.zero_le _, by
  refine ⟨?_, ?_⟩
  · show PyData.canLay0 (.tuple [.str sRef, .int n]) = true
    rw [PyData.canLay0, PyData.canLayAll0, PyData.canLayAll0, PyData.canLayAll0, PyData.canLay0, PyData.canLay0, show PyData.strOk sRef = true from by decide +kernel]
    rfl
  · show PyData.depth (.tuple [.str sRef, .int n]) ≤ 40
    rw [PyData.depth, PyData.depthAll, PyData.depthAll, PyData.depthAll, PyData.depth, PyData.depth]
    decide⟩

def sp__law_cell (K : PySem.W.Frag) (a : Addr) (ns : List Int) : Sp := fun vs H Q _ => ∃ (k : Int), vs = [.ref a, .int k] ∧ (0 ≤ k) ∧ (SqL K H a (List.map V.int ns)) ∧ (Q (.int (cellA ns k.toNat)) H)
theorem ok__law_cell (T : Txt K mg) (a : Addr) (ns : List Int) : FnOk P w K mg base CX0 1 T.f__law_cell T.fd__law_cell ["script", "k"] (sp__law_cell K a ns) := by
  refine T.F__law_cell.ok sc__law_cell (fun vs H Q E h => ?_) (fun cdv A outer s H vs Q E hr h => ?_)
  · obtain ⟨k, rfl, _⟩ := h
    rfl
  · obtain ⟨k, rfl, hk0, hS, q⟩ := h
    refine ⟨_, (pss_cons (ps_if (pt_cmpR op_lt (pv 1) (pe_callB call_len_seq (by rfl) T.z_len PySem.boot_len (pa_cons (pv 0) pa_nil)) (nomark _)) (pss_one (ps_ret (pe_callTy call_int1 (by rfl) T.z_int (by decide +kernel) (pa_cons (pe_ix ix_list (pv 0) (pv 1) (fun _ _ => rfl)) pa_nil)))) pss_nil)
      (pss_one (ps_ret pe_int))), ?_⟩
    obtain ⟨k, rfl⟩ := natOf hk0
    rw [Int.toNat_natCast] at q
    refine ⟨_, rfl, _, rfl, a, _, rfl, .inl hS, _, _, rfl, rfl, _, rfl, ite2 (fun e => ?_) (fun e => ?_)⟩
    · have e1 := of_decide_eq_true e
      rw [List.length_map] at e1
      have hk : k < ns.length := by omega
      refine ⟨_, rfl, _, rfl, a, _, _, .int (cellA ns k), rfl, rfl, hS, ?_, .inl ⟨_, rfl, q⟩⟩
      refine atI_nat ?_
      rw [List.getElem?_map, List.getElem?_eq_getElem hk]
      simp [cellA, hk]
    · have e1 : ¬ ((k : Int) < ((ns.map V.int).length : Int)) := fun z => e (decide_eq_true z)
      rw [List.length_map] at e1
      have hk : ns.length ≤ k := by omega
      have e0 : cellA ns k = 0 := by simp [cellA, hk]
      rw [e0] at q
      exact q

def tw (c k : Int) : Int :=
  let x := (c * 48271 + k * 69621 + 7) % 2147483647
  let y := (x * x + k * 40692 + 3) % 2147483629
  let z := (y * y + k * 30269 + 5) % 2147483587
  z / 64
theorem tw_nn (c k : Int) : 0 ≤ tw c k := by
  unfold tw
  exact Int.ediv_nonneg (Int.emod_nonneg _ (by decide)) (by decide)
theorem tw_lt (c k : Int) : tw c k < 33554432 := by
  unfold tw
  have := Int.emod_lt_of_pos ((((c * 48271 + k * 69621 + 7) % 2147483647 * ((c * 48271 + k * 69621 + 7) % 2147483647) + k * 40692 + 3) % 2147483629) * (((c * 48271 + k * 69621 + 7) % 2147483647 * ((c * 48271 + k * 69621 + 7) % 2147483647) + k * 40692 + 3) % 2147483629) + k * 30269 + 5) (show (0 : Int) < 2147483587 by decide)
  simp only
  omega
def sp__law_twice (K : PySem.W.Frag) : Sp := fun vs H Q _ => ∃ (c k : Int), vs = [.int c, .int k] ∧ (Q (.int (tw c k)) H)
theorem ok__law_twice (T : Txt K mg) : FnOk P w K mg base CX0 1 T.f__law_twice T.fd__law_twice ["cell", "k"] (sp__law_twice K) := by
  refine T.F__law_twice.ok sc__law_twice (fun vs H Q E h => ?_) (fun cdv A outer s H vs Q E hr h => ?_)
  · obtain ⟨c, k, rfl, _⟩ := h
    rfl
  · obtain ⟨c, k, rfl, q⟩ := h
    refine ⟨_, (pss_cons (ps_set (i := 2) sc__law_twice.nd rfl (Or.inl rfl) (pe_op op_mod (pe_callTy call_int1 (by rfl) T.z_int (by decide +kernel) (pa_cons (pe_op op_add (pe_op op_add (pe_op op_mul (pv 0) pe_int) (pe_op op_mul (pv 1) pe_int)) pe_int) pa_nil)) pe_int))
      (pss_cons (ps_set (i := 2) sc__law_twice.nd rfl (Or.inl rfl) (pe_op op_mod (pe_callTy call_int1 (by rfl) T.z_int (by decide +kernel) (pa_cons (pe_op op_add (pe_op op_add (pe_op op_mul (pv 2) (pv 2)) (pe_op op_mul (pv 1) pe_int)) pe_int) pa_nil)) pe_int))
      (pss_cons (ps_set (i := 2) sc__law_twice.nd rfl (Or.inl rfl) (pe_op op_mod (pe_callTy call_int1 (by rfl) T.z_int (by decide +kernel) (pa_cons (pe_op op_add (pe_op op_add (pe_op op_mul (pv 2) (pv 2)) (pe_op op_mul (pv 1) pe_int)) pe_int) pa_nil)) pe_int))
      (pss_one (ps_ret (pe_op op_fdiv (pv 2) pe_int)))))), ?_⟩
    walk_at "vc"
    have b1 := mod_in (c * 48271 + k * 69621 + 7) (show (0 : Int) < 2147483647 by decide)
    have b2 := mod_in ((c * 48271 + k * 69621 + 7) % 2147483647 * ((c * 48271 + k * 69621 + 7) % 2147483647) + k * 40692 + 3) (show (0 : Int) < 2147483629 by decide)
    exact ⟨.inl ⟨by omega, by omega⟩, .inl ⟨by omega, by omega⟩, q⟩

def sp__law_data (K : PySem.W.Frag) : Sp := fun vs H Q _ => ∃ (c k l : Int), vs = [.int c, .int k, .int l] ∧ (0 ≤ l) ∧ (∀ H' p bs, Same H H' → H p = none → H' p = some (.tup (List.map V.int bs)) → bs.length ≤ 6 → Q (.ref p) H')
theorem ok__law_data (T : Txt K mg) : FnOk P w K mg base CX0 2 T.f__law_data T.fd__law_data ["cell", "k", "left"] (sp__law_data K) := by
  refine T.F__law_data.ok sc__law_data (fun vs H Q E h => ?_) (fun cdv A outer s H vs Q E hr h => ?_)
  · obtain ⟨c, k, l, rfl, _⟩ := h
    rfl
  · obtain ⟨c, k, l, rfl, hl, q⟩ := h
    refine ⟨_, (pss_cons (ps_set (i := 3) sc__law_data.nd rfl (Or.inl rfl) (pe_lstS (pa_cons pe_int (pa_cons pe_int (pa_cons pe_int (pa_cons pe_int (pa_cons pe_int (pa_cons pe_int (pa_cons pe_int (pa_cons pe_int (pa_cons pe_int (pa_cons pe_int (pa_cons pe_int (pa_cons pe_int (pa_cons pe_int (pa_cons pe_int (pa_cons pe_int (pa_cons pe_int (pa_cons pe_int (pa_cons pe_int (pa_cons pe_int (pa_cons pe_int (pa_cons pe_int (pa_cons pe_int (pa_cons pe_int (pa_cons pe_int pa_nil))))))))))))))))))))))))))
      (pss_cons (ps_set (i := 4) sc__law_data.nd rfl (Or.inl rfl) (pe_lstS pa_nil))
      (pss_cons (ps_for PassesOwn.never rfl (pi_range1 (by rfl) T.z_range (pa_cons (pe_op op_mod (pv 2) pe_int) pa_nil)) (pg_name (i := 5) sc__law_data.nd rfl (Or.inl rfl)) (pss_cons (ps_set (i := 6) sc__law_data.nd rfl (Or.inl rfl) (pe_call (ok__law_twice T) hr (by rfl) T.g__law_twice T.F__law_twice.kp T.b__law_twice .nil pass0 (pa_cons (pv 0) (pa_cons (pe_op op_add (pe_op op_mul pe_int (pv 1)) (pv 5)) pa_nil))))
      (pss_one (ps_if (pt_cmpR op_eq (pe_op op_mod (pv 6) pe_int) pe_int (nomark _)) (pss_one (ps_expr (pe_ml (pe_bm PySem.F.plainAttrs_list PySem.F.slot_list_append PySem.F.type_list_append mt_append (pe_mono (pv 4)) (pa_cons (pe_ix ix_listH (pv 3) (pe_op op_mod (pe_op op_fdiv (pv 6) pe_int) pe_int) (fun _ _ => rfl)) pa_nil))))) (pss_one (ps_expr (pe_ml (pe_bm PySem.F.plainAttrs_list PySem.F.slot_list_append PySem.F.type_list_append mt_append (pe_mono (pv 4)) (pa_cons (pe_op op_mod (pe_op op_fdiv (pv 6) pe_int) pe_int) pa_nil)))))))))
      (pss_one (ps_ret (pe_callTy call_tupleL (by rfl) T.z_tuple (by decide +kernel) (pa_cons (pv 4) pa_nil))))))), ?_⟩
    walk_at "vc"
    refine ⟨by decide, fun p0 H0 s0 n0 g0 p1 H1 s1 n1 g1 => ?_⟩
    obtain ⟨N, hN⟩ := natOf (show 0 ≤ l % 7 by omega)
    rw [hN, Int.toNat_natCast]
    have g01 := s1 _ _ g0
    have ne01 : p0 ≠ p1 := ne_of_none g0 n1
    refine ⟨by omega, by omega, lpW (walkR (n := N)) (fun i σ H' => ∃ (v5 v6 : Option V) (bs : List Int), σ = [some (.int c), some (.int k), some (.int l), some (.ref p0), some (.ref p1), v5, v6] ∧ Same H H' ∧ H' p0 = H1 p0 ∧ H' p1 = some (.lst (List.map V.int bs)) ∧ bs.length = i) ⟨_, _, [], rfl, s0.trans s1, rfl, g1, rfl⟩ (fun _ _ _ _ _ => True.intro) ?_ ?_⟩
    · rintro i x σ H2 H3 hi ⟨v5, v6, bs, rfl, s2, e0, gb, hb⟩ ⟨rfl, rfl⟩
      have g03 : H3 p0 = _ := e0.trans g01
      have np1 : H p1 = none := s0.free n1
      walk_at "vc sp__law_twice g03 gb"
      have t0 := tw_nn c (100 * k + (i : Int))
      have put : ∀ v : Int, Same H (upd H3 p1 (.lst (List.map V.int (bs ++ [v])))) ∧ upd H3 p1 (.lst (List.map V.int (bs ++ [v]))) p0 = H1 p0 ∧ (bs ++ [v]).length = i + 1 := fun v => ⟨same_upd2 s2 np1, by rw [upd_ne ne01]; exact e0, by rw [List.length_append, hb]; rfl⟩
      refine iteP (fun _ => ?_) (fun _ => ?_)
      · obtain ⟨v, hv, _⟩ := atI_lits (xs := [40, 41, 92, 47, 126, 37, 35, 64, 60, 62, 91, 93, 123, 125, 32, 10, 13, 0, 255, 127, 65, 97, 48, 33]) (k := tw c (100 * k + (i : Int)) / 2 % 24) (by omega) (by simp only [List.length_cons, List.length_nil]; omega)
        refine ⟨_, hv, cnt_lt (by omega), by rw [map_snoc]; exact (put v).1, by rw [map_snoc]; exact (put v).2.1, bs ++ [v], by rw [List.map_append]; rfl, (put v).2.2⟩
      · exact ⟨cnt_lt (by omega), (put _).1, (put _).2.1, by omega⟩
    · rintro σ H2 ⟨v5, v6, bs, rfl, s2, e0, gb, hb⟩
      walk_at "vc gb"
      exact fun p3 H3 s3 n3 g3 => q H3 p3 bs (s2.trans s3) (s2.free n3) g3 (by omega)
def sp__law_key (K : PySem.W.Frag) : Sp := fun vs H Q _ => ∃ (c k : Int), vs = [.int c, .int k] ∧ (∀ H' p bs, Same H H' → H p = none → H' p = some (.tup (List.map V.int bs)) → bs.length ≤ 6 → Q (.ref p) H')
theorem ok__law_key (T : Txt K mg) : FnOk P w K mg base CX0 3 T.f__law_key T.fd__law_key ["cell", "k"] (sp__law_key K) := by
  refine T.F__law_key.ok sc__law_key (fun vs H Q E h => ?_) (fun cdv A outer s H vs Q E hr h => ?_)
  · obtain ⟨c, k, rfl, _⟩ := h
    rfl
  · obtain ⟨c, k, rfl, q⟩ := h
    refine ⟨_, (pss_cons (ps_set (i := 2) sc__law_key.nd rfl (Or.inl rfl) (pe_call (ok__law_twice T) (hr.mono (by decide)) (by rfl) T.g__law_twice T.F__law_twice.kp T.b__law_twice .nil pass0 (pa_cons (pv 0) (pa_cons (pe_op op_add (pv 1) pe_int) pa_nil))))
      (pss_cons (ps_set (i := 3) sc__law_key.nd rfl (Or.inl rfl) (pe_lstS (pa_cons pe_str (pa_cons pe_str (pa_cons pe_str (pa_cons pe_str (pa_cons pe_str pa_nil)))))))
      (pss_cons (ps_if (pt_cmpR op_eq (pe_op op_mod (pv 2) pe_int) pe_int (nomark _)) (pss_one (ps_ret (pe_callTy call_tupleL (by rfl) T.z_tuple (by decide +kernel) (pa_cons (pe_lc (own := [("sign", 4)]) (g := (gName 4)) rfl sc__law_key.nd (pi_str (pe_ix ix_listH (pv 3) (pe_op op_mod (pe_op op_fdiv (pv 2) pe_int) pe_int) (fun _ _ => rfl))) (blkOk_by (own := [("sign", 4)]) (N := ["cell", "k", "draw", "names", "sign"]) (sc := defScope s__law_key) (by decide +kernel)) (fun _ _ _ _ _ => (pg_name (i := 4) sc__law_key.nd rfl (Or.inl rfl))) (fun _ _ _ _ _ => pts_nil) (fun _ _ _ _ _ => (pe_callB call_ord (by rfl) T.z_ord (by decide +kernel) (pa_cons (pv 4) pa_nil)))) pa_nil)))) pss_nil)
      (pss_one (ps_ret (pe_call (ok__law_data T) hr (by rfl) T.g__law_data T.F__law_data.kp T.b__law_data .nil pass0 (pa_cons (pv 0) (pa_cons (pe_op op_add (pv 1) pe_int) (pa_cons (pe_op op_fdiv (pv 2) pe_int) pa_nil))))))))), ?_⟩
    walk_at "vc sp__law_twice"
    have t0 := tw_nn c (k + 17)
    intro p0 H0 s0 n0 g0
    refine iteP (fun _ => ?_) (fun _ => ⟨c, k + 5, _, rfl, by omega, fun H1 p1 bs s1 n1 g1 l1 => q H1 p1 bs (s0.trans s1) (s0.free n1) g1 l1⟩)
    have hz : ∀ z : Str, z.cps.size ≤ 6 → LcLoop (Its z) (gName 4) tYes (tCB (fun xs H Q => ∃ x, xs = [V.str x] ∧ x.length = 1 ∧ Q (V.int ((x.cps.getD 0 0 : Nat) : Int)) H) (tCons (tVar 4) tNil)) [4] [some (V.int c), some (V.int k), some (V.int (tw c (k + 17))), some (V.ref p0), none] H0 (fun x H1 => ∃ p, x = V.ref p ∧ ∃ x, H1 p = some (HO.lst x) ∧ NewH H1 (HO.tup x) fun l H' => Q (V.ref l) H') := fun z hz => by
      refine lcL (walk_str (z := z)) (L := fun i => List.map V.int ((cds z).take i)) rfl (fun _ _ => True.intro) (fun D i x H1 H2 hi hD s1 g1 y => ?_) (fun pL H1 s1 n1 g1 => ?_)
      · obtain ⟨rfl, ch, hc, rfl⟩ := y
        walk_at "vc g1"
        refine ⟨rfl, cnt_lt (by rw [List.length_take]; omega), same_upd2 s1 hD, ?_⟩
        rw [take_succ (cds_at hc)]
        rfl
      · rw [← cds_len, List.take_length] at g1
        exact ⟨pL, rfl, _, g1, fun p2 H2 s2 n2 g2 => q H2 p2 (cds z) (s0.trans (s1.trans s2)) ((s0.trans s1).free n2) g2 (by rw [cds_len]; exact hz)⟩
    refine ⟨_, g0, ?_⟩
    rcases (show tw c (k + 17) / 2 % 5 = 0 ∨ tw c (k + 17) / 2 % 5 = 1 ∨ tw c (k + 17) / 2 % 5 = 2 ∨ tw c (k + 17) / 2 % 5 = 3 ∨ tw c (k + 17) / 2 % 5 = 4 by omega) with e | e | e | e | e <;> rw [e]
    · exact ⟨_, rfl, _, rfl, hz _ (by decide +kernel)⟩
    · exact ⟨_, rfl, _, rfl, hz _ (by decide +kernel)⟩
    · exact ⟨_, rfl, _, rfl, hz _ (by decide +kernel)⟩
    · exact ⟨_, rfl, _, rfl, hz _ (by decide +kernel)⟩
    · exact ⟨_, rfl, _, rfl, hz _ (by decide +kernel)⟩
theorem ok_leaf {k : Str} {rest : List PyData} (hr : k ≠ sRef) (hd : k ≠ sDict) (hs : k ≠ sStream) (sh : Sh 40 (vdD (k, rest, []))) : okV (k, rest, []) :=
  ⟨fun z => absurd z hr, fun z => z.elim (fun z => absurd z hd) (fun z => absurd z hs), List.nodup_nil, Nat.zero_le _, sh⟩
theorem sh_ints {n : Nat} (bs : List Int) : Sh (n + 1) (.tuple (bs.map PyData.int)) := sh_tup.mpr fun d hd => by
  obtain ⟨b, _, rfl⟩ := List.mem_map.mp hd
  exact sh_int n b
theorem sh_vd {n : Nat} {k : Str} {rest : List PyData} {ps : List (List Int × PyData)} (hk : PyData.strOk k = true) (h : ∀ d ∈ rest, Sh n d) : Sh (n + 1) (vdD (k, rest, ps)) := sh_tup.mpr fun d hd => by
  rcases List.mem_cons.mp hd with e | e
  · rw [e]; exact sh_str n hk
  · exact h d e
theorem pr_tv {H : Hp} {v : V} {p : List Int × PyData} (t : TV H v (prD p)) : ∃ b aN y, v = .ref b ∧ H b = some (.tup [.ref aN, y]) ∧ H aN = some (.tup (List.map V.int p.1)) ∧ TV H y p.2 := by
  unfold prD at t
  cases t with
  | tup g ts => cases ts with
    | cons a b => cases b with
      | cons c d =>
        cases d
        cases a with
        | tup g1 t1 =>
          obtain rfl := TVs.of_ints t1
          exact ⟨_, _, _, rfl, g, g1, c⟩
theorem stab_ti : Stab (TupV IntV) := stab_tup stab_int
theorem all2_map {α β γ : Type} {R : α → γ → Prop} {f : β → γ} {xs : List α} {ys : List β} (h : All2 (fun x y => R x (f y)) xs ys) : All2 R xs (ys.map f) := by
  induction h with
  | nil => exact .nil
  | cons r _ ih => exact .cons r ih
theorem fn_false {k : Nat} {f : Addr} {fd : FuncData} {ps : List Str} : FnOk P w K mg base CX0 k f fd ps (fun _ _ _ _ => False) := ⟨fun _ _ _ _ h => h.elim, fun _ _ _ _ _ _ _ _ _ _ _ _ _ h => h.elim⟩
def spV (K : PySem.W.Frag) (d : Nat) : Sp := fun vs H Q _ => ∃ c k : Int, vs = [.int c, .int k, .int (d : Int)] ∧ d ≤ 3 ∧ ∀ H' v x, Same H H' → TV H' v (vdD x) → okV x → Sh (4 * d + 4) (vdD x) → Q v H'
theorem val_step (T : Txt K mg) (d : Nat) (sp' : Sp) (IH : FnOk P w K mg base CX0 (4 - 1 + d) T.f__law_value T.fd__law_value ["cell", "k", "deep"] sp') (hd : d = 0 ∨ ∃ e, d = e + 1 ∧ sp' = spV K e) :
    FnOk P w K mg base CX0 (4 - 1 + d + 1) T.f__law_value T.fd__law_value ["cell", "k", "deep"] (spV K d) := by
  refine T.F__law_value.ok sc__law_value (fun vs H Q E h => ?_) (fun cdv A outer s H vs Q E hr h => ?_)
  · obtain ⟨c, k, rfl, _⟩ := h
    rfl
  · obtain ⟨c, k, rfl, d3, q⟩ := h
    refine ⟨_, (pss_cons (ps_set (i := 3) sc__law_value.nd rfl (Or.inl rfl) (pe_call (ok__law_twice T) (hr.mono (by omega)) (by rfl) T.g__law_twice T.F__law_twice.kp T.b__law_twice .nil pass0 (pa_cons (pv 0) (pa_cons (pv 1) pa_nil))))
      (pss_cons (ps_set (i := 4) sc__law_value.nd rfl (Or.inl rfl) (pe_op op_mod (pv 3) pe_int))
      (pss_cons (ps_set (i := 5) sc__law_value.nd rfl (Or.inl rfl) (pe_op op_fdiv (pv 3) pe_int))
      (pss_cons (ps_if (PW.pt (pw_or (pt_cmpR op_lt (pv 4) pe_int (nomark _)) (pw_or1 (PW.pt (pw_and (pt_cmpR op_eq (pv 2) pe_int (nomark _)) (pw_and1 (pt_cmpR op_gt (pv 4) pe_int (nomark _)))))))) (pss_one (ps_ret (pe_ix ix_listH (pe_lstS (pa_cons (pe_tupS (pa_cons pe_str pa_nil)) (pa_cons (pe_tupS (pa_cons pe_str (pa_cons (pe_op op_mod (pv 5) pe_int) pa_nil))) pa_nil))) (pe_op op_mod (pv 4) pe_int) (fun _ _ => rfl)))) pss_nil)
      (pss_cons (ps_if (pt_cmpR op_eq (pv 4) pe_int (nomark _)) (pss_one (ps_ret (pe_tupS (pa_cons pe_str (pa_cons (pe_ix ix_listH (pe_lstS (pa_cons (pe_op op_mod (pv 5) pe_int) (pa_cons (pe_un un_neg (pv 5)) (pa_cons pe_int (pa_cons (pe_un un_neg pe_int) (pa_cons pe_int (pa_cons (pv 5) pa_nil))))))) (pe_op op_mod (pv 5) pe_int) (fun _ _ => rfl)) pa_nil))))) pss_nil)
      (pss_cons (ps_if (pt_cmpR op_eq (pv 4) pe_int (nomark _)) (pss_one (ps_ret (pe_tupS (pa_cons pe_str (pa_cons (pe_op op_add pe_int (pe_op op_mod (pv 5) pe_int)) pa_nil))))) pss_nil)
      (pss_cons (ps_if (pt_cmpR op_lt (pv 4) pe_int (nomark _)) (pss_one (ps_ret (pe_tupS (pa_cons pe_str (pa_cons (pe_call (ok__law_data T) (hr.mono (by omega)) (by rfl) T.g__law_data T.F__law_data.kp T.b__law_data .nil pass0 (pa_cons (pv 0) (pa_cons (pv 1) (pa_cons (pv 5) pa_nil)))) pa_nil))))) pss_nil)
      (pss_cons (ps_if (pt_cmpR op_lt (pv 4) pe_int (nomark _)) (pss_one (ps_ret (pe_tupS (pa_cons pe_str (pa_cons (pe_call (ok__law_data T) (hr.mono (by omega)) (by rfl) T.g__law_data T.F__law_data.kp T.b__law_data .nil pass0 (pa_cons (pv 0) (pa_cons (pv 1) (pa_cons (pv 5) pa_nil)))) pa_nil))))) pss_nil)
      (pss_cons (ps_if (pt_cmpR op_lt (pv 4) pe_int (nomark _)) (pss_one (ps_ret (pe_tupS (pa_cons pe_str (pa_cons (pe_callTy call_tupleL (by rfl) T.z_tuple (by decide +kernel) (pa_cons (pe_lc (own := [("j", 6)]) (g := (gName 6)) rfl sc__law_value.nd (pi_range1 (by rfl) T.z_range (pa_cons (pe_op op_mod (pv 5) pe_int) pa_nil)) (blkOk_by (own := [("j", 6)]) (N := ["cell", "k", "deep", "draw", "how", "left", "j", "pairs", "key", "pair"]) (sc := defScope s__law_value) (by decide +kernel)) (fun _ _ _ _ _ => (pg_name (i := 6) sc__law_value.nd rfl (Or.inl rfl))) (fun _ _ _ _ _ => pts_nil) (fun _ _ _ _ _ => (pe_call IH hr (by rfl) T.g__law_value T.F__law_value.kp T.b__law_value .nil pass0 (pa_cons (pv 0) (pa_cons (pe_op op_add (pe_op op_add (pe_op op_mul pe_int (pv 1)) (pv 6)) pe_int) (pa_cons (pe_op op_sub (pv 2) pe_int) pa_nil)))))) pa_nil)) pa_nil))))) pss_nil)
      (pss_cons (ps_set (i := 7) sc__law_value.nd rfl (Or.inl rfl) (pe_lstS pa_nil))
      (pss_cons (ps_for PassesOwn.never rfl (pi_range1 (by rfl) T.z_range (pa_cons (pe_op op_mod (pv 5) pe_int) pa_nil)) (pg_name (i := 6) sc__law_value.nd rfl (Or.inl rfl)) (pss_cons (ps_set (i := 8) sc__law_value.nd rfl (Or.inl rfl) (pe_call (ok__law_key T) (hr.mono (by omega)) (by rfl) T.g__law_key T.F__law_key.kp T.b__law_key .nil pass0 (pa_cons (pv 0) (pa_cons (pe_op op_add (pe_op op_mul pe_int (pv 1)) (pv 6)) pa_nil))))
      (pss_one (ps_if (pt_cmpR (op_notInLC (hu5 hr) (cod_tup cod_int) (by decide)) (pv 8) (pe_lc (own := [("pair", 9)]) (g := (gName 9)) rfl sc__law_value.nd (pi_listS (pv 7)) (blkOk_by (own := [("pair", 9)]) (N := ["cell", "k", "deep", "draw", "how", "left", "j", "pairs", "key", "pair"]) (sc := defScope s__law_value) (by decide +kernel)) (fun _ _ _ _ _ => (pg_name (i := 9) sc__law_value.nd rfl (Or.inl rfl))) (fun _ _ _ _ _ => pts_nil) (fun _ _ _ _ _ => (pe_ix ix_tupH (pv 9) pe_int (fun _ _ => rfl)))) (by rfl)) (pss_one (ps_expr (pe_ml (pe_bm PySem.F.plainAttrs_list PySem.F.slot_list_append PySem.F.type_list_append mt_append (pe_mono (pv 7)) (pa_cons (pe_tupS (pa_cons (pv 8) (pa_cons (pe_call IH hr (by rfl) T.g__law_value T.F__law_value.kp T.b__law_value .nil pass0 (pa_cons (pv 0) (pa_cons (pe_op op_add (pe_op op_add (pe_op op_mul pe_int (pv 1)) (pv 6)) pe_int) (pa_cons (pe_op op_sub (pv 2) pe_int) pa_nil)))) pa_nil))) pa_nil))))) pss_nil))))
      (pss_cons (ps_if (pt_cmpR op_eq (pv 4) pe_int (nomark _)) (pss_one (ps_ret (pe_tupS (pa_cons pe_str (pa_cons (pe_callTy call_tupleL (by rfl) T.z_tuple (by decide +kernel) (pa_cons (pv 7) pa_nil)) pa_nil))))) pss_nil)
      (pss_one (ps_ret (pe_tupS (pa_cons pe_str (pa_cons (pe_callTy call_tupleL (by rfl) T.z_tuple (by decide +kernel) (pa_cons (pv 7) pa_nil)) (pa_cons (pe_call (ok__law_data T) (hr.mono (by omega)) (by rfl) T.g__law_data T.F__law_data.kp T.b__law_data .nil pass0 (pa_cons (pv 0) (pa_cons (pe_op op_add (pv 1) pe_int) (pa_cons (pe_op op_fdiv (pv 5) pe_int) pa_nil)))) pa_nil)))))))))))))))))), ?_⟩
    have t0 := tw_nn c k
    refine seq_cut3 (fun σ H1 => σ = [some (.int c), some (.int k), some (.int (d : Int)), some (.int (tw c k)), some (.int (tw c k % 12)), some (.int (tw c k / 12)), none, none, none, none] ∧ H1 = H) ?_ (fun C hC => ?_)
    rotate_left
    · walk_at "vc sp__law_twice"
      exact hC _ _ ⟨rfl, rfl⟩
    rintro σ H1 ⟨rfl, rfl⟩
    obtain ⟨how, hhow⟩ : ∃ how, tw c k % 12 = how := ⟨_, rfl⟩
    obtain ⟨lf, hlf⟩ : ∃ lf, tw c k / 12 = lf := ⟨_, rfl⟩
    have how0 : 0 ≤ how ∧ how < 12 := by omega
    have lf0 : 0 ≤ lf := by omega
    rw [hhow, hlf]
    have leaf : ∀ (H' : Hp) (p : Addr) (k : Str) (vs : List V) (rest : List PyData), Same H1 H' → H' p = some (.tup (.str k :: vs)) → TVs H' vs rest → PyData.strOk k = true → k ≠ sRef → k ≠ sDict → k ≠ sStream → (∀ d' ∈ rest, Sh (4 * d + 3) d') → Q (.ref p) H' := fun H' p k vs rest s g t ho h1 h2 h3 hs => by
      have sh := sh_vd (ps := []) ho hs
      exact q H' _ (k, rest, []) s (.tup g (.cons (.str k) t)) (ok_leaf h1 h2 h3 (sh.mono (by omega))) sh
    refine seq_cut (fun σ H2 => σ = [some (.int c), some (.int k), some (.int (d : Int)), some (.int (tw c k)), some (.int how), some (.int lf), none, none, none, none] ∧ H2 = H1 ∧ ¬ how < 2 ∧ (d = 0 → ¬ 7 < how)) ?_ (fun C hC => ?_)
    rotate_left
    · have two : NewH H1 (HO.tup [V.str (Str.ofString "none")]) fun p H' => NewH H' (HO.tup [V.str (Str.ofString "bool"), V.int (lf % 2)]) fun p_1 H' => NewH H' (HO.lst [V.ref p, V.ref p_1]) fun p H' => ∃ x, H' p = some (HO.lst x) ∧ ∃ x_1, atI x (how % 2) = some x_1 ∧ Q x_1 H' := by
        intro p2 H2 s2 n2 g2 p3 H3 s3 n3 g3 p4 H4 s4 n4 g4
        refine ⟨_, g4, ?_⟩
        rcases (show how % 2 = 0 ∨ how % 2 = 1 by omega) with e | e <;> rw [e]
        · exact ⟨_, rfl, leaf H4 p2 (Str.ofString "none") [] [] (s2.trans (s3.trans s4)) ((s3.trans s4) _ _ g2) .nil (by decide +kernel) (by decide +kernel) (by decide +kernel) (by decide +kernel) (fun _ z => nomatch z)⟩
        · exact ⟨_, rfl, leaf H4 p3 (Str.ofString "bool") [_] [.int (lf % 2)] (s2.trans (s3.trans s4)) (s4 _ _ g3) (.cons (.int _) .nil) (by decide +kernel) (by decide +kernel) (by decide +kernel) (by decide +kernel) (fun d' z => by rw [List.mem_singleton.mp z]; exact sh_int _ _)⟩
      walk_at "vc"
      refine iteP (fun _ => two) (fun h2 => iteP (fun hd0 => iteP (fun _ => two) (fun h7 => hC _ _ ⟨rfl, rfl, h2, fun _ => h7⟩)) (fun hd0 => hC _ _ ⟨rfl, rfl, h2, fun z => absurd (by omega) hd0⟩))
    rintro σ H2 ⟨rfl, rfl, hge, hd7⟩
    refine seq_cut4 (fun σ H3 => σ = [some (.int c), some (.int k), some (.int (d : Int)), some (.int (tw c k)), some (.int how), some (.int lf), none, none, none, none] ∧ H3 = H2 ∧ 8 ≤ how) ?_ (fun C hC => ?_)
    rotate_left
    · walk_at "vc sp__law_data"
      refine iteP (fun _ p3 H3 s3 n3 g3 => ?_) fun h2' => iteP (fun _ p3 H3 s3 n3 g3 => ?_) fun h3' => iteP (fun _ => ⟨by omega, fun H3 p3 bs s3 n3 g3 l3 p4 H4 s4 n4 g4 => ?_⟩) fun h6 => iteP (fun _ => ⟨by omega, fun H3 p3 bs s3 n3 g3 l3 p4 H4 s4 n4 g4 => ?_⟩) fun h8 => hC _ _ ⟨rfl, rfl, by omega⟩
      · obtain ⟨v, hv, _⟩ := atI_lits (xs := [lf % 100, -lf, 2147483647, -2147483647, 0, lf]) (k := lf % 6) (by omega) (by simp only [List.length_cons, List.length_nil]; omega)
        exact ⟨_, g3, _, hv, fun p4 H4 s4 n4 g4 => leaf H4 p4 _ _ [.int v] (s3.trans s4) g4 (.cons (.int _) .nil) (by decide +kernel) (by decide +kernel) (by decide +kernel) (by decide +kernel) (fun d' z => by rw [List.mem_singleton.mp z]; exact sh_int _ _)⟩
      · have sh : Sh (4 * d + 4) (vdD (sRef, [.int (1 + lf % 12)], [])) := sh_vd (by decide +kernel) (fun d' z => by rw [List.mem_singleton.mp z]; exact sh_int _ _)
        exact q H3 _ (sRef, [.int (1 + lf % 12)], []) s3 (.tup g3 (.cons (.str _) (.cons (.int _) .nil))) ⟨fun _ => ⟨_, rfl⟩, fun z => absurd (show sRef = sDict ∨ sRef = sStream from z) (by decide +kernel), List.nodup_nil, Nat.zero_le _, sh.mono (by omega)⟩ sh
      · exact leaf H4 p4 _ _ [.tuple (bs.map PyData.int)] (s3.trans s4) g4 (.cons (.tup (s4 _ _ g3) (TVs.ints bs)) .nil) (by decide +kernel) (by decide +kernel) (by decide +kernel) (by decide +kernel) (fun d' z => by rw [List.mem_singleton.mp z]; exact sh_ints bs)
      · exact leaf H4 p4 _ _ [.tuple (bs.map PyData.int)] (s3.trans s4) g4 (.cons (.tup (s4 _ _ g3) (TVs.ints bs)) .nil) (by decide +kernel) (by decide +kernel) (by decide +kernel) (by decide +kernel) (fun d' z => by rw [List.mem_singleton.mp z]; exact sh_ints bs)
    rintro σ H3 ⟨rfl, rfl, h8⟩
    obtain ⟨e, rfl, rfl⟩ : ∃ e, d = e + 1 ∧ sp' = spV K e := by
      rcases hd with rfl | h
      · exact absurd (show 7 < how by omega) (hd7 rfl)
      · exact h
    obtain ⟨N, hN⟩ := natOf (show 0 ≤ lf % 4 by omega)
    refine seq_cut2 (fun σ H4 => ∃ (pp : Addr) (v6 : Option V), σ = [some (.int c), some (.int k), some (.int ((e + 1 : Nat) : Int)), some (.int (tw c k)), some (.int how), some (.int lf), v6, some (.ref pp), none, none] ∧ Same H3 H4 ∧ H3 pp = none ∧ H4 pp = some (.lst [])) ?_ (fun C hC => ?_)
    rotate_left
    · walk_at "vc"
      rw [hN, Int.toNat_natCast]
      refine iteP (fun _ => ⟨by omega, by omega, lcW (walkR (n := N)) (fun D i H' => Same H3 H' ∧ ∃ us ds, H' D = some (.lst us) ∧ All2 (TV H') us ds ∧ (∀ d' ∈ ds, Sh (4 * e + 4) d') ∧ us.length = i) (fun D H' s n g => ⟨s, [], [], g, .nil, fun _ z => (nomatch z), rfl⟩) (fun _ _ _ _ _ _ => True.intro) (fun D i x H4 H5 hi hD p y => ?_) (fun D H4 hD p => ?_)⟩) (fun _ pp H4 s4 n4 g4 => hC _ _ ⟨pp, none, rfl, s4, n4, g4⟩)
      · obtain ⟨s4, us, ds, gD, hu, hs, hl⟩ := p
        obtain ⟨rfl, rfl⟩ := y
        walk_at "vc"
        refine ⟨_, _, by rw [show ((e : Int) + 1 - 1) = (e : Int) by omega], by omega, fun H6 v x s6 tv ok sh => ⟨us, s6 _ _ gD, cnt_lt (by omega), same_upd2 (s4.trans s6) hD, ds ++ [vdD x], ?_, ?_, by omega⟩⟩
        · exact ((hu.mono fun v d t => TV.mono s6 t).mono fun v d t => TV.upd (s6 _ _ gD) t).snoc (TV.upd (s6 _ _ gD) tv)
        · intro d' hd'
          rcases List.mem_append.mp hd' with z | z
          · exact hs d' z
          · rw [List.mem_singleton.mp z]; exact sh
      · obtain ⟨s4, us, ds, gD, hu, hs, hl⟩ := p
        refine ⟨D, rfl, us, gD, fun p5 H5 s5 n5 g5 p6 H6 s6 n6 g6 => ?_⟩
        have s56 := s5.trans s6
        exact leaf H6 p6 _ _ [.tuple ds] (s4.trans s56) g6 (.cons (.tup (s6 _ _ g5) (TVs.of (hu.mono fun v d t => TV.mono s56 t))) .nil) (by decide +kernel) (by decide +kernel) (by decide +kernel) (by decide +kernel) (fun d' z => by rw [List.mem_singleton.mp z]; exact (sh_tup.mpr hs).mono (by omega))
    rintro σ H4 ⟨pp, v6, rfl, s4, npp, gpp⟩
    refine seq_cut (fun σ H5 => ∃ (v6 v8 v9 : Option V) (us : List V) (ps : List (List Int × PyData)), σ = [some (.int c), some (.int k), some (.int ((e + 1 : Nat) : Int)), some (.int (tw c k)), some (.int how), some (.int lf), v6, some (.ref pp), v8, v9] ∧ Same H3 H5 ∧ H5 pp = some (.lst us) ∧ All2 (fun v p => TV H5 v (prD p)) us ps ∧ (ps.map (·.1)).Nodup ∧ (∀ p ∈ ps, Sh (4 * e + 4) p.2) ∧ ps.length ≤ 3) ?_ (fun C hC => ?_)
    rotate_left
    · walk_at "vc"
      rw [hN, Int.toNat_natCast]
      refine ⟨by omega, by omega, lpW (walkR (n := N)) (fun i σ H5 => ∃ (v6 v8 v9 : Option V) (us : List V) (ps : List (List Int × PyData)), σ = [some (.int c), some (.int k), some (.int ((e + 1 : Nat) : Int)), some (.int (tw c k)), some (.int how), some (.int lf), v6, some (.ref pp), v8, v9] ∧ Same H3 H5 ∧ H5 pp = some (.lst us) ∧ All2 (fun v p => TV H5 v (prD p)) us ps ∧ (ps.map (·.1)).Nodup ∧ (∀ p ∈ ps, Sh (4 * e + 4) p.2) ∧ us.length ≤ i) ⟨_, _, _, [], [], rfl, s4, gpp, .nil, List.nodup_nil, (fun _ z => nomatch z), Nat.le_refl _⟩ (fun _ _ _ _ _ => True.intro) ?_ ?_⟩
      · rintro i x σ H5 H6 hi ⟨v6, v8, v9, us, ps, rfl, s5, gu, hu, hnd, hsh, hul⟩ ⟨rfl, rfl⟩
        walk_at "vc sp__law_key"
        intro H7 aK bs s7 nK gK lK
        have gu7 := s7 _ _ gu
        have hu7 := hu.mono fun v p t => TV.mono s7 t
        refine ⟨⟨_, gu7⟩, lcW (walkL (xs := us)) (fun D j H' => Same H7 H' ∧ ∃ vs, H' D = some (.lst vs) ∧ All2 (TupV IntV H') vs ((ps.map (·.1)).take j) ∧ vs.length = j) (fun D H' s n g => ⟨s, [], g, .nil, rfl⟩) (fun D j H' _ _ h => h.1 _ _ gu7) (fun D j y H8 H9 hj hD h y9 => ?_) (fun D H8 hD h => ?_)⟩
        · obtain ⟨s8, vs, gv, hv, hvl⟩ := h
          obtain ⟨rfl, hy⟩ := y9
          obtain ⟨p, hp, tp⟩ := hu7.at hy
          obtain ⟨b, aN, y2, rfl, gb, gN, ty⟩ := pr_tv tp
          have gb8 := s8 _ _ gb
          walk_at "vc gb8"
          have hj' := hj
          refine ⟨_, gv, cnt_lt (by omega), same_upd2 s8 hD, ?_, by omega⟩
          rw [take_map_succ (·.1) hp]
          exact (hv.mono (stab_ti.upd gv)).snoc (stab_ti.upd gv _ _ ⟨aN, _, rfl, s8 _ _ gN, ints_all p.1⟩)
        · obtain ⟨s8, vs, gv, hv, hvl⟩ := h
          have hl := hu7.len
          rw [hl, show ps.length = (ps.map (·.1)).length by rw [List.length_map], List.take_length] at hv
          have gu8 := s8 _ _ gu7
          have hu8 := hu7.mono fun v p t => TV.mono s8 t
          refine ⟨bs, ⟨aK, _, rfl, s8 _ _ gK, ints_all bs⟩, ps.map (·.1), ⟨D, vs, rfl, gv, hv⟩, ?_⟩
          by_cases hm : bs ∈ ps.map (·.1)
          · exact ifN_T hm ⟨s5.trans (s7.trans s8), us, gu8, ps, hu8, hnd, hsh, by omega⟩
          · refine ifN_F hm ⟨⟨_, gu8⟩, c, 13 * k + (i : Int) + 1, by rw [show ((e : Int) + 1 - 1) = (e : Int) by omega], by omega, fun H9 v x s9 tv okx shx p10 H10 s10 n10 g10 => ?_⟩
            have s810 := s9.trans s10
            have gu10 := s810 _ _ gu8
            refine ⟨us, gu10, cnt_lt (by omega), same_upd2 (s5.trans (s7.trans (s8.trans s810))) npp, ps ++ [(bs, vdD x)], ?_, ?_, ?_, hul⟩
            · refine ((hu8.mono fun v p t => TV.mono s810 t).mono fun v p t => TV.upd gu10 t).snoc (TV.upd gu10 ?_)
              exact .tup g10 (.cons (.tup (s10 _ _ (s9 _ _ (s8 _ _ gK))) (TVs.ints bs)) (.cons (tv.mono s10) .nil))
            · rw [List.map_append, List.nodup_append]
              refine ⟨hnd, by simp, fun a ha b hb => ?_⟩
              simp only [List.map_cons, List.map_nil, List.mem_singleton] at hb
              subst hb
              exact fun z => hm (z ▸ ha)
            · intro p hp
              rcases List.mem_append.mp hp with z | z
              · exact hsh p z
              · rw [List.mem_singleton.mp z]; exact shx
      · rintro σ H5 ⟨v6, v8, v9, us, ps, rfl, s5, gu, hu, hnd, hsh, hul⟩
        exact hC _ _ ⟨_, _, _, us, ps, rfl, s5, gu, hu, hnd, hsh, by have := hu.len; omega⟩
    rintro σ H5 ⟨v6, v8, v9, us, ps, rfl, s5, gu, hu, hnd, hsh, hps⟩
    walk_at "vc gu"
    have shp : ∀ p ∈ ps, Sh (4 * e + 5) (prD p) := fun p hp => sh_tup.mpr fun d' hd' => by
      simp only [List.mem_cons, List.not_mem_nil, or_false] at hd'
      rcases hd' with rfl | rfl
      · exact sh_ints p.1
      · exact hsh p hp
    have sht : Sh (4 * e + 6) (.tuple (ps.map prD)) := sh_tup.mpr fun d' hd' => by
      obtain ⟨p, hp, rfl⟩ := List.mem_map.mp hd'
      exact shp p hp
    have tps : ∀ H', Same H5 H' → TVs H' us (ps.map prD) := fun H' s => TVs.of (all2_map (hu.mono fun v p t => TV.mono s t))
    refine iteP (fun _ p6 H6 s6 n6 g6 p7 H7 s7 n7 g7 => ?_) (fun _ p6 H6 s6 n6 g6 => ⟨c, k + 3, _, rfl, by omega, fun H7 p7 bs s7 n7 g7 l7 p8 H8 s8 n8 g8 => ?_⟩)
    · have sh : Sh (4 * (e + 1) + 4) (vdD (sDict, [.tuple (ps.map prD)], ps)) := sh_vd (by decide +kernel) (fun d' z => by rw [List.mem_singleton.mp z]; exact sht.mono (by omega))
      exact q H7 _ (sDict, [.tuple (ps.map prD)], ps) (s5.trans (s6.trans s7)) (.tup g7 (.cons (.str _) (.cons (.tup (s7 _ _ g6) (tps _ (s6.trans s7))) .nil))) ⟨fun z => absurd (show sDict = sRef from z) (by decide +kernel), fun _ => ⟨_, rfl⟩, hnd, hps, sh.mono (by omega)⟩ sh
    · have sh : Sh (4 * (e + 1) + 4) (vdD (sStream, [.tuple (ps.map prD), .tuple (bs.map PyData.int)], ps)) := sh_vd (by decide +kernel) (fun d' z => by
        simp only [List.mem_cons, List.not_mem_nil, or_false] at z
        rcases z with rfl | rfl
        · exact sht.mono (by omega)
        · exact sh_ints bs)
      exact q H8 _ (sStream, [.tuple (ps.map prD), .tuple (bs.map PyData.int)], ps) (s5.trans (s6.trans (s7.trans s8))) (.tup g8 (.cons (.str _) (.cons (.tup ((s7.trans s8) _ _ g6) (tps _ (s6.trans (s7.trans s8)))) (.cons (.tup (s8 _ _ g7) (TVs.ints bs)) .nil)))) ⟨fun z => absurd (show sStream = sRef from z) (by decide +kernel), fun _ => ⟨_, rfl⟩, hnd, hps, sh.mono (by omega)⟩ sh
theorem ok__law_value (T : Txt K mg) : ∀ d : Nat, FnOk P w K mg base CX0 (4 + d) T.f__law_value T.fd__law_value ["cell", "k", "deep"] (spV K d)
  | 0 => val_step T 0 _ fn_false (.inl rfl)
  | d + 1 => by
    have ih := ok__law_value T d
    rw [show 4 + d = 4 - 1 + (d + 1) by omega] at ih
    have := val_step T (d + 1) _ ih (.inr ⟨d, rfl, rfl⟩)
    rw [show 4 - 1 + (d + 1) + 1 = 4 + (d + 1) by omega] at this
    exact this
def sp__law_find (K : PySem.W.Frag) : Sp := fun vs H Q _ => ∃ (v : V) (n : Int) (os : List (Int × VD)), vs = [v, .int n] ∧ (BookV H v os) ∧ (∀ x, OV H x (lkF os n) → Q x H)
theorem ok__law_find (T : Txt K mg) : FnOk P w K mg base CX0 1 T.f__law_find T.fd__law_find ["book", "number"] (sp__law_find K) := by
  refine T.F__law_find.ok sc__law_find (fun vs H Q E h => ?_) (fun cdv A outer s H vs Q E hr h => ?_)
  · obtain ⟨v, n, os, rfl, _⟩ := h
    rfl
  · obtain ⟨v, n, os, rfl, hb, q⟩ := h
    refine ⟨_, (pss_cons (ps_for PassesOwn.never rfl (pi_tupS (pe_ix ix_tupH (pv 0) pe_int (fun _ _ => rfl))) (pg_tupS (n := 2) (by rfl) (pgs_cons (pg_name (i := 2) sc__law_find.nd rfl (Or.inl rfl)) (pgs_cons (pg_name (i := 3) sc__law_find.nd rfl (Or.inl rfl)) pgs_nil))) (pss_one (ps_if (pt_cmpR op_eq (pv 2) (pv 1) (nomark _)) (pss_one (ps_ret (pv 3))) pss_nil)))
      (pss_one (ps_ret pe_non))), ?_⟩
    obtain ⟨a, r, p, xs, rfl, ga, gp, ht, ho⟩ := hb
    walk_at "vc ga gp"
    refine lpW (walkT (xs := xs)) (fun i σ H' => ∃ v2 v3 : Option V, σ = [some (.ref a), some (.int n), v2, v3] ∧ H' = H ∧ ∀ o ∈ os.take i, o.1 ≠ n) ⟨_, _, rfl, rfl, fun _ z => (nomatch z)⟩ ?_ ?_ ?_
    · rintro i σ H' _ ⟨_, _, _, rfl, _⟩
      exact gp
    · rintro i x σ H1 H2 hi ⟨v2, v3, rfl, rfl, hn⟩ ⟨rfl, hx⟩
      obtain ⟨d, hd, td⟩ := ht.all.at hx
      rw [List.getElem?_map] at hd
      obtain ⟨o, hoi, rfl⟩ := Option.map_eq_some_iff.mp hd
      obtain ⟨b, y, rfl, gb, ty⟩ := ob_tv td
      walk_at "vc gb"
      refine iteP (fun e => ?_) (fun e => ?_)
      · refine q y ?_
        have hf : (os.find? fun o => decide (o.1 = n)) = some o := by
          rw [List.find?_eq_some_iff_getElem]
          have hl := (List.getElem?_eq_some_iff.mp hoi)
          refine ⟨by simpa using e, i, hl.1, hl.2, fun j hj => ?_⟩
          have hjl : j < os.length := Nat.lt_trans hj hl.1
          have := hn os[j] (by
            rw [List.mem_take_iff_getElem]
            exact ⟨j, by omega, rfl⟩)
          simpa using this
        unfold lkF
        rw [hf]
        exact ⟨ty, ho _ (List.mem_of_getElem? hoi)⟩
      · intro u hu
        rw [take_succ hoi] at hu
        rcases List.mem_append.mp hu with h | h
        · exact hn u h
        · rw [List.mem_singleton.mp h]; exact e
    · rintro σ H1 ⟨v2, v3, rfl, rfl, hn⟩
      have hl := ht.all.len
      rw [List.length_map] at hl
      rw [hl, List.take_length] at hn
      walk_at "vc"
      refine q .non ?_
      rw [lk_no hn]
      rfl
def sp__law_follow (K : PySem.W.Frag) : Sp := fun vs H Q _ => ∃ (b v : V) (o : Option VD) (l : Int) (os : List (Int × VD)), vs = [b, v, .int l] ∧ (BookV H b os) ∧ (OV H v o) ∧ (0 ≤ l) ∧ (∀ x p H', Same H H' → H p = none → H' p = some (.tup [x, .int (folF os 64 o l).2]) → OV H' x (folF os 64 o l).1 → Q (.ref p) H')
theorem ok__law_follow (T : Txt K mg) : FnOk P w K mg base CX0 2 T.f__law_follow T.fd__law_follow ["book", "value", "left"] (sp__law_follow K) := by
  refine T.F__law_follow.ok sc__law_follow (fun vs H Q E h => ?_) (fun cdv A outer s H vs Q E hr h => ?_)
  · obtain ⟨b, v, o, l, os, rfl, _⟩ := h
    rfl
  · obtain ⟨b, v, o, l, os, rfl, hb, hv, h0, q⟩ := h
    refine ⟨_, (pss_cons (ps_for PassesOwn.never rfl (pi_range1 (by rfl) T.z_range (pa_cons pe_int pa_nil)) (pg_name (i := 3) sc__law_follow.nd rfl (Or.inl rfl)) (pss_cons (ps_if (PW.pt (pw_or (pt_cmpR op_isN (pv 1) pe_non (nomark _)) (pw_or1 (pt_cmpR op_ne (pe_ix ix_tupH (pv 1) pe_int (fun _ _ => rfl)) pe_str (nomark _))))) (pss_one (ps_ret (pe_tupS (pa_cons (pv 1) (pa_cons (pv 2) pa_nil))))) pss_nil)
      (pss_cons (ps_if (pt_cmpR op_eq (pv 3) pe_int (nomark _)) (pss_one (ps_ret (pe_tupS (pa_cons pe_non (pa_cons (pv 2) pa_nil))))) pss_nil)
      (pss_cons (ps_if (pt_cmpR op_lt (pv 2) pe_int (nomark _)) (pss_one (ps_ret (pe_tupS (pa_cons pe_non (pa_cons pe_int pa_nil))))) pss_nil)
      (pss_cons (ps_set (i := 2) sc__law_follow.nd rfl (Or.inl rfl) (pe_op op_sub (pv 2) pe_int))
      (pss_one (ps_set (i := 1) sc__law_follow.nd rfl (Or.inl rfl) (pe_call (ok__law_find T) hr (by rfl) T.g__law_find T.F__law_find.kp T.b__law_find .nil pass0 (pa_cons (pv 0) (pa_cons (pe_ix ix_tupH (pv 1) pe_int (fun _ _ => rfl)) pa_nil))))))))))
      (pss_one (ps_ret (pe_tupS (pa_cons pe_non (pa_cons (pv 2) pa_nil)))))), ?_⟩
    walk_at "vc"
    refine lpW (walkR (n := 65)) (fun i σ H' => ∃ (v : V) (o' : Option VD) (l' : Int) (v3 : Option V), σ = [some b, some v, some (.int l'), v3] ∧ Same H H' ∧ OV H' v o' ∧ 0 ≤ l' ∧ i ≤ 64 ∧ folF os 64 o l = folF os (64 - i) o' l') ⟨v, o, l, _, rfl, Same.refl _, hv, h0, by omega, rfl⟩ (fun _ _ _ _ _ => True.intro) ?_ ?_
    · rintro i x σ H1 H2 hi ⟨v, o', l', v3, rfl, s1, hv1, hl0, hi6, hf⟩ ⟨rfl, rfl⟩
      have hb2 := hb.mono s1
      cases o' with
      | none =>
        obtain rfl := hv1
        rw [folF_none] at hf
        walk_at "vc"
        exact fun p H3 s3 n3 g3 => q .non p H3 (s1.trans s3) (s1.free n3) (by rw [hf]; exact g3) (by rw [hf]; exact rfl)
      | some x =>
        obtain ⟨tx, okx⟩ := hv1
        obtain ⟨pv, ys, rfl, gv, tys⟩ := vd_tv tx
        by_cases hk : x.1 = sRef
        · have hkr : x.1 = Str.ofString "ref" := hk
          obtain ⟨m, hm⟩ := okx.ref hk
          rw [hm] at tys
          cases tys with
          | cons t1 t2 =>
            cases t1
            cases t2
            have hrn : refN x = m := by unfold refN; rw [hm]
            walk_at "vc gv"
            refine ifN_T hkr ?_
            refine iteP (fun e64 p H3 s3 n3 g3 => ?_) (fun e64 => ?_)
            · have hi64 : i = 64 := by omega
              subst hi64
              rw [Nat.sub_self, folF, show isRef (some x) = true from decide_eq_true hk, if_pos rfl] at hf
              exact q .non p H3 (s1.trans s3) (s1.free n3) (by rw [hf]; exact g3) (by rw [hf]; exact rfl)
            · rw [show 64 - i = (64 - (i + 1)) + 1 by omega, folF, if_pos hk, hrn] at hf
              refine iteP (fun hl1 p H3 s3 n3 g3 => ?_) (fun hl1 => ?_)
              · rw [if_pos hl1] at hf
                exact q .non p H3 (s1.trans s3) (s1.free n3) (by rw [hf]; exact g3) (by rw [hf]; exact rfl)
              · rw [if_neg hl1] at hf
                refine ⟨b, m, os, rfl, hb2, fun x hx => ⟨s1, _, hx, by omega, by omega, hf⟩⟩
        · rw [folF_other _ _ hk] at hf
          have hkr : ¬ x.1 = Str.ofString "ref" := hk
          walk_at "vc gv"
          refine ifN_F hkr fun p H3 s3 n3 g3 => q (.ref pv) p H3 (s1.trans s3) (s1.free n3) (by rw [hf]; exact g3) (by rw [hf]; exact ⟨tx.mono s3, okx⟩)
    · rintro σ H1 ⟨v, o', l', v3, rfl, s1, hv1, hl0, hi6, hf⟩
      omega
def sp__law_chain (K : PySem.W.Frag) : Sp := fun vs H Q _ => ∃ (c : Int), vs = [.int c] ∧ (0 ≤ c) ∧ (∀ v H' os, Same H H' → BookV H' v os → Asc os → os.length ≤ 1000 → Q v H')
theorem ok__law_chain (T : Txt K mg) : FnOk P w K mg base CX0 1 T.f__law_chain T.fd__law_chain ["cell"] (sp__law_chain K) := by
  refine T.F__law_chain.ok sc__law_chain (fun vs H Q E h => ?_) (fun cdv A outer s H vs Q E hr h => ?_)
  · obtain ⟨c, rfl, _⟩ := h
    rfl
  · obtain ⟨c, rfl, hc, q⟩ := h
    refine ⟨_, (pss_cons (ps_set (i := 1) sc__law_chain.nd rfl (Or.inl rfl) (pe_op op_add pe_int (pe_op op_mod (pv 0) pe_int)))
      (pss_cons (ps_set (i := 2) sc__law_chain.nd rfl (Or.inl rfl) (pe_lstS pa_nil))
      (pss_cons (ps_for PassesOwn.never rfl (pi_range1 (by rfl) T.z_range (pa_cons (pv 1) pa_nil)) (pg_name (i := 3) sc__law_chain.nd rfl (Or.inl rfl)) (pss_one (ps_expr (pe_ml (pe_bm PySem.F.plainAttrs_list PySem.F.slot_list_append PySem.F.type_list_append mt_append (pe_mono (pv 2)) (pa_cons (pe_tupS (pa_cons (pe_op op_add (pv 3) pe_int) (pa_cons (pe_tupS (pa_cons pe_str (pa_cons (pe_op op_add (pv 3) pe_int) pa_nil))) pa_nil))) pa_nil))))))
      (pss_cons (ps_set (i := 4) sc__law_chain.nd rfl (Or.inl rfl) (pe_ix ix_listH (pe_lstS (pa_cons (pe_tupS (pa_cons pe_str (pa_cons pe_int pa_nil))) (pa_cons (pe_tupS (pa_cons pe_str (pa_cons pe_int pa_nil))) (pa_cons (pe_tupS (pa_cons pe_str (pa_cons pe_int pa_nil))) (pa_cons (pe_tupS (pa_cons pe_str pa_nil)) (pa_cons (pe_tupS (pa_cons pe_str (pa_cons (pe_op op_add pe_int (pe_op op_fdiv (pv 1) pe_int)) pa_nil))) pa_nil)))))) (pe_op op_mod (pe_op op_fdiv (pv 0) pe_int) pe_int) (fun _ _ => rfl)))
      (pss_cons (ps_expr (pe_ml (pe_bm PySem.F.plainAttrs_list PySem.F.slot_list_append PySem.F.type_list_append mt_append (pe_mono (pv 2)) (pa_cons (pe_tupS (pa_cons (pe_op op_add (pv 1) pe_int) (pa_cons (pv 4) pa_nil))) pa_nil))))
      (pss_one (ps_ret (pe_tupS (pa_cons (pe_callTy call_tupleL (by rfl) T.z_tuple (by decide +kernel) (pa_cons (pv 2) pa_nil)) (pa_cons pe_int pa_nil)))))))))), ?_⟩
    walk_at "vc"
    intro p0 H0 s0 n0 g0
    obtain ⟨N, hN⟩ := natOf (show 0 ≤ 1 + c % 70 by omega)
    rw [hN, Int.toNat_natCast]
    have hob : ∀ i : Nat, ((List.range (i + 1)).map fun (j : Nat) => (((j : Int) + 1, refV ((j : Int) + 2)) : Int × VD)) = ((List.range i).map fun (j : Nat) => (((j : Int) + 1, refV ((j : Int) + 2)) : Int × VD)) ++ [((i : Int) + 1, refV ((i : Int) + 2))] := fun i => by rw [List.range_succ, List.map_append]; rfl
    refine ⟨by omega, by omega, lpW (walkR (n := N)) (fun i σ H' => ∃ (v3 v4 : Option V) (us : List V), σ = [some (.int c), some (.int (N : Int)), some (.ref p0), v3, v4] ∧ Same H H' ∧ H' p0 = some (.lst us) ∧ us.length = i ∧ All2 (fun v o => TV H' v (obD o)) us ((List.range i).map fun (j : Nat) => (((j : Int) + 1, refV ((j : Int) + 2)) : Int × VD))) ⟨_, _, [], rfl, s0, g0, rfl, .nil⟩ (fun _ _ _ _ _ => True.intro) ?_ ?_⟩
    · rintro i x σ H1 H2 hi ⟨v3, v4, us, rfl, s1, gu, hul, hu⟩ ⟨rfl, rfl⟩
      walk_at "vc gu"
      intro p3 H3 s3 n3 g3 p4 H4 s4 n4 g4
      have gu4 := (s3.trans s4) _ _ gu
      refine ⟨_, gu4, cnt_lt (by omega), same_upd2 (s1.trans (s3.trans s4)) n0, by omega, ?_⟩
      rw [hob]
      exact ((hu.mono fun v o t => TV.mono (s3.trans s4) t).mono fun v o t => TV.upd gu4 t).snoc (TV.upd gu4 (.tup g4 (.cons (.int _) (.cons (.tup (s4 _ _ g3) (.cons (.str _) (.cons (.int _) .nil))) .nil))))
    · rintro σ H1 ⟨v3, v4, us, rfl, s1, gu, hul, hu⟩
      walk_at "vc gu"
      intro p1 H2 s2 n2 g2 p2 H3 s3 n3 g3 p3 H4 s4 n4 g4 p4 H5 s5 n5 g5 p5 H6 s6 n6 g6 p6 H7 s7 n7 g7
      refine ⟨_, g7, ?_⟩
      have s27 := s2.trans (s3.trans (s4.trans (s5.trans (s6.trans s7))))
      have gu7 := s27 _ _ gu
      obtain ⟨y, xv, hy, ty, oky⟩ : ∃ (y : V) (xv : VD), atI [V.ref p1, V.ref p2, V.ref p3, V.ref p4, V.ref p5] (c / 70 % 5) = some y ∧ TV H7 y (vdD xv) ∧ okV xv := by
        have r : ∀ (p : Addr) (n : Int), H7 p = some (.tup [.str sRef, .int n]) → TV H7 (.ref p) (vdD (refV n)) := fun p n g => .tup g (.cons (.str _) (.cons (.int _) .nil))
        rcases (show c / 70 % 5 = 0 ∨ c / 70 % 5 = 1 ∨ c / 70 % 5 = 2 ∨ c / 70 % 5 = 3 ∨ c / 70 % 5 = 4 by omega) with e | e | e | e | e <;> rw [e]
        · exact ⟨_, (Str.ofString "int", [.int 5], []), rfl, .tup ((s3.trans (s4.trans (s5.trans (s6.trans s7)))) _ _ g2) (.cons (.str _) (.cons (.int _) .nil)), ok_leaf (by decide +kernel) (by decide +kernel) (by decide +kernel) ((sh_vd (n := 1) (by decide +kernel) (fun d' z => by rw [List.mem_singleton.mp z]; exact sh_int _ _)).mono (by decide))⟩
        · exact ⟨_, refV 1, rfl, r p2 1 ((s4.trans (s5.trans (s6.trans s7))) _ _ g3), ok_ref _⟩
        · exact ⟨_, refV 9000, rfl, r p3 9000 ((s5.trans (s6.trans s7)) _ _ g4), ok_ref _⟩
        · exact ⟨_, (Str.ofString "none", [], []), rfl, .tup ((s6.trans s7) _ _ g5) (.cons (.str _) .nil), ok_leaf (by decide +kernel) (by decide +kernel) (by decide +kernel) ((sh_vd (n := 1) (by decide +kernel) (fun _ z => by cases z)).mono (by decide))⟩
        · exact ⟨_, refV (1 + (N : Int) / 2), rfl, r p5 _ (s7 _ _ g6), ok_ref _⟩
      refine ⟨y, hy, ⟨_, gu7⟩, fun p8 H8 s8 n8 g8 => ?_⟩
      have gu8 := s8 _ _ gu7
      refine ⟨us, gu8, cnt_lt (by omega), fun p9 H9 s9 n9 g9 p10 H10 s10 n10 g10 => ?_⟩
      have hN71 : N ≤ 71 := by omega
      refine q (.ref p10) H10 (((List.range N).map fun (j : Nat) => (((j : Int) + 1, refV ((j : Int) + 2)) : Int × VD)) ++ [((N : Int) + 1, xv)]) (((same_upd2 (s1.trans (s27.trans s8)) n0).trans s9).trans s10) ⟨p10, _, p9, _, rfl, g10, s10 _ _ g9, ?_, ?_⟩ ?_ ?_
      · refine TVs.of (all2_map ?_)
        have h1 : All2 (fun v o => TV (upd H8 p0 (.lst (us ++ [V.ref p8]))) v (obD o)) us ((List.range N).map fun (j : Nat) => (((j : Int) + 1, refV ((j : Int) + 2)) : Int × VD)) := (hu.mono fun v o t => TV.mono (s27.trans s8) t).mono fun v o t => TV.upd gu8 t
        have h2 := h1.snoc (x := V.ref p8) (y := ((N : Int) + 1, xv)) (TV.upd gu8 (.tup g8 (.cons (.int _) (.cons (ty.mono s8) .nil))))
        exact h2.mono fun v o t => TV.mono (s9.trans s10) t
      · intro o ho
        rcases List.mem_append.mp ho with z | z
        · obtain ⟨j, _, rfl⟩ := List.mem_map.mp z
          exact ok_ref _
        · rw [List.mem_singleton.mp z]; exact oky
      · refine List.pairwise_append.mpr ⟨?_, List.pairwise_singleton _ _, fun a ha b hb => ?_⟩
        · rw [List.pairwise_map]
          exact List.pairwise_lt_range.imp fun h => by show (_ : Int) + 1 < _ + 1; omega
        · obtain ⟨j, hj, rfl⟩ := List.mem_map.mp ha
          rw [List.mem_singleton.mp hb]
          have := List.mem_range.mp hj
          show (j : Int) + 1 < (N : Int) + 1
          omega
      · rw [List.length_append, List.length_map, List.length_range]; simp only [List.length_cons, List.length_nil]; omega
def sp__law_book (K : PySem.W.Frag) (a : Addr) (ns : List Int) : Sp := fun vs H Q _ => ∃ (at_ : Nat), vs = [.ref a, .int (at_ : Int)] ∧ (SqL K H a (List.map V.int ns)) ∧ (∀ v H' os, Same H H' → BookV H' v os → Asc os → os.length ≤ 1000 → Q v H')
theorem ok__law_book (T : Txt K mg) (a : Addr) (ns : List Int) : FnOk P w K mg base CX0 8 T.f__law_book T.fd__law_book ["script", "at"] (sp__law_book K a ns) := by
  refine T.F__law_book.ok sc__law_book (fun vs H Q E h => ?_) (fun cdv A outer s H vs Q E hr h => ?_)
  · obtain ⟨at_, rfl, _⟩ := h
    rfl
  · obtain ⟨at_, rfl, hS, q⟩ := h
    refine ⟨_, (pss_cons (ps_set (i := 2) sc__law_book.nd rfl (Or.inl rfl) (pe_callB call_abs (by rfl) T.z_abs (by decide +kernel) (pa_cons (pe_call (ok__law_cell T a ns) (hr.mono (by decide)) (by rfl) T.g__law_cell T.F__law_cell.kp T.b__law_cell .nil pass0 (pa_cons (pv 0) (pa_cons (pv 1) pa_nil))) pa_nil)))
      (pss_cons (ps_set (i := 3) sc__law_book.nd rfl (Or.inl rfl) (pe_lstS pa_nil))
      (pss_cons (ps_set (i := 4) sc__law_book.nd rfl (Or.inl rfl) pe_int)
      (pss_cons (ps_for PassesOwn.never rfl (pi_range1 (by rfl) T.z_range (pa_cons (pe_op op_add pe_int (pe_op op_mod (pe_callTy call_int1 (by rfl) T.z_int (by decide +kernel) (pa_cons (pv 2) pa_nil)) pe_int)) pa_nil)) (pg_name (i := 5) sc__law_book.nd rfl (Or.inl rfl)) (pss_cons (ps_set (i := 4) sc__law_book.nd rfl (Or.inl rfl) (pe_op op_add (pe_op op_add (pv 4) pe_int) (pe_op op_mod (pe_call (ok__law_twice T) (hr.mono (by decide)) (by rfl) T.g__law_twice T.F__law_twice.kp T.b__law_twice .nil pass0 (pa_cons (pv 2) (pa_cons (pv 5) pa_nil))) pe_int)))
      (pss_cons (ps_if (pt_cmpR op_eq (pe_op op_mod (pe_call (ok__law_twice T) (hr.mono (by decide)) (by rfl) T.g__law_twice T.F__law_twice.kp T.b__law_twice .nil pass0 (pa_cons (pv 2) (pa_cons (pe_op op_add pe_int (pv 5)) pa_nil))) pe_int) pe_int (nomark _)) (pss_one (ps_set (i := 4) sc__law_book.nd rfl (Or.inl rfl) (pe_op op_add (pv 4) pe_int))) pss_nil)
      (pss_one (ps_expr (pe_ml (pe_bm PySem.F.plainAttrs_list PySem.F.slot_list_append PySem.F.type_list_append mt_append (pe_mono (pv 3)) (pa_cons (pv 4) pa_nil))))))))
      (pss_cons (ps_set (i := 6) sc__law_book.nd rfl (Or.inl rfl) (pe_lstS pa_nil))
      (pss_cons (ps_for PassesOwn.never rfl (pi_range1 (by rfl) T.z_range (pa_cons (pe_callB call_lenH (by rfl) T.z_len PySem.boot_len (pa_cons (pv 3) pa_nil)) pa_nil)) (pg_name (i := 5) sc__law_book.nd rfl (Or.inl rfl)) (pss_one (ps_expr (pe_ml (pe_bm PySem.F.plainAttrs_list PySem.F.slot_list_append PySem.F.type_list_append mt_append (pe_mono (pv 6)) (pa_cons (pe_tupS (pa_cons (pe_ix ix_listH (pv 3) (pv 5) (fun _ _ => rfl)) (pa_cons (pe_call (ok__law_value T 3) hr (by rfl) T.g__law_value T.F__law_value.kp T.b__law_value .nil pass0 (pa_cons (pe_callB call_abs (by rfl) T.z_abs (by decide +kernel) (pa_cons (pe_call (ok__law_cell T a ns) (hr.mono (by decide)) (by rfl) T.g__law_cell T.F__law_cell.kp T.b__law_cell .nil pass0 (pa_cons (pv 0) (pa_cons (pe_op op_add (pe_op op_add (pv 1) pe_int) (pv 5)) pa_nil))) pa_nil)) (pa_cons pe_int (pa_cons pe_int pa_nil)))) pa_nil))) pa_nil))))))
      (pss_cons (ps_set (i := 7) sc__law_book.nd rfl (Or.inl rfl) (pe_callTy call_tupleL (by rfl) T.z_tuple (by decide +kernel) (pa_cons (pe_lc (own := [("sign", 8)]) (g := (gName 8)) rfl sc__law_book.nd (pi_str pe_str) (blkOk_by (own := [("sign", 8)]) (N := ["script", "at", "cell", "numbers", "number", "k", "objects", "pages", "sign", "least", "value", "pair", "root"]) (sc := defScope s__law_book) (by decide +kernel)) (fun _ _ _ _ _ => (pg_name (i := 8) sc__law_book.nd rfl (Or.inl rfl))) (fun _ _ _ _ _ => pts_nil) (fun _ _ _ _ _ => (pe_callB call_ord (by rfl) T.z_ord (by decide +kernel) (pa_cons (pv 8) pa_nil)))) pa_nil)))
      (pss_cons (ps_set (i := 9) sc__law_book.nd rfl (Or.inl rfl) pe_int)
      (pss_cons (ps_for PassesOwn.never rfl (pi_revS (by rfl) T.z_reversed (pa_cons (pv 6) pa_nil)) (pg_tupS (n := 2) (by rfl) (pgs_cons (pg_name (i := 4) sc__law_book.nd rfl (Or.inl rfl)) (pgs_cons (pg_name (i := 10) sc__law_book.nd rfl (Or.inl rfl)) pgs_nil))) (pss_one (ps_if (PW.pt (pw_and (pt_cmpR op_eq (pe_ix ix_tupH (pv 10) pe_int (fun _ _ => rfl)) pe_str (nomark _)) (pw_and1 (pt_cmpR (op_inLC (hu5 hr) (cod_tup cod_int) (by decide)) (pv 7) (pe_lc (own := [("pair", 11)]) (g := (gName 11)) rfl sc__law_book.nd (pi_tupS (pe_ix ix_tupH (pv 10) pe_int (fun _ _ => rfl))) (blkOk_by (own := [("pair", 11)]) (N := ["script", "at", "cell", "numbers", "number", "k", "objects", "pages", "sign", "least", "value", "pair", "root"]) (sc := defScope s__law_book) (by decide +kernel)) (fun _ _ _ _ _ => (pg_name (i := 11) sc__law_book.nd rfl (Or.inl rfl))) (fun _ _ _ _ _ => pts_nil) (fun _ _ _ _ _ => (pe_ix ix_tupH (pv 11) pe_int (fun _ _ => rfl)))) (by rfl))))) (pss_one (ps_set (i := 9) sc__law_book.nd rfl (Or.inl rfl) (pv 4))) pss_nil)))
      (pss_cons (ps_set (i := 12) sc__law_book.nd rfl (Or.inl rfl) (pe_ix ix_listH (pe_lstS (pa_cons (pe_ix ix_listH (pv 3) (pe_op op_mod (pe_op op_fdiv (pv 2) pe_int) (pe_callB call_lenH (by rfl) T.z_len PySem.boot_len (pa_cons (pv 3) pa_nil))) (fun _ _ => rfl)) (pa_cons (pv 9) pa_nil))) (pe_op op_mod (pe_op op_fdiv (pv 2) pe_int) pe_int) (fun _ _ => rfl)))
      (pss_one (ps_ret (pe_tupS (pa_cons (pe_callTy call_tupleL (by rfl) T.z_tuple (by decide +kernel) (pa_cons (pv 6) pa_nil)) (pa_cons (pv 12) pa_nil))))))))))))))), ?_⟩
    refine seq_cut3 (fun σ H1 => ∃ (pn : Addr), σ = [some (.ref a), some (.int (at_ : Int)), some (.int (absI (cellA ns at_))), some (.ref pn), some (.int 0), none, none, none, none, none, none, none, none] ∧ Same H H1 ∧ H pn = none ∧ H1 pn = some (.lst [])) ?_ (fun C hC => ?_)
    rotate_left
    · walk_at "vc hS sp__law_cell"
      exact ⟨by omega, fun p H1 s1 n1 g1 => hC _ _ ⟨p, rfl, s1, n1, g1⟩⟩
    rintro σ H1 ⟨pn, rfl, s1, nn, gn⟩
    obtain ⟨N, hN⟩ := natOf (show 0 ≤ 1 + absI (cellA ns at_) % 4 by have := absI_nn (cellA ns at_); omega)
    refine seq_cut (fun σ H2 => ∃ (v4 v5 : Option V) (nb : List Int), σ = [some (.ref a), some (.int (at_ : Int)), some (.int (absI (cellA ns at_))), some (.ref pn), v4, v5, none, none, none, none, none, none, none] ∧ Same H H2 ∧ H2 pn = some (.lst (List.map V.int nb)) ∧ nb.Pairwise (· < ·) ∧ nb.length = N) ?_ (fun C hC => ?_)
    rotate_left
    · walk_at "vc"
      rw [hN, Int.toNat_natCast]
      refine ⟨by omega, by omega, lpW (walkR (n := N)) (fun i σ H2 => ∃ (m : Int) (v5 : Option V) (nb : List Int), σ = [some (.ref a), some (.int (at_ : Int)), some (.int (absI (cellA ns at_))), some (.ref pn), some (.int m), v5, none, none, none, none, none, none, none] ∧ Same H H2 ∧ H2 pn = some (.lst (List.map V.int nb)) ∧ nb.Pairwise (· < ·) ∧ nb.length = i ∧ ∀ b ∈ nb, b ≤ m) ⟨0, none, [], rfl, s1, gn, .nil, rfl, fun _ z => (nomatch z)⟩ (fun _ _ _ _ _ => True.intro) ?_ ?_⟩
      · rintro i x σ H2 H3 hi ⟨m, v5, nb, rfl, s2, gb, hp, hl, hm⟩ ⟨rfl, rfl⟩
        walk_at "vc sp__law_twice gb"
        have t0 := tw_nn (absI (cellA ns at_)) (i : Int)
        have fin : ∀ m' : Int, m < m' → (nb ++ [m']).Pairwise (· < ·) ∧ (∀ b ∈ nb ++ [m'], b ≤ m') := fun m' hm' => ⟨List.pairwise_append.mpr ⟨hp, List.pairwise_singleton _ _, fun a ha b hb => by rw [List.mem_singleton.mp hb]; have := hm a ha; omega⟩, fun b hb => by
          rcases List.mem_append.mp hb with z | z
          · have := hm b z; omega
          · rw [List.mem_singleton.mp z]; exact Int.le_refl _⟩
        refine iteP (fun _ => ?_) (fun _ => ?_)
        · exact ⟨cnt_lt (by omega), same_upd2 s2 nn, (fin _ (by omega)).1, by omega, (fin _ (by omega)).2⟩
        · exact ⟨cnt_lt (by omega), same_upd2 s2 nn, (fin _ (by omega)).1, by omega, (fin _ (by omega)).2⟩
      · rintro σ H2 ⟨m, v5, nb, rfl, s2, gb, hp, hl, hm⟩
        exact hC _ _ ⟨_, _, nb, rfl, s2, gb, hp, hl⟩
    rintro σ H2 ⟨v4, v5, nb, rfl, s2, gb, hp, hl⟩
    refine seq_cut2 (fun σ H3 => ∃ (v5 : Option V) (po : Addr) (us : List V) (os : List (Int × VD)), σ = [some (.ref a), some (.int (at_ : Int)), some (.int (absI (cellA ns at_))), some (.ref pn), v4, v5, some (.ref po), none, none, none, none, none, none] ∧ Same H2 H3 ∧ H3 po = some (.lst us) ∧ All2 (fun v o => TV H3 v (obD o)) us os ∧ (∀ o ∈ os, okV o.2) ∧ os.map (·.1) = nb) ?_ (fun C hC => ?_)
    rotate_left
    · walk_at "vc gb"
      intro po H3 s3 n3 g3
      have gb3 := s3 _ _ gb
      refine ⟨_, gb3, ?_⟩
      rw [List.length_map]
      refine ⟨by omega, by omega, lpW (walkR (n := nb.length)) (fun i σ H' => ∃ (v5 : Option V) (us : List V) (os : List (Int × VD)), σ = [some (.ref a), some (.int (at_ : Int)), some (.int (absI (cellA ns at_))), some (.ref pn), v4, v5, some (.ref po), none, none, none, none, none, none] ∧ Same H2 H' ∧ H' po = some (.lst us) ∧ All2 (fun v o => TV H' v (obD o)) us os ∧ (∀ o ∈ os, okV o.2) ∧ os.map (·.1) = nb.take i ∧ us.length = i) ⟨v5, [], [], rfl, s3, g3, .nil, (fun _ z => nomatch z), rfl, rfl⟩ (fun _ _ _ _ _ => True.intro) ?_ ?_⟩
      · rintro i x σ H4 H5 hi ⟨v5, us, os, rfl, s4, gu, hu, hok, hnb, hul⟩ ⟨rfl, rfl⟩
        have gb5 := s4 _ _ gb
        have hS5 := (s2.trans s4).seq hS
        walk_at "vc gb5 sp__law_cell gu"
        obtain ⟨b, hb, ab⟩ := atI_in (xs := nb) (k := (i : Int)) (by omega) (by omega)
        rw [Int.toNat_natCast] at hb
        refine ⟨_, ab, by omega, hS5, _, 1, rfl, by decide, fun H6 v x s6 tv okx shx p7 H7 s7 n7 g7 => ?_⟩
        have s67 := s6.trans s7
        have gu7 := s67 _ _ gu
        refine ⟨us, gu7, cnt_lt (by omega), same_upd2 (s4.trans s67) n3, os ++ [(b, x)], ?_, ?_, ?_, by omega⟩
        · exact ((hu.mono fun v o t => TV.mono s67 t).mono fun v o t => TV.upd gu7 t).snoc (TV.upd gu7 (.tup g7 (.cons (.int _) (.cons (tv.mono s7) .nil))))
        · intro o ho
          rcases List.mem_append.mp ho with z | z
          · exact hok o z
          · rw [List.mem_singleton.mp z]; exact okx
        · rw [List.map_append, hnb, take_succ hb]
          rfl
      · rintro σ H4 ⟨v5, us, os, rfl, s4, gu, hu, hok, hnb, hul⟩
        rw [List.take_length] at hnb
        exact hC _ _ ⟨v5, po, us, os, rfl, s4, gu, hu, hok, hnb⟩
    rintro σ H3 ⟨v5, po, us, os, rfl, s3, gu, hu, hok, hnb⟩
    refine seq_cut3 (fun σ H4 => ∃ (v4 v7 v8 v10 v11 : Option V) (ls : Int), σ = [some (.ref a), some (.int (at_ : Int)), some (.int (absI (cellA ns at_))), some (.ref pn), v4, v5, some (.ref po), v7, v8, some (.int ls), v10, v11, none] ∧ Same H3 H4) ?_ (fun C hC => ?_)
    rotate_left
    · walk_at "vc gu"
      refine lcL (walk_str (z := Str.ofString "Pages")) (L := fun i => List.map V.int ((cds (Str.ofString "Pages")).take i)) rfl (fun _ _ => True.intro) (fun D i x H1 H2 hi hD s1 g1 y => ?_) (fun pL H5 s5 n5 g5 => ?_)
      · obtain ⟨rfl, ch, hc, rfl⟩ := y
        walk_at "vc g1"
        have hz6 : (Str.ofString "Pages").cps.size ≤ 6 := by decide +kernel
        refine ⟨rfl, cnt_lt (by rw [List.length_take]; omega), same_upd2 s1 hD, ?_⟩
        rw [take_succ (cds_at hc)]
        rfl
      rw [← cds_len, List.take_length] at g5
      refine ⟨pL, rfl, _, g5, fun p6 H6 s6 n6 g6 => ?_⟩
      have s56 := s5.trans s6
      have gu6 := s56 _ _ gu
      have hu6 := hu.mono fun v o t => TV.mono s56 t
      refine ⟨us, gu6, lpW walkV (fun i σ H' => ∃ (v4 v8 v10 v11 : Option V) (ls : Int), σ = [some (.ref a), some (.int (at_ : Int)), some (.int (absI (cellA ns at_))), some (.ref pn), v4, v5, some (.ref po), some (.ref p6), v8, some (.int ls), v10, v11, none] ∧ Same H6 H') ⟨v4, _, _, _, 0, rfl, Same.refl _⟩ (fun i σ H' _ ⟨_, _, _, _, _, _, s⟩ => s _ _ gu6) ?_ ?_⟩
      · rintro i x σ H7 H8 hi ⟨v4, v8, v10, v11, ls, rfl, s7⟩ ⟨rfl, hx⟩
        obtain ⟨o, ho, td⟩ := hu6.at hx
        have okx := hok o (List.mem_of_getElem? ho)
        obtain ⟨b, y, rfl, gb, ty⟩ := ob_tv td
        obtain ⟨pv, ys, rfl, gv, tys⟩ := vd_tv ty
        have gb7 := s7 _ _ gb
        have gv7 := s7 _ _ gv
        have g67 := s7 _ _ g6
        walk_at "vc gb7 gv7 g67"
        refine iteP (fun hd => ?_) (fun hd => s7)
        obtain ⟨tl, etl⟩ := okx.prs (.inl hd)
        rw [etl] at tys
        cases tys with
        | cons hp1 htl =>
          cases hp1 with
          | tup gp tp =>
            rename_i aP vP
            have gp7 := s7 _ _ gp
            have tp7 := (tp.mono s7).all
            refine ⟨_, atI_c1 _ _ _, aP, rfl, ⟨_, gp7⟩, lcW (walkT (xs := vP)) (fun D j H' => Same H8 H' ∧ ∃ vs, H' D = some (.lst vs) ∧ All2 (TupV IntV H') vs ((o.2.2.2.map (·.1)).take j) ∧ vs.length = j) (fun D H' s n g => ⟨s, [], g, .nil, rfl⟩) (fun D j H' _ _ h => h.1 _ _ gp7) (fun D j y H9 HA hj hD h y9 => ?_) (fun D H9 hD h => ?_)⟩
            · obtain ⟨s9, vs, gv9, hv, hvl⟩ := h
              obtain ⟨rfl, hy⟩ := y9
              obtain ⟨d, hd', td'⟩ := tp7.at hy
              rw [List.getElem?_map] at hd'
              obtain ⟨p, hp', rfl⟩ := Option.map_eq_some_iff.mp hd'
              obtain ⟨b', aN, y2, rfl, gb', gN, ty'⟩ := pr_tv td'
              have gb9 := s9 _ _ gb'
              have hvp := tp7.len
              rw [List.length_map] at hvp
              have hlen := okx.len
              walk_at "vc gb9"
              refine ⟨_, gv9, cnt_lt (by omega), same_upd2 s9 hD, ?_, by omega⟩
              rw [take_map_succ (·.1) hp']
              exact (hv.mono (stab_ti.upd gv9)).snoc (stab_ti.upd gv9 _ _ ⟨aN, _, rfl, s9 _ _ gN, ints_all p.1⟩)
            · obtain ⟨s9, vs, gv9, hv, hvl⟩ := h
              have hl' := tp7.len
              rw [List.length_map] at hl'
              rw [hl', show o.2.2.2.length = (o.2.2.2.map (·.1)).length by rw [List.length_map], List.take_length] at hv
              exact ⟨_, ⟨p6, _, rfl, s9 _ _ g67, ints_all _⟩, _, ⟨D, vs, rfl, gv9, hv⟩, iteP (fun _ => s7.trans s9) (fun _ => s7.trans s9)⟩
      · rintro σ H7 ⟨v4, v8, v10, v11, ls, rfl, s7⟩
        exact hC _ _ ⟨v4, _, _, v10, v11, ls, rfl, s56.trans s7⟩
    rintro σ H4 ⟨v4, v7, v8, v10, v11, ls, rfl, s4⟩
    have gb4 := (s3.trans s4) _ _ gb
    have gu4 := s4 _ _ gu
    walk_at "vc gb4 gu4"
    have hN1 : 1 ≤ N := by have := absI_nn (cellA ns at_); omega
    obtain ⟨b, _, ab⟩ := atI_in (xs := nb) (k := absI (cellA ns at_) / 7 % (nb.length : Int)) (Int.emod_nonneg _ (by omega)) (Int.emod_lt_of_pos _ (by omega))
    refine ⟨by omega, _, ab, fun p5 H5 s5 n5 g5 => ⟨_, g5, ?_⟩⟩
    obtain ⟨r, hr', _⟩ := atI_lits (xs := [b, ls]) (k := absI (cellA ns at_) / 5 % 2) (by omega) (by simp only [List.length_cons, List.length_nil]; omega)
    have gu5 := s5 _ _ gu4
    refine ⟨_, hr', us, gu5, fun p6 H6 s6 n6 g6 p7 H7 s7 n7 g7 => ?_⟩
    have sa := s4.trans (s5.trans (s6.trans s7))
    refine q (.ref p7) H7 os (s2.trans (s3.trans sa)) ⟨p7, _, p6, us, rfl, g7, s7 _ _ g6, TVs.of (all2_map (hu.mono fun v o t => TV.mono sa t)), hok⟩ ?_ ?_
    · unfold Asc
      rw [← hnb] at hp
      exact List.pairwise_map.mp hp
    · have : (os.map (·.1)).length = nb.length := by rw [hnb]
      rw [List.length_map] at this
      omega

theorem od_dp {K : PySem.W.Frag} {H : Hp} {v : V} {o : Option PyData} (h : OD H v o) (hs : ∀ d, o = some d → Sh 40 d) : ∃ d, Dp K H v d ∧ SeqAt.shaped d = true ∧ PyData.eqv d d = true ∧ (∀ v', OD H v' o → Dp K H v' d) := by
  cases o with
  | none =>
    obtain rfl := h
    exact ⟨.none, .non, (sh_non 0).shaped (by decide), (sh_non 0).refl, fun v' h' => by rw [show v' = .non from h']; exact .non⟩
  | some d => exact ⟨d, TV.dp h, (hs d rfl).shaped (by decide), (hs d rfl).refl, fun v' h' => TV.dp h'⟩
theorem OV.od {H : Hp} {v : V} {o : Option VD} (h : OV H v o) : OD H v (o.map vdD) := by
  cases o with
  | none => exact h
  | some x => exact h.1
theorem OV.sh {H : Hp} {v : V} {o : Option VD} (h : OV H v o) : ∀ d, o.map vdD = some d → Sh 40 d := fun d e => by
  cases o with
  | none => cases e
  | some x => obtain rfl := Option.some.inj e; exact h.2.sh
theorem od_tv {H : Hp} {v : V} {o : Option PyData} (h : OD H v o) : TV H v (o.getD .none) := by
  cases o with
  | none => rw [show v = .non from h]; exact .non
  | some d => exact h
theorem od_sh {o : Option PyData} (hs : ∀ d, o = some d → Sh 40 d) : Sh 40 (o.getD .none) := by
  cases o with
  | none => exact sh_non _
  | some d => exact hs d rfl
theorem folF_noref (os : List (Int × VD)) : ∀ (n : Nat) (o : Option VD) (l : Int), isRef (folF os n o l).1 = false
  | 0, o, l => by
    unfold folF
    by_cases h : isRef o = true
    · rw [if_pos h]; rfl
    · rw [if_neg h]; exact Bool.eq_false_iff.mpr h
  | n + 1, none, l => rfl
  | n + 1, some x, l => by
    unfold folF
    by_cases h : x.1 = sRef
    · rw [if_pos h]
      by_cases h1 : l < 1
      · rw [if_pos h1]; rfl
      · rw [if_neg h1]; exact folF_noref os n _ _
    · rw [if_neg h]; exact decide_eq_false h
theorem getF_sh {o : Option VD} {ks : List Int} (h : ∀ x, o = some x → okV x) : ∀ d, getF o ks = some d → Sh 40 d := fun d e => by
  cases o with
  | none => cases e
  | some x =>
    have okx := h x rfl
    unfold getF at e
    by_cases hk : x.1 = sDict ∨ x.1 = sStream
    · simp only [if_pos hk] at e
      obtain ⟨p, hp, rfl⟩ := Option.map_eq_some_iff.mp e
      have hm := List.mem_of_find?_eq_some hp
      obtain ⟨tl, etl⟩ := okx.prs hk
      have sh := okx.sh
      unfold vdD at sh
      rw [etl] at sh
      have h1 := sh_sub sh _ (List.mem_cons_of_mem _ (List.mem_cons_self ..))
      have h2 := sh_sub h1 _ (List.mem_map.mpr ⟨p, hm, rfl⟩)
      exact sh_sub h2 _ (List.mem_cons_of_mem _ (List.mem_cons_self ..))
    · simp only [if_neg hk] at e
      cases e
theorem last_find {ps : List (List Int × PyData)} (hnd : (ps.map (·.1)).Nodup) {ks : List Int} {i : Nat} {p : List Int × PyData} (hp : ps[i]? = some p) :
    (p.1 = ks → (ps.take (i + 1)).find? (fun p => decide (p.1 = ks)) = some p) ∧ (p.1 ≠ ks → (ps.take (i + 1)).find? (fun p => decide (p.1 = ks)) = (ps.take i).find? fun p => decide (p.1 = ks)) := by
  rw [take_succ hp, List.find?_append]
  refine ⟨fun e => ?_, fun e => ?_⟩
  · rw [List.find?_eq_none.mpr]
    · simp [e]
    · intro z hz
      simp only [decide_eq_true_eq]
      intro ez
      obtain ⟨j, hj, rfl⟩ := List.mem_take_iff_getElem.mp hz
      obtain ⟨hi, rfl⟩ := List.getElem?_eq_some_iff.mp hp
      have hji : j < i := by omega
      have := (List.pairwise_iff_getElem.mp hnd) j i (by rw [List.length_map]; omega) (by rw [List.length_map]; exact hi) hji
      simp only [List.getElem_map] at this
      exact this (by rw [ez, e])
  · simp [e]
def spLaw (K : PySem.W.Frag) : Sp := fun vs H Q _ => ∃ (a : Addr) (ns : List Int), vs = [.ref a] ∧ SqL K H a (ns.map V.int) ∧ ns.length ≤ 63 ∧ ∀ H', Q (.bl true) H'
theorem ok_law_of {f : Addr} {fd : FuncData} (F : Fun K "law" "law" s_law f fd) (T : Txt K mg) : FnOk P w K mg base CX0 9 f fd ["script"] (spLaw K) := by
  refine F.ok sc_law (fun vs H Q E h => ?_) (fun cdv A outer s H vs Q E hr h => ?_)
  · obtain ⟨a, ns, rfl, _⟩ := h
    rfl
  · obtain ⟨a, ns, rfl, hS, hlen, q⟩ := h
    refine ⟨_, (pss_cons (ps_set (i := 1) sc_law.nd rfl (Or.inl rfl) (pe_callB call_abs (by rfl) T.z_abs (by decide +kernel) (pa_cons (pe_call (ok__law_cell T a ns) (hr.mono (by decide)) (by rfl) T.g__law_cell T.F__law_cell.kp T.b__law_cell .nil pass0 (pa_cons (pv 0) (pa_cons pe_int pa_nil))) pa_nil)))
      (pss_cons (ps_for PassesOwn.never rfl (pi_listS (pe_lstS (pa_cons (pe_call (ok__law_book T a ns) hr (by rfl) T.g__law_book T.F__law_book.kp T.b__law_book .nil pass0 (pa_cons (pv 0) (pa_cons pe_int pa_nil))) (pa_cons (pe_call (ok__law_chain T) (hr.mono (by decide)) (by rfl) T.g__law_chain T.F__law_chain.kp T.b__law_chain .nil pass0 (pa_cons (pv 1) pa_nil)) pa_nil)))) (pg_name (i := 2) sc_law.nd rfl (Or.inl rfl)) (pss_cons (ps_for PassesOwn.never rfl (pi_range1 (by rfl) T.z_range (pa_cons pe_int pa_nil)) (pg_name (i := 3) sc_law.nd rfl (Or.inl rfl)) (pss_cons (ps_set (i := 4) sc_law.nd rfl (Or.inl rfl) (pe_op op_add pe_int (pe_op op_mod (pe_call (ok__law_twice T) (hr.mono (by decide)) (by rfl) T.g__law_twice T.F__law_twice.kp T.b__law_twice .nil pass0 (pa_cons (pv 1) (pa_cons (pv 3) pa_nil))) pe_int)))
      (pss_cons (ps_if (pt_cmpR (op_neD hr.units) (pe_call (ok_find T) (hr.mono (by decide)) (by rfl) T.g_find T.F_find.kp T.b_find .nil pass0 (pa_cons (pv 2) (pa_cons (pv 4) pa_nil))) (pe_call (ok__law_find T) (hr.mono (by decide)) (by rfl) T.g__law_find T.F__law_find.kp T.b__law_find .nil pass0 (pa_cons (pv 2) (pa_cons (pv 4) pa_nil))) (nomark _)) (pss_one (ps_ret pe_bl)) pss_nil)
      (pss_cons (ps_set (i := 5) sc_law.nd rfl (Or.inl rfl) (pe_ix ix_listH (pe_lstS (pa_cons (pe_tupS (pa_cons pe_str (pa_cons (pv 4) pa_nil))) (pa_cons (pe_tupS (pa_cons pe_str (pa_cons (pe_tupS (pa_cons (pe_tupS (pa_cons pe_str (pa_cons pe_int pa_nil))) pa_nil)) pa_nil))) (pa_cons (pe_tupS (pa_cons pe_str (pa_cons pe_int pa_nil))) (pa_cons pe_non pa_nil))))) (pe_op op_mod (pe_call (ok__law_twice T) (hr.mono (by decide)) (by rfl) T.g__law_twice T.F__law_twice.kp T.b__law_twice .nil pass0 (pa_cons (pv 1) (pa_cons (pe_op op_add pe_int (pv 3)) pa_nil))) pe_int) (fun _ _ => rfl)))
      (pss_cons (ps_set (i := 6) sc_law.nd rfl (Or.inl rfl) (pe_ix ix_listH (pe_lstS (pa_cons pe_int (pa_cons pe_int (pa_cons pe_int (pa_cons pe_int (pa_cons pe_int (pa_cons pe_int (pa_cons pe_int (pa_cons pe_int pa_nil))))))))) (pe_op op_mod (pe_call (ok__law_twice T) (hr.mono (by decide)) (by rfl) T.g__law_twice T.F__law_twice.kp T.b__law_twice .nil pass0 (pa_cons (pv 1) (pa_cons (pe_op op_add pe_int (pv 3)) pa_nil))) pe_int) (fun _ _ => rfl)))
      (pss_cons (ps_set (i := 7) sc_law.nd rfl (Or.inl rfl) (pe_call (ok_follow T) (hr.mono (by decide)) (by rfl) T.g_follow T.F_follow.kp T.b_follow .nil pass0 (pa_cons (pv 2) (pa_cons (pv 5) (pa_cons (pv 6) pa_nil)))))
      (pss_cons (ps_if (PW.pt (pw_or (pt_cmpR (op_neD hr.units) (pv 7) (pe_call (ok__law_follow T) (hr.mono (by decide)) (by rfl) T.g__law_follow T.F__law_follow.kp T.b__law_follow .nil pass0 (pa_cons (pv 2) (pa_cons (pv 5) (pa_cons (pv 6) pa_nil)))) (nomark _)) (pw_or1 (pt_not (pt_val (pe_callB call_isiB (by rfl) T.z_isinstance (by decide +kernel) (pa_cons (pv 7) (pa_cons (pe_bltn (v := .ty "tuple") (u := .type "tuple") (by rfl) T.z_tuple (by decide +kernel) rfl) pa_nil)))))))) (pss_one (ps_ret pe_bl)) pss_nil)
      (pss_one (ps_if (PW.pt (pw_and (pt_cmpR op_notN (pe_ix ix_tupH (pv 7) pe_int (fun _ _ => rfl)) pe_non (nomark _)) (pw_and1 (pt_cmpR op_eq (pe_ix ix_tupH (pe_ix ix_tupH (pv 7) pe_int (fun _ _ => rfl)) pe_int (fun _ _ => rfl)) pe_str (nomark _))))) (pss_one (ps_ret pe_bl)) pss_nil)))))))))
      (pss_one (ps_for PassesOwn.never rfl (pi_tupS (pe_ix ix_tupH (pv 2) pe_int (fun _ _ => rfl))) (pg_tupS (n := 2) (by rfl) (pgs_cons (pg_name (i := 4) sc_law.nd rfl (Or.inl rfl)) (pgs_cons (pg_name (i := 5) sc_law.nd rfl (Or.inl rfl)) pgs_nil))) (pss_one (ps_for PassesOwn.never rfl (pi_listS (pe_lstS (pa_cons pe_str (pa_cons pe_str (pa_cons pe_str (pa_cons pe_str (pa_cons pe_str (pa_cons pe_str (pa_cons pe_str pa_nil))))))))) (pg_name (i := 8) sc_law.nd rfl (Or.inl rfl)) (pss_cons (ps_set (i := 9) sc_law.nd rfl (Or.inl rfl) pe_non)
      (pss_cons (ps_if (pt_cmpR (op_inTC (hu5 hr) cod_str (by decide)) (pe_ix ix_tupH (pv 5) pe_int (fun _ _ => rfl)) (pe_tupS (pa_cons pe_str (pa_cons pe_str pa_nil))) (by rfl)) (pss_one (ps_for PassesOwn.never rfl (pi_tupS (pe_ix ix_tupH (pv 5) pe_int (fun _ _ => rfl))) (pg_tupS (n := 2) (by rfl) (pgs_cons (pg_name (i := 10) sc_law.nd rfl (Or.inl rfl)) (pgs_cons (pg_name (i := 11) sc_law.nd rfl (Or.inl rfl)) pgs_nil))) (pss_one (ps_if (pt_cmpR (op_eqC hr.units (cod_tup cod_int) (by decide)) (pv 10) (pe_callTy call_tupleL (by rfl) T.z_tuple (by decide +kernel) (pa_cons (pe_lc (own := [("sign", 12)]) (g := (gName 12)) rfl sc_law.nd (pi_str (pv 8)) (blkOk_by (own := [("sign", 12)]) (N := ["script", "cell", "book", "k", "number", "value", "left", "found", "name", "due", "key", "inner", "sign"]) (sc := defScope s_law) (by decide +kernel)) (fun _ _ _ _ _ => (pg_name (i := 12) sc_law.nd rfl (Or.inl rfl))) (fun _ _ _ _ _ => pts_nil) (fun _ _ _ _ _ => (pe_callB call_ord (by rfl) T.z_ord (by decide +kernel) (pa_cons (pv 12) pa_nil)))) pa_nil)) (nomark _)) (pss_one (ps_set (i := 9) sc_law.nd rfl (Or.inl rfl) (pv 11))) pss_nil)))) pss_nil)
      (pss_one (ps_if (pt_cmpR (op_neD hr.units) (pe_call (ok_get T) (hr.mono (by decide)) (by rfl) T.g_get T.F_get.kp T.b_get .nil pass0 (pa_cons (pv 5) (pa_cons (pv 8) pa_nil))) (pv 9) (nomark _)) (pss_one (ps_ret pe_bl)) pss_nil))))))))))
      (pss_one (ps_ret (pe_and (pe_cmpR op_isN (pe_call (ok_get T) (hr.mono (by decide)) (by rfl) T.g_get T.F_get.kp T.b_get .nil pass0 (pa_cons pe_non (pa_cons pe_str pa_nil))) pe_non (nomark _)) (pe_and (pe_cmpR op_isN (pe_call (ok_get T) (hr.mono (by decide)) (by rfl) T.g_get T.F_get.kp T.b_get .nil pass0 (pa_cons (pe_tupS (pa_cons pe_str (pa_cons (pe_tupS (pa_cons (pe_tupS (pa_cons pe_str pa_nil)) pa_nil)) pa_nil))) (pa_cons pe_str pa_nil))) pe_non (nomark _)) (pe_one (pe_cmpR op_isN (pe_call (ok_find T) (hr.mono (by decide)) (by rfl) T.g_find T.F_find.kp T.b_find .nil pass0 (pa_cons (pe_tupS (pa_cons (pe_tupS pa_nil) (pa_cons pe_int pa_nil))) (pa_cons pe_int pa_nil))) pe_non (nomark _))))))))), ?_⟩
    have l0 : 0 ≤ absI (cellA ns 6) := absI_nn _
    walk_at "vc sp__law_cell sp__law_book sp__law_chain hS"
    refine ⟨⟨0, rfl⟩, fun b0 H1 os0 s1 hb0 ha0 hl0 => ⟨l0, fun b1 H2 os1 s2 hb1 ha1 hl1 p2 H3 s3 n3 g3 => ⟨⟨_, g3⟩, ?_⟩⟩⟩
    refine lpW (walkL (xs := [b0, b1])) (fun i σ H' => ∃ v2 v3 v4 v5 v6 v7 v8 v9 v10 v11 v12, σ = [some (.ref a), some (.int (absI (cellA ns 6))), v2, v3, v4, v5, v6, v7, v8, v9, v10, v11, v12] ∧ Same H3 H') ⟨_, _, _, _, _, _, _, _, _, _, _, rfl, Same.refl _⟩ ?_ ?_ ?_
    · rintro i σ H' _ ⟨_, _, _, _, _, _, _, _, _, _, _, rfl, s⟩
      exact s _ _ g3
    · rintro i x σ H4 H5 hi ⟨v2, v3, v4, v5, v6, v7, v8, v9, v10, v11, v12, rfl, s4⟩ ⟨rfl, hx⟩
      obtain ⟨os, hb, ha, hl⟩ : ∃ os, BookV H5 x os ∧ Asc os ∧ os.length ≤ 1000 := by
        match i, hi, hx with
        | 0, _, hx => obtain rfl := Option.some.inj hx; exact ⟨os0, hb0.mono (s2.trans (s3.trans s4)), ha0, hl0⟩
        | 1, _, hx => obtain rfl := Option.some.inj hx; exact ⟨os1, hb1.mono (s3.trans s4), ha1, hl1⟩
      refine seq_cut (fun σ H' => ∃ v3 v4 v5 v6 v7, σ = [some (.ref a), some (.int (absI (cellA ns 6))), some x, v3, v4, v5, v6, v7, v8, v9, v10, v11, v12] ∧ Same H5 H') ?_ (fun C hC => ?_)
      rotate_left
      · walk_at "vc"
        refine lpW (walkR (n := 6)) (fun i σ H' => ∃ v3 v4 v5 v6 v7, σ = [some (.ref a), some (.int (absI (cellA ns 6))), some x, v3, v4, v5, v6, v7, v8, v9, v10, v11, v12] ∧ Same H5 H') ⟨_, _, _, _, _, rfl, Same.refl _⟩ (fun _ _ _ _ _ => True.intro) ?_ ?_
        · rintro k y σ H6 H7 hk ⟨v3, v4, v5, v6, v7, rfl, s6⟩ ⟨rfl, rfl⟩
          have hb7 := hb.mono s6
          refine seq_cut2 (fun σ H' => ∃ n : Int, σ = [some (.ref a), some (.int (absI (cellA ns 6))), some x, some (.int (k : Int)), some (.int n), v5, v6, v7, v8, v9, v10, v11, v12] ∧ H' = H7) ?_ (fun C hC => ?_)
          rotate_left
          · walk_at "vc sp__law_twice sp_find sp__law_find"
            refine ⟨os, hb7, ha, by omega, fun y1 o1 => ⟨os, hb7, fun y2 o2 => ?_⟩⟩
            have sh := od_sh o1.sh
            refine ⟨_, _, (od_tv o1.od).dp, (od_tv o2.od).dp, sh.shaped (by decide), sh.shaped (by decide), _, rfl, ?_⟩
            rw [sh.refl, if_neg (by decide)]
            exact hC _ _ ⟨_, rfl, rfl⟩
          rintro σ H8 ⟨n, rfl, rfl⟩
          refine seq_cut2 (fun σ H' => ∃ (vv : V) (o : Option VD) (l : Int), σ = [some (.ref a), some (.int (absI (cellA ns 6))), some x, some (.int (k : Int)), some (.int n), some vv, some (.int l), v7, v8, v9, v10, v11, v12] ∧ Same H8 H' ∧ OV H' vv o ∧ 0 ≤ l) ?_ (fun C hC => ?_)
          rotate_left
          · walk_at "vc sp__law_twice"
            have t0 := tw_nn (absI (cellA ns 6)) (9 + (k : Int))
            have t1 := tw_nn (absI (cellA ns 6)) (20 + (k : Int))
            intro pa Ha sa na ga pb Hb sb nb gb pc Hc sc nc gc pd Hd sd nd gd pe He se ne ge pf Hf sf nf gf
            have s8f := sa.trans (sb.trans (sc.trans (sd.trans (se.trans sf))))
            obtain ⟨y, o, hy, ho⟩ : ∃ (y : V) (o : Option VD), atI [V.ref pa, V.ref pd, V.ref pe, V.non] (tw (absI (cellA ns 6)) (9 + (k : Int)) % 4) = some y ∧ OV Hf y o := by
              rcases (show tw (absI (cellA ns 6)) (9 + (k : Int)) % 4 = 0 ∨ tw (absI (cellA ns 6)) (9 + (k : Int)) % 4 = 1 ∨ tw (absI (cellA ns 6)) (9 + (k : Int)) % 4 = 2 ∨ tw (absI (cellA ns 6)) (9 + (k : Int)) % 4 = 3 by omega) with e | e | e | e <;> rw [e]
              · exact ⟨_, some (refV n), rfl, .tup ((sb.trans (sc.trans (sd.trans (se.trans sf)))) _ _ ga) (.cons (.str _) (.cons (.int _) .nil)), ok_ref _⟩
              · refine ⟨_, some (Str.ofString "list", [.tuple [.tuple [.str (Str.ofString "ref"), .int 1]]], []), rfl, .tup ((se.trans sf) _ _ gd) (.cons (.str _) (.cons (.tup ((sd.trans (se.trans sf)) _ _ gc) (.cons (.tup ((sc.trans (sd.trans (se.trans sf))) _ _ gb) (.cons (.str _) (.cons (.int _) .nil))) .nil)) .nil)), ok_leaf (by decide +kernel) (by decide +kernel) (by decide +kernel) ⟨by decide +kernel, by decide +kernel⟩⟩
              · exact ⟨_, some (refV 1), rfl, .tup (sf _ _ ge) (.cons (.str _) (.cons (.int _) .nil)), ok_ref _⟩
              · exact ⟨_, none, rfl, rfl⟩
            refine ⟨_, gf, y, hy, fun pg Hg sg ng gg => ?_⟩
            obtain ⟨l, hl', hlm⟩ := atI_lits (xs := [100, 64, 63, 5, 0, 1, 65, 1000]) (k := tw (absI (cellA ns 6)) (20 + (k : Int)) % 8) (by omega) (by simp only [List.length_cons, List.length_nil]; omega)
            refine ⟨_, gg, _, hl', hC _ _ ⟨y, o, l, rfl, s8f.trans sg, ho.mono sg, ?_⟩⟩
            simp only [List.mem_cons, List.not_mem_nil, or_false] at hlm
            omega
          rintro σ H9 ⟨vv, o, l, rfl, s9, ho, h0⟩
          have hb9 := hb7.mono s9
          walk_at "vc sp_follow sp__law_follow"
          refine ⟨o, os, hb9, ho, ha, by omega, h0, fun y1 p1 Ha sa na ga o1 => ⟨o, os, hb9.mono sa, ho.mono sa, h0, fun y2 p2' Hb sb nb gb o2 => ?_⟩⟩
          have sh : Sh 41 (.tuple [((folF os 64 o l).1.map vdD).getD .none, .int (folF os 64 o l).2]) := sh_tup.mpr fun d hd => by
            simp only [List.mem_cons, List.not_mem_nil, or_false] at hd
            rcases hd with rfl | rfl
            · exact od_sh o1.sh
            · exact sh_int _ _
          have ga' := sb _ _ ga
          refine ⟨_, _, (TV.tup ga' (.cons (od_tv (o1.od.mono sb)) (.cons (.int _) .nil))).dp, (TV.tup gb (.cons (od_tv o2.od) (.cons (.int _) .nil))).dp, sh.shaped (by decide), sh.shaped (by decide), _, rfl, ?_⟩
          rw [sh.refl, if_neg (by decide)]
          have fin : ∃ v3 v4 v5 v6 v7, ([some (.ref a), some (.int (absI (cellA ns 6))), some x, some (.int (k : Int)), some (.int n), some vv, some (.int l), some (.ref p1), v8, v9, v10, v11, v12] : L2.St) = [some (.ref a), some (.int (absI (cellA ns 6))), some x, v3, v4, v5, v6, v7, v8, v9, v10, v11, v12] ∧ Same H5 Hb := ⟨_, _, _, _, _, rfl, s6.trans (s9.trans (sa.trans sb))⟩
          have nr := folF_noref os 64 o l
          have s5b := s6.trans (s9.trans (sa.trans sb))
          have o1' := o1.mono sb
          refine .inr ⟨⟨_, ga'⟩, _, ga', _, rfl, ?_⟩
          revert nr o1'
          generalize (folF os 64 o l).1 = r
          intro nr o1'
          cases r with
          | none =>
            obtain rfl : y1 = .non := o1'
            exact if_false_of rfl s5b
          | some z =>
            obtain ⟨tz, okz⟩ := o1'
            obtain ⟨pv, ys, rfl, gv, _⟩ := vd_tv tz
            refine if_true_of rfl ⟨_, ga', _, rfl, pv, rfl, _, gv, .str z.1, atI_c0 _ _, rfl, ?_⟩
            have ne : V.str z.1 ≠ V.str (Str.ofString "ref") := fun e => of_decide_eq_false nr (V.str.inj e)
            rw [if_neg ne]
            exact s5b
        · rintro σ H6 ⟨v3, v4, v5, v6, v7, rfl, s6⟩
          exact hC _ _ ⟨_, _, _, _, _, rfl, s6⟩
      rintro σ H6 ⟨v3, v4, v5, v6, v7, rfl, s6⟩
      obtain ⟨ab, rb, pb, xb, rfl, gab, gpb, tb, okb⟩ := hb.mono s6
      walk_at "vc gab gpb"
      refine lpW (walkT (xs := xb)) (fun i σ H' => ∃ v3 v4 v5 v6 v7 v8 v9 v10 v11 v12, σ = [some (.ref a), some (.int (absI (cellA ns 6))), some (.ref ab), v3, v4, v5, v6, v7, v8, v9, v10, v11, v12] ∧ Same H6 H') ⟨_, _, _, _, _, _, _, _, _, _, rfl, Same.refl _⟩ ?_ ?_ ?_
      · rintro j σ H' _ ⟨_, _, _, _, _, _, _, _, _, _, rfl, s⟩
        exact s _ _ gpb
      · rintro j y σ H7 H8 hj ⟨v3, v4, v5, v6, v7, v8, v9, v10, v11, v12, rfl, s7⟩ ⟨rfl, hy⟩
        obtain ⟨d, hd, td⟩ := (tb.mono s7).all.at hy
        rw [List.getElem?_map] at hd
        obtain ⟨o, ho, rfl⟩ := Option.map_eq_some_iff.mp hd
        have okx := okb o (List.mem_of_getElem? ho)
        obtain ⟨b, y, rfl, gb, ty⟩ := ob_tv td
        obtain ⟨pv, ys, rfl, gv, tys⟩ := vd_tv ty
        walk_at "vc gb"
        refine ⟨by decide, fun pn Hn sn nn gn => ⟨⟨_, gn⟩, lpW (walkL (xs := [V.str (Str.ofString "Pages"), V.str (Str.ofString "Filter"), V.str (Str.ofString "Width"), V.str (Str.ofString "A"), V.str (Str.ofString "Kind"), V.str (Str.ofString "B"), V.str (Str.ofString "")])) (fun i σ H' => ∃ v8 v9 v10 v11 v12, σ = [some (.ref a), some (.int (absI (cellA ns 6))), some (.ref ab), v3, some (.int o.1), some (.ref pv), v6, v7, v8, v9, v10, v11, v12] ∧ Same Hn H') ⟨_, _, _, _, _, rfl, Same.refl _⟩ ?_ ?_ ?_⟩⟩
        · rintro j σ H' _ ⟨_, _, _, _, _, rfl, s⟩
          exact s _ _ gn
        · rintro m y σ H9 Ha hm ⟨v8, v9, v10, v11, v12, rfl, s9⟩ ⟨rfl, hy⟩
          obtain ⟨z, rfl, hz⟩ : ∃ z : Str, y = .str z ∧ z.cps.size ≤ 6 := by
            have hme := List.mem_of_getElem? hy
            simp only [List.mem_cons, List.not_mem_nil, or_false] at hme
            rcases hme with rfl | rfl | rfl | rfl | rfl | rfl | rfl <;> exact ⟨_, rfl, by decide +kernel⟩
          have gv9 := (sn.trans s9) _ _ gv
          have tys9 := tys.mono (sn.trans s9)
          refine seq_cut2 (fun σ H' => ∃ v9 v10 v11 v12, σ = [some (.ref a), some (.int (absI (cellA ns 6))), some (.ref ab), v3, some (.int o.1), some (.ref pv), v6, v7, some (.str z), some v9, v10, v11, v12] ∧ Same Ha H' ∧ OD H' v9 (getF (some o.2) (cds z))) ?_ (fun C hC => ?_)
          rotate_left
          · walk_at "vc gv9"
            intro p1 Hb sb nb gb'
            refine ⟨⟨o.2.1, okx.ok⟩, rfl, [okDict, okStream], ⟨p1, _, rfl, gb', strs_all [okDict, okStream]⟩, ?_⟩
            by_cases hk : o.2.1 = sDict ∨ o.2.1 = sStream
            · have hme : (⟨o.2.1, okx.ok⟩ : OkS) ∈ [okDict, okStream] := by
                rcases hk with e | e
                · exact List.mem_cons.mpr (.inl (Subtype.ext e))
                · exact List.mem_cons_of_mem _ (List.mem_singleton.mpr (Subtype.ext e))
              refine (if_pos hme).mpr ?_
              obtain ⟨tl, etl⟩ := okx.prs hk
              rw [etl] at tys9
              cases tys9 with
              | cons hp1 htl =>
                cases hp1 with
                | tup gp tp =>
                  rename_i aP vP
                  have gpB := sb _ _ gp
                  have tpB := tp.mono sb
                  have hlen := tpB.all.len
                  rw [List.length_map] at hlen
                  refine ⟨_, sb _ _ gv9, _, atI_c1 _ _ _, aP, rfl, ⟨_, gpB⟩, lpW (walkT (xs := vP)) (fun i σ H' => ∃ v9 v10 v11 v12, σ = [some (.ref a), some (.int (absI (cellA ns 6))), some (.ref ab), v3, some (.int o.1), some (.ref pv), v6, v7, some (.str z), some v9, v10, v11, v12] ∧ Same Hb H' ∧ OD H' v9 (((o.2.2.2.take i).find? fun p => decide (p.1 = cds z)).map (·.2))) ⟨_, _, _, _, rfl, Same.refl _, rfl⟩ ?_ ?_ ?_⟩
                  · rintro i' σ H' _ ⟨_, _, _, _, rfl, s, _⟩
                    exact s _ _ gpB
                  · rintro i' y Hσ Hc Hd hi' ⟨u9, v10, v11, v12, rfl, sc, oc⟩ ⟨rfl, hy'⟩
                    obtain ⟨d, hd', td'⟩ := (tpB.mono sc).all.at hy'
                    rw [List.getElem?_map] at hd'
                    obtain ⟨p, hp', rfl⟩ := Option.map_eq_some_iff.mp hd'
                    obtain ⟨b', aN, y2, rfl, gb2, gN, ty'⟩ := pr_tv td'
                    obtain ⟨lf1, lf2⟩ := last_find okx.dis (ks := cds z) hp'
                    walk_at "vc gb2"
                    refine lcL (walk_str (z := z)) (L := fun i => List.map V.int ((cds z).take i)) rfl (fun _ _ => True.intro) (fun D i x H1 H2 hi hD s1 g1 y => ?_) (fun pL He se ne ge => ?_)
                    · obtain ⟨rfl, ch, hc, rfl⟩ := y
                      walk_at "vc g1"
                      refine ⟨rfl, cnt_lt (by rw [List.length_take]; omega), same_upd2 s1 hD, ?_⟩
                      rw [take_succ (cds_at hc)]
                      rfl
                    · rw [← cds_len, List.take_length] at ge
                      refine ⟨pL, rfl, _, ge, fun pM Hf sf nf gf => ⟨p.1, ⟨aN, _, rfl, (se.trans sf) _ _ gN, ints_all _⟩, cds z, ⟨pM, _, rfl, gf, ints_all _⟩, ?_⟩⟩
                      refine iteP (fun e => ?_) (fun e => ?_)
                      · refine ⟨sc.trans (se.trans sf), ?_⟩
                        rw [lf1 e]
                        exact TV.mono (se.trans sf) ty'
                      · refine ⟨sc.trans (se.trans sf), ?_⟩
                        rw [lf2 e]
                        exact OD.mono (se.trans sf) oc
                  · rintro σ Hc ⟨u9, v10, v11, v12, rfl, sc, oc⟩
                    refine hC _ _ ⟨_, _, _, _, rfl, sb.trans sc, ?_⟩
                    rw [hlen, List.take_length] at oc
                    unfold getF
                    simp only [if_pos hk]
                    exact oc
            · have hme : ¬ (⟨o.2.1, okx.ok⟩ : OkS) ∈ [okDict, okStream] := fun z => by
                rcases List.mem_cons.mp z with e | e
                · exact hk (.inl (congrArg Subtype.val e))
                · exact hk (.inr (congrArg Subtype.val (List.mem_singleton.mp e)))
              refine (if_neg hme).mpr (hC _ _ ⟨_, _, _, _, rfl, sb, ?_⟩)
              unfold getF
              simp only [if_neg hk]
              rfl
          rintro σ Hb ⟨u9, v10, v11, v12, rfl, sb, ob⟩
          walk_at "vc sp_get"
          refine ⟨some o.2, ⟨(ty.mono (sn.trans s9)).mono sb, okx⟩, by omega, fun y1 Hc sc oc => ?_⟩
          have sh := od_sh (getF_sh (o := some o.2) (ks := cds z) (fun x e => by obtain rfl := Option.some.inj e; exact okx))
          refine ⟨_, _, (od_tv oc).dp, (od_tv (ob.mono sc)).dp, sh.shaped (by decide), sh.shaped (by decide), _, rfl, ?_⟩
          rw [sh.refl, if_neg (by decide)]
          exact s9.trans (sb.trans sc)
        · rintro σ H9 ⟨v8, v9, v10, v11, v12, rfl, s9⟩
          exact ⟨⟨_, _, _, _, _, _, _, _, _, _, rfl⟩, s7.trans (sn.trans s9)⟩
      · rintro σ H7 ⟨v3, v4, v5, v6, v7, v8, v9, v10, v11, v12, rfl, s7⟩
        exact ⟨⟨_, _, _, _, _, _, _, _, _, _, _, rfl⟩, s4.trans (s6.trans s7)⟩
    · rintro σ H4 ⟨v2, v3, v4, v5, v6, v7, v8, v9, v10, v11, v12, rfl, s4⟩
      walk_at "vc sp_get sp_find"
      refine ⟨none, rfl, by decide +kernel, fun y1 Ha sa oa => ?_⟩
      obtain rfl : y1 = .non := oa
      rw [if_pos rfl]
      intro pa Hb sb nb gb pb Hc sc nc gc pc Hd sd nd gd
      refine ⟨some (Str.ofString "list", [.tuple [.tuple [.str (Str.ofString "none")]]], []), ⟨.tup gd (.cons (.str _) (.cons (.tup (sd _ _ gc) (.cons (.tup ((sc.trans sd) _ _ gb) (.cons (.str _) .nil)) .nil)) .nil)), ok_leaf (by decide +kernel) (by decide +kernel) (by decide +kernel) ⟨by decide +kernel, by decide +kernel⟩⟩, by decide +kernel, fun y2 He se oe => ?_⟩
      obtain rfl : y2 = .non := by
        rw [show getF (some (Str.ofString "list", [.tuple [.tuple [.str (Str.ofString "none")]]], [])) (cds (Str.ofString "A")) = none from by decide +kernel] at oe
        exact oe
      rw [if_pos rfl]
      intro pd Hf sf nf gf pe Hg sg ng gg
      refine ⟨[], ⟨pe, _, pd, [], rfl, gg, sg _ _ gf, .nil, fun _ z => nomatch z⟩, List.Pairwise.nil, by decide, fun y3 o3 => ?_⟩
      obtain rfl : y3 = .non := o3
      rw [decide_eq_true rfl]
      exact q _

end
theorem all_mk {l : PySem.W.OpenLaw} {w : World} {K : PySem.W.Frag} {h : Heap} {mg : Str → Option Value} {fa : Addr} (X : K.In h) (G : h.Ns mainGlobals mg) (hfa : mg "law" = some (.ref fa))
    {f1 : Addr} {od1 an1 : Option Addr} {sl1 : Array (Option Value)} {oc1 kV1 dc1 pm1 cd1 ct1 : Value}
    (a1 : PySem.W.nsIn K mainGlobals "codes" = some (some (.ref f1))) (l1 : K.lookup f1 = some ⟨oc1, od1, .func (PySem.W.fnOf "codes" "codes" (defArgs s_codes) (defBody s_codes) (defScope s_codes) .none kV1 dc1 pm1 an1 cd1 ct1), sl1⟩) (c1 : PySem.W.codeIn K cd1 "codes" = true) (k1 : PySem.W.keepIn K (.ref f1) = true)
    {f2 : Addr} {od2 an2 : Option Addr} {sl2 : Array (Option Value)} {oc2 kV2 dc2 pm2 cd2 ct2 : Value}
    (a2 : PySem.W.nsIn K mainGlobals "spend" = some (some (.ref f2))) (l2 : K.lookup f2 = some ⟨oc2, od2, .func (PySem.W.fnOf "spend" "spend" (defArgs s_spend) (defBody s_spend) (defScope s_spend) .none kV2 dc2 pm2 an2 cd2 ct2), sl2⟩) (c2 : PySem.W.codeIn K cd2 "spend" = true) (k2 : PySem.W.keepIn K (.ref f2) = true)
    {f3 : Addr} {od3 an3 : Option Addr} {sl3 : Array (Option Value)} {oc3 kV3 dc3 pm3 cd3 ct3 : Value}
    (a3 : PySem.W.nsIn K mainGlobals "find" = some (some (.ref f3))) (l3 : K.lookup f3 = some ⟨oc3, od3, .func (PySem.W.fnOf "find" "find" (defArgs s_find) (defBody s_find) (defScope s_find) .none kV3 dc3 pm3 an3 cd3 ct3), sl3⟩) (c3 : PySem.W.codeIn K cd3 "find" = true) (k3 : PySem.W.keepIn K (.ref f3) = true)
    {f4 : Addr} {od4 an4 : Option Addr} {sl4 : Array (Option Value)} {oc4 kV4 dc4 pm4 cd4 ct4 : Value}
    (a4 : PySem.W.nsIn K mainGlobals "get" = some (some (.ref f4))) (l4 : K.lookup f4 = some ⟨oc4, od4, .func (PySem.W.fnOf "get" "get" (defArgs s_get) (defBody s_get) (defScope s_get) .none kV4 dc4 pm4 an4 cd4 ct4), sl4⟩) (c4 : PySem.W.codeIn K cd4 "get" = true) (k4 : PySem.W.keepIn K (.ref f4) = true)
    {f5 : Addr} {od5 an5 : Option Addr} {sl5 : Array (Option Value)} {oc5 kV5 dc5 pm5 cd5 ct5 : Value}
    (a5 : PySem.W.nsIn K mainGlobals "get_named" = some (some (.ref f5))) (l5 : K.lookup f5 = some ⟨oc5, od5, .func (PySem.W.fnOf "get_named" "get_named" (defArgs s_get_named) (defBody s_get_named) (defScope s_get_named) .none kV5 dc5 pm5 an5 cd5 ct5), sl5⟩) (c5 : PySem.W.codeIn K cd5 "get_named" = true) (k5 : PySem.W.keepIn K (.ref f5) = true)
    {f6 : Addr} {od6 an6 : Option Addr} {sl6 : Array (Option Value)} {oc6 kV6 dc6 pm6 cd6 ct6 : Value}
    (a6 : PySem.W.nsIn K mainGlobals "follow" = some (some (.ref f6))) (l6 : K.lookup f6 = some ⟨oc6, od6, .func (PySem.W.fnOf "follow" "follow" (defArgs s_follow) (defBody s_follow) (defScope s_follow) .none kV6 dc6 pm6 an6 cd6 ct6), sl6⟩) (c6 : PySem.W.codeIn K cd6 "follow" = true) (k6 : PySem.W.keepIn K (.ref f6) = true)
    {f7 : Addr} {od7 an7 : Option Addr} {sl7 : Array (Option Value)} {oc7 kV7 dc7 pm7 cd7 ct7 : Value}
    (a7 : PySem.W.nsIn K mainGlobals "_is_reference" = some (some (.ref f7))) (l7 : K.lookup f7 = some ⟨oc7, od7, .func (PySem.W.fnOf "_is_reference" "_is_reference" (defArgs s__is_reference) (defBody s__is_reference) (defScope s__is_reference) .none kV7 dc7 pm7 an7 cd7 ct7), sl7⟩) (c7 : PySem.W.codeIn K cd7 "_is_reference" = true) (k7 : PySem.W.keepIn K (.ref f7) = true)
    {f8 : Addr} {od8 an8 : Option Addr} {sl8 : Array (Option Value)} {oc8 kV8 dc8 pm8 cd8 ct8 : Value}
    (a8 : PySem.W.nsIn K mainGlobals "_law_cell" = some (some (.ref f8))) (l8 : K.lookup f8 = some ⟨oc8, od8, .func (PySem.W.fnOf "_law_cell" "_law_cell" (defArgs s__law_cell) (defBody s__law_cell) (defScope s__law_cell) .none kV8 dc8 pm8 an8 cd8 ct8), sl8⟩) (c8 : PySem.W.codeIn K cd8 "_law_cell" = true) (k8 : PySem.W.keepIn K (.ref f8) = true)
    {f9 : Addr} {od9 an9 : Option Addr} {sl9 : Array (Option Value)} {oc9 kV9 dc9 pm9 cd9 ct9 : Value}
    (a9 : PySem.W.nsIn K mainGlobals "_law_twice" = some (some (.ref f9))) (l9 : K.lookup f9 = some ⟨oc9, od9, .func (PySem.W.fnOf "_law_twice" "_law_twice" (defArgs s__law_twice) (defBody s__law_twice) (defScope s__law_twice) .none kV9 dc9 pm9 an9 cd9 ct9), sl9⟩) (c9 : PySem.W.codeIn K cd9 "_law_twice" = true) (k9 : PySem.W.keepIn K (.ref f9) = true)
    {f10 : Addr} {od10 an10 : Option Addr} {sl10 : Array (Option Value)} {oc10 kV10 dc10 pm10 cd10 ct10 : Value}
    (a10 : PySem.W.nsIn K mainGlobals "_law_value" = some (some (.ref f10))) (l10 : K.lookup f10 = some ⟨oc10, od10, .func (PySem.W.fnOf "_law_value" "_law_value" (defArgs s__law_value) (defBody s__law_value) (defScope s__law_value) .none kV10 dc10 pm10 an10 cd10 ct10), sl10⟩) (c10 : PySem.W.codeIn K cd10 "_law_value" = true) (k10 : PySem.W.keepIn K (.ref f10) = true)
    {f11 : Addr} {od11 an11 : Option Addr} {sl11 : Array (Option Value)} {oc11 kV11 dc11 pm11 cd11 ct11 : Value}
    (a11 : PySem.W.nsIn K mainGlobals "_law_data" = some (some (.ref f11))) (l11 : K.lookup f11 = some ⟨oc11, od11, .func (PySem.W.fnOf "_law_data" "_law_data" (defArgs s__law_data) (defBody s__law_data) (defScope s__law_data) .none kV11 dc11 pm11 an11 cd11 ct11), sl11⟩) (c11 : PySem.W.codeIn K cd11 "_law_data" = true) (k11 : PySem.W.keepIn K (.ref f11) = true)
    {f12 : Addr} {od12 an12 : Option Addr} {sl12 : Array (Option Value)} {oc12 kV12 dc12 pm12 cd12 ct12 : Value}
    (a12 : PySem.W.nsIn K mainGlobals "_law_key" = some (some (.ref f12))) (l12 : K.lookup f12 = some ⟨oc12, od12, .func (PySem.W.fnOf "_law_key" "_law_key" (defArgs s__law_key) (defBody s__law_key) (defScope s__law_key) .none kV12 dc12 pm12 an12 cd12 ct12), sl12⟩) (c12 : PySem.W.codeIn K cd12 "_law_key" = true) (k12 : PySem.W.keepIn K (.ref f12) = true)
    {f13 : Addr} {od13 an13 : Option Addr} {sl13 : Array (Option Value)} {oc13 kV13 dc13 pm13 cd13 ct13 : Value}
    (a13 : PySem.W.nsIn K mainGlobals "_law_book" = some (some (.ref f13))) (l13 : K.lookup f13 = some ⟨oc13, od13, .func (PySem.W.fnOf "_law_book" "_law_book" (defArgs s__law_book) (defBody s__law_book) (defScope s__law_book) .none kV13 dc13 pm13 an13 cd13 ct13), sl13⟩) (c13 : PySem.W.codeIn K cd13 "_law_book" = true) (k13 : PySem.W.keepIn K (.ref f13) = true)
    {f14 : Addr} {od14 an14 : Option Addr} {sl14 : Array (Option Value)} {oc14 kV14 dc14 pm14 cd14 ct14 : Value}
    (a14 : PySem.W.nsIn K mainGlobals "_law_chain" = some (some (.ref f14))) (l14 : K.lookup f14 = some ⟨oc14, od14, .func (PySem.W.fnOf "_law_chain" "_law_chain" (defArgs s__law_chain) (defBody s__law_chain) (defScope s__law_chain) .none kV14 dc14 pm14 an14 cd14 ct14), sl14⟩) (c14 : PySem.W.codeIn K cd14 "_law_chain" = true) (k14 : PySem.W.keepIn K (.ref f14) = true)
    {f15 : Addr} {od15 an15 : Option Addr} {sl15 : Array (Option Value)} {oc15 kV15 dc15 pm15 cd15 ct15 : Value}
    (a15 : PySem.W.nsIn K mainGlobals "_law_find" = some (some (.ref f15))) (l15 : K.lookup f15 = some ⟨oc15, od15, .func (PySem.W.fnOf "_law_find" "_law_find" (defArgs s__law_find) (defBody s__law_find) (defScope s__law_find) .none kV15 dc15 pm15 an15 cd15 ct15), sl15⟩) (c15 : PySem.W.codeIn K cd15 "_law_find" = true) (k15 : PySem.W.keepIn K (.ref f15) = true)
    {f16 : Addr} {od16 an16 : Option Addr} {sl16 : Array (Option Value)} {oc16 kV16 dc16 pm16 cd16 ct16 : Value}
    (a16 : PySem.W.nsIn K mainGlobals "_law_follow" = some (some (.ref f16))) (l16 : K.lookup f16 = some ⟨oc16, od16, .func (PySem.W.fnOf "_law_follow" "_law_follow" (defArgs s__law_follow) (defBody s__law_follow) (defScope s__law_follow) .none kV16 dc16 pm16 an16 cd16 ct16), sl16⟩) (c16 : PySem.W.codeIn K cd16 "_law_follow" = true) (k16 : PySem.W.keepIn K (.ref f16) = true)
    {f17 : Addr} {od17 an17 : Option Addr} {sl17 : Array (Option Value)} {oc17 kV17 dc17 pm17 cd17 ct17 : Value}
    (a17 : PySem.W.nsIn K mainGlobals "law" = some (some (.ref f17))) (l17 : K.lookup f17 = some ⟨oc17, od17, .func (PySem.W.fnOf "law" "law" (defArgs s_law) (defBody s_law) (defScope s_law) .none kV17 dc17 pm17 an17 cd17 ct17), sl17⟩) (c17 : PySem.W.codeIn K cd17 "law" = true) (k17 : PySem.W.keepIn K (.ref f17) = true)
    {t18 : Tok} (a18 : PySem.W.nsIn K mainGlobals "MOST_STEPS" = some (some (.int 64 t18)))
    (a19 : PySem.W.nsIn K mainGlobals "abs" = some none)
    (a20 : PySem.W.nsIn K mainGlobals "int" = some none)
    (a21 : PySem.W.nsIn K mainGlobals "isinstance" = some none)
    (a22 : PySem.W.nsIn K mainGlobals "len" = some none)
    (a23 : PySem.W.nsIn K mainGlobals "max" = some none)
    (a24 : PySem.W.nsIn K mainGlobals "ord" = some none)
    (a25 : PySem.W.nsIn K mainGlobals "range" = some none)
    (a26 : PySem.W.nsIn K mainGlobals "reversed" = some none)
    (a27 : PySem.W.nsIn K mainGlobals "tuple" = some none)
    : ∃ fd : FuncData, (∀ (s : Shared) (v : Value), BindsTo s fd ⟨[v], []⟩ [("script", v)]) ∧ ∀ base : Heap, K.In base → base.Ns mainGlobals mg → FnOk l.prog w K mg base CX0 9 fa fd ["script"] (spLaw K) := by
  have e := hfa.symm.trans (PySem.W.mg_of X G a17)
  cases e
  have F1 := fun_mk (st := s_codes) l1 c1 k1
  have b1 := F1.binds (ps := ["text"]) fun _ _ _ _ _ _ us hl => match us, hl with | [_], _ => rfl
  have F2 := fun_mk (st := s_spend) l2 c2 k2
  have b2 := F2.binds (ps := ["left", "cost"]) fun _ _ _ _ _ _ us hl => match us, hl with | [_, _], _ => rfl
  have F3 := fun_mk (st := s_find) l3 c3 k3
  have b3 := F3.binds (ps := ["book", "number"]) fun _ _ _ _ _ _ us hl => match us, hl with | [_, _], _ => rfl
  have F4 := fun_mk (st := s_get) l4 c4 k4
  have b4 := F4.binds (ps := ["value", "key"]) fun _ _ _ _ _ _ us hl => match us, hl with | [_, _], _ => rfl
  have F5 := fun_mk (st := s_get_named) l5 c5 k5
  have b5 := F5.binds (ps := ["value", "wanted"]) fun _ _ _ _ _ _ us hl => match us, hl with | [_, _], _ => rfl
  have F6 := fun_mk (st := s_follow) l6 c6 k6
  have b6 := F6.binds (ps := ["book", "value", "left"]) fun _ _ _ _ _ _ us hl => match us, hl with | [_, _, _], _ => rfl
  have F7 := fun_mk (st := s__is_reference) l7 c7 k7
  have b7 := F7.binds (ps := ["value"]) fun _ _ _ _ _ _ us hl => match us, hl with | [_], _ => rfl
  have F8 := fun_mk (st := s__law_cell) l8 c8 k8
  have b8 := F8.binds (ps := ["script", "k"]) fun _ _ _ _ _ _ us hl => match us, hl with | [_, _], _ => rfl
  have F9 := fun_mk (st := s__law_twice) l9 c9 k9
  have b9 := F9.binds (ps := ["cell", "k"]) fun _ _ _ _ _ _ us hl => match us, hl with | [_, _], _ => rfl
  have F10 := fun_mk (st := s__law_value) l10 c10 k10
  have b10 := F10.binds (ps := ["cell", "k", "deep"]) fun _ _ _ _ _ _ us hl => match us, hl with | [_, _, _], _ => rfl
  have F11 := fun_mk (st := s__law_data) l11 c11 k11
  have b11 := F11.binds (ps := ["cell", "k", "left"]) fun _ _ _ _ _ _ us hl => match us, hl with | [_, _, _], _ => rfl
  have F12 := fun_mk (st := s__law_key) l12 c12 k12
  have b12 := F12.binds (ps := ["cell", "k"]) fun _ _ _ _ _ _ us hl => match us, hl with | [_, _], _ => rfl
  have F13 := fun_mk (st := s__law_book) l13 c13 k13
  have b13 := F13.binds (ps := ["script", "at"]) fun _ _ _ _ _ _ us hl => match us, hl with | [_, _], _ => rfl
  have F14 := fun_mk (st := s__law_chain) l14 c14 k14
  have b14 := F14.binds (ps := ["cell"]) fun _ _ _ _ _ _ us hl => match us, hl with | [_], _ => rfl
  have F15 := fun_mk (st := s__law_find) l15 c15 k15
  have b15 := F15.binds (ps := ["book", "number"]) fun _ _ _ _ _ _ us hl => match us, hl with | [_, _], _ => rfl
  have F16 := fun_mk (st := s__law_follow) l16 c16 k16
  have b16 := F16.binds (ps := ["book", "value", "left"]) fun _ _ _ _ _ _ us hl => match us, hl with | [_, _, _], _ => rfl
  have F17 := fun_mk (st := s_law) l17 c17 k17
  have b17 := F17.binds (ps := ["script"]) fun _ _ _ _ _ _ us hl => match us, hl with | [_], _ => rfl
  have T : Txt K mg := ⟨f1, _, F1, b1, PySem.W.mg_of X G a1,
    f2, _, F2, b2, PySem.W.mg_of X G a2,
    f3, _, F3, b3, PySem.W.mg_of X G a3,
    f4, _, F4, b4, PySem.W.mg_of X G a4,
    f5, _, F5, b5, PySem.W.mg_of X G a5,
    f6, _, F6, b6, PySem.W.mg_of X G a6,
    f7, _, F7, b7, PySem.W.mg_of X G a7,
    f8, _, F8, b8, PySem.W.mg_of X G a8,
    f9, _, F9, b9, PySem.W.mg_of X G a9,
    f10, _, F10, b10, PySem.W.mg_of X G a10,
    f11, _, F11, b11, PySem.W.mg_of X G a11,
    f12, _, F12, b12, PySem.W.mg_of X G a12,
    f13, _, F13, b13, PySem.W.mg_of X G a13,
    f14, _, F14, b14, PySem.W.mg_of X G a14,
    f15, _, F15, b15, PySem.W.mg_of X G a15,
    f16, _, F16, b16, PySem.W.mg_of X G a16,
    fa, _, F17, b17, PySem.W.mg_of X G a17,
    t18, PySem.W.mg_of X G a18,
    PySem.W.mg_none_of X G a19,
    PySem.W.mg_none_of X G a20,
    PySem.W.mg_none_of X G a21,
    PySem.W.mg_none_of X G a22,
    PySem.W.mg_none_of X G a23,
    PySem.W.mg_none_of X G a24,
    PySem.W.mg_none_of X G a25,
    PySem.W.mg_none_of X G a26,
    PySem.W.mg_none_of X G a27⟩
  refine ⟨PySem.W.fnOf "law" "law" (defArgs s_law) (defBody s_law) (defScope s_law) .none kV17 dc17 pm17 an17 cd17 ct17, fun s v => .of_eq rfl, fun base _ _ => ?_⟩
  exact ok_law_of F17 T
end K25
open PySem PySem.W PyProof.Rows
set_option maxRecDepth 100000 in
set_option maxHeartbeats 0 in
theorem PySem.Challenge.cw_stillroom_k25_finding_and_following_holds : PySem.Challenge.rw_stillroom_k25_finding_and_following.Holds := by
  w_on; o_law; k_head; (case hw => w_witness2)
  k_fill
  refine L2.walk_of (l := PySem.Challenge.rw_stillroom_k25_finding_and_following) (n := 63) (k := 9) (x := "script") (CX := fun _ => L2.CX0) (sp := fun w => K25.spLaw _) rfl (by decide) rfl ⟨rfl, by decide, by decide⟩ (fun w h Y => PySem.W.kIn_of Y) ?F (fun _ _ a ns hl _ hS => ⟨a, ns, rfl, hS, hl, fun _ => rfl⟩) (fun _ _ _ _ _ h => h)
  case F =>
    intro w mg fa h KX G hmg
    refine' K25.all_mk KX G hmg ?a1 ?l1 ?c1 ?k1 ?a2 ?l2 ?c2 ?k2 ?a3 ?l3 ?c3 ?k3 ?a4 ?l4 ?c4 ?k4 ?a5 ?l5 ?c5 ?k5 ?a6 ?l6 ?c6 ?k6 ?a7 ?l7 ?c7 ?k7 ?a8 ?l8 ?c8 ?k8 ?a9 ?l9 ?c9 ?k9 ?a10 ?l10 ?c10 ?k10 ?a11 ?l11 ?c11 ?k11 ?a12 ?l12 ?c12 ?k12 ?a13 ?l13 ?c13 ?k13 ?a14 ?l14 ?c14 ?k14 ?a15 ?l15 ?c15 ?k15 ?a16 ?l16 ?c16 ?k16 ?a17 ?l17 ?c17 ?k17 ?a18 ?a19 ?a20 ?a21 ?a22 ?a23 ?a24 ?a25 ?a26 ?a27
    (case a1 => k_is)
    (case l1 => k_is)
    (case c1 => k_is)
    (case k1 => k_is)
    (case a2 => k_is)
    (case l2 => k_is)
    (case c2 => k_is)
    (case k2 => k_is)
    (case a3 => k_is)
    (case l3 => k_is)
    (case c3 => k_is)
    (case k3 => k_is)
    (case a4 => k_is)
    (case l4 => k_is)
    (case c4 => k_is)
    (case k4 => k_is)
    (case a5 => k_is)
    (case l5 => k_is)
    (case c5 => k_is)
    (case k5 => k_is)
    (case a6 => k_is)
    (case l6 => k_is)
    (case c6 => k_is)
    (case k6 => k_is)
    (case a7 => k_is)
    (case l7 => k_is)
    (case c7 => k_is)
    (case k7 => k_is)
    (case a8 => k_is)
    (case l8 => k_is)
    (case c8 => k_is)
    (case k8 => k_is)
    (case a9 => k_is)
    (case l9 => k_is)
    (case c9 => k_is)
    (case k9 => k_is)
    (case a10 => k_is)
    (case l10 => k_is)
    (case c10 => k_is)
    (case k10 => k_is)
    (case a11 => k_is)
    (case l11 => k_is)
    (case c11 => k_is)
    (case k11 => k_is)
    (case a12 => k_is)
    (case l12 => k_is)
    (case c12 => k_is)
    (case k12 => k_is)
    (case a13 => k_is)
    (case l13 => k_is)
    (case c13 => k_is)
    (case k13 => k_is)
    (case a14 => k_is)
    (case l14 => k_is)
    (case c14 => k_is)
    (case k14 => k_is)
    (case a15 => k_is)
    (case l15 => k_is)
    (case c15 => k_is)
    (case k15 => k_is)
    (case a16 => k_is)
    (case l16 => k_is)
    (case c16 => k_is)
    (case k16 => k_is)
    (case a17 => k_is)
    (case l17 => k_is)
    (case c17 => k_is)
    (case k17 => k_is)
    (case a18 => k_is)
    (case a19 => k_is)
    (case a20 => k_is)
    (case a21 => k_is)
    (case a22 => k_is)
    (case a23 => k_is)
    (case a24 => k_is)
    (case a25 => k_is)
    (case a26 => k_is)
    (case a27 => k_is)

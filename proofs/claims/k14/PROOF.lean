

import PyProof.Rows.All
import Wide.All
import OpenK.AllK
import Wide.FinOn
import HandS.ForMost
import HandS.Wide
import HandS.IsInst
import HandS.FStr
import HandS.Zip
import HandS.CallLocal
import HandS.Walk
import HandS.TryOnly
import HandS.TupAny
import HandS.DictComp
import HandS.Deep
import PyProof.DictMoreH
import HandS.Text
import HandS.Codes
import PySem.Challenge.RW_stillroom_k14_kinds_of_lists
set_option Elab.async false
set_option linter.all false
set_option maxRecDepth 100000
namespace K14
open PySem PySem.Spec PyProof.Rows L2

/-! ### rules with plainer readings -/
section
variable {X : Cx}
theorem CallR.of {f : Value} {r r' : List V → Hp → VK → Prop} (h : CallR X f r) (k : ∀ xs H Q, r' xs H Q → r xs H Q) : CallR X f r' := fun pins s σ H xs us Q I rv q => h pins s σ H xs us Q I rv (k xs H Q q)
theorem OpR.of {f : Value → Value → Sem Value} {r r' : R2} (h : OpR X f r) (k : ∀ x y H Q, r' x y H Q → r x y H Q) : OpR X f r' := fun pins s σ H x y v u Q I rx ry q => h pins s σ H x y v u Q I rx ry (k x y H Q q)
/-- the name of a plain value's type -/
def tnm : V → Option String
  | .non => some "NoneType"
  | .bl _ => some "bool"
  | .int _ => some "int"
  | .str _ => some "str"
  | _ => none
theorem tnm_int (i : Int) : tnm (.int i) = some "int" := rfl
theorem tnm_bl (b : Bool) : tnm (.bl b) = some "bool" := rfl
theorem tnm_str (x : Str) : tnm (.str x) = some "str" := rfl
theorem tnm_non : tnm .non = some "NoneType" := rfl
theorem tnm_ref (p : Addr) : tnm (.ref p) = none := rfl
theorem scal_ii (i j : Int) : scal (.int i) (.int j) = true := rfl
theorem scal_ss (i j : Str) : scal (.str i) (.str j) = true := rfl
theorem scal_bb (i j : Bool) : scal (.bl i) (.bl j) = true := rfl
theorem scal_nn : scal .non .non = true := rfl
theorem scal_in (i : Int) : scal (.int i) .non = true := rfl
theorem scal_ni (i : Int) : scal .non (.int i) = true := rfl
def rIsiB : List V → Hp → VK → Prop := fun vs H Q => (∃ x n a b, vs = [x, .ty n] ∧ tnm x = some a ∧ kitB a n = some b ∧ Q (.bl b) H) ∨
  (∃ p n xs b, vs = [.ref p, .ty n] ∧ H p = some (.lst xs) ∧ kitB "list" n = some b ∧ Q (.bl b) H) ∨ ∃ p n xs b, vs = [.ref p, .ty n] ∧ H p = some (.tup xs) ∧ kitB "tuple" n = some b ∧ Q (.bl b) H
theorem call_isiB : CallR X (.builtin "isinstance") rIsiB := CallR.of call_isi (by
  intro vs H Q h
  rcases h with ⟨x, n, a, b, rfl, ha, hb, q⟩ | ⟨p, n, xs, b, rfl, ha, hb, q⟩ | ⟨p, n, xs, b, rfl, ha, hb, q⟩
  · refine ⟨x, .ty n, .type a, .type n, b, rfl, .ty n, ?_, kit_ty hb, q⟩
    cases x <;> cases ha
    · exact .base .non
    · exact .base (.bl _)
    · exact .base (.int _)
    · exact .base (.str _)
  · exact ⟨.ref p, .ty n, .type "list", .type n, b, rfl, .ty n, .base (.lst ha), kit_ty hb, q⟩
  · exact ⟨.ref p, .ty n, .type "tuple", .type n, b, rfl, .ty n, .base (.tup ha), kit_ty hb, q⟩)
theorem kb1 : kitB "int" "int" = some true := by decide +kernel
theorem kb2 : kitB "int" "bool" = some false := by decide +kernel
theorem kb3 : kitB "bool" "bool" = some true := by decide +kernel
theorem kb4 : kitB "bool" "int" = some true := by decide +kernel
theorem kb5 : kitB "str" "str" = some true := by decide +kernel
theorem kb6 : kitB "str" "int" = some false := by decide +kernel
theorem kb7 : kitB "list" "list" = some true := by decide +kernel
theorem kb8 : kitB "tuple" "tuple" = some true := by decide +kernel
theorem kb9 : kitB "NoneType" "int" = some false := by decide +kernel
theorem kb10 : kitB "NoneType" "list" = some false := by decide +kernel
/-- len, a copy, an item of a tracked list -/
def rLenH : List V → Hp → VK → Prop := fun vs H Q => ∃ p xs, vs = [.ref p] ∧ H p = some (.lst xs) ∧ Q (.int xs.length) H
theorem call_lenH : CallR X (.builtin "len") rLenH := CallR.of call_len_seq (by
  rintro vs H Q ⟨p, xs, rfl, h, q⟩
  exact ⟨p, xs, rfl, .inl (.inl (.inl h)), q⟩)
def rLenT : List V → Hp → VK → Prop := fun vs H Q => ∃ p xs, vs = [.ref p] ∧ H p = some (.tup xs) ∧ Q (.int xs.length) H
theorem call_lenT : CallR X (.builtin "len") rLenT := CallR.of call_len_seq (by
  rintro vs H Q ⟨p, xs, rfl, h, q⟩
  exact ⟨p, xs, rfl, .inr (.inl (.inl h)), q⟩)
def rListH : List V → Hp → VK → Prop := fun vs H Q => ∃ p xs, vs = [.ref p] ∧ H p = some (.lst xs) ∧ ∀ l, H l = none → Q (.ref l) (upd H l (.lst xs))
theorem call_listH : CallR X (.type "list") rListH := CallR.of call_list_of (by
  rintro vs H Q ⟨p, xs, rfl, h, q⟩
  exact ⟨p, xs, rfl, .inl (.inl (.inl h)), q⟩)
theorem ints_dp {K : PySem.W.Frag} {H : Hp} : ∀ ns : List Int, DpAll K H (ns.map V.int) (ns.map PyData.int)
  | [] => .nil
  | n :: r => .cons (.int n) (ints_dp r)
theorem ints_eqv : ∀ ns ms : List Int, PyData.eqvAll (ns.map PyData.int) (ms.map PyData.int) = decide (ns = ms)
  | [], [] => by simp [PyData.eqvAll]
  | [], _ :: _ => by simp [PyData.eqvAll]
  | _ :: _, [] => by simp [PyData.eqvAll]
  | n :: r, m :: q => by
    rw [List.map_cons, List.map_cons, PyData.eqvAll, ints_eqv r q]
    simp only [PyData.eqv, List.cons.injEq, Bool.decide_and]
    by_cases h : n = m <;> simp [h]
theorem ints_lay : ∀ ns : List Int, PyData.canLayAll0 (ns.map PyData.int) = true
  | [] => rfl
  | _ :: r => by rw [List.map_cons, PyData.canLayAll0, ints_lay r]; rfl
theorem ints_depth : ∀ ns : List Int, PyData.depthAll (ns.map PyData.int) = 0
  | [] => rfl
  | _ :: r => by rw [List.map_cons, PyData.depthAll, ints_depth r]; rfl
theorem ints_shaped (ns : List Int) : SeqAt.shaped (.list (ns.map PyData.int)) = true := by
  unfold SeqAt.shaped
  rw [PyData.canLay0, ints_lay, PyData.depth, ints_depth]
  rfl
/-- == and != of two tracked lists of ints -/
def rEqIL : R2 := fun x y H Q => ∃ a b ns ms, x = .ref a ∧ y = .ref b ∧ H a = some (.lst (List.map V.int ns)) ∧ H b = some (.lst (List.map V.int ms)) ∧ Q (.bl (decide (ns = ms))) H
theorem op_eqIL (hu : X.A.units + 64 < cLine) : OpR X (compareOp .Eq) rEqIL := OpR.of (op_eqD hu) (by
  rintro x y H Q ⟨a, b, ns, ms, rfl, rfl, ha, hb, q⟩
  refine ⟨_, _, .lst (.inl (.inl ha)) (ints_dp ns), .lst (.inl (.inl hb)) (ints_dp ms), ints_shaped ns, ints_shaped ms, ?_⟩
  rw [PyData.eqv, ints_eqv]
  exact q)
def rNeIL : R2 := fun x y H Q => ∃ a b ns ms, x = .ref a ∧ y = .ref b ∧ H a = some (.lst (List.map V.int ns)) ∧ H b = some (.lst (List.map V.int ms)) ∧ Q (.bl (!decide (ns = ms))) H
theorem op_neIL (hu : X.A.units + 64 < cLine) : OpR X (compareOp .NotEq) rNeIL := OpR.of (op_neD hu) (by
  rintro x y H Q ⟨a, b, ns, ms, rfl, rfl, ha, hb, q⟩
  refine ⟨_, _, .lst (.inl (.inl ha)) (ints_dp ns), .lst (.inl (.inl hb)) (ints_dp ms), ints_shaped ns, ints_shaped ms, ?_⟩
  rw [PyData.eqv, ints_eqv]
  exact q)
/-- == of two tracked tuples of plain things -/
def dS : V → PyData
  | .int i => .int i
  | .bl b => .bool b
  | _ => .none
def isS : V → Bool
  | .int _ => true
  | .bl _ => true
  | .non => true
  | _ => false
theorem isS_dp {K : PySem.W.Frag} {H : Hp} : ∀ xs : List V, xs.all isS = true → DpAll K H xs (xs.map dS)
  | [], _ => .nil
  | x :: r, h => by
    rw [List.all_cons, Bool.and_eq_true] at h
    refine .cons ?_ (isS_dp r h.2)
    have h1 := h.1
    cases x <;> first | exact .int _ | exact .bl _ | exact .non | cases h1
theorem isS_lay : ∀ xs : List V, PyData.canLayAll0 (xs.map dS) = true
  | [] => rfl
  | x :: r => by rw [List.map_cons, PyData.canLayAll0, isS_lay r]; cases x <;> rfl
theorem isS_depth : ∀ xs : List V, PyData.depthAll (xs.map dS) = 0
  | [] => rfl
  | x :: r => by rw [List.map_cons, PyData.depthAll, isS_depth r]; cases x <;> rfl
theorem isS_shaped (xs : List V) : SeqAt.shaped (.tuple (xs.map dS)) = true := by
  unfold SeqAt.shaped
  rw [PyData.canLay0, isS_lay, PyData.depth, isS_depth]
  rfl
def rEqTS : R2 := fun x y H Q => ∃ a b xs ys, x = .ref a ∧ y = .ref b ∧ H a = some (.tup xs) ∧ H b = some (.tup ys) ∧ xs.all isS = true ∧ ys.all isS = true ∧ Q (.bl (PyData.eqvAll (xs.map dS) (ys.map dS))) H
theorem op_eqTS (hu : X.A.units + 64 < cLine) : OpR X (compareOp .Eq) rEqTS := OpR.of (op_eqD hu) (by
  rintro x y H Q ⟨a, b, xs, ys, rfl, rfl, ha, hb, h1, h2, q⟩
  refine ⟨_, _, .tup (.inl (.inl ha)) (isS_dp xs h1), .tup (.inl (.inl hb)) (isS_dp ys h2), isS_shaped xs, isS_shaped ys, ?_⟩
  rw [PyData.eqv]
  exact q)
theorem dS_int (i : Int) : dS (.int i) = .int i := rfl
theorem dS_bl (b : Bool) : dS (.bl b) = .bool b := rfl
theorem isS_int (i : Int) : isS (.int i) = true := rfl
theorem isS_bl (b : Bool) : isS (.bl b) = true := rfl
theorem eqv_ii (i j : Int) : PyData.eqv (.int i) (.int j) = decide (i = j) := by rw [PyData.eqv]; rfl
theorem eqv_bb (i j : Bool) : PyData.eqv (.bool i) (.bool j) = decide (i = j) := by rw [PyData.eqv]; cases i <;> cases j <;> rfl
theorem eqvAll_nil : PyData.eqvAll [] [] = true := by rw [PyData.eqvAll]
theorem eqvAll_cons (x y : PyData) (xs ys : List PyData) : PyData.eqvAll (x :: xs) (y :: ys) = (PyData.eqv x y && PyData.eqvAll xs ys) := by rw [PyData.eqvAll]
theorem ip_of {op : Operator} {r : R2} (h : OpR X (inplaceOp op) r) : PIp X op r := fun pins s σ H x y v u Q I r1 r2 q => h pins s σ H x y v u Q I r1 r2 q
theorem SlR.of {r r' : V → Option Int → Option Int → Hp → VK → Prop} (h : SlR X r) (k : ∀ x lo hi H Q, r' x lo hi H Q → r x lo hi H Q) : SlR X r' := fun pins s σ H x v vl vu lo hi sl Q I rx hs pl pu q => h pins s σ H x v vl vu lo hi sl Q I rx hs pl pu (k x lo hi H Q q)
/-- a slice of a tracked list -/
def rSlH : V → Option Int → Option Int → Hp → VK → Prop := fun x lo hi H Q => ∃ a xs, x = .ref a ∧ H a = some (.lst xs) ∧ ∀ p, H p = none → Q (.ref p) (upd H p (.lst (cutV xs lo hi)))
theorem sl_listH : SlR X rSlH := SlR.of sl_list (by
  rintro x lo hi H Q ⟨a, xs, rfl, h, q⟩
  exact ⟨a, xs, rfl, .inl (.inl h), q⟩)
/-- == and != of two tracked pairs of a list of ints and an int -/
theorem li_dp {K : PySem.W.Frag} {H : Hp} {q : Addr} {l : Int} {ns : List Int} (hq : H q = some (.lst (List.map V.int ns))) : DpAll K H [.ref q, .int l] [.list (ns.map PyData.int), .int l] := .cons (.lst (.inl (.inl hq)) (ints_dp ns)) (.cons (.int l) .nil)
theorem li_shaped (ns : List Int) (l : Int) : SeqAt.shaped (.tuple [.list (ns.map PyData.int), .int l]) = true := by
  unfold SeqAt.shaped
  rw [PyData.canLay0, PyData.canLayAll0, PyData.canLay0, ints_lay, PyData.canLayAll0, PyData.depth, PyData.depthAll, PyData.depth, ints_depth, PyData.depthAll]
  rfl
theorem li_eqv (ns ms : List Int) (l m : Int) : PyData.eqv (.tuple [.list (ns.map PyData.int), .int l]) (.tuple [.list (ms.map PyData.int), .int m]) = (decide (ns = ms) && decide (l = m)) := by
  rw [PyData.eqv, PyData.eqvAll, PyData.eqvAll, PyData.eqvAll, PyData.eqv, PyData.eqv, ints_eqv, Bool.and_true]
  rfl
def rEqLI : R2 := fun x y H Q => ∃ a b q r l m ns ms, x = .ref a ∧ y = .ref b ∧ H a = some (.tup [.ref q, .int l]) ∧ H b = some (.tup [.ref r, .int m]) ∧ H q = some (.lst (List.map V.int ns)) ∧ H r = some (.lst (List.map V.int ms)) ∧ Q (.bl (decide (ns = ms) && decide (l = m))) H
theorem op_eqLI (hu : X.A.units + 64 < cLine) : OpR X (compareOp .Eq) rEqLI := OpR.of (op_eqD hu) (by
  rintro x y H Q ⟨a, b, q, r, l, m, ns, ms, rfl, rfl, ha, hb, hq, hr, k⟩
  refine ⟨_, _, .tup (.inl (.inl ha)) (li_dp hq), .tup (.inl (.inl hb)) (li_dp hr), li_shaped ns l, li_shaped ms m, ?_⟩
  rw [li_eqv]
  exact k)
def rNeLI : R2 := fun x y H Q => ∃ a b q r l m ns ms, x = .ref a ∧ y = .ref b ∧ H a = some (.tup [.ref q, .int l]) ∧ H b = some (.tup [.ref r, .int m]) ∧ H q = some (.lst (List.map V.int ns)) ∧ H r = some (.lst (List.map V.int ms)) ∧ Q (.bl (!(decide (ns = ms) && decide (l = m)))) H
theorem op_neLI (hu : X.A.units + 64 < cLine) : OpR X (compareOp .NotEq) rNeLI := OpR.of (op_neD hu) (by
  rintro x y H Q ⟨a, b, q, r, l, m, ns, ms, rfl, rfl, ha, hb, hq, hr, k⟩
  refine ⟨_, _, .tup (.inl (.inl ha)) (li_dp hq), .tup (.inl (.inl hb)) (li_dp hr), li_shaped ns l, li_shaped ms m, ?_⟩
  rw [li_eqv]
  exact k)
def rIxH : R2 := fun x y H Q => ∃ p xs i v, x = .ref p ∧ y = .int i ∧ H p = some (.lst xs) ∧ atI xs i = some v ∧ Q v H
theorem IxR.of {r r' : R2} (h : IxR X r) (k : ∀ x y H Q, r' x y H Q → r x y H Q) : IxR X r' := fun va sl pins s σ H x y v u Q I rx ry q hs => h va sl pins s σ H x y v u Q I rx ry (k x y H Q q) hs
theorem ix_listH : IxR X rIxH := IxR.of ix_list (by
  rintro x y H Q ⟨p, xs, i, v, e1, e2, h, h2, q⟩
  exact ⟨p, xs, i, v, e1, e2, .inl (.inl h), h2, q⟩)
def rIxTH : R2 := fun x y H Q => ∃ p xs i v, x = .ref p ∧ y = .int i ∧ H p = some (.tup xs) ∧ atI xs i = some v ∧ Q v H
theorem ix_tupH : IxR X rIxTH := IxR.of ix_tup (by
  rintro x y H Q ⟨p, xs, i, v, e1, e2, h, h2, q⟩
  exact ⟨p, xs, i, v, e1, e2, .inl (.inl h), h2, q⟩)
end
/-- a place in bounds -/
theorem ixN_in {n : Nat} {k : Int} (h0 : 0 ≤ k) (h1 : k < n) : ixN n k = some k.toNat := by
  unfold ixN
  rw [if_pos h0, if_pos h1]
theorem atI_in {xs : List Int} {k : Int} (h0 : 0 ≤ k) (h1 : k < xs.length) : ∃ b, xs[k.toNat]? = some b ∧ atI (xs.map V.int) k = some (.int b) := by
  have h : k.toNat < xs.length := by omega
  refine ⟨xs[k.toNat], List.getElem?_eq_getElem h, ?_⟩
  unfold atI
  rw [List.length_map, ixN_in h0 h1]
  show (xs.map V.int)[k.toNat]? = _
  rw [List.getElem?_map, List.getElem?_eq_getElem h]
  rfl
theorem mod_in (x : Int) {m : Int} (h : 0 < m) : 0 ≤ x % m ∧ x % m < m := ⟨Int.emod_nonneg x (by omega), Int.emod_lt_of_pos x h⟩
theorem atI_c0 {α : Type} (x : α) (xs : List α) : atI (x :: xs) 0 = some x := atI_nat (j := 0) rfl
theorem atI_c1 {α : Type} (x y : α) (xs : List α) : atI (x :: y :: xs) 1 = some y := atI_nat (j := 1) rfl
theorem atI_c2 {α : Type} (x y z : α) (xs : List α) : atI (x :: y :: z :: xs) 2 = some z := atI_nat (j := 2) rfl
theorem atI_c3 {α : Type} (x y z u : α) (xs : List α) : atI (x :: y :: z :: u :: xs) 3 = some u := atI_nat (j := 3) rfl

theorem tyV_upd {K : PySem.W.Frag} {H : Hp} {p : Addr} {xs : List V} : tyV K "list" (.ref p) (upd H p (.lst xs)) = True := eq_true (.inl ⟨rfl, xs, .inl (.inl upd_same)⟩)
theorem nil_sz : (0 ≤ sizeLine) = True := eq_true (Nat.zero_le _)
/-- what a for asks once its walk stands -/
def Loop (J : It) (g : TG) (tb : TS) (D : Ends) (σ : L2.St) (H1 : Hp) : Prop := ∃ W : Nat → Nat → L2.St → Hp → Prop, (∃ m, W 0 m σ H1) ∧ ∀ i m σ H, W i m σ H →
  (J.stop i H ∧ D.nx σ H) ∨ (J.go i H ∧ ∃ N : L2.St → Hp → Prop, (∀ σ' H', N σ' H' → ∃ m', m' < m ∧ W (i + 1) m' σ' H') ∧ ∀ x H', J.yld i H x H' → g x σ H' fun σ2 H2 => tb { D with nx := N, ct := N, bk := D.nx } σ2 H2)
theorem tFor_eq {wi : TI} {g : TG} {tb : TS} {D : Ends} {σ : L2.St} {H : Hp} : tFor wi g tb D σ H = wi σ H fun J H1 => Loop J g tb D σ H1 := rfl
theorem lp_range {n : Nat} {g : TG} {tb : TS} {D : Ends} {σ : L2.St} {H : Hp} (Pv : Nat → L2.St → Hp → Prop) (h0 : Pv 0 σ H)
    (hs : ∀ i σ H, i < n → Pv i σ H → g (.int i) σ H fun σ2 H2 => tb { D with nx := Pv (i + 1), ct := Pv (i + 1), bk := D.nx } σ2 H2) (hd : ∀ σ H, Pv n σ H → D.nx σ H) : Loop (Itr 0 n) g tb D σ H :=
  for_range (lo := 0) Pv h0 (fun i σ H a b => by have := hs i σ H a b; rw [Int.zero_add]; exact this) hd
theorem lp_list {K : PySem.W.Frag} {a : Addr} {xs : List V} {g : TG} {tb : TS} {D : Ends} {σ : L2.St} {H : Hp} (Pv : Nat → L2.St → Hp → Prop) (h0 : Pv 0 σ H) (hl : ∀ i σ H, i ≤ xs.length → Pv i σ H → SqL K H a xs)
    (hs : ∀ i x σ H, xs[i]? = some x → Pv i σ H → g x σ H fun σ2 H2 => tb { D with nx := Pv (i + 1), ct := Pv (i + 1), bk := D.nx } σ2 H2) (hd : ∀ σ H, Pv xs.length σ H → D.nx σ H) : Loop (Itl K a) g tb D σ H := for_list Pv h0 hl hs hd
/-- the same for a comprehension -/
def LcLoop (J : It) (g : TG) (tt : TT) (te : TE) (vs : List Nat) (σ : L2.St) (H1 : Hp) (Q : VK) : Prop := ∀ D, H1 D = none → ∃ W : Nat → Nat → Hp → Prop, (∃ m, W 0 m (upd H1 D (.lst []))) ∧ ∀ i m H, W i m H →
  (J.stop i H ∧ Q (.ref D) H) ∨ (J.go i H ∧ ∃ Nx : Hp → Prop, (∀ H', Nx H' → ∃ m', m' < m ∧ W (i + 1) m' H') ∧ ∀ x H', J.yld i H x H' → g x (wipe σ vs) H' fun σ2 H2 => wipe σ2 vs = wipe σ vs ∧ tt σ2 H2 fun b H3 =>
    if b = true then te σ2 H3 fun y H4 => ∃ acc, H4 D = some (.lst acc) ∧ acc.length < sizeLine ∧ Nx (upd H4 D (.lst (acc ++ [y]))) else Nx H3)
theorem tLc_eq {wi : TI} {g : TG} {tt : TT} {te : TE} {vs : List Nat} {σ : L2.St} {H : Hp} {Q : VK} : tLc wi g tt te vs σ H Q = wi σ H fun J H1 => LcLoop J g tt te vs σ H1 Q := rfl
/-- a comprehension over a list, whose elements leave the heap as it is: L i is what i turns have made -/
theorem lc_pure {K : PySem.W.Frag} {a : Addr} {xs : List V} {g : TG} {tt : TT} {te : TE} {vs : List Nat} {σ : L2.St} {H1 : Hp} {Q : VK} (L : Nat → List V) (hS : SqL K H1 a xs) (h0 : L 0 = [])
    (hs : ∀ i x D, xs[i]? = some x → H1 D = none → g x (wipe σ vs) (upd H1 D (.lst (L i))) fun σ2 H2 => wipe σ2 vs = wipe σ vs ∧ tt σ2 H2 fun b H3 =>
      if b = true then te σ2 H3 fun y H4 => ∃ acc, H4 D = some (.lst acc) ∧ acc.length < sizeLine ∧ upd H4 D (.lst (acc ++ [y])) = upd H1 D (.lst (L (i + 1))) else H3 = upd H1 D (.lst (L (i + 1))))
    (hd : ∀ D, H1 D = none → Q (.ref D) (upd H1 D (.lst (L xs.length)))) : LcLoop (Itl K a) g tt te vs σ H1 Q := by
  intro D hD
  refine lc_list (K := K) (a := a) (xs := xs) (fun i H => H = upd H1 D (.lst (L i))) (by rw [h0]) (fun i H _ e => ?_) (fun i x H hx e => ?_) (fun H e => ?_)
  · subst e
    exact (show Same H1 _ from fun b o e => by rw [upd_ne (ne_of_none e hD)]; exact e).seq hS
  · subst e
    exact hs i x D hx hD
  · subst e
    exact hd D hD
theorem lc_pure_range {n : Nat} {g : TG} {tt : TT} {te : TE} {vs : List Nat} {σ : L2.St} {H1 : Hp} {Q : VK} (L : Nat → List V) (h0 : L 0 = [])
    (hs : ∀ i D, i < n → H1 D = none → g (.int i) (wipe σ vs) (upd H1 D (.lst (L i))) fun σ2 H2 => wipe σ2 vs = wipe σ vs ∧ tt σ2 H2 fun b H3 =>
      if b = true then te σ2 H3 fun y H4 => ∃ acc, H4 D = some (.lst acc) ∧ acc.length < sizeLine ∧ upd H4 D (.lst (acc ++ [y])) = upd H1 D (.lst (L (i + 1))) else H3 = upd H1 D (.lst (L (i + 1))))
    (hd : ∀ D, H1 D = none → Q (.ref D) (upd H1 D (.lst (L n)))) : LcLoop (Itr 0 n) g tt te vs σ H1 Q := by
  intro D hD
  refine lc_range (lo := 0) (n := n) (fun i H => H = upd H1 D (.lst (L i))) (by rw [h0]) (fun i H hi e => ?_) (fun H e => ?_)
  · subst e
    rw [Int.zero_add]
    exact hs i D hi hD
  · subst e
    exact hd D hD
theorem lp_zip {K : PySem.W.Frag} {a b : Addr} {xs ys : List V} {g : TG} {tb : TS} {D : Ends} {σ : L2.St} {H : Hp} (hl : xs.length = ys.length) (Pv : Nat → L2.St → Hp → Prop) (h0 : Pv 0 σ H) (hq : ∀ i σ H, Pv i σ H → SqL K H a xs ∧ SqL K H b ys)
    (hs : ∀ (i : Nat) (x y : V) (T : Addr) (σ : L2.St) (H : Hp), xs[i]? = some x → ys[i]? = some y → Pv i σ H → H T = none → g (.ref T) σ (upd H T (.tup [x, y])) fun σ2 H2 => tb { D with nx := Pv (i + 1), ct := Pv (i + 1), bk := D.nx } σ2 H2) (hd : ∀ σ H, Pv xs.length σ H → D.nx σ H) :
    Loop (Itz K a b) g tb D σ H := RZ.for_zipL hl Pv h0 hq hs hd
theorem lc_str {x : Str} {g : TG} {tt : TT} {te : TE} {vs : List Nat} {σ : L2.St} {H1 : Hp} {Q : VK} (L : Nat → List V) (h0 : L 0 = [])
    (hs : ∀ i c D, x.cps[i]? = some c → H1 D = none → g (.str ⟨#[c]⟩) (wipe σ vs) (upd H1 D (.lst (L i))) fun σ2 H2 => wipe σ2 vs = wipe σ vs ∧ tt σ2 H2 fun b H3 =>
      if b = true then te σ2 H3 fun y H4 => ∃ acc, H4 D = some (.lst acc) ∧ acc.length < sizeLine ∧ upd H4 D (.lst (acc ++ [y])) = upd H1 D (.lst (L (i + 1))) else H3 = upd H1 D (.lst (L (i + 1))))
    (hd : ∀ D, H1 D = none → Q (.ref D) (upd H1 D (.lst (L x.cps.size)))) : LcLoop (Its x) g tt te vs σ H1 Q := by
  intro D hD
  refine ⟨fun i m H => m = x.cps.size - i ∧ i ≤ x.cps.size ∧ H = upd H1 D (.lst (L i)), ⟨x.cps.size, by simp, Nat.zero_le _, by rw [h0]⟩, ?_⟩
  rintro i m H ⟨rfl, hi, rfl⟩
  by_cases hlt : i < x.cps.size
  · refine .inr ⟨hlt, fun H' => H' = upd H1 D (.lst (L (i + 1))), fun H' p' => ⟨x.cps.size - (i + 1), by omega, rfl, hlt, p'⟩, fun v H' y => ?_⟩
    obtain ⟨e, c, hc, ev⟩ := y
    subst e ev
    exact hs i c D hc hD
  · have e : i = x.cps.size := by omega
    subst e
    exact .inl ⟨Nat.le_refl _, hd D hD⟩
theorem lc_rangeC {lo c : Int} {n : Nat} {g : TG} {tt : TT} {te : TE} {vs : List Nat} {σ : L2.St} {H1 : Hp} {Q : VK} (L : Nat → List V) (h0 : L 0 = [])
    (hs : ∀ i D, i < n → H1 D = none → g (.int (lo + (i : Nat) * c)) (wipe σ vs) (upd H1 D (.lst (L i))) fun σ2 H2 => wipe σ2 vs = wipe σ vs ∧ tt σ2 H2 fun b H3 =>
      if b = true then te σ2 H3 fun y H4 => ∃ acc, H4 D = some (.lst acc) ∧ acc.length < sizeLine ∧ upd H4 D (.lst (acc ++ [y])) = upd H1 D (.lst (L (i + 1))) else H3 = upd H1 D (.lst (L (i + 1))))
    (hd : ∀ D, H1 D = none → Q (.ref D) (upd H1 D (.lst (L n)))) : LcLoop (Itc lo c n) g tt te vs σ H1 Q := by
  intro D hD
  refine ⟨fun i m H => m = n - i ∧ i ≤ n ∧ H = upd H1 D (.lst (L i)), ⟨n, by simp, Nat.zero_le _, by rw [h0]⟩, ?_⟩
  rintro i m H ⟨rfl, hi, rfl⟩
  by_cases hlt : i < n
  · refine .inr ⟨hlt, fun H' => H' = upd H1 D (.lst (L (i + 1))), fun H' p' => ⟨n - (i + 1), by omega, rfl, hlt, p'⟩, fun v H' y => ?_⟩
    obtain ⟨e, ev⟩ := y
    subst e ev
    exact hs i D hlt hD
  · have e : i = n := by omega
    subst e
    exact .inl ⟨Nat.le_refl _, hd D hD⟩
theorem small_two {a b : Int} (ha : -(2 ^ 62) ≤ a) (ha' : a < 2 ^ 62) (hb : -(2 ^ 62) ≤ b) (hb' : b < 2 ^ 62) : Builtin.Range.small a b 2 = true := by
  unfold Builtin.Range.small Builtin.Range.rangeSize
  simp only [Builtin.Range.rangeFitsLong, Bool.and_eq_true, Bool.or_eq_true, decide_eq_true_eq, beq_iff_eq, show ((2 : Int) > 0) by decide, if_true]
  split <;> omega
theorem rg_two {n : Nat} (h : n < 1000000) : RgC 0 ((n : Int) - 1) 2 (n / 2) := by
  refine ⟨by decide, by decide, small_two (by decide) (by decide) (by omega) (by omega), ?_⟩
  unfold Builtin.Range.rangeSize
  rw [if_pos (by decide)]
  split <;> omega
theorem wh_by {c : TT} {tb : TS} {D : Ends} {σ : L2.St} {H : Hp} (W : Nat → L2.St → Hp → Prop) (m : Nat) (h0 : W m σ H)
    (hs : ∀ m σ H, W m σ H → c σ H fun b H1 => if b = true then ∃ N : L2.St → Hp → Prop, (∀ σ' H', N σ' H' → ∃ m', m' < m ∧ W m' σ' H') ∧ tb { D with nx := N, ct := N, bk := D.nx } σ H1 else D.nx σ H1) : tWhile c tb D σ H := ⟨W, ⟨m, h0⟩, hs⟩
theorem lc_rng {n : Nat} {g : TG} {tt : TT} {te : TE} {vs : List Nat} {σ : L2.St} {H1 : Hp} {Q : VK} (Pv : Addr → Nat → Hp → Prop) (h0 : ∀ D, H1 D = none → Pv D 0 (upd H1 D (.lst [])))
    (hs : ∀ D i H, i < n → H1 D = none → Pv D i H → g (.int i) (wipe σ vs) H fun σ2 H2 => wipe σ2 vs = wipe σ vs ∧ tt σ2 H2 fun b H3 =>
      if b = true then te σ2 H3 fun y H4 => ∃ acc, H4 D = some (.lst acc) ∧ acc.length < sizeLine ∧ Pv D (i + 1) (upd H4 D (.lst (acc ++ [y]))) else Pv D (i + 1) H3)
    (hd : ∀ D H, H1 D = none → Pv D n H → Q (.ref D) H) : LcLoop (Itr 0 n) g tt te vs σ H1 Q := by
  intro D hD
  refine lc_range (lo := 0) (n := n) (Pv D) (h0 D hD) (fun i H hi p => ?_) (fun H p => hd D H hD p)
  rw [Int.zero_add]
  exact hs D i H hi hD p
theorem same_upd {H : Hp} {p : Addr} {o : HO} (h : H p = none) : Same H (upd H p o) := fun b x e => by
  rw [upd_ne (ne_of_none e h)]
  exact e
theorem same_upd2 {H H' : Hp} {q : Addr} {o : HO} (s : Same H H') (h : H q = none) : Same H (upd H' q o) := fun b x e => by
  rw [upd_ne (ne_of_none e h)]
  exact s b x e

/-! ### fresh objects: the heap behind one as a heap of its own -/
def NewH (H : Hp) (o : HO) (k : Addr → Hp → Prop) : Prop := ∀ p H', Same H H' → H p = none → H' p = some o → k p H'
theorem NewH.go {H : Hp} {o : HO} {k : Addr → Hp → Prop} (h : NewH H o k) : ∀ p, H p = none → k p (upd H p o) := fun p hp => h p _ (same_upd hp) hp upd_same
section
variable {X : Cx} {es : List Expr} {t : TA} {pos : Pos}
theorem pa_mono (h : PA X es t) : PA X es (fun σ H Q => ∃ Q', t σ H Q' ∧ ∀ xs H1, Q' xs H1 → Q xs H1) := ⟨fun pos pins s σ H Q I ⟨_, q, k⟩ => thn (h.run pos pins s σ H _ I q) fun _ _ ⟨vs, H', I', r, q'⟩ => ⟨vs, H', I', r, k _ _ q'⟩⟩
theorem PE.of {e : Expr} {t t' : TE} (h : PE X e t) (k : ∀ σ H Q, t' σ H Q → t σ H Q) : PE X e t' := ⟨fun pins s σ H Q I q => h.run pins s σ H Q I (k _ _ _ q)⟩
def tTupS (t : TA) : TE := fun σ H Q => t σ H fun xs H1 => xs.length ≤ sizeLine ∧ NewH H1 (.tup xs) fun p H' => Q (.ref p) H'
def tLstS (t : TA) : TE := fun σ H Q => t σ H fun xs H1 => xs.length ≤ sizeLine ∧ NewH H1 (.lst xs) fun p H' => Q (.ref p) H'
theorem pe_tupS {x1} (h : PA X es t) : PE X (.Tuple es x1 pos) (tTupS t) := PE.of (pe_tup (pa_mono h)) fun σ H Q q => ⟨_, q, fun _ _ z => ⟨z.1, z.2.go⟩⟩
theorem pe_lstS (h : PA X es t) : PE X (.List es pos) (tLstS t) := PE.of (pe_lst (pa_mono h)) fun σ H Q q => ⟨_, q, fun _ _ z => ⟨z.1, z.2.go⟩⟩
def rListS : List V → Hp → VK → Prop := fun vs H Q => ∃ p xs, vs = [.ref p] ∧ H p = some (.lst xs) ∧ NewH H (.lst xs) fun l H' => Q (.ref l) H'
theorem call_listS : CallR X (.type "list") rListS := CallR.of call_listH fun vs H Q ⟨p, xs, e, h, q⟩ => ⟨p, xs, e, h, q.go⟩
/-- list(t) of a tuple -/
def rListT : List V → Hp → VK → Prop := fun vs H Q => ∃ p xs, vs = [.ref p] ∧ H p = some (.tup xs) ∧ NewH H (.lst xs) fun l H' => Q (.ref l) H'
theorem call_listT : CallR X (.type "list") rListT := CallR.of call_list_of fun vs H Q ⟨p, xs, e, h, q⟩ => ⟨p, xs, e, .inr (.inl (.inl h)), q.go⟩
/-- tuple(xs) of a tracked list -/
def rTupleL : List V → Hp → VK → Prop := fun vs H Q => ∃ p xs, vs = [.ref p] ∧ H p = some (.lst xs) ∧ NewH H (.tup xs) fun l H' => Q (.ref l) H'
theorem call_tupleL : CallR X (.type "tuple") rTupleL := CallR.of call_tuple_of fun vs H Q ⟨p, xs, e, h, q⟩ => ⟨p, xs, e, .inl ⟨.inl (.inl h), q.go⟩⟩
def rCatL : R2 := fun x y H Q => ∃ l b xs zs, x = .ref l ∧ y = .ref b ∧ H l = some (.lst xs) ∧ H b = some (.lst zs) ∧ xs.length + zs.length ≤ sizeLine ∧ NewH H (.lst (xs ++ zs)) fun p H' => Q (.ref p) H'
theorem op_catS : OpR X (binaryOp .Add) rCatL := OpR.of op_cat fun x y H Q ⟨l, b, xs, zs, e1, e2, h1, h2, z, q⟩ => ⟨l, b, xs, zs, e1, e2, h1, h2, z, q.go⟩
/-- [x] * n -/
def rRepS : R2 := fun x y H Q => ∃ l k v, x = .ref l ∧ y = .int k ∧ H l = some (.lst [v]) ∧ k ≤ 16777216 ∧ -(2 ^ 62) ≤ k ∧ NewH H (.lst (List.replicate k.toNat v)) fun p H' => Q (.ref p) H'
theorem rep_flat {α : Type} (n : Nat) (y : α) : (List.replicate n [y]).flatten = List.replicate n y := by
  induction n with
  | zero => rfl
  | succ n ih => rw [List.replicate_succ, List.flatten_cons, ih, List.replicate_succ]; rfl
theorem op_repS : OpR X (binaryOp .Mult) rRepS := OpR.of op_rep fun x y H Q ⟨l, k, v, e1, e2, h1, z1, z2, q⟩ => ⟨l, k, [v], e1, e2, h1, by omega, by omega, by
    rw [List.length_singleton, show sizeLine = 16777216 from rfl]; omega, by rw [rep_flat]; exact q.go⟩
def rSlS : V → Option Int → Option Int → Hp → VK → Prop := fun x lo hi H Q => ∃ a xs, x = .ref a ∧ H a = some (.lst xs) ∧ NewH H (.lst (cutV xs lo hi)) fun p H' => Q (.ref p) H'
theorem sl_listS : SlR X rSlS := SlR.of sl_listH fun x lo hi H Q ⟨a, xs, e, h, q⟩ => ⟨a, xs, e, h, q.go⟩
theorem pe_mono {e : Expr} {t : TE} (h : PE X e t) : PE X e (fun σ H Q => ∃ Q', t σ H Q' ∧ ∀ v H1, Q' v H1 → Q v H1) := ⟨fun pins s σ H Q I ⟨_, q, k⟩ => thn (h.run pins s σ H _ I q) fun _ _ ⟨v, H', I', r, q'⟩ => ⟨v, H', I', r, k _ _ q'⟩⟩
theorem PG.of {e : Expr} {t t' : TG} (h : PG X e t) (k : ∀ v σ H Q, t' v σ H Q → t v σ H Q) : PG X e t' := ⟨fun pins s σ H v u Q I r q => h.run pins s σ H v u Q I r (k _ _ _ _ q)⟩
theorem PI.of {tg e : Expr} {t t' : TI} (h : PI X tg e t) (k : ∀ σ H R, t' σ H R → t σ H R) : PI X tg e t' := ⟨fun pins s σ H R I q => h.run pins s σ H R I (k _ _ _ q)⟩
def gTupS (n : Nat) (t : TGs) : TG := fun v σ H Q => ∃ a xs, v = .ref a ∧ H a = some (.tup xs) ∧ xs.length = n ∧ t xs σ H Q
theorem pg_tupS {k : Nat} {t : TGs} {n : Nat} (hc : X.calm = true) (h : PGs X es t) (hn : (assignEach es X.env).length = n := by rfl) (hst : (assignEach es X.env).findIdx? (·.1) = none := by rfl) : PG X (.Tuple es k pos) (gTupS n t) :=
  PG.of (pg_tup hc h hn hst) fun v σ H Q ⟨a, xs, e, g, l, q⟩ => ⟨a, xs, e, .inl (.inl g), l, q⟩
def gLstS (n : Nat) (t : TGs) : TG := fun v σ H Q => ∃ a xs, v = .ref a ∧ H a = some (.lst xs) ∧ xs.length = n ∧ t xs σ H Q
theorem pg_lstS {k : Nat} {t : TGs} {n : Nat} (hc : X.calm = true) (h : PGs X es t) (hn : (assignEach es X.env).length = n := by rfl) (hst : (assignEach es X.env).findIdx? (·.1) = none := by rfl) : PG X (.Tuple es k pos) (gLstS n t) :=
  PG.of (pg_lst hc h hn hst) fun v σ H Q ⟨a, xs, e, g, l, q⟩ => ⟨a, xs, e, .inl (.inl g), l, q⟩
def iListS (K : PySem.W.Frag) (tl : TE) : TI := fun σ H R => tl σ H fun x H1 => ∃ a xs, x = .ref a ∧ H1 a = some (.lst xs) ∧ R (Itl K a) H1
theorem pi_listS {tg l : Expr} {tl : TE} (hl : PE X l tl) : PI X tg l (iListS X.K tl) := PI.of (pi_list (pe_mono hl)) fun σ H R q => ⟨_, q, fun _ _ ⟨a, xs, e, g, r⟩ => ⟨a, e, ⟨xs, .inl (.inl g)⟩, r⟩⟩
def iTupS (K : PySem.W.Frag) (tl : TE) : TI := fun σ H R => tl σ H fun x H1 => ∃ a xs, x = .ref a ∧ H1 a = some (.tup xs) ∧ R (Itt K a) H1
theorem pi_tupS {tg l : Expr} {tl : TE} (hl : PE X l tl) : PI X tg l (iTupS X.K tl) := PI.of (pi_tup (pe_mono hl)) fun σ H R q => ⟨_, q, fun _ _ ⟨a, xs, e, g, r⟩ => ⟨a, e, ⟨xs, .inl (.inl g)⟩, r⟩⟩
def tML (r : V → List V → Hp → VK → Prop) (to : TE) (t : TA) : TE := fun σ H Q => to σ H fun x H1 => ∃ p xs, x = .ref p ∧ H1 p = some (.lst xs) ∧ t σ H1 fun ys H2 => r x ys H2 Q
theorem pe_ml {to : TE} {t : TA} {e : PySem.Expr} {K : PySem.W.Frag} {r : V → List V → Hp → VK → Prop} (h : PE X e (tBM K "list" r (fun σ H Q => ∃ Q', to σ H Q' ∧ ∀ v H1, Q' v H1 → Q v H1) t)) : PE X e (tML r to t) :=
  PE.of h fun σ H Q q => ⟨_, q, fun v H1 ⟨p, xs, e, g, z⟩ => ⟨by rw [e]; exact .inl ⟨rfl, xs, .inl (.inl g)⟩, z⟩⟩
def tML0 (r : V → List V → Hp → VK → Prop) (to : TE) : TE := fun σ H Q => to σ H fun x H1 => ∃ p xs, x = .ref p ∧ H1 p = some (.lst xs) ∧ r x [] H1 Q
theorem pe_ml0 {to : TE} {e : PySem.Expr} {K : PySem.W.Frag} {r : V → List V → Hp → VK → Prop} (h : PE X e (tBM0 K "list" r (fun σ H Q => ∃ Q', to σ H Q' ∧ ∀ v H1, Q' v H1 → Q v H1))) : PE X e (tML0 r to) :=
  PE.of h fun σ H Q q => ⟨_, q, fun v H1 ⟨p, xs, e, g, z⟩ => ⟨by rw [e]; exact .inl ⟨rfl, xs, .inl (.inl g)⟩, z⟩⟩
end
/-- loops and comprehensions over any walk -/
theorem lpW {J : It} {n : Nat} {G : Hp → Prop} {Y : Nat → Hp → V → Hp → Prop} (w : Walk J n G Y) {g : TG} {tb : TS} {D : Ends} {σ : L2.St} {H : Hp} (Pv : Nat → L2.St → Hp → Prop) (h0 : Pv 0 σ H) (hG : ∀ i σ H, i ≤ n → Pv i σ H → G H)
    (hs : ∀ i x σ H H', i < n → Pv i σ H → Y i H x H' → g x σ H' fun σ2 H2 => tb { D with nx := Pv (i + 1), ct := Pv (i + 1), bk := D.nx } σ2 H2) (hd : ∀ σ H, Pv n σ H → D.nx σ H) : Loop J g tb D σ H := for_it w Pv h0 hG hs hd
theorem lcW {J : It} {n : Nat} {G : Hp → Prop} {Y : Nat → Hp → V → Hp → Prop} (w : Walk J n G Y) {g : TG} {tt : TT} {te : TE} {vs : List Nat} {σ : L2.St} {H1 : Hp} {Q : VK} (Pv : Addr → Nat → Hp → Prop) (h0 : ∀ D H, Same H1 H → H1 D = none → H D = some (.lst []) → Pv D 0 H)
    (hG : ∀ D i H, H1 D = none → i ≤ n → Pv D i H → G H) (hs : ∀ D i x H H', i < n → H1 D = none → Pv D i H → Y i H x H' → g x (wipe σ vs) H' fun σ2 H2 => wipe σ2 vs = wipe σ vs ∧ tt σ2 H2 fun b H3 =>
      if b = true then te σ2 H3 fun y H4 => ∃ acc, H4 D = some (.lst acc) ∧ acc.length < sizeLine ∧ Pv D (i + 1) (upd H4 D (.lst (acc ++ [y]))) else Pv D (i + 1) H3)
    (hd : ∀ D H, H1 D = none → Pv D n H → Q (.ref D) H) : LcLoop J g tt te vs σ H1 Q :=
  fun D hD => lc_it w (Pv D) (h0 D _ (same_upd hD) hD upd_same) (fun i H hi p => hG D i H hD hi p) (fun i x H H' hi p y => hs D i x H H' hi hD p y) fun H p => hd D H hD p
theorem lcL {J : It} {n : Nat} {G : Hp → Prop} {Y : Nat → Hp → V → Hp → Prop} (w : Walk J n G Y) {g : TG} {tt : TT} {te : TE} {vs : List Nat} {σ : L2.St} {H1 : Hp} {Q : VK} (L : Nat → List V) (hz : L 0 = []) (hG : ∀ H, Same H1 H → G H)
    (hs : ∀ D i x H H', i < n → H1 D = none → Same H1 H → H D = some (.lst (L i)) → Y i H x H' → g x (wipe σ vs) H' fun σ2 H2 => wipe σ2 vs = wipe σ vs ∧ tt σ2 H2 fun b H3 =>
      if b = true then te σ2 H3 fun y H4 => ∃ acc, H4 D = some (.lst acc) ∧ acc.length < sizeLine ∧ Same H1 (upd H4 D (.lst (acc ++ [y]))) ∧ upd H4 D (.lst (acc ++ [y])) D = some (.lst (L (i + 1))) else Same H1 H3 ∧ H3 D = some (.lst (L (i + 1))))
    (hd : ∀ D H, Same H1 H → H1 D = none → H D = some (.lst (L n)) → Q (.ref D) H) : LcLoop J g tt te vs σ H1 Q :=
  lcW w (fun D i H => Same H1 H ∧ H D = some (.lst (L i))) (fun D H s _ g => ⟨s, by rw [g, hz]⟩) (fun _ _ H _ _ p => hG H p.1) (fun D i x H H' hi hD p y => hs D i x H H' hi hD p.1 p.2 y) fun D H hD p => hd D H p.1 hD p.2
theorem walkR {n : Nat} : Walk (Itr 0 n) n (fun _ => True) (YFn fun i => .int (i : Int)) := walk_range.mono (fun _ h => h) fun i H x H' _ _ y => ⟨y.1, by rw [y.2]; show V.int (0 + (i : Int)) = V.int (i : Int); rw [Int.zero_add]⟩
theorem walkL {K : PySem.W.Frag} {a : Addr} {xs : List V} : Walk (Itl K a) xs.length (fun H => H a = some (.lst xs)) (YAt xs) := (walk_list (K := K) (a := a) (xs := xs)).mono (fun _ h => .inl (.inl h)) fun _ _ _ _ _ _ y => y
theorem walkT {K : PySem.W.Frag} {a : Addr} {xs : List V} : Walk (Itt K a) xs.length (fun H => H a = some (.tup xs)) (YAt xs) := (walk_tup (K := K) (a := a) (xs := xs)).mono (fun _ h => .inl (.inl h)) fun _ _ _ _ _ _ y => y
/-- a list of ints is walked -/
def YInt (ns : List Int) : Nat → Hp → V → Hp → Prop := fun i H v H' => H' = H ∧ ∃ b, ns[i]? = some b ∧ v = .int b
theorem walkI {K : PySem.W.Frag} {a : Addr} {ns : List Int} : Walk (Itl K a) ns.length (fun H => H a = some (.lst (List.map V.int ns))) (YInt ns) := by
  have w := walkL (K := K) (a := a) (xs := List.map V.int ns)
  rw [List.length_map] at w
  refine w.mono (fun _ h => h) fun i H x H' _ _ y => ⟨y.1, ?_⟩
  have h := y.2
  rw [List.getElem?_map] at h
  obtain ⟨b, h1, rfl⟩ := Option.map_eq_some_iff.mp h
  exact ⟨b, h1, rfl⟩
theorem sqL_eq {K : PySem.W.Frag} {H : Hp} {a : Addr} {xs : List V} (h : H a = some (.lst xs)) : (∃ xs, SqL K H a xs) = True := eq_true ⟨_, .inl (.inl h)⟩
theorem sqT_eq {K : PySem.W.Frag} {H : Hp} {a : Addr} {xs : List V} (h : H a = some (.tup xs)) : (∃ xs, SqT K H a xs) = True := eq_true ⟨_, .inl (.inl h)⟩
theorem tyL_eq {K : PySem.W.Frag} {H : Hp} {p : Addr} {xs : List V} (h : H p = some (.lst xs)) : tyV K "list" (.ref p) H = True := eq_true (.inl ⟨rfl, xs, .inl (.inl h)⟩)
theorem Same.c2 {H H' : Hp} {a b : Addr} {x y : HO} (s : Same H H') (ga : H a = some x) (gb : H b = some y) : H' a = some x ∧ H' b = some y := ⟨s _ _ ga, s _ _ gb⟩
theorem map_int_inj {xs ys : List Int} : (List.map V.int xs = List.map V.int ys) = (xs = ys) := by
  refine propext ⟨fun h => ?_, fun h => by rw [h]⟩
  induction xs generalizing ys with
  | nil => cases ys with
    | nil => rfl
    | cons y q => cases h
  | cons x r ih => cases ys with
    | nil => cases h
    | cons y q =>
      rw [List.map_cons, List.map_cons, List.cons.injEq, V.int.injEq] at h
      rw [h.1, ih h.2]
theorem sz1 : (1 ≤ sizeLine) = True := eq_true (by decide)
theorem sz2 : (2 ≤ sizeLine) = True := eq_true (by decide)
theorem sz3 : (3 ≤ sizeLine) = True := eq_true (by decide)
theorem sz4 : (4 ≤ sizeLine) = True := eq_true (by decide)
theorem sz5 : (5 ≤ sizeLine) = True := eq_true (by decide)
theorem sz6 : (6 ≤ sizeLine) = True := eq_true (by decide)
theorem sz8 : (8 ≤ sizeLine) = True := eq_true (by decide)
/-- an item of a list of ints -/
def gN (ns : List Int) (i : Nat) : Int := ns.getD i 0
theorem at_g {ns : List Int} {i : Nat} (h : i < ns.length) : atI (ns.map V.int) (i : Int) = some (V.int (gN ns i)) := by
  refine atI_nat ?_
  rw [List.getElem?_map, List.getElem?_eq_getElem h]
  simp [gN, h]
theorem at_g' {ns : List Int} {k : Int} {i : Nat} (e : k = (i : Int)) (h : i < ns.length) : atI (ns.map V.int) k = some (V.int (gN ns i)) := by
  rw [e]
  exact at_g h
theorem iteT' {c : Bool} {a b : Prop} (h : c = true) (x : a) : if c = true then a else b := by rw [if_pos h]; exact x
theorem iteF' {c : Bool} {a b : Prop} (h : c = false) (x : b) : if c = true then a else b := by rw [if_neg (by rw [h]; decide)]; exact x
theorem iteB {c : Bool} {p : Prop} [Decidable p] {a b : Prop} (h : c = decide p) (x : p → a) (y : ¬ p → b) : if c = true then a else b := by
  subst h
  exact ite2 (fun e => x (of_decide_eq_true e)) fun e => y fun z => e (decide_eq_true z)
theorem iteD {p : Prop} [Decidable p] {a b : Prop} (x : p → a) (y : ¬ p → b) : if decide p = true then a else b := iteB rfl x y
def mx (x y : Int) : Int := if x < y then y else x
def mn (x y : Int) : Int := if y < x then y else x
theorem mx_eq (x y : Int) : (if x < y then y else x) = mx x y := rfl
theorem mn_eq (x y : Int) : (if y < x then y else x) = mn x y := rfl
theorem mx_le {x y z : Int} : mx x y ≤ z ↔ x ≤ z ∧ y ≤ z := by
  unfold mx
  split <;> omega
theorem lt_mn {x y z : Int} : z < mn x y ↔ z < x ∧ z < y := by
  unfold mn
  split <;> omega
theorem toNat_mul (m n : Nat) : ((m : Int) * (n : Int)).toNat = m * n := by rw [← Int.natCast_mul, Int.toNat_natCast]
theorem atI_lit {xs : List V} {k : Int} (h0 : 0 ≤ k) (h1 : k < xs.length) : ∃ v, atI xs k = some v ∧ v ∈ xs := by
  have h : k.toNat < xs.length := by omega
  refine ⟨xs[k.toNat], ?_, List.getElem_mem h⟩
  unfold atI
  rw [ixN_in h0 h1]
  exact List.getElem?_eq_getElem h
theorem atI_lits {xs : List Int} {k : Int} (h0 : 0 ≤ k) (h1 : k < xs.length) : ∃ v, atI (List.map V.int xs) k = some (.int v) ∧ v ∈ xs := by
  obtain ⟨v, h, hm⟩ := atI_lit (xs := List.map V.int xs) h0 (by rw [List.length_map]; exact h1)
  obtain ⟨i, hi, rfl⟩ := List.mem_map.mp hm
  exact ⟨i, h, hi⟩
theorem natOf {x : Int} (h : 0 ≤ x) : ∃ n : Nat, x = (n : Int) := ⟨x.toNat, by omega⟩
theorem map_cat (xs ys : List Int) : List.map V.int xs ++ List.map V.int ys = List.map V.int (xs ++ ys) := by rw [List.map_append]
theorem map_snoc (xs : List Int) (v : Int) : List.map V.int xs ++ [V.int v] = List.map V.int (xs ++ [v]) := by rw [List.map_append]; rfl
theorem map_setV (l : List Int) (i : Nat) (v : Int) : (List.map V.int l).set i (.int v) = List.map V.int (l.set i v) := by rw [List.map_set]
/-- all but one object stand as they stood -/
def But (a : Addr) (H H' : Hp) : Prop := ∀ b o, b ≠ a → H b = some o → H' b = some o
theorem But.refl (a : Addr) (H : Hp) : But a H H := fun _ _ _ h => h
theorem But.ofSame {a : Addr} {H H' : Hp} (s : Same H H') : But a H H' := fun b o _ h => s b o h
theorem But.trans {a : Addr} {H H1 H2 : Hp} (x : But a H H1) (y : But a H1 H2) : But a H H2 := fun b o n h => y b o n (x b o n h)
theorem But.put {a : Addr} {H H' : Hp} {o : HO} (x : But a H H') : But a H (upd H' a o) := fun b o' n h => by rw [upd_ne n]; exact x b o' n h
theorem But.same {a : Addr} {H H1 H' : Hp} (s : Same H H1) (x : But a H1 H') (h : H a = none) : Same H H' := fun b o e => x b o (ne_of_none e h) (s b o e)
/-- the cell k of the script -/
def cellA (ns : List Int) (k : Nat) : Int := ns.getD k 0
def absI (c : Int) : Int := if c < 0 then -c else c
theorem absI_eq (c : Int) : (if c < 0 then -c else c) = absI c := rfl
theorem absI_nn (c : Int) : 0 ≤ absI c := by
  unfold absI
  split <;> omega
section
variable {X : Cx}
/-- xs[i] op= e reads the item first -/
def rGetL : V → V → Hp → VK → Prop := fun x y H Q => ∃ p xs i v, x = .ref p ∧ y = .int i ∧ H p = some (.lst xs) ∧ 0 ≤ i ∧ i < 2 ^ 62 ∧ xs[i.toNat]? = some v ∧ Q v H
theorem pget_list : PGet X rGetL := by
  intro pins s σ H x y v u Q I rx ry h
  obtain ⟨p, xs, i, z, rfl, rfl, hp, h0, h1, he, q⟩ := h
  cases rx
  obtain ⟨t, rfl⟩ := ry
  obtain ⟨its, r, pl, _⟩ := I.list (.inl (.inl hp))
  obtain ⟨w, ew, rw'⟩ := r.get he
  exact getItem_listL pl.isList h0 (by omega) ew ⟨z, H, I, rw', q⟩
def iZipS (K : PySem.W.Frag) (ta : TA) : TI := fun σ H R => ta σ H fun vs H1 => ∃ a b xs ys, vs = [.ref a, .ref b] ∧ H1 a = some (.lst xs) ∧ H1 b = some (.lst ys) ∧ R (Itz K a b) H1
theorem pi_zipS {e e2 : Expr} {ta : TA} {p pos tpos : Pos} {elts : List Expr} {kk : Nat} (hg : Gl X "zip") (hm : X.mg "zip" = none) (ha : PA X [e, e2] ta) (hs : starEach [e, e2] X.env = (false, eval e X.env) :: starEach [e2] X.env := by rfl) (hpl : (backTo pos (starEach [e2] X.env)).any (·.1) = false := by rfl) :
    PI X (.Tuple elts kk tpos) (.Call (.Name "zip" p) [e, e2] [] pos) (iZipS X.K ta) := PI.of (pi_zip hg hm (pa_mono ha) hs hpl) fun σ H R q => ⟨_, q, fun vs H1 ⟨a, b, xs, ys, e, g1, g2, r⟩ => ⟨a, b, xs, ys, e, .inl (.inl g1), .inl (.inl g2), r⟩⟩
end
theorem walkZ {K : PySem.W.Frag} {a b : Addr} {xs ys : List V} {n : Nat} (hn : n = min xs.length ys.length) : Walk (Itz K a b) n (fun H => H a = some (.lst xs) ∧ H b = some (.lst ys)) (YPair (fun i => xs[i]?) (fun i => ys[i]?)) :=
  (walk_zip (K := K) (a := a) (b := b) hn).mono (fun _ h => ⟨.inl (.inl h.1), .inl (.inl h.2)⟩) fun _ _ _ _ _ _ y => y
theorem cutV_take {xs : List V} {n : Nat} : cutV xs none (some (n : Int)) = xs.take n := by
  unfold cutV
  rw [HT.sIx_nat, HT.sIx_none, List.drop_zero]
  by_cases h : n ≤ xs.length
  · rw [Nat.min_eq_left h, Nat.sub_zero]
  · rw [Nat.min_eq_right (by omega), Nat.sub_zero, List.take_of_length_le (Nat.le_refl _), List.take_of_length_le (by omega)]
theorem cutV_drop {xs : List V} {n : Nat} : cutV xs (some (n : Int)) none = xs.drop n := by
  unfold cutV
  rw [HT.sIx_nat, HT.sIx_none]
  by_cases h : n ≤ xs.length
  · rw [Nat.min_eq_left h, List.take_of_length_le (by rw [List.length_drop]; exact Nat.le_refl _)]
  · rw [Nat.min_eq_right (by omega), List.drop_of_length_le (Nat.le_refl _), List.drop_of_length_le (by omega), List.take_nil]
theorem cutI_take {xs : List Int} {n : Nat} : cutV (List.map V.int xs) none (some (n : Int)) = List.map V.int (xs.take n) := by rw [cutV_take, List.map_take]
theorem cutI_drop {xs : List Int} {n : Nat} : cutV (List.map V.int xs) (some (n : Int)) none = List.map V.int (xs.drop n) := by rw [cutV_drop, List.map_drop]
/-- two lists item by item -/
inductive All2 {α β : Type} (R : α → β → Prop) : List α → List β → Prop
  | nil : All2 R [] []
  | cons {x : α} {y : β} {xs : List α} {ys : List β} : R x y → All2 R xs ys → All2 R (x :: xs) (y :: ys)
section
variable {α β : Type} {R S : α → β → Prop}
theorem All2.len {xs : List α} {ys : List β} (h : All2 R xs ys) : xs.length = ys.length := by
  induction h with
  | nil => rfl
  | cons _ _ ih => rw [List.length_cons, List.length_cons, ih]
theorem All2.mono {xs : List α} {ys : List β} (h : All2 R xs ys) (k : ∀ x y, R x y → S x y) : All2 S xs ys := by
  induction h with
  | nil => exact .nil
  | cons r _ ih => exact .cons (k _ _ r) ih
theorem All2.app {xs xs' : List α} {ys ys' : List β} (h : All2 R xs ys) (k : All2 R xs' ys') : All2 R (xs ++ xs') (ys ++ ys') := by
  induction h with
  | nil => exact k
  | cons r _ ih => exact .cons r ih
theorem All2.snoc {xs : List α} {ys : List β} {x : α} {y : β} (h : All2 R xs ys) (r : R x y) : All2 R (xs ++ [x]) (ys ++ [y]) := h.app (.cons r .nil)
theorem All2.at {xs : List α} {ys : List β} (h : All2 R xs ys) {i : Nat} {x : α} (e : xs[i]? = some x) : ∃ y, ys[i]? = some y ∧ R x y := by
  induction h generalizing i with
  | nil => simp at e
  | cons r _ ih =>
    cases i with
    | zero => exact ⟨_, rfl, by simpa using (Option.some.inj e) ▸ r⟩
    | succ i => exact ih e
theorem All2.at' {xs : List α} {ys : List β} (h : All2 R xs ys) {i : Nat} {y : β} (e : ys[i]? = some y) : ∃ x, xs[i]? = some x ∧ R x y := by
  induction h generalizing i with
  | nil => simp at e
  | cons r _ ih =>
    cases i with
    | zero => exact ⟨_, rfl, by simpa using (Option.some.inj e) ▸ r⟩
    | succ i => exact ih e
theorem All2.take {xs : List α} {ys : List β} (h : All2 R xs ys) (n : Nat) : All2 R (xs.take n) (ys.take n) := by
  induction h generalizing n with
  | nil => rw [List.take_nil, List.take_nil]; exact .nil
  | cons r _ ih =>
    cases n with
    | zero => exact .nil
    | succ n => exact .cons r (ih n)
theorem All2.drop {xs : List α} {ys : List β} (h : All2 R xs ys) (n : Nat) : All2 R (xs.drop n) (ys.drop n) := by
  induction h generalizing n with
  | nil => rw [List.drop_nil, List.drop_nil]; exact .nil
  | cons r t ih =>
    cases n with
    | zero => exact .cons r t
    | succ n => exact ih n
end
theorem tup_upd {H : Hp} {a l : Addr} {xs ys : List V} {o : HO} (h : H a = some (.tup xs)) (g : H l = some (.lst ys)) : upd H l o a = some (.tup xs) := by
  rw [upd_ne (ne_of h g (by intro z; cases z))]
  exact h
theorem tup_but {H H' : Hp} {a l : Addr} {xs ys : List V} (bt : But l H H') (h : H a = some (.tup xs)) (g : H l = some (.lst ys)) : H' a = some (.tup xs) := bt _ _ (ne_of h g (by intro z; cases z)) h
theorem cutV_take1 {xs : List V} : cutV xs none (some 1) = xs.take 1 := cutV_take (n := 1)
theorem cutV_drop1 {xs : List V} : cutV xs (some 1) none = xs.drop 1 := cutV_drop (n := 1)
section
variable {X : Cx}
/-- the script: its length, an item -/
def rLenSc (K : PySem.W.Frag) (a : Addr) (ns : List Int) : List V → Hp → VK → Prop := fun vs H Q => vs = [.ref a] ∧ SqL K H a (List.map V.int ns) ∧ Q (.int ns.length) H
theorem call_lenSc (a : Addr) (ns : List Int) : CallR X (.builtin "len") (rLenSc X.K a ns) := CallR.of call_len_seq fun vs H Q ⟨e, h, q⟩ => ⟨a, List.map V.int ns, e, .inl h, by rw [List.length_map]; exact q⟩
def rIxSc (K : PySem.W.Frag) (a : Addr) (ns : List Int) : R2 := fun x y H Q => ∃ i, x = .ref a ∧ y = .int i ∧ SqL K H a (List.map V.int ns) ∧ 0 ≤ i ∧ i < ns.length ∧ Q (.int (gN ns i.toNat)) H
theorem ix_sc (a : Addr) (ns : List Int) : IxR X (rIxSc X.K a ns) := IxR.of ix_list fun x y H Q ⟨i, e1, e2, h, h0, h1, q⟩ => ⟨a, List.map V.int ns, i, _, e1, e2, h, at_g' (Int.toNat_of_nonneg h0).symm (by omega), q⟩
end
section
variable {X : Cx}
def rSumS : List V → Hp → VK → Prop := fun vs H Q => ∃ a ns, vs = [.ref a] ∧ H a = some (.lst (List.map V.int ns)) ∧ Q (.int ns.sum) H
theorem cr_sumS (hc : X.calm = true) : CallR X (.builtin "sum") rSumS := CallR.of (cr_sum hc) fun vs H Q ⟨a, ns, e, g, q⟩ => ⟨a, ns, e, .inl (.inl g), q⟩
end
section
variable {X : Cx}
/-- t[lo:hi]: t itself or a new tuple, in either case one of these items -/
def rSlTS : V → Option Int → Option Int → Hp → VK → Prop := fun x lo hi H Q => ∃ a xs, x = .ref a ∧ H a = some (.tup xs) ∧ ∀ p H', Same H H' → (p = a ∨ H p = none) → H' p = some (.tup (cutV xs lo hi)) → Q (.ref p) H'
theorem sl_tupS : SlR X rSlTS := SlR.of sl_tupA fun x lo hi H Q ⟨a, xs, e, g, q⟩ => ⟨a, xs, e, .inl (.inl g), fun z => q a H (Same.refl _) (.inl rfl) (by
    unfold cutV
    rw [z.1, z.2, List.drop_zero, Nat.sub_zero, List.take_length]
    exact g), fun _ p hp => q p _ (same_upd hp) (.inr hp) upd_same⟩
end
theorem cutV_take3 {xs : List V} : cutV xs none (some 3) = xs.take 3 := cutV_take (n := 3)
section
variable {X : Cx}
theorem PT.of {e : Expr} {t t' : TT} (h : PT X e t) (k : ∀ σ H Q, t' σ H Q → t σ H Q) : PT X e t' := ⟨fun pins s σ H Q I q => h.run pins s σ H Q I (k _ _ _ q)⟩
/-- a list's truth -/
def tTrL (ta : TE) : TT := fun σ H Q => ta σ H fun x H1 => ∃ p xs, x = .ref p ∧ H1 p = some (.lst xs) ∧ Q (decide (0 < xs.length)) H1
theorem pt_truthL {a : Expr} {ta : TE} (ha : PE X a ta) (he : ∀ whole, isTrue a X.env whole = (do let v ← whole; standAt a.pos; holding [v] (truthy v))) : PT X a (tTrL ta) :=
  PT.of (pt_truth (pe_mono ha) he) fun σ H Q q => ⟨_, q, fun x H1 ⟨p, xs, e, g, z⟩ => ⟨decide (0 < xs.length), by rw [e]; exact .inl ⟨xs, .inl (.inl g), by cases xs <;> simp⟩, z⟩⟩
def iEnumL (K : PySem.W.Frag) (ta : TA) : TI := fun σ H R => ta σ H fun vs H1 => ∃ a xs, vs = [.ref a] ∧ H1 a = some (.lst xs) ∧ R (Ite K a) H1
theorem pi_enumL {e : Expr} {ta : TA} {p pos tpos : Pos} {elts : List Expr} {kk : Nat} (hg : Gl X "enumerate") (hm : X.mg "enumerate" = none) (ha : PA X [e] ta) (hs : starEach [e] X.env = [(false, eval e X.env)] := by rfl) :
    PI X (.Tuple elts kk tpos) (.Call (.Name "enumerate" p) [e] [] pos) (iEnumL X.K ta) := PI.of (pi_enum hg hm (pa_mono ha) hs) fun σ H R q => ⟨_, q, fun vs H1 ⟨a, xs, e, g, r⟩ => ⟨a, xs, e, .inl (.inl g), r⟩⟩
end
theorem walkE {K : PySem.W.Frag} {a : Addr} {xs : List V} : Walk (Ite K a) xs.length (fun H => H a = some (.lst xs)) (YPair (fun i => some (.int (i : Nat))) (fun i => xs[i]?)) := (walk_enum (K := K) (a := a) (xs := xs)).mono (fun _ h => .inl (.inl h)) fun _ _ _ _ _ _ y => y
theorem seq_cut {s1 R : TS} {D : Ends} {σ : L2.St} {H : Hp} (I : L2.St → Hp → Prop) (h2 : ∀ σ H, I σ H → R D σ H) (h1 : ∀ C : L2.St → Hp → Prop, (∀ σ H, I σ H → C σ H) → s1 { D with nx := C } σ H) : tSeq s1 R D σ H := h1 _ h2
section
variable {X : Cx}
theorem inV_int (i : Int) : ∀ ns : List Int, inV (.int i) (List.map V.int ns) = decide (i ∈ ns)
  | [] => by simp [inV]
  | n :: r => by
    have ih := inV_int i r
    unfold inV at ih ⊢
    rw [List.map_cons, List.any_cons, ih]
    by_cases h : n = i
    · subst h; simp [eqV]
    · simp [eqV, h, Ne.symm h]
theorem flat_ints : ∀ ns : List Int, (List.map V.int ns).all flatV = true
  | [] => rfl
  | _ :: r => by rw [List.map_cons, List.all_cons, flat_ints r]; rfl
/-- an int in a list of ints -/
def rInI : R2 := fun x y H Q => ∃ i p ns, x = .int i ∧ y = .ref p ∧ H p = some (.lst (List.map V.int ns)) ∧ Q (.bl (decide (i ∈ ns))) H
theorem op_inI : OpR X (compareOp .In) rInI := OpR.of op_in_seq fun x y H Q ⟨i, p, ns, e1, e2, g, q⟩ => ⟨p, List.map V.int ns, e2, .inl (.inl (.inl g)), by rw [e1]; rfl, flat_ints ns, by rw [e1, inV_int]; exact q⟩
/-- xs.index(i): the first place -/
def rIndexI : V → List V → Hp → VK → Prop := fun x xs H Q => ∃ p ns i j, x = .ref p ∧ xs = [.int i] ∧ H p = some (.lst (List.map V.int ns)) ∧ ns[j]? = some i ∧ (∀ m, m < j → ns[m]? ≠ some i) ∧ Q (.int ((j : Nat) : Int)) H
theorem MtR.of {id : String} {r r' : V → List V → Hp → VK → Prop} (h : MtR X id r) (k : ∀ x xs H Q, r' x xs H Q → r x xs H Q) : MtR X id r' := fun pins s σ H x xs v us Q I rx rv q => h pins s σ H x xs v us Q I rx rv (k _ _ _ _ q)
theorem mt_indexI : MtR X "list.index" rIndexI := MtR.of mt_index fun x xs H Q ⟨p, ns, i, j, e1, e2, g, hj, hm, q⟩ =>
  ⟨p, List.map V.int ns, .int i, j, .int i, e1, e2, .inl (.inl g), rfl, flat_ints ns, by rw [List.getElem?_map, hj]; rfl, by simp [eqV], fun m z hmj hz => by
    rw [List.getElem?_map] at hz
    obtain ⟨b, h1, rfl⟩ := Option.map_eq_some_iff.mp hz
    have : b ≠ i := fun e => hm m hmj (e ▸ h1)
    simp [eqV, this], q⟩
end
def sl (ns : List Int) (i j : Nat) : List Int := (ns.drop i).take (j - i)
theorem cut_sl {ns : List Int} {i j : Nat} : cutV (List.map V.int ns) (some (i : Int)) (some (j : Int)) = List.map V.int (sl ns i j) := by
  unfold cutV sl
  rw [HT.sIx_nat, HT.sIx_nat, List.length_map, ← List.map_drop, ← List.map_take]
  congr 1
  by_cases h : i < ns.length
  · rw [Nat.min_eq_left (Nat.le_of_lt h)]
    by_cases h2 : j ≤ ns.length
    · rw [Nat.min_eq_left h2]
    · rw [Nat.min_eq_right (by omega), List.take_of_length_le (by rw [List.length_drop]; exact Nat.le_refl _), List.take_of_length_le (by rw [List.length_drop]; omega)]
  · rw [List.drop_eq_nil_of_le (by omega), List.drop_eq_nil_of_le (by omega), List.take_nil, List.take_nil]
theorem sl_len (ns : List Int) (i j : Nat) : (sl ns i j).length = min (j - i) (ns.length - i) := by
  unfold sl
  rw [List.length_take, List.length_drop]
/-- a dict comprehension -/
def DcLoop (J : It) (g : TG) (tt : TT) (tk tv : TE) (vs : List Nat) (σ : L2.St) (H1 : Hp) (Q : VK) : Prop := ∀ D, H1 D = none → ∃ W : Nat → Nat → Hp → Prop, (∃ m, W 0 m (upd H1 D (.dK []))) ∧ ∀ i m H, W i m H →
  (J.stop i H ∧ Q (.ref D) H) ∨ (J.go i H ∧ ∃ Nx : Hp → Prop, (∀ H', Nx H' → ∃ m', m' < m ∧ W (i + 1) m' H') ∧ ∀ x H', J.yld i H x H' → g x (wipe σ vs) H' fun σ2 H2 => wipe σ2 vs = wipe σ vs ∧ tt σ2 H2 fun b H3 =>
    if b = true then tk σ2 H3 fun y H4 => tv σ2 H4 fun z H5 => ∃ kvs k, y = kV k ∧ H5 D = some (.dK kvs) ∧ kvs.length < sizeLine ∧ Nx (upd H5 D (.dK (putK kvs k z))) else Nx H3)
theorem tDc_eq {wi : TI} {g : TG} {tt : TT} {tk tv : TE} {vs : List Nat} {σ : L2.St} {H : Hp} {Q : VK} : tDc wi g tt tk tv vs σ H Q = wi σ H fun J H1 => DcLoop J g tt tk tv vs σ H1 Q := rfl
theorem dcW {J : It} {n : Nat} {G : Hp → Prop} {Y : Nat → Hp → V → Hp → Prop} (w : Walk J n G Y) {g : TG} {tt : TT} {tk tv : TE} {vs : List Nat} {σ : L2.St} {H1 : Hp} {Q : VK} (Pv : Addr → Nat → Hp → Prop) (h0 : ∀ D H, Same H1 H → H1 D = none → H D = some (.dK []) → Pv D 0 H)
    (hG : ∀ D i H, H1 D = none → i ≤ n → Pv D i H → G H) (hs : ∀ D i x H H', i < n → H1 D = none → Pv D i H → Y i H x H' → g x (wipe σ vs) H' fun σ2 H2 => wipe σ2 vs = wipe σ vs ∧ tt σ2 H2 fun b H3 =>
      if b = true then tk σ2 H3 fun y H4 => tv σ2 H4 fun z H5 => ∃ kvs k, y = kV k ∧ H5 D = some (.dK kvs) ∧ kvs.length < sizeLine ∧ Pv D (i + 1) (upd H5 D (.dK (putK kvs k z))) else Pv D (i + 1) H3)
    (hd : ∀ D H, H1 D = none → Pv D n H → Q (.ref D) H) : DcLoop J g tt tk tv vs σ H1 Q := by
  intro D hD
  refine ⟨fun i m H => m = n - i ∧ i ≤ n ∧ Pv D i H, ⟨n, by simp, Nat.zero_le _, h0 D _ (same_upd hD) hD upd_same⟩, ?_⟩
  rintro i m H ⟨rfl, hi, p⟩
  have q := hG D i H hD hi p
  by_cases hlt : i < n
  · exact .inr ⟨w.goes i H hlt q, Pv D (i + 1), fun H' p' => ⟨n - (i + 1), by omega, rfl, hlt, p'⟩, fun x H' y => hs D i x H H' hlt hD p (w.yields i H x H' hlt q y)⟩
  · have e : i = n := by omega
    subst e
    exact .inl ⟨w.stops H q, hd D H hD p⟩

/-! ### data at any depth: what stands there, and == of it -/
structure Cod {α : Type} [DecidableEq α] (R : Hp → V → α → Prop) (f : α → PyData) (d : Nat) : Prop where
  dp : ∀ (K : PySem.W.Frag) H v a, R H v a → Dp K H v (f a)
  eq : ∀ a b, PyData.eqv (f a) (f b) = decide (a = b)
  lay : ∀ a, PyData.canLay0 (f a) = true
  dep : ∀ a, PyData.depth (f a) ≤ d
def IntV (_ : Hp) (v : V) (i : Int) : Prop := v = .int i
def LstV {α : Type} (R : Hp → V → α → Prop) (H : Hp) (v : V) (l : List α) : Prop := ∃ a vs, v = .ref a ∧ H a = some (.lst vs) ∧ All2 (R H) vs l
def TupV {α : Type} (R : Hp → V → α → Prop) (H : Hp) (v : V) (l : List α) : Prop := ∃ a vs, v = .ref a ∧ H a = some (.tup vs) ∧ All2 (R H) vs l
def Pr2V {α β : Type} (R : Hp → V → α → Prop) (S : Hp → V → β → Prop) (H : Hp) (v : V) (p : α × β) : Prop := ∃ a x y, v = .ref a ∧ H a = some (.tup [x, y]) ∧ R H x p.1 ∧ S H y p.2
def Pr3V {α β γ : Type} (R : Hp → V → α → Prop) (S : Hp → V → β → Prop) (T : Hp → V → γ → Prop) (H : Hp) (v : V) (p : α × β × γ) : Prop := ∃ a x y z, v = .ref a ∧ H a = some (.tup [x, y, z]) ∧ R H x p.1 ∧ S H y p.2.1 ∧ T H z p.2.2
theorem cod_int : Cod IntV PyData.int 0 := ⟨fun K H v a h => by rw [show v = .int a from h]; exact .int a, eqv_ii, fun _ => rfl, fun _ => Nat.le_refl _⟩
section
variable {α β γ : Type} [DecidableEq α] [DecidableEq β] [DecidableEq γ] {R : Hp → V → α → Prop} {S : Hp → V → β → Prop} {T : Hp → V → γ → Prop} {f : α → PyData} {g : β → PyData} {h : γ → PyData} {d e k : Nat}
theorem Cod.all (c : Cod R f d) {K : PySem.W.Frag} {H : Hp} {vs : List V} {l : List α} (a : All2 (R H) vs l) : DpAll K H vs (l.map f) := by
  induction a with
  | nil => exact .nil
  | cons r _ ih => exact .cons (c.dp _ _ _ _ r) ih
theorem Cod.eqAll (c : Cod R f d) : ∀ l m : List α, PyData.eqvAll (l.map f) (m.map f) = decide (l = m)
  | [], [] => by rw [List.map_nil, eqvAll_nil]; rfl
  | [], y :: s => by rw [List.map_nil, List.map_cons, PyData.eqvAll]; simp
  | x :: r, [] => by rw [List.map_nil, List.map_cons, PyData.eqvAll]; simp
  | x :: r, y :: s => by
    rw [List.map_cons, List.map_cons, eqvAll_cons, c.eq, Cod.eqAll c r s]
    simp only [List.cons.injEq, Bool.decide_and]
theorem Cod.layAll (c : Cod R f d) : ∀ l : List α, PyData.canLayAll0 (l.map f) = true
  | [] => rfl
  | x :: r => by rw [List.map_cons, PyData.canLayAll0, c.lay, Cod.layAll c r]; rfl
theorem Cod.depAll (c : Cod R f d) : ∀ l : List α, PyData.depthAll (l.map f) ≤ d
  | [] => by rw [List.map_nil, PyData.depthAll]; exact Nat.zero_le _
  | x :: r => by rw [List.map_cons, PyData.depthAll]; exact Nat.max_le.mpr ⟨c.dep x, Cod.depAll c r⟩
theorem cod_lst (c : Cod R f d) : Cod (LstV R) (fun l => .list (l.map f)) (d + 1) :=
  ⟨fun K H v l ⟨a, vs, e, ha, hv⟩ => by rw [e]; exact .lst (.inl (.inl ha)) (c.all hv), fun l m => by rw [PyData.eqv, c.eqAll], fun l => by rw [PyData.canLay0, c.layAll], fun l => by rw [PyData.depth]; exact Nat.succ_le_succ (c.depAll l)⟩
theorem cod_tup (c : Cod R f d) : Cod (TupV R) (fun l => .tuple (l.map f)) (d + 1) :=
  ⟨fun K H v l ⟨a, vs, e, ha, hv⟩ => by rw [e]; exact .tup (.inl (.inl ha)) (c.all hv), fun l m => by rw [PyData.eqv, c.eqAll], fun l => by rw [PyData.canLay0, c.layAll], fun l => by rw [PyData.depth]; exact Nat.succ_le_succ (c.depAll l)⟩
theorem cod_p2 (c : Cod R f d) (b : Cod S g e) : Cod (Pr2V R S) (fun p => .tuple [f p.1, g p.2]) (max d e + 1) :=
  ⟨fun K H v l ⟨a, x, y, e, ha, hx, hy⟩ => by rw [e]; exact .tup (.inl (.inl ha)) (.cons (c.dp _ _ _ _ hx) (.cons (b.dp _ _ _ _ hy) .nil)),
   fun l m => by
    rw [PyData.eqv, eqvAll_cons, eqvAll_cons, eqvAll_nil, c.eq, b.eq, Bool.and_true, ← Bool.decide_and]
    exact decide_eq_decide.mpr ⟨fun z => Prod.ext z.1 z.2, fun z => by rw [z]; exact ⟨rfl, rfl⟩⟩,
   fun l => by rw [PyData.canLay0, PyData.canLayAll0, PyData.canLayAll0, PyData.canLayAll0, c.lay, b.lay]; rfl,
   fun l => by
    rw [PyData.depth, PyData.depthAll, PyData.depthAll, PyData.depthAll]
    have h1 := c.dep l.1
    have h2 := b.dep l.2
    omega⟩
theorem cod_p3 (c : Cod R f d) (b : Cod S g e) (t : Cod T h k) : Cod (Pr3V R S T) (fun p => .tuple [f p.1, g p.2.1, h p.2.2]) (max d (max e k) + 1) :=
  ⟨fun K H v l ⟨a, x, y, z, e, ha, hx, hy, hz⟩ => by rw [e]; exact .tup (.inl (.inl ha)) (.cons (c.dp _ _ _ _ hx) (.cons (b.dp _ _ _ _ hy) (.cons (t.dp _ _ _ _ hz) .nil))),
   fun l m => by
    rw [PyData.eqv, eqvAll_cons, eqvAll_cons, eqvAll_cons, eqvAll_nil, c.eq, b.eq, t.eq, Bool.and_true, ← Bool.decide_and, ← Bool.decide_and]
    exact decide_eq_decide.mpr ⟨fun z => Prod.ext z.1 (Prod.ext z.2.1 z.2.2), fun z => by rw [z]; exact ⟨rfl, rfl, rfl⟩⟩,
   fun l => by rw [PyData.canLay0, PyData.canLayAll0, PyData.canLayAll0, PyData.canLayAll0, PyData.canLayAll0, c.lay, b.lay, t.lay]; rfl,
   fun l => by
    rw [PyData.depth, PyData.depthAll, PyData.depthAll, PyData.depthAll, PyData.depthAll]
    have h1 := c.dep l.1
    have h2 := b.dep l.2.1
    have h3 := t.dep l.2.2
    omega⟩
end
section
variable {X : Cx} {α : Type} [DecidableEq α] {R : Hp → V → α → Prop} {f : α → PyData} {d : Nat}
def rEqC (R : Hp → V → α → Prop) : R2 := fun x y H Q => ∃ a b, R H x a ∧ R H y b ∧ Q (.bl (decide (a = b))) H
def rNeC (R : Hp → V → α → Prop) : R2 := fun x y H Q => ∃ a b, R H x a ∧ R H y b ∧ Q (.bl (!decide (a = b))) H
theorem Cod.shaped (c : Cod R f d) (hd : d ≤ 64) (a : α) : SeqAt.shaped (f a) = true := by
  unfold SeqAt.shaped
  rw [c.lay, decide_eq_true (Nat.le_trans (c.dep a) hd)]
  rfl
theorem op_eqC (hu : X.A.units + 64 < cLine) (c : Cod R f d) (hd : d ≤ 64) : OpR X (compareOp .Eq) (rEqC R) := OpR.of (op_eqD hu) fun x y H Q ⟨a, b, ha, hb, q⟩ => ⟨f a, f b, c.dp _ _ _ _ ha, c.dp _ _ _ _ hb, c.shaped hd a, c.shaped hd b, by rw [c.eq]; exact q⟩
theorem op_neC (hu : X.A.units + 64 < cLine) (c : Cod R f d) (hd : d ≤ 64) : OpR X (compareOp .NotEq) (rNeC R) := OpR.of (op_neD hu) fun x y H Q ⟨a, b, ha, hb, q⟩ => ⟨f a, f b, c.dp _ _ _ _ ha, c.dp _ _ _ _ hb, c.shaped hd a, c.shaped hd b, by rw [c.eq]; exact q⟩
end
theorem ints_all {H : Hp} (ns : List Int) : All2 (IntV H) (List.map V.int ns) ns := by
  induction ns with
  | nil => exact .nil
  | cons n r ih => exact .cons rfl ih
theorem ints_of {H : Hp} {vs : List V} {ns : List Int} (h : All2 (IntV H) vs ns) : vs = List.map V.int ns := by
  induction h with
  | nil => rfl
  | cons r _ ih => rw [List.map_cons, ih, show _ = V.int _ from r]
theorem intL {H : Hp} {a : Addr} {ns : List Int} (g : H a = some (.lst (List.map V.int ns))) : LstV IntV H (.ref a) ns := ⟨a, _, rfl, g, ints_all ns⟩
theorem lsv_mono {H H' : Hp} (s : Same H H') (v : V) (n : List Int) (h : LstV IntV H v n) : LstV IntV H' v n := by
  obtain ⟨a, vs, e, g, k⟩ := h
  exact ⟨a, vs, e, s _ _ g, k.mono fun _ _ z => z⟩
/-- what stands however the heap goes on, but for one list that changes -/
structure Stab {α : Type} (R : Hp → V → α → Prop) : Prop where
  mono : ∀ {H H' : Hp}, Same H H' → ∀ v a, R H v a → R H' v a
  but : ∀ {H H' : Hp} {l : Addr} {ys : List V}, But l H H' → H l = some (.lst ys) → ∀ v a, R H v a → R H' v a
theorem stab_int : Stab IntV := ⟨fun _ _ _ h => h, fun _ _ _ _ h => h⟩
section
variable {α β γ : Type} {R : Hp → V → α → Prop} {S : Hp → V → β → Prop} {T : Hp → V → γ → Prop}
theorem stab_tup (c : Stab R) : Stab (TupV R) :=
  ⟨fun s v l ⟨a, vs, e, g, k⟩ => ⟨a, vs, e, s _ _ g, k.mono (c.mono s)⟩, fun bt gl v l ⟨a, vs, e, g, k⟩ => ⟨a, vs, e, tup_but bt g gl, k.mono (c.but bt gl)⟩⟩
theorem stab_p2 (c : Stab R) (b : Stab S) : Stab (Pr2V R S) :=
  ⟨fun s v l ⟨a, x, y, e, g, h1, h2⟩ => ⟨a, x, y, e, s _ _ g, c.mono s _ _ h1, b.mono s _ _ h2⟩, fun bt gl v l ⟨a, x, y, e, g, h1, h2⟩ => ⟨a, x, y, e, tup_but bt g gl, c.but bt gl _ _ h1, b.but bt gl _ _ h2⟩⟩
theorem stab_p3 (c : Stab R) (b : Stab S) (t : Stab T) : Stab (Pr3V R S T) :=
  ⟨fun s v l ⟨a, x, y, z, e, g, h1, h2, h3⟩ => ⟨a, x, y, z, e, s _ _ g, c.mono s _ _ h1, b.mono s _ _ h2, t.mono s _ _ h3⟩, fun bt gl v l ⟨a, x, y, z, e, g, h1, h2, h3⟩ => ⟨a, x, y, z, e, tup_but bt g gl, c.but bt gl _ _ h1, b.but bt gl _ _ h2, t.but bt gl _ _ h3⟩⟩
theorem lstV_mono (c : Stab R) {H H' : Hp} (s : Same H H') (v : V) (l : List α) (h : LstV R H v l) : LstV R H' v l := by
  obtain ⟨a, vs, e, g, k⟩ := h
  exact ⟨a, vs, e, s _ _ g, k.mono (c.mono s)⟩
theorem Stab.upd (c : Stab R) {H : Hp} {l : Addr} {ys : List V} {o : HO} (g : H l = some (.lst ys)) (v : V) (a : α) (h : R H v a) : R (upd H l o) v a := c.but ((But.refl l H).put) g v a h
end

/-! ### constants of the top, texts in lists, reversed lists, zip of tuples -/
theorem SqT.of {K : PySem.W.Frag} {H : Hp} {a : Addr} {xs : List V} (h : H a = some (.tup xs)) : SqT K H a xs := .inl (.inl h)
theorem SqL.of {K : PySem.W.Frag} {H : Hp} {a : Addr} {xs : List V} (h : H a = some (.lst xs)) : SqL K H a xs := .inl (.inl h)
section
variable {X : Cx}
theorem ints_tshaped (ns : List Int) : SeqAt.shaped (.tuple (ns.map PyData.int)) = true := (cod_tup cod_int).shaped (by decide) ns
/-- == of a tracked tuple of ints and any tuple of ints -/
def rEqTK (K : PySem.W.Frag) : R2 := fun x y H Q => ∃ a b ns ms, x = .ref a ∧ y = .ref b ∧ H a = some (.tup (List.map V.int ns)) ∧ SqT K H b (List.map V.int ms) ∧ Q (.bl (decide (ns = ms))) H
theorem op_eqTK (hu : X.A.units + 64 < cLine) : OpR X (compareOp .Eq) (rEqTK X.K) := OpR.of (op_eqD hu) (by
  rintro x y H Q ⟨a, b, ns, ms, rfl, rfl, ha, hb, q⟩
  refine ⟨_, _, .tup (.inl (.inl ha)) (ints_dp ns), .tup hb (ints_dp ms), ints_tshaped ns, ints_tshaped ms, ?_⟩
  rw [(cod_tup cod_int).eq ns ms]
  exact q)
abbrev OkS := {s : Str // PyData.strOk s = true}
def StrV (_ : Hp) (v : V) (s : OkS) : Prop := v = .str s.val
theorem eqv_ss (a b : Str) : PyData.eqv (.str a) (.str b) = decide (a = b) := by
  rw [PyData.eqv]
  by_cases h : a = b
  · rw [decide_eq_true h]; exact beq_iff_eq.mpr h
  · rw [decide_eq_false h]; exact beq_eq_false_iff_ne.mpr h
def vS (s : OkS) : V := .str s.val
def dStr (s : OkS) : PyData := .str s.val
theorem cod_str : Cod StrV dStr 0 := ⟨fun K H v a h => by rw [show v = .str a.val from h]; exact .str a.val, fun a b => by
  show PyData.eqv (.str a.val) (.str b.val) = _
  rw [eqv_ss]; exact decide_eq_decide.mpr Subtype.ext_iff.symm, fun a => by show PyData.canLay0 (.str a.val) = true; rw [PyData.canLay0]; exact a.property, fun a => by show PyData.depth (.str a.val) ≤ 0; rw [PyData.depth]; exact Nat.le_refl _⟩
theorem strs_all {H : Hp} : ∀ ns : List OkS, All2 (StrV H) (List.map vS ns) ns
  | [] => .nil
  | _ :: r => .cons rfl (strs_all r)
theorem strs_of {H : Hp} {vs : List V} {ns : List OkS} (h : All2 (StrV H) vs ns) : vs = List.map vS ns := by
  induction h with
  | nil => rfl
  | cons r _ ih => rw [List.map_cons, ih, show _ = _ from r]; rfl
theorem strL {H : Hp} {a : Addr} {ns : List OkS} (g : H a = some (.lst (List.map vS ns))) : LstV StrV H (.ref a) ns := ⟨a, _, rfl, g, strs_all ns⟩
theorem stab_str : Stab StrV := ⟨fun _ _ _ h => h, fun _ _ _ _ h => h⟩
theorem strs_dp {K : PySem.W.Frag} {H : Hp} (ss : List OkS) : DpAll K H (ss.map vS) (ss.map dStr) := cod_str.all (strs_all ss)
/-- != and == of a tuple of texts of the top and a new one -/
def rNeSK (K : PySem.W.Frag) : R2 := fun x y H Q => ∃ a b ss ts, x = .ref a ∧ y = .ref b ∧ SqT K H a (List.map vS ss) ∧ H b = some (.tup (List.map vS ts)) ∧ Q (.bl (!decide (ss = ts))) H
theorem op_neSK (hu : X.A.units + 64 < cLine) : OpR X (compareOp .NotEq) (rNeSK X.K) := OpR.of (op_neD hu) (by
  rintro x y H Q ⟨a, b, ss, ts, rfl, rfl, ha, hb, q⟩
  refine ⟨_, _, .tup ha (strs_dp ss), .tup (.inl (.inl hb)) (strs_dp ts), (cod_tup cod_str).shaped (by decide) ss, (cod_tup cod_str).shaped (by decide) ts, ?_⟩
  rw [(cod_tup cod_str).eq ss ts]
  exact q)
/-- isinstance of a tuple of the top -/
def rIsiTK (K : PySem.W.Frag) : List V → Hp → VK → Prop := fun vs H Q => ∃ p n xs b, vs = [.ref p, .ty n] ∧ SqT K H p xs ∧ kitB "tuple" n = some b ∧ Q (.bl b) H
theorem call_isiTK : CallR X (.builtin "isinstance") (rIsiTK X.K) := CallR.of call_isi (by
  rintro vs H Q ⟨p, n, xs, b, rfl, hp, hb, q⟩
  refine ⟨.ref p, .ty n, .type "tuple", .type n, b, rfl, .ty n, ?_, kit_ty hb, q⟩
  rcases hp with (h | ⟨o, h⟩) | ⟨o, its, k, h1, h2, _⟩
  · exact .base (.tup h)
  · exact .fTuple h
  · exact .kTuple h1 h2)
/-- reversed(list) -/
def iRevS (K : PySem.W.Frag) (ta : TA) : TI := fun σ H R => ta σ H fun vs H1 => ∃ a xs, vs = [.ref a] ∧ H1 a = some (.lst xs) ∧ R (Itv K a xs.length) H1
theorem pi_revS {tg e : Expr} {ta : TA} {p pos : Pos} (hg : Gl X "reversed") (hm : X.mg "reversed" = none) (ha : PA X [e] ta) (hs : starEach [e] X.env = [(false, eval e X.env)] := by rfl) :
    PI X tg (.Call (.Name "reversed" p) [e] [] pos) (iRevS X.K ta) := PI.of (pi_reversed hg hm (pa_mono ha) hs) fun σ H R q => ⟨_, q, fun vs H1 ⟨a, xs, e, g, r⟩ => ⟨a, xs, e, .inl (.inl g), r⟩⟩
/-- zip of two tuples -/
def iZipTS (K : PySem.W.Frag) (ta : TA) : TI := fun σ H R => ta σ H fun vs H1 => ∃ a b xs ys, vs = [.ref a, .ref b] ∧ SqT K H1 a xs ∧ SqT K H1 b ys ∧ R (RZ.ItzT K a b) H1
theorem pi_zipTS {e e2 : Expr} {ta : TA} {p pos tpos : Pos} {elts : List Expr} {kk : Nat} (hg : Gl X "zip") (hm : X.mg "zip" = none) (ha : PA X [e, e2] ta) (hs : starEach [e, e2] X.env = (false, eval e X.env) :: starEach [e2] X.env := by rfl) (hpl : (backTo pos (starEach [e2] X.env)).any (·.1) = false := by rfl) :
    PI X (.Tuple elts kk tpos) (.Call (.Name "zip" p) [e, e2] [] pos) (iZipTS X.K ta) := PI.of (RZ.pi_zipA hg hm (pa_mono ha) hs hpl) fun σ H R q => ⟨_, q, fun vs H1 ⟨a, b, xs, ys, e, g1, g2, r⟩ => ⟨a, b, xs, ys, e, .inr ⟨g1, g2, r⟩⟩⟩
end
theorem walkV {K : PySem.W.Frag} {a : Addr} {xs : List V} : Walk (Itv K a xs.length) xs.length (fun H => H a = some (.lst xs)) (fun i H x H' => H' = H ∧ xs[xs.length - 1 - i]? = some x) := (walk_rev (K := K) (a := a) (xs := xs)).mono (fun _ h => .inl (.inl h)) fun _ _ _ _ _ _ y => y
theorem walkVI {K : PySem.W.Frag} {a : Addr} {ns : List Int} : Walk (Itv K a ns.length) ns.length (fun H => H a = some (.lst (List.map V.int ns))) (YInt ns.reverse) := by
  have w := walkV (K := K) (a := a) (xs := List.map V.int ns)
  rw [List.length_map] at w
  refine w.mono (fun _ h => h) fun i H x H' hi _ y => ⟨y.1, ?_⟩
  have h := y.2
  rw [List.getElem?_map] at h
  obtain ⟨b, h1, rfl⟩ := Option.map_eq_some_iff.mp h
  exact ⟨b, by rw [List.getElem?_reverse hi]; exact h1, rfl⟩
theorem walkZT {K : PySem.W.Frag} {a b : Addr} {xs ys : List V} {n : Nat} (hn : n = min xs.length ys.length) : Walk (RZ.ItzT K a b) n (fun H => SqT K H a xs ∧ SqT K H b ys) (YPair (fun i => xs[i]?) (fun i => ys[i]?)) := by
  subst hn
  refine ⟨fun i _ hi q => ?_, fun _ q => ⟨xs, ys, q.1, q.2, by omega⟩, fun i H v H' _ q y => ?_⟩
  · have h1 : i < xs.length := by omega
    have h2 : i < ys.length := by omega
    exact ⟨xs, ys, xs[i], ys[i], q.1, q.2, by simp [h1], by simp [h2]⟩
  · obtain ⟨T, x, z, h1, h2, h3, h4, h5⟩ := y
    exact ⟨T, x, z, h1, h2, h3, h4 xs q.1, h5 ys q.2⟩
theorem _root_.L2.Same.seqT {K : PySem.W.Frag} {H H' : Hp} (s : Same H H') {a : Addr} {xs : List V} (h : SqT K H a xs) : SqT K H' a xs := by
  rcases h with (h | ⟨o, h⟩) | h
  · exact .inl (.inl (s _ _ h))
  · exact .inl (.inr ⟨o, s _ _ h⟩)
  · exact .inr h
/-- the codes of a text -/
def cds (z : Str) : List Int := z.cps.toList.map fun (c : Nat) => (c : Int)
theorem cds_at {z : Str} {i c : Nat} (h : z.cps[i]? = some c) : (cds z)[i]? = some (c : Int) := by
  unfold cds
  rw [List.getElem?_map, Array.getElem?_toList, h]
  rfl
theorem cds_len (z : Str) : (cds z).length = z.cps.size := by unfold cds; rw [List.length_map, Array.length_toList]
section
variable {X : Cx} {α : Type} [DecidableEq α] {R : Hp → V → α → Prop} {f : α → PyData} {d : Nat}
theorem Cod.anyEq (c : Cod R f d) (a : α) : ∀ l : List α, ((l.map f).any fun z => PyData.eqv z (f a)) = decide (a ∈ l)
  | [] => by simp
  | x :: r => by
    rw [List.map_cons, List.any_cons, c.eq, Cod.anyEq c a r]
    by_cases h : x = a
    · subst h; simp
    · rw [decide_eq_false h, Bool.false_or]
      exact decide_eq_decide.mpr ⟨fun z => List.mem_cons_of_mem _ z, fun z => (List.mem_cons.mp z).resolve_left fun e => h e.symm⟩
/-- x in a list, x not in a list or a tuple, at any depth -/
def rInLC (R : Hp → V → α → Prop) : R2 := fun x y H Q => ∃ a l, R H x a ∧ LstV R H y l ∧ Q (.bl (decide (a ∈ l))) H
def rNotInLC (R : Hp → V → α → Prop) : R2 := fun x y H Q => ∃ a l, R H x a ∧ LstV R H y l ∧ Q (.bl (!decide (a ∈ l))) H
def rNotInTC (R : Hp → V → α → Prop) : R2 := fun x y H Q => ∃ a l, R H x a ∧ TupV R H y l ∧ Q (.bl (!decide (a ∈ l))) H
theorem op_inLC (hu : X.A.units + 65 < cLine) (c : Cod R f d) (hd : d < 64) : OpR X (compareOp .In) (rInLC R) := OpR.of (op_inD hu) fun x y H Q ⟨a, l, ha, hl, q⟩ => ⟨f a, l.map f, c.dp _ _ _ _ ha, (cod_lst c).dp _ _ _ _ hl, c.shaped (Nat.le_of_lt hd) a, (cod_lst c).shaped hd l, by rw [c.anyEq]; exact q⟩
theorem op_notInLC (hu : X.A.units + 65 < cLine) (c : Cod R f d) (hd : d < 64) : OpR X (compareOp .NotIn) (rNotInLC R) := OpR.of (op_notInD hu) fun x y H Q ⟨a, l, ha, hl, q⟩ => ⟨f a, l.map f, c.dp _ _ _ _ ha, (cod_lst c).dp _ _ _ _ hl, c.shaped (Nat.le_of_lt hd) a, (cod_lst c).shaped hd l, by rw [c.anyEq]; exact q⟩
theorem op_notInTC (hu : X.A.units + 65 < cLine) (c : Cod R f d) (hd : d < 64) : OpR X (compareOp .NotIn) (rNotInTC R) := by
  intro pins s σ H x y v u Q I rx ry h
  obtain ⟨a, l, ha, hl, q⟩ := h
  have sd := c.shaped (Nat.le_of_lt hd) a
  have se := (cod_tup c).shaped hd l
  obtain ⟨as, r1⟩ := Dp.reads I (f a) x v (c.dp _ _ _ _ ha) rx
  obtain ⟨bs, r2⟩ := Dp.reads I (.tuple (l.map f)) y u ((cod_tup c).dp _ _ _ _ hl) ry
  exact SeqAt.notIn_tuple_reads r2 r1 (SeqAt.canLay_of_shaped se) (SeqAt.canLay_of_shaped sd) (room_in_shaped sd hu) ⟨.bl _, H, I, rfl, by rw [c.anyEq]; exact q⟩
theorem hu5 {A : Around} {k : Nat} (hr : Room k A) : A.units + 65 < cLine := by have := hr.un; omega
/-- ''.join of a list of single signs -/
def oneS (c : Nat) : Str := ⟨#[c]⟩
theorem joinL_one : ∀ cs : List Nat, TL.joinL [] (cs.map fun c => [c]) = cs
  | [] => rfl
  | [_] => rfl
  | x :: y :: r => by
    show [x] ++ ([] ++ TL.joinL [] ((y :: r).map fun c => [c])) = _
    rw [joinL_one (y :: r)]
    rfl
theorem join_one (cs : List Nat) : Txt.join (Str.ofString "") (cs.map oneS) = ⟨cs.toArray⟩ := by
  have h := SX.join_S [] (cs.map fun c => [c])
  rw [joinL_one, List.map_map] at h
  exact h
def tJoinC (to te : TE) : TE := fun σ H Q => to σ H fun x H1 => x = .str (Str.ofString "") ∧ te σ H1 fun y H2 => ∃ (p : Addr) (cs : List Nat), y = .ref p ∧ H2 p = some (.lst (cs.map fun c => V.str (oneS c))) ∧ cs.length ≤ 1000000 ∧ Q (.str ⟨cs.toArray⟩) H2
theorem one_sum : ∀ cs : List Nat, ((cs.map oneS).map (·.length)).sum = cs.length
  | [] => rfl
  | c :: r => by
    rw [List.map_cons, List.map_cons, List.sum_cons, one_sum r, List.length_cons, Nat.add_comm]
    rfl
theorem pe_joinC {o e : Expr} {to te : TE} {apos pos : Pos} (ho : PE X o to) (he : PE X e te) (hs : starEach [e] X.env = [(false, eval e X.env)] := by rfl) (hbase : attributeBase o "join" X.env (eval o X.env) = eval o X.env := by rfl) (hline : (apos.endLine == pos.line) = true := by rfl) :
    PE X (.Call (.Attribute o "join" apos) [e] [] pos) (tJoinC to te) := PE.of (pe_join (pe_mono ho) (pe_mono he) hs hbase hline) fun σ H Q q => ⟨_, q, fun x H1 z => ⟨⟨_, z.1⟩, _, z.2, fun y H2 ⟨p, cs, e, g, hl, w⟩ => ⟨Str.ofString "", p, cs.map oneS, z.1, by rw [e], .inl (.inl (.inl (by rw [List.map_map]; exact g))), by
    rw [one_sum, List.length_map, show (Str.ofString "").length = 0 from rfl]; omega, by rw [join_one]; exact w⟩⟩⟩
end
section
variable {X : Cx}
/-- xs * n -/
def rRepL : R2 := fun x y H Q => ∃ l k xs, x = .ref l ∧ y = .int k ∧ H l = some (.lst xs) ∧ k ≤ 2 ^ 62 - 1 ∧ -(2 ^ 62) ≤ k ∧ xs.length * k.toNat ≤ sizeLine ∧ NewH H (.lst (List.replicate k.toNat xs).flatten) fun p H' => Q (.ref p) H'
theorem op_repL : OpR X (binaryOp .Mult) rRepL := OpR.of op_rep fun x y H Q ⟨l, k, xs, e1, e2, h1, z1, z2, z3, q⟩ => ⟨l, k, xs, e1, e2, h1, by omega, by omega, z3, q.go⟩
end

theorem iteP {p : Prop} {i : Decidable p} {a b : Prop} (x : p → a) (y : ¬ p → b) : @ite _ p i a b := by
  by_cases h : p
  · rw [if_pos h]; exact x h
  · rw [if_neg h]; exact y h
section
variable {X : Cx}
/-- name = {k: v for ..} on one line, the name a local -/
theorem ps_setDc {i : Nat} {y : Str} {py : Pos} {kx vx tg iter : Expr} {ifs : List Expr} {scope : Scope} {own : List (Str × Nat)} {pos spos : Pos} {wi : TI} {g : TG} {tt : TT} {tk tv : TE} (hc : X.calm = true) (hN : X.N.Nodup) (hy : X.N[i]? = some y) (hyl : X.env.scope.names.lookup y = some .local)
    (hsw : swapsWith (.DictComp kx vx [⟨tg, iter, ifs, 0⟩] scope pos) (some (.Name y py)) spos.line X.env = pure true) (hi : PI X tg iter wi) (ok : BlkOk X.N X.env.scope scope own)
    (hg : ∀ (s : Shared) (H : Hp) (C : Addr) (cl : List (Str × Addr)) (fp : List Addr), PG (X.blk s H scope (compEnvC scope cl C X.env) fp) tg g) (ht : ∀ (s : Shared) (H : Hp) (C : Addr) (cl : List (Str × Addr)) (fp : List Addr), PTs (X.blk s H scope (compEnvC scope cl C X.env) fp) ifs tt)
    (hk : ∀ (s : Shared) (H : Hp) (C : Addr) (cl : List (Str × Addr)) (fp : List Addr), PE (X.blk s H scope (compEnvC scope cl C X.env) fp) kx tk)
    (he : ∀ (s : Shared) (H : Hp) (C : Addr) (cl : List (Str × Addr)) (fp : List Addr), PE (X.blk s H scope (compEnvC scope cl C X.env) fp) vx tv) (hs : ∀ x, foldedSetIterable iter X.env x = pure x := by intro _; rfl) :
    PS X (.Assign [.Name y py] (.DictComp kx vx [⟨tg, iter, ifs, 0⟩] scope pos) spos) (tAsg (tDc wi g tt tk tv (own.map (·.2))) (gName i)) := by
  refine ⟨fun pins s σ H D I h => ?_⟩
  rw [exec_Assign_Name_used _ _ _ _ hsw]
  refine wpAny_bind (wpAny_standAt (wpAny_bind ?_))
  show wpAny _ X.A (do let _ ← comprehension (.DictComp kx vx [⟨tg, iter, ifs, 0⟩] scope pos) scope X.env (firstIterPos [⟨tg, iter, ifs, 0⟩] pos) newDict false (eval iter X.env) (some (assign (.Name y py) X.env))) _ _ s
  have h : tDc wi g tt tk tv (own.map (·.2)) σ H (fun x H1 => gName i x σ H1 D.nx) := h
  refine wpAny_bind (thn (dc_core (Qf := fun _ s' => SP X pins D .next s') hc hN I hi ok hg ht hk he hs h fun L C s' m H' I' q hn f => ?_) fun _ s' hq => wpAny_pure (wpAny_pure hq))
  show wpAny _ _ (assign (.Name y py) X.env (.ref L)) _ _ _
  refine wpAny_assign_Name (store_ok2 (v := V.ref L) I' hN hy (.inl hyl) rfl (fun s2 I2 ⟨a, sb, ha⟩ => ?_) (.inr hyl))
  obtain ⟨f0, f1, f2, f3, f4, f5⟩ := f
  have haC : C ≠ a := by
    rcases ha with z | z
    · rw [z]; exact f1
    · exact fun e => f4 y a z e.symm
  refine ⟨m, hn.sameBut sb haC, fun h3 sb3 => ?_⟩
  exact ⟨_, H', I2.turned (t' := s2.toks) (fun b o hb e => (sb3.2 b hb).trans e) f0 f1 f3 f4 f5, q⟩
theorem sw_trueD {kx vx : Expr} {gs : List Comprehension} {scope : Scope} {pos py : Pos} {y : Str} {l : Nat} {env : Env} (hk : env.scope.kind = .function) (hy : env.scope.names.lookup y = some .local) (hl : (py.line == pos.line) = true)
    (ha : (scope.names.any fun (n, k) => n == y && (k == .local || k == .cell)) = false) : swapsWith (.DictComp kx vx gs scope pos) (some (.Name y py)) l env = pure true := by
  have ky : env.kindOf y = some .local := hy
  have hb : env.blockKind = .function := by unfold Env.blockKind; rw [hk]; rfl
  unfold swapsWith
  simp only [hb, ky, ha, Expr.pos, hl]
  rfl
end

/-- enumerate(text): each character in a new pair -/
def Ites (x : Str) : It :=
  ⟨fun i _ => i < x.cps.size, fun i H v H' => ∃ T c, v = .ref T ∧ H T = none ∧ H' = upd H T (.tup [.int (i : Nat), .str ⟨#[c]⟩]) ∧ x.cps[i]? = some c, fun i _ => x.cps.size ≤ i⟩
theorem turn_enumS {P : Program} {w : World} {K : PySem.W.Frag} {elts : List Expr} {kk : Nat} {tpos : Pos} (x : Str) (t : Tok) (e it : Addr) (ty : String) (hty : ty = "str_ascii_iterator" ∨ ty = "str_iterator") :
    Turn P w K (.Tuple elts kk tpos) (Ites x) [e, it] e (fun i h => (∃ old, IsEnum h e it ((i : Nat) : Int) old) ∧ h.IsStrIter it ty x t i ∧ e ≠ it ∧ i ≤ x.cps.size) where
  mem := by simp
  obj := fun i h st b hb => by
    obtain ⟨⟨old, he⟩, ⟨o, ho, hc, hd⟩, _⟩ := st
    have e' : b = e ∨ b = it := by simpa using hb
    rcases e' with z | z
    · rw [z]; exact ⟨_, he, fun v q => nomatch q⟩
    · rw [z]; exact ⟨o, ho, fun v q => by rw [hd] at q; cases q⟩
  keep := fun i h h' st k => by
    obtain ⟨⟨old, he⟩, ⟨o, ho, r⟩, hne⟩ := st
    exact ⟨⟨old, k e (by simp) _ he⟩, ⟨o, k it (by simp) o ho, r⟩, hne⟩
  item := by
    intro X hP hw hK hc i pins s σ H E I hf st hg
    subst hP hw hK
    obtain ⟨⟨old, he⟩, hit, hne, hle⟩ := st
    have hel : e < s.heap.objs.size := Heap.lt_size he
    have hil : it < s.heap.objs.size := by obtain ⟨_, q, _⟩ := hit; exact Heap.lt_size q
    have Dr : Draws X.prog X.w X.A.in1 it [it] x.cps.size (fun i v => ∃ c u, x.cps[i]? = some c ∧ v = .str ⟨#[c]⟩ u) (fun i h => h.IsStrIter it ty x t i) := by
      rcases hty with z | z
      · rw [z]; exact Draws.strAscii (A := X.A.in1) (I.ok.hd hc) it x t
      · rw [z]; exact Draws.strWide (A := X.A.in1) (I.ok.hd hc) it x t
    refine wpAny_pyNext_enum_itemD Dr he hit hg hne (by simpa using hne) fun v h' tk hv ho hit' hT hsz hk => ?_
    obtain ⟨c, u, hcx, rfl⟩ := hv
    refine ⟨_, rfl, wpAny_letOwnedTupleGo_enum (s := { s with heap := h', toks := tk + 1 }) ho fun h'' he' sb => ?_⟩
    have hT2 : h''.get? s.heap.objs.size = some { cls := .type "tuple", data := .seq #[.int i tk, .str ⟨#[c]⟩ u] } := (sb.2 _ (Nat.ne_of_gt hel)).trans hT
    have new : ObjOk X.prog X.w (upd H s.heap.objs.size (.tup [.int (i : Nat), .str ⟨#[c]⟩])) h'' s.heap.objs.size (.tup [.int (i : Nat), .str ⟨#[c]⟩]) :=
      ⟨by show 2 ≤ sizeLine; decide, [.int i tk, .str ⟨#[c]⟩ u], .cons ⟨_, rfl⟩ (.cons ⟨_, rfl⟩ .nil), ⟨_, hT2, rfl, _, rfl⟩⟩
    have I1 : Inv X pins σ (upd H s.heap.objs.size (.tup [.int (i : Nat), .str ⟨#[c]⟩])) { s with heap := h'', toks := tk + 1 } :=
      I.turnedNew (ch := [e, it]) (fun b ob hb q => (sb.2 b (fun z => hb (by simp [z]))).trans (hk b ob (fun z => hb (by simp [z])) (fun z => hb (by simp [z])) q)) hf (Nat.le_refl _) new
    refine ⟨.ref s.heap.objs.size, _, I1, rfl, ⟨_, c, rfl, I.hok.fresh (Nat.le_refl _), rfl, hcx⟩, ⟨⟨.str ⟨#[c]⟩ u, ?_⟩, ?_, hne, Nat.succ_le_of_lt hg⟩, fun b hb => ?_⟩
    · have e1 : ((i + 1 : Nat) : Int) = (i : Int) + 1 := by omega
      rw [e1]; exact he'
    · obtain ⟨o, q, r⟩ := hit'
      exact ⟨o, (sb.2 it (Ne.symm hne)).trans q, r⟩
    · have hb' : b < s.heap.objs.size := by
        have e' : b = e ∨ b = it := by simpa using hb
        rcases e' with z | z
        · rw [z]; exact hel
        · rw [z]; exact hil
      rw [upd_ne (Nat.ne_of_lt hb')]
      exact (hf b hb).1
  done := by
    intro X hP hw hK hc i pins s σ H E I hf st hg
    subst hP hw hK
    obtain ⟨⟨old, he⟩, hit, hne, hle⟩ := st
    obtain ⟨f0, f1, f2, f3, f4, f5⟩ := hf it (by simp)
    have Dr : Draws X.prog X.w X.A.in1 it [it] x.cps.size (fun i v => ∃ c u, x.cps[i]? = some c ∧ v = .str ⟨#[c]⟩ u) (fun i h => h.IsStrIter it ty x t i) := by
      rcases hty with z | z
      · rw [z]; exact Draws.strAscii (A := X.A.in1) (I.ok.hd hc) it x t
      · rw [z]; exact Draws.strWide (A := X.A.in1) (I.ok.hd hc) it x t
    have ei : i = x.cps.size := Nat.le_antisymm hle hg
    subst ei
    exact wpAny_pyNext_enum_endD Dr he hit fun h' eb => ⟨rfl, I.turned (t' := s.toks) (fun b o hb q => eb b o hb q) f0 f1 f3 f4 f5⟩
  self := fun A i s Q E st h => let ⟨⟨_, he⟩, _⟩ := st; wpAny_pyIter_enum he h
def iEnumS (ta : TA) : TI := fun σ H R => ta σ H fun vs H1 => ∃ x, vs = [.str x] ∧ R (Ites x) H1
theorem pi_enumS {X : Cx} {e : Expr} {ta : TA} {p pos tpos : Pos} {elts : List Expr} {kk : Nat} (hg : Gl X "enumerate") (hm : X.mg "enumerate" = none) (ha : PA X [e] ta) (hs : starEach [e] X.env = [(false, eval e X.env)] := by rfl) :
    PI X (.Tuple elts kk tpos) (.Call (.Name "enumerate" p) [e] [] pos) (iEnumS ta) := by
  refine ⟨fun pins s σ H R I h => ?_⟩
  refine Call_ (ld_blt I hg hm boot_enumerate (PyProof.Rows.callWith_type1 (thn (ha.run pos pins s σ H _ I h) fun us s1 ⟨vs, H1, I1, r1, q1⟩ => ?_) hs rfl))
  obtain ⟨x, ex, q⟩ := q1
  subst ex
  cases r1 with
  | cons r rr =>
    cases rr
    obtain ⟨t, rfl⟩ := r
    refine call_enumerate_str fun h' he hit hsz hk => wpAny_pyIter_enum he ?_
    have I2 : Inv X pins σ H1 { s1 with heap := h' } := I1.kept (t' := s1.toks) hk
    refine ⟨s1.heap.objs.size + 1, [s1.heap.objs.size + 1, s1.heap.objs.size], _, _, H1, rfl, I2, turn_enumS x t (s1.heap.objs.size + 1) s1.heap.objs.size (strIterType x) (by unfold strIterType; split <;> simp), ⟨⟨.none, he⟩, hit, Nat.succ_ne_self _, Nat.zero_le _⟩, fun b hb => ?_, q⟩
    have e' : b = s1.heap.objs.size + 1 ∨ b = s1.heap.objs.size := by simpa using hb
    have hle : s1.heap.objs.size ≤ b := by
      rcases e' with z | z
      · rw [z]; exact Nat.le_add_right _ _
      · rw [z]; exact Nat.le_refl _
    exact I1.fpOk hle (I1.hok.fresh hle)
theorem walk_enumS {z : Str} : Walk (Ites z) z.cps.size (fun _ => True) (fun i H v H' => ∃ T c, v = .ref T ∧ H T = none ∧ H' = upd H T (.tup [.int (i : Nat), .str ⟨#[c]⟩]) ∧ z.cps[i]? = some c) :=
  ⟨fun _ _ hi _ => hi, fun _ _ => Nat.le_refl _, fun _ _ _ _ _ _ y => y⟩

/-! ### setdefault of a dict with tuple keys -/
section
variable {X : Cx} {pins : List (Addr × Obj)} {σ : L2.St} {H : Hp} {s : Shared} {a b : Addr} {r : Value} {d : V} {k : List L2.Key} {A : Around} {E : Value → Shared → Prop}
theorem d_setdT {kvs : List (List L2.Key × V)} {Q : Value → Shared → Prop} (hu : A.units + 1 < cLine) (I : Inv X pins σ H s) (e : H a = some (.dT kvs)) (eb : H b = some (.tup (k.map kV))) (rd : RelV d r) (hl : kvs.length < sizeLine)
    (h1 : ∀ v, valV kvs k = some v → ∀ (w' : Value) (s' : Shared), Inv X pins σ H s' → RelV v w' → Q w' s') (h2 : valV kvs k = none → ∀ (w' : Value) (s' : Shared), Inv X pins σ (upd H a (.dT (putK kvs k d))) s' → RelV d w' → Q w' s') :
    wpAny (model X.prog X.w) A (call (.builtin "dict.setdefault") [.ref a, .ref b, r]) Q E s := by
  obtain ⟨z, hd, xs, rel, dd⟩ := dt_of I.hok e
  have hz : xs.length ≤ sizeLine := by rw [← Paired.length rel]; exact z
  have hl2 : (putK kvs k d).length ≤ sizeLine := by have := length_putK kvs k d; omega
  refine call_setdefault_heap (hsz := hz) (tupleKind_room_in1 hu) (key_of I.hok eb) hd dd (fun p hp => ?_) (fun hn h' dd' hs => ?_)
  · have q := rel.val k
    rw [hp] at q
    cases q0 : valV kvs k with
    | none => rw [q0] at q; exact (show False from q).elim
    | some v0 => rw [q0] at q; exact h1 v0 q0 _ _ (I.tok _) q
  · have q := rel.val k
    rw [hn] at q
    cases q0 : valV kvs k with
    | some v0 => rw [q0] at q; exact (show False from q).elim
    | none =>
      obtain ⟨o, es, ep, hq, h3, h4, h5, _, h6⟩ := dd'
      refine h2 q0 _ _ (d_write I (by rw [e]; exact True.intro) hs ⟨o, hq⟩ ⟨hl2, hd, _, (rel.put k eb rd).keeps fun c ys ec => ?_, o, es, ep, hq, h3, h4, h5, h6⟩) rd
      rw [upd_ne (ne_of ec e (fun z => nomatch z))]
      exact ec
end
def tDSetdT (td ty tx : TE) : TE := fun σ H Q => td σ H fun x H1 => ∃ a, x = .ref a ∧ IsD H1 a ∧ ty σ H1 fun y H2 => tx σ H2 fun z H3 => ∃ (kvs : List (List L2.Key × V)) (k : List L2.Key) (b : Addr), H3 a = some (.dT kvs) ∧ y = .ref b ∧ H3 b = some (.tup (k.map kV)) ∧ kvs.length < sizeLine ∧
  (∀ v, valV kvs k = some v → Q v H3) ∧ (valV kvs k = none → Q z (upd H3 a (.dT (putK kvs k z))))
section
variable {X : Cx} {o e f : Expr} {td ty tx : TE} {apos cpos : Pos}
theorem pe_dsetdT (hu : X.A.units + 1 < cLine) (ho : PE X o td) (he : PE X e ty) (hf : PE X f tx) (m : M2 X o "setdefault" apos e f cpos) : PE X (.Call (.Attribute o "setdefault" apos) [e, f] [] cpos) (tDSetdT td ty tx) := by
  refine ⟨fun pins s σ H Q I h => ?_⟩
  refine wpAny_Call_method m.base m.few m.line PySem.F.plainAttrs_dict PySem.F.slot_dict_setdefault PySem.F.type_dict_setdefault (thn (ho.run pins s σ H _ I h) fun u s1 ⟨x, H1, I1, rx, a, ex, d, q1⟩ => ?_)
  subst ex
  obtain rfl : u = Value.ref a := rx
  obtain ⟨t1, t2, _⟩ := isD_at I1 d
  refine ⟨t1, t2, ?_⟩
  rw [m.trees]
  refine Calls.callWith_builtin rfl (Calls.evalArgs_plain (Calls.spliced_cons (thn (he.run pins s1 σ H1 _ I1 q1) fun iv s2 ⟨y, H2, I2, ry, q2⟩ =>
    Calls.spliced_cons (thn (hf.run pins s2 σ H2 _ I2 q2) fun fv s3 ⟨z, H3, I3, rz, kvs, k, b, ea, ey, eb, hl, q3, q4⟩ => Calls.spliced_nil ?_))))
  subst ey
  obtain rfl : iv = Value.ref b := ry
  exact d_setdT hu I3 ea eb rz hl (fun v hv w' s4 I4 rw' => ⟨v, _, I4, rw', q3 v hv⟩) fun hn w' s4 I4 rw' => ⟨z, _, I4, rw', q4 hn⟩
end

def tDNewTS : TE := fun _ H Q => NewH H (.dT []) fun p H' => Q (.ref p) H'
theorem pe_dnewTS {X : Cx} {pos : Pos} : PE X (.Dict [] [] pos) tDNewTS := PE.of pe_dnewT fun σ H Q q => q.go


def topS (i : Nat) : Stmt := PySem.Challenge.pw_stillroom_k14_kinds_of_lists.main.body.getD i (.Pass ⟨0, 0, 0, 0⟩)
abbrev s_stands : Stmt := topS 1
abbrev s_read_low_first : Stmt := topS 2
abbrev s_possible_kinds : Stmt := topS 14
abbrev s_kind_of : Stmt := topS 15
abbrev s__sign_place : Stmt := topS 16
abbrev s_find_end : Stmt := topS 17
abbrev s__law_cell : Stmt := topS 19
abbrev s__law_row : Stmt := topS 21
abbrev s__law_low : Stmt := topS 23
abbrev s__law_number : Stmt := topS 24
abbrev s__law_codes : Stmt := topS 25
abbrev s__law_starts : Stmt := topS 26
abbrev s__law_put : Stmt := topS 27
abbrev s__law_list : Stmt := topS 28
abbrev s__law_first : Stmt := topS 29
abbrev s__law_has_end : Stmt := topS 30
abbrev s__law_kinds : Stmt := topS 31
abbrev s_law : Stmt := topS 32
theorem sc_stands : FnScope ["data", "at", "sign"] ["data", "at", "sign"] (defScope s_stands) := ⟨rfl, rfl, rfl, by decide +kernel, rfl, by decide +kernel, by decide +kernel⟩
theorem sc_read_low_first : FnScope ["data", "number", "byte"] ["data"] (defScope s_read_low_first) := ⟨rfl, rfl, rfl, by decide +kernel, rfl, by decide +kernel, by decide +kernel⟩
theorem sc_possible_kinds : FnScope ["data", "signs", "found", "kind", "sign"] ["data"] (defScope s_possible_kinds) := ⟨rfl, rfl, rfl, by decide +kernel, rfl, by decide +kernel, by decide +kernel⟩
theorem sc_kind_of : FnScope ["data", "kinds"] ["data"] (defScope s_kind_of) := ⟨rfl, rfl, rfl, by decide +kernel, rfl, by decide +kernel, by decide +kernel⟩
theorem sc__sign_place : FnScope ["data", "sign", "at"] ["data", "sign"] (defScope s__sign_place) := ⟨rfl, rfl, rfl, by decide +kernel, rfl, by decide +kernel, by decide +kernel⟩
theorem sc_find_end : FnScope ["data", "at"] ["data"] (defScope s_find_end) := ⟨rfl, rfl, rfl, by decide +kernel, rfl, by decide +kernel, by decide +kernel⟩
theorem sc__law_cell : FnScope ["script", "k"] ["script", "k"] (defScope s__law_cell) := ⟨rfl, rfl, rfl, by decide +kernel, rfl, by decide +kernel, by decide +kernel⟩
theorem sc__law_row : FnScope ["cell", "count", "row", "left", "k", "state"] ["cell", "count"] (defScope s__law_row) := ⟨rfl, rfl, rfl, by decide +kernel, rfl, by decide +kernel, by decide +kernel⟩
theorem sc__law_low : FnScope ["number", "size", "row", "k"] ["number", "size"] (defScope s__law_low) := ⟨rfl, rfl, rfl, by decide +kernel, rfl, by decide +kernel, by decide +kernel⟩
theorem sc__law_number : FnScope ["row", "number", "byte"] ["row"] (defScope s__law_number) := ⟨rfl, rfl, rfl, by decide +kernel, rfl, by decide +kernel, by decide +kernel⟩
theorem sc__law_codes : FnScope ["text", "sign"] ["text"] (defScope s__law_codes) := ⟨rfl, rfl, rfl, by decide +kernel, rfl, by decide +kernel, by decide +kernel⟩
theorem sc__law_starts : FnScope [] [] (defScope s__law_starts) := ⟨rfl, rfl, rfl, by decide +kernel, rfl, by decide +kernel, by decide +kernel⟩
theorem sc__law_put : FnScope ["data", "sign", "at"] ["data", "sign", "at"] (defScope s__law_put) := ⟨rfl, rfl, rfl, by decide +kernel, rfl, by decide +kernel, by decide +kernel⟩
theorem sc__law_list : FnScope ["script", "cell", "data", "at", "k", "drawn", "sign", "part"] ["script"] (defScope s__law_list) := ⟨rfl, rfl, rfl, by decide +kernel, rfl, by decide +kernel, by decide +kernel⟩
theorem sc__law_first : FnScope ["data", "sign", "at"] ["data", "sign"] (defScope s__law_first) := ⟨rfl, rfl, rfl, by decide +kernel, rfl, by decide +kernel, by decide +kernel⟩
theorem sc__law_has_end : FnScope ["data", "at"] ["data"] (defScope s__law_has_end) := ⟨rfl, rfl, rfl, by decide +kernel, rfl, by decide +kernel, by decide +kernel⟩
theorem sc__law_kinds : FnScope ["data", "kinds", "k", "sign", "folio", "crate", "kind"] ["data"] (defScope s__law_kinds) := ⟨rfl, rfl, rfl, by decide +kernel, rfl, by decide +kernel, by decide +kernel⟩
theorem sc_law : FnScope ["script", "data", "given", "kinds", "kind", "found", "told"] ["script"] (defScope s_law) := ⟨rfl, rfl, rfl, by decide +kernel, rfl, by decide +kernel, by decide +kernel⟩
/-- what the top has left, as far as the walk asks of it -/
structure Txt (K : PySem.W.Frag) (mg : Str → Option Value) where
  f_stands : Addr
  fd_stands : FuncData
  F_stands : Fun K "stands" "stands" s_stands f_stands fd_stands
  b_stands : Binds K fd_stands ["data", "at", "sign"] []
  g_stands : mg "stands" = some (.ref f_stands)
  f_read_low_first : Addr
  fd_read_low_first : FuncData
  F_read_low_first : Fun K "read_low_first" "read_low_first" s_read_low_first f_read_low_first fd_read_low_first
  b_read_low_first : Binds K fd_read_low_first ["data"] []
  g_read_low_first : mg "read_low_first" = some (.ref f_read_low_first)
  f_possible_kinds : Addr
  fd_possible_kinds : FuncData
  F_possible_kinds : Fun K "possible_kinds" "possible_kinds" s_possible_kinds f_possible_kinds fd_possible_kinds
  b_possible_kinds : Binds K fd_possible_kinds ["data"] []
  g_possible_kinds : mg "possible_kinds" = some (.ref f_possible_kinds)
  f_kind_of : Addr
  fd_kind_of : FuncData
  F_kind_of : Fun K "kind_of" "kind_of" s_kind_of f_kind_of fd_kind_of
  b_kind_of : Binds K fd_kind_of ["data"] []
  g_kind_of : mg "kind_of" = some (.ref f_kind_of)
  f__sign_place : Addr
  fd__sign_place : FuncData
  F__sign_place : Fun K "_sign_place" "_sign_place" s__sign_place f__sign_place fd__sign_place
  b__sign_place : Binds K fd__sign_place ["data", "sign"] []
  g__sign_place : mg "_sign_place" = some (.ref f__sign_place)
  f_find_end : Addr
  fd_find_end : FuncData
  F_find_end : Fun K "find_end" "find_end" s_find_end f_find_end fd_find_end
  b_find_end : Binds K fd_find_end ["data"] []
  g_find_end : mg "find_end" = some (.ref f_find_end)
  f__law_cell : Addr
  fd__law_cell : FuncData
  F__law_cell : Fun K "_law_cell" "_law_cell" s__law_cell f__law_cell fd__law_cell
  b__law_cell : Binds K fd__law_cell ["script", "k"] []
  g__law_cell : mg "_law_cell" = some (.ref f__law_cell)
  f__law_row : Addr
  fd__law_row : FuncData
  F__law_row : Fun K "_law_row" "_law_row" s__law_row f__law_row fd__law_row
  b__law_row : Binds K fd__law_row ["cell", "count"] []
  g__law_row : mg "_law_row" = some (.ref f__law_row)
  f__law_low : Addr
  fd__law_low : FuncData
  F__law_low : Fun K "_law_low" "_law_low" s__law_low f__law_low fd__law_low
  b__law_low : Binds K fd__law_low ["number", "size"] []
  g__law_low : mg "_law_low" = some (.ref f__law_low)
  f__law_number : Addr
  fd__law_number : FuncData
  F__law_number : Fun K "_law_number" "_law_number" s__law_number f__law_number fd__law_number
  b__law_number : Binds K fd__law_number ["row"] []
  g__law_number : mg "_law_number" = some (.ref f__law_number)
  f__law_codes : Addr
  fd__law_codes : FuncData
  F__law_codes : Fun K "_law_codes" "_law_codes" s__law_codes f__law_codes fd__law_codes
  b__law_codes : Binds K fd__law_codes ["text"] []
  g__law_codes : mg "_law_codes" = some (.ref f__law_codes)
  f__law_starts : Addr
  fd__law_starts : FuncData
  F__law_starts : Fun K "_law_starts" "_law_starts" s__law_starts f__law_starts fd__law_starts
  b__law_starts : Binds K fd__law_starts [] []
  g__law_starts : mg "_law_starts" = some (.ref f__law_starts)
  f__law_put : Addr
  fd__law_put : FuncData
  F__law_put : Fun K "_law_put" "_law_put" s__law_put f__law_put fd__law_put
  b__law_put : Binds K fd__law_put ["data", "sign", "at"] []
  g__law_put : mg "_law_put" = some (.ref f__law_put)
  f__law_list : Addr
  fd__law_list : FuncData
  F__law_list : Fun K "_law_list" "_law_list" s__law_list f__law_list fd__law_list
  b__law_list : Binds K fd__law_list ["script"] []
  g__law_list : mg "_law_list" = some (.ref f__law_list)
  f__law_first : Addr
  fd__law_first : FuncData
  F__law_first : Fun K "_law_first" "_law_first" s__law_first f__law_first fd__law_first
  b__law_first : Binds K fd__law_first ["data", "sign"] []
  g__law_first : mg "_law_first" = some (.ref f__law_first)
  f__law_has_end : Addr
  fd__law_has_end : FuncData
  F__law_has_end : Fun K "_law_has_end" "_law_has_end" s__law_has_end f__law_has_end fd__law_has_end
  b__law_has_end : Binds K fd__law_has_end ["data"] []
  g__law_has_end : mg "_law_has_end" = some (.ref f__law_has_end)
  f__law_kinds : Addr
  fd__law_kinds : FuncData
  F__law_kinds : Fun K "_law_kinds" "_law_kinds" s__law_kinds f__law_kinds fd__law_kinds
  b__law_kinds : Binds K fd__law_kinds ["data"] []
  g__law_kinds : mg "_law_kinds" = some (.ref f__law_kinds)
  f_law : Addr
  fd_law : FuncData
  F_law : Fun K "law" "law" s_law f_law fd_law
  b_law : Binds K fd_law ["script"] []
  g_law : mg "law" = some (.ref f_law)
  a_KINDS : Addr
  c_KINDS : mg "KINDS" = some (.ref a_KINDS)
  q_KINDS : ∀ H, SqT K H a_KINDS [V.str "still", V.str "picture", V.str "film", V.str "sheet", V.str "folio", V.str "crate"]
  a_STILL_SIGN : Addr
  c_STILL_SIGN : mg "STILL_SIGN" = some (.ref a_STILL_SIGN)
  q_STILL_SIGN : ∀ H, SqT K H a_STILL_SIGN [V.int 115, V.int 116, V.int 105, V.int 108, V.int 108, V.int 32, V.int 49, V.int 10]
  a_PICTURE_SIGN : Addr
  c_PICTURE_SIGN : mg "PICTURE_SIGN" = some (.ref a_PICTURE_SIGN)
  q_PICTURE_SIGN : ∀ H, SqT K H a_PICTURE_SIGN [V.int 137, V.int 73, V.int 77, V.int 71, V.int 13, V.int 10]
  a_FILM_SIGN : Addr
  c_FILM_SIGN : mg "FILM_SIGN" = some (.ref a_FILM_SIGN)
  q_FILM_SIGN : ∀ H, SqT K H a_FILM_SIGN [V.int 70, V.int 82, V.int 77, V.int 49, V.int 10]
  a_SHEET_SIGN : Addr
  c_SHEET_SIGN : mg "SHEET_SIGN" = some (.ref a_SHEET_SIGN)
  q_SHEET_SIGN : ∀ H, SqT K H a_SHEET_SIGN [V.int 115, V.int 104, V.int 101, V.int 101, V.int 116, V.int 32, V.int 49, V.int 10]
  a_FOLIO_SIGN : Addr
  c_FOLIO_SIGN : mg "FOLIO_SIGN" = some (.ref a_FOLIO_SIGN)
  q_FOLIO_SIGN : ∀ H, SqT K H a_FOLIO_SIGN [V.int 37, V.int 70, V.int 79, V.int 76]
  t__LAST_SIGN_PLACE : Tok
  c__LAST_SIGN_PLACE : mg "_LAST_SIGN_PLACE" = some (.int 1023 t__LAST_SIGN_PLACE)
  a_HEAD_SIGN : Addr
  c_HEAD_SIGN : mg "HEAD_SIGN" = some (.ref a_HEAD_SIGN)
  q_HEAD_SIGN : ∀ H, SqT K H a_HEAD_SIGN [V.int 67, V.int 82, V.int 84, V.int 49]
  a_END_SIGN : Addr
  c_END_SIGN : mg "END_SIGN" = some (.ref a_END_SIGN)
  q_END_SIGN : ∀ H, SqT K H a_END_SIGN [V.int 67, V.int 69, V.int 78, V.int 68]
  t_END_SIZE : Tok
  c_END_SIZE : mg "END_SIZE" = some (.int 10 t_END_SIZE)
  z_abs : mg "abs" = none
  z_int : mg "int" = none
  z_isinstance : mg "isinstance" = none
  z_len : mg "len" = none
  z_list : mg "list" = none
  z_max : mg "max" = none
  z_min : mg "min" = none
  z_ord : mg "ord" = none
  z_range : mg "range" = none
  z_reversed : mg "reversed" = none
  z_str : mg "str" = none
  z_tuple : mg "tuple" = none
  z_zip : mg "zip" = none
open Lean in
local macro_rules
  | `(tactic| walk_at $s:str) => do
    let ws := (s.getString.splitOn " ").filter (· ≠ "")
    let ids (fs : List String) : Array (TSyntax `term) := (fs.map fun f => (⟨mkIdent f.toName⟩ : TSyntax `term)).toArray
    match ws with
    | "vc" :: fs => do
      let xs := ids fs
      `(tactic| simp (config := {maxSteps := 2000000}) only [tSeq, tAsg, tOp, rI, rI0, rU, tUn, tCB, tCons, tNil, tVar, tC, gName, gSub, rSetL, tRet, tRetN, tIfS, tNext, tTest, tB, tDrop, tIf, tNot, tAnd, tOr, tAndV, tOrV, tNotV, tAug, ipI, tCall, tCmp, t2I, tBreak, tCont, tLst, tTup, tBM, tBM0, rAppend, tyV_upd, rLenH, rLenT, rListH, rIxH, rIxTH, rIxS, rEqIL, rNeIL, rEqTS, rSlH, rRep, rCat, rExtend, tSl, tPart, tNoPart, rIxT, gTup, gCons, gNil, atI_c0, atI_c1, atI_c2, atI_c3, dS_int, dS_bl, isS_int, isS_bl, eqv_ii, eqv_bb, eqvAll_nil, eqvAll_cons, List.all_cons, List.all_nil, Bool.and_true, Bool.true_and, rIsiB, tnm_int, tnm_bl, tnm_str, tnm_non, tnm_ref, kb1, kb2, kb3, kb4, kb5, kb6, kb7, kb8, kb9, kb10, rEq, rNe, scal_ii, scal_ss, scal_bb, scal_nn, scal_in, scal_ni, tFor_eq, tLc_eq, iRng1, iRng2, iList, iTup, iZip, iStr, iRng3, tChain, tYes, wipe, tCallL, Int.sub_zero, Int.toNat_natCast, Int.natCast_add, cxOf, L2.start, List.map_cons, List.map_nil, List.length_cons, List.length_nil, List.reduceReplicate, List.cons_append, List.nil_append, List.append_nil, List.set_cons_zero, List.set_cons_succ, List.getElem?_cons_zero, List.getElem?_cons_succ, upd_same, upd_upd, HO.lst.injEq, HO.tup.injEq, nil_sz, Option.some.injEq, V.int.injEq, V.bl.injEq, V.ref.injEq, V.str.injEq, V.ty.injEq, exists_eq_left', exists_eq_left, exists_eq', exists_eq, Int.cast_ofNat_Int, Int.reduceEq, Int.reduceMul, Int.reduceAdd, Int.reduceSub, Int.natCast_zero, Int.mul_zero, Int.add_zero, exists_and_left, exists_and_right, List.cons.injEq, and_true, true_and, and_assoc, reduceCtorEq, false_and, and_false, exists_false, exists_const, or_false, false_or, Nat.reduceAdd, Nat.reduceSub, Int.reduceLT, Int.reduceLE, Int.reduceNeg, Int.reducePow, Int.reduceToNat, ite_true, ite_false, Bool.false_eq_true, Bool.not_true, Bool.not_false, decide_true, decide_false, if_true, if_false, tTupS, tLstS, rListS, rListT, rTupleL, rCatL, rRepS, rSlS, map_int_inj, sz1, sz2, sz3, sz4, sz5, sz6, sz8, CMul, Nat.reduceLT, Nat.reduceLeDiff, Nat.reducePow, or_true, true_or, List.length_map, List.length_append, List.length_replicate, decide_eq_true_eq, gt_iff_lt, ge_iff_le, Int.reduceGT, Int.reduceGE, ne_eq, not_true_eq_false, not_false_eq_true, Int.reduceToNat, gTupS, gLstS, iListS, iTupS, tML, tML0, rPop, mx_eq, mn_eq, Int.natCast_inj, bitAnd_m1, bitAnd_m2, bitAnd_m3, bitAnd_m4, bitAnd_m5, bitAnd_m6, bitAnd_m7, bitAnd_m8, bitAnd_m16, CDiv, toNat_mul, map_snoc, map_cat, map_setV, List.length_set, absI_eq, Bool.and_self, tAugS, rGetL, iZipS, cutV_take1, cutV_drop1, tPar, rLenSc, rIxSc, iRng2, rSumS, rSlTS, cutV_take3, rEqC, rNeC, tTrL, iEnumL, rInI, rIndexI, tDGet, tDIn, tDNotIn, sDPut, iEnumS, tDc_eq, eq_self, rEqTK, rNeSK, rIsiTK, iRevS, iZipTS, rInLC, rNotInLC, rNotInTC, rRepL, tJoinC, tDGet2, tDNewTS, tDSetdT, $[$xs:term],*])
    | "w" :: fs => do
      let xs := ids fs
      let ys := (fs.map fun f => (⟨mkIdent f.toName⟩ : TSyntax `term)).toArray
      `(tactic| simp (config := {maxSteps := 2000000}) only [tSeq, tAsg, tOp, rI, rI0, rU, tUn, tCB, tCons, tNil, tVar, tC, gName, gSub, rSetL, tRet, tRetN, tIfS, tNext, tTest, tB, tDrop, tIf, tNot, tAnd, tOr, tAndV, tOrV, tNotV, tAug, ipI, tCall, tCmp, t2I, tBreak, tCont, tLst, tTup, tBM, tBM0, rAppend, tyV_upd, rLenH, rLenT, rListH, rIxH, rIxTH, rIxS, rEqIL, rNeIL, rEqTS, rSlH, rRep, rCat, rExtend, tSl, tPart, tNoPart, rIxT, gTup, gCons, gNil, atI_c0, atI_c1, atI_c2, atI_c3, dS_int, dS_bl, isS_int, isS_bl, eqv_ii, eqv_bb, eqvAll_nil, eqvAll_cons, List.all_cons, List.all_nil, Bool.and_true, Bool.true_and, rIsiB, tnm_int, tnm_bl, tnm_str, tnm_non, tnm_ref, kb1, kb2, kb3, kb4, kb5, kb6, kb7, kb8, kb9, kb10, rEq, rNe, scal_ii, scal_ss, scal_bb, scal_nn, scal_in, scal_ni, tFor_eq, tLc_eq, iRng1, iRng2, iList, iTup, iZip, iStr, iRng3, tChain, tYes, wipe, tCallL, Int.sub_zero, Int.toNat_natCast, Int.natCast_add, cxOf, L2.start, List.map_cons, List.map_nil, List.length_cons, List.length_nil, List.reduceReplicate, List.cons_append, List.nil_append, List.append_nil, List.set_cons_zero, List.set_cons_succ, List.getElem?_cons_zero, List.getElem?_cons_succ, upd_same, upd_upd, HO.lst.injEq, HO.tup.injEq, nil_sz, Option.some.injEq, V.int.injEq, V.bl.injEq, V.ref.injEq, V.str.injEq, V.ty.injEq, exists_eq_left', exists_eq_left, exists_eq', exists_eq, Int.cast_ofNat_Int, Int.reduceEq, Int.reduceMul, Int.reduceAdd, Int.reduceSub, Int.natCast_zero, Int.mul_zero, Int.add_zero, exists_and_left, exists_and_right, List.cons.injEq, and_true, true_and, and_assoc, reduceCtorEq, false_and, and_false, exists_false, exists_const, or_false, false_or, Nat.reduceAdd, Nat.reduceSub, Int.reduceLT, Int.reduceLE, Int.reduceNeg, Int.reducePow, Int.reduceToNat, ite_true, ite_false, Bool.false_eq_true, Bool.not_true, Bool.not_false, decide_true, decide_false, if_true, if_false, tTupS, tLstS, rListS, rListT, rTupleL, rCatL, rRepS, rSlS, map_int_inj, sz1, sz2, sz3, sz4, sz5, sz6, sz8, CMul, Nat.reduceLT, Nat.reduceLeDiff, Nat.reducePow, or_true, true_or, List.length_map, List.length_append, List.length_replicate, decide_eq_true_eq, gt_iff_lt, ge_iff_le, Int.reduceGT, Int.reduceGE, ne_eq, not_true_eq_false, not_false_eq_true, Int.reduceToNat, gTupS, gLstS, iListS, iTupS, tML, tML0, rPop, mx_eq, mn_eq, Int.natCast_inj, bitAnd_m1, bitAnd_m2, bitAnd_m3, bitAnd_m4, bitAnd_m5, bitAnd_m6, bitAnd_m7, bitAnd_m8, bitAnd_m16, CDiv, toNat_mul, map_snoc, map_cat, map_setV, List.length_set, absI_eq, Bool.and_self, tAugS, rGetL, iZipS, cutV_take1, cutV_drop1, tPar, rLenSc, rIxSc, iRng2, rSumS, rSlTS, cutV_take3, rEqC, rNeC, tTrL, iEnumL, rInI, rIndexI, tDGet, tDIn, tDNotIn, sDPut, iEnumS, tDc_eq, eq_self, rEqTK, rNeSK, rIsiTK, iRevS, iZipTS, rInLC, rNotInLC, rNotInTC, rRepL, tJoinC, tDGet2, tDNewTS, tDSetdT, $[$xs:term],*, $[(tyL_eq $ys)],*, $[(sqL_eq $ys)],*])
    | "g" :: fs => do
      let xs := ids fs
      `(tactic| simp only [gTupS, gCons, gNil, gName, HO.tup.injEq, Option.some.injEq, exists_eq_left', exists_eq_left, exists_eq', exists_eq, V.ref.injEq, List.cons.injEq, and_assoc, exists_and_left, exists_and_right, true_and, and_true, List.length_cons, List.length_nil, Nat.reduceAdd, List.set_cons_zero, List.set_cons_succ, $[$xs:term],*])
    | "c" :: sn :: gs => do
      let s1 := mkIdent sn.toName
      let mut out ← `(tactic| skip)
      for g in gs do
        let i := mkIdent g.toName
        out ← `(tactic| ($out; replace $i := $s1 _ _ $i))
      return out
    | "n" :: sn :: suf :: gs => do
      let s1 := mkIdent sn.toName
      let mut out ← `(tactic| skip)
      for g in gs do
        let i := mkIdent g.toName
        let j := mkIdent (g ++ suf).toName
        out ← `(tactic| ($out; have $j := $s1 _ _ $i))
      return out
    | "b" :: bn :: suf :: gs => do
      let s1 := mkIdent bn.toName
      let mut out ← `(tactic| skip)
      for g in gs do
        let i := mkIdent g.toName
        let j := mkIdent (g ++ suf).toName
        let n := mkIdent ("ne_" ++ g).toName
        out ← `(tactic| ($out; have $j := $s1 _ _ $n $i))
      return out
    | _ => Macro.throwUnsupported

section
variable {P : Program} {w : World} {K : PySem.W.Frag} {mg : Str → Option Value} {base : Heap}

theorem foldl_take {α β : Type} (f : β → α → β) (s : β) {l : List α} {i : Nat} {x : α} (h : l[i]? = some x) : (l.take (i + 1)).foldl f s = f ((l.take i).foldl f s) x := by
  rw [List.take_add_one, h, List.foldl_append]
  simp only [Option.toList_some, List.foldl_cons, List.foldl_nil]
theorem take_succ {α : Type} {l : List α} {i : Nat} {x : α} (h : l[i]? = some x) : l.take (i + 1) = l.take i ++ [x] := by
  rw [List.take_add_one, h]
  rfl
theorem take_map_succ {α β : Type} (f : α → β) {l : List α} {i : Nat} {x : α} (h : l[i]? = some x) : (l.map f).take (i + 1) = (l.map f).take i ++ [f x] := take_succ (by rw [List.getElem?_map, h]; rfl)
theorem take_lt {α : Type} (l : List α) (i : Nat) {n : Nat} (h : l.length < n) : (l.take i).length < n := Nat.lt_of_le_of_lt (by rw [List.length_take]; exact Nat.min_le_right _ _) h
def YTup (ns : List Int) : Nat → Hp → V → Hp → Prop := fun i H v H' => H' = H ∧ ∃ b, ns[i]? = some b ∧ v = .int b
theorem walkTI {K : PySem.W.Frag} {a : Addr} {ns : List Int} : Walk (Itt K a) ns.length (fun H => H a = some (.tup (List.map V.int ns))) (YTup ns) := by
  have w := walkT (K := K) (a := a) (xs := List.map V.int ns)
  rw [List.length_map] at w
  refine w.mono (fun _ h => h) fun i H x H' _ _ y => ⟨y.1, ?_⟩
  have h := y.2
  rw [List.getElem?_map] at h
  obtain ⟨b, h1, rfl⟩ := Option.map_eq_some_iff.mp h
  exact ⟨b, h1, rfl⟩
theorem foldl_len {α : Type} {f : List Int → α → List Int} (h : ∀ p c, (f p c).length = p.length) : ∀ (l : List α) (p : List Int), (l.foldl f p).length = p.length
  | [], _ => rfl
  | c :: r, p => by rw [List.foldl_cons, foldl_len h r, h]
theorem ix_in {r c w h : Nat} (hr : r < h) (hc : c < w) : r * w + c < w * h := by
  have h1 : r * w + w ≤ h * w := by rw [← Nat.succ_mul]; exact Nat.mul_le_mul_right w hr
  rw [Nat.mul_comm w h]
  omega
theorem map_set (l : List Int) (i : Nat) (v : Int) : (List.map V.int l).set i (.int v) = List.map V.int (l.set i v) := by rw [List.map_set]
theorem div_in {a d : Int} {n : Nat} (h0 : 0 ≤ a) (h1 : a < d) (hn : 1 ≤ n) : 0 ≤ a * n / d ∧ a * n / d < n := by
  refine ⟨Int.ediv_nonneg (Int.mul_nonneg h0 (by omega)) (by omega), Int.ediv_lt_of_lt_mul (by omega) ?_⟩
  rw [Int.mul_comm (n : Int) d]
  exact Int.mul_lt_mul_of_pos_right h1 (by omega)
theorem foldl_ext' {α β : Type} {f g : α → β → α} {l : List β} : ∀ {a : α}, (∀ a, ∀ b ∈ l, f a b = g a b) → l.foldl f a = l.foldl g a := by
  induction l with
  | nil => exact fun _ => rfl
  | cons x r ih => exact fun {a} h => by rw [List.foldl_cons, List.foldl_cons, h a x List.mem_cons_self]; exact ih fun a b hb => h a b (List.mem_cons_of_mem _ hb)
theorem gN_ge {src : List Int} (h : ∀ v ∈ src, -1 ≤ v) (i : Nat) : -1 ≤ gN src i := by
  unfold gN
  rw [List.getD_eq_getElem?_getD]
  cases e : src[i]? with
  | none => decide
  | some b => exact h b (List.mem_of_getElem? e)
theorem cnt_lt {n : Nat} (h : n ≤ 2000000) : n < sizeLine := Nat.lt_of_le_of_lt h (by decide)
theorem cnt_le {n : Nat} (h : n ≤ 2000000) : n ≤ sizeLine := Nat.le_of_lt (cnt_lt h)
theorem cnt_leL {n : Nat} (h : n ≤ 10000000) : n ≤ sizeLine := Nat.le_trans h (by decide)

/-! ### searching -/
def fst? (p : Nat → Bool) : Nat → Option Nat
  | 0 => none
  | n + 1 => match fst? p n with
    | some i => some i
    | none => if p n then some n else none
theorem fst?_up {p : Nat → Bool} {i : Nat} : ∀ {m n : Nat}, m ≤ n → fst? p m = some i → fst? p n = some i
  | m, 0, h, e => by
    obtain rfl : m = 0 := by omega
    exact e
  | m, n + 1, h, e => by
    by_cases c : m = n + 1
    · rw [← c]; exact e
    · rw [fst?, fst?_up (show m ≤ n by omega) e]
theorem fst?_hit {p : Nat → Bool} {i n : Nat} (h : i < n) (e : fst? p i = none) (hp : p i = true) : fst? p n = some i := fst?_up (m := i + 1) h (by rw [fst?, e]; simp [hp])
theorem fst?_miss {p : Nat → Bool} {i : Nat} (e : fst? p i = none) (hp : p i = false) : fst? p (i + 1) = none := by rw [fst?, e]; simp [hp]
def oI : Option Nat → Int
  | some i => i
  | none => -1
def lowF (ns : List Int) : Int := ns.reverse.foldl (fun n b => n * 256 + b) 0
theorem rg_gen {L c : Nat} (hL : L < 1000000) (h1 : 1 ≤ c) (h2 : c ≤ 100000) : RgC 0 (L : Int) (c : Int) ((L + c - 1) / c) := by
  have hd : (L + c - 1) / c ≤ L + c - 1 := Nat.div_le_self _ _
  have e : Builtin.Range.rangeSize 0 (L : Int) (c : Int) = (((L + c - 1) / c : Nat) : Int) := by
    unfold Builtin.Range.rangeSize
    rw [if_pos (by omega)]
    by_cases h : L = 0
    · rw [if_neg (by omega), h, Nat.div_eq_of_lt (by omega)]
      rfl
    · rw [if_pos (by omega), show (L : Int) - 0 - 1 = ((L - 1 : Nat) : Int) by omega, ← Int.natCast_ediv, show L + c - 1 = (L - 1) + c by omega, Nat.add_div_right _ (by omega)]
      rfl
  generalize (L + c - 1) / c = n at hd e ⊢
  refine ⟨by omega, by omega, ?_, e⟩
  unfold Builtin.Range.small
  rw [e]
  simp only [Builtin.Range.rangeFitsLong, Bool.and_eq_true, Bool.or_eq_true, decide_eq_true_eq, beq_iff_eq, show ((c : Int) > 0) by omega, if_true]
  omega
theorem rg_lt {L c i : Nat} (h1 : 1 ≤ c) (h : i < (L + c - 1) / c) : i * c < L := by
  have := (Nat.le_div_iff_mul_le (by omega)).mp (Nat.succ_le_of_lt h)
  rw [Nat.succ_mul] at this
  omega

def sp_stands (K : PySem.W.Frag) : Sp := fun vs H Q _ => ∃ (a b : Addr) (ns ms : List Int) (at_ : Nat), vs = [.ref a, .int (at_ : Int), .ref b] ∧ (H a = some (.lst (List.map V.int ns))) ∧ (SqT K H b (List.map V.int ms)) ∧ (∀ H', Same H H' → Q (.bl (decide (sl ns at_ (at_ + ms.length) = ms))) H')
theorem ok_stands (T : Txt K mg) : FnOk P w K mg base CX0 1 T.f_stands T.fd_stands ["data", "at", "sign"] (sp_stands K) := by
  refine T.F_stands.ok sc_stands (fun vs H Q E h => ?_) (fun cdv A outer s H vs Q E hr h => ?_)
  · obtain ⟨a, b, ns, ms, at_, rfl, _⟩ := h
    rfl
  · obtain ⟨a, b, ns, ms, at_, rfl, ha, hb, q⟩ := h
    refine ⟨_, (pss_one (ps_ret (pe_cmpR (op_eqTK hr.units) (pe_callTy call_tupleL (by rfl) T.z_tuple (by decide +kernel) (pa_cons (pe_slice sl_listS (pv 0) (po_some (pv 1)) (po_some (pe_op op_add (pv 1) (pe_callB call_len_seq (by rfl) T.z_len PySem.boot_len (pa_cons (pv 2) pa_nil))))) pa_nil)) (pv 2) (nomark _)))), ?_⟩
    walk_at "vc ha"
    refine ⟨_, .inr hb, fun p1 H1 s1 n1 g1 => ⟨_, g1, fun p2 H2 s2 n2 g2 => ?_⟩⟩
    rw [List.length_map, show (at_ : Int) + (ms.length : Int) = ((at_ + ms.length : Nat) : Int) by omega, cut_sl] at g2
    exact ⟨_, g2, _, (s1.trans s2).seqT hb, q _ (s1.trans s2)⟩
def sp_read_low_first (K : PySem.W.Frag) : Sp := fun vs H Q _ => ∃ (a : Addr) (ns : List Int), vs = [.ref a] ∧ (H a = some (.lst (List.map V.int ns))) ∧ (Q (.int (lowF ns)) H)
theorem ok_read_low_first (T : Txt K mg) : FnOk P w K mg base CX0 1 T.f_read_low_first T.fd_read_low_first ["data"] (sp_read_low_first K) := by
  refine T.F_read_low_first.ok sc_read_low_first (fun vs H Q E h => ?_) (fun cdv A outer s H vs Q E hr h => ?_)
  · obtain ⟨a, ns, rfl, _⟩ := h
    rfl
  · obtain ⟨a, ns, rfl, ha, q⟩ := h
    refine ⟨_, (pss_cons (ps_set (i := 1) sc_read_low_first.nd rfl (Or.inl rfl) pe_int)
      (pss_cons (ps_for PassesOwn.never rfl (pi_revS (by rfl) T.z_reversed (pa_cons (pv 0) pa_nil)) (pg_name (i := 2) sc_read_low_first.nd rfl (Or.inl rfl)) (pss_one (ps_set (i := 1) sc_read_low_first.nd rfl (Or.inl rfl) (pe_op op_add (pe_op op_mul (pv 1) pe_int) (pv 2)))))
      (pss_one (ps_ret (pv 1))))), ?_⟩
    walk_at "vc ha"
    refine lpW (walkVI (ns := ns)) (fun i σ H' => ∃ v2 : Option V, σ = [some (.ref a), some (.int ((ns.reverse.take i).foldl (fun n b => n * 256 + b) 0)), v2] ∧ H' = H) ⟨_, rfl, rfl⟩ ?_ ?_ ?_
    · rintro i σ H' _ ⟨_, _, rfl⟩
      exact ha
    · rintro i x σ H' H2 hi ⟨v2, rfl, rfl⟩ ⟨rfl, b, hb, rfl⟩
      rw [foldl_take _ _ hb]
      walk_at "vc"
    · rintro σ H' ⟨v2, rfl, rfl⟩
      rw [show ns.length = ns.reverse.length by rw [List.length_reverse], List.take_length]
      walk_at "vc"
      exact q
/-! ### signs -/
def sgs : List (List Int) := [[115, 116, 105, 108, 108, 32, 49, 10], [137, 73, 77, 71, 13, 10], [70, 82, 77, 49, 10], [115, 104, 101, 101, 116, 32, 49, 10]]
def kds : List OkS := [⟨Str.ofString "still", by decide +kernel⟩, ⟨Str.ofString "picture", by decide +kernel⟩, ⟨Str.ofString "film", by decide +kernel⟩, ⟨Str.ofString "sheet", by decide +kernel⟩, ⟨Str.ofString "folio", by decide +kernel⟩, ⟨Str.ofString "crate", by decide +kernel⟩]
def fol : OkS := ⟨Str.ofString "folio", by decide +kernel⟩
def crt : OkS := ⟨Str.ofString "crate", by decide +kernel⟩
def atS (ns ms : List Int) (at_ : Nat) : Bool := decide (gN ns at_ = gN ms 0) && decide (sl ns at_ (at_ + ms.length) = ms)
def plc (ns ms : List Int) : Int := oI (fst? (atS ns ms) (min ns.length 1024))
def sp__sign_place (K : PySem.W.Frag) : Sp := fun vs H Q _ => ∃ (a b : Addr) (ns ms : List Int), vs = [.ref a, .ref b] ∧ (H a = some (.lst (List.map V.int ns))) ∧ (SqT K H b (List.map V.int ms)) ∧ (0 < ms.length) ∧ (ns.length ≤ 100000) ∧ (∀ H', Same H H' → Q (.int (plc ns ms)) H')
theorem ok__sign_place (T : Txt K mg) : FnOk P w K mg base CX0 2 T.f__sign_place T.fd__sign_place ["data", "sign"] (sp__sign_place K) := by
  refine T.F__sign_place.ok sc__sign_place (fun vs H Q E h => ?_) (fun cdv A outer s H vs Q E hr h => ?_)
  · obtain ⟨a, b, ns, ms, rfl, _⟩ := h
    rfl
  · obtain ⟨a, b, ns, ms, rfl, ha, hb, hm, hn, q⟩ := h
    refine ⟨_, (pss_cons (ps_for PassesOwn.never rfl (pi_range1 (by rfl) T.z_range (pa_cons (pe_callB (call_min2 rfl) (by rfl) T.z_min (by decide +kernel) (pa_cons (pe_callB call_lenH (by rfl) T.z_len PySem.boot_len (pa_cons (pv 0) pa_nil)) (pa_cons (pe_op op_add (pe_glob (v := .int 1023) (by rfl) T.c__LAST_SIGN_PLACE ⟨_, rfl⟩) pe_int) pa_nil))) pa_nil)) (pg_name (i := 2) sc__sign_place.nd rfl (Or.inl rfl)) (pss_one (ps_if (PW.pt (pw_and (pt_cmpR op_eq (pe_ix ix_listH (pv 0) (pv 2) (fun _ _ => rfl)) (pe_ix ix_tup (pv 1) pe_int (fun _ _ => rfl)) (nomark _)) (pw_and1 (pt_val (pe_call (ok_stands T) hr (by rfl) T.g_stands T.F_stands.kp T.b_stands .nil pass0 (pa_cons (pv 0) (pa_cons (pv 2) (pa_cons (pv 1) pa_nil)))))))) (pss_one (ps_ret (pv 2))) pss_nil)))
      (pss_one (ps_ret (pe_un un_neg pe_int)))), ?_⟩
    walk_at "vc ha"
    rw [show mn (ns.length : Int) 1024 = ((min ns.length 1024 : Nat) : Int) by unfold mn; split <;> omega, Int.toNat_natCast]
    have hN : min ns.length 1024 ≤ ns.length := Nat.min_le_left _ _
    unfold plc at q
    generalize min ns.length 1024 = N at hN q ⊢
    refine ⟨by omega, by omega, ?_⟩
    refine lpW (walkR (n := N)) (fun i σ H' => ∃ v2 : Option V, σ = [some (.ref a), some (.ref b), v2] ∧ Same H H' ∧ fst? (atS ns ms) i = none) ⟨_, rfl, Same.refl _, rfl⟩ (fun _ _ _ _ _ => True.intro) ?_ ?_
    · rintro i x σ H' H2 hi ⟨v2, rfl, sm, hno⟩ ⟨rfl, rfl⟩
      have ha1 := sm _ _ ha
      have hb1 := sm.seqT hb
      walk_at "vc ha1"
      refine ⟨_, at_g (show i < ns.length by omega), _, hb1, _, at_g hm, rfl, iteP (fun z => ?_) (fun z => ?_)⟩
      · refine ⟨a, b, ns, ms, i, rfl, ha1, hb1, fun H3 s3 => ⟨_, rfl, ?_⟩⟩
        refine iteB rfl (fun y => ?_) (fun y => ?_)
        · have := q H3 (sm.trans s3)
          rw [fst?_hit hi hno (by unfold atS; rw [decide_eq_true (V.int.inj z), decide_eq_true y]; rfl)] at this
          exact this
        · exact ⟨sm.trans s3, fst?_miss hno (by unfold atS; rw [decide_eq_false y, Bool.and_false])⟩
      · exact ⟨sm, fst?_miss hno (by unfold atS; rw [decide_eq_false (fun y => z (by rw [y])), Bool.false_and])⟩
    · rintro σ H' ⟨v2, rfl, sm, hno⟩
      walk_at "vc"
      rw [hno] at q
      exact q _ sm

/-- the last place -/
def lst? (p : Nat → Bool) : Nat → Option Nat
  | 0 => none
  | n + 1 => if p n then some n else lst? p n
theorem lst?_some {p : Nat → Bool} {i : Nat} : ∀ {n : Nat}, lst? p n = some i → i < n ∧ p i = true
  | 0, h => by cases h
  | n + 1, h => by
    rw [lst?] at h
    by_cases c : p n = true
    · rw [if_pos c] at h
      obtain rfl := Option.some.inj h
      exact ⟨Nat.lt_succ_self _, c⟩
    · rw [if_neg c] at h
      have := lst?_some h
      exact ⟨by omega, this.2⟩
theorem lst?_none {p : Nat → Bool} : ∀ {n : Nat}, lst? p n = none → ∀ i, i < n → p i = false
  | 0, _, i, hi => absurd hi (Nat.not_lt_zero _)
  | n + 1, h, i, hi => by
    rw [lst?] at h
    by_cases c : p n = true
    · rw [if_pos c] at h; cases h
    · rw [if_neg c] at h
      by_cases e : i = n
      · rw [e]; exact Bool.eq_false_iff.mpr c
      · exact lst?_none h i (by omega)
def ens : List Int := [67, 69, 78, 68]
def atE (ns : List Int) (at_ : Nat) : Bool := atS ns ens at_ && decide (lowF (sl ns (at_ + 6) (at_ + 10)) ≤ (at_ : Int))
def fen (ns : List Int) : Int := oI (lst? (atE ns) (ns.length - 9))
def sp_find_end (K : PySem.W.Frag) : Sp := fun vs H Q _ => ∃ (a : Addr) (ns : List Int), vs = [.ref a] ∧ (H a = some (.lst (List.map V.int ns))) ∧ (ns.length ≤ 100000) ∧ (∀ H', Same H H' → Q (.int (fen ns)) H')
theorem ok_find_end (T : Txt K mg) : FnOk P w K mg base CX0 2 T.f_find_end T.fd_find_end ["data"] (sp_find_end K) := by
  refine T.F_find_end.ok sc_find_end (fun vs H Q E h => ?_) (fun cdv A outer s H vs Q E hr h => ?_)
  · obtain ⟨a, ns, rfl, _⟩ := h
    rfl
  · obtain ⟨a, ns, rfl, ha, hn, q⟩ := h
    refine ⟨_, (pss_cons (ps_for PassesOwn.never rfl (pi_range3 (by rfl) T.z_range (pa_cons (pe_op op_sub (pe_callB call_lenH (by rfl) T.z_len PySem.boot_len (pa_cons (pv 0) pa_nil)) (pe_glob (v := .int 10) (by rfl) T.c_END_SIZE ⟨_, rfl⟩)) (pa_cons (pe_un un_neg pe_int) (pa_cons (pe_un un_neg pe_int) pa_nil)))) (pg_name (i := 1) sc_find_end.nd rfl (Or.inl rfl)) (pss_one (ps_if (PW.pt (pw_and (pt_cmpR op_eq (pe_ix ix_listH (pv 0) (pv 1) (fun _ _ => rfl)) (pe_ix ix_tup (pe_glob (v := .ref T.a_END_SIGN) (by rfl) T.c_END_SIGN rfl) pe_int (fun _ _ => rfl)) (nomark _)) (pw_and1 (pt_val (pe_call (ok_stands T) hr (by rfl) T.g_stands T.F_stands.kp T.b_stands .nil pass0 (pa_cons (pv 0) (pa_cons (pv 1) (pa_cons (pe_glob (v := .ref T.a_END_SIGN) (by rfl) T.c_END_SIGN rfl) pa_nil)))))))) (pss_one (ps_if (pt_cmpR op_le (pe_call (ok_read_low_first T) hr (by rfl) T.g_read_low_first T.F_read_low_first.kp T.b_read_low_first .nil pass0 (pa_cons (pe_slice sl_listS (pv 0) (po_some (pe_op op_add (pv 1) pe_int)) (po_some (pe_op op_add (pv 1) pe_int))) pa_nil)) (pv 1) (nomark _)) (pss_one (ps_ret (pv 1))) pss_nil)) pss_nil)))
      (pss_one (ps_ret (pe_un un_neg pe_int)))), ?_⟩
    walk_at "vc ha"
    refine ⟨_, RgC.neg (by omega) (by omega) (by omega) (by omega), ?_⟩
    rw [show ((ns.length : Int) - 10 - -1).toNat = ns.length - 9 by omega]
    unfold fen at q
    refine lpW (walk_rangeC (lo := (ns.length : Int) - 10) (c := -1) (n := ns.length - 9)) (fun i σ H' => ∃ v1 : Option V, σ = [some (.ref a), v1] ∧ Same H H' ∧ lst? (atE ns) (ns.length - 9) = lst? (atE ns) (ns.length - 9 - i)) ⟨_, rfl, Same.refl _, rfl⟩ (fun _ _ _ _ _ => True.intro) ?_ ?_
    · rintro i x σ H' H2 hi ⟨v1, rfl, sm, hno⟩ ⟨rfl, hx⟩
      have ha1 := sm _ _ ha
      have hE : ∀ H, SqT K H T.a_END_SIGN (List.map V.int ens) := T.q_END_SIGN
      obtain ⟨m, hm⟩ : ∃ m : Nat, ns.length - 9 - i = m + 1 := ⟨ns.length - 9 - i - 1, by omega⟩
      rw [hm] at hno
      obtain rfl : x = .int (m : Int) := by rw [hx]; show V.int _ = V.int _; congr 1; omega
      rw [show ns.length - 9 - (i + 1) = m by omega]
      rw [lst?] at hno
      walk_at "vc ha1"
      refine ⟨_, at_g (show m < ns.length by omega), _, hE _, _, at_g (ns := ens) (i := 0) (by decide), rfl, iteP (fun z => ?_) (fun z => ?_)⟩
      · refine ⟨a, _, ns, ens, m, rfl, ha1, hE _, fun H3 s3 => ?_⟩
        refine ⟨_, rfl, ?_⟩
        have ha3 := s3 _ _ ha1
        have e0 : gN ns m = gN ens 0 := V.int.inj z
        refine iteB rfl (fun y => ?_) (fun y => ?_)
        · walk_at "vc ha3"
          intro p4 H4 s4 n4 g4
          rw [show (m : Int) + 6 = ((m + 6 : Nat) : Int) by omega, show (m : Int) + 10 = ((m + 10 : Nat) : Int) by omega, cut_sl] at g4
          refine ⟨p4, _, rfl, g4, _, rfl, iteP (fun x => ?_) (fun x => ?_)⟩
          · have := q H4 (sm.trans (s3.trans s4))
            rw [hno, if_pos (by unfold atE atS; rw [decide_eq_true e0, decide_eq_true y, decide_eq_true x]; rfl)] at this
            exact this
          · refine ⟨sm.trans (s3.trans s4), ?_⟩
            rw [hno, if_neg (by unfold atE atS; rw [decide_eq_false x, Bool.and_false]; decide)]
        · refine ⟨sm.trans s3, ?_⟩
          rw [hno, if_neg (by unfold atE atS; rw [decide_eq_false y, Bool.and_false, Bool.false_and]; decide)]
      · refine ⟨sm, ?_⟩
        rw [hno, if_neg (by unfold atE atS; rw [decide_eq_false (fun y => z (by rw [y])), Bool.false_and, Bool.false_and]; decide)]
    · rintro σ H' ⟨v1, rfl, sm, hno⟩
      walk_at "vc"
      rw [hno, Nat.sub_self] at q
      exact q _ sm

def kidx (ns : List Int) (k : Nat) : Bool := decide (ns.take (sgs.getD k []).length = sgs.getD k [])
def kds4 (ns : List Int) (n : Nat) : List OkS := ((List.range n).filter (kidx ns)).map fun k => kds.getD k fol
def hasE (ns : List Int) : Bool := decide (0 ≤ fen ns)
def frl : List Int := [37, 70, 79, 76]
def hdr : List Int := [67, 82, 84, 49]
def pkinds (ns : List Int) : List OkS := kds4 ns 4 ++ (if 0 ≤ plc ns frl then [fol] else []) ++ (if 0 ≤ plc ns hdr ∨ 0 ≤ fen ns then [crt] else [])
def sp_possible_kinds (K : PySem.W.Frag) : Sp := fun vs H Q _ => ∃ (a : Addr) (ns : List Int), vs = [.ref a] ∧ (H a = some (.lst (List.map V.int ns))) ∧ (ns.length ≤ 100000) ∧ (∀ H' p, Same H H' → H p = none → H' p = some (.lst (List.map vS (pkinds ns))) → Q (.ref p) H')
theorem ok_possible_kinds (T : Txt K mg) : FnOk P w K mg base CX0 3 T.f_possible_kinds T.fd_possible_kinds ["data"] (sp_possible_kinds K) := by
  refine T.F_possible_kinds.ok sc_possible_kinds (fun vs H Q E h => ?_) (fun cdv A outer s H vs Q E hr h => ?_)
  · obtain ⟨a, ns, rfl, _⟩ := h
    rfl
  · obtain ⟨a, ns, rfl, ha, hn, q⟩ := h
    refine ⟨_, (pss_cons (ps_set (i := 1) sc_possible_kinds.nd rfl (Or.inl rfl) (pe_tupS (pa_cons (pe_glob (v := .ref T.a_STILL_SIGN) (by rfl) T.c_STILL_SIGN rfl) (pa_cons (pe_glob (v := .ref T.a_PICTURE_SIGN) (by rfl) T.c_PICTURE_SIGN rfl) (pa_cons (pe_glob (v := .ref T.a_FILM_SIGN) (by rfl) T.c_FILM_SIGN rfl) (pa_cons (pe_glob (v := .ref T.a_SHEET_SIGN) (by rfl) T.c_SHEET_SIGN rfl) pa_nil))))))
      (pss_cons (ps_setLc (i := 2) (own := [("kind", 3), ("sign", 4)]) (g := _) rfl sc_possible_kinds.nd rfl rfl (sw_true rfl rfl rfl (by decide +kernel)) (pi_zipTS (by rfl) T.z_zip (pa_cons (pe_glob (v := .ref T.a_KINDS) (by rfl) T.c_KINDS rfl) (pa_cons (pv 1) pa_nil))) (blkOk_by (own := [("kind", 3), ("sign", 4)]) (N := ["data", "signs", "found", "kind", "sign"]) (sc := defScope s_possible_kinds) (by decide +kernel)) (fun _ _ _ _ _ => (pg_tupS (n := 2) (by rfl) (pgs_cons (pg_name (i := 3) sc_possible_kinds.nd rfl (Or.inl rfl)) (pgs_cons (pg_name (i := 4) sc_possible_kinds.nd rfl (Or.inl rfl)) pgs_nil)))) (fun _ _ _ _ _ => (pts_one (pt_val (pe_call (ok_stands T) (hr.mono (by decide)) (by rfl) T.g_stands T.F_stands.kp T.b_stands .nil pass0 (pa_cons (pv 0) (pa_cons pe_int (pa_cons (pv 4) pa_nil))))))) (fun _ _ _ _ _ => (pv 3)))
      (pss_cons (ps_if (pt_cmpR op_ge (pe_call (ok__sign_place T) hr (by rfl) T.g__sign_place T.F__sign_place.kp T.b__sign_place .nil pass0 (pa_cons (pv 0) (pa_cons (pe_glob (v := .ref T.a_FOLIO_SIGN) (by rfl) T.c_FOLIO_SIGN rfl) pa_nil))) pe_int (nomark _)) (pss_one (ps_expr (pe_ml (pe_bm PySem.F.plainAttrs_list PySem.F.slot_list_append PySem.F.type_list_append mt_append (pe_mono (pv 2)) (pa_cons pe_str pa_nil))))) pss_nil)
      (pss_cons (ps_if (PW.pt (pw_or (pt_cmpR op_ge (pe_call (ok__sign_place T) hr (by rfl) T.g__sign_place T.F__sign_place.kp T.b__sign_place .nil pass0 (pa_cons (pv 0) (pa_cons (pe_glob (v := .ref T.a_HEAD_SIGN) (by rfl) T.c_HEAD_SIGN rfl) pa_nil))) pe_int (nomark _)) (pw_or1 (pt_cmpR op_ge (pe_call (ok_find_end T) hr (by rfl) T.g_find_end T.F_find_end.kp T.b_find_end .nil pass0 (pa_cons (pv 0) pa_nil)) pe_int (nomark _))))) (pss_one (ps_expr (pe_ml (pe_bm PySem.F.plainAttrs_list PySem.F.slot_list_append PySem.F.type_list_append mt_append (pe_mono (pv 2)) (pa_cons pe_str pa_nil))))) pss_nil)
      (pss_one (ps_ret (pv 2))))))), ?_⟩
    have q1 : ∀ (k : Nat), sgs[k]? = some (sgs.getD k []) ∨ 4 ≤ k := by
      intro k
      by_cases h : k < 4
      · exact .inl (by rw [List.getD_eq_getElem?_getD, List.getElem?_eq_getElem (show k < sgs.length from h)]; rfl)
      · exact .inr (by omega)
    walk_at "vc ha"
    intro p1 H1 s1 n1 g1
    have hS : ∀ (k : Nat) (y : V), [V.ref T.a_STILL_SIGN, V.ref T.a_PICTURE_SIGN, V.ref T.a_FILM_SIGN, V.ref T.a_SHEET_SIGN][k]? = some y → ∃ b : Addr, y = .ref b ∧ ∀ H, SqT K H b (List.map V.int (sgs.getD k [])) := by
      intro k y hy
      match k, hy with
      | 0, hy => obtain rfl := Option.some.inj hy; exact ⟨_, rfl, T.q_STILL_SIGN⟩
      | 1, hy => obtain rfl := Option.some.inj hy; exact ⟨_, rfl, T.q_PICTURE_SIGN⟩
      | 2, hy => obtain rfl := Option.some.inj hy; exact ⟨_, rfl, T.q_FILM_SIGN⟩
      | 3, hy => obtain rfl := Option.some.inj hy; exact ⟨_, rfl, T.q_SHEET_SIGN⟩
      | (k + 4), hy => simp at hy
    have hK : ∀ (k : Nat) (y : V), [V.str "still", V.str "picture", V.str "film", V.str "sheet", V.str "folio", V.str "crate"][k]? = some y → k < 4 → y = vS (kds.getD k fol) := by
      intro k y hy h4
      match k, hy, h4 with
      | 0, hy, _ => obtain rfl := Option.some.inj hy; rfl
      | 1, hy, _ => obtain rfl := Option.some.inj hy; rfl
      | 2, hy, _ => obtain rfl := Option.some.inj hy; rfl
      | 3, hy, _ => obtain rfl := Option.some.inj hy; rfl
      | (k + 4), hy, h => omega
    have hl4 : [V.ref T.a_STILL_SIGN, V.ref T.a_PICTURE_SIGN, V.ref T.a_FILM_SIGN, V.ref T.a_SHEET_SIGN].length = 4 := rfl
    generalize [V.ref T.a_STILL_SIGN, V.ref T.a_PICTURE_SIGN, V.ref T.a_FILM_SIGN, V.ref T.a_SHEET_SIGN] = sr at g1 hS hl4
    have hl6 : [V.str "still", V.str "picture", V.str "film", V.str "sheet", V.str "folio", V.str "crate"].length = 6 := rfl
    have gK := T.q_KINDS
    generalize [V.str "still", V.str "picture", V.str "film", V.str "sheet", V.str "folio", V.str "crate"] = kr at gK hK hl6
    refine ⟨⟨_, gK _⟩, ⟨_, .of g1⟩, ?_⟩
    refine lcL (walkZT (xs := kr) (ys := sr) (n := 4) (by rw [hl4, hl6]; rfl)) (L := fun i => List.map vS (kds4 ns i)) rfl (fun H s => ⟨gK _, .of (s _ _ g1)⟩) (fun D k x H2 H3 hk hD s2 g2 y => ?_) (fun pL H2 s2 n2 g2 => ?_)
    · obtain ⟨t, x1, x2, rfl, nt, rfl, hx1, hx2⟩ := y
      obtain ⟨b, rfl, hb⟩ := hS k x2 hx2
      obtain rfl := hK k x1 hx1 hk
      have gt : upd H2 t (.tup [vS (kds.getD k fol), .ref b]) t = some (.tup [vS (kds.getD k fol), .ref b]) := upd_same
      have s3 : Same H2 (upd H2 t (.tup [vS (kds.getD k fol), .ref b])) := same_upd nt
      have gD := s3 _ _ g2
      generalize upd H2 t (.tup [vS (kds.getD k fol), .ref b]) = H3 at gt s3 gD ⊢
      walk_at "vc gt"
      refine ⟨a, b, ns, _, 0, rfl, (s1.trans (s2.trans s3)) _ _ ha, hb _, fun H4 s4 => ⟨_, rfl, ?_⟩⟩
      have gD4 := s4 _ _ gD
      have sl0 : sl ns 0 (0 + (sgs.getD k []).length) = ns.take (sgs.getD k []).length := by unfold sl; rw [List.drop_zero, Nat.zero_add, Nat.sub_zero]
      have e2 : kds4 ns (k + 1) = kds4 ns k ++ if kidx ns k = true then [kds.getD k fol] else [] := by
        unfold kds4
        rw [List.range_succ, List.filter_append, List.map_append, List.filter_cons]
        split <;> rfl
      have hlen : (kds4 ns k).length ≤ k := by
        unfold kds4
        rw [List.length_map]
        exact Nat.le_trans (List.length_filter_le _ _) (by rw [List.length_range]; exact Nat.le_refl _)
      rw [e2]
      refine iteB (p := kidx ns k = true) (by rw [sl0]; unfold kidx; simp) (fun y => ?_) (fun y => ?_)
      · rw [if_pos y]
        refine ⟨_, gD4, by rw [List.length_map]; exact cnt_lt (by omega), same_upd2 (s2.trans (s3.trans s4)) hD, ?_⟩
        rw [List.map_append]
        rfl
      · rw [if_neg y, List.append_nil]
        exact ⟨s2.trans (s3.trans s4), gD4⟩
    · have hln : (kds4 ns 4).length ≤ 4 := by
        unfold kds4
        rw [List.length_map]
        exact Nat.le_trans (List.length_filter_le _ _) (by rw [List.length_range]; exact Nat.le_refl _)
      unfold pkinds at q
      generalize kds4 ns 4 = L4 at g2 hln q
      have ha2 := (s1.trans s2) _ _ ha
      have nL : H pL = none := s1.free n2
      refine ⟨a, _, ns, frl, rfl, ha2, T.q_FOLIO_SIGN _, by decide, hn, fun H3 s3 => ⟨_, rfl, ?_⟩⟩
      have hrest : ∀ (L : List OkS) (H4 : Hp), Same H H4 → H4 pL = some (.lst (List.map vS L)) → L.length ≤ 100 → (∀ H' p, Same H H' → H p = none → H' p = some (.lst (List.map vS (L ++ (if 0 ≤ plc ns hdr ∨ 0 ≤ fen ns then [crt] else [])))) → Q (.ref p) H') →
          sp__sign_place K [V.ref a, V.ref T.a_HEAD_SIGN] H4 (fun x_3 H1 => ∃ i, x_3 = V.int i ∧ if 0 ≤ i then ∃ p, V.ref pL = V.ref p ∧ (∃ x, H1 p = some (HO.lst x)) ∧ ∃ l, V.ref pL = V.ref l ∧ ∃ x_4, H1 l = some (HO.lst x_4) ∧ x_4.length < sizeLine ∧ Q (.ref pL) (upd H1 l (HO.lst (x_4 ++ [V.str (Str.ofString "crate")])))
            else sp_find_end K [V.ref a] H1 (fun x_4 H1 => ∃ i, x_4 = V.int i ∧ if 0 ≤ i then ∃ p, V.ref pL = V.ref p ∧ (∃ x, H1 p = some (HO.lst x)) ∧ ∃ l, V.ref pL = V.ref l ∧ ∃ x_5, H1 l = some (HO.lst x_5) ∧ x_5.length < sizeLine ∧ Q (.ref pL) (upd H1 l (HO.lst (x_5 ++ [V.str (Str.ofString "crate")]))) else Q (.ref pL) H1) E0) E0 := by
        intro L H4 s4 g4 hL qq
        have gA := fun (H5 : Hp) (s5 : Same H4 H5) => s5 _ _ g4
        have hz : (List.map vS L).length < sizeLine := by rw [List.length_map]; exact cnt_lt (by omega)
        have mk : ∀ H5, Same H4 H5 → (0 ≤ plc ns hdr ∨ 0 ≤ fen ns) → Q (.ref pL) (upd H5 pL (.lst (List.map vS L ++ [V.str (Str.ofString "crate")]))) := fun H5 s5 h => qq _ pL (same_upd2 (s4.trans s5) nL) nL (by rw [if_pos h, upd_same, List.map_append]; rfl)
        refine ⟨a, _, ns, hdr, rfl, s4 _ _ ha, T.q_HEAD_SIGN _, by decide, hn, fun H5 s5 => ⟨_, rfl, iteP (fun z => ?_) (fun z => ?_)⟩⟩
        · exact ⟨pL, rfl, ⟨_, gA _ s5⟩, pL, rfl, _, gA _ s5, hz, mk H5 s5 (.inl z)⟩
        · refine ⟨a, ns, rfl, (s4.trans s5) _ _ ha, hn, fun H6 s6 => ⟨_, rfl, iteP (fun y => ?_) (fun y => ?_)⟩⟩
          · exact ⟨pL, rfl, ⟨_, gA _ (s5.trans s6)⟩, pL, rfl, _, gA _ (s5.trans s6), hz, mk H6 (s5.trans s6) (.inr y)⟩
          · refine qq H6 pL (s4.trans (s5.trans s6)) nL ?_
            rw [if_neg (by rintro (h | h); exact z h; exact y h), List.append_nil]
            exact gA _ (s5.trans s6)
      have s03 := s1.trans (s2.trans s3)
      have g3 := s3 _ _ g2
      refine iteP (fun z => ?_) (fun z => ?_)
      · rw [if_pos z] at q
        refine ⟨pL, rfl, ⟨_, g3⟩, pL, rfl, _, g3, by rw [List.length_map]; exact cnt_lt (by omega), ?_⟩
        exact hrest (L4 ++ [fol]) _ (same_upd2 s03 nL) (by rw [upd_same, List.map_append]; rfl) (by rw [List.length_append]; show _ + 1 ≤ _; omega) q
      · rw [if_neg z, List.append_nil] at q
        exact hrest L4 _ s03 g3 (by omega) q
def emp : OkS := ⟨Str.ofString "", by decide +kernel⟩
def knd (ns : List Int) : OkS := if pkinds ns = [fol, crt] ∧ 0 ≤ plc ns hdr ∧ plc ns hdr < plc ns frl then crt else (pkinds ns).headD emp
def sp_kind_of (K : PySem.W.Frag) : Sp := fun vs H Q _ => ∃ (a : Addr) (ns : List Int), vs = [.ref a] ∧ (H a = some (.lst (List.map V.int ns))) ∧ (ns.length ≤ 100000) ∧ (∀ H', Same H H' → Q (vS (knd ns)) H')
theorem ok_kind_of (T : Txt K mg) : FnOk P w K mg base CX0 4 T.f_kind_of T.fd_kind_of ["data"] (sp_kind_of K) := by
  refine T.F_kind_of.ok sc_kind_of (fun vs H Q E h => ?_) (fun cdv A outer s H vs Q E hr h => ?_)
  · obtain ⟨a, ns, rfl, _⟩ := h
    rfl
  · obtain ⟨a, ns, rfl, ha, hn, q⟩ := h
    refine ⟨_, (pss_cons (ps_set (i := 1) sc_kind_of.nd rfl (Or.inl rfl) (pe_call (ok_possible_kinds T) hr (by rfl) T.g_possible_kinds T.F_possible_kinds.kp T.b_possible_kinds .nil pass0 (pa_cons (pv 0) pa_nil)))
      (pss_cons (ps_if (PW.pt (pw_and (pt_cmpR (op_eqC hr.units (cod_lst cod_str) (by decide)) (pv 1) (pe_lstS (pa_cons pe_str (pa_cons pe_str pa_nil))) (nomark _)) (pw_and1 (pt_chain op_le op_lt pe_int (pe_call (ok__sign_place T) (hr.mono (by decide)) (by rfl) T.g__sign_place T.F__sign_place.kp T.b__sign_place .nil pass0 (pa_cons (pv 0) (pa_cons (pe_glob (v := .ref T.a_HEAD_SIGN) (by rfl) T.c_HEAD_SIGN rfl) pa_nil))) (pe_call (ok__sign_place T) (hr.mono (by decide)) (by rfl) T.g__sign_place T.F__sign_place.kp T.b__sign_place .nil pass0 (pa_cons (pv 0) (pa_cons (pe_glob (v := .ref T.a_FOLIO_SIGN) (by rfl) T.c_FOLIO_SIGN rfl) pa_nil))))))) (pss_one (ps_ret pe_str)) pss_nil)
      (pss_one (ps_ret (pe_ifExp (pt_truthL (pv 1) (by intro _; rfl)) (pe_ix ix_listH (pv 1) pe_int (fun _ _ => rfl)) pe_str))))), ?_⟩
    walk_at "vc"
    refine ⟨a, ns, rfl, ha, hn, fun H1 p1 s1 n1 g1 => ?_⟩
    walk_at "vc"
    intro p2 H2 s2 n2 g2
    have g12 := s2 _ _ g1
    have ha2 := (s1.trans s2) _ _ ha
    have g2' : H2 p2 = some (.lst (List.map vS [fol, crt])) := g2
    refine ⟨_, strL g12, _, strL g2', ?_⟩
    have tl : ∀ H3, Same H H3 → H3 p1 = some (.lst (List.map vS (pkinds ns))) → ¬ (pkinds ns = [fol, crt] ∧ 0 ≤ plc ns hdr ∧ plc ns hdr < plc ns frl) → Q (vS ((pkinds ns).headD emp)) H3 := fun H3 s3 _ h => by
      have := q H3 s3
      unfold knd at this
      rw [if_neg h] at this
      exact this
    have t0 : ∀ H3, H3 p1 = some (.lst (List.map vS (pkinds ns))) → Q (vS ((pkinds ns).headD emp)) H3 → ∃ x, H3 p1 = some (HO.lst x) ∧ if 0 < x.length then ∃ x, H3 p1 = some (HO.lst x) ∧ ∃ x_1, atI x 0 = some x_1 ∧ Q x_1 H3 else Q (V.str (Str.ofString "")) H3 := by
      intro H3 g3 h
      refine ⟨_, g3, ?_⟩
      cases e : pkinds ns with
      | nil => rw [e] at h; exact iteP (fun z => absurd z (by decide)) fun _ => h
      | cons k r =>
        rw [e] at h g3
        exact iteP (fun _ => ⟨_, g3, _, atI_c0 _ _, h⟩) fun z => absurd (Nat.succ_pos _) z
    have s02 := s1.trans s2
    refine iteP (fun e1 => ?_) (fun e1 => t0 _ g12 (tl _ s02 g12 fun h => e1 h.1))
    refine ⟨a, _, ns, hdr, rfl, ha2, T.q_HEAD_SIGN _, by decide, hn, fun H3 s3 => ⟨_, rfl, ?_⟩⟩
    refine iteP (fun e2 => ?_) (fun e2 => t0 _ (s3 _ _ g12) (tl _ (s02.trans s3) (s3 _ _ g12) fun h => e2 h.2.1))
    refine ⟨a, _, ns, frl, rfl, s3 _ _ ha2, T.q_FOLIO_SIGN _, by decide, hn, fun H4 s4 => ⟨_, rfl, _, rfl, ?_⟩⟩
    have s34 := s3.trans s4
    refine iteP (fun e3 => ?_) (fun e3 => t0 _ (s34 _ _ g12) (tl _ (s02.trans s34) (s34 _ _ g12) fun h => e3 h.2.2))
    have := q H4 (s02.trans s34)
    unfold knd at this
    rw [if_pos ⟨e1, e2, e3⟩] at this
    exact this

def sp__law_cell (K : PySem.W.Frag) (a : Addr) (ns : List Int) : Sp := fun vs H Q _ => ∃ (k : Int), vs = [.ref a, .int k] ∧ (0 ≤ k) ∧ (SqL K H a (List.map V.int ns)) ∧ (Q (.int (cellA ns k.toNat)) H)
theorem ok__law_cell (T : Txt K mg) (a : Addr) (ns : List Int) : FnOk P w K mg base CX0 1 T.f__law_cell T.fd__law_cell ["script", "k"] (sp__law_cell K a ns) := by
  refine T.F__law_cell.ok sc__law_cell (fun vs H Q E h => ?_) (fun cdv A outer s H vs Q E hr h => ?_)
  · obtain ⟨k, rfl, _⟩ := h
    rfl
  · obtain ⟨k, rfl, hk0, hS, q⟩ := h
    refine ⟨_, (pss_cons (ps_if (pt_cmpR op_lt (pv 1) (pe_callB call_len_seq (by rfl) T.z_len PySem.boot_len (pa_cons (pv 0) pa_nil)) (nomark _)) (pss_one (ps_ret (pe_callTy call_int1 (by rfl) T.z_int (by decide +kernel) (pa_cons (pe_ix ix_list (pv 0) (pv 1) (fun _ _ => rfl)) pa_nil)))) pss_nil)
      (pss_one (ps_ret pe_int))), ?_⟩
    obtain ⟨k, rfl⟩ := natOf hk0
    rw [Int.toNat_natCast] at q
    refine ⟨_, rfl, _, rfl, a, _, rfl, .inl hS, _, _, rfl, rfl, _, rfl, ite2 (fun e => ?_) (fun e => ?_)⟩
    · have e1 := of_decide_eq_true e
      rw [List.length_map] at e1
      have hk : k < ns.length := by omega
      refine ⟨_, rfl, _, rfl, a, _, _, .int (cellA ns k), rfl, rfl, hS, ?_, .inl ⟨_, rfl, q⟩⟩
      refine atI_nat ?_
      rw [List.getElem?_map, List.getElem?_eq_getElem hk]
      simp [cellA, hk]
    · have e1 : ¬ ((k : Int) < ((ns.map V.int).length : Int)) := fun z => e (decide_eq_true z)
      rw [List.length_map] at e1
      have hk : ns.length ≤ k := by omega
      have e0 : cellA ns k = 0 := by simp [cellA, hk]
      rw [e0] at q
      exact q

/-! ### rows of the law: any list of so many ints -/
def sp__law_row (K : PySem.W.Frag) : Sp := fun vs H Q _ => ∃ (c : Int) (n : Nat), vs = [.int c, .int (n : Int)] ∧ (n ≤ 100000) ∧ (∀ H' p ns, Same H H' → H p = none → H' p = some (.lst (List.map V.int ns)) → ns.length = n → Q (.ref p) H')
theorem ok__law_row (T : Txt K mg) : FnOk P w K mg base CX0 1 T.f__law_row T.fd__law_row ["cell", "count"] (sp__law_row K) := by
  refine T.F__law_row.ok sc__law_row (fun vs H Q E h => ?_) (fun cdv A outer s H vs Q E hr h => ?_)
  · obtain ⟨c, n, rfl, _⟩ := h
    rfl
  · obtain ⟨c, n, rfl, hn, q⟩ := h
    refine ⟨_, (pss_cons (ps_set (i := 2) sc__law_row.nd rfl (Or.inl rfl) (pe_lstS pa_nil))
      (pss_cons (ps_set (i := 3) sc__law_row.nd rfl (Or.inl rfl) (pe_callB call_abs (by rfl) T.z_abs (by decide +kernel) (pa_cons (pv 0) pa_nil)))
      (pss_cons (ps_if (pt_cmpR op_ge (pv 3) (pe_op op_pow pe_int pe_int) (nomark _)) (pss_cons (ps_for PassesOwn.never rfl (pi_range1 (by rfl) T.z_range (pa_cons (pv 1) pa_nil)) (pg_name (i := 4) sc__law_row.nd rfl (Or.inl rfl)) (pss_cons (ps_expr (pe_ml (pe_bm PySem.F.plainAttrs_list PySem.F.slot_list_append PySem.F.type_list_append mt_append (pe_mono (pv 2)) (pa_cons (pe_op op_and (pv 3) pe_int) pa_nil))))
      (pss_one (ps_set (i := 3) sc__law_row.nd rfl (Or.inl rfl) (pe_op op_shr (pv 3) pe_int)))))
      (pss_one (ps_ret (pv 2)))) pss_nil)
      (pss_cons (ps_set (i := 5) sc__law_row.nd rfl (Or.inl rfl) (pe_op op_add (pe_op op_mod (pe_callTy call_int1 (by rfl) T.z_int (by decide +kernel) (pa_cons (pv 3) pa_nil)) pe_int) pe_int))
      (pss_cons (ps_for PassesOwn.never rfl (pi_range1 (by rfl) T.z_range (pa_cons (pv 1) pa_nil)) (pg_name (i := 4) sc__law_row.nd rfl (Or.inl rfl)) (pss_cons (ps_set (i := 5) sc__law_row.nd rfl (Or.inl rfl) (pe_op op_mod (pe_callTy call_int1 (by rfl) T.z_int (by decide +kernel) (pa_cons (pe_op op_mul (pv 5) pe_int) pa_nil)) pe_int))
      (pss_one (ps_expr (pe_ml (pe_bm PySem.F.plainAttrs_list PySem.F.slot_list_append PySem.F.type_list_append mt_append (pe_mono (pv 2)) (pa_cons (pe_op op_and (pe_op op_add (pe_op op_fdiv (pv 5) pe_int) (pv 5)) pe_int) pa_nil)))))))
      (pss_one (ps_ret (pv 2)))))))), ?_⟩
    walk_at "vc"
    intro p0 H1 s1 n1 g1
    refine ⟨⟨by decide, by decide, by decide⟩, ?_⟩
    have fin : ∀ H' l, Same H H' → H' p0 = some (.lst (List.map V.int l)) → l.length = n → Q (.ref p0) H' := fun H' l s g h => q H' p0 l s n1 g h
    refine iteP (fun z => ?_) (fun z => ?_)
    · refine ⟨by omega, by omega, lpW (walkR (n := n)) (fun i σ H' => ∃ (x : Int) (v4 v5 : Option V) (l : List Int), σ = [some (.int c), some (.int (n : Int)), some (.ref p0), some (.int x), v4, v5] ∧ Same H H' ∧ H' p0 = some (.lst (List.map V.int l)) ∧ l.length = i) ⟨_, _, _, [], rfl, s1, g1, rfl⟩ (fun _ _ _ _ _ => True.intro) ?_ ?_⟩
      · rintro i x σ H' H2 hi ⟨y, v4, v5, l, rfl, sm, g, hl⟩ ⟨rfl, rfl⟩
        walk_at "vc g"
        exact ⟨cnt_lt (by omega), same_upd2 sm n1, by rw [hl]⟩
      · rintro σ H' ⟨y, v4, v5, l, rfl, sm, g, hl⟩
        walk_at "vc"
        exact fin H' l sm g hl
    · refine ⟨by omega, by omega, lpW (walkR (n := n)) (fun i σ H' => ∃ (x : Int) (v4 : Option V) (y : Int) (l : List Int), σ = [some (.int c), some (.int (n : Int)), some (.ref p0), some (.int x), v4, some (.int y)] ∧ Same H H' ∧ H' p0 = some (.lst (List.map V.int l)) ∧ l.length = i) ⟨_, _, _, [], rfl, s1, g1, rfl⟩ (fun _ _ _ _ _ => True.intro) ?_ ?_⟩
      · rintro i x σ H' H2 hi ⟨y, v4, v5, l, rfl, sm, g, hl⟩ ⟨rfl, rfl⟩
        walk_at "vc g"
        exact ⟨cnt_lt (by omega), same_upd2 sm n1, by rw [hl]⟩
      · rintro σ H' ⟨y, v4, v5, l, rfl, sm, g, hl⟩
        walk_at "vc"
        exact fin H' l sm g hl

def sp__law_low (K : PySem.W.Frag) : Sp := fun vs H Q _ => ∃ (c : Int) (n : Nat), vs = [.int c, .int (n : Int)] ∧ (n ≤ 100000) ∧ (∀ H' p ns, Same H H' → H p = none → H' p = some (.lst (List.map V.int ns)) → ns.length = n → Q (.ref p) H')
theorem ok__law_low (T : Txt K mg) : FnOk P w K mg base CX0 1 T.f__law_low T.fd__law_low ["number", "size"] (sp__law_low K) := by
  refine T.F__law_low.ok sc__law_low (fun vs H Q E h => ?_) (fun cdv A outer s H vs Q E hr h => ?_)
  · obtain ⟨c, n, rfl, _⟩ := h
    rfl
  · obtain ⟨c, n, rfl, hn, q⟩ := h
    refine ⟨_, (pss_cons (ps_set (i := 2) sc__law_low.nd rfl (Or.inl rfl) (pe_lstS pa_nil))
      (pss_cons (ps_for PassesOwn.never rfl (pi_range1 (by rfl) T.z_range (pa_cons (pv 1) pa_nil)) (pg_name (i := 3) sc__law_low.nd rfl (Or.inl rfl)) (pss_cons (ps_expr (pe_ml (pe_bm PySem.F.plainAttrs_list PySem.F.slot_list_append PySem.F.type_list_append mt_append (pe_mono (pv 2)) (pa_cons (pe_op op_and (pv 0) pe_int) pa_nil))))
      (pss_one (ps_set (i := 0) sc__law_low.nd rfl (Or.inl rfl) (pe_op op_shr (pv 0) pe_int)))))
      (pss_one (ps_ret (pv 2))))), ?_⟩
    walk_at "vc"
    intro p0 H1 s1 n1 g1
    refine ⟨by omega, by omega, lpW (walkR (n := n)) (fun i σ H' => ∃ (x : Int) (v3 : Option V) (l : List Int), σ = [some (.int x), some (.int (n : Int)), some (.ref p0), v3] ∧ Same H H' ∧ H' p0 = some (.lst (List.map V.int l)) ∧ l.length = i) ⟨_, _, [], rfl, s1, g1, rfl⟩ (fun _ _ _ _ _ => True.intro) ?_ ?_⟩
    · rintro i x σ H' H2 hi ⟨y, v3, l, rfl, sm, g, hl⟩ ⟨rfl, rfl⟩
      walk_at "vc g"
      exact ⟨cnt_lt (by omega), same_upd2 sm n1, by rw [hl]⟩
    · rintro σ H' ⟨y, v3, l, rfl, sm, g, hl⟩
      walk_at "vc"
      exact q H' p0 l sm n1 g hl

def sp__law_number (K : PySem.W.Frag) : Sp := fun vs H Q _ => ∃ (a : Addr) (ns : List Int), vs = [.ref a] ∧ (H a = some (.lst (List.map V.int ns))) ∧ (Q (.int (lowF ns)) H)
theorem ok__law_number (T : Txt K mg) : FnOk P w K mg base CX0 1 T.f__law_number T.fd__law_number ["row"] (sp__law_number K) := by
  refine T.F__law_number.ok sc__law_number (fun vs H Q E h => ?_) (fun cdv A outer s H vs Q E hr h => ?_)
  · obtain ⟨a, ns, rfl, _⟩ := h
    rfl
  · obtain ⟨a, ns, rfl, ha, q⟩ := h
    refine ⟨_, (pss_cons (ps_set (i := 1) sc__law_number.nd rfl (Or.inl rfl) pe_int)
      (pss_cons (ps_for PassesOwn.never rfl (pi_revS (by rfl) T.z_reversed (pa_cons (pv 0) pa_nil)) (pg_name (i := 2) sc__law_number.nd rfl (Or.inl rfl)) (pss_one (ps_set (i := 1) sc__law_number.nd rfl (Or.inl rfl) (pe_op op_add (pe_op op_mul pe_int (pv 1)) (pv 2)))))
      (pss_one (ps_ret (pv 1))))), ?_⟩
    walk_at "vc ha"
    refine lpW (walkVI (ns := ns)) (fun i σ H' => ∃ v2 : Option V, σ = [some (.ref a), some (.int ((ns.reverse.take i).foldl (fun n b => n * 256 + b) 0)), v2] ∧ H' = H) ⟨_, rfl, rfl⟩ ?_ ?_ ?_
    · rintro i σ H' _ ⟨_, _, rfl⟩
      exact ha
    · rintro i x σ H' H2 hi ⟨v2, rfl, rfl⟩ ⟨rfl, b, hb, rfl⟩
      rw [foldl_take _ _ hb, Int.mul_comm]
      walk_at "vc"
    · rintro σ H' ⟨v2, rfl, rfl⟩
      rw [show ns.length = ns.reverse.length by rw [List.length_reverse], List.take_length]
      walk_at "vc"
      exact q

def sp__law_codes (K : PySem.W.Frag) : Sp := fun vs H Q _ => ∃ (z : Str), vs = [.str z] ∧ (z.cps.size ≤ 1000) ∧ (∀ H' p, Same H H' → H p = none → H' p = some (.lst (List.map V.int (cds z))) → Q (.ref p) H')
theorem ok__law_codes (T : Txt K mg) : FnOk P w K mg base CX0 1 T.f__law_codes T.fd__law_codes ["text"] (sp__law_codes K) := by
  refine T.F__law_codes.ok sc__law_codes (fun vs H Q E h => ?_) (fun cdv A outer s H vs Q E hr h => ?_)
  · obtain ⟨z, rfl, _⟩ := h
    rfl
  · obtain ⟨z, rfl, hz, q⟩ := h
    refine ⟨_, (pss_one (ps_ret (pe_lc (own := [("sign", 1)]) (g := (gName 1)) rfl sc__law_codes.nd (pi_str (pv 0)) (blkOk_by (own := [("sign", 1)]) (N := ["text", "sign"]) (sc := defScope s__law_codes) (by decide +kernel)) (fun _ _ _ _ _ => (pg_name (i := 1) sc__law_codes.nd rfl (Or.inl rfl))) (fun _ _ _ _ _ => pts_nil) (fun _ _ _ _ _ => (pe_callB call_ord (by rfl) T.z_ord (by decide +kernel) (pa_cons (pv 1) pa_nil)))))), ?_⟩
    walk_at "vc"
    refine lcL (walk_str (z := z)) (L := fun i => List.map V.int ((cds z).take i)) rfl (fun _ _ => True.intro) (fun D i x H1 H2 hi hD s1 g1 y => ?_) (fun pL H1 s1 n1 g1 => ?_)
    · obtain ⟨rfl, c, hc, rfl⟩ := y
      walk_at "vc g1"
      refine ⟨rfl, cnt_lt (by rw [List.length_take]; omega), same_upd2 s1 hD, ?_⟩
      rw [take_succ (cds_at hc)]
      rfl
    · rw [← cds_len, List.take_length] at g1
      exact q H1 pL s1 n1 g1


def sp__law_starts (K : PySem.W.Frag) : Sp := fun vs H Q _ => vs = [] ∧ (∀ H' p, Same H H' → H p = none → LstV (LstV IntV) H' (.ref p) sgs → Q (.ref p) H')
theorem ok__law_starts (T : Txt K mg) : FnOk P w K mg base CX0 2 T.f__law_starts T.fd__law_starts [] (sp__law_starts K) := by
  refine T.F__law_starts.ok sc__law_starts (fun vs H Q E h => ?_) (fun cdv A outer s H vs Q E hr h => ?_)
  · obtain ⟨rfl, _⟩ := h
    rfl
  · obtain ⟨rfl, q⟩ := h
    refine ⟨_, (pss_one (ps_ret (pe_lstS (pa_cons (pe_call (ok__law_codes T) hr (by rfl) T.g__law_codes T.F__law_codes.kp T.b__law_codes .nil pass0 (pa_cons pe_str pa_nil)) (pa_cons (pe_op op_catS (pe_op op_catS (pe_lstS (pa_cons pe_int pa_nil)) (pe_call (ok__law_codes T) hr (by rfl) T.g__law_codes T.F__law_codes.kp T.b__law_codes .nil pass0 (pa_cons pe_str pa_nil))) (pe_lstS (pa_cons pe_int (pa_cons pe_int pa_nil)))) (pa_cons (pe_call (ok__law_codes T) hr (by rfl) T.g__law_codes T.F__law_codes.kp T.b__law_codes .nil pass0 (pa_cons pe_str pa_nil)) (pa_cons (pe_call (ok__law_codes T) hr (by rfl) T.g__law_codes T.F__law_codes.kp T.b__law_codes .nil pass0 (pa_cons pe_str pa_nil)) pa_nil))))))), ?_⟩
    walk_at "vc"
    refine ⟨_, rfl, by decide +kernel, fun H1 p1 s1 n1 g1 => ?_⟩
    walk_at "vc"
    intro p2 H2 s2 n2 g2
    refine ⟨_, rfl, by decide +kernel, fun H3 p3 s3 n3 g3 => ?_⟩
    have g23 := s3 _ _ g2
    refine ⟨_, rfl, _, g23, _, g3, by rw [List.length_map]; exact cnt_le (by decide +kernel), fun p4 H4 s4 n4 g4 p5 H5 s5 n5 g5 => ?_⟩
    refine ⟨_, s5 _ _ g4, _, g5, by rw [List.length_append, List.length_map]; exact cnt_le (by decide +kernel), fun p6 H6 s6 n6 g6 => ?_⟩
    refine ⟨_, rfl, by decide +kernel, fun H7 p7 s7 n7 g7 => ?_⟩
    refine ⟨_, rfl, by decide +kernel, fun H8 p8 s8 n8 g8 p9 H9 s9 n9 g9 => ?_⟩
    have s19 := (s2.trans (s3.trans (s4.trans (s5.trans (s6.trans (s7.trans (s8.trans s9)))))))
    refine q H9 p9 (s1.trans s19) ((s1.trans (s2.trans (s3.trans (s4.trans (s5.trans (s6.trans (s7.trans s8))))))).free n9) ⟨p9, _, rfl, g9, ?_⟩
    have e1 : cds (Str.ofString "still 1\n") = [115, 116, 105, 108, 108, 32, 49, 10] := by decide +kernel
    have e2 : cds (Str.ofString "IMG") = [73, 77, 71] := by decide +kernel
    have e3 : cds (Str.ofString "FRM1\n") = [70, 82, 77, 49, 10] := by decide +kernel
    have e4 : cds (Str.ofString "sheet 1\n") = [115, 104, 101, 101, 116, 32, 49, 10] := by decide +kernel
    rw [e1] at g1
    rw [e2] at g6
    rw [e3] at g7
    rw [e4] at g8
    exact .cons (intL (s19 _ _ g1)) (.cons (intL (ns := [137, 73, 77, 71, 13, 10]) ((s7.trans (s8.trans s9)) _ _ g6)) (.cons (intL ((s8.trans s9) _ _ g7)) (.cons (intL (s9 _ _ g8)) .nil)))
def sp__law_put (K : PySem.W.Frag) : Sp := fun vs H Q _ => ∃ (a b : Addr) (ns ms : List Int) (at_ : Nat), vs = [.ref a, .ref b, .int (at_ : Int)] ∧ (H a = some (.lst (List.map V.int ns))) ∧ (H b = some (.lst (List.map V.int ms))) ∧ (ns.length ≤ 100000) ∧ (ms.length ≤ 100000) ∧ (at_ ≤ ns.length) ∧ (∀ H' p xs, Same H H' → H p = none → H' p = some (.lst (List.map V.int xs)) → xs.length ≤ ns.length + ms.length → Q (.ref p) H')
theorem ok__law_put (T : Txt K mg) : FnOk P w K mg base CX0 1 T.f__law_put T.fd__law_put ["data", "sign", "at"] (sp__law_put K) := by
  refine T.F__law_put.ok sc__law_put (fun vs H Q E h => ?_) (fun cdv A outer s H vs Q E hr h => ?_)
  · obtain ⟨a, b, ns, ms, at_, rfl, _⟩ := h
    rfl
  · obtain ⟨a, b, ns, ms, at_, rfl, ha, hb, hn, hm, hat, q⟩ := h
    refine ⟨_, (pss_one (ps_ret (pe_op op_catS (pe_op op_catS (pe_slice sl_listS (pv 0) po_none (po_some (pv 2))) (pv 1)) (pe_slice sl_listS (pv 0) (po_some (pe_op op_add (pv 2) (pe_callB call_lenH (by rfl) T.z_len PySem.boot_len (pa_cons (pv 1) pa_nil)))) po_none)))), ?_⟩
    walk_at "vc ha hb"
    intro p1 H1 s1 n1 g1
    rw [cutI_take] at g1
    refine ⟨_, g1, _, s1 _ _ hb, by rw [List.length_map, List.length_map, List.length_take]; exact cnt_le (by omega), fun p2 H2 s2 n2 g2 => ?_⟩
    rw [map_cat] at g2
    have s12 := s1.trans s2
    refine ⟨_, s12 _ _ hb, _, s12 _ _ ha, fun p3 H3 s3 n3 g3 => ?_⟩
    rw [List.length_map, show (at_ : Int) + (ms.length : Int) = ((at_ + ms.length : Nat) : Int) by omega, cutI_drop] at g3
    refine ⟨_, s3 _ _ g2, _, g3, by rw [List.length_map, List.length_map, List.length_append, List.length_take, List.length_drop]; exact cnt_le (by omega), fun p4 H4 s4 n4 g4 => ?_⟩
    rw [map_cat] at g4
    exact q H4 p4 _ (s12.trans (s3.trans s4)) ((s12.trans s3).free n4) g4 (by rw [List.length_append, List.length_append, List.length_take, List.length_drop]; omega)
def sp__law_first (K : PySem.W.Frag) : Sp := fun vs H Q _ => ∃ (a b : Addr) (ns ms : List Int), vs = [.ref a, .ref b] ∧ (H a = some (.lst (List.map V.int ns))) ∧ (H b = some (.lst (List.map V.int ms))) ∧ (ms.length = 4) ∧ (ns.length ≤ 100000) ∧ (∀ H', Same H H' → Q (.int (plc ns ms)) H')
theorem ok__law_first (T : Txt K mg) : FnOk P w K mg base CX0 1 T.f__law_first T.fd__law_first ["data", "sign"] (sp__law_first K) := by
  refine T.F__law_first.ok sc__law_first (fun vs H Q E h => ?_) (fun cdv A outer s H vs Q E hr h => ?_)
  · obtain ⟨a, b, ns, ms, rfl, _⟩ := h
    rfl
  · obtain ⟨a, b, ns, ms, rfl, ha, hb, hm, hn, q⟩ := h
    refine ⟨_, (pss_cons (ps_for PassesOwn.never rfl (pi_range1 (by rfl) T.z_range (pa_cons (pe_callB (call_min2 rfl) (by rfl) T.z_min (by decide +kernel) (pa_cons pe_int (pa_cons (pe_callB call_lenH (by rfl) T.z_len PySem.boot_len (pa_cons (pv 0) pa_nil)) pa_nil))) pa_nil)) (pg_name (i := 2) sc__law_first.nd rfl (Or.inl rfl)) (pss_one (ps_if (PW.pt (pw_and (pt_cmpR op_eq (pe_ix ix_listH (pv 0) (pv 2) (fun _ _ => rfl)) (pe_ix ix_listH (pv 1) pe_int (fun _ _ => rfl)) (nomark _)) (pw_and1 (pt_cmpR (op_eqIL hr.units) (pe_slice sl_listS (pv 0) (po_some (pv 2)) (po_some (pe_op op_add (pv 2) pe_int))) (pv 1) (nomark _))))) (pss_one (ps_ret (pv 2))) pss_nil)))
      (pss_one (ps_ret (pe_un un_neg pe_int)))), ?_⟩
    walk_at "vc ha"
    rw [show mn 1024 (ns.length : Int) = ((min ns.length 1024 : Nat) : Int) by unfold mn; split <;> omega, Int.toNat_natCast]
    have hN : min ns.length 1024 ≤ ns.length := Nat.min_le_left _ _
    unfold plc at q
    generalize min ns.length 1024 = N at hN q ⊢
    refine ⟨by omega, by omega, ?_⟩
    refine lpW (walkR (n := N)) (fun i σ H' => ∃ v2 : Option V, σ = [some (.ref a), some (.ref b), v2] ∧ Same H H' ∧ fst? (atS ns ms) i = none) ⟨_, rfl, Same.refl _, rfl⟩ (fun _ _ _ _ _ => True.intro) ?_ ?_
    · rintro i x σ H' H2 hi ⟨v2, rfl, sm, hno⟩ ⟨rfl, rfl⟩
      have ha1 := sm _ _ ha
      have hb1 := sm _ _ hb
      walk_at "vc ha1 hb1"
      refine ⟨_, at_g (show i < ns.length by omega), _, at_g (i := 0) (by omega), rfl, iteP (fun z => ?_) (fun z => ?_)⟩
      · intro p3 H3 s3 n3 g3
        rw [show (i : Int) + 4 = ((i + 4 : Nat) : Int) by omega, cut_sl] at g3
        refine ⟨_, g3, _, s3 _ _ hb1, iteP (fun y => ?_) (fun y => ?_)⟩
        · have := q H3 (sm.trans s3)
          rw [fst?_hit hi hno (by unfold atS; rw [decide_eq_true (V.int.inj z), hm, decide_eq_true y]; rfl)] at this
          exact this
        · exact ⟨sm.trans s3, fst?_miss hno (by unfold atS; rw [hm, decide_eq_false y, Bool.and_false])⟩
      · exact ⟨sm, fst?_miss hno (by unfold atS; rw [decide_eq_false (fun y => z (by rw [y])), Bool.false_and])⟩
    · rintro σ H' ⟨v2, rfl, sm, hno⟩
      walk_at "vc"
      rw [hno] at q
      exact q _ sm

theorem lst?_has {p : Nat → Bool} {i : Nat} : ∀ {n : Nat}, i < n → p i = true → ∃ j, lst? p n = some j
  | 0, h, _ => absurd h (Nat.not_lt_zero _)
  | n + 1, h, hp => by
    rw [lst?]
    by_cases c : p n = true
    · exact ⟨n, by rw [if_pos c]⟩
    · rw [if_neg c]
      exact lst?_has (by by_cases e : i = n; (rw [e] at hp; exact absurd hp c); omega) hp
theorem lst?_no {p : Nat → Bool} : ∀ {n : Nat}, (∀ i, i < n → p i = false) → lst? p n = none
  | 0, _ => rfl
  | n + 1, h => by
    rw [lst?, if_neg (by rw [h n (Nat.lt_succ_self _)]; decide)]
    exact lst?_no fun i hi => h i (by omega)
def sp__law_has_end (K : PySem.W.Frag) : Sp := fun vs H Q _ => ∃ (a : Addr) (ns : List Int), vs = [.ref a] ∧ (H a = some (.lst (List.map V.int ns))) ∧ (ns.length ≤ 100000) ∧ (∀ H', Same H H' → Q (.bl (decide (0 ≤ fen ns))) H')
theorem ok__law_has_end (T : Txt K mg) : FnOk P w K mg base CX0 2 T.f__law_has_end T.fd__law_has_end ["data"] (sp__law_has_end K) := by
  refine T.F__law_has_end.ok sc__law_has_end (fun vs H Q E h => ?_) (fun cdv A outer s H vs Q E hr h => ?_)
  · obtain ⟨a, ns, rfl, _⟩ := h
    rfl
  · obtain ⟨a, ns, rfl, ha, hn, q⟩ := h
    refine ⟨_, (pss_cons (ps_for PassesOwn.never rfl (pi_range1 (by rfl) T.z_range (pa_cons (pe_op op_sub (pe_callB call_lenH (by rfl) T.z_len PySem.boot_len (pa_cons (pv 0) pa_nil)) pe_int) pa_nil)) (pg_name (i := 1) sc__law_has_end.nd rfl (Or.inl rfl)) (pss_one (ps_if (PW.pt (pw_and (pt_cmpR op_eq (pe_ix ix_listH (pv 0) (pv 1) (fun _ _ => rfl)) pe_int (nomark _)) (pw_and (pt_cmpR (op_eqIL hr.units) (pe_slice sl_listS (pv 0) (po_some (pv 1)) (po_some (pe_op op_add (pv 1) pe_int))) (pe_call (ok__law_codes T) hr (by rfl) T.g__law_codes T.F__law_codes.kp T.b__law_codes .nil pass0 (pa_cons pe_str pa_nil)) (nomark _)) (pw_and1 (pt_cmpR op_le (pe_call (ok__law_number T) hr (by rfl) T.g__law_number T.F__law_number.kp T.b__law_number .nil pass0 (pa_cons (pe_slice sl_listS (pv 0) (po_some (pe_op op_add (pv 1) pe_int)) (po_some (pe_op op_add (pv 1) pe_int))) pa_nil)) (pv 1) (nomark _)))))) (pss_one (ps_ret pe_bl)) pss_nil)))
      (pss_one (ps_ret pe_bl))), ?_⟩
    walk_at "vc ha"
    refine ⟨by omega, by omega, ?_⟩
    rw [show ((ns.length : Int) - 9).toNat = ns.length - 9 by omega]
    refine lpW (walkR (n := ns.length - 9)) (fun i σ H' => ∃ v1 : Option V, σ = [some (.ref a), v1] ∧ Same H H' ∧ ∀ m, m < i → atE ns m = false) ⟨_, rfl, Same.refl _, fun _ h => absurd h (Nat.not_lt_zero _)⟩ (fun _ _ _ _ _ => True.intro) ?_ ?_
    · rintro i x σ H' H2 hi ⟨v1, rfl, sm, hno⟩ ⟨rfl, rfl⟩
      have ha1 := sm _ _ ha
      have step : ∀ b : Bool, atE ns i = b → b = false → ∀ m, m < i + 1 → atE ns m = false := by
        rintro b e rfl m hm
        by_cases c : m = i
        · rw [c]; exact e
        · exact hno m (by omega)
      walk_at "vc ha1"
      refine ⟨_, at_g (show i < ns.length by omega), rfl, iteP (fun z => ?_) (fun z => ?_)⟩
      · have z : gN ns i = 67 := V.int.inj z
        intro p3 H3 s3 n3 g3
        rw [show (i : Int) + 4 = ((i + 4 : Nat) : Int) by omega, cut_sl] at g3
        refine ⟨_, rfl, by decide +kernel, fun H4 p4 s4 n4 g4 => ?_⟩
        rw [show cds (Str.ofString "CEND") = ens by decide +kernel] at g4
        refine ⟨_, rfl, _, s4 _ _ g3, _, g4, iteP (fun y => ?_) (fun y => ?_)⟩
        · have ha4 := (s3.trans s4) _ _ ha1
          refine ⟨_, ha4, fun p5 H5 s5 n5 g5 => ?_⟩
          rw [show (i : Int) + 6 = ((i + 6 : Nat) : Int) by omega, show (i : Int) + 10 = ((i + 10 : Nat) : Int) by omega, cut_sl] at g5
          refine ⟨p5, _, rfl, g5, _, rfl, iteP (fun x => ?_) (fun x => ?_)⟩
          · have := q H5 (sm.trans (s3.trans (s4.trans s5)))
            obtain ⟨j, hj⟩ := lst?_has (p := atE ns) hi (by unfold atE atS; rw [decide_eq_true (show gN ns i = gN ens 0 from z), show ens.length = 4 from rfl, decide_eq_true y, decide_eq_true x]; rfl)
            rw [show fen ns = (j : Int) by unfold fen; rw [hj]; rfl, decide_eq_true (Int.natCast_nonneg j)] at this
            exact this
          · exact ⟨sm.trans (s3.trans (s4.trans s5)), step _ rfl (by unfold atE; rw [decide_eq_false x, Bool.and_false])⟩
        · exact ⟨sm.trans (s3.trans s4), step _ rfl (by unfold atE atS; rw [show ens.length = 4 from rfl, decide_eq_false y, Bool.and_false, Bool.false_and])⟩
      · exact ⟨sm, step _ rfl (by unfold atE atS; rw [decide_eq_false (fun y : gN ns i = gN ens 0 => z (by rw [y]; rfl)), Bool.false_and, Bool.false_and])⟩
    · rintro σ H' ⟨v1, rfl, sm, hno⟩
      walk_at "vc"
      have := q H' sm
      rw [show fen ns = -1 by unfold fen; rw [lst?_no hno]; rfl] at this
      exact this


def sp__law_kinds (K : PySem.W.Frag) : Sp := fun vs H Q _ => ∃ (a : Addr) (ns : List Int), vs = [.ref a] ∧ (H a = some (.lst (List.map V.int ns))) ∧ (ns.length ≤ 100000) ∧ (∀ H' p k, Same H H' → H p = none → H' p = some (.tup [.ref k, vS (knd ns)]) → H' k = some (.lst (List.map vS (pkinds ns))) → Q (.ref p) H')
theorem ok__law_kinds (T : Txt K mg) : FnOk P w K mg base CX0 3 T.f__law_kinds T.fd__law_kinds ["data"] (sp__law_kinds K) := by
  refine T.F__law_kinds.ok sc__law_kinds (fun vs H Q E h => ?_) (fun cdv A outer s H vs Q E hr h => ?_)
  · obtain ⟨a, ns, rfl, _⟩ := h
    rfl
  · obtain ⟨a, ns, rfl, ha, hn, q⟩ := h
    refine ⟨_, (pss_cons (ps_set (i := 1) sc__law_kinds.nd rfl (Or.inl rfl) (pe_lstS pa_nil))
      (pss_cons (ps_for PassesOwn.never rfl (pi_range1 (by rfl) T.z_range (pa_cons pe_int pa_nil)) (pg_name (i := 2) sc__law_kinds.nd rfl (Or.inl rfl)) (pss_cons (ps_set (i := 3) sc__law_kinds.nd rfl (Or.inl rfl) (pe_ix ix_listH (pe_call0 (ok__law_starts T) hr (by rfl) T.g__law_starts T.F__law_starts.kp T.b__law_starts .nil pass0) (pv 2) (fun _ _ => rfl)))
      (pss_one (ps_if (pt_cmpR (op_eqIL hr.units) (pe_slice sl_listS (pv 0) po_none (po_some (pe_callB call_lenH (by rfl) T.z_len PySem.boot_len (pa_cons (pv 3) pa_nil)))) (pv 3) (nomark _)) (pss_one (ps_expr (pe_ml (pe_bm PySem.F.plainAttrs_list PySem.F.slot_list_append PySem.F.type_list_append mt_append (pe_mono (pv 1)) (pa_cons (pe_ix ix_listH (pe_lstS (pa_cons pe_str (pa_cons pe_str (pa_cons pe_str (pa_cons pe_str pa_nil))))) (pv 2) (fun _ _ => rfl)) pa_nil))))) pss_nil))))
      (pss_cons (ps_set (i := 4) sc__law_kinds.nd rfl (Or.inl rfl) (pe_call (ok__law_first T) (hr.mono (by decide)) (by rfl) T.g__law_first T.F__law_first.kp T.b__law_first .nil pass0 (pa_cons (pv 0) (pa_cons (pe_lstS (pa_cons pe_int (pa_cons pe_int (pa_cons pe_int (pa_cons pe_int pa_nil))))) pa_nil))))
      (pss_cons (ps_set (i := 5) sc__law_kinds.nd rfl (Or.inl rfl) (pe_call (ok__law_first T) (hr.mono (by decide)) (by rfl) T.g__law_first T.F__law_first.kp T.b__law_first .nil pass0 (pa_cons (pv 0) (pa_cons (pe_call (ok__law_codes T) (hr.mono (by decide)) (by rfl) T.g__law_codes T.F__law_codes.kp T.b__law_codes .nil pass0 (pa_cons pe_str pa_nil)) pa_nil))))
      (pss_cons (ps_if (pt_cmpR op_ge (pv 4) pe_int (nomark _)) (pss_one (ps_expr (pe_ml (pe_bm PySem.F.plainAttrs_list PySem.F.slot_list_append PySem.F.type_list_append mt_append (pe_mono (pv 1)) (pa_cons pe_str pa_nil))))) pss_nil)
      (pss_cons (ps_if (PW.pt (pw_or (pt_cmpR op_ge (pv 5) pe_int (nomark _)) (pw_or1 (pt_val (pe_call (ok__law_has_end T) hr (by rfl) T.g__law_has_end T.F__law_has_end.kp T.b__law_has_end .nil pass0 (pa_cons (pv 0) pa_nil)))))) (pss_one (ps_expr (pe_ml (pe_bm PySem.F.plainAttrs_list PySem.F.slot_list_append PySem.F.type_list_append mt_append (pe_mono (pv 1)) (pa_cons pe_str pa_nil))))) pss_nil)
      (pss_cons (ps_set (i := 6) sc__law_kinds.nd rfl (Or.inl rfl) pe_str)
      (pss_cons (ps_if (pt_cmpR op_gt (pe_callB call_lenH (by rfl) T.z_len PySem.boot_len (pa_cons (pv 1) pa_nil)) pe_int (nomark _)) (pss_one (ps_set (i := 6) sc__law_kinds.nd rfl (Or.inl rfl) (pe_ix ix_listH (pv 1) pe_int (fun _ _ => rfl)))) pss_nil)
      (pss_cons (ps_if (PW.pt (pw_and (pt_cmpR (op_eqC hr.units (cod_lst cod_str) (by decide)) (pv 1) (pe_lstS (pa_cons pe_str (pa_cons pe_str pa_nil))) (nomark _)) (pw_and1 (pt_chain op_le op_lt pe_int (pv 5) (pv 4))))) (pss_one (ps_set (i := 6) sc__law_kinds.nd rfl (Or.inl rfl) pe_str)) pss_nil)
      (pss_one (ps_ret (pe_tupS (pa_cons (pv 1) (pa_cons (pv 6) pa_nil)))))))))))))), ?_⟩
    walk_at "vc"
    intro p1 H1 s1 n1 g1
    refine lpW (walkR (n := 4)) (fun i σ H' => ∃ (v2 v3 : Option V), σ = [some (.ref a), some (.ref p1), v2, v3, none, none, none] ∧ Same H H' ∧ H' p1 = some (.lst (List.map vS (kds4 ns i)))) ⟨_, _, rfl, s1, g1⟩ (fun _ _ _ _ _ => True.intro) ?_ ?_
    · rintro i x σ H' H2 hi ⟨v2, v3, rfl, sm, g⟩ ⟨rfl, rfl⟩
      have ha1 := sm _ _ ha
      walk_at "vc"
      refine ⟨rfl, fun H3 p3 s3 n3 ⟨_, vs, e, g3, k3⟩ => ?_⟩
      obtain rfl := V.ref.inj e
      have e2 : kds4 ns (i + 1) = kds4 ns i ++ if kidx ns i = true then [kds.getD i fol] else [] := by
        unfold kds4
        rw [List.range_succ, List.filter_append, List.map_append, List.filter_cons]
        split <;> rfl
      have hlen : (kds4 ns i).length ≤ i := by
        unfold kds4
        rw [List.length_map]
        exact Nat.le_trans (List.length_filter_le _ _) (by rw [List.length_range]; exact Nat.le_refl _)
      have hi4 : i < sgs.length := hi
      have hs : sgs[i]? = some (sgs.getD i []) := by rw [List.getD_eq_getElem?_getD, List.getElem?_eq_getElem hi4]; rfl
      obtain ⟨xv, hxv, ap, us, rfl, gap, kap⟩ := k3.at' hs
      obtain rfl := ints_of kap
      have ha3 := s3 _ _ ha1
      have gg := s3 _ _ g
      walk_at "vc g3 gap ha3"
      refine ⟨_, atI_nat hxv, ap, rfl, _, gap, fun p4 H4 s4 n4 g4 => ⟨ap, rfl, ?_⟩⟩
      rw [List.length_map, cutI_take] at g4
      refine ⟨_, g4, _, s4 _ _ gap, iteP (fun z => ?_) (fun z => ?_)⟩
      · rw [e2, if_pos (by unfold kidx; exact decide_eq_true z)]
        refine ⟨⟨_, s4 _ _ gg⟩, fun p5 H5 s5 n5 g5 => ⟨_, g5, vS (kds.getD i fol), ?_, _, (s4.trans s5) _ _ gg, by rw [List.length_map]; exact cnt_lt (by omega), same_upd2 (sm.trans (s3.trans (s4.trans s5))) n1, by rw [List.map_append]; rfl⟩⟩
        refine atI_nat ?_
        match i, hi with
        | 0, _ => rfl
        | 1, _ => rfl
        | 2, _ => rfl
        | 3, _ => rfl
      · rw [e2, if_neg (by unfold kidx; exact fun h => z (of_decide_eq_true h)), List.append_nil]
        exact ⟨sm.trans (s3.trans s4), s4 _ _ gg⟩
    · rintro σ H1 ⟨v2, v3, rfl, sm1, g1⟩
      have hln : (kds4 ns 4).length ≤ 4 := by
        unfold kds4
        rw [List.length_map]
        exact Nat.le_trans (List.length_filter_le _ _) (by rw [List.length_range]; exact Nat.le_refl _)
      refine seq_cut (fun σ H' => σ = [some (.ref a), some (.ref p1), v2, v3, none, none, none] ∧ H' = H1) ?_ (fun C hC => ?_)
      rotate_left
      · walk_at "vc"
        exact hC _ _ ⟨rfl, rfl⟩
      rintro σ _ ⟨rfl, rfl⟩
      refine seq_cut (fun σ H' => σ = [some (.ref a), some (.ref p1), v2, v3, some (.int (plc ns frl)), none, none] ∧ Same H H' ∧ H' p1 = some (.lst (List.map vS (kds4 ns 4)))) ?_ (fun C hC => ?_)
      rotate_left
      · walk_at "vc"
        intro p2 H2 s2 n2 g2
        exact ⟨a, p2, ns, frl, rfl, (sm1.trans s2) _ _ ha, g2, rfl, hn, fun H3 s3 => hC _ _ ⟨rfl, sm1.trans (s2.trans s3), (s2.trans s3) _ _ g1⟩⟩
      rintro σ H2 ⟨rfl, sm2, g2⟩
      refine seq_cut (fun σ H' => σ = [some (.ref a), some (.ref p1), v2, v3, some (.int (plc ns frl)), some (.int (plc ns hdr)), none] ∧ Same H H' ∧ H' p1 = some (.lst (List.map vS (kds4 ns 4)))) ?_ (fun C hC => ?_)
      rotate_left
      · walk_at "vc"
        refine ⟨_, rfl, by decide +kernel, fun H3 p3 s3 n3 g3 => ?_⟩
        rw [show cds (Str.ofString "CRT1") = hdr by decide +kernel] at g3
        exact ⟨a, p3, ns, hdr, rfl, (sm2.trans s3) _ _ ha, g3, rfl, hn, fun H4 s4 => hC _ _ ⟨rfl, sm2.trans (s3.trans s4), (s3.trans s4) _ _ g2⟩⟩
      rintro σ H3 ⟨rfl, sm3, g3⟩
      generalize hK : kds4 ns 4 = K4 at g3 hln
      refine seq_cut (fun σ H' => σ = [some (.ref a), some (.ref p1), v2, v3, some (.int (plc ns frl)), some (.int (plc ns hdr)), none] ∧ Same H H' ∧ H' p1 = some (.lst (List.map vS (K4 ++ (if 0 ≤ plc ns frl then [fol] else []))))) ?_ (fun C hC => ?_)
      rotate_left
      · walk_at "vc g3"
        refine iteP (fun z => ?_) (fun z => ?_)
        · refine ⟨cnt_lt (by omega), hC _ _ ⟨rfl, same_upd2 sm3 n1, ?_⟩⟩
          rw [if_pos z, upd_same, List.map_append]
          rfl
        · exact hC _ _ ⟨rfl, sm3, by rw [if_neg z, List.append_nil]; exact g3⟩
      rintro σ H4 ⟨rfl, sm4, g4⟩
      refine seq_cut (fun σ H' => σ = [some (.ref a), some (.ref p1), v2, v3, some (.int (plc ns frl)), some (.int (plc ns hdr)), none] ∧ Same H H' ∧ H' p1 = some (.lst (List.map vS (pkinds ns)))) ?_ (fun C hC => ?_)
      rotate_left
      · have hpk : pkinds ns = (K4 ++ (if 0 ≤ plc ns frl then [fol] else [])) ++ (if 0 ≤ plc ns hdr ∨ 0 ≤ fen ns then [crt] else []) := by rw [← hK]; rfl
        have hl5 : (K4 ++ (if 0 ≤ plc ns frl then [fol] else [])).length ≤ 5 := by
          rw [List.length_append]
          split
          · show _ + 1 ≤ _; omega
          · show _ + 0 ≤ _; omega
        generalize K4 ++ (if 0 ≤ plc ns frl then [fol] else []) = K5 at g4 hpk hl5
        have hz : K5.length < sizeLine := cnt_lt (by omega)
        walk_at "vc g4"
        refine iteP (fun z => ?_) (fun z => ?_)
        · refine ⟨hz, hC _ _ ⟨rfl, same_upd2 sm4 n1, ?_⟩⟩
          rw [hpk, if_pos (.inl z), upd_same, List.map_append]
          rfl
        · refine ⟨a, ns, rfl, sm4 _ _ ha, hn, fun H5 s5 => ⟨_, rfl, ?_⟩⟩
          have g5 := s5 _ _ g4
          refine iteB rfl (fun y => ?_) (fun y => ?_)
          · refine ⟨⟨_, g5⟩, _, g5, by rw [List.length_map]; exact hz, hC _ _ ⟨rfl, same_upd2 (sm4.trans s5) n1, ?_⟩⟩
            rw [hpk, if_pos (.inr y), upd_same, List.map_append]
            rfl
          · refine hC _ _ ⟨rfl, sm4.trans s5, ?_⟩
            rw [hpk, if_neg (by rintro (h | h); exact z h; exact y h), List.append_nil]
            exact g5
      rintro σ H5 ⟨rfl, sm5, g5⟩
      have hkd : knd ns = if pkinds ns = [fol, crt] ∧ 0 ≤ plc ns hdr ∧ plc ns hdr < plc ns frl then crt else (pkinds ns).headD emp := rfl
      have fin : ∀ H6, Same H5 H6 → H6 p1 = some (.lst (List.map vS (pkinds ns))) → ∀ k, k = knd ns → NewH H6 (.tup [.ref p1, vS k]) fun p H' => Q (.ref p) H' := by
        rintro H6 s6 g6 k rfl p H7 s7 n7 g7
        exact q H7 p p1 (sm5.trans (s6.trans s7)) ((sm5.trans s6).free n7) g7 (s7 _ _ g6)
      generalize pkinds ns = PK at g5 hkd fin
      walk_at "vc g5"
      have tail : ∀ k0 : OkS, k0 = PK.headD emp → NewH H5 (HO.lst [V.str (Str.ofString "folio"), V.str (Str.ofString "crate")]) fun p H' => ∃ a, LstV StrV H' (V.ref p1) a ∧ ∃ x_1, LstV StrV H' (V.ref p) x_1 ∧
          if a = x_1 then (if 0 ≤ plc ns hdr then (if plc ns hdr < plc ns frl then NewH H' (HO.tup [V.ref p1, V.str (Str.ofString "crate")]) fun p H' => Q (V.ref p) H' else NewH H' (HO.tup [V.ref p1, vS k0]) fun p H' => Q (V.ref p) H') else NewH H' (HO.tup [V.ref p1, vS k0]) fun p H' => Q (V.ref p) H')
          else NewH H' (HO.tup [V.ref p1, vS k0]) fun p H' => Q (V.ref p) H' := by
        rintro k0 rfl p H6 s6 n6 g6
        have g6' : H6 p = some (.lst (List.map vS [fol, crt])) := g6
        have g56 := s6 _ _ g5
        refine ⟨PK, strL g56, _, strL g6', iteP (fun e1 => iteP (fun e2 => iteP (fun e3 => ?_) fun e3 => ?_) fun e2 => ?_) fun e1 => ?_⟩
        · exact fin H6 s6 g56 crt (by rw [hkd, if_pos ⟨e1, e2, e3⟩])
        · exact fin H6 s6 g56 _ (by rw [hkd, if_neg fun h => e3 h.2.2])
        · exact fin H6 s6 g56 _ (by rw [hkd, if_neg fun h => e2 h.2.1])
        · exact fin H6 s6 g56 _ (by rw [hkd, if_neg fun h => e1 h.1])
      refine iteP (fun z => ?_) (fun z => ?_)
      · cases hP : PK with
        | nil => rw [hP] at z; exact absurd z (by decide)
        | cons k r =>
          rw [hP] at tail
          exact ⟨vS k, atI_c0 _ _, tail k rfl⟩
      · have hP : PK = [] := List.eq_nil_of_length_eq_zero (by omega)
        exact tail emp (by rw [hP]; rfl)
def sp__law_list (K : PySem.W.Frag) (a : Addr) (ns : List Int) : Sp := fun vs H Q _ => vs = [.ref a] ∧ (SqL K H a (List.map V.int ns)) ∧ (ns.length ≤ 63) ∧ (∀ H' p xs, Same H H' → H p = none → H' p = some (.lst (List.map V.int xs)) → xs.length ≤ 5000 → Q (.ref p) H')
theorem ok__law_list (T : Txt K mg) (a : Addr) (ns : List Int) : FnOk P w K mg base CX0 3 T.f__law_list T.fd__law_list ["script"] (sp__law_list K a ns) := by
  refine T.F__law_list.ok sc__law_list (fun vs H Q E h => ?_) (fun cdv A outer s H vs Q E hr h => ?_)
  · obtain ⟨rfl, _⟩ := h
    rfl
  · obtain ⟨rfl, hS, hlen, q⟩ := h
    refine ⟨_, (pss_cons (ps_set (i := 1) sc__law_list.nd rfl (Or.inl rfl) (pe_callB call_abs (by rfl) T.z_abs (by decide +kernel) (pa_cons (pe_call (ok__law_cell T a ns) (hr.mono (by decide)) (by rfl) T.g__law_cell T.F__law_cell.kp T.b__law_cell .nil pass0 (pa_cons (pv 0) (pa_cons pe_int pa_nil))) pa_nil)))
      (pss_cons (ps_set (i := 2) sc__law_list.nd rfl (Or.inl rfl) (pe_lstS pa_nil))
      (pss_cons (ps_if (pt_cmpR op_gt (pe_op op_mod (pe_callTy call_int1 (by rfl) T.z_int (by decide +kernel) (pa_cons (pv 1) pa_nil)) pe_int) pe_int (nomark _)) (pss_cons (ps_set (i := 2) sc__law_list.nd rfl (Or.inl rfl) (pe_callTy call_listS (by rfl) T.z_list (by decide +kernel) (pa_cons (pe_ix ix_listH (pe_call0 (ok__law_starts T) hr (by rfl) T.g__law_starts T.F__law_starts.kp T.b__law_starts .nil pass0) (pe_op op_and (pe_callTy call_int1 (by rfl) T.z_int (by decide +kernel) (pa_cons (pe_op op_fdiv (pv 1) pe_int) pa_nil)) pe_int) (fun _ _ => rfl)) pa_nil)))
      (pss_cons (ps_if (pt_cmpR op_eq (pe_op op_mod (pe_callTy call_int1 (by rfl) T.z_int (by decide +kernel) (pa_cons (pe_op op_fdiv (pv 1) pe_int) pa_nil)) pe_int) pe_int (nomark _)) (pss_one (ps_set (i := 2) sc__law_list.nd rfl (Or.inl rfl) (pe_slice sl_listS (pv 2) po_none (po_some (pe_op op_mod (pe_callTy call_int1 (by rfl) T.z_int (by decide +kernel) (pa_cons (pe_op op_fdiv (pv 1) pe_int) pa_nil)) (pe_op op_add (pe_callB call_lenH (by rfl) T.z_len PySem.boot_len (pa_cons (pv 2) pa_nil)) pe_int)))))) pss_nil)
      (pss_one (ps_if (pt_cmpR op_eq (pe_op op_mod (pe_callTy call_int1 (by rfl) T.z_int (by decide +kernel) (pa_cons (pe_op op_fdiv (pv 1) pe_int) pa_nil)) pe_int) pe_int (nomark _)) (pss_cons (ps_set (i := 3) sc__law_list.nd rfl (Or.inl rfl) (pe_op op_mod (pe_callTy call_int1 (by rfl) T.z_int (by decide +kernel) (pa_cons (pe_op op_fdiv (pv 1) pe_int) pa_nil)) (pe_callB call_lenH (by rfl) T.z_len PySem.boot_len (pa_cons (pv 2) pa_nil))))
      (pss_one (ps_asg (pe_op op_xor (pe_ix ix_listH (pv 2) (pv 3) (fun _ _ => rfl)) (pe_op op_add pe_int (pe_op op_mod (pe_callTy call_int1 (by rfl) T.z_int (by decide +kernel) (pa_cons (pe_op op_fdiv (pv 1) pe_int) pa_nil)) pe_int))) (pg_sub (pv 2) (pv 3) set_list)))) pss_nil)))) pss_nil)
      (pss_cons (ps_set (i := 2) sc__law_list.nd rfl (Or.inl rfl) (pe_op op_catS (pv 2) (pe_call (ok__law_row T) (hr.mono (by decide)) (by rfl) T.g__law_row T.F__law_row.kp T.b__law_row .nil pass0 (pa_cons (pe_call (ok__law_cell T a ns) (hr.mono (by decide)) (by rfl) T.g__law_cell T.F__law_cell.kp T.b__law_cell .nil pass0 (pa_cons (pv 0) (pa_cons pe_int pa_nil))) (pa_cons (pe_op op_mod (pe_callTy call_int1 (by rfl) T.z_int (by decide +kernel) (pa_cons (pe_callB call_abs (by rfl) T.z_abs (by decide +kernel) (pa_cons (pe_call (ok__law_cell T a ns) (hr.mono (by decide)) (by rfl) T.g__law_cell T.F__law_cell.kp T.b__law_cell .nil pass0 (pa_cons (pv 0) (pa_cons pe_int pa_nil))) pa_nil)) pa_nil)) pe_int) pa_nil)))))
      (pss_cons (ps_if (pt_cmpR op_eq (pe_op op_mod (pe_callTy call_int1 (by rfl) T.z_int (by decide +kernel) (pa_cons (pe_op op_fdiv (pe_callB call_abs (by rfl) T.z_abs (by decide +kernel) (pa_cons (pe_call (ok__law_cell T a ns) (hr.mono (by decide)) (by rfl) T.g__law_cell T.F__law_cell.kp T.b__law_cell .nil pass0 (pa_cons (pv 0) (pa_cons pe_int pa_nil))) pa_nil)) pe_int) pa_nil)) pe_int) pe_int (nomark _)) (pss_one (ps_set (i := 2) sc__law_list.nd rfl (Or.inl rfl) (pe_op op_catS (pv 2) (pe_op op_repS (pe_lstS (pa_cons (pe_op op_and (pe_callTy call_int1 (by rfl) T.z_int (by decide +kernel) (pa_cons (pv 1) pa_nil)) pe_int) pa_nil)) (pe_op op_add pe_int (pe_op op_mod (pe_callTy call_int1 (by rfl) T.z_int (by decide +kernel) (pa_cons (pe_op op_fdiv (pe_callB call_abs (by rfl) T.z_abs (by decide +kernel) (pa_cons (pe_call (ok__law_cell T a ns) (hr.mono (by decide)) (by rfl) T.g__law_cell T.F__law_cell.kp T.b__law_cell .nil pass0 (pa_cons (pv 0) (pa_cons pe_int pa_nil))) pa_nil)) pe_int) pa_nil)) pe_int)))))) pss_nil)
      (pss_cons (ps_for PassesOwn.never rfl (pi_range2 (by rfl) T.z_range (pa_cons pe_int (pa_cons (pe_callB (call_min2 rfl) (by rfl) T.z_min (by decide +kernel) (pa_cons pe_int (pa_cons (pe_callB (call_lenSc a ns) (by rfl) T.z_len PySem.boot_len (pa_cons (pv 0) pa_nil)) pa_nil))) pa_nil))) (pg_name (i := 4) sc__law_list.nd rfl (Or.inl rfl)) (pss_cons (ps_set (i := 5) sc__law_list.nd rfl (Or.inl rfl) (pe_callB call_abs (by rfl) T.z_abs (by decide +kernel) (pa_cons (pe_ix (ix_sc a ns) (pv 0) (pv 4) (fun _ _ => rfl)) pa_nil)))
      (pss_cons (ps_set (i := 6) sc__law_list.nd rfl (Or.inl rfl) (pe_lstS (pa_cons (pe_op op_catS (pe_lstS (pa_cons pe_int pa_nil)) (pe_call (ok__law_codes T) (hr.mono (by decide)) (by rfl) T.g__law_codes T.F__law_codes.kp T.b__law_codes .nil pass0 (pa_cons pe_str pa_nil))) (pa_cons (pe_call (ok__law_codes T) (hr.mono (by decide)) (by rfl) T.g__law_codes T.F__law_codes.kp T.b__law_codes .nil pass0 (pa_cons pe_str pa_nil)) (pa_cons (pe_op op_catS (pe_call (ok__law_codes T) (hr.mono (by decide)) (by rfl) T.g__law_codes T.F__law_codes.kp T.b__law_codes .nil pass0 (pa_cons pe_str pa_nil)) (pe_lstS (pa_cons (pe_op op_and (pe_callTy call_int1 (by rfl) T.z_int (by decide +kernel) (pa_cons (pe_op op_fdiv (pv 5) pe_int) pa_nil)) pe_int) (pa_cons pe_int pa_nil)))) (pa_cons (pe_call (ok__law_codes T) (hr.mono (by decide)) (by rfl) T.g__law_codes T.F__law_codes.kp T.b__law_codes .nil pass0 (pa_cons pe_str pa_nil)) pa_nil))))))
      (pss_cons (ps_set (i := 7) sc__law_list.nd rfl (Or.inl rfl) (pe_ix ix_listH (pv 6) (pe_op op_and (pe_callTy call_int1 (by rfl) T.z_int (by decide +kernel) (pa_cons (pv 5) pa_nil)) pe_int) (fun _ _ => rfl)))
      (pss_cons (ps_if (pt_cmpR op_eq (pe_op op_and (pe_callTy call_int1 (by rfl) T.z_int (by decide +kernel) (pa_cons (pv 5) pa_nil)) pe_int) pe_int (nomark _)) (pss_one (ps_set (i := 7) sc__law_list.nd rfl (Or.inl rfl) (pe_op op_catS (pv 7) (pe_call (ok__law_low T) (hr.mono (by decide)) (by rfl) T.g__law_low T.F__law_low.kp T.b__law_low .nil pass0 (pa_cons (pe_op op_mod (pe_callTy call_int1 (by rfl) T.z_int (by decide +kernel) (pa_cons (pe_op op_fdiv (pv 5) pe_int) pa_nil)) (pe_op op_add (pe_callB call_lenH (by rfl) T.z_len PySem.boot_len (pa_cons (pv 2) pa_nil)) pe_int)) (pa_cons pe_int pa_nil)))))) pss_nil)
      (pss_cons (ps_set (i := 3) sc__law_list.nd rfl (Or.inl rfl) (pe_op op_mod (pe_callTy call_int1 (by rfl) T.z_int (by decide +kernel) (pa_cons (pe_op op_fdiv (pv 5) pe_int) pa_nil)) (pe_op op_add (pe_callB call_lenH (by rfl) T.z_len PySem.boot_len (pa_cons (pv 2) pa_nil)) pe_int)))
      (pss_cons (ps_if (pt_cmpR op_eq (pe_op op_and (pe_callTy call_int1 (by rfl) T.z_int (by decide +kernel) (pa_cons (pe_op op_fdiv (pv 5) pe_int) pa_nil)) pe_int) pe_int (nomark _)) (pss_one (ps_set (i := 3) sc__law_list.nd rfl (Or.inl rfl) (pe_callB (call_max2 rfl) (by rfl) T.z_max (by decide +kernel) (pa_cons pe_int (pa_cons (pe_callB (call_min2 rfl) (by rfl) T.z_min (by decide +kernel) (pa_cons (pe_callB call_lenH (by rfl) T.z_len PySem.boot_len (pa_cons (pv 2) pa_nil)) (pa_cons (pe_op op_add pe_int (pe_op op_mod (pe_callTy call_int1 (by rfl) T.z_int (by decide +kernel) (pa_cons (pe_op op_fdiv (pv 5) pe_int) pa_nil)) pe_int)) pa_nil))) pa_nil))))) pss_nil)
      (pss_cons (ps_if (pt_cmpR op_eq (pe_op op_and (pe_callTy call_int1 (by rfl) T.z_int (by decide +kernel) (pa_cons (pe_op op_fdiv (pv 5) pe_int) pa_nil)) pe_int) pe_int (nomark _)) (pss_one (ps_set (i := 3) sc__law_list.nd rfl (Or.inl rfl) (pe_callB call_lenH (by rfl) T.z_len PySem.boot_len (pa_cons (pv 2) pa_nil)))) pss_nil)
      (pss_one (ps_set (i := 2) sc__law_list.nd rfl (Or.inl rfl) (pe_call (ok__law_put T) (hr.mono (by decide)) (by rfl) T.g__law_put T.F__law_put.kp T.b__law_put .nil pass0 (pa_cons (pv 2) (pa_cons (pv 7) (pa_cons (pv 3) pa_nil))))))))))))))
      (pss_one (ps_ret (pv 2))))))))), ?_⟩
    refine seq_cut (fun σ H' => ∃ c : Int, 0 ≤ c ∧ σ = [some (.ref a), some (.int c), none, none, none, none, none, none] ∧ H' = H) ?_ (fun C hC => ?_)
    rotate_left
    · walk_at "vc sp__law_cell hS"
      exact hC _ _ ⟨_, absI_nn _, rfl, rfl⟩
    rintro σ H' ⟨c, hc, rfl, rfl⟩
    refine seq_cut (fun σ H1 => ∃ p, σ = [some (.ref a), some (.int c), some (.ref p), none, none, none, none, none] ∧ Same H' H1 ∧ H' p = none ∧ H1 p = some (.lst [])) ?_ (fun C hC => ?_)
    rotate_left
    · walk_at "vc"
      exact fun p H1 s1 n1 g1 => hC _ _ ⟨p, rfl, s1, n1, g1⟩
    rintro σ H1 ⟨p1, rfl, s1, n1, g1⟩
    refine seq_cut (fun σ H2 => ∃ p v3 xs, σ = [some (.ref a), some (.int c), some (.ref p), v3, none, none, none, none] ∧ Same H' H2 ∧ H' p = none ∧ H2 p = some (.lst (List.map V.int xs)) ∧ xs.length ≤ 10) ?_ (fun C hC => ?_)
    rotate_left
    · walk_at "vc"
      refine iteP (fun z => ?_) (fun z => hC _ _ ⟨p1, none, [], rfl, s1, n1, g1, by decide⟩)
      refine ⟨rfl, fun Ha pa sa na ⟨_, vs, e, ga, ka⟩ => ?_⟩
      obtain rfl := V.ref.inj e
      obtain ⟨j, hj⟩ := natOf (show 0 ≤ c / 3 % 4 by omega)
      have hj4 : j < sgs.length := by show j < 4; omega
      have hs : sgs[j]? = some (sgs.getD j []) := by rw [List.getD_eq_getElem?_getD, List.getElem?_eq_getElem hj4]; rfl
      have hw : 1 ≤ (sgs.getD j []).length ∧ (sgs.getD j []).length ≤ 8 := by
        have : ∀ d : _root_.Fin 4, 1 ≤ (sgs.getD d []).length ∧ (sgs.getD d []).length ≤ 8 := by decide
        exact this ⟨j, hj4⟩
      obtain ⟨xv, hxv, ap, us, rfl, gap, kap⟩ := ka.at' hs
      obtain rfl := ints_of kap
      refine ⟨pa, rfl, _, ga, _, by rw [hj]; exact atI_nat hxv, ap, rfl, _, gap, fun pl Hl sl nl gl => ?_⟩
      generalize sgs.getD j [] = w at gl hw
      have s0l := s1.trans (sa.trans sl)
      have nl0 := (s1.trans sa).free nl
      refine iteP (fun y => ?_) (fun y => ?_)
      · refine ⟨_, gl, by omega, _, gl, fun pm Hm sm nm gm => ?_⟩
        obtain ⟨t, ht⟩ := natOf (show 0 ≤ c / 60 % ((w.length : Int) + 1) by exact Int.emod_nonneg _ (by omega))
        rw [List.length_map, ht, cutI_take] at gm
        refine iteP (fun y2 => absurd y2 (by omega)) fun _ => hC _ _ ⟨pm, none, w.take t, rfl, s0l.trans sm, s0l.free nm, gm, ?_⟩
        rw [List.length_take]
        omega
      · refine iteP (fun y2 => ?_) (fun _ => hC _ _ ⟨pl, none, w, rfl, s0l, nl0, gl, by omega⟩)
        have hb := mod_in (c / 60) (show (0 : Int) < (w.length : Int) by omega)
        refine ⟨_, gl, by rw [List.length_map]; omega, _, gl, ?_⟩
        rw [List.length_map]
        obtain ⟨t, ht⟩ := natOf hb.1
        rw [ht] at hb ⊢
        refine ⟨_, at_g (show t < w.length by omega), _, rfl, _, gl, t, ?_, hC _ _ ⟨pl, _, _, rfl, same_upd2 s0l nl0, nl0, by rw [upd_same, map_setV], by rw [List.length_set]; omega⟩⟩
        rw [List.length_map]
        exact ixN_in (by omega) (by omega)
    rintro σ H2 ⟨p2, v3, xs, rfl, s2, n2, g2, hx⟩
    refine seq_cut (fun σ H3 => ∃ p xs, σ = [some (.ref a), some (.int c), some (.ref p), v3, none, none, none, none] ∧ Same H' H3 ∧ H' p = none ∧ H3 p = some (.lst (List.map V.int xs)) ∧ xs.length ≤ 70) ?_ (fun C hC => ?_)
    rotate_left
    · walk_at "vc"
      have hS2 := s2.seq hS
      refine ⟨1, rfl, by decide, hS2, 2, rfl, by decide, hS2, _, rfl, ?_⟩
      obtain ⟨n, hn⟩ := natOf (show 0 ≤ absI (cellA ns (2 : Int).toNat) % 50 by omega)
      rw [hn]
      refine ⟨_, n, rfl, by omega, fun Ha pa l sa na ga hl => ⟨pa, rfl, _, sa _ _ g2, _, ga, by rw [List.length_map, List.length_map]; exact cnt_le (by omega), fun pb Hb sb nb gb => ?_⟩⟩
      rw [map_cat] at gb
      exact hC _ _ ⟨pb, _, rfl, s2.trans (sa.trans sb), (s2.trans sa).free nb, gb, by rw [List.length_append]; omega⟩
    rintro σ H3 ⟨p3, xs3, rfl, s3, n3, g3, hx3⟩
    refine seq_cut (fun σ H3 => ∃ p xs, σ = [some (.ref a), some (.int c), some (.ref p), v3, none, none, none, none] ∧ Same H' H3 ∧ H' p = none ∧ H3 p = some (.lst (List.map V.int xs)) ∧ xs.length ≤ 1200) ?_ (fun C hC => ?_)
    rotate_left
    · walk_at "vc"
      have hS3 := s3.seq hS
      refine ⟨2, rfl, by decide, hS3, _, rfl, iteP (fun z => ?_) (fun z => hC _ _ ⟨p3, xs3, rfl, s3, n3, g3, by omega⟩)⟩
      intro pa Ha sa na ga
      obtain ⟨n, hn⟩ := natOf (show 0 ≤ 985 + absI (cellA ns (2 : Int).toNat) / 200 % 60 by omega)
      refine ⟨2, rfl, by decide, sa.seq hS3, _, rfl, _, ga, ?_⟩
      rw [hn]
      refine ⟨by omega, by omega, fun pb Hb sb nb gb => ?_⟩
      rw [Int.toNat_natCast, show List.replicate n (V.int (c % 128)) = List.map V.int (List.replicate n (c % 128)) by rw [List.map_replicate]] at gb
      refine ⟨_, (sa.trans sb) _ _ g3, _, gb, by rw [List.length_map, List.length_map, List.length_replicate]; exact cnt_le (by omega), fun pc Hc sc nc gc => ?_⟩
      rw [map_cat] at gc
      exact hC _ _ ⟨pc, _, rfl, s3.trans (sa.trans (sb.trans sc)), (s3.trans (sa.trans sb)).free nc, gc, by rw [List.length_append, List.length_replicate]; omega⟩
    rintro σ H4 ⟨p4, xs4, rfl, s4, n4, g4, hx4⟩
    walk_at "vc"
    have hS4 := s4.seq hS
    obtain ⟨N, hN⟩ := natOf (show 0 ≤ mn 8 (ns.length : Int) by unfold mn; split <;> omega)
    have hmn := (lt_mn (x := 8) (y := (ns.length : Int)) (z := (N : Int) - 1)).mp (by omega)
    rw [hN]
    refine ⟨hS4, by omega, by omega, ?_⟩
    rw [show ((N : Int) - 3).toNat = N - 3 by omega]
    refine lpW (walk_range (lo := 3) (n := N - 3)) (fun i σ H2 => ∃ p v3 v4 v5 v6 v7 xs, σ = [some (.ref a), some (.int c), some (.ref p), v3, v4, v5, v6, v7] ∧ Same H' H2 ∧ H' p = none ∧ H2 p = some (.lst (List.map V.int xs)) ∧ xs.length ≤ 1200 + 20 * i) ⟨p4, _, _, _, _, _, xs4, rfl, s4, n4, g4, by omega⟩ (fun _ _ _ _ _ => True.intro) ?_ ?_
    · rintro i x σ Hz H2 hi ⟨p, v3, v4, v5, v6, v7, xs, rfl, sm, np, gp, hx⟩ ⟨rfl, rfl⟩
      have hS2 := sm.seq hS
      refine seq_cut (fun σ H3 => ∃ d : Int, 0 ≤ d ∧ σ = [some (.ref a), some (.int c), some (.ref p), v3, some (.int (3 + (i : Int))), some (.int d), v6, v7] ∧ H2 = H3) ?_ (fun C hC => ?_)
      rotate_left
      · walk_at "vc"
        exact ⟨hS2, by omega, by omega, hC _ _ ⟨_, absI_nn _, rfl, rfl⟩⟩
      rintro σ _ ⟨d, hd, rfl, rfl⟩
      refine seq_cut (fun σ H3 => ∃ q vs, σ = [some (.ref a), some (.int c), some (.ref p), v3, some (.int (3 + (i : Int))), some (.int d), some (.ref q), v7] ∧ Same H2 H3 ∧ H3 q = some (.lst vs) ∧ vs.length = 4 ∧ ∀ v ∈ vs, ∃ (r : Addr) (l : List Int), v = .ref r ∧ H3 r = some (.lst (List.map V.int l)) ∧ l.length ≤ 6) ?_ (fun C hC => ?_)
      rotate_left
      · walk_at "vc"
        intro p1 J1 t1 m1 k1
        refine ⟨_, rfl, by decide +kernel, fun J2 p2 t2 m2 k2 => ⟨p2, rfl, _, t2 _ _ k1, _, k2, by rw [List.length_map]; exact cnt_le (by decide +kernel), fun p3 J3 t3 m3 k3 => ?_⟩⟩
        refine ⟨_, rfl, by decide +kernel, fun J4 p4 t4 m4 k4 => ⟨_, rfl, by decide +kernel, fun J5 p5 t5 m5 k5 p6 J6 t6 m6 k6 => ⟨p5, rfl, _, t6 _ _ k5, _, k6, by rw [List.length_map]; exact cnt_le (show (cds (Str.ofString "CEND")).length + 2 ≤ 2000000 by decide +kernel), fun p7 J7 t7 m7 k7 => ?_⟩⟩⟩
        refine ⟨_, rfl, by decide +kernel, fun J8 p8 t8 m8 k8 p9 J9 t9 m9 k9 => hC _ _ ⟨p9, _, rfl, t1.trans (t2.trans (t3.trans (t4.trans (t5.trans (t6.trans (t7.trans (t8.trans t9))))))), k9, rfl, ?_⟩⟩
        have e1 : cds (Str.ofString "FOL") = [70, 79, 76] := by decide +kernel
        have e2 : cds (Str.ofString "CRT1") = [67, 82, 84, 49] := by decide +kernel
        have e3 : cds (Str.ofString "CEND") = [67, 69, 78, 68] := by decide +kernel
        have e4 : cds (Str.ofString "CRT") = [67, 82, 84] := by decide +kernel
        rw [e1] at k3
        rw [e2] at k4
        rw [e3] at k7
        rw [e4] at k8
        intro v hv
        simp only [List.mem_cons, List.not_mem_nil, or_false] at hv
        rcases hv with rfl | rfl | rfl | rfl
        · exact ⟨p3, [37, 70, 79, 76], rfl, (t4.trans (t5.trans (t6.trans (t7.trans (t8.trans t9))))) _ _ k3, by decide⟩
        · exact ⟨p4, _, rfl, (t5.trans (t6.trans (t7.trans (t8.trans t9)))) _ _ k4, by decide⟩
        · exact ⟨p7, [67, 69, 78, 68, d / 3 % 4, 0], rfl, (t8.trans t9) _ _ k7, Nat.le_refl 6⟩
        · exact ⟨p8, _, rfl, t9 _ _ k8, by decide⟩
      rintro σ H3 ⟨q4, vs, rfl, s23, gq, hv4, hv⟩
      refine seq_cut (fun σ H4 => ∃ (r : Addr) (l : List Int), σ = [some (.ref a), some (.int c), some (.ref p), v3, some (.int (3 + (i : Int))), some (.int d), some (.ref q4), some (.ref r)] ∧ Same H3 H4 ∧ H4 r = some (.lst (List.map V.int l)) ∧ l.length ≤ 6) ?_ (fun C hC => ?_)
      rotate_left
      · walk_at "vc gq"
        obtain ⟨j, hj⟩ := natOf (show 0 ≤ d % 4 by omega)
        have hj4 : j < vs.length := by omega
        obtain ⟨r, l, e, gr, hl⟩ := hv vs[j] (List.getElem_mem hj4)
        refine ⟨.ref r, by rw [hj, ← e]; exact atI_nat (List.getElem?_eq_getElem hj4), hC _ _ ⟨r, l, rfl, Same.refl _, gr, hl⟩⟩
      rintro σ H4 ⟨r, l, rfl, s34, gr, hl⟩
      refine seq_cut (fun σ H5 => ∃ (r : Addr) (l : List Int), σ = [some (.ref a), some (.int c), some (.ref p), v3, some (.int (3 + (i : Int))), some (.int d), some (.ref q4), some (.ref r)] ∧ Same H4 H5 ∧ H5 r = some (.lst (List.map V.int l)) ∧ l.length ≤ 10) ?_ (fun C hC => ?_)
      rotate_left
      · walk_at "vc gr"
        refine iteP (fun z => ?_) (fun z => hC _ _ ⟨r, l, rfl, Same.refl _, gr, by omega⟩)
        refine ⟨_, (s23.trans s34) _ _ gp, by omega, _, 4, rfl, by decide, fun J1 p1 y t1 m1 k1 hy => ⟨p1, rfl, _, t1 _ _ gr, _, k1, by rw [List.length_map, List.length_map]; exact cnt_le (by omega), fun p2 J2 t2 m2 k2 => ?_⟩⟩
        rw [map_cat] at k2
        exact hC _ _ ⟨p2, _, rfl, t1.trans t2, k2, by rw [List.length_append]; omega⟩
      rintro σ H5 ⟨r, l, rfl, s45, gr, hl⟩
      refine seq_cut (fun σ H6 => ∃ t : Nat, t ≤ xs.length ∧ σ = [some (.ref a), some (.int c), some (.ref p), some (.int (t : Int)), some (.int (3 + (i : Int))), some (.int d), some (.ref q4), some (.ref r)] ∧ H5 = H6) ?_ (fun C hC => ?_)
      rotate_left
      · walk_at "vc"
        refine ⟨_, (s23.trans (s34.trans s45)) _ _ gp, by omega, ?_⟩
        have hb := mod_in (d / 64) (show (0 : Int) < (xs.length : Int) + 1 by omega)
        rw [List.length_map]
        obtain ⟨t, ht⟩ := natOf hb.1
        rw [ht] at hb ⊢
        exact hC _ _ ⟨t, by omega, rfl, rfl⟩
      rintro σ _ ⟨t, ht, rfl, rfl⟩
      refine seq_cut (fun σ H6 => ∃ t : Nat, t ≤ xs.length ∧ σ = [some (.ref a), some (.int c), some (.ref p), some (.int (t : Int)), some (.int (3 + (i : Int))), some (.int d), some (.ref q4), some (.ref r)] ∧ H5 = H6) ?_ (fun C hC => ?_)
      rotate_left
      · walk_at "vc"
        refine iteP (fun z => ?_) (fun z => hC _ _ ⟨t, ht, rfl, rfl⟩)
        refine ⟨_, (s23.trans (s34.trans s45)) _ _ gp, ?_⟩
        rw [List.length_map]
        have hb : 0 ≤ mx 0 (mn (xs.length : Int) (1018 + d / 64 % 10)) ∧ mx 0 (mn (xs.length : Int) (1018 + d / 64 % 10)) ≤ xs.length := by
          unfold mx mn
          split <;> split <;> omega
        obtain ⟨t, ht⟩ := natOf hb.1
        rw [ht] at hb ⊢
        exact hC _ _ ⟨t, by omega, rfl, rfl⟩
      rintro σ _ ⟨t, ht, rfl, rfl⟩
      refine seq_cut (fun σ H6 => ∃ t : Nat, t ≤ xs.length ∧ σ = [some (.ref a), some (.int c), some (.ref p), some (.int (t : Int)), some (.int (3 + (i : Int))), some (.int d), some (.ref q4), some (.ref r)] ∧ H5 = H6) ?_ (fun C hC => ?_)
      rotate_left
      · walk_at "vc"
        refine iteP (fun z => ?_) (fun z => hC _ _ ⟨t, ht, rfl, rfl⟩)
        refine ⟨_, (s23.trans (s34.trans s45)) _ _ gp, ?_⟩
        rw [List.length_map]
        exact hC _ _ ⟨xs.length, Nat.le_refl _, rfl, rfl⟩
      rintro σ _ ⟨t, ht, rfl, rfl⟩
      have s25 := s23.trans (s34.trans s45)
      walk_at "vc"
      refine ⟨p, r, xs, l, t, rfl, s25 _ _ gp, gr, by omega, by omega, ht, fun J1 p1 y t1 m1 k1 hy => ?_⟩
      exact ⟨p1, rfl, sm.trans (s25.trans t1), (sm.trans s25).free m1, _, k1, by omega⟩
    · rintro σ H2 ⟨p, v3, v4, v5, v6, v7, xs, rfl, sm, np, gp, hx⟩
      walk_at "vc"
      exact q H2 p xs sm np gp (by omega)
def spLaw (K : PySem.W.Frag) : Sp := fun vs H Q _ => ∃ (a : Addr) (ns : List Int), vs = [.ref a] ∧ SqL K H a (ns.map V.int) ∧ ns.length ≤ 63 ∧ ∀ H', Q (.bl true) H'
theorem ok_law_of {f : Addr} {fd : FuncData} (F : Fun K "law" "law" s_law f fd) (T : Txt K mg) : FnOk P w K mg base CX0 5 f fd ["script"] (spLaw K) := by
  refine F.ok sc_law (fun vs H Q E h => ?_) (fun cdv A outer s H vs Q E hr h => ?_)
  · obtain ⟨a, ns, rfl, _⟩ := h
    rfl
  · obtain ⟨a, ns, rfl, hS, hlen, q⟩ := h
    refine ⟨_, (pss_cons (ps_if (PW.pt (pw_or (pt_not (pt_val (pe_callB call_isiTK (by rfl) T.z_isinstance (by decide +kernel) (pa_cons (pe_glob (v := .ref T.a_KINDS) (by rfl) T.c_KINDS rfl) (pa_cons (pe_bltn (v := .ty "tuple") (u := .type "tuple") (by rfl) T.z_tuple (by decide +kernel) rfl) pa_nil))))) (pw_or1 (pt_cmpR (op_neSK hr.units) (pe_glob (v := .ref T.a_KINDS) (by rfl) T.c_KINDS rfl) (pe_tupS (pa_cons pe_str (pa_cons pe_str (pa_cons pe_str (pa_cons pe_str (pa_cons pe_str (pa_cons pe_str pa_nil))))))) (nomark _))))) (pss_one (ps_ret pe_bl)) pss_nil)
      (pss_cons (ps_set (i := 1) sc_law.nd rfl (Or.inl rfl) (pe_call (ok__law_list T a ns) (hr.mono (by decide)) (by rfl) T.g__law_list T.F__law_list.kp T.b__law_list .nil pass0 (pa_cons (pv 0) pa_nil)))
      (pss_cons (ps_set (i := 2) sc_law.nd rfl (Or.inl rfl) (pe_callTy call_listS (by rfl) T.z_list (by decide +kernel) (pa_cons (pv 1) pa_nil)))
      (pss_cons (ps_asg (pe_call (ok__law_kinds T) (hr.mono (by decide)) (by rfl) T.g__law_kinds T.F__law_kinds.kp T.b__law_kinds .nil pass0 (pa_cons (pv 1) pa_nil)) (pg_tupS (n := 2) (by rfl) (pgs_cons (pg_name (i := 3) sc_law.nd rfl (Or.inl rfl)) (pgs_cons (pg_name (i := 4) sc_law.nd rfl (Or.inl rfl)) pgs_nil))))
      (pss_cons (ps_set (i := 5) sc_law.nd rfl (Or.inl rfl) (pe_call (ok_possible_kinds T) (hr.mono (by decide)) (by rfl) T.g_possible_kinds T.F_possible_kinds.kp T.b_possible_kinds .nil pass0 (pa_cons (pv 2) pa_nil)))
      (pss_cons (ps_if (PW.pt (pw_or (pt_not (pt_val (pe_callB call_isiB (by rfl) T.z_isinstance (by decide +kernel) (pa_cons (pv 5) (pa_cons (pe_bltn (v := .ty "list") (u := .type "list") (by rfl) T.z_list (by decide +kernel) rfl) pa_nil))))) (pw_or (pt_cmpR (op_neC hr.units (cod_lst cod_str) (by decide)) (pv 5) (pv 3) (nomark _)) (pw_or1 (pt_cmpR (op_neIL hr.units) (pv 2) (pv 1) (nomark _)))))) (pss_one (ps_ret pe_bl)) pss_nil)
      (pss_cons (ps_set (i := 6) sc_law.nd rfl (Or.inl rfl) (pe_call (ok_kind_of T) hr (by rfl) T.g_kind_of T.F_kind_of.kp T.b_kind_of .nil pass0 (pa_cons (pv 2) pa_nil)))
      (pss_one (ps_ret (pe_and (pe_callB call_isiB (by rfl) T.z_isinstance (by decide +kernel) (pa_cons (pv 6) (pa_cons (pe_bltn (v := .ty "str") (u := .type "str") (by rfl) T.z_str (by decide +kernel) rfl) pa_nil))) (pe_and (pe_cmpR op_eq (pv 6) (pv 4) (nomark _)) (pe_one (pe_cmpR (op_eqIL hr.units) (pv 2) (pv 1) (nomark _)))))))))))))), ?_⟩
    walk_at "vc"
    refine ⟨⟨_, T.q_KINDS _⟩, fun p0 H0 s0 n0 g0 => ?_⟩
    have hk : [V.str (Str.ofString "still"), V.str (Str.ofString "picture"), V.str (Str.ofString "film"), V.str (Str.ofString "sheet"), V.str (Str.ofString "folio"), V.str (Str.ofString "crate")] = List.map vS kds := rfl
    rw [hk] at g0
    refine ⟨kds, T.q_KINDS _, kds, g0, iteF' (by rw [decide_eq_true rfl]; rfl) ?_⟩
    refine ⟨rfl, s0.seq hS, hlen, fun H1 p1 xs s1 n1 g1 hx => ⟨p1, rfl, _, g1, fun p2 H2 s2 n2 g2 => ?_⟩⟩
    have g12 := s2 _ _ g1
    refine ⟨p1, xs, rfl, g12, by omega, fun H3 p3 k3 s3 n3 g3 gk3 => ⟨p3, rfl, _, g3, rfl, _, _, rfl, _, _, rfl, rfl, ?_⟩⟩
    refine ⟨p2, xs, rfl, s3 _ _ g2, by omega, fun H4 p4 s4 n4 g4 => ?_⟩
    refine .inr (.inl ⟨p4, rfl, ⟨_, g4⟩, _, strL g4, _, strL (s4 _ _ gk3), iteF' (by rw [decide_eq_true rfl]; rfl) ?_⟩)
    have s14 := s2.trans (s3.trans s4)
    refine ⟨p1, rfl, _, (s3.trans s4) _ _ g2, _, s14 _ _ g1, iteF' (by rw [decide_eq_true rfl]; rfl) ?_⟩
    refine ⟨p2, xs, rfl, (s3.trans s4) _ _ g2, by omega, fun H5 s5 => ?_⟩
    refine .inl ⟨_, rfl, true, by decide +kernel, iteT' rfl ⟨rfl, iteP (fun _ => ?_) (fun z => absurd rfl z)⟩⟩
    refine ⟨p1, rfl, _, ((s3.trans s4).trans s5) _ _ g2, _, (s14.trans s5) _ _ g1, ?_⟩
    rw [decide_eq_true rfl]
    exact q _

end
theorem all_mk {l : PySem.W.OpenLaw} {w : World} {K : PySem.W.Frag} {h : Heap} {mg : Str → Option Value} {fa : Addr} (X : K.In h) (G : h.Ns mainGlobals mg) (hfa : mg "law" = some (.ref fa))
    {f1 : Addr} {od1 an1 : Option Addr} {sl1 : Array (Option Value)} {oc1 kV1 dc1 pm1 cd1 ct1 : Value}
    (a1 : PySem.W.nsIn K mainGlobals "stands" = some (some (.ref f1))) (l1 : K.lookup f1 = some ⟨oc1, od1, .func (PySem.W.fnOf "stands" "stands" (defArgs s_stands) (defBody s_stands) (defScope s_stands) .none kV1 dc1 pm1 an1 cd1 ct1), sl1⟩) (c1 : PySem.W.codeIn K cd1 "stands" = true) (k1 : PySem.W.keepIn K (.ref f1) = true)
    {f2 : Addr} {od2 an2 : Option Addr} {sl2 : Array (Option Value)} {oc2 kV2 dc2 pm2 cd2 ct2 : Value}
    (a2 : PySem.W.nsIn K mainGlobals "read_low_first" = some (some (.ref f2))) (l2 : K.lookup f2 = some ⟨oc2, od2, .func (PySem.W.fnOf "read_low_first" "read_low_first" (defArgs s_read_low_first) (defBody s_read_low_first) (defScope s_read_low_first) .none kV2 dc2 pm2 an2 cd2 ct2), sl2⟩) (c2 : PySem.W.codeIn K cd2 "read_low_first" = true) (k2 : PySem.W.keepIn K (.ref f2) = true)
    {f3 : Addr} {od3 an3 : Option Addr} {sl3 : Array (Option Value)} {oc3 kV3 dc3 pm3 cd3 ct3 : Value}
    (a3 : PySem.W.nsIn K mainGlobals "possible_kinds" = some (some (.ref f3))) (l3 : K.lookup f3 = some ⟨oc3, od3, .func (PySem.W.fnOf "possible_kinds" "possible_kinds" (defArgs s_possible_kinds) (defBody s_possible_kinds) (defScope s_possible_kinds) .none kV3 dc3 pm3 an3 cd3 ct3), sl3⟩) (c3 : PySem.W.codeIn K cd3 "possible_kinds" = true) (k3 : PySem.W.keepIn K (.ref f3) = true)
    {f4 : Addr} {od4 an4 : Option Addr} {sl4 : Array (Option Value)} {oc4 kV4 dc4 pm4 cd4 ct4 : Value}
    (a4 : PySem.W.nsIn K mainGlobals "kind_of" = some (some (.ref f4))) (l4 : K.lookup f4 = some ⟨oc4, od4, .func (PySem.W.fnOf "kind_of" "kind_of" (defArgs s_kind_of) (defBody s_kind_of) (defScope s_kind_of) .none kV4 dc4 pm4 an4 cd4 ct4), sl4⟩) (c4 : PySem.W.codeIn K cd4 "kind_of" = true) (k4 : PySem.W.keepIn K (.ref f4) = true)
    {f5 : Addr} {od5 an5 : Option Addr} {sl5 : Array (Option Value)} {oc5 kV5 dc5 pm5 cd5 ct5 : Value}
    (a5 : PySem.W.nsIn K mainGlobals "_sign_place" = some (some (.ref f5))) (l5 : K.lookup f5 = some ⟨oc5, od5, .func (PySem.W.fnOf "_sign_place" "_sign_place" (defArgs s__sign_place) (defBody s__sign_place) (defScope s__sign_place) .none kV5 dc5 pm5 an5 cd5 ct5), sl5⟩) (c5 : PySem.W.codeIn K cd5 "_sign_place" = true) (k5 : PySem.W.keepIn K (.ref f5) = true)
    {f6 : Addr} {od6 an6 : Option Addr} {sl6 : Array (Option Value)} {oc6 kV6 dc6 pm6 cd6 ct6 : Value}
    (a6 : PySem.W.nsIn K mainGlobals "find_end" = some (some (.ref f6))) (l6 : K.lookup f6 = some ⟨oc6, od6, .func (PySem.W.fnOf "find_end" "find_end" (defArgs s_find_end) (defBody s_find_end) (defScope s_find_end) .none kV6 dc6 pm6 an6 cd6 ct6), sl6⟩) (c6 : PySem.W.codeIn K cd6 "find_end" = true) (k6 : PySem.W.keepIn K (.ref f6) = true)
    {f7 : Addr} {od7 an7 : Option Addr} {sl7 : Array (Option Value)} {oc7 kV7 dc7 pm7 cd7 ct7 : Value}
    (a7 : PySem.W.nsIn K mainGlobals "_law_cell" = some (some (.ref f7))) (l7 : K.lookup f7 = some ⟨oc7, od7, .func (PySem.W.fnOf "_law_cell" "_law_cell" (defArgs s__law_cell) (defBody s__law_cell) (defScope s__law_cell) .none kV7 dc7 pm7 an7 cd7 ct7), sl7⟩) (c7 : PySem.W.codeIn K cd7 "_law_cell" = true) (k7 : PySem.W.keepIn K (.ref f7) = true)
    {f8 : Addr} {od8 an8 : Option Addr} {sl8 : Array (Option Value)} {oc8 kV8 dc8 pm8 cd8 ct8 : Value}
    (a8 : PySem.W.nsIn K mainGlobals "_law_row" = some (some (.ref f8))) (l8 : K.lookup f8 = some ⟨oc8, od8, .func (PySem.W.fnOf "_law_row" "_law_row" (defArgs s__law_row) (defBody s__law_row) (defScope s__law_row) .none kV8 dc8 pm8 an8 cd8 ct8), sl8⟩) (c8 : PySem.W.codeIn K cd8 "_law_row" = true) (k8 : PySem.W.keepIn K (.ref f8) = true)
    {f9 : Addr} {od9 an9 : Option Addr} {sl9 : Array (Option Value)} {oc9 kV9 dc9 pm9 cd9 ct9 : Value}
    (a9 : PySem.W.nsIn K mainGlobals "_law_low" = some (some (.ref f9))) (l9 : K.lookup f9 = some ⟨oc9, od9, .func (PySem.W.fnOf "_law_low" "_law_low" (defArgs s__law_low) (defBody s__law_low) (defScope s__law_low) .none kV9 dc9 pm9 an9 cd9 ct9), sl9⟩) (c9 : PySem.W.codeIn K cd9 "_law_low" = true) (k9 : PySem.W.keepIn K (.ref f9) = true)
    {f10 : Addr} {od10 an10 : Option Addr} {sl10 : Array (Option Value)} {oc10 kV10 dc10 pm10 cd10 ct10 : Value}
    (a10 : PySem.W.nsIn K mainGlobals "_law_number" = some (some (.ref f10))) (l10 : K.lookup f10 = some ⟨oc10, od10, .func (PySem.W.fnOf "_law_number" "_law_number" (defArgs s__law_number) (defBody s__law_number) (defScope s__law_number) .none kV10 dc10 pm10 an10 cd10 ct10), sl10⟩) (c10 : PySem.W.codeIn K cd10 "_law_number" = true) (k10 : PySem.W.keepIn K (.ref f10) = true)
    {f11 : Addr} {od11 an11 : Option Addr} {sl11 : Array (Option Value)} {oc11 kV11 dc11 pm11 cd11 ct11 : Value}
    (a11 : PySem.W.nsIn K mainGlobals "_law_codes" = some (some (.ref f11))) (l11 : K.lookup f11 = some ⟨oc11, od11, .func (PySem.W.fnOf "_law_codes" "_law_codes" (defArgs s__law_codes) (defBody s__law_codes) (defScope s__law_codes) .none kV11 dc11 pm11 an11 cd11 ct11), sl11⟩) (c11 : PySem.W.codeIn K cd11 "_law_codes" = true) (k11 : PySem.W.keepIn K (.ref f11) = true)
    {f12 : Addr} {od12 an12 : Option Addr} {sl12 : Array (Option Value)} {oc12 kV12 dc12 pm12 cd12 ct12 : Value}
    (a12 : PySem.W.nsIn K mainGlobals "_law_starts" = some (some (.ref f12))) (l12 : K.lookup f12 = some ⟨oc12, od12, .func (PySem.W.fnOf "_law_starts" "_law_starts" (defArgs s__law_starts) (defBody s__law_starts) (defScope s__law_starts) .none kV12 dc12 pm12 an12 cd12 ct12), sl12⟩) (c12 : PySem.W.codeIn K cd12 "_law_starts" = true) (k12 : PySem.W.keepIn K (.ref f12) = true)
    {f13 : Addr} {od13 an13 : Option Addr} {sl13 : Array (Option Value)} {oc13 kV13 dc13 pm13 cd13 ct13 : Value}
    (a13 : PySem.W.nsIn K mainGlobals "_law_put" = some (some (.ref f13))) (l13 : K.lookup f13 = some ⟨oc13, od13, .func (PySem.W.fnOf "_law_put" "_law_put" (defArgs s__law_put) (defBody s__law_put) (defScope s__law_put) .none kV13 dc13 pm13 an13 cd13 ct13), sl13⟩) (c13 : PySem.W.codeIn K cd13 "_law_put" = true) (k13 : PySem.W.keepIn K (.ref f13) = true)
    {f14 : Addr} {od14 an14 : Option Addr} {sl14 : Array (Option Value)} {oc14 kV14 dc14 pm14 cd14 ct14 : Value}
    (a14 : PySem.W.nsIn K mainGlobals "_law_list" = some (some (.ref f14))) (l14 : K.lookup f14 = some ⟨oc14, od14, .func (PySem.W.fnOf "_law_list" "_law_list" (defArgs s__law_list) (defBody s__law_list) (defScope s__law_list) .none kV14 dc14 pm14 an14 cd14 ct14), sl14⟩) (c14 : PySem.W.codeIn K cd14 "_law_list" = true) (k14 : PySem.W.keepIn K (.ref f14) = true)
    {f15 : Addr} {od15 an15 : Option Addr} {sl15 : Array (Option Value)} {oc15 kV15 dc15 pm15 cd15 ct15 : Value}
    (a15 : PySem.W.nsIn K mainGlobals "_law_first" = some (some (.ref f15))) (l15 : K.lookup f15 = some ⟨oc15, od15, .func (PySem.W.fnOf "_law_first" "_law_first" (defArgs s__law_first) (defBody s__law_first) (defScope s__law_first) .none kV15 dc15 pm15 an15 cd15 ct15), sl15⟩) (c15 : PySem.W.codeIn K cd15 "_law_first" = true) (k15 : PySem.W.keepIn K (.ref f15) = true)
    {f16 : Addr} {od16 an16 : Option Addr} {sl16 : Array (Option Value)} {oc16 kV16 dc16 pm16 cd16 ct16 : Value}
    (a16 : PySem.W.nsIn K mainGlobals "_law_has_end" = some (some (.ref f16))) (l16 : K.lookup f16 = some ⟨oc16, od16, .func (PySem.W.fnOf "_law_has_end" "_law_has_end" (defArgs s__law_has_end) (defBody s__law_has_end) (defScope s__law_has_end) .none kV16 dc16 pm16 an16 cd16 ct16), sl16⟩) (c16 : PySem.W.codeIn K cd16 "_law_has_end" = true) (k16 : PySem.W.keepIn K (.ref f16) = true)
    {f17 : Addr} {od17 an17 : Option Addr} {sl17 : Array (Option Value)} {oc17 kV17 dc17 pm17 cd17 ct17 : Value}
    (a17 : PySem.W.nsIn K mainGlobals "_law_kinds" = some (some (.ref f17))) (l17 : K.lookup f17 = some ⟨oc17, od17, .func (PySem.W.fnOf "_law_kinds" "_law_kinds" (defArgs s__law_kinds) (defBody s__law_kinds) (defScope s__law_kinds) .none kV17 dc17 pm17 an17 cd17 ct17), sl17⟩) (c17 : PySem.W.codeIn K cd17 "_law_kinds" = true) (k17 : PySem.W.keepIn K (.ref f17) = true)
    {f18 : Addr} {od18 an18 : Option Addr} {sl18 : Array (Option Value)} {oc18 kV18 dc18 pm18 cd18 ct18 : Value}
    (a18 : PySem.W.nsIn K mainGlobals "law" = some (some (.ref f18))) (l18 : K.lookup f18 = some ⟨oc18, od18, .func (PySem.W.fnOf "law" "law" (defArgs s_law) (defBody s_law) (defScope s_law) .none kV18 dc18 pm18 an18 cd18 ct18), sl18⟩) (c18 : PySem.W.codeIn K cd18 "law" = true) (k18 : PySem.W.keepIn K (.ref f18) = true)
    {f19 : Addr} {it19 : Array Value} {n19 : Nat} (a19 : PySem.W.nsIn K mainGlobals "KINDS" = some (some (.ref f19))) (l19 : K.lookup f19 = some ⟨.type "tuple", none, .seq it19 n19, #[]⟩) (v19 : Vals [V.str "still", V.str "picture", V.str "film", V.str "sheet", V.str "folio", V.str "crate"] it19.toList)
    {f20 : Addr} {it20 : Array Value} {n20 : Nat} (a20 : PySem.W.nsIn K mainGlobals "STILL_SIGN" = some (some (.ref f20))) (l20 : K.lookup f20 = some ⟨.type "tuple", none, .seq it20 n20, #[]⟩) (v20 : Vals [V.int 115, V.int 116, V.int 105, V.int 108, V.int 108, V.int 32, V.int 49, V.int 10] it20.toList)
    {f21 : Addr} {it21 : Array Value} {n21 : Nat} (a21 : PySem.W.nsIn K mainGlobals "PICTURE_SIGN" = some (some (.ref f21))) (l21 : K.lookup f21 = some ⟨.type "tuple", none, .seq it21 n21, #[]⟩) (v21 : Vals [V.int 137, V.int 73, V.int 77, V.int 71, V.int 13, V.int 10] it21.toList)
    {f22 : Addr} {it22 : Array Value} {n22 : Nat} (a22 : PySem.W.nsIn K mainGlobals "FILM_SIGN" = some (some (.ref f22))) (l22 : K.lookup f22 = some ⟨.type "tuple", none, .seq it22 n22, #[]⟩) (v22 : Vals [V.int 70, V.int 82, V.int 77, V.int 49, V.int 10] it22.toList)
    {f23 : Addr} {it23 : Array Value} {n23 : Nat} (a23 : PySem.W.nsIn K mainGlobals "SHEET_SIGN" = some (some (.ref f23))) (l23 : K.lookup f23 = some ⟨.type "tuple", none, .seq it23 n23, #[]⟩) (v23 : Vals [V.int 115, V.int 104, V.int 101, V.int 101, V.int 116, V.int 32, V.int 49, V.int 10] it23.toList)
    {f24 : Addr} {it24 : Array Value} {n24 : Nat} (a24 : PySem.W.nsIn K mainGlobals "FOLIO_SIGN" = some (some (.ref f24))) (l24 : K.lookup f24 = some ⟨.type "tuple", none, .seq it24 n24, #[]⟩) (v24 : Vals [V.int 37, V.int 70, V.int 79, V.int 76] it24.toList)
    {t25 : Tok} (a25 : PySem.W.nsIn K mainGlobals "_LAST_SIGN_PLACE" = some (some (.int 1023 t25)))
    {f26 : Addr} {it26 : Array Value} {n26 : Nat} (a26 : PySem.W.nsIn K mainGlobals "HEAD_SIGN" = some (some (.ref f26))) (l26 : K.lookup f26 = some ⟨.type "tuple", none, .seq it26 n26, #[]⟩) (v26 : Vals [V.int 67, V.int 82, V.int 84, V.int 49] it26.toList)
    {f27 : Addr} {it27 : Array Value} {n27 : Nat} (a27 : PySem.W.nsIn K mainGlobals "END_SIGN" = some (some (.ref f27))) (l27 : K.lookup f27 = some ⟨.type "tuple", none, .seq it27 n27, #[]⟩) (v27 : Vals [V.int 67, V.int 69, V.int 78, V.int 68] it27.toList)
    {t28 : Tok} (a28 : PySem.W.nsIn K mainGlobals "END_SIZE" = some (some (.int 10 t28)))
    (a29 : PySem.W.nsIn K mainGlobals "abs" = some none)
    (a30 : PySem.W.nsIn K mainGlobals "int" = some none)
    (a31 : PySem.W.nsIn K mainGlobals "isinstance" = some none)
    (a32 : PySem.W.nsIn K mainGlobals "len" = some none)
    (a33 : PySem.W.nsIn K mainGlobals "list" = some none)
    (a34 : PySem.W.nsIn K mainGlobals "max" = some none)
    (a35 : PySem.W.nsIn K mainGlobals "min" = some none)
    (a36 : PySem.W.nsIn K mainGlobals "ord" = some none)
    (a37 : PySem.W.nsIn K mainGlobals "range" = some none)
    (a38 : PySem.W.nsIn K mainGlobals "reversed" = some none)
    (a39 : PySem.W.nsIn K mainGlobals "str" = some none)
    (a40 : PySem.W.nsIn K mainGlobals "tuple" = some none)
    (a41 : PySem.W.nsIn K mainGlobals "zip" = some none)
    : ∃ fd : FuncData, (∀ (s : Shared) (v : Value), BindsTo s fd ⟨[v], []⟩ [("script", v)]) ∧ ∀ base : Heap, K.In base → base.Ns mainGlobals mg → FnOk l.prog w K mg base CX0 5 fa fd ["script"] (spLaw K) := by
  have e := hfa.symm.trans (PySem.W.mg_of X G a18)
  cases e
  have F1 := fun_mk (st := s_stands) l1 c1 k1
  have b1 := F1.binds (ps := ["data", "at", "sign"]) fun _ _ _ _ _ _ us hl => match us, hl with | [_, _, _], _ => rfl
  have F2 := fun_mk (st := s_read_low_first) l2 c2 k2
  have b2 := F2.binds (ps := ["data"]) fun _ _ _ _ _ _ us hl => match us, hl with | [_], _ => rfl
  have F3 := fun_mk (st := s_possible_kinds) l3 c3 k3
  have b3 := F3.binds (ps := ["data"]) fun _ _ _ _ _ _ us hl => match us, hl with | [_], _ => rfl
  have F4 := fun_mk (st := s_kind_of) l4 c4 k4
  have b4 := F4.binds (ps := ["data"]) fun _ _ _ _ _ _ us hl => match us, hl with | [_], _ => rfl
  have F5 := fun_mk (st := s__sign_place) l5 c5 k5
  have b5 := F5.binds (ps := ["data", "sign"]) fun _ _ _ _ _ _ us hl => match us, hl with | [_, _], _ => rfl
  have F6 := fun_mk (st := s_find_end) l6 c6 k6
  have b6 := F6.binds (ps := ["data"]) fun _ _ _ _ _ _ us hl => match us, hl with | [_], _ => rfl
  have F7 := fun_mk (st := s__law_cell) l7 c7 k7
  have b7 := F7.binds (ps := ["script", "k"]) fun _ _ _ _ _ _ us hl => match us, hl with | [_, _], _ => rfl
  have F8 := fun_mk (st := s__law_row) l8 c8 k8
  have b8 := F8.binds (ps := ["cell", "count"]) fun _ _ _ _ _ _ us hl => match us, hl with | [_, _], _ => rfl
  have F9 := fun_mk (st := s__law_low) l9 c9 k9
  have b9 := F9.binds (ps := ["number", "size"]) fun _ _ _ _ _ _ us hl => match us, hl with | [_, _], _ => rfl
  have F10 := fun_mk (st := s__law_number) l10 c10 k10
  have b10 := F10.binds (ps := ["row"]) fun _ _ _ _ _ _ us hl => match us, hl with | [_], _ => rfl
  have F11 := fun_mk (st := s__law_codes) l11 c11 k11
  have b11 := F11.binds (ps := ["text"]) fun _ _ _ _ _ _ us hl => match us, hl with | [_], _ => rfl
  have F12 := fun_mk (st := s__law_starts) l12 c12 k12
  have b12 := F12.binds (ps := []) fun _ _ _ _ _ _ us hl => match us, hl with | [], _ => rfl
  have F13 := fun_mk (st := s__law_put) l13 c13 k13
  have b13 := F13.binds (ps := ["data", "sign", "at"]) fun _ _ _ _ _ _ us hl => match us, hl with | [_, _, _], _ => rfl
  have F14 := fun_mk (st := s__law_list) l14 c14 k14
  have b14 := F14.binds (ps := ["script"]) fun _ _ _ _ _ _ us hl => match us, hl with | [_], _ => rfl
  have F15 := fun_mk (st := s__law_first) l15 c15 k15
  have b15 := F15.binds (ps := ["data", "sign"]) fun _ _ _ _ _ _ us hl => match us, hl with | [_, _], _ => rfl
  have F16 := fun_mk (st := s__law_has_end) l16 c16 k16
  have b16 := F16.binds (ps := ["data"]) fun _ _ _ _ _ _ us hl => match us, hl with | [_], _ => rfl
  have F17 := fun_mk (st := s__law_kinds) l17 c17 k17
  have b17 := F17.binds (ps := ["data"]) fun _ _ _ _ _ _ us hl => match us, hl with | [_], _ => rfl
  have F18 := fun_mk (st := s_law) l18 c18 k18
  have b18 := F18.binds (ps := ["script"]) fun _ _ _ _ _ _ us hl => match us, hl with | [_], _ => rfl
  have T : Txt K mg := ⟨f1, _, F1, b1, PySem.W.mg_of X G a1,
    f2, _, F2, b2, PySem.W.mg_of X G a2,
    f3, _, F3, b3, PySem.W.mg_of X G a3,
    f4, _, F4, b4, PySem.W.mg_of X G a4,
    f5, _, F5, b5, PySem.W.mg_of X G a5,
    f6, _, F6, b6, PySem.W.mg_of X G a6,
    f7, _, F7, b7, PySem.W.mg_of X G a7,
    f8, _, F8, b8, PySem.W.mg_of X G a8,
    f9, _, F9, b9, PySem.W.mg_of X G a9,
    f10, _, F10, b10, PySem.W.mg_of X G a10,
    f11, _, F11, b11, PySem.W.mg_of X G a11,
    f12, _, F12, b12, PySem.W.mg_of X G a12,
    f13, _, F13, b13, PySem.W.mg_of X G a13,
    f14, _, F14, b14, PySem.W.mg_of X G a14,
    f15, _, F15, b15, PySem.W.mg_of X G a15,
    f16, _, F16, b16, PySem.W.mg_of X G a16,
    f17, _, F17, b17, PySem.W.mg_of X G a17,
    fa, _, F18, b18, PySem.W.mg_of X G a18,
    f19, PySem.W.mg_of X G a19, fun H => Or.inr ⟨_, it19, n19, l19, rfl, rfl, by have := v19.length; simp at this; rw [← this]; decide, v19⟩,
    f20, PySem.W.mg_of X G a20, fun H => Or.inr ⟨_, it20, n20, l20, rfl, rfl, by have := v20.length; simp at this; rw [← this]; decide, v20⟩,
    f21, PySem.W.mg_of X G a21, fun H => Or.inr ⟨_, it21, n21, l21, rfl, rfl, by have := v21.length; simp at this; rw [← this]; decide, v21⟩,
    f22, PySem.W.mg_of X G a22, fun H => Or.inr ⟨_, it22, n22, l22, rfl, rfl, by have := v22.length; simp at this; rw [← this]; decide, v22⟩,
    f23, PySem.W.mg_of X G a23, fun H => Or.inr ⟨_, it23, n23, l23, rfl, rfl, by have := v23.length; simp at this; rw [← this]; decide, v23⟩,
    f24, PySem.W.mg_of X G a24, fun H => Or.inr ⟨_, it24, n24, l24, rfl, rfl, by have := v24.length; simp at this; rw [← this]; decide, v24⟩,
    t25, PySem.W.mg_of X G a25,
    f26, PySem.W.mg_of X G a26, fun H => Or.inr ⟨_, it26, n26, l26, rfl, rfl, by have := v26.length; simp at this; rw [← this]; decide, v26⟩,
    f27, PySem.W.mg_of X G a27, fun H => Or.inr ⟨_, it27, n27, l27, rfl, rfl, by have := v27.length; simp at this; rw [← this]; decide, v27⟩,
    t28, PySem.W.mg_of X G a28,
    PySem.W.mg_none_of X G a29,
    PySem.W.mg_none_of X G a30,
    PySem.W.mg_none_of X G a31,
    PySem.W.mg_none_of X G a32,
    PySem.W.mg_none_of X G a33,
    PySem.W.mg_none_of X G a34,
    PySem.W.mg_none_of X G a35,
    PySem.W.mg_none_of X G a36,
    PySem.W.mg_none_of X G a37,
    PySem.W.mg_none_of X G a38,
    PySem.W.mg_none_of X G a39,
    PySem.W.mg_none_of X G a40,
    PySem.W.mg_none_of X G a41⟩
  refine ⟨PySem.W.fnOf "law" "law" (defArgs s_law) (defBody s_law) (defScope s_law) .none kV18 dc18 pm18 an18 cd18 ct18, fun s v => .of_eq rfl, fun base _ _ => ?_⟩
  exact ok_law_of F18 T
end K14
open PySem PySem.W PyProof.Rows
set_option maxRecDepth 100000 in
set_option maxHeartbeats 0 in
theorem PySem.Challenge.cw_stillroom_k14_kinds_of_lists_holds : PySem.Challenge.rw_stillroom_k14_kinds_of_lists.Holds := by
  w_on; o_law; k_head; (case hw => w_witness2)
  k_fill
  refine L2.walk_of (l := PySem.Challenge.rw_stillroom_k14_kinds_of_lists) (n := 63) (k := 5) (x := "script") (CX := fun _ => L2.CX0) (sp := fun w => K14.spLaw _) rfl (by decide) rfl ⟨rfl, by decide, by decide⟩ (fun w h Y => PySem.W.kIn_of Y) ?F (fun _ _ a ns hl _ hS => ⟨a, ns, rfl, hS, hl, fun _ => rfl⟩) (fun _ _ _ _ _ h => h)
  case F =>
    intro w mg fa h KX G hmg
    refine' K14.all_mk KX G hmg ?a1 ?l1 ?c1 ?k1 ?a2 ?l2 ?c2 ?k2 ?a3 ?l3 ?c3 ?k3 ?a4 ?l4 ?c4 ?k4 ?a5 ?l5 ?c5 ?k5 ?a6 ?l6 ?c6 ?k6 ?a7 ?l7 ?c7 ?k7 ?a8 ?l8 ?c8 ?k8 ?a9 ?l9 ?c9 ?k9 ?a10 ?l10 ?c10 ?k10 ?a11 ?l11 ?c11 ?k11 ?a12 ?l12 ?c12 ?k12 ?a13 ?l13 ?c13 ?k13 ?a14 ?l14 ?c14 ?k14 ?a15 ?l15 ?c15 ?k15 ?a16 ?l16 ?c16 ?k16 ?a17 ?l17 ?c17 ?k17 ?a18 ?l18 ?c18 ?k18 ?a19 ?l19 ?v19 ?a20 ?l20 ?v20 ?a21 ?l21 ?v21 ?a22 ?l22 ?v22 ?a23 ?l23 ?v23 ?a24 ?l24 ?v24 ?a25 ?a26 ?l26 ?v26 ?a27 ?l27 ?v27 ?a28 ?a29 ?a30 ?a31 ?a32 ?a33 ?a34 ?a35 ?a36 ?a37 ?a38 ?a39 ?a40 ?a41
    (case a1 => k_is)
    (case l1 => k_is)
    (case c1 => k_is)
    (case k1 => k_is)
    (case a2 => k_is)
    (case l2 => k_is)
    (case c2 => k_is)
    (case k2 => k_is)
    (case a3 => k_is)
    (case l3 => k_is)
    (case c3 => k_is)
    (case k3 => k_is)
    (case a4 => k_is)
    (case l4 => k_is)
    (case c4 => k_is)
    (case k4 => k_is)
    (case a5 => k_is)
    (case l5 => k_is)
    (case c5 => k_is)
    (case k5 => k_is)
    (case a6 => k_is)
    (case l6 => k_is)
    (case c6 => k_is)
    (case k6 => k_is)
    (case a7 => k_is)
    (case l7 => k_is)
    (case c7 => k_is)
    (case k7 => k_is)
    (case a8 => k_is)
    (case l8 => k_is)
    (case c8 => k_is)
    (case k8 => k_is)
    (case a9 => k_is)
    (case l9 => k_is)
    (case c9 => k_is)
    (case k9 => k_is)
    (case a10 => k_is)
    (case l10 => k_is)
    (case c10 => k_is)
    (case k10 => k_is)
    (case a11 => k_is)
    (case l11 => k_is)
    (case c11 => k_is)
    (case k11 => k_is)
    (case a12 => k_is)
    (case l12 => k_is)
    (case c12 => k_is)
    (case k12 => k_is)
    (case a13 => k_is)
    (case l13 => k_is)
    (case c13 => k_is)
    (case k13 => k_is)
    (case a14 => k_is)
    (case l14 => k_is)
    (case c14 => k_is)
    (case k14 => k_is)
    (case a15 => k_is)
    (case l15 => k_is)
    (case c15 => k_is)
    (case k15 => k_is)
    (case a16 => k_is)
    (case l16 => k_is)
    (case c16 => k_is)
    (case k16 => k_is)
    (case a17 => k_is)
    (case l17 => k_is)
    (case c17 => k_is)
    (case k17 => k_is)
    (case a18 => k_is)
    (case l18 => k_is)
    (case c18 => k_is)
    (case k18 => k_is)
    (case a19 => k_is)
    (case l19 => k_is)
    (case v19 => repeat' first | exact Paired.nil | refine Paired.cons ⟨_, rfl⟩ ?_)
    (case a20 => k_is)
    (case l20 => k_is)
    (case v20 => repeat' first | exact Paired.nil | refine Paired.cons ⟨_, rfl⟩ ?_)
    (case a21 => k_is)
    (case l21 => k_is)
    (case v21 => repeat' first | exact Paired.nil | refine Paired.cons ⟨_, rfl⟩ ?_)
    (case a22 => k_is)
    (case l22 => k_is)
    (case v22 => repeat' first | exact Paired.nil | refine Paired.cons ⟨_, rfl⟩ ?_)
    (case a23 => k_is)
    (case l23 => k_is)
    (case v23 => repeat' first | exact Paired.nil | refine Paired.cons ⟨_, rfl⟩ ?_)
    (case a24 => k_is)
    (case l24 => k_is)
    (case v24 => repeat' first | exact Paired.nil | refine Paired.cons ⟨_, rfl⟩ ?_)
    (case a25 => k_is)
    (case a26 => k_is)
    (case l26 => k_is)
    (case v26 => repeat' first | exact Paired.nil | refine Paired.cons ⟨_, rfl⟩ ?_)
    (case a27 => k_is)
    (case l27 => k_is)
    (case v27 => repeat' first | exact Paired.nil | refine Paired.cons ⟨_, rfl⟩ ?_)
    (case a28 => k_is)
    (case a29 => k_is)
    (case a30 => k_is)
    (case a31 => k_is)
    (case a32 => k_is)
    (case a33 => k_is)
    (case a34 => k_is)
    (case a35 => k_is)
    (case a36 => k_is)
    (case a37 => k_is)
    (case a38 => k_is)
    (case a39 => k_is)
    (case a40 => k_is)
    (case a41 => k_is)

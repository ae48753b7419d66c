

import PyProof.Rows.All
import Wide.All
import OpenK.AllK
import Wide.FinOn
import HandS.ForMost
import HandS.Wide
import HandS.IsInst
import HandS.FStr
import HandS.Zip
import HandS.CallLocal
import PySem.Challenge.RW_stillroom_k10_predicted_rows
set_option Elab.async false
set_option linter.all false
set_option maxRecDepth 100000
namespace K10
open PySem PySem.Spec PyProof.Rows L2

/-! ### rules with plainer readings -/
section
variable {X : Cx}
theorem CallR.of {f : Value} {r r' : List V → Hp → VK → Prop} (h : CallR X f r) (k : ∀ xs H Q, r' xs H Q → r xs H Q) : CallR X f r' := fun pins s σ H xs us Q I rv q => h pins s σ H xs us Q I rv (k xs H Q q)
theorem OpR.of {f : Value → Value → Sem Value} {r r' : R2} (h : OpR X f r) (k : ∀ x y H Q, r' x y H Q → r x y H Q) : OpR X f r' := fun pins s σ H x y v u Q I rx ry q => h pins s σ H x y v u Q I rx ry (k x y H Q q)
/-- the name of a plain value's type -/
def tnm : V → Option String
  | .non => some "NoneType"
  | .bl _ => some "bool"
  | .int _ => some "int"
  | .str _ => some "str"
  | _ => none
theorem tnm_int (i : Int) : tnm (.int i) = some "int" := rfl
theorem tnm_bl (b : Bool) : tnm (.bl b) = some "bool" := rfl
theorem tnm_str (x : Str) : tnm (.str x) = some "str" := rfl
theorem tnm_non : tnm .non = some "NoneType" := rfl
theorem tnm_ref (p : Addr) : tnm (.ref p) = none := rfl
theorem scal_ii (i j : Int) : scal (.int i) (.int j) = true := rfl
theorem scal_ss (i j : Str) : scal (.str i) (.str j) = true := rfl
theorem scal_bb (i j : Bool) : scal (.bl i) (.bl j) = true := rfl
theorem scal_nn : scal .non .non = true := rfl
theorem scal_in (i : Int) : scal (.int i) .non = true := rfl
theorem scal_ni (i : Int) : scal .non (.int i) = true := rfl
def rIsiB : List V → Hp → VK → Prop := fun vs H Q => (∃ x n a b, vs = [x, .ty n] ∧ tnm x = some a ∧ kitB a n = some b ∧ Q (.bl b) H) ∨
  (∃ p n xs b, vs = [.ref p, .ty n] ∧ H p = some (.lst xs) ∧ kitB "list" n = some b ∧ Q (.bl b) H) ∨ ∃ p n xs b, vs = [.ref p, .ty n] ∧ H p = some (.tup xs) ∧ kitB "tuple" n = some b ∧ Q (.bl b) H
theorem call_isiB : CallR X (.builtin "isinstance") rIsiB := CallR.of call_isi (by
  intro vs H Q h
  rcases h with ⟨x, n, a, b, rfl, ha, hb, q⟩ | ⟨p, n, xs, b, rfl, ha, hb, q⟩ | ⟨p, n, xs, b, rfl, ha, hb, q⟩
  · refine ⟨x, .ty n, .type a, .type n, b, rfl, .ty n, ?_, kit_ty hb, q⟩
    cases x <;> cases ha
    · exact .base .non
    · exact .base (.bl _)
    · exact .base (.int _)
    · exact .base (.str _)
  · exact ⟨.ref p, .ty n, .type "list", .type n, b, rfl, .ty n, .base (.lst ha), kit_ty hb, q⟩
  · exact ⟨.ref p, .ty n, .type "tuple", .type n, b, rfl, .ty n, .base (.tup ha), kit_ty hb, q⟩)
theorem kb1 : kitB "int" "int" = some true := by decide +kernel
theorem kb2 : kitB "int" "bool" = some false := by decide +kernel
theorem kb3 : kitB "bool" "bool" = some true := by decide +kernel
theorem kb4 : kitB "bool" "int" = some true := by decide +kernel
theorem kb5 : kitB "str" "str" = some true := by decide +kernel
theorem kb6 : kitB "str" "int" = some false := by decide +kernel
theorem kb7 : kitB "list" "list" = some true := by decide +kernel
theorem kb8 : kitB "tuple" "tuple" = some true := by decide +kernel
theorem kb9 : kitB "NoneType" "int" = some false := by decide +kernel
theorem kb10 : kitB "NoneType" "list" = some false := by decide +kernel
/-- len, a copy, an item of a tracked list -/
def rLenH : List V → Hp → VK → Prop := fun vs H Q => ∃ p xs, vs = [.ref p] ∧ H p = some (.lst xs) ∧ Q (.int xs.length) H
theorem call_lenH : CallR X (.builtin "len") rLenH := CallR.of call_len_seq (by
  rintro vs H Q ⟨p, xs, rfl, h, q⟩
  exact ⟨p, xs, rfl, .inl (.inl (.inl h)), q⟩)
def rLenT : List V → Hp → VK → Prop := fun vs H Q => ∃ p xs, vs = [.ref p] ∧ H p = some (.tup xs) ∧ Q (.int xs.length) H
theorem call_lenT : CallR X (.builtin "len") rLenT := CallR.of call_len_seq (by
  rintro vs H Q ⟨p, xs, rfl, h, q⟩
  exact ⟨p, xs, rfl, .inr (.inl (.inl h)), q⟩)
def rListH : List V → Hp → VK → Prop := fun vs H Q => ∃ p xs, vs = [.ref p] ∧ H p = some (.lst xs) ∧ ∀ l, H l = none → Q (.ref l) (upd H l (.lst xs))
theorem call_listH : CallR X (.type "list") rListH := CallR.of call_list_of (by
  rintro vs H Q ⟨p, xs, rfl, h, q⟩
  exact ⟨p, xs, rfl, .inl (.inl (.inl h)), q⟩)
theorem ints_dp {K : PySem.W.Frag} {H : Hp} : ∀ ns : List Int, DpAll K H (ns.map V.int) (ns.map PyData.int)
  | [] => .nil
  | n :: r => .cons (.int n) (ints_dp r)
theorem ints_eqv : ∀ ns ms : List Int, PyData.eqvAll (ns.map PyData.int) (ms.map PyData.int) = decide (ns = ms)
  | [], [] => by simp [PyData.eqvAll]
  | [], _ :: _ => by simp [PyData.eqvAll]
  | _ :: _, [] => by simp [PyData.eqvAll]
  | n :: r, m :: q => by
    rw [List.map_cons, List.map_cons, PyData.eqvAll, ints_eqv r q]
    simp only [PyData.eqv, List.cons.injEq, Bool.decide_and]
    by_cases h : n = m <;> simp [h]
theorem ints_lay : ∀ ns : List Int, PyData.canLayAll0 (ns.map PyData.int) = true
  | [] => rfl
  | _ :: r => by rw [List.map_cons, PyData.canLayAll0, ints_lay r]; rfl
theorem ints_depth : ∀ ns : List Int, PyData.depthAll (ns.map PyData.int) = 0
  | [] => rfl
  | _ :: r => by rw [List.map_cons, PyData.depthAll, ints_depth r]; rfl
theorem ints_shaped (ns : List Int) : SeqAt.shaped (.list (ns.map PyData.int)) = true := by
  unfold SeqAt.shaped
  rw [PyData.canLay0, ints_lay, PyData.depth, ints_depth]
  rfl
/-- == and != of two tracked lists of ints -/
def rEqIL : R2 := fun x y H Q => ∃ a b ns ms, x = .ref a ∧ y = .ref b ∧ H a = some (.lst (List.map V.int ns)) ∧ H b = some (.lst (List.map V.int ms)) ∧ Q (.bl (decide (ns = ms))) H
theorem op_eqIL (hu : X.A.units + 64 < cLine) : OpR X (compareOp .Eq) rEqIL := OpR.of (op_eqD hu) (by
  rintro x y H Q ⟨a, b, ns, ms, rfl, rfl, ha, hb, q⟩
  refine ⟨_, _, .lst (.inl (.inl ha)) (ints_dp ns), .lst (.inl (.inl hb)) (ints_dp ms), ints_shaped ns, ints_shaped ms, ?_⟩
  rw [PyData.eqv, ints_eqv]
  exact q)
def rNeIL : R2 := fun x y H Q => ∃ a b ns ms, x = .ref a ∧ y = .ref b ∧ H a = some (.lst (List.map V.int ns)) ∧ H b = some (.lst (List.map V.int ms)) ∧ Q (.bl (!decide (ns = ms))) H
theorem op_neIL (hu : X.A.units + 64 < cLine) : OpR X (compareOp .NotEq) rNeIL := OpR.of (op_neD hu) (by
  rintro x y H Q ⟨a, b, ns, ms, rfl, rfl, ha, hb, q⟩
  refine ⟨_, _, .lst (.inl (.inl ha)) (ints_dp ns), .lst (.inl (.inl hb)) (ints_dp ms), ints_shaped ns, ints_shaped ms, ?_⟩
  rw [PyData.eqv, ints_eqv]
  exact q)
/-- == of two tracked tuples of plain things -/
def dS : V → PyData
  | .int i => .int i
  | .bl b => .bool b
  | _ => .none
def isS : V → Bool
  | .int _ => true
  | .bl _ => true
  | .non => true
  | _ => false
theorem isS_dp {K : PySem.W.Frag} {H : Hp} : ∀ xs : List V, xs.all isS = true → DpAll K H xs (xs.map dS)
  | [], _ => .nil
  | x :: r, h => by
    rw [List.all_cons, Bool.and_eq_true] at h
    refine .cons ?_ (isS_dp r h.2)
    have h1 := h.1
    cases x <;> first | exact .int _ | exact .bl _ | exact .non | cases h1
theorem isS_lay : ∀ xs : List V, PyData.canLayAll0 (xs.map dS) = true
  | [] => rfl
  | x :: r => by rw [List.map_cons, PyData.canLayAll0, isS_lay r]; cases x <;> rfl
theorem isS_depth : ∀ xs : List V, PyData.depthAll (xs.map dS) = 0
  | [] => rfl
  | x :: r => by rw [List.map_cons, PyData.depthAll, isS_depth r]; cases x <;> rfl
theorem isS_shaped (xs : List V) : SeqAt.shaped (.tuple (xs.map dS)) = true := by
  unfold SeqAt.shaped
  rw [PyData.canLay0, isS_lay, PyData.depth, isS_depth]
  rfl
def rEqTS : R2 := fun x y H Q => ∃ a b xs ys, x = .ref a ∧ y = .ref b ∧ H a = some (.tup xs) ∧ H b = some (.tup ys) ∧ xs.all isS = true ∧ ys.all isS = true ∧ Q (.bl (PyData.eqvAll (xs.map dS) (ys.map dS))) H
theorem op_eqTS (hu : X.A.units + 64 < cLine) : OpR X (compareOp .Eq) rEqTS := OpR.of (op_eqD hu) (by
  rintro x y H Q ⟨a, b, xs, ys, rfl, rfl, ha, hb, h1, h2, q⟩
  refine ⟨_, _, .tup (.inl (.inl ha)) (isS_dp xs h1), .tup (.inl (.inl hb)) (isS_dp ys h2), isS_shaped xs, isS_shaped ys, ?_⟩
  rw [PyData.eqv]
  exact q)
theorem dS_int (i : Int) : dS (.int i) = .int i := rfl
theorem dS_bl (b : Bool) : dS (.bl b) = .bool b := rfl
theorem isS_int (i : Int) : isS (.int i) = true := rfl
theorem isS_bl (b : Bool) : isS (.bl b) = true := rfl
theorem eqv_ii (i j : Int) : PyData.eqv (.int i) (.int j) = decide (i = j) := by rw [PyData.eqv]; rfl
theorem eqv_bb (i j : Bool) : PyData.eqv (.bool i) (.bool j) = decide (i = j) := by rw [PyData.eqv]; cases i <;> cases j <;> rfl
theorem eqvAll_nil : PyData.eqvAll [] [] = true := by rw [PyData.eqvAll]
theorem eqvAll_cons (x y : PyData) (xs ys : List PyData) : PyData.eqvAll (x :: xs) (y :: ys) = (PyData.eqv x y && PyData.eqvAll xs ys) := by rw [PyData.eqvAll]
theorem ip_of {op : Operator} {r : R2} (h : OpR X (inplaceOp op) r) : PIp X op r := fun pins s σ H x y v u Q I r1 r2 q => h pins s σ H x y v u Q I r1 r2 q
theorem SlR.of {r r' : V → Option Int → Option Int → Hp → VK → Prop} (h : SlR X r) (k : ∀ x lo hi H Q, r' x lo hi H Q → r x lo hi H Q) : SlR X r' := fun pins s σ H x v vl vu lo hi sl Q I rx hs pl pu q => h pins s σ H x v vl vu lo hi sl Q I rx hs pl pu (k x lo hi H Q q)
/-- a slice of a tracked list -/
def rSlH : V → Option Int → Option Int → Hp → VK → Prop := fun x lo hi H Q => ∃ a xs, x = .ref a ∧ H a = some (.lst xs) ∧ ∀ p, H p = none → Q (.ref p) (upd H p (.lst (cutV xs lo hi)))
theorem sl_listH : SlR X rSlH := SlR.of sl_list (by
  rintro x lo hi H Q ⟨a, xs, rfl, h, q⟩
  exact ⟨a, xs, rfl, .inl (.inl h), q⟩)
/-- == and != of two tracked pairs of a list of ints and an int -/
theorem li_dp {K : PySem.W.Frag} {H : Hp} {q : Addr} {l : Int} {ns : List Int} (hq : H q = some (.lst (List.map V.int ns))) : DpAll K H [.ref q, .int l] [.list (ns.map PyData.int), .int l] := .cons (.lst (.inl (.inl hq)) (ints_dp ns)) (.cons (.int l) .nil)
theorem li_shaped (ns : List Int) (l : Int) : SeqAt.shaped (.tuple [.list (ns.map PyData.int), .int l]) = true := by
  unfold SeqAt.shaped
  rw [PyData.canLay0, PyData.canLayAll0, PyData.canLay0, ints_lay, PyData.canLayAll0, PyData.depth, PyData.depthAll, PyData.depth, ints_depth, PyData.depthAll]
  rfl
theorem li_eqv (ns ms : List Int) (l m : Int) : PyData.eqv (.tuple [.list (ns.map PyData.int), .int l]) (.tuple [.list (ms.map PyData.int), .int m]) = (decide (ns = ms) && decide (l = m)) := by
  rw [PyData.eqv, PyData.eqvAll, PyData.eqvAll, PyData.eqvAll, PyData.eqv, PyData.eqv, ints_eqv, Bool.and_true]
  rfl
def rEqLI : R2 := fun x y H Q => ∃ a b q r l m ns ms, x = .ref a ∧ y = .ref b ∧ H a = some (.tup [.ref q, .int l]) ∧ H b = some (.tup [.ref r, .int m]) ∧ H q = some (.lst (List.map V.int ns)) ∧ H r = some (.lst (List.map V.int ms)) ∧ Q (.bl (decide (ns = ms) && decide (l = m))) H
theorem op_eqLI (hu : X.A.units + 64 < cLine) : OpR X (compareOp .Eq) rEqLI := OpR.of (op_eqD hu) (by
  rintro x y H Q ⟨a, b, q, r, l, m, ns, ms, rfl, rfl, ha, hb, hq, hr, k⟩
  refine ⟨_, _, .tup (.inl (.inl ha)) (li_dp hq), .tup (.inl (.inl hb)) (li_dp hr), li_shaped ns l, li_shaped ms m, ?_⟩
  rw [li_eqv]
  exact k)
def rNeLI : R2 := fun x y H Q => ∃ a b q r l m ns ms, x = .ref a ∧ y = .ref b ∧ H a = some (.tup [.ref q, .int l]) ∧ H b = some (.tup [.ref r, .int m]) ∧ H q = some (.lst (List.map V.int ns)) ∧ H r = some (.lst (List.map V.int ms)) ∧ Q (.bl (!(decide (ns = ms) && decide (l = m)))) H
theorem op_neLI (hu : X.A.units + 64 < cLine) : OpR X (compareOp .NotEq) rNeLI := OpR.of (op_neD hu) (by
  rintro x y H Q ⟨a, b, q, r, l, m, ns, ms, rfl, rfl, ha, hb, hq, hr, k⟩
  refine ⟨_, _, .tup (.inl (.inl ha)) (li_dp hq), .tup (.inl (.inl hb)) (li_dp hr), li_shaped ns l, li_shaped ms m, ?_⟩
  rw [li_eqv]
  exact k)
def rIxH : R2 := fun x y H Q => ∃ p xs i v, x = .ref p ∧ y = .int i ∧ H p = some (.lst xs) ∧ atI xs i = some v ∧ Q v H
theorem IxR.of {r r' : R2} (h : IxR X r) (k : ∀ x y H Q, r' x y H Q → r x y H Q) : IxR X r' := fun va sl pins s σ H x y v u Q I rx ry q hs => h va sl pins s σ H x y v u Q I rx ry (k x y H Q q) hs
theorem ix_listH : IxR X rIxH := IxR.of ix_list (by
  rintro x y H Q ⟨p, xs, i, v, e1, e2, h, h2, q⟩
  exact ⟨p, xs, i, v, e1, e2, .inl (.inl h), h2, q⟩)
def rIxTH : R2 := fun x y H Q => ∃ p xs i v, x = .ref p ∧ y = .int i ∧ H p = some (.tup xs) ∧ atI xs i = some v ∧ Q v H
theorem ix_tupH : IxR X rIxTH := IxR.of ix_tup (by
  rintro x y H Q ⟨p, xs, i, v, e1, e2, h, h2, q⟩
  exact ⟨p, xs, i, v, e1, e2, .inl (.inl h), h2, q⟩)
end
/-- a place in bounds -/
theorem ixN_in {n : Nat} {k : Int} (h0 : 0 ≤ k) (h1 : k < n) : ixN n k = some k.toNat := by
  unfold ixN
  rw [if_pos h0, if_pos h1]
theorem atI_in {xs : List Int} {k : Int} (h0 : 0 ≤ k) (h1 : k < xs.length) : ∃ b, xs[k.toNat]? = some b ∧ atI (xs.map V.int) k = some (.int b) := by
  have h : k.toNat < xs.length := by omega
  refine ⟨xs[k.toNat], List.getElem?_eq_getElem h, ?_⟩
  unfold atI
  rw [List.length_map, ixN_in h0 h1]
  show (xs.map V.int)[k.toNat]? = _
  rw [List.getElem?_map, List.getElem?_eq_getElem h]
  rfl
theorem mod_in (x : Int) {m : Int} (h : 0 < m) : 0 ≤ x % m ∧ x % m < m := ⟨Int.emod_nonneg x (by omega), Int.emod_lt_of_pos x h⟩
theorem atI_c0 {α : Type} (x : α) (xs : List α) : atI (x :: xs) 0 = some x := atI_nat (j := 0) rfl
theorem atI_c1 {α : Type} (x y : α) (xs : List α) : atI (x :: y :: xs) 1 = some y := atI_nat (j := 1) rfl
theorem atI_c2 {α : Type} (x y z : α) (xs : List α) : atI (x :: y :: z :: xs) 2 = some z := atI_nat (j := 2) rfl
theorem atI_c3 {α : Type} (x y z u : α) (xs : List α) : atI (x :: y :: z :: u :: xs) 3 = some u := atI_nat (j := 3) rfl

theorem tyV_upd {K : PySem.W.Frag} {H : Hp} {p : Addr} {xs : List V} : tyV K "list" (.ref p) (upd H p (.lst xs)) = True := eq_true (.inl ⟨rfl, xs, .inl (.inl upd_same)⟩)
theorem nil_sz : (0 ≤ sizeLine) = True := eq_true (Nat.zero_le _)
/-- what a for asks once its walk stands -/
def Loop (J : It) (g : TG) (tb : TS) (D : Ends) (σ : L2.St) (H1 : Hp) : Prop := ∃ W : Nat → Nat → L2.St → Hp → Prop, (∃ m, W 0 m σ H1) ∧ ∀ i m σ H, W i m σ H →
  (J.stop i H ∧ D.nx σ H) ∨ (J.go i H ∧ ∃ N : L2.St → Hp → Prop, (∀ σ' H', N σ' H' → ∃ m', m' < m ∧ W (i + 1) m' σ' H') ∧ ∀ x H', J.yld i H x H' → g x σ H' fun σ2 H2 => tb { D with nx := N, ct := N, bk := D.nx } σ2 H2)
theorem tFor_eq {wi : TI} {g : TG} {tb : TS} {D : Ends} {σ : L2.St} {H : Hp} : tFor wi g tb D σ H = wi σ H fun J H1 => Loop J g tb D σ H1 := rfl
theorem lp_range {n : Nat} {g : TG} {tb : TS} {D : Ends} {σ : L2.St} {H : Hp} (Pv : Nat → L2.St → Hp → Prop) (h0 : Pv 0 σ H)
    (hs : ∀ i σ H, i < n → Pv i σ H → g (.int i) σ H fun σ2 H2 => tb { D with nx := Pv (i + 1), ct := Pv (i + 1), bk := D.nx } σ2 H2) (hd : ∀ σ H, Pv n σ H → D.nx σ H) : Loop (Itr 0 n) g tb D σ H :=
  for_range (lo := 0) Pv h0 (fun i σ H a b => by have := hs i σ H a b; rw [Int.zero_add]; exact this) hd
theorem lp_list {K : PySem.W.Frag} {a : Addr} {xs : List V} {g : TG} {tb : TS} {D : Ends} {σ : L2.St} {H : Hp} (Pv : Nat → L2.St → Hp → Prop) (h0 : Pv 0 σ H) (hl : ∀ i σ H, i ≤ xs.length → Pv i σ H → SqL K H a xs)
    (hs : ∀ i x σ H, xs[i]? = some x → Pv i σ H → g x σ H fun σ2 H2 => tb { D with nx := Pv (i + 1), ct := Pv (i + 1), bk := D.nx } σ2 H2) (hd : ∀ σ H, Pv xs.length σ H → D.nx σ H) : Loop (Itl K a) g tb D σ H := for_list Pv h0 hl hs hd
/-- the same for a comprehension -/
def LcLoop (J : It) (g : TG) (tt : TT) (te : TE) (vs : List Nat) (σ : L2.St) (H1 : Hp) (Q : VK) : Prop := ∀ D, H1 D = none → ∃ W : Nat → Nat → Hp → Prop, (∃ m, W 0 m (upd H1 D (.lst []))) ∧ ∀ i m H, W i m H →
  (J.stop i H ∧ Q (.ref D) H) ∨ (J.go i H ∧ ∃ Nx : Hp → Prop, (∀ H', Nx H' → ∃ m', m' < m ∧ W (i + 1) m' H') ∧ ∀ x H', J.yld i H x H' → g x (wipe σ vs) H' fun σ2 H2 => wipe σ2 vs = wipe σ vs ∧ tt σ2 H2 fun b H3 =>
    if b = true then te σ2 H3 fun y H4 => ∃ acc, H4 D = some (.lst acc) ∧ acc.length < sizeLine ∧ Nx (upd H4 D (.lst (acc ++ [y]))) else Nx H3)
theorem tLc_eq {wi : TI} {g : TG} {tt : TT} {te : TE} {vs : List Nat} {σ : L2.St} {H : Hp} {Q : VK} : tLc wi g tt te vs σ H Q = wi σ H fun J H1 => LcLoop J g tt te vs σ H1 Q := rfl
/-- a comprehension over a list, whose elements leave the heap as it is: L i is what i turns have made -/
theorem lc_pure {K : PySem.W.Frag} {a : Addr} {xs : List V} {g : TG} {tt : TT} {te : TE} {vs : List Nat} {σ : L2.St} {H1 : Hp} {Q : VK} (L : Nat → List V) (hS : SqL K H1 a xs) (h0 : L 0 = [])
    (hs : ∀ i x D, xs[i]? = some x → H1 D = none → g x (wipe σ vs) (upd H1 D (.lst (L i))) fun σ2 H2 => wipe σ2 vs = wipe σ vs ∧ tt σ2 H2 fun b H3 =>
      if b = true then te σ2 H3 fun y H4 => ∃ acc, H4 D = some (.lst acc) ∧ acc.length < sizeLine ∧ upd H4 D (.lst (acc ++ [y])) = upd H1 D (.lst (L (i + 1))) else H3 = upd H1 D (.lst (L (i + 1))))
    (hd : ∀ D, H1 D = none → Q (.ref D) (upd H1 D (.lst (L xs.length)))) : LcLoop (Itl K a) g tt te vs σ H1 Q := by
  intro D hD
  refine lc_list (K := K) (a := a) (xs := xs) (fun i H => H = upd H1 D (.lst (L i))) (by rw [h0]) (fun i H _ e => ?_) (fun i x H hx e => ?_) (fun H e => ?_)
  · subst e
    exact (show Same H1 _ from fun b o e => by rw [upd_ne (ne_of_none e hD)]; exact e).seq hS
  · subst e
    exact hs i x D hx hD
  · subst e
    exact hd D hD
theorem lc_pure_range {n : Nat} {g : TG} {tt : TT} {te : TE} {vs : List Nat} {σ : L2.St} {H1 : Hp} {Q : VK} (L : Nat → List V) (h0 : L 0 = [])
    (hs : ∀ i D, i < n → H1 D = none → g (.int i) (wipe σ vs) (upd H1 D (.lst (L i))) fun σ2 H2 => wipe σ2 vs = wipe σ vs ∧ tt σ2 H2 fun b H3 =>
      if b = true then te σ2 H3 fun y H4 => ∃ acc, H4 D = some (.lst acc) ∧ acc.length < sizeLine ∧ upd H4 D (.lst (acc ++ [y])) = upd H1 D (.lst (L (i + 1))) else H3 = upd H1 D (.lst (L (i + 1))))
    (hd : ∀ D, H1 D = none → Q (.ref D) (upd H1 D (.lst (L n)))) : LcLoop (Itr 0 n) g tt te vs σ H1 Q := by
  intro D hD
  refine lc_range (lo := 0) (n := n) (fun i H => H = upd H1 D (.lst (L i))) (by rw [h0]) (fun i H hi e => ?_) (fun H e => ?_)
  · subst e
    rw [Int.zero_add]
    exact hs i D hi hD
  · subst e
    exact hd D hD
theorem lp_zip {K : PySem.W.Frag} {a b : Addr} {xs ys : List V} {g : TG} {tb : TS} {D : Ends} {σ : L2.St} {H : Hp} (hl : xs.length = ys.length) (Pv : Nat → L2.St → Hp → Prop) (h0 : Pv 0 σ H) (hq : ∀ i σ H, Pv i σ H → SqL K H a xs ∧ SqL K H b ys)
    (hs : ∀ (i : Nat) (x y : V) (T : Addr) (σ : L2.St) (H : Hp), xs[i]? = some x → ys[i]? = some y → Pv i σ H → H T = none → g (.ref T) σ (upd H T (.tup [x, y])) fun σ2 H2 => tb { D with nx := Pv (i + 1), ct := Pv (i + 1), bk := D.nx } σ2 H2) (hd : ∀ σ H, Pv xs.length σ H → D.nx σ H) :
    Loop (Itz K a b) g tb D σ H := RZ.for_zipL hl Pv h0 hq hs hd
theorem lc_str {x : Str} {g : TG} {tt : TT} {te : TE} {vs : List Nat} {σ : L2.St} {H1 : Hp} {Q : VK} (L : Nat → List V) (h0 : L 0 = [])
    (hs : ∀ i c D, x.cps[i]? = some c → H1 D = none → g (.str ⟨#[c]⟩) (wipe σ vs) (upd H1 D (.lst (L i))) fun σ2 H2 => wipe σ2 vs = wipe σ vs ∧ tt σ2 H2 fun b H3 =>
      if b = true then te σ2 H3 fun y H4 => ∃ acc, H4 D = some (.lst acc) ∧ acc.length < sizeLine ∧ upd H4 D (.lst (acc ++ [y])) = upd H1 D (.lst (L (i + 1))) else H3 = upd H1 D (.lst (L (i + 1))))
    (hd : ∀ D, H1 D = none → Q (.ref D) (upd H1 D (.lst (L x.cps.size)))) : LcLoop (Its x) g tt te vs σ H1 Q := by
  intro D hD
  refine ⟨fun i m H => m = x.cps.size - i ∧ i ≤ x.cps.size ∧ H = upd H1 D (.lst (L i)), ⟨x.cps.size, by simp, Nat.zero_le _, by rw [h0]⟩, ?_⟩
  rintro i m H ⟨rfl, hi, rfl⟩
  by_cases hlt : i < x.cps.size
  · refine .inr ⟨hlt, fun H' => H' = upd H1 D (.lst (L (i + 1))), fun H' p' => ⟨x.cps.size - (i + 1), by omega, rfl, hlt, p'⟩, fun v H' y => ?_⟩
    obtain ⟨e, c, hc, ev⟩ := y
    subst e ev
    exact hs i c D hc hD
  · have e : i = x.cps.size := by omega
    subst e
    exact .inl ⟨Nat.le_refl _, hd D hD⟩
theorem lc_rangeC {lo c : Int} {n : Nat} {g : TG} {tt : TT} {te : TE} {vs : List Nat} {σ : L2.St} {H1 : Hp} {Q : VK} (L : Nat → List V) (h0 : L 0 = [])
    (hs : ∀ i D, i < n → H1 D = none → g (.int (lo + (i : Nat) * c)) (wipe σ vs) (upd H1 D (.lst (L i))) fun σ2 H2 => wipe σ2 vs = wipe σ vs ∧ tt σ2 H2 fun b H3 =>
      if b = true then te σ2 H3 fun y H4 => ∃ acc, H4 D = some (.lst acc) ∧ acc.length < sizeLine ∧ upd H4 D (.lst (acc ++ [y])) = upd H1 D (.lst (L (i + 1))) else H3 = upd H1 D (.lst (L (i + 1))))
    (hd : ∀ D, H1 D = none → Q (.ref D) (upd H1 D (.lst (L n)))) : LcLoop (Itc lo c n) g tt te vs σ H1 Q := by
  intro D hD
  refine ⟨fun i m H => m = n - i ∧ i ≤ n ∧ H = upd H1 D (.lst (L i)), ⟨n, by simp, Nat.zero_le _, by rw [h0]⟩, ?_⟩
  rintro i m H ⟨rfl, hi, rfl⟩
  by_cases hlt : i < n
  · refine .inr ⟨hlt, fun H' => H' = upd H1 D (.lst (L (i + 1))), fun H' p' => ⟨n - (i + 1), by omega, rfl, hlt, p'⟩, fun v H' y => ?_⟩
    obtain ⟨e, ev⟩ := y
    subst e ev
    exact hs i D hlt hD
  · have e : i = n := by omega
    subst e
    exact .inl ⟨Nat.le_refl _, hd D hD⟩
theorem small_two {a b : Int} (ha : -(2 ^ 62) ≤ a) (ha' : a < 2 ^ 62) (hb : -(2 ^ 62) ≤ b) (hb' : b < 2 ^ 62) : Builtin.Range.small a b 2 = true := by
  unfold Builtin.Range.small Builtin.Range.rangeSize
  simp only [Builtin.Range.rangeFitsLong, Bool.and_eq_true, Bool.or_eq_true, decide_eq_true_eq, beq_iff_eq, show ((2 : Int) > 0) by decide, if_true]
  split <;> omega
theorem rg_two {n : Nat} (h : n < 1000000) : RgC 0 ((n : Int) - 1) 2 (n / 2) := by
  refine ⟨by decide, by decide, small_two (by decide) (by decide) (by omega) (by omega), ?_⟩
  unfold Builtin.Range.rangeSize
  rw [if_pos (by decide)]
  split <;> omega
theorem wh_by {c : TT} {tb : TS} {D : Ends} {σ : L2.St} {H : Hp} (W : Nat → L2.St → Hp → Prop) (m : Nat) (h0 : W m σ H)
    (hs : ∀ m σ H, W m σ H → c σ H fun b H1 => if b = true then ∃ N : L2.St → Hp → Prop, (∀ σ' H', N σ' H' → ∃ m', m' < m ∧ W m' σ' H') ∧ tb { D with nx := N, ct := N, bk := D.nx } σ H1 else D.nx σ H1) : tWhile c tb D σ H := ⟨W, ⟨m, h0⟩, hs⟩
theorem lc_rng {n : Nat} {g : TG} {tt : TT} {te : TE} {vs : List Nat} {σ : L2.St} {H1 : Hp} {Q : VK} (Pv : Addr → Nat → Hp → Prop) (h0 : ∀ D, H1 D = none → Pv D 0 (upd H1 D (.lst [])))
    (hs : ∀ D i H, i < n → H1 D = none → Pv D i H → g (.int i) (wipe σ vs) H fun σ2 H2 => wipe σ2 vs = wipe σ vs ∧ tt σ2 H2 fun b H3 =>
      if b = true then te σ2 H3 fun y H4 => ∃ acc, H4 D = some (.lst acc) ∧ acc.length < sizeLine ∧ Pv D (i + 1) (upd H4 D (.lst (acc ++ [y]))) else Pv D (i + 1) H3)
    (hd : ∀ D H, H1 D = none → Pv D n H → Q (.ref D) H) : LcLoop (Itr 0 n) g tt te vs σ H1 Q := by
  intro D hD
  refine lc_range (lo := 0) (n := n) (Pv D) (h0 D hD) (fun i H hi p => ?_) (fun H p => hd D H hD p)
  rw [Int.zero_add]
  exact hs D i H hi hD p
theorem same_upd {H : Hp} {p : Addr} {o : HO} (h : H p = none) : Same H (upd H p o) := fun b x e => by
  rw [upd_ne (ne_of_none e h)]
  exact e
theorem same_upd2 {H H' : Hp} {q : Addr} {o : HO} (s : Same H H') (h : H q = none) : Same H (upd H' q o) := fun b x e => by
  rw [upd_ne (ne_of_none e h)]
  exact s b x e
local macro_rules | `(tactic| walk_at "vc") => `(tactic| simp only [tSeq, tAsg, tOp, rI, rI0, rU, tUn, tCB, tCons, tNil, tVar, tC, gName, gSub, rSetL, tRet, tRetN, tIfS, tNext, tTest, tB, tDrop, tIf, tNot, tAnd, tOr, tAndV, tOrV, tNotV, tAug, ipI, tCall, tCmp, t2I, tBreak, tCont, tLst, tTup, tBM, tBM0, rAppend, tyV_upd, rLenH, rLenT, rListH, rIxH, rIxTH, rIxS, rEqIL, rNeIL, rEqTS, rSlH, rRep, rCat, rExtend, tSl, tPart, tNoPart, rIxT, gTup, gCons, gNil, atI_c0, atI_c1, atI_c2, atI_c3, dS_int, dS_bl, isS_int, isS_bl, eqv_ii, eqv_bb, eqvAll_nil, eqvAll_cons, List.all_cons, List.all_nil, Bool.and_true, Bool.true_and, rIsiB, tnm_int, tnm_bl, tnm_str, tnm_non, tnm_ref, kb1, kb2, kb3, kb4, kb5, kb6, kb7, kb8, kb9, kb10, rEq, rNe, scal_ii, scal_ss, scal_bb, scal_nn, scal_in, scal_ni,
  tFor_eq, tLc_eq, iRng1, iRng2, iList, iTup, iZip, iStr, iRng3, tChain, tYes, wipe, tCallL, Int.sub_zero, Int.toNat_natCast, Int.natCast_add,
  cxOf, L2.start, List.map_cons, List.map_nil, List.length_cons, List.length_nil, List.reduceReplicate, List.cons_append, List.nil_append, List.append_nil, List.set_cons_zero, List.set_cons_succ, List.getElem?_cons_zero, List.getElem?_cons_succ,
  upd_same, upd_upd, HO.lst.injEq, HO.tup.injEq, nil_sz,
  Option.some.injEq, V.int.injEq, V.bl.injEq, V.ref.injEq, V.str.injEq, V.ty.injEq, exists_eq_left', exists_eq_left, exists_eq', exists_eq, Int.cast_ofNat_Int, Int.reduceEq, Int.reduceMul, Int.reduceAdd, Int.reduceSub, Int.natCast_zero, Int.mul_zero, Int.add_zero, exists_and_left, exists_and_right, List.cons.injEq, and_true, true_and, and_assoc, reduceCtorEq, false_and, and_false, exists_false, exists_const, or_false, false_or, Nat.reduceAdd, Nat.reduceSub, Int.reduceLT, Int.reduceLE, Int.reduceNeg, Int.reducePow, Int.reduceToNat, ite_true, ite_false, Bool.false_eq_true, Bool.not_true, Bool.not_false, decide_true, decide_false, if_true, if_false])


def topS (i : Nat) : Stmt := PySem.Challenge.pw_stillroom_k10_predicted_rows.main.body.getD i (.Pass ⟨0, 0, 0, 0⟩)
abbrev s_spend : Stmt := topS 1
abbrev s_predict : Stmt := topS 5
abbrev s_unpredict : Stmt := topS 6
abbrev s__bounded : Stmt := topS 7
abbrev s__no_row : Stmt := topS 8
abbrev s__best_row : Stmt := topS 9
abbrev s__weight : Stmt := topS 10
abbrev s__write_row : Stmt := topS 11
abbrev s__read_row : Stmt := topS 12
abbrev s__prediction : Stmt := topS 13
abbrev s__nearest : Stmt := topS 14
abbrev s__law_cell : Stmt := topS 16
abbrev s__law_is_integer : Stmt := topS 17
abbrev s__law_draw : Stmt := topS 18
abbrev s__law_state : Stmt := topS 19
abbrev s__law_is_bytes : Stmt := topS 20
abbrev s__law_rows : Stmt := topS 21
abbrev s__law_prediction : Stmt := topS 22
abbrev s__law_neighbours : Stmt := topS 23
abbrev s__law_due : Stmt := topS 24
abbrev s__law_back : Stmt := topS 25
abbrev s_law : Stmt := topS 26
theorem sc_spend : FnScope ["left", "cost"] ["left", "cost"] (defScope s_spend) := ⟨rfl, rfl, rfl, by decide +kernel, rfl, by decide +kernel, by decide +kernel⟩
theorem sc_predict : FnScope ["data", "width", "found", "before", "at", "row"] ["data", "width"] (defScope s_predict) := ⟨rfl, rfl, rfl, by decide +kernel, rfl, by decide +kernel, by decide +kernel⟩
theorem sc_unpredict : FnScope ["data", "width", "left", "enough", "found", "before", "at"] ["data", "width", "left"] (defScope s_unpredict) := ⟨rfl, rfl, rfl, by decide +kernel, rfl, by decide +kernel, by decide +kernel⟩
theorem sc__bounded : FnScope ["width"] ["width"] (defScope s__bounded) := ⟨rfl, rfl, rfl, by decide +kernel, rfl, by decide +kernel, by decide +kernel⟩
theorem sc__no_row : FnScope ["data", "width"] ["data", "width"] (defScope s__no_row) := ⟨rfl, rfl, rfl, by decide +kernel, rfl, by decide +kernel, by decide +kernel⟩
theorem sc__best_row : FnScope ["row", "before", "best", "least", "method", "written", "weight"] ["row", "before"] (defScope s__best_row) := ⟨rfl, rfl, rfl, by decide +kernel, rfl, by decide +kernel, by decide +kernel⟩
theorem sc__weight : FnScope ["written", "byte"] ["written"] (defScope s__weight) := ⟨rfl, rfl, rfl, by decide +kernel, rfl, by decide +kernel, by decide +kernel⟩
theorem sc__write_row : FnScope ["method", "row", "before", "written", "left", "corner", "byte", "above"] ["method", "row", "before"] (defScope s__write_row) := ⟨rfl, rfl, rfl, by decide +kernel, rfl, by decide +kernel, by decide +kernel⟩
theorem sc__read_row : FnScope ["method", "written", "before", "row", "left", "corner", "byte", "above"] ["method", "written", "before"] (defScope s__read_row) := ⟨rfl, rfl, rfl, by decide +kernel, rfl, by decide +kernel, by decide +kernel⟩
theorem sc__prediction : FnScope ["method", "left", "above", "corner"] ["method", "left", "above", "corner"] (defScope s__prediction) := ⟨rfl, rfl, rfl, by decide +kernel, rfl, by decide +kernel, by decide +kernel⟩
theorem sc__nearest : FnScope ["left", "above", "corner", "aim", "best", "other"] ["left", "above", "corner"] (defScope s__nearest) := ⟨rfl, rfl, rfl, by decide +kernel, rfl, by decide +kernel, by decide +kernel⟩
theorem sc__law_cell : FnScope ["script", "k"] ["script", "k"] (defScope s__law_cell) := ⟨rfl, rfl, rfl, by decide +kernel, rfl, by decide +kernel, by decide +kernel⟩
theorem sc__law_is_integer : FnScope ["actual"] ["actual"] (defScope s__law_is_integer) := ⟨rfl, rfl, rfl, by decide +kernel, rfl, by decide +kernel, by decide +kernel⟩
theorem sc__law_draw : FnScope ["state", "many", "rest"] ["state", "many"] (defScope s__law_draw) := ⟨rfl, rfl, rfl, by decide +kernel, rfl, by decide +kernel, by decide +kernel⟩
theorem sc__law_state : FnScope ["cell", "salt", "rest"] ["cell", "salt"] (defScope s__law_state) := ⟨rfl, rfl, rfl, by decide +kernel, rfl, by decide +kernel, by decide +kernel⟩
theorem sc__law_is_bytes : FnScope ["actual", "byte"] ["actual"] (defScope s__law_is_bytes) := ⟨rfl, rfl, rfl, by decide +kernel, rfl, by decide +kernel, by decide +kernel⟩
theorem sc__law_rows : FnScope ["state", "data", "turn", "how", "start", "step", "count", "k", "byte"] ["state"] (defScope s__law_rows) := ⟨rfl, rfl, rfl, by decide +kernel, rfl, by decide +kernel, by decide +kernel⟩
theorem sc__law_prediction : FnScope ["method", "left", "above", "corner", "best", "other"] ["method", "left", "above", "corner"] (defScope s__law_prediction) := ⟨rfl, rfl, rfl, by decide +kernel, rfl, by decide +kernel, by decide +kernel⟩
theorem sc__law_neighbours : FnScope ["data", "width", "at", "left", "above", "corner"] ["data", "width", "at"] (defScope s__law_neighbours) := ⟨rfl, rfl, rfl, by decide +kernel, rfl, by decide +kernel, by decide +kernel⟩
theorem sc__law_due : FnScope ["data", "width", "found", "row", "best", "method", "out", "at", "left", "above", "corner", "weight", "byte"] ["data", "width"] (defScope s__law_due) := ⟨rfl, rfl, rfl, by decide +kernel, rfl, by decide +kernel, by decide +kernel⟩
theorem sc__law_back : FnScope ["data", "width", "found", "start", "method", "byte", "left", "above", "corner"] ["data", "width"] (defScope s__law_back) := ⟨rfl, rfl, rfl, by decide +kernel, rfl, by decide +kernel, by decide +kernel⟩
theorem sc_law : FnScope ["script", "k", "state", "data", "width", "wide", "handed", "found", "more", "back", "other", "j"] ["script"] (defScope s_law) := ⟨rfl, rfl, rfl, by decide +kernel, rfl, by decide +kernel, by decide +kernel⟩
/-- what the top has left, as far as the walk asks of it -/
structure Txt (K : PySem.W.Frag) (mg : Str → Option Value) where
  f_spend : Addr
  fd_spend : FuncData
  F_spend : Fun K "spend" "spend" s_spend f_spend fd_spend
  b_spend : Binds K fd_spend ["left", "cost"] []
  g_spend : mg "spend" = some (.ref f_spend)
  f_predict : Addr
  fd_predict : FuncData
  F_predict : Fun K "predict" "predict" s_predict f_predict fd_predict
  b_predict : Binds K fd_predict ["data", "width"] []
  g_predict : mg "predict" = some (.ref f_predict)
  f_unpredict : Addr
  fd_unpredict : FuncData
  F_unpredict : Fun K "unpredict" "unpredict" s_unpredict f_unpredict fd_unpredict
  b_unpredict : Binds K fd_unpredict ["data", "width", "left"] []
  g_unpredict : mg "unpredict" = some (.ref f_unpredict)
  f__bounded : Addr
  fd__bounded : FuncData
  F__bounded : Fun K "_bounded" "_bounded" s__bounded f__bounded fd__bounded
  b__bounded : Binds K fd__bounded ["width"] []
  g__bounded : mg "_bounded" = some (.ref f__bounded)
  f__no_row : Addr
  fd__no_row : FuncData
  F__no_row : Fun K "_no_row" "_no_row" s__no_row f__no_row fd__no_row
  b__no_row : Binds K fd__no_row ["data", "width"] []
  g__no_row : mg "_no_row" = some (.ref f__no_row)
  f__best_row : Addr
  fd__best_row : FuncData
  F__best_row : Fun K "_best_row" "_best_row" s__best_row f__best_row fd__best_row
  b__best_row : Binds K fd__best_row ["row", "before"] []
  g__best_row : mg "_best_row" = some (.ref f__best_row)
  f__weight : Addr
  fd__weight : FuncData
  F__weight : Fun K "_weight" "_weight" s__weight f__weight fd__weight
  b__weight : Binds K fd__weight ["written"] []
  g__weight : mg "_weight" = some (.ref f__weight)
  f__write_row : Addr
  fd__write_row : FuncData
  F__write_row : Fun K "_write_row" "_write_row" s__write_row f__write_row fd__write_row
  b__write_row : Binds K fd__write_row ["method", "row", "before"] []
  g__write_row : mg "_write_row" = some (.ref f__write_row)
  f__read_row : Addr
  fd__read_row : FuncData
  F__read_row : Fun K "_read_row" "_read_row" s__read_row f__read_row fd__read_row
  b__read_row : Binds K fd__read_row ["method", "written", "before"] []
  g__read_row : mg "_read_row" = some (.ref f__read_row)
  f__prediction : Addr
  fd__prediction : FuncData
  F__prediction : Fun K "_prediction" "_prediction" s__prediction f__prediction fd__prediction
  b__prediction : Binds K fd__prediction ["method", "left", "above", "corner"] []
  g__prediction : mg "_prediction" = some (.ref f__prediction)
  f__nearest : Addr
  fd__nearest : FuncData
  F__nearest : Fun K "_nearest" "_nearest" s__nearest f__nearest fd__nearest
  b__nearest : Binds K fd__nearest ["left", "above", "corner"] []
  g__nearest : mg "_nearest" = some (.ref f__nearest)
  f__law_cell : Addr
  fd__law_cell : FuncData
  F__law_cell : Fun K "_law_cell" "_law_cell" s__law_cell f__law_cell fd__law_cell
  b__law_cell : Binds K fd__law_cell ["script", "k"] []
  g__law_cell : mg "_law_cell" = some (.ref f__law_cell)
  f__law_is_integer : Addr
  fd__law_is_integer : FuncData
  F__law_is_integer : Fun K "_law_is_integer" "_law_is_integer" s__law_is_integer f__law_is_integer fd__law_is_integer
  b__law_is_integer : Binds K fd__law_is_integer ["actual"] []
  g__law_is_integer : mg "_law_is_integer" = some (.ref f__law_is_integer)
  f__law_draw : Addr
  fd__law_draw : FuncData
  F__law_draw : Fun K "_law_draw" "_law_draw" s__law_draw f__law_draw fd__law_draw
  b__law_draw : Binds K fd__law_draw ["state", "many"] []
  g__law_draw : mg "_law_draw" = some (.ref f__law_draw)
  f__law_state : Addr
  fd__law_state : FuncData
  F__law_state : Fun K "_law_state" "_law_state" s__law_state f__law_state fd__law_state
  b__law_state : Binds K fd__law_state ["cell", "salt"] []
  g__law_state : mg "_law_state" = some (.ref f__law_state)
  f__law_is_bytes : Addr
  fd__law_is_bytes : FuncData
  F__law_is_bytes : Fun K "_law_is_bytes" "_law_is_bytes" s__law_is_bytes f__law_is_bytes fd__law_is_bytes
  b__law_is_bytes : Binds K fd__law_is_bytes ["actual"] []
  g__law_is_bytes : mg "_law_is_bytes" = some (.ref f__law_is_bytes)
  f__law_rows : Addr
  fd__law_rows : FuncData
  F__law_rows : Fun K "_law_rows" "_law_rows" s__law_rows f__law_rows fd__law_rows
  b__law_rows : Binds K fd__law_rows ["state"] []
  g__law_rows : mg "_law_rows" = some (.ref f__law_rows)
  f__law_prediction : Addr
  fd__law_prediction : FuncData
  F__law_prediction : Fun K "_law_prediction" "_law_prediction" s__law_prediction f__law_prediction fd__law_prediction
  b__law_prediction : Binds K fd__law_prediction ["method", "left", "above", "corner"] []
  g__law_prediction : mg "_law_prediction" = some (.ref f__law_prediction)
  f__law_neighbours : Addr
  fd__law_neighbours : FuncData
  F__law_neighbours : Fun K "_law_neighbours" "_law_neighbours" s__law_neighbours f__law_neighbours fd__law_neighbours
  b__law_neighbours : Binds K fd__law_neighbours ["data", "width", "at"] []
  g__law_neighbours : mg "_law_neighbours" = some (.ref f__law_neighbours)
  f__law_due : Addr
  fd__law_due : FuncData
  F__law_due : Fun K "_law_due" "_law_due" s__law_due f__law_due fd__law_due
  b__law_due : Binds K fd__law_due ["data", "width"] []
  g__law_due : mg "_law_due" = some (.ref f__law_due)
  f__law_back : Addr
  fd__law_back : FuncData
  F__law_back : Fun K "_law_back" "_law_back" s__law_back f__law_back fd__law_back
  b__law_back : Binds K fd__law_back ["data", "width"] []
  g__law_back : mg "_law_back" = some (.ref f__law_back)
  f_law : Addr
  fd_law : FuncData
  F_law : Fun K "law" "law" s_law f_law fd_law
  b_law : Binds K fd_law ["script"] []
  g_law : mg "law" = some (.ref f_law)
  t__GREATEST_WIDTH : Tok
  c__GREATEST_WIDTH : mg "_GREATEST_WIDTH" = some (.int 65536 t__GREATEST_WIDTH)
  t__METHODS : Tok
  c__METHODS : mg "_METHODS" = some (.int 5 t__METHODS)
  z_abs : mg "abs" = none
  z_bool : mg "bool" = none
  z_int : mg "int" = none
  z_isinstance : mg "isinstance" = none
  z_len : mg "len" = none
  z_list : mg "list" = none
  z_max : mg "max" = none
  z_min : mg "min" = none
  z_range : mg "range" = none
  z_sum : mg "sum" = none
  z_tuple : mg "tuple" = none
  z_zip : mg "zip" = none
/-! ### the law's own helpers -/
/-- the cell k of the script -/
def cellA (ns : List Int) (k : Nat) : Int := ns.getD k 0
def spCell (K : PySem.W.Frag) : Sp := fun vs H Q _ => ∃ (a : Addr) (ns : List Int) (k : Nat), vs = [.ref a, .int (k : Int)] ∧ SqL K H a (ns.map V.int) ∧ Q (.int (cellA ns k)) H
def tw (c k : Int) : Int :=
  let x := (c * 48271 + k * 69621 + 7) % 2147483647
  let y := (x * x + k * 40692 + 3) % 2147483629
  let z := (y * y + k * 30269 + 5) % 2147483587
  z / 64
def spTwice : Sp := fun vs H Q _ => ∃ (c k : Int), vs = [.int c, .int k] ∧ Q (.int (tw c k)) H
def absI (c : Int) : Int := if c < 0 then -c else c
/-- the law's drawn bytes, turn by turn: what is left of the cell, the bytes so far -/
def byR (c : Int) : Nat → Int × List Int
  | 0 => (absI c, [])
  | i + 1 => if 1000000000000000000 ≤ absI c ∧ 0 < (byR c i).1 then ((byR c i).1 / 256, (byR c i).2 ++ [(byR c i).1 % 256])
      else ((byR c i).1, (byR c i).2 ++ [tw c i % 256])
def byL (c : Int) (n : Nat) : List Int := (byR c n).2
theorem byL_len (c : Int) : ∀ n, (byL c n).length = n
  | 0 => rfl
  | n + 1 => by
    have ih := byL_len c n
    unfold byL at ih ⊢
    unfold byR
    split <;> simp [ih]
theorem byL_mem (c : Int) : ∀ n, ∀ b ∈ byL c n, 0 ≤ b ∧ b < 256
  | 0 => by intro b h; cases h
  | n + 1 => by
    have ih := byL_mem c n
    intro b h
    unfold byL at ih h
    unfold byR at h
    split at h
    all_goals
      rcases List.mem_append.mp h with h | h
      · exact ih b h
      · simp at h; omega
theorem absI_eq (c : Int) : (if c < 0 then -c else c) = absI c := rfl
theorem absI_nn (c : Int) : 0 ≤ absI c := by
  unfold absI
  split <;> omega
def spBytes : Sp := fun vs H Q _ => ∃ (c : Int) (n : Nat), vs = [.int c, .int (n : Int)] ∧ n ≤ 100000 ∧ ∀ p, H p = none → Q (.ref p) (upd H p (.lst ((byL c n).map V.int)))
/-- the answer of a call of the drawn bytes, with a size that is a remainder -/
theorem bytes_mod {c x m : Int} {H : Hp} {Q : VK} {E : XK} (hm : 0 < m) (hm2 : m ≤ 100000) (h : ∀ p, H p = none → Q (.ref p) (upd H p (.lst ((byL c (x % m).toNat).map V.int)))) :
    spBytes [V.int c, V.int (x % m)] H Q E := by
  have h0 := Int.emod_nonneg x (show m ≠ 0 by omega)
  have h1 := Int.emod_lt_of_pos x hm
  exact ⟨c, (x % m).toNat, by rw [Int.toNat_of_nonneg h0], by omega, h⟩
theorem cmul_c {i j : Int} (h1 : -(2 ^ 64) < j) (h2 : j < 2 ^ 64) : CMul i j := .inr ⟨h1, h2⟩
theorem cmul_m {x m y : Int} (h1 : 0 < m) (h2 : m ≤ 2 ^ 64) : CMul (x % m) y := by
  have a := Int.emod_nonneg x (show m ≠ 0 by omega)
  have b := Int.emod_lt_of_pos x h1
  exact .inl ⟨by omega, by omega⟩

section
variable {P : Program} {w : World} {K : PySem.W.Frag} {mg : Str → Option Value} {base : Heap}
theorem ok__law_cell (T : Txt K mg) : FnOk P w K mg base CX0 1 T.f__law_cell T.fd__law_cell ["script", "k"] (spCell K) := by
  refine T.F__law_cell.ok sc__law_cell (fun vs H Q E h => ?_) (fun cdv A outer s H vs Q E hr h => ?_)
  · obtain ⟨a, ns, k, rfl, _⟩ := h
    rfl
  · obtain ⟨a, ns, k, rfl, hS, q⟩ := h
    refine ⟨_, (pss_cons (ps_if (pt_cmpR op_lt (pv 1) (pe_callB call_len_seq (by rfl) T.z_len PySem.boot_len (pa_cons (pv 0) pa_nil)) (nomark _)) (pss_one (ps_ret (pe_callTy call_int1 (by rfl) T.z_int (by decide +kernel) (pa_cons (pe_ix ix_list (pv 0) (pv 1) (fun _ _ => rfl)) pa_nil)))) pss_nil)
      (pss_one (ps_ret pe_int))), ?_⟩
    refine ⟨_, rfl, _, rfl, a, _, rfl, .inl hS, _, _, rfl, rfl, _, rfl, ite2 (fun e => ?_) (fun e => ?_)⟩
    · have e1 := of_decide_eq_true e
      rw [List.length_map] at e1
      have hk : k < ns.length := by omega
      refine ⟨_, rfl, _, rfl, a, _, _, .int (cellA ns k), rfl, rfl, hS, ?_, .inl ⟨_, rfl, q⟩⟩
      refine atI_nat ?_
      rw [List.getElem?_map, List.getElem?_eq_getElem hk]
      simp [cellA, hk]
    · have e1 : ¬ ((k : Int) < ((ns.map V.int).length : Int)) := fun z => e (decide_eq_true z)
      rw [List.length_map] at e1
      have hk : ns.length ≤ k := by omega
      have e0 : cellA ns k = 0 := by simp [cellA, hk]
      rw [e0] at q
      exact q
end

/-! ### spending -/
def cl (c : Int) : Int := if 0 > c then 0 else c
theorem cl_eq (c : Int) : (if 0 > c then 0 else c) = cl c := rfl
theorem cl_nat (n : Nat) : cl (n : Int) = n := by
  unfold cl
  rw [if_neg (by omega)]
def spdL (l c : Int) : Int := if l < cl c then 0 else l - cl c
def spdB (l c : Int) : Bool := !decide (l < cl c)
def spdV (l c : Int) : List V := [.int (spdL l c), .bl (spdB l c)]
def spSpend : Sp := fun vs H Q _ => ∃ l c : Int, vs = [.int l, .int c] ∧ ∀ p, H p = none → Q (.ref p) (upd H p (.tup (spdV l c)))
section
variable {P : Program} {w : World} {K : PySem.W.Frag} {mg : Str → Option Value} {base : Heap}
theorem ok_spend (T : Txt K mg) : FnOk P w K mg base CX0 1 T.f_spend T.fd_spend ["left", "cost"] spSpend := by
  refine T.F_spend.ok sc_spend (fun vs H Q E h => ?_) (fun cdv A outer s H vs Q E hr h => ?_)
  · obtain ⟨l, c, rfl, _⟩ := h
    rfl
  · obtain ⟨l, c, rfl, q⟩ := h
    refine ⟨_, (pss_cons (ps_set (i := 1) sc_spend.nd rfl (Or.inl rfl) (pe_callB (call_max2 rfl) (by rfl) T.z_max (by decide +kernel) (pa_cons (pv 1) (pa_cons pe_int pa_nil))))
      (pss_cons (ps_if (pt_cmpR op_gt (pv 1) (pv 0) (nomark _)) (pss_one (ps_ret (pe_tup (pa_cons pe_int (pa_cons pe_bl pa_nil))))) pss_nil)
      (pss_one (ps_ret (pe_tup (pa_cons (pe_op op_sub (pv 0) (pv 1)) (pa_cons pe_bl pa_nil))))))), ?_⟩
    walk_at "vc"
    rw [cl_eq]
    unfold spdV spdL spdB at q
    refine ite2 (fun e => ?_) (fun e => ?_)
    · have e1 := of_decide_eq_true e
      simp only [if_pos e1, decide_eq_true e1, Bool.not_true] at q
      exact ⟨by decide, q⟩
    · have e1 : ¬ l < cl c := fun z => e (decide_eq_true z)
      simp only [if_neg e1, decide_eq_false e1, Bool.not_false] at q
      exact ⟨by decide, q⟩
end

/-! ### the law's drawing state -/
def Byt (ns : List Int) : Prop := ∀ b ∈ ns, 0 ≤ b ∧ b < 256
def DrawSt (ps : Addr) (H : Hp) : Prop := ∃ x y : Int, H ps = some (.lst [.int x, .int y]) ∧ 0 ≤ x ∧ 0 ≤ y
/-- the state has gone on, all else that stood stands -/
structure Adv (ps : Addr) (H H' : Hp) : Prop where
  st : DrawSt ps H'
  same : ∀ b o, b ≠ ps → H b = some o → H' b = some o
theorem DrawSt.ne {ps q : Addr} {H : Hp} (h : DrawSt ps H) (hq : H q = none) : q ≠ ps := fun e => by
  obtain ⟨x, y, h1, _⟩ := h
  rw [e, h1] at hq
  cases hq
theorem Adv.refl {ps : Addr} {H : Hp} (h : DrawSt ps H) : Adv ps H H := ⟨h, fun _ _ _ e => e⟩
theorem Adv.trans {ps : Addr} {H H1 H2 : Hp} (a : Adv ps H H1) (b : Adv ps H1 H2) : Adv ps H H2 := ⟨b.st, fun c o n e => b.same c o n (a.same c o n e)⟩
theorem Adv.free {ps q : Addr} {H H' : Hp} (a : Adv ps H H') (hq : H' q = none) : H q = none := by
  have n := a.st.ne hq
  cases e : H q with
  | none => rfl
  | some o =>
    rw [a.same q o n e] at hq
    cases hq
theorem Adv.put {ps q : Addr} {H H' : Hp} {o : HO} (a : Adv ps H H') (hn : q ≠ ps) (hq : H q = none) : Adv ps H (upd H' q o) := by
  refine ⟨?_, fun b o' n e => ?_⟩
  · obtain ⟨x, y, h1, h2⟩ := a.st
    exact ⟨x, y, by rw [upd_ne hn.symm]; exact h1, h2⟩
  · rw [upd_ne (ne_of_none e hq)]
    exact a.same b o' n e
theorem Adv.new {ps q : Addr} {H H' : Hp} {o : HO} (a : Adv ps H H') (hq : H' q = none) : Adv ps H (upd H' q o) := a.put (a.st.ne hq) (a.free hq)
def spDraw : Sp := fun vs H Q _ => ∃ (ps : Addr) (many : Int), vs = [.ref ps, .int many] ∧ DrawSt ps H ∧ 0 < many ∧ many < 1073741824 ∧
  ∀ H' v, Adv ps H H' → 0 ≤ v → v < many → Q (.int v) H'
def spState : Sp := fun vs H Q _ => ∃ c salt : Int, vs = [.int c, .int salt] ∧ 0 ≤ salt ∧ ∀ H' p, Same H H' → H p = none → DrawSt p H' → Q (.ref p) H'
section
variable {P : Program} {w : World} {K : PySem.W.Frag} {mg : Str → Option Value} {base : Heap}
theorem ok__law_draw (T : Txt K mg) : FnOk P w K mg base CX0 1 T.f__law_draw T.fd__law_draw ["state", "many"] spDraw := by
  refine T.F__law_draw.ok sc__law_draw (fun vs H Q E h => ?_) (fun cdv A outer s H vs Q E hr h => ?_)
  · obtain ⟨ps, many, rfl, _⟩ := h
    rfl
  · obtain ⟨ps, many, rfl, ⟨x, y, hst, hx, hy⟩, hm, hm2, q⟩ := h
    refine ⟨_, (pss_cons (ps_set (i := 2) sc__law_draw.nd rfl (Or.inl rfl) (pe_ix ix_listH (pv 0) pe_int (fun _ _ => rfl)))
      (pss_cons (ps_if (pt_cmpR op_gt (pv 2) pe_int (nomark _)) (pss_cons (ps_asg (pe_op op_fdiv (pv 2) (pv 1)) (pg_sub (pv 0) pe_int set_list))
      (pss_one (ps_ret (pe_op op_mod (pv 2) (pv 1))))) pss_nil)
      (pss_cons (ps_asg (pe_op op_mod (pe_op op_add (pe_op op_mul (pe_ix ix_listH (pv 0) pe_int (fun _ _ => rfl)) pe_int) pe_int) pe_int) (pg_sub (pv 0) pe_int set_list))
      (pss_one (ps_ret (pe_op op_mod (pe_op op_fdiv (pe_ix ix_listH (pv 0) pe_int (fun _ _ => rfl)) pe_int) (pv 1))))))), ?_⟩
    walk_at "vc"
    simp only [hst]
    walk_at "vc"
    have ad : ∀ x' y' : Int, 0 ≤ x' → 0 ≤ y' → Adv ps H (upd H ps (.lst [.int x', .int y'])) := fun x' y' h1 h2 => ⟨⟨x', y', upd_same, h1, h2⟩, fun b o n e => by rw [upd_ne n]; exact e⟩
    have m1 := mod_in y hm
    refine ite2 (fun e => ?_) (fun e => ?_)
    · refine ⟨⟨hm, hm2⟩, 1, ixN_in (n := 2) (k := 1) (by decide) (by decide), hm, ?_⟩
      exact q _ _ (ad _ _ hx (Int.ediv_nonneg hy (by omega))) m1.1 m1.2
    · have m2 := mod_in (x * 48271 + 11) (show (0 : Int) < 2147483647 by decide)
      have m3 := mod_in ((x * 48271 + 11) % 2147483647 / 7) hm
      refine ⟨cmul_c (by decide) (by decide), 0, ixN_in (n := 2) (k := 0) (by decide) (by decide), _, atI_c0 _ _, _, rfl, ⟨by decide, by decide⟩, hm, ?_⟩
      exact q _ _ (ad _ _ m2.1 hy) m3.1 m3.2
theorem ok__law_state (T : Txt K mg) : FnOk P w K mg base CX0 1 T.f__law_state T.fd__law_state ["cell", "salt"] spState := by
  refine T.F__law_state.ok sc__law_state (fun vs H Q E h => ?_) (fun cdv A outer s H vs Q E hr h => ?_)
  · obtain ⟨c, salt, rfl, _⟩ := h
    rfl
  · obtain ⟨c, salt, rfl, hs, q⟩ := h
    refine ⟨_, (pss_cons (ps_set (i := 2) sc__law_state.nd rfl (Or.inl rfl) (pe_callB call_abs (by rfl) T.z_abs (by decide +kernel) (pa_cons (pv 0) pa_nil)))
      (pss_cons (ps_if (pt_cmpR op_ge (pv 2) (pe_op op_pow pe_int pe_int) (nomark _)) (pss_one (ps_ret (pe_lst (pa_cons (pe_op op_add (pe_op op_mod (pv 2) pe_int) (pv 1)) (pa_cons (pe_op op_sub (pv 2) (pe_op op_pow pe_int pe_int)) pa_nil))))) pss_nil)
      (pss_one (ps_ret (pe_lst (pa_cons (pe_op op_mod (pe_op op_add (pe_op op_add (pe_op op_mul (pv 2) pe_int) (pe_op op_mul (pv 1) pe_int)) pe_int) pe_int) (pa_cons pe_int pa_nil))))))), ?_⟩
    walk_at "vc"
    rw [absI_eq]
    have hc := absI_nn c
    generalize absI c = r at hc ⊢
    have ad : ∀ (p : Addr) (x' y' : Int), H p = none → 0 ≤ x' → 0 ≤ y' → Q (V.ref p) (upd H p (.lst [.int x', .int y'])) := fun p x' y' h0 h1 h2 => q _ p (same_upd h0) h0 ⟨x', y', upd_same, h1, h2⟩
    refine ⟨⟨by decide, by decide, by decide⟩, ite2 (fun e => ⟨⟨by decide, by decide, by decide⟩, by decide, fun p hp => ?_⟩) (fun e => ⟨cmul_c (by decide) (by decide), cmul_c (by decide) (by decide), by decide, fun p hp => ?_⟩)⟩
    · have e1 := of_decide_eq_true e
      have m2 := mod_in r (show (0 : Int) < 2147483629 by decide)
      exact ad p _ _ hp (by omega) (by omega)
    · have m2 := mod_in (r * 48271 + salt * 69621 + 12345) (show (0 : Int) < 2147483647 by decide)
      exact ad p _ _ hp m2.1 (by decide)
end

/-! ### runs: what the program's functions give, as functions of the list -/
def gN (ns : List Int) (i : Nat) : Int := ns.getD i 0
def sl (ns : List Int) (i j : Nat) : List Int := (ns.drop i).take (j - i)
theorem at_g {ns : List Int} {i : Nat} (h : i < ns.length) : atI (ns.map V.int) (i : Int) = some (V.int (gN ns i)) := by
  refine atI_nat ?_
  rw [List.getElem?_map, List.getElem?_eq_getElem h]
  simp [gN, h]
theorem at_g' {ns : List Int} {k : Int} {i : Nat} (e : k = (i : Int)) (h : i < ns.length) : atI (ns.map V.int) k = some (V.int (gN ns i)) := by
  rw [e]
  exact at_g h
theorem gN_byt {ns : List Int} (hB : Byt ns) (i : Nat) : 0 ≤ gN ns i ∧ gN ns i < 256 := by
  unfold gN
  rw [List.getD_eq_getElem?_getD]
  cases e : ns[i]? with
  | none => exact ⟨by decide, by decide⟩
  | some b => exact hB b (List.mem_of_getElem? e)
theorem cut_sl {ns : List Int} {i j : Nat} {a b : Int} (ea : a = (i : Int)) (eb : b = (j : Int)) : cutV (ns.map V.int) (some a) (some b) = (sl ns i j).map V.int := by
  subst ea eb
  unfold cutV sl
  rw [HT.sIx_nat, HT.sIx_nat, List.length_map, ← List.map_drop, ← List.map_take]
  congr 1
  by_cases h : i < ns.length
  · rw [Nat.min_eq_left (Nat.le_of_lt h)]
    by_cases h2 : j ≤ ns.length
    · rw [Nat.min_eq_left h2]
    · rw [Nat.min_eq_right (by omega), List.take_of_length_le (by rw [List.length_drop]; exact Nat.le_refl _), List.take_of_length_le (by rw [List.length_drop]; omega)]
  · rw [List.drop_eq_nil_of_le (by omega), List.drop_eq_nil_of_le (by omega), List.take_nil, List.take_nil]
theorem sl_len (ns : List Int) (i j : Nat) : (sl ns i j).length = min (j - i) (ns.length - i) := by
  unfold sl
  rw [List.length_take, List.length_drop]
theorem sl_byt {ns : List Int} (h : Byt ns) (i j : Nat) : Byt (sl ns i j) := fun b hb => h b (List.mem_of_mem_drop (List.mem_of_mem_take hb))
theorem byt_app {x y : List Int} (hx : Byt x) (hy : Byt y) : Byt (x ++ y) := fun b hb => by
  rcases List.mem_append.mp hb with h | h
  · exact hx b h
  · exact hy b h
theorem byt_nil : Byt [] := fun _ h => by cases h
theorem byt_one {v : Int} (h0 : 0 ≤ v) (h1 : v < 256) : Byt [v] := fun b hb => by
  rw [List.mem_singleton.mp hb]
  exact ⟨h0, h1⟩
theorem rep_one (n : Nat) (y : Int) : (List.replicate n [V.int y]).flatten = List.map V.int (List.replicate n y) := by
  induction n with
  | zero => rfl
  | succ n ih => rw [List.replicate_succ, List.flatten_cons, ih, List.replicate_succ]; rfl
theorem cut_take {ns : List Int} {n : Nat} : cutV (ns.map V.int) none (some (n : Int)) = (ns.take n).map V.int := by
  unfold cutV
  rw [HT.sIx_nat, HT.sIx_none, List.length_map, List.drop_zero, ← List.map_take]
  congr 1
  by_cases h : n ≤ ns.length
  · rw [Nat.min_eq_left h, Nat.sub_zero]
  · rw [Nat.min_eq_right (by omega), Nat.sub_zero, List.take_of_length_le (Nat.le_refl _), List.take_of_length_le (by omega)]
theorem cut_drop {ns : List Int} {n : Nat} : cutV (ns.map V.int) (some (n : Int)) none = (ns.drop n).map V.int := by
  unfold cutV
  rw [HT.sIx_nat, HT.sIx_none, List.length_map, ← List.map_drop, ← List.map_take]
  congr 1
  by_cases h : n ≤ ns.length
  · rw [Nat.min_eq_left h, List.take_of_length_le (by rw [List.length_drop]; exact Nat.le_refl _)]
  · rw [Nat.min_eq_right (by omega), List.drop_of_length_le (Nat.le_refl _), List.drop_of_length_le (by omega), List.take_nil]

/-! ### rows: what the program gives -/
def nr (l a c : Int) : Int := let b := if absI (a - (l + a - c)) < absI (l - (l + a - c)) then a else l; if absI (c - (l + a - c)) < absI (b - (l + a - c)) then c else b
def pr (m l a c : Int) : Int := if m = 1 then l else if m = 2 then a else if m = 3 then (l + a) / 2 else if m = 4 then nr l a c else 0
def mw (b : Int) : Int := if 256 - b < b then 256 - b else b
def wt (ns : List Int) : Int := (ns.map mw).sum
theorem of_decide_eq_false' {p : Prop} [Decidable p] (h : ¬ decide p = true) : ¬ p := fun z => h (decide_eq_true z)
theorem lp_tup {K : PySem.W.Frag} {a : Addr} {xs : List V} {g : TG} {tb : TS} {D : Ends} {σ : L2.St} {H : Hp} (Pv : Nat → L2.St → Hp → Prop) (h0 : Pv 0 σ H) (hl : ∀ i σ H, i ≤ xs.length → Pv i σ H → SqT K H a xs)
    (hs : ∀ i x σ H, xs[i]? = some x → Pv i σ H → g x σ H fun σ2 H2 => tb { D with nx := Pv (i + 1), ct := Pv (i + 1), bk := D.nx } σ2 H2) (hd : ∀ σ H, Pv xs.length σ H → D.nx σ H) : Loop (Itt K a) g tb D σ H := for_tup Pv h0 hl hs hd
theorem lp_zipS {K : PySem.W.Frag} {a b : Addr} {xs ys : List V} {g : TG} {tb : TS} {D : Ends} {σ : L2.St} {H : Hp} (hl : xs.length ≤ ys.length) (Pv : Nat → L2.St → Hp → Prop) (h0 : Pv 0 σ H) (hq : ∀ i σ H, Pv i σ H → SqL K H a xs ∧ SqL K H b ys)
    (hs : ∀ (i : Nat) (x y : V) (T : Addr) (σ : L2.St) (H : Hp), xs[i]? = some x → ys[i]? = some y → Pv i σ H → H T = none → g (.ref T) σ (upd H T (.tup [x, y])) fun σ2 H2 => tb { D with nx := Pv (i + 1), ct := Pv (i + 1), bk := D.nx } σ2 H2) (hd : ∀ σ H, Pv xs.length σ H → D.nx σ H) :
    Loop (Itz K a b) g tb D σ H := by
  refine ⟨fun i m σ H => m = xs.length - i ∧ i ≤ xs.length ∧ Pv i σ H, ⟨xs.length, rfl, Nat.zero_le _, h0⟩, ?_⟩
  rintro i m σ H ⟨rfl, hi, p⟩
  obtain ⟨qx, qy⟩ := hq i σ H p
  by_cases hlt : i < xs.length
  · have hx : xs[i]? = some xs[i] := List.getElem?_eq_getElem hlt
    have hlt2 : i < ys.length := by omega
    have hy : ys[i]? = some ys[i] := List.getElem?_eq_getElem hlt2
    refine .inr ⟨⟨xs, ys, _, _, qx, qy, hx, hy⟩, Pv (i + 1), fun σ' H' p' => ⟨xs.length - (i + 1), by omega, rfl, hlt, p'⟩, fun v H' y => ?_⟩
    obtain ⟨T, x', y', rfl, hT, rfl, f1, f2⟩ := y
    exact hs i x' y' T σ H (f1 xs qx) (f2 ys qy) p hT
  · have e : i = xs.length := by omega
    subst e
    exact .inl ⟨⟨xs, ys, qx, qy, Or.inl (Nat.le_refl _)⟩, hd σ H p⟩
def gP (ns : List Int) (j : Nat) : Int := if j = 0 then 0 else gN ns (j - 1)
def wj (m : Int) (row bef : List Int) (j : Nat) : Int := (gN row j - pr m (gP row j) (gN bef j) (gP bef j)) % 256
def wrow (m : Int) (row bef : List Int) : List Int := (List.range row.length).map (wj m row bef)
def rleft (m : Int) (wr bef : List Int) : Nat → Int
  | 0 => 0
  | j + 1 => (gN wr j + pr m (rleft m wr bef j) (gN bef j) (gP bef j)) % 256
def rrow (m : Int) (wr bef : List Int) : List Int := (List.range wr.length).map (fun j => rleft m wr bef (j + 1))
def bst (row bef : List Int) : Nat → Int × List Int
  | 0 => (wt row, 0 :: row)
  | m + 1 => if wt (wrow ((m : Int) + 1) row bef) < (bst row bef m).1 then (wt (wrow ((m : Int) + 1) row bef), ((m : Int) + 1) :: wrow ((m : Int) + 1) row bef) else bst row bef m
theorem wrow_len (m : Int) (row bef : List Int) : (wrow m row bef).length = row.length := by
  unfold wrow
  rw [List.length_map, List.length_range]
theorem bst_len (row bef : List Int) : ∀ m, (bst row bef m).2.length = row.length + 1
  | 0 => rfl
  | m + 1 => by
    rw [bst]
    split
    · rw [List.length_cons, wrow_len]
    · exact bst_len row bef m
def wd (x : Int) : Nat := (if 65536 < (if x < 1 then 1 else x) then 65536 else if x < 1 then 1 else x).toNat
theorem wd_eq (x : Int) : (if 65536 < (if x < 1 then 1 else x) then 65536 else if x < 1 then 1 else x) = ((wd x : Nat) : Int) ∧ 1 ≤ wd x ∧ wd x ≤ 65536 := by
  unfold wd
  split <;> split <;> omega
def bf (ns : List Int) (W : Nat) : Nat → List Int
  | 0 => List.replicate (min W ns.length) 0
  | r + 1 => sl ns (r * W) (r * W + W)
def pF (ns : List Int) (W : Nat) : Nat → List Int
  | 0 => []
  | r + 1 => pF ns W r ++ (bst (sl ns (r * W) (r * W + W)) (bf ns W r) 4).2
def uW (ns : List Int) (W r : Nat) : List Int := sl ns (r * (W + 1) + 1) (r * (W + 1) + 1 + W)
def uB (ns : List Int) (W : Nat) : Nat → List Int
  | 0 => List.replicate (min W ns.length) 0
  | r + 1 => rrow (gN ns (r * (W + 1))) (uW ns W r) (uB ns W r)
def uF (ns : List Int) (W : Nat) : Nat → List Int
  | 0 => []
  | r + 1 => uF ns W r ++ uB ns W (r + 1)
def unp (ns : List Int) (W : Nat) (left : Int) : List Int × Int := if left < ns.length then ([], 0) else (uF ns W ((ns.length + W) / (W + 1)), left - ns.length)
section
variable {P : Program} {w : World} {K : PySem.W.Frag} {mg : Str → Option Value} {base : Heap}
theorem ok__nearest (T : Txt K mg) : FnOk P w K mg base CX0 1 T.f__nearest T.fd__nearest ["left", "above", "corner"] (fun vs H Q _ => ∃ l a c : Int, vs = [.int l, .int a, .int c] ∧ ∀ H', Same H H' → Q (.int (nr l a c)) H') := by
  refine T.F__nearest.ok sc__nearest (fun vs H Q E h => ?_) (fun cdv A outer s H vs Q E hr h => ?_)
  · obtain ⟨l, a, c, rfl, _⟩ := h
    rfl
  · obtain ⟨l, a, c, rfl, q⟩ := h
    refine ⟨_, (pss_cons (ps_set (i := 3) sc__nearest.nd rfl (Or.inl rfl) (pe_op op_sub (pe_op op_add (pv 0) (pv 1)) (pv 2)))
      (pss_cons (ps_set (i := 4) sc__nearest.nd rfl (Or.inl rfl) (pv 0))
      (pss_cons (ps_for PassesOwn.never rfl (pi_tup (pe_tup (pa_cons (pv 1) (pa_cons (pv 2) pa_nil)))) (pg_name (i := 5) sc__nearest.nd rfl (Or.inl rfl)) (pss_one (ps_if (pt_cmpR op_lt (pe_callB call_abs (by rfl) T.z_abs (by decide +kernel) (pa_cons (pe_op op_sub (pv 5) (pv 3)) pa_nil)) (pe_callB call_abs (by rfl) T.z_abs (by decide +kernel) (pa_cons (pe_op op_sub (pv 4) (pv 3)) pa_nil)) (nomark _)) (pss_one (ps_set (i := 4) sc__nearest.nd rfl (Or.inl rfl) (pv 5))) pss_nil)))
      (pss_one (ps_ret (pv 4)))))), ?_⟩
    walk_at "vc"
    refine ⟨by decide, fun p hp => ?_⟩
    have s1 := same_upd (o := .tup [V.int a, V.int c]) hp
    refine ⟨⟨_, .inl (.inl upd_same)⟩, lp_tup (xs := [V.int a, V.int c]) (fun i σ H' => H' = upd H p (.tup [V.int a, V.int c]) ∧ ∃ (b : Int) (ov : Option V), σ = [some (.int l), some (.int a), some (.int c), some (.int (l + a - c)), some (.int b), ov] ∧
      (i = 0 ∧ b = l ∨ i = 1 ∧ b = (if absI (a - (l + a - c)) < absI (l - (l + a - c)) then a else l) ∨ i = 2 ∧ b = nr l a c)) ⟨rfl, l, none, rfl, .inl ⟨rfl, rfl⟩⟩ ?_ ?_ ?_⟩
    · rintro i σ H' _ ⟨rfl, _⟩
      exact .inl (.inl upd_same)
    · rintro i x σ H' hx ⟨rfl, b, ov, rfl, hb⟩
      walk_at "vc"
      rcases hb with ⟨rfl, hb⟩ | ⟨rfl, hb⟩ | ⟨rfl, hb⟩
      · obtain rfl : V.int a = x := by simpa using hx
        rw [hb]
        refine ⟨_, rfl, ite2 (fun e => ?_) (fun e => ?_)⟩
        · exact ⟨a, rfl, .inl ⟨rfl, (if_pos (of_decide_eq_true e)).symm⟩⟩
        · exact .inl ⟨rfl, (if_neg (of_decide_eq_false' e)).symm⟩
      · obtain rfl : V.int c = x := by simpa using hx
        rw [hb]
        refine ⟨_, rfl, ite2 (fun e => ?_) (fun e => ?_)⟩
        · exact ⟨c, rfl, .inr ⟨rfl, (if_pos (of_decide_eq_true e)).symm⟩⟩
        · exact .inr ⟨rfl, (if_neg (of_decide_eq_false' e)).symm⟩
      · cases hx
    · rintro σ H' ⟨rfl, b, ov, rfl, hb⟩
      have hb2 : b = nr l a c := by
        rcases hb with ⟨z, _⟩ | ⟨z, _⟩ | ⟨_, z⟩
        · cases z
        · cases z
        · exact z
      walk_at "vc"
      rw [hb2]
      exact q _ s1
theorem ok__prediction (T : Txt K mg) : FnOk P w K mg base CX0 2 T.f__prediction T.fd__prediction ["method", "left", "above", "corner"] (fun vs H Q _ => ∃ m l a c : Int, vs = [.int m, .int l, .int a, .int c] ∧ ∀ H', Same H H' → Q (.int (pr m l a c)) H') := by
  refine T.F__prediction.ok sc__prediction (fun vs H Q E h => ?_) (fun cdv A outer s H vs Q E hr h => ?_)
  · obtain ⟨m, l, a, c, rfl, _⟩ := h
    rfl
  · obtain ⟨m, l, a, c, rfl, q⟩ := h
    refine ⟨_, (pss_cons (ps_if (pt_cmpR op_eq (pv 0) pe_int (nomark _)) (pss_one (ps_ret (pv 1))) pss_nil)
      (pss_cons (ps_if (pt_cmpR op_eq (pv 0) pe_int (nomark _)) (pss_one (ps_ret (pv 2))) pss_nil)
      (pss_cons (ps_if (pt_cmpR op_eq (pv 0) pe_int (nomark _)) (pss_one (ps_ret (pe_op op_fdiv (pe_op op_add (pv 1) (pv 2)) pe_int))) pss_nil)
      (pss_cons (ps_if (pt_cmpR op_eq (pv 0) pe_int (nomark _)) (pss_one (ps_ret (pe_call (ok__nearest T) hr (by rfl) T.g__nearest T.F__nearest.kp T.b__nearest .nil pass0 (pa_cons (pv 1) (pa_cons (pv 2) (pa_cons (pv 3) pa_nil)))))) pss_nil)
      (pss_one (ps_ret pe_int)))))), ?_⟩
    walk_at "vc"
    refine ite2 (fun e => ?_) (fun e => ite2 (fun e2 => ?_) (fun e2 => ite2 (fun e3 => ?_) (fun e3 => ite2 (fun e4 => ?_) (fun e4 => ?_))))
    · rw [show pr m l a c = l by unfold pr; rw [if_pos (of_decide_eq_true e)]] at q
      exact q _ (Same.refl H)
    all_goals rw [pr, if_neg (of_decide_eq_false' e)] at q
    · rw [if_pos (of_decide_eq_true e2)] at q
      exact q _ (Same.refl H)
    all_goals rw [if_neg (of_decide_eq_false' e2)] at q
    · rw [if_pos (of_decide_eq_true e3)] at q
      exact ⟨⟨by decide, by decide⟩, q _ (Same.refl H)⟩
    all_goals rw [if_neg (of_decide_eq_false' e3)] at q
    · rw [if_pos (of_decide_eq_true e4)] at q
      exact fun H' s => q H' s
    · rw [if_neg (of_decide_eq_false' e4)] at q
      exact q _ (Same.refl H)
theorem ok__bounded (T : Txt K mg) : FnOk P w K mg base CX0 1 T.f__bounded T.fd__bounded ["width"] (fun vs H Q _ => ∃ x : Int, vs = [.int x] ∧ Q (.int (if 65536 < (if x < 1 then 1 else x) then 65536 else if x < 1 then 1 else x)) H) := by
  refine T.F__bounded.ok sc__bounded (fun vs H Q E h => ?_) (fun cdv A outer s H vs Q E hr h => ?_)
  · obtain ⟨x, rfl, _⟩ := h
    rfl
  · obtain ⟨x, rfl, q⟩ := h
    refine ⟨_, (pss_one (ps_ret (pe_callB (call_min2 rfl) (by rfl) T.z_min (by decide +kernel) (pa_cons (pe_callB (call_max2 rfl) (by rfl) T.z_max (by decide +kernel) (pa_cons (pv 0) (pa_cons pe_int pa_nil))) (pa_cons (pe_glob (v := .int 65536) (by rfl) T.c__GREATEST_WIDTH ⟨_, rfl⟩) pa_nil))))), ?_⟩
    walk_at "vc"
    simp only [gt_iff_lt]
    exact q
theorem ok__no_row (T : Txt K mg) : FnOk P w K mg base CX0 1 T.f__no_row T.fd__no_row ["data", "width"] (fun vs H Q _ => ∃ (a : Addr) (ns : List Int) (W : Nat), vs = [.ref a, .int (W : Int)] ∧ H a = some (.lst (ns.map V.int)) ∧ ns.length ≤ 1000 ∧ ∀ H' p, Same H H' → H p = none → H' p = some (.lst (List.map V.int (List.replicate (min W ns.length) 0))) → Q (.ref p) H') := by
  refine T.F__no_row.ok sc__no_row (fun vs H Q E h => ?_) (fun cdv A outer s H vs Q E hr h => ?_)
  · obtain ⟨a, ns, W, rfl, _⟩ := h
    rfl
  · obtain ⟨a, ns, W, rfl, ha, hn, q⟩ := h
    refine ⟨_, (pss_one (ps_ret (pe_op op_rep (pe_lst (pa_cons pe_int pa_nil)) (pe_callB (call_min2 rfl) (by rfl) T.z_min (by decide +kernel) (pa_cons (pv 1) (pa_cons (pe_callB call_lenH (by rfl) T.z_len PySem.boot_len (pa_cons (pv 0) pa_nil)) pa_nil)))))), ?_⟩
    walk_at "vc"
    refine ⟨by decide, fun p hp => ⟨_, same_upd hp _ _ ha, ?_⟩⟩
    rw [List.length_map]
    have e : ∀ x : Int, x = (if (ns.length : Int) < (W : Int) then (ns.length : Int) else (W : Int)) → x = ((min W ns.length : Nat) : Int) := fun x h => by rw [h]; split <;> omega
    generalize hx : (if (ns.length : Int) < (W : Int) then (ns.length : Int) else (W : Int)) = x
    rw [e x hx.symm]
    refine ⟨by omega, by omega, ?_, fun p1 hp1 => ?_⟩
    · exact Nat.le_trans (show 1 * ((min W ns.length : Nat) : Int).toNat ≤ 1000 by omega) (by decide)
    · refine q _ p1 ((same_upd hp).trans (same_upd hp1)) ((same_upd hp).free hp1) ?_
      rw [upd_same, rep_one, Int.toNat_natCast]
theorem ok__weight (T : Txt K mg) : FnOk P w K mg base CX0 1 T.f__weight T.fd__weight ["written"] (fun vs H Q _ => ∃ (a : Addr) (ns : List Int), vs = [.ref a] ∧ H a = some (.lst (ns.map V.int)) ∧ ns.length ≤ 1000 ∧ ∀ H', Same H H' → Q (.int (wt ns)) H') := by
  refine T.F__weight.ok sc__weight (fun vs H Q E h => ?_) (fun cdv A outer s H vs Q E hr h => ?_)
  · obtain ⟨a, ns, rfl, _⟩ := h
    rfl
  · obtain ⟨a, ns, rfl, ha, hn, q⟩ := h
    refine ⟨_, (pss_one (ps_ret (pe_callB (cr_sum rfl) (by rfl) T.z_sum (by decide +kernel) (pa_cons (pe_lc (own := [("byte", 1)]) (g := (gName 1)) rfl sc__weight.nd (pi_list (pv 0)) (blkOk_by (own := [("byte", 1)]) (N := ["written", "byte"]) (sc := defScope s__weight) (by decide +kernel)) (fun _ _ _ _ _ => (pg_name (i := 1) sc__weight.nd rfl (Or.inl rfl))) (fun _ _ _ _ _ => pts_nil) (fun _ _ _ _ _ => (pe_callB (call_min2 rfl) (by rfl) T.z_min (by decide +kernel) (pa_cons (pv 1) (pa_cons (pe_op op_sub pe_int (pv 1)) pa_nil))))) pa_nil)))), ?_⟩
    walk_at "vc"
    refine ⟨⟨_, .inl (.inl ha)⟩, lc_pure (xs := ns.map V.int) (fun i => List.map V.int ((ns.take i).map mw)) (.inl (.inl ha)) rfl (fun i x D hx hD => ?_) (fun D hD => ?_)⟩
    · rw [List.getElem?_map] at hx
      obtain ⟨b, hb1, rfl⟩ := Option.map_eq_some_iff.mp hx
      walk_at "vc"
      refine ⟨?_, ?_⟩
      · rw [List.length_map, List.length_map, List.length_take]
        exact Nat.lt_of_le_of_lt (show min i ns.length ≤ 1000 by omega) (by decide)
      · rw [List.take_add_one, hb1]
        simp [mw]
    · rw [List.length_map, List.take_length]
      exact ⟨D, ns.map mw, rfl, .inl (.inl upd_same), q _ (same_upd hD)⟩
theorem ok__write_row (T : Txt K mg) : FnOk P w K mg base CX0 3 T.f__write_row T.fd__write_row ["method", "row", "before"] (fun vs H Q _ => ∃ (m : Int) (r b : Addr) (row bef : List Int), vs = [.int m, .ref r, .ref b] ∧ H r = some (.lst (row.map V.int)) ∧ H b = some (.lst (bef.map V.int)) ∧ row.length ≤ bef.length ∧ row.length ≤ 1000 ∧
    ∀ H' p, Same H H' → H p = none → H' p = some (.lst (List.map V.int (wrow m row bef))) → Q (.ref p) H') := by
  refine T.F__write_row.ok sc__write_row (fun vs H Q E h => ?_) (fun cdv A outer s H vs Q E hr h => ?_)
  · obtain ⟨m, r, b, row, bef, rfl, _⟩ := h
    rfl
  · obtain ⟨m, r, b, row, bef, rfl, hR, hb, hl, hn, q⟩ := h
    refine ⟨_, (pss_cons (ps_set (i := 3) sc__write_row.nd rfl (Or.inl rfl) (pe_lst pa_nil))
      (pss_cons (ps_set (i := 4) sc__write_row.nd rfl (Or.inl rfl) pe_int)
      (pss_cons (ps_set (i := 5) sc__write_row.nd rfl (Or.inl rfl) pe_int)
      (pss_cons (ps_for PassesOwn.never rfl (pi_zip (by rfl) T.z_zip (pa_cons (pv 1) (pa_cons (pv 2) pa_nil))) (pg_tup (by rfl) (pgs_cons (pg_name (i := 6) sc__write_row.nd rfl (Or.inl rfl)) (pgs_cons (pg_name (i := 7) sc__write_row.nd rfl (Or.inl rfl)) pgs_nil))) (pss_cons (ps_expr (pe_bm PySem.F.plainAttrs_list PySem.F.slot_list_append PySem.F.type_list_append mt_append (pv 3) (pa_cons (pe_op op_and (pe_op op_sub (pv 6) (pe_call (ok__prediction T) hr (by rfl) T.g__prediction T.F__prediction.kp T.b__prediction .nil pass0 (pa_cons (pv 0) (pa_cons (pv 4) (pa_cons (pv 7) (pa_cons (pv 5) pa_nil)))))) pe_int) pa_nil)))
      (pss_cons (ps_set (i := 4) sc__write_row.nd rfl (Or.inl rfl) (pv 6))
      (pss_one (ps_set (i := 5) sc__write_row.nd rfl (Or.inl rfl) (pv 7))))))
      (pss_one (ps_ret (pv 3))))))), ?_⟩
    walk_at "vc"
    intro p0 hp0
    have s0 := same_upd (o := .lst []) hp0
    refine ⟨⟨_, .inl (.inl (s0 _ _ hR))⟩, ⟨_, .inl (.inl (s0 _ _ hb))⟩, lp_zipS (xs := row.map V.int) (ys := bef.map V.int) (by rw [List.length_map, List.length_map]; exact hl)
      (fun i σ H' => ∃ (bv av : Option V), σ = [some (.int m), some (.ref r), some (.ref b), some (.ref p0), some (.int (gP row i)), some (.int (gP bef i)), bv, av] ∧ Same H H' ∧ H' p0 = some (.lst (List.map V.int ((List.range i).map (wj m row bef))))) ⟨none, none, rfl, s0, upd_same⟩ ?_ ?_ ?_⟩
    · rintro i σ H' ⟨bv, av, rfl, sm, g0⟩
      exact ⟨.inl (.inl (sm _ _ hR)), .inl (.inl (sm _ _ hb))⟩
    · rintro i x y Tp σ H' hx hy ⟨bv, av, rfl, sm, g0⟩ hT
      have hi : i < row.length := by
        have := (List.getElem?_eq_some_iff.mp hx).1
        rwa [List.length_map] at this
      rw [List.getElem?_map] at hx hy
      obtain ⟨xb, hx1, rfl⟩ := Option.map_eq_some_iff.mp hx
      obtain ⟨yb, hy1, rfl⟩ := Option.map_eq_some_iff.mp hy
      have ex : gN row i = xb := by unfold gN; rw [List.getD_eq_getElem?_getD, hx1]; rfl
      have ey : gN bef i = yb := by unfold gN; rw [List.getD_eq_getElem?_getD, hy1]; rfl
      have s1 := sm.trans (same_upd (o := .tup [V.int xb, V.int yb]) hT)
      have n1 : p0 ≠ Tp := ne_of_none g0 hT
      have g1 : upd H' Tp (.tup [V.int xb, V.int yb]) p0 = some (.lst (List.map V.int ((List.range i).map (wj m row bef)))) := by rw [upd_ne n1]; exact g0
      walk_at "vc"
      refine ⟨_, .inl (.inl upd_same), rfl, _, _, rfl, _, _, rfl, rfl, .inl ⟨rfl, _, .inl (.inl g1)⟩, _, rfl, fun H2 s2 => ⟨_, rfl, _, s2 _ _ g1, ?_, ?_, ?_, ?_, ?_⟩⟩
      · rw [List.length_map, List.length_map, List.length_range]
        exact Nat.lt_of_le_of_lt (show i ≤ 1000 by omega) (by decide)
      · rw [← ex]; rfl
      · rw [← ey]; rfl
      · exact same_upd2 (s1.trans s2) hp0
      · rw [List.range_succ, List.map_append, List.map_append, ← ex, ← ey, bitAnd_m8]
        rfl
    · rintro σ H' ⟨bv, av, rfl, sm, g0⟩
      walk_at "vc"
      rw [List.length_map] at g0
      exact q _ p0 sm hp0 g0
theorem ok__read_row (T : Txt K mg) : FnOk P w K mg base CX0 3 T.f__read_row T.fd__read_row ["method", "written", "before"] (fun vs H Q _ => ∃ (m : Int) (r b : Addr) (row bef : List Int), vs = [.int m, .ref r, .ref b] ∧ H r = some (.lst (row.map V.int)) ∧ H b = some (.lst (bef.map V.int)) ∧ row.length ≤ bef.length ∧ row.length ≤ 1000 ∧
    ∀ H' p, Same H H' → H p = none → H' p = some (.lst (List.map V.int (rrow m row bef))) → Q (.ref p) H') := by
  refine T.F__read_row.ok sc__read_row (fun vs H Q E h => ?_) (fun cdv A outer s H vs Q E hr h => ?_)
  · obtain ⟨m, r, b, row, bef, rfl, _⟩ := h
    rfl
  · obtain ⟨m, r, b, row, bef, rfl, hR, hb, hl, hn, q⟩ := h
    refine ⟨_, (pss_cons (ps_set (i := 3) sc__read_row.nd rfl (Or.inl rfl) (pe_lst pa_nil))
      (pss_cons (ps_set (i := 4) sc__read_row.nd rfl (Or.inl rfl) pe_int)
      (pss_cons (ps_set (i := 5) sc__read_row.nd rfl (Or.inl rfl) pe_int)
      (pss_cons (ps_for PassesOwn.never rfl (pi_zip (by rfl) T.z_zip (pa_cons (pv 1) (pa_cons (pv 2) pa_nil))) (pg_tup (by rfl) (pgs_cons (pg_name (i := 6) sc__read_row.nd rfl (Or.inl rfl)) (pgs_cons (pg_name (i := 7) sc__read_row.nd rfl (Or.inl rfl)) pgs_nil))) (pss_cons (ps_set (i := 4) sc__read_row.nd rfl (Or.inl rfl) (pe_op op_and (pe_op op_add (pv 6) (pe_call (ok__prediction T) hr (by rfl) T.g__prediction T.F__prediction.kp T.b__prediction .nil pass0 (pa_cons (pv 0) (pa_cons (pv 4) (pa_cons (pv 7) (pa_cons (pv 5) pa_nil)))))) pe_int))
      (pss_cons (ps_set (i := 5) sc__read_row.nd rfl (Or.inl rfl) (pv 7))
      (pss_one (ps_expr (pe_bm PySem.F.plainAttrs_list PySem.F.slot_list_append PySem.F.type_list_append mt_append (pv 3) (pa_cons (pv 4) pa_nil)))))))
      (pss_one (ps_ret (pv 3))))))), ?_⟩
    walk_at "vc"
    intro p0 hp0
    have s0 := same_upd (o := .lst []) hp0
    refine ⟨⟨_, .inl (.inl (s0 _ _ hR))⟩, ⟨_, .inl (.inl (s0 _ _ hb))⟩, lp_zipS (xs := row.map V.int) (ys := bef.map V.int) (by rw [List.length_map, List.length_map]; exact hl)
      (fun i σ H' => ∃ (bv av : Option V), σ = [some (.int m), some (.ref r), some (.ref b), some (.ref p0), some (.int (rleft m row bef i)), some (.int (gP bef i)), bv, av] ∧ Same H H' ∧ H' p0 = some (.lst (List.map V.int ((List.range i).map (fun j => rleft m row bef (j + 1)))))) ⟨none, none, rfl, s0, upd_same⟩ ?_ ?_ ?_⟩
    · rintro i σ H' ⟨bv, av, rfl, sm, g0⟩
      exact ⟨.inl (.inl (sm _ _ hR)), .inl (.inl (sm _ _ hb))⟩
    · rintro i x y Tp σ H' hx hy ⟨bv, av, rfl, sm, g0⟩ hT
      have hi : i < row.length := by
        have := (List.getElem?_eq_some_iff.mp hx).1
        rwa [List.length_map] at this
      rw [List.getElem?_map] at hx hy
      obtain ⟨xb, hx1, rfl⟩ := Option.map_eq_some_iff.mp hx
      obtain ⟨yb, hy1, rfl⟩ := Option.map_eq_some_iff.mp hy
      have ex : gN row i = xb := by unfold gN; rw [List.getD_eq_getElem?_getD, hx1]; rfl
      have ey : gN bef i = yb := by unfold gN; rw [List.getD_eq_getElem?_getD, hy1]; rfl
      have s1 := sm.trans (same_upd (o := .tup [V.int xb, V.int yb]) hT)
      have n1 : p0 ≠ Tp := ne_of_none g0 hT
      have g1 : upd H' Tp (.tup [V.int xb, V.int yb]) p0 = some (.lst (List.map V.int ((List.range i).map (fun j => rleft m row bef (j + 1))))) := by rw [upd_ne n1]; exact g0
      walk_at "vc"
      refine ⟨_, .inl (.inl upd_same), rfl, _, _, rfl, _, _, rfl, rfl, _, rfl, fun H2 s2 => ⟨_, rfl, .inl ⟨rfl, _, .inl (.inl (s2 _ _ g1))⟩, _, s2 _ _ g1, ?_, ?_, ?_, ?_, ?_⟩⟩
      · rw [List.length_map, List.length_map, List.length_range]
        exact Nat.lt_of_le_of_lt (show i ≤ 1000 by omega) (by decide)
      · rw [bitAnd_m8, rleft, ex, ey]
      · rw [← ey]; rfl
      · exact same_upd2 (s1.trans s2) hp0
      · rw [List.range_succ, List.map_append, List.map_append, bitAnd_m8, ← ex, ← ey]
        rfl
    · rintro σ H' ⟨bv, av, rfl, sm, g0⟩
      walk_at "vc"
      rw [List.length_map] at g0
      exact q _ p0 sm hp0 g0
theorem ok__best_row (T : Txt K mg) : FnOk P w K mg base CX0 4 T.f__best_row T.fd__best_row ["row", "before"] (fun vs H Q _ => ∃ (r b : Addr) (row bef : List Int), vs = [.ref r, .ref b] ∧ H r = some (.lst (row.map V.int)) ∧ H b = some (.lst (bef.map V.int)) ∧ row.length ≤ bef.length ∧ row.length ≤ 1000 ∧
    ∀ H' p, Same H H' → H p = none → H' p = some (.lst (List.map V.int (bst row bef 4).2)) → Q (.ref p) H') := by
  refine T.F__best_row.ok sc__best_row (fun vs H Q E h => ?_) (fun cdv A outer s H vs Q E hr h => ?_)
  · obtain ⟨r, b, row, bef, rfl, _⟩ := h
    rfl
  · obtain ⟨r, b, row, bef, rfl, hR, hb, hl, hn, q⟩ := h
    refine ⟨_, (pss_cons (ps_set (i := 2) sc__best_row.nd rfl (Or.inl rfl) (pe_op op_cat (pe_lst (pa_cons pe_int pa_nil)) (pv 0)))
      (pss_cons (ps_set (i := 3) sc__best_row.nd rfl (Or.inl rfl) (pe_call (ok__weight T) (hr.mono (by decide)) (by rfl) T.g__weight T.F__weight.kp T.b__weight .nil pass0 (pa_cons (pv 0) pa_nil)))
      (pss_cons (ps_for PassesOwn.never rfl (pi_range2 (by rfl) T.z_range (pa_cons pe_int (pa_cons (pe_glob (v := .int 5) (by rfl) T.c__METHODS ⟨_, rfl⟩) pa_nil))) (pg_name (i := 4) sc__best_row.nd rfl (Or.inl rfl)) (pss_cons (ps_set (i := 5) sc__best_row.nd rfl (Or.inl rfl) (pe_call (ok__write_row T) hr (by rfl) T.g__write_row T.F__write_row.kp T.b__write_row .nil pass0 (pa_cons (pv 4) (pa_cons (pv 0) (pa_cons (pv 1) pa_nil)))))
      (pss_cons (ps_set (i := 6) sc__best_row.nd rfl (Or.inl rfl) (pe_call (ok__weight T) (hr.mono (by decide)) (by rfl) T.g__weight T.F__weight.kp T.b__weight .nil pass0 (pa_cons (pv 5) pa_nil)))
      (pss_one (ps_if (pt_cmpR op_lt (pv 6) (pv 3) (nomark _)) (pss_cons (ps_set (i := 2) sc__best_row.nd rfl (Or.inl rfl) (pe_op op_cat (pe_lst (pa_cons (pv 4) pa_nil)) (pv 5)))
      (pss_one (ps_set (i := 3) sc__best_row.nd rfl (Or.inl rfl) (pv 6)))) pss_nil)))))
      (pss_one (ps_ret (pv 2)))))), ?_⟩
    walk_at "vc"
    refine ⟨by decide, fun p1 hp1 => ⟨_, same_upd hp1 _ _ hR, ?_, fun p2 hp2 => ?_⟩⟩
    · rw [List.length_map]
      exact Nat.le_trans (show 1 + row.length ≤ 2000 by omega) (by decide)
    have s2 := (same_upd hp1 (o := .lst [V.int 0])).trans (same_upd hp2 (o := .lst (V.int 0 :: List.map V.int row)))
    have f2 : H p2 = none := (same_upd hp1 (o := .lst [V.int 0])).free hp2
    have g2 : upd (upd H p1 (.lst [V.int 0])) p2 (.lst (V.int 0 :: List.map V.int row)) p2 = some (.lst (List.map V.int (bst row bef 0).2)) := by rw [upd_same]; rfl
    generalize upd (upd H p1 (.lst [V.int 0])) p2 (.lst (V.int 0 :: List.map V.int row)) = H1 at s2 g2 ⊢
    refine ⟨row, s2 _ _ hR, hn, fun H2 s3 => ?_⟩
    refine for_range (lo := 1) (fun i σ H' => ∃ (pb : Addr) (mv wv gv : Option V), σ = [some (.ref r), some (.ref b), some (.ref pb), some (.int (bst row bef i).1), mv, wv, gv] ∧ Same H H' ∧ H pb = none ∧ H' pb = some (.lst (List.map V.int (bst row bef i).2))) ⟨p2, none, none, none, rfl, s2.trans s3, f2, s3 _ _ g2⟩ ?_ ?_
    · rintro i σ H' hi ⟨pb, mv, wv, gv, rfl, sm, fb, gb⟩
      walk_at "vc"
      refine ⟨row, sm _ _ hR, bef, sm _ _ hb, hl, hn, fun H3 pw s4 hpw gw => ?_⟩
      refine ⟨_, gw, by rw [wrow_len]; exact hn, fun H4 s5 => ?_⟩
      have gb4 := s5 _ _ (s4 _ _ gb)
      have gw4 := s5 _ _ gw
      have s6 := (sm.trans s4).trans s5
      rw [show (1 : Int) + (i : Int) = (i : Int) + 1 by omega] at *
      refine ite2 (fun e => ?_) (fun e => ?_)
      · have e1 := of_decide_eq_true e
        refine ⟨by decide, fun p3 hp3 => ⟨_, same_upd hp3 _ _ gw4, ?_, fun p4 hp4 => ?_⟩⟩
        · rw [List.length_map, wrow_len]
          exact Nat.le_trans (show 1 + row.length ≤ 2000 by omega) (by decide)
        rw [bst, if_pos e1]
        exact ⟨rfl, (s6.trans (same_upd hp3)).trans (same_upd hp4), (s6.trans (same_upd hp3)).free hp4, rfl⟩
      · rw [bst, if_neg (of_decide_eq_false' e)]
        exact ⟨rfl, s6, fb, gb4⟩
    · rintro σ H' ⟨pb, mv, wv, gv, rfl, sm, fb, gb⟩
      walk_at "vc"
      exact q _ pb sm fb gb
theorem iteT' {c : Bool} {a b : Prop} (h : c = true) (x : a) : if c = true then a else b := by rw [if_pos h]; exact x
theorem iteF' {c : Bool} {a b : Prop} (h : c = false) (x : b) : if c = true then a else b := by rw [if_neg (by rw [h]; decide)]; exact x
theorem rg_gen {L c : Nat} (hL : L < 1000000) (h1 : 1 ≤ c) (h2 : c ≤ 100000) : RgC 0 (L : Int) (c : Int) ((L + c - 1) / c) := by
  have hd : (L + c - 1) / c ≤ L + c - 1 := Nat.div_le_self _ _
  have e : Builtin.Range.rangeSize 0 (L : Int) (c : Int) = (((L + c - 1) / c : Nat) : Int) := by
    unfold Builtin.Range.rangeSize
    rw [if_pos (by omega)]
    by_cases h : L = 0
    · rw [if_neg (by omega), h, Nat.div_eq_of_lt (by omega)]
      rfl
    · rw [if_pos (by omega), show (L : Int) - 0 - 1 = ((L - 1 : Nat) : Int) by omega, ← Int.natCast_ediv, show L + c - 1 = (L - 1) + c by omega, Nat.add_div_right _ (by omega)]
      rfl
  generalize (L + c - 1) / c = n at hd e ⊢
  refine ⟨by omega, by omega, ?_, e⟩
  unfold Builtin.Range.small
  rw [e]
  simp only [Builtin.Range.rangeFitsLong, Bool.and_eq_true, Bool.or_eq_true, decide_eq_true_eq, beq_iff_eq, show ((c : Int) > 0) by omega, if_true]
  omega
theorem rg_lt {L c i : Nat} (h1 : 1 ≤ c) (h : i < (L + c - 1) / c) : i * c < L := by
  have := (Nat.le_div_iff_mul_le (by omega)).mp (Nat.succ_le_of_lt h)
  rw [Nat.succ_mul] at this
  omega
theorem ok_predict (T : Txt K mg) : FnOk P w K mg base CX0 5 T.f_predict T.fd_predict ["data", "width"] (fun vs H Q _ => ∃ (a : Addr) (ns : List Int) (x : Int), vs = [.ref a, .int x] ∧ H a = some (.lst (ns.map V.int)) ∧ ns.length ≤ 400 ∧
    ∀ H' p, Same H H' → H p = none → H' p = some (.lst (List.map V.int (pF ns (wd x) ((ns.length + wd x - 1) / wd x)))) → Q (.ref p) H') := by
  refine T.F_predict.ok sc_predict (fun vs H Q E h => ?_) (fun cdv A outer s H vs Q E hr h => ?_)
  · obtain ⟨a, ns, x, rfl, _⟩ := h
    rfl
  · obtain ⟨a, ns, x, rfl, ha, hn, q⟩ := h
    refine ⟨_, (pss_cons (ps_set (i := 1) sc_predict.nd rfl (Or.inl rfl) (pe_call (ok__bounded T) (hr.mono (by decide)) (by rfl) T.g__bounded T.F__bounded.kp T.b__bounded .nil pass0 (pa_cons (pv 1) pa_nil)))
      (pss_cons (ps_set (i := 2) sc_predict.nd rfl (Or.inl rfl) (pe_lst pa_nil))
      (pss_cons (ps_set (i := 3) sc_predict.nd rfl (Or.inl rfl) (pe_call (ok__no_row T) (hr.mono (by decide)) (by rfl) T.g__no_row T.F__no_row.kp T.b__no_row .nil pass0 (pa_cons (pv 0) (pa_cons (pv 1) pa_nil))))
      (pss_cons (ps_for PassesOwn.never rfl (pi_range3 (by rfl) T.z_range (pa_cons pe_int (pa_cons (pe_callB call_lenH (by rfl) T.z_len PySem.boot_len (pa_cons (pv 0) pa_nil)) (pa_cons (pv 1) pa_nil)))) (pg_name (i := 4) sc_predict.nd rfl (Or.inl rfl)) (pss_cons (ps_set (i := 5) sc_predict.nd rfl (Or.inl rfl) (pe_slice sl_listH (pv 0) (po_some (pv 4)) (po_some (pe_op op_add (pv 4) (pv 1)))))
      (pss_cons (ps_expr (pe_bm PySem.F.plainAttrs_list PySem.F.slot_list_extend PySem.F.type_list_extend mt_extend (pv 2) (pa_cons (pe_call (ok__best_row T) hr (by rfl) T.g__best_row T.F__best_row.kp T.b__best_row .nil pass0 (pa_cons (pv 5) (pa_cons (pv 3) pa_nil))) pa_nil)))
      (pss_one (ps_set (i := 3) sc_predict.nd rfl (Or.inl rfl) (pv 5))))))
      (pss_one (ps_ret (pv 2))))))), ?_⟩
    walk_at "vc"
    obtain ⟨eW, W1, W2⟩ := wd_eq x
    rw [eW]
    generalize wd x = W at W1 W2 q ⊢
    intro p0 hp0
    have s0 := same_upd (o := .lst []) hp0
    have g0 : upd H p0 (.lst []) p0 = some (.lst (List.map V.int [])) := upd_same
    generalize upd H p0 (.lst []) = H1 at s0 g0 ⊢
    refine ⟨ns, W, rfl, s0 _ _ ha, by omega, fun H2 pz s2 hpz gz => ⟨_, s2 _ _ (s0 _ _ ha), (ns.length + W - 1) / W, ?_, ?_⟩⟩
    · rw [List.length_map]
      exact rg_gen (by omega) W1 (by omega)
    refine for_rangeC (fun i σ H' => ∃ (pb : Addr) (av rv : Option V), σ = [some (.ref a), some (.int (W : Int)), some (.ref p0), some (.ref pb), av, rv] ∧ Same H H' ∧ H' pb = some (.lst (List.map V.int (bf ns W i))) ∧ H' p0 = some (.lst (List.map V.int (pF ns W i))) ∧ pb ≠ p0 ∧ (pF ns W i).length ≤ i * W + i) ⟨pz, none, none, rfl, s0.trans s2, gz, s2 _ _ g0, (ne_of_none g0 hpz).symm, Nat.zero_le _⟩ ?_ ?_
    · rintro i σ H' hi ⟨pb, av, rv, rfl, sm, gb, g0', nb, hFl⟩
      have hlt := rg_lt W1 hi
      rw [Int.zero_add]
      walk_at "vc"
      refine ⟨_, sm _ _ ha, fun pr0 hpr => ?_⟩
      rw [cut_sl (i := i * W) (j := i * W + W) (by rw [Int.natCast_mul]) (by rw [Int.natCast_add, Int.natCast_mul])] at *
      have s3 := same_upd (o := .lst (List.map V.int (sl ns (i * W) (i * W + W)))) hpr
      have gr : upd H' pr0 (.lst (List.map V.int (sl ns (i * W) (i * W + W)))) pr0 = some (.lst (List.map V.int (sl ns (i * W) (i * W + W)))) := upd_same
      have n1 : pr0 ≠ p0 := (ne_of_none g0' hpr).symm
      generalize upd H' pr0 (.lst (List.map V.int (sl ns (i * W) (i * W + W)))) = H3 at s3 gr ⊢
      have hrl : (sl ns (i * W) (i * W + W)).length = min W (ns.length - i * W) := by rw [sl_len]; congr 1; omega
      refine ⟨.inl ⟨rfl, _, .inl (.inl (s3 _ _ g0'))⟩, _, rfl, _, s3 _ _ gb, ?_, by omega, fun H4 pt s4 hpt gt => ⟨_, s4 _ _ (s3 _ _ g0'), _, gt, ?_, ?_, ?_, ?_, n1, ?_⟩⟩
      · rw [hrl]
        cases i with
        | zero => unfold bf; rw [List.length_replicate]; omega
        | succ j =>
          unfold bf
          rw [sl_len]
          rw [Nat.succ_mul] at hlt
          omega
      · rw [List.length_map, List.length_map, bst_len, hrl]
        have hiW : i ≤ i * W := Nat.le_mul_of_pos_right i W1
        exact Nat.le_trans (show (pF ns W i).length + (min W (ns.length - i * W) + 1) ≤ 100000 by omega) (by decide)
      · exact same_upd2 ((sm.trans s3).trans s4) hp0
      · rw [upd_ne n1]
        exact s4 _ _ gr
      · rw [pF, List.map_append]
      · rw [pF, List.length_append, bst_len, hrl, Nat.succ_mul]
        omega
    · rintro σ H' ⟨pb, av, rv, rfl, sm, gb, g0', nb, hFl⟩
      walk_at "vc"
      exact q _ p0 sm hp0 g0'
theorem ok_unpredict (T : Txt K mg) : FnOk P w K mg base CX0 4 T.f_unpredict T.fd_unpredict ["data", "width", "left"] (fun vs H Q _ => ∃ (a : Addr) (ns : List Int) (x left : Int), vs = [.ref a, .int x, .int left] ∧ H a = some (.lst (ns.map V.int)) ∧ ns.length ≤ 400 ∧ 0 ≤ left ∧
    ∀ H' p q', Same H H' → H p = none → H q' = none → p ≠ q' → H' p = some (.tup [.ref q', .int (unp ns (wd x) left).2]) → H' q' = some (.lst (List.map V.int (unp ns (wd x) left).1)) → Q (.ref p) H') := by
  refine T.F_unpredict.ok sc_unpredict (fun vs H Q E h => ?_) (fun cdv A outer s H vs Q E hr h => ?_)
  · obtain ⟨a, ns, x, left, rfl, _⟩ := h
    rfl
  · obtain ⟨a, ns, x, left, rfl, ha, hn, hl, q⟩ := h
    refine ⟨_, (pss_cons (ps_asg (pe_call (ok_spend T) (hr.mono (by decide)) (by rfl) T.g_spend T.F_spend.kp T.b_spend .nil pass0 (pa_cons (pv 2) (pa_cons (pe_callB call_lenH (by rfl) T.z_len PySem.boot_len (pa_cons (pv 0) pa_nil)) pa_nil))) (pg_tup (by rfl) (pgs_cons (pg_name (i := 2) sc_unpredict.nd rfl (Or.inl rfl)) (pgs_cons (pg_name (i := 3) sc_unpredict.nd rfl (Or.inl rfl)) pgs_nil))))
      (pss_cons (ps_if (pt_not (pt_val (pv 3))) (pss_one (ps_ret (pe_tup (pa_cons (pe_lst pa_nil) (pa_cons (pv 2) pa_nil))))) pss_nil)
      (pss_cons (ps_set (i := 1) sc_unpredict.nd rfl (Or.inl rfl) (pe_call (ok__bounded T) (hr.mono (by decide)) (by rfl) T.g__bounded T.F__bounded.kp T.b__bounded .nil pass0 (pa_cons (pv 1) pa_nil)))
      (pss_cons (ps_set (i := 4) sc_unpredict.nd rfl (Or.inl rfl) (pe_lst pa_nil))
      (pss_cons (ps_set (i := 5) sc_unpredict.nd rfl (Or.inl rfl) (pe_call (ok__no_row T) (hr.mono (by decide)) (by rfl) T.g__no_row T.F__no_row.kp T.b__no_row .nil pass0 (pa_cons (pv 0) (pa_cons (pv 1) pa_nil))))
      (pss_cons (ps_for PassesOwn.never rfl (pi_range3 (by rfl) T.z_range (pa_cons pe_int (pa_cons (pe_callB call_lenH (by rfl) T.z_len PySem.boot_len (pa_cons (pv 0) pa_nil)) (pa_cons (pe_op op_add (pv 1) pe_int) pa_nil)))) (pg_name (i := 6) sc_unpredict.nd rfl (Or.inl rfl)) (pss_cons (ps_set (i := 5) sc_unpredict.nd rfl (Or.inl rfl) (pe_call (ok__read_row T) hr (by rfl) T.g__read_row T.F__read_row.kp T.b__read_row .nil pass0 (pa_cons (pe_ix ix_listH (pv 0) (pv 6) (fun _ _ => rfl)) (pa_cons (pe_slice sl_listH (pv 0) (po_some (pe_op op_add (pv 6) pe_int)) (po_some (pe_op op_add (pe_op op_add (pv 6) pe_int) (pv 1)))) (pa_cons (pv 5) pa_nil)))))
      (pss_one (ps_expr (pe_bm PySem.F.plainAttrs_list PySem.F.slot_list_extend PySem.F.type_list_extend mt_extend (pv 4) (pa_cons (pv 5) pa_nil))))))
      (pss_one (ps_ret (pe_tup (pa_cons (pv 4) (pa_cons (pv 2) pa_nil))))))))))), ?_⟩
    walk_at "vc"
    refine ⟨_, ha, left, _, rfl, fun pt hpt => ?_⟩
    rw [List.length_map]
    have s1 : Same H (upd H pt (.tup (spdV left (ns.length : Int)))) := same_upd hpt
    have eL : spdL left (ns.length : Int) = if left < ns.length then 0 else left - ns.length := by unfold spdL; rw [cl_nat]
    have eB : spdB left (ns.length : Int) = !decide (left < ns.length) := by unfold spdB; rw [cl_nat]
    refine ⟨pt, rfl, _, .inl (.inl upd_same), rfl, _, _, rfl, _, _, rfl, rfl, _, rfl, ?_⟩
    generalize upd H pt (.tup (spdV left (ns.length : Int))) = H1 at s1 ⊢
    have fin : ∀ (H2 : Hp) (pf : Addr) (fs : List Int), Same H H2 → H pf = none → H2 pf = some (.lst (List.map V.int fs)) → (fs, spdL left (ns.length : Int)) = unp ns (wd x) left → 2 ≤ sizeLine ∧ ∀ (p : Addr), H2 p = none → Q (V.ref p) (upd H2 p (.tup [V.ref pf, V.int (spdL left (ns.length : Int))])) := fun H2 pf fs sm2 hpf g2 eR => by
      refine ⟨by decide, fun r hr' => ?_⟩
      have n1 : pf ≠ r := ne_of_none g2 hr'
      refine q _ r pf (sm2.trans (same_upd hr')) (sm2.free hr') hpf n1.symm ?_ ?_
      · rw [upd_same, ← eR]
      · rw [upd_ne n1, ← eR]
        exact g2
    rw [eB]
    by_cases e1 : left < ns.length
    · refine iteT' (by rw [decide_eq_true e1]; rfl) ?_
      intro p0 hp0
      exact fin _ p0 [] (s1.trans (same_upd hp0)) (s1.free hp0) upd_same (by rw [eL, unp, if_pos e1, if_pos e1])
    refine iteF' (by rw [decide_eq_false e1]; rfl) ?_
    rw [eL, if_neg e1] at fin
    unfold unp at fin
    rw [if_neg e1] at fin
    clear eB
    obtain ⟨eW, W1, W2⟩ := wd_eq x
    rw [eW]
    rw [eL, if_neg e1]
    clear q
    generalize wd x = W at W1 W2 fin ⊢
    intro p0 hp0
    have s0 := s1.trans (same_upd (o := .lst []) hp0)
    have hp00 := s1.free hp0
    have g0 : upd H1 p0 (.lst []) p0 = some (.lst (List.map V.int [])) := upd_same
    generalize upd H1 p0 (.lst []) = H2 at s0 g0 ⊢
    refine ⟨ns, W, rfl, s0 _ _ ha, by omega, fun H3 pz s2 hpz gz => ⟨_, s2 _ _ (s0 _ _ ha), (ns.length + W) / (W + 1), ?_, ?_⟩⟩
    · rw [List.length_map]
      exact rg_gen (c := W + 1) (by omega) (by omega) (by omega)
    refine for_rangeC (fun i σ H' => ∃ (pb : Addr) (av : Option V), σ = [some (.ref a), some (.int (W : Int)), some (.int (left - (ns.length : Int))), some (.bl true), some (.ref p0), some (.ref pb), av] ∧ Same H H' ∧ H' pb = some (.lst (List.map V.int (uB ns W i))) ∧ H' p0 = some (.lst (List.map V.int (uF ns W i))) ∧ pb ≠ p0 ∧ (uF ns W i).length ≤ i * (W + 1) ∧ ((i = 0 ∧ (uB ns W i).length = min W ns.length) ∨ (uB ns W i).length = W ∨ ns.length ≤ i * (W + 1))) ⟨pz, none, ?_, s0.trans s2, gz, s2 _ _ g0, (ne_of_none g0 hpz).symm, Nat.zero_le _, .inl ⟨rfl, by rw [uB, List.length_replicate]⟩⟩ ?_ ?_
    · rw [decide_eq_false e1]
      rfl
    · rintro i σ H' hi ⟨pb, av, rfl, sm, gb, g0', nb, hFl, hbl⟩
      have hlt := rg_lt (c := W + 1) (by omega) hi
      rw [Int.zero_add]
      walk_at "vc"
      refine ⟨_, sm _ _ ha, _, at_g' (i := i * (W + 1)) (by rw [Int.natCast_mul]; rfl) hlt, _, sm _ _ ha, fun pr0 hpr => ?_⟩
      rw [cut_sl (i := i * (W + 1) + 1) (j := i * (W + 1) + 1 + W) (by rw [Int.natCast_add, Int.natCast_mul]; rfl) (by rw [Int.natCast_add, Int.natCast_add, Int.natCast_mul]; rfl)] at *
      have s3 := same_upd (o := .lst (List.map V.int (sl ns (i * (W + 1) + 1) (i * (W + 1) + 1 + W)))) hpr
      have gr : upd H' pr0 (.lst (List.map V.int (sl ns (i * (W + 1) + 1) (i * (W + 1) + 1 + W)))) pr0 = some (.lst (List.map V.int (sl ns (i * (W + 1) + 1) (i * (W + 1) + 1 + W)))) := upd_same
      have hwl : (uW ns W i).length = min W (ns.length - (i * (W + 1) + 1)) := by unfold uW; rw [sl_len]; congr 1; omega
      rw [show sl ns (i * (W + 1) + 1) (i * (W + 1) + 1 + W) = uW ns W i from rfl] at s3 gr ⊢
      generalize upd H' pr0 (.lst (List.map V.int (uW ns W i))) = H4 at s3 gr ⊢
      refine ⟨_, rfl, uW ns W i, rfl, _, s3 _ _ gb, ?_, by omega, fun H5 p1 s4 hp1 g1 => ?_⟩
      · rw [hwl]
        rcases hbl with ⟨rfl, h⟩ | h | h <;> omega
      have n1 : p1 ≠ p0 := (ne_of_none (s3 _ _ g0') hp1).symm
      have hul : (uB ns W (i + 1)).length = (uW ns W i).length := by rw [uB]; unfold rrow; rw [List.length_map, List.length_range]
      refine ⟨.inl ⟨rfl, _, .inl (.inl (s4 _ _ (s3 _ _ g0')))⟩, _, s4 _ _ (s3 _ _ g0'), _, g1, ?_, ?_, ?_, ?_, n1, ?_, ?_⟩
      · rw [List.length_map, List.length_map]
        unfold rrow
        rw [List.length_map, List.length_range, hwl]
        exact Nat.le_trans (show (uF ns W i).length + min W (ns.length - (i * (W + 1) + 1)) ≤ 100000 by omega) (by decide)
      · exact same_upd2 ((sm.trans s3).trans s4) hp00
      · rw [upd_ne n1]
        exact g1
      · rw [uF, List.map_append]
        rfl
      · rw [uF, List.length_append, hul, hwl, Nat.succ_mul]
        omega
      · rw [hul, hwl, Nat.succ_mul]
        omega
    · rintro σ H' ⟨pb, av, rfl, sm, gb, g0', nb, hFl, hbl⟩
      walk_at "vc"
      exact fin _ p0 _ sm hp00 g0' rfl
end

section
variable {P : Program} {w : World} {K : PySem.W.Frag} {mg : Str → Option Value} {base : Heap}
def spInteger : Sp := fun vs H Q _ => ∃ i : Int, vs = [.int i] ∧ Q (.bl true) H
theorem ok__law_is_integer (T : Txt K mg) : FnOk P w K mg base CX0 1 T.f__law_is_integer T.fd__law_is_integer ["actual"] spInteger := by
  refine T.F__law_is_integer.ok sc__law_is_integer (fun vs H Q E h => ?_) (fun cdv A outer s H vs Q E hr h => ?_)
  · obtain ⟨i, rfl, _⟩ := h
    rfl
  · obtain ⟨i, rfl, q⟩ := h
    refine ⟨_, (pss_one (ps_ret (pe_and (pe_callB call_isiB (by rfl) T.z_isinstance (by decide +kernel) (pa_cons (pv 0) (pa_cons (pe_bltn (v := .ty "int") (u := .type "int") (by rfl) T.z_int (by decide +kernel) rfl) pa_nil))) (pe_one (pe_not (pe_callB call_isiB (by rfl) T.z_isinstance (by decide +kernel) (pa_cons (pv 0) (pa_cons (pe_bltn (v := .ty "bool") (u := .type "bool") (by rfl) T.z_bool (by decide +kernel) rfl) pa_nil)))))))), ?_⟩
    walk_at "vc"
    exact q
def spIsBytes : Sp := fun vs H Q _ => ∃ (p : Addr) (ns : List Int), vs = [.ref p] ∧ H p = some (.lst (ns.map V.int)) ∧ Byt ns ∧ Q (.bl true) H
theorem ok__law_is_bytes (T : Txt K mg) : FnOk P w K mg base CX0 2 T.f__law_is_bytes T.fd__law_is_bytes ["actual"] spIsBytes := by
  refine T.F__law_is_bytes.ok sc__law_is_bytes (fun vs H Q E h => ?_) (fun cdv A outer s H vs Q E hr h => ?_)
  · obtain ⟨p, ns, rfl, _⟩ := h
    rfl
  · obtain ⟨p, ns, rfl, hp, hB, q⟩ := h
    refine ⟨_, (pss_cons (ps_if (pt_not (pt_val (pe_callB call_isiB (by rfl) T.z_isinstance (by decide +kernel) (pa_cons (pv 0) (pa_cons (pe_bltn (v := .ty "list") (u := .type "list") (by rfl) T.z_list (by decide +kernel) rfl) pa_nil))))) (pss_one (ps_ret pe_bl)) pss_nil)
      (pss_cons (ps_for PassesOwn.never rfl (pi_list (pv 0)) (pg_name (i := 1) sc__law_is_bytes.nd rfl (Or.inl rfl)) (pss_one (ps_if (PW.pt (pw_or (pt_not (pt_val (pe_call (ok__law_is_integer T) hr (by rfl) T.g__law_is_integer T.F__law_is_integer.kp T.b__law_is_integer .nil pass0 (pa_cons (pv 1) pa_nil)))) (pw_or (pt_cmpR op_lt (pv 1) pe_int (nomark _)) (pw_or1 (pt_cmpR op_gt (pv 1) pe_int (nomark _)))))) (pss_one (ps_ret pe_bl)) pss_nil)))
      (pss_one (ps_ret pe_bl)))), ?_⟩
    walk_at "vc"
    simp only [hp]
    walk_at "vc"
    refine ⟨⟨_, .inl (.inl hp)⟩, lp_list (xs := ns.map V.int) (fun i σ H' => ∃ bv, σ = [some (.ref p), bv] ∧ H' = H) ⟨none, rfl, rfl⟩ ?_ ?_ ?_⟩
    · rintro i σ H' _ ⟨bv, rfl, rfl⟩
      exact .inl (.inl hp)
    · rintro i x σ H' hx ⟨bv, rfl, rfl⟩
      rw [List.getElem?_map] at hx
      obtain ⟨b, hb1, rfl⟩ := Option.map_eq_some_iff.mp hx
      have hb := hB b (List.mem_of_getElem? hb1)
      walk_at "vc"
      simp only [spInteger]
      walk_at "vc"
      rw [decide_eq_false (show ¬ b < 0 by omega), decide_eq_false (show ¬ 255 < b by omega)]
      exact iteF (iteF True.intro)
    · rintro σ H' ⟨bv, rfl, rfl⟩
      walk_at "vc"
      exact q

end
section
variable {P : Program} {w : World} {K : PySem.W.Frag} {mg : Str → Option Value} {base : Heap}
theorem ok__law_prediction (T : Txt K mg) : FnOk P w K mg base CX0 1 T.f__law_prediction T.fd__law_prediction ["method", "left", "above", "corner"] (fun vs H Q _ => ∃ (m : Nat) (l a c : Int), vs = [.int (m : Int), .int l, .int a, .int c] ∧ m < 5 ∧ ∀ H', Same H H' → Q (.int (pr m l a c)) H') := by
  refine T.F__law_prediction.ok sc__law_prediction (fun vs H Q E h => ?_) (fun cdv A outer s H vs Q E hr h => ?_)
  · obtain ⟨m, l, a, c, rfl, _⟩ := h
    rfl
  · obtain ⟨m, l, a, c, rfl, hm, q⟩ := h
    refine ⟨_, (pss_cons (ps_if (pt_cmpR op_eq (pv 0) pe_int (nomark _)) (pss_cons (ps_set (i := 4) sc__law_prediction.nd rfl (Or.inl rfl) (pv 1))
      (pss_cons (ps_for PassesOwn.never rfl (pi_list (pe_lst (pa_cons (pv 2) (pa_cons (pv 3) pa_nil)))) (pg_name (i := 5) sc__law_prediction.nd rfl (Or.inl rfl)) (pss_one (ps_if (pt_cmpR op_lt (pe_callB call_abs (by rfl) T.z_abs (by decide +kernel) (pa_cons (pe_op op_add (pe_op op_sub (pe_op op_sub (pv 5) (pv 1)) (pv 2)) (pv 3)) pa_nil)) (pe_callB call_abs (by rfl) T.z_abs (by decide +kernel) (pa_cons (pe_op op_add (pe_op op_sub (pe_op op_sub (pv 4) (pv 1)) (pv 2)) (pv 3)) pa_nil)) (nomark _)) (pss_one (ps_set (i := 4) sc__law_prediction.nd rfl (Or.inl rfl) (pv 5))) pss_nil)))
      (pss_one (ps_ret (pv 4))))) pss_nil)
      (pss_one (ps_ret (pe_ix ix_listH (pe_lst (pa_cons pe_int (pa_cons (pv 1) (pa_cons (pv 2) (pa_cons (pe_op op_fdiv (pe_op op_add (pv 1) (pv 2)) pe_int) pa_nil))))) (pv 0) (fun _ _ => rfl))))), ?_⟩
    walk_at "vc"
    refine ite2 (fun e => ?_) (fun e => ?_)
    · have e1 : (m : Int) = 4 := of_decide_eq_true e
      rw [show pr m l a c = nr l a c by unfold pr; rw [e1]; rfl] at q
      refine ⟨by decide, fun p hp => ?_⟩
      have s1 := same_upd (o := .lst [V.int a, V.int c]) hp
      have ee : ∀ x : Int, x - l - a + c = x - (l + a - c) := fun x => by omega
      refine ⟨⟨_, .inl (.inl upd_same)⟩, lp_list (xs := [V.int a, V.int c]) (fun i σ H' => H' = upd H p (.lst [V.int a, V.int c]) ∧ ∃ (b : Int) (ov : Option V), σ = [some (.int (m : Int)), some (.int l), some (.int a), some (.int c), some (.int b), ov] ∧
        (i = 0 ∧ b = l ∨ i = 1 ∧ b = (if absI (a - (l + a - c)) < absI (l - (l + a - c)) then a else l) ∨ i = 2 ∧ b = nr l a c)) ⟨rfl, l, none, rfl, .inl ⟨rfl, rfl⟩⟩ ?_ ?_ ?_⟩
      · rintro i σ H' _ ⟨rfl, _⟩
        exact .inl (.inl upd_same)
      · rintro i x σ H' hx ⟨rfl, b, ov, rfl, hb⟩
        walk_at "vc"
        simp only [ee]
        rcases hb with ⟨rfl, hb⟩ | ⟨rfl, hb⟩ | ⟨rfl, hb⟩
        · obtain rfl : V.int a = x := by simpa using hx
          rw [hb]
          refine ⟨_, rfl, ite2 (fun e => ?_) (fun e => ?_)⟩
          · exact ⟨a, rfl, .inl ⟨rfl, (if_pos (of_decide_eq_true e)).symm⟩⟩
          · exact .inl ⟨rfl, (if_neg (of_decide_eq_false' e)).symm⟩
        · obtain rfl : V.int c = x := by simpa using hx
          rw [hb]
          refine ⟨_, rfl, ite2 (fun e => ?_) (fun e => ?_)⟩
          · exact ⟨c, rfl, .inr ⟨rfl, (if_pos (of_decide_eq_true e)).symm⟩⟩
          · exact .inr ⟨rfl, (if_neg (of_decide_eq_false' e)).symm⟩
        · cases hx
      · rintro σ H' ⟨rfl, b, ov, rfl, hb⟩
        have hb2 : b = nr l a c := by
          rcases hb with ⟨z, _⟩ | ⟨z, _⟩ | ⟨_, z⟩
          · cases z
          · cases z
          · exact z
        walk_at "vc"
        rw [hb2]
        exact q _ s1
    · have e1 : ¬ (m : Int) = 4 := of_decide_eq_false' e
      have hm4 : m = 0 ∨ m = 1 ∨ m = 2 ∨ m = 3 := by omega
      refine ⟨⟨by decide, by decide⟩, by decide, fun p hp => ?_⟩
      have q1 := q _ (same_upd (o := .lst [V.int 0, V.int l, V.int a, V.int ((l + a) / 2)]) hp)
      rcases hm4 with rfl | rfl | rfl | rfl
      · exact ⟨_, atI_c0 _ _, q1⟩
      · exact ⟨_, atI_c1 _ _ _, q1⟩
      · exact ⟨_, atI_c2 _ _ _ _, q1⟩
      · exact ⟨_, atI_c3 _ _ _ _ _, q1⟩
def nb (ns : List Int) (W at_ : Nat) : Int × Int × Int :=
  (if 0 < at_ % W then gN ns (at_ - 1) else 0, if W ≤ at_ then gN ns (at_ - W) else 0, if W ≤ at_ ∧ 0 < at_ % W then gN ns (at_ - W - 1) else 0)
theorem ok__law_neighbours (T : Txt K mg) : FnOk P w K mg base CX0 1 T.f__law_neighbours T.fd__law_neighbours ["data", "width", "at"] (fun vs H Q _ => ∃ (a : Addr) (ns : List Int) (W i : Nat), vs = [.ref a, .int (W : Int), .int (i : Int)] ∧ H a = some (.lst (ns.map V.int)) ∧ 1 ≤ W ∧ i < ns.length ∧
    ∀ p, H p = none → Q (.ref p) (upd H p (.tup [.int (nb ns W i).1, .int (nb ns W i).2.1, .int (nb ns W i).2.2]))) := by
  refine T.F__law_neighbours.ok sc__law_neighbours (fun vs H Q E h => ?_) (fun cdv A outer s H vs Q E hr h => ?_)
  · obtain ⟨a, ns, W, i, rfl, _⟩ := h
    rfl
  · obtain ⟨a, ns, W, i, rfl, ha, hW, hi, q⟩ := h
    refine ⟨_, (pss_cons (ps_set (i := 3) sc__law_neighbours.nd rfl (Or.inl rfl) pe_int)
      (pss_cons (ps_set (i := 4) sc__law_neighbours.nd rfl (Or.inl rfl) pe_int)
      (pss_cons (ps_set (i := 5) sc__law_neighbours.nd rfl (Or.inl rfl) pe_int)
      (pss_cons (ps_if (pt_cmpR op_gt (pe_op op_mod (pv 2) (pv 1)) pe_int (nomark _)) (pss_one (ps_set (i := 3) sc__law_neighbours.nd rfl (Or.inl rfl) (pe_ix ix_listH (pv 0) (pe_op op_sub (pv 2) pe_int) (fun _ _ => rfl)))) pss_nil)
      (pss_cons (ps_if (pt_cmpR op_ge (pv 2) (pv 1) (nomark _)) (pss_one (ps_set (i := 4) sc__law_neighbours.nd rfl (Or.inl rfl) (pe_ix ix_listH (pv 0) (pe_op op_sub (pv 2) (pv 1)) (fun _ _ => rfl)))) pss_nil)
      (pss_cons (ps_if (PW.pt (pw_and (pt_cmpR op_ge (pv 2) (pv 1) (nomark _)) (pw_and1 (pt_cmpR op_gt (pe_op op_mod (pv 2) (pv 1)) pe_int (nomark _))))) (pss_one (ps_set (i := 5) sc__law_neighbours.nd rfl (Or.inl rfl) (pe_ix ix_listH (pv 0) (pe_op op_sub (pe_op op_sub (pv 2) (pv 1)) pe_int) (fun _ _ => rfl)))) pss_nil)
      (pss_one (ps_ret (pe_tup (pa_cons (pv 3) (pa_cons (pv 4) (pa_cons (pv 5) pa_nil)))))))))))), ?_⟩
    walk_at "vc"
    simp only [ha]
    walk_at "vc"
    have e1 : decide (0 < (i : Int) % (W : Int)) = decide (0 < i % W) := by rw [← Int.natCast_emod]; exact decide_eq_decide.mpr (by omega)
    have e2 : decide ((W : Int) ≤ (i : Int)) = decide (W ≤ i) := decide_eq_decide.mpr (by omega)
    rw [e1, e2]
    refine ⟨by omega, ?_⟩
    unfold nb at q
    have fin : ∀ (x y z : Int), (∀ p, H p = none → Q (V.ref p) (upd H p (HO.tup [V.int x, V.int y, V.int z]))) → 3 ≤ sizeLine ∧ ∀ p, H p = none → Q (V.ref p) (upd H p (HO.tup [V.int x, V.int y, V.int z])) := fun _ _ _ h => ⟨by decide, h⟩
    by_cases h1 : 0 < i % W
    · have i1 : 0 < i := by
        rcases Nat.eq_zero_or_pos i with z | z
        · rw [z, Nat.zero_mod] at h1; omega
        · exact z
      refine iteT' (decide_eq_true h1) ⟨_, at_g' (i := i - 1) (by omega) (by omega), ?_⟩
      by_cases h2 : W ≤ i
      · have i2 : W < i := by
          rcases Nat.lt_or_eq_of_le h2 with z | z
          · exact z
          · rw [← z, Nat.mod_self] at h1; omega
        rw [if_pos h1, if_pos h2, if_pos ⟨h2, h1⟩] at q
        exact iteT' (decide_eq_true h2) ⟨_, at_g' (i := i - W) (by omega) (by omega), iteT' (decide_eq_true h2) ⟨by omega, iteT' (decide_eq_true h1) ⟨_, at_g' (i := i - W - 1) (by omega) (by omega), fin _ _ _ q⟩⟩⟩
      · rw [if_pos h1, if_neg h2, if_neg (fun z => h2 z.1)] at q
        exact iteF' (decide_eq_false h2) (iteF' (decide_eq_false h2) (fin _ _ _ q))
    · refine iteF' (decide_eq_false h1) ?_
      by_cases h2 : W ≤ i
      · rw [if_neg h1, if_pos h2, if_neg (fun z => h1 z.2)] at q
        exact iteT' (decide_eq_true h2) ⟨_, at_g' (i := i - W) (by omega) (by omega), iteT' (decide_eq_true h2) ⟨by omega, iteF' (decide_eq_false h1) (fin _ _ _ q)⟩⟩
      · rw [if_neg h1, if_neg h2, if_neg (fun z => h2 z.1)] at q
        exact iteF' (decide_eq_false h2) (iteF' (decide_eq_false h2) (fin _ _ _ q))
theorem cut_back (ns : List Int) {c : Int} (hc : 0 ≤ c) : ∃ k, cutV (ns.map V.int) (some ((ns.length : Int) - c)) none = (ns.drop k).map V.int ∧ (ns.drop k).length ≤ c.toNat := by
  refine ⟨HT.sIx ns.length 0 (some ((ns.length : Int) - c)), ?_, ?_⟩
  · unfold cutV
    rw [HT.sIx_none, List.length_map, ← List.map_drop, ← List.map_take, List.take_of_length_le (by rw [List.length_drop]; exact Nat.le_refl _)]
  · rw [List.length_drop]
    unfold HT.sIx
    show ns.length - (if (ns.length : Int) - c < 0 then ((ns.length : Int) - c + (ns.length : Int)).toNat else min ((ns.length : Int) - c).toNat ns.length) ≤ _
    split <;> omega
def spRows : Sp := fun vs H Q _ => ∃ (ps : Addr), vs = [.ref ps] ∧ DrawSt ps H ∧
  ∀ H' p D, Adv ps H H' → H p = none → H' p = some (.lst (List.map V.int D)) → Byt D → D.length ≤ 90 → Q (.ref p) H'
theorem ok__law_rows (T : Txt K mg) : FnOk P w K mg base CX0 2 T.f__law_rows T.fd__law_rows ["state"] spRows := by
  refine T.F__law_rows.ok sc__law_rows (fun vs H Q E h => ?_) (fun cdv A outer s H vs Q E hr h => ?_)
  · obtain ⟨ps, rfl, _⟩ := h
    rfl
  · obtain ⟨ps, rfl, hst, q⟩ := h
    refine ⟨_, (pss_cons (ps_set (i := 1) sc__law_rows.nd rfl (Or.inl rfl) (pe_lst pa_nil))
      (pss_cons (ps_for PassesOwn.never rfl (pi_range1 (by rfl) T.z_range (pa_cons (pe_call (ok__law_draw T) hr (by rfl) T.g__law_draw T.F__law_draw.kp T.b__law_draw .nil pass0 (pa_cons (pv 0) (pa_cons pe_int pa_nil))) pa_nil)) (pg_name (i := 2) sc__law_rows.nd rfl (Or.inl rfl)) (pss_cons (ps_set (i := 3) sc__law_rows.nd rfl (Or.inl rfl) (pe_call (ok__law_draw T) hr (by rfl) T.g__law_draw T.F__law_draw.kp T.b__law_draw .nil pass0 (pa_cons (pv 0) (pa_cons pe_int pa_nil))))
      (pss_cons (ps_set (i := 4) sc__law_rows.nd rfl (Or.inr rfl) (pe_call (ok__law_draw T) hr (by rfl) T.g__law_draw T.F__law_draw.kp T.b__law_draw .nil pass0 (pa_cons (pv 0) (pa_cons pe_int pa_nil))))
      (pss_cons (ps_set (i := 5) sc__law_rows.nd rfl (Or.inr rfl) (pe_op op_sub (pe_call (ok__law_draw T) hr (by rfl) T.g__law_draw T.F__law_draw.kp T.b__law_draw .nil pass0 (pa_cons (pv 0) (pa_cons pe_int pa_nil))) pe_int))
      (pss_cons (ps_set (i := 6) sc__law_rows.nd rfl (Or.inl rfl) (pe_call (ok__law_draw T) hr (by rfl) T.g__law_draw T.F__law_draw.kp T.b__law_draw .nil pass0 (pa_cons (pv 0) (pa_cons pe_int pa_nil))))
      (pss_cons (ps_if (pt_cmpR op_eq (pv 3) pe_int (nomark _)) (pss_one (ps_set (i := 1) sc__law_rows.nd rfl (Or.inl rfl) (pe_op op_cat (pv 1) (pe_lc (own := [("k", 7)]) (g := (gName 7)) rfl sc__law_rows.nd (pi_range1 (by rfl) T.z_range (pa_cons (pv 6) pa_nil)) (blkOk_by (own := [("k", 7)]) (N := ["state", "data", "turn", "how", "start", "step", "count", "k", "byte"]) (sc := defScope s__law_rows) (by decide +kernel)) (fun _ _ _ _ _ => (pg_name (i := 7) sc__law_rows.nd rfl (Or.inl rfl))) (fun _ _ _ _ _ => pts_nil) (fun _ _ _ _ _ => (pe_call (ok__law_draw T) hr (by rfl) T.g__law_draw T.F__law_draw.kp T.b__law_draw .nil pass0 (pa_cons (pv 0) (pa_cons pe_int pa_nil)))))))) pss_nil)
      (pss_cons (ps_if (pt_cmpR op_eq (pv 3) pe_int (nomark _)) (pss_one (ps_set (i := 1) sc__law_rows.nd rfl (Or.inl rfl) (pe_op op_cat (pv 1) (pe_lc (own := [("k", 7)]) (g := (gName 7)) rfl sc__law_rows.nd (pi_range1 (by rfl) T.z_range (pa_cons (pv 6) pa_nil)) (blkOk_by (own := [("k", 7)]) (N := ["state", "data", "turn", "how", "start", "step", "count", "k", "byte"]) (sc := defScope s__law_rows) (by decide +kernel)) (fun _ _ _ _ _ => (pg_name (i := 7) sc__law_rows.nd rfl (Or.inl rfl))) (fun _ _ _ _ _ => pts_nil) (fun _ _ _ _ _ => (pe_op op_mod (pe_op op_add (pv 4) (pe_op op_mul (pv 7) (pv 5))) pe_int)))))) pss_nil)
      (pss_cons (ps_if (pt_cmpR op_eq (pv 3) pe_int (nomark _)) (pss_one (ps_set (i := 1) sc__law_rows.nd rfl (Or.inl rfl) (pe_op op_cat (pv 1) (pe_op op_rep (pe_lst (pa_cons (pv 4) pa_nil)) (pv 6))))) pss_nil)
      (pss_one (ps_if (pt_cmpR op_eq (pv 3) pe_int (nomark _)) (pss_one (ps_set (i := 1) sc__law_rows.nd rfl (Or.inl rfl) (pe_op op_cat (pv 1) (pe_lc (own := [("byte", 8)]) (g := (gName 8)) rfl sc__law_rows.nd (pi_list (pe_slice sl_listH (pv 1) (po_some (pe_op op_sub (pe_callB call_lenH (by rfl) T.z_len PySem.boot_len (pa_cons (pv 1) pa_nil)) (pv 6))) po_none)) (blkOk_by (own := [("byte", 8)]) (N := ["state", "data", "turn", "how", "start", "step", "count", "k", "byte"]) (sc := defScope s__law_rows) (by decide +kernel)) (fun _ _ _ _ _ => (pg_name (i := 8) sc__law_rows.nd rfl (Or.inl rfl))) (fun _ _ _ _ _ => pts_nil) (fun _ _ _ _ _ => (pe_op op_mod (pe_op op_add (pv 8) (pv 5)) pe_int)))))) pss_nil))))))))))
      (pss_one (ps_ret (pe_slice sl_listH (pv 1) po_none (po_some pe_int)))))), ?_⟩
    walk_at "vc"
    intro p0 hp0
    have a0 := (Adv.refl hst).new (o := .lst []) hp0
    refine ⟨ps, 7, rfl, a0.st, by decide, by decide, fun H1 tn a1 t0 t1 => ?_⟩
    walk_at "vc"
    have n0 : p0 ≠ ps := hst.ne hp0
    have g0 := a1.same _ _ n0 (upd_same (H := H) (o := .lst []))
    refine ⟨by omega, by omega, ?_⟩
    refine lp_range (fun i σ H' => ∃ (p : Addr) (D : List Int) (tv hv sv pv cv kv bv : Option V), σ = [some (.ref ps), some (.ref p), tv, hv, sv, pv, cv, kv, bv] ∧ Adv ps H H' ∧ H p = none ∧ H' p = some (.lst (List.map V.int D)) ∧ Byt D ∧ D.length ≤ 16 * i) ⟨p0, [], none, none, none, none, none, none, none, rfl, a0.trans a1, hp0, g0, byt_nil, Nat.zero_le _⟩ ?_ ?_
    · rintro i σ H' hi ⟨p, D, tv, hv, sv, pv, cv, kv, bv, rfl, ad, hp, gp, hB, hl⟩
      have hi9 : i < 7 := by omega
      have np : p ≠ ps := hst.ne hp
      walk_at "vc"
      refine ⟨ps, 4, rfl, ad.st, by decide, by decide, fun H3 how a3 w0 w1 => ?_⟩
      refine ⟨ps, 256, rfl, a3.st, by decide, by decide, fun H4 start a4 x0 x1 => ?_⟩
      refine ⟨ps, 9, rfl, a4.st, by decide, by decide, fun H5 step a5 y0 y1 => ?_⟩
      refine ⟨_, rfl, ps, 16, rfl, a5.st, by decide, by decide, fun H6 count a6 z0 z1 => ?_⟩
      have b6 := (((ad.trans a3).trans a4).trans a5).trans a6
      have gp6 := a6.same _ _ np (a5.same _ _ np (a4.same _ _ np (a3.same _ _ np gp)))
      clear a3 a4 a5 a6 ad
      have : how = 0 ∨ how = 1 ∨ how = 2 ∨ how = 3 := by omega
      clear w0 w1
      have fin : ∀ (H4 : Hp) (X : List Int) (r : Addr), Adv ps H H4 → Byt X → X.length ≤ 16 → H4 r = none →
          (Adv ps H (upd H4 r (HO.lst (List.map V.int D ++ List.map V.int X))) ∧ H r = none ∧ ∃ x, List.map V.int D ++ List.map V.int X = List.map V.int x ∧ Byt x ∧ x.length ≤ 16 * (i + 1)) := fun H4 X r a4 hX hXl hr4 =>
        ⟨a4.new hr4, a4.free hr4, D ++ X, (List.map_append).symm, byt_app hB hX, by rw [List.length_append]; omega⟩
      have siz : ∀ X : List Int, X.length ≤ 16 → (List.map V.int D).length + (List.map V.int X).length ≤ sizeLine := fun X h => by
        rw [List.length_map, List.length_map]
        exact Nat.le_trans (show D.length + X.length ≤ 5000 by omega) (by decide)
      rcases this with rfl | rfl | rfl | rfl
      all_goals walk_at "vc"
      · refine ⟨by omega, by omega, ?_⟩
        refine lc_rng (fun E i Hc => Adv ps H Hc ∧ Hc p = some (.lst (List.map V.int D)) ∧ ∃ L, Hc E = some (.lst (List.map V.int L)) ∧ Byt L ∧ L.length = i) (fun E hE => ⟨b6.new hE, by rw [upd_ne (ne_of_none gp6 hE)]; exact gp6, [], upd_same, byt_nil, rfl⟩) (fun E u Hc hu hE ⟨ac, gc, L, gL, hL, hLl⟩ => ?_) (fun E Hc hE ⟨ac, gc, L, gL, hL, hLl⟩ => ?_)
        · have nE := b6.st.ne hE
          have hE0 := b6.free hE
          walk_at "vc"
          refine ⟨ps, 256, rfl, ac.st, by decide, by decide, fun H7 v a7 v0 v1 => ?_⟩
          refine ⟨_, a7.same _ _ nE gL, ?_, (ac.trans a7).put nE hE0, ?_, L ++ [v], ?_, byt_app hL (byt_one v0 v1), by rw [List.length_append, hLl]; rfl⟩
          · rw [List.length_map]
            exact Nat.lt_of_le_of_lt (show L.length ≤ 100 by omega) (by decide)
          · rw [upd_ne (ne_of_none gp6 hE)]
            exact a7.same _ _ np gc
          · rw [List.map_append]
            rfl
        · exact ⟨E, rfl, _, gc, _, gL, siz L (by omega), fun r hr4 => fin Hc L r ac hL (by omega) hr4⟩
      · refine ⟨by omega, by omega, ?_⟩
        refine lc_pure_range (fun u => List.map V.int ((List.range u).map (fun k : Nat => (start + (k : Int) * (step - 4)) % 256))) rfl (fun u E hu hE => ?_) (fun E hE => ?_)
        · walk_at "vc"
          refine ⟨?_, ?_, ?_⟩
          · left
            omega
          · rw [List.length_map, List.length_map, List.length_range]
            exact Nat.lt_of_le_of_lt (show u ≤ 100 by omega) (by decide)
          · rw [List.range_succ, List.map_append, List.map_append]
            rfl
        · have hX : Byt ((List.range count.toNat).map (fun k : Nat => (start + (k : Int) * (step - 4)) % 256)) := fun b hb => by
            obtain ⟨k, _, rfl⟩ := List.mem_map.mp hb
            exact ⟨Int.emod_nonneg _ (by decide), Int.emod_lt_of_pos _ (by decide)⟩
          have hXl : ((List.range count.toNat).map (fun k : Nat => (start + (k : Int) * (step - 4)) % 256)).length ≤ 16 := by rw [List.length_map, List.length_range]; omega
          refine ⟨E, rfl, _, by rw [upd_ne (ne_of_none gp6 hE)]; exact gp6, _, upd_same, siz _ hXl, fun r hr4 => fin _ _ r (b6.new hE) hX hXl hr4⟩
      · refine ⟨by decide, fun r1 hr1 => ⟨by omega, by omega, ?_, fun r2 hr2 => ?_⟩⟩
        · exact Nat.le_trans (show 1 * count.toNat ≤ 16 by omega) (by decide)
        have gp7 : upd H6 r1 (.lst [V.int start]) p = some (.lst (List.map V.int D)) := by rw [upd_ne (ne_of_none gp6 hr1)]; exact gp6
        rw [rep_one]
        have hX : Byt (List.replicate count.toNat start) := fun b hb => by rw [List.eq_of_mem_replicate hb]; exact ⟨x0, x1⟩
        have hXl : (List.replicate count.toNat start).length ≤ 16 := by rw [List.length_replicate]; omega
        refine ⟨_, by rw [upd_ne (ne_of_none gp7 hr2)]; exact gp7, siz _ hXl, fun r hr4 => fin _ _ r ((b6.new hr1).new hr2) hX hXl hr4⟩
      · refine ⟨_, gp6, _, gp6, fun r1 hr1 => ?_⟩
        obtain ⟨k, hk, hkl⟩ := cut_back D z0
        rw [List.length_map, hk]
        have b7 := b6.new (o := .lst (List.map V.int (D.drop k))) hr1
        have gp7 : upd H6 r1 (.lst (List.map V.int (D.drop k))) p = some (.lst (List.map V.int D)) := by rw [upd_ne (ne_of_none gp6 hr1)]; exact gp6
        have gr7 : upd H6 r1 (.lst (List.map V.int (D.drop k))) r1 = some (.lst (List.map V.int (D.drop k))) := upd_same
        generalize upd H6 r1 (.lst (List.map V.int (D.drop k))) = H7 at b7 gp7 gr7 ⊢
        generalize D.drop k = X at hkl gr7 ⊢
        refine ⟨⟨_, .inl (.inl gr7)⟩, lc_pure (xs := X.map V.int) (fun u => List.map V.int ((X.take u).map (fun b : Int => (b + (step - 4)) % 256))) (.inl (.inl gr7)) rfl (fun u x E hx hE => ?_) (fun E hE => ?_)⟩
        · rw [List.getElem?_map] at hx
          obtain ⟨b, hb1, rfl⟩ := Option.map_eq_some_iff.mp hx
          walk_at "vc"
          refine ⟨?_, ?_⟩
          · rw [List.length_map, List.length_map, List.length_take]
            exact Nat.lt_of_le_of_lt (show min u X.length ≤ 100 by omega) (by decide)
          · rw [List.take_add_one, hb1]
            simp
        · rw [List.length_map, List.take_length]
          have hX : Byt (X.map (fun b : Int => (b + (step - 4)) % 256)) := fun b hb => by
            obtain ⟨k, _, rfl⟩ := List.mem_map.mp hb
            exact ⟨Int.emod_nonneg _ (by decide), Int.emod_lt_of_pos _ (by decide)⟩
          have hXl : (X.map (fun b : Int => (b + (step - 4)) % 256)).length ≤ 16 := by rw [List.length_map]; omega
          refine ⟨E, rfl, _, by rw [upd_ne (ne_of_none gp7 hE)]; exact gp7, _, upd_same, siz _ hXl, fun r hr4 => fin _ _ r (b7.new hE) hX hXl hr4⟩
    · rintro σ H' ⟨p, D, tv, hv, sv, pv, cv, kv, bv, rfl, ad, hp, gp, hB, hl⟩
      walk_at "vc"
      refine ⟨_, gp, fun r hr' => ?_⟩
      rw [show (90 : Int) = ((90 : Nat) : Int) from rfl, cut_take]
      exact q _ r (D.take 90) (ad.new hr') (ad.free hr') upd_same (fun b hb => hB b (List.mem_of_mem_take hb)) (by rw [List.length_take]; omega)
theorem gN_sl {ns : List Int} {a b j : Nat} (h : j < b - a) : gN (sl ns a b) j = gN ns (a + j) := by
  unfold gN sl
  rw [List.getD_eq_getElem?_getD, List.getD_eq_getElem?_getD, List.getElem?_take, if_pos h, List.getElem?_drop]
theorem gN_rep {n j : Nat} : gN (List.replicate n 0) j = 0 := by
  unfold gN
  rw [List.getD_eq_getElem?_getD, List.getElem?_replicate]
  split <;> rfl
theorem gP_eq {ns : List Int} {j : Nat} (h : 0 < j) : gP ns j = gN ns (j - 1) := by
  unfold gP
  rw [if_neg (by omega)]
theorem gP_sl {ns : List Int} {a W j : Nat} (h : j < W) : gP (sl ns a (a + W)) j = if 0 < j then gN ns (a + j - 1) else 0 := by
  by_cases h0 : 0 < j
  · rw [if_pos h0, gP_eq h0, gN_sl (by omega)]
    congr 1
    omega
  · rw [if_neg h0]
    unfold gP
    rw [if_pos (by omega)]
theorem nb_row {ns : List Int} {W r j : Nat} (hj : j < W) : nb ns W (r * W + j) = (gP (sl ns (r * W) (r * W + W)) j, gN (bf ns W r) j, gP (bf ns W r) j) := by
  have e1 : (r * W + j) % W = j := by rw [Nat.add_comm, Nat.add_mul_mod_self_right, Nat.mod_eq_of_lt hj]
  unfold nb
  rw [e1, gP_sl hj]
  cases r with
  | zero =>
    rw [Nat.zero_mul, Nat.zero_add, if_neg (show ¬ W ≤ j by omega), if_neg (show ¬ (W ≤ j ∧ 0 < j) by omega), bf, gN_rep]
    unfold gP
    rw [gN_rep, ite_self]
  | succ s =>
    have e2 : W ≤ (s + 1) * W + j := by rw [Nat.succ_mul]; omega
    rw [if_pos e2, bf, gN_sl (by omega), gP_sl hj, show (s + 1) * W + j - W = s * W + j by rw [Nat.succ_mul]; omega]
    by_cases h : 0 < j
    · rw [if_pos h, if_pos ⟨e2, h⟩, if_pos h]
    · rw [if_neg h, if_neg (fun z => h z.2), if_neg h]
theorem wrow_zero {row bef : List Int} (hB : Byt row) : wrow 0 row bef = row := by
  unfold wrow
  apply List.ext_getElem
  · rw [List.length_map, List.length_range]
  · intro i h1 h2
    rw [List.getElem_map, List.getElem_range]
    unfold wj
    have := hB _ (List.getElem_mem h2)
    rw [show gN row i = row[i] by unfold gN; rw [List.getD_eq_getElem?_getD, List.getElem?_eq_getElem h2]; rfl]
    rw [show pr 0 (gP row i) (gN bef i) (gP bef i) = 0 from rfl]
    omega
/-- the best one so far -/
def Best (N : Addr → Prop) (row bef : List Int) (H H' : Hp) (m : Nat) (v : Option V) : Prop :=
  (m = 0 ∧ v = some .non) ∨ ∃ (k : Nat) (pt pb : Addr), m = k + 1 ∧ v = some (.ref pt) ∧ H' pt = some (.tup [.int (bst row bef k).1, .ref pb]) ∧ H' pb = some (.lst (List.map V.int (bst row bef k).2)) ∧ H pb = none ∧ N pb
theorem ok__law_due (T : Txt K mg) : FnOk P w K mg base CX0 2 T.f__law_due T.fd__law_due ["data", "width"] (fun vs H Q _ => ∃ (a : Addr) (ns : List Int) (W : Nat), vs = [.ref a, .int (W : Int)] ∧ H a = some (.lst (ns.map V.int)) ∧ ns.length ≤ 400 ∧ Byt ns ∧ 1 ≤ W ∧ W ≤ 65536 ∧
    ∀ H' p, Same H H' → H p = none → H' p = some (.lst (List.map V.int (pF ns W ((ns.length + W - 1) / W)))) → Q (.ref p) H') := by
  refine T.F__law_due.ok sc__law_due (fun vs H Q E h => ?_) (fun cdv A outer s H vs Q E hr h => ?_)
  · obtain ⟨a, ns, W, rfl, _⟩ := h
    rfl
  · obtain ⟨a, ns, W, rfl, ha, hn, hB, W1, W2, q⟩ := h
    refine ⟨_, (pss_cons (ps_set (i := 2) sc__law_due.nd rfl (Or.inl rfl) (pe_lst pa_nil))
      (pss_cons (ps_for PassesOwn.never rfl (pi_range1 (by rfl) T.z_range (pa_cons (pe_op op_fdiv (pe_op op_sub (pe_op op_add (pe_callB call_lenH (by rfl) T.z_len PySem.boot_len (pa_cons (pv 0) pa_nil)) (pv 1)) pe_int) (pv 1)) pa_nil)) (pg_name (i := 3) sc__law_due.nd rfl (Or.inl rfl)) (pss_cons (ps_set (i := 4) sc__law_due.nd rfl (Or.inl rfl) pe_non)
      (pss_cons (ps_for PassesOwn.never rfl (pi_range1 (by rfl) T.z_range (pa_cons pe_int pa_nil)) (pg_name (i := 5) sc__law_due.nd rfl (Or.inl rfl)) (pss_cons (ps_set (i := 6) sc__law_due.nd rfl (Or.inl rfl) (pe_lst pa_nil))
      (pss_cons (ps_for PassesOwn.never rfl (pi_range2 (by rfl) T.z_range (pa_cons (pe_op op_mul (pv 3) (pv 1)) (pa_cons (pe_callB (call_min2 rfl) (by rfl) T.z_min (by decide +kernel) (pa_cons (pe_callB call_lenH (by rfl) T.z_len PySem.boot_len (pa_cons (pv 0) pa_nil)) (pa_cons (pe_op op_mul (pe_op op_add (pv 3) pe_int) (pv 1)) pa_nil))) pa_nil))) (pg_name (i := 7) sc__law_due.nd rfl (Or.inl rfl)) (pss_cons (ps_asg (pe_call (ok__law_neighbours T) hr (by rfl) T.g__law_neighbours T.F__law_neighbours.kp T.b__law_neighbours .nil pass0 (pa_cons (pv 0) (pa_cons (pv 1) (pa_cons (pv 7) pa_nil)))) (pg_tup (by rfl) (pgs_cons (pg_name (i := 8) sc__law_due.nd rfl (Or.inl rfl)) (pgs_cons (pg_name (i := 9) sc__law_due.nd rfl (Or.inl rfl)) (pgs_cons (pg_name (i := 10) sc__law_due.nd rfl (Or.inl rfl)) pgs_nil)))))
      (pss_one (ps_expr (pe_bm PySem.F.plainAttrs_list PySem.F.slot_list_append PySem.F.type_list_append mt_append (pv 6) (pa_cons (pe_op op_mod (pe_op op_sub (pe_ix ix_listH (pv 0) (pv 7) (fun _ _ => rfl)) (pe_call (ok__law_prediction T) hr (by rfl) T.g__law_prediction T.F__law_prediction.kp T.b__law_prediction .nil pass0 (pa_cons (pv 5) (pa_cons (pv 8) (pa_cons (pv 9) (pa_cons (pv 10) pa_nil)))))) pe_int) pa_nil))))))
      (pss_cons (ps_set (i := 11) sc__law_due.nd rfl (Or.inl rfl) (pe_callB (cr_sum rfl) (by rfl) T.z_sum (by decide +kernel) (pa_cons (pe_lc (own := [("byte", 12)]) (g := (gName 12)) rfl sc__law_due.nd (pi_list (pv 6)) (blkOk_by (own := [("byte", 12)]) (N := ["data", "width", "found", "row", "best", "method", "out", "at", "left", "above", "corner", "weight", "byte"]) (sc := defScope s__law_due) (by decide +kernel)) (fun _ _ _ _ _ => (pg_name (i := 12) sc__law_due.nd rfl (Or.inl rfl))) (fun _ _ _ _ _ => pts_nil) (fun _ _ _ _ _ => (pe_callB (call_min2 rfl) (by rfl) T.z_min (by decide +kernel) (pa_cons (pv 12) (pa_cons (pe_op op_sub pe_int (pv 12)) pa_nil))))) pa_nil)))
      (pss_one (ps_if (PW.pt (pw_or (pt_cmpR op_isN (pv 4) pe_non (nomark _)) (pw_or1 (pt_cmpR op_lt (pv 11) (pe_ix ix_tupH (pv 4) pe_int (fun _ _ => rfl)) (nomark _))))) (pss_one (ps_set (i := 4) sc__law_due.nd rfl (Or.inl rfl) (pe_tup (pa_cons (pv 11) (pa_cons (pe_op op_cat (pe_lst (pa_cons (pv 5) pa_nil)) (pv 6)) pa_nil))))) pss_nil))))))
      (pss_one (ps_set (i := 2) sc__law_due.nd rfl (Or.inl rfl) (pe_op op_cat (pv 2) (pe_ix ix_tupH (pv 4) pe_int (fun _ _ => rfl))))))))
      (pss_one (ps_ret (pv 2))))), ?_⟩
    walk_at "vc"
    intro p0 hp0
    have s0 := same_upd (o := .lst []) hp0
    have g0 : upd H p0 (.lst []) p0 = some (.lst (List.map V.int [])) := upd_same
    generalize upd H p0 (.lst []) = H1 at s0 g0 ⊢
    refine ⟨_, s0 _ _ ha, ?_⟩
    rw [List.length_map]
    have eR : ((ns.length : Int) + (W : Int) - 1) / (W : Int) = (((ns.length + W - 1) / W : Nat) : Int) := by
      rw [Int.natCast_ediv]
      congr 1
      omega
    have hRd : (ns.length + W - 1) / W ≤ ns.length + W - 1 := Nat.div_le_self _ _
    rw [eR]
    obtain ⟨R, hRe⟩ : ∃ R, R = (ns.length + W - 1) / W := ⟨_, rfl⟩
    rw [← hRe] at hRd q ⊢
    refine ⟨⟨by omega, by omega⟩, by omega, by omega, ?_⟩
    refine lp_range (fun r σ H' => ∃ (pf : Addr) (rv bv mv ov av lv uv cv wv yv : Option V), σ = [some (.ref a), some (.int (W : Int)), some (.ref pf), rv, bv, mv, ov, av, lv, uv, cv, wv, yv] ∧ Same H H' ∧ H pf = none ∧ H' pf = some (.lst (List.map V.int (pF ns W r))) ∧ (pF ns W r).length ≤ r * W + r) ⟨p0, none, none, none, none, none, none, none, none, none, none, rfl, s0, hp0, g0, Nat.zero_le _⟩ ?_ ?_
    · rintro r σ H' hr ⟨pf, rv, bv, mv, ov, av, lv, uv, cv, wv, yv, rfl, sm, hpf, gf, hFl⟩
      rw [Int.toNat_natCast] at hr
      have hlt := rg_lt W1 (hRe ▸ hr)
      have hrl : (sl ns (r * W) (r * W + W)).length = min W (ns.length - r * W) := by rw [sl_len]; congr 1; omega
      have hrB : Byt (sl ns (r * W) (r * W + W)) := sl_byt hB _ _
      have hnb : ∀ j, j < W → nb ns W (r * W + j) = (gP (sl ns (r * W) (r * W + W)) j, gN (bf ns W r) j, gP (bf ns W r) j) := fun j hj => nb_row hj
      have hgr : ∀ j, j < W → gN (sl ns (r * W) (r * W + W)) j = gN ns (r * W + j) := fun j hj => gN_sl (by omega)
      rw [pF]
      generalize sl ns (r * W) (r * W + W) = row at hrl hrB hnb hgr ⊢
      generalize bf ns W r = bef at hnb ⊢
      walk_at "vc"
      refine lp_range (fun m σ H' => ∃ (bv mv ov av lv uv cv wv yv : Option V), σ = [some (.ref a), some (.int (W : Int)), some (.ref pf), some (.int (r : Int)), bv, mv, ov, av, lv, uv, cv, wv, yv] ∧ Same H H' ∧ H' pf = some (.lst (List.map V.int (pF ns W r))) ∧ Best (fun _ => True) row bef H H' m bv) ⟨_, _, _, _, _, _, _, _, _, rfl, sm, gf, .inl ⟨rfl, rfl⟩⟩ ?_ ?_
      · rintro m σ H' hm ⟨bv, mv, ov, av, lv, uv, cv, wv, yv, rfl, sm, gf, hb⟩
        have hout : wrow (m : Int) row bef = (List.range row.length).map (wj (m : Int) row bef) := rfl
        walk_at "vc"
        intro po hpo
        have s1 := sm.trans (same_upd (o := .lst []) hpo)
        have fo : H po = none := sm.free hpo
        have go : upd H' po (.lst []) po = some (.lst (List.map V.int [])) := upd_same
        have gf1 := same_upd (o := .lst []) hpo _ _ gf
        have hb1 : Best (fun pb => pb ≠ po) row bef H (upd H' po (.lst [])) m bv := by
          rcases hb with h | ⟨k, pt, pb, h1, h2, h3, h4, h5, _⟩
          · exact .inl h
          · exact .inr ⟨k, pt, pb, h1, h2, same_upd hpo _ _ h3, same_upd hpo _ _ h4, h5, ne_of_none h4 hpo⟩
        have np : po ≠ pf := (ne_of_none gf hpo).symm
        generalize upd H' po (.lst []) = H2 at s1 go gf1 hb1 ⊢
        have em : ((r : Int) + 1) * (W : Int) = ((r * W + W : Nat) : Int) := by rw [Int.natCast_add, Int.natCast_mul, Int.add_mul, Int.one_mul]
        have er : (r : Int) * (W : Int) = ((r * W : Nat) : Int) := (Int.natCast_mul _ _).symm
        refine ⟨.inr ⟨by omega, by omega⟩, _, s1 _ _ ha, .inr ⟨by omega, by omega⟩, ?_⟩
        rw [List.length_map, em, er]
        have en : ((if ((r * W + W : Nat) : Int) < (ns.length : Int) then ((r * W + W : Nat) : Int) else (ns.length : Int)) - ((r * W : Nat) : Int)).toNat = row.length := by
          rw [hrl]
          split <;> omega
        rw [en]
        refine ⟨by omega, by omega, by split <;> omega, by split <;> omega, ?_⟩
        refine for_range (lo := ((r * W : Nat) : Int)) (fun j σ H' => ∃ (av lv uv cv : Option V), σ = [some (.ref a), some (.int (W : Int)), some (.ref pf), some (.int (r : Int)), bv, some (.int (m : Int)), some (.ref po), av, lv, uv, cv, wv, yv] ∧ Same H H' ∧ H' pf = some (.lst (List.map V.int (pF ns W r))) ∧ Best (fun pb => pb ≠ po) row bef H H' m bv ∧ H' po = some (.lst (List.map V.int ((List.range j).map (wj (m : Int) row bef))))) ⟨av, lv, uv, cv, rfl, s1, gf1, hb1, go⟩ ?_ ?_
        · rintro j σ H' hj ⟨av, lv, uv, cv, rfl, sm, gf, hb, go⟩
          rw [show ((r * W : Nat) : Int) + (j : Int) = ((r * W + j : Nat) : Int) by omega]
          have hjW : j < W := by omega
          walk_at "vc"
          refine ⟨ns, W, rfl, r * W + j, by omega, sm _ _ ha, W1, by omega, fun pt hpt => ?_⟩
          rw [hnb j hjW]
          have u1 := same_upd (o := .tup [.int (gP row j), .int (gN bef j), .int (gP bef j)]) hpt
          have gpt : upd H' pt (.tup [.int (gP row j), .int (gN bef j), .int (gP bef j)]) pt = some (.tup [.int (gP row j), .int (gN bef j), .int (gP bef j)]) := upd_same
          refine ⟨_, .inl (.inl gpt), rfl, _, _, rfl, _, _, rfl, _, _, rfl, rfl, ?_⟩
          dsimp only
          generalize upd H' pt (.tup [.int (gP row j), .int (gN bef j), .int (gP bef j)]) = H3 at u1 gpt ⊢
          refine ⟨.inl ⟨rfl, _, .inl (.inl (u1 _ _ go))⟩, _, u1 _ _ (sm _ _ ha), _, at_g' (i := r * W + j) (by omega) (by omega), m, rfl, _, rfl, _, rfl, _, rfl, hm, fun H4 s4 => ⟨_, rfl, _, s4 _ _ (u1 _ _ go), ?_, ?_, ?_, ?_, ?_⟩⟩
          · rw [List.length_map, List.length_map, List.length_range]
            exact Nat.lt_of_le_of_lt (show j ≤ 1000 by omega) (by decide)
          · exact same_upd2 ((sm.trans u1).trans s4) fo
          · rw [upd_ne np.symm]
            exact s4 _ _ (u1 _ _ gf)
          · rcases hb with h | ⟨k, pt, pb, h1, h2, h3, h4, h5, h6⟩
            · exact .inl h
            · refine .inr ⟨k, pt, pb, h1, h2, ?_, ?_, h5, h6⟩
              · rw [upd_ne (fun z => by rw [z, go] at h3; cases h3)]
                exact s4 _ _ (u1 _ _ h3)
              · rw [upd_ne h6]
                exact s4 _ _ (u1 _ _ h4)
          · rw [List.range_succ, List.map_append, List.map_append, ← hgr j hjW]
            rfl
        · rintro σ H' ⟨av, lv, uv, cv, rfl, sm, gf, hb, go⟩
          rw [← hout] at go
          have hwl : (wrow (m : Int) row bef).length ≤ 400 := by rw [wrow_len]; omega
          have wz : m = 0 → wrow (m : Int) row bef = row := fun z => by rw [z]; exact wrow_zero hrB
          generalize hO : wrow (m : Int) row bef = out at go hwl wz
          walk_at "vc"
          refine ⟨⟨_, .inl (.inl go)⟩, lc_pure (xs := out.map V.int) (fun i => List.map V.int ((out.take i).map mw)) (.inl (.inl go)) rfl (fun i x D hx hD => ?_) (fun E hE => ?_)⟩
          · rw [List.getElem?_map] at hx
            obtain ⟨b, hb1, rfl⟩ := Option.map_eq_some_iff.mp hx
            walk_at "vc"
            refine ⟨?_, ?_⟩
            · rw [List.length_map, List.length_map, List.length_take]
              exact Nat.lt_of_le_of_lt (show min i out.length ≤ 1000 by omega) (by decide)
            · rw [List.take_add_one, hb1]
              simp [mw]
          · rw [List.length_map, List.take_length]
            refine ⟨E, out.map mw, rfl, .inl (.inl upd_same), ?_⟩
            have s2 := sm.trans (same_upd (o := .lst (List.map V.int (out.map mw))) hE)
            have u2 : Same H' (upd H' E (.lst (List.map V.int (out.map mw)))) := same_upd hE
            generalize upd H' E (.lst (List.map V.int (out.map mw))) = H3 at s2 u2 ⊢
            rw [show (out.map mw).sum = wt out from rfl]
            have done : 1 ≤ sizeLine ∧ ∀ (p : Addr), H3 p = none → ∃ x_1, upd H3 p (HO.lst [V.int (m : Int)]) po = some (HO.lst x_1) ∧ 1 + x_1.length ≤ sizeLine ∧ ∀ (p_1 : Addr), upd H3 p (HO.lst [V.int (m : Int)]) p_1 = none → 2 ≤ sizeLine ∧
                ∀ (p_2 : Addr), upd (upd H3 p (HO.lst [V.int (m : Int)])) p_1 (HO.lst (V.int (m : Int) :: x_1)) p_2 = none →
                  Same H (upd (upd (upd H3 p (HO.lst [V.int (m : Int)])) p_1 (HO.lst (V.int (m : Int) :: x_1))) p_2 (HO.tup [V.int (wt out), V.ref p_1])) ∧
                  upd (upd (upd H3 p (HO.lst [V.int (m : Int)])) p_1 (HO.lst (V.int (m : Int) :: x_1))) p_2 (HO.tup [V.int (wt out), V.ref p_1]) pf = some (HO.lst (List.map V.int (pF ns W r))) ∧
                  (((wt out, (m : Int) :: out) = bst row bef m) → Best (fun _ => True) row bef H (upd (upd (upd H3 p (HO.lst [V.int (m : Int)])) p_1 (HO.lst (V.int (m : Int) :: x_1))) p_2 (HO.tup [V.int (wt out), V.ref p_1])) (m + 1) (some (V.ref p_2))) := by
              refine ⟨by decide, fun p1 hp1 => ⟨_, same_upd hp1 _ _ (u2 _ _ go), ?_, fun p2 hp2 => ⟨by decide, fun p3 hp3 => ⟨((s2.trans (same_upd hp1)).trans (same_upd hp2)).trans (same_upd hp3), same_upd hp3 _ _ (same_upd hp2 _ _ (same_upd hp1 _ _ (u2 _ _ gf))), fun eb => ?_⟩⟩⟩⟩
              · rw [List.length_map]
                exact Nat.le_trans (show 1 + out.length ≤ 1000 by omega) (by decide)
              · refine .inr ⟨m, p3, p2, rfl, rfl, ?_, ?_, (s2.trans (same_upd hp1)).free hp2, True.intro⟩
                · rw [upd_same, ← eb]
                · rw [same_upd hp3 _ _ upd_same, ← eb]
                  rfl
            rcases hb with ⟨rfl, rfl⟩ | ⟨k, pt, pb, rfl, rfl, h3, h4, h5, _⟩
            · refine ⟨_, rfl, iteT' (decide_eq_true rfl) ?_⟩
              obtain ⟨d1, d2⟩ := done
              refine ⟨d1, fun p hp => ?_⟩
              obtain ⟨x1, e1, e2, e3⟩ := d2 p hp
              refine ⟨x1, e1, e2, fun p1 hp1 => ?_⟩
              obtain ⟨f1, f2⟩ := e3 p1 hp1
              refine ⟨f1, fun p2 hp2 => ?_⟩
              obtain ⟨g1, g2, g3⟩ := f2 p2 hp2
              exact ⟨g1, g2, g3 (by rw [wz rfl]; rfl)⟩
            · refine ⟨_, rfl, iteF' (decide_eq_false (by intro z; cases z)) ⟨_, rfl, pt, rfl, _, u2 _ _ h3, _, atI_c0 _ _, _, rfl, _, rfl, ite2 (fun e => ?_) (fun e => ?_)⟩⟩
              · have e0 := of_decide_eq_true e
                obtain ⟨d1, d2⟩ := done
                refine ⟨d1, fun p hp => ?_⟩
                obtain ⟨x1, e1, e2, e3⟩ := d2 p hp
                refine ⟨x1, e1, e2, fun p1 hp1 => ?_⟩
                obtain ⟨f1, f2⟩ := e3 p1 hp1
                refine ⟨f1, fun p2 hp2 => ?_⟩
                obtain ⟨g1, g2, g3⟩ := f2 p2 hp2
                refine ⟨g1, g2, g3 ?_⟩
                rw [bst]
                rw [show ((k + 1 : Nat) : Int) = (k : Int) + 1 from rfl] at hO ⊢
                rw [hO, if_pos e0]
              · have e0 := of_decide_eq_false' e
                refine ⟨s2, u2 _ _ gf, .inr ⟨k + 1, pt, pb, rfl, rfl, ?_, ?_, h5, True.intro⟩⟩
                · rw [bst]
                  rw [show ((k + 1 : Nat) : Int) = (k : Int) + 1 from rfl] at hO
                  rw [hO, if_neg e0]
                  exact u2 _ _ h3
                · rw [bst]
                  rw [show ((k + 1 : Nat) : Int) = (k : Int) + 1 from rfl] at hO
                  rw [hO, if_neg e0]
                  exact u2 _ _ h4
      · rintro σ H' ⟨bv, mv, ov, av, lv, uv, cv, wv, yv, rfl, sm, gf, hb⟩
        rcases hb with ⟨h, _⟩ | ⟨k, pt, pb, h1, rfl, h3, h4, h5, _⟩
        · cases h
        obtain rfl : k = 4 := by omega
        walk_at "vc"
        simp only [h3]
        walk_at "vc"
        have hbl := bst_len row bef 4
        refine ⟨_, gf, _, h4, ?_, fun p4 hp4 => ⟨sm.trans (same_upd hp4), sm.free hp4, (List.map_append).symm, ?_⟩⟩
        · rw [List.length_map, List.length_map, hbl, hrl]
          have hiW : r ≤ r * W := Nat.le_mul_of_pos_right r W1
          exact Nat.le_trans (show (pF ns W r).length + (min W (ns.length - r * W) + 1) ≤ 100000 by omega) (by decide)
        · rw [List.length_append, hbl, hrl, Nat.succ_mul]
          omega
    · rintro σ H' ⟨pf, rv, bv, mv, ov, av, lv, uv, cv, wv, yv, rfl, sm, hpf, gf, hFl⟩
      rw [Int.toNat_natCast] at gf
      walk_at "vc"
      exact q _ pf sm hpf gf
theorem gN_left {x y : List Int} {j : Nat} (h : j < x.length) : gN (x ++ y) j = gN x j := by
  unfold gN
  rw [List.getD_eq_getElem?_getD, List.getD_eq_getElem?_getD, List.getElem?_append_left h]
theorem gN_right {x y : List Int} {j : Nat} : gN (x ++ y) (x.length + j) = gN y j := by
  unfold gN
  rw [List.getD_eq_getElem?_getD, List.getD_eq_getElem?_getD, List.getElem?_append_right (Nat.le_add_right _ _), Nat.add_sub_cancel_left]
theorem gN_range {f : Nat → Int} {n j : Nat} (h : j < n) : gN ((List.range n).map f) j = f j := by
  unfold gN
  rw [List.getD_eq_getElem?_getD, List.getElem?_map, List.getElem?_range h]
  rfl
theorem uB_len (ns : List Int) (W r : Nat) : (uB ns W (r + 1)).length = min W (ns.length - (r * (W + 1) + 1)) := by
  rw [uB]
  unfold rrow uW
  rw [List.length_map, List.length_range, sl_len]
  congr 1
  omega
theorem uF_len {ns : List Int} {W : Nat} : ∀ r, r * (W + 1) < ns.length → (uF ns W r).length = r * W
  | 0, _ => by rw [Nat.zero_mul]; rfl
  | r + 1, h => by
    rw [Nat.succ_mul] at h
    rw [uF, List.length_append, uB_len, uF_len r (by omega), Nat.succ_mul]
    omega
theorem nb_back {ns : List Int} {W r j : Nat} {m : Int} (hlt : r * (W + 1) < ns.length) (hj : j < W) :
    nb (uF ns W r ++ (List.range j).map (fun t => rleft m (uW ns W r) (uB ns W r) (t + 1)) ++ [0]) W (r * W + j) = (rleft m (uW ns W r) (uB ns W r) j, gN (uB ns W r) j, gP (uB ns W r) j) := by
  have e1 : (r * W + j) % W = j := by rw [Nat.add_comm, Nat.add_mul_mod_self_right, Nat.mod_eq_of_lt hj]
  have hF := uF_len r hlt
  unfold nb
  rw [e1, List.append_assoc]
  have hP : ((List.range j).map (fun t => rleft m (uW ns W r) (uB ns W r) (t + 1))).length = j := by rw [List.length_map, List.length_range]
  have a1 : (if 0 < j then gN (uF ns W r ++ ((List.range j).map (fun t => rleft m (uW ns W r) (uB ns W r) (t + 1)) ++ [0])) (r * W + j - 1) else 0) = rleft m (uW ns W r) (uB ns W r) j := by
    by_cases h : 0 < j
    · rw [if_pos h, show r * W + j - 1 = (uF ns W r).length + (j - 1) by omega, gN_right, gN_left (by rw [hP]; omega), gN_range (by omega), show j - 1 + 1 = j by omega]
    · rw [if_neg h, show j = 0 by omega]
      rfl
  rw [a1]
  clear a1
  generalize (List.range j).map (fun t => rleft m (uW ns W r) (uB ns W r) (t + 1)) ++ [0] = Y
  cases r with
  | zero =>
    rw [Nat.zero_mul, Nat.zero_add, if_neg (show ¬ W ≤ j by omega), if_neg (show ¬ (W ≤ j ∧ 0 < j) by omega), uB, gN_rep]
    unfold gP
    rw [gN_rep, ite_self]
  | succ s =>
    have e2 : W ≤ (s + 1) * W + j := by rw [Nat.succ_mul]; omega
    have hs : s * (W + 1) < ns.length := by rw [Nat.succ_mul] at hlt; omega
    have hFs := uF_len s hs
    have hBl : (uB ns W (s + 1)).length = W := by
      rw [uB_len]
      rw [Nat.succ_mul] at hlt
      omega
    have key : ∀ k, k < W → gN (uF ns W (s + 1) ++ Y) (s * W + k) = gN (uB ns W (s + 1)) k := fun k hk => by
      rw [uF, List.append_assoc, ← hFs, gN_right, gN_left (by omega)]
    rw [if_pos e2, show (s + 1) * W + j - W = s * W + j by rw [Nat.succ_mul]; omega, key j hj]
    by_cases h : 0 < j
    · rw [if_pos ⟨e2, h⟩, gP_eq h, show s * W + j - 1 = s * W + (j - 1) by omega, key (j - 1) (by omega)]
    · rw [if_neg (fun z => h z.2)]
      unfold gP
      rw [if_pos (by omega)]
theorem pr_clip {m l a c : Int} (h : 4 < m) : pr m l a c = 0 := by
  unfold pr
  rw [if_neg (by omega), if_neg (by omega), if_neg (by omega), if_neg (by omega)]
theorem ok__law_back (T : Txt K mg) : FnOk P w K mg base CX0 2 T.f__law_back T.fd__law_back ["data", "width"] (fun vs H Q _ => ∃ (a : Addr) (ns : List Int) (W : Nat), vs = [.ref a, .int (W : Int)] ∧ H a = some (.lst (ns.map V.int)) ∧ ns.length ≤ 400 ∧ Byt ns ∧ 1 ≤ W ∧ W ≤ 65536 ∧
    ∀ H' p, Same H H' → H p = none → H' p = some (.lst (List.map V.int (uF ns W ((ns.length + W) / (W + 1))))) → Q (.ref p) H') := by
  refine T.F__law_back.ok sc__law_back (fun vs H Q E h => ?_) (fun cdv A outer s H vs Q E hr h => ?_)
  · obtain ⟨a, ns, W, rfl, _⟩ := h
    rfl
  · obtain ⟨a, ns, W, rfl, ha, hn, hB, W1, W2, q⟩ := h
    refine ⟨_, (pss_cons (ps_set (i := 2) sc__law_back.nd rfl (Or.inl rfl) (pe_lst pa_nil))
      (pss_cons (ps_for PassesOwn.never rfl (pi_range3 (by rfl) T.z_range (pa_cons pe_int (pa_cons (pe_callB call_lenH (by rfl) T.z_len PySem.boot_len (pa_cons (pv 0) pa_nil)) (pa_cons (pe_op op_add (pv 1) pe_int) pa_nil)))) (pg_name (i := 3) sc__law_back.nd rfl (Or.inl rfl)) (pss_cons (ps_set (i := 4) sc__law_back.nd rfl (Or.inl rfl) (pe_ix ix_listH (pv 0) (pv 3) (fun _ _ => rfl)))
      (pss_cons (ps_if (pt_cmpR op_gt (pv 4) pe_int (nomark _)) (pss_one (ps_set (i := 4) sc__law_back.nd rfl (Or.inl rfl) pe_int)) pss_nil)
      (pss_one (ps_for PassesOwn.never rfl (pi_list (pe_slice sl_listH (pv 0) (po_some (pe_op op_add (pv 3) pe_int)) (po_some (pe_op op_add (pe_op op_add (pv 3) pe_int) (pv 1))))) (pg_name (i := 5) sc__law_back.nd rfl (Or.inl rfl)) (pss_cons (ps_asg (pe_call (ok__law_neighbours T) hr (by rfl) T.g__law_neighbours T.F__law_neighbours.kp T.b__law_neighbours .nil pass0 (pa_cons (pe_op op_cat (pv 2) (pe_lst (pa_cons pe_int pa_nil))) (pa_cons (pv 1) (pa_cons (pe_callB call_lenH (by rfl) T.z_len PySem.boot_len (pa_cons (pv 2) pa_nil)) pa_nil)))) (pg_tup (by rfl) (pgs_cons (pg_name (i := 6) sc__law_back.nd rfl (Or.inl rfl)) (pgs_cons (pg_name (i := 7) sc__law_back.nd rfl (Or.inl rfl)) (pgs_cons (pg_name (i := 8) sc__law_back.nd rfl (Or.inl rfl)) pgs_nil)))))
      (pss_one (ps_expr (pe_bm PySem.F.plainAttrs_list PySem.F.slot_list_append PySem.F.type_list_append mt_append (pv 2) (pa_cons (pe_op op_mod (pe_op op_add (pv 5) (pe_call (ok__law_prediction T) hr (by rfl) T.g__law_prediction T.F__law_prediction.kp T.b__law_prediction .nil pass0 (pa_cons (pv 4) (pa_cons (pv 6) (pa_cons (pv 7) (pa_cons (pv 8) pa_nil)))))) pe_int) pa_nil))))))))))
      (pss_one (ps_ret (pv 2))))), ?_⟩
    walk_at "vc"
    intro p0 hp0
    have s0 := same_upd (o := .lst []) hp0
    have g0 : upd H p0 (.lst []) p0 = some (.lst (List.map V.int [])) := upd_same
    generalize upd H p0 (.lst []) = H1 at s0 g0 ⊢
    refine ⟨_, s0 _ _ ha, (ns.length + W) / (W + 1), ?_, ?_⟩
    · rw [List.length_map]
      exact rg_gen (c := W + 1) (by omega) (by omega) (by omega)
    refine for_rangeC (fun r σ H' => ∃ (rv mv bv lv uv cv : Option V), σ = [some (.ref a), some (.int (W : Int)), some (.ref p0), rv, mv, bv, lv, uv, cv] ∧ Same H H' ∧ H' p0 = some (.lst (List.map V.int (uF ns W r)))) ⟨none, none, none, none, none, none, rfl, s0, g0⟩ ?_ ?_
    · rintro r σ H' hr ⟨rv, mv, bv, lv, uv, cv, rfl, sm, gf⟩
      have hlt := rg_lt (c := W + 1) (by omega) hr
      have hFl := uF_len r hlt
      have hBl := uB_len ns W r
      have hnb : ∀ (m : Int) (j : Nat), j < W → _ := fun m j hj => nb_back (m := m) hlt hj
      have hwl : (uW ns W r).length = min W (ns.length - (r * (W + 1) + 1)) := by unfold uW; rw [sl_len]; congr 1; omega
      have hm := gN_byt hB (r * (W + 1))
      rw [Int.zero_add, show (r : Int) * ((W : Int) + 1) = ((r * (W + 1) : Nat) : Int) by rw [Int.natCast_mul]; rfl]
      walk_at "vc"
      refine ⟨_, sm _ _ ha, _, at_g hlt, ?_⟩
      refine ⟨_, rfl, ite2 (fun e => ?_) (fun e => ?_)⟩
      · have e1 := of_decide_eq_true e
        have hpq : ∀ l a c : Int, pr ((0 : Nat) : Int) l a c = pr (gN ns (r * (W + 1))) l a c := fun l a c => by rw [pr_clip e1]; rfl
        have hmc : (0 : Nat) < 5 := by decide
        refine ⟨_, sm _ _ ha, fun pr0 hpr => ?_⟩
        rw [cut_sl (i := r * (W + 1) + 1) (j := r * (W + 1) + 1 + W) (by omega) (by omega), show sl ns (r * (W + 1) + 1) (r * (W + 1) + 1 + W) = uW ns W r from rfl]
        have s1 := sm.trans (same_upd (o := .lst (List.map V.int (uW ns W r))) hpr)
        have gr : upd H' pr0 (.lst (List.map V.int (uW ns W r))) pr0 = some (.lst (List.map V.int (uW ns W r))) := upd_same
        have gf1 := same_upd (o := .lst (List.map V.int (uW ns W r))) hpr _ _ gf
        have n1 : pr0 ≠ p0 := (ne_of_none gf hpr).symm
        generalize upd H' pr0 (.lst (List.map V.int (uW ns W r))) = H3 at s1 gr gf1 ⊢
        refine ⟨⟨_, .inl (.inl gr)⟩, lp_list (xs := (uW ns W r).map V.int) (fun j σ H' => ∃ (bv lv uv cv : Option V), σ = [some (.ref a), some (.int (W : Int)), some (.ref p0), some (.int ((r * (W + 1) : Nat) : Int)), some (.int 0), bv, lv, uv, cv] ∧ Same H H' ∧ H' pr0 = some (.lst (List.map V.int (uW ns W r))) ∧ H' p0 = some (.lst (List.map V.int (uF ns W r ++ (List.range j).map (fun t => rleft (gN ns (r * (W + 1))) (uW ns W r) (uB ns W r) (t + 1)))))) ⟨bv, lv, uv, cv, rfl, s1, gr, by rw [gf1]; simp⟩ ?_ ?_ ?_⟩
        · rintro j σ H' _ ⟨bv, lv, uv, cv, rfl, sm, gr, gf⟩
          exact .inl (.inl gr)
        · rintro j x σ H' hx ⟨bv, lv, uv, cv, rfl, sm, gr, gf⟩
          have hj : j < (uW ns W r).length := by
            have := (List.getElem?_eq_some_iff.mp hx).1
            rwa [List.length_map] at this
          have hjW : j < W := by omega
          rw [List.getElem?_map] at hx
          obtain ⟨b, hb1, rfl⟩ := Option.map_eq_some_iff.mp hx
          have eb : gN (uW ns W r) j = b := by unfold gN; rw [List.getD_eq_getElem?_getD, hb1]; rfl
          have hN := hnb (gN ns (r * (W + 1))) j hjW
          have hPl : ((List.range j).map (fun t => rleft (gN ns (r * (W + 1))) (uW ns W r) (uB ns W r) (t + 1))).length = j := by rw [List.length_map, List.length_range]
          have eL : rleft (gN ns (r * (W + 1))) (uW ns W r) (uB ns W r) (j + 1) = (b + pr (gN ns (r * (W + 1))) (rleft (gN ns (r * (W + 1))) (uW ns W r) (uB ns W r) j) (gN (uB ns W r) j) (gP (uB ns W r) j)) % 256 := by rw [rleft, eb]
          have eY : (List.range (j + 1)).map (fun t => rleft (gN ns (r * (W + 1))) (uW ns W r) (uB ns W r) (t + 1)) = (List.range j).map (fun t => rleft (gN ns (r * (W + 1))) (uW ns W r) (uB ns W r) (t + 1)) ++ [rleft (gN ns (r * (W + 1))) (uW ns W r) (uB ns W r) (j + 1)] := by rw [List.range_succ, List.map_append]; rfl
          rw [eY, eL]
          generalize (List.range j).map (fun t => rleft (gN ns (r * (W + 1))) (uW ns W r) (uB ns W r) (t + 1)) = Y at hN hPl gf ⊢
          generalize rleft (gN ns (r * (W + 1))) (uW ns W r) (uB ns W r) j = l0 at hN ⊢
          walk_at "vc"
          have hms : r * (W + 1) = r * W + r := Nat.mul_succ r W
          have hFY : (uF ns W r ++ Y).length = r * W + j := by rw [List.length_append, hFl, hPl]
          refine ⟨by decide, fun q1 hq1 => ⟨_, same_upd hq1 _ _ gf, ?_, fun q2 hq2 => ⟨_, same_upd hq2 _ _ (same_upd hq1 _ _ gf), uF ns W r ++ Y ++ [0], W, rfl, r * W + j, ?_, ?_, W1, ?_, fun q3 hq3 => ?_⟩⟩⟩
          · rw [List.length_map, hFY]
            exact Nat.le_trans (show r * W + j + 1 ≤ 2000 by omega) (by decide)
          · rw [List.length_map, hFY]
          · rw [List.map_append (l₁ := uF ns W r ++ Y)]
            rfl
          · rw [List.length_append, hFY]
            exact Nat.lt_succ_self _
          rw [hN]
          have u3 := ((same_upd hq1 (o := .lst [V.int 0])).trans (same_upd hq2 (o := .lst (List.map V.int (uF ns W r ++ Y) ++ [V.int 0])))).trans (same_upd hq3 (o := .tup [.int l0, .int (gN (uB ns W r) j), .int (gP (uB ns W r) j)]))
          have g3 : ∀ Hx : Hp, upd Hx q3 (.tup [.int l0, .int (gN (uB ns W r) j), .int (gP (uB ns W r) j)]) q3 = some (.tup [.int l0, .int (gN (uB ns W r) j), .int (gP (uB ns W r) j)]) := fun _ => upd_same
          replace g3 := g3 (upd (upd H' q1 (.lst [V.int 0])) q2 (.lst (List.map V.int (uF ns W r ++ Y) ++ [V.int 0])))
          dsimp only
          generalize upd (upd (upd H' q1 (.lst [V.int 0])) q2 (.lst (List.map V.int (uF ns W r ++ Y) ++ [V.int 0]))) q3 (.tup [.int l0, .int (gN (uB ns W r) j), .int (gP (uB ns W r) j)]) = H4 at u3 g3 ⊢
          refine ⟨_, .inl (.inl g3), rfl, _, _, rfl, _, _, rfl, _, _, rfl, rfl, .inl ⟨rfl, _, .inl (.inl (u3 _ _ gf))⟩, 0, rfl, _, rfl, _, rfl, _, rfl, hmc, fun H5 s5 => ?_⟩
          refine ⟨_, s5 _ _ (u3 _ _ gf), ?_, ?_, ?_, ?_⟩
          · rw [List.length_map, hFY]
            exact Nat.lt_of_le_of_lt (show r * W + j ≤ 2000 by omega) (by decide)
          · exact same_upd2 ((sm.trans u3).trans s5) hp0
          · rw [upd_ne n1]
            exact s5 _ _ (u3 _ _ gr)
          · rw [hpq, ← List.append_assoc, List.map_append (l₁ := uF ns W r ++ Y)]
            rfl
        · rintro σ H' ⟨bv, lv, uv, cv, rfl, sm, gr, gf⟩
          walk_at "vc"
          refine ⟨sm, ?_⟩
          rw [gf, List.length_map]
          rfl

      · have e1 := of_decide_eq_false' e
        have hpq : ∀ l a c : Int, pr (((gN ns (r * (W + 1))).toNat : Nat) : Int) l a c = pr (gN ns (r * (W + 1))) l a c := fun l a c => by rw [Int.toNat_of_nonneg hm.1]
        have hmc : (gN ns (r * (W + 1))).toNat < 5 := by omega
        refine ⟨_, sm _ _ ha, fun pr0 hpr => ?_⟩
        rw [cut_sl (i := r * (W + 1) + 1) (j := r * (W + 1) + 1 + W) (by omega) (by omega), show sl ns (r * (W + 1) + 1) (r * (W + 1) + 1 + W) = uW ns W r from rfl]
        have s1 := sm.trans (same_upd (o := .lst (List.map V.int (uW ns W r))) hpr)
        have gr : upd H' pr0 (.lst (List.map V.int (uW ns W r))) pr0 = some (.lst (List.map V.int (uW ns W r))) := upd_same
        have gf1 := same_upd (o := .lst (List.map V.int (uW ns W r))) hpr _ _ gf
        have n1 : pr0 ≠ p0 := (ne_of_none gf hpr).symm
        generalize upd H' pr0 (.lst (List.map V.int (uW ns W r))) = H3 at s1 gr gf1 ⊢
        refine ⟨⟨_, .inl (.inl gr)⟩, lp_list (xs := (uW ns W r).map V.int) (fun j σ H' => ∃ (bv lv uv cv : Option V), σ = [some (.ref a), some (.int (W : Int)), some (.ref p0), some (.int ((r * (W + 1) : Nat) : Int)), some (.int (gN ns (r * (W + 1)))), bv, lv, uv, cv] ∧ Same H H' ∧ H' pr0 = some (.lst (List.map V.int (uW ns W r))) ∧ H' p0 = some (.lst (List.map V.int (uF ns W r ++ (List.range j).map (fun t => rleft (gN ns (r * (W + 1))) (uW ns W r) (uB ns W r) (t + 1)))))) ⟨bv, lv, uv, cv, rfl, s1, gr, by rw [gf1]; simp⟩ ?_ ?_ ?_⟩
        · rintro j σ H' _ ⟨bv, lv, uv, cv, rfl, sm, gr, gf⟩
          exact .inl (.inl gr)
        · rintro j x σ H' hx ⟨bv, lv, uv, cv, rfl, sm, gr, gf⟩
          have hj : j < (uW ns W r).length := by
            have := (List.getElem?_eq_some_iff.mp hx).1
            rwa [List.length_map] at this
          have hjW : j < W := by omega
          rw [List.getElem?_map] at hx
          obtain ⟨b, hb1, rfl⟩ := Option.map_eq_some_iff.mp hx
          have eb : gN (uW ns W r) j = b := by unfold gN; rw [List.getD_eq_getElem?_getD, hb1]; rfl
          have hN := hnb (gN ns (r * (W + 1))) j hjW
          have hPl : ((List.range j).map (fun t => rleft (gN ns (r * (W + 1))) (uW ns W r) (uB ns W r) (t + 1))).length = j := by rw [List.length_map, List.length_range]
          have eL : rleft (gN ns (r * (W + 1))) (uW ns W r) (uB ns W r) (j + 1) = (b + pr (gN ns (r * (W + 1))) (rleft (gN ns (r * (W + 1))) (uW ns W r) (uB ns W r) j) (gN (uB ns W r) j) (gP (uB ns W r) j)) % 256 := by rw [rleft, eb]
          have eY : (List.range (j + 1)).map (fun t => rleft (gN ns (r * (W + 1))) (uW ns W r) (uB ns W r) (t + 1)) = (List.range j).map (fun t => rleft (gN ns (r * (W + 1))) (uW ns W r) (uB ns W r) (t + 1)) ++ [rleft (gN ns (r * (W + 1))) (uW ns W r) (uB ns W r) (j + 1)] := by rw [List.range_succ, List.map_append]; rfl
          rw [eY, eL]
          generalize (List.range j).map (fun t => rleft (gN ns (r * (W + 1))) (uW ns W r) (uB ns W r) (t + 1)) = Y at hN hPl gf ⊢
          generalize rleft (gN ns (r * (W + 1))) (uW ns W r) (uB ns W r) j = l0 at hN ⊢
          walk_at "vc"
          have hms : r * (W + 1) = r * W + r := Nat.mul_succ r W
          have hFY : (uF ns W r ++ Y).length = r * W + j := by rw [List.length_append, hFl, hPl]
          refine ⟨by decide, fun q1 hq1 => ⟨_, same_upd hq1 _ _ gf, ?_, fun q2 hq2 => ⟨_, same_upd hq2 _ _ (same_upd hq1 _ _ gf), uF ns W r ++ Y ++ [0], W, rfl, r * W + j, ?_, ?_, W1, ?_, fun q3 hq3 => ?_⟩⟩⟩
          · rw [List.length_map, hFY]
            exact Nat.le_trans (show r * W + j + 1 ≤ 2000 by omega) (by decide)
          · rw [List.length_map, hFY]
          · rw [List.map_append (l₁ := uF ns W r ++ Y)]
            rfl
          · rw [List.length_append, hFY]
            exact Nat.lt_succ_self _
          rw [hN]
          have u3 := ((same_upd hq1 (o := .lst [V.int 0])).trans (same_upd hq2 (o := .lst (List.map V.int (uF ns W r ++ Y) ++ [V.int 0])))).trans (same_upd hq3 (o := .tup [.int l0, .int (gN (uB ns W r) j), .int (gP (uB ns W r) j)]))
          have g3 : ∀ Hx : Hp, upd Hx q3 (.tup [.int l0, .int (gN (uB ns W r) j), .int (gP (uB ns W r) j)]) q3 = some (.tup [.int l0, .int (gN (uB ns W r) j), .int (gP (uB ns W r) j)]) := fun _ => upd_same
          replace g3 := g3 (upd (upd H' q1 (.lst [V.int 0])) q2 (.lst (List.map V.int (uF ns W r ++ Y) ++ [V.int 0])))
          dsimp only
          generalize upd (upd (upd H' q1 (.lst [V.int 0])) q2 (.lst (List.map V.int (uF ns W r ++ Y) ++ [V.int 0]))) q3 (.tup [.int l0, .int (gN (uB ns W r) j), .int (gP (uB ns W r) j)]) = H4 at u3 g3 ⊢
          refine ⟨_, .inl (.inl g3), rfl, _, _, rfl, _, _, rfl, _, _, rfl, rfl, .inl ⟨rfl, _, .inl (.inl (u3 _ _ gf))⟩, (gN ns (r * (W + 1))).toNat, (Int.toNat_of_nonneg hm.1).symm, _, rfl, _, rfl, _, rfl, hmc, fun H5 s5 => ?_⟩
          refine ⟨_, s5 _ _ (u3 _ _ gf), ?_, ?_, ?_, ?_⟩
          · rw [List.length_map, hFY]
            exact Nat.lt_of_le_of_lt (show r * W + j ≤ 2000 by omega) (by decide)
          · exact same_upd2 ((sm.trans u3).trans s5) hp0
          · rw [upd_ne n1]
            exact s5 _ _ (u3 _ _ gr)
          · rw [hpq, ← List.append_assoc, List.map_append (l₁ := uF ns W r ++ Y)]
            rfl
        · rintro σ H' ⟨bv, lv, uv, cv, rfl, sm, gr, gf⟩
          walk_at "vc"
          refine ⟨sm, ?_⟩
          rw [gf, List.length_map]
          rfl

    · rintro σ H' ⟨rv, mv, bv, lv, uv, cv, rfl, sm, gf⟩
      walk_at "vc"
      exact q _ p0 sm hp0 gf
end

/-! ### rows: what was predicted is read back -/
theorem wrow_byt (m : Int) (row bef : List Int) : Byt (wrow m row bef) := fun b hb => by
  obtain ⟨j, _, rfl⟩ := List.mem_map.mp hb
  exact ⟨Int.emod_nonneg _ (by decide), Int.emod_lt_of_pos _ (by decide)⟩
theorem bst_form {row bef : List Int} (hB : Byt row) : ∀ m, ∃ k : Nat, k ≤ m ∧ (bst row bef m).2 = (k : Int) :: wrow (k : Int) row bef
  | 0 => ⟨0, Nat.le_refl _, by rw [show ((0 : Nat) : Int) = 0 from rfl, wrow_zero hB]; rfl⟩
  | m + 1 => by
    rw [bst]
    split
    · exact ⟨m + 1, Nat.le_refl _, rfl⟩
    · obtain ⟨k, h1, h2⟩ := bst_form hB m
      exact ⟨k, by omega, h2⟩
theorem bst_byt {row bef : List Int} (hB : Byt row) : Byt (bst row bef 4).2 := by
  obtain ⟨k, h1, h2⟩ := bst_form (bef := bef) hB 4
  rw [h2]
  exact byt_app (x := [(k : Int)]) (byt_one (by omega) (by omega)) (wrow_byt _ _ _)
theorem pF_byt {ns : List Int} {W : Nat} (hB : Byt ns) : ∀ r, Byt (pF ns W r)
  | 0 => byt_nil
  | r + 1 => by
    rw [pF]
    exact byt_app (pF_byt hB r) (bst_byt (sl_byt hB _ _))
theorem gN_lt {ns : List Int} {j : Nat} (h : j < ns.length) : gN ns j = ns[j] := by
  unfold gN
  rw [List.getD_eq_getElem?_getD, List.getElem?_eq_getElem h]
  rfl
theorem rleft_back {k : Int} {row bef b2 : List Int} (hB : Byt row) (hb : ∀ j, gN b2 j = gN bef j) : ∀ j, j ≤ row.length → rleft k (wrow k row bef) b2 j = gP row j
  | 0, _ => rfl
  | j + 1, h => by
    have hj : j < row.length := by omega
    have hp : gP b2 j = gP bef j := by unfold gP; split; rfl; exact hb _
    have hx := hB _ (List.getElem_mem hj)
    rw [← gN_lt hj] at hx
    rw [rleft, rleft_back hB hb j (by omega), hb j, hp]
    have hw : gN (wrow k row bef) j = (gN row j - pr k (gP row j) (gN bef j) (gP bef j)) % 256 := by
      unfold wrow
      rw [gN_range hj]
      rfl
    rw [hw]
    generalize pr k (gP row j) (gN bef j) (gP bef j) = p
    show _ = gN row j
    generalize gN row j = x at hx ⊢
    omega
theorem rrow_back {k : Int} {row bef b2 : List Int} (hB : Byt row) (hb : ∀ j, gN b2 j = gN bef j) : rrow k (wrow k row bef) b2 = row := by
  unfold rrow
  apply List.ext_getElem
  · rw [List.length_map, List.length_range, wrow_len]
  · intro i h1 h2
    rw [List.getElem_map, List.getElem_range, rleft_back hB hb (i + 1) h2, ← gN_lt h2]
    rfl
theorem sl_app' {ns : List Int} {s i j : Nat} (h1 : s ≤ i) (h2 : i ≤ j) : sl ns s j = sl ns s i ++ sl ns i j := by
  unfold sl
  rw [show j - s = (i - s) + (j - i) by omega, List.take_add, List.drop_drop, show s + (i - s) = i by omega]
theorem pF_len {ns : List Int} {W : Nat} : ∀ r, r * W < ns.length → (pF ns W r).length = r * (W + 1)
  | 0, _ => by rw [Nat.zero_mul]; rfl
  | r + 1, h => by
    rw [Nat.succ_mul] at h
    rw [pF, List.length_append, bst_len, sl_len, pF_len r (by omega), Nat.succ_mul]
    omega
theorem pF_split (ns : List Int) (W : Nat) : ∀ R r, r < R → ∃ Y, pF ns W R = pF ns W r ++ ((bst (sl ns (r * W) (r * W + W)) (bf ns W r) 4).2 ++ Y) ∧ (R = r + 1 → Y = [])
  | 0, r, h => by omega
  | R + 1, r, h => by
    by_cases e : r = R
    · subst e
      exact ⟨[], by rw [pF, List.append_nil], fun _ => rfl⟩
    · obtain ⟨Y, h1, _⟩ := pF_split ns W R r (by omega)
      exact ⟨Y ++ (bst (sl ns (R * W) (R * W + W)) (bf ns W R) 4).2, by rw [pF, h1, List.append_assoc, List.append_assoc], fun z => by omega⟩
theorem u_back {ns : List Int} {W R : Nat} (hB : Byt ns) (hR : ∀ r, r < R → r * W < ns.length) (hc : ∀ r, r + 1 < R → r * W + W ≤ ns.length) :
    ∀ r, r ≤ R → (∀ j, gN (uB (pF ns W R) W r) j = gN (bf ns W r) j) ∧ uF (pF ns W R) W r = ns.take (r * W)
  | 0, _ => ⟨fun j => by rw [uB, bf, gN_rep, gN_rep], by rw [Nat.zero_mul]; rfl⟩
  | r + 1, h => by
    obtain ⟨hb, hf⟩ := u_back hB hR hc r (by omega)
    have hlt := hR r (by omega)
    obtain ⟨Y, hY, hY0⟩ := pF_split ns W R r (by omega)
    have hrB : Byt (sl ns (r * W) (r * W + W)) := sl_byt hB _ _
    obtain ⟨k, hk, hk2⟩ := bst_form (bef := bf ns W r) hrB 4
    have hpl := pF_len r hlt
    have e0 : gN (pF ns W R) (r * (W + 1)) = (k : Int) := by
      rw [hY, ← hpl]
      have := gN_right (x := pF ns W r) (y := (bst (sl ns (r * W) (r * W + W)) (bf ns W r) 4).2 ++ Y) (j := 0)
      rw [Nat.add_zero] at this
      rw [this, hk2]
      rfl
    have e1 : uW (pF ns W R) W r = wrow (k : Int) (sl ns (r * W) (r * W + W)) (bf ns W r) := by
      unfold uW
      rw [show sl (pF ns W R) (r * (W + 1) + 1) (r * (W + 1) + 1 + W) = ((pF ns W R).drop (r * (W + 1) + 1)).take W by unfold sl; congr 1; omega]
      rw [hY, hk2, ← hpl, List.drop_append, List.drop_eq_nil_of_le (by omega), List.nil_append, show (pF ns W r).length + 1 - (pF ns W r).length = 1 by omega]
      show (wrow (k : Int) (sl ns (r * W) (r * W + W)) (bf ns W r) ++ Y).take W = _
      have hwl : (wrow (k : Int) (sl ns (r * W) (r * W + W)) (bf ns W r)).length = min W (ns.length - r * W) := by rw [wrow_len, sl_len]; congr 1; omega
      by_cases e : R = r + 1
      · rw [hY0 e, List.append_nil, List.take_of_length_le (by omega)]
      · have := hc r (by omega)
        rw [List.take_left' (by omega)]
    have e2 : uB (pF ns W R) W (r + 1) = sl ns (r * W) (r * W + W) := by
      rw [uB, e0, e1]
      exact rrow_back hrB hb
    refine ⟨fun j => by rw [e2, bf], ?_⟩
    rw [uF, e2, hf, Nat.succ_mul]
    exact (sl_app' (s := 0) (Nat.zero_le _) (Nat.le_add_right _ _)).symm
theorem rows_back {ns : List Int} {W : Nat} (hB : Byt ns) (hW : 1 ≤ W) {more : Int} (h : 0 ≤ more) :
    unp (pF ns W ((ns.length + W - 1) / W)) W ((pF ns W ((ns.length + W - 1) / W)).length + more) = (ns, more) := by
  have hR : ∀ r, r < (ns.length + W - 1) / W → r * W < ns.length := fun r hr => rg_lt hW hr
  have hle : ns.length ≤ (ns.length + W - 1) / W * W := by
    have := Nat.div_add_mod (ns.length + W - 1) W
    have h2 := Nat.mod_lt (ns.length + W - 1) hW
    rw [Nat.mul_comm] at this
    omega
  have hc : ∀ r, r + 1 < (ns.length + W - 1) / W → r * W + W ≤ ns.length := fun r hr => by
    have := hR (r + 1) hr
    rw [Nat.succ_mul] at this
    omega
  generalize (ns.length + W - 1) / W = R at hR hle hc ⊢
  have hl : (pF ns W R).length = ns.length + R ∧ (pF ns W R).length < R * (W + 1) + 1 ∧ R * (W + 1) ≤ (pF ns W R).length + W := by
    cases R with
    | zero =>
      rw [Nat.zero_mul] at hle
      refine ⟨?_, ?_, ?_⟩
      · show 0 = _; omega
      · show 0 < _; omega
      · rw [Nat.zero_mul]; exact Nat.zero_le _
    | succ r =>
      have := hR r (Nat.lt_succ_self r)
      rw [Nat.succ_mul] at hle
      have e : (pF ns W (r + 1)).length = ns.length + (r + 1) := by
        rw [pF, List.length_append, bst_len, sl_len, pF_len r this]
        have : r * (W + 1) = r * W + r := Nat.mul_succ r W
        omega
      have h3 : r * (W + 1) = r * W + r := Nat.mul_succ r W
      rw [e, Nat.succ_mul]
      omega
  have hn : ((pF ns W R).length + W) / (W + 1) = R := by
    apply Nat.div_eq_of_lt_le
    · exact hl.2.2
    · rw [Nat.succ_mul]; omega
  unfold unp
  rw [if_neg (by omega), hn, (u_back hB hR hc R (Nat.le_refl R)).2, List.take_of_length_le hle]
  congr 1
  omega

section
variable {P : Program} {w : World} {K : PySem.W.Frag} {mg : Str → Option Value} {base : Heap}
def spLaw (K : PySem.W.Frag) : Sp := fun vs H Q _ => ∃ (a : Addr) (ns : List Int), vs = [.ref a] ∧ SqL K H a (ns.map V.int) ∧ ns.length ≤ 63 ∧ ∀ H', Q (.bl true) H'
theorem seq_cut4 {s1 s2 s3 s4 R : TS} {D : Ends} {σ : L2.St} {H : Hp} (I : L2.St → Hp → Prop) (h2 : ∀ σ H, I σ H → R D σ H) (h1 : ∀ C : L2.St → Hp → Prop, (∀ σ H, I σ H → C σ H) → tSeq s1 (tSeq s2 (tSeq s3 s4)) { D with nx := C } σ H) : tSeq s1 (tSeq s2 (tSeq s3 (tSeq s4 R))) D σ H := h1 _ h2
theorem Adv.toSame {ps : Addr} {H H1 H' : Hp} (a : Adv ps H1 H') (s : Same H H1) (h : H ps = none) : Same H H' := fun b o e => a.same b o (ne_of_none e h) (s b o e)
theorem Adv.ofSame {ps : Addr} {H H' : Hp} (h : DrawSt ps H) (s : Same H H') : Adv ps H H' := by
  obtain ⟨x, y, h1, h2⟩ := h
  exact ⟨⟨x, y, s _ _ h1, h2⟩, fun b o _ e => s b o e⟩
theorem rows_len {ns : List Int} {W : Nat} (h : ns.length ≤ 90) (hW : 1 ≤ W) : (pF ns W ((ns.length + W - 1) / W)).length ≤ 200 := by
  have hR : ∀ r, r < (ns.length + W - 1) / W → r * W < ns.length := fun r hr => rg_lt hW hr
  generalize (ns.length + W - 1) / W = R at hR
  cases R with
  | zero => exact Nat.zero_le _
  | succ r =>
    have := hR r (Nat.lt_succ_self r)
    have h3 : r * (W + 1) = r * W + r := Nat.mul_succ r W
    have h4 : r ≤ r * W := Nat.le_mul_of_pos_right r hW
    rw [pF, List.length_append, bst_len, sl_len, pF_len r this]
    omega
theorem ok_law_of {f : Addr} {fd : FuncData} (F : Fun K "law" "law" s_law f fd) (T : Txt K mg) : FnOk P w K mg base CX0 6 f fd ["script"] (spLaw K) := by
  refine F.ok sc_law (fun vs H Q E h => ?_) (fun cdv A outer s H vs Q E hr h => ?_)
  · obtain ⟨a, ns, rfl, _⟩ := h
    rfl
  · obtain ⟨a, ns, rfl, hS, hlen, q⟩ := h
    refine ⟨_, (pss_cons (ps_for PassesOwn.never rfl (pi_range1 (by rfl) T.z_range (pa_cons pe_int pa_nil)) (pg_name (i := 1) sc_law.nd rfl (Or.inl rfl)) (pss_cons (ps_set (i := 2) sc_law.nd rfl (Or.inr rfl) (pe_call (ok__law_state T) (hr.mono (by decide)) (by rfl) T.g__law_state T.F__law_state.kp T.b__law_state .nil pass0 (pa_cons (pe_call (ok__law_cell T) (hr.mono (by decide)) (by rfl) T.g__law_cell T.F__law_cell.kp T.b__law_cell .nil pass0 (pa_cons (pv 0) (pa_cons (pv 1) pa_nil))) (pa_cons (pv 1) pa_nil))))
      (pss_cons (ps_set (i := 3) sc_law.nd rfl (Or.inl rfl) (pe_call (ok__law_rows T) (hr.mono (by decide)) (by rfl) T.g__law_rows T.F__law_rows.kp T.b__law_rows .nil pass0 (pa_cons (pv 2) pa_nil)))
      (pss_cons (ps_set (i := 4) sc_law.nd rfl (Or.inl rfl) (pe_op op_sub (pe_call (ok__law_draw T) (hr.mono (by decide)) (by rfl) T.g__law_draw T.F__law_draw.kp T.b__law_draw .nil pass0 (pa_cons (pv 2) (pa_cons pe_int pa_nil))) pe_int))
      (pss_cons (ps_if (pt_cmpR op_eq (pe_call (ok__law_draw T) (hr.mono (by decide)) (by rfl) T.g__law_draw T.F__law_draw.kp T.b__law_draw .nil pass0 (pa_cons (pv 2) (pa_cons pe_int pa_nil))) pe_int (nomark _)) (pss_one (ps_set (i := 4) sc_law.nd rfl (Or.inl rfl) (pe_ix ix_listH (pe_lst (pa_cons pe_int (pa_cons pe_int (pa_cons pe_int (pa_cons (pe_op op_pow pe_int pe_int) pa_nil))))) (pe_call (ok__law_draw T) (hr.mono (by decide)) (by rfl) T.g__law_draw T.F__law_draw.kp T.b__law_draw .nil pass0 (pa_cons (pv 2) (pa_cons pe_int pa_nil))) (fun _ _ => rfl)))) pss_nil)
      (pss_cons (ps_set (i := 5) sc_law.nd rfl (Or.inl rfl) (pe_callB (call_min2 rfl) (by rfl) T.z_min (by decide +kernel) (pa_cons (pe_callB (call_max2 rfl) (by rfl) T.z_max (by decide +kernel) (pa_cons (pv 4) (pa_cons pe_int pa_nil))) (pa_cons pe_int pa_nil))))
      (pss_cons (ps_set (i := 6) sc_law.nd rfl (Or.inl rfl) (pe_callTy call_listH (by rfl) T.z_list (by decide +kernel) (pa_cons (pv 3) pa_nil)))
      (pss_cons (ps_set (i := 7) sc_law.nd rfl (Or.inl rfl) (pe_call (ok_predict T) hr (by rfl) T.g_predict T.F_predict.kp T.b_predict .nil pass0 (pa_cons (pv 6) (pa_cons (pv 4) pa_nil))))
      (pss_cons (ps_if (PW.pt (pw_or (pt_not (pt_val (pe_call (ok__law_is_bytes T) (hr.mono (by decide)) (by rfl) T.g__law_is_bytes T.F__law_is_bytes.kp T.b__law_is_bytes .nil pass0 (pa_cons (pv 7) pa_nil)))) (pw_or (pt_cmpR (op_neIL hr.units) (pv 7) (pe_call (ok__law_due T) (hr.mono (by decide)) (by rfl) T.g__law_due T.F__law_due.kp T.b__law_due .nil pass0 (pa_cons (pv 3) (pa_cons (pv 5) pa_nil))) (nomark _)) (pw_or1 (pt_cmpR (op_neIL hr.units) (pv 6) (pv 3) (nomark _)))))) (pss_one (ps_ret pe_bl)) pss_nil)
      (pss_cons (ps_set (i := 8) sc_law.nd rfl (Or.inl rfl) (pe_call (ok__law_draw T) (hr.mono (by decide)) (by rfl) T.g__law_draw T.F__law_draw.kp T.b__law_draw .nil pass0 (pa_cons (pv 2) (pa_cons pe_int pa_nil))))
      (pss_cons (ps_set (i := 9) sc_law.nd rfl (Or.inl rfl) (pe_call (ok_unpredict T) (hr.mono (by decide)) (by rfl) T.g_unpredict T.F_unpredict.kp T.b_unpredict .nil pass0 (pa_cons (pv 7) (pa_cons (pv 4) (pa_cons (pe_op op_add (pe_callB call_lenH (by rfl) T.z_len PySem.boot_len (pa_cons (pv 7) pa_nil)) (pv 8)) pa_nil)))))
      (pss_cons (ps_if (PW.pt (pw_or (pt_not (pt_val (pe_callB call_isiB (by rfl) T.z_isinstance (by decide +kernel) (pa_cons (pv 9) (pa_cons (pe_bltn (v := .ty "tuple") (u := .type "tuple") (by rfl) T.z_tuple (by decide +kernel) rfl) pa_nil))))) (pw_or (pt_cmpR (op_neLI hr.units) (pv 9) (pe_tup (pa_cons (pv 3) (pa_cons (pv 8) pa_nil))) (nomark _)) (pw_or1 (pt_not (pt_val (pe_call (ok__law_is_bytes T) (hr.mono (by decide)) (by rfl) T.g__law_is_bytes T.F__law_is_bytes.kp T.b__law_is_bytes .nil pass0 (pa_cons (pe_ix ix_tupH (pv 9) pe_int (fun _ _ => rfl)) pa_nil)))))))) (pss_one (ps_ret pe_bl)) pss_nil)
      (pss_cons (ps_setLc (i := 10) (own := [("j", 11)]) (g := (gName 11)) rfl sc_law.nd rfl rfl (sw_true rfl rfl rfl (by decide +kernel)) (pi_range1 (by rfl) T.z_range (pa_cons (pe_call (ok__law_draw T) (hr.mono (by decide)) (by rfl) T.g__law_draw T.F__law_draw.kp T.b__law_draw .nil pass0 (pa_cons (pv 2) (pa_cons pe_int pa_nil))) pa_nil)) (blkOk_by (own := [("j", 11)]) (N := ["script", "k", "state", "data", "width", "wide", "handed", "found", "more", "back", "other", "j"]) (sc := defScope s_law) (by decide +kernel)) (fun _ _ _ _ _ => (pg_name (i := 11) sc_law.nd rfl (Or.inl rfl))) (fun _ _ _ _ _ => pts_nil) (fun _ _ _ _ _ => (pe_call (ok__law_draw T) (hr.mono (by decide)) (by rfl) T.g__law_draw T.F__law_draw.kp T.b__law_draw .nil pass0 (pa_cons (pv 2) (pa_cons (pe_ix ix_listH (pe_lst (pa_cons pe_int (pa_cons pe_int pa_nil))) (pe_call (ok__law_draw T) (hr.mono (by decide)) (by rfl) T.g__law_draw T.F__law_draw.kp T.b__law_draw .nil pass0 (pa_cons (pv 2) (pa_cons pe_int pa_nil))) (fun _ _ => rfl)) pa_nil)))))
      (pss_cons (ps_set (i := 6) sc_law.nd rfl (Or.inl rfl) (pe_callTy call_listH (by rfl) T.z_list (by decide +kernel) (pa_cons (pv 10) pa_nil)))
      (pss_cons (ps_if (PW.pt (pw_or (pt_cmpR (op_neLI hr.units) (pe_call (ok_unpredict T) (hr.mono (by decide)) (by rfl) T.g_unpredict T.F_unpredict.kp T.b_unpredict .nil pass0 (pa_cons (pv 6) (pa_cons (pv 4) (pa_cons (pe_callB call_lenH (by rfl) T.z_len PySem.boot_len (pa_cons (pv 10) pa_nil)) pa_nil)))) (pe_tup (pa_cons (pe_call (ok__law_back T) (hr.mono (by decide)) (by rfl) T.g__law_back T.F__law_back.kp T.b__law_back .nil pass0 (pa_cons (pv 10) (pa_cons (pv 5) pa_nil))) (pa_cons pe_int pa_nil))) (nomark _)) (pw_or1 (pt_cmpR (op_neIL hr.units) (pv 6) (pv 10) (nomark _))))) (pss_one (ps_ret pe_bl)) pss_nil)
      (pss_one (ps_if (PW.pt (pw_and (pt_cmpR op_gt (pe_callB call_lenH (by rfl) T.z_len PySem.boot_len (pa_cons (pv 10) pa_nil)) pe_int (nomark _)) (pw_and1 (pt_cmpR (op_neLI hr.units) (pe_call (ok_unpredict T) (hr.mono (by decide)) (by rfl) T.g_unpredict T.F_unpredict.kp T.b_unpredict .nil pass0 (pa_cons (pv 10) (pa_cons (pv 4) (pa_cons (pe_op op_sub (pe_callB call_lenH (by rfl) T.z_len PySem.boot_len (pa_cons (pv 10) pa_nil)) pe_int) pa_nil)))) (pe_tup (pa_cons (pe_lst pa_nil) (pa_cons pe_int pa_nil))) (nomark _))))) (pss_one (ps_ret pe_bl)) pss_nil)))))))))))))))))
      (pss_one (ps_ret pe_bl))), ?_⟩
    walk_at "vc"
    refine lp_range (n := 3) (fun i σ H' => ∃ kv sv dv wv wd hv fv mv bv ov jv, σ = [some (.ref a), kv, sv, dv, wv, wd, hv, fv, mv, bv, ov, jv] ∧ Same H H') ⟨_, _, _, _, _, _, _, _, _, _, _, rfl, Same.refl H⟩ ?_ ?_
    · rintro i σ H' hi ⟨kv, sv, dv, wv, wd', hv, fv, mv, bv, ov, jv, rfl, sm⟩
      simp only [gName, List.set_cons_zero, List.set_cons_succ]
      refine seq_cut4 (fun σ H' => ∃ (ps p : Addr) (D : List Int) (x : Int) (wd hv fv mv bv ov jv : Option V), σ = [some (.ref a), some (.int (i : Int)), some (.ref ps), some (.ref p), some (.int x), wd, hv, fv, mv, bv, ov, jv] ∧ Same H H' ∧ DrawSt ps H' ∧ H ps = none ∧ H' p = some (.lst (List.map V.int D)) ∧ Byt D ∧ D.length ≤ 90 ∧ p ≠ ps) ?_ (fun C hC => ?_)
      · rintro σ H' ⟨ps, p, D, x, wd', hv, fv, mv, bv, ov, jv, rfl, sm, hst, hps, g2, hB, hDl, np⟩
        walk_at "vc"
        refine ⟨_, g2, fun l hl => ⟨_, rfl, by omega, fun H3 f m3 hf gf => ?_⟩⟩
        obtain ⟨eW, W1, W2⟩ := wd_eq x
        have hback : ∀ more : Int, 0 ≤ more → unp (pF D (wd x) ((D.length + wd x - 1) / wd x)) (wd x) ((pF D (wd x) ((D.length + wd x - 1) / wd x)).length + more) = (D, more) := fun more h => rows_back hB W1 h
        have hpb := pF_byt (W := wd x) hB ((D.length + wd x - 1) / wd x)
        have hpl : (pF D (wd x) ((D.length + wd x - 1) / wd x)).length ≤ 200 := rows_len hDl W1
        have u1 := (same_upd hl (o := .lst (List.map V.int D))).trans m3
        have gl := m3 _ _ (upd_same (H := H') (a := l) (o := .lst (List.map V.int D)))
        have f0 := (same_upd hl (o := .lst (List.map V.int D))).free hf
        have gp := u1 _ _ g2
        have sm3 := sm.trans u1
        have nf := hst.ne f0
        have ad := Adv.ofSame hst u1
        clear m3 hf
        refine ⟨f, _, rfl, gf, hpb, ?_⟩
        walk_at "vc"
        simp only [gt_iff_lt, eW]
        refine ⟨D, wd x, rfl, gp, by omega, hB, W1, W2, fun H4 d m4 hd gd => ⟨_, m4 _ _ gf, _, gd, iteF' (by rw [decide_eq_true rfl]; rfl) ⟨_, m4 _ _ gl, _, m4 _ _ gp, iteF' (by rw [decide_eq_true rfl]; rfl) ?_⟩⟩⟩
        generalize pF D (wd x) ((D.length + wd x - 1) / wd x) = F at gf hback hpb hpl gd ⊢
        have st4 := (Adv.ofSame ad.st m4).st
        refine ⟨ps, 9, rfl, st4, by decide, by decide, fun H5 more a5 v0 v1 => ?_⟩
        have gf5 := a5.same _ _ nf (m4 _ _ gf)
        have gp5 := a5.same _ _ np (m4 _ _ gp)
        have sm5 : Same H H5 := a5.toSame (sm3.trans m4) hps
        refine ⟨_, gf5, more, rfl, F, gf5, by omega, by rw [List.length_map]; omega, fun H6 bk bq m6 hbk hbq nbk gbk gbq => .inr ⟨⟨_, gbk⟩, by decide, fun tp htp => ?_⟩⟩
        rw [List.length_map, hback more v0] at gbk gbq
        have u7 := m6.trans (same_upd htp (o := .tup [.ref p, .int more]))
        have gtp : upd H6 tp (.tup [.ref p, .int more]) tp = some (.tup [.ref p, .int more]) := upd_same
        have gbk7 := same_upd htp (o := .tup [.ref p, .int more]) _ _ gbk
        have gbq7 := same_upd htp (o := .tup [.ref p, .int more]) _ _ gbq
        generalize upd H6 tp (.tup [.ref p, .int more]) = H7 at u7 gtp gbk7 gbq7 ⊢
        refine ⟨bk, tp, bq, p, _, _, _, _, rfl, rfl, gbk7, gtp, gbq7, u7 _ _ gp5, false, by rw [decide_eq_true rfl, decide_eq_true rfl]; rfl, iteF ?_⟩
        refine ⟨_, gbk7, _, atI_c0 _ _, bq, _, rfl, gbq7, hB, ?_⟩
        have st7 := (Adv.ofSame a5.st u7).st
        have sm7 := sm5.trans u7
        clear gbk7 gbq7 gbk gbq gtp u7 m6 hback gf5 gp5 a5 gf gd m4 ad st4 hpb hpl
        walk_at "vc"
        refine ⟨ps, 40, rfl, st7, by decide, by decide, fun H8 j a8 j0 j1 => ⟨j, rfl, by omega, by omega, ?_⟩⟩
        refine lc_rng (fun E i Hc => Adv ps H7 Hc ∧ ∃ L, Hc E = some (.lst (List.map V.int L)) ∧ Byt L ∧ L.length = i) (fun E hE => ⟨a8.new hE, [], upd_same, byt_nil, rfl⟩) (fun E u Hc hu hE ⟨ac, L, gL, hL, hLl⟩ => ?_) (fun E Hc hE ⟨ac, L, gL, hL, hLl⟩ => ?_)
        · have nE := a8.st.ne hE
          have hE0 := a8.free hE
          walk_at "vc"
          refine ⟨by decide, fun r1 hr1 => ?_⟩
          have c1 := ac.new (o := .lst [V.int 256, V.int 6]) hr1
          have gr1 : upd Hc r1 (.lst [V.int 256, V.int 6]) r1 = some (.lst [V.int 256, V.int 6]) := upd_same
          have nr1 := ac.st.ne hr1
          have gL1 : upd Hc r1 (.lst [V.int 256, V.int 6]) E = some (.lst (List.map V.int L)) := by rw [upd_ne (ne_of_none gL hr1)]; exact gL
          generalize upd Hc r1 (.lst [V.int 256, V.int 6]) = H9 at c1 gr1 gL1 ⊢
          refine ⟨ps, 2, rfl, c1.st, by decide, by decide, fun H10 v a10 v0 v1 => ?_⟩
          obtain ⟨y, hy1, hy2⟩ := atI_in (xs := [256, 6]) (k := v) v0 v1
          have hyB : 0 < y ∧ y ≤ 256 := by
            have := List.mem_of_getElem? hy1
            simp only [List.mem_cons, List.not_mem_nil, or_false] at this
            omega
          refine ⟨_, v, rfl, a10.same _ _ nr1 gr1, _, hy2, ps, y, rfl, a10.st, hyB.1, by omega, fun H11 b a11 b0 b1 => ?_⟩
          refine ⟨_, a11.same _ _ nE (a10.same _ _ nE gL1), ?_, ((c1.trans a10).trans a11).put nE hE0, L ++ [b], ?_, byt_app hL (byt_one b0 (by omega)), by rw [List.length_append, hLl]; rfl⟩
          · rw [List.length_map]
            exact Nat.lt_of_le_of_lt (show L.length ≤ 100 by omega) (by decide)
          · rw [List.map_append]
            rfl
        · walk_at "vc"
          have hL40 : L.length ≤ 40 := by omega
          have sm9 : Same H Hc := ac.toSame sm7 hps
          have e1 : unp L (wd x) L.length = (uF L (wd x) ((L.length + wd x) / (wd x + 1)), 0) := by
            unfold unp
            rw [if_neg (by omega), Int.sub_self]
          refine ⟨_, gL, fun l2 hl2 => ⟨_, same_upd hl2 _ _ gL, L, rfl, by omega, by omega, fun H9 p1 q1 m9 hp1 hq1 ne1 f9 fq9 => ?_⟩⟩
          rw [List.length_map, e1] at f9 fq9
          have gL9 := m9 _ _ (same_upd hl2 _ _ gL)
          have gl9 := m9 _ _ (upd_same (H := Hc) (a := l2) (o := .lst (List.map V.int L)))
          have sm10 := (sm9.trans (same_upd hl2)).trans m9
          refine ⟨L, wd x, rfl, gL9, by omega, hL, W1, W2, fun H10 p2 m10 hp2 g10 => ⟨by decide, fun t2 ht2 => ?_⟩⟩
          have u11 := m10.trans (same_upd ht2 (o := .tup [.ref p2, .int 0]))
          have gt2 : upd H10 t2 (.tup [.ref p2, .int 0]) t2 = some (.tup [.ref p2, .int 0]) := upd_same
          have g11 := same_upd ht2 (o := .tup [.ref p2, .int 0]) _ _ g10
          generalize upd H10 t2 (.tup [.ref p2, .int 0]) = H11 at u11 gt2 g11 ⊢
          refine ⟨p1, t2, q1, p2, _, _, _, _, rfl, rfl, u11 _ _ f9, gt2, u11 _ _ fq9, g11, false, by rw [decide_eq_true rfl, decide_eq_true rfl]; rfl, iteF ?_⟩
          have gL11 := u11 _ _ gL9
          have sm11 := sm10.trans u11
          refine ⟨_, u11 _ _ gl9, _, gL11, iteF' (by rw [decide_eq_true rfl]; rfl) ?_⟩
          clear gt2 g11 f9 fq9 m9 hl2 gL gl9 gL9 ac a8
          refine ⟨_, gL11, ite2 (fun e => ?_) (fun e => sm11)⟩
          rw [List.length_map] at e
          have e2 := of_decide_eq_true e
          have e3 : unp L (wd x) ((L.length : Int) - 1) = ([], 0) := by
            unfold unp
            rw [if_pos (by omega)]
          refine ⟨_, gL11, L, gL11, by omega, by rw [List.length_map]; omega, fun H12 p3 q3 m12 hp3 hq3 ne3 f12 fq12 p4 hp4 => ⟨by decide, fun t5 ht5 => ?_⟩⟩
          rw [List.length_map, e3] at f12 fq12
          have u12 := (same_upd hp4 (o := .lst [])).trans (same_upd ht5 (o := .tup [.ref p4, .int 0]))
          have g4' := same_upd ht5 (o := .tup [.ref p4, .int 0]) _ _ (upd_same (H := H12) (a := p4) (o := .lst []))
          refine ⟨p3, t5, q3, p4, _, _, [], [], rfl, rfl, u12 _ _ f12, upd_same, u12 _ _ fq12, g4', false, by rw [decide_eq_true rfl, decide_eq_true rfl]; rfl, iteF ?_⟩
          exact (sm11.trans m12).trans u12
      · walk_at "vc"
        refine ⟨a, ns, i, rfl, sm.seq hS, ?_⟩
        refine ⟨_, (i : Int), rfl, by omega, fun H1 ps sm1 hps hst => ?_⟩
        refine ⟨ps, rfl, hst, fun H2 p D a2 hp g2 hB hDl => ?_⟩
        have np := hst.ne hp
        refine ⟨ps, 23, rfl, a2.st, by decide, by decide, fun H3 x a3 x0 x1 => ?_⟩
        refine ⟨_, rfl, ps, 9, rfl, a3.st, by decide, by decide, fun H4 y a4 y0 y1 => ?_⟩
        have g4 := a4.same _ _ np (a3.same _ _ np g2)
        have b4 := (a2.trans a3).trans a4
        have sps := sm.free hps
        have fin : ∀ (H5 : Hp) (x : Int), Adv ps H1 H5 → H5 p = some (.lst (List.map V.int D)) → C [some (.ref a), some (.int (i : Int)), some (.ref ps), some (.ref p), some (.int x), wd', hv, fv, mv, bv, ov, jv] H5 := fun H5 x a5 g5 =>
          hC _ _ ⟨ps, p, D, x, wd', hv, fv, mv, bv, ov, jv, rfl, a5.toSame (sm.trans sm1) sps, a5.st, sps, g5, hB, hDl, np⟩
        refine ⟨rfl, ite2 (fun e => ?_) (fun e => ?_)⟩
        · refine ⟨⟨by decide, by decide, by decide⟩, by decide, fun r hr' => ?_⟩
          have b5 := b4.new (o := .lst [V.int 65535, V.int 65536, V.int 65537, V.int 1000000000]) hr'
          have gr : upd H4 r (.lst [V.int 65535, V.int 65536, V.int 65537, V.int 1000000000]) r = some (.lst [V.int 65535, V.int 65536, V.int 65537, V.int 1000000000]) := upd_same
          have gp5 := same_upd (o := .lst [V.int 65535, V.int 65536, V.int 65537, V.int 1000000000]) hr' _ _ g4
          have nr := b4.st.ne hr'
          generalize upd H4 r (.lst [V.int 65535, V.int 65536, V.int 65537, V.int 1000000000]) = H5 at b5 gr gp5 ⊢
          refine ⟨ps, 4, rfl, b5.st, by decide, by decide, fun H6 v a6 v0 v1 => ?_⟩
          obtain ⟨z, hz1, hz2⟩ := atI_in (xs := [65535, 65536, 65537, 1000000000]) (k := v) v0 v1
          exact ⟨_, _, rfl, a6.same _ _ nr gr, _, hz2, fin _ _ (b5.trans a6) (a6.same _ _ np gp5)⟩
        · exact fin _ _ b4 g4
    · rintro σ H' ⟨kv, sv, dv, wv, wd', hv, fv, mv, bv, ov, jv, rfl, sm⟩
      walk_at "vc"
      exact q _
end

theorem all_mk {l : PySem.W.OpenLaw} {w : World} {K : PySem.W.Frag} {h : Heap} {mg : Str → Option Value} {fa : Addr} (X : K.In h) (G : h.Ns mainGlobals mg) (hfa : mg "law" = some (.ref fa))
    {f1 : Addr} {od1 an1 : Option Addr} {sl1 : Array (Option Value)} {oc1 kV1 dc1 pm1 cd1 ct1 : Value}
    (a1 : PySem.W.nsIn K mainGlobals "spend" = some (some (.ref f1))) (l1 : K.lookup f1 = some ⟨oc1, od1, .func (PySem.W.fnOf "spend" "spend" (defArgs s_spend) (defBody s_spend) (defScope s_spend) .none kV1 dc1 pm1 an1 cd1 ct1), sl1⟩) (c1 : PySem.W.codeIn K cd1 "spend" = true) (k1 : PySem.W.keepIn K (.ref f1) = true)
    {f2 : Addr} {od2 an2 : Option Addr} {sl2 : Array (Option Value)} {oc2 kV2 dc2 pm2 cd2 ct2 : Value}
    (a2 : PySem.W.nsIn K mainGlobals "predict" = some (some (.ref f2))) (l2 : K.lookup f2 = some ⟨oc2, od2, .func (PySem.W.fnOf "predict" "predict" (defArgs s_predict) (defBody s_predict) (defScope s_predict) .none kV2 dc2 pm2 an2 cd2 ct2), sl2⟩) (c2 : PySem.W.codeIn K cd2 "predict" = true) (k2 : PySem.W.keepIn K (.ref f2) = true)
    {f3 : Addr} {od3 an3 : Option Addr} {sl3 : Array (Option Value)} {oc3 kV3 dc3 pm3 cd3 ct3 : Value}
    (a3 : PySem.W.nsIn K mainGlobals "unpredict" = some (some (.ref f3))) (l3 : K.lookup f3 = some ⟨oc3, od3, .func (PySem.W.fnOf "unpredict" "unpredict" (defArgs s_unpredict) (defBody s_unpredict) (defScope s_unpredict) .none kV3 dc3 pm3 an3 cd3 ct3), sl3⟩) (c3 : PySem.W.codeIn K cd3 "unpredict" = true) (k3 : PySem.W.keepIn K (.ref f3) = true)
    {f4 : Addr} {od4 an4 : Option Addr} {sl4 : Array (Option Value)} {oc4 kV4 dc4 pm4 cd4 ct4 : Value}
    (a4 : PySem.W.nsIn K mainGlobals "_bounded" = some (some (.ref f4))) (l4 : K.lookup f4 = some ⟨oc4, od4, .func (PySem.W.fnOf "_bounded" "_bounded" (defArgs s__bounded) (defBody s__bounded) (defScope s__bounded) .none kV4 dc4 pm4 an4 cd4 ct4), sl4⟩) (c4 : PySem.W.codeIn K cd4 "_bounded" = true) (k4 : PySem.W.keepIn K (.ref f4) = true)
    {f5 : Addr} {od5 an5 : Option Addr} {sl5 : Array (Option Value)} {oc5 kV5 dc5 pm5 cd5 ct5 : Value}
    (a5 : PySem.W.nsIn K mainGlobals "_no_row" = some (some (.ref f5))) (l5 : K.lookup f5 = some ⟨oc5, od5, .func (PySem.W.fnOf "_no_row" "_no_row" (defArgs s__no_row) (defBody s__no_row) (defScope s__no_row) .none kV5 dc5 pm5 an5 cd5 ct5), sl5⟩) (c5 : PySem.W.codeIn K cd5 "_no_row" = true) (k5 : PySem.W.keepIn K (.ref f5) = true)
    {f6 : Addr} {od6 an6 : Option Addr} {sl6 : Array (Option Value)} {oc6 kV6 dc6 pm6 cd6 ct6 : Value}
    (a6 : PySem.W.nsIn K mainGlobals "_best_row" = some (some (.ref f6))) (l6 : K.lookup f6 = some ⟨oc6, od6, .func (PySem.W.fnOf "_best_row" "_best_row" (defArgs s__best_row) (defBody s__best_row) (defScope s__best_row) .none kV6 dc6 pm6 an6 cd6 ct6), sl6⟩) (c6 : PySem.W.codeIn K cd6 "_best_row" = true) (k6 : PySem.W.keepIn K (.ref f6) = true)
    {f7 : Addr} {od7 an7 : Option Addr} {sl7 : Array (Option Value)} {oc7 kV7 dc7 pm7 cd7 ct7 : Value}
    (a7 : PySem.W.nsIn K mainGlobals "_weight" = some (some (.ref f7))) (l7 : K.lookup f7 = some ⟨oc7, od7, .func (PySem.W.fnOf "_weight" "_weight" (defArgs s__weight) (defBody s__weight) (defScope s__weight) .none kV7 dc7 pm7 an7 cd7 ct7), sl7⟩) (c7 : PySem.W.codeIn K cd7 "_weight" = true) (k7 : PySem.W.keepIn K (.ref f7) = true)
    {f8 : Addr} {od8 an8 : Option Addr} {sl8 : Array (Option Value)} {oc8 kV8 dc8 pm8 cd8 ct8 : Value}
    (a8 : PySem.W.nsIn K mainGlobals "_write_row" = some (some (.ref f8))) (l8 : K.lookup f8 = some ⟨oc8, od8, .func (PySem.W.fnOf "_write_row" "_write_row" (defArgs s__write_row) (defBody s__write_row) (defScope s__write_row) .none kV8 dc8 pm8 an8 cd8 ct8), sl8⟩) (c8 : PySem.W.codeIn K cd8 "_write_row" = true) (k8 : PySem.W.keepIn K (.ref f8) = true)
    {f9 : Addr} {od9 an9 : Option Addr} {sl9 : Array (Option Value)} {oc9 kV9 dc9 pm9 cd9 ct9 : Value}
    (a9 : PySem.W.nsIn K mainGlobals "_read_row" = some (some (.ref f9))) (l9 : K.lookup f9 = some ⟨oc9, od9, .func (PySem.W.fnOf "_read_row" "_read_row" (defArgs s__read_row) (defBody s__read_row) (defScope s__read_row) .none kV9 dc9 pm9 an9 cd9 ct9), sl9⟩) (c9 : PySem.W.codeIn K cd9 "_read_row" = true) (k9 : PySem.W.keepIn K (.ref f9) = true)
    {f10 : Addr} {od10 an10 : Option Addr} {sl10 : Array (Option Value)} {oc10 kV10 dc10 pm10 cd10 ct10 : Value}
    (a10 : PySem.W.nsIn K mainGlobals "_prediction" = some (some (.ref f10))) (l10 : K.lookup f10 = some ⟨oc10, od10, .func (PySem.W.fnOf "_prediction" "_prediction" (defArgs s__prediction) (defBody s__prediction) (defScope s__prediction) .none kV10 dc10 pm10 an10 cd10 ct10), sl10⟩) (c10 : PySem.W.codeIn K cd10 "_prediction" = true) (k10 : PySem.W.keepIn K (.ref f10) = true)
    {f11 : Addr} {od11 an11 : Option Addr} {sl11 : Array (Option Value)} {oc11 kV11 dc11 pm11 cd11 ct11 : Value}
    (a11 : PySem.W.nsIn K mainGlobals "_nearest" = some (some (.ref f11))) (l11 : K.lookup f11 = some ⟨oc11, od11, .func (PySem.W.fnOf "_nearest" "_nearest" (defArgs s__nearest) (defBody s__nearest) (defScope s__nearest) .none kV11 dc11 pm11 an11 cd11 ct11), sl11⟩) (c11 : PySem.W.codeIn K cd11 "_nearest" = true) (k11 : PySem.W.keepIn K (.ref f11) = true)
    {f12 : Addr} {od12 an12 : Option Addr} {sl12 : Array (Option Value)} {oc12 kV12 dc12 pm12 cd12 ct12 : Value}
    (a12 : PySem.W.nsIn K mainGlobals "_law_cell" = some (some (.ref f12))) (l12 : K.lookup f12 = some ⟨oc12, od12, .func (PySem.W.fnOf "_law_cell" "_law_cell" (defArgs s__law_cell) (defBody s__law_cell) (defScope s__law_cell) .none kV12 dc12 pm12 an12 cd12 ct12), sl12⟩) (c12 : PySem.W.codeIn K cd12 "_law_cell" = true) (k12 : PySem.W.keepIn K (.ref f12) = true)
    {f13 : Addr} {od13 an13 : Option Addr} {sl13 : Array (Option Value)} {oc13 kV13 dc13 pm13 cd13 ct13 : Value}
    (a13 : PySem.W.nsIn K mainGlobals "_law_is_integer" = some (some (.ref f13))) (l13 : K.lookup f13 = some ⟨oc13, od13, .func (PySem.W.fnOf "_law_is_integer" "_law_is_integer" (defArgs s__law_is_integer) (defBody s__law_is_integer) (defScope s__law_is_integer) .none kV13 dc13 pm13 an13 cd13 ct13), sl13⟩) (c13 : PySem.W.codeIn K cd13 "_law_is_integer" = true) (k13 : PySem.W.keepIn K (.ref f13) = true)
    {f14 : Addr} {od14 an14 : Option Addr} {sl14 : Array (Option Value)} {oc14 kV14 dc14 pm14 cd14 ct14 : Value}
    (a14 : PySem.W.nsIn K mainGlobals "_law_draw" = some (some (.ref f14))) (l14 : K.lookup f14 = some ⟨oc14, od14, .func (PySem.W.fnOf "_law_draw" "_law_draw" (defArgs s__law_draw) (defBody s__law_draw) (defScope s__law_draw) .none kV14 dc14 pm14 an14 cd14 ct14), sl14⟩) (c14 : PySem.W.codeIn K cd14 "_law_draw" = true) (k14 : PySem.W.keepIn K (.ref f14) = true)
    {f15 : Addr} {od15 an15 : Option Addr} {sl15 : Array (Option Value)} {oc15 kV15 dc15 pm15 cd15 ct15 : Value}
    (a15 : PySem.W.nsIn K mainGlobals "_law_state" = some (some (.ref f15))) (l15 : K.lookup f15 = some ⟨oc15, od15, .func (PySem.W.fnOf "_law_state" "_law_state" (defArgs s__law_state) (defBody s__law_state) (defScope s__law_state) .none kV15 dc15 pm15 an15 cd15 ct15), sl15⟩) (c15 : PySem.W.codeIn K cd15 "_law_state" = true) (k15 : PySem.W.keepIn K (.ref f15) = true)
    {f16 : Addr} {od16 an16 : Option Addr} {sl16 : Array (Option Value)} {oc16 kV16 dc16 pm16 cd16 ct16 : Value}
    (a16 : PySem.W.nsIn K mainGlobals "_law_is_bytes" = some (some (.ref f16))) (l16 : K.lookup f16 = some ⟨oc16, od16, .func (PySem.W.fnOf "_law_is_bytes" "_law_is_bytes" (defArgs s__law_is_bytes) (defBody s__law_is_bytes) (defScope s__law_is_bytes) .none kV16 dc16 pm16 an16 cd16 ct16), sl16⟩) (c16 : PySem.W.codeIn K cd16 "_law_is_bytes" = true) (k16 : PySem.W.keepIn K (.ref f16) = true)
    {f17 : Addr} {od17 an17 : Option Addr} {sl17 : Array (Option Value)} {oc17 kV17 dc17 pm17 cd17 ct17 : Value}
    (a17 : PySem.W.nsIn K mainGlobals "_law_rows" = some (some (.ref f17))) (l17 : K.lookup f17 = some ⟨oc17, od17, .func (PySem.W.fnOf "_law_rows" "_law_rows" (defArgs s__law_rows) (defBody s__law_rows) (defScope s__law_rows) .none kV17 dc17 pm17 an17 cd17 ct17), sl17⟩) (c17 : PySem.W.codeIn K cd17 "_law_rows" = true) (k17 : PySem.W.keepIn K (.ref f17) = true)
    {f18 : Addr} {od18 an18 : Option Addr} {sl18 : Array (Option Value)} {oc18 kV18 dc18 pm18 cd18 ct18 : Value}
    (a18 : PySem.W.nsIn K mainGlobals "_law_prediction" = some (some (.ref f18))) (l18 : K.lookup f18 = some ⟨oc18, od18, .func (PySem.W.fnOf "_law_prediction" "_law_prediction" (defArgs s__law_prediction) (defBody s__law_prediction) (defScope s__law_prediction) .none kV18 dc18 pm18 an18 cd18 ct18), sl18⟩) (c18 : PySem.W.codeIn K cd18 "_law_prediction" = true) (k18 : PySem.W.keepIn K (.ref f18) = true)
    {f19 : Addr} {od19 an19 : Option Addr} {sl19 : Array (Option Value)} {oc19 kV19 dc19 pm19 cd19 ct19 : Value}
    (a19 : PySem.W.nsIn K mainGlobals "_law_neighbours" = some (some (.ref f19))) (l19 : K.lookup f19 = some ⟨oc19, od19, .func (PySem.W.fnOf "_law_neighbours" "_law_neighbours" (defArgs s__law_neighbours) (defBody s__law_neighbours) (defScope s__law_neighbours) .none kV19 dc19 pm19 an19 cd19 ct19), sl19⟩) (c19 : PySem.W.codeIn K cd19 "_law_neighbours" = true) (k19 : PySem.W.keepIn K (.ref f19) = true)
    {f20 : Addr} {od20 an20 : Option Addr} {sl20 : Array (Option Value)} {oc20 kV20 dc20 pm20 cd20 ct20 : Value}
    (a20 : PySem.W.nsIn K mainGlobals "_law_due" = some (some (.ref f20))) (l20 : K.lookup f20 = some ⟨oc20, od20, .func (PySem.W.fnOf "_law_due" "_law_due" (defArgs s__law_due) (defBody s__law_due) (defScope s__law_due) .none kV20 dc20 pm20 an20 cd20 ct20), sl20⟩) (c20 : PySem.W.codeIn K cd20 "_law_due" = true) (k20 : PySem.W.keepIn K (.ref f20) = true)
    {f21 : Addr} {od21 an21 : Option Addr} {sl21 : Array (Option Value)} {oc21 kV21 dc21 pm21 cd21 ct21 : Value}
    (a21 : PySem.W.nsIn K mainGlobals "_law_back" = some (some (.ref f21))) (l21 : K.lookup f21 = some ⟨oc21, od21, .func (PySem.W.fnOf "_law_back" "_law_back" (defArgs s__law_back) (defBody s__law_back) (defScope s__law_back) .none kV21 dc21 pm21 an21 cd21 ct21), sl21⟩) (c21 : PySem.W.codeIn K cd21 "_law_back" = true) (k21 : PySem.W.keepIn K (.ref f21) = true)
    {f22 : Addr} {od22 an22 : Option Addr} {sl22 : Array (Option Value)} {oc22 kV22 dc22 pm22 cd22 ct22 : Value}
    (a22 : PySem.W.nsIn K mainGlobals "law" = some (some (.ref f22))) (l22 : K.lookup f22 = some ⟨oc22, od22, .func (PySem.W.fnOf "law" "law" (defArgs s_law) (defBody s_law) (defScope s_law) .none kV22 dc22 pm22 an22 cd22 ct22), sl22⟩) (c22 : PySem.W.codeIn K cd22 "law" = true) (k22 : PySem.W.keepIn K (.ref f22) = true)
    {t23 : Tok} (a23 : PySem.W.nsIn K mainGlobals "_GREATEST_WIDTH" = some (some (.int 65536 t23)))
    {t24 : Tok} (a24 : PySem.W.nsIn K mainGlobals "_METHODS" = some (some (.int 5 t24)))
    (a25 : PySem.W.nsIn K mainGlobals "abs" = some none)
    (a26 : PySem.W.nsIn K mainGlobals "bool" = some none)
    (a27 : PySem.W.nsIn K mainGlobals "int" = some none)
    (a28 : PySem.W.nsIn K mainGlobals "isinstance" = some none)
    (a29 : PySem.W.nsIn K mainGlobals "len" = some none)
    (a30 : PySem.W.nsIn K mainGlobals "list" = some none)
    (a31 : PySem.W.nsIn K mainGlobals "max" = some none)
    (a32 : PySem.W.nsIn K mainGlobals "min" = some none)
    (a33 : PySem.W.nsIn K mainGlobals "range" = some none)
    (a34 : PySem.W.nsIn K mainGlobals "sum" = some none)
    (a35 : PySem.W.nsIn K mainGlobals "tuple" = some none)
    (a36 : PySem.W.nsIn K mainGlobals "zip" = some none)
    : ∃ fd : FuncData, (∀ (s : Shared) (v : Value), BindsTo s fd ⟨[v], []⟩ [("script", v)]) ∧ ∀ base : Heap, K.In base → base.Ns mainGlobals mg → FnOk l.prog w K mg base CX0 6 fa fd ["script"] (spLaw K) := by
  have e := hfa.symm.trans (PySem.W.mg_of X G a22)
  cases e
  have F1 := fun_mk (st := s_spend) l1 c1 k1
  have b1 := F1.binds (ps := ["left", "cost"]) fun _ _ _ _ _ _ us hl => match us, hl with | [_, _], _ => rfl
  have F2 := fun_mk (st := s_predict) l2 c2 k2
  have b2 := F2.binds (ps := ["data", "width"]) fun _ _ _ _ _ _ us hl => match us, hl with | [_, _], _ => rfl
  have F3 := fun_mk (st := s_unpredict) l3 c3 k3
  have b3 := F3.binds (ps := ["data", "width", "left"]) fun _ _ _ _ _ _ us hl => match us, hl with | [_, _, _], _ => rfl
  have F4 := fun_mk (st := s__bounded) l4 c4 k4
  have b4 := F4.binds (ps := ["width"]) fun _ _ _ _ _ _ us hl => match us, hl with | [_], _ => rfl
  have F5 := fun_mk (st := s__no_row) l5 c5 k5
  have b5 := F5.binds (ps := ["data", "width"]) fun _ _ _ _ _ _ us hl => match us, hl with | [_, _], _ => rfl
  have F6 := fun_mk (st := s__best_row) l6 c6 k6
  have b6 := F6.binds (ps := ["row", "before"]) fun _ _ _ _ _ _ us hl => match us, hl with | [_, _], _ => rfl
  have F7 := fun_mk (st := s__weight) l7 c7 k7
  have b7 := F7.binds (ps := ["written"]) fun _ _ _ _ _ _ us hl => match us, hl with | [_], _ => rfl
  have F8 := fun_mk (st := s__write_row) l8 c8 k8
  have b8 := F8.binds (ps := ["method", "row", "before"]) fun _ _ _ _ _ _ us hl => match us, hl with | [_, _, _], _ => rfl
  have F9 := fun_mk (st := s__read_row) l9 c9 k9
  have b9 := F9.binds (ps := ["method", "written", "before"]) fun _ _ _ _ _ _ us hl => match us, hl with | [_, _, _], _ => rfl
  have F10 := fun_mk (st := s__prediction) l10 c10 k10
  have b10 := F10.binds (ps := ["method", "left", "above", "corner"]) fun _ _ _ _ _ _ us hl => match us, hl with | [_, _, _, _], _ => rfl
  have F11 := fun_mk (st := s__nearest) l11 c11 k11
  have b11 := F11.binds (ps := ["left", "above", "corner"]) fun _ _ _ _ _ _ us hl => match us, hl with | [_, _, _], _ => rfl
  have F12 := fun_mk (st := s__law_cell) l12 c12 k12
  have b12 := F12.binds (ps := ["script", "k"]) fun _ _ _ _ _ _ us hl => match us, hl with | [_, _], _ => rfl
  have F13 := fun_mk (st := s__law_is_integer) l13 c13 k13
  have b13 := F13.binds (ps := ["actual"]) fun _ _ _ _ _ _ us hl => match us, hl with | [_], _ => rfl
  have F14 := fun_mk (st := s__law_draw) l14 c14 k14
  have b14 := F14.binds (ps := ["state", "many"]) fun _ _ _ _ _ _ us hl => match us, hl with | [_, _], _ => rfl
  have F15 := fun_mk (st := s__law_state) l15 c15 k15
  have b15 := F15.binds (ps := ["cell", "salt"]) fun _ _ _ _ _ _ us hl => match us, hl with | [_, _], _ => rfl
  have F16 := fun_mk (st := s__law_is_bytes) l16 c16 k16
  have b16 := F16.binds (ps := ["actual"]) fun _ _ _ _ _ _ us hl => match us, hl with | [_], _ => rfl
  have F17 := fun_mk (st := s__law_rows) l17 c17 k17
  have b17 := F17.binds (ps := ["state"]) fun _ _ _ _ _ _ us hl => match us, hl with | [_], _ => rfl
  have F18 := fun_mk (st := s__law_prediction) l18 c18 k18
  have b18 := F18.binds (ps := ["method", "left", "above", "corner"]) fun _ _ _ _ _ _ us hl => match us, hl with | [_, _, _, _], _ => rfl
  have F19 := fun_mk (st := s__law_neighbours) l19 c19 k19
  have b19 := F19.binds (ps := ["data", "width", "at"]) fun _ _ _ _ _ _ us hl => match us, hl with | [_, _, _], _ => rfl
  have F20 := fun_mk (st := s__law_due) l20 c20 k20
  have b20 := F20.binds (ps := ["data", "width"]) fun _ _ _ _ _ _ us hl => match us, hl with | [_, _], _ => rfl
  have F21 := fun_mk (st := s__law_back) l21 c21 k21
  have b21 := F21.binds (ps := ["data", "width"]) fun _ _ _ _ _ _ us hl => match us, hl with | [_, _], _ => rfl
  have F22 := fun_mk (st := s_law) l22 c22 k22
  have b22 := F22.binds (ps := ["script"]) fun _ _ _ _ _ _ us hl => match us, hl with | [_], _ => rfl
  have T : Txt K mg := ⟨f1, _, F1, b1, PySem.W.mg_of X G a1,
    f2, _, F2, b2, PySem.W.mg_of X G a2,
    f3, _, F3, b3, PySem.W.mg_of X G a3,
    f4, _, F4, b4, PySem.W.mg_of X G a4,
    f5, _, F5, b5, PySem.W.mg_of X G a5,
    f6, _, F6, b6, PySem.W.mg_of X G a6,
    f7, _, F7, b7, PySem.W.mg_of X G a7,
    f8, _, F8, b8, PySem.W.mg_of X G a8,
    f9, _, F9, b9, PySem.W.mg_of X G a9,
    f10, _, F10, b10, PySem.W.mg_of X G a10,
    f11, _, F11, b11, PySem.W.mg_of X G a11,
    f12, _, F12, b12, PySem.W.mg_of X G a12,
    f13, _, F13, b13, PySem.W.mg_of X G a13,
    f14, _, F14, b14, PySem.W.mg_of X G a14,
    f15, _, F15, b15, PySem.W.mg_of X G a15,
    f16, _, F16, b16, PySem.W.mg_of X G a16,
    f17, _, F17, b17, PySem.W.mg_of X G a17,
    f18, _, F18, b18, PySem.W.mg_of X G a18,
    f19, _, F19, b19, PySem.W.mg_of X G a19,
    f20, _, F20, b20, PySem.W.mg_of X G a20,
    f21, _, F21, b21, PySem.W.mg_of X G a21,
    fa, _, F22, b22, PySem.W.mg_of X G a22,
    t23, PySem.W.mg_of X G a23,
    t24, PySem.W.mg_of X G a24,
    PySem.W.mg_none_of X G a25,
    PySem.W.mg_none_of X G a26,
    PySem.W.mg_none_of X G a27,
    PySem.W.mg_none_of X G a28,
    PySem.W.mg_none_of X G a29,
    PySem.W.mg_none_of X G a30,
    PySem.W.mg_none_of X G a31,
    PySem.W.mg_none_of X G a32,
    PySem.W.mg_none_of X G a33,
    PySem.W.mg_none_of X G a34,
    PySem.W.mg_none_of X G a35,
    PySem.W.mg_none_of X G a36⟩
  refine ⟨PySem.W.fnOf "law" "law" (defArgs s_law) (defBody s_law) (defScope s_law) .none kV22 dc22 pm22 an22 cd22 ct22, fun s v => .of_eq rfl, fun base _ _ => ?_⟩
  exact ok_law_of F22 T
end K10
open PySem PySem.W PyProof.Rows
set_option maxRecDepth 100000 in
set_option maxHeartbeats 0 in
theorem PySem.Challenge.cw_stillroom_k10_predicted_rows_holds : PySem.Challenge.rw_stillroom_k10_predicted_rows.Holds := by
  w_on; o_law; k_head; (case hw => w_witness2)
  k_fill
  refine L2.walk_of (l := PySem.Challenge.rw_stillroom_k10_predicted_rows) (n := 63) (k := 6) (x := "script") (CX := fun _ => L2.CX0) (sp := fun w => K10.spLaw _) rfl (by decide) rfl ⟨rfl, by decide, by decide⟩ (fun w h Y => PySem.W.kIn_of Y) ?F (fun _ _ a ns hl _ hS => ⟨a, ns, rfl, hS, hl, fun _ => rfl⟩) (fun _ _ _ _ _ h => h)
  case F =>
    intro w mg fa h KX G hmg
    refine' K10.all_mk KX G hmg ?a1 ?l1 ?c1 ?k1 ?a2 ?l2 ?c2 ?k2 ?a3 ?l3 ?c3 ?k3 ?a4 ?l4 ?c4 ?k4 ?a5 ?l5 ?c5 ?k5 ?a6 ?l6 ?c6 ?k6 ?a7 ?l7 ?c7 ?k7 ?a8 ?l8 ?c8 ?k8 ?a9 ?l9 ?c9 ?k9 ?a10 ?l10 ?c10 ?k10 ?a11 ?l11 ?c11 ?k11 ?a12 ?l12 ?c12 ?k12 ?a13 ?l13 ?c13 ?k13 ?a14 ?l14 ?c14 ?k14 ?a15 ?l15 ?c15 ?k15 ?a16 ?l16 ?c16 ?k16 ?a17 ?l17 ?c17 ?k17 ?a18 ?l18 ?c18 ?k18 ?a19 ?l19 ?c19 ?k19 ?a20 ?l20 ?c20 ?k20 ?a21 ?l21 ?c21 ?k21 ?a22 ?l22 ?c22 ?k22 ?a23 ?a24 ?a25 ?a26 ?a27 ?a28 ?a29 ?a30 ?a31 ?a32 ?a33 ?a34 ?a35 ?a36
    (case a1 => k_is)
    (case l1 => k_is)
    (case c1 => k_is)
    (case k1 => k_is)
    (case a2 => k_is)
    (case l2 => k_is)
    (case c2 => k_is)
    (case k2 => k_is)
    (case a3 => k_is)
    (case l3 => k_is)
    (case c3 => k_is)
    (case k3 => k_is)
    (case a4 => k_is)
    (case l4 => k_is)
    (case c4 => k_is)
    (case k4 => k_is)
    (case a5 => k_is)
    (case l5 => k_is)
    (case c5 => k_is)
    (case k5 => k_is)
    (case a6 => k_is)
    (case l6 => k_is)
    (case c6 => k_is)
    (case k6 => k_is)
    (case a7 => k_is)
    (case l7 => k_is)
    (case c7 => k_is)
    (case k7 => k_is)
    (case a8 => k_is)
    (case l8 => k_is)
    (case c8 => k_is)
    (case k8 => k_is)
    (case a9 => k_is)
    (case l9 => k_is)
    (case c9 => k_is)
    (case k9 => k_is)
    (case a10 => k_is)
    (case l10 => k_is)
    (case c10 => k_is)
    (case k10 => k_is)
    (case a11 => k_is)
    (case l11 => k_is)
    (case c11 => k_is)
    (case k11 => k_is)
    (case a12 => k_is)
    (case l12 => k_is)
    (case c12 => k_is)
    (case k12 => k_is)
    (case a13 => k_is)
    (case l13 => k_is)
    (case c13 => k_is)
    (case k13 => k_is)
    (case a14 => k_is)
    (case l14 => k_is)
    (case c14 => k_is)
    (case k14 => k_is)
    (case a15 => k_is)
    (case l15 => k_is)
    (case c15 => k_is)
    (case k15 => k_is)
    (case a16 => k_is)
    (case l16 => k_is)
    (case c16 => k_is)
    (case k16 => k_is)
    (case a17 => k_is)
    (case l17 => k_is)
    (case c17 => k_is)
    (case k17 => k_is)
    (case a18 => k_is)
    (case l18 => k_is)
    (case c18 => k_is)
    (case k18 => k_is)
    (case a19 => k_is)
    (case l19 => k_is)
    (case c19 => k_is)
    (case k19 => k_is)
    (case a20 => k_is)
    (case l20 => k_is)
    (case c20 => k_is)
    (case k20 => k_is)
    (case a21 => k_is)
    (case l21 => k_is)
    (case c21 => k_is)
    (case k21 => k_is)
    (case a22 => k_is)
    (case l22 => k_is)
    (case c22 => k_is)
    (case k22 => k_is)
    (case a23 => k_is)
    (case a24 => k_is)
    (case a25 => k_is)
    (case a26 => k_is)
    (case a27 => k_is)
    (case a28 => k_is)
    (case a29 => k_is)
    (case a30 => k_is)
    (case a31 => k_is)
    (case a32 => k_is)
    (case a33 => k_is)
    (case a34 => k_is)
    (case a35 => k_is)
    (case a36 => k_is)

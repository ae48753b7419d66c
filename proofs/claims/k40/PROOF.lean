

import PyProof.Rows.All
import Wide.All
import OpenK.AllK
import Wide.FinOn
import HandS.ForMost
import HandS.Wide
import HandS.IsInst
import HandS.FStr
import HandS.Zip
import HandS.CallLocal
import HandS.Walk
import HandS.TryOnly
import HandS.TupAny
import HandS.DictComp
import HandS.Deep
import PyProof.DictMoreH
import HandS.Text
import HandS.Codes
import PySem.Challenge.RW_stillroom_k40_painted_pages
set_option Elab.async false
set_option linter.all false
set_option maxRecDepth 100000
namespace K40
open PySem PySem.Spec PyProof.Rows L2

/-! ### rules with plainer readings -/
section
variable {X : Cx}
theorem CallR.of {f : Value} {r r' : List V → Hp → VK → Prop} (h : CallR X f r) (k : ∀ xs H Q, r' xs H Q → r xs H Q) : CallR X f r' := fun pins s σ H xs us Q I rv q => h pins s σ H xs us Q I rv (k xs H Q q)
theorem OpR.of {f : Value → Value → Sem Value} {r r' : R2} (h : OpR X f r) (k : ∀ x y H Q, r' x y H Q → r x y H Q) : OpR X f r' := fun pins s σ H x y v u Q I rx ry q => h pins s σ H x y v u Q I rx ry (k x y H Q q)
/-- the name of a plain value's type -/
def tnm : V → Option String
  | .non => some "NoneType"
  | .bl _ => some "bool"
  | .int _ => some "int"
  | .str _ => some "str"
  | _ => none
theorem tnm_int (i : Int) : tnm (.int i) = some "int" := rfl
theorem tnm_bl (b : Bool) : tnm (.bl b) = some "bool" := rfl
theorem tnm_str (x : Str) : tnm (.str x) = some "str" := rfl
theorem tnm_non : tnm .non = some "NoneType" := rfl
theorem tnm_ref (p : Addr) : tnm (.ref p) = none := rfl
theorem scal_ii (i j : Int) : scal (.int i) (.int j) = true := rfl
theorem scal_ss (i j : Str) : scal (.str i) (.str j) = true := rfl
theorem scal_bb (i j : Bool) : scal (.bl i) (.bl j) = true := rfl
theorem scal_nn : scal .non .non = true := rfl
theorem scal_in (i : Int) : scal (.int i) .non = true := rfl
theorem scal_ni (i : Int) : scal .non (.int i) = true := rfl
def rIsiB : List V → Hp → VK → Prop := fun vs H Q => (∃ x n a b, vs = [x, .ty n] ∧ tnm x = some a ∧ kitB a n = some b ∧ Q (.bl b) H) ∨
  (∃ p n xs b, vs = [.ref p, .ty n] ∧ H p = some (.lst xs) ∧ kitB "list" n = some b ∧ Q (.bl b) H) ∨ ∃ p n xs b, vs = [.ref p, .ty n] ∧ H p = some (.tup xs) ∧ kitB "tuple" n = some b ∧ Q (.bl b) H
theorem call_isiB : CallR X (.builtin "isinstance") rIsiB := CallR.of call_isi (by
  intro vs H Q h
  rcases h with ⟨x, n, a, b, rfl, ha, hb, q⟩ | ⟨p, n, xs, b, rfl, ha, hb, q⟩ | ⟨p, n, xs, b, rfl, ha, hb, q⟩
  · refine ⟨x, .ty n, .type a, .type n, b, rfl, .ty n, ?_, kit_ty hb, q⟩
    cases x <;> cases ha
    · exact .base .non
    · exact .base (.bl _)
    · exact .base (.int _)
    · exact .base (.str _)
  · exact ⟨.ref p, .ty n, .type "list", .type n, b, rfl, .ty n, .base (.lst ha), kit_ty hb, q⟩
  · exact ⟨.ref p, .ty n, .type "tuple", .type n, b, rfl, .ty n, .base (.tup ha), kit_ty hb, q⟩)
theorem kb1 : kitB "int" "int" = some true := by decide +kernel
theorem kb2 : kitB "int" "bool" = some false := by decide +kernel
theorem kb3 : kitB "bool" "bool" = some true := by decide +kernel
theorem kb4 : kitB "bool" "int" = some true := by decide +kernel
theorem kb5 : kitB "str" "str" = some true := by decide +kernel
theorem kb6 : kitB "str" "int" = some false := by decide +kernel
theorem kb7 : kitB "list" "list" = some true := by decide +kernel
theorem kb8 : kitB "tuple" "tuple" = some true := by decide +kernel
theorem kb9 : kitB "NoneType" "int" = some false := by decide +kernel
theorem kb10 : kitB "NoneType" "list" = some false := by decide +kernel
/-- len, a copy, an item of a tracked list -/
def rLenH : List V → Hp → VK → Prop := fun vs H Q => ∃ p xs, vs = [.ref p] ∧ H p = some (.lst xs) ∧ Q (.int xs.length) H
theorem call_lenH : CallR X (.builtin "len") rLenH := CallR.of call_len_seq (by
  rintro vs H Q ⟨p, xs, rfl, h, q⟩
  exact ⟨p, xs, rfl, .inl (.inl (.inl h)), q⟩)
def rLenT : List V → Hp → VK → Prop := fun vs H Q => ∃ p xs, vs = [.ref p] ∧ H p = some (.tup xs) ∧ Q (.int xs.length) H
theorem call_lenT : CallR X (.builtin "len") rLenT := CallR.of call_len_seq (by
  rintro vs H Q ⟨p, xs, rfl, h, q⟩
  exact ⟨p, xs, rfl, .inr (.inl (.inl h)), q⟩)
def rListH : List V → Hp → VK → Prop := fun vs H Q => ∃ p xs, vs = [.ref p] ∧ H p = some (.lst xs) ∧ ∀ l, H l = none → Q (.ref l) (upd H l (.lst xs))
theorem call_listH : CallR X (.type "list") rListH := CallR.of call_list_of (by
  rintro vs H Q ⟨p, xs, rfl, h, q⟩
  exact ⟨p, xs, rfl, .inl (.inl (.inl h)), q⟩)
theorem ints_dp {K : PySem.W.Frag} {H : Hp} : ∀ ns : List Int, DpAll K H (ns.map V.int) (ns.map PyData.int)
  | [] => .nil
  | n :: r => .cons (.int n) (ints_dp r)
theorem ints_eqv : ∀ ns ms : List Int, PyData.eqvAll (ns.map PyData.int) (ms.map PyData.int) = decide (ns = ms)
  | [], [] => by simp [PyData.eqvAll]
  | [], _ :: _ => by simp [PyData.eqvAll]
  | _ :: _, [] => by simp [PyData.eqvAll]
  | n :: r, m :: q => by
    rw [List.map_cons, List.map_cons, PyData.eqvAll, ints_eqv r q]
    simp only [PyData.eqv, List.cons.injEq, Bool.decide_and]
    by_cases h : n = m <;> simp [h]
theorem ints_lay : ∀ ns : List Int, PyData.canLayAll0 (ns.map PyData.int) = true
  | [] => rfl
  | _ :: r => by rw [List.map_cons, PyData.canLayAll0, ints_lay r]; rfl
theorem ints_depth : ∀ ns : List Int, PyData.depthAll (ns.map PyData.int) = 0
  | [] => rfl
  | _ :: r => by rw [List.map_cons, PyData.depthAll, ints_depth r]; rfl
theorem ints_shaped (ns : List Int) : SeqAt.shaped (.list (ns.map PyData.int)) = true := by
  unfold SeqAt.shaped
  rw [PyData.canLay0, ints_lay, PyData.depth, ints_depth]
  rfl
/-- == and != of two tracked lists of ints -/
def rEqIL : R2 := fun x y H Q => ∃ a b ns ms, x = .ref a ∧ y = .ref b ∧ H a = some (.lst (List.map V.int ns)) ∧ H b = some (.lst (List.map V.int ms)) ∧ Q (.bl (decide (ns = ms))) H
theorem op_eqIL (hu : X.A.units + 64 < cLine) : OpR X (compareOp .Eq) rEqIL := OpR.of (op_eqD hu) (by
  rintro x y H Q ⟨a, b, ns, ms, rfl, rfl, ha, hb, q⟩
  refine ⟨_, _, .lst (.inl (.inl ha)) (ints_dp ns), .lst (.inl (.inl hb)) (ints_dp ms), ints_shaped ns, ints_shaped ms, ?_⟩
  rw [PyData.eqv, ints_eqv]
  exact q)
def rNeIL : R2 := fun x y H Q => ∃ a b ns ms, x = .ref a ∧ y = .ref b ∧ H a = some (.lst (List.map V.int ns)) ∧ H b = some (.lst (List.map V.int ms)) ∧ Q (.bl (!decide (ns = ms))) H
theorem op_neIL (hu : X.A.units + 64 < cLine) : OpR X (compareOp .NotEq) rNeIL := OpR.of (op_neD hu) (by
  rintro x y H Q ⟨a, b, ns, ms, rfl, rfl, ha, hb, q⟩
  refine ⟨_, _, .lst (.inl (.inl ha)) (ints_dp ns), .lst (.inl (.inl hb)) (ints_dp ms), ints_shaped ns, ints_shaped ms, ?_⟩
  rw [PyData.eqv, ints_eqv]
  exact q)
/-- == of two tracked tuples of plain things -/
def dS : V → PyData
  | .int i => .int i
  | .bl b => .bool b
  | _ => .none
def isS : V → Bool
  | .int _ => true
  | .bl _ => true
  | .non => true
  | _ => false
theorem isS_dp {K : PySem.W.Frag} {H : Hp} : ∀ xs : List V, xs.all isS = true → DpAll K H xs (xs.map dS)
  | [], _ => .nil
  | x :: r, h => by
    rw [List.all_cons, Bool.and_eq_true] at h
    refine .cons ?_ (isS_dp r h.2)
    have h1 := h.1
    cases x <;> first | exact .int _ | exact .bl _ | exact .non | cases h1
theorem isS_lay : ∀ xs : List V, PyData.canLayAll0 (xs.map dS) = true
  | [] => rfl
  | x :: r => by rw [List.map_cons, PyData.canLayAll0, isS_lay r]; cases x <;> rfl
theorem isS_depth : ∀ xs : List V, PyData.depthAll (xs.map dS) = 0
  | [] => rfl
  | x :: r => by rw [List.map_cons, PyData.depthAll, isS_depth r]; cases x <;> rfl
theorem isS_shaped (xs : List V) : SeqAt.shaped (.tuple (xs.map dS)) = true := by
  unfold SeqAt.shaped
  rw [PyData.canLay0, isS_lay, PyData.depth, isS_depth]
  rfl
def rEqTS : R2 := fun x y H Q => ∃ a b xs ys, x = .ref a ∧ y = .ref b ∧ H a = some (.tup xs) ∧ H b = some (.tup ys) ∧ xs.all isS = true ∧ ys.all isS = true ∧ Q (.bl (PyData.eqvAll (xs.map dS) (ys.map dS))) H
theorem op_eqTS (hu : X.A.units + 64 < cLine) : OpR X (compareOp .Eq) rEqTS := OpR.of (op_eqD hu) (by
  rintro x y H Q ⟨a, b, xs, ys, rfl, rfl, ha, hb, h1, h2, q⟩
  refine ⟨_, _, .tup (.inl (.inl ha)) (isS_dp xs h1), .tup (.inl (.inl hb)) (isS_dp ys h2), isS_shaped xs, isS_shaped ys, ?_⟩
  rw [PyData.eqv]
  exact q)
theorem dS_int (i : Int) : dS (.int i) = .int i := rfl
theorem dS_bl (b : Bool) : dS (.bl b) = .bool b := rfl
theorem isS_int (i : Int) : isS (.int i) = true := rfl
theorem isS_bl (b : Bool) : isS (.bl b) = true := rfl
theorem eqv_ii (i j : Int) : PyData.eqv (.int i) (.int j) = decide (i = j) := by rw [PyData.eqv]; rfl
theorem eqv_bb (i j : Bool) : PyData.eqv (.bool i) (.bool j) = decide (i = j) := by rw [PyData.eqv]; cases i <;> cases j <;> rfl
theorem eqvAll_nil : PyData.eqvAll [] [] = true := by rw [PyData.eqvAll]
theorem eqvAll_cons (x y : PyData) (xs ys : List PyData) : PyData.eqvAll (x :: xs) (y :: ys) = (PyData.eqv x y && PyData.eqvAll xs ys) := by rw [PyData.eqvAll]
theorem ip_of {op : Operator} {r : R2} (h : OpR X (inplaceOp op) r) : PIp X op r := fun pins s σ H x y v u Q I r1 r2 q => h pins s σ H x y v u Q I r1 r2 q
theorem SlR.of {r r' : V → Option Int → Option Int → Hp → VK → Prop} (h : SlR X r) (k : ∀ x lo hi H Q, r' x lo hi H Q → r x lo hi H Q) : SlR X r' := fun pins s σ H x v vl vu lo hi sl Q I rx hs pl pu q => h pins s σ H x v vl vu lo hi sl Q I rx hs pl pu (k x lo hi H Q q)
/-- a slice of a tracked list -/
def rSlH : V → Option Int → Option Int → Hp → VK → Prop := fun x lo hi H Q => ∃ a xs, x = .ref a ∧ H a = some (.lst xs) ∧ ∀ p, H p = none → Q (.ref p) (upd H p (.lst (cutV xs lo hi)))
theorem sl_listH : SlR X rSlH := SlR.of sl_list (by
  rintro x lo hi H Q ⟨a, xs, rfl, h, q⟩
  exact ⟨a, xs, rfl, .inl (.inl h), q⟩)
/-- == and != of two tracked pairs of a list of ints and an int -/
theorem li_dp {K : PySem.W.Frag} {H : Hp} {q : Addr} {l : Int} {ns : List Int} (hq : H q = some (.lst (List.map V.int ns))) : DpAll K H [.ref q, .int l] [.list (ns.map PyData.int), .int l] := .cons (.lst (.inl (.inl hq)) (ints_dp ns)) (.cons (.int l) .nil)
theorem li_shaped (ns : List Int) (l : Int) : SeqAt.shaped (.tuple [.list (ns.map PyData.int), .int l]) = true := by
  unfold SeqAt.shaped
  rw [PyData.canLay0, PyData.canLayAll0, PyData.canLay0, ints_lay, PyData.canLayAll0, PyData.depth, PyData.depthAll, PyData.depth, ints_depth, PyData.depthAll]
  rfl
theorem li_eqv (ns ms : List Int) (l m : Int) : PyData.eqv (.tuple [.list (ns.map PyData.int), .int l]) (.tuple [.list (ms.map PyData.int), .int m]) = (decide (ns = ms) && decide (l = m)) := by
  rw [PyData.eqv, PyData.eqvAll, PyData.eqvAll, PyData.eqvAll, PyData.eqv, PyData.eqv, ints_eqv, Bool.and_true]
  rfl
def rEqLI : R2 := fun x y H Q => ∃ a b q r l m ns ms, x = .ref a ∧ y = .ref b ∧ H a = some (.tup [.ref q, .int l]) ∧ H b = some (.tup [.ref r, .int m]) ∧ H q = some (.lst (List.map V.int ns)) ∧ H r = some (.lst (List.map V.int ms)) ∧ Q (.bl (decide (ns = ms) && decide (l = m))) H
theorem op_eqLI (hu : X.A.units + 64 < cLine) : OpR X (compareOp .Eq) rEqLI := OpR.of (op_eqD hu) (by
  rintro x y H Q ⟨a, b, q, r, l, m, ns, ms, rfl, rfl, ha, hb, hq, hr, k⟩
  refine ⟨_, _, .tup (.inl (.inl ha)) (li_dp hq), .tup (.inl (.inl hb)) (li_dp hr), li_shaped ns l, li_shaped ms m, ?_⟩
  rw [li_eqv]
  exact k)
def rNeLI : R2 := fun x y H Q => ∃ a b q r l m ns ms, x = .ref a ∧ y = .ref b ∧ H a = some (.tup [.ref q, .int l]) ∧ H b = some (.tup [.ref r, .int m]) ∧ H q = some (.lst (List.map V.int ns)) ∧ H r = some (.lst (List.map V.int ms)) ∧ Q (.bl (!(decide (ns = ms) && decide (l = m)))) H
theorem op_neLI (hu : X.A.units + 64 < cLine) : OpR X (compareOp .NotEq) rNeLI := OpR.of (op_neD hu) (by
  rintro x y H Q ⟨a, b, q, r, l, m, ns, ms, rfl, rfl, ha, hb, hq, hr, k⟩
  refine ⟨_, _, .tup (.inl (.inl ha)) (li_dp hq), .tup (.inl (.inl hb)) (li_dp hr), li_shaped ns l, li_shaped ms m, ?_⟩
  rw [li_eqv]
  exact k)
def rIxH : R2 := fun x y H Q => ∃ p xs i v, x = .ref p ∧ y = .int i ∧ H p = some (.lst xs) ∧ atI xs i = some v ∧ Q v H
theorem IxR.of {r r' : R2} (h : IxR X r) (k : ∀ x y H Q, r' x y H Q → r x y H Q) : IxR X r' := fun va sl pins s σ H x y v u Q I rx ry q hs => h va sl pins s σ H x y v u Q I rx ry (k x y H Q q) hs
theorem ix_listH : IxR X rIxH := IxR.of ix_list (by
  rintro x y H Q ⟨p, xs, i, v, e1, e2, h, h2, q⟩
  exact ⟨p, xs, i, v, e1, e2, .inl (.inl h), h2, q⟩)
def rIxTH : R2 := fun x y H Q => ∃ p xs i v, x = .ref p ∧ y = .int i ∧ H p = some (.tup xs) ∧ atI xs i = some v ∧ Q v H
theorem ix_tupH : IxR X rIxTH := IxR.of ix_tup (by
  rintro x y H Q ⟨p, xs, i, v, e1, e2, h, h2, q⟩
  exact ⟨p, xs, i, v, e1, e2, .inl (.inl h), h2, q⟩)
end
/-- a place in bounds -/
theorem ixN_in {n : Nat} {k : Int} (h0 : 0 ≤ k) (h1 : k < n) : ixN n k = some k.toNat := by
  unfold ixN
  rw [if_pos h0, if_pos h1]
theorem atI_in {xs : List Int} {k : Int} (h0 : 0 ≤ k) (h1 : k < xs.length) : ∃ b, xs[k.toNat]? = some b ∧ atI (xs.map V.int) k = some (.int b) := by
  have h : k.toNat < xs.length := by omega
  refine ⟨xs[k.toNat], List.getElem?_eq_getElem h, ?_⟩
  unfold atI
  rw [List.length_map, ixN_in h0 h1]
  show (xs.map V.int)[k.toNat]? = _
  rw [List.getElem?_map, List.getElem?_eq_getElem h]
  rfl
theorem mod_in (x : Int) {m : Int} (h : 0 < m) : 0 ≤ x % m ∧ x % m < m := ⟨Int.emod_nonneg x (by omega), Int.emod_lt_of_pos x h⟩
theorem atI_c0 {α : Type} (x : α) (xs : List α) : atI (x :: xs) 0 = some x := atI_nat (j := 0) rfl
theorem atI_c1 {α : Type} (x y : α) (xs : List α) : atI (x :: y :: xs) 1 = some y := atI_nat (j := 1) rfl
theorem atI_c2 {α : Type} (x y z : α) (xs : List α) : atI (x :: y :: z :: xs) 2 = some z := atI_nat (j := 2) rfl
theorem atI_c3 {α : Type} (x y z u : α) (xs : List α) : atI (x :: y :: z :: u :: xs) 3 = some u := atI_nat (j := 3) rfl

theorem tyV_upd {K : PySem.W.Frag} {H : Hp} {p : Addr} {xs : List V} : tyV K "list" (.ref p) (upd H p (.lst xs)) = True := eq_true (.inl ⟨rfl, xs, .inl (.inl upd_same)⟩)
theorem nil_sz : (0 ≤ sizeLine) = True := eq_true (Nat.zero_le _)
/-- what a for asks once its walk stands -/
def Loop (J : It) (g : TG) (tb : TS) (D : Ends) (σ : L2.St) (H1 : Hp) : Prop := ∃ W : Nat → Nat → L2.St → Hp → Prop, (∃ m, W 0 m σ H1) ∧ ∀ i m σ H, W i m σ H →
  (J.stop i H ∧ D.nx σ H) ∨ (J.go i H ∧ ∃ N : L2.St → Hp → Prop, (∀ σ' H', N σ' H' → ∃ m', m' < m ∧ W (i + 1) m' σ' H') ∧ ∀ x H', J.yld i H x H' → g x σ H' fun σ2 H2 => tb { D with nx := N, ct := N, bk := D.nx } σ2 H2)
theorem tFor_eq {wi : TI} {g : TG} {tb : TS} {D : Ends} {σ : L2.St} {H : Hp} : tFor wi g tb D σ H = wi σ H fun J H1 => Loop J g tb D σ H1 := rfl
theorem lp_range {n : Nat} {g : TG} {tb : TS} {D : Ends} {σ : L2.St} {H : Hp} (Pv : Nat → L2.St → Hp → Prop) (h0 : Pv 0 σ H)
    (hs : ∀ i σ H, i < n → Pv i σ H → g (.int i) σ H fun σ2 H2 => tb { D with nx := Pv (i + 1), ct := Pv (i + 1), bk := D.nx } σ2 H2) (hd : ∀ σ H, Pv n σ H → D.nx σ H) : Loop (Itr 0 n) g tb D σ H :=
  for_range (lo := 0) Pv h0 (fun i σ H a b => by have := hs i σ H a b; rw [Int.zero_add]; exact this) hd
theorem lp_list {K : PySem.W.Frag} {a : Addr} {xs : List V} {g : TG} {tb : TS} {D : Ends} {σ : L2.St} {H : Hp} (Pv : Nat → L2.St → Hp → Prop) (h0 : Pv 0 σ H) (hl : ∀ i σ H, i ≤ xs.length → Pv i σ H → SqL K H a xs)
    (hs : ∀ i x σ H, xs[i]? = some x → Pv i σ H → g x σ H fun σ2 H2 => tb { D with nx := Pv (i + 1), ct := Pv (i + 1), bk := D.nx } σ2 H2) (hd : ∀ σ H, Pv xs.length σ H → D.nx σ H) : Loop (Itl K a) g tb D σ H := for_list Pv h0 hl hs hd
/-- the same for a comprehension -/
def LcLoop (J : It) (g : TG) (tt : TT) (te : TE) (vs : List Nat) (σ : L2.St) (H1 : Hp) (Q : VK) : Prop := ∀ D, H1 D = none → ∃ W : Nat → Nat → Hp → Prop, (∃ m, W 0 m (upd H1 D (.lst []))) ∧ ∀ i m H, W i m H →
  (J.stop i H ∧ Q (.ref D) H) ∨ (J.go i H ∧ ∃ Nx : Hp → Prop, (∀ H', Nx H' → ∃ m', m' < m ∧ W (i + 1) m' H') ∧ ∀ x H', J.yld i H x H' → g x (wipe σ vs) H' fun σ2 H2 => wipe σ2 vs = wipe σ vs ∧ tt σ2 H2 fun b H3 =>
    if b = true then te σ2 H3 fun y H4 => ∃ acc, H4 D = some (.lst acc) ∧ acc.length < sizeLine ∧ Nx (upd H4 D (.lst (acc ++ [y]))) else Nx H3)
theorem tLc_eq {wi : TI} {g : TG} {tt : TT} {te : TE} {vs : List Nat} {σ : L2.St} {H : Hp} {Q : VK} : tLc wi g tt te vs σ H Q = wi σ H fun J H1 => LcLoop J g tt te vs σ H1 Q := rfl
/-- a comprehension over a list, whose elements leave the heap as it is: L i is what i turns have made -/
theorem lc_pure {K : PySem.W.Frag} {a : Addr} {xs : List V} {g : TG} {tt : TT} {te : TE} {vs : List Nat} {σ : L2.St} {H1 : Hp} {Q : VK} (L : Nat → List V) (hS : SqL K H1 a xs) (h0 : L 0 = [])
    (hs : ∀ i x D, xs[i]? = some x → H1 D = none → g x (wipe σ vs) (upd H1 D (.lst (L i))) fun σ2 H2 => wipe σ2 vs = wipe σ vs ∧ tt σ2 H2 fun b H3 =>
      if b = true then te σ2 H3 fun y H4 => ∃ acc, H4 D = some (.lst acc) ∧ acc.length < sizeLine ∧ upd H4 D (.lst (acc ++ [y])) = upd H1 D (.lst (L (i + 1))) else H3 = upd H1 D (.lst (L (i + 1))))
    (hd : ∀ D, H1 D = none → Q (.ref D) (upd H1 D (.lst (L xs.length)))) : LcLoop (Itl K a) g tt te vs σ H1 Q := by
  intro D hD
  refine lc_list (K := K) (a := a) (xs := xs) (fun i H => H = upd H1 D (.lst (L i))) (by rw [h0]) (fun i H _ e => ?_) (fun i x H hx e => ?_) (fun H e => ?_)
  · subst e
    exact (show Same H1 _ from fun b o e => by rw [upd_ne (ne_of_none e hD)]; exact e).seq hS
  · subst e
    exact hs i x D hx hD
  · subst e
    exact hd D hD
theorem lc_pure_range {n : Nat} {g : TG} {tt : TT} {te : TE} {vs : List Nat} {σ : L2.St} {H1 : Hp} {Q : VK} (L : Nat → List V) (h0 : L 0 = [])
    (hs : ∀ i D, i < n → H1 D = none → g (.int i) (wipe σ vs) (upd H1 D (.lst (L i))) fun σ2 H2 => wipe σ2 vs = wipe σ vs ∧ tt σ2 H2 fun b H3 =>
      if b = true then te σ2 H3 fun y H4 => ∃ acc, H4 D = some (.lst acc) ∧ acc.length < sizeLine ∧ upd H4 D (.lst (acc ++ [y])) = upd H1 D (.lst (L (i + 1))) else H3 = upd H1 D (.lst (L (i + 1))))
    (hd : ∀ D, H1 D = none → Q (.ref D) (upd H1 D (.lst (L n)))) : LcLoop (Itr 0 n) g tt te vs σ H1 Q := by
  intro D hD
  refine lc_range (lo := 0) (n := n) (fun i H => H = upd H1 D (.lst (L i))) (by rw [h0]) (fun i H hi e => ?_) (fun H e => ?_)
  · subst e
    rw [Int.zero_add]
    exact hs i D hi hD
  · subst e
    exact hd D hD
theorem lp_zip {K : PySem.W.Frag} {a b : Addr} {xs ys : List V} {g : TG} {tb : TS} {D : Ends} {σ : L2.St} {H : Hp} (hl : xs.length = ys.length) (Pv : Nat → L2.St → Hp → Prop) (h0 : Pv 0 σ H) (hq : ∀ i σ H, Pv i σ H → SqL K H a xs ∧ SqL K H b ys)
    (hs : ∀ (i : Nat) (x y : V) (T : Addr) (σ : L2.St) (H : Hp), xs[i]? = some x → ys[i]? = some y → Pv i σ H → H T = none → g (.ref T) σ (upd H T (.tup [x, y])) fun σ2 H2 => tb { D with nx := Pv (i + 1), ct := Pv (i + 1), bk := D.nx } σ2 H2) (hd : ∀ σ H, Pv xs.length σ H → D.nx σ H) :
    Loop (Itz K a b) g tb D σ H := RZ.for_zipL hl Pv h0 hq hs hd
theorem lc_str {x : Str} {g : TG} {tt : TT} {te : TE} {vs : List Nat} {σ : L2.St} {H1 : Hp} {Q : VK} (L : Nat → List V) (h0 : L 0 = [])
    (hs : ∀ i c D, x.cps[i]? = some c → H1 D = none → g (.str ⟨#[c]⟩) (wipe σ vs) (upd H1 D (.lst (L i))) fun σ2 H2 => wipe σ2 vs = wipe σ vs ∧ tt σ2 H2 fun b H3 =>
      if b = true then te σ2 H3 fun y H4 => ∃ acc, H4 D = some (.lst acc) ∧ acc.length < sizeLine ∧ upd H4 D (.lst (acc ++ [y])) = upd H1 D (.lst (L (i + 1))) else H3 = upd H1 D (.lst (L (i + 1))))
    (hd : ∀ D, H1 D = none → Q (.ref D) (upd H1 D (.lst (L x.cps.size)))) : LcLoop (Its x) g tt te vs σ H1 Q := by
  intro D hD
  refine ⟨fun i m H => m = x.cps.size - i ∧ i ≤ x.cps.size ∧ H = upd H1 D (.lst (L i)), ⟨x.cps.size, by simp, Nat.zero_le _, by rw [h0]⟩, ?_⟩
  rintro i m H ⟨rfl, hi, rfl⟩
  by_cases hlt : i < x.cps.size
  · refine .inr ⟨hlt, fun H' => H' = upd H1 D (.lst (L (i + 1))), fun H' p' => ⟨x.cps.size - (i + 1), by omega, rfl, hlt, p'⟩, fun v H' y => ?_⟩
    obtain ⟨e, c, hc, ev⟩ := y
    subst e ev
    exact hs i c D hc hD
  · have e : i = x.cps.size := by omega
    subst e
    exact .inl ⟨Nat.le_refl _, hd D hD⟩
theorem lc_rangeC {lo c : Int} {n : Nat} {g : TG} {tt : TT} {te : TE} {vs : List Nat} {σ : L2.St} {H1 : Hp} {Q : VK} (L : Nat → List V) (h0 : L 0 = [])
    (hs : ∀ i D, i < n → H1 D = none → g (.int (lo + (i : Nat) * c)) (wipe σ vs) (upd H1 D (.lst (L i))) fun σ2 H2 => wipe σ2 vs = wipe σ vs ∧ tt σ2 H2 fun b H3 =>
      if b = true then te σ2 H3 fun y H4 => ∃ acc, H4 D = some (.lst acc) ∧ acc.length < sizeLine ∧ upd H4 D (.lst (acc ++ [y])) = upd H1 D (.lst (L (i + 1))) else H3 = upd H1 D (.lst (L (i + 1))))
    (hd : ∀ D, H1 D = none → Q (.ref D) (upd H1 D (.lst (L n)))) : LcLoop (Itc lo c n) g tt te vs σ H1 Q := by
  intro D hD
  refine ⟨fun i m H => m = n - i ∧ i ≤ n ∧ H = upd H1 D (.lst (L i)), ⟨n, by simp, Nat.zero_le _, by rw [h0]⟩, ?_⟩
  rintro i m H ⟨rfl, hi, rfl⟩
  by_cases hlt : i < n
  · refine .inr ⟨hlt, fun H' => H' = upd H1 D (.lst (L (i + 1))), fun H' p' => ⟨n - (i + 1), by omega, rfl, hlt, p'⟩, fun v H' y => ?_⟩
    obtain ⟨e, ev⟩ := y
    subst e ev
    exact hs i D hlt hD
  · have e : i = n := by omega
    subst e
    exact .inl ⟨Nat.le_refl _, hd D hD⟩
theorem small_two {a b : Int} (ha : -(2 ^ 62) ≤ a) (ha' : a < 2 ^ 62) (hb : -(2 ^ 62) ≤ b) (hb' : b < 2 ^ 62) : Builtin.Range.small a b 2 = true := by
  unfold Builtin.Range.small Builtin.Range.rangeSize
  simp only [Builtin.Range.rangeFitsLong, Bool.and_eq_true, Bool.or_eq_true, decide_eq_true_eq, beq_iff_eq, show ((2 : Int) > 0) by decide, if_true]
  split <;> omega
theorem rg_two {n : Nat} (h : n < 1000000) : RgC 0 ((n : Int) - 1) 2 (n / 2) := by
  refine ⟨by decide, by decide, small_two (by decide) (by decide) (by omega) (by omega), ?_⟩
  unfold Builtin.Range.rangeSize
  rw [if_pos (by decide)]
  split <;> omega
theorem wh_by {c : TT} {tb : TS} {D : Ends} {σ : L2.St} {H : Hp} (W : Nat → L2.St → Hp → Prop) (m : Nat) (h0 : W m σ H)
    (hs : ∀ m σ H, W m σ H → c σ H fun b H1 => if b = true then ∃ N : L2.St → Hp → Prop, (∀ σ' H', N σ' H' → ∃ m', m' < m ∧ W m' σ' H') ∧ tb { D with nx := N, ct := N, bk := D.nx } σ H1 else D.nx σ H1) : tWhile c tb D σ H := ⟨W, ⟨m, h0⟩, hs⟩
theorem lc_rng {n : Nat} {g : TG} {tt : TT} {te : TE} {vs : List Nat} {σ : L2.St} {H1 : Hp} {Q : VK} (Pv : Addr → Nat → Hp → Prop) (h0 : ∀ D, H1 D = none → Pv D 0 (upd H1 D (.lst [])))
    (hs : ∀ D i H, i < n → H1 D = none → Pv D i H → g (.int i) (wipe σ vs) H fun σ2 H2 => wipe σ2 vs = wipe σ vs ∧ tt σ2 H2 fun b H3 =>
      if b = true then te σ2 H3 fun y H4 => ∃ acc, H4 D = some (.lst acc) ∧ acc.length < sizeLine ∧ Pv D (i + 1) (upd H4 D (.lst (acc ++ [y]))) else Pv D (i + 1) H3)
    (hd : ∀ D H, H1 D = none → Pv D n H → Q (.ref D) H) : LcLoop (Itr 0 n) g tt te vs σ H1 Q := by
  intro D hD
  refine lc_range (lo := 0) (n := n) (Pv D) (h0 D hD) (fun i H hi p => ?_) (fun H p => hd D H hD p)
  rw [Int.zero_add]
  exact hs D i H hi hD p
theorem same_upd {H : Hp} {p : Addr} {o : HO} (h : H p = none) : Same H (upd H p o) := fun b x e => by
  rw [upd_ne (ne_of_none e h)]
  exact e
theorem same_upd2 {H H' : Hp} {q : Addr} {o : HO} (s : Same H H') (h : H q = none) : Same H (upd H' q o) := fun b x e => by
  rw [upd_ne (ne_of_none e h)]
  exact s b x e

/-! ### fresh objects: the heap behind one as a heap of its own -/
def NewH (H : Hp) (o : HO) (k : Addr → Hp → Prop) : Prop := ∀ p H', Same H H' → H p = none → H' p = some o → k p H'
theorem NewH.go {H : Hp} {o : HO} {k : Addr → Hp → Prop} (h : NewH H o k) : ∀ p, H p = none → k p (upd H p o) := fun p hp => h p _ (same_upd hp) hp upd_same
section
variable {X : Cx} {es : List Expr} {t : TA} {pos : Pos}
theorem pa_mono (h : PA X es t) : PA X es (fun σ H Q => ∃ Q', t σ H Q' ∧ ∀ xs H1, Q' xs H1 → Q xs H1) := ⟨fun pos pins s σ H Q I ⟨_, q, k⟩ => thn (h.run pos pins s σ H _ I q) fun _ _ ⟨vs, H', I', r, q'⟩ => ⟨vs, H', I', r, k _ _ q'⟩⟩
theorem PE.of {e : Expr} {t t' : TE} (h : PE X e t) (k : ∀ σ H Q, t' σ H Q → t σ H Q) : PE X e t' := ⟨fun pins s σ H Q I q => h.run pins s σ H Q I (k _ _ _ q)⟩
def tTupS (t : TA) : TE := fun σ H Q => t σ H fun xs H1 => xs.length ≤ sizeLine ∧ NewH H1 (.tup xs) fun p H' => Q (.ref p) H'
def tLstS (t : TA) : TE := fun σ H Q => t σ H fun xs H1 => xs.length ≤ sizeLine ∧ NewH H1 (.lst xs) fun p H' => Q (.ref p) H'
theorem pe_tupS {x1} (h : PA X es t) : PE X (.Tuple es x1 pos) (tTupS t) := PE.of (pe_tup (pa_mono h)) fun σ H Q q => ⟨_, q, fun _ _ z => ⟨z.1, z.2.go⟩⟩
theorem pe_lstS (h : PA X es t) : PE X (.List es pos) (tLstS t) := PE.of (pe_lst (pa_mono h)) fun σ H Q q => ⟨_, q, fun _ _ z => ⟨z.1, z.2.go⟩⟩
def rListS : List V → Hp → VK → Prop := fun vs H Q => ∃ p xs, vs = [.ref p] ∧ H p = some (.lst xs) ∧ NewH H (.lst xs) fun l H' => Q (.ref l) H'
theorem call_listS : CallR X (.type "list") rListS := CallR.of call_listH fun vs H Q ⟨p, xs, e, h, q⟩ => ⟨p, xs, e, h, q.go⟩
/-- list(t) of a tuple -/
def rListT : List V → Hp → VK → Prop := fun vs H Q => ∃ p xs, vs = [.ref p] ∧ H p = some (.tup xs) ∧ NewH H (.lst xs) fun l H' => Q (.ref l) H'
theorem call_listT : CallR X (.type "list") rListT := CallR.of call_list_of fun vs H Q ⟨p, xs, e, h, q⟩ => ⟨p, xs, e, .inr (.inl (.inl h)), q.go⟩
/-- tuple(xs) of a tracked list -/
def rTupleL : List V → Hp → VK → Prop := fun vs H Q => ∃ p xs, vs = [.ref p] ∧ H p = some (.lst xs) ∧ NewH H (.tup xs) fun l H' => Q (.ref l) H'
theorem call_tupleL : CallR X (.type "tuple") rTupleL := CallR.of call_tuple_of fun vs H Q ⟨p, xs, e, h, q⟩ => ⟨p, xs, e, .inl ⟨.inl (.inl h), q.go⟩⟩
def rCatL : R2 := fun x y H Q => ∃ l b xs zs, x = .ref l ∧ y = .ref b ∧ H l = some (.lst xs) ∧ H b = some (.lst zs) ∧ xs.length + zs.length ≤ sizeLine ∧ NewH H (.lst (xs ++ zs)) fun p H' => Q (.ref p) H'
theorem op_catS : OpR X (binaryOp .Add) rCatL := OpR.of op_cat fun x y H Q ⟨l, b, xs, zs, e1, e2, h1, h2, z, q⟩ => ⟨l, b, xs, zs, e1, e2, h1, h2, z, q.go⟩
/-- [x] * n -/
def rRepS : R2 := fun x y H Q => ∃ l k v, x = .ref l ∧ y = .int k ∧ H l = some (.lst [v]) ∧ k ≤ 16777216 ∧ -(2 ^ 62) ≤ k ∧ NewH H (.lst (List.replicate k.toNat v)) fun p H' => Q (.ref p) H'
theorem rep_flat {α : Type} (n : Nat) (y : α) : (List.replicate n [y]).flatten = List.replicate n y := by
  induction n with
  | zero => rfl
  | succ n ih => rw [List.replicate_succ, List.flatten_cons, ih, List.replicate_succ]; rfl
theorem op_repS : OpR X (binaryOp .Mult) rRepS := OpR.of op_rep fun x y H Q ⟨l, k, v, e1, e2, h1, z1, z2, q⟩ => ⟨l, k, [v], e1, e2, h1, by omega, by omega, by
    rw [List.length_singleton, show sizeLine = 16777216 from rfl]; omega, by rw [rep_flat]; exact q.go⟩
def rSlS : V → Option Int → Option Int → Hp → VK → Prop := fun x lo hi H Q => ∃ a xs, x = .ref a ∧ H a = some (.lst xs) ∧ NewH H (.lst (cutV xs lo hi)) fun p H' => Q (.ref p) H'
theorem sl_listS : SlR X rSlS := SlR.of sl_listH fun x lo hi H Q ⟨a, xs, e, h, q⟩ => ⟨a, xs, e, h, q.go⟩
theorem pe_mono {e : Expr} {t : TE} (h : PE X e t) : PE X e (fun σ H Q => ∃ Q', t σ H Q' ∧ ∀ v H1, Q' v H1 → Q v H1) := ⟨fun pins s σ H Q I ⟨_, q, k⟩ => thn (h.run pins s σ H _ I q) fun _ _ ⟨v, H', I', r, q'⟩ => ⟨v, H', I', r, k _ _ q'⟩⟩
theorem PG.of {e : Expr} {t t' : TG} (h : PG X e t) (k : ∀ v σ H Q, t' v σ H Q → t v σ H Q) : PG X e t' := ⟨fun pins s σ H v u Q I r q => h.run pins s σ H v u Q I r (k _ _ _ _ q)⟩
theorem PI.of {tg e : Expr} {t t' : TI} (h : PI X tg e t) (k : ∀ σ H R, t' σ H R → t σ H R) : PI X tg e t' := ⟨fun pins s σ H R I q => h.run pins s σ H R I (k _ _ _ q)⟩
def gTupS (n : Nat) (t : TGs) : TG := fun v σ H Q => ∃ a xs, v = .ref a ∧ H a = some (.tup xs) ∧ xs.length = n ∧ t xs σ H Q
theorem pg_tupS {k : Nat} {t : TGs} {n : Nat} (hc : X.calm = true) (h : PGs X es t) (hn : (assignEach es X.env).length = n := by rfl) (hst : (assignEach es X.env).findIdx? (·.1) = none := by rfl) : PG X (.Tuple es k pos) (gTupS n t) :=
  PG.of (pg_tup hc h hn hst) fun v σ H Q ⟨a, xs, e, g, l, q⟩ => ⟨a, xs, e, .inl (.inl g), l, q⟩
def gLstS (n : Nat) (t : TGs) : TG := fun v σ H Q => ∃ a xs, v = .ref a ∧ H a = some (.lst xs) ∧ xs.length = n ∧ t xs σ H Q
theorem pg_lstS {k : Nat} {t : TGs} {n : Nat} (hc : X.calm = true) (h : PGs X es t) (hn : (assignEach es X.env).length = n := by rfl) (hst : (assignEach es X.env).findIdx? (·.1) = none := by rfl) : PG X (.Tuple es k pos) (gLstS n t) :=
  PG.of (pg_lst hc h hn hst) fun v σ H Q ⟨a, xs, e, g, l, q⟩ => ⟨a, xs, e, .inl (.inl g), l, q⟩
def iListS (K : PySem.W.Frag) (tl : TE) : TI := fun σ H R => tl σ H fun x H1 => ∃ a xs, x = .ref a ∧ H1 a = some (.lst xs) ∧ R (Itl K a) H1
theorem pi_listS {tg l : Expr} {tl : TE} (hl : PE X l tl) : PI X tg l (iListS X.K tl) := PI.of (pi_list (pe_mono hl)) fun σ H R q => ⟨_, q, fun _ _ ⟨a, xs, e, g, r⟩ => ⟨a, e, ⟨xs, .inl (.inl g)⟩, r⟩⟩
def iTupS (K : PySem.W.Frag) (tl : TE) : TI := fun σ H R => tl σ H fun x H1 => ∃ a xs, x = .ref a ∧ H1 a = some (.tup xs) ∧ R (Itt K a) H1
theorem pi_tupS {tg l : Expr} {tl : TE} (hl : PE X l tl) : PI X tg l (iTupS X.K tl) := PI.of (pi_tup (pe_mono hl)) fun σ H R q => ⟨_, q, fun _ _ ⟨a, xs, e, g, r⟩ => ⟨a, e, ⟨xs, .inl (.inl g)⟩, r⟩⟩
def tML (r : V → List V → Hp → VK → Prop) (to : TE) (t : TA) : TE := fun σ H Q => to σ H fun x H1 => ∃ p xs, x = .ref p ∧ H1 p = some (.lst xs) ∧ t σ H1 fun ys H2 => r x ys H2 Q
theorem pe_ml {to : TE} {t : TA} {e : PySem.Expr} {K : PySem.W.Frag} {r : V → List V → Hp → VK → Prop} (h : PE X e (tBM K "list" r (fun σ H Q => ∃ Q', to σ H Q' ∧ ∀ v H1, Q' v H1 → Q v H1) t)) : PE X e (tML r to t) :=
  PE.of h fun σ H Q q => ⟨_, q, fun v H1 ⟨p, xs, e, g, z⟩ => ⟨by rw [e]; exact .inl ⟨rfl, xs, .inl (.inl g)⟩, z⟩⟩
def tML0 (r : V → List V → Hp → VK → Prop) (to : TE) : TE := fun σ H Q => to σ H fun x H1 => ∃ p xs, x = .ref p ∧ H1 p = some (.lst xs) ∧ r x [] H1 Q
theorem pe_ml0 {to : TE} {e : PySem.Expr} {K : PySem.W.Frag} {r : V → List V → Hp → VK → Prop} (h : PE X e (tBM0 K "list" r (fun σ H Q => ∃ Q', to σ H Q' ∧ ∀ v H1, Q' v H1 → Q v H1))) : PE X e (tML0 r to) :=
  PE.of h fun σ H Q q => ⟨_, q, fun v H1 ⟨p, xs, e, g, z⟩ => ⟨by rw [e]; exact .inl ⟨rfl, xs, .inl (.inl g)⟩, z⟩⟩
end
/-- loops and comprehensions over any walk -/
theorem lpW {J : It} {n : Nat} {G : Hp → Prop} {Y : Nat → Hp → V → Hp → Prop} (w : Walk J n G Y) {g : TG} {tb : TS} {D : Ends} {σ : L2.St} {H : Hp} (Pv : Nat → L2.St → Hp → Prop) (h0 : Pv 0 σ H) (hG : ∀ i σ H, i ≤ n → Pv i σ H → G H)
    (hs : ∀ i x σ H H', i < n → Pv i σ H → Y i H x H' → g x σ H' fun σ2 H2 => tb { D with nx := Pv (i + 1), ct := Pv (i + 1), bk := D.nx } σ2 H2) (hd : ∀ σ H, Pv n σ H → D.nx σ H) : Loop J g tb D σ H := for_it w Pv h0 hG hs hd
theorem lcW {J : It} {n : Nat} {G : Hp → Prop} {Y : Nat → Hp → V → Hp → Prop} (w : Walk J n G Y) {g : TG} {tt : TT} {te : TE} {vs : List Nat} {σ : L2.St} {H1 : Hp} {Q : VK} (Pv : Addr → Nat → Hp → Prop) (h0 : ∀ D H, Same H1 H → H1 D = none → H D = some (.lst []) → Pv D 0 H)
    (hG : ∀ D i H, H1 D = none → i ≤ n → Pv D i H → G H) (hs : ∀ D i x H H', i < n → H1 D = none → Pv D i H → Y i H x H' → g x (wipe σ vs) H' fun σ2 H2 => wipe σ2 vs = wipe σ vs ∧ tt σ2 H2 fun b H3 =>
      if b = true then te σ2 H3 fun y H4 => ∃ acc, H4 D = some (.lst acc) ∧ acc.length < sizeLine ∧ Pv D (i + 1) (upd H4 D (.lst (acc ++ [y]))) else Pv D (i + 1) H3)
    (hd : ∀ D H, H1 D = none → Pv D n H → Q (.ref D) H) : LcLoop J g tt te vs σ H1 Q :=
  fun D hD => lc_it w (Pv D) (h0 D _ (same_upd hD) hD upd_same) (fun i H hi p => hG D i H hD hi p) (fun i x H H' hi p y => hs D i x H H' hi hD p y) fun H p => hd D H hD p
theorem lcL {J : It} {n : Nat} {G : Hp → Prop} {Y : Nat → Hp → V → Hp → Prop} (w : Walk J n G Y) {g : TG} {tt : TT} {te : TE} {vs : List Nat} {σ : L2.St} {H1 : Hp} {Q : VK} (L : Nat → List V) (hz : L 0 = []) (hG : ∀ H, Same H1 H → G H)
    (hs : ∀ D i x H H', i < n → H1 D = none → Same H1 H → H D = some (.lst (L i)) → Y i H x H' → g x (wipe σ vs) H' fun σ2 H2 => wipe σ2 vs = wipe σ vs ∧ tt σ2 H2 fun b H3 =>
      if b = true then te σ2 H3 fun y H4 => ∃ acc, H4 D = some (.lst acc) ∧ acc.length < sizeLine ∧ Same H1 (upd H4 D (.lst (acc ++ [y]))) ∧ upd H4 D (.lst (acc ++ [y])) D = some (.lst (L (i + 1))) else Same H1 H3 ∧ H3 D = some (.lst (L (i + 1))))
    (hd : ∀ D H, Same H1 H → H1 D = none → H D = some (.lst (L n)) → Q (.ref D) H) : LcLoop J g tt te vs σ H1 Q :=
  lcW w (fun D i H => Same H1 H ∧ H D = some (.lst (L i))) (fun D H s _ g => ⟨s, by rw [g, hz]⟩) (fun _ _ H _ _ p => hG H p.1) (fun D i x H H' hi hD p y => hs D i x H H' hi hD p.1 p.2 y) fun D H hD p => hd D H p.1 hD p.2
theorem walkR {n : Nat} : Walk (Itr 0 n) n (fun _ => True) (YFn fun i => .int (i : Int)) := walk_range.mono (fun _ h => h) fun i H x H' _ _ y => ⟨y.1, by rw [y.2]; show V.int (0 + (i : Int)) = V.int (i : Int); rw [Int.zero_add]⟩
theorem walkL {K : PySem.W.Frag} {a : Addr} {xs : List V} : Walk (Itl K a) xs.length (fun H => H a = some (.lst xs)) (YAt xs) := (walk_list (K := K) (a := a) (xs := xs)).mono (fun _ h => .inl (.inl h)) fun _ _ _ _ _ _ y => y
theorem walkT {K : PySem.W.Frag} {a : Addr} {xs : List V} : Walk (Itt K a) xs.length (fun H => H a = some (.tup xs)) (YAt xs) := (walk_tup (K := K) (a := a) (xs := xs)).mono (fun _ h => .inl (.inl h)) fun _ _ _ _ _ _ y => y
/-- a list of ints is walked -/
def YInt (ns : List Int) : Nat → Hp → V → Hp → Prop := fun i H v H' => H' = H ∧ ∃ b, ns[i]? = some b ∧ v = .int b
theorem walkI {K : PySem.W.Frag} {a : Addr} {ns : List Int} : Walk (Itl K a) ns.length (fun H => H a = some (.lst (List.map V.int ns))) (YInt ns) := by
  have w := walkL (K := K) (a := a) (xs := List.map V.int ns)
  rw [List.length_map] at w
  refine w.mono (fun _ h => h) fun i H x H' _ _ y => ⟨y.1, ?_⟩
  have h := y.2
  rw [List.getElem?_map] at h
  obtain ⟨b, h1, rfl⟩ := Option.map_eq_some_iff.mp h
  exact ⟨b, h1, rfl⟩
theorem sqL_eq {K : PySem.W.Frag} {H : Hp} {a : Addr} {xs : List V} (h : H a = some (.lst xs)) : (∃ xs, SqL K H a xs) = True := eq_true ⟨_, .inl (.inl h)⟩
theorem sqT_eq {K : PySem.W.Frag} {H : Hp} {a : Addr} {xs : List V} (h : H a = some (.tup xs)) : (∃ xs, SqT K H a xs) = True := eq_true ⟨_, .inl (.inl h)⟩
theorem tyL_eq {K : PySem.W.Frag} {H : Hp} {p : Addr} {xs : List V} (h : H p = some (.lst xs)) : tyV K "list" (.ref p) H = True := eq_true (.inl ⟨rfl, xs, .inl (.inl h)⟩)
theorem Same.c2 {H H' : Hp} {a b : Addr} {x y : HO} (s : Same H H') (ga : H a = some x) (gb : H b = some y) : H' a = some x ∧ H' b = some y := ⟨s _ _ ga, s _ _ gb⟩
theorem map_int_inj {xs ys : List Int} : (List.map V.int xs = List.map V.int ys) = (xs = ys) := by
  refine propext ⟨fun h => ?_, fun h => by rw [h]⟩
  induction xs generalizing ys with
  | nil => cases ys with
    | nil => rfl
    | cons y q => cases h
  | cons x r ih => cases ys with
    | nil => cases h
    | cons y q =>
      rw [List.map_cons, List.map_cons, List.cons.injEq, V.int.injEq] at h
      rw [h.1, ih h.2]
theorem sz1 : (1 ≤ sizeLine) = True := eq_true (by decide)
theorem sz2 : (2 ≤ sizeLine) = True := eq_true (by decide)
theorem sz3 : (3 ≤ sizeLine) = True := eq_true (by decide)
theorem sz4 : (4 ≤ sizeLine) = True := eq_true (by decide)
theorem sz5 : (5 ≤ sizeLine) = True := eq_true (by decide)
theorem sz6 : (6 ≤ sizeLine) = True := eq_true (by decide)
theorem sz8 : (8 ≤ sizeLine) = True := eq_true (by decide)
/-- an item of a list of ints -/
def gN (ns : List Int) (i : Nat) : Int := ns.getD i 0
theorem at_g {ns : List Int} {i : Nat} (h : i < ns.length) : atI (ns.map V.int) (i : Int) = some (V.int (gN ns i)) := by
  refine atI_nat ?_
  rw [List.getElem?_map, List.getElem?_eq_getElem h]
  simp [gN, h]
theorem at_g' {ns : List Int} {k : Int} {i : Nat} (e : k = (i : Int)) (h : i < ns.length) : atI (ns.map V.int) k = some (V.int (gN ns i)) := by
  rw [e]
  exact at_g h
theorem iteT' {c : Bool} {a b : Prop} (h : c = true) (x : a) : if c = true then a else b := by rw [if_pos h]; exact x
theorem iteF' {c : Bool} {a b : Prop} (h : c = false) (x : b) : if c = true then a else b := by rw [if_neg (by rw [h]; decide)]; exact x
theorem iteB {c : Bool} {p : Prop} [Decidable p] {a b : Prop} (h : c = decide p) (x : p → a) (y : ¬ p → b) : if c = true then a else b := by
  subst h
  exact ite2 (fun e => x (of_decide_eq_true e)) fun e => y fun z => e (decide_eq_true z)
theorem iteD {p : Prop} [Decidable p] {a b : Prop} (x : p → a) (y : ¬ p → b) : if decide p = true then a else b := iteB rfl x y
def mx (x y : Int) : Int := if x < y then y else x
def mn (x y : Int) : Int := if y < x then y else x
theorem mx_eq (x y : Int) : (if x < y then y else x) = mx x y := rfl
theorem mn_eq (x y : Int) : (if y < x then y else x) = mn x y := rfl
theorem mx_le {x y z : Int} : mx x y ≤ z ↔ x ≤ z ∧ y ≤ z := by
  unfold mx
  split <;> omega
theorem lt_mn {x y z : Int} : z < mn x y ↔ z < x ∧ z < y := by
  unfold mn
  split <;> omega
theorem toNat_mul (m n : Nat) : ((m : Int) * (n : Int)).toNat = m * n := by rw [← Int.natCast_mul, Int.toNat_natCast]
theorem atI_lit {xs : List V} {k : Int} (h0 : 0 ≤ k) (h1 : k < xs.length) : ∃ v, atI xs k = some v ∧ v ∈ xs := by
  have h : k.toNat < xs.length := by omega
  refine ⟨xs[k.toNat], ?_, List.getElem_mem h⟩
  unfold atI
  rw [ixN_in h0 h1]
  exact List.getElem?_eq_getElem h
theorem atI_lits {xs : List Int} {k : Int} (h0 : 0 ≤ k) (h1 : k < xs.length) : ∃ v, atI (List.map V.int xs) k = some (.int v) ∧ v ∈ xs := by
  obtain ⟨v, h, hm⟩ := atI_lit (xs := List.map V.int xs) h0 (by rw [List.length_map]; exact h1)
  obtain ⟨i, hi, rfl⟩ := List.mem_map.mp hm
  exact ⟨i, h, hi⟩
theorem natOf {x : Int} (h : 0 ≤ x) : ∃ n : Nat, x = (n : Int) := ⟨x.toNat, by omega⟩
theorem map_cat (xs ys : List Int) : List.map V.int xs ++ List.map V.int ys = List.map V.int (xs ++ ys) := by rw [List.map_append]
theorem map_snoc (xs : List Int) (v : Int) : List.map V.int xs ++ [V.int v] = List.map V.int (xs ++ [v]) := by rw [List.map_append]; rfl
theorem map_setV (l : List Int) (i : Nat) (v : Int) : (List.map V.int l).set i (.int v) = List.map V.int (l.set i v) := by rw [List.map_set]
/-- all but one object stand as they stood -/
def But (a : Addr) (H H' : Hp) : Prop := ∀ b o, b ≠ a → H b = some o → H' b = some o
theorem But.refl (a : Addr) (H : Hp) : But a H H := fun _ _ _ h => h
theorem But.ofSame {a : Addr} {H H' : Hp} (s : Same H H') : But a H H' := fun b o _ h => s b o h
theorem But.trans {a : Addr} {H H1 H2 : Hp} (x : But a H H1) (y : But a H1 H2) : But a H H2 := fun b o n h => y b o n (x b o n h)
theorem But.put {a : Addr} {H H' : Hp} {o : HO} (x : But a H H') : But a H (upd H' a o) := fun b o' n h => by rw [upd_ne n]; exact x b o' n h
theorem But.same {a : Addr} {H H1 H' : Hp} (s : Same H H1) (x : But a H1 H') (h : H a = none) : Same H H' := fun b o e => x b o (ne_of_none e h) (s b o e)
/-- the cell k of the script -/
def cellA (ns : List Int) (k : Nat) : Int := ns.getD k 0
def absI (c : Int) : Int := if c < 0 then -c else c
theorem absI_eq (c : Int) : (if c < 0 then -c else c) = absI c := rfl
theorem absI_nn (c : Int) : 0 ≤ absI c := by
  unfold absI
  split <;> omega
section
variable {X : Cx}
/-- xs[i] op= e reads the item first -/
def rGetL : V → V → Hp → VK → Prop := fun x y H Q => ∃ p xs i v, x = .ref p ∧ y = .int i ∧ H p = some (.lst xs) ∧ 0 ≤ i ∧ i < 2 ^ 62 ∧ xs[i.toNat]? = some v ∧ Q v H
theorem pget_list : PGet X rGetL := by
  intro pins s σ H x y v u Q I rx ry h
  obtain ⟨p, xs, i, z, rfl, rfl, hp, h0, h1, he, q⟩ := h
  cases rx
  obtain ⟨t, rfl⟩ := ry
  obtain ⟨its, r, pl, _⟩ := I.list (.inl (.inl hp))
  obtain ⟨w, ew, rw'⟩ := r.get he
  exact getItem_listL pl.isList h0 (by omega) ew ⟨z, H, I, rw', q⟩
def iZipS (K : PySem.W.Frag) (ta : TA) : TI := fun σ H R => ta σ H fun vs H1 => ∃ a b xs ys, vs = [.ref a, .ref b] ∧ H1 a = some (.lst xs) ∧ H1 b = some (.lst ys) ∧ R (Itz K a b) H1
theorem pi_zipS {e e2 : Expr} {ta : TA} {p pos tpos : Pos} {elts : List Expr} {kk : Nat} (hg : Gl X "zip") (hm : X.mg "zip" = none) (ha : PA X [e, e2] ta) (hs : starEach [e, e2] X.env = (false, eval e X.env) :: starEach [e2] X.env := by rfl) (hpl : (backTo pos (starEach [e2] X.env)).any (·.1) = false := by rfl) :
    PI X (.Tuple elts kk tpos) (.Call (.Name "zip" p) [e, e2] [] pos) (iZipS X.K ta) := PI.of (pi_zip hg hm (pa_mono ha) hs hpl) fun σ H R q => ⟨_, q, fun vs H1 ⟨a, b, xs, ys, e, g1, g2, r⟩ => ⟨a, b, xs, ys, e, .inl (.inl g1), .inl (.inl g2), r⟩⟩
end
theorem walkZ {K : PySem.W.Frag} {a b : Addr} {xs ys : List V} {n : Nat} (hn : n = min xs.length ys.length) : Walk (Itz K a b) n (fun H => H a = some (.lst xs) ∧ H b = some (.lst ys)) (YPair (fun i => xs[i]?) (fun i => ys[i]?)) :=
  (walk_zip (K := K) (a := a) (b := b) hn).mono (fun _ h => ⟨.inl (.inl h.1), .inl (.inl h.2)⟩) fun _ _ _ _ _ _ y => y
theorem cutV_take {xs : List V} {n : Nat} : cutV xs none (some (n : Int)) = xs.take n := by
  unfold cutV
  rw [HT.sIx_nat, HT.sIx_none, List.drop_zero]
  by_cases h : n ≤ xs.length
  · rw [Nat.min_eq_left h, Nat.sub_zero]
  · rw [Nat.min_eq_right (by omega), Nat.sub_zero, List.take_of_length_le (Nat.le_refl _), List.take_of_length_le (by omega)]
theorem cutV_drop {xs : List V} {n : Nat} : cutV xs (some (n : Int)) none = xs.drop n := by
  unfold cutV
  rw [HT.sIx_nat, HT.sIx_none]
  by_cases h : n ≤ xs.length
  · rw [Nat.min_eq_left h, List.take_of_length_le (by rw [List.length_drop]; exact Nat.le_refl _)]
  · rw [Nat.min_eq_right (by omega), List.drop_of_length_le (Nat.le_refl _), List.drop_of_length_le (by omega), List.take_nil]
theorem cutI_take {xs : List Int} {n : Nat} : cutV (List.map V.int xs) none (some (n : Int)) = List.map V.int (xs.take n) := by rw [cutV_take, List.map_take]
theorem cutI_drop {xs : List Int} {n : Nat} : cutV (List.map V.int xs) (some (n : Int)) none = List.map V.int (xs.drop n) := by rw [cutV_drop, List.map_drop]
/-- two lists item by item -/
inductive All2 {α β : Type} (R : α → β → Prop) : List α → List β → Prop
  | nil : All2 R [] []
  | cons {x : α} {y : β} {xs : List α} {ys : List β} : R x y → All2 R xs ys → All2 R (x :: xs) (y :: ys)
section
variable {α β : Type} {R S : α → β → Prop}
theorem All2.len {xs : List α} {ys : List β} (h : All2 R xs ys) : xs.length = ys.length := by
  induction h with
  | nil => rfl
  | cons _ _ ih => rw [List.length_cons, List.length_cons, ih]
theorem All2.mono {xs : List α} {ys : List β} (h : All2 R xs ys) (k : ∀ x y, R x y → S x y) : All2 S xs ys := by
  induction h with
  | nil => exact .nil
  | cons r _ ih => exact .cons (k _ _ r) ih
theorem All2.app {xs xs' : List α} {ys ys' : List β} (h : All2 R xs ys) (k : All2 R xs' ys') : All2 R (xs ++ xs') (ys ++ ys') := by
  induction h with
  | nil => exact k
  | cons r _ ih => exact .cons r ih
theorem All2.snoc {xs : List α} {ys : List β} {x : α} {y : β} (h : All2 R xs ys) (r : R x y) : All2 R (xs ++ [x]) (ys ++ [y]) := h.app (.cons r .nil)
theorem All2.at {xs : List α} {ys : List β} (h : All2 R xs ys) {i : Nat} {x : α} (e : xs[i]? = some x) : ∃ y, ys[i]? = some y ∧ R x y := by
  induction h generalizing i with
  | nil => simp at e
  | cons r _ ih =>
    cases i with
    | zero => exact ⟨_, rfl, by simpa using (Option.some.inj e) ▸ r⟩
    | succ i => exact ih e
theorem All2.at' {xs : List α} {ys : List β} (h : All2 R xs ys) {i : Nat} {y : β} (e : ys[i]? = some y) : ∃ x, xs[i]? = some x ∧ R x y := by
  induction h generalizing i with
  | nil => simp at e
  | cons r _ ih =>
    cases i with
    | zero => exact ⟨_, rfl, by simpa using (Option.some.inj e) ▸ r⟩
    | succ i => exact ih e
theorem All2.take {xs : List α} {ys : List β} (h : All2 R xs ys) (n : Nat) : All2 R (xs.take n) (ys.take n) := by
  induction h generalizing n with
  | nil => rw [List.take_nil, List.take_nil]; exact .nil
  | cons r _ ih =>
    cases n with
    | zero => exact .nil
    | succ n => exact .cons r (ih n)
theorem All2.drop {xs : List α} {ys : List β} (h : All2 R xs ys) (n : Nat) : All2 R (xs.drop n) (ys.drop n) := by
  induction h generalizing n with
  | nil => rw [List.drop_nil, List.drop_nil]; exact .nil
  | cons r t ih =>
    cases n with
    | zero => exact .cons r t
    | succ n => exact ih n
end
theorem tup_upd {H : Hp} {a l : Addr} {xs ys : List V} {o : HO} (h : H a = some (.tup xs)) (g : H l = some (.lst ys)) : upd H l o a = some (.tup xs) := by
  rw [upd_ne (ne_of h g (by intro z; cases z))]
  exact h
theorem tup_but {H H' : Hp} {a l : Addr} {xs ys : List V} (bt : But l H H') (h : H a = some (.tup xs)) (g : H l = some (.lst ys)) : H' a = some (.tup xs) := bt _ _ (ne_of h g (by intro z; cases z)) h
theorem cutV_take1 {xs : List V} : cutV xs none (some 1) = xs.take 1 := cutV_take (n := 1)
theorem cutV_drop1 {xs : List V} : cutV xs (some 1) none = xs.drop 1 := cutV_drop (n := 1)
section
variable {X : Cx}
/-- the script: its length, an item -/
def rLenSc (K : PySem.W.Frag) (a : Addr) (ns : List Int) : List V → Hp → VK → Prop := fun vs H Q => vs = [.ref a] ∧ SqL K H a (List.map V.int ns) ∧ Q (.int ns.length) H
theorem call_lenSc (a : Addr) (ns : List Int) : CallR X (.builtin "len") (rLenSc X.K a ns) := CallR.of call_len_seq fun vs H Q ⟨e, h, q⟩ => ⟨a, List.map V.int ns, e, .inl h, by rw [List.length_map]; exact q⟩
def rIxSc (K : PySem.W.Frag) (a : Addr) (ns : List Int) : R2 := fun x y H Q => ∃ i, x = .ref a ∧ y = .int i ∧ SqL K H a (List.map V.int ns) ∧ 0 ≤ i ∧ i < ns.length ∧ Q (.int (gN ns i.toNat)) H
theorem ix_sc (a : Addr) (ns : List Int) : IxR X (rIxSc X.K a ns) := IxR.of ix_list fun x y H Q ⟨i, e1, e2, h, h0, h1, q⟩ => ⟨a, List.map V.int ns, i, _, e1, e2, h, at_g' (Int.toNat_of_nonneg h0).symm (by omega), q⟩
end
section
variable {X : Cx}
def rSumS : List V → Hp → VK → Prop := fun vs H Q => ∃ a ns, vs = [.ref a] ∧ H a = some (.lst (List.map V.int ns)) ∧ Q (.int ns.sum) H
theorem cr_sumS (hc : X.calm = true) : CallR X (.builtin "sum") rSumS := CallR.of (cr_sum hc) fun vs H Q ⟨a, ns, e, g, q⟩ => ⟨a, ns, e, .inl (.inl g), q⟩
end
section
variable {X : Cx}
/-- t[lo:hi]: t itself or a new tuple, in either case one of these items -/
def rSlTS : V → Option Int → Option Int → Hp → VK → Prop := fun x lo hi H Q => ∃ a xs, x = .ref a ∧ H a = some (.tup xs) ∧ ∀ p H', Same H H' → (p = a ∨ H p = none) → H' p = some (.tup (cutV xs lo hi)) → Q (.ref p) H'
theorem sl_tupS : SlR X rSlTS := SlR.of sl_tupA fun x lo hi H Q ⟨a, xs, e, g, q⟩ => ⟨a, xs, e, .inl (.inl g), fun z => q a H (Same.refl _) (.inl rfl) (by
    unfold cutV
    rw [z.1, z.2, List.drop_zero, Nat.sub_zero, List.take_length]
    exact g), fun _ p hp => q p _ (same_upd hp) (.inr hp) upd_same⟩
end
theorem cutV_take3 {xs : List V} : cutV xs none (some 3) = xs.take 3 := cutV_take (n := 3)
section
variable {X : Cx}
theorem PT.of {e : Expr} {t t' : TT} (h : PT X e t) (k : ∀ σ H Q, t' σ H Q → t σ H Q) : PT X e t' := ⟨fun pins s σ H Q I q => h.run pins s σ H Q I (k _ _ _ q)⟩
/-- a list's truth -/
def tTrL (ta : TE) : TT := fun σ H Q => ta σ H fun x H1 => ∃ p xs, x = .ref p ∧ H1 p = some (.lst xs) ∧ Q (decide (0 < xs.length)) H1
theorem pt_truthL {a : Expr} {ta : TE} (ha : PE X a ta) (he : ∀ whole, isTrue a X.env whole = (do let v ← whole; standAt a.pos; holding [v] (truthy v))) : PT X a (tTrL ta) :=
  PT.of (pt_truth (pe_mono ha) he) fun σ H Q q => ⟨_, q, fun x H1 ⟨p, xs, e, g, z⟩ => ⟨decide (0 < xs.length), by rw [e]; exact .inl ⟨xs, .inl (.inl g), by cases xs <;> simp⟩, z⟩⟩
def iEnumL (K : PySem.W.Frag) (ta : TA) : TI := fun σ H R => ta σ H fun vs H1 => ∃ a xs, vs = [.ref a] ∧ H1 a = some (.lst xs) ∧ R (Ite K a) H1
theorem pi_enumL {e : Expr} {ta : TA} {p pos tpos : Pos} {elts : List Expr} {kk : Nat} (hg : Gl X "enumerate") (hm : X.mg "enumerate" = none) (ha : PA X [e] ta) (hs : starEach [e] X.env = [(false, eval e X.env)] := by rfl) :
    PI X (.Tuple elts kk tpos) (.Call (.Name "enumerate" p) [e] [] pos) (iEnumL X.K ta) := PI.of (pi_enum hg hm (pa_mono ha) hs) fun σ H R q => ⟨_, q, fun vs H1 ⟨a, xs, e, g, r⟩ => ⟨a, xs, e, .inl (.inl g), r⟩⟩
end
theorem walkE {K : PySem.W.Frag} {a : Addr} {xs : List V} : Walk (Ite K a) xs.length (fun H => H a = some (.lst xs)) (YPair (fun i => some (.int (i : Nat))) (fun i => xs[i]?)) := (walk_enum (K := K) (a := a) (xs := xs)).mono (fun _ h => .inl (.inl h)) fun _ _ _ _ _ _ y => y
theorem seq_cut {s1 R : TS} {D : Ends} {σ : L2.St} {H : Hp} (I : L2.St → Hp → Prop) (h2 : ∀ σ H, I σ H → R D σ H) (h1 : ∀ C : L2.St → Hp → Prop, (∀ σ H, I σ H → C σ H) → s1 { D with nx := C } σ H) : tSeq s1 R D σ H := h1 _ h2
section
variable {X : Cx}
theorem inV_int (i : Int) : ∀ ns : List Int, inV (.int i) (List.map V.int ns) = decide (i ∈ ns)
  | [] => by simp [inV]
  | n :: r => by
    have ih := inV_int i r
    unfold inV at ih ⊢
    rw [List.map_cons, List.any_cons, ih]
    by_cases h : n = i
    · subst h; simp [eqV]
    · simp [eqV, h, Ne.symm h]
theorem flat_ints : ∀ ns : List Int, (List.map V.int ns).all flatV = true
  | [] => rfl
  | _ :: r => by rw [List.map_cons, List.all_cons, flat_ints r]; rfl
/-- an int in a list of ints -/
def rInI : R2 := fun x y H Q => ∃ i p ns, x = .int i ∧ y = .ref p ∧ H p = some (.lst (List.map V.int ns)) ∧ Q (.bl (decide (i ∈ ns))) H
theorem op_inI : OpR X (compareOp .In) rInI := OpR.of op_in_seq fun x y H Q ⟨i, p, ns, e1, e2, g, q⟩ => ⟨p, List.map V.int ns, e2, .inl (.inl (.inl g)), by rw [e1]; rfl, flat_ints ns, by rw [e1, inV_int]; exact q⟩
/-- xs.index(i): the first place -/
def rIndexI : V → List V → Hp → VK → Prop := fun x xs H Q => ∃ p ns i j, x = .ref p ∧ xs = [.int i] ∧ H p = some (.lst (List.map V.int ns)) ∧ ns[j]? = some i ∧ (∀ m, m < j → ns[m]? ≠ some i) ∧ Q (.int ((j : Nat) : Int)) H
theorem MtR.of {id : String} {r r' : V → List V → Hp → VK → Prop} (h : MtR X id r) (k : ∀ x xs H Q, r' x xs H Q → r x xs H Q) : MtR X id r' := fun pins s σ H x xs v us Q I rx rv q => h pins s σ H x xs v us Q I rx rv (k _ _ _ _ q)
theorem mt_indexI : MtR X "list.index" rIndexI := MtR.of mt_index fun x xs H Q ⟨p, ns, i, j, e1, e2, g, hj, hm, q⟩ =>
  ⟨p, List.map V.int ns, .int i, j, .int i, e1, e2, .inl (.inl g), rfl, flat_ints ns, by rw [List.getElem?_map, hj]; rfl, by simp [eqV], fun m z hmj hz => by
    rw [List.getElem?_map] at hz
    obtain ⟨b, h1, rfl⟩ := Option.map_eq_some_iff.mp hz
    have : b ≠ i := fun e => hm m hmj (e ▸ h1)
    simp [eqV, this], q⟩
end
def sl (ns : List Int) (i j : Nat) : List Int := (ns.drop i).take (j - i)
theorem cut_sl {ns : List Int} {i j : Nat} : cutV (List.map V.int ns) (some (i : Int)) (some (j : Int)) = List.map V.int (sl ns i j) := by
  unfold cutV sl
  rw [HT.sIx_nat, HT.sIx_nat, List.length_map, ← List.map_drop, ← List.map_take]
  congr 1
  by_cases h : i < ns.length
  · rw [Nat.min_eq_left (Nat.le_of_lt h)]
    by_cases h2 : j ≤ ns.length
    · rw [Nat.min_eq_left h2]
    · rw [Nat.min_eq_right (by omega), List.take_of_length_le (by rw [List.length_drop]; exact Nat.le_refl _), List.take_of_length_le (by rw [List.length_drop]; omega)]
  · rw [List.drop_eq_nil_of_le (by omega), List.drop_eq_nil_of_le (by omega), List.take_nil, List.take_nil]
theorem sl_len (ns : List Int) (i j : Nat) : (sl ns i j).length = min (j - i) (ns.length - i) := by
  unfold sl
  rw [List.length_take, List.length_drop]
/-- a dict comprehension -/
def DcLoop (J : It) (g : TG) (tt : TT) (tk tv : TE) (vs : List Nat) (σ : L2.St) (H1 : Hp) (Q : VK) : Prop := ∀ D, H1 D = none → ∃ W : Nat → Nat → Hp → Prop, (∃ m, W 0 m (upd H1 D (.dK []))) ∧ ∀ i m H, W i m H →
  (J.stop i H ∧ Q (.ref D) H) ∨ (J.go i H ∧ ∃ Nx : Hp → Prop, (∀ H', Nx H' → ∃ m', m' < m ∧ W (i + 1) m' H') ∧ ∀ x H', J.yld i H x H' → g x (wipe σ vs) H' fun σ2 H2 => wipe σ2 vs = wipe σ vs ∧ tt σ2 H2 fun b H3 =>
    if b = true then tk σ2 H3 fun y H4 => tv σ2 H4 fun z H5 => ∃ kvs k, y = kV k ∧ H5 D = some (.dK kvs) ∧ kvs.length < sizeLine ∧ Nx (upd H5 D (.dK (putK kvs k z))) else Nx H3)
theorem tDc_eq {wi : TI} {g : TG} {tt : TT} {tk tv : TE} {vs : List Nat} {σ : L2.St} {H : Hp} {Q : VK} : tDc wi g tt tk tv vs σ H Q = wi σ H fun J H1 => DcLoop J g tt tk tv vs σ H1 Q := rfl
theorem dcW {J : It} {n : Nat} {G : Hp → Prop} {Y : Nat → Hp → V → Hp → Prop} (w : Walk J n G Y) {g : TG} {tt : TT} {tk tv : TE} {vs : List Nat} {σ : L2.St} {H1 : Hp} {Q : VK} (Pv : Addr → Nat → Hp → Prop) (h0 : ∀ D H, Same H1 H → H1 D = none → H D = some (.dK []) → Pv D 0 H)
    (hG : ∀ D i H, H1 D = none → i ≤ n → Pv D i H → G H) (hs : ∀ D i x H H', i < n → H1 D = none → Pv D i H → Y i H x H' → g x (wipe σ vs) H' fun σ2 H2 => wipe σ2 vs = wipe σ vs ∧ tt σ2 H2 fun b H3 =>
      if b = true then tk σ2 H3 fun y H4 => tv σ2 H4 fun z H5 => ∃ kvs k, y = kV k ∧ H5 D = some (.dK kvs) ∧ kvs.length < sizeLine ∧ Pv D (i + 1) (upd H5 D (.dK (putK kvs k z))) else Pv D (i + 1) H3)
    (hd : ∀ D H, H1 D = none → Pv D n H → Q (.ref D) H) : DcLoop J g tt tk tv vs σ H1 Q := by
  intro D hD
  refine ⟨fun i m H => m = n - i ∧ i ≤ n ∧ Pv D i H, ⟨n, by simp, Nat.zero_le _, h0 D _ (same_upd hD) hD upd_same⟩, ?_⟩
  rintro i m H ⟨rfl, hi, p⟩
  have q := hG D i H hD hi p
  by_cases hlt : i < n
  · exact .inr ⟨w.goes i H hlt q, Pv D (i + 1), fun H' p' => ⟨n - (i + 1), by omega, rfl, hlt, p'⟩, fun x H' y => hs D i x H H' hlt hD p (w.yields i H x H' hlt q y)⟩
  · have e : i = n := by omega
    subst e
    exact .inl ⟨w.stops H q, hd D H hD p⟩

/-! ### data at any depth: what stands there, and == of it -/
structure Cod {α : Type} [DecidableEq α] (R : Hp → V → α → Prop) (f : α → PyData) (d : Nat) : Prop where
  dp : ∀ (K : PySem.W.Frag) H v a, R H v a → Dp K H v (f a)
  eq : ∀ a b, PyData.eqv (f a) (f b) = decide (a = b)
  lay : ∀ a, PyData.canLay0 (f a) = true
  dep : ∀ a, PyData.depth (f a) ≤ d
def IntV (_ : Hp) (v : V) (i : Int) : Prop := v = .int i
def LstV {α : Type} (R : Hp → V → α → Prop) (H : Hp) (v : V) (l : List α) : Prop := ∃ a vs, v = .ref a ∧ H a = some (.lst vs) ∧ All2 (R H) vs l
def TupV {α : Type} (R : Hp → V → α → Prop) (H : Hp) (v : V) (l : List α) : Prop := ∃ a vs, v = .ref a ∧ H a = some (.tup vs) ∧ All2 (R H) vs l
def Pr2V {α β : Type} (R : Hp → V → α → Prop) (S : Hp → V → β → Prop) (H : Hp) (v : V) (p : α × β) : Prop := ∃ a x y, v = .ref a ∧ H a = some (.tup [x, y]) ∧ R H x p.1 ∧ S H y p.2
def Pr3V {α β γ : Type} (R : Hp → V → α → Prop) (S : Hp → V → β → Prop) (T : Hp → V → γ → Prop) (H : Hp) (v : V) (p : α × β × γ) : Prop := ∃ a x y z, v = .ref a ∧ H a = some (.tup [x, y, z]) ∧ R H x p.1 ∧ S H y p.2.1 ∧ T H z p.2.2
theorem cod_int : Cod IntV PyData.int 0 := ⟨fun K H v a h => by rw [show v = .int a from h]; exact .int a, eqv_ii, fun _ => rfl, fun _ => Nat.le_refl _⟩
section
variable {α β γ : Type} [DecidableEq α] [DecidableEq β] [DecidableEq γ] {R : Hp → V → α → Prop} {S : Hp → V → β → Prop} {T : Hp → V → γ → Prop} {f : α → PyData} {g : β → PyData} {h : γ → PyData} {d e k : Nat}
theorem Cod.all (c : Cod R f d) {K : PySem.W.Frag} {H : Hp} {vs : List V} {l : List α} (a : All2 (R H) vs l) : DpAll K H vs (l.map f) := by
  induction a with
  | nil => exact .nil
  | cons r _ ih => exact .cons (c.dp _ _ _ _ r) ih
theorem Cod.eqAll (c : Cod R f d) : ∀ l m : List α, PyData.eqvAll (l.map f) (m.map f) = decide (l = m)
  | [], [] => by rw [List.map_nil, eqvAll_nil]; rfl
  | [], y :: s => by rw [List.map_nil, List.map_cons, PyData.eqvAll]; simp
  | x :: r, [] => by rw [List.map_nil, List.map_cons, PyData.eqvAll]; simp
  | x :: r, y :: s => by
    rw [List.map_cons, List.map_cons, eqvAll_cons, c.eq, Cod.eqAll c r s]
    simp only [List.cons.injEq, Bool.decide_and]
theorem Cod.layAll (c : Cod R f d) : ∀ l : List α, PyData.canLayAll0 (l.map f) = true
  | [] => rfl
  | x :: r => by rw [List.map_cons, PyData.canLayAll0, c.lay, Cod.layAll c r]; rfl
theorem Cod.depAll (c : Cod R f d) : ∀ l : List α, PyData.depthAll (l.map f) ≤ d
  | [] => by rw [List.map_nil, PyData.depthAll]; exact Nat.zero_le _
  | x :: r => by rw [List.map_cons, PyData.depthAll]; exact Nat.max_le.mpr ⟨c.dep x, Cod.depAll c r⟩
theorem cod_lst (c : Cod R f d) : Cod (LstV R) (fun l => .list (l.map f)) (d + 1) :=
  ⟨fun K H v l ⟨a, vs, e, ha, hv⟩ => by rw [e]; exact .lst (.inl (.inl ha)) (c.all hv), fun l m => by rw [PyData.eqv, c.eqAll], fun l => by rw [PyData.canLay0, c.layAll], fun l => by rw [PyData.depth]; exact Nat.succ_le_succ (c.depAll l)⟩
theorem cod_tup (c : Cod R f d) : Cod (TupV R) (fun l => .tuple (l.map f)) (d + 1) :=
  ⟨fun K H v l ⟨a, vs, e, ha, hv⟩ => by rw [e]; exact .tup (.inl (.inl ha)) (c.all hv), fun l m => by rw [PyData.eqv, c.eqAll], fun l => by rw [PyData.canLay0, c.layAll], fun l => by rw [PyData.depth]; exact Nat.succ_le_succ (c.depAll l)⟩
theorem cod_p2 (c : Cod R f d) (b : Cod S g e) : Cod (Pr2V R S) (fun p => .tuple [f p.1, g p.2]) (max d e + 1) :=
  ⟨fun K H v l ⟨a, x, y, e, ha, hx, hy⟩ => by rw [e]; exact .tup (.inl (.inl ha)) (.cons (c.dp _ _ _ _ hx) (.cons (b.dp _ _ _ _ hy) .nil)),
   fun l m => by
    rw [PyData.eqv, eqvAll_cons, eqvAll_cons, eqvAll_nil, c.eq, b.eq, Bool.and_true, ← Bool.decide_and]
    exact decide_eq_decide.mpr ⟨fun z => Prod.ext z.1 z.2, fun z => by rw [z]; exact ⟨rfl, rfl⟩⟩,
   fun l => by rw [PyData.canLay0, PyData.canLayAll0, PyData.canLayAll0, PyData.canLayAll0, c.lay, b.lay]; rfl,
   fun l => by
    rw [PyData.depth, PyData.depthAll, PyData.depthAll, PyData.depthAll]
    have h1 := c.dep l.1
    have h2 := b.dep l.2
    omega⟩
theorem cod_p3 (c : Cod R f d) (b : Cod S g e) (t : Cod T h k) : Cod (Pr3V R S T) (fun p => .tuple [f p.1, g p.2.1, h p.2.2]) (max d (max e k) + 1) :=
  ⟨fun K H v l ⟨a, x, y, z, e, ha, hx, hy, hz⟩ => by rw [e]; exact .tup (.inl (.inl ha)) (.cons (c.dp _ _ _ _ hx) (.cons (b.dp _ _ _ _ hy) (.cons (t.dp _ _ _ _ hz) .nil))),
   fun l m => by
    rw [PyData.eqv, eqvAll_cons, eqvAll_cons, eqvAll_cons, eqvAll_nil, c.eq, b.eq, t.eq, Bool.and_true, ← Bool.decide_and, ← Bool.decide_and]
    exact decide_eq_decide.mpr ⟨fun z => Prod.ext z.1 (Prod.ext z.2.1 z.2.2), fun z => by rw [z]; exact ⟨rfl, rfl, rfl⟩⟩,
   fun l => by rw [PyData.canLay0, PyData.canLayAll0, PyData.canLayAll0, PyData.canLayAll0, PyData.canLayAll0, c.lay, b.lay, t.lay]; rfl,
   fun l => by
    rw [PyData.depth, PyData.depthAll, PyData.depthAll, PyData.depthAll, PyData.depthAll]
    have h1 := c.dep l.1
    have h2 := b.dep l.2.1
    have h3 := t.dep l.2.2
    omega⟩
end
section
variable {X : Cx} {α : Type} [DecidableEq α] {R : Hp → V → α → Prop} {f : α → PyData} {d : Nat}
def rEqC (R : Hp → V → α → Prop) : R2 := fun x y H Q => ∃ a b, R H x a ∧ R H y b ∧ Q (.bl (decide (a = b))) H
def rNeC (R : Hp → V → α → Prop) : R2 := fun x y H Q => ∃ a b, R H x a ∧ R H y b ∧ Q (.bl (!decide (a = b))) H
theorem Cod.shaped (c : Cod R f d) (hd : d ≤ 64) (a : α) : SeqAt.shaped (f a) = true := by
  unfold SeqAt.shaped
  rw [c.lay, decide_eq_true (Nat.le_trans (c.dep a) hd)]
  rfl
theorem op_eqC (hu : X.A.units + 64 < cLine) (c : Cod R f d) (hd : d ≤ 64) : OpR X (compareOp .Eq) (rEqC R) := OpR.of (op_eqD hu) fun x y H Q ⟨a, b, ha, hb, q⟩ => ⟨f a, f b, c.dp _ _ _ _ ha, c.dp _ _ _ _ hb, c.shaped hd a, c.shaped hd b, by rw [c.eq]; exact q⟩
theorem op_neC (hu : X.A.units + 64 < cLine) (c : Cod R f d) (hd : d ≤ 64) : OpR X (compareOp .NotEq) (rNeC R) := OpR.of (op_neD hu) fun x y H Q ⟨a, b, ha, hb, q⟩ => ⟨f a, f b, c.dp _ _ _ _ ha, c.dp _ _ _ _ hb, c.shaped hd a, c.shaped hd b, by rw [c.eq]; exact q⟩
end
theorem ints_all {H : Hp} (ns : List Int) : All2 (IntV H) (List.map V.int ns) ns := by
  induction ns with
  | nil => exact .nil
  | cons n r ih => exact .cons rfl ih
theorem ints_of {H : Hp} {vs : List V} {ns : List Int} (h : All2 (IntV H) vs ns) : vs = List.map V.int ns := by
  induction h with
  | nil => rfl
  | cons r _ ih => rw [List.map_cons, ih, show _ = V.int _ from r]
theorem intL {H : Hp} {a : Addr} {ns : List Int} (g : H a = some (.lst (List.map V.int ns))) : LstV IntV H (.ref a) ns := ⟨a, _, rfl, g, ints_all ns⟩
theorem lsv_mono {H H' : Hp} (s : Same H H') (v : V) (n : List Int) (h : LstV IntV H v n) : LstV IntV H' v n := by
  obtain ⟨a, vs, e, g, k⟩ := h
  exact ⟨a, vs, e, s _ _ g, k.mono fun _ _ z => z⟩
/-- what stands however the heap goes on, but for one list that changes -/
structure Stab {α : Type} (R : Hp → V → α → Prop) : Prop where
  mono : ∀ {H H' : Hp}, Same H H' → ∀ v a, R H v a → R H' v a
  but : ∀ {H H' : Hp} {l : Addr} {ys : List V}, But l H H' → H l = some (.lst ys) → ∀ v a, R H v a → R H' v a
theorem stab_int : Stab IntV := ⟨fun _ _ _ h => h, fun _ _ _ _ h => h⟩
section
variable {α β γ : Type} {R : Hp → V → α → Prop} {S : Hp → V → β → Prop} {T : Hp → V → γ → Prop}
theorem stab_tup (c : Stab R) : Stab (TupV R) :=
  ⟨fun s v l ⟨a, vs, e, g, k⟩ => ⟨a, vs, e, s _ _ g, k.mono (c.mono s)⟩, fun bt gl v l ⟨a, vs, e, g, k⟩ => ⟨a, vs, e, tup_but bt g gl, k.mono (c.but bt gl)⟩⟩
theorem stab_p2 (c : Stab R) (b : Stab S) : Stab (Pr2V R S) :=
  ⟨fun s v l ⟨a, x, y, e, g, h1, h2⟩ => ⟨a, x, y, e, s _ _ g, c.mono s _ _ h1, b.mono s _ _ h2⟩, fun bt gl v l ⟨a, x, y, e, g, h1, h2⟩ => ⟨a, x, y, e, tup_but bt g gl, c.but bt gl _ _ h1, b.but bt gl _ _ h2⟩⟩
theorem stab_p3 (c : Stab R) (b : Stab S) (t : Stab T) : Stab (Pr3V R S T) :=
  ⟨fun s v l ⟨a, x, y, z, e, g, h1, h2, h3⟩ => ⟨a, x, y, z, e, s _ _ g, c.mono s _ _ h1, b.mono s _ _ h2, t.mono s _ _ h3⟩, fun bt gl v l ⟨a, x, y, z, e, g, h1, h2, h3⟩ => ⟨a, x, y, z, e, tup_but bt g gl, c.but bt gl _ _ h1, b.but bt gl _ _ h2, t.but bt gl _ _ h3⟩⟩
theorem lstV_mono (c : Stab R) {H H' : Hp} (s : Same H H') (v : V) (l : List α) (h : LstV R H v l) : LstV R H' v l := by
  obtain ⟨a, vs, e, g, k⟩ := h
  exact ⟨a, vs, e, s _ _ g, k.mono (c.mono s)⟩
theorem Stab.upd (c : Stab R) {H : Hp} {l : Addr} {ys : List V} {o : HO} (g : H l = some (.lst ys)) (v : V) (a : α) (h : R H v a) : R (upd H l o) v a := c.but ((But.refl l H).put) g v a h
end

/-! ### constants of the top, texts in lists, reversed lists, zip of tuples -/
theorem SqT.of {K : PySem.W.Frag} {H : Hp} {a : Addr} {xs : List V} (h : H a = some (.tup xs)) : SqT K H a xs := .inl (.inl h)
theorem SqL.of {K : PySem.W.Frag} {H : Hp} {a : Addr} {xs : List V} (h : H a = some (.lst xs)) : SqL K H a xs := .inl (.inl h)
section
variable {X : Cx}
theorem ints_tshaped (ns : List Int) : SeqAt.shaped (.tuple (ns.map PyData.int)) = true := (cod_tup cod_int).shaped (by decide) ns
/-- == of a tracked tuple of ints and any tuple of ints -/
def rEqTK (K : PySem.W.Frag) : R2 := fun x y H Q => ∃ a b ns ms, x = .ref a ∧ y = .ref b ∧ H a = some (.tup (List.map V.int ns)) ∧ SqT K H b (List.map V.int ms) ∧ Q (.bl (decide (ns = ms))) H
theorem op_eqTK (hu : X.A.units + 64 < cLine) : OpR X (compareOp .Eq) (rEqTK X.K) := OpR.of (op_eqD hu) (by
  rintro x y H Q ⟨a, b, ns, ms, rfl, rfl, ha, hb, q⟩
  refine ⟨_, _, .tup (.inl (.inl ha)) (ints_dp ns), .tup hb (ints_dp ms), ints_tshaped ns, ints_tshaped ms, ?_⟩
  rw [(cod_tup cod_int).eq ns ms]
  exact q)
abbrev OkS := {s : Str // PyData.strOk s = true}
def StrV (_ : Hp) (v : V) (s : OkS) : Prop := v = .str s.val
theorem eqv_ss (a b : Str) : PyData.eqv (.str a) (.str b) = decide (a = b) := by
  rw [PyData.eqv]
  by_cases h : a = b
  · rw [decide_eq_true h]; exact beq_iff_eq.mpr h
  · rw [decide_eq_false h]; exact beq_eq_false_iff_ne.mpr h
def vS (s : OkS) : V := .str s.val
def dStr (s : OkS) : PyData := .str s.val
theorem cod_str : Cod StrV dStr 0 := ⟨fun K H v a h => by rw [show v = .str a.val from h]; exact .str a.val, fun a b => by
  show PyData.eqv (.str a.val) (.str b.val) = _
  rw [eqv_ss]; exact decide_eq_decide.mpr Subtype.ext_iff.symm, fun a => by show PyData.canLay0 (.str a.val) = true; rw [PyData.canLay0]; exact a.property, fun a => by show PyData.depth (.str a.val) ≤ 0; rw [PyData.depth]; exact Nat.le_refl _⟩
theorem strs_all {H : Hp} : ∀ ns : List OkS, All2 (StrV H) (List.map vS ns) ns
  | [] => .nil
  | _ :: r => .cons rfl (strs_all r)
theorem strs_of {H : Hp} {vs : List V} {ns : List OkS} (h : All2 (StrV H) vs ns) : vs = List.map vS ns := by
  induction h with
  | nil => rfl
  | cons r _ ih => rw [List.map_cons, ih, show _ = _ from r]; rfl
theorem strL {H : Hp} {a : Addr} {ns : List OkS} (g : H a = some (.lst (List.map vS ns))) : LstV StrV H (.ref a) ns := ⟨a, _, rfl, g, strs_all ns⟩
theorem stab_str : Stab StrV := ⟨fun _ _ _ h => h, fun _ _ _ _ h => h⟩
theorem strs_dp {K : PySem.W.Frag} {H : Hp} (ss : List OkS) : DpAll K H (ss.map vS) (ss.map dStr) := cod_str.all (strs_all ss)
/-- != and == of a tuple of texts of the top and a new one -/
def rNeSK (K : PySem.W.Frag) : R2 := fun x y H Q => ∃ a b ss ts, x = .ref a ∧ y = .ref b ∧ SqT K H a (List.map vS ss) ∧ H b = some (.tup (List.map vS ts)) ∧ Q (.bl (!decide (ss = ts))) H
theorem op_neSK (hu : X.A.units + 64 < cLine) : OpR X (compareOp .NotEq) (rNeSK X.K) := OpR.of (op_neD hu) (by
  rintro x y H Q ⟨a, b, ss, ts, rfl, rfl, ha, hb, q⟩
  refine ⟨_, _, .tup ha (strs_dp ss), .tup (.inl (.inl hb)) (strs_dp ts), (cod_tup cod_str).shaped (by decide) ss, (cod_tup cod_str).shaped (by decide) ts, ?_⟩
  rw [(cod_tup cod_str).eq ss ts]
  exact q)
/-- isinstance of a tuple of the top -/
def rIsiTK (K : PySem.W.Frag) : List V → Hp → VK → Prop := fun vs H Q => ∃ p n xs b, vs = [.ref p, .ty n] ∧ SqT K H p xs ∧ kitB "tuple" n = some b ∧ Q (.bl b) H
theorem call_isiTK : CallR X (.builtin "isinstance") (rIsiTK X.K) := CallR.of call_isi (by
  rintro vs H Q ⟨p, n, xs, b, rfl, hp, hb, q⟩
  refine ⟨.ref p, .ty n, .type "tuple", .type n, b, rfl, .ty n, ?_, kit_ty hb, q⟩
  rcases hp with (h | ⟨o, h⟩) | ⟨o, its, k, h1, h2, _⟩
  · exact .base (.tup h)
  · exact .fTuple h
  · exact .kTuple h1 h2)
/-- reversed(list) -/
def iRevS (K : PySem.W.Frag) (ta : TA) : TI := fun σ H R => ta σ H fun vs H1 => ∃ a xs, vs = [.ref a] ∧ H1 a = some (.lst xs) ∧ R (Itv K a xs.length) H1
theorem pi_revS {tg e : Expr} {ta : TA} {p pos : Pos} (hg : Gl X "reversed") (hm : X.mg "reversed" = none) (ha : PA X [e] ta) (hs : starEach [e] X.env = [(false, eval e X.env)] := by rfl) :
    PI X tg (.Call (.Name "reversed" p) [e] [] pos) (iRevS X.K ta) := PI.of (pi_reversed hg hm (pa_mono ha) hs) fun σ H R q => ⟨_, q, fun vs H1 ⟨a, xs, e, g, r⟩ => ⟨a, xs, e, .inl (.inl g), r⟩⟩
/-- zip of two tuples -/
def iZipTS (K : PySem.W.Frag) (ta : TA) : TI := fun σ H R => ta σ H fun vs H1 => ∃ a b xs ys, vs = [.ref a, .ref b] ∧ SqT K H1 a xs ∧ SqT K H1 b ys ∧ R (RZ.ItzT K a b) H1
theorem pi_zipTS {e e2 : Expr} {ta : TA} {p pos tpos : Pos} {elts : List Expr} {kk : Nat} (hg : Gl X "zip") (hm : X.mg "zip" = none) (ha : PA X [e, e2] ta) (hs : starEach [e, e2] X.env = (false, eval e X.env) :: starEach [e2] X.env := by rfl) (hpl : (backTo pos (starEach [e2] X.env)).any (·.1) = false := by rfl) :
    PI X (.Tuple elts kk tpos) (.Call (.Name "zip" p) [e, e2] [] pos) (iZipTS X.K ta) := PI.of (RZ.pi_zipA hg hm (pa_mono ha) hs hpl) fun σ H R q => ⟨_, q, fun vs H1 ⟨a, b, xs, ys, e, g1, g2, r⟩ => ⟨a, b, xs, ys, e, .inr ⟨g1, g2, r⟩⟩⟩
end
theorem walkV {K : PySem.W.Frag} {a : Addr} {xs : List V} : Walk (Itv K a xs.length) xs.length (fun H => H a = some (.lst xs)) (fun i H x H' => H' = H ∧ xs[xs.length - 1 - i]? = some x) := (walk_rev (K := K) (a := a) (xs := xs)).mono (fun _ h => .inl (.inl h)) fun _ _ _ _ _ _ y => y
theorem walkVI {K : PySem.W.Frag} {a : Addr} {ns : List Int} : Walk (Itv K a ns.length) ns.length (fun H => H a = some (.lst (List.map V.int ns))) (YInt ns.reverse) := by
  have w := walkV (K := K) (a := a) (xs := List.map V.int ns)
  rw [List.length_map] at w
  refine w.mono (fun _ h => h) fun i H x H' hi _ y => ⟨y.1, ?_⟩
  have h := y.2
  rw [List.getElem?_map] at h
  obtain ⟨b, h1, rfl⟩ := Option.map_eq_some_iff.mp h
  exact ⟨b, by rw [List.getElem?_reverse hi]; exact h1, rfl⟩
theorem walkZT {K : PySem.W.Frag} {a b : Addr} {xs ys : List V} {n : Nat} (hn : n = min xs.length ys.length) : Walk (RZ.ItzT K a b) n (fun H => SqT K H a xs ∧ SqT K H b ys) (YPair (fun i => xs[i]?) (fun i => ys[i]?)) := by
  subst hn
  refine ⟨fun i _ hi q => ?_, fun _ q => ⟨xs, ys, q.1, q.2, by omega⟩, fun i H v H' _ q y => ?_⟩
  · have h1 : i < xs.length := by omega
    have h2 : i < ys.length := by omega
    exact ⟨xs, ys, xs[i], ys[i], q.1, q.2, by simp [h1], by simp [h2]⟩
  · obtain ⟨T, x, z, h1, h2, h3, h4, h5⟩ := y
    exact ⟨T, x, z, h1, h2, h3, h4 xs q.1, h5 ys q.2⟩
theorem _root_.L2.Same.seqT {K : PySem.W.Frag} {H H' : Hp} (s : Same H H') {a : Addr} {xs : List V} (h : SqT K H a xs) : SqT K H' a xs := by
  rcases h with (h | ⟨o, h⟩) | h
  · exact .inl (.inl (s _ _ h))
  · exact .inl (.inr ⟨o, s _ _ h⟩)
  · exact .inr h
/-- the codes of a text -/
def cds (z : Str) : List Int := z.cps.toList.map fun (c : Nat) => (c : Int)
theorem cds_at {z : Str} {i c : Nat} (h : z.cps[i]? = some c) : (cds z)[i]? = some (c : Int) := by
  unfold cds
  rw [List.getElem?_map, Array.getElem?_toList, h]
  rfl
theorem cds_len (z : Str) : (cds z).length = z.cps.size := by unfold cds; rw [List.length_map, Array.length_toList]
section
variable {X : Cx} {α : Type} [DecidableEq α] {R : Hp → V → α → Prop} {f : α → PyData} {d : Nat}
theorem Cod.anyEq (c : Cod R f d) (a : α) : ∀ l : List α, ((l.map f).any fun z => PyData.eqv z (f a)) = decide (a ∈ l)
  | [] => by simp
  | x :: r => by
    rw [List.map_cons, List.any_cons, c.eq, Cod.anyEq c a r]
    by_cases h : x = a
    · subst h; simp
    · rw [decide_eq_false h, Bool.false_or]
      exact decide_eq_decide.mpr ⟨fun z => List.mem_cons_of_mem _ z, fun z => (List.mem_cons.mp z).resolve_left fun e => h e.symm⟩
/-- x in a list, x not in a list or a tuple, at any depth -/
def rInLC (R : Hp → V → α → Prop) : R2 := fun x y H Q => ∃ a l, R H x a ∧ LstV R H y l ∧ Q (.bl (decide (a ∈ l))) H
def rNotInLC (R : Hp → V → α → Prop) : R2 := fun x y H Q => ∃ a l, R H x a ∧ LstV R H y l ∧ Q (.bl (!decide (a ∈ l))) H
def rNotInTC (R : Hp → V → α → Prop) : R2 := fun x y H Q => ∃ a l, R H x a ∧ TupV R H y l ∧ Q (.bl (!decide (a ∈ l))) H
theorem op_inLC (hu : X.A.units + 65 < cLine) (c : Cod R f d) (hd : d < 64) : OpR X (compareOp .In) (rInLC R) := OpR.of (op_inD hu) fun x y H Q ⟨a, l, ha, hl, q⟩ => ⟨f a, l.map f, c.dp _ _ _ _ ha, (cod_lst c).dp _ _ _ _ hl, c.shaped (Nat.le_of_lt hd) a, (cod_lst c).shaped hd l, by rw [c.anyEq]; exact q⟩
theorem op_notInLC (hu : X.A.units + 65 < cLine) (c : Cod R f d) (hd : d < 64) : OpR X (compareOp .NotIn) (rNotInLC R) := OpR.of (op_notInD hu) fun x y H Q ⟨a, l, ha, hl, q⟩ => ⟨f a, l.map f, c.dp _ _ _ _ ha, (cod_lst c).dp _ _ _ _ hl, c.shaped (Nat.le_of_lt hd) a, (cod_lst c).shaped hd l, by rw [c.anyEq]; exact q⟩
theorem op_notInTC (hu : X.A.units + 65 < cLine) (c : Cod R f d) (hd : d < 64) : OpR X (compareOp .NotIn) (rNotInTC R) := by
  intro pins s σ H x y v u Q I rx ry h
  obtain ⟨a, l, ha, hl, q⟩ := h
  have sd := c.shaped (Nat.le_of_lt hd) a
  have se := (cod_tup c).shaped hd l
  obtain ⟨as, r1⟩ := Dp.reads I (f a) x v (c.dp _ _ _ _ ha) rx
  obtain ⟨bs, r2⟩ := Dp.reads I (.tuple (l.map f)) y u ((cod_tup c).dp _ _ _ _ hl) ry
  exact SeqAt.notIn_tuple_reads r2 r1 (SeqAt.canLay_of_shaped se) (SeqAt.canLay_of_shaped sd) (room_in_shaped sd hu) ⟨.bl _, H, I, rfl, by rw [c.anyEq]; exact q⟩
theorem hu5 {A : Around} {k : Nat} (hr : Room k A) : A.units + 65 < cLine := by have := hr.un; omega
/-- ''.join of a list of single signs -/
def oneS (c : Nat) : Str := ⟨#[c]⟩
theorem joinL_one : ∀ cs : List Nat, TL.joinL [] (cs.map fun c => [c]) = cs
  | [] => rfl
  | [_] => rfl
  | x :: y :: r => by
    show [x] ++ ([] ++ TL.joinL [] ((y :: r).map fun c => [c])) = _
    rw [joinL_one (y :: r)]
    rfl
theorem join_one (cs : List Nat) : Txt.join (Str.ofString "") (cs.map oneS) = ⟨cs.toArray⟩ := by
  have h := SX.join_S [] (cs.map fun c => [c])
  rw [joinL_one, List.map_map] at h
  exact h
def tJoinC (to te : TE) : TE := fun σ H Q => to σ H fun x H1 => x = .str (Str.ofString "") ∧ te σ H1 fun y H2 => ∃ (p : Addr) (cs : List Nat), y = .ref p ∧ H2 p = some (.lst (cs.map fun c => V.str (oneS c))) ∧ cs.length ≤ 1000000 ∧ Q (.str ⟨cs.toArray⟩) H2
theorem one_sum : ∀ cs : List Nat, ((cs.map oneS).map (·.length)).sum = cs.length
  | [] => rfl
  | c :: r => by
    rw [List.map_cons, List.map_cons, List.sum_cons, one_sum r, List.length_cons, Nat.add_comm]
    rfl
theorem pe_joinC {o e : Expr} {to te : TE} {apos pos : Pos} (ho : PE X o to) (he : PE X e te) (hs : starEach [e] X.env = [(false, eval e X.env)] := by rfl) (hbase : attributeBase o "join" X.env (eval o X.env) = eval o X.env := by rfl) (hline : (apos.endLine == pos.line) = true := by rfl) :
    PE X (.Call (.Attribute o "join" apos) [e] [] pos) (tJoinC to te) := PE.of (pe_join (pe_mono ho) (pe_mono he) hs hbase hline) fun σ H Q q => ⟨_, q, fun x H1 z => ⟨⟨_, z.1⟩, _, z.2, fun y H2 ⟨p, cs, e, g, hl, w⟩ => ⟨Str.ofString "", p, cs.map oneS, z.1, by rw [e], .inl (.inl (.inl (by rw [List.map_map]; exact g))), by
    rw [one_sum, List.length_map, show (Str.ofString "").length = 0 from rfl]; omega, by rw [join_one]; exact w⟩⟩⟩
end
section
variable {X : Cx}
/-- xs * n -/
def rRepL : R2 := fun x y H Q => ∃ l k xs, x = .ref l ∧ y = .int k ∧ H l = some (.lst xs) ∧ k ≤ 2 ^ 62 - 1 ∧ -(2 ^ 62) ≤ k ∧ xs.length * k.toNat ≤ sizeLine ∧ NewH H (.lst (List.replicate k.toNat xs).flatten) fun p H' => Q (.ref p) H'
theorem op_repL : OpR X (binaryOp .Mult) rRepL := OpR.of op_rep fun x y H Q ⟨l, k, xs, e1, e2, h1, z1, z2, z3, q⟩ => ⟨l, k, xs, e1, e2, h1, by omega, by omega, z3, q.go⟩
end

theorem iteP {p : Prop} {i : Decidable p} {a b : Prop} (x : p → a) (y : ¬ p → b) : @ite _ p i a b := by
  by_cases h : p
  · rw [if_pos h]; exact x h
  · rw [if_neg h]; exact y h
section
variable {X : Cx}
/-- name = {k: v for ..} on one line, the name a local -/
theorem ps_setDc {i : Nat} {y : Str} {py : Pos} {kx vx tg iter : Expr} {ifs : List Expr} {scope : Scope} {own : List (Str × Nat)} {pos spos : Pos} {wi : TI} {g : TG} {tt : TT} {tk tv : TE} (hc : X.calm = true) (hN : X.N.Nodup) (hy : X.N[i]? = some y) (hyl : X.env.scope.names.lookup y = some .local)
    (hsw : swapsWith (.DictComp kx vx [⟨tg, iter, ifs, 0⟩] scope pos) (some (.Name y py)) spos.line X.env = pure true) (hi : PI X tg iter wi) (ok : BlkOk X.N X.env.scope scope own)
    (hg : ∀ (s : Shared) (H : Hp) (C : Addr) (cl : List (Str × Addr)) (fp : List Addr), PG (X.blk s H scope (compEnvC scope cl C X.env) fp) tg g) (ht : ∀ (s : Shared) (H : Hp) (C : Addr) (cl : List (Str × Addr)) (fp : List Addr), PTs (X.blk s H scope (compEnvC scope cl C X.env) fp) ifs tt)
    (hk : ∀ (s : Shared) (H : Hp) (C : Addr) (cl : List (Str × Addr)) (fp : List Addr), PE (X.blk s H scope (compEnvC scope cl C X.env) fp) kx tk)
    (he : ∀ (s : Shared) (H : Hp) (C : Addr) (cl : List (Str × Addr)) (fp : List Addr), PE (X.blk s H scope (compEnvC scope cl C X.env) fp) vx tv) (hs : ∀ x, foldedSetIterable iter X.env x = pure x := by intro _; rfl) :
    PS X (.Assign [.Name y py] (.DictComp kx vx [⟨tg, iter, ifs, 0⟩] scope pos) spos) (tAsg (tDc wi g tt tk tv (own.map (·.2))) (gName i)) := by
  refine ⟨fun pins s σ H D I h => ?_⟩
  rw [exec_Assign_Name_used _ _ _ _ hsw]
  refine wpAny_bind (wpAny_standAt (wpAny_bind ?_))
  show wpAny _ X.A (do let _ ← comprehension (.DictComp kx vx [⟨tg, iter, ifs, 0⟩] scope pos) scope X.env (firstIterPos [⟨tg, iter, ifs, 0⟩] pos) newDict false (eval iter X.env) (some (assign (.Name y py) X.env))) _ _ s
  have h : tDc wi g tt tk tv (own.map (·.2)) σ H (fun x H1 => gName i x σ H1 D.nx) := h
  refine wpAny_bind (thn (dc_core (Qf := fun _ s' => SP X pins D .next s') hc hN I hi ok hg ht hk he hs h fun L C s' m H' I' q hn f => ?_) fun _ s' hq => wpAny_pure (wpAny_pure hq))
  show wpAny _ _ (assign (.Name y py) X.env (.ref L)) _ _ _
  refine wpAny_assign_Name (store_ok2 (v := V.ref L) I' hN hy (.inl hyl) rfl (fun s2 I2 ⟨a, sb, ha⟩ => ?_) (.inr hyl))
  obtain ⟨f0, f1, f2, f3, f4, f5⟩ := f
  have haC : C ≠ a := by
    rcases ha with z | z
    · rw [z]; exact f1
    · exact fun e => f4 y a z e.symm
  refine ⟨m, hn.sameBut sb haC, fun h3 sb3 => ?_⟩
  exact ⟨_, H', I2.turned (t' := s2.toks) (fun b o hb e => (sb3.2 b hb).trans e) f0 f1 f3 f4 f5, q⟩
theorem sw_trueD {kx vx : Expr} {gs : List Comprehension} {scope : Scope} {pos py : Pos} {y : Str} {l : Nat} {env : Env} (hk : env.scope.kind = .function) (hy : env.scope.names.lookup y = some .local) (hl : (py.line == pos.line) = true)
    (ha : (scope.names.any fun (n, k) => n == y && (k == .local || k == .cell)) = false) : swapsWith (.DictComp kx vx gs scope pos) (some (.Name y py)) l env = pure true := by
  have ky : env.kindOf y = some .local := hy
  have hb : env.blockKind = .function := by unfold Env.blockKind; rw [hk]; rfl
  unfold swapsWith
  simp only [hb, ky, ha, Expr.pos, hl]
  rfl
end

/-- enumerate(text): each character in a new pair -/
def Ites (x : Str) : It :=
  ⟨fun i _ => i < x.cps.size, fun i H v H' => ∃ T c, v = .ref T ∧ H T = none ∧ H' = upd H T (.tup [.int (i : Nat), .str ⟨#[c]⟩]) ∧ x.cps[i]? = some c, fun i _ => x.cps.size ≤ i⟩
theorem turn_enumS {P : Program} {w : World} {K : PySem.W.Frag} {elts : List Expr} {kk : Nat} {tpos : Pos} (x : Str) (t : Tok) (e it : Addr) (ty : String) (hty : ty = "str_ascii_iterator" ∨ ty = "str_iterator") :
    Turn P w K (.Tuple elts kk tpos) (Ites x) [e, it] e (fun i h => (∃ old, IsEnum h e it ((i : Nat) : Int) old) ∧ h.IsStrIter it ty x t i ∧ e ≠ it ∧ i ≤ x.cps.size) where
  mem := by simp
  obj := fun i h st b hb => by
    obtain ⟨⟨old, he⟩, ⟨o, ho, hc, hd⟩, _⟩ := st
    have e' : b = e ∨ b = it := by simpa using hb
    rcases e' with z | z
    · rw [z]; exact ⟨_, he, fun v q => nomatch q⟩
    · rw [z]; exact ⟨o, ho, fun v q => by rw [hd] at q; cases q⟩
  keep := fun i h h' st k => by
    obtain ⟨⟨old, he⟩, ⟨o, ho, r⟩, hne⟩ := st
    exact ⟨⟨old, k e (by simp) _ he⟩, ⟨o, k it (by simp) o ho, r⟩, hne⟩
  item := by
    intro X hP hw hK hc i pins s σ H E I hf st hg
    subst hP hw hK
    obtain ⟨⟨old, he⟩, hit, hne, hle⟩ := st
    have hel : e < s.heap.objs.size := Heap.lt_size he
    have hil : it < s.heap.objs.size := by obtain ⟨_, q, _⟩ := hit; exact Heap.lt_size q
    have Dr : Draws X.prog X.w X.A.in1 it [it] x.cps.size (fun i v => ∃ c u, x.cps[i]? = some c ∧ v = .str ⟨#[c]⟩ u) (fun i h => h.IsStrIter it ty x t i) := by
      rcases hty with z | z
      · rw [z]; exact Draws.strAscii (A := X.A.in1) (I.ok.hd hc) it x t
      · rw [z]; exact Draws.strWide (A := X.A.in1) (I.ok.hd hc) it x t
    refine wpAny_pyNext_enum_itemD Dr he hit hg hne (by simpa using hne) fun v h' tk hv ho hit' hT hsz hk => ?_
    obtain ⟨c, u, hcx, rfl⟩ := hv
    refine ⟨_, rfl, wpAny_letOwnedTupleGo_enum (s := { s with heap := h', toks := tk + 1 }) ho fun h'' he' sb => ?_⟩
    have hT2 : h''.get? s.heap.objs.size = some { cls := .type "tuple", data := .seq #[.int i tk, .str ⟨#[c]⟩ u] } := (sb.2 _ (Nat.ne_of_gt hel)).trans hT
    have new : ObjOk X.prog X.w (upd H s.heap.objs.size (.tup [.int (i : Nat), .str ⟨#[c]⟩])) h'' s.heap.objs.size (.tup [.int (i : Nat), .str ⟨#[c]⟩]) :=
      ⟨by show 2 ≤ sizeLine; decide, [.int i tk, .str ⟨#[c]⟩ u], .cons ⟨_, rfl⟩ (.cons ⟨_, rfl⟩ .nil), ⟨_, hT2, rfl, _, rfl⟩⟩
    have I1 : Inv X pins σ (upd H s.heap.objs.size (.tup [.int (i : Nat), .str ⟨#[c]⟩])) { s with heap := h'', toks := tk + 1 } :=
      I.turnedNew (ch := [e, it]) (fun b ob hb q => (sb.2 b (fun z => hb (by simp [z]))).trans (hk b ob (fun z => hb (by simp [z])) (fun z => hb (by simp [z])) q)) hf (Nat.le_refl _) new
    refine ⟨.ref s.heap.objs.size, _, I1, rfl, ⟨_, c, rfl, I.hok.fresh (Nat.le_refl _), rfl, hcx⟩, ⟨⟨.str ⟨#[c]⟩ u, ?_⟩, ?_, hne, Nat.succ_le_of_lt hg⟩, fun b hb => ?_⟩
    · have e1 : ((i + 1 : Nat) : Int) = (i : Int) + 1 := by omega
      rw [e1]; exact he'
    · obtain ⟨o, q, r⟩ := hit'
      exact ⟨o, (sb.2 it (Ne.symm hne)).trans q, r⟩
    · have hb' : b < s.heap.objs.size := by
        have e' : b = e ∨ b = it := by simpa using hb
        rcases e' with z | z
        · rw [z]; exact hel
        · rw [z]; exact hil
      rw [upd_ne (Nat.ne_of_lt hb')]
      exact (hf b hb).1
  done := by
    intro X hP hw hK hc i pins s σ H E I hf st hg
    subst hP hw hK
    obtain ⟨⟨old, he⟩, hit, hne, hle⟩ := st
    obtain ⟨f0, f1, f2, f3, f4, f5⟩ := hf it (by simp)
    have Dr : Draws X.prog X.w X.A.in1 it [it] x.cps.size (fun i v => ∃ c u, x.cps[i]? = some c ∧ v = .str ⟨#[c]⟩ u) (fun i h => h.IsStrIter it ty x t i) := by
      rcases hty with z | z
      · rw [z]; exact Draws.strAscii (A := X.A.in1) (I.ok.hd hc) it x t
      · rw [z]; exact Draws.strWide (A := X.A.in1) (I.ok.hd hc) it x t
    have ei : i = x.cps.size := Nat.le_antisymm hle hg
    subst ei
    exact wpAny_pyNext_enum_endD Dr he hit fun h' eb => ⟨rfl, I.turned (t' := s.toks) (fun b o hb q => eb b o hb q) f0 f1 f3 f4 f5⟩
  self := fun A i s Q E st h => let ⟨⟨_, he⟩, _⟩ := st; wpAny_pyIter_enum he h
def iEnumS (ta : TA) : TI := fun σ H R => ta σ H fun vs H1 => ∃ x, vs = [.str x] ∧ R (Ites x) H1
theorem pi_enumS {X : Cx} {e : Expr} {ta : TA} {p pos tpos : Pos} {elts : List Expr} {kk : Nat} (hg : Gl X "enumerate") (hm : X.mg "enumerate" = none) (ha : PA X [e] ta) (hs : starEach [e] X.env = [(false, eval e X.env)] := by rfl) :
    PI X (.Tuple elts kk tpos) (.Call (.Name "enumerate" p) [e] [] pos) (iEnumS ta) := by
  refine ⟨fun pins s σ H R I h => ?_⟩
  refine Call_ (ld_blt I hg hm boot_enumerate (PyProof.Rows.callWith_type1 (thn (ha.run pos pins s σ H _ I h) fun us s1 ⟨vs, H1, I1, r1, q1⟩ => ?_) hs rfl))
  obtain ⟨x, ex, q⟩ := q1
  subst ex
  cases r1 with
  | cons r rr =>
    cases rr
    obtain ⟨t, rfl⟩ := r
    refine call_enumerate_str fun h' he hit hsz hk => wpAny_pyIter_enum he ?_
    have I2 : Inv X pins σ H1 { s1 with heap := h' } := I1.kept (t' := s1.toks) hk
    refine ⟨s1.heap.objs.size + 1, [s1.heap.objs.size + 1, s1.heap.objs.size], _, _, H1, rfl, I2, turn_enumS x t (s1.heap.objs.size + 1) s1.heap.objs.size (strIterType x) (by unfold strIterType; split <;> simp), ⟨⟨.none, he⟩, hit, Nat.succ_ne_self _, Nat.zero_le _⟩, fun b hb => ?_, q⟩
    have e' : b = s1.heap.objs.size + 1 ∨ b = s1.heap.objs.size := by simpa using hb
    have hle : s1.heap.objs.size ≤ b := by
      rcases e' with z | z
      · rw [z]; exact Nat.le_add_right _ _
      · rw [z]; exact Nat.le_refl _
    exact I1.fpOk hle (I1.hok.fresh hle)
theorem walk_enumS {z : Str} : Walk (Ites z) z.cps.size (fun _ => True) (fun i H v H' => ∃ T c, v = .ref T ∧ H T = none ∧ H' = upd H T (.tup [.int (i : Nat), .str ⟨#[c]⟩]) ∧ z.cps[i]? = some c) :=
  ⟨fun _ _ hi _ => hi, fun _ _ => Nat.le_refl _, fun _ _ _ _ _ _ y => y⟩

/-! ### setdefault of a dict with tuple keys -/
section
variable {X : Cx} {pins : List (Addr × Obj)} {σ : L2.St} {H : Hp} {s : Shared} {a b : Addr} {r : Value} {d : V} {k : List L2.Key} {A : Around} {E : Value → Shared → Prop}
theorem d_setdT {kvs : List (List L2.Key × V)} {Q : Value → Shared → Prop} (hu : A.units + 1 < cLine) (I : Inv X pins σ H s) (e : H a = some (.dT kvs)) (eb : H b = some (.tup (k.map kV))) (rd : RelV d r) (hl : kvs.length < sizeLine)
    (h1 : ∀ v, valV kvs k = some v → ∀ (w' : Value) (s' : Shared), Inv X pins σ H s' → RelV v w' → Q w' s') (h2 : valV kvs k = none → ∀ (w' : Value) (s' : Shared), Inv X pins σ (upd H a (.dT (putK kvs k d))) s' → RelV d w' → Q w' s') :
    wpAny (model X.prog X.w) A (call (.builtin "dict.setdefault") [.ref a, .ref b, r]) Q E s := by
  obtain ⟨z, hd, xs, rel, dd⟩ := dt_of I.hok e
  have hz : xs.length ≤ sizeLine := by rw [← Paired.length rel]; exact z
  have hl2 : (putK kvs k d).length ≤ sizeLine := by have := length_putK kvs k d; omega
  refine call_setdefault_heap (hsz := hz) (tupleKind_room_in1 hu) (key_of I.hok eb) hd dd (fun p hp => ?_) (fun hn h' dd' hs => ?_)
  · have q := rel.val k
    rw [hp] at q
    cases q0 : valV kvs k with
    | none => rw [q0] at q; exact (show False from q).elim
    | some v0 => rw [q0] at q; exact h1 v0 q0 _ _ (I.tok _) q
  · have q := rel.val k
    rw [hn] at q
    cases q0 : valV kvs k with
    | some v0 => rw [q0] at q; exact (show False from q).elim
    | none =>
      obtain ⟨o, es, ep, hq, h3, h4, h5, _, h6⟩ := dd'
      refine h2 q0 _ _ (d_write I (by rw [e]; exact True.intro) hs ⟨o, hq⟩ ⟨hl2, hd, _, (rel.put k eb rd).keeps fun c ys ec => ?_, o, es, ep, hq, h3, h4, h5, h6⟩) rd
      rw [upd_ne (ne_of ec e (fun z => nomatch z))]
      exact ec
end
def tDSetdT (td ty tx : TE) : TE := fun σ H Q => td σ H fun x H1 => ∃ a, x = .ref a ∧ IsD H1 a ∧ ty σ H1 fun y H2 => tx σ H2 fun z H3 => ∃ (kvs : List (List L2.Key × V)) (k : List L2.Key) (b : Addr), H3 a = some (.dT kvs) ∧ y = .ref b ∧ H3 b = some (.tup (k.map kV)) ∧ kvs.length < sizeLine ∧
  (∀ v, valV kvs k = some v → Q v H3) ∧ (valV kvs k = none → Q z (upd H3 a (.dT (putK kvs k z))))
section
variable {X : Cx} {o e f : Expr} {td ty tx : TE} {apos cpos : Pos}
theorem pe_dsetdT (hu : X.A.units + 1 < cLine) (ho : PE X o td) (he : PE X e ty) (hf : PE X f tx) (m : M2 X o "setdefault" apos e f cpos) : PE X (.Call (.Attribute o "setdefault" apos) [e, f] [] cpos) (tDSetdT td ty tx) := by
  refine ⟨fun pins s σ H Q I h => ?_⟩
  refine wpAny_Call_method m.base m.few m.line PySem.F.plainAttrs_dict PySem.F.slot_dict_setdefault PySem.F.type_dict_setdefault (thn (ho.run pins s σ H _ I h) fun u s1 ⟨x, H1, I1, rx, a, ex, d, q1⟩ => ?_)
  subst ex
  obtain rfl : u = Value.ref a := rx
  obtain ⟨t1, t2, _⟩ := isD_at I1 d
  refine ⟨t1, t2, ?_⟩
  rw [m.trees]
  refine Calls.callWith_builtin rfl (Calls.evalArgs_plain (Calls.spliced_cons (thn (he.run pins s1 σ H1 _ I1 q1) fun iv s2 ⟨y, H2, I2, ry, q2⟩ =>
    Calls.spliced_cons (thn (hf.run pins s2 σ H2 _ I2 q2) fun fv s3 ⟨z, H3, I3, rz, kvs, k, b, ea, ey, eb, hl, q3, q4⟩ => Calls.spliced_nil ?_))))
  subst ey
  obtain rfl : iv = Value.ref b := ry
  exact d_setdT hu I3 ea eb rz hl (fun v hv w' s4 I4 rw' => ⟨v, _, I4, rw', q3 v hv⟩) fun hn w' s4 I4 rw' => ⟨z, _, I4, rw', q4 hn⟩
end

def tDNewTS : TE := fun _ H Q => NewH H (.dT []) fun p H' => Q (.ref p) H'
theorem pe_dnewTS {X : Cx} {pos : Pos} : PE X (.Dict [] [] pos) tDNewTS := PE.of pe_dnewT fun σ H Q q => q.go


section
variable {X : Cx}
/-- == of two grids: a tuple of two ints and a list of ints -/
theorem gr_dp {K : PySem.W.Frag} {H : Hp} {q : Addr} {i j : Int} {ns : List Int} (hq : H q = some (.lst (List.map V.int ns))) : DpAll K H [.int i, .int j, .ref q] [.int i, .int j, .list (ns.map PyData.int)] := .cons (.int i) (.cons (.int j) (.cons (.lst (.inl (.inl hq)) (ints_dp ns)) .nil))
theorem gr_shaped (i j : Int) (ns : List Int) : SeqAt.shaped (.tuple [.int i, .int j, .list (ns.map PyData.int)]) = true := by
  unfold SeqAt.shaped
  simp only [PyData.canLay0, PyData.canLayAll0, ints_lay, PyData.depth, PyData.depthAll, ints_depth]
  rfl
theorem gr_eqv (i j k l : Int) (ns ms : List Int) : PyData.eqv (.tuple [.int i, .int j, .list (ns.map PyData.int)]) (.tuple [.int k, .int l, .list (ms.map PyData.int)]) = (decide (i = k) && (decide (j = l) && decide (ns = ms))) := by
  rw [PyData.eqv, eqvAll_cons, eqvAll_cons, eqvAll_cons, eqvAll_nil, eqv_ii, eqv_ii, PyData.eqv, ints_eqv, Bool.and_true]
def rEqG : R2 := fun x y H Q => ∃ a b q r i j k l ns ms, x = .ref a ∧ y = .ref b ∧ H a = some (.tup [.int i, .int j, .ref q]) ∧ H b = some (.tup [.int k, .int l, .ref r]) ∧ H q = some (.lst (List.map V.int ns)) ∧ H r = some (.lst (List.map V.int ms)) ∧ Q (.bl (decide (i = k) && (decide (j = l) && decide (ns = ms)))) H
theorem op_eqG (hu : X.A.units + 64 < cLine) : OpR X (compareOp .Eq) rEqG := OpR.of (op_eqD hu) (by
  rintro x y H Q ⟨a, b, q, r, i, j, k, l, ns, ms, rfl, rfl, ha, hb, hq, hr, z⟩
  refine ⟨_, _, .tup (.inl (.inl ha)) (gr_dp hq), .tup (.inl (.inl hb)) (gr_dp hr), gr_shaped i j ns, gr_shaped k l ms, ?_⟩
  rw [gr_eqv]
  exact z)
def rNeG : R2 := fun x y H Q => ∃ a b q r i j k l ns ms, x = .ref a ∧ y = .ref b ∧ H a = some (.tup [.int i, .int j, .ref q]) ∧ H b = some (.tup [.int k, .int l, .ref r]) ∧ H q = some (.lst (List.map V.int ns)) ∧ H r = some (.lst (List.map V.int ms)) ∧ Q (.bl (!(decide (i = k) && (decide (j = l) && decide (ns = ms))))) H
theorem op_neG (hu : X.A.units + 64 < cLine) : OpR X (compareOp .NotEq) rNeG := OpR.of (op_neD hu) (by
  rintro x y H Q ⟨a, b, q, r, i, j, k, l, ns, ms, rfl, rfl, ha, hb, hq, hr, z⟩
  refine ⟨_, _, .tup (.inl (.inl ha)) (gr_dp hq), .tup (.inl (.inl hb)) (gr_dp hr), gr_shaped i j ns, gr_shaped k l ms, ?_⟩
  rw [gr_eqv]
  exact z)
end

def topS (i : Nat) : Stmt := PySem.Challenge.pw_stillroom_k40_painted_pages.main.body.getD i (.Pass ⟨0, 0, 0, 0⟩)
abbrev s_bounded : Stmt := topS 2
abbrev s_middle : Stmt := topS 5
abbrev s_spend : Stmt := topS 7
abbrev s_fill : Stmt := topS 9
abbrev s__within : Stmt := topS 10
abbrev s__edges : Stmt := topS 11
abbrev s__inside_row : Stmt := topS 12
abbrev s__first_column : Stmt := topS 13
abbrev s_place : Stmt := topS 14
abbrev s_paint : Stmt := topS 15
abbrev s__cost : Stmt := topS 16
abbrev s__painted : Stmt := topS 17
abbrev s__law_cell : Stmt := topS 19
abbrev s__law_is_integer : Stmt := topS 20
abbrev s__law_colour : Stmt := topS 21
abbrev s__law_grid : Stmt := topS 22
abbrev s__law_is_grid : Stmt := topS 23
abbrev s__law_point : Stmt := topS 24
abbrev s__law_outlines : Stmt := topS 25
abbrev s__law_bounded : Stmt := topS 26
abbrev s__law_counts : Stmt := topS 27
abbrev s__law_inside : Stmt := topS 28
abbrev s__law_in_box : Stmt := topS 29
abbrev s__law_filled : Stmt := topS 30
abbrev s__law_box : Stmt := topS 31
abbrev s__law_placed : Stmt := topS 32
abbrev s__law_mark : Stmt := topS 33
abbrev s__law_cost : Stmt := topS 34
abbrev s__law_painted : Stmt := topS 35
abbrev s_law : Stmt := topS 36
theorem sc_bounded : FnScope ["number"] ["number"] (defScope s_bounded) := ⟨rfl, rfl, rfl, by decide +kernel, rfl, by decide +kernel, by decide +kernel⟩
theorem sc_middle : FnScope ["at"] ["at"] (defScope s_middle) := ⟨rfl, rfl, rfl, by decide +kernel, rfl, by decide +kernel, by decide +kernel⟩
theorem sc_spend : FnScope ["left", "cost"] ["left", "cost"] (defScope s_spend) := ⟨rfl, rfl, rfl, by decide +kernel, rfl, by decide +kernel, by decide +kernel⟩
theorem sc_fill : FnScope ["grid", "clip", "outlines", "colour", "width", "height", "cells", "columns", "edges", "painted", "row", "y", "crossed", "edge", "inside", "column"] ["grid", "clip", "outlines", "colour"] (defScope s_fill) := ⟨rfl, rfl, rfl, by decide +kernel, rfl, by decide +kernel, by decide +kernel⟩
theorem sc__within : FnScope ["begin", "end", "count", "at"] ["begin", "end", "count"] (defScope s__within) := ⟨rfl, rfl, rfl, by decide +kernel, rfl, by decide +kernel, by decide +kernel⟩
theorem sc__edges : FnScope ["outlines", "edges", "points", "ends", "x", "y", "x0", "y0", "x1", "y1"] ["outlines"] (defScope s__edges) := ⟨rfl, rfl, rfl, by decide +kernel, rfl, by decide +kernel, by decide +kernel⟩
theorem sc__inside_row : FnScope ["crossed", "y", "width", "begins", "edge", "inside", "count", "begin"] ["crossed", "y", "width"] (defScope s__inside_row) := ⟨rfl, rfl, rfl, by decide +kernel, rfl, by decide +kernel, by decide +kernel⟩
theorem sc__first_column : FnScope ["edge", "y", "width", "x0", "y0", "x1", "y1", "down", "across", "column"] ["edge", "y", "width"] (defScope s__first_column) := ⟨rfl, rfl, rfl, by decide +kernel, rfl, by decide +kernel, by decide +kernel⟩
theorem sc_place : FnScope ["grid", "clip", "picture", "box", "width", "height", "cells", "across", "down", "source", "x0", "y0", "x1", "y1", "number", "columns", "painted", "row", "begin", "column", "cell"] ["grid", "clip", "picture", "box"] (defScope s_place) := ⟨rfl, rfl, rfl, by decide +kernel, rfl, by decide +kernel, by decide +kernel⟩
theorem sc_paint : FnScope ["page", "left", "width", "height", "back", "marks", "_", "grid", "mark", "enough"] ["page", "left"] (defScope s_paint) := ⟨rfl, rfl, rfl, by decide +kernel, rfl, by decide +kernel, by decide +kernel⟩
theorem sc__cost : FnScope ["mark", "height", "points"] ["mark", "height"] (defScope s__cost) := ⟨rfl, rfl, rfl, by decide +kernel, rfl, by decide +kernel, by decide +kernel⟩
theorem sc__painted : FnScope ["grid", "mark", "kind", "clip", "shape", "last"] ["grid", "mark"] (defScope s__painted) := ⟨rfl, rfl, rfl, by decide +kernel, rfl, by decide +kernel, by decide +kernel⟩
theorem sc__law_cell : FnScope ["script", "k"] ["script", "k"] (defScope s__law_cell) := ⟨rfl, rfl, rfl, by decide +kernel, rfl, by decide +kernel, by decide +kernel⟩
theorem sc__law_is_integer : FnScope ["actual"] ["actual"] (defScope s__law_is_integer) := ⟨rfl, rfl, rfl, by decide +kernel, rfl, by decide +kernel, by decide +kernel⟩
theorem sc__law_colour : FnScope ["cell"] ["cell"] (defScope s__law_colour) := ⟨rfl, rfl, rfl, by decide +kernel, rfl, by decide +kernel, by decide +kernel⟩
theorem sc__law_grid : FnScope ["cell", "nones", "width", "height", "cells", "k", "number"] ["cell", "nones"] (defScope s__law_grid) := ⟨rfl, rfl, rfl, by decide +kernel, rfl, by decide +kernel, by decide +kernel⟩
theorem sc__law_is_grid : FnScope ["actual", "width", "height", "cells", "cell"] ["actual", "width", "height", "cells"] (defScope s__law_is_grid) := ⟨rfl, rfl, rfl, by decide +kernel, rfl, by decide +kernel, by decide +kernel⟩
theorem sc__law_point : FnScope ["cell", "width", "height", "which", "left"] ["cell", "width", "height"] (defScope s__law_point) := ⟨rfl, rfl, rfl, by decide +kernel, rfl, by decide +kernel, by decide +kernel⟩
theorem sc__law_outlines : FnScope ["script", "at", "width", "height", "outlines", "outline", "k", "cell"] ["script", "at", "width", "height"] (defScope s__law_outlines) := ⟨rfl, rfl, rfl, by decide +kernel, rfl, by decide +kernel, by decide +kernel⟩
theorem sc__law_bounded : FnScope ["number"] ["number"] (defScope s__law_bounded) := ⟨rfl, rfl, rfl, by decide +kernel, rfl, by decide +kernel, by decide +kernel⟩
theorem sc__law_counts : FnScope ["first", "second", "x", "y", "x0", "y0", "x1", "y1"] ["first", "second", "x", "y"] (defScope s__law_counts) := ⟨rfl, rfl, rfl, by decide +kernel, rfl, by decide +kernel, by decide +kernel⟩
theorem sc__law_inside : FnScope ["outlines", "x", "y", "count", "outline", "k"] ["outlines", "x", "y"] (defScope s__law_inside) := ⟨rfl, rfl, rfl, by decide +kernel, rfl, by decide +kernel, by decide +kernel⟩
theorem sc__law_in_box : FnScope ["x", "y", "box", "near", "number"] ["x", "y", "box"] (defScope s__law_in_box) := ⟨rfl, rfl, rfl, by decide +kernel, rfl, by decide +kernel, by decide +kernel⟩
theorem sc__law_filled : FnScope ["grid", "clip", "outlines", "colour", "width", "height", "cells", "y", "x"] ["grid", "clip", "outlines", "colour"] (defScope s__law_filled) := ⟨rfl, rfl, rfl, by decide +kernel, rfl, by decide +kernel, by decide +kernel⟩
theorem sc__law_box : FnScope ["cell", "width", "height", "left", "x0", "y0"] ["cell", "width", "height"] (defScope s__law_box) := ⟨rfl, rfl, rfl, by decide +kernel, rfl, by decide +kernel, by decide +kernel⟩
theorem sc__law_placed : FnScope ["grid", "clip", "picture", "box", "width", "height", "cells", "near", "number", "y", "x", "across", "down", "column", "row"] ["grid", "clip", "picture", "box"] (defScope s__law_placed) := ⟨rfl, rfl, rfl, by decide +kernel, rfl, by decide +kernel, by decide +kernel⟩
theorem sc__law_mark : FnScope ["script", "k", "width", "height", "cell", "clip", "picture", "box"] ["script", "k", "width", "height"] (defScope s__law_mark) := ⟨rfl, rfl, rfl, by decide +kernel, rfl, by decide +kernel, by decide +kernel⟩
theorem sc__law_cost : FnScope ["mark", "height", "outline"] ["mark", "height"] (defScope s__law_cost) := ⟨rfl, rfl, rfl, by decide +kernel, rfl, by decide +kernel, by decide +kernel⟩
theorem sc__law_painted : FnScope ["page", "left", "width", "height", "back", "marks", "acts", "grid", "costs", "mark", "k"] ["page", "left"] (defScope s__law_painted) := ⟨rfl, rfl, rfl, by decide +kernel, rfl, by decide +kernel, by decide +kernel⟩
theorem sc_law : FnScope ["script", "cell", "width", "height", "many", "marks", "k", "page", "kept", "mark", "costs", "whole", "some", "left", "grid", "rest", "found", "shown"] ["script"] (defScope s_law) := ⟨rfl, rfl, rfl, by decide +kernel, rfl, by decide +kernel, by decide +kernel⟩
/-- what the top has left, as far as the walk asks of it -/
structure Txt (K : PySem.W.Frag) (mg : Str → Option Value) where
  f_bounded : Addr
  fd_bounded : FuncData
  F_bounded : Fun K "bounded" "bounded" s_bounded f_bounded fd_bounded
  b_bounded : Binds K fd_bounded ["number"] []
  g_bounded : mg "bounded" = some (.ref f_bounded)
  f_middle : Addr
  fd_middle : FuncData
  F_middle : Fun K "middle" "middle" s_middle f_middle fd_middle
  b_middle : Binds K fd_middle ["at"] []
  g_middle : mg "middle" = some (.ref f_middle)
  f_spend : Addr
  fd_spend : FuncData
  F_spend : Fun K "spend" "spend" s_spend f_spend fd_spend
  b_spend : Binds K fd_spend ["left", "cost"] []
  g_spend : mg "spend" = some (.ref f_spend)
  f_fill : Addr
  fd_fill : FuncData
  F_fill : Fun K "fill" "fill" s_fill f_fill fd_fill
  b_fill : Binds K fd_fill ["grid", "clip", "outlines", "colour"] []
  g_fill : mg "fill" = some (.ref f_fill)
  f__within : Addr
  fd__within : FuncData
  F__within : Fun K "_within" "_within" s__within f__within fd__within
  b__within : Binds K fd__within ["begin", "end", "count"] []
  g__within : mg "_within" = some (.ref f__within)
  f__edges : Addr
  fd__edges : FuncData
  F__edges : Fun K "_edges" "_edges" s__edges f__edges fd__edges
  b__edges : Binds K fd__edges ["outlines"] []
  g__edges : mg "_edges" = some (.ref f__edges)
  f__inside_row : Addr
  fd__inside_row : FuncData
  F__inside_row : Fun K "_inside_row" "_inside_row" s__inside_row f__inside_row fd__inside_row
  b__inside_row : Binds K fd__inside_row ["crossed", "y", "width"] []
  g__inside_row : mg "_inside_row" = some (.ref f__inside_row)
  f__first_column : Addr
  fd__first_column : FuncData
  F__first_column : Fun K "_first_column" "_first_column" s__first_column f__first_column fd__first_column
  b__first_column : Binds K fd__first_column ["edge", "y", "width"] []
  g__first_column : mg "_first_column" = some (.ref f__first_column)
  f_place : Addr
  fd_place : FuncData
  F_place : Fun K "place" "place" s_place f_place fd_place
  b_place : Binds K fd_place ["grid", "clip", "picture", "box"] []
  g_place : mg "place" = some (.ref f_place)
  f_paint : Addr
  fd_paint : FuncData
  F_paint : Fun K "paint" "paint" s_paint f_paint fd_paint
  b_paint : Binds K fd_paint ["page", "left"] []
  g_paint : mg "paint" = some (.ref f_paint)
  f__cost : Addr
  fd__cost : FuncData
  F__cost : Fun K "_cost" "_cost" s__cost f__cost fd__cost
  b__cost : Binds K fd__cost ["mark", "height"] []
  g__cost : mg "_cost" = some (.ref f__cost)
  f__painted : Addr
  fd__painted : FuncData
  F__painted : Fun K "_painted" "_painted" s__painted f__painted fd__painted
  b__painted : Binds K fd__painted ["grid", "mark"] []
  g__painted : mg "_painted" = some (.ref f__painted)
  f__law_cell : Addr
  fd__law_cell : FuncData
  F__law_cell : Fun K "_law_cell" "_law_cell" s__law_cell f__law_cell fd__law_cell
  b__law_cell : Binds K fd__law_cell ["script", "k"] []
  g__law_cell : mg "_law_cell" = some (.ref f__law_cell)
  f__law_is_integer : Addr
  fd__law_is_integer : FuncData
  F__law_is_integer : Fun K "_law_is_integer" "_law_is_integer" s__law_is_integer f__law_is_integer fd__law_is_integer
  b__law_is_integer : Binds K fd__law_is_integer ["actual"] []
  g__law_is_integer : mg "_law_is_integer" = some (.ref f__law_is_integer)
  f__law_colour : Addr
  fd__law_colour : FuncData
  F__law_colour : Fun K "_law_colour" "_law_colour" s__law_colour f__law_colour fd__law_colour
  b__law_colour : Binds K fd__law_colour ["cell"] []
  g__law_colour : mg "_law_colour" = some (.ref f__law_colour)
  f__law_grid : Addr
  fd__law_grid : FuncData
  F__law_grid : Fun K "_law_grid" "_law_grid" s__law_grid f__law_grid fd__law_grid
  b__law_grid : Binds K fd__law_grid ["cell", "nones"] []
  g__law_grid : mg "_law_grid" = some (.ref f__law_grid)
  f__law_is_grid : Addr
  fd__law_is_grid : FuncData
  F__law_is_grid : Fun K "_law_is_grid" "_law_is_grid" s__law_is_grid f__law_is_grid fd__law_is_grid
  b__law_is_grid : Binds K fd__law_is_grid ["actual", "width", "height", "cells"] []
  g__law_is_grid : mg "_law_is_grid" = some (.ref f__law_is_grid)
  f__law_point : Addr
  fd__law_point : FuncData
  F__law_point : Fun K "_law_point" "_law_point" s__law_point f__law_point fd__law_point
  b__law_point : Binds K fd__law_point ["cell", "width", "height"] []
  g__law_point : mg "_law_point" = some (.ref f__law_point)
  f__law_outlines : Addr
  fd__law_outlines : FuncData
  F__law_outlines : Fun K "_law_outlines" "_law_outlines" s__law_outlines f__law_outlines fd__law_outlines
  b__law_outlines : Binds K fd__law_outlines ["script", "at", "width", "height"] []
  g__law_outlines : mg "_law_outlines" = some (.ref f__law_outlines)
  f__law_bounded : Addr
  fd__law_bounded : FuncData
  F__law_bounded : Fun K "_law_bounded" "_law_bounded" s__law_bounded f__law_bounded fd__law_bounded
  b__law_bounded : Binds K fd__law_bounded ["number"] []
  g__law_bounded : mg "_law_bounded" = some (.ref f__law_bounded)
  f__law_counts : Addr
  fd__law_counts : FuncData
  F__law_counts : Fun K "_law_counts" "_law_counts" s__law_counts f__law_counts fd__law_counts
  b__law_counts : Binds K fd__law_counts ["first", "second", "x", "y"] []
  g__law_counts : mg "_law_counts" = some (.ref f__law_counts)
  f__law_inside : Addr
  fd__law_inside : FuncData
  F__law_inside : Fun K "_law_inside" "_law_inside" s__law_inside f__law_inside fd__law_inside
  b__law_inside : Binds K fd__law_inside ["outlines", "x", "y"] []
  g__law_inside : mg "_law_inside" = some (.ref f__law_inside)
  f__law_in_box : Addr
  fd__law_in_box : FuncData
  F__law_in_box : Fun K "_law_in_box" "_law_in_box" s__law_in_box f__law_in_box fd__law_in_box
  b__law_in_box : Binds K fd__law_in_box ["x", "y", "box"] []
  g__law_in_box : mg "_law_in_box" = some (.ref f__law_in_box)
  f__law_filled : Addr
  fd__law_filled : FuncData
  F__law_filled : Fun K "_law_filled" "_law_filled" s__law_filled f__law_filled fd__law_filled
  b__law_filled : Binds K fd__law_filled ["grid", "clip", "outlines", "colour"] []
  g__law_filled : mg "_law_filled" = some (.ref f__law_filled)
  f__law_box : Addr
  fd__law_box : FuncData
  F__law_box : Fun K "_law_box" "_law_box" s__law_box f__law_box fd__law_box
  b__law_box : Binds K fd__law_box ["cell", "width", "height"] []
  g__law_box : mg "_law_box" = some (.ref f__law_box)
  f__law_placed : Addr
  fd__law_placed : FuncData
  F__law_placed : Fun K "_law_placed" "_law_placed" s__law_placed f__law_placed fd__law_placed
  b__law_placed : Binds K fd__law_placed ["grid", "clip", "picture", "box"] []
  g__law_placed : mg "_law_placed" = some (.ref f__law_placed)
  f__law_mark : Addr
  fd__law_mark : FuncData
  F__law_mark : Fun K "_law_mark" "_law_mark" s__law_mark f__law_mark fd__law_mark
  b__law_mark : Binds K fd__law_mark ["script", "k", "width", "height"] []
  g__law_mark : mg "_law_mark" = some (.ref f__law_mark)
  f__law_cost : Addr
  fd__law_cost : FuncData
  F__law_cost : Fun K "_law_cost" "_law_cost" s__law_cost f__law_cost fd__law_cost
  b__law_cost : Binds K fd__law_cost ["mark", "height"] []
  g__law_cost : mg "_law_cost" = some (.ref f__law_cost)
  f__law_painted : Addr
  fd__law_painted : FuncData
  F__law_painted : Fun K "_law_painted" "_law_painted" s__law_painted f__law_painted fd__law_painted
  b__law_painted : Binds K fd__law_painted ["page", "left"] []
  g__law_painted : mg "_law_painted" = some (.ref f__law_painted)
  f_law : Addr
  fd_law : FuncData
  F_law : Fun K "law" "law" s_law f_law fd_law
  b_law : Binds K fd_law ["script"] []
  g_law : mg "law" = some (.ref f_law)
  t__FARTHEST : Tok
  c__FARTHEST : mg "_FARTHEST" = some (.int 1048576 t__FARTHEST)
  t_NO_COLOUR : Tok
  c_NO_COLOUR : mg "NO_COLOUR" = some (.int (-1) t_NO_COLOUR)
  z_abs : mg "abs" = none
  z_bool : mg "bool" = none
  z_int : mg "int" = none
  z_isinstance : mg "isinstance" = none
  z_len : mg "len" = none
  z_list : mg "list" = none
  z_max : mg "max" = none
  z_min : mg "min" = none
  z_range : mg "range" = none
  z_sum : mg "sum" = none
  z_tuple : mg "tuple" = none
  z_zip : mg "zip" = none
open Lean in
local macro_rules
  | `(tactic| walk_at $s:str) => do
    let ws := (s.getString.splitOn " ").filter (· ≠ "")
    let ids (fs : List String) : Array (TSyntax `term) := (fs.map fun f => (⟨mkIdent f.toName⟩ : TSyntax `term)).toArray
    match ws with
    | "vc" :: fs => do
      let xs := ids fs
      `(tactic| simp (config := {maxSteps := 2000000}) only [tSeq, tAsg, tOp, rI, rI0, rU, tUn, tCB, tCons, tNil, tVar, tC, gName, gSub, rSetL, tRet, tRetN, tIfS, tNext, tTest, tB, tDrop, tIf, tNot, tAnd, tOr, tAndV, tOrV, tNotV, tAug, ipI, tCall, tCmp, t2I, tBreak, tCont, tLst, tTup, tBM, tBM0, rAppend, tyV_upd, rLenH, rLenT, rListH, rIxH, rIxTH, rIxS, rEqIL, rNeIL, rEqTS, rSlH, rRep, rCat, rExtend, tSl, tPart, tNoPart, rIxT, gTup, gCons, gNil, atI_c0, atI_c1, atI_c2, atI_c3, dS_int, dS_bl, isS_int, isS_bl, eqv_ii, eqv_bb, eqvAll_nil, eqvAll_cons, List.all_cons, List.all_nil, Bool.and_true, Bool.true_and, rIsiB, tnm_int, tnm_bl, tnm_str, tnm_non, tnm_ref, kb1, kb2, kb3, kb4, kb5, kb6, kb7, kb8, kb9, kb10, rEq, rNe, scal_ii, scal_ss, scal_bb, scal_nn, scal_in, scal_ni, tFor_eq, tLc_eq, iRng1, iRng2, iList, iTup, iZip, iStr, iRng3, tChain, tYes, wipe, tCallL, Int.sub_zero, Int.toNat_natCast, Int.natCast_add, cxOf, L2.start, List.map_cons, List.map_nil, List.length_cons, List.length_nil, List.reduceReplicate, List.cons_append, List.nil_append, List.append_nil, List.set_cons_zero, List.set_cons_succ, List.getElem?_cons_zero, List.getElem?_cons_succ, upd_same, upd_upd, HO.lst.injEq, HO.tup.injEq, nil_sz, Option.some.injEq, V.int.injEq, V.bl.injEq, V.ref.injEq, V.str.injEq, V.ty.injEq, exists_eq_left', exists_eq_left, exists_eq', exists_eq, Int.cast_ofNat_Int, Int.reduceEq, Int.reduceMul, Int.reduceAdd, Int.reduceSub, Int.natCast_zero, Int.mul_zero, Int.add_zero, exists_and_left, exists_and_right, List.cons.injEq, and_true, true_and, and_assoc, reduceCtorEq, false_and, and_false, exists_false, exists_const, or_false, false_or, Nat.reduceAdd, Nat.reduceSub, Int.reduceLT, Int.reduceLE, Int.reduceNeg, Int.reducePow, Int.reduceToNat, ite_true, ite_false, Bool.false_eq_true, Bool.not_true, Bool.not_false, decide_true, decide_false, if_true, if_false, tTupS, tLstS, rListS, rListT, rTupleL, rCatL, rRepS, rSlS, map_int_inj, sz1, sz2, sz3, sz4, sz5, sz6, sz8, CMul, Nat.reduceLT, Nat.reduceLeDiff, Nat.reducePow, or_true, true_or, List.length_map, List.length_append, List.length_replicate, decide_eq_true_eq, gt_iff_lt, ge_iff_le, Int.reduceGT, Int.reduceGE, ne_eq, not_true_eq_false, not_false_eq_true, Int.reduceToNat, gTupS, gLstS, iListS, iTupS, tML, tML0, rPop, mx_eq, mn_eq, Int.natCast_inj, bitAnd_m1, bitAnd_m2, bitAnd_m3, bitAnd_m4, bitAnd_m5, bitAnd_m6, bitAnd_m7, bitAnd_m8, bitAnd_m16, CDiv, toNat_mul, map_snoc, map_cat, map_setV, List.length_set, absI_eq, Bool.and_self, tAugS, rGetL, iZipS, cutV_take1, cutV_drop1, tPar, rLenSc, rIxSc, iRng2, rSumS, rSlTS, cutV_take3, rEqC, rNeC, tTrL, iEnumL, rInI, rIndexI, tDGet, tDIn, tDNotIn, sDPut, iEnumS, tDc_eq, eq_self, rEqTK, rNeSK, rIsiTK, iRevS, iZipTS, rInLC, rNotInLC, rNotInTC, rRepL, tJoinC, tDGet2, tDNewTS, tDSetdT, $[$xs:term],*])
    | "w" :: fs => do
      let xs := ids fs
      let ys := (fs.map fun f => (⟨mkIdent f.toName⟩ : TSyntax `term)).toArray
      `(tactic| simp (config := {maxSteps := 2000000}) only [tSeq, tAsg, tOp, rI, rI0, rU, tUn, tCB, tCons, tNil, tVar, tC, gName, gSub, rSetL, tRet, tRetN, tIfS, tNext, tTest, tB, tDrop, tIf, tNot, tAnd, tOr, tAndV, tOrV, tNotV, tAug, ipI, tCall, tCmp, t2I, tBreak, tCont, tLst, tTup, tBM, tBM0, rAppend, tyV_upd, rLenH, rLenT, rListH, rIxH, rIxTH, rIxS, rEqIL, rNeIL, rEqTS, rSlH, rRep, rCat, rExtend, tSl, tPart, tNoPart, rIxT, gTup, gCons, gNil, atI_c0, atI_c1, atI_c2, atI_c3, dS_int, dS_bl, isS_int, isS_bl, eqv_ii, eqv_bb, eqvAll_nil, eqvAll_cons, List.all_cons, List.all_nil, Bool.and_true, Bool.true_and, rIsiB, tnm_int, tnm_bl, tnm_str, tnm_non, tnm_ref, kb1, kb2, kb3, kb4, kb5, kb6, kb7, kb8, kb9, kb10, rEq, rNe, scal_ii, scal_ss, scal_bb, scal_nn, scal_in, scal_ni, tFor_eq, tLc_eq, iRng1, iRng2, iList, iTup, iZip, iStr, iRng3, tChain, tYes, wipe, tCallL, Int.sub_zero, Int.toNat_natCast, Int.natCast_add, cxOf, L2.start, List.map_cons, List.map_nil, List.length_cons, List.length_nil, List.reduceReplicate, List.cons_append, List.nil_append, List.append_nil, List.set_cons_zero, List.set_cons_succ, List.getElem?_cons_zero, List.getElem?_cons_succ, upd_same, upd_upd, HO.lst.injEq, HO.tup.injEq, nil_sz, Option.some.injEq, V.int.injEq, V.bl.injEq, V.ref.injEq, V.str.injEq, V.ty.injEq, exists_eq_left', exists_eq_left, exists_eq', exists_eq, Int.cast_ofNat_Int, Int.reduceEq, Int.reduceMul, Int.reduceAdd, Int.reduceSub, Int.natCast_zero, Int.mul_zero, Int.add_zero, exists_and_left, exists_and_right, List.cons.injEq, and_true, true_and, and_assoc, reduceCtorEq, false_and, and_false, exists_false, exists_const, or_false, false_or, Nat.reduceAdd, Nat.reduceSub, Int.reduceLT, Int.reduceLE, Int.reduceNeg, Int.reducePow, Int.reduceToNat, ite_true, ite_false, Bool.false_eq_true, Bool.not_true, Bool.not_false, decide_true, decide_false, if_true, if_false, tTupS, tLstS, rListS, rListT, rTupleL, rCatL, rRepS, rSlS, map_int_inj, sz1, sz2, sz3, sz4, sz5, sz6, sz8, CMul, Nat.reduceLT, Nat.reduceLeDiff, Nat.reducePow, or_true, true_or, List.length_map, List.length_append, List.length_replicate, decide_eq_true_eq, gt_iff_lt, ge_iff_le, Int.reduceGT, Int.reduceGE, ne_eq, not_true_eq_false, not_false_eq_true, Int.reduceToNat, gTupS, gLstS, iListS, iTupS, tML, tML0, rPop, mx_eq, mn_eq, Int.natCast_inj, bitAnd_m1, bitAnd_m2, bitAnd_m3, bitAnd_m4, bitAnd_m5, bitAnd_m6, bitAnd_m7, bitAnd_m8, bitAnd_m16, CDiv, toNat_mul, map_snoc, map_cat, map_setV, List.length_set, absI_eq, Bool.and_self, tAugS, rGetL, iZipS, cutV_take1, cutV_drop1, tPar, rLenSc, rIxSc, iRng2, rSumS, rSlTS, cutV_take3, rEqC, rNeC, tTrL, iEnumL, rInI, rIndexI, tDGet, tDIn, tDNotIn, sDPut, iEnumS, tDc_eq, eq_self, rEqTK, rNeSK, rIsiTK, iRevS, iZipTS, rInLC, rNotInLC, rNotInTC, rRepL, tJoinC, tDGet2, tDNewTS, tDSetdT, $[$xs:term],*, $[(tyL_eq $ys)],*, $[(sqL_eq $ys)],*])
    | "g" :: fs => do
      let xs := ids fs
      `(tactic| simp only [gTupS, gCons, gNil, gName, HO.tup.injEq, Option.some.injEq, exists_eq_left', exists_eq_left, exists_eq', exists_eq, V.ref.injEq, List.cons.injEq, and_assoc, exists_and_left, exists_and_right, true_and, and_true, List.length_cons, List.length_nil, Nat.reduceAdd, List.set_cons_zero, List.set_cons_succ, $[$xs:term],*])
    | "c" :: sn :: gs => do
      let s1 := mkIdent sn.toName
      let mut out ← `(tactic| skip)
      for g in gs do
        let i := mkIdent g.toName
        out ← `(tactic| ($out; replace $i := $s1 _ _ $i))
      return out
    | "n" :: sn :: suf :: gs => do
      let s1 := mkIdent sn.toName
      let mut out ← `(tactic| skip)
      for g in gs do
        let i := mkIdent g.toName
        let j := mkIdent (g ++ suf).toName
        out ← `(tactic| ($out; have $j := $s1 _ _ $i))
      return out
    | "b" :: bn :: suf :: gs => do
      let s1 := mkIdent bn.toName
      let mut out ← `(tactic| skip)
      for g in gs do
        let i := mkIdent g.toName
        let j := mkIdent (g ++ suf).toName
        let n := mkIdent ("ne_" ++ g).toName
        out ← `(tactic| ($out; have $j := $s1 _ _ $n $i))
      return out
    | _ => Macro.throwUnsupported

section
variable {P : Program} {w : World} {K : PySem.W.Frag} {mg : Str → Option Value} {base : Heap}

theorem foldl_take {α β : Type} (f : β → α → β) (s : β) {l : List α} {i : Nat} {x : α} (h : l[i]? = some x) : (l.take (i + 1)).foldl f s = f ((l.take i).foldl f s) x := by
  rw [List.take_add_one, h, List.foldl_append]
  simp only [Option.toList_some, List.foldl_cons, List.foldl_nil]
theorem take_succ {α : Type} {l : List α} {i : Nat} {x : α} (h : l[i]? = some x) : l.take (i + 1) = l.take i ++ [x] := by
  rw [List.take_add_one, h]
  rfl
theorem take_map_succ {α β : Type} (f : α → β) {l : List α} {i : Nat} {x : α} (h : l[i]? = some x) : (l.map f).take (i + 1) = (l.map f).take i ++ [f x] := take_succ (by rw [List.getElem?_map, h]; rfl)
theorem take_lt {α : Type} (l : List α) (i : Nat) {n : Nat} (h : l.length < n) : (l.take i).length < n := Nat.lt_of_le_of_lt (by rw [List.length_take]; exact Nat.min_le_right _ _) h
def YTup (ns : List Int) : Nat → Hp → V → Hp → Prop := fun i H v H' => H' = H ∧ ∃ b, ns[i]? = some b ∧ v = .int b
theorem walkTI {K : PySem.W.Frag} {a : Addr} {ns : List Int} : Walk (Itt K a) ns.length (fun H => H a = some (.tup (List.map V.int ns))) (YTup ns) := by
  have w := walkT (K := K) (a := a) (xs := List.map V.int ns)
  rw [List.length_map] at w
  refine w.mono (fun _ h => h) fun i H x H' _ _ y => ⟨y.1, ?_⟩
  have h := y.2
  rw [List.getElem?_map] at h
  obtain ⟨b, h1, rfl⟩ := Option.map_eq_some_iff.mp h
  exact ⟨b, h1, rfl⟩
theorem foldl_len {α : Type} {f : List Int → α → List Int} (h : ∀ p c, (f p c).length = p.length) : ∀ (l : List α) (p : List Int), (l.foldl f p).length = p.length
  | [], _ => rfl
  | c :: r, p => by rw [List.foldl_cons, foldl_len h r, h]
theorem ix_in {r c w h : Nat} (hr : r < h) (hc : c < w) : r * w + c < w * h := by
  have h1 : r * w + w ≤ h * w := by rw [← Nat.succ_mul]; exact Nat.mul_le_mul_right w hr
  rw [Nat.mul_comm w h]
  omega
theorem map_set (l : List Int) (i : Nat) (v : Int) : (List.map V.int l).set i (.int v) = List.map V.int (l.set i v) := by rw [List.map_set]
theorem div_in {a d : Int} {n : Nat} (h0 : 0 ≤ a) (h1 : a < d) (hn : 1 ≤ n) : 0 ≤ a * n / d ∧ a * n / d < n := by
  refine ⟨Int.ediv_nonneg (Int.mul_nonneg h0 (by omega)) (by omega), Int.ediv_lt_of_lt_mul (by omega) ?_⟩
  rw [Int.mul_comm (n : Int) d]
  exact Int.mul_lt_mul_of_pos_right h1 (by omega)
theorem foldl_ext' {α β : Type} {f g : α → β → α} {l : List β} : ∀ {a : α}, (∀ a, ∀ b ∈ l, f a b = g a b) → l.foldl f a = l.foldl g a := by
  induction l with
  | nil => exact fun _ => rfl
  | cons x r ih => exact fun {a} h => by rw [List.foldl_cons, List.foldl_cons, h a x List.mem_cons_self]; exact ih fun a b hb => h a b (List.mem_cons_of_mem _ hb)
theorem gN_ge {src : List Int} (h : ∀ v ∈ src, -1 ≤ v) (i : Nat) : -1 ≤ gN src i := by
  unfold gN
  rw [List.getD_eq_getElem?_getD]
  cases e : src[i]? with
  | none => decide
  | some b => exact h b (List.mem_of_getElem? e)
theorem cnt_lt {n : Nat} (h : n ≤ 2000000) : n < sizeLine := Nat.lt_of_le_of_lt h (by decide)
theorem cnt_le {n : Nat} (h : n ≤ 2000000) : n ≤ sizeLine := Nat.le_of_lt (cnt_lt h)
theorem cnt_leL {n : Nat} (h : n ≤ 10000000) : n ≤ sizeLine := Nat.le_trans h (by decide)

/-! ### bounds, middles, the middles within -/
theorem Qi {Q : VK} {H : Hp} {a b : Int} (e : a = b) (q : Q (.int a) H) : Q (.int b) H := e ▸ q
def bd (x : Int) : Int := if x < -1048576 then -1048576 else if 1048576 < x then 1048576 else x
theorem bd_in (x : Int) : -1048576 ≤ bd x ∧ bd x ≤ 1048576 := by
  unfold bd
  repeat' split
  all_goals omega
def sp_bounded (K : PySem.W.Frag) : Sp := fun vs H Q _ => ∃ (x : Int), vs = [.int x] ∧ (Q (.int (bd x)) H)
theorem ok_bounded (T : Txt K mg) : FnOk P w K mg base CX0 1 T.f_bounded T.fd_bounded ["number"] (sp_bounded K) := by
  refine T.F_bounded.ok sc_bounded (fun vs H Q E h => ?_) (fun cdv A outer s H vs Q E hr h => ?_)
  · obtain ⟨x, rfl, _⟩ := h
    rfl
  · obtain ⟨x, rfl, q⟩ := h
    refine ⟨_, (pss_one (ps_ret (pe_callB (call_min2 rfl) (by rfl) T.z_min (by decide +kernel) (pa_cons (pe_callB (call_max2 rfl) (by rfl) T.z_max (by decide +kernel) (pa_cons (pv 0) (pa_cons (pe_un un_neg (pe_glob (v := .int 1048576) (by rfl) T.c__FARTHEST ⟨_, rfl⟩)) pa_nil))) (pa_cons (pe_glob (v := .int 1048576) (by rfl) T.c__FARTHEST ⟨_, rfl⟩) pa_nil))))), ?_⟩
    walk_at "vc"
    refine Qi ?_ q
    unfold bd mn mx
    repeat' split
    all_goals omega
def sp_middle (K : PySem.W.Frag) : Sp := fun vs H Q _ => ∃ (x : Int), vs = [.int x] ∧ (Q (.int (4 * x + 2)) H)
theorem ok_middle (T : Txt K mg) : FnOk P w K mg base CX0 1 T.f_middle T.fd_middle ["at"] (sp_middle K) := by
  refine T.F_middle.ok sc_middle (fun vs H Q E h => ?_) (fun cdv A outer s H vs Q E hr h => ?_)
  · obtain ⟨x, rfl, _⟩ := h
    rfl
  · obtain ⟨x, rfl, q⟩ := h
    refine ⟨_, (pss_one (ps_ret (pe_op op_add (pe_op op_mul pe_int (pv 0)) pe_int))), ?_⟩
    walk_at "vc"
    exact q
def natV (l : List Nat) : List V := l.map fun (n : Nat) => V.int (n : Int)
def YNat (l : List Nat) : Nat → Hp → V → Hp → Prop := fun i H v H' => H' = H ∧ ∃ b, l[i]? = some b ∧ v = .int (b : Int)
theorem walkN {K : PySem.W.Frag} {a : Addr} {l : List Nat} : Walk (Itl K a) l.length (fun H => H a = some (.lst (natV l))) (YNat l) := by
  have w := walkL (K := K) (a := a) (xs := natV l)
  unfold natV at w ⊢
  rw [List.length_map] at w
  refine w.mono (fun _ h => h) fun i H x H' _ _ y => ⟨y.1, ?_⟩
  have h := y.2
  rw [List.getElem?_map] at h
  obtain ⟨b, h1, rfl⟩ := Option.map_eq_some_iff.mp h
  exact ⟨b, h1, rfl⟩
def inW (b e : Int) (i : Nat) : Prop := b ≤ 4 * (i : Int) + 2 ∧ 4 * (i : Int) + 2 < e
instance (b e : Int) (i : Nat) : Decidable (inW b e i) := inferInstanceAs (Decidable (_ ∧ _))
def wi (b e : Int) (n : Nat) : List Nat := (List.range n).filter fun i => decide (inW b e i)
theorem wi_succ (b e : Int) (i : Nat) : wi b e (i + 1) = wi b e i ++ if inW b e i then [i] else [] := by
  unfold wi
  rw [List.range_succ, List.filter_append]
  congr 1
  by_cases h : inW b e i <;> simp [h]
theorem wi_len (b e : Int) (n : Nat) : (wi b e n).length ≤ n := Nat.le_trans (List.length_filter_le _ _) (by rw [List.length_range]; exact Nat.le_refl _)
theorem wi_at {b e : Int} {n i k : Nat} (h : (wi b e n)[i]? = some k) : k < n ∧ inW b e k := by
  have := List.mem_filter.mp (List.mem_of_getElem? h)
  exact ⟨List.mem_range.mp this.1, of_decide_eq_true this.2⟩
def sp__within (K : PySem.W.Frag) : Sp := fun vs H Q _ => ∃ (b e : Int) (n : Nat), vs = [.int b, .int e, .int (n : Int)] ∧ (n ≤ 1000) ∧ (∀ H' p, Same H H' → H p = none → H' p = some (.lst (natV (wi b e n))) → Q (.ref p) H')
theorem ok__within (T : Txt K mg) : FnOk P w K mg base CX0 2 T.f__within T.fd__within ["begin", "end", "count"] (sp__within K) := by
  refine T.F__within.ok sc__within (fun vs H Q E h => ?_) (fun cdv A outer s H vs Q E hr h => ?_)
  · obtain ⟨b, e, n, rfl, _⟩ := h
    rfl
  · obtain ⟨b, e, n, rfl, hn, q⟩ := h
    refine ⟨_, (pss_one (ps_ret (pe_lc (own := [("at", 3)]) (g := (gName 3)) rfl sc__within.nd (pi_range1 (by rfl) T.z_range (pa_cons (pv 2) pa_nil)) (blkOk_by (own := [("at", 3)]) (N := ["begin", "end", "count", "at"]) (sc := defScope s__within) (by decide +kernel)) (fun _ _ _ _ _ => (pg_name (i := 3) sc__within.nd rfl (Or.inl rfl))) (fun _ _ _ _ _ => (pts_one (pt_chain op_le op_lt (pv 0) (pe_call (ok_middle T) hr (by rfl) T.g_middle T.F_middle.kp T.b_middle .nil pass0 (pa_cons (pv 3) pa_nil)) (pv 1)))) (fun _ _ _ _ _ => (pv 3))))), ?_⟩
    walk_at "vc"
    refine ⟨by omega, by omega, lcL walkR (L := fun i => natV (wi b e i)) rfl (fun _ _ => True.intro) (fun D i x H1 H2 hi hD s1 g1 y => ?_) (fun D H1 s1 hD g1 => q _ D s1 hD g1)⟩
    obtain ⟨rfl, rfl⟩ := y
    have hsz : (wi b e i).length < sizeLine := Nat.lt_of_le_of_lt (wi_len b e i) (Nat.lt_of_lt_of_le (show i < 1000 by omega) (by decide))
    have e1 : natV (wi b e (i + 1)) = natV (wi b e i) ++ if inW b e i then [V.int (i : Int)] else [] := by
      rw [wi_succ]
      unfold natV
      rw [List.map_append]
      congr 1
      split <;> rfl
    have hlen : (natV (wi b e i)).length < sizeLine := by unfold natV; rw [List.length_map]; exact hsz
    rw [e1]
    walk_at "vc sp_middle g1"
    refine iteP (fun h1 => iteP (fun h2 => ?_) (fun h2 => ?_)) (fun h1 => ?_)
    · rw [if_pos (show inW b e i from ⟨h1, h2⟩)]
      exact ⟨hlen, same_upd2 s1 hD, rfl⟩
    · rw [if_neg (fun z : inW b e i => h2 z.2), List.append_nil]
      exact ⟨s1, rfl⟩
    · rw [if_neg (fun z : inW b e i => h1 z.1), List.append_nil]
      exact ⟨s1, rfl⟩

/-! ### points and outlines on the heap -/
abbrev Pt := Int × Int
abbrev Edge := Int × Int × Int × Int
def PtV (H : Hp) (v : V) (p : Pt) : Prop := ∃ a, v = .ref a ∧ H a = some (.tup [.int p.1, .int p.2])
def OutV (H : Hp) (v : V) (ps : List Pt) : Prop := ∃ a vs, v = .ref a ∧ H a = some (.tup vs) ∧ All2 (PtV H) vs ps
def EdV (H : Hp) (v : V) (e : Edge) : Prop := ∃ a, v = .ref a ∧ H a = some (.tup [.int e.1, .int e.2.1, .int e.2.2.1, .int e.2.2.2])
def Outs (H : Hp) (a : Addr) (os : List (List Pt)) : Prop := ∃ vs, H a = some (.tup vs) ∧ All2 (OutV H) vs os
def Eds (H : Hp) (a : Addr) (es : List Edge) : Prop := ∃ vs, H a = some (.lst vs) ∧ All2 (EdV H) vs es
theorem PtV.mono {H H' : Hp} (s : Same H H') (v : V) (p : Pt) (h : PtV H v p) : PtV H' v p := by
  obtain ⟨a, e, g⟩ := h
  exact ⟨a, e, s _ _ g⟩
theorem OutV.mono {H H' : Hp} (s : Same H H') (v : V) (p : List Pt) (h : OutV H v p) : OutV H' v p := by
  obtain ⟨a, vs, e, g, k⟩ := h
  exact ⟨a, vs, e, s _ _ g, k.mono (PtV.mono s)⟩
theorem EdV.mono {H H' : Hp} (s : Same H H') (v : V) (p : Edge) (h : EdV H v p) : EdV H' v p := by
  obtain ⟨a, e, g⟩ := h
  exact ⟨a, e, s _ _ g⟩
theorem Outs.mono {H H' : Hp} (s : Same H H') {a : Addr} {os : List (List Pt)} (h : Outs H a os) : Outs H' a os := by
  obtain ⟨vs, g, k⟩ := h
  exact ⟨vs, s _ _ g, k.mono (OutV.mono s)⟩
theorem Eds.mono {H H' : Hp} (s : Same H H') {a : Addr} {es : List Edge} (h : Eds H a es) : Eds H' a es := by
  obtain ⟨vs, g, k⟩ := h
  exact ⟨vs, s _ _ g, k.mono (EdV.mono s)⟩
theorem PtV.upd {H : Hp} {l : Addr} {ys : List V} {o : HO} (g : H l = some (.lst ys)) (v : V) (p : Pt) (h : PtV H v p) : PtV (upd H l o) v p := by
  obtain ⟨a, e, k⟩ := h
  exact ⟨a, e, tup_upd k g⟩
theorem PtV.but {H H' : Hp} {l : Addr} {ys : List V} (bt : But l H H') (g : H l = some (.lst ys)) (v : V) (p : Pt) (h : PtV H v p) : PtV H' v p := by
  obtain ⟨a, e, k⟩ := h
  exact ⟨a, e, tup_but bt k g⟩
theorem EdV.upd {H : Hp} {l : Addr} {ys : List V} {o : HO} (g : H l = some (.lst ys)) (v : V) (p : Edge) (h : EdV H v p) : EdV (upd H l o) v p := by
  obtain ⟨a, e, k⟩ := h
  exact ⟨a, e, tup_upd k g⟩
theorem EdV.but {H H' : Hp} {l : Addr} {ys : List V} (bt : But l H H') (g : H l = some (.lst ys)) (v : V) (p : Edge) (h : EdV H v p) : EdV H' v p := by
  obtain ⟨a, e, k⟩ := h
  exact ⟨a, e, tup_but bt k g⟩
theorem OutV.upd {H : Hp} {l : Addr} {ys : List V} {o : HO} (g : H l = some (.lst ys)) (v : V) (ps : List Pt) (h : OutV H v ps) : OutV (upd H l o) v ps := by
  obtain ⟨a, vs, e, k, z⟩ := h
  exact ⟨a, vs, e, tup_upd k g, z.mono (PtV.upd g)⟩
theorem OutV.but {H H' : Hp} {l : Addr} {ys : List V} (bt : But l H H') (g : H l = some (.lst ys)) (v : V) (p : List Pt) (h : OutV H v p) : OutV H' v p := by
  obtain ⟨a, vs, e, k, z⟩ := h
  exact ⟨a, vs, e, tup_but bt k g, z.mono (PtV.but bt g)⟩
theorem Outs.but {H H' : Hp} {l a : Addr} {ys : List V} {os : List (List Pt)} (h : Outs H a os) (bt : But l H H') (g : H l = some (.lst ys)) : Outs H' a os := by
  obtain ⟨vs, k, z⟩ := h
  exact ⟨vs, tup_but bt k g, z.mono (OutV.but bt g)⟩
def bdp (p : Pt) : Pt := (bd p.1, bd p.2)
def rot {α : Type} (l : List α) : List α := l.drop 1 ++ l.take 1
def mkE (p q : Pt) : Option Edge := if p.2 < q.2 then some (p.1, p.2, q.1, q.2) else if q.2 < p.2 then some (q.1, q.2, p.1, p.2) else none
def edgesOf (ps : List Pt) : List Edge := ((ps.map bdp).zip (rot (ps.map bdp))).filterMap fun x => mkE x.1 x.2
def edgesAll (os : List (List Pt)) : List Edge := os.flatMap edgesOf
theorem edgesOf_len (ps : List Pt) : (edgesOf ps).length ≤ ps.length := by
  refine Nat.le_trans (List.length_filterMap_le _ _) ?_
  rw [List.length_zip, List.length_map]
  exact Nat.min_le_left _ _
theorem edgesAll_len : ∀ os : List (List Pt), (∀ ps ∈ os, ps.length ≤ 1000) → (edgesAll os).length ≤ os.length * 1000
  | [], _ => Nat.zero_le _
  | ps :: r, h => by
    have h1 := edgesOf_len ps
    have h2 := h ps List.mem_cons_self
    have h3 := edgesAll_len r fun x hx => h x (List.mem_cons_of_mem _ hx)
    unfold edgesAll at h3 ⊢
    rw [List.flatMap_cons, List.length_append, List.length_cons, Nat.succ_mul]
    omega
theorem edgesAll_take {os : List (List Pt)} {i : Nat} {ps : List Pt} (h : os[i]? = some ps) : edgesAll (os.take (i + 1)) = edgesAll (os.take i) ++ edgesOf ps := by
  unfold edgesAll
  rw [take_succ h, List.flatMap_append, List.flatMap_cons, List.flatMap_nil, List.append_nil]
theorem Eds.put {H H' : Hp} {p0 : Addr} {es : List V} {l : List Edge} {e : Edge} {v : V} (ge : H p0 = some (.lst es)) (he : All2 (EdV H) es l) (hv : EdV H v e) (h : H' = upd H p0 (.lst (es ++ [v]))) : Eds H' p0 (l ++ [e]) := by
  subst h
  exact ⟨_, upd_same, (he.mono (EdV.upd ge)).snoc (EdV.upd ge _ _ hv)⟩
def sp__edges (K : PySem.W.Frag) : Sp := fun vs H Q _ => ∃ (aO : Addr) (os : List (List Pt)), vs = [.ref aO] ∧ (Outs H aO os) ∧ (os.length ≤ 1000 ∧ ∀ ps ∈ os, ps.length ≤ 1000) ∧ (∀ H' p, Same H H' → H p = none → Eds H' p (edgesAll os) → Q (.ref p) H')
theorem ok__edges (T : Txt K mg) : FnOk P w K mg base CX0 2 T.f__edges T.fd__edges ["outlines"] (sp__edges K) := by
  refine T.F__edges.ok sc__edges (fun vs H Q E h => ?_) (fun cdv A outer s H vs Q E hr h => ?_)
  · obtain ⟨aO, os, rfl, _⟩ := h
    rfl
  · obtain ⟨aO, os, rfl, hO, hn, q⟩ := h
    refine ⟨_, (pss_cons (ps_set (i := 1) sc__edges.nd rfl (Or.inl rfl) (pe_lstS pa_nil))
      (pss_cons (ps_for PassesOwn.never rfl (pi_tupS (pv 0)) (pg_name (i := 2) sc__edges.nd rfl (Or.inl rfl)) (pss_cons (ps_setLc (i := 3) (own := [("x", 4), ("y", 5)]) (g := _) rfl sc__edges.nd rfl rfl (sw_true rfl rfl rfl (by decide +kernel)) (pi_tupS (pv 2)) (blkOk_by (own := [("x", 4), ("y", 5)]) (N := ["outlines", "edges", "points", "ends", "x", "y", "x0", "y0", "x1", "y1"]) (sc := defScope s__edges) (by decide +kernel)) (fun _ _ _ _ _ => (pg_tupS (n := 2) (by rfl) (pgs_cons (pg_name (i := 4) sc__edges.nd rfl (Or.inl rfl)) (pgs_cons (pg_name (i := 5) sc__edges.nd rfl (Or.inl rfl)) pgs_nil)))) (fun _ _ _ _ _ => pts_nil) (fun _ _ _ _ _ => (pe_tupS (pa_cons (pe_call (ok_bounded T) hr (by rfl) T.g_bounded T.F_bounded.kp T.b_bounded .nil pass0 (pa_cons (pv 4) pa_nil)) (pa_cons (pe_call (ok_bounded T) hr (by rfl) T.g_bounded T.F_bounded.kp T.b_bounded .nil pass0 (pa_cons (pv 5) pa_nil)) pa_nil)))))
      (pss_one (ps_for PassesOwn.never rfl (pi_zipS (by rfl) T.z_zip (pa_cons (pv 3) (pa_cons (pe_op op_catS (pe_slice sl_listS (pv 3) (po_some pe_int) po_none) (pe_slice sl_listS (pv 3) po_none (po_some pe_int))) pa_nil))) (pg_tupS (n := 2) (by rfl) (pgs_cons (pg_tupS (n := 2) (by rfl) (pgs_cons (pg_name (i := 6) sc__edges.nd rfl (Or.inl rfl)) (pgs_cons (pg_name (i := 7) sc__edges.nd rfl (Or.inl rfl)) pgs_nil))) (pgs_cons (pg_tupS (n := 2) (by rfl) (pgs_cons (pg_name (i := 8) sc__edges.nd rfl (Or.inl rfl)) (pgs_cons (pg_name (i := 9) sc__edges.nd rfl (Or.inl rfl)) pgs_nil))) pgs_nil))) (pss_one (ps_if (pt_cmpR op_lt (pv 7) (pv 9) (nomark _)) (pss_one (ps_expr (pe_ml (pe_bm PySem.F.plainAttrs_list PySem.F.slot_list_append PySem.F.type_list_append mt_append (pe_mono (pv 1)) (pa_cons (pe_tupS (pa_cons (pv 6) (pa_cons (pv 7) (pa_cons (pv 8) (pa_cons (pv 9) pa_nil))))) pa_nil))))) (pss_one (ps_if (pt_cmpR op_gt (pv 7) (pv 9) (nomark _)) (pss_one (ps_expr (pe_ml (pe_bm PySem.F.plainAttrs_list PySem.F.slot_list_append PySem.F.type_list_append mt_append (pe_mono (pv 1)) (pa_cons (pe_tupS (pa_cons (pv 8) (pa_cons (pv 9) (pa_cons (pv 6) (pa_cons (pv 7) pa_nil))))) pa_nil))))) pss_nil))))))))
      (pss_one (ps_ret (pv 1))))), ?_⟩
    obtain ⟨ws, gO, hO⟩ := hO
    walk_at "vc gO"
    intro p0 H1 s1 n1 g1
    walk_at "n s1 1 gO"
    walk_at "vc gO1"
    refine lpW (walkT (xs := ws)) (fun i σ H' => ∃ (v2 v3 v4 v5 v6 v7 v8 v9 : Option V), σ = [some (.ref aO), some (.ref p0), v2, v3, v4, v5, v6, v7, v8, v9] ∧ Same H H' ∧ Eds H' p0 (edgesAll (os.take i))) ⟨_, _, _, _, _, _, _, _, rfl, s1, [], g1, .nil⟩ ?_ ?_ ?_
    · rintro i σ H' _ ⟨_, _, _, _, _, _, _, _, _, sm, _⟩
      exact sm _ _ gO
    · rintro i x σ H' H2 hi ⟨v2, v3, v4, v5, v6, v7, v8, v9, rfl, sm, es, ge, he⟩ ⟨rfl, hx⟩
      obtain ⟨ps, hps, ap, vs, rfl, gp, hp⟩ := hO.at hx
      have gp2 := sm _ _ gp
      have hpn : vs.length ≤ 1000 := by rw [hp.len]; exact hn.2 _ (List.mem_of_getElem? hps)
      walk_at "vc gp2"
      refine lcW (walkT (xs := vs)) (fun D j H3 => Same H2 H3 ∧ ∃ us, H3 D = some (.lst us) ∧ All2 (PtV H3) us ((ps.map bdp).take j)) (fun D H3 s3 n3 g3 => ⟨s3, [], g3, .nil⟩) (fun D j H3 _ _ h => h.1 _ _ gp2) (fun D j y H3 H4 hj n3 h y4 => ?_) (fun D H3 n3 h => ?_)
      · obtain ⟨rfl, hy⟩ := y4
        obtain ⟨s3, us, gu, hu⟩ := h
        obtain ⟨pt, hpt, aq, rfl, gq⟩ := hp.at hy
        have gq4 := s3 _ _ (sm _ _ gq)
        walk_at "vc gq4 sp_bounded"
        intro t H5 s5 n5 g5
        have gu5 := s5 _ _ gu
        have hul : us.length = j := by
          rw [hu.len, List.length_take, List.length_map, ← hp.len]
          omega
        walk_at "vc gu5"
        refine ⟨Nat.lt_of_lt_of_le (show us.length < 1001 by omega) (by decide), same_upd2 (s3.trans s5) n3, ?_⟩
        rw [take_map_succ bdp hpt]
        exact (hu.mono (fun v p h => (PtV.mono s5 v p h).upd gu5)).snoc ⟨t, rfl, tup_upd g5 gu5⟩
      obtain ⟨s3, us, gu, hu⟩ := h
      rw [hp.len, show ps.length = (ps.map bdp).length by rw [List.length_map], List.take_length] at hu
      walk_at "vc gu"
      intro c1 H5 s5 n5 g5
      have gu5 := s5 _ _ gu
      walk_at "vc gu5"
      intro c2 H6 s6 n6 g6
      have g56 := s6 _ _ g5
      walk_at "vc g56 g6"
      have hul : us.length = ps.length := by rw [hu.len, List.length_map]
      refine ⟨Nat.le_trans (show (us.drop 1).length + (us.take 1).length ≤ 2000 by rw [List.length_drop, List.length_take]; rw [hul, ← hp.len]; omega) (by decide), fun c3 H7 s7 n7 g7 => ?_⟩
      have gu7 := s7 _ _ (s6 _ _ gu5)
      walk_at "vc gu7 g7"
      have hu7 := hu.mono (PtV.mono ((s5.trans s6).trans s7))
      have hr7 : All2 (PtV H7) (us.drop 1 ++ us.take 1) (rot (ps.map bdp)) := (hu7.drop 1).app (hu7.take 1)
      have s27 := ((s3.trans s5).trans s6).trans s7
      have hnr : (us.drop 1 ++ us.take 1).length = us.length := by rw [List.length_append, List.length_drop, List.length_take]; omega
      have hb := edgesAll_len (os.take i) fun x hx => hn.2 x (List.mem_of_mem_take hx)
      rw [List.length_take] at hb
      have hio : i < 1000 := by have := hO.len; omega
      have ge7 := s27 _ _ ge
      rw [edgesAll_take hps]
      have ne_gu7 : D ≠ p0 := (ne_of_none ge n3).symm
      have ne_g7 : c3 ≠ p0 := (ne_of_none (((s3.trans s5).trans s6) _ _ ge) n7).symm
      refine lpW (walkZ (xs := us) (ys := us.drop 1 ++ us.take 1) (n := us.length) (by rw [hnr, Nat.min_self])) (fun j σ H' => ∃ (v4 v5 v6 v7 v8 v9 : Option V), σ = [some (.ref aO), some (.ref p0), some (.ref ap), some (.ref D), v4, v5, v6, v7, v8, v9] ∧ But p0 H7 H' ∧
        Eds H' p0 (edgesAll (os.take i) ++ (((ps.map bdp).zip (rot (ps.map bdp))).take j).filterMap fun x => mkE x.1 x.2)) ⟨_, _, _, _, _, _, rfl, But.refl _ _, es, ge7, by rw [List.take_zero, List.filterMap_nil, List.append_nil]; exact he.mono (EdV.mono s27)⟩ ?_ ?_ ?_
      · rintro j σ H' _ ⟨_, _, _, _, _, _, _, bt, _⟩
        exact ⟨bt _ _ ne_gu7 gu7, bt _ _ ne_g7 g7⟩
      · rintro j x σ H' H8 hj ⟨v4, v5, v6, v7, v8, v9, rfl, bt, es', ge', he'⟩ ⟨T, x1, x2, rfl, nT, rfl, hx1, hx2⟩
        obtain ⟨q1, hq1, a1, rfl, ga1⟩ := hu7.at hx1
        obtain ⟨q2, hq2, a2, rfl, ga2⟩ := hr7.at hx2
        have s8 := same_upd nT (o := .tup [.ref a1, .ref a2])
        have ga1' := s8 _ _ (tup_but bt ga1 ge7)
        have ga2' := s8 _ _ (tup_but bt ga2 ge7)
        have gT : upd H' T (.tup [.ref a1, .ref a2]) T = some (.tup [.ref a1, .ref a2]) := upd_same
        have ge8 := s8 _ _ ge'
        have he8 := he'.mono (EdV.mono s8)
        have bt8 := bt.trans (But.ofSame s8)
        generalize upd H' T (.tup [.ref a1, .ref a2]) = H8 at s8 ga1' ga2' gT ge8 he8 bt8 ⊢
        have hz : ((ps.map bdp).zip (rot (ps.map bdp)))[j]? = some (q1, q2) := by rw [List.getElem?_zip_eq_some]; exact ⟨hq1, hq2⟩
        rw [take_succ hz, List.filterMap_append, ← List.append_assoc]
        have hlen : es'.length < 2000000 := by
          rw [he'.len, List.length_append]
          have := List.length_filterMap_le (fun x : Pt × Pt => mkE x.1 x.2) (((ps.map bdp).zip (rot (ps.map bdp))).take j)
          rw [List.length_take] at this
          have hpl := hp.len
          omega
        have hsz : es'.length < sizeLine := Nat.lt_trans hlen (by decide)
        walk_at "vc gT ga1' ga2' ge8"
        refine iteP (fun c1 => ?_) (fun c1 => ?_)
        · intro t H9 s9 n9 g9
          have ge9 := s9 _ _ ge8
          walk_at "vc ge9"
          refine ⟨hsz, (bt8.trans (But.ofSame s9)).put, ?_⟩
          rw [show List.filterMap (fun x : Pt × Pt => mkE x.1 x.2) [(q1, q2)] = [(q1.1, q1.2, q2.1, q2.2)] by simp [mkE, c1]]
          exact Eds.put ge9 (he8.mono (EdV.mono s9)) ⟨t, rfl, g9⟩ rfl
        · refine iteP (fun c2 => ?_) (fun c2 => ?_)
          · intro t H9 s9 n9 g9
            have ge9 := s9 _ _ ge8
            walk_at "vc ge9"
            refine ⟨hsz, (bt8.trans (But.ofSame s9)).put, ?_⟩
            rw [show List.filterMap (fun x : Pt × Pt => mkE x.1 x.2) [(q1, q2)] = [(q2.1, q2.2, q1.1, q1.2)] by simp [mkE, c1, c2]]
            exact Eds.put ge9 (he8.mono (EdV.mono s9)) ⟨t, rfl, g9⟩ rfl
          · refine ⟨bt8, ?_⟩
            rw [show List.filterMap (fun x : Pt × Pt => mkE x.1 x.2) [(q1, q2)] = [] by simp [mkE, c1, c2], List.append_nil]
            exact ⟨es', ge8, he8⟩
      · rintro σ H' ⟨v4, v5, v6, v7, v8, v9, rfl, bt, he'⟩
        refine ⟨⟨_, _, _, _, _, _, _, _, rfl⟩, But.same (sm.trans s27) bt n1, ?_⟩
        rw [List.take_of_length_le (l := (ps.map bdp).zip (rot (ps.map bdp))) (by rw [List.length_zip, List.length_map, hul]; exact Nat.min_le_left _ _)] at he'
        exact he'
    · rintro σ H' ⟨v2, v3, v4, v5, v6, v7, v8, v9, rfl, sm, he⟩
      walk_at "vc"
      rw [hO.len, List.take_length] at he
      exact q _ p0 sm n1 he
/-! ### a row of cells -/
def hitE (y : Int) (e : Edge) : Bool := decide (e.2.1 ≤ y ∧ y < e.2.2.2)
def fcE (y : Int) (w : Nat) (e : Edge) : Int :=
  mn (mx (-((2 * (e.2.2.2 - e.2.1) - (e.1 * (e.2.2.2 - e.2.1) + (y - e.2.1) * (e.2.2.1 - e.1))) / (4 * (e.2.2.2 - e.2.1)))) 0) w
def EdOk (e : Edge) : Prop := (-1048576 ≤ e.1 ∧ e.1 ≤ 1048576) ∧ (-1048576 ≤ e.2.1 ∧ e.2.1 ≤ 1048576) ∧ (-1048576 ≤ e.2.2.1 ∧ e.2.2.1 ≤ 1048576) ∧ (-1048576 ≤ e.2.2.2 ∧ e.2.2.2 ≤ 1048576)
def sp__first_column (K : PySem.W.Frag) : Sp := fun vs H Q _ => ∃ (a : Addr) (e : Edge) (y : Int) (w : Nat), vs = [.ref a, .int y, .int (w : Int)] ∧ (H a = some (.tup [.int e.1, .int e.2.1, .int e.2.2.1, .int e.2.2.2])) ∧ (hitE y e = true) ∧ (EdOk e) ∧ (Q (.int (fcE y w e)) H)
theorem ok__first_column (T : Txt K mg) : FnOk P w K mg base CX0 1 T.f__first_column T.fd__first_column ["edge", "y", "width"] (sp__first_column K) := by
  refine T.F__first_column.ok sc__first_column (fun vs H Q E h => ?_) (fun cdv A outer s H vs Q E hr h => ?_)
  · obtain ⟨a, e, y, w, rfl, _⟩ := h
    rfl
  · obtain ⟨a, e, y, w, rfl, ha, hh, ho, q⟩ := h
    refine ⟨_, (pss_cons (ps_asg (pv 0) (pg_tupS (n := 4) (by rfl) (pgs_cons (pg_name (i := 3) sc__first_column.nd rfl (Or.inl rfl)) (pgs_cons (pg_name (i := 4) sc__first_column.nd rfl (Or.inl rfl)) (pgs_cons (pg_name (i := 5) sc__first_column.nd rfl (Or.inl rfl)) (pgs_cons (pg_name (i := 6) sc__first_column.nd rfl (Or.inl rfl)) pgs_nil))))))
      (pss_cons (ps_set (i := 7) sc__first_column.nd rfl (Or.inl rfl) (pe_op op_sub (pv 6) (pv 4)))
      (pss_cons (ps_set (i := 8) sc__first_column.nd rfl (Or.inl rfl) (pe_op op_add (pe_op op_mul (pv 3) (pv 7)) (pe_op op_mul (pe_op op_sub (pv 1) (pv 4)) (pe_op op_sub (pv 5) (pv 3)))))
      (pss_cons (ps_set (i := 9) sc__first_column.nd rfl (Or.inl rfl) (pe_un un_neg (pe_op op_fdiv (pe_op op_sub (pe_op op_mul pe_int (pv 7)) (pv 8)) (pe_op op_mul pe_int (pv 7)))))
      (pss_one (ps_ret (pe_callB (call_min2 rfl) (by rfl) T.z_min (by decide +kernel) (pa_cons (pe_callB (call_max2 rfl) (by rfl) T.z_max (by decide +kernel) (pa_cons (pv 9) (pa_cons pe_int pa_nil))) (pa_cons (pv 2) pa_nil))))))))), ?_⟩
    have hh := of_decide_eq_true hh
    obtain ⟨h1, h2, h3, h4⟩ := ho
    walk_at "vc ha"
    exact ⟨.inr ⟨by omega, by omega⟩, .inr ⟨by omega, by omega⟩, by omega, by omega, q⟩
theorem fcE_in (y : Int) (w : Nat) (e : Edge) : 0 ≤ fcE y w e ∧ fcE y w e ≤ w := by
  unfold fcE mn mx
  repeat' split
  all_goals omega
def parE (es : List Edge) (y : Int) (w : Nat) (c : Nat) : Bool := decide ((es.countP fun e => hitE y e && decide (fcE y w e ≤ c)) % 2 = 1)
def cntE (y : Int) (w : Nat) (j : Nat) (e : Edge) : Bool := hitE y e && decide (fcE y w e = (j : Int))
theorem cnt_succ (es : List Edge) (y : Int) (w j : Nat) : es.countP (fun e => hitE y e && decide (fcE y w e < (j : Int) + 1)) = es.countP (fun e => hitE y e && decide (fcE y w e < (j : Int))) + es.countP (cntE y w j) := by
  induction es with
  | nil => rfl
  | cons e r ih =>
    rw [List.countP_cons, List.countP_cons, List.countP_cons, ih]
    unfold cntE
    by_cases h : hitE y e = true
    · rw [h]
      by_cases h1 : fcE y w e < (j : Int)
      · simp only [Bool.true_and, decide_eq_true_eq, h1, show fcE y w e < (j : Int) + 1 by omega, show ¬ fcE y w e = (j : Int) by omega, if_true, if_false]
        omega
      · by_cases h2 : fcE y w e = (j : Int)
        · simp only [Bool.true_and, decide_eq_true_eq, h1, h2, show (j : Int) < (j : Int) + 1 by omega, show ¬ (j : Int) < (j : Int) by omega, if_true, if_false]
          omega
        · simp only [Bool.true_and, decide_eq_true_eq, h1, h2, show ¬ fcE y w e < (j : Int) + 1 by omega, if_false]
          rfl
    · simp only [Bool.not_eq_true] at h
      simp [h]
def sp__inside_row (K : PySem.W.Frag) : Sp := fun vs H Q _ => ∃ (aE : Addr) (es : List Edge) (y : Int) (w : Nat), vs = [.ref aE, .int y, .int (w : Int)] ∧ (Eds H aE es) ∧ (∀ e ∈ es, EdOk e ∧ hitE y e = true) ∧ (w ≤ 1000) ∧ (∀ H' p, Same H H' → H p = none → H' p = some (.lst ((List.range w).map fun c => V.bl (parE es y w c))) → Q (.ref p) H')
theorem ok__inside_row (T : Txt K mg) : FnOk P w K mg base CX0 2 T.f__inside_row T.fd__inside_row ["crossed", "y", "width"] (sp__inside_row K) := by
  refine T.F__inside_row.ok sc__inside_row (fun vs H Q E h => ?_) (fun cdv A outer s H vs Q E hr h => ?_)
  · obtain ⟨aE, es, y, w, rfl, _⟩ := h
    rfl
  · obtain ⟨aE, es, y, w, rfl, hE, ho, hw, q⟩ := h
    refine ⟨_, (pss_cons (ps_set (i := 3) sc__inside_row.nd rfl (Or.inl rfl) (pe_op op_repS (pe_lstS (pa_cons pe_int pa_nil)) (pe_op op_add (pv 2) pe_int)))
      (pss_cons (ps_for PassesOwn.never rfl (pi_listS (pv 0)) (pg_name (i := 4) sc__inside_row.nd rfl (Or.inl rfl)) (pss_one (ps_augS (pv 3) (pe_call (ok__first_column T) hr (by rfl) T.g__first_column T.F__first_column.kp T.b__first_column .nil pass0 (pa_cons (pv 4) (pa_cons (pv 1) (pa_cons (pv 2) pa_nil)))) pget_list pe_int ip_add set_list)))
      (pss_cons (ps_set (i := 5) sc__inside_row.nd rfl (Or.inl rfl) (pe_lstS pa_nil))
      (pss_cons (ps_set (i := 6) sc__inside_row.nd rfl (Or.inl rfl) pe_int)
      (pss_cons (ps_for PassesOwn.never rfl (pi_listS (pe_slice sl_listS (pv 3) po_none (po_some (pv 2)))) (pg_name (i := 7) sc__inside_row.nd rfl (Or.inl rfl)) (pss_cons (ps_aug (i := 6) sc__inside_row.nd rfl (Or.inl rfl) (pv 7) ip_add)
      (pss_one (ps_expr (pe_ml (pe_bm PySem.F.plainAttrs_list PySem.F.slot_list_append PySem.F.type_list_append mt_append (pe_mono (pv 5)) (pa_cons (pe_cmpR op_eq (pe_op op_and (pv 6) pe_int) pe_int (nomark _)) pa_nil)))))))
      (pss_one (ps_ret (pv 5)))))))), ?_⟩
    obtain ⟨vs, gE, hE⟩ := hE
    walk_at "vc"
    intro p1 H1 s1 n1 g1
    walk_at "vc g1"
    refine ⟨by omega, by omega, fun pB H2 s2 n2 gB => ?_⟩
    have s12 := s1.trans s2
    have nB := s1.free n2
    rw [show ((w : Int) + 1).toNat = w + 1 by omega] at gB
    walk_at "n s12 2 gE"
    walk_at "vc gE2"
    refine lpW (walkL (xs := vs)) (fun i σ H' => ∃ (v4 v5 v6 v7 : Option V) (B : List Int), σ = [some (.ref aE), some (.int y), some (.int (w : Int)), some (.ref pB), v4, v5, v6, v7] ∧ Same H H' ∧ H' pB = some (.lst (List.map V.int B)) ∧ B.length = w + 1 ∧ ∀ j, j ≤ w → B[j]? = some (((es.take i).countP (cntE y w j) : Nat) : Int)) ⟨_, _, _, _, List.replicate (w + 1) 0, rfl, s12, by rw [gB, List.map_replicate], by rw [List.length_replicate], fun j hj => by rw [List.take_zero, List.countP_nil, List.getElem?_replicate, if_pos (by omega)]; rfl⟩ ?_ ?_ ?_
    · rintro i σ H' _ ⟨_, _, _, _, _, _, sm, _⟩
      exact sm _ _ gE
    · rintro i x σ H' H3 hi ⟨v4, v5, v6, v7, B, rfl, sm, gp, hl, hB⟩ ⟨rfl, hx⟩
      obtain ⟨e, he, ae, rfl, ga⟩ := hE.at hx
      have ga3 := sm _ _ ga
      obtain ⟨hok, hit⟩ := ho e (List.mem_of_getElem? he)
      walk_at "vc"
      refine ⟨ae, e, y, w, rfl, ga3, hit, hok, ?_⟩
      obtain ⟨f0, f1⟩ := fcE_in y w e
      obtain ⟨k, hk⟩ := natOf f0
      have hkw : k ≤ w := by omega
      have hBk := hB k hkw
      have hck : cntE y w k e = true := by unfold cntE; rw [hit, hk]; simp
      rw [hk]
      walk_at "vc gp"
      refine ⟨by omega, by omega, _, by rw [List.getElem?_map, hBk]; rfl, _, rfl, k, ?_, same_upd2 sm nB, hl, fun j hj => ?_⟩
      · rw [ixN_in (by omega) (by omega)]
        rfl
      · rw [take_succ he, List.countP_append, List.countP_cons, List.countP_nil]
        by_cases hjk : j = k
        · subst hjk
          rw [List.getElem?_set_self (by omega), hck]
          rfl
        · have hcj : cntE y w j e = false := by
            unfold cntE
            rw [hk, decide_eq_false (show ¬ (k : Int) = (j : Int) by omega), Bool.and_false]
          rw [List.getElem?_set_ne (fun z => hjk z.symm), hB j hj, hcj]
          rfl
    · rintro σ H' ⟨v4, v5, v6, v7, B, rfl, sm, gp, hl, hB⟩
      rw [hE.len, List.take_length] at hB
      walk_at "vc"
      intro pI H3 s3 n3 gI
      walk_at "n s3 3 gp"
      walk_at "vc gp3"
      intro pS H4 s4 n4 gS
      rw [cutI_take] at gS
      walk_at "vc gS"
      have sI : H pI = none := sm.free n3
      have neS : pI ≠ pS := ne_of_none gI n4
      have s34 := s3.trans s4
      have hBl : (B.take w).length = w := by rw [List.length_take, hl]; omega
      refine lpW (walkI (ns := B.take w)) (fun i σ H' => ∃ (v7 : Option V), σ = [some (.ref aE), some (.int y), some (.int (w : Int)), some (.ref pB), v4, some (.ref pI), some (.int ((es.countP (fun e => hitE y e && decide (fcE y w e < (i : Int))) : Nat) : Int)), v7] ∧ Same H H' ∧ H' pS = some (.lst (List.map V.int (B.take w))) ∧
        H' pI = some (.lst ((List.range i).map fun c => V.bl (parE es y w c)))) ⟨v7, ?_, sm.trans s34, gS, s4 _ _ gI⟩ ?_ ?_ ?_
      · rw [List.countP_eq_zero.mpr]
        · rfl
        · intro e _ z
          have := (fcE_in y w e).1
          simp only [Bool.and_eq_true, decide_eq_true_eq] at z
          omega
      · rintro i σ H' _ ⟨_, _, _, g, _⟩
        exact g
      · rintro i x σ H' H5 hi ⟨v7, rfl, sm, gS, gI⟩ ⟨rfl, b, hb, rfl⟩
        rw [hBl] at hi
        rw [List.getElem?_take, if_pos hi, hB i (by omega)] at hb
        obtain rfl := Option.some.inj hb
        walk_at "vc gI"
        have hcs := cnt_succ es y w i
        refine ⟨by rw [List.length_range]; exact Nat.lt_of_lt_of_le (show i < 1001 by omega) (by decide), by rw [hcs]; omega, same_upd2 sm sI, by rw [upd_ne neS.symm]; exact gS, ?_⟩
        have e1 : (fun e => hitE y e && decide (fcE y w e ≤ (i : Int))) = fun e => hitE y e && decide (fcE y w e < (i : Int) + 1) := funext fun e => by
          congr 1
          exact decide_eq_decide.mpr (by omega)
        have ep : parE es y w i = decide ((((es.countP fun e => hitE y e && decide (fcE y w e < (i : Int))) : Int) + (es.countP (cntE y w i) : Int)) % 2 = 1) := by
          unfold parE
          rw [e1, hcs]
          exact decide_eq_decide.mpr (by omega)
        rw [List.range_succ, List.map_append, List.map_cons, List.map_nil, ep]
      · rintro σ H' ⟨v7, rfl, sm, gS, gI⟩
        rw [hBl] at gI
        walk_at "vc"
        exact q _ pI sm sI gI
/-! ### filling -/
def fcell (es : List Edge) (col : Int) (w r : Nat) (p : List Int) (c : Nat) : List Int := if parE es (4 * (r : Int) + 2) w c = true then p.set (r * w + c) col else p
def frow (es : List Edge) (col : Int) (w : Nat) (cols : List Nat) (p : List Int) (r : Nat) : List Int := cols.foldl (fcell es col w r) p
def fil (es : List Edge) (c0 c1 c2 c3 col : Int) (w h : Nat) (cs : List Int) : List Int := (wi c1 c3 h).foldl (frow es col w (wi c0 c2 w)) cs
theorem foldl_same0 {α β : Type} {f : α → β → α} {l : List β} (h : ∀ a, ∀ b ∈ l, f a b = a) : ∀ a, l.foldl f a = a := by
  induction l with
  | nil => exact fun _ => rfl
  | cons x r ih => exact fun a => by rw [List.foldl_cons, h a x List.mem_cons_self]; exact ih (fun a b hb => h a b (List.mem_cons_of_mem _ hb)) a
theorem parE_filter (es : List Edge) (y : Int) (w c : Nat) : parE (es.filter (hitE y)) y w c = parE es y w c := by
  unfold parE
  rw [List.countP_filter, show (fun a => hitE y a && decide (fcE y w a ≤ ↑c) && hitE y a) = fun e => hitE y e && decide (fcE y w e ≤ ↑c) from funext fun e => by cases hitE y e <;> simp]
theorem parE_nil (y : Int) (w c : Nat) : parE [] y w c = false := rfl
theorem frow_none {es : List Edge} {col : Int} {w : Nat} (cols : List Nat) (p : List Int) (r : Nat) (h : es.filter (hitE (4 * (r : Int) + 2)) = []) : frow es col w cols p r = p := by
  unfold frow
  refine foldl_same0 (fun p c _ => ?_) p
  unfold fcell
  rw [← parE_filter, h, parE_nil]
  rfl
theorem Eds.putF {H H' : Hp} {p0 : Addr} {es : List V} {l : List Edge} {e : Edge} {v : V} (ge : H p0 = some (.lst es)) (he : All2 (EdV H) es l) (hv : EdV H v e) (h : H' = upd H p0 (.lst (es ++ [v]))) : Eds H' p0 (l ++ [e]) := Eds.put ge he hv h
theorem fcell_len {es : List Edge} {col : Int} {w r : Nat} (p : List Int) (c : Nat) : (fcell es col w r p c).length = p.length := by
  unfold fcell
  split
  · rw [List.length_set]
  · rfl
theorem frow_len {es : List Edge} {col : Int} {w : Nat} {cols : List Nat} (p : List Int) (r : Nat) : (frow es col w cols p r).length = p.length := foldl_len fcell_len cols p
theorem fil_len (es : List Edge) (c0 c1 c2 c3 col : Int) (w h : Nat) (cs : List Int) : (fil es c0 c1 c2 c3 col w h cs).length = cs.length := foldl_len frow_len _ cs
theorem edges_ok (os : List (List Pt)) : ∀ e ∈ edgesAll os, EdOk e := by
  intro e he
  obtain ⟨ps, _, h2⟩ := List.mem_flatMap.mp he
  obtain ⟨⟨p, q⟩, h3, h4⟩ := List.mem_filterMap.mp h2
  have hm := List.of_mem_zip h3
  have hp : ∀ x ∈ ps.map bdp, (-1048576 ≤ x.1 ∧ x.1 ≤ 1048576) ∧ (-1048576 ≤ x.2 ∧ x.2 ≤ 1048576) := fun x hx => by
    obtain ⟨z, _, rfl⟩ := List.mem_map.mp hx
    exact ⟨bd_in _, bd_in _⟩
  have h1 := hp p hm.1
  have h5 : (-1048576 ≤ q.1 ∧ q.1 ≤ 1048576) ∧ (-1048576 ≤ q.2 ∧ q.2 ≤ 1048576) := by
    rcases List.mem_append.mp hm.2 with z | z
    · exact hp q (List.mem_of_mem_drop z)
    · exact hp q (List.mem_of_mem_take z)
  unfold mkE at h4
  split at h4
  · obtain rfl := Option.some.inj h4
    exact ⟨h1.1, h1.2, h5.1, h5.2⟩
  · split at h4
    · obtain rfl := Option.some.inj h4
      exact ⟨h5.1, h5.2, h1.1, h1.2⟩
    · cases h4
def sp_fill (K : PySem.W.Frag) : Sp := fun vs H Q _ => ∃ (aG aC aK aO : Addr) (w h : Nat) (cs : List Int) (c0 c1 c2 c3 col : Int) (os : List (List Pt)), vs = [.ref aG, .ref aK, .ref aO, .int col] ∧ (H aG = some (.tup [.int (w : Int), .int (h : Int), .ref aC])) ∧ (H aC = some (.lst (List.map V.int cs))) ∧ (H aK = some (.tup [.int c0, .int c1, .int c2, .int c3])) ∧ (Outs H aO os) ∧ (cs.length = w * h) ∧ (w ≤ 100) ∧ (h ≤ 100) ∧ (os.length ≤ 1000 ∧ ∀ ps ∈ os, ps.length ≤ 1000) ∧ (∀ H' p c, Same H H' → H p = none → H c = none → H' p = some (.tup [.int (w : Int), .int (h : Int), .ref c]) → H' c = some (.lst (List.map V.int (fil (edgesAll os) c0 c1 c2 c3 col w h cs))) → Q (.ref p) H')
theorem ok_fill (T : Txt K mg) : FnOk P w K mg base CX0 3 T.f_fill T.fd_fill ["grid", "clip", "outlines", "colour"] (sp_fill K) := by
  refine T.F_fill.ok sc_fill (fun vs H Q E h => ?_) (fun cdv A outer s H vs Q E hr h => ?_)
  · obtain ⟨aG, aC, aK, aO, w, h, cs, c0, c1, c2, c3, col, os, rfl, _⟩ := h
    rfl
  · obtain ⟨aG, aC, aK, aO, w, h, cs, c0, c1, c2, c3, col, os, rfl, hG, hC, hK, hO, hl, hw, hh, hn, q⟩ := h
    refine ⟨_, (pss_cons (ps_asg (pv 0) (pg_tupS (n := 3) (by rfl) (pgs_cons (pg_name (i := 4) sc_fill.nd rfl (Or.inl rfl)) (pgs_cons (pg_name (i := 5) sc_fill.nd rfl (Or.inl rfl)) (pgs_cons (pg_name (i := 6) sc_fill.nd rfl (Or.inl rfl)) pgs_nil)))))
      (pss_cons (ps_set (i := 7) sc_fill.nd rfl (Or.inl rfl) (pe_call (ok__within T) hr (by rfl) T.g__within T.F__within.kp T.b__within .nil pass0 (pa_cons (pe_ix ix_tupH (pv 1) pe_int (fun _ _ => rfl)) (pa_cons (pe_ix ix_tupH (pv 1) pe_int (fun _ _ => rfl)) (pa_cons (pv 4) pa_nil)))))
      (pss_cons (ps_set (i := 8) sc_fill.nd rfl (Or.inl rfl) (pe_call (ok__edges T) hr (by rfl) T.g__edges T.F__edges.kp T.b__edges .nil pass0 (pa_cons (pv 2) pa_nil)))
      (pss_cons (ps_set (i := 9) sc_fill.nd rfl (Or.inl rfl) (pe_callTy call_listS (by rfl) T.z_list (by decide +kernel) (pa_cons (pv 6) pa_nil)))
      (pss_cons (ps_for PassesOwn.never rfl (pi_listS (pe_call (ok__within T) hr (by rfl) T.g__within T.F__within.kp T.b__within .nil pass0 (pa_cons (pe_ix ix_tupH (pv 1) pe_int (fun _ _ => rfl)) (pa_cons (pe_ix ix_tupH (pv 1) pe_int (fun _ _ => rfl)) (pa_cons (pv 5) pa_nil))))) (pg_name (i := 10) sc_fill.nd rfl (Or.inl rfl)) (pss_cons (ps_set (i := 11) sc_fill.nd rfl (Or.inr rfl) (pe_call (ok_middle T) (hr.mono (by decide)) (by rfl) T.g_middle T.F_middle.kp T.b_middle .nil pass0 (pa_cons (pv 10) pa_nil)))
      (pss_cons (ps_setLc (i := 12) (own := [("edge", 13)]) (g := (gName 13)) rfl sc_fill.nd rfl rfl (sw_true rfl rfl rfl (by decide +kernel)) (pi_listS (pv 8)) (blkOk_by (own := [("edge", 13)]) (N := ["grid", "clip", "outlines", "colour", "width", "height", "cells", "columns", "edges", "painted", "row", "y", "crossed", "edge", "inside", "column"]) (sc := defScope s_fill) (by decide +kernel)) (fun _ _ _ _ _ => (pg_name (i := 13) sc_fill.nd rfl (Or.inl rfl))) (fun _ _ _ _ _ => (pts_one (pt_chain op_le op_lt (pe_ix ix_tupH (pv 13) pe_int (fun _ _ => rfl)) (pv 11) (pe_ix ix_tupH (pv 13) pe_int (fun _ _ => rfl))))) (fun _ _ _ _ _ => (pv 13)))
      (pss_one (ps_if (pt_truthL (pv 12) (by intro _; rfl)) (pss_cons (ps_set (i := 14) sc_fill.nd rfl (Or.inl rfl) (pe_call (ok__inside_row T) hr (by rfl) T.g__inside_row T.F__inside_row.kp T.b__inside_row .nil pass0 (pa_cons (pv 12) (pa_cons (pv 11) (pa_cons (pv 4) pa_nil)))))
      (pss_one (ps_for PassesOwn.never rfl (pi_listS (pv 7)) (pg_name (i := 15) sc_fill.nd rfl (Or.inl rfl)) (pss_one (ps_if (pt_val (pe_ix ix_listH (pv 14) (pv 15) (fun _ _ => rfl))) (pss_one (ps_asg (pv 3) (pg_sub (pv 9) (pe_op op_add (pe_op op_mul (pv 10) (pv 4)) (pv 15)) set_list))) pss_nil))))) pss_nil)))))
      (pss_one (ps_ret (pe_tupS (pa_cons (pv 4) (pa_cons (pv 5) (pa_cons (pv 9) pa_nil))))))))))), ?_⟩
    walk_at "vc hG hK sp__within"
    refine ⟨by omega, fun H1 pC s1 n1 gC => ?_⟩
    walk_at "c s1 hG hC hK"
    have hO := hO.mono s1
    refine ⟨aO, os, rfl, hO, hn, fun H2 pE s2 n2 gE => ?_⟩
    walk_at "c s2 hG hC hK gC"
    walk_at "vc hC"
    intro pP H3 s3 n3 gP
    walk_at "n s3 3 hK"
    walk_at "vc hK3 sp__within"
    refine ⟨by omega, fun H4 pR s4 n4 gR => ?_⟩
    have neR : pP ≠ pR := ne_of_none gP n4
    have s24 := s3.trans s4
    have s02 := s1.trans s2
    walk_at "vc gR"
    refine lpW (walkN (l := wi c1 c3 h)) (fun i σ H' => ∃ (v10 v11 v12 v13 v14 v15 : Option V), σ = [some (.ref aG), some (.ref aK), some (.ref aO), some (.int col), some (.int (w : Int)), some (.int (h : Int)), some (.ref aC), some (.ref pC), some (.ref pE), some (.ref pP), v10, v11, v12, v13, v14, v15] ∧ Same H2 H' ∧ H' pR = some (.lst (natV (wi c1 c3 h))) ∧
      H' pP = some (.lst (List.map V.int (((wi c1 c3 h).take i).foldl (frow (edgesAll os) col w (wi c0 c2 w)) cs)))) ⟨_, _, _, _, _, _, rfl, s24, gR, s4 _ _ gP⟩ ?_ ?_ ?_
    · rintro i σ H' _ ⟨_, _, _, _, _, _, _, _, g, _⟩
      exact g
    · rintro i x σ H' H5 hi ⟨v10, v11, v12, v13, v14, v15, rfl, sm, gR, gP⟩ ⟨rfl, r, hr, rfl⟩
      obtain ⟨hrh, hry⟩ := wi_at hr
      rw [foldl_take _ _ hr]
      have hpl : (((wi c1 c3 h).take i).foldl (frow (edgesAll os) col w (wi c0 c2 w)) cs).length = w * h := by rw [foldl_len frow_len, hl]
      generalize ((wi c1 c3 h).take i).foldl (frow (edgesAll os) col w (wi c0 c2 w)) cs = p0 at hpl gP ⊢
      obtain ⟨vE, gE5, hE5⟩ := gE.mono sm
      have hEl : vE.length < 2000000 := by rw [hE5.len]; have := edgesAll_len os hn.2; have := hn.1; omega
      walk_at "vc sp_middle gE5"
      refine lcW (walkL (xs := vE)) (fun D j H6 => Same H5 H6 ∧ ∃ us, H6 D = some (.lst us) ∧ All2 (EdV H6) us (((edgesAll os).take j).filter (hitE (4 * (r : Int) + 2))) ∧ us.length ≤ j) (fun D H6 s6 n6 g6 => ⟨s6, [], g6, .nil, Nat.le_refl _⟩) (fun D j H6 _ _ h => h.1 _ _ gE5) (fun D j y H6 H7 hj n6 h y7 => ?_) (fun D H6 n6 h => ?_)
      · obtain ⟨rfl, hy⟩ := y7
        obtain ⟨s6, us, gu, hu, hul⟩ := h
        obtain ⟨e, he, ae, rfl, ga⟩ := hE5.at hy
        have ga6 := s6 _ _ ga
        have hun : us.length < sizeLine := cnt_lt (by omega)
        walk_at "vc ga6 gu"
        rw [take_succ he, List.filter_append]
        have skip : hitE (4 * (r : Int) + 2) e = false → All2 (EdV H7) us (((edgesAll os).take j).filter (hitE (4 * (r : Int) + 2)) ++ [e].filter (hitE (4 * (r : Int) + 2))) ∧ us.length ≤ j + 1 := fun z => by
          rw [List.filter_cons, z]
          exact ⟨by rw [show (if false = true then e :: List.filter (hitE (4 * (r : Int) + 2)) [] else List.filter (hitE (4 * (r : Int) + 2)) []) = [] from rfl, List.append_nil]; exact hu, by omega⟩
        refine iteP (fun k1 => iteP (fun k2 => ?_) (fun k2 => ⟨s6, skip (decide_eq_false fun z => k2 z.2)⟩)) (fun k1 => ⟨s6, skip (decide_eq_false fun z => k1 z.1)⟩)
        have hit : hitE (4 * (r : Int) + 2) e = true := decide_eq_true ⟨k1, k2⟩
        refine ⟨hun, same_upd2 s6 n6, ?_, by omega⟩
        rw [List.filter_cons, hit]
        exact (hu.mono (fun v p z => EdV.upd gu v p z)).snoc (EdV.upd gu _ _ ⟨ae, rfl, ga6⟩)
      obtain ⟨s6, us, gu, hu, hul⟩ := h
      rw [hE5.len, List.take_length] at hu
      have hux : us = [] ∨ 0 < us.length := by
        cases us with
        | nil => exact .inl rfl
        | cons _ _ => exact .inr (Nat.succ_pos _)
      walk_at "c s6 gR gP"
      have sm6 := sm.trans s6
      walk_at "vc gu"
      refine iteP (fun hpos => ?_) (fun hpos => ?_)
      · refine ⟨D, (edgesAll os).filter (hitE (4 * (r : Int) + 2)), 4 * (r : Int) + 2, w, rfl, ⟨us, gu, hu⟩, fun e he => ⟨edges_ok os e ((List.mem_filter.mp he).1), (List.mem_filter.mp he).2⟩, by omega, fun H7 pI s7 n7 gI => ?_⟩
        rw [show (fun c => V.bl (parE ((edgesAll os).filter (hitE (4 * (r : Int) + 2))) (4 * (r : Int) + 2) w c)) = fun c => V.bl (parE (edgesAll os) (4 * (r : Int) + 2) w c) from funext fun c => by rw [parE_filter]] at gI
        have neI : pP ≠ pI := ne_of_none gP n7
        walk_at "n sm6 6 gC"
        walk_at "c s7 gC6 gR gP"
        have sm7 := sm6.trans s7
        walk_at "vc gC6"
        refine lpW (walkN (l := wi c0 c2 w)) (fun j σ H' => ∃ (v13 v15 : Option V), σ = [some (.ref aG), some (.ref aK), some (.ref aO), some (.int col), some (.int (w : Int)), some (.int (h : Int)), some (.ref aC), some (.ref pC), some (.ref pE), some (.ref pP), some (.int (r : Int)), some (.int (4 * (r : Int) + 2)), some (.ref D), v13, some (.ref pI), v15] ∧ Same H2 H' ∧ H' pR = some (.lst (natV (wi c1 c3 h))) ∧
          H' pI = some (.lst ((List.range w).map fun c => V.bl (parE (edgesAll os) (4 * (r : Int) + 2) w c))) ∧ H' pP = some (.lst (List.map V.int (((wi c0 c2 w).take j).foldl (fcell (edgesAll os) col w r) p0)))) ⟨_, _, rfl, sm7, gR, gI, gP⟩ ?_ ?_ ?_
        · rintro j σ H' _ ⟨_, _, _, s, _⟩
          exact s _ _ gC
        · rintro j x σ H' H7 hj ⟨v13, v15, rfl, sm, gR, gI, gP⟩ ⟨rfl, c, hc, rfl⟩
          obtain ⟨hcw, hcx⟩ := wi_at hc
          rw [foldl_take _ _ hc]
          have hpl2 : (((wi c0 c2 w).take j).foldl (fcell (edgesAll os) col w r) p0).length = w * h := by rw [foldl_len fcell_len, hpl]
          generalize ((wi c0 c2 w).take j).foldl (fcell (edgesAll os) col w r) p0 = p1 at hpl2 gP ⊢
          walk_at "vc gI gP"
          refine ⟨_, atI_nat (j := c) (by rw [List.getElem?_map, List.getElem?_range hcw]; rfl), _, rfl, ?_⟩
          unfold fcell
          have hix := ix_in hrh hcw
          refine iteP (fun e => ?_) (fun e => ?_)
          · rw [if_pos e]
            refine ⟨.inr ⟨by omega, by omega⟩, r * w + c, ?_, same_upd2 sm n3, by rw [upd_ne neR.symm]; exact gR, by rw [upd_ne neI.symm]; exact gI, rfl⟩
            rw [ixN_in (by omega) (by rw [hpl2]; omega)]
            congr 1
          · rw [if_neg e]
            exact ⟨sm, gR, rfl⟩
        · rintro σ H' ⟨v13, v15, rfl, sm, gR, gI, gP⟩
          rw [List.take_length] at gP
          exact ⟨⟨_, _, _, _, _, _, rfl⟩, sm, gR, gP⟩
      · have hn0 : us.length = 0 := by omega
        rw [hu.len] at hn0
        rw [frow_none _ _ _ (List.eq_nil_of_length_eq_zero hn0)]
        exact ⟨sm6, gR, gP⟩
    · rintro σ H' ⟨v10, v11, v12, v13, v14, v15, rfl, sm, gR, gP⟩
      rw [List.take_length] at gP
      walk_at "vc"
      intro p5 H6 s6 n6 g6
      have s06 := s02.trans sm
      exact q _ p5 pP (s06.trans s6) (s06.free n6) (s02.free n3) g6 (s6 _ _ gP)

/-! ### a picture at a place -/
def sidx (x0 y0 x1 y1 : Int) (aw ah r c : Nat) : Int := (4 * (r : Int) + 2 - y0) * ah / (y1 - y0) * aw + (4 * (c : Int) + 2 - x0) * aw / (x1 - x0)
def pcell (x0 y0 x1 y1 : Int) (aw ah : Nat) (src : List Int) (w r : Nat) (p : List Int) (c : Nat) : List Int :=
  if gN src (sidx x0 y0 x1 y1 aw ah r c).toNat = -1 then p else p.set (r * w + c) (gN src (sidx x0 y0 x1 y1 aw ah r c).toNat)
def prow (x0 y0 x1 y1 : Int) (aw ah : Nat) (src : List Int) (w : Nat) (cols : List Nat) (p : List Int) (r : Nat) : List Int := cols.foldl (pcell x0 y0 x1 y1 aw ah src w r) p
def plc (x0 y0 x1 y1 c0 c1 c2 c3 : Int) (aw ah : Nat) (src : List Int) (w h : Nat) (cs : List Int) : List Int :=
  (wi (mx y0 c1) (mn y1 c3) h).foldl (prow x0 y0 x1 y1 aw ah src w (wi (mx x0 c0) (mn x1 c2) w)) cs
def Grid (H : Hp) (a c : Addr) (w h : Nat) (cs : List Int) : Prop := H a = some (.tup [.int (w : Int), .int (h : Int), .ref c]) ∧ H c = some (.lst (List.map V.int cs))
theorem sidx_in {x0 y0 x1 y1 : Int} {aw ah r c : Nat} (hy : y0 ≤ 4 * (r : Int) + 2 ∧ 4 * (r : Int) + 2 < y1) (hx : x0 ≤ 4 * (c : Int) + 2 ∧ 4 * (c : Int) + 2 < x1) (h1 : 1 ≤ aw) (h2 : 1 ≤ ah) :
    0 ≤ sidx x0 y0 x1 y1 aw ah r c ∧ sidx x0 y0 x1 y1 aw ah r c < ((aw * ah : Nat) : Int) := by
  have a := div_in (a := 4 * (r : Int) + 2 - y0) (d := y1 - y0) (n := ah) (by omega) (by omega) h2
  have b := div_in (a := 4 * (c : Int) + 2 - x0) (d := x1 - x0) (n := aw) (by omega) (by omega) h1
  unfold sidx
  generalize (4 * (r : Int) + 2 - y0) * ah / (y1 - y0) = R at a
  generalize (4 * (c : Int) + 2 - x0) * aw / (x1 - x0) = C at b
  obtain ⟨R', rfl⟩ := Int.eq_ofNat_of_zero_le a.1
  obtain ⟨C', rfl⟩ := Int.eq_ofNat_of_zero_le b.1
  have := ix_in (r := R') (c := C') (w := aw) (h := ah) (by omega) (by omega)
  refine ⟨by have := Int.mul_nonneg a.1 (show (0 : Int) ≤ aw by omega); omega, ?_⟩
  exact_mod_cast this
theorem pcell_len {x0 y0 x1 y1 : Int} {aw ah : Nat} {src : List Int} {w r : Nat} (p : List Int) (c : Nat) : (pcell x0 y0 x1 y1 aw ah src w r p c).length = p.length := by
  unfold pcell
  split
  · rfl
  · rw [List.length_set]
theorem prow_len {x0 y0 x1 y1 : Int} {aw ah : Nat} {src : List Int} {w : Nat} {cols : List Nat} (p : List Int) (r : Nat) : (prow x0 y0 x1 y1 aw ah src w cols p r).length = p.length := foldl_len pcell_len cols p
def sp_place (K : PySem.W.Frag) : Sp := fun vs H Q _ => ∃ (aG aC aK aP aS aB : Addr) (w h aw ah : Nat) (cs src : List Int) (c0 c1 c2 c3 b0 b1 b2 b3 : Int), vs = [.ref aG, .ref aK, .ref aP, .ref aB] ∧ (H aG = some (.tup [.int (w : Int), .int (h : Int), .ref aC])) ∧ (H aC = some (.lst (List.map V.int cs))) ∧ (H aK = some (.tup [.int c0, .int c1, .int c2, .int c3])) ∧ (H aP = some (.tup [.int (aw : Int), .int (ah : Int), .ref aS])) ∧ (H aS = some (.lst (List.map V.int src))) ∧ (H aB = some (.tup (List.map V.int [b0, b1, b2, b3]))) ∧ (cs.length = w * h) ∧ (src.length = aw * ah) ∧ (w ≤ 100) ∧ (h ≤ 100) ∧ (1 ≤ aw ∧ aw ≤ 100) ∧ (1 ≤ ah ∧ ah ≤ 100) ∧ (∀ H' p c, Same H H' → H p = none → H c = none → H' p = some (.tup [.int (w : Int), .int (h : Int), .ref c]) → H' c = some (.lst (List.map V.int (plc (bd b0) (bd b1) (bd b2) (bd b3) c0 c1 c2 c3 aw ah src w h cs))) → Q (.ref p) H')
theorem ok_place (T : Txt K mg) : FnOk P w K mg base CX0 3 T.f_place T.fd_place ["grid", "clip", "picture", "box"] (sp_place K) := by
  refine T.F_place.ok sc_place (fun vs H Q E h => ?_) (fun cdv A outer s H vs Q E hr h => ?_)
  · obtain ⟨aG, aC, aK, aP, aS, aB, w, h, aw, ah, cs, src, c0, c1, c2, c3, b0, b1, b2, b3, rfl, _⟩ := h
    rfl
  · obtain ⟨aG, aC, aK, aP, aS, aB, w, h, aw, ah, cs, src, c0, c1, c2, c3, b0, b1, b2, b3, rfl, hG, hC, hK, hP, hS, hB, hl, hsl, hw, hh, haw, hah, q⟩ := h
    refine ⟨_, (pss_cons (ps_asg (pv 0) (pg_tupS (n := 3) (by rfl) (pgs_cons (pg_name (i := 4) sc_place.nd rfl (Or.inl rfl)) (pgs_cons (pg_name (i := 5) sc_place.nd rfl (Or.inl rfl)) (pgs_cons (pg_name (i := 6) sc_place.nd rfl (Or.inl rfl)) pgs_nil)))))
      (pss_cons (ps_asg (pv 2) (pg_tupS (n := 3) (by rfl) (pgs_cons (pg_name (i := 7) sc_place.nd rfl (Or.inl rfl)) (pgs_cons (pg_name (i := 8) sc_place.nd rfl (Or.inl rfl)) (pgs_cons (pg_name (i := 9) sc_place.nd rfl (Or.inl rfl)) pgs_nil)))))
      (pss_cons (ps_asg (pe_lc (own := [("number", 14)]) (g := (gName 14)) rfl sc_place.nd (pi_tupS (pv 3)) (blkOk_by (own := [("number", 14)]) (N := ["grid", "clip", "picture", "box", "width", "height", "cells", "across", "down", "source", "x0", "y0", "x1", "y1", "number", "columns", "painted", "row", "begin", "column", "cell"]) (sc := defScope s_place) (by decide +kernel)) (fun _ _ _ _ _ => (pg_name (i := 14) sc_place.nd rfl (Or.inl rfl))) (fun _ _ _ _ _ => pts_nil) (fun _ _ _ _ _ => (pe_call (ok_bounded T) (hr.mono (by decide)) (by rfl) T.g_bounded T.F_bounded.kp T.b_bounded .nil pass0 (pa_cons (pv 14) pa_nil)))) (pg_lstS (n := 4) (by rfl) (pgs_cons (pg_name (i := 10) sc_place.nd rfl (Or.inl rfl)) (pgs_cons (pg_name (i := 11) sc_place.nd rfl (Or.inl rfl)) (pgs_cons (pg_name (i := 12) sc_place.nd rfl (Or.inl rfl)) (pgs_cons (pg_name (i := 13) sc_place.nd rfl (Or.inl rfl)) pgs_nil))))))
      (pss_cons (ps_set (i := 15) sc_place.nd rfl (Or.inl rfl) (pe_call (ok__within T) hr (by rfl) T.g__within T.F__within.kp T.b__within .nil pass0 (pa_cons (pe_callB (call_max2 rfl) (by rfl) T.z_max (by decide +kernel) (pa_cons (pv 10) (pa_cons (pe_ix ix_tupH (pv 1) pe_int (fun _ _ => rfl)) pa_nil))) (pa_cons (pe_callB (call_min2 rfl) (by rfl) T.z_min (by decide +kernel) (pa_cons (pv 12) (pa_cons (pe_ix ix_tupH (pv 1) pe_int (fun _ _ => rfl)) pa_nil))) (pa_cons (pv 4) pa_nil)))))
      (pss_cons (ps_set (i := 16) sc_place.nd rfl (Or.inl rfl) (pe_callTy call_listS (by rfl) T.z_list (by decide +kernel) (pa_cons (pv 6) pa_nil)))
      (pss_cons (ps_for PassesOwn.never rfl (pi_listS (pe_call (ok__within T) hr (by rfl) T.g__within T.F__within.kp T.b__within .nil pass0 (pa_cons (pe_callB (call_max2 rfl) (by rfl) T.z_max (by decide +kernel) (pa_cons (pv 11) (pa_cons (pe_ix ix_tupH (pv 1) pe_int (fun _ _ => rfl)) pa_nil))) (pa_cons (pe_callB (call_min2 rfl) (by rfl) T.z_min (by decide +kernel) (pa_cons (pv 13) (pa_cons (pe_ix ix_tupH (pv 1) pe_int (fun _ _ => rfl)) pa_nil))) (pa_cons (pv 5) pa_nil))))) (pg_name (i := 17) sc_place.nd rfl (Or.inl rfl)) (pss_cons (ps_set (i := 18) sc_place.nd rfl (Or.inl rfl) (pe_op op_mul (pe_op op_fdiv (pe_op op_mul (pe_op op_sub (pe_call (ok_middle T) (hr.mono (by decide)) (by rfl) T.g_middle T.F_middle.kp T.b_middle .nil pass0 (pa_cons (pv 17) pa_nil)) (pv 11)) (pv 8)) (pe_op op_sub (pv 13) (pv 11))) (pv 7)))
      (pss_one (ps_for PassesOwn.never rfl (pi_listS (pv 15)) (pg_name (i := 19) sc_place.nd rfl (Or.inl rfl)) (pss_cons (ps_set (i := 20) sc_place.nd rfl (Or.inl rfl) (pe_ix ix_listH (pv 9) (pe_op op_add (pv 18) (pe_op op_fdiv (pe_op op_mul (pe_op op_sub (pe_call (ok_middle T) (hr.mono (by decide)) (by rfl) T.g_middle T.F_middle.kp T.b_middle .nil pass0 (pa_cons (pv 19) pa_nil)) (pv 10)) (pv 7)) (pe_op op_sub (pv 12) (pv 10)))) (fun _ _ => rfl)))
      (pss_one (ps_if (pt_cmpR op_ne (pv 20) (pe_glob (v := .int (-1)) (by rfl) T.c_NO_COLOUR ⟨_, rfl⟩) (nomark _)) (pss_one (ps_asg (pv 20) (pg_sub (pv 16) (pe_op op_add (pe_op op_mul (pv 17) (pv 4)) (pv 19)) set_list))) pss_nil)))))))
      (pss_one (ps_ret (pe_tupS (pa_cons (pv 4) (pa_cons (pv 5) (pa_cons (pv 16) pa_nil)))))))))))), ?_⟩
    walk_at "vc hG hP hB"
    refine lcL walkTI (L := fun i => List.map V.int (([b0, b1, b2, b3].map bd).take i)) rfl (fun _ s => s _ _ hB) (fun D i x H1 H2 hi hD s1 g1 y => ?_) (fun D H1 s1 hD g1 => ?_)
    · obtain ⟨rfl, b, hb, rfl⟩ := y
      rw [take_map_succ bd hb]
      walk_at "vc sp_bounded g1"
      exact ⟨take_lt _ _ (show 4 < sizeLine by decide), same_upd2 s1 hD⟩
    walk_at "c s1 hG hC hK hP hS hB"
    replace g1 : H1 D = some (.lst [.int (bd b0), .int (bd b1), .int (bd b2), .int (bd b3)]) := g1
    walk_at "vc g1 hK hC sp__within"
    refine ⟨by omega, fun H2 p2 s2 n2 g2 => ?_⟩
    walk_at "c s2 hG hC hK hP hS hB g1"
    walk_at "vc hC"
    intro p3 H3 s3 n3 g3
    walk_at "n s3 3 g1 hK"
    walk_at "vc g13 hK3 sp__within"
    refine ⟨by omega, fun H4 p4 s4 n4 g4 => ?_⟩
    have ne34 : p3 ≠ p4 := ne_of_none g3 n4
    have s24 := s3.trans s4
    walk_at "vc g4"
    refine lpW (walkN (l := wi (mx (bd b1) c1) (mn (bd b3) c3) h)) (fun i σ H' => ∃ rv bv cv ev : Option V, σ = [some (V.ref aG), some (V.ref aK), some (V.ref aP), some (V.ref aB), some (V.int ↑w), some (V.int ↑h), some (V.ref aC), some (V.int ↑aw), some (V.int ↑ah), some (V.ref aS), some (V.int (bd b0)), some (V.int (bd b1)), some (V.int (bd b2)), some (V.int (bd b3)), none, some (V.ref p2), some (V.ref p3), rv, bv, cv, ev] ∧
      Same H2 H' ∧ H' p4 = some (.lst (natV (wi (mx (bd b1) c1) (mn (bd b3) c3) h))) ∧
      H' p3 = some (.lst (List.map V.int (((wi (mx (bd b1) c1) (mn (bd b3) c3) h).take i).foldl (prow (bd b0) (bd b1) (bd b2) (bd b3) aw ah src w (wi (mx (bd b0) c0) (mn (bd b2) c2) w)) cs)))) ⟨none, none, none, none, rfl, s24, g4, s4 _ _ g3⟩ ?_ ?_ ?_
    · rintro i σ H' _ ⟨_, _, _, _, rfl, _, g, _⟩
      exact g
    · rintro i x σ H' H5 hi ⟨rv, bv, cv, ev, rfl, sm, gp, gq⟩ ⟨rfl, r, hr, rfl⟩
      obtain ⟨hrh, hry⟩ := wi_at hr
      have hy : bd b1 ≤ 4 * (r : Int) + 2 ∧ 4 * (r : Int) + 2 < bd b3 := ⟨(mx_le.mp hry.1).1, (lt_mn.mp hry.2).1⟩
      rw [foldl_take _ _ hr]
      have h1 := bd_in b0
      have h2 := bd_in b1
      have h3 := bd_in b2
      have h4 := bd_in b3
      walk_at "n sm ' g2 hS"
      walk_at "vc sp_middle g2'"
      have hpl : (List.foldl (prow (bd b0) (bd b1) (bd b2) (bd b3) aw ah src w (wi (mx (bd b0) c0) (mn (bd b2) c2) w)) cs (List.take i (wi (mx (bd b1) c1) (mn (bd b3) c3) h))).length = w * h := by rw [foldl_len prow_len, hl]
      generalize List.foldl (prow (bd b0) (bd b1) (bd b2) (bd b3) aw ah src w (wi (mx (bd b0) c0) (mn (bd b2) c2) w)) cs (List.take i (wi (mx (bd b1) c1) (mn (bd b3) c3) h)) = p0 at hpl gq ⊢
      refine ⟨.inr ⟨by omega, by omega⟩, by omega, by omega, .inr ⟨by omega, by omega⟩, ?_⟩
      refine lpW (walkN (l := wi (mx (bd b0) c0) (mn (bd b2) c2) w)) (fun j σ H' => ∃ cv ev : Option V, σ = [some (V.ref aG), some (V.ref aK), some (V.ref aP), some (V.ref aB), some (V.int ↑w), some (V.int ↑h), some (V.ref aC), some (V.int ↑aw), some (V.int ↑ah), some (V.ref aS), some (V.int (bd b0)), some (V.int (bd b1)), some (V.int (bd b2)), some (V.int (bd b3)), none, some (V.ref p2), some (V.ref p3), some (.int (r : Int)), some (.int ((4 * (r : Int) + 2 - bd b1) * ah / (bd b3 - bd b1) * aw)), cv, ev] ∧
        Same H2 H' ∧ H' p4 = some (.lst (natV (wi (mx (bd b1) c1) (mn (bd b3) c3) h))) ∧
        H' p3 = some (.lst (List.map V.int (((wi (mx (bd b0) c0) (mn (bd b2) c2) w).take j).foldl (pcell (bd b0) (bd b1) (bd b2) (bd b3) aw ah src w r) p0)))) ⟨_, _, rfl, sm, gp, gq⟩ ?_ ?_ ?_
      · rintro j σ H' _ ⟨_, _, rfl, s, _, _⟩
        exact s _ _ g2
      · rintro j x σ H' H5 hj ⟨cv, ev, rfl, sm, gp, gq⟩ ⟨rfl, c, hc, rfl⟩
        obtain ⟨hcw, hcx⟩ := wi_at hc
        have hx : bd b0 ≤ 4 * (c : Int) + 2 ∧ 4 * (c : Int) + 2 < bd b2 := ⟨(mx_le.mp hcx.1).1, (lt_mn.mp hcx.2).1⟩
        rw [foldl_take _ _ hc]
        have hpl2 : (((wi (mx (bd b0) c0) (mn (bd b2) c2) w).take j).foldl (pcell (bd b0) (bd b1) (bd b2) (bd b3) aw ah src w r) p0).length = w * h := by rw [foldl_len pcell_len, hpl]
        generalize ((wi (mx (bd b0) c0) (mn (bd b2) c2) w).take j).foldl (pcell (bd b0) (bd b1) (bd b2) (bd b3) aw ah src w r) p0 = p1 at hpl2 gq ⊢
        have hS' := sm _ _ hS
        have hin := sidx_in hy hx haw.1 hah.1
        walk_at "vc sp_middle hS' gq"
        have hsx : (sidx (bd b0) (bd b1) (bd b2) (bd b3) aw ah r c).toNat < src.length := by rw [hsl]; omega
        refine ⟨.inr ⟨by omega, by omega⟩, by omega, by omega, _, at_g' (i := (sidx (bd b0) (bd b1) (bd b2) (bd b3) aw ah r c).toNat) (by rw [Int.toNat_of_nonneg hin.1]; rfl) hsx, scal_ii _ _, ?_⟩
        unfold pcell
        generalize gN src (sidx (bd b0) (bd b1) (bd b2) (bd b3) aw ah r c).toNat = v
        have hix := ix_in hrh hcw
        by_cases e : v = -1
        · rw [if_pos e]
          exact iteF' (by rw [e]; rfl) ⟨sm, gp, rfl⟩
        · rw [if_neg e]
          refine iteT' (by rw [decide_eq_false (fun z : V.int v = V.int (-1) => e (V.int.inj z))]; rfl) ⟨.inr ⟨by omega, by omega⟩, r * w + c, ?_, same_upd2 sm n3, by rw [upd_ne ne34.symm]; exact gp, by rw [List.map_set]⟩
          rw [ixN_in (by omega) (by rw [hpl2]; omega)]
          congr 1
      · rintro σ H' ⟨cv, ev, rfl, sm, gp, gq⟩
        rw [List.take_length] at gq
        exact ⟨⟨_, _, _, _, rfl⟩, sm, gp, gq⟩
    · rintro σ H' ⟨rv, bv, cv, ev, rfl, sm, gp, gq⟩
      rw [List.take_length] at gq
      walk_at "vc"
      intro p5 H6 s6 n6 g6
      have s06 := (s1.trans s2).trans sm
      exact q _ p5 p3 (s06.trans s6) (s06.free n6) ((s1.trans s2).free n3) g6 (s6 _ _ gq)

/-! ### spending -/
def spdL (l c : Int) : Int := if l < mx c 0 then 0 else l - mx c 0
def spdB (l c : Int) : Bool := !decide (l < mx c 0)
theorem mx_nat (n : Nat) : mx (n : Int) 0 = n := by
  unfold mx
  rw [if_neg (by omega)]
theorem mx_nn {c : Int} (h : 0 ≤ c) : mx c 0 = c := by
  unfold mx
  rw [if_neg (by omega)]
def sp_spend (K : PySem.W.Frag) : Sp := fun vs H Q _ => ∃ (l c : Int), vs = [.int l, .int c] ∧ (NewH H (.tup [.int (spdL l c), .bl (spdB l c)]) fun p H' => Q (.ref p) H')
theorem ok_spend (T : Txt K mg) : FnOk P w K mg base CX0 1 T.f_spend T.fd_spend ["left", "cost"] (sp_spend K) := by
  refine T.F_spend.ok sc_spend (fun vs H Q E h => ?_) (fun cdv A outer s H vs Q E hr h => ?_)
  · obtain ⟨l, c, rfl, _⟩ := h
    rfl
  · obtain ⟨l, c, rfl, q⟩ := h
    refine ⟨_, (pss_cons (ps_set (i := 1) sc_spend.nd rfl (Or.inl rfl) (pe_callB (call_max2 rfl) (by rfl) T.z_max (by decide +kernel) (pa_cons (pv 1) (pa_cons pe_int pa_nil))))
      (pss_cons (ps_if (pt_cmpR op_gt (pv 1) (pv 0) (nomark _)) (pss_one (ps_ret (pe_tupS (pa_cons pe_int (pa_cons pe_bl pa_nil))))) pss_nil)
      (pss_one (ps_ret (pe_tupS (pa_cons (pe_op op_sub (pv 0) (pv 1)) (pa_cons pe_bl pa_nil))))))), ?_⟩
    walk_at "vc"
    unfold spdL spdB at q
    refine iteP (fun e => ?_) (fun e => ?_)
    · simp only [if_pos e, decide_eq_true e, Bool.not_true] at q
      exact q
    · simp only [if_neg e, decide_eq_false e, Bool.not_false] at q
      exact q

/-! ### marks -/
inductive Mk
  | fill (c0 c1 c2 c3 : Int) (os : List (List Pt)) (col : Int)
  | image (c0 c1 c2 c3 : Int) (aw ah : Nat) (src : List Int) (b0 b1 b2 b3 : Int)
abbrev sFill : Str := Str.ofString "fill"
abbrev sImage : Str := Str.ofString "image"
theorem fill_ne : (V.str (Str.ofString "image") = V.str (Str.ofString "fill")) = False := eq_false (by intro h; have := V.str.inj h; revert this; decide +kernel)
theorem fill_ne' : (V.str (Str.ofString "fill") = V.str (Str.ofString "image")) = False := eq_false (by intro h; have := V.str.inj h; revert this; decide +kernel)
theorem fillS_ne : (Str.ofString "image" = Str.ofString "fill") = False := eq_false (by decide +kernel)
theorem fillS_ne' : (Str.ofString "fill" = Str.ofString "image") = False := eq_false (by decide +kernel)
def MkV (H : Hp) (v : V) : Mk → Prop
  | .fill c0 c1 c2 c3 os col => ∃ a ak ao, v = .ref a ∧ H a = some (.tup [.str (Str.ofString "fill"), .ref ak, .ref ao, .int col]) ∧ H ak = some (.tup [.int c0, .int c1, .int c2, .int c3]) ∧ Outs H ao os
  | .image c0 c1 c2 c3 aw ah src b0 b1 b2 b3 => ∃ a ak ap sa ab, v = .ref a ∧ H a = some (.tup [.str (Str.ofString "image"), .ref ak, .ref ap, .ref ab]) ∧ H ak = some (.tup [.int c0, .int c1, .int c2, .int c3]) ∧
      H ap = some (.tup [.int (aw : Int), .int (ah : Int), .ref sa]) ∧ H sa = some (.lst (List.map V.int src)) ∧ H ab = some (.tup [.int b0, .int b1, .int b2, .int b3])
def MkOk : Mk → Prop
  | .fill _ _ _ _ os _ => os.length ≤ 1000 ∧ ∀ ps ∈ os, ps.length ≤ 1000
  | .image _ _ _ _ aw ah src _ _ _ _ => (1 ≤ aw ∧ aw ≤ 100) ∧ (1 ≤ ah ∧ ah ≤ 100) ∧ src.length = aw * ah ∧ ∀ v ∈ src, -1 ≤ v ∧ v < 16777216
theorem MkV.mono {H H' : Hp} (s : Same H H') (v : V) (m : Mk) (h : MkV H v m) : MkV H' v m := by
  cases m with
  | fill c0 c1 c2 c3 os col =>
    obtain ⟨a, ak, ao, e, g1, g2, g3⟩ := h
    exact ⟨a, ak, ao, e, s _ _ g1, s _ _ g2, g3.mono s⟩
  | image c0 c1 c2 c3 aw ah src b0 b1 b2 b3 =>
    obtain ⟨a, ak, ap, sa, ab, e, g1, g2, g3, g4, g5⟩ := h
    exact ⟨a, ak, ap, sa, ab, e, s _ _ g1, s _ _ g2, s _ _ g3, s _ _ g4, s _ _ g5⟩
def mkCost (h : Nat) : Mk → Int
  | .fill _ _ _ _ os _ => 1 + (h : Int) * (os.map fun ps => ((ps.length : Nat) : Int)).sum
  | .image _ _ _ _ _ _ src _ _ _ _ => 1 + (src.length : Int)
def mkPut (w h : Nat) (cs : List Int) : Mk → List Int
  | .fill c0 c1 c2 c3 os col => fil (edgesAll os) c0 c1 c2 c3 col w h cs
  | .image c0 c1 c2 c3 aw ah src b0 b1 b2 b3 => plc (bd b0) (bd b1) (bd b2) (bd b3) c0 c1 c2 c3 aw ah src w h cs
theorem sum_nn : ∀ l : List (List Pt), 0 ≤ (l.map fun ps => ((ps.length : Nat) : Int)).sum
  | [] => by decide
  | ps :: r => by
    rw [List.map_cons, List.sum_cons]
    have := sum_nn r
    omega
theorem mkCost_pos (h : Nat) (m : Mk) : 1 ≤ mkCost h m := by
  cases m with
  | fill c0 c1 c2 c3 os col =>
    have := Int.mul_nonneg (show (0 : Int) ≤ h by omega) (sum_nn os)
    show 1 ≤ 1 + (h : Int) * (os.map fun ps => ((ps.length : Nat) : Int)).sum
    omega
  | image c0 c1 c2 c3 aw ah src b0 b1 b2 b3 =>
    show (1 : Int) ≤ 1 + (src.length : Int)
    omega
theorem mkPut_len (w h : Nat) (cs : List Int) (m : Mk) : (mkPut w h cs m).length = cs.length := by
  cases m with
  | fill c0 c1 c2 c3 os col => exact fil_len _ _ _ _ _ _ _ _ _
  | image c0 c1 c2 c3 aw ah src b0 b1 b2 b3 => exact foldl_len prow_len _ cs
def sp__cost (K : PySem.W.Frag) : Sp := fun vs H Q _ => ∃ (v : V) (m : Mk) (h : Nat), vs = [v, .int (h : Int)] ∧ (MkV H v m) ∧ (MkOk m) ∧ (h ≤ 100) ∧ (∀ H', Same H H' → Q (.int (mkCost h m)) H')
theorem ok__cost (T : Txt K mg) : FnOk P w K mg base CX0 1 T.f__cost T.fd__cost ["mark", "height"] (sp__cost K) := by
  refine T.F__cost.ok sc__cost (fun vs H Q E h => ?_) (fun cdv A outer s H vs Q E hr h => ?_)
  · obtain ⟨v, m, h, rfl, _⟩ := h
    rfl
  · obtain ⟨v, m, h, rfl, hv, hm, hh, q⟩ := h
    refine ⟨_, (pss_cons (ps_if (pt_cmpR op_eq (pe_ix ix_tupH (pv 0) pe_int (fun _ _ => rfl)) pe_str (nomark _)) (pss_one (ps_ret (pe_op op_add pe_int (pe_op op_mul (pv 1) (pe_callB (cr_sumS rfl) (by rfl) T.z_sum (by decide +kernel) (pa_cons (pe_lc (own := [("points", 2)]) (g := (gName 2)) rfl sc__cost.nd (pi_tupS (pe_ix ix_tupH (pv 0) pe_int (fun _ _ => rfl))) (blkOk_by (own := [("points", 2)]) (N := ["mark", "height", "points"]) (sc := defScope s__cost) (by decide +kernel)) (fun _ _ _ _ _ => (pg_name (i := 2) sc__cost.nd rfl (Or.inl rfl))) (fun _ _ _ _ _ => pts_nil) (fun _ _ _ _ _ => (pe_callB call_lenT (by rfl) T.z_len PySem.boot_len (pa_cons (pv 2) pa_nil)))) pa_nil)))))) pss_nil)
      (pss_one (ps_ret (pe_op op_add pe_int (pe_callB call_lenH (by rfl) T.z_len PySem.boot_len (pa_cons (pe_ix ix_tupH (pe_ix ix_tupH (pv 0) pe_int (fun _ _ => rfl)) pe_int (fun _ _ => rfl)) pa_nil)))))), ?_⟩
    cases m with
    | fill c0 c1 c2 c3 os col =>
      obtain ⟨a, ak, ao, rfl, g1, g2, ws, gO, hO⟩ := hv
      walk_at "vc g1 gO"
      refine lcL (walkT (xs := ws)) (L := fun i => List.map V.int ((os.map fun ps => ((ps.length : Nat) : Int)).take i)) rfl (fun _ s => s _ _ gO) (fun D i x H1 H2 hi hD s1 g2 y => ?_) (fun D H1 s1 hD g2 => ?_)
      · obtain ⟨rfl, hx⟩ := y
        obtain ⟨ps, hps, ap, vs, rfl, gp, hp⟩ := hO.at hx
        have gp1 := s1 _ _ gp
        rw [take_map_succ _ hps]
        walk_at "vc gp1 g2"
        rw [hp.len]
        refine ⟨take_lt _ _ (Nat.lt_of_le_of_lt (by rw [List.length_map]; exact hm.1) (by decide)), same_upd2 s1 hD, rfl⟩
      · rw [hO.len, show os.length = (os.map fun ps => ((ps.length : Nat) : Int)).length by rw [List.length_map], List.take_length] at g2
        walk_at "vc g2"
        exact ⟨.inl ⟨by omega, by omega⟩, q _ s1⟩
    | image c0 c1 c2 c3 aw ah src b0 b1 b2 b3 =>
      obtain ⟨a, ak, ap, sa, ab, rfl, g1, g2, g3, g4, g5⟩ := hv
      walk_at "vc g1 g3 g4 fill_ne fillS_ne"
      exact q _ (Same.refl _)
def sp__painted (K : PySem.W.Frag) : Sp := fun vs H Q _ => ∃ (aG aC : Addr) (w h : Nat) (cs : List Int) (v : V) (m : Mk), vs = [.ref aG, v] ∧ (H aG = some (.tup [.int (w : Int), .int (h : Int), .ref aC])) ∧ (H aC = some (.lst (List.map V.int cs))) ∧ (MkV H v m) ∧ (MkOk m) ∧ (cs.length = w * h) ∧ (w ≤ 100) ∧ (h ≤ 100) ∧ (∀ H' p c, Same H H' → H p = none → H c = none → H' p = some (.tup [.int (w : Int), .int (h : Int), .ref c]) → H' c = some (.lst (List.map V.int (mkPut w h cs m))) → Q (.ref p) H')
theorem ok__painted (T : Txt K mg) : FnOk P w K mg base CX0 4 T.f__painted T.fd__painted ["grid", "mark"] (sp__painted K) := by
  refine T.F__painted.ok sc__painted (fun vs H Q E h => ?_) (fun cdv A outer s H vs Q E hr h => ?_)
  · obtain ⟨aG, aC, w, h, cs, v, m, rfl, _⟩ := h
    rfl
  · obtain ⟨aG, aC, w, h, cs, v, m, rfl, hG, hC, hv, hm, hl, hw, hh, q⟩ := h
    refine ⟨_, (pss_cons (ps_asg (pv 1) (pg_tupS (n := 4) (by rfl) (pgs_cons (pg_name (i := 2) sc__painted.nd rfl (Or.inl rfl)) (pgs_cons (pg_name (i := 3) sc__painted.nd rfl (Or.inl rfl)) (pgs_cons (pg_name (i := 4) sc__painted.nd rfl (Or.inl rfl)) (pgs_cons (pg_name (i := 5) sc__painted.nd rfl (Or.inl rfl)) pgs_nil))))))
      (pss_cons (ps_if (pt_cmpR op_eq (pv 2) pe_str (nomark _)) (pss_one (ps_ret (pe_call (ok_fill T) hr (by rfl) T.g_fill T.F_fill.kp T.b_fill .nil pass0 (pa_cons (pv 0) (pa_cons (pv 3) (pa_cons (pv 4) (pa_cons (pv 5) pa_nil))))))) pss_nil)
      (pss_one (ps_ret (pe_call (ok_place T) hr (by rfl) T.g_place T.F_place.kp T.b_place .nil pass0 (pa_cons (pv 0) (pa_cons (pv 3) (pa_cons (pv 4) (pa_cons (pv 5) pa_nil))))))))), ?_⟩
    cases m with
    | fill c0 c1 c2 c3 os col =>
      obtain ⟨a, ak, ao, rfl, g1, g2, gO⟩ := hv
      walk_at "vc g1"
      exact ⟨aG, aC, ak, ao, w, h, cs, c0, c1, c2, c3, col, os, rfl, hG, hC, g2, gO, hl, hw, hh, hm, q⟩
    | image c0 c1 c2 c3 aw ah src b0 b1 b2 b3 =>
      obtain ⟨a, ak, ap, sa, ab, rfl, g1, g2, g3, g4, g5⟩ := hv
      walk_at "vc g1 fill_ne fillS_ne"
      exact ⟨aG, aC, ak, ap, sa, ab, w, h, aw, ah, cs, src, c0, c1, c2, c3, b0, b1, b2, b3, rfl, hG, hC, g2, g3, g4, g5, hl, hm.2.2.1, hw, hh, hm.1, hm.2.1, q⟩
/-- marks one after the other, as far as the work goes -/
def paintM (w h : Nat) : List Mk → List Int → Int → List Int × Int
  | [], cs, l => (cs, l)
  | m :: r, cs, l => if l < mkCost h m then (cs, 0) else paintM w h r (mkPut w h cs m) (l - mkCost h m)
def paintR (w h : Nat) (back : Int) (ms : List Mk) (l : Int) : List Int × Int :=
  if l < ((w * h : Nat) : Int) then (List.replicate (w * h) back, 0) else paintM w h ms (List.replicate (w * h) back) (l - ((w * h : Nat) : Int))
theorem paintM_zero (w h : Nat) : ∀ (ms : List Mk) (cs : List Int), paintM w h ms cs 0 = (cs, 0)
  | [], _ => rfl
  | m :: r, cs => by
    have := mkCost_pos h m
    rw [paintM, if_pos (by omega)]
theorem drop_at {α : Type} {l : List α} {i : Nat} {x : α} (h : l[i]? = some x) : l.drop i = x :: l.drop (i + 1) := by
  obtain ⟨hi, e⟩ := List.getElem?_eq_some_iff.mp h
  rw [List.drop_eq_getElem_cons hi, e]
def sp_paint (K : PySem.W.Frag) : Sp := fun vs H Q _ => ∃ (aP aM aA : Addr) (w h : Nat) (back : Int) (ms : List Mk) (us : List V) (l : Int), vs = [.ref aP, .int l] ∧ (H aP = some (.tup [.int (w : Int), .int (h : Int), .int back, .ref aM, .ref aA])) ∧ (H aM = some (.tup us)) ∧ (All2 (MkV H) us ms) ∧ (∀ m ∈ ms, MkOk m) ∧ (1 ≤ w ∧ w ≤ 100) ∧ (1 ≤ h ∧ h ≤ 100) ∧ (∀ H' p g c, Same H H' → H p = none → H g = none → H c = none → H' p = some (.tup [.ref g, .int (paintR w h back ms l).2]) → H' g = some (.tup [.int (w : Int), .int (h : Int), .ref c]) → H' c = some (.lst (List.map V.int (paintR w h back ms l).1)) → Q (.ref p) H')
theorem ok_paint (T : Txt K mg) : FnOk P w K mg base CX0 5 T.f_paint T.fd_paint ["page", "left"] (sp_paint K) := by
  refine T.F_paint.ok sc_paint (fun vs H Q E h => ?_) (fun cdv A outer s H vs Q E hr h => ?_)
  · obtain ⟨aP, aM, aA, w, h, back, ms, us, l, rfl, _⟩ := h
    rfl
  · obtain ⟨aP, aM, aA, w, h, back, ms, us, l, rfl, hP, hM, hv, hm, hw, hh, q⟩ := h
    refine ⟨_, (pss_cons (ps_asg (pv 0) (pg_tupS (n := 5) (by rfl) (pgs_cons (pg_name (i := 2) sc_paint.nd rfl (Or.inl rfl)) (pgs_cons (pg_name (i := 3) sc_paint.nd rfl (Or.inl rfl)) (pgs_cons (pg_name (i := 4) sc_paint.nd rfl (Or.inl rfl)) (pgs_cons (pg_name (i := 5) sc_paint.nd rfl (Or.inl rfl)) (pgs_cons (pg_name (i := 6) sc_paint.nd rfl (Or.inl rfl)) pgs_nil)))))))
      (pss_cons (ps_set (i := 7) sc_paint.nd rfl (Or.inl rfl) (pe_tupS (pa_cons (pv 2) (pa_cons (pv 3) (pa_cons (pe_op op_repS (pe_lstS (pa_cons (pv 4) pa_nil)) (pe_op op_mul (pv 2) (pv 3))) pa_nil)))))
      (pss_cons (ps_asg (pe_call (ok_spend T) (hr.mono (by decide)) (by rfl) T.g_spend T.F_spend.kp T.b_spend .nil pass0 (pa_cons (pv 1) (pa_cons (pe_op op_mul (pv 2) (pv 3)) pa_nil))) (pg_tupS (n := 2) (by rfl) (pgs_cons (pg_name (i := 1) sc_paint.nd rfl (Or.inl rfl)) (pgs_cons (pg_name (i := 6) sc_paint.nd rfl (Or.inl rfl)) pgs_nil))))
      (pss_cons (ps_for PassesOwn.never rfl (pi_tupS (pv 5)) (pg_name (i := 8) sc_paint.nd rfl (Or.inl rfl)) (pss_cons (ps_asg (pe_call (ok_spend T) (hr.mono (by decide)) (by rfl) T.g_spend T.F_spend.kp T.b_spend .nil pass0 (pa_cons (pv 1) (pa_cons (pe_call (ok__cost T) (hr.mono (by decide)) (by rfl) T.g__cost T.F__cost.kp T.b__cost .nil pass0 (pa_cons (pv 8) (pa_cons (pv 3) pa_nil))) pa_nil))) (pg_tupS (n := 2) (by rfl) (pgs_cons (pg_name (i := 1) sc_paint.nd rfl (Or.inl rfl)) (pgs_cons (pg_name (i := 9) sc_paint.nd rfl (Or.inl rfl)) pgs_nil))))
      (pss_cons (ps_if (pt_not (pt_val (pv 9))) (pss_one ps_break) pss_nil)
      (pss_one (ps_set (i := 7) sc_paint.nd rfl (Or.inl rfl) (pe_call (ok__painted T) hr (by rfl) T.g__painted T.F__painted.kp T.b__painted .nil pass0 (pa_cons (pv 7) (pa_cons (pv 8) pa_nil))))))))
      (pss_one (ps_ret (pe_tupS (pa_cons (pv 7) (pa_cons (pv 1) pa_nil))))))))), ?_⟩
    walk_at "vc hP"
    intro p1 H1 s1 n1 g1
    walk_at "vc g1"
    have hwh : w * h ≤ 10000 := Nat.mul_le_mul hw.2 hh.2
    have hwp : 1 ≤ w * h := Nat.mul_pos hw.1 hh.1
    refine ⟨.inr ⟨by omega, by omega⟩, by rw [← Int.natCast_mul]; omega, by rw [← Int.natCast_mul]; omega, fun pC H2 s2 n2 gC pG H3 s3 n3 gG => ?_⟩
    walk_at "vc sp_spend"
    refine ⟨.inr ⟨by omega, by omega⟩, fun p4 H4 s4 n4 g4 => ?_⟩
    have s02 := s1.trans s2
    have s14 := (s02.trans s3).trans s4
    have gC4 := s4 _ _ (s3 _ _ gC)
    have gG4 := s4 _ _ gG
    have hM4 := s14 _ _ hM
    walk_at "vc g4 hM4"
    have e0 : ((w : Int) * (h : Int)) = ((w * h : Nat) : Int) := by rw [Int.natCast_mul]
    refine lpW (walkT (xs := us)) (fun i σ H' => ∃ (l' : Int) (g c : Addr) (cs : List Int) (v6 v8 v9 : Option V), σ = [some (.ref aP), some (.int l'), some (.int (w : Int)), some (.int (h : Int)), some (.int back), some (.ref aM), v6, some (.ref g), v8, v9] ∧ Same H H' ∧ H g = none ∧ H c = none ∧
      H' g = some (.tup [.int (w : Int), .int (h : Int), .ref c]) ∧ H' c = some (.lst (List.map V.int cs)) ∧ cs.length = w * h ∧ paintM w h (ms.drop i) cs l' = paintR w h back ms l)
      ⟨_, pG, pC, List.replicate (w * h) back, _, _, _, rfl, s14, s02.free n3, s1.free n2, gG4, by rw [gC4, List.map_replicate], by rw [List.length_replicate], ?_⟩ ?_ ?_ ?_
    · rw [List.drop_zero, e0]
      unfold spdL paintR
      rw [mx_nat]
      by_cases z : l < ((w * h : Nat) : Int)
      · rw [if_pos z, if_pos z, paintM_zero]
      · rw [if_neg z, if_neg z]
    · rintro i σ H' _ ⟨_, _, _, _, _, _, _, _, sm, _⟩
      exact sm _ _ hM
    · rintro i x σ H' H5 hi ⟨l', g, c, cs, v6, v8, v9, rfl, sm, fg, fc, gg, gc, hcl, hR⟩ ⟨rfl, hx⟩
      obtain ⟨m, hmi, hvm⟩ := hv.at hx
      have hmo := hm m (List.mem_of_getElem? hmi)
      rw [drop_at hmi, paintM] at hR
      walk_at "vc"
      refine ⟨x, m, h, rfl, MkV.mono sm _ _ hvm, hmo, hh.2, fun H6 s6 => ?_⟩
      have hc1 := mkCost_pos h m
      walk_at "vc sp_spend"
      intro p7 H7 s7 n7 g7
      have s57 := s6.trans s7
      have sm7 := sm.trans s57
      walk_at "c s57 gg gc"
      walk_at "vc g7"
      have eL : spdL l' (mkCost h m) = if l' < mkCost h m then 0 else l' - mkCost h m := by unfold spdL; rw [mx_nn (by omega)]
      have eB : spdB l' (mkCost h m) = !decide (l' < mkCost h m) := by unfold spdB; rw [mx_nn (by omega)]
      rw [eL, eB]
      by_cases z : l' < mkCost h m
      · rw [if_pos z] at hR ⊢
        rw [decide_eq_true z]
        walk_at "vc"
        intro p8 H8 s8 n8 g8
        rw [← hR] at q
        exact q H8 p8 g c (sm7.trans s8) (sm7.free n8) fg fc g8 (s8 _ _ gg) (s8 _ _ gc)
      · rw [if_neg z] at hR ⊢
        rw [decide_eq_false z]
        walk_at "vc"
        refine ⟨g, c, w, h, cs, x, m, rfl, gg, gc, MkV.mono sm7 _ _ hvm, hmo, hcl, hw.2, hh.2, fun H8 p8 c8 s8 n8 m8 g8 k8 => ?_⟩
        exact ⟨p8, rfl, sm7.trans s8, sm7.free n8, c8, sm7.free m8, g8, _, k8, by rw [mkPut_len]; exact hcl, hR⟩
    · rintro σ H' ⟨l', g, c, cs, v6, v8, v9, rfl, sm, fg, fc, gg, gc, hcl, hR⟩
      rw [hv.len, List.drop_length, paintM] at hR
      walk_at "vc"
      intro p8 H8 s8 n8 g8
      rw [← hR] at q
      exact q H8 p8 g c (sm.trans s8) (sm.free n8) fg fc g8 (s8 _ _ gg) (s8 _ _ gc)

/-! ### the law's cells and grids -/
def sp__law_cell (K : PySem.W.Frag) (a : Addr) (ns : List Int) : Sp := fun vs H Q _ => ∃ (k : Int), vs = [.ref a, .int k] ∧ (0 ≤ k) ∧ (SqL K H a (List.map V.int ns)) ∧ (Q (.int (cellA ns k.toNat)) H)
theorem ok__law_cell (T : Txt K mg) (a : Addr) (ns : List Int) : FnOk P w K mg base CX0 1 T.f__law_cell T.fd__law_cell ["script", "k"] (sp__law_cell K a ns) := by
  refine T.F__law_cell.ok sc__law_cell (fun vs H Q E h => ?_) (fun cdv A outer s H vs Q E hr h => ?_)
  · obtain ⟨k, rfl, _⟩ := h
    rfl
  · obtain ⟨k, rfl, hk0, hS, q⟩ := h
    refine ⟨_, (pss_cons (ps_if (pt_cmpR op_lt (pv 1) (pe_callB call_len_seq (by rfl) T.z_len PySem.boot_len (pa_cons (pv 0) pa_nil)) (nomark _)) (pss_one (ps_ret (pe_callTy call_int1 (by rfl) T.z_int (by decide +kernel) (pa_cons (pe_ix ix_list (pv 0) (pv 1) (fun _ _ => rfl)) pa_nil)))) pss_nil)
      (pss_one (ps_ret pe_int))), ?_⟩
    obtain ⟨k, rfl⟩ := natOf hk0
    rw [Int.toNat_natCast] at q
    refine ⟨_, rfl, _, rfl, a, _, rfl, .inl hS, _, _, rfl, rfl, _, rfl, ite2 (fun e => ?_) (fun e => ?_)⟩
    · have e1 := of_decide_eq_true e
      rw [List.length_map] at e1
      have hk : k < ns.length := by omega
      refine ⟨_, rfl, _, rfl, a, _, _, .int (cellA ns k), rfl, rfl, hS, ?_, .inl ⟨_, rfl, q⟩⟩
      refine atI_nat ?_
      rw [List.getElem?_map, List.getElem?_eq_getElem hk]
      simp [cellA, hk]
    · have e1 : ¬ ((k : Int) < ((ns.map V.int).length : Int)) := fun z => e (decide_eq_true z)
      rw [List.length_map] at e1
      have hk : ns.length ≤ k := by omega
      have e0 : cellA ns k = 0 := by simp [cellA, hk]
      rw [e0] at q
      exact q

def sp__law_is_integer (K : PySem.W.Frag) : Sp := fun vs H Q _ => ∃ (i : Int), vs = [.int i] ∧ (Q (.bl true) H)
theorem ok__law_is_integer (T : Txt K mg) : FnOk P w K mg base CX0 1 T.f__law_is_integer T.fd__law_is_integer ["actual"] (sp__law_is_integer K) := by
  refine T.F__law_is_integer.ok sc__law_is_integer (fun vs H Q E h => ?_) (fun cdv A outer s H vs Q E hr h => ?_)
  · obtain ⟨i, rfl, _⟩ := h
    rfl
  · obtain ⟨i, rfl, q⟩ := h
    refine ⟨_, (pss_one (ps_ret (pe_and (pe_callB call_isiB (by rfl) T.z_isinstance (by decide +kernel) (pa_cons (pv 0) (pa_cons (pe_bltn (v := .ty "int") (u := .type "int") (by rfl) T.z_int (by decide +kernel) rfl) pa_nil))) (pe_one (pe_not (pe_callB call_isiB (by rfl) T.z_isinstance (by decide +kernel) (pa_cons (pv 0) (pa_cons (pe_bltn (v := .ty "bool") (u := .type "bool") (by rfl) T.z_bool (by decide +kernel) rfl) pa_nil)))))))), ?_⟩
    walk_at "vc"
    exact q
def sp__law_colour (K : PySem.W.Frag) : Sp := fun vs H Q _ => ∃ (c : Int), vs = [.int c] ∧ (0 ≤ c) ∧ (∀ H' v, Same H H' → 0 ≤ v → v < 16777216 → Q (.int v) H')
theorem ok__law_colour (T : Txt K mg) : FnOk P w K mg base CX0 1 T.f__law_colour T.fd__law_colour ["cell"] (sp__law_colour K) := by
  refine T.F__law_colour.ok sc__law_colour (fun vs H Q E h => ?_) (fun cdv A outer s H vs Q E hr h => ?_)
  · obtain ⟨c, rfl, _⟩ := h
    rfl
  · obtain ⟨c, rfl, hc, q⟩ := h
    refine ⟨_, (pss_one (ps_ret (pe_ix ix_listH (pe_lstS (pa_cons pe_int (pa_cons pe_int (pa_cons pe_int (pa_cons pe_int (pa_cons pe_int (pa_cons pe_int (pa_cons (pe_op op_mod (pe_callTy call_int1 (by rfl) T.z_int (by decide +kernel) (pa_cons (pe_op op_fdiv (pv 0) pe_int) pa_nil)) pe_int) (pa_cons pe_int pa_nil))))))))) (pe_op op_and (pe_callTy call_int1 (by rfl) T.z_int (by decide +kernel) (pa_cons (pv 0) pa_nil)) pe_int) (fun _ _ => rfl)))), ?_⟩
    walk_at "vc"
    intro p H1 s1 n1 g1
    walk_at "vc g1"
    obtain ⟨v, h1, h2⟩ := atI_lits (xs := [0, 16777215, 255, 65280, 16711680, 1, c / 8 % 16777216, 8421504]) (k := c % 8) (by omega) (by show c % 8 < 8; omega)
    refine ⟨_, h1, ?_⟩
    have h3 : 0 ≤ v ∧ v < 16777216 := by
      simp only [List.mem_cons, List.not_mem_nil, or_false] at h2
      omega
    exact q _ v s1 h3.1 h3.2
def sp__law_grid (K : PySem.W.Frag) : Sp := fun vs H Q _ => ∃ (c : Int) (b : Bool), vs = [.int c, .bl b] ∧ (0 ≤ c) ∧ (∀ (H' : Hp) (p cp : Addr) (w h : Nat) (cs : List Int), Same H H' → H p = none → H cp = none → H' p = some (.tup [.int (w : Int), .int (h : Int), .ref cp]) → H' cp = some (.lst (List.map V.int cs)) → 1 ≤ w → w ≤ 12 → 1 ≤ h → h ≤ 9 → cs.length = w * h → (∀ v ∈ cs, -1 ≤ v ∧ v < 16777216) → Q (.ref p) H')
theorem ok__law_grid (T : Txt K mg) : FnOk P w K mg base CX0 2 T.f__law_grid T.fd__law_grid ["cell", "nones"] (sp__law_grid K) := by
  refine T.F__law_grid.ok sc__law_grid (fun vs H Q E h => ?_) (fun cdv A outer s H vs Q E hr h => ?_)
  · obtain ⟨c, b, rfl, _⟩ := h
    rfl
  · obtain ⟨c, b, rfl, hc, q⟩ := h
    refine ⟨_, (pss_cons (ps_set (i := 2) sc__law_grid.nd rfl (Or.inl rfl) (pe_op op_add pe_int (pe_op op_mod (pe_callTy call_int1 (by rfl) T.z_int (by decide +kernel) (pa_cons (pv 0) pa_nil)) pe_int)))
      (pss_cons (ps_set (i := 3) sc__law_grid.nd rfl (Or.inl rfl) (pe_op op_add pe_int (pe_op op_mod (pe_callTy call_int1 (by rfl) T.z_int (by decide +kernel) (pa_cons (pe_op op_fdiv (pv 0) pe_int) pa_nil)) pe_int)))
      (pss_cons (ps_set (i := 4) sc__law_grid.nd rfl (Or.inl rfl) (pe_lstS pa_nil))
      (pss_cons (ps_for PassesOwn.never rfl (pi_range1 (by rfl) T.z_range (pa_cons (pe_op op_mul (pv 2) (pv 3)) pa_nil)) (pg_name (i := 5) sc__law_grid.nd rfl (Or.inl rfl)) (pss_cons (ps_set (i := 6) sc__law_grid.nd rfl (Or.inl rfl) (pe_op op_mod (pe_callTy call_int1 (by rfl) T.z_int (by decide +kernel) (pa_cons (pe_op op_add (pe_op op_fdiv (pv 0) pe_int) (pe_op op_mul (pv 5) (pe_op op_add pe_int (pe_op op_mod (pe_callTy call_int1 (by rfl) T.z_int (by decide +kernel) (pa_cons (pe_op op_fdiv (pv 0) pe_int) pa_nil)) pe_int)))) pa_nil)) pe_int))
      (pss_cons (ps_expr (pe_ml (pe_bm PySem.F.plainAttrs_list PySem.F.slot_list_append PySem.F.type_list_append mt_append (pe_mono (pv 4)) (pa_cons (pe_call (ok__law_colour T) hr (by rfl) T.g__law_colour T.F__law_colour.kp T.b__law_colour .nil pass0 (pa_cons (pv 6) pa_nil)) pa_nil))))
      (pss_one (ps_if (PW.pt (pw_and (pt_val (pv 1)) (pw_and1 (pt_cmpR op_eq (pv 6) pe_int (nomark _))))) (pss_one (ps_asg (pe_un un_neg pe_int) (pg_sub (pv 4) (pv 5) set_list))) pss_nil)))))
      (pss_one (ps_ret (pe_tupS (pa_cons (pv 2) (pa_cons (pv 3) (pa_cons (pv 4) pa_nil)))))))))), ?_⟩
    walk_at "vc"
    intro p H1 s1 n1 g1
    obtain ⟨w, hw⟩ := natOf (show 0 ≤ 1 + c % 12 by omega)
    obtain ⟨h, hh⟩ := natOf (show 0 ≤ 1 + c / 12 % 9 by omega)
    rw [hw, hh]
    have hw1 : 1 ≤ w ∧ w ≤ 12 := by omega
    have hh1 : 1 ≤ h ∧ h ≤ 9 := by omega
    have hwh : w * h ≤ 108 := Nat.mul_le_mul hw1.2 hh1.2
    walk_at "vc"
    refine ⟨.inr ⟨by omega, by omega⟩, by rw [← Int.natCast_mul]; omega, by rw [← Int.natCast_mul]; omega, ?_⟩
    refine lpW (walkR (n := w * h)) (fun i σ H' => ∃ (kv nv : Option V) (cs : List Int), σ = [some (.int c), some (.bl b), some (.int (w : Int)), some (.int (h : Int)), some (.ref p), kv, nv] ∧ Same H H' ∧ H' p = some (.lst (List.map V.int cs)) ∧ cs.length = i ∧ (∀ v ∈ cs, -1 ≤ v ∧ v < 16777216)) ⟨_, _, [], rfl, s1, g1, rfl, fun _ z => nomatch z⟩ (fun _ _ _ _ _ => True.intro) ?_ ?_
    · rintro i x σ H' H2 hi ⟨kv, nv, cs, rfl, sm, gp, hl, hB⟩ ⟨rfl, rfl⟩
      walk_at "vc sp__law_colour gp"
      refine ⟨.inr ⟨by omega, by omega⟩, by omega, fun H3 v s3 h0 h1 => ?_⟩
      walk_at "n s3 3 gp"
      walk_at "vc gp3"
      have hz : cs.length < sizeLine := Nat.lt_trans (show cs.length < 1000 by omega) (by decide)
      have hB2 : ∀ u ∈ cs ++ [v], -1 ≤ u ∧ u < 16777216 := fun u hu => by
        rcases List.mem_append.mp hu with z | z
        · exact hB u z
        · rw [List.mem_singleton.mp z]; omega
      have hl2 : (cs ++ [v]).length = i + 1 := by rw [List.length_append, hl]; rfl
      have fin : Same H (upd H3 p (.lst (List.map V.int (cs ++ [v])))) ∧ (cs ++ [v]).length = i + 1 ∧ ∀ u ∈ cs ++ [v], -1 ≤ u ∧ u < 16777216 := ⟨same_upd2 (sm.trans s3) n1, hl2, hB2⟩
      rw [List.length_append] at hl2
      refine ⟨hz, iteP (fun _ => iteP (fun _ => ⟨i, ixN_in (by omega) (by omega), same_upd2 (sm.trans s3) n1, by omega, fun u hu => ?_⟩) fun _ => ?_) fun _ => ?_⟩
      · rcases List.mem_or_eq_of_mem_set hu with z | z
        · exact hB2 u z
        · rw [z]; exact ⟨by decide, by decide⟩
      · exact ⟨fin.1, hl2, fin.2.2⟩
      · exact ⟨fin.1, hl2, fin.2.2⟩
    · rintro σ H' ⟨kv, nv, cs, rfl, sm, gp, hl, hB⟩
      walk_at "vc"
      intro p2 H2 s2 n2 g2
      exact q _ p2 p w h cs (sm.trans s2) (sm.free n2) n1 g2 (s2 _ _ gp) hw1.1 hw1.2 hh1.1 hh1.2 hl hB
def sp__law_is_grid (K : PySem.W.Frag) : Sp := fun vs H Q _ => ∃ (p cp cq : Addr) (w h : Int) (cs : List Int), vs = [.ref p, .int w, .int h, .ref cq] ∧ (H p = some (.tup [.int w, .int h, .ref cp])) ∧ (H cp = some (.lst (List.map V.int cs))) ∧ (H cq = some (.lst (List.map V.int cs))) ∧ (Q (.bl true) H)
theorem ok__law_is_grid (T : Txt K mg) : FnOk P w K mg base CX0 2 T.f__law_is_grid T.fd__law_is_grid ["actual", "width", "height", "cells"] (sp__law_is_grid K) := by
  refine T.F__law_is_grid.ok sc__law_is_grid (fun vs H Q E h => ?_) (fun cdv A outer s H vs Q E hr h => ?_)
  · obtain ⟨p, cp, cq, w, h, cs, rfl, _⟩ := h
    rfl
  · obtain ⟨p, cp, cq, w, h, cs, rfl, hp, hc, hq, q⟩ := h
    refine ⟨_, (pss_cons (ps_if (PW.pt (pw_or (pt_not (pt_val (pe_callB call_isiB (by rfl) T.z_isinstance (by decide +kernel) (pa_cons (pv 0) (pa_cons (pe_bltn (v := .ty "tuple") (u := .type "tuple") (by rfl) T.z_tuple (by decide +kernel) rfl) pa_nil))))) (pw_or (pt_cmpR op_ne (pe_callB call_lenT (by rfl) T.z_len PySem.boot_len (pa_cons (pv 0) pa_nil)) pe_int (nomark _)) (pw_or (pt_cmpR op_ne (pe_ix ix_tupH (pv 0) pe_int (fun _ _ => rfl)) (pv 1) (nomark _)) (pw_or1 (pt_cmpR op_ne (pe_ix ix_tupH (pv 0) pe_int (fun _ _ => rfl)) (pv 2) (nomark _))))))) (pss_one (ps_ret pe_bl)) pss_nil)
      (pss_cons (ps_if (PW.pt (pw_or (pt_not (pt_val (pe_callB call_isiB (by rfl) T.z_isinstance (by decide +kernel) (pa_cons (pe_ix ix_tupH (pv 0) pe_int (fun _ _ => rfl)) (pa_cons (pe_bltn (v := .ty "list") (u := .type "list") (by rfl) T.z_list (by decide +kernel) rfl) pa_nil))))) (pw_or1 (pt_cmpR op_ne (pe_callB call_lenH (by rfl) T.z_len PySem.boot_len (pa_cons (pe_ix ix_tupH (pv 0) pe_int (fun _ _ => rfl)) pa_nil)) (pe_callB call_lenH (by rfl) T.z_len PySem.boot_len (pa_cons (pv 3) pa_nil)) (nomark _))))) (pss_one (ps_ret pe_bl)) pss_nil)
      (pss_cons (ps_for PassesOwn.never rfl (pi_listS (pe_ix ix_tupH (pv 0) pe_int (fun _ _ => rfl))) (pg_name (i := 4) sc__law_is_grid.nd rfl (Or.inl rfl)) (pss_one (ps_if (pt_not (pt_val (pe_call (ok__law_is_integer T) hr (by rfl) T.g__law_is_integer T.F__law_is_integer.kp T.b__law_is_integer .nil pass0 (pa_cons (pv 4) pa_nil)))) (pss_one (ps_ret pe_bl)) pss_nil)))
      (pss_one (ps_ret (pe_cmpR (op_eqIL hr.units) (pe_ix ix_tupH (pv 0) pe_int (fun _ _ => rfl)) (pv 3) (nomark _))))))), ?_⟩
    walk_at "vc hp hc hq"
    refine lpW (walkI (ns := cs)) (fun i σ H' => ∃ cv : Option V, σ = [some (.ref p), some (.int w), some (.int h), some (.ref cq), cv] ∧ H' = H) ⟨_, rfl, rfl⟩ ?_ ?_ ?_
    · rintro i σ H' _ ⟨_, _, rfl⟩
      exact hc
    · rintro i x σ H' H2 hi ⟨cv, rfl, rfl⟩ ⟨rfl, b, hb, rfl⟩
      walk_at "vc sp__law_is_integer"
    · rintro σ H' ⟨cv, rfl, rfl⟩
      walk_at "vc hp hc hq"
      exact q
theorem bdl_eq (x : Int) : mx (-1048576) (mn 1048576 x) = bd x := by
  unfold bd mx mn
  repeat' split
  all_goals omega
def sp__law_bounded (K : PySem.W.Frag) : Sp := fun vs H Q _ => ∃ (x : Int), vs = [.int x] ∧ (Q (.int (bd x)) H)
theorem ok__law_bounded (T : Txt K mg) : FnOk P w K mg base CX0 1 T.f__law_bounded T.fd__law_bounded ["number"] (sp__law_bounded K) := by
  refine T.F__law_bounded.ok sc__law_bounded (fun vs H Q E h => ?_) (fun cdv A outer s H vs Q E hr h => ?_)
  · obtain ⟨x, rfl, _⟩ := h
    rfl
  · obtain ⟨x, rfl, q⟩ := h
    refine ⟨_, (pss_one (ps_ret (pe_callB (call_max2 rfl) (by rfl) T.z_max (by decide +kernel) (pa_cons (pe_un un_neg pe_int) (pa_cons (pe_callB (call_min2 rfl) (by rfl) T.z_min (by decide +kernel) (pa_cons pe_int (pa_cons (pv 0) pa_nil))) pa_nil))))), ?_⟩
    walk_at "vc bdl_eq"
    exact q
theorem bd_le {c m : Int} (h0 : 0 ≤ m) (h1 : m < 1048576) : bd c ≤ m ↔ c ≤ m := by
  unfold bd
  repeat' split
  all_goals omega
theorem lt_bd {c m : Int} (h0 : 0 ≤ m) (h1 : m < 1048576) : m < bd c ↔ m < c := by
  unfold bd
  repeat' split
  all_goals omega
theorem foldl_same {α β : Type} {f : α → β → α} {l : List β} (h : ∀ a, ∀ b ∈ l, f a b = a) : ∀ a, l.foldl f a = a := by
  induction l with
  | nil => exact fun _ => rfl
  | cons x r ih => exact fun a => by rw [List.foldl_cons, h a x List.mem_cons_self]; exact ih (fun a b hb => h a b (List.mem_cons_of_mem _ hb)) a

/-! ### the law's points, outlines, boxes -/
def sp__law_point (K : PySem.W.Frag) : Sp := fun vs H Q _ => ∃ (c : Int) (w h : Nat), vs = [.int c, .int (w : Int), .int (h : Int)] ∧ (0 ≤ c) ∧ (∀ (H' : Hp) (p : Addr) (pt : Pt), Same H H' → H p = none → H' p = some (.tup [.int pt.1, .int pt.2]) → Q (.ref p) H')
theorem ok__law_point (T : Txt K mg) : FnOk P w K mg base CX0 1 T.f__law_point T.fd__law_point ["cell", "width", "height"] (sp__law_point K) := by
  refine T.F__law_point.ok sc__law_point (fun vs H Q E h => ?_) (fun cdv A outer s H vs Q E hr h => ?_)
  · obtain ⟨c, w, h, rfl, _⟩ := h
    rfl
  · obtain ⟨c, w, h, rfl, hc, q⟩ := h
    refine ⟨_, (pss_cons (ps_set (i := 3) sc__law_point.nd rfl (Or.inl rfl) (pe_op op_mod (pe_callTy call_int1 (by rfl) T.z_int (by decide +kernel) (pa_cons (pv 0) pa_nil)) pe_int))
      (pss_cons (ps_set (i := 4) sc__law_point.nd rfl (Or.inl rfl) (pe_op op_fdiv (pv 0) pe_int))
      (pss_cons (ps_if (pt_cmpR op_eq (pv 3) pe_int (nomark _)) (pss_one (ps_ret (pe_tupS (pa_cons (pe_ix ix_listH (pe_lstS (pa_cons (pv 4) (pa_cons (pe_op op_sub pe_int (pv 4)) pa_nil))) (pe_op op_and (pe_callTy call_int1 (by rfl) T.z_int (by decide +kernel) (pa_cons (pv 4) pa_nil)) pe_int) (fun _ _ => rfl)) (pa_cons (pe_ix ix_listH (pe_lstS (pa_cons pe_int (pa_cons (pe_un un_neg pe_int) (pa_cons pe_int (pa_cons (pe_un un_neg pe_int) pa_nil))))) (pe_op op_and (pe_callTy call_int1 (by rfl) T.z_int (by decide +kernel) (pa_cons (pe_op op_fdiv (pv 4) pe_int) pa_nil)) pe_int) (fun _ _ => rfl)) pa_nil))))) pss_nil)
      (pss_cons (ps_if (pt_cmpR op_lt (pv 3) pe_int (nomark _)) (pss_one (ps_ret (pe_tupS (pa_cons (pe_op op_sub (pe_op op_mul pe_int (pe_op op_mod (pe_callTy call_int1 (by rfl) T.z_int (by decide +kernel) (pa_cons (pv 4) pa_nil)) (pe_op op_add (pv 1) pe_int))) pe_int) (pa_cons (pe_op op_sub (pe_op op_mul pe_int (pe_op op_mod (pe_callTy call_int1 (by rfl) T.z_int (by decide +kernel) (pa_cons (pe_op op_fdiv (pv 4) pe_int) pa_nil)) (pe_op op_add (pv 2) pe_int))) pe_int) pa_nil))))) pss_nil)
      (pss_one (ps_ret (pe_tupS (pa_cons (pe_op op_sub (pe_op op_mod (pe_callTy call_int1 (by rfl) T.z_int (by decide +kernel) (pa_cons (pv 4) pa_nil)) (pe_op op_add (pe_op op_mul pe_int (pv 1)) pe_int)) pe_int) (pa_cons (pe_op op_sub (pe_op op_mod (pe_callTy call_int1 (by rfl) T.z_int (by decide +kernel) (pa_cons (pe_op op_fdiv (pv 4) pe_int) pa_nil)) (pe_op op_add (pe_op op_mul pe_int (pv 2)) pe_int)) pe_int) pa_nil))))))))), ?_⟩
    walk_at "vc"
    refine iteP (fun _ => ?_) fun _ => iteP (fun _ => ⟨by omega, by omega, fun p H' s n g => q H' p (_, _) s n g⟩) fun _ => ⟨by omega, by omega, fun p H' s n g => q H' p (_, _) s n g⟩
    intro p1 H1 s1 n1 g1
    walk_at "vc g1"
    obtain ⟨v, h1, h2⟩ := atI_lits (xs := [c / 9, 0 - c / 9]) (k := c / 9 % 2) (by omega) (by show c / 9 % 2 < 2; omega)
    refine ⟨_, h1, fun p2 H2 s2 n2 g2 => ?_⟩
    walk_at "vc g2"
    obtain ⟨u, h3, h4⟩ := atI_lits (xs := [3000000, -3000000, 1048576, -1048577]) (k := c / 9 / 2 % 4) (by omega) (by show c / 9 / 2 % 4 < 4; omega)
    refine ⟨_, h3, fun p3 H3 s3 n3 g3 => q H3 p3 (v, u) ((s1.trans s2).trans s3) ((s1.trans s2).free n3) g3⟩
def sp__law_outlines (K : PySem.W.Frag) (a : Addr) (ns : List Int) : Sp := fun vs H Q _ => ∃ (at_ : Nat) (w h : Nat), vs = [.ref a, .int (at_ : Int), .int (w : Int), .int (h : Int)] ∧ (SqL K H a (List.map V.int ns)) ∧ (ns.length ≤ 63) ∧ (at_ ≤ 100) ∧ (∀ (H' : Hp) (p : Addr) (os : List (List Pt)), Same H H' → H p = none → Outs H' p os → os.length ≤ 15 → (∀ ps ∈ os, 1 ≤ ps.length ∧ ps.length ≤ 15) → Q (.ref p) H')
theorem ok__law_outlines (T : Txt K mg) (a : Addr) (ns : List Int) : FnOk P w K mg base CX0 2 T.f__law_outlines T.fd__law_outlines ["script", "at", "width", "height"] (sp__law_outlines K a ns) := by
  refine T.F__law_outlines.ok sc__law_outlines (fun vs H Q E h => ?_) (fun cdv A outer s H vs Q E hr h => ?_)
  · obtain ⟨at_, w, h, rfl, _⟩ := h
    rfl
  · obtain ⟨at_, w, h, rfl, hS, hlen, ha, q⟩ := h
    refine ⟨_, (pss_cons (ps_set (i := 4) sc__law_outlines.nd rfl (Or.inl rfl) (pe_lstS pa_nil))
      (pss_cons (ps_set (i := 5) sc__law_outlines.nd rfl (Or.inl rfl) (pe_lstS pa_nil))
      (pss_cons (ps_for PassesOwn.never rfl (pi_range2 (by rfl) T.z_range (pa_cons (pv 1) (pa_cons (pe_callB (call_min2 rfl) (by rfl) T.z_min (by decide +kernel) (pa_cons (pe_op op_add (pv 1) pe_int) (pa_cons (pe_callB (call_lenSc a ns) (by rfl) T.z_len PySem.boot_len (pa_cons (pv 0) pa_nil)) pa_nil))) pa_nil))) (pg_name (i := 6) sc__law_outlines.nd rfl (Or.inl rfl)) (pss_cons (ps_set (i := 7) sc__law_outlines.nd rfl (Or.inl rfl) (pe_callB call_abs (by rfl) T.z_abs (by decide +kernel) (pa_cons (pe_ix (ix_sc a ns) (pv 0) (pv 6) (fun _ _ => rfl)) pa_nil)))
      (pss_cons (ps_if (PW.pt (pw_and (pt_cmpR op_eq (pe_op op_mod (pe_callTy call_int1 (by rfl) T.z_int (by decide +kernel) (pa_cons (pv 7) pa_nil)) pe_int) pe_int (nomark _)) (pw_and1 (pt_cmpR op_gt (pe_callB call_lenH (by rfl) T.z_len PySem.boot_len (pa_cons (pv 5) pa_nil)) pe_int (nomark _))))) (pss_cons (ps_expr (pe_ml (pe_bm PySem.F.plainAttrs_list PySem.F.slot_list_append PySem.F.type_list_append mt_append (pe_mono (pv 4)) (pa_cons (pe_callTy call_tupleL (by rfl) T.z_tuple (by decide +kernel) (pa_cons (pv 5) pa_nil)) pa_nil))))
      (pss_one (ps_set (i := 5) sc__law_outlines.nd rfl (Or.inl rfl) (pe_lstS pa_nil)))) pss_nil)
      (pss_one (ps_expr (pe_ml (pe_bm PySem.F.plainAttrs_list PySem.F.slot_list_append PySem.F.type_list_append mt_append (pe_mono (pv 5)) (pa_cons (pe_call (ok__law_point T) hr (by rfl) T.g__law_point T.F__law_point.kp T.b__law_point .nil pass0 (pa_cons (pe_op op_fdiv (pv 7) pe_int) (pa_cons (pv 2) (pa_cons (pv 3) pa_nil)))) pa_nil))))))))
      (pss_cons (ps_if (pt_cmpR op_eq (pe_callB call_lenH (by rfl) T.z_len PySem.boot_len (pa_cons (pv 5) pa_nil)) pe_int (nomark _)) (pss_one (ps_expr (pe_ml (pe_bm PySem.F.plainAttrs_list PySem.F.slot_list_append PySem.F.type_list_append mt_append (pe_mono (pv 5)) (pa_cons (pe_tupS (pa_cons pe_int (pa_cons pe_int pa_nil))) pa_nil))))) pss_nil)
      (pss_cons (ps_expr (pe_ml (pe_bm PySem.F.plainAttrs_list PySem.F.slot_list_append PySem.F.type_list_append mt_append (pe_mono (pv 4)) (pa_cons (pe_callTy call_tupleL (by rfl) T.z_tuple (by decide +kernel) (pa_cons (pv 5) pa_nil)) pa_nil))))
      (pss_one (ps_ret (pe_callTy call_tupleL (by rfl) T.z_tuple (by decide +kernel) (pa_cons (pv 4) pa_nil))))))))), ?_⟩
    walk_at "vc"
    intro p1 H1 s1 n1 g1 p2 H2 s2 n2 g2
    have g12 := s2 _ _ g1
    have hS2 := (s1.trans s2).seq hS
    walk_at "vc hS2"
    obtain ⟨N, hN, hNb⟩ : ∃ N : Nat, (mn ((at_ : Int) + 14) (ns.length : Int) - at_).toNat = N ∧ N ≤ 14 ∧ ∀ i, i < N → at_ + i < ns.length := ⟨_, rfl, by unfold mn; split <;> omega, fun i hi => by revert hi; unfold mn; split <;> omega⟩
    have hmn : -1000 ≤ mn ((at_ : Int) + 14) (ns.length : Int) ∧ mn ((at_ : Int) + 14) (ns.length : Int) ≤ 1000 := by unfold mn; split <;> omega
    rw [hN]
    refine ⟨by omega, by omega, by omega, by omega, ?_⟩
    refine lpW (walk_range (lo := (at_ : Int)) (n := N)) (fun i σ H' => ∃ (kv cv : Option V) (pc : Addr) (vs us : List V) (os : List (List Pt)) (cur : List Pt), σ = [some (.ref a), some (.int (at_ : Int)), some (.int (w : Int)), some (.int (h : Int)), some (.ref p1), some (.ref pc), kv, cv] ∧ Same H H' ∧
      H' p1 = some (.lst vs) ∧ H' pc = some (.lst us) ∧ p1 ≠ pc ∧ H pc = none ∧ All2 (OutV H') vs os ∧ All2 (PtV H') us cur ∧ os.length ≤ i ∧ cur.length ≤ i ∧ ∀ ps ∈ os, 1 ≤ ps.length ∧ ps.length ≤ 15) ⟨_, _, p2, [], [], [], [], rfl, s1.trans s2, g12, g2, ne_of_none g1 n2, s1.free n2, .nil, .nil, Nat.le_refl _, Nat.le_refl _, fun _ z => nomatch z⟩ (fun _ _ _ _ _ => True.intro) ?_ ?_
    · rintro i x σ H' H3 hi ⟨kv, cv, pc, vs, us, os, cur, rfl, sm, gv, gu, nvu, nc, hv, hu, ho, hcu, hps⟩ ⟨rfl, rfl⟩
      have hS3 := sm.seq hS
      have hin := hNb.2 i hi
      have hcc := Int.ediv_nonneg (absI_nn (gN ns ((at_ : Int) + (i : Int)).toNat)) (show (0 : Int) ≤ 7 by decide)
      walk_at "vc hS3 gu gv"
      generalize absI (gN ns ((at_ : Int) + (i : Int)).toNat) = cc at *
      refine ⟨by omega, by omega, ?_⟩
      have hc0 : 0 ≤ cc / 7 := hcc
      have hnp1 : H p1 = none := n1
      -- the last step, from any list that is being made
      have last : ∀ (H4 : Hp) (pc : Addr) (vs us : List V) (os : List (List Pt)) (cur : List Pt) (pt : Pt) (t : Addr), Same H H4 → H4 p1 = some (.lst vs) → H4 pc = some (.lst us) → p1 ≠ pc → H pc = none → All2 (OutV H4) vs os → All2 (PtV H4) us cur → os.length ≤ i + 1 → cur.length ≤ i → (∀ ps ∈ os, 1 ≤ ps.length ∧ ps.length ≤ 15) →
          H4 t = some (.tup [.int pt.1, .int pt.2]) → us.length < sizeLine ∧ Same H (upd H4 pc (.lst (us ++ [V.ref t]))) ∧ upd H4 pc (.lst (us ++ [V.ref t])) p1 = some (.lst vs) ∧ All2 (OutV (upd H4 pc (.lst (us ++ [V.ref t])))) vs os ∧ All2 (PtV (upd H4 pc (.lst (us ++ [V.ref t])))) (us ++ [V.ref t]) (cur ++ [pt]) := by
        intro H4 pc vs us os cur pt t sm gv gu nvu nc hv hu ho hcu hps gt
        refine ⟨Nat.lt_of_lt_of_le (show us.length < 100 by rw [hu.len]; omega) (by decide), same_upd2 sm nc, by rw [upd_ne nvu]; exact gv, hv.mono (OutV.upd gu), (hu.mono (PtV.upd gu)).snoc ⟨t, rfl, tup_upd gt gu⟩⟩
      have same : sp__law_point K [V.int (cc / 7), V.int (w : Int), V.int (h : Int)] H3 (fun x H1 => ∃ x_1, H1 pc = some (.lst x_1) ∧ x_1.length < sizeLine ∧ Same H (upd H1 pc (.lst (x_1 ++ [x]))) ∧ ∃ x_2, upd H1 pc (.lst (x_1 ++ [x])) p1 = some (.lst x_2) ∧ ¬ p1 = pc ∧ H pc = none ∧
          ∃ x_3, All2 (OutV (upd H1 pc (.lst (x_1 ++ [x])))) x_2 x_3 ∧ ∃ x_4, All2 (PtV (upd H1 pc (.lst (x_1 ++ [x])))) (x_1 ++ [x]) x_4 ∧ x_3.length ≤ i + 1 ∧ x_4.length ≤ i + 1 ∧ ∀ ps ∈ x_3, 1 ≤ ps.length ∧ ps.length ≤ 15) E0 := by
        refine ⟨_, w, h, rfl, hc0, fun H4 t pt s4 n4 g4 => ?_⟩
        obtain ⟨l1, l2, l3, l4, l5⟩ := last H4 pc vs us os cur pt t (sm.trans s4) (s4 _ _ gv) (s4 _ _ gu) nvu nc (hv.mono (OutV.mono s4)) (hu.mono (PtV.mono s4)) (by omega) hcu hps g4
        exact ⟨us, s4 _ _ gu, l1, l2, vs, l3, nvu, nc, os, l4, cur ++ [pt], l5, by omega, by rw [List.length_append]; exact Nat.succ_le_succ hcu, hps⟩
      refine iteP (fun c1 => iteP (fun c2 => ?_) (fun c2 => same)) (fun c1 => same)
      intro t1 H4 s4 n4 g4
      have gv4 := s4 _ _ gv
      have ne_t1 : t1 ≠ p1 := (ne_of_none gv n4).symm
      refine ⟨vs, gv4, Nat.lt_of_lt_of_le (show vs.length < 100 by rw [hv.len]; omega) (by decide), fun p5 H5 s5 n5 g5 => ⟨⟨_, g5⟩, _, w, h, rfl, hc0, fun H6 t pt s6 n6 g6 => ?_⟩⟩
      have hv4 : All2 (OutV (upd H4 p1 (.lst (vs ++ [V.ref t1])))) (vs ++ [V.ref t1]) (os ++ [cur]) := by
        refine ((hv.mono (OutV.mono s4)).mono (OutV.upd gv4)).snoc ⟨t1, us, rfl, by rw [upd_ne ne_t1]; exact g4, (hu.mono (PtV.mono s4)).mono (PtV.upd gv4)⟩
      have ne5 : p1 ≠ p5 := ne_of_none (upd_same (H := H4)) n5
      have sH5 : Same H H5 := (same_upd2 (sm.trans s4) hnp1).trans s5
      have free5 : H p5 = none := (same_upd2 (sm.trans s4) hnp1).free n5
      obtain ⟨l1, l2, l3, l4, l5⟩ := last H6 p5 (vs ++ [V.ref t1]) [] (os ++ [cur]) [] pt t (sH5.trans s6) (s6 _ _ (s5 _ _ upd_same)) (s6 _ _ g5) ne5 free5 ((hv4.mono (OutV.mono s5)).mono (OutV.mono s6)) .nil
        (by rw [List.length_append]; exact Nat.succ_le_succ ho) (Nat.zero_le _) (fun ps hp => by
          rcases List.mem_append.mp hp with z | z
          · exact hps ps z
          · rw [List.mem_singleton.mp z, ← hu.len]; exact ⟨by omega, by rw [hu.len]; omega⟩) g6
      exact ⟨[], s6 _ _ g5, l1, l2, vs ++ [V.ref t1], l3, ne5, free5, os ++ [cur], l4, [pt], l5, by rw [List.length_append]; exact Nat.succ_le_succ ho, by show 1 ≤ i + 1; omega, fun ps hp => by
          rcases List.mem_append.mp hp with z | z
          · exact hps ps z
          · rw [List.mem_singleton.mp z, ← hu.len]; exact ⟨by omega, by rw [hu.len]; omega⟩⟩
    · rintro σ H' ⟨kv, cv, pc, vs, us, os, cur, rfl, sm, gv, gu, nvu, nc, hv, hu, ho, hcu, hps⟩
      have fin : ∀ (H4 : Hp) (l : Addr) (us' : List V) (cur' : List Pt), Same H H4 → H4 p1 = some (.lst vs) → All2 (OutV H4) vs os → H4 l = some (.tup us') → All2 (PtV H4) us' cur' → 1 ≤ cur'.length → cur'.length ≤ 15 →
          ∃ x, H4 p1 = some (.lst x) ∧ x.length < sizeLine ∧ NewH (upd H4 p1 (.lst (x ++ [V.ref l]))) (.tup (x ++ [V.ref l])) fun l H' => Q (V.ref l) H' := by
        intro H4 l us' cur' sm gv hv gl hu h1 h2
        refine ⟨vs, gv, Nat.lt_of_lt_of_le (show vs.length < 100 by rw [hv.len]; omega) (by decide), fun t H5 s5 n5 g5 => ?_⟩
        have ne_l : l ≠ p1 := ne_of gl gv (by intro z; cases z)
        have hv5 : All2 (OutV H5) (vs ++ [V.ref l]) (os ++ [cur']) := (((hv.mono (OutV.upd gv)).snoc ⟨l, us', rfl, by rw [upd_ne ne_l]; exact gl, hu.mono (PtV.upd gv)⟩).mono (OutV.mono s5))
        have sH : Same H H5 := (same_upd2 sm n1).trans s5
        refine q H5 t (os ++ [cur']) sH ((same_upd2 sm n1).free n5) ⟨_, g5, hv5⟩ (by rw [List.length_append]; show os.length + 1 ≤ 15; omega) fun ps hp => ?_
        rcases List.mem_append.mp hp with z | z
        · exact hps ps z
        · rw [List.mem_singleton.mp z]; exact ⟨h1, h2⟩
      walk_at "vc gu gv"
      refine iteP (fun c1 => ?_) (fun c1 => ?_)
      · intro t H3 s3 n3 g3
        have gu3 := s3 _ _ gu
        have gv3 := s3 _ _ gv
        have sm3 := sm.trans s3
        refine ⟨us, gu3, Nat.lt_of_lt_of_le (show us.length < 100 by rw [hu.len]; omega) (by decide), ⟨vs, by rw [upd_ne nvu]; exact gv3⟩, fun l H4 s4 n4 g4 => ?_⟩
        have sH4 : Same H H4 := (same_upd2 sm3 nc).trans s4
        have hu4 : All2 (PtV H4) (us ++ [V.ref t]) (cur ++ [(0, 0)]) := ((((hu.mono (PtV.mono s3)).mono (PtV.upd gu3)).snoc ⟨t, rfl, tup_upd g3 gu3⟩).mono (PtV.mono s4))
        exact fin H4 l _ _ sH4 (s4 _ _ (by rw [upd_ne nvu]; exact gv3)) (((hv.mono (OutV.mono s3)).mono (OutV.upd gu3)).mono (OutV.mono s4)) g4 hu4 (by rw [List.length_append]; show 1 ≤ cur.length + 1; omega) (by rw [List.length_append]; show cur.length + 1 ≤ 15; omega)
      · intro l H3 s3 n3 g3
        have hul := hu.len
        exact fin H3 l us cur (sm.trans s3) (s3 _ _ gv) (hv.mono (OutV.mono s3)) g3 (hu.mono (PtV.mono s3)) (by omega) (by omega)
def cntP (p q : Pt) (x y : Int) : Bool :=
  if p.2 ≤ y ∧ y < q.2 then decide (p.1 * (q.2 - p.2) + (y - p.2) * (q.1 - p.1) ≤ x * (q.2 - p.2)) else
  if q.2 ≤ y ∧ y < p.2 then decide (q.1 * (p.2 - q.2) + (y - q.2) * (p.1 - q.1) ≤ x * (p.2 - q.2)) else false
def sp__law_counts (K : PySem.W.Frag) : Sp := fun vs H Q _ => ∃ (a b : Addr) (p r : Pt) (x y : Int), vs = [.ref a, .ref b, .int x, .int y] ∧ (H a = some (.tup [.int p.1, .int p.2])) ∧ (H b = some (.tup [.int r.1, .int r.2])) ∧ (0 ≤ x ∧ x ≤ 1000) ∧ (0 ≤ y ∧ y ≤ 1000) ∧ (Q (.bl (cntP (bdp p) (bdp r) x y)) H)
theorem ok__law_counts (T : Txt K mg) : FnOk P w K mg base CX0 2 T.f__law_counts T.fd__law_counts ["first", "second", "x", "y"] (sp__law_counts K) := by
  refine T.F__law_counts.ok sc__law_counts (fun vs H Q E h => ?_) (fun cdv A outer s H vs Q E hr h => ?_)
  · obtain ⟨a, b, p, r, x, y, rfl, _⟩ := h
    rfl
  · obtain ⟨a, b, p, r, x, y, rfl, ha, hb, hx, hy, q⟩ := h
    refine ⟨_, (pss_cons (ps_par (i := 4) (j := 5) (by rfl) sc__law_counts.nd rfl rfl (by decide) rfl rfl (pa_cons (pe_call (ok__law_bounded T) hr (by rfl) T.g__law_bounded T.F__law_bounded.kp T.b__law_bounded .nil pass0 (pa_cons (pe_ix ix_tupH (pv 0) pe_int (fun _ _ => rfl)) pa_nil)) (pa_cons (pe_call (ok__law_bounded T) hr (by rfl) T.g__law_bounded T.F__law_bounded.kp T.b__law_bounded .nil pass0 (pa_cons (pe_ix ix_tupH (pv 0) pe_int (fun _ _ => rfl)) pa_nil)) pa_nil)) (by rfl))
      (pss_cons (ps_par (i := 6) (j := 7) (by rfl) sc__law_counts.nd rfl rfl (by decide) rfl rfl (pa_cons (pe_call (ok__law_bounded T) hr (by rfl) T.g__law_bounded T.F__law_bounded.kp T.b__law_bounded .nil pass0 (pa_cons (pe_ix ix_tupH (pv 1) pe_int (fun _ _ => rfl)) pa_nil)) (pa_cons (pe_call (ok__law_bounded T) hr (by rfl) T.g__law_bounded T.F__law_bounded.kp T.b__law_bounded .nil pass0 (pa_cons (pe_ix ix_tupH (pv 1) pe_int (fun _ _ => rfl)) pa_nil)) pa_nil)) (by rfl))
      (pss_cons (ps_if (pt_chain op_le op_lt (pv 5) (pv 3) (pv 7)) (pss_one (ps_ret (pe_cmpR op_le (pe_op op_add (pe_op op_mul (pv 4) (pe_op op_sub (pv 7) (pv 5))) (pe_op op_mul (pe_op op_sub (pv 3) (pv 5)) (pe_op op_sub (pv 6) (pv 4)))) (pe_op op_mul (pv 2) (pe_op op_sub (pv 7) (pv 5))) (nomark _)))) pss_nil)
      (pss_cons (ps_if (pt_chain op_le op_lt (pv 7) (pv 3) (pv 5)) (pss_one (ps_ret (pe_cmpR op_le (pe_op op_add (pe_op op_mul (pv 6) (pe_op op_sub (pv 5) (pv 7))) (pe_op op_mul (pe_op op_sub (pv 3) (pv 7)) (pe_op op_sub (pv 4) (pv 6)))) (pe_op op_mul (pv 2) (pe_op op_sub (pv 5) (pv 7))) (nomark _)))) pss_nil)
      (pss_one (ps_ret pe_bl)))))), ?_⟩
    walk_at "vc ha hb sp__law_bounded"
    have h1 := bd_in p.1
    have h2 := bd_in p.2
    have h3 := bd_in r.1
    have h4 := bd_in r.2
    unfold cntP bdp at q
    simp only at q
    have two : (¬ (bd p.2 ≤ y ∧ y < bd r.2)) → (bd r.2 ≤ y → y < bd p.2 → Q (V.bl (decide (bd r.1 * (bd p.2 - bd r.2) + (y - bd r.2) * (bd p.1 - bd r.1) ≤ x * (bd p.2 - bd r.2)))) H) ∧ ((¬ (bd r.2 ≤ y ∧ y < bd p.2)) → Q (V.bl false) H) := by
      intro n
      rw [if_neg n] at q
      exact ⟨fun a b => by rw [if_pos ⟨a, b⟩] at q; exact q, fun n2 => by rw [if_neg n2] at q; exact q⟩
    refine iteP (fun c1 => iteP (fun c2 => ?_) (fun c2 => ?_)) (fun c1 => ?_)
    · rw [if_pos ⟨c1, c2⟩] at q
      exact ⟨.inl ⟨by omega, by omega⟩, .inl ⟨by omega, by omega⟩, .inl ⟨by omega, by omega⟩, q⟩
    · obtain ⟨t1, t2⟩ := two fun z => c2 z.2
      exact iteP (fun c3 => iteP (fun c4 => ⟨.inl ⟨by omega, by omega⟩, .inl ⟨by omega, by omega⟩, .inl ⟨by omega, by omega⟩, t1 c3 c4⟩) fun c4 => t2 fun z => c4 z.2) fun c3 => t2 fun z => c3 z.1
    · obtain ⟨t1, t2⟩ := two fun z => c1 z.1
      exact iteP (fun c3 => iteP (fun c4 => ⟨.inl ⟨by omega, by omega⟩, .inl ⟨by omega, by omega⟩, .inl ⟨by omega, by omega⟩, t1 c3 c4⟩) fun c4 => t2 fun z => c4 z.2) fun c3 => t2 fun z => c3 z.1
/-! ### which middles are inside -/
def prevN (n k : Nat) : Nat := if k = 0 then n - 1 else k - 1
def pairsL (ps : List Pt) : List (Pt × Pt) := (List.range ps.length).map fun k => (ps.getD (prevN ps.length k) (0, 0), ps.getD k (0, 0))
def cntB (x y : Int) (pq : Pt × Pt) : Bool := cntP (bdp pq.1) (bdp pq.2) x y
def lawCnt (x y : Int) : List (List Pt) → Nat
  | [] => 0
  | ps :: r => (pairsL ps).countP (cntB x y) + lawCnt x y r
theorem lawCnt_app (x y : Int) (as bs : List (List Pt)) : lawCnt x y (as ++ bs) = lawCnt x y as + lawCnt x y bs := by
  induction as with
  | nil => rw [List.nil_append, lawCnt, Nat.zero_add]
  | cons p r ih => rw [List.cons_append, lawCnt, lawCnt, ih, Nat.add_assoc]
def insL (os : List (List Pt)) (x y : Int) : Bool := decide (lawCnt x y os % 2 = 1)
def sp__law_inside (K : PySem.W.Frag) : Sp := fun vs H Q _ => ∃ (aO : Addr) (os : List (List Pt)) (x y : Int), vs = [.ref aO, .int x, .int y] ∧ (Outs H aO os) ∧ (∀ ps ∈ os, ps.length ≤ 1000) ∧ (0 ≤ x ∧ x ≤ 1000) ∧ (0 ≤ y ∧ y ≤ 1000) ∧ (Q (.bl (insL os x y)) H)
theorem ok__law_inside (T : Txt K mg) : FnOk P w K mg base CX0 3 T.f__law_inside T.fd__law_inside ["outlines", "x", "y"] (sp__law_inside K) := by
  refine T.F__law_inside.ok sc__law_inside (fun vs H Q E h => ?_) (fun cdv A outer s H vs Q E hr h => ?_)
  · obtain ⟨aO, os, x, y, rfl, _⟩ := h
    rfl
  · obtain ⟨aO, os, x, y, rfl, hO, hps, hx, hy, q⟩ := h
    refine ⟨_, (pss_cons (ps_set (i := 3) sc__law_inside.nd rfl (Or.inl rfl) pe_int)
      (pss_cons (ps_for PassesOwn.never rfl (pi_tupS (pv 0)) (pg_name (i := 4) sc__law_inside.nd rfl (Or.inl rfl)) (pss_one (ps_for PassesOwn.never rfl (pi_range1 (by rfl) T.z_range (pa_cons (pe_callB call_lenT (by rfl) T.z_len PySem.boot_len (pa_cons (pv 4) pa_nil)) pa_nil)) (pg_name (i := 5) sc__law_inside.nd rfl (Or.inl rfl)) (pss_one (ps_if (pt_val (pe_call (ok__law_counts T) hr (by rfl) T.g__law_counts T.F__law_counts.kp T.b__law_counts .nil pass0 (pa_cons (pe_ix ix_tupH (pv 4) (pe_op op_sub (pv 5) pe_int) (fun _ _ => rfl)) (pa_cons (pe_ix ix_tupH (pv 4) (pv 5) (fun _ _ => rfl)) (pa_cons (pv 1) (pa_cons (pv 2) pa_nil)))))) (pss_one (ps_set (i := 3) sc__law_inside.nd rfl (Or.inl rfl) (pe_op op_add (pv 3) pe_int))) pss_nil)))))
      (pss_one (ps_ret (pe_cmpR op_eq (pe_op op_and (pv 3) pe_int) pe_int (nomark _)))))), ?_⟩
    obtain ⟨ws, gO, hO⟩ := hO
    walk_at "vc gO"
    refine lpW (walkT (xs := ws)) (fun i σ H' => ∃ (v4 v5 : Option V), σ = [some (.ref aO), some (.int x), some (.int y), some (.int ((lawCnt x y (os.take i) : Nat) : Int)), v4, v5] ∧ H' = H) ⟨_, _, rfl, rfl⟩ ?_ ?_ ?_
    · rintro i σ H' _ ⟨_, _, _, rfl⟩
      exact gO
    · rintro i v σ H' H2 hi ⟨v4, v5, rfl, rfl⟩ ⟨rfl, hv⟩
      obtain ⟨ps, hpsi, ap, vs, rfl, gp, hp⟩ := hO.at hv
      have hpl := hps ps (List.mem_of_getElem? hpsi)
      have hvl := hp.len
      rw [take_succ hpsi, lawCnt_app]
      walk_at "vc gp"
      refine ⟨by omega, by omega, lpW (walkR (n := vs.length)) (fun j σ H' => ∃ (v5 : Option V), σ = [some (.ref aO), some (.int x), some (.int y), some (.int ((lawCnt x y (os.take i) + ((pairsL ps).take j).countP (cntB x y) : Nat) : Int)), some (.ref ap), v5] ∧ H' = H2) ⟨_, rfl, rfl⟩ (fun _ _ _ _ _ => True.intro) ?_ ?_⟩
      · rintro j u σ H' H3 hj ⟨v5, rfl, rfl⟩ ⟨rfl, rfl⟩
        walk_at "vc gp"
        have hj1 : j < ps.length := by omega
        have hpj : prevN ps.length j < vs.length := by unfold prevN; split <;> omega
        obtain ⟨b, hb, a2, hba, ga2⟩ := hp.at (List.getElem?_eq_getElem hj)
        obtain ⟨c, hc, a1, hca, ga1⟩ := hp.at (List.getElem?_eq_getElem hpj)
        have e1 : atI vs ((j : Int) - 1) = some (V.ref a1) := by
          rw [← hca]
          unfold atI ixN prevN
          by_cases z : j = 0
          · subst z
            simp only [Int.natCast_zero]
            rw [if_neg (by omega), if_pos (by omega)]
            show vs[(0 - 1 + (vs.length : Int)).toNat]? = _
            rw [show (0 - 1 + (vs.length : Int)).toNat = ps.length - 1 by omega]
            exact List.getElem?_eq_getElem _
          · rw [if_pos (by omega), if_pos (by omega)]
            show vs[((j : Int) - 1).toNat]? = _
            rw [show ((j : Int) - 1).toNat = j - 1 by omega]
            simp only [if_neg z]
            exact List.getElem?_eq_getElem _
        have e2 : atI vs (j : Int) = some (V.ref a2) := by
          rw [← hba]
          exact atI_nat (List.getElem?_eq_getElem hj)
        refine ⟨_, e1, _, e2, a1, a2, c, b, x, y, rfl, ga1, ga2, hx, hy, ?_⟩
        have hpair : (pairsL ps)[j]? = some (c, b) := by
          unfold pairsL
          rw [List.getElem?_map, List.getElem?_range hj1]
          show some (ps.getD (prevN ps.length j) (0, 0), ps.getD j (0, 0)) = _
          rw [List.getD_eq_getElem?_getD, List.getD_eq_getElem?_getD, hb, hc]
          rfl
        rw [take_succ hpair, List.countP_append, List.countP_cons, List.countP_nil]
        show ∃ cc, V.bl (cntB x y (c, b)) = V.bl cc ∧ _
        refine ⟨_, rfl, ?_⟩
        refine iteP (fun z => ?_) (fun z => ?_)
        · rw [if_pos z]
          exact ⟨by omega, rfl⟩
        · rw [if_neg z]
          exact ⟨by omega, rfl⟩
      · rintro σ H' ⟨v5, rfl, rfl⟩
        rw [List.take_of_length_le (l := pairsL ps) (by unfold pairsL; rw [List.length_map, List.length_range, hvl]; exact Nat.le_refl _)]
        exact ⟨⟨some (.ref ap), v5, by simp only [lawCnt, Nat.add_zero, Int.natCast_add]⟩, rfl⟩
    · rintro σ H' ⟨v4, v5, rfl, rfl⟩
      rw [hO.len, List.take_length]
      walk_at "vc"
      have e : insL os x y = decide (((lawCnt x y os : Nat) : Int) % 2 = 1) := decide_eq_decide.mpr (by omega)
      rw [← e]
      exact q
def sp__law_in_box (K : PySem.W.Frag) : Sp := fun vs H Q _ => ∃ (a : Addr) (x y b0 b1 b2 b3 : Int), vs = [.int x, .int y, .ref a] ∧ (H a = some (.tup (List.map V.int [b0, b1, b2, b3]))) ∧ (∀ H', Same H H' → Q (.bl (decide ((bd b0 ≤ x ∧ x < bd b2) ∧ (bd b1 ≤ y ∧ y < bd b3)))) H')
theorem ok__law_in_box (T : Txt K mg) : FnOk P w K mg base CX0 2 T.f__law_in_box T.fd__law_in_box ["x", "y", "box"] (sp__law_in_box K) := by
  refine T.F__law_in_box.ok sc__law_in_box (fun vs H Q E h => ?_) (fun cdv A outer s H vs Q E hr h => ?_)
  · obtain ⟨a, x, y, b0, b1, b2, b3, rfl, _⟩ := h
    rfl
  · obtain ⟨a, x, y, b0, b1, b2, b3, rfl, hB, q⟩ := h
    refine ⟨_, (pss_cons (ps_setLc (i := 3) (own := [("number", 4)]) (g := (gName 4)) rfl sc__law_in_box.nd rfl rfl (sw_true rfl rfl rfl (by decide +kernel)) (pi_tupS (pv 2)) (blkOk_by (own := [("number", 4)]) (N := ["x", "y", "box", "near", "number"]) (sc := defScope s__law_in_box) (by decide +kernel)) (fun _ _ _ _ _ => (pg_name (i := 4) sc__law_in_box.nd rfl (Or.inl rfl))) (fun _ _ _ _ _ => pts_nil) (fun _ _ _ _ _ => (pe_call (ok__law_bounded T) hr (by rfl) T.g__law_bounded T.F__law_bounded.kp T.b__law_bounded .nil pass0 (pa_cons (pv 4) pa_nil))))
      (pss_one (ps_ret (pe_and (pe_chain op_le op_lt (pe_ix ix_listH (pv 3) pe_int (fun _ _ => rfl)) (pv 0) (pe_ix ix_listH (pv 3) pe_int (fun _ _ => rfl))) (pe_one (pe_chain op_le op_lt (pe_ix ix_listH (pv 3) pe_int (fun _ _ => rfl)) (pv 1) (pe_ix ix_listH (pv 3) pe_int (fun _ _ => rfl)))))))), ?_⟩
    walk_at "vc hB"
    refine lcL walkTI (L := fun i => List.map V.int (([b0, b1, b2, b3].map bd).take i)) rfl (fun _ s => s _ _ hB) (fun D i x H1 H2 hi hD s1 g1 y => ?_) (fun pn H2 s2 n2 gn => ?_)
    · obtain ⟨rfl, b, hb, rfl⟩ := y
      rw [take_map_succ bd hb]
      walk_at "vc sp__law_bounded g1"
      exact ⟨take_lt _ _ (show 4 < sizeLine by decide), same_upd2 s1 hD⟩
    replace gn : H2 pn = some (.lst (List.map V.int [bd b0, bd b1, bd b2, bd b3])) := gn
    walk_at "vc gn"
    have q2 := q H2 s2
    have no : ¬ ((bd b0 ≤ x ∧ x < bd b2) ∧ (bd b1 ≤ y ∧ y < bd b3)) → Q (.bl false) H2 := fun z => by rw [decide_eq_false z] at q2; exact q2
    refine iteP (fun a1 => iteP (fun a2 => iteP (fun a3 => ?_) fun z => no fun c => z c.2.1) fun z => no fun c => z c.1.2) fun z => no fun c => z c.1.1
    rw [show decide (y < bd b3) = decide ((bd b0 ≤ x ∧ x < bd b2) ∧ (bd b1 ≤ y ∧ y < bd b3)) from decide_eq_decide.mpr ⟨fun a4 => ⟨⟨a1, a2⟩, a3, a4⟩, fun c => c.2.2⟩]
    exact q2
def sp__law_box (K : PySem.W.Frag) : Sp := fun vs H Q _ => ∃ (c : Int) (w h : Nat), vs = [.int c, .int (w : Int), .int (h : Int)] ∧ (0 ≤ c) ∧ (1 ≤ w ∧ w ≤ 12) ∧ (1 ≤ h ∧ h ≤ 9) ∧ (∀ (H' : Hp) (p : Addr) (x0 y0 x1 y1 : Int), Same H H' → H p = none → H' p = some (.tup (List.map V.int [x0, y0, x1, y1])) → Q (.ref p) H')
theorem ok__law_box (T : Txt K mg) : FnOk P w K mg base CX0 1 T.f__law_box T.fd__law_box ["cell", "width", "height"] (sp__law_box K) := by
  refine T.F__law_box.ok sc__law_box (fun vs H Q E h => ?_) (fun cdv A outer s H vs Q E hr h => ?_)
  · obtain ⟨c, w, h, rfl, _⟩ := h
    rfl
  · obtain ⟨c, w, h, rfl, hc, hw, hh, q⟩ := h
    refine ⟨_, (pss_cons (ps_if (pt_cmpR op_eq (pe_op op_mod (pe_callTy call_int1 (by rfl) T.z_int (by decide +kernel) (pa_cons (pv 0) pa_nil)) pe_int) pe_int (nomark _)) (pss_one (ps_ret (pe_tupS (pa_cons pe_int (pa_cons pe_int (pa_cons (pe_op op_mul pe_int (pv 1)) (pa_cons (pe_op op_mul pe_int (pv 2)) pa_nil))))))) pss_nil)
      (pss_cons (ps_set (i := 3) sc__law_box.nd rfl (Or.inl rfl) (pe_op op_fdiv (pv 0) pe_int))
      (pss_cons (ps_set (i := 4) sc__law_box.nd rfl (Or.inl rfl) (pe_op op_sub (pe_op op_mod (pe_callTy call_int1 (by rfl) T.z_int (by decide +kernel) (pa_cons (pv 3) pa_nil)) (pe_op op_add (pe_op op_mul pe_int (pv 1)) pe_int)) pe_int))
      (pss_cons (ps_set (i := 5) sc__law_box.nd rfl (Or.inl rfl) (pe_op op_sub (pe_op op_mod (pe_callTy call_int1 (by rfl) T.z_int (by decide +kernel) (pa_cons (pe_op op_fdiv (pv 3) pe_int) pa_nil)) (pe_op op_add (pe_op op_mul pe_int (pv 2)) pe_int)) pe_int))
      (pss_cons (ps_if (pt_cmpR op_eq (pe_op op_mod (pe_callTy call_int1 (by rfl) T.z_int (by decide +kernel) (pa_cons (pv 0) pa_nil)) pe_int) pe_int (nomark _)) (pss_one (ps_ret (pe_tupS (pa_cons (pv 4) (pa_cons (pv 5) (pa_cons (pe_op op_sub (pe_op op_add (pv 4) (pe_op op_mod (pe_callTy call_int1 (by rfl) T.z_int (by decide +kernel) (pa_cons (pe_op op_fdiv (pv 3) pe_int) pa_nil)) pe_int)) pe_int) (pa_cons (pe_op op_sub (pe_op op_add (pv 5) (pe_op op_mod (pe_callTy call_int1 (by rfl) T.z_int (by decide +kernel) (pa_cons (pe_op op_fdiv (pv 3) pe_int) pa_nil)) pe_int)) pe_int) pa_nil))))))) pss_nil)
      (pss_one (ps_ret (pe_tupS (pa_cons (pv 4) (pa_cons (pe_un un_neg pe_int) (pa_cons (pe_op op_add pe_int (pe_callTy call_int1 (by rfl) T.z_int (by decide +kernel) (pa_cons (pv 3) pa_nil))) (pa_cons (pe_op op_mul pe_int (pv 2)) pa_nil)))))))))))), ?_⟩
    walk_at "vc"
    have fin : ∀ x0 y0 x1 y1 : Int, NewH H (.tup [.int x0, .int y0, .int x1, .int y1]) fun p H' => Q (.ref p) H' := fun x0 y0 x1 y1 p H' s n g => q H' p x0 y0 x1 y1 s n g
    refine iteP (fun _ => fin _ _ _ _) fun _ => ⟨by omega, by omega, iteP (fun _ => fin _ _ _ _) fun _ => fin _ _ _ _⟩
def lCell (os : List (List Pt)) (c0 c1 c2 c3 col : Int) (w r : Nat) (p : List Int) (c : Nat) : List Int :=
  if ((bd c0 ≤ 4 * (c : Int) + 2 ∧ 4 * (c : Int) + 2 < bd c2) ∧ (bd c1 ≤ 4 * (r : Int) + 2 ∧ 4 * (r : Int) + 2 < bd c3)) ∧ insL os (4 * (c : Int) + 2) (4 * (r : Int) + 2) = true then p.set (r * w + c) col else p
def lRow (os : List (List Pt)) (c0 c1 c2 c3 col : Int) (w : Nat) (p : List Int) (r : Nat) : List Int := (List.range w).foldl (lCell os c0 c1 c2 c3 col w r) p
def lAll (os : List (List Pt)) (c0 c1 c2 c3 col : Int) (w h : Nat) (cs : List Int) : List Int := (List.range h).foldl (lRow os c0 c1 c2 c3 col w) cs
theorem lCell_len {os : List (List Pt)} {c0 c1 c2 c3 col : Int} {w r : Nat} (p : List Int) (c : Nat) : (lCell os c0 c1 c2 c3 col w r p c).length = p.length := by
  unfold lCell
  split
  · rw [List.length_set]
  · rfl
theorem lRow_len {os : List (List Pt)} {c0 c1 c2 c3 col : Int} {w : Nat} (p : List Int) (r : Nat) : (lRow os c0 c1 c2 c3 col w p r).length = p.length := foldl_len lCell_len _ p
theorem range_take {α : Type} (f : α → Nat → α) (s : α) {n i : Nat} (_h : i < n) : (List.range (i + 1)).foldl f s = f ((List.range i).foldl f s) i := by
  rw [List.range_succ, List.foldl_append]
  rfl
def sp__law_filled (K : PySem.W.Frag) : Sp := fun vs H Q _ => ∃ (aG aC aK aO : Addr) (w h : Nat) (cs : List Int) (c0 c1 c2 c3 col : Int) (os : List (List Pt)), vs = [.ref aG, .ref aK, .ref aO, .int col] ∧ (H aG = some (.tup [.int (w : Int), .int (h : Int), .ref aC])) ∧ (H aC = some (.lst (List.map V.int cs))) ∧ (H aK = some (.tup (List.map V.int [c0, c1, c2, c3]))) ∧ (Outs H aO os) ∧ (cs.length = w * h) ∧ (w ≤ 100) ∧ (h ≤ 100) ∧ (∀ ps ∈ os, ps.length ≤ 1000) ∧ (∀ H' p c, Same H H' → H p = none → H c = none → H' p = some (.tup [.int (w : Int), .int (h : Int), .ref c]) → H' c = some (.lst (List.map V.int (lAll os c0 c1 c2 c3 col w h cs))) → Q (.ref p) H')
theorem ok__law_filled (T : Txt K mg) : FnOk P w K mg base CX0 4 T.f__law_filled T.fd__law_filled ["grid", "clip", "outlines", "colour"] (sp__law_filled K) := by
  refine T.F__law_filled.ok sc__law_filled (fun vs H Q E h => ?_) (fun cdv A outer s H vs Q E hr h => ?_)
  · obtain ⟨aG, aC, aK, aO, w, h, cs, c0, c1, c2, c3, col, os, rfl, _⟩ := h
    rfl
  · obtain ⟨aG, aC, aK, aO, w, h, cs, c0, c1, c2, c3, col, os, rfl, hG, hC, hK, hO, hl, hw, hh, hn, q⟩ := h
    refine ⟨_, (pss_cons (ps_asg (pv 0) (pg_tupS (n := 3) (by rfl) (pgs_cons (pg_name (i := 4) sc__law_filled.nd rfl (Or.inl rfl)) (pgs_cons (pg_name (i := 5) sc__law_filled.nd rfl (Or.inl rfl)) (pgs_cons (pg_name (i := 6) sc__law_filled.nd rfl (Or.inl rfl)) pgs_nil)))))
      (pss_cons (ps_set (i := 6) sc__law_filled.nd rfl (Or.inl rfl) (pe_callTy call_listS (by rfl) T.z_list (by decide +kernel) (pa_cons (pv 6) pa_nil)))
      (pss_cons (ps_for PassesOwn.never rfl (pi_range1 (by rfl) T.z_range (pa_cons (pv 5) pa_nil)) (pg_name (i := 7) sc__law_filled.nd rfl (Or.inl rfl)) (pss_one (ps_for PassesOwn.never rfl (pi_range1 (by rfl) T.z_range (pa_cons (pv 4) pa_nil)) (pg_name (i := 8) sc__law_filled.nd rfl (Or.inl rfl)) (pss_one (ps_if (PW.pt (pw_and (pt_val (pe_call (ok__law_in_box T) (hr.mono (by decide)) (by rfl) T.g__law_in_box T.F__law_in_box.kp T.b__law_in_box .nil pass0 (pa_cons (pe_op op_add (pe_op op_mul pe_int (pv 8)) pe_int) (pa_cons (pe_op op_add (pe_op op_mul pe_int (pv 7)) pe_int) (pa_cons (pv 1) pa_nil))))) (pw_and1 (pt_val (pe_call (ok__law_inside T) hr (by rfl) T.g__law_inside T.F__law_inside.kp T.b__law_inside .nil pass0 (pa_cons (pv 2) (pa_cons (pe_op op_add (pe_op op_mul pe_int (pv 8)) pe_int) (pa_cons (pe_op op_add (pe_op op_mul pe_int (pv 7)) pe_int) pa_nil)))))))) (pss_one (ps_asg (pv 3) (pg_sub (pv 6) (pe_op op_add (pe_op op_mul (pv 7) (pv 4)) (pv 8)) set_list))) pss_nil)))))
      (pss_one (ps_ret (pe_tupS (pa_cons (pv 4) (pa_cons (pv 5) (pa_cons (pv 6) pa_nil))))))))), ?_⟩
    walk_at "vc hG hC"
    intro pc H1 s1 n1 gc
    refine ⟨by omega, by omega, lpW (walkR (n := h)) (fun i σ H' => ∃ (yv xv : Option V), σ = [some (.ref aG), some (.ref aK), some (.ref aO), some (.int col), some (.int (w : Int)), some (.int (h : Int)), some (.ref pc), yv, xv] ∧ Same H H' ∧
      H' pc = some (.lst (List.map V.int ((List.range i).foldl (lRow os c0 c1 c2 c3 col w) cs)))) ⟨_, _, rfl, s1, gc⟩ (fun _ _ _ _ _ => True.intro) ?_ ?_⟩
    · rintro i x σ H' H5 hi ⟨yv, xv, rfl, sm, gp⟩ ⟨rfl, rfl⟩
      have hpl : ((List.range i).foldl (lRow os c0 c1 c2 c3 col w) cs).length = w * h := by rw [foldl_len lRow_len, hl]
      rw [range_take _ _ hi]
      generalize (List.range i).foldl (lRow os c0 c1 c2 c3 col w) cs = p0 at gp hpl ⊢
      walk_at "vc"
      refine ⟨by omega, by omega, lpW (walkR (n := w)) (fun j σ H' => ∃ (xv : Option V), σ = [some (.ref aG), some (.ref aK), some (.ref aO), some (.int col), some (.int (w : Int)), some (.int (h : Int)), some (.ref pc), some (.int (i : Int)), xv] ∧ Same H H' ∧
        H' pc = some (.lst (List.map V.int ((List.range j).foldl (lCell os c0 c1 c2 c3 col w i) p0)))) ⟨_, rfl, sm, gp⟩ (fun _ _ _ _ _ => True.intro) ?_ ?_⟩
      · rintro j x σ H' H5 hj ⟨xv, rfl, sm, gp⟩ ⟨rfl, rfl⟩
        have hpl2 : ((List.range j).foldl (lCell os c0 c1 c2 c3 col w i) p0).length = w * h := by rw [foldl_len lCell_len, hpl]
        rw [range_take _ _ hj]
        generalize (List.range j).foldl (lCell os c0 c1 c2 c3 col w i) p0 = p1 at gp hpl2 ⊢
        walk_at "vc"
        refine ⟨aK, _, _, c0, c1, c2, c3, rfl, sm _ _ hK, fun H6 s6 => ⟨_, rfl, ?_⟩⟩
        have gp6 := s6 _ _ gp
        have sm6 := sm.trans s6
        have no : ¬ (((bd c0 ≤ 4 * (j : Int) + 2 ∧ 4 * (j : Int) + 2 < bd c2) ∧ (bd c1 ≤ 4 * (i : Int) + 2 ∧ 4 * (i : Int) + 2 < bd c3)) ∧ insL os (4 * (j : Int) + 2) (4 * (i : Int) + 2) = true) →
            Same H H6 ∧ H6 pc = some (.lst (List.map V.int (lCell os c0 c1 c2 c3 col w i p1 j))) := fun z => ⟨sm6, by unfold lCell; rw [if_neg z]; exact gp6⟩
        refine iteD (fun a1 => ?_) (fun z => no fun c => z c.1)
        refine ⟨aO, os, _, _, rfl, hO.mono sm6, hn, ⟨by omega, by omega⟩, ⟨by omega, by omega⟩, _, rfl, ?_⟩
        refine iteP (fun a2 => ?_) (fun z => no fun c => z c.2)
        have hix := ix_in hi hj
        refine ⟨.inr ⟨by omega, by omega⟩, _, gp6, i * w + j, ?_, same_upd2 sm6 n1, ?_⟩
        · rw [List.length_map, ixN_in (by omega) (by rw [hpl2]; omega)]
          congr 1
        · unfold lCell
          rw [if_pos ⟨a1, a2⟩, List.map_set]
      · rintro σ H' ⟨xv, rfl, sm, gp⟩
        exact ⟨⟨_, _, rfl⟩, sm, gp⟩
    · rintro σ H' ⟨yv, xv, rfl, sm, gp⟩
      walk_at "vc"
      intro p5 H6 s6 n6 g6
      exact q _ p5 pc (sm.trans s6) (sm.free n6) n1 g6 (s6 _ _ gp)

/-! ### both ways of filling -/
theorem fc_le {d A : Int} {w c : Nat} (hd : 0 < d) (hc : c < w) : mn (mx (-((2 * d - A) / (4 * d))) 0) w ≤ c ↔ A ≤ (4 * (c : Int) + 2) * d := by
  have h1 : mn (mx (-((2 * d - A) / (4 * d))) 0) w ≤ c ↔ -((2 * d - A) / (4 * d)) ≤ (c : Int) := by
    unfold mn mx
    repeat' split
    all_goals omega
  rw [h1, show -((2 * d - A) / (4 * d)) ≤ (c : Int) ↔ -(c : Int) ≤ (2 * d - A) / (4 * d) by omega, Int.le_ediv_iff_mul_le (by omega), show -(c : Int) * (4 * d) = -(4 * ((c : Int) * d)) by rw [Int.neg_mul, Int.mul_left_comm],
    show (4 * (c : Int) + 2) * d = 4 * ((c : Int) * d) + 2 * d by rw [Int.add_mul, Int.mul_assoc]]
  omega
theorem edge_cnt (p q : Pt) (y : Int) {w c : Nat} (hc : c < w) : ((mkE p q).map fun e => hitE y e && decide (fcE y w e ≤ c)).getD false = cntP p q (4 * (c : Int) + 2) y := by
  unfold mkE cntP
  by_cases h1 : p.2 < q.2
  · rw [if_pos h1]
    show (decide (p.2 ≤ y ∧ y < q.2) && decide (fcE y w (p.1, p.2, q.1, q.2) ≤ c)) = _
    by_cases h2 : p.2 ≤ y ∧ y < q.2
    · rw [if_pos h2, decide_eq_true h2, Bool.true_and]
      exact decide_eq_decide.mpr (fc_le (show 0 < q.2 - p.2 by omega) hc)
    · rw [if_neg h2, decide_eq_false h2, Bool.false_and, if_neg (by omega)]
  · rw [if_neg h1, if_neg (show ¬ (p.2 ≤ y ∧ y < q.2) by omega)]
    by_cases h3 : q.2 < p.2
    · rw [if_pos h3]
      show (decide (q.2 ≤ y ∧ y < p.2) && decide (fcE y w (q.1, q.2, p.1, p.2) ≤ c)) = _
      by_cases h2 : q.2 ≤ y ∧ y < p.2
      · rw [if_pos h2, decide_eq_true h2, Bool.true_and]
        exact decide_eq_decide.mpr (fc_le (show 0 < p.2 - q.2 by omega) hc)
      · rw [if_neg h2, decide_eq_false h2, Bool.false_and]
    · rw [if_neg h3, if_neg (show ¬ (q.2 ≤ y ∧ y < p.2) by omega)]
      rfl
def bdpp (pq : Pt × Pt) : Pt × Pt := (bdp pq.1, bdp pq.2)
theorem rot_len {α : Type} (l : List α) : (rot l).length = l.length := by
  unfold rot
  rw [List.length_append, List.length_drop, List.length_take]
  omega
theorem rot_at {α : Type} (l : List α) (k : Nat) : (rot l)[k]? = if k + 1 < l.length then l[k + 1]? else if k + 1 = l.length then l[0]? else none := by
  unfold rot
  rw [List.getElem?_append, List.length_drop, List.getElem?_drop, List.getElem?_take]
  by_cases h : k + 1 < l.length
  · rw [if_pos h, if_pos (by omega), Nat.add_comm]
  · rw [if_neg h]
    by_cases h2 : k + 1 = l.length
    · rw [if_pos h2, if_neg (by omega), show k - (l.length - 1) = 0 by omega, if_pos (by decide)]
    · rw [if_neg h2]
      by_cases h3 : k < l.length - 1
      · omega
      · rw [if_neg h3]
        by_cases h4 : k - (l.length - 1) < 1
        · rw [if_pos h4]
          have : l.length = 0 := by omega
          rw [List.eq_nil_of_length_eq_zero this]
          rfl
        · rw [if_neg h4]
theorem pairs_at {ps : List Pt} {k : Nat} (h : k < ps.length) : ((pairsL ps).map bdpp)[k]? = some ((ps.map bdp).getD (prevN ps.length k) (0, 0), (ps.map bdp).getD k (0, 0)) := by
  unfold pairsL
  have h2 : prevN ps.length k < ps.length := by unfold prevN; split <;> omega
  rw [List.map_map, List.getElem?_map, List.getElem?_range h]
  simp only [List.getD_eq_getElem?_getD, List.getElem?_map, List.getElem?_eq_getElem h, List.getElem?_eq_getElem h2, Option.map_some, Option.getD_some, Function.comp, bdpp]
theorem zip_rot (ps : List Pt) : (ps.map bdp).zip (rot (ps.map bdp)) = rot ((pairsL ps).map bdpp) := by
  refine List.ext_getElem? fun k => ?_
  have hl : ((pairsL ps).map bdpp).length = ps.length := by unfold pairsL; rw [List.length_map, List.length_map, List.length_range]
  rw [rot_at, hl]
  by_cases h : k + 1 < ps.length
  · rw [if_pos h, pairs_at h, List.getElem?_zip_eq_some]
    have hk : k < (ps.map bdp).length := by rw [List.length_map]; omega
    have hk1 : k + 1 < (ps.map bdp).length := by rw [List.length_map]; omega
    rw [rot_at, if_pos hk1]
    simp only [prevN, Nat.add_one_ne_zero, if_false, Nat.add_sub_cancel, List.getD_eq_getElem?_getD, List.getElem?_eq_getElem hk, List.getElem?_eq_getElem hk1, Option.getD_some, and_self]
  · rw [if_neg h]
    by_cases h2 : k + 1 = ps.length
    · rw [if_pos h2, pairs_at (by omega), List.getElem?_zip_eq_some]
      have hk : k < (ps.map bdp).length := by rw [List.length_map]; omega
      have hk0 : 0 < (ps.map bdp).length := by rw [List.length_map]; omega
      rw [rot_at, if_neg (by rw [List.length_map]; exact h), if_pos (by rw [List.length_map]; exact h2)]
      have e : prevN ps.length 0 = k := by unfold prevN; rw [if_pos rfl]; omega
      rw [e]
      simp only [List.getD_eq_getElem?_getD, List.getElem?_eq_getElem hk, List.getElem?_eq_getElem hk0, Option.getD_some, and_self]
    · rw [if_neg h2]
      refine List.getElem?_eq_none ?_
      rw [List.length_zip, rot_len, List.length_map]
      omega
theorem countP_rot {α : Type} (p : α → Bool) (l : List α) : (rot l).countP p = l.countP p := by
  unfold rot
  rw [List.countP_append, Nat.add_comm, ← List.countP_append, List.take_append_drop]
theorem edges_cnt (ps : List Pt) (y : Int) {w c : Nat} (hc : c < w) : (edgesOf ps).countP (fun e => hitE y e && decide (fcE y w e ≤ c)) = (pairsL ps).countP (cntB (4 * (c : Int) + 2) y) := by
  unfold edgesOf
  rw [List.countP_filterMap, zip_rot, countP_rot, List.countP_map]
  refine List.countP_congr fun pq _ => ?_
  show ((mkE (bdp pq.1) (bdp pq.2)).map _).getD false = true ↔ _
  rw [edge_cnt _ _ y hc]
  rfl
theorem par_eq : ∀ (os : List (List Pt)) (y : Int) {w c : Nat}, c < w → (edgesAll os).countP (fun e => hitE y e && decide (fcE y w e ≤ c)) = lawCnt (4 * (c : Int) + 2) y os
  | [], _, _, _, _ => rfl
  | ps :: r, y, w, c, hc => by
    unfold edgesAll
    rw [List.flatMap_cons, List.countP_append, edges_cnt ps y hc, lawCnt]
    congr 1
    exact par_eq r y hc
theorem fil_eq {os : List (List Pt)} {c0 c1 c2 c3 col : Int} {w h : Nat} {cs : List Int} (hw : w ≤ 100) (hh : h ≤ 100) : lAll os c0 c1 c2 c3 col w h cs = fil (edgesAll os) c0 c1 c2 c3 col w h cs := by
  unfold lAll fil wi
  rw [List.foldl_filter]
  refine foldl_ext' fun p r hr => ?_
  have hr := List.mem_range.mp hr
  unfold lRow frow
  by_cases hrow : inW c1 c3 r
  · rw [if_pos (decide_eq_true hrow), List.foldl_filter]
    refine foldl_ext' fun p c hc => ?_
    have hc := List.mem_range.mp hc
    have e : parE (edgesAll os) (4 * (r : Int) + 2) w c = insL os (4 * (c : Int) + 2) (4 * (r : Int) + 2) := by unfold parE insL; rw [par_eq os _ hc]
    unfold lCell fcell
    rw [e]
    have b1 := bd_le (c := c1) (m := 4 * (r : Int) + 2) (by omega) (by omega)
    have b2 := lt_bd (c := c3) (m := 4 * (r : Int) + 2) (by omega) (by omega)
    have b3 := bd_le (c := c0) (m := 4 * (c : Int) + 2) (by omega) (by omega)
    have b4 := lt_bd (c := c2) (m := 4 * (c : Int) + 2) (by omega) (by omega)
    by_cases hcol : inW c0 c2 c
    · rw [if_pos (decide_eq_true hcol)]
      by_cases z : insL os (4 * (c : Int) + 2) (4 * (r : Int) + 2) = true
      · rw [if_pos z, if_pos ⟨⟨⟨b3.mpr hcol.1, b4.mpr hcol.2⟩, b1.mpr hrow.1, b2.mpr hrow.2⟩, z⟩]
      · rw [if_neg z, if_neg fun k => z k.2]
    · rw [if_neg (fun z => hcol (of_decide_eq_true z)), if_neg]
      rintro ⟨⟨⟨a1, a2⟩, _⟩, _⟩
      exact hcol ⟨b3.mp a1, b4.mp a2⟩
  · rw [if_neg (fun z => hrow (of_decide_eq_true z))]
    refine foldl_same (fun p c _ => ?_) p
    unfold lCell
    rw [if_neg]
    rintro ⟨⟨_, a1, a2⟩, _⟩
    exact hrow ⟨(bd_le (by omega) (by omega)).mp a1, (lt_bd (by omega) (by omega)).mp a2⟩

/-! ### the law's marks -/
def sp__law_cost (K : PySem.W.Frag) : Sp := fun vs H Q _ => ∃ (v : V) (m : Mk) (h : Nat), vs = [v, .int (h : Int)] ∧ (MkV H v m) ∧ (MkOk m) ∧ (h ≤ 100) ∧ (∀ H', Same H H' → Q (.int (mkCost h m)) H')
theorem ok__law_cost (T : Txt K mg) : FnOk P w K mg base CX0 1 T.f__law_cost T.fd__law_cost ["mark", "height"] (sp__law_cost K) := by
  refine T.F__law_cost.ok sc__law_cost (fun vs H Q E h => ?_) (fun cdv A outer s H vs Q E hr h => ?_)
  · obtain ⟨v, m, h, rfl, _⟩ := h
    rfl
  · obtain ⟨v, m, h, rfl, hv, hm, hh, q⟩ := h
    refine ⟨_, (pss_cons (ps_if (pt_cmpR op_eq (pe_ix ix_tupH (pv 0) pe_int (fun _ _ => rfl)) pe_str (nomark _)) (pss_one (ps_ret (pe_op op_add pe_int (pe_op op_mul (pe_ix ix_tupH (pe_ix ix_tupH (pv 0) pe_int (fun _ _ => rfl)) pe_int (fun _ _ => rfl)) (pe_ix ix_tupH (pe_ix ix_tupH (pv 0) pe_int (fun _ _ => rfl)) pe_int (fun _ _ => rfl)))))) pss_nil)
      (pss_one (ps_ret (pe_op op_add pe_int (pe_op op_mul (pv 1) (pe_callB (cr_sumS rfl) (by rfl) T.z_sum (by decide +kernel) (pa_cons (pe_lc (own := [("outline", 2)]) (g := (gName 2)) rfl sc__law_cost.nd (pi_tupS (pe_ix ix_tupH (pv 0) pe_int (fun _ _ => rfl))) (blkOk_by (own := [("outline", 2)]) (N := ["mark", "height", "outline"]) (sc := defScope s__law_cost) (by decide +kernel)) (fun _ _ _ _ _ => (pg_name (i := 2) sc__law_cost.nd rfl (Or.inl rfl))) (fun _ _ _ _ _ => pts_nil) (fun _ _ _ _ _ => (pe_callB call_lenT (by rfl) T.z_len PySem.boot_len (pa_cons (pv 2) pa_nil)))) pa_nil))))))), ?_⟩
    cases m with
    | fill c0 c1 c2 c3 os col =>
      obtain ⟨a, ak, ao, rfl, g1, g2, ws, gO, hO⟩ := hv
      walk_at "vc g1 gO fill_ne' fillS_ne'"
      refine lcL (walkT (xs := ws)) (L := fun i => List.map V.int ((os.map fun ps => ((ps.length : Nat) : Int)).take i)) rfl (fun _ s => s _ _ gO) (fun D i x H1 H2 hi hD s1 g2 y => ?_) (fun D H1 s1 hD g2 => ?_)
      · obtain ⟨rfl, hx⟩ := y
        obtain ⟨ps, hps, ap, vs, rfl, gp, hp⟩ := hO.at hx
        have gp1 := s1 _ _ gp
        rw [take_map_succ _ hps]
        walk_at "vc gp1 g2"
        rw [hp.len]
        refine ⟨take_lt _ _ (Nat.lt_of_le_of_lt (by rw [List.length_map]; exact hm.1) (by decide)), same_upd2 s1 hD, rfl⟩
      · rw [hO.len, show os.length = (os.map fun ps => ((ps.length : Nat) : Int)).length by rw [List.length_map], List.take_length] at g2
        walk_at "vc g2"
        exact ⟨.inl ⟨by omega, by omega⟩, q _ s1⟩
    | image c0 c1 c2 c3 aw ah src b0 b1 b2 b3 =>
      obtain ⟨a, ak, ap, sa, ab, rfl, g1, g2, g3, g4, g5⟩ := hv
      walk_at "vc g1 g3 g4"
      have e : (1 : Int) + (aw : Int) * (ah : Int) = mkCost h (.image c0 c1 c2 c3 aw ah src b0 b1 b2 b3) := by
        show _ = (1 : Int) + (src.length : Int)
        rw [hm.2.2.1, Int.natCast_mul]
      obtain ⟨⟨w1, w2⟩, _⟩ := hm
      rw [e]
      exact ⟨.inl ⟨by omega, by omega⟩, q _ (Same.refl _)⟩
def dCell (x0 y0 x1 y1 c0 c1 c2 c3 : Int) (aw ah : Nat) (src : List Int) (w r : Nat) (p : List Int) (c : Nat) : List Int :=
  if ((c0 ≤ 4 * (c : Int) + 2 ∧ 4 * (c : Int) + 2 < c2) ∧ (c1 ≤ 4 * (r : Int) + 2 ∧ 4 * (r : Int) + 2 < c3)) ∧ ((x0 ≤ 4 * (c : Int) + 2 ∧ 4 * (c : Int) + 2 < x1) ∧ (y0 ≤ 4 * (r : Int) + 2 ∧ 4 * (r : Int) + 2 < y1)) then
    (if 0 ≤ gN src (sidx x0 y0 x1 y1 aw ah r c).toNat then p.set (r * w + c) (gN src (sidx x0 y0 x1 y1 aw ah r c).toNat) else p) else p
def dRow (x0 y0 x1 y1 c0 c1 c2 c3 : Int) (aw ah : Nat) (src : List Int) (w : Nat) (p : List Int) (r : Nat) : List Int := (List.range w).foldl (dCell x0 y0 x1 y1 c0 c1 c2 c3 aw ah src w r) p
def dAll (x0 y0 x1 y1 c0 c1 c2 c3 : Int) (aw ah : Nat) (src : List Int) (w h : Nat) (cs : List Int) : List Int := (List.range h).foldl (dRow x0 y0 x1 y1 c0 c1 c2 c3 aw ah src w) cs
theorem dCell_len {x0 y0 x1 y1 c0 c1 c2 c3 : Int} {aw ah : Nat} {src : List Int} {w r : Nat} (p : List Int) (c : Nat) : (dCell x0 y0 x1 y1 c0 c1 c2 c3 aw ah src w r p c).length = p.length := by
  unfold dCell
  repeat' split
  all_goals first | rfl | rw [List.length_set]
theorem dRow_len {x0 y0 x1 y1 c0 c1 c2 c3 : Int} {aw ah : Nat} {src : List Int} {w : Nat} (p : List Int) (r : Nat) : (dRow x0 y0 x1 y1 c0 c1 c2 c3 aw ah src w p r).length = p.length := foldl_len dCell_len _ p
def sp__law_placed (K : PySem.W.Frag) : Sp := fun vs H Q _ => ∃ (aG aC aK aP aS aB : Addr) (w h aw ah : Nat) (cs src : List Int) (c0 c1 c2 c3 b0 b1 b2 b3 : Int), vs = [.ref aG, .ref aK, .ref aP, .ref aB] ∧ (H aG = some (.tup [.int (w : Int), .int (h : Int), .ref aC])) ∧ (H aC = some (.lst (List.map V.int cs))) ∧ (H aK = some (.tup (List.map V.int [c0, c1, c2, c3]))) ∧ (H aP = some (.tup [.int (aw : Int), .int (ah : Int), .ref aS])) ∧ (H aS = some (.lst (List.map V.int src))) ∧ (H aB = some (.tup (List.map V.int [b0, b1, b2, b3]))) ∧ (cs.length = w * h) ∧ (src.length = aw * ah) ∧ (w ≤ 100) ∧ (h ≤ 100) ∧ (1 ≤ aw ∧ aw ≤ 100) ∧ (1 ≤ ah ∧ ah ≤ 100) ∧ (∀ H' p c, Same H H' → H p = none → H c = none → H' p = some (.tup [.int (w : Int), .int (h : Int), .ref c]) → H' c = some (.lst (List.map V.int (dAll (bd b0) (bd b1) (bd b2) (bd b3) (bd c0) (bd c1) (bd c2) (bd c3) aw ah src w h cs))) → Q (.ref p) H')
theorem ok__law_placed (T : Txt K mg) : FnOk P w K mg base CX0 3 T.f__law_placed T.fd__law_placed ["grid", "clip", "picture", "box"] (sp__law_placed K) := by
  refine T.F__law_placed.ok sc__law_placed (fun vs H Q E h => ?_) (fun cdv A outer s H vs Q E hr h => ?_)
  · obtain ⟨aG, aC, aK, aP, aS, aB, w, h, aw, ah, cs, src, c0, c1, c2, c3, b0, b1, b2, b3, rfl, _⟩ := h
    rfl
  · obtain ⟨aG, aC, aK, aP, aS, aB, w, h, aw, ah, cs, src, c0, c1, c2, c3, b0, b1, b2, b3, rfl, hG, hC, hK, hP, hS, hB, hl, hsl, hw, hh, haw, hah, q⟩ := h
    refine ⟨_, (pss_cons (ps_asg (pv 0) (pg_tupS (n := 3) (by rfl) (pgs_cons (pg_name (i := 4) sc__law_placed.nd rfl (Or.inl rfl)) (pgs_cons (pg_name (i := 5) sc__law_placed.nd rfl (Or.inl rfl)) (pgs_cons (pg_name (i := 6) sc__law_placed.nd rfl (Or.inl rfl)) pgs_nil)))))
      (pss_cons (ps_set (i := 6) sc__law_placed.nd rfl (Or.inl rfl) (pe_callTy call_listS (by rfl) T.z_list (by decide +kernel) (pa_cons (pv 6) pa_nil)))
      (pss_cons (ps_setLc (i := 7) (own := [("number", 8)]) (g := (gName 8)) rfl sc__law_placed.nd rfl rfl (sw_true rfl rfl rfl (by decide +kernel)) (pi_tupS (pv 3)) (blkOk_by (own := [("number", 8)]) (N := ["grid", "clip", "picture", "box", "width", "height", "cells", "near", "number", "y", "x", "across", "down", "column", "row"]) (sc := defScope s__law_placed) (by decide +kernel)) (fun _ _ _ _ _ => (pg_name (i := 8) sc__law_placed.nd rfl (Or.inl rfl))) (fun _ _ _ _ _ => pts_nil) (fun _ _ _ _ _ => (pe_call (ok__law_bounded T) (hr.mono (by decide)) (by rfl) T.g__law_bounded T.F__law_bounded.kp T.b__law_bounded .nil pass0 (pa_cons (pv 8) pa_nil))))
      (pss_cons (ps_for PassesOwn.never rfl (pi_range1 (by rfl) T.z_range (pa_cons (pv 5) pa_nil)) (pg_name (i := 9) sc__law_placed.nd rfl (Or.inl rfl)) (pss_one (ps_for PassesOwn.never rfl (pi_range1 (by rfl) T.z_range (pa_cons (pv 4) pa_nil)) (pg_name (i := 10) sc__law_placed.nd rfl (Or.inl rfl)) (pss_cons (ps_set (i := 11) sc__law_placed.nd rfl (Or.inl rfl) (pe_op op_add (pe_op op_mul pe_int (pv 10)) pe_int))
      (pss_cons (ps_set (i := 12) sc__law_placed.nd rfl (Or.inl rfl) (pe_op op_add (pe_op op_mul pe_int (pv 9)) pe_int))
      (pss_one (ps_if (PW.pt (pw_and (pt_val (pe_call (ok__law_in_box T) hr (by rfl) T.g__law_in_box T.F__law_in_box.kp T.b__law_in_box .nil pass0 (pa_cons (pv 11) (pa_cons (pv 12) (pa_cons (pv 1) pa_nil))))) (pw_and1 (pt_val (pe_call (ok__law_in_box T) hr (by rfl) T.g__law_in_box T.F__law_in_box.kp T.b__law_in_box .nil pass0 (pa_cons (pv 11) (pa_cons (pv 12) (pa_cons (pv 3) pa_nil)))))))) (pss_cons (ps_set (i := 13) sc__law_placed.nd rfl (Or.inl rfl) (pe_op op_fdiv (pe_op op_mul (pe_op op_sub (pv 11) (pe_ix ix_listH (pv 7) pe_int (fun _ _ => rfl))) (pe_ix ix_tupH (pv 2) pe_int (fun _ _ => rfl))) (pe_op op_sub (pe_ix ix_listH (pv 7) pe_int (fun _ _ => rfl)) (pe_ix ix_listH (pv 7) pe_int (fun _ _ => rfl)))))
      (pss_cons (ps_set (i := 14) sc__law_placed.nd rfl (Or.inl rfl) (pe_op op_fdiv (pe_op op_mul (pe_op op_sub (pv 12) (pe_ix ix_listH (pv 7) pe_int (fun _ _ => rfl))) (pe_ix ix_tupH (pv 2) pe_int (fun _ _ => rfl))) (pe_op op_sub (pe_ix ix_listH (pv 7) pe_int (fun _ _ => rfl)) (pe_ix ix_listH (pv 7) pe_int (fun _ _ => rfl)))))
      (pss_one (ps_if (pt_cmpR op_ge (pe_ix ix_listH (pe_ix ix_tupH (pv 2) pe_int (fun _ _ => rfl)) (pe_op op_add (pe_op op_mul (pv 14) (pe_ix ix_tupH (pv 2) pe_int (fun _ _ => rfl))) (pv 13)) (fun _ _ => rfl)) pe_int (nomark _)) (pss_one (ps_asg (pe_ix ix_listH (pe_ix ix_tupH (pv 2) pe_int (fun _ _ => rfl)) (pe_op op_add (pe_op op_mul (pv 14) (pe_ix ix_tupH (pv 2) pe_int (fun _ _ => rfl))) (pv 13)) (fun _ _ => rfl)) (pg_sub (pv 6) (pe_op op_add (pe_op op_mul (pv 9) (pv 4)) (pv 10)) set_list))) pss_nil)))) pss_nil)))))))
      (pss_one (ps_ret (pe_tupS (pa_cons (pv 4) (pa_cons (pv 5) (pa_cons (pv 6) pa_nil)))))))))), ?_⟩
    walk_at "vc hG hC"
    intro pc H1 s1 n1 gc
    have hB1 := s1 _ _ hB
    walk_at "vc hB1"
    refine lcL walkTI (L := fun i => List.map V.int (([b0, b1, b2, b3].map bd).take i)) rfl (fun _ s => s _ _ hB1) (fun D i x H1 H2 hi hD s1 g1 y => ?_) (fun pn H2 s2 n2 gn => ?_)
    · obtain ⟨rfl, b, hb, rfl⟩ := y
      rw [take_map_succ bd hb]
      walk_at "vc sp__law_bounded g1"
      exact ⟨take_lt _ _ (show 4 < sizeLine by decide), same_upd2 s1 hD⟩
    replace gn : H2 pn = some (.lst (List.map V.int [bd b0, bd b1, bd b2, bd b3])) := gn
    have s12 := s1.trans s2
    have ne_gn : pn ≠ pc := (ne_of_none gc n2).symm
    refine ⟨by omega, by omega, lpW (walkR (n := h)) (fun i σ H' => ∃ (v8 v9 v10 v11 v12 v13 v14 : Option V), σ = [some (.ref aG), some (.ref aK), some (.ref aP), some (.ref aB), some (.int (w : Int)), some (.int (h : Int)), some (.ref pc), some (.ref pn), v8, v9, v10, v11, v12, v13, v14] ∧ Same H H' ∧ H' pn = some (.lst (List.map V.int [bd b0, bd b1, bd b2, bd b3])) ∧
      H' pc = some (.lst (List.map V.int ((List.range i).foldl (dRow (bd b0) (bd b1) (bd b2) (bd b3) (bd c0) (bd c1) (bd c2) (bd c3) aw ah src w) cs)))) ⟨_, _, _, _, _, _, _, rfl, s12, gn, s2 _ _ gc⟩ (fun _ _ _ _ _ => True.intro) ?_ ?_⟩
    · rintro i x σ H' H5 hi ⟨v8, v9, v10, v11, v12, v13, v14, rfl, sm, gn, gp⟩ ⟨rfl, rfl⟩
      have hpl : ((List.range i).foldl (dRow (bd b0) (bd b1) (bd b2) (bd b3) (bd c0) (bd c1) (bd c2) (bd c3) aw ah src w) cs).length = w * h := by rw [foldl_len dRow_len, hl]
      rw [range_take _ _ hi]
      generalize (List.range i).foldl (dRow (bd b0) (bd b1) (bd b2) (bd b3) (bd c0) (bd c1) (bd c2) (bd c3) aw ah src w) cs = p0 at gp hpl ⊢
      walk_at "vc"
      refine ⟨by omega, by omega, lpW (walkR (n := w)) (fun j σ H' => ∃ (v8 v10 v11 v12 v13 v14 : Option V), σ = [some (.ref aG), some (.ref aK), some (.ref aP), some (.ref aB), some (.int (w : Int)), some (.int (h : Int)), some (.ref pc), some (.ref pn), v8, some (.int (i : Int)), v10, v11, v12, v13, v14] ∧ Same H H' ∧ H' pn = some (.lst (List.map V.int [bd b0, bd b1, bd b2, bd b3])) ∧
        H' pc = some (.lst (List.map V.int ((List.range j).foldl (dCell (bd b0) (bd b1) (bd b2) (bd b3) (bd c0) (bd c1) (bd c2) (bd c3) aw ah src w i) p0)))) ⟨_, _, _, _, _, _, rfl, sm, gn, gp⟩ (fun _ _ _ _ _ => True.intro) ?_ ?_⟩
      · rintro j x σ H' H5 hj ⟨v8, v10, v11, v12, v13, v14, rfl, sm, gn, gp⟩ ⟨rfl, rfl⟩
        have hpl2 : ((List.range j).foldl (dCell (bd b0) (bd b1) (bd b2) (bd b3) (bd c0) (bd c1) (bd c2) (bd c3) aw ah src w i) p0).length = w * h := by rw [foldl_len dCell_len, hpl]
        rw [range_take _ _ hj]
        generalize (List.range j).foldl (dCell (bd b0) (bd b1) (bd b2) (bd b3) (bd c0) (bd c1) (bd c2) (bd c3) aw ah src w i) p0 = p1 at gp hpl2 ⊢
        have h1 := bd_in b0
        have h2 := bd_in b1
        have h3 := bd_in b2
        have h4 := bd_in b3
        walk_at "vc"
        refine ⟨aK, _, _, c0, c1, c2, c3, rfl, sm _ _ hK, fun H6 s6 => ⟨_, rfl, ?_⟩⟩
        walk_at "c s6 gn gp"
        have sm6 := sm.trans s6
        have no : ¬ (((bd c0 ≤ 4 * (j : Int) + 2 ∧ 4 * (j : Int) + 2 < bd c2) ∧ (bd c1 ≤ 4 * (i : Int) + 2 ∧ 4 * (i : Int) + 2 < bd c3)) ∧ ((bd b0 ≤ 4 * (j : Int) + 2 ∧ 4 * (j : Int) + 2 < bd b2) ∧ (bd b1 ≤ 4 * (i : Int) + 2 ∧ 4 * (i : Int) + 2 < bd b3))) →
            p1 = dCell (bd b0) (bd b1) (bd b2) (bd b3) (bd c0) (bd c1) (bd c2) (bd c3) aw ah src w i p1 j := fun z => by unfold dCell; rw [if_neg z]
        refine iteD (fun a1 => ?_) (fun z => ⟨sm6, gn, by rw [← no fun c => z c.1]; exact gp⟩)
        refine ⟨aB, _, _, b0, b1, b2, b3, rfl, sm6 _ _ hB, fun H7 s7 => ⟨_, rfl, ?_⟩⟩
        walk_at "c s7 gn gp"
        have sm7 := sm6.trans s7
        refine iteD (fun a2 => ?_) (fun z => ⟨sm7, gn, by rw [← no fun c => z c.2]; exact gp⟩)
        have hP7 := sm7 _ _ hP
        have hS7 := sm7 _ _ hS
        have hin := sidx_in (r := i) (c := j) a2.2 a2.1 haw.1 hah.1
        have hsx : (sidx (bd b0) (bd b1) (bd b2) (bd b3) aw ah i j).toNat < src.length := by rw [hsl]; omega
        have hat := at_g' (k := (4 * (i : Int) + 2 - bd b1) * ah / (bd b3 - bd b1) * aw + (4 * (j : Int) + 2 - bd b0) * aw / (bd b2 - bd b0)) (i := (sidx (bd b0) (bd b1) (bd b2) (bd b3) aw ah i j).toNat) (by rw [Int.toNat_of_nonneg hin.1]; rfl) hsx
        walk_at "vc gn hP7 hS7 gp"
        refine ⟨.inr ⟨by omega, by omega⟩, by omega, by omega, .inr ⟨by omega, by omega⟩, by omega, by omega, .inr ⟨by omega, by omega⟩, _, hat, _, rfl, ?_⟩
        unfold dCell
        have yes : (((bd c0 ≤ 4 * (j : Int) + 2 ∧ 4 * (j : Int) + 2 < bd c2) ∧ (bd c1 ≤ 4 * (i : Int) + 2 ∧ 4 * (i : Int) + 2 < bd c3)) ∧ ((bd b0 ≤ 4 * (j : Int) + 2 ∧ 4 * (j : Int) + 2 < bd b2) ∧ (bd b1 ≤ 4 * (i : Int) + 2 ∧ 4 * (i : Int) + 2 < bd b3))) := ⟨a1, a2⟩
        rw [if_pos yes]
        have hix := ix_in hi hj
        refine iteP (fun e => ?_) (fun e => ?_)
        · rw [if_pos e]
          refine ⟨.inr ⟨by omega, by omega⟩, _, hat, .inr ⟨by omega, by omega⟩, i * w + j, ?_, same_upd2 sm7 n1, by rw [upd_ne ne_gn]; exact gn, by rw [List.map_set]⟩
          rw [ixN_in (by omega) (by rw [hpl2]; omega)]
          congr 1
        · rw [if_neg e]
          exact ⟨sm7, rfl⟩
      · rintro σ H' ⟨v8, v10, v11, v12, v13, v14, rfl, sm, gn, gp⟩
        exact ⟨⟨_, _, _, _, _, _, _, rfl⟩, sm, gn, gp⟩
    · rintro σ H' ⟨v8, v9, v10, v11, v12, v13, v14, rfl, sm, gn, gp⟩
      walk_at "vc"
      intro p5 H6 s6 n6 g6
      exact q _ p5 pc (sm.trans s6) (sm.free n6) n1 g6 (s6 _ _ gp)
theorem plc_due {x0 y0 x1 y1 c0 c1 c2 c3 : Int} {aw ah : Nat} {src : List Int} {w h : Nat} {cs : List Int} (hsrc : ∀ v ∈ src, -1 ≤ v) (hw : w ≤ 100) (hh : h ≤ 100) :
    dAll x0 y0 x1 y1 (bd c0) (bd c1) (bd c2) (bd c3) aw ah src w h cs = plc x0 y0 x1 y1 c0 c1 c2 c3 aw ah src w h cs := by
  unfold dAll plc wi
  rw [List.foldl_filter]
  refine foldl_ext' fun p r hr => ?_
  have hr := List.mem_range.mp hr
  unfold dRow prow
  by_cases hrow : inW (mx y0 c1) (mn y1 c3) r
  · rw [if_pos (decide_eq_true hrow), List.foldl_filter]
    refine foldl_ext' fun p c hc => ?_
    have hc := List.mem_range.mp hc
    have h1 := mx_le.mp hrow.1
    have h2 := lt_mn.mp hrow.2
    unfold dCell pcell
    by_cases hcol : inW (mx x0 c0) (mn x1 c2) c
    · have h3 := mx_le.mp hcol.1
      have h4 := lt_mn.mp hcol.2
      rw [if_pos (decide_eq_true hcol), if_pos ⟨⟨⟨(bd_le (by omega) (by omega)).mpr h3.2, (lt_bd (by omega) (by omega)).mpr h4.2⟩, (bd_le (by omega) (by omega)).mpr h1.2, (lt_bd (by omega) (by omega)).mpr h2.2⟩, ⟨h3.1, h4.1⟩, h1.1, h2.1⟩]
      have := gN_ge hsrc (sidx x0 y0 x1 y1 aw ah r c).toNat
      by_cases e : gN src (sidx x0 y0 x1 y1 aw ah r c).toNat = -1
      · rw [if_pos e, if_neg (by omega)]
      · rw [if_neg e, if_pos (by omega)]
    · rw [if_neg (fun z => hcol (of_decide_eq_true z)), if_neg ?_]
      rintro ⟨⟨⟨a3, a4⟩, _⟩, ⟨a1, a2⟩, _⟩
      exact hcol ⟨mx_le.mpr ⟨a1, (bd_le (by omega) (by omega)).mp a3⟩, lt_mn.mpr ⟨a2, (lt_bd (by omega) (by omega)).mp a4⟩⟩
  · rw [if_neg (fun z => hrow (of_decide_eq_true z))]
    refine foldl_same (fun p c _ => ?_) p
    unfold dCell
    rw [if_neg]
    rintro ⟨⟨_, a3, a4⟩, _, a1, a2⟩
    exact hrow ⟨mx_le.mpr ⟨a1, (bd_le (by omega) (by omega)).mp a3⟩, lt_mn.mpr ⟨a2, (lt_bd (by omega) (by omega)).mp a4⟩⟩
def sp__law_mark (K : PySem.W.Frag) (a : Addr) (ns : List Int) : Sp := fun vs H Q _ => ∃ (k : Int) (w h : Nat), vs = [.ref a, .int k, .int (w : Int), .int (h : Int)] ∧ (SqL K H a (List.map V.int ns)) ∧ (ns.length ≤ 63) ∧ (0 ≤ k ∧ k ≤ 5) ∧ (1 ≤ w ∧ w ≤ 12) ∧ (1 ≤ h ∧ h ≤ 9) ∧ (∀ (H' : Hp) (p : Addr) (m : Mk), Same H H' → H p = none → (∀ D H2 ys, H D = some (.lst ys) → But D H' H2 → MkV H2 (.ref p) m) → MkOk m → Q (.ref p) H')
theorem ok__law_mark (T : Txt K mg) (a : Addr) (ns : List Int) : FnOk P w K mg base CX0 3 T.f__law_mark T.fd__law_mark ["script", "k", "width", "height"] (sp__law_mark K a ns) := by
  refine T.F__law_mark.ok sc__law_mark (fun vs H Q E h => ?_) (fun cdv A outer s H vs Q E hr h => ?_)
  · obtain ⟨k, w, h, rfl, _⟩ := h
    rfl
  · obtain ⟨k, w, h, rfl, hS, hlen, hk, hw, hh, q⟩ := h
    refine ⟨_, (pss_cons (ps_set (i := 4) sc__law_mark.nd rfl (Or.inl rfl) (pe_callB call_abs (by rfl) T.z_abs (by decide +kernel) (pa_cons (pe_call (ok__law_cell T a ns) (hr.mono (by decide)) (by rfl) T.g__law_cell T.F__law_cell.kp T.b__law_cell .nil pass0 (pa_cons (pv 0) (pa_cons (pe_op op_add pe_int (pe_op op_mul pe_int (pv 1))) pa_nil))) pa_nil)))
      (pss_cons (ps_set (i := 5) sc__law_mark.nd rfl (Or.inl rfl) (pe_call (ok__law_box T) (hr.mono (by decide)) (by rfl) T.g__law_box T.F__law_box.kp T.b__law_box .nil pass0 (pa_cons (pe_callB call_abs (by rfl) T.z_abs (by decide +kernel) (pa_cons (pe_call (ok__law_cell T a ns) (hr.mono (by decide)) (by rfl) T.g__law_cell T.F__law_cell.kp T.b__law_cell .nil pass0 (pa_cons (pv 0) (pa_cons (pe_op op_add pe_int (pe_op op_mul pe_int (pv 1))) pa_nil))) pa_nil)) (pa_cons (pv 2) (pa_cons (pv 3) pa_nil)))))
      (pss_cons (ps_if (pt_cmpR op_eq (pe_op op_and (pe_callTy call_int1 (by rfl) T.z_int (by decide +kernel) (pa_cons (pv 4) pa_nil)) pe_int) pe_int (nomark _)) (pss_cons (ps_set (i := 6) sc__law_mark.nd rfl (Or.inl rfl) (pe_call (ok__law_grid T) hr (by rfl) T.g__law_grid T.F__law_grid.kp T.b__law_grid .nil pass0 (pa_cons (pe_op op_fdiv (pv 4) pe_int) (pa_cons pe_bl pa_nil))))
      (pss_cons (ps_set (i := 7) sc__law_mark.nd rfl (Or.inl rfl) (pe_call (ok__law_box T) (hr.mono (by decide)) (by rfl) T.g__law_box T.F__law_box.kp T.b__law_box .nil pass0 (pa_cons (pe_op op_fdiv (pv 4) pe_int) (pa_cons (pv 2) (pa_cons (pv 3) pa_nil)))))
      (pss_one (ps_ret (pe_tupS (pa_cons pe_str (pa_cons (pv 5) (pa_cons (pv 6) (pa_cons (pv 7) pa_nil))))))))) pss_nil)
      (pss_one (ps_ret (pe_tupS (pa_cons pe_str (pa_cons (pv 5) (pa_cons (pe_slice sl_tupS (pe_call (ok__law_outlines T a ns) hr (by rfl) T.g__law_outlines T.F__law_outlines.kp T.b__law_outlines .nil pass0 (pa_cons (pv 0) (pa_cons (pe_op op_add pe_int (pe_op op_mul pe_int (pv 1))) (pa_cons (pv 2) (pa_cons (pv 3) pa_nil))))) po_none (po_some pe_int)) (pa_cons (pe_call (ok__law_colour T) (hr.mono (by decide)) (by rfl) T.g__law_colour T.F__law_colour.kp T.b__law_colour .nil pass0 (pa_cons (pe_op op_fdiv (pv 4) pe_int) pa_nil)) pa_nil)))))))))), ?_⟩
    walk_at "vc sp__law_cell hS sp__law_box"
    refine ⟨by omega, by omega, absI_nn _, hw.1, hw.2, hh.1, hh.2, fun H1 p1 x0 y0 x1 y1 s1 n1 g1 => ?_⟩
    have hS1 := s1.seq hS
    have hc0 := absI_nn (cellA ns (3 + 2 * k).toNat)
    generalize absI (cellA ns (3 + 2 * k).toNat) = c at hc0 ⊢
    refine iteP (fun _ => ?_) (fun _ => ?_)
    · walk_at "vc sp__law_grid"
      refine ⟨by omega, fun H2 p2 c2 gw gh src s2 n2 m2 g2 k2 a1 a2 a3 a4 hl hB => ?_⟩
      refine ⟨by omega, hw.1, hw.2, hh.1, hh.2, fun H3 p3 b0 b1 b2 b3 s3 n3 g3 => ?_⟩
      intro p4 H4 s4 n4 g4
      have s24 := (s2.trans s3).trans s4
      exact q H4 p4 (.image x0 y0 x1 y1 gw gh src b0 b1 b2 b3) (s1.trans s24) ((s1.trans (s2.trans s3)).free n4) (fun D H2 ys gD bt => by
          have gD4 := (s1.trans s24) _ _ gD
          exact ⟨p4, p1, p2, c2, p3, rfl, tup_but bt g4 gD4, tup_but bt (s24 _ _ g1) gD4, tup_but bt (s4 _ _ (s3 _ _ g2)) gD4, bt _ _ (ne_of_none (s1 _ _ gD) m2).symm (s4 _ _ (s3 _ _ k2)), tup_but bt (s4 _ _ g3) gD4⟩) ⟨⟨a1, by omega⟩, ⟨a3, by omega⟩, hl, hB⟩
    · obtain ⟨kn, hkn⟩ := natOf (show 0 ≤ 13 + 7 * k by omega)
      rw [hkn]
      refine ⟨kn, w, h, rfl, hS1, hlen, by omega, fun H2 po os s2 n2 hO ho hps => ?_⟩
      obtain ⟨ws, gO, hO⟩ := hO
      walk_at "vc gO"
      intro p3 H3 s3 n3 g3
      walk_at "vc sp__law_colour"
      refine ⟨by omega, fun H4 v s4 v0 v1 p5 H5 s5 n5 g5 => ?_⟩
      have s35 := s4.trans s5
      have s25 := (s2.trans s3).trans s35
      refine q H5 p5 (.fill x0 y0 x1 y1 (os.take 3) v) (s1.trans s25) ((s1.trans ((s2.trans s3).trans s4)).free n5) (fun D H2 ys gD bt => by
          have gD5 := (s1.trans s25) _ _ gD
          exact ⟨p5, p1, p3, rfl, tup_but bt g5 gD5, tup_but bt (s25 _ _ g1) gD5, ws.take 3, tup_but bt (s35 _ _ g3) gD5, ((hO.take 3).mono (OutV.mono (s3.trans s35))).mono (OutV.but bt gD5)⟩) ⟨by rw [List.length_take]; omega, fun ps hp => Nat.le_trans (hps ps (List.mem_of_mem_take hp)).2 (by decide)⟩
def sp__law_painted (K : PySem.W.Frag) : Sp := fun vs H Q _ => ∃ (aP aM aA : Addr) (w h : Nat) (back : Int) (ms : List Mk) (us : List V) (l : Int), vs = [.ref aP, .int l] ∧ (H aP = some (.tup [.int (w : Int), .int (h : Int), .int back, .ref aM, .ref aA])) ∧ (H aM = some (.tup us)) ∧ (All2 (MkV H) us ms) ∧ (∀ m ∈ ms, MkOk m) ∧ (1 ≤ w ∧ w ≤ 100) ∧ (1 ≤ h ∧ h ≤ 100) ∧ (ms.length ≤ 1000) ∧ (∀ H' p g c, Same H H' → H p = none → H g = none → H c = none → H' p = some (.tup [.ref g, .int (paintR w h back ms l).2]) → H' g = some (.tup [.int (w : Int), .int (h : Int), .ref c]) → H' c = some (.lst (List.map V.int (paintR w h back ms l).1)) → Q (.ref p) H')
theorem ok__law_painted (T : Txt K mg) : FnOk P w K mg base CX0 5 T.f__law_painted T.fd__law_painted ["page", "left"] (sp__law_painted K) := by
  refine T.F__law_painted.ok sc__law_painted (fun vs H Q E h => ?_) (fun cdv A outer s H vs Q E hr h => ?_)
  · obtain ⟨aP, aM, aA, w, h, back, ms, us, l, rfl, _⟩ := h
    rfl
  · obtain ⟨aP, aM, aA, w, h, back, ms, us, l, rfl, hP, hM, hv, hm, hw, hh, hn, q⟩ := h
    refine ⟨_, (pss_cons (ps_asg (pv 0) (pg_tupS (n := 5) (by rfl) (pgs_cons (pg_name (i := 2) sc__law_painted.nd rfl (Or.inl rfl)) (pgs_cons (pg_name (i := 3) sc__law_painted.nd rfl (Or.inr rfl)) (pgs_cons (pg_name (i := 4) sc__law_painted.nd rfl (Or.inl rfl)) (pgs_cons (pg_name (i := 5) sc__law_painted.nd rfl (Or.inl rfl)) (pgs_cons (pg_name (i := 6) sc__law_painted.nd rfl (Or.inl rfl)) pgs_nil)))))))
      (pss_cons (ps_set (i := 7) sc__law_painted.nd rfl (Or.inl rfl) (pe_tupS (pa_cons (pv 2) (pa_cons (pv 3) (pa_cons (pe_op op_repS (pe_lstS (pa_cons (pv 4) pa_nil)) (pe_op op_mul (pv 2) (pv 3))) pa_nil)))))
      (pss_cons (ps_set (i := 8) sc__law_painted.nd rfl (Or.inl rfl) (pe_op op_catS (pe_lstS (pa_cons (pe_op op_mul (pv 2) (pv 3)) pa_nil)) (pe_lc (own := [("mark", 9)]) (g := (gName 9)) rfl sc__law_painted.nd (pi_tupS (pv 5)) (blkOk_by (own := [("mark", 9)]) (N := ["page", "left", "width", "height", "back", "marks", "acts", "grid", "costs", "mark", "k"]) (sc := defScope s__law_painted) (by decide +kernel)) (fun _ _ _ _ _ => (pg_name (i := 9) sc__law_painted.nd rfl (Or.inl rfl))) (fun _ _ _ _ _ => pts_nil) (fun _ _ _ _ _ => (pe_call (ok__law_cost T) (hr.mono (by decide)) (by rfl) T.g__law_cost T.F__law_cost.kp T.b__law_cost .nil pass0 (pa_cons (pv 9) (pa_cons (pv 3) pa_nil)))))))
      (pss_cons (ps_for PassesOwn.never rfl (pi_range1 (by rfl) T.z_range (pa_cons (pe_callB call_lenH (by rfl) T.z_len PySem.boot_len (pa_cons (pv 8) pa_nil)) pa_nil)) (pg_name (i := 10) sc__law_painted.nd rfl (Or.inl rfl)) (pss_cons (ps_if (pt_cmpR op_gt (pe_ix ix_listH (pv 8) (pv 10) (fun _ _ => rfl)) (pv 1) (nomark _)) (pss_one (ps_ret (pe_tupS (pa_cons (pv 7) (pa_cons pe_int pa_nil))))) pss_nil)
      (pss_cons (ps_set (i := 1) sc__law_painted.nd rfl (Or.inl rfl) (pe_op op_sub (pv 1) (pe_ix ix_listH (pv 8) (pv 10) (fun _ _ => rfl))))
      (pss_one (ps_if (pt_cmpR op_gt (pv 10) pe_int (nomark _)) (pss_cons (ps_set (i := 9) sc__law_painted.nd rfl (Or.inl rfl) (pe_ix ix_tupH (pv 5) (pe_op op_sub (pv 10) pe_int) (fun _ _ => rfl)))
      (pss_one (ps_if (pt_cmpR op_eq (pe_ix ix_tupH (pv 9) pe_int (fun _ _ => rfl)) pe_str (nomark _)) (pss_one (ps_set (i := 7) sc__law_painted.nd rfl (Or.inl rfl) (pe_call (ok__law_placed T) (hr.mono (by decide)) (by rfl) T.g__law_placed T.F__law_placed.kp T.b__law_placed .nil pass0 (pa_cons (pv 7) (pa_cons (pe_ix ix_tupH (pv 9) pe_int (fun _ _ => rfl)) (pa_cons (pe_ix ix_tupH (pv 9) pe_int (fun _ _ => rfl)) (pa_cons (pe_ix ix_tupH (pv 9) pe_int (fun _ _ => rfl)) pa_nil))))))) (pss_one (ps_set (i := 7) sc__law_painted.nd rfl (Or.inl rfl) (pe_call (ok__law_filled T) hr (by rfl) T.g__law_filled T.F__law_filled.kp T.b__law_filled .nil pass0 (pa_cons (pv 7) (pa_cons (pe_ix ix_tupH (pv 9) pe_int (fun _ _ => rfl)) (pa_cons (pe_ix ix_tupH (pv 9) pe_int (fun _ _ => rfl)) (pa_cons (pe_ix ix_tupH (pv 9) pe_int (fun _ _ => rfl)) pa_nil)))))))))) pss_nil)))))
      (pss_one (ps_ret (pe_tupS (pa_cons (pv 7) (pa_cons (pv 1) pa_nil))))))))), ?_⟩
    walk_at "vc hP"
    intro p1 H1 s1 n1 g1
    have hwh : w * h ≤ 10000 := Nat.mul_le_mul hw.2 hh.2
    have hwp : 1 ≤ w * h := Nat.mul_pos hw.1 hh.1
    have e0 : ((w : Int) * (h : Int)) = ((w * h : Nat) : Int) := by rw [Int.natCast_mul]
    refine ⟨.inr ⟨by omega, by omega⟩, _, g1, by omega, by omega, fun pC H2 s2 n2 gC pG H3 s3 n3 gG => ⟨.inr ⟨by omega, by omega⟩, fun pL H4 s4 n4 gL => ?_⟩⟩
    have s02 := s1.trans s2
    have s04 := (s02.trans s3).trans s4
    have hM4 := s04 _ _ hM
    have gC4 := s4 _ _ (s3 _ _ gC)
    have gG4 := s4 _ _ gG
    refine ⟨⟨_, hM4⟩, ?_⟩
    refine lcL (walkT (xs := us)) (L := fun i => List.map V.int ((ms.map (mkCost h)).take i)) rfl (fun _ s => s _ _ hM4) (fun D i x H5 H6 hi hD s5 g5 y => ?_) (fun pD H5 s5 n5 gD => ?_)
    · obtain ⟨rfl, hx⟩ := y
      obtain ⟨m, hmi, hvm⟩ := hv.at hx
      rw [take_map_succ _ hmi]
      walk_at "vc"
      refine ⟨x, m, h, rfl, MkV.mono (s04.trans s5) _ _ hvm, hm m (List.mem_of_getElem? hmi), hh.2, fun H7 s7 => ?_⟩
      have g7 := s7 _ _ g5
      walk_at "vc g7"
      exact ⟨take_lt _ _ (Nat.lt_of_le_of_lt (by rw [List.length_map]; exact hn) (by decide)), same_upd2 (s5.trans s7) hD⟩
    rw [hv.len, show ms.length = (ms.map (mkCost h)).length by rw [List.length_map], List.take_length] at gD
    have gL5 := s5 _ _ gL
    walk_at "vc gD gL5"
    refine ⟨Nat.le_trans (show 1 + ms.length ≤ 2000 by omega) (by decide), fun pX H6 s6 n6 gX => ?_⟩
    replace gX : H6 pX = some (.lst (List.map V.int (((w : Int) * (h : Int)) :: ms.map (mkCost h)))) := gX
    walk_at "vc gX"
    have s46 := s5.trans s6
    have s06 := s04.trans s46
    refine ⟨by omega, by omega, ?_⟩
    refine lpW (walkR (n := ms.length + 1)) (fun i σ H' => ∃ (l' : Int) (g c : Addr) (cs : List Int) (v9 v10 : Option V), σ = [some (.ref aP), some (.int l'), some (.int (w : Int)), some (.int (h : Int)), some (.int back), some (.ref aM), some (.ref aA), some (.ref g), some (.ref pX), v9, v10] ∧ Same H H' ∧ H g = none ∧ H c = none ∧
      H' g = some (.tup [.int (w : Int), .int (h : Int), .ref c]) ∧ H' c = some (.lst (List.map V.int cs)) ∧ H' pX = some (.lst (List.map V.int (((w : Int) * (h : Int)) :: ms.map (mkCost h)))) ∧ cs.length = w * h ∧ ((i = 0 ∧ l' = l ∧ cs = List.replicate (w * h) back) ∨ (1 ≤ i ∧ paintM w h (ms.drop (i - 1)) cs l' = paintR w h back ms l)))
      ⟨_, pG, pC, List.replicate (w * h) back, _, _, rfl, s06, s02.free n3, s1.free n2, s46 _ _ gG4, by rw [s46 _ _ gC4, List.map_replicate], gX, by rw [List.length_replicate], .inl ⟨rfl, rfl, rfl⟩⟩ (fun _ _ _ _ _ => True.intro) ?_ ?_
    · rintro i x σ H' H7 hi ⟨l', g, c, cs, v9, v10, rfl, sm, fg, fc, gg, gc, gX, hcl, hR⟩ ⟨rfl, rfl⟩
      have bad : ∀ cost : Int, l' < cost → paintR w h back ms l = (cs, 0) → NewH H7 (.tup [.ref g, .int 0]) fun p H' => Q (.ref p) H' := by
        intro cost _ e p8 H8 s8 n8 g8
        rw [e] at q
        exact q H8 p8 g c (sm.trans s8) (sm.free n8) fg fc g8 (s8 _ _ gg) (s8 _ _ gc)
      rcases hR with ⟨rfl, rfl, rfl⟩ | ⟨h1, hR⟩
      · walk_at "vc gX"
        have e1 : paintR w h back ms l' = if l' < (w : Int) * (h : Int) then (List.replicate (w * h) back, 0) else paintM w h ms (List.replicate (w * h) back) (l' - (w : Int) * (h : Int)) := by rw [e0]; rfl
        refine iteP (fun z => ?_) (fun z => ?_)
        · rw [if_pos z] at e1
          exact bad _ z e1
        · rw [if_neg z] at e1
          exact ⟨sm, fg, c, fc, gg, _, gc, hcl, e1.symm⟩
      · obtain ⟨k, rfl⟩ : ∃ k, i = k + 1 := ⟨i - 1, by omega⟩
        rw [Nat.add_sub_cancel] at hR
        have hk : k < ms.length := by omega
        obtain ⟨x, hx, hvm⟩ := hv.at' (List.getElem?_eq_getElem hk)
        have hmi := List.getElem?_eq_getElem hk
        generalize ms[k] = m at hmi hvm
        have hmo := hm m (List.mem_of_getElem? hmi)
        rw [drop_at hmi, paintM] at hR
        walk_at "vc gX"
        have hat : atI (List.map V.int (((w : Int) * (h : Int)) :: ms.map (mkCost h))) ((k : Int) + 1) = some (.int (mkCost h m)) := atI_nat (j := k + 1) (by rw [List.map_cons, List.getElem?_cons_succ, List.getElem?_map, List.getElem?_map, hmi]; rfl)
        refine ⟨_, hat, _, rfl, ?_⟩
        have hM7 := sm _ _ hM
        have hxk : atI us (k : Int) = some x := atI_nat hx
        refine iteP (fun z => ?_) (fun z => ?_)
        · rw [if_pos z] at hR
          exact bad _ z hR.symm
        · rw [if_neg z] at hR
          refine ⟨_, hat, _, rfl, ?_⟩
          refine iteP (fun _ => ?_) (fun z => absurd (show (0 : Int) < (k : Int) + 1 by omega) z)
          refine ⟨_, hM7, x, by rw [show (k : Int) + 1 - 1 = (k : Int) by omega]; exact hxk, ?_⟩
          have hvm7 := MkV.mono sm _ _ hvm
          cases m with
          | fill c0 c1 c2 c3 os col =>
            obtain ⟨a, ak, ao, rfl, g1, g2, gO⟩ := hvm7
            walk_at "vc g1 fill_ne' fillS_ne'"
            refine ⟨g, c, ak, ao, w, h, cs, c0, c1, c2, c3, col, os, rfl, gg, gc, g2, gO, hcl, hw.2, hh.2, hmo.2, fun H8 p8 c8 s8 n8 m8 g8 k8 => ?_⟩
            rw [fil_eq hw.2 hh.2] at k8
            exact ⟨p8, rfl, sm.trans s8, sm.free n8, c8, sm.free m8, g8, _, k8, s8 _ _ gX, (fil_len _ _ _ _ _ _ _ _ _).trans hcl, hR⟩
          | image c0 c1 c2 c3 aw ah src b0 b1 b2 b3 =>
            obtain ⟨a, ak, ap, sa, ab, rfl, g1, g2, g3, g4, g5⟩ := hvm7
            walk_at "vc g1"
            refine ⟨g, c, ak, ap, sa, ab, w, h, aw, ah, cs, src, c0, c1, c2, c3, b0, b1, b2, b3, rfl, gg, gc, g2, g3, g4, g5, hcl, hmo.2.2.1, hw.2, hh.2, hmo.1, hmo.2.1, fun H8 p8 c8 s8 n8 m8 g8 k8 => ?_⟩
            rw [plc_due (fun v hv => (hmo.2.2.2 v hv).1) hw.2 hh.2] at k8
            exact ⟨p8, rfl, sm.trans s8, sm.free n8, c8, sm.free m8, g8, _, k8, s8 _ _ gX, (foldl_len prow_len _ cs).trans hcl, hR⟩
    · rintro σ H' ⟨l', g, c, cs, v9, v10, rfl, sm, fg, fc, gg, gc, gX, hcl, hR⟩
      rcases hR with ⟨z, _⟩ | ⟨_, hR⟩
      · cases z
      rw [Nat.add_sub_cancel, List.drop_length, paintM] at hR
      walk_at "vc"
      intro p8 H8 s8 n8 g8
      rw [← hR] at q
      exact q H8 p8 g c (sm.trans s8) (sm.free n8) fg fc g8 (s8 _ _ gg) (s8 _ _ gc)

def srcs : List Mk → List (List Int)
  | [] => []
  | .fill .. :: r => srcs r
  | .image _ _ _ _ _ _ src _ _ _ _ :: r => src :: srcs r
theorem srcs_app (a b : List Mk) : srcs (a ++ b) = srcs a ++ srcs b := by
  induction a with
  | nil => rfl
  | cons m r ih => cases m <;> simp only [List.cons_append, srcs, ih]
theorem srcs_len (a : List Mk) : (srcs a).length ≤ a.length := by
  induction a with
  | nil => exact Nat.le_refl _
  | cons m r ih => cases m <;> simp only [srcs, List.length_cons] <;> omega
theorem costs_pos (h : Nat) : ∀ ms : List Mk, 0 ≤ (ms.map (mkCost h)).sum
  | [] => Int.le_refl 0
  | m :: r => by
    rw [List.map_cons, List.sum_cons]
    have := costs_pos h r
    have := mkCost_pos h m
    omega
def spLaw (K : PySem.W.Frag) : Sp := fun vs H Q _ => ∃ (a : Addr) (ns : List Int), vs = [.ref a] ∧ SqL K H a (ns.map V.int) ∧ ns.length ≤ 63 ∧ ∀ H', Q (.bl true) H'
theorem ok_law_of {f : Addr} {fd : FuncData} (F : Fun K "law" "law" s_law f fd) (T : Txt K mg) : FnOk P w K mg base CX0 6 f fd ["script"] (spLaw K) := by
  refine F.ok sc_law (fun vs H Q E h => ?_) (fun cdv A outer s H vs Q E hr h => ?_)
  · obtain ⟨a, ns, rfl, _⟩ := h
    rfl
  · obtain ⟨a, ns, rfl, hS, hlen, q⟩ := h
    refine ⟨_, (pss_cons (ps_set (i := 1) sc_law.nd rfl (Or.inl rfl) (pe_callB call_abs (by rfl) T.z_abs (by decide +kernel) (pa_cons (pe_call (ok__law_cell T a ns) (hr.mono (by decide)) (by rfl) T.g__law_cell T.F__law_cell.kp T.b__law_cell .nil pass0 (pa_cons (pv 0) (pa_cons pe_int pa_nil))) pa_nil)))
      (pss_cons (ps_set (i := 2) sc_law.nd rfl (Or.inr rfl) (pe_op op_add pe_int (pe_op op_mod (pe_callTy call_int1 (by rfl) T.z_int (by decide +kernel) (pa_cons (pv 1) pa_nil)) pe_int)))
      (pss_cons (ps_set (i := 3) sc_law.nd rfl (Or.inr rfl) (pe_op op_add pe_int (pe_op op_mod (pe_callTy call_int1 (by rfl) T.z_int (by decide +kernel) (pa_cons (pe_op op_fdiv (pv 1) pe_int) pa_nil)) pe_int)))
      (pss_cons (ps_set (i := 4) sc_law.nd rfl (Or.inl rfl) (pe_op op_mod (pe_callTy call_int1 (by rfl) T.z_int (by decide +kernel) (pa_cons (pe_op op_fdiv (pv 1) pe_int) pa_nil)) pe_int))
      (pss_cons (ps_set (i := 5) sc_law.nd rfl (Or.inl rfl) (pe_callTy call_tupleL (by rfl) T.z_tuple (by decide +kernel) (pa_cons (pe_lc (own := [("k", 6)]) (g := (gName 6)) rfl sc_law.nd (pi_range1 (by rfl) T.z_range (pa_cons (pv 4) pa_nil)) (blkOk_by (own := [("k", 6)]) (N := ["script", "cell", "width", "height", "many", "marks", "k", "page", "kept", "mark", "costs", "whole", "some", "left", "grid", "rest", "found", "shown"]) (sc := defScope s_law) (by decide +kernel)) (fun _ _ _ _ _ => (pg_name (i := 6) sc_law.nd rfl (Or.inl rfl))) (fun _ _ _ _ _ => pts_nil) (fun _ _ _ _ _ => (pe_call (ok__law_mark T a ns) (hr.mono (by decide)) (by rfl) T.g__law_mark T.F__law_mark.kp T.b__law_mark .nil pass0 (pa_cons (pv 0) (pa_cons (pv 6) (pa_cons (pv 2) (pa_cons (pv 3) pa_nil))))))) pa_nil)))
      (pss_cons (ps_set (i := 7) sc_law.nd rfl (Or.inl rfl) (pe_tupS (pa_cons (pv 2) (pa_cons (pv 3) (pa_cons (pe_call (ok__law_colour T) (hr.mono (by decide)) (by rfl) T.g__law_colour T.F__law_colour.kp T.b__law_colour .nil pass0 (pa_cons (pe_op op_fdiv (pv 1) pe_int) pa_nil)) (pa_cons (pv 5) (pa_cons (pe_tupS pa_nil) pa_nil)))))))
      (pss_cons (ps_setLc (i := 8) (own := [("mark", 9)]) (g := (gName 9)) rfl sc_law.nd rfl rfl (sw_true rfl rfl rfl (by decide +kernel)) (pi_tupS (pv 5)) (blkOk_by (own := [("mark", 9)]) (N := ["script", "cell", "width", "height", "many", "marks", "k", "page", "kept", "mark", "costs", "whole", "some", "left", "grid", "rest", "found", "shown"]) (sc := defScope s_law) (by decide +kernel)) (fun _ _ _ _ _ => (pg_name (i := 9) sc_law.nd rfl (Or.inl rfl))) (fun _ _ _ _ _ => (pts_one (pt_cmpR op_eq (pe_ix ix_tupH (pv 9) pe_int (fun _ _ => rfl)) pe_str (nomark _)))) (fun _ _ _ _ _ => (pe_callTy call_listS (by rfl) T.z_list (by decide +kernel) (pa_cons (pe_ix ix_tupH (pe_ix ix_tupH (pv 9) pe_int (fun _ _ => rfl)) pe_int (fun _ _ => rfl)) pa_nil))))
      (pss_cons (ps_set (i := 10) sc_law.nd rfl (Or.inl rfl) (pe_op op_catS (pe_lstS (pa_cons (pe_op op_mul (pv 2) (pv 3)) pa_nil)) (pe_lc (own := [("mark", 9)]) (g := (gName 9)) rfl sc_law.nd (pi_tupS (pv 5)) (blkOk_by (own := [("mark", 9)]) (N := ["script", "cell", "width", "height", "many", "marks", "k", "page", "kept", "mark", "costs", "whole", "some", "left", "grid", "rest", "found", "shown"]) (sc := defScope s_law) (by decide +kernel)) (fun _ _ _ _ _ => (pg_name (i := 9) sc_law.nd rfl (Or.inl rfl))) (fun _ _ _ _ _ => pts_nil) (fun _ _ _ _ _ => (pe_call (ok__law_cost T) (hr.mono (by decide)) (by rfl) T.g__law_cost T.F__law_cost.kp T.b__law_cost .nil pass0 (pa_cons (pv 9) (pa_cons (pv 3) pa_nil)))))))
      (pss_cons (ps_set (i := 11) sc_law.nd rfl (Or.inl rfl) (pe_callB (cr_sumS rfl) (by rfl) T.z_sum (by decide +kernel) (pa_cons (pv 10) pa_nil)))
      (pss_cons (ps_set (i := 12) sc_law.nd rfl (Or.inl rfl) (pe_callB (cr_sumS rfl) (by rfl) T.z_sum (by decide +kernel) (pa_cons (pe_slice sl_listS (pv 10) po_none (po_some (pe_op op_add pe_int (pe_op op_mod (pe_callTy call_int1 (by rfl) T.z_int (by decide +kernel) (pa_cons (pe_callB call_abs (by rfl) T.z_abs (by decide +kernel) (pa_cons (pe_call (ok__law_cell T a ns) (hr.mono (by decide)) (by rfl) T.g__law_cell T.F__law_cell.kp T.b__law_cell .nil pass0 (pa_cons (pv 0) (pa_cons pe_int pa_nil))) pa_nil)) pa_nil)) (pe_callB call_lenH (by rfl) T.z_len PySem.boot_len (pa_cons (pv 10) pa_nil)))))) pa_nil)))
      (pss_cons (ps_for PassesOwn.never rfl (pi_listS (pe_lstS (pa_cons (pe_op op_add (pv 11) (pe_op op_mod (pe_callTy call_int1 (by rfl) T.z_int (by decide +kernel) (pa_cons (pe_op op_fdiv (pv 1) pe_int) pa_nil)) pe_int)) (pa_cons (pv 12) (pa_cons (pe_op op_sub (pv 12) pe_int) (pa_cons (pe_op op_mod (pe_callTy call_int1 (by rfl) T.z_int (by decide +kernel) (pa_cons (pe_callB call_abs (by rfl) T.z_abs (by decide +kernel) (pa_cons (pe_call (ok__law_cell T a ns) (hr.mono (by decide)) (by rfl) T.g__law_cell T.F__law_cell.kp T.b__law_cell .nil pass0 (pa_cons (pv 0) (pa_cons pe_int pa_nil))) pa_nil)) pa_nil)) (pe_op op_add (pv 11) pe_int)) pa_nil)))))) (pg_name (i := 13) sc_law.nd rfl (Or.inl rfl)) (pss_cons (ps_asg (pe_call (ok__law_painted T) hr (by rfl) T.g__law_painted T.F__law_painted.kp T.b__law_painted .nil pass0 (pa_cons (pv 7) (pa_cons (pv 13) pa_nil))) (pg_tupS (n := 2) (by rfl) (pgs_cons (pg_name (i := 14) sc_law.nd rfl (Or.inl rfl)) (pgs_cons (pg_name (i := 15) sc_law.nd rfl (Or.inl rfl)) pgs_nil))))
      (pss_cons (ps_set (i := 16) sc_law.nd rfl (Or.inl rfl) (pe_call (ok_paint T) hr (by rfl) T.g_paint T.F_paint.kp T.b_paint .nil pass0 (pa_cons (pv 7) (pa_cons (pv 13) pa_nil))))
      (pss_cons (ps_if (PW.pt (pw_or (pt_not (pt_val (pe_callB call_isiB (by rfl) T.z_isinstance (by decide +kernel) (pa_cons (pv 16) (pa_cons (pe_bltn (v := .ty "tuple") (u := .type "tuple") (by rfl) T.z_tuple (by decide +kernel) rfl) pa_nil))))) (pw_or (pt_cmpR op_ne (pe_callB call_lenT (by rfl) T.z_len PySem.boot_len (pa_cons (pv 16) pa_nil)) pe_int (nomark _)) (pw_or (pt_not (pt_val (pe_call (ok__law_is_integer T) (hr.mono (by decide)) (by rfl) T.g__law_is_integer T.F__law_is_integer.kp T.b__law_is_integer .nil pass0 (pa_cons (pe_ix ix_tupH (pv 16) pe_int (fun _ _ => rfl)) pa_nil)))) (pw_or1 (pt_cmpR op_ne (pe_ix ix_tupH (pv 16) pe_int (fun _ _ => rfl)) (pv 15) (nomark _))))))) (pss_one (ps_ret pe_bl)) pss_nil)
      (pss_one (ps_if (pt_not (pt_val (pe_call (ok__law_is_grid T) (hr.mono (by decide)) (by rfl) T.g__law_is_grid T.F__law_is_grid.kp T.b__law_is_grid .nil pass0 (pa_cons (pe_ix ix_tupH (pv 16) pe_int (fun _ _ => rfl)) (pa_cons (pv 2) (pa_cons (pv 3) (pa_cons (pe_ix ix_tupH (pv 14) pe_int (fun _ _ => rfl)) pa_nil))))))) (pss_one (ps_ret pe_bl)) pss_nil))))))
      (pss_cons (ps_setLc (i := 17) (own := [("mark", 9)]) (g := (gName 9)) rfl sc_law.nd rfl rfl (sw_true rfl rfl rfl (by decide +kernel)) (pi_tupS (pe_ix ix_tupH (pv 7) pe_int (fun _ _ => rfl))) (blkOk_by (own := [("mark", 9)]) (N := ["script", "cell", "width", "height", "many", "marks", "k", "page", "kept", "mark", "costs", "whole", "some", "left", "grid", "rest", "found", "shown"]) (sc := defScope s_law) (by decide +kernel)) (fun _ _ _ _ _ => (pg_name (i := 9) sc_law.nd rfl (Or.inl rfl))) (fun _ _ _ _ _ => (pts_one (pt_cmpR op_eq (pe_ix ix_tupH (pv 9) pe_int (fun _ _ => rfl)) pe_str (nomark _)))) (fun _ _ _ _ _ => (pe_ix ix_tupH (pe_ix ix_tupH (pv 9) pe_int (fun _ _ => rfl)) pe_int (fun _ _ => rfl))))
      (pss_one (ps_ret (pe_and (pe_cmpR (op_eqC hr.units (cod_lst (cod_lst cod_int)) (by decide)) (pv 17) (pv 8) (nomark _)) (pe_one (pe_cmpR op_eq (pe_ix ix_tupH (pe_call (ok_paint T) hr (by rfl) T.g_paint T.F_paint.kp T.b_paint .nil pass0 (pa_cons (pv 7) (pa_cons pe_int pa_nil))) pe_int (fun _ _ => rfl)) pe_int (nomark _)))))))))))))))))), ?_⟩
    walk_at "vc sp__law_cell hS"
    have hc0 := absI_nn (cellA ns 0)
    generalize absI (cellA ns 0) = c at hc0 ⊢
    obtain ⟨w, hw⟩ := natOf (show 0 ≤ 1 + c % 12 by omega)
    obtain ⟨h, hh⟩ := natOf (show 0 ≤ 1 + c / 12 % 9 by omega)
    obtain ⟨N, hN⟩ := natOf (show 0 ≤ c / 108 % 5 by omega)
    rw [hw, hh, hN]
    have hw1 : 1 ≤ w ∧ w ≤ 12 := by omega
    have hh1 : 1 ≤ h ∧ h ≤ 9 := by omega
    have hN4 : N ≤ 4 := by omega
    refine ⟨by omega, by omega, lcW (walkR (n := N)) (fun D i H' => Same H H' ∧ ∃ us ms, H' D = some (.lst us) ∧ All2 (fun v m => ∀ H2, But D H' H2 → MkV H2 v m) us ms ∧ (∀ m ∈ ms, MkOk m) ∧ ms.length = i) (fun D H' s n g => ⟨s, [], [], g, .nil, (fun _ z => nomatch z), rfl⟩) (fun _ _ _ _ _ _ => True.intro) (fun D i x H1 H2 hi hD p y => ?_) (fun D H1 hD p => ?_)⟩
    · obtain ⟨rfl, rfl⟩ := y
      obtain ⟨s1, us, ms, gD, hv, hm, hl⟩ := p
      walk_at "vc"
      refine ⟨(i : Int), w, h, rfl, s1.seq hS, hlen, ⟨by omega, by omega⟩, hw1, hh1, fun H3 p m s3 n3 hk hmo => ?_⟩
      have gD3 := s3 _ _ gD
      walk_at "vc gD3"
      refine ⟨Nat.lt_of_lt_of_le (show us.length < 10 by rw [hv.len]; omega) (by decide), same_upd2 (s1.trans s3) hD, ms ++ [m], ?_, ?_, by rw [List.length_append, hl]; rfl⟩
      · refine (hv.mono fun v m q H5 bt => q H5 (((But.ofSame s3).trans (But.refl _ _).put).trans bt)).snoc fun H5 bt => hk D H5 us gD ((But.refl _ _).put.trans bt)
      · intro u hu
        rcases List.mem_append.mp hu with z | z
        · exact hm u z
        · rw [List.mem_singleton.mp z]; exact hmo
    obtain ⟨s1, us, ms, gD, hv, hm, hl⟩ := p
    have hv := hv.mono fun v m q => q H1 (But.refl _ _)
    walk_at "vc gD"
    intro pM H2 s2 n2 gM
    walk_at "vc sp__law_colour"
    refine ⟨by omega, fun H3 back s3 b0 b1 pA H4 s4 n4 gA pP H5 s5 n5 gP => ?_⟩
    have gM5 := s5 _ _ (s4 _ _ (s3 _ _ gM))
    have s15 := ((s2.trans s3).trans s4).trans s5
    have hv5 := hv.mono (MkV.mono s15)
    refine ⟨⟨_, gM5⟩, ?_⟩
    refine lcW (walkT (xs := us)) (fun D i H' => Same H5 H' ∧ ∃ ls, H' D = some (.lst ls) ∧ All2 (fun v n => ∀ H2, But D H' H2 → LstV IntV H2 v n) ls (srcs (ms.take i))) (fun D H' s n g => ⟨s, [], g, .nil⟩) (fun _ _ _ _ _ p => p.1 _ _ gM5) (fun D i x H6 H7 hi hD p y => ?_) (fun pK H6 hK p => ?_)
    · obtain ⟨rfl, hx⟩ := y
      obtain ⟨s6, ls, gD, hls⟩ := p
      obtain ⟨m, hmi, hvm⟩ := hv5.at hx
      have hvm := MkV.mono s6 _ _ hvm
      rw [take_succ hmi, srcs_app]
      have hll : ls.length < sizeLine := by
        rw [hls.len]
        refine Nat.lt_of_le_of_lt (srcs_len _) (Nat.lt_of_lt_of_le (show (ms.take i).length < 10 by rw [List.length_take]; omega) (by decide))
      cases m with
      | fill c0 c1 c2 c3 os col =>
        obtain ⟨a1, ak, ao, rfl, g1, g2, gO⟩ := hvm
        walk_at "vc g1 fill_ne' fillS_ne'"
        refine ⟨s6, ls, gD, ?_⟩
        show All2 _ ls (srcs (ms.take i) ++ [])
        rw [List.append_nil]
        exact hls
      | image c0 c1 c2 c3 aw ah src b0 b1 b2 b3 =>
        obtain ⟨a1, ak, ap, sa, ab, rfl, g1, g2, g3, g4, g5⟩ := hvm
        walk_at "vc g1 g3 g4"
        intro l H8 s8 n8 g8
        have gD8 := s8 _ _ gD
        walk_at "vc gD8"
        refine ⟨hll, same_upd2 (s6.trans s8) hD, (hls.mono fun v n q H9 bt => q H9 (((But.ofSame s8).trans (But.refl _ _).put).trans bt)).snoc fun H9 bt => intL (((But.refl _ _).put.trans bt) _ _ (ne_of_none gD n8).symm g8)⟩
    obtain ⟨s6, ls, gK, hls⟩ := p
    rw [hv.len, List.take_length] at hls
    have hls := hls.mono fun v n q => q H6 (But.refl _ _)
    have hwh : w * h ≤ 108 := Nat.mul_le_mul hw1.2 hh1.2
    refine ⟨.inr ⟨by omega, by omega⟩, fun pL H7 s7 n7 gL => ?_⟩
    have s57 := s6.trans s7
    have gM7 := s57 _ _ gM5
    refine ⟨⟨_, gM7⟩, ?_⟩
    refine lcL (walkT (xs := us)) (L := fun i => List.map V.int ((ms.map (mkCost h)).take i)) rfl (fun _ s => s _ _ gM7) (fun D i x H8 H9 hi hD s8 g8 y => ?_) (fun pD H8 s8 n8 gD => ?_)
    · obtain ⟨rfl, hx⟩ := y
      obtain ⟨m, hmi, hvm⟩ := hv5.at hx
      rw [take_map_succ _ hmi]
      walk_at "vc"
      refine ⟨x, m, h, rfl, MkV.mono (s57.trans s8) _ _ hvm, hm m (List.mem_of_getElem? hmi), by omega, fun H10 s10 => ?_⟩
      have g10 := s10 _ _ g8
      walk_at "vc g10"
      exact ⟨take_lt _ _ (Nat.lt_of_lt_of_le (show (ms.map (mkCost h)).length < 10 by rw [List.length_map]; omega) (by decide)), same_upd2 (s8.trans s10) hD⟩
    rw [hv.len, show ms.length = (ms.map (mkCost h)).length by rw [List.length_map], List.take_length] at gD
    have gL8 := s8 _ _ gL
    walk_at "vc gD gL8"
    refine ⟨Nat.le_trans (show 1 + ms.length ≤ 20 by omega) (by decide), fun pC H9 s9 n9 gC => ?_⟩
    obtain ⟨cl, gC, hcl, hcs⟩ : ∃ cl : List Int, H9 pC = some (.lst (List.map V.int cl)) ∧ 1 ≤ cl.length ∧ 0 ≤ cl.sum := ⟨((w : Int) * (h : Int)) :: ms.map (mkCost h), gC, by rw [List.length_cons]; omega, by
      rw [List.sum_cons]
      have := costs_pos h ms
      have := Int.mul_nonneg (show (0 : Int) ≤ w by omega) (show (0 : Int) ≤ h by omega)
      omega⟩
    have s59 := (s57.trans s8).trans s9
    have s09 := (s1.trans (s2.trans ((s3.trans s4).trans s5))).trans s59
    have hS9 := s09.seq hS
    walk_at "vc gC hS9"
    refine ⟨by omega, fun p10 H10 s10 n10 g10 => ?_⟩
    obtain ⟨kk, hkk⟩ := natOf (show 0 ≤ 1 + absI (cellA ns 1) % (cl.length : Int) by have := Int.emod_nonneg (absI (cellA ns 1)) (show (cl.length : Int) ≠ 0 by omega); omega)
    rw [hkk, cutI_take] at g10
    have hS10 := s10.seq hS9
    walk_at "vc g10 hS10"
    refine ⟨by omega, fun p11 H11 s11 n11 g11 => ?_⟩
    walk_at "vc g11"
    have s511 := (s59.trans s10).trans s11
    have s011 := (s09.trans s10).trans s11
    refine lpW (walkI (ns := [cl.sum + c / 7 % 50, (cl.take kk).sum, (cl.take kk).sum - 1, absI (cellA ns 2) % (cl.sum + 1)])) (fun i σ H' => ∃ (v13 v14 v15 v16 : Option V), σ = [some (.ref a), some (.int c), some (.int (w : Int)), some (.int (h : Int)), some (.int (N : Int)), some (.ref pM), none, some (.ref pP), some (.ref pK), none, some (.ref pC), some (.int cl.sum), some (.int (cl.take kk).sum), v13, v14, v15, v16, none] ∧ Same H11 H') ⟨_, _, _, _, rfl, Same.refl _⟩ ?_ ?_ ?_
    · rintro i σ H' _ ⟨_, _, _, _, _, sm⟩
      exact sm _ _ g11
    · rintro i x σ H' H12 hi ⟨v13, v14, v15, v16, rfl, sm⟩ ⟨rfl, left, hleft, rfl⟩
      have s5x := s511.trans sm
      have gP12 := s5x _ _ gP
      have gM12 := s5x _ _ gM5
      have hv12 := hv5.mono (MkV.mono s5x)
      walk_at "vc"
      refine ⟨pP, pM, pA, w, h, back, ms, us, left, rfl, gP12, gM12, hv12, hm, by omega, by omega, by omega, fun H13 p13 g13 c13 s13 n13 f13 m13 k13 l13 o13 => ?_⟩
      walk_at "vc k13"
      refine ⟨pP, pM, pA, w, h, back, ms, us, left, rfl, s13 _ _ gP12, s13 _ _ gM12, hv12.mono (MkV.mono s13), hm, by omega, by omega, fun H14 p14 g14 c14 s14 n14 f14 m14 k14 l14 o14 => ?_⟩
      walk_at "c s14 k13 l13 o13"
      walk_at "vc k13 l13 o13 k14 l14 o14 sp__law_is_integer sp__law_is_grid"
      exact (sm.trans s13).trans s14
    · rintro σ H' ⟨v13, v14, v15, v16, rfl, sm⟩
      have s5x := s511.trans sm
      have gP12 := s5x _ _ gP
      have gM12 := s5x _ _ gM5
      have hv12 := hv5.mono (MkV.mono s5x)
      walk_at "vc gP12 gM12"
      have gK12 := ((((s7.trans s8).trans s9).trans s10).trans s11).trans sm
      have gK13 := gK12 _ _ gK
      refine lcW (walkT (xs := us)) (fun D i H2 => Same H' H2 ∧ ∃ xs, H2 D = some (.lst xs) ∧ All2 (LstV IntV H') xs (srcs (ms.take i))) (fun D H' s n g => ⟨s, [], g, .nil⟩) (fun _ _ _ _ _ p => p.1 _ _ gM12) (fun D i x H2 H7 hi hD p y => ?_) (fun pS H2 hS2 p => ?_)
      · obtain ⟨rfl, hx⟩ := y
        obtain ⟨s6, xs, gD, hxs⟩ := p
        obtain ⟨m, hmi, hvm0⟩ := hv12.at hx
        have hvm := MkV.mono s6 _ _ hvm0
        rw [take_succ hmi, srcs_app]
        have hll : xs.length < sizeLine := by
          rw [hxs.len]
          refine Nat.lt_of_le_of_lt (srcs_len _) (Nat.lt_of_lt_of_le (show (ms.take i).length < 10 by rw [List.length_take]; omega) (by decide))
        cases m with
        | fill c0 c1 c2 c3 os col =>
          obtain ⟨a1, ak, ao, rfl, g1, g2, gO⟩ := hvm
          walk_at "vc g1 fill_ne' fillS_ne'"
          refine ⟨s6, xs, gD, ?_⟩
          show All2 _ xs (srcs (ms.take i) ++ [])
          rw [List.append_nil]
          exact hxs
        | image c0 c1 c2 c3 aw ah src b0 b1 b2 b3 =>
          obtain ⟨a1, ak, ap, sa, ab, e1, g1, g2, g3, g4, g5⟩ := hvm0
          have g1' := s6 _ _ g1
          have g3' := s6 _ _ g3
          subst e1
          walk_at "vc g1' g3' gD"
          exact ⟨hll, same_upd2 s6 hD, hxs.snoc (intL g4)⟩
      obtain ⟨s6, xs, gS, hxs⟩ := p
      rw [hv12.len, List.take_length] at hxs
      refine ⟨srcs ms, ⟨pS, xs, rfl, gS, hxs.mono (lsv_mono s6)⟩, srcs ms, ⟨pK, ls, rfl, s6 _ _ gK13, hls.mono (lsv_mono (gK12.trans s6))⟩, ?_⟩
      refine iteP (fun _ => ?_) (fun z => absurd rfl z)
      refine ⟨pP, pM, pA, w, h, back, ms, us, 0, rfl, s6 _ _ gP12, s6 _ _ gM12, hv12.mono (MkV.mono s6), hm, by omega, by omega, fun H13 p13 g13 c13 s13 n13 f13 m13 k13 l13 o13 => ?_⟩
      have hwp : 1 ≤ w * h := Nat.mul_pos hw1.1 hh1.1
      have e0 : (paintR w h back ms 0).2 = 0 := by unfold paintR; rw [if_pos (by omega)]
      rw [e0] at k13
      walk_at "vc k13"
      exact q _

end
theorem all_mk {l : PySem.W.OpenLaw} {w : World} {K : PySem.W.Frag} {h : Heap} {mg : Str → Option Value} {fa : Addr} (X : K.In h) (G : h.Ns mainGlobals mg) (hfa : mg "law" = some (.ref fa))
    {f1 : Addr} {od1 an1 : Option Addr} {sl1 : Array (Option Value)} {oc1 kV1 dc1 pm1 cd1 ct1 : Value}
    (a1 : PySem.W.nsIn K mainGlobals "bounded" = some (some (.ref f1))) (l1 : K.lookup f1 = some ⟨oc1, od1, .func (PySem.W.fnOf "bounded" "bounded" (defArgs s_bounded) (defBody s_bounded) (defScope s_bounded) .none kV1 dc1 pm1 an1 cd1 ct1), sl1⟩) (c1 : PySem.W.codeIn K cd1 "bounded" = true) (k1 : PySem.W.keepIn K (.ref f1) = true)
    {f2 : Addr} {od2 an2 : Option Addr} {sl2 : Array (Option Value)} {oc2 kV2 dc2 pm2 cd2 ct2 : Value}
    (a2 : PySem.W.nsIn K mainGlobals "middle" = some (some (.ref f2))) (l2 : K.lookup f2 = some ⟨oc2, od2, .func (PySem.W.fnOf "middle" "middle" (defArgs s_middle) (defBody s_middle) (defScope s_middle) .none kV2 dc2 pm2 an2 cd2 ct2), sl2⟩) (c2 : PySem.W.codeIn K cd2 "middle" = true) (k2 : PySem.W.keepIn K (.ref f2) = true)
    {f3 : Addr} {od3 an3 : Option Addr} {sl3 : Array (Option Value)} {oc3 kV3 dc3 pm3 cd3 ct3 : Value}
    (a3 : PySem.W.nsIn K mainGlobals "spend" = some (some (.ref f3))) (l3 : K.lookup f3 = some ⟨oc3, od3, .func (PySem.W.fnOf "spend" "spend" (defArgs s_spend) (defBody s_spend) (defScope s_spend) .none kV3 dc3 pm3 an3 cd3 ct3), sl3⟩) (c3 : PySem.W.codeIn K cd3 "spend" = true) (k3 : PySem.W.keepIn K (.ref f3) = true)
    {f4 : Addr} {od4 an4 : Option Addr} {sl4 : Array (Option Value)} {oc4 kV4 dc4 pm4 cd4 ct4 : Value}
    (a4 : PySem.W.nsIn K mainGlobals "fill" = some (some (.ref f4))) (l4 : K.lookup f4 = some ⟨oc4, od4, .func (PySem.W.fnOf "fill" "fill" (defArgs s_fill) (defBody s_fill) (defScope s_fill) .none kV4 dc4 pm4 an4 cd4 ct4), sl4⟩) (c4 : PySem.W.codeIn K cd4 "fill" = true) (k4 : PySem.W.keepIn K (.ref f4) = true)
    {f5 : Addr} {od5 an5 : Option Addr} {sl5 : Array (Option Value)} {oc5 kV5 dc5 pm5 cd5 ct5 : Value}
    (a5 : PySem.W.nsIn K mainGlobals "_within" = some (some (.ref f5))) (l5 : K.lookup f5 = some ⟨oc5, od5, .func (PySem.W.fnOf "_within" "_within" (defArgs s__within) (defBody s__within) (defScope s__within) .none kV5 dc5 pm5 an5 cd5 ct5), sl5⟩) (c5 : PySem.W.codeIn K cd5 "_within" = true) (k5 : PySem.W.keepIn K (.ref f5) = true)
    {f6 : Addr} {od6 an6 : Option Addr} {sl6 : Array (Option Value)} {oc6 kV6 dc6 pm6 cd6 ct6 : Value}
    (a6 : PySem.W.nsIn K mainGlobals "_edges" = some (some (.ref f6))) (l6 : K.lookup f6 = some ⟨oc6, od6, .func (PySem.W.fnOf "_edges" "_edges" (defArgs s__edges) (defBody s__edges) (defScope s__edges) .none kV6 dc6 pm6 an6 cd6 ct6), sl6⟩) (c6 : PySem.W.codeIn K cd6 "_edges" = true) (k6 : PySem.W.keepIn K (.ref f6) = true)
    {f7 : Addr} {od7 an7 : Option Addr} {sl7 : Array (Option Value)} {oc7 kV7 dc7 pm7 cd7 ct7 : Value}
    (a7 : PySem.W.nsIn K mainGlobals "_inside_row" = some (some (.ref f7))) (l7 : K.lookup f7 = some ⟨oc7, od7, .func (PySem.W.fnOf "_inside_row" "_inside_row" (defArgs s__inside_row) (defBody s__inside_row) (defScope s__inside_row) .none kV7 dc7 pm7 an7 cd7 ct7), sl7⟩) (c7 : PySem.W.codeIn K cd7 "_inside_row" = true) (k7 : PySem.W.keepIn K (.ref f7) = true)
    {f8 : Addr} {od8 an8 : Option Addr} {sl8 : Array (Option Value)} {oc8 kV8 dc8 pm8 cd8 ct8 : Value}
    (a8 : PySem.W.nsIn K mainGlobals "_first_column" = some (some (.ref f8))) (l8 : K.lookup f8 = some ⟨oc8, od8, .func (PySem.W.fnOf "_first_column" "_first_column" (defArgs s__first_column) (defBody s__first_column) (defScope s__first_column) .none kV8 dc8 pm8 an8 cd8 ct8), sl8⟩) (c8 : PySem.W.codeIn K cd8 "_first_column" = true) (k8 : PySem.W.keepIn K (.ref f8) = true)
    {f9 : Addr} {od9 an9 : Option Addr} {sl9 : Array (Option Value)} {oc9 kV9 dc9 pm9 cd9 ct9 : Value}
    (a9 : PySem.W.nsIn K mainGlobals "place" = some (some (.ref f9))) (l9 : K.lookup f9 = some ⟨oc9, od9, .func (PySem.W.fnOf "place" "place" (defArgs s_place) (defBody s_place) (defScope s_place) .none kV9 dc9 pm9 an9 cd9 ct9), sl9⟩) (c9 : PySem.W.codeIn K cd9 "place" = true) (k9 : PySem.W.keepIn K (.ref f9) = true)
    {f10 : Addr} {od10 an10 : Option Addr} {sl10 : Array (Option Value)} {oc10 kV10 dc10 pm10 cd10 ct10 : Value}
    (a10 : PySem.W.nsIn K mainGlobals "paint" = some (some (.ref f10))) (l10 : K.lookup f10 = some ⟨oc10, od10, .func (PySem.W.fnOf "paint" "paint" (defArgs s_paint) (defBody s_paint) (defScope s_paint) .none kV10 dc10 pm10 an10 cd10 ct10), sl10⟩) (c10 : PySem.W.codeIn K cd10 "paint" = true) (k10 : PySem.W.keepIn K (.ref f10) = true)
    {f11 : Addr} {od11 an11 : Option Addr} {sl11 : Array (Option Value)} {oc11 kV11 dc11 pm11 cd11 ct11 : Value}
    (a11 : PySem.W.nsIn K mainGlobals "_cost" = some (some (.ref f11))) (l11 : K.lookup f11 = some ⟨oc11, od11, .func (PySem.W.fnOf "_cost" "_cost" (defArgs s__cost) (defBody s__cost) (defScope s__cost) .none kV11 dc11 pm11 an11 cd11 ct11), sl11⟩) (c11 : PySem.W.codeIn K cd11 "_cost" = true) (k11 : PySem.W.keepIn K (.ref f11) = true)
    {f12 : Addr} {od12 an12 : Option Addr} {sl12 : Array (Option Value)} {oc12 kV12 dc12 pm12 cd12 ct12 : Value}
    (a12 : PySem.W.nsIn K mainGlobals "_painted" = some (some (.ref f12))) (l12 : K.lookup f12 = some ⟨oc12, od12, .func (PySem.W.fnOf "_painted" "_painted" (defArgs s__painted) (defBody s__painted) (defScope s__painted) .none kV12 dc12 pm12 an12 cd12 ct12), sl12⟩) (c12 : PySem.W.codeIn K cd12 "_painted" = true) (k12 : PySem.W.keepIn K (.ref f12) = true)
    {f13 : Addr} {od13 an13 : Option Addr} {sl13 : Array (Option Value)} {oc13 kV13 dc13 pm13 cd13 ct13 : Value}
    (a13 : PySem.W.nsIn K mainGlobals "_law_cell" = some (some (.ref f13))) (l13 : K.lookup f13 = some ⟨oc13, od13, .func (PySem.W.fnOf "_law_cell" "_law_cell" (defArgs s__law_cell) (defBody s__law_cell) (defScope s__law_cell) .none kV13 dc13 pm13 an13 cd13 ct13), sl13⟩) (c13 : PySem.W.codeIn K cd13 "_law_cell" = true) (k13 : PySem.W.keepIn K (.ref f13) = true)
    {f14 : Addr} {od14 an14 : Option Addr} {sl14 : Array (Option Value)} {oc14 kV14 dc14 pm14 cd14 ct14 : Value}
    (a14 : PySem.W.nsIn K mainGlobals "_law_is_integer" = some (some (.ref f14))) (l14 : K.lookup f14 = some ⟨oc14, od14, .func (PySem.W.fnOf "_law_is_integer" "_law_is_integer" (defArgs s__law_is_integer) (defBody s__law_is_integer) (defScope s__law_is_integer) .none kV14 dc14 pm14 an14 cd14 ct14), sl14⟩) (c14 : PySem.W.codeIn K cd14 "_law_is_integer" = true) (k14 : PySem.W.keepIn K (.ref f14) = true)
    {f15 : Addr} {od15 an15 : Option Addr} {sl15 : Array (Option Value)} {oc15 kV15 dc15 pm15 cd15 ct15 : Value}
    (a15 : PySem.W.nsIn K mainGlobals "_law_colour" = some (some (.ref f15))) (l15 : K.lookup f15 = some ⟨oc15, od15, .func (PySem.W.fnOf "_law_colour" "_law_colour" (defArgs s__law_colour) (defBody s__law_colour) (defScope s__law_colour) .none kV15 dc15 pm15 an15 cd15 ct15), sl15⟩) (c15 : PySem.W.codeIn K cd15 "_law_colour" = true) (k15 : PySem.W.keepIn K (.ref f15) = true)
    {f16 : Addr} {od16 an16 : Option Addr} {sl16 : Array (Option Value)} {oc16 kV16 dc16 pm16 cd16 ct16 : Value}
    (a16 : PySem.W.nsIn K mainGlobals "_law_grid" = some (some (.ref f16))) (l16 : K.lookup f16 = some ⟨oc16, od16, .func (PySem.W.fnOf "_law_grid" "_law_grid" (defArgs s__law_grid) (defBody s__law_grid) (defScope s__law_grid) .none kV16 dc16 pm16 an16 cd16 ct16), sl16⟩) (c16 : PySem.W.codeIn K cd16 "_law_grid" = true) (k16 : PySem.W.keepIn K (.ref f16) = true)
    {f17 : Addr} {od17 an17 : Option Addr} {sl17 : Array (Option Value)} {oc17 kV17 dc17 pm17 cd17 ct17 : Value}
    (a17 : PySem.W.nsIn K mainGlobals "_law_is_grid" = some (some (.ref f17))) (l17 : K.lookup f17 = some ⟨oc17, od17, .func (PySem.W.fnOf "_law_is_grid" "_law_is_grid" (defArgs s__law_is_grid) (defBody s__law_is_grid) (defScope s__law_is_grid) .none kV17 dc17 pm17 an17 cd17 ct17), sl17⟩) (c17 : PySem.W.codeIn K cd17 "_law_is_grid" = true) (k17 : PySem.W.keepIn K (.ref f17) = true)
    {f18 : Addr} {od18 an18 : Option Addr} {sl18 : Array (Option Value)} {oc18 kV18 dc18 pm18 cd18 ct18 : Value}
    (a18 : PySem.W.nsIn K mainGlobals "_law_point" = some (some (.ref f18))) (l18 : K.lookup f18 = some ⟨oc18, od18, .func (PySem.W.fnOf "_law_point" "_law_point" (defArgs s__law_point) (defBody s__law_point) (defScope s__law_point) .none kV18 dc18 pm18 an18 cd18 ct18), sl18⟩) (c18 : PySem.W.codeIn K cd18 "_law_point" = true) (k18 : PySem.W.keepIn K (.ref f18) = true)
    {f19 : Addr} {od19 an19 : Option Addr} {sl19 : Array (Option Value)} {oc19 kV19 dc19 pm19 cd19 ct19 : Value}
    (a19 : PySem.W.nsIn K mainGlobals "_law_outlines" = some (some (.ref f19))) (l19 : K.lookup f19 = some ⟨oc19, od19, .func (PySem.W.fnOf "_law_outlines" "_law_outlines" (defArgs s__law_outlines) (defBody s__law_outlines) (defScope s__law_outlines) .none kV19 dc19 pm19 an19 cd19 ct19), sl19⟩) (c19 : PySem.W.codeIn K cd19 "_law_outlines" = true) (k19 : PySem.W.keepIn K (.ref f19) = true)
    {f20 : Addr} {od20 an20 : Option Addr} {sl20 : Array (Option Value)} {oc20 kV20 dc20 pm20 cd20 ct20 : Value}
    (a20 : PySem.W.nsIn K mainGlobals "_law_bounded" = some (some (.ref f20))) (l20 : K.lookup f20 = some ⟨oc20, od20, .func (PySem.W.fnOf "_law_bounded" "_law_bounded" (defArgs s__law_bounded) (defBody s__law_bounded) (defScope s__law_bounded) .none kV20 dc20 pm20 an20 cd20 ct20), sl20⟩) (c20 : PySem.W.codeIn K cd20 "_law_bounded" = true) (k20 : PySem.W.keepIn K (.ref f20) = true)
    {f21 : Addr} {od21 an21 : Option Addr} {sl21 : Array (Option Value)} {oc21 kV21 dc21 pm21 cd21 ct21 : Value}
    (a21 : PySem.W.nsIn K mainGlobals "_law_counts" = some (some (.ref f21))) (l21 : K.lookup f21 = some ⟨oc21, od21, .func (PySem.W.fnOf "_law_counts" "_law_counts" (defArgs s__law_counts) (defBody s__law_counts) (defScope s__law_counts) .none kV21 dc21 pm21 an21 cd21 ct21), sl21⟩) (c21 : PySem.W.codeIn K cd21 "_law_counts" = true) (k21 : PySem.W.keepIn K (.ref f21) = true)
    {f22 : Addr} {od22 an22 : Option Addr} {sl22 : Array (Option Value)} {oc22 kV22 dc22 pm22 cd22 ct22 : Value}
    (a22 : PySem.W.nsIn K mainGlobals "_law_inside" = some (some (.ref f22))) (l22 : K.lookup f22 = some ⟨oc22, od22, .func (PySem.W.fnOf "_law_inside" "_law_inside" (defArgs s__law_inside) (defBody s__law_inside) (defScope s__law_inside) .none kV22 dc22 pm22 an22 cd22 ct22), sl22⟩) (c22 : PySem.W.codeIn K cd22 "_law_inside" = true) (k22 : PySem.W.keepIn K (.ref f22) = true)
    {f23 : Addr} {od23 an23 : Option Addr} {sl23 : Array (Option Value)} {oc23 kV23 dc23 pm23 cd23 ct23 : Value}
    (a23 : PySem.W.nsIn K mainGlobals "_law_in_box" = some (some (.ref f23))) (l23 : K.lookup f23 = some ⟨oc23, od23, .func (PySem.W.fnOf "_law_in_box" "_law_in_box" (defArgs s__law_in_box) (defBody s__law_in_box) (defScope s__law_in_box) .none kV23 dc23 pm23 an23 cd23 ct23), sl23⟩) (c23 : PySem.W.codeIn K cd23 "_law_in_box" = true) (k23 : PySem.W.keepIn K (.ref f23) = true)
    {f24 : Addr} {od24 an24 : Option Addr} {sl24 : Array (Option Value)} {oc24 kV24 dc24 pm24 cd24 ct24 : Value}
    (a24 : PySem.W.nsIn K mainGlobals "_law_filled" = some (some (.ref f24))) (l24 : K.lookup f24 = some ⟨oc24, od24, .func (PySem.W.fnOf "_law_filled" "_law_filled" (defArgs s__law_filled) (defBody s__law_filled) (defScope s__law_filled) .none kV24 dc24 pm24 an24 cd24 ct24), sl24⟩) (c24 : PySem.W.codeIn K cd24 "_law_filled" = true) (k24 : PySem.W.keepIn K (.ref f24) = true)
    {f25 : Addr} {od25 an25 : Option Addr} {sl25 : Array (Option Value)} {oc25 kV25 dc25 pm25 cd25 ct25 : Value}
    (a25 : PySem.W.nsIn K mainGlobals "_law_box" = some (some (.ref f25))) (l25 : K.lookup f25 = some ⟨oc25, od25, .func (PySem.W.fnOf "_law_box" "_law_box" (defArgs s__law_box) (defBody s__law_box) (defScope s__law_box) .none kV25 dc25 pm25 an25 cd25 ct25), sl25⟩) (c25 : PySem.W.codeIn K cd25 "_law_box" = true) (k25 : PySem.W.keepIn K (.ref f25) = true)
    {f26 : Addr} {od26 an26 : Option Addr} {sl26 : Array (Option Value)} {oc26 kV26 dc26 pm26 cd26 ct26 : Value}
    (a26 : PySem.W.nsIn K mainGlobals "_law_placed" = some (some (.ref f26))) (l26 : K.lookup f26 = some ⟨oc26, od26, .func (PySem.W.fnOf "_law_placed" "_law_placed" (defArgs s__law_placed) (defBody s__law_placed) (defScope s__law_placed) .none kV26 dc26 pm26 an26 cd26 ct26), sl26⟩) (c26 : PySem.W.codeIn K cd26 "_law_placed" = true) (k26 : PySem.W.keepIn K (.ref f26) = true)
    {f27 : Addr} {od27 an27 : Option Addr} {sl27 : Array (Option Value)} {oc27 kV27 dc27 pm27 cd27 ct27 : Value}
    (a27 : PySem.W.nsIn K mainGlobals "_law_mark" = some (some (.ref f27))) (l27 : K.lookup f27 = some ⟨oc27, od27, .func (PySem.W.fnOf "_law_mark" "_law_mark" (defArgs s__law_mark) (defBody s__law_mark) (defScope s__law_mark) .none kV27 dc27 pm27 an27 cd27 ct27), sl27⟩) (c27 : PySem.W.codeIn K cd27 "_law_mark" = true) (k27 : PySem.W.keepIn K (.ref f27) = true)
    {f28 : Addr} {od28 an28 : Option Addr} {sl28 : Array (Option Value)} {oc28 kV28 dc28 pm28 cd28 ct28 : Value}
    (a28 : PySem.W.nsIn K mainGlobals "_law_cost" = some (some (.ref f28))) (l28 : K.lookup f28 = some ⟨oc28, od28, .func (PySem.W.fnOf "_law_cost" "_law_cost" (defArgs s__law_cost) (defBody s__law_cost) (defScope s__law_cost) .none kV28 dc28 pm28 an28 cd28 ct28), sl28⟩) (c28 : PySem.W.codeIn K cd28 "_law_cost" = true) (k28 : PySem.W.keepIn K (.ref f28) = true)
    {f29 : Addr} {od29 an29 : Option Addr} {sl29 : Array (Option Value)} {oc29 kV29 dc29 pm29 cd29 ct29 : Value}
    (a29 : PySem.W.nsIn K mainGlobals "_law_painted" = some (some (.ref f29))) (l29 : K.lookup f29 = some ⟨oc29, od29, .func (PySem.W.fnOf "_law_painted" "_law_painted" (defArgs s__law_painted) (defBody s__law_painted) (defScope s__law_painted) .none kV29 dc29 pm29 an29 cd29 ct29), sl29⟩) (c29 : PySem.W.codeIn K cd29 "_law_painted" = true) (k29 : PySem.W.keepIn K (.ref f29) = true)
    {f30 : Addr} {od30 an30 : Option Addr} {sl30 : Array (Option Value)} {oc30 kV30 dc30 pm30 cd30 ct30 : Value}
    (a30 : PySem.W.nsIn K mainGlobals "law" = some (some (.ref f30))) (l30 : K.lookup f30 = some ⟨oc30, od30, .func (PySem.W.fnOf "law" "law" (defArgs s_law) (defBody s_law) (defScope s_law) .none kV30 dc30 pm30 an30 cd30 ct30), sl30⟩) (c30 : PySem.W.codeIn K cd30 "law" = true) (k30 : PySem.W.keepIn K (.ref f30) = true)
    {t31 : Tok} (a31 : PySem.W.nsIn K mainGlobals "_FARTHEST" = some (some (.int 1048576 t31)))
    {t32 : Tok} (a32 : PySem.W.nsIn K mainGlobals "NO_COLOUR" = some (some (.int (-1) t32)))
    (a33 : PySem.W.nsIn K mainGlobals "abs" = some none)
    (a34 : PySem.W.nsIn K mainGlobals "bool" = some none)
    (a35 : PySem.W.nsIn K mainGlobals "int" = some none)
    (a36 : PySem.W.nsIn K mainGlobals "isinstance" = some none)
    (a37 : PySem.W.nsIn K mainGlobals "len" = some none)
    (a38 : PySem.W.nsIn K mainGlobals "list" = some none)
    (a39 : PySem.W.nsIn K mainGlobals "max" = some none)
    (a40 : PySem.W.nsIn K mainGlobals "min" = some none)
    (a41 : PySem.W.nsIn K mainGlobals "range" = some none)
    (a42 : PySem.W.nsIn K mainGlobals "sum" = some none)
    (a43 : PySem.W.nsIn K mainGlobals "tuple" = some none)
    (a44 : PySem.W.nsIn K mainGlobals "zip" = some none)
    : ∃ fd : FuncData, (∀ (s : Shared) (v : Value), BindsTo s fd ⟨[v], []⟩ [("script", v)]) ∧ ∀ base : Heap, K.In base → base.Ns mainGlobals mg → FnOk l.prog w K mg base CX0 6 fa fd ["script"] (spLaw K) := by
  have e := hfa.symm.trans (PySem.W.mg_of X G a30)
  cases e
  have F1 := fun_mk (st := s_bounded) l1 c1 k1
  have b1 := F1.binds (ps := ["number"]) fun _ _ _ _ _ _ us hl => match us, hl with | [_], _ => rfl
  have F2 := fun_mk (st := s_middle) l2 c2 k2
  have b2 := F2.binds (ps := ["at"]) fun _ _ _ _ _ _ us hl => match us, hl with | [_], _ => rfl
  have F3 := fun_mk (st := s_spend) l3 c3 k3
  have b3 := F3.binds (ps := ["left", "cost"]) fun _ _ _ _ _ _ us hl => match us, hl with | [_, _], _ => rfl
  have F4 := fun_mk (st := s_fill) l4 c4 k4
  have b4 := F4.binds (ps := ["grid", "clip", "outlines", "colour"]) fun _ _ _ _ _ _ us hl => match us, hl with | [_, _, _, _], _ => rfl
  have F5 := fun_mk (st := s__within) l5 c5 k5
  have b5 := F5.binds (ps := ["begin", "end", "count"]) fun _ _ _ _ _ _ us hl => match us, hl with | [_, _, _], _ => rfl
  have F6 := fun_mk (st := s__edges) l6 c6 k6
  have b6 := F6.binds (ps := ["outlines"]) fun _ _ _ _ _ _ us hl => match us, hl with | [_], _ => rfl
  have F7 := fun_mk (st := s__inside_row) l7 c7 k7
  have b7 := F7.binds (ps := ["crossed", "y", "width"]) fun _ _ _ _ _ _ us hl => match us, hl with | [_, _, _], _ => rfl
  have F8 := fun_mk (st := s__first_column) l8 c8 k8
  have b8 := F8.binds (ps := ["edge", "y", "width"]) fun _ _ _ _ _ _ us hl => match us, hl with | [_, _, _], _ => rfl
  have F9 := fun_mk (st := s_place) l9 c9 k9
  have b9 := F9.binds (ps := ["grid", "clip", "picture", "box"]) fun _ _ _ _ _ _ us hl => match us, hl with | [_, _, _, _], _ => rfl
  have F10 := fun_mk (st := s_paint) l10 c10 k10
  have b10 := F10.binds (ps := ["page", "left"]) fun _ _ _ _ _ _ us hl => match us, hl with | [_, _], _ => rfl
  have F11 := fun_mk (st := s__cost) l11 c11 k11
  have b11 := F11.binds (ps := ["mark", "height"]) fun _ _ _ _ _ _ us hl => match us, hl with | [_, _], _ => rfl
  have F12 := fun_mk (st := s__painted) l12 c12 k12
  have b12 := F12.binds (ps := ["grid", "mark"]) fun _ _ _ _ _ _ us hl => match us, hl with | [_, _], _ => rfl
  have F13 := fun_mk (st := s__law_cell) l13 c13 k13
  have b13 := F13.binds (ps := ["script", "k"]) fun _ _ _ _ _ _ us hl => match us, hl with | [_, _], _ => rfl
  have F14 := fun_mk (st := s__law_is_integer) l14 c14 k14
  have b14 := F14.binds (ps := ["actual"]) fun _ _ _ _ _ _ us hl => match us, hl with | [_], _ => rfl
  have F15 := fun_mk (st := s__law_colour) l15 c15 k15
  have b15 := F15.binds (ps := ["cell"]) fun _ _ _ _ _ _ us hl => match us, hl with | [_], _ => rfl
  have F16 := fun_mk (st := s__law_grid) l16 c16 k16
  have b16 := F16.binds (ps := ["cell", "nones"]) fun _ _ _ _ _ _ us hl => match us, hl with | [_, _], _ => rfl
  have F17 := fun_mk (st := s__law_is_grid) l17 c17 k17
  have b17 := F17.binds (ps := ["actual", "width", "height", "cells"]) fun _ _ _ _ _ _ us hl => match us, hl with | [_, _, _, _], _ => rfl
  have F18 := fun_mk (st := s__law_point) l18 c18 k18
  have b18 := F18.binds (ps := ["cell", "width", "height"]) fun _ _ _ _ _ _ us hl => match us, hl with | [_, _, _], _ => rfl
  have F19 := fun_mk (st := s__law_outlines) l19 c19 k19
  have b19 := F19.binds (ps := ["script", "at", "width", "height"]) fun _ _ _ _ _ _ us hl => match us, hl with | [_, _, _, _], _ => rfl
  have F20 := fun_mk (st := s__law_bounded) l20 c20 k20
  have b20 := F20.binds (ps := ["number"]) fun _ _ _ _ _ _ us hl => match us, hl with | [_], _ => rfl
  have F21 := fun_mk (st := s__law_counts) l21 c21 k21
  have b21 := F21.binds (ps := ["first", "second", "x", "y"]) fun _ _ _ _ _ _ us hl => match us, hl with | [_, _, _, _], _ => rfl
  have F22 := fun_mk (st := s__law_inside) l22 c22 k22
  have b22 := F22.binds (ps := ["outlines", "x", "y"]) fun _ _ _ _ _ _ us hl => match us, hl with | [_, _, _], _ => rfl
  have F23 := fun_mk (st := s__law_in_box) l23 c23 k23
  have b23 := F23.binds (ps := ["x", "y", "box"]) fun _ _ _ _ _ _ us hl => match us, hl with | [_, _, _], _ => rfl
  have F24 := fun_mk (st := s__law_filled) l24 c24 k24
  have b24 := F24.binds (ps := ["grid", "clip", "outlines", "colour"]) fun _ _ _ _ _ _ us hl => match us, hl with | [_, _, _, _], _ => rfl
  have F25 := fun_mk (st := s__law_box) l25 c25 k25
  have b25 := F25.binds (ps := ["cell", "width", "height"]) fun _ _ _ _ _ _ us hl => match us, hl with | [_, _, _], _ => rfl
  have F26 := fun_mk (st := s__law_placed) l26 c26 k26
  have b26 := F26.binds (ps := ["grid", "clip", "picture", "box"]) fun _ _ _ _ _ _ us hl => match us, hl with | [_, _, _, _], _ => rfl
  have F27 := fun_mk (st := s__law_mark) l27 c27 k27
  have b27 := F27.binds (ps := ["script", "k", "width", "height"]) fun _ _ _ _ _ _ us hl => match us, hl with | [_, _, _, _], _ => rfl
  have F28 := fun_mk (st := s__law_cost) l28 c28 k28
  have b28 := F28.binds (ps := ["mark", "height"]) fun _ _ _ _ _ _ us hl => match us, hl with | [_, _], _ => rfl
  have F29 := fun_mk (st := s__law_painted) l29 c29 k29
  have b29 := F29.binds (ps := ["page", "left"]) fun _ _ _ _ _ _ us hl => match us, hl with | [_, _], _ => rfl
  have F30 := fun_mk (st := s_law) l30 c30 k30
  have b30 := F30.binds (ps := ["script"]) fun _ _ _ _ _ _ us hl => match us, hl with | [_], _ => rfl
  have T : Txt K mg := ⟨f1, _, F1, b1, PySem.W.mg_of X G a1,
    f2, _, F2, b2, PySem.W.mg_of X G a2,
    f3, _, F3, b3, PySem.W.mg_of X G a3,
    f4, _, F4, b4, PySem.W.mg_of X G a4,
    f5, _, F5, b5, PySem.W.mg_of X G a5,
    f6, _, F6, b6, PySem.W.mg_of X G a6,
    f7, _, F7, b7, PySem.W.mg_of X G a7,
    f8, _, F8, b8, PySem.W.mg_of X G a8,
    f9, _, F9, b9, PySem.W.mg_of X G a9,
    f10, _, F10, b10, PySem.W.mg_of X G a10,
    f11, _, F11, b11, PySem.W.mg_of X G a11,
    f12, _, F12, b12, PySem.W.mg_of X G a12,
    f13, _, F13, b13, PySem.W.mg_of X G a13,
    f14, _, F14, b14, PySem.W.mg_of X G a14,
    f15, _, F15, b15, PySem.W.mg_of X G a15,
    f16, _, F16, b16, PySem.W.mg_of X G a16,
    f17, _, F17, b17, PySem.W.mg_of X G a17,
    f18, _, F18, b18, PySem.W.mg_of X G a18,
    f19, _, F19, b19, PySem.W.mg_of X G a19,
    f20, _, F20, b20, PySem.W.mg_of X G a20,
    f21, _, F21, b21, PySem.W.mg_of X G a21,
    f22, _, F22, b22, PySem.W.mg_of X G a22,
    f23, _, F23, b23, PySem.W.mg_of X G a23,
    f24, _, F24, b24, PySem.W.mg_of X G a24,
    f25, _, F25, b25, PySem.W.mg_of X G a25,
    f26, _, F26, b26, PySem.W.mg_of X G a26,
    f27, _, F27, b27, PySem.W.mg_of X G a27,
    f28, _, F28, b28, PySem.W.mg_of X G a28,
    f29, _, F29, b29, PySem.W.mg_of X G a29,
    fa, _, F30, b30, PySem.W.mg_of X G a30,
    t31, PySem.W.mg_of X G a31,
    t32, PySem.W.mg_of X G a32,
    PySem.W.mg_none_of X G a33,
    PySem.W.mg_none_of X G a34,
    PySem.W.mg_none_of X G a35,
    PySem.W.mg_none_of X G a36,
    PySem.W.mg_none_of X G a37,
    PySem.W.mg_none_of X G a38,
    PySem.W.mg_none_of X G a39,
    PySem.W.mg_none_of X G a40,
    PySem.W.mg_none_of X G a41,
    PySem.W.mg_none_of X G a42,
    PySem.W.mg_none_of X G a43,
    PySem.W.mg_none_of X G a44⟩
  refine ⟨PySem.W.fnOf "law" "law" (defArgs s_law) (defBody s_law) (defScope s_law) .none kV30 dc30 pm30 an30 cd30 ct30, fun s v => .of_eq rfl, fun base _ _ => ?_⟩
  exact ok_law_of F30 T
end K40
open PySem PySem.W PyProof.Rows
set_option maxRecDepth 100000 in
set_option maxHeartbeats 0 in
theorem PySem.Challenge.cw_stillroom_k40_painted_pages_holds : PySem.Challenge.rw_stillroom_k40_painted_pages.Holds := by
  w_on; o_law; k_head; (case hw => w_witness2)
  k_fill
  refine L2.walk_of (l := PySem.Challenge.rw_stillroom_k40_painted_pages) (n := 63) (k := 6) (x := "script") (CX := fun _ => L2.CX0) (sp := fun w => K40.spLaw _) rfl (by decide) rfl ⟨rfl, by decide, by decide⟩ (fun w h Y => PySem.W.kIn_of Y) ?F (fun _ _ a ns hl _ hS => ⟨a, ns, rfl, hS, hl, fun _ => rfl⟩) (fun _ _ _ _ _ h => h)
  case F =>
    intro w mg fa h KX G hmg
    refine' K40.all_mk KX G hmg ?a1 ?l1 ?c1 ?k1 ?a2 ?l2 ?c2 ?k2 ?a3 ?l3 ?c3 ?k3 ?a4 ?l4 ?c4 ?k4 ?a5 ?l5 ?c5 ?k5 ?a6 ?l6 ?c6 ?k6 ?a7 ?l7 ?c7 ?k7 ?a8 ?l8 ?c8 ?k8 ?a9 ?l9 ?c9 ?k9 ?a10 ?l10 ?c10 ?k10 ?a11 ?l11 ?c11 ?k11 ?a12 ?l12 ?c12 ?k12 ?a13 ?l13 ?c13 ?k13 ?a14 ?l14 ?c14 ?k14 ?a15 ?l15 ?c15 ?k15 ?a16 ?l16 ?c16 ?k16 ?a17 ?l17 ?c17 ?k17 ?a18 ?l18 ?c18 ?k18 ?a19 ?l19 ?c19 ?k19 ?a20 ?l20 ?c20 ?k20 ?a21 ?l21 ?c21 ?k21 ?a22 ?l22 ?c22 ?k22 ?a23 ?l23 ?c23 ?k23 ?a24 ?l24 ?c24 ?k24 ?a25 ?l25 ?c25 ?k25 ?a26 ?l26 ?c26 ?k26 ?a27 ?l27 ?c27 ?k27 ?a28 ?l28 ?c28 ?k28 ?a29 ?l29 ?c29 ?k29 ?a30 ?l30 ?c30 ?k30 ?a31 ?a32 ?a33 ?a34 ?a35 ?a36 ?a37 ?a38 ?a39 ?a40 ?a41 ?a42 ?a43 ?a44
    (case a1 => k_is)
    (case l1 => k_is)
    (case c1 => k_is)
    (case k1 => k_is)
    (case a2 => k_is)
    (case l2 => k_is)
    (case c2 => k_is)
    (case k2 => k_is)
    (case a3 => k_is)
    (case l3 => k_is)
    (case c3 => k_is)
    (case k3 => k_is)
    (case a4 => k_is)
    (case l4 => k_is)
    (case c4 => k_is)
    (case k4 => k_is)
    (case a5 => k_is)
    (case l5 => k_is)
    (case c5 => k_is)
    (case k5 => k_is)
    (case a6 => k_is)
    (case l6 => k_is)
    (case c6 => k_is)
    (case k6 => k_is)
    (case a7 => k_is)
    (case l7 => k_is)
    (case c7 => k_is)
    (case k7 => k_is)
    (case a8 => k_is)
    (case l8 => k_is)
    (case c8 => k_is)
    (case k8 => k_is)
    (case a9 => k_is)
    (case l9 => k_is)
    (case c9 => k_is)
    (case k9 => k_is)
    (case a10 => k_is)
    (case l10 => k_is)
    (case c10 => k_is)
    (case k10 => k_is)
    (case a11 => k_is)
    (case l11 => k_is)
    (case c11 => k_is)
    (case k11 => k_is)
    (case a12 => k_is)
    (case l12 => k_is)
    (case c12 => k_is)
    (case k12 => k_is)
    (case a13 => k_is)
    (case l13 => k_is)
    (case c13 => k_is)
    (case k13 => k_is)
    (case a14 => k_is)
    (case l14 => k_is)
    (case c14 => k_is)
    (case k14 => k_is)
    (case a15 => k_is)
    (case l15 => k_is)
    (case c15 => k_is)
    (case k15 => k_is)
    (case a16 => k_is)
    (case l16 => k_is)
    (case c16 => k_is)
    (case k16 => k_is)
    (case a17 => k_is)
    (case l17 => k_is)
    (case c17 => k_is)
    (case k17 => k_is)
    (case a18 => k_is)
    (case l18 => k_is)
    (case c18 => k_is)
    (case k18 => k_is)
    (case a19 => k_is)
    (case l19 => k_is)
    (case c19 => k_is)
    (case k19 => k_is)
    (case a20 => k_is)
    (case l20 => k_is)
    (case c20 => k_is)
    (case k20 => k_is)
    (case a21 => k_is)
    (case l21 => k_is)
    (case c21 => k_is)
    (case k21 => k_is)
    (case a22 => k_is)
    (case l22 => k_is)
    (case c22 => k_is)
    (case k22 => k_is)
    (case a23 => k_is)
    (case l23 => k_is)
    (case c23 => k_is)
    (case k23 => k_is)
    (case a24 => k_is)
    (case l24 => k_is)
    (case c24 => k_is)
    (case k24 => k_is)
    (case a25 => k_is)
    (case l25 => k_is)
    (case c25 => k_is)
    (case k25 => k_is)
    (case a26 => k_is)
    (case l26 => k_is)
    (case c26 => k_is)
    (case k26 => k_is)
    (case a27 => k_is)
    (case l27 => k_is)
    (case c27 => k_is)
    (case k27 => k_is)
    (case a28 => k_is)
    (case l28 => k_is)
    (case c28 => k_is)
    (case k28 => k_is)
    (case a29 => k_is)
    (case l29 => k_is)
    (case c29 => k_is)
    (case k29 => k_is)
    (case a30 => k_is)
    (case l30 => k_is)
    (case c30 => k_is)
    (case k30 => k_is)
    (case a31 => k_is)
    (case a32 => k_is)
    (case a33 => k_is)
    (case a34 => k_is)
    (case a35 => k_is)
    (case a36 => k_is)
    (case a37 => k_is)
    (case a38 => k_is)
    (case a39 => k_is)
    (case a40 => k_is)
    (case a41 => k_is)
    (case a42 => k_is)
    (case a43 => k_is)
    (case a44 => k_is)

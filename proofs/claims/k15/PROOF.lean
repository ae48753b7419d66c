

import PyProof.Rows.All
import Wide.All
import OpenK.AllK
import Wide.FinOn
import HandS.ForMost
import HandS.Wide
import HandS.IsInst
import HandS.FStr
import HandS.Zip
import HandS.CallLocal
import HandS.Walk
import HandS.TryOnly
import HandS.TupAny
import HandS.DictComp
import HandS.Deep
import HandS.Text
import HandS.Codes
import PySem.Challenge.RW_stillroom_k15_plain_names
set_option Elab.async false
set_option linter.all false
set_option maxRecDepth 100000
namespace K15
open PySem PySem.Spec PyProof.Rows L2

/-! ### rules with plainer readings -/
section
variable {X : Cx}
theorem CallR.of {f : Value} {r r' : List V → Hp → VK → Prop} (h : CallR X f r) (k : ∀ xs H Q, r' xs H Q → r xs H Q) : CallR X f r' := fun pins s σ H xs us Q I rv q => h pins s σ H xs us Q I rv (k xs H Q q)
theorem OpR.of {f : Value → Value → Sem Value} {r r' : R2} (h : OpR X f r) (k : ∀ x y H Q, r' x y H Q → r x y H Q) : OpR X f r' := fun pins s σ H x y v u Q I rx ry q => h pins s σ H x y v u Q I rx ry (k x y H Q q)
/-- the name of a plain value's type -/
def tnm : V → Option String
  | .non => some "NoneType"
  | .bl _ => some "bool"
  | .int _ => some "int"
  | .str _ => some "str"
  | _ => none
theorem tnm_int (i : Int) : tnm (.int i) = some "int" := rfl
theorem tnm_bl (b : Bool) : tnm (.bl b) = some "bool" := rfl
theorem tnm_str (x : Str) : tnm (.str x) = some "str" := rfl
theorem tnm_non : tnm .non = some "NoneType" := rfl
theorem tnm_ref (p : Addr) : tnm (.ref p) = none := rfl
theorem scal_ii (i j : Int) : scal (.int i) (.int j) = true := rfl
theorem scal_ss (i j : Str) : scal (.str i) (.str j) = true := rfl
theorem scal_bb (i j : Bool) : scal (.bl i) (.bl j) = true := rfl
theorem scal_nn : scal .non .non = true := rfl
theorem scal_in (i : Int) : scal (.int i) .non = true := rfl
theorem scal_ni (i : Int) : scal .non (.int i) = true := rfl
def rIsiB : List V → Hp → VK → Prop := fun vs H Q => (∃ x n a b, vs = [x, .ty n] ∧ tnm x = some a ∧ kitB a n = some b ∧ Q (.bl b) H) ∨
  (∃ p n xs b, vs = [.ref p, .ty n] ∧ H p = some (.lst xs) ∧ kitB "list" n = some b ∧ Q (.bl b) H) ∨ ∃ p n xs b, vs = [.ref p, .ty n] ∧ H p = some (.tup xs) ∧ kitB "tuple" n = some b ∧ Q (.bl b) H
theorem call_isiB : CallR X (.builtin "isinstance") rIsiB := CallR.of call_isi (by
  intro vs H Q h
  rcases h with ⟨x, n, a, b, rfl, ha, hb, q⟩ | ⟨p, n, xs, b, rfl, ha, hb, q⟩ | ⟨p, n, xs, b, rfl, ha, hb, q⟩
  · refine ⟨x, .ty n, .type a, .type n, b, rfl, .ty n, ?_, kit_ty hb, q⟩
    cases x <;> cases ha
    · exact .base .non
    · exact .base (.bl _)
    · exact .base (.int _)
    · exact .base (.str _)
  · exact ⟨.ref p, .ty n, .type "list", .type n, b, rfl, .ty n, .base (.lst ha), kit_ty hb, q⟩
  · exact ⟨.ref p, .ty n, .type "tuple", .type n, b, rfl, .ty n, .base (.tup ha), kit_ty hb, q⟩)
theorem kb1 : kitB "int" "int" = some true := by decide +kernel
theorem kb2 : kitB "int" "bool" = some false := by decide +kernel
theorem kb3 : kitB "bool" "bool" = some true := by decide +kernel
theorem kb4 : kitB "bool" "int" = some true := by decide +kernel
theorem kb5 : kitB "str" "str" = some true := by decide +kernel
theorem kb6 : kitB "str" "int" = some false := by decide +kernel
theorem kb7 : kitB "list" "list" = some true := by decide +kernel
theorem kb8 : kitB "tuple" "tuple" = some true := by decide +kernel
theorem kb9 : kitB "NoneType" "int" = some false := by decide +kernel
theorem kb10 : kitB "NoneType" "list" = some false := by decide +kernel
/-- len, a copy, an item of a tracked list -/
def rLenH : List V → Hp → VK → Prop := fun vs H Q => ∃ p xs, vs = [.ref p] ∧ H p = some (.lst xs) ∧ Q (.int xs.length) H
theorem call_lenH : CallR X (.builtin "len") rLenH := CallR.of call_len_seq (by
  rintro vs H Q ⟨p, xs, rfl, h, q⟩
  exact ⟨p, xs, rfl, .inl (.inl (.inl h)), q⟩)
def rLenT : List V → Hp → VK → Prop := fun vs H Q => ∃ p xs, vs = [.ref p] ∧ H p = some (.tup xs) ∧ Q (.int xs.length) H
theorem call_lenT : CallR X (.builtin "len") rLenT := CallR.of call_len_seq (by
  rintro vs H Q ⟨p, xs, rfl, h, q⟩
  exact ⟨p, xs, rfl, .inr (.inl (.inl h)), q⟩)
def rListH : List V → Hp → VK → Prop := fun vs H Q => ∃ p xs, vs = [.ref p] ∧ H p = some (.lst xs) ∧ ∀ l, H l = none → Q (.ref l) (upd H l (.lst xs))
theorem call_listH : CallR X (.type "list") rListH := CallR.of call_list_of (by
  rintro vs H Q ⟨p, xs, rfl, h, q⟩
  exact ⟨p, xs, rfl, .inl (.inl (.inl h)), q⟩)
theorem ints_dp {K : PySem.W.Frag} {H : Hp} : ∀ ns : List Int, DpAll K H (ns.map V.int) (ns.map PyData.int)
  | [] => .nil
  | n :: r => .cons (.int n) (ints_dp r)
theorem ints_eqv : ∀ ns ms : List Int, PyData.eqvAll (ns.map PyData.int) (ms.map PyData.int) = decide (ns = ms)
  | [], [] => by simp [PyData.eqvAll]
  | [], _ :: _ => by simp [PyData.eqvAll]
  | _ :: _, [] => by simp [PyData.eqvAll]
  | n :: r, m :: q => by
    rw [List.map_cons, List.map_cons, PyData.eqvAll, ints_eqv r q]
    simp only [PyData.eqv, List.cons.injEq, Bool.decide_and]
    by_cases h : n = m <;> simp [h]
theorem ints_lay : ∀ ns : List Int, PyData.canLayAll0 (ns.map PyData.int) = true
  | [] => rfl
  | _ :: r => by rw [List.map_cons, PyData.canLayAll0, ints_lay r]; rfl
theorem ints_depth : ∀ ns : List Int, PyData.depthAll (ns.map PyData.int) = 0
  | [] => rfl
  | _ :: r => by rw [List.map_cons, PyData.depthAll, ints_depth r]; rfl
theorem ints_shaped (ns : List Int) : SeqAt.shaped (.list (ns.map PyData.int)) = true := by
  unfold SeqAt.shaped
  rw [PyData.canLay0, ints_lay, PyData.depth, ints_depth]
  rfl
/-- == and != of two tracked lists of ints -/
def rEqIL : R2 := fun x y H Q => ∃ a b ns ms, x = .ref a ∧ y = .ref b ∧ H a = some (.lst (List.map V.int ns)) ∧ H b = some (.lst (List.map V.int ms)) ∧ Q (.bl (decide (ns = ms))) H
theorem op_eqIL (hu : X.A.units + 64 < cLine) : OpR X (compareOp .Eq) rEqIL := OpR.of (op_eqD hu) (by
  rintro x y H Q ⟨a, b, ns, ms, rfl, rfl, ha, hb, q⟩
  refine ⟨_, _, .lst (.inl (.inl ha)) (ints_dp ns), .lst (.inl (.inl hb)) (ints_dp ms), ints_shaped ns, ints_shaped ms, ?_⟩
  rw [PyData.eqv, ints_eqv]
  exact q)
def rNeIL : R2 := fun x y H Q => ∃ a b ns ms, x = .ref a ∧ y = .ref b ∧ H a = some (.lst (List.map V.int ns)) ∧ H b = some (.lst (List.map V.int ms)) ∧ Q (.bl (!decide (ns = ms))) H
theorem op_neIL (hu : X.A.units + 64 < cLine) : OpR X (compareOp .NotEq) rNeIL := OpR.of (op_neD hu) (by
  rintro x y H Q ⟨a, b, ns, ms, rfl, rfl, ha, hb, q⟩
  refine ⟨_, _, .lst (.inl (.inl ha)) (ints_dp ns), .lst (.inl (.inl hb)) (ints_dp ms), ints_shaped ns, ints_shaped ms, ?_⟩
  rw [PyData.eqv, ints_eqv]
  exact q)
/-- == of two tracked tuples of plain things -/
def dS : V → PyData
  | .int i => .int i
  | .bl b => .bool b
  | _ => .none
def isS : V → Bool
  | .int _ => true
  | .bl _ => true
  | .non => true
  | _ => false
theorem isS_dp {K : PySem.W.Frag} {H : Hp} : ∀ xs : List V, xs.all isS = true → DpAll K H xs (xs.map dS)
  | [], _ => .nil
  | x :: r, h => by
    rw [List.all_cons, Bool.and_eq_true] at h
    refine .cons ?_ (isS_dp r h.2)
    have h1 := h.1
    cases x <;> first | exact .int _ | exact .bl _ | exact .non | cases h1
theorem isS_lay : ∀ xs : List V, PyData.canLayAll0 (xs.map dS) = true
  | [] => rfl
  | x :: r => by rw [List.map_cons, PyData.canLayAll0, isS_lay r]; cases x <;> rfl
theorem isS_depth : ∀ xs : List V, PyData.depthAll (xs.map dS) = 0
  | [] => rfl
  | x :: r => by rw [List.map_cons, PyData.depthAll, isS_depth r]; cases x <;> rfl
theorem isS_shaped (xs : List V) : SeqAt.shaped (.tuple (xs.map dS)) = true := by
  unfold SeqAt.shaped
  rw [PyData.canLay0, isS_lay, PyData.depth, isS_depth]
  rfl
def rEqTS : R2 := fun x y H Q => ∃ a b xs ys, x = .ref a ∧ y = .ref b ∧ H a = some (.tup xs) ∧ H b = some (.tup ys) ∧ xs.all isS = true ∧ ys.all isS = true ∧ Q (.bl (PyData.eqvAll (xs.map dS) (ys.map dS))) H
theorem op_eqTS (hu : X.A.units + 64 < cLine) : OpR X (compareOp .Eq) rEqTS := OpR.of (op_eqD hu) (by
  rintro x y H Q ⟨a, b, xs, ys, rfl, rfl, ha, hb, h1, h2, q⟩
  refine ⟨_, _, .tup (.inl (.inl ha)) (isS_dp xs h1), .tup (.inl (.inl hb)) (isS_dp ys h2), isS_shaped xs, isS_shaped ys, ?_⟩
  rw [PyData.eqv]
  exact q)
theorem dS_int (i : Int) : dS (.int i) = .int i := rfl
theorem dS_bl (b : Bool) : dS (.bl b) = .bool b := rfl
theorem isS_int (i : Int) : isS (.int i) = true := rfl
theorem isS_bl (b : Bool) : isS (.bl b) = true := rfl
theorem eqv_ii (i j : Int) : PyData.eqv (.int i) (.int j) = decide (i = j) := by rw [PyData.eqv]; rfl
theorem eqv_bb (i j : Bool) : PyData.eqv (.bool i) (.bool j) = decide (i = j) := by rw [PyData.eqv]; cases i <;> cases j <;> rfl
theorem eqvAll_nil : PyData.eqvAll [] [] = true := by rw [PyData.eqvAll]
theorem eqvAll_cons (x y : PyData) (xs ys : List PyData) : PyData.eqvAll (x :: xs) (y :: ys) = (PyData.eqv x y && PyData.eqvAll xs ys) := by rw [PyData.eqvAll]
theorem ip_of {op : Operator} {r : R2} (h : OpR X (inplaceOp op) r) : PIp X op r := fun pins s σ H x y v u Q I r1 r2 q => h pins s σ H x y v u Q I r1 r2 q
theorem SlR.of {r r' : V → Option Int → Option Int → Hp → VK → Prop} (h : SlR X r) (k : ∀ x lo hi H Q, r' x lo hi H Q → r x lo hi H Q) : SlR X r' := fun pins s σ H x v vl vu lo hi sl Q I rx hs pl pu q => h pins s σ H x v vl vu lo hi sl Q I rx hs pl pu (k x lo hi H Q q)
/-- a slice of a tracked list -/
def rSlH : V → Option Int → Option Int → Hp → VK → Prop := fun x lo hi H Q => ∃ a xs, x = .ref a ∧ H a = some (.lst xs) ∧ ∀ p, H p = none → Q (.ref p) (upd H p (.lst (cutV xs lo hi)))
theorem sl_listH : SlR X rSlH := SlR.of sl_list (by
  rintro x lo hi H Q ⟨a, xs, rfl, h, q⟩
  exact ⟨a, xs, rfl, .inl (.inl h), q⟩)
/-- == and != of two tracked pairs of a list of ints and an int -/
theorem li_dp {K : PySem.W.Frag} {H : Hp} {q : Addr} {l : Int} {ns : List Int} (hq : H q = some (.lst (List.map V.int ns))) : DpAll K H [.ref q, .int l] [.list (ns.map PyData.int), .int l] := .cons (.lst (.inl (.inl hq)) (ints_dp ns)) (.cons (.int l) .nil)
theorem li_shaped (ns : List Int) (l : Int) : SeqAt.shaped (.tuple [.list (ns.map PyData.int), .int l]) = true := by
  unfold SeqAt.shaped
  rw [PyData.canLay0, PyData.canLayAll0, PyData.canLay0, ints_lay, PyData.canLayAll0, PyData.depth, PyData.depthAll, PyData.depth, ints_depth, PyData.depthAll]
  rfl
theorem li_eqv (ns ms : List Int) (l m : Int) : PyData.eqv (.tuple [.list (ns.map PyData.int), .int l]) (.tuple [.list (ms.map PyData.int), .int m]) = (decide (ns = ms) && decide (l = m)) := by
  rw [PyData.eqv, PyData.eqvAll, PyData.eqvAll, PyData.eqvAll, PyData.eqv, PyData.eqv, ints_eqv, Bool.and_true]
  rfl
def rEqLI : R2 := fun x y H Q => ∃ a b q r l m ns ms, x = .ref a ∧ y = .ref b ∧ H a = some (.tup [.ref q, .int l]) ∧ H b = some (.tup [.ref r, .int m]) ∧ H q = some (.lst (List.map V.int ns)) ∧ H r = some (.lst (List.map V.int ms)) ∧ Q (.bl (decide (ns = ms) && decide (l = m))) H
theorem op_eqLI (hu : X.A.units + 64 < cLine) : OpR X (compareOp .Eq) rEqLI := OpR.of (op_eqD hu) (by
  rintro x y H Q ⟨a, b, q, r, l, m, ns, ms, rfl, rfl, ha, hb, hq, hr, k⟩
  refine ⟨_, _, .tup (.inl (.inl ha)) (li_dp hq), .tup (.inl (.inl hb)) (li_dp hr), li_shaped ns l, li_shaped ms m, ?_⟩
  rw [li_eqv]
  exact k)
def rNeLI : R2 := fun x y H Q => ∃ a b q r l m ns ms, x = .ref a ∧ y = .ref b ∧ H a = some (.tup [.ref q, .int l]) ∧ H b = some (.tup [.ref r, .int m]) ∧ H q = some (.lst (List.map V.int ns)) ∧ H r = some (.lst (List.map V.int ms)) ∧ Q (.bl (!(decide (ns = ms) && decide (l = m)))) H
theorem op_neLI (hu : X.A.units + 64 < cLine) : OpR X (compareOp .NotEq) rNeLI := OpR.of (op_neD hu) (by
  rintro x y H Q ⟨a, b, q, r, l, m, ns, ms, rfl, rfl, ha, hb, hq, hr, k⟩
  refine ⟨_, _, .tup (.inl (.inl ha)) (li_dp hq), .tup (.inl (.inl hb)) (li_dp hr), li_shaped ns l, li_shaped ms m, ?_⟩
  rw [li_eqv]
  exact k)
def rIxH : R2 := fun x y H Q => ∃ p xs i v, x = .ref p ∧ y = .int i ∧ H p = some (.lst xs) ∧ atI xs i = some v ∧ Q v H
theorem IxR.of {r r' : R2} (h : IxR X r) (k : ∀ x y H Q, r' x y H Q → r x y H Q) : IxR X r' := fun va sl pins s σ H x y v u Q I rx ry q hs => h va sl pins s σ H x y v u Q I rx ry (k x y H Q q) hs
theorem ix_listH : IxR X rIxH := IxR.of ix_list (by
  rintro x y H Q ⟨p, xs, i, v, e1, e2, h, h2, q⟩
  exact ⟨p, xs, i, v, e1, e2, .inl (.inl h), h2, q⟩)
def rIxTH : R2 := fun x y H Q => ∃ p xs i v, x = .ref p ∧ y = .int i ∧ H p = some (.tup xs) ∧ atI xs i = some v ∧ Q v H
theorem ix_tupH : IxR X rIxTH := IxR.of ix_tup (by
  rintro x y H Q ⟨p, xs, i, v, e1, e2, h, h2, q⟩
  exact ⟨p, xs, i, v, e1, e2, .inl (.inl h), h2, q⟩)
end
/-- a place in bounds -/
theorem ixN_in {n : Nat} {k : Int} (h0 : 0 ≤ k) (h1 : k < n) : ixN n k = some k.toNat := by
  unfold ixN
  rw [if_pos h0, if_pos h1]
theorem atI_in {xs : List Int} {k : Int} (h0 : 0 ≤ k) (h1 : k < xs.length) : ∃ b, xs[k.toNat]? = some b ∧ atI (xs.map V.int) k = some (.int b) := by
  have h : k.toNat < xs.length := by omega
  refine ⟨xs[k.toNat], List.getElem?_eq_getElem h, ?_⟩
  unfold atI
  rw [List.length_map, ixN_in h0 h1]
  show (xs.map V.int)[k.toNat]? = _
  rw [List.getElem?_map, List.getElem?_eq_getElem h]
  rfl
theorem mod_in (x : Int) {m : Int} (h : 0 < m) : 0 ≤ x % m ∧ x % m < m := ⟨Int.emod_nonneg x (by omega), Int.emod_lt_of_pos x h⟩
theorem atI_c0 {α : Type} (x : α) (xs : List α) : atI (x :: xs) 0 = some x := atI_nat (j := 0) rfl
theorem atI_c1 {α : Type} (x y : α) (xs : List α) : atI (x :: y :: xs) 1 = some y := atI_nat (j := 1) rfl
theorem atI_c2 {α : Type} (x y z : α) (xs : List α) : atI (x :: y :: z :: xs) 2 = some z := atI_nat (j := 2) rfl
theorem atI_c3 {α : Type} (x y z u : α) (xs : List α) : atI (x :: y :: z :: u :: xs) 3 = some u := atI_nat (j := 3) rfl

theorem tyV_upd {K : PySem.W.Frag} {H : Hp} {p : Addr} {xs : List V} : tyV K "list" (.ref p) (upd H p (.lst xs)) = True := eq_true (.inl ⟨rfl, xs, .inl (.inl upd_same)⟩)
theorem nil_sz : (0 ≤ sizeLine) = True := eq_true (Nat.zero_le _)
/-- what a for asks once its walk stands -/
def Loop (J : It) (g : TG) (tb : TS) (D : Ends) (σ : L2.St) (H1 : Hp) : Prop := ∃ W : Nat → Nat → L2.St → Hp → Prop, (∃ m, W 0 m σ H1) ∧ ∀ i m σ H, W i m σ H →
  (J.stop i H ∧ D.nx σ H) ∨ (J.go i H ∧ ∃ N : L2.St → Hp → Prop, (∀ σ' H', N σ' H' → ∃ m', m' < m ∧ W (i + 1) m' σ' H') ∧ ∀ x H', J.yld i H x H' → g x σ H' fun σ2 H2 => tb { D with nx := N, ct := N, bk := D.nx } σ2 H2)
theorem tFor_eq {wi : TI} {g : TG} {tb : TS} {D : Ends} {σ : L2.St} {H : Hp} : tFor wi g tb D σ H = wi σ H fun J H1 => Loop J g tb D σ H1 := rfl
theorem lp_range {n : Nat} {g : TG} {tb : TS} {D : Ends} {σ : L2.St} {H : Hp} (Pv : Nat → L2.St → Hp → Prop) (h0 : Pv 0 σ H)
    (hs : ∀ i σ H, i < n → Pv i σ H → g (.int i) σ H fun σ2 H2 => tb { D with nx := Pv (i + 1), ct := Pv (i + 1), bk := D.nx } σ2 H2) (hd : ∀ σ H, Pv n σ H → D.nx σ H) : Loop (Itr 0 n) g tb D σ H :=
  for_range (lo := 0) Pv h0 (fun i σ H a b => by have := hs i σ H a b; rw [Int.zero_add]; exact this) hd
theorem lp_list {K : PySem.W.Frag} {a : Addr} {xs : List V} {g : TG} {tb : TS} {D : Ends} {σ : L2.St} {H : Hp} (Pv : Nat → L2.St → Hp → Prop) (h0 : Pv 0 σ H) (hl : ∀ i σ H, i ≤ xs.length → Pv i σ H → SqL K H a xs)
    (hs : ∀ i x σ H, xs[i]? = some x → Pv i σ H → g x σ H fun σ2 H2 => tb { D with nx := Pv (i + 1), ct := Pv (i + 1), bk := D.nx } σ2 H2) (hd : ∀ σ H, Pv xs.length σ H → D.nx σ H) : Loop (Itl K a) g tb D σ H := for_list Pv h0 hl hs hd
/-- the same for a comprehension -/
def LcLoop (J : It) (g : TG) (tt : TT) (te : TE) (vs : List Nat) (σ : L2.St) (H1 : Hp) (Q : VK) : Prop := ∀ D, H1 D = none → ∃ W : Nat → Nat → Hp → Prop, (∃ m, W 0 m (upd H1 D (.lst []))) ∧ ∀ i m H, W i m H →
  (J.stop i H ∧ Q (.ref D) H) ∨ (J.go i H ∧ ∃ Nx : Hp → Prop, (∀ H', Nx H' → ∃ m', m' < m ∧ W (i + 1) m' H') ∧ ∀ x H', J.yld i H x H' → g x (wipe σ vs) H' fun σ2 H2 => wipe σ2 vs = wipe σ vs ∧ tt σ2 H2 fun b H3 =>
    if b = true then te σ2 H3 fun y H4 => ∃ acc, H4 D = some (.lst acc) ∧ acc.length < sizeLine ∧ Nx (upd H4 D (.lst (acc ++ [y]))) else Nx H3)
theorem tLc_eq {wi : TI} {g : TG} {tt : TT} {te : TE} {vs : List Nat} {σ : L2.St} {H : Hp} {Q : VK} : tLc wi g tt te vs σ H Q = wi σ H fun J H1 => LcLoop J g tt te vs σ H1 Q := rfl
/-- a comprehension over a list, whose elements leave the heap as it is: L i is what i turns have made -/
theorem lc_pure {K : PySem.W.Frag} {a : Addr} {xs : List V} {g : TG} {tt : TT} {te : TE} {vs : List Nat} {σ : L2.St} {H1 : Hp} {Q : VK} (L : Nat → List V) (hS : SqL K H1 a xs) (h0 : L 0 = [])
    (hs : ∀ i x D, xs[i]? = some x → H1 D = none → g x (wipe σ vs) (upd H1 D (.lst (L i))) fun σ2 H2 => wipe σ2 vs = wipe σ vs ∧ tt σ2 H2 fun b H3 =>
      if b = true then te σ2 H3 fun y H4 => ∃ acc, H4 D = some (.lst acc) ∧ acc.length < sizeLine ∧ upd H4 D (.lst (acc ++ [y])) = upd H1 D (.lst (L (i + 1))) else H3 = upd H1 D (.lst (L (i + 1))))
    (hd : ∀ D, H1 D = none → Q (.ref D) (upd H1 D (.lst (L xs.length)))) : LcLoop (Itl K a) g tt te vs σ H1 Q := by
  intro D hD
  refine lc_list (K := K) (a := a) (xs := xs) (fun i H => H = upd H1 D (.lst (L i))) (by rw [h0]) (fun i H _ e => ?_) (fun i x H hx e => ?_) (fun H e => ?_)
  · subst e
    exact (show Same H1 _ from fun b o e => by rw [upd_ne (ne_of_none e hD)]; exact e).seq hS
  · subst e
    exact hs i x D hx hD
  · subst e
    exact hd D hD
theorem lc_pure_range {n : Nat} {g : TG} {tt : TT} {te : TE} {vs : List Nat} {σ : L2.St} {H1 : Hp} {Q : VK} (L : Nat → List V) (h0 : L 0 = [])
    (hs : ∀ i D, i < n → H1 D = none → g (.int i) (wipe σ vs) (upd H1 D (.lst (L i))) fun σ2 H2 => wipe σ2 vs = wipe σ vs ∧ tt σ2 H2 fun b H3 =>
      if b = true then te σ2 H3 fun y H4 => ∃ acc, H4 D = some (.lst acc) ∧ acc.length < sizeLine ∧ upd H4 D (.lst (acc ++ [y])) = upd H1 D (.lst (L (i + 1))) else H3 = upd H1 D (.lst (L (i + 1))))
    (hd : ∀ D, H1 D = none → Q (.ref D) (upd H1 D (.lst (L n)))) : LcLoop (Itr 0 n) g tt te vs σ H1 Q := by
  intro D hD
  refine lc_range (lo := 0) (n := n) (fun i H => H = upd H1 D (.lst (L i))) (by rw [h0]) (fun i H hi e => ?_) (fun H e => ?_)
  · subst e
    rw [Int.zero_add]
    exact hs i D hi hD
  · subst e
    exact hd D hD
theorem lp_zip {K : PySem.W.Frag} {a b : Addr} {xs ys : List V} {g : TG} {tb : TS} {D : Ends} {σ : L2.St} {H : Hp} (hl : xs.length = ys.length) (Pv : Nat → L2.St → Hp → Prop) (h0 : Pv 0 σ H) (hq : ∀ i σ H, Pv i σ H → SqL K H a xs ∧ SqL K H b ys)
    (hs : ∀ (i : Nat) (x y : V) (T : Addr) (σ : L2.St) (H : Hp), xs[i]? = some x → ys[i]? = some y → Pv i σ H → H T = none → g (.ref T) σ (upd H T (.tup [x, y])) fun σ2 H2 => tb { D with nx := Pv (i + 1), ct := Pv (i + 1), bk := D.nx } σ2 H2) (hd : ∀ σ H, Pv xs.length σ H → D.nx σ H) :
    Loop (Itz K a b) g tb D σ H := RZ.for_zipL hl Pv h0 hq hs hd
theorem lc_str {x : Str} {g : TG} {tt : TT} {te : TE} {vs : List Nat} {σ : L2.St} {H1 : Hp} {Q : VK} (L : Nat → List V) (h0 : L 0 = [])
    (hs : ∀ i c D, x.cps[i]? = some c → H1 D = none → g (.str ⟨#[c]⟩) (wipe σ vs) (upd H1 D (.lst (L i))) fun σ2 H2 => wipe σ2 vs = wipe σ vs ∧ tt σ2 H2 fun b H3 =>
      if b = true then te σ2 H3 fun y H4 => ∃ acc, H4 D = some (.lst acc) ∧ acc.length < sizeLine ∧ upd H4 D (.lst (acc ++ [y])) = upd H1 D (.lst (L (i + 1))) else H3 = upd H1 D (.lst (L (i + 1))))
    (hd : ∀ D, H1 D = none → Q (.ref D) (upd H1 D (.lst (L x.cps.size)))) : LcLoop (Its x) g tt te vs σ H1 Q := by
  intro D hD
  refine ⟨fun i m H => m = x.cps.size - i ∧ i ≤ x.cps.size ∧ H = upd H1 D (.lst (L i)), ⟨x.cps.size, by simp, Nat.zero_le _, by rw [h0]⟩, ?_⟩
  rintro i m H ⟨rfl, hi, rfl⟩
  by_cases hlt : i < x.cps.size
  · refine .inr ⟨hlt, fun H' => H' = upd H1 D (.lst (L (i + 1))), fun H' p' => ⟨x.cps.size - (i + 1), by omega, rfl, hlt, p'⟩, fun v H' y => ?_⟩
    obtain ⟨e, c, hc, ev⟩ := y
    subst e ev
    exact hs i c D hc hD
  · have e : i = x.cps.size := by omega
    subst e
    exact .inl ⟨Nat.le_refl _, hd D hD⟩
theorem lc_rangeC {lo c : Int} {n : Nat} {g : TG} {tt : TT} {te : TE} {vs : List Nat} {σ : L2.St} {H1 : Hp} {Q : VK} (L : Nat → List V) (h0 : L 0 = [])
    (hs : ∀ i D, i < n → H1 D = none → g (.int (lo + (i : Nat) * c)) (wipe σ vs) (upd H1 D (.lst (L i))) fun σ2 H2 => wipe σ2 vs = wipe σ vs ∧ tt σ2 H2 fun b H3 =>
      if b = true then te σ2 H3 fun y H4 => ∃ acc, H4 D = some (.lst acc) ∧ acc.length < sizeLine ∧ upd H4 D (.lst (acc ++ [y])) = upd H1 D (.lst (L (i + 1))) else H3 = upd H1 D (.lst (L (i + 1))))
    (hd : ∀ D, H1 D = none → Q (.ref D) (upd H1 D (.lst (L n)))) : LcLoop (Itc lo c n) g tt te vs σ H1 Q := by
  intro D hD
  refine ⟨fun i m H => m = n - i ∧ i ≤ n ∧ H = upd H1 D (.lst (L i)), ⟨n, by simp, Nat.zero_le _, by rw [h0]⟩, ?_⟩
  rintro i m H ⟨rfl, hi, rfl⟩
  by_cases hlt : i < n
  · refine .inr ⟨hlt, fun H' => H' = upd H1 D (.lst (L (i + 1))), fun H' p' => ⟨n - (i + 1), by omega, rfl, hlt, p'⟩, fun v H' y => ?_⟩
    obtain ⟨e, ev⟩ := y
    subst e ev
    exact hs i D hlt hD
  · have e : i = n := by omega
    subst e
    exact .inl ⟨Nat.le_refl _, hd D hD⟩
theorem small_two {a b : Int} (ha : -(2 ^ 62) ≤ a) (ha' : a < 2 ^ 62) (hb : -(2 ^ 62) ≤ b) (hb' : b < 2 ^ 62) : Builtin.Range.small a b 2 = true := by
  unfold Builtin.Range.small Builtin.Range.rangeSize
  simp only [Builtin.Range.rangeFitsLong, Bool.and_eq_true, Bool.or_eq_true, decide_eq_true_eq, beq_iff_eq, show ((2 : Int) > 0) by decide, if_true]
  split <;> omega
theorem rg_two {n : Nat} (h : n < 1000000) : RgC 0 ((n : Int) - 1) 2 (n / 2) := by
  refine ⟨by decide, by decide, small_two (by decide) (by decide) (by omega) (by omega), ?_⟩
  unfold Builtin.Range.rangeSize
  rw [if_pos (by decide)]
  split <;> omega
theorem wh_by {c : TT} {tb : TS} {D : Ends} {σ : L2.St} {H : Hp} (W : Nat → L2.St → Hp → Prop) (m : Nat) (h0 : W m σ H)
    (hs : ∀ m σ H, W m σ H → c σ H fun b H1 => if b = true then ∃ N : L2.St → Hp → Prop, (∀ σ' H', N σ' H' → ∃ m', m' < m ∧ W m' σ' H') ∧ tb { D with nx := N, ct := N, bk := D.nx } σ H1 else D.nx σ H1) : tWhile c tb D σ H := ⟨W, ⟨m, h0⟩, hs⟩
theorem lc_rng {n : Nat} {g : TG} {tt : TT} {te : TE} {vs : List Nat} {σ : L2.St} {H1 : Hp} {Q : VK} (Pv : Addr → Nat → Hp → Prop) (h0 : ∀ D, H1 D = none → Pv D 0 (upd H1 D (.lst [])))
    (hs : ∀ D i H, i < n → H1 D = none → Pv D i H → g (.int i) (wipe σ vs) H fun σ2 H2 => wipe σ2 vs = wipe σ vs ∧ tt σ2 H2 fun b H3 =>
      if b = true then te σ2 H3 fun y H4 => ∃ acc, H4 D = some (.lst acc) ∧ acc.length < sizeLine ∧ Pv D (i + 1) (upd H4 D (.lst (acc ++ [y]))) else Pv D (i + 1) H3)
    (hd : ∀ D H, H1 D = none → Pv D n H → Q (.ref D) H) : LcLoop (Itr 0 n) g tt te vs σ H1 Q := by
  intro D hD
  refine lc_range (lo := 0) (n := n) (Pv D) (h0 D hD) (fun i H hi p => ?_) (fun H p => hd D H hD p)
  rw [Int.zero_add]
  exact hs D i H hi hD p
theorem same_upd {H : Hp} {p : Addr} {o : HO} (h : H p = none) : Same H (upd H p o) := fun b x e => by
  rw [upd_ne (ne_of_none e h)]
  exact e
theorem same_upd2 {H H' : Hp} {q : Addr} {o : HO} (s : Same H H') (h : H q = none) : Same H (upd H' q o) := fun b x e => by
  rw [upd_ne (ne_of_none e h)]
  exact s b x e

/-! ### fresh objects: the heap behind one as a heap of its own -/
def NewH (H : Hp) (o : HO) (k : Addr → Hp → Prop) : Prop := ∀ p H', Same H H' → H p = none → H' p = some o → k p H'
theorem NewH.go {H : Hp} {o : HO} {k : Addr → Hp → Prop} (h : NewH H o k) : ∀ p, H p = none → k p (upd H p o) := fun p hp => h p _ (same_upd hp) hp upd_same
section
variable {X : Cx} {es : List Expr} {t : TA} {pos : Pos}
theorem pa_mono (h : PA X es t) : PA X es (fun σ H Q => ∃ Q', t σ H Q' ∧ ∀ xs H1, Q' xs H1 → Q xs H1) := ⟨fun pos pins s σ H Q I ⟨_, q, k⟩ => thn (h.run pos pins s σ H _ I q) fun _ _ ⟨vs, H', I', r, q'⟩ => ⟨vs, H', I', r, k _ _ q'⟩⟩
theorem PE.of {e : Expr} {t t' : TE} (h : PE X e t) (k : ∀ σ H Q, t' σ H Q → t σ H Q) : PE X e t' := ⟨fun pins s σ H Q I q => h.run pins s σ H Q I (k _ _ _ q)⟩
def tTupS (t : TA) : TE := fun σ H Q => t σ H fun xs H1 => xs.length ≤ sizeLine ∧ NewH H1 (.tup xs) fun p H' => Q (.ref p) H'
def tLstS (t : TA) : TE := fun σ H Q => t σ H fun xs H1 => xs.length ≤ sizeLine ∧ NewH H1 (.lst xs) fun p H' => Q (.ref p) H'
theorem pe_tupS {x1} (h : PA X es t) : PE X (.Tuple es x1 pos) (tTupS t) := PE.of (pe_tup (pa_mono h)) fun σ H Q q => ⟨_, q, fun _ _ z => ⟨z.1, z.2.go⟩⟩
theorem pe_lstS (h : PA X es t) : PE X (.List es pos) (tLstS t) := PE.of (pe_lst (pa_mono h)) fun σ H Q q => ⟨_, q, fun _ _ z => ⟨z.1, z.2.go⟩⟩
def rListS : List V → Hp → VK → Prop := fun vs H Q => ∃ p xs, vs = [.ref p] ∧ H p = some (.lst xs) ∧ NewH H (.lst xs) fun l H' => Q (.ref l) H'
theorem call_listS : CallR X (.type "list") rListS := CallR.of call_listH fun vs H Q ⟨p, xs, e, h, q⟩ => ⟨p, xs, e, h, q.go⟩
/-- list(t) of a tuple -/
def rListT : List V → Hp → VK → Prop := fun vs H Q => ∃ p xs, vs = [.ref p] ∧ H p = some (.tup xs) ∧ NewH H (.lst xs) fun l H' => Q (.ref l) H'
theorem call_listT : CallR X (.type "list") rListT := CallR.of call_list_of fun vs H Q ⟨p, xs, e, h, q⟩ => ⟨p, xs, e, .inr (.inl (.inl h)), q.go⟩
/-- tuple(xs) of a tracked list -/
def rTupleL : List V → Hp → VK → Prop := fun vs H Q => ∃ p xs, vs = [.ref p] ∧ H p = some (.lst xs) ∧ NewH H (.tup xs) fun l H' => Q (.ref l) H'
theorem call_tupleL : CallR X (.type "tuple") rTupleL := CallR.of call_tuple_of fun vs H Q ⟨p, xs, e, h, q⟩ => ⟨p, xs, e, .inl ⟨.inl (.inl h), q.go⟩⟩
def rCatL : R2 := fun x y H Q => ∃ l b xs zs, x = .ref l ∧ y = .ref b ∧ H l = some (.lst xs) ∧ H b = some (.lst zs) ∧ xs.length + zs.length ≤ sizeLine ∧ NewH H (.lst (xs ++ zs)) fun p H' => Q (.ref p) H'
theorem op_catS : OpR X (binaryOp .Add) rCatL := OpR.of op_cat fun x y H Q ⟨l, b, xs, zs, e1, e2, h1, h2, z, q⟩ => ⟨l, b, xs, zs, e1, e2, h1, h2, z, q.go⟩
/-- [x] * n -/
def rRepS : R2 := fun x y H Q => ∃ l k v, x = .ref l ∧ y = .int k ∧ H l = some (.lst [v]) ∧ k ≤ 16777216 ∧ -(2 ^ 62) ≤ k ∧ NewH H (.lst (List.replicate k.toNat v)) fun p H' => Q (.ref p) H'
theorem rep_flat {α : Type} (n : Nat) (y : α) : (List.replicate n [y]).flatten = List.replicate n y := by
  induction n with
  | zero => rfl
  | succ n ih => rw [List.replicate_succ, List.flatten_cons, ih, List.replicate_succ]; rfl
theorem op_repS : OpR X (binaryOp .Mult) rRepS := OpR.of op_rep fun x y H Q ⟨l, k, v, e1, e2, h1, z1, z2, q⟩ => ⟨l, k, [v], e1, e2, h1, by omega, by omega, by
    rw [List.length_singleton, show sizeLine = 16777216 from rfl]; omega, by rw [rep_flat]; exact q.go⟩
def rSlS : V → Option Int → Option Int → Hp → VK → Prop := fun x lo hi H Q => ∃ a xs, x = .ref a ∧ H a = some (.lst xs) ∧ NewH H (.lst (cutV xs lo hi)) fun p H' => Q (.ref p) H'
theorem sl_listS : SlR X rSlS := SlR.of sl_listH fun x lo hi H Q ⟨a, xs, e, h, q⟩ => ⟨a, xs, e, h, q.go⟩
theorem pe_mono {e : Expr} {t : TE} (h : PE X e t) : PE X e (fun σ H Q => ∃ Q', t σ H Q' ∧ ∀ v H1, Q' v H1 → Q v H1) := ⟨fun pins s σ H Q I ⟨_, q, k⟩ => thn (h.run pins s σ H _ I q) fun _ _ ⟨v, H', I', r, q'⟩ => ⟨v, H', I', r, k _ _ q'⟩⟩
theorem PG.of {e : Expr} {t t' : TG} (h : PG X e t) (k : ∀ v σ H Q, t' v σ H Q → t v σ H Q) : PG X e t' := ⟨fun pins s σ H v u Q I r q => h.run pins s σ H v u Q I r (k _ _ _ _ q)⟩
theorem PI.of {tg e : Expr} {t t' : TI} (h : PI X tg e t) (k : ∀ σ H R, t' σ H R → t σ H R) : PI X tg e t' := ⟨fun pins s σ H R I q => h.run pins s σ H R I (k _ _ _ q)⟩
def gTupS (n : Nat) (t : TGs) : TG := fun v σ H Q => ∃ a xs, v = .ref a ∧ H a = some (.tup xs) ∧ xs.length = n ∧ t xs σ H Q
theorem pg_tupS {k : Nat} {t : TGs} {n : Nat} (hc : X.calm = true) (h : PGs X es t) (hn : (assignEach es X.env).length = n := by rfl) (hst : (assignEach es X.env).findIdx? (·.1) = none := by rfl) : PG X (.Tuple es k pos) (gTupS n t) :=
  PG.of (pg_tup hc h hn hst) fun v σ H Q ⟨a, xs, e, g, l, q⟩ => ⟨a, xs, e, .inl (.inl g), l, q⟩
def gLstS (n : Nat) (t : TGs) : TG := fun v σ H Q => ∃ a xs, v = .ref a ∧ H a = some (.lst xs) ∧ xs.length = n ∧ t xs σ H Q
theorem pg_lstS {k : Nat} {t : TGs} {n : Nat} (hc : X.calm = true) (h : PGs X es t) (hn : (assignEach es X.env).length = n := by rfl) (hst : (assignEach es X.env).findIdx? (·.1) = none := by rfl) : PG X (.Tuple es k pos) (gLstS n t) :=
  PG.of (pg_lst hc h hn hst) fun v σ H Q ⟨a, xs, e, g, l, q⟩ => ⟨a, xs, e, .inl (.inl g), l, q⟩
def iListS (K : PySem.W.Frag) (tl : TE) : TI := fun σ H R => tl σ H fun x H1 => ∃ a xs, x = .ref a ∧ H1 a = some (.lst xs) ∧ R (Itl K a) H1
theorem pi_listS {tg l : Expr} {tl : TE} (hl : PE X l tl) : PI X tg l (iListS X.K tl) := PI.of (pi_list (pe_mono hl)) fun σ H R q => ⟨_, q, fun _ _ ⟨a, xs, e, g, r⟩ => ⟨a, e, ⟨xs, .inl (.inl g)⟩, r⟩⟩
def iTupS (K : PySem.W.Frag) (tl : TE) : TI := fun σ H R => tl σ H fun x H1 => ∃ a xs, x = .ref a ∧ H1 a = some (.tup xs) ∧ R (Itt K a) H1
theorem pi_tupS {tg l : Expr} {tl : TE} (hl : PE X l tl) : PI X tg l (iTupS X.K tl) := PI.of (pi_tup (pe_mono hl)) fun σ H R q => ⟨_, q, fun _ _ ⟨a, xs, e, g, r⟩ => ⟨a, e, ⟨xs, .inl (.inl g)⟩, r⟩⟩
def tML (r : V → List V → Hp → VK → Prop) (to : TE) (t : TA) : TE := fun σ H Q => to σ H fun x H1 => ∃ p xs, x = .ref p ∧ H1 p = some (.lst xs) ∧ t σ H1 fun ys H2 => r x ys H2 Q
theorem pe_ml {to : TE} {t : TA} {e : PySem.Expr} {K : PySem.W.Frag} {r : V → List V → Hp → VK → Prop} (h : PE X e (tBM K "list" r (fun σ H Q => ∃ Q', to σ H Q' ∧ ∀ v H1, Q' v H1 → Q v H1) t)) : PE X e (tML r to t) :=
  PE.of h fun σ H Q q => ⟨_, q, fun v H1 ⟨p, xs, e, g, z⟩ => ⟨by rw [e]; exact .inl ⟨rfl, xs, .inl (.inl g)⟩, z⟩⟩
def tML0 (r : V → List V → Hp → VK → Prop) (to : TE) : TE := fun σ H Q => to σ H fun x H1 => ∃ p xs, x = .ref p ∧ H1 p = some (.lst xs) ∧ r x [] H1 Q
theorem pe_ml0 {to : TE} {e : PySem.Expr} {K : PySem.W.Frag} {r : V → List V → Hp → VK → Prop} (h : PE X e (tBM0 K "list" r (fun σ H Q => ∃ Q', to σ H Q' ∧ ∀ v H1, Q' v H1 → Q v H1))) : PE X e (tML0 r to) :=
  PE.of h fun σ H Q q => ⟨_, q, fun v H1 ⟨p, xs, e, g, z⟩ => ⟨by rw [e]; exact .inl ⟨rfl, xs, .inl (.inl g)⟩, z⟩⟩
end
/-- loops and comprehensions over any walk -/
theorem lpW {J : It} {n : Nat} {G : Hp → Prop} {Y : Nat → Hp → V → Hp → Prop} (w : Walk J n G Y) {g : TG} {tb : TS} {D : Ends} {σ : L2.St} {H : Hp} (Pv : Nat → L2.St → Hp → Prop) (h0 : Pv 0 σ H) (hG : ∀ i σ H, i ≤ n → Pv i σ H → G H)
    (hs : ∀ i x σ H H', i < n → Pv i σ H → Y i H x H' → g x σ H' fun σ2 H2 => tb { D with nx := Pv (i + 1), ct := Pv (i + 1), bk := D.nx } σ2 H2) (hd : ∀ σ H, Pv n σ H → D.nx σ H) : Loop J g tb D σ H := for_it w Pv h0 hG hs hd
theorem lcW {J : It} {n : Nat} {G : Hp → Prop} {Y : Nat → Hp → V → Hp → Prop} (w : Walk J n G Y) {g : TG} {tt : TT} {te : TE} {vs : List Nat} {σ : L2.St} {H1 : Hp} {Q : VK} (Pv : Addr → Nat → Hp → Prop) (h0 : ∀ D H, Same H1 H → H1 D = none → H D = some (.lst []) → Pv D 0 H)
    (hG : ∀ D i H, H1 D = none → i ≤ n → Pv D i H → G H) (hs : ∀ D i x H H', i < n → H1 D = none → Pv D i H → Y i H x H' → g x (wipe σ vs) H' fun σ2 H2 => wipe σ2 vs = wipe σ vs ∧ tt σ2 H2 fun b H3 =>
      if b = true then te σ2 H3 fun y H4 => ∃ acc, H4 D = some (.lst acc) ∧ acc.length < sizeLine ∧ Pv D (i + 1) (upd H4 D (.lst (acc ++ [y]))) else Pv D (i + 1) H3)
    (hd : ∀ D H, H1 D = none → Pv D n H → Q (.ref D) H) : LcLoop J g tt te vs σ H1 Q :=
  fun D hD => lc_it w (Pv D) (h0 D _ (same_upd hD) hD upd_same) (fun i H hi p => hG D i H hD hi p) (fun i x H H' hi p y => hs D i x H H' hi hD p y) fun H p => hd D H hD p
theorem lcL {J : It} {n : Nat} {G : Hp → Prop} {Y : Nat → Hp → V → Hp → Prop} (w : Walk J n G Y) {g : TG} {tt : TT} {te : TE} {vs : List Nat} {σ : L2.St} {H1 : Hp} {Q : VK} (L : Nat → List V) (hz : L 0 = []) (hG : ∀ H, Same H1 H → G H)
    (hs : ∀ D i x H H', i < n → H1 D = none → Same H1 H → H D = some (.lst (L i)) → Y i H x H' → g x (wipe σ vs) H' fun σ2 H2 => wipe σ2 vs = wipe σ vs ∧ tt σ2 H2 fun b H3 =>
      if b = true then te σ2 H3 fun y H4 => ∃ acc, H4 D = some (.lst acc) ∧ acc.length < sizeLine ∧ Same H1 (upd H4 D (.lst (acc ++ [y]))) ∧ upd H4 D (.lst (acc ++ [y])) D = some (.lst (L (i + 1))) else Same H1 H3 ∧ H3 D = some (.lst (L (i + 1))))
    (hd : ∀ D H, Same H1 H → H1 D = none → H D = some (.lst (L n)) → Q (.ref D) H) : LcLoop J g tt te vs σ H1 Q :=
  lcW w (fun D i H => Same H1 H ∧ H D = some (.lst (L i))) (fun D H s _ g => ⟨s, by rw [g, hz]⟩) (fun _ _ H _ _ p => hG H p.1) (fun D i x H H' hi hD p y => hs D i x H H' hi hD p.1 p.2 y) fun D H hD p => hd D H p.1 hD p.2
theorem walkR {n : Nat} : Walk (Itr 0 n) n (fun _ => True) (YFn fun i => .int (i : Int)) := walk_range.mono (fun _ h => h) fun i H x H' _ _ y => ⟨y.1, by rw [y.2]; show V.int (0 + (i : Int)) = V.int (i : Int); rw [Int.zero_add]⟩
theorem walkL {K : PySem.W.Frag} {a : Addr} {xs : List V} : Walk (Itl K a) xs.length (fun H => H a = some (.lst xs)) (YAt xs) := (walk_list (K := K) (a := a) (xs := xs)).mono (fun _ h => .inl (.inl h)) fun _ _ _ _ _ _ y => y
theorem walkT {K : PySem.W.Frag} {a : Addr} {xs : List V} : Walk (Itt K a) xs.length (fun H => H a = some (.tup xs)) (YAt xs) := (walk_tup (K := K) (a := a) (xs := xs)).mono (fun _ h => .inl (.inl h)) fun _ _ _ _ _ _ y => y
/-- a list of ints is walked -/
def YInt (ns : List Int) : Nat → Hp → V → Hp → Prop := fun i H v H' => H' = H ∧ ∃ b, ns[i]? = some b ∧ v = .int b
theorem walkI {K : PySem.W.Frag} {a : Addr} {ns : List Int} : Walk (Itl K a) ns.length (fun H => H a = some (.lst (List.map V.int ns))) (YInt ns) := by
  have w := walkL (K := K) (a := a) (xs := List.map V.int ns)
  rw [List.length_map] at w
  refine w.mono (fun _ h => h) fun i H x H' _ _ y => ⟨y.1, ?_⟩
  have h := y.2
  rw [List.getElem?_map] at h
  obtain ⟨b, h1, rfl⟩ := Option.map_eq_some_iff.mp h
  exact ⟨b, h1, rfl⟩
theorem sqL_eq {K : PySem.W.Frag} {H : Hp} {a : Addr} {xs : List V} (h : H a = some (.lst xs)) : (∃ xs, SqL K H a xs) = True := eq_true ⟨_, .inl (.inl h)⟩
theorem sqT_eq {K : PySem.W.Frag} {H : Hp} {a : Addr} {xs : List V} (h : H a = some (.tup xs)) : (∃ xs, SqT K H a xs) = True := eq_true ⟨_, .inl (.inl h)⟩
theorem tyL_eq {K : PySem.W.Frag} {H : Hp} {p : Addr} {xs : List V} (h : H p = some (.lst xs)) : tyV K "list" (.ref p) H = True := eq_true (.inl ⟨rfl, xs, .inl (.inl h)⟩)
theorem Same.c2 {H H' : Hp} {a b : Addr} {x y : HO} (s : Same H H') (ga : H a = some x) (gb : H b = some y) : H' a = some x ∧ H' b = some y := ⟨s _ _ ga, s _ _ gb⟩
theorem map_int_inj {xs ys : List Int} : (List.map V.int xs = List.map V.int ys) = (xs = ys) := by
  refine propext ⟨fun h => ?_, fun h => by rw [h]⟩
  induction xs generalizing ys with
  | nil => cases ys with
    | nil => rfl
    | cons y q => cases h
  | cons x r ih => cases ys with
    | nil => cases h
    | cons y q =>
      rw [List.map_cons, List.map_cons, List.cons.injEq, V.int.injEq] at h
      rw [h.1, ih h.2]
theorem sz1 : (1 ≤ sizeLine) = True := eq_true (by decide)
theorem sz2 : (2 ≤ sizeLine) = True := eq_true (by decide)
theorem sz3 : (3 ≤ sizeLine) = True := eq_true (by decide)
theorem sz4 : (4 ≤ sizeLine) = True := eq_true (by decide)
theorem sz5 : (5 ≤ sizeLine) = True := eq_true (by decide)
theorem sz6 : (6 ≤ sizeLine) = True := eq_true (by decide)
theorem sz8 : (8 ≤ sizeLine) = True := eq_true (by decide)
/-- an item of a list of ints -/
def gN (ns : List Int) (i : Nat) : Int := ns.getD i 0
theorem at_g {ns : List Int} {i : Nat} (h : i < ns.length) : atI (ns.map V.int) (i : Int) = some (V.int (gN ns i)) := by
  refine atI_nat ?_
  rw [List.getElem?_map, List.getElem?_eq_getElem h]
  simp [gN, h]
theorem at_g' {ns : List Int} {k : Int} {i : Nat} (e : k = (i : Int)) (h : i < ns.length) : atI (ns.map V.int) k = some (V.int (gN ns i)) := by
  rw [e]
  exact at_g h
theorem iteT' {c : Bool} {a b : Prop} (h : c = true) (x : a) : if c = true then a else b := by rw [if_pos h]; exact x
theorem iteF' {c : Bool} {a b : Prop} (h : c = false) (x : b) : if c = true then a else b := by rw [if_neg (by rw [h]; decide)]; exact x
theorem iteB {c : Bool} {p : Prop} [Decidable p] {a b : Prop} (h : c = decide p) (x : p → a) (y : ¬ p → b) : if c = true then a else b := by
  subst h
  exact ite2 (fun e => x (of_decide_eq_true e)) fun e => y fun z => e (decide_eq_true z)
theorem iteD {p : Prop} [Decidable p] {a b : Prop} (x : p → a) (y : ¬ p → b) : if decide p = true then a else b := iteB rfl x y
def mx (x y : Int) : Int := if x < y then y else x
def mn (x y : Int) : Int := if y < x then y else x
theorem mx_eq (x y : Int) : (if x < y then y else x) = mx x y := rfl
theorem mn_eq (x y : Int) : (if y < x then y else x) = mn x y := rfl
theorem mx_le {x y z : Int} : mx x y ≤ z ↔ x ≤ z ∧ y ≤ z := by
  unfold mx
  split <;> omega
theorem lt_mn {x y z : Int} : z < mn x y ↔ z < x ∧ z < y := by
  unfold mn
  split <;> omega
theorem toNat_mul (m n : Nat) : ((m : Int) * (n : Int)).toNat = m * n := by rw [← Int.natCast_mul, Int.toNat_natCast]
theorem atI_lit {xs : List V} {k : Int} (h0 : 0 ≤ k) (h1 : k < xs.length) : ∃ v, atI xs k = some v ∧ v ∈ xs := by
  have h : k.toNat < xs.length := by omega
  refine ⟨xs[k.toNat], ?_, List.getElem_mem h⟩
  unfold atI
  rw [ixN_in h0 h1]
  exact List.getElem?_eq_getElem h
theorem atI_lits {xs : List Int} {k : Int} (h0 : 0 ≤ k) (h1 : k < xs.length) : ∃ v, atI (List.map V.int xs) k = some (.int v) ∧ v ∈ xs := by
  obtain ⟨v, h, hm⟩ := atI_lit (xs := List.map V.int xs) h0 (by rw [List.length_map]; exact h1)
  obtain ⟨i, hi, rfl⟩ := List.mem_map.mp hm
  exact ⟨i, h, hi⟩
theorem natOf {x : Int} (h : 0 ≤ x) : ∃ n : Nat, x = (n : Int) := ⟨x.toNat, by omega⟩
theorem map_cat (xs ys : List Int) : List.map V.int xs ++ List.map V.int ys = List.map V.int (xs ++ ys) := by rw [List.map_append]
theorem map_snoc (xs : List Int) (v : Int) : List.map V.int xs ++ [V.int v] = List.map V.int (xs ++ [v]) := by rw [List.map_append]; rfl
theorem map_setV (l : List Int) (i : Nat) (v : Int) : (List.map V.int l).set i (.int v) = List.map V.int (l.set i v) := by rw [List.map_set]
/-- all but one object stand as they stood -/
def But (a : Addr) (H H' : Hp) : Prop := ∀ b o, b ≠ a → H b = some o → H' b = some o
theorem But.refl (a : Addr) (H : Hp) : But a H H := fun _ _ _ h => h
theorem But.ofSame {a : Addr} {H H' : Hp} (s : Same H H') : But a H H' := fun b o _ h => s b o h
theorem But.trans {a : Addr} {H H1 H2 : Hp} (x : But a H H1) (y : But a H1 H2) : But a H H2 := fun b o n h => y b o n (x b o n h)
theorem But.put {a : Addr} {H H' : Hp} {o : HO} (x : But a H H') : But a H (upd H' a o) := fun b o' n h => by rw [upd_ne n]; exact x b o' n h
theorem But.same {a : Addr} {H H1 H' : Hp} (s : Same H H1) (x : But a H1 H') (h : H a = none) : Same H H' := fun b o e => x b o (ne_of_none e h) (s b o e)
/-- the cell k of the script -/
def cellA (ns : List Int) (k : Nat) : Int := ns.getD k 0
def absI (c : Int) : Int := if c < 0 then -c else c
theorem absI_eq (c : Int) : (if c < 0 then -c else c) = absI c := rfl
theorem absI_nn (c : Int) : 0 ≤ absI c := by
  unfold absI
  split <;> omega
section
variable {X : Cx}
/-- xs[i] op= e reads the item first -/
def rGetL : V → V → Hp → VK → Prop := fun x y H Q => ∃ p xs i v, x = .ref p ∧ y = .int i ∧ H p = some (.lst xs) ∧ 0 ≤ i ∧ i < 2 ^ 62 ∧ xs[i.toNat]? = some v ∧ Q v H
theorem pget_list : PGet X rGetL := by
  intro pins s σ H x y v u Q I rx ry h
  obtain ⟨p, xs, i, z, rfl, rfl, hp, h0, h1, he, q⟩ := h
  cases rx
  obtain ⟨t, rfl⟩ := ry
  obtain ⟨its, r, pl, _⟩ := I.list (.inl (.inl hp))
  obtain ⟨w, ew, rw'⟩ := r.get he
  exact getItem_listL pl.isList h0 (by omega) ew ⟨z, H, I, rw', q⟩
def iZipS (K : PySem.W.Frag) (ta : TA) : TI := fun σ H R => ta σ H fun vs H1 => ∃ a b xs ys, vs = [.ref a, .ref b] ∧ H1 a = some (.lst xs) ∧ H1 b = some (.lst ys) ∧ R (Itz K a b) H1
theorem pi_zipS {e e2 : Expr} {ta : TA} {p pos tpos : Pos} {elts : List Expr} {kk : Nat} (hg : Gl X "zip") (hm : X.mg "zip" = none) (ha : PA X [e, e2] ta) (hs : starEach [e, e2] X.env = (false, eval e X.env) :: starEach [e2] X.env := by rfl) (hpl : (backTo pos (starEach [e2] X.env)).any (·.1) = false := by rfl) :
    PI X (.Tuple elts kk tpos) (.Call (.Name "zip" p) [e, e2] [] pos) (iZipS X.K ta) := PI.of (pi_zip hg hm (pa_mono ha) hs hpl) fun σ H R q => ⟨_, q, fun vs H1 ⟨a, b, xs, ys, e, g1, g2, r⟩ => ⟨a, b, xs, ys, e, .inl (.inl g1), .inl (.inl g2), r⟩⟩
end
theorem walkZ {K : PySem.W.Frag} {a b : Addr} {xs ys : List V} {n : Nat} (hn : n = min xs.length ys.length) : Walk (Itz K a b) n (fun H => H a = some (.lst xs) ∧ H b = some (.lst ys)) (YPair (fun i => xs[i]?) (fun i => ys[i]?)) :=
  (walk_zip (K := K) (a := a) (b := b) hn).mono (fun _ h => ⟨.inl (.inl h.1), .inl (.inl h.2)⟩) fun _ _ _ _ _ _ y => y
theorem cutV_take {xs : List V} {n : Nat} : cutV xs none (some (n : Int)) = xs.take n := by
  unfold cutV
  rw [HT.sIx_nat, HT.sIx_none, List.drop_zero]
  by_cases h : n ≤ xs.length
  · rw [Nat.min_eq_left h, Nat.sub_zero]
  · rw [Nat.min_eq_right (by omega), Nat.sub_zero, List.take_of_length_le (Nat.le_refl _), List.take_of_length_le (by omega)]
theorem cutV_drop {xs : List V} {n : Nat} : cutV xs (some (n : Int)) none = xs.drop n := by
  unfold cutV
  rw [HT.sIx_nat, HT.sIx_none]
  by_cases h : n ≤ xs.length
  · rw [Nat.min_eq_left h, List.take_of_length_le (by rw [List.length_drop]; exact Nat.le_refl _)]
  · rw [Nat.min_eq_right (by omega), List.drop_of_length_le (Nat.le_refl _), List.drop_of_length_le (by omega), List.take_nil]
theorem cutI_take {xs : List Int} {n : Nat} : cutV (List.map V.int xs) none (some (n : Int)) = List.map V.int (xs.take n) := by rw [cutV_take, List.map_take]
theorem cutI_drop {xs : List Int} {n : Nat} : cutV (List.map V.int xs) (some (n : Int)) none = List.map V.int (xs.drop n) := by rw [cutV_drop, List.map_drop]
/-- two lists item by item -/
inductive All2 {α β : Type} (R : α → β → Prop) : List α → List β → Prop
  | nil : All2 R [] []
  | cons {x : α} {y : β} {xs : List α} {ys : List β} : R x y → All2 R xs ys → All2 R (x :: xs) (y :: ys)
section
variable {α β : Type} {R S : α → β → Prop}
theorem All2.len {xs : List α} {ys : List β} (h : All2 R xs ys) : xs.length = ys.length := by
  induction h with
  | nil => rfl
  | cons _ _ ih => rw [List.length_cons, List.length_cons, ih]
theorem All2.mono {xs : List α} {ys : List β} (h : All2 R xs ys) (k : ∀ x y, R x y → S x y) : All2 S xs ys := by
  induction h with
  | nil => exact .nil
  | cons r _ ih => exact .cons (k _ _ r) ih
theorem All2.app {xs xs' : List α} {ys ys' : List β} (h : All2 R xs ys) (k : All2 R xs' ys') : All2 R (xs ++ xs') (ys ++ ys') := by
  induction h with
  | nil => exact k
  | cons r _ ih => exact .cons r ih
theorem All2.snoc {xs : List α} {ys : List β} {x : α} {y : β} (h : All2 R xs ys) (r : R x y) : All2 R (xs ++ [x]) (ys ++ [y]) := h.app (.cons r .nil)
theorem All2.at {xs : List α} {ys : List β} (h : All2 R xs ys) {i : Nat} {x : α} (e : xs[i]? = some x) : ∃ y, ys[i]? = some y ∧ R x y := by
  induction h generalizing i with
  | nil => simp at e
  | cons r _ ih =>
    cases i with
    | zero => exact ⟨_, rfl, by simpa using (Option.some.inj e) ▸ r⟩
    | succ i => exact ih e
theorem All2.at' {xs : List α} {ys : List β} (h : All2 R xs ys) {i : Nat} {y : β} (e : ys[i]? = some y) : ∃ x, xs[i]? = some x ∧ R x y := by
  induction h generalizing i with
  | nil => simp at e
  | cons r _ ih =>
    cases i with
    | zero => exact ⟨_, rfl, by simpa using (Option.some.inj e) ▸ r⟩
    | succ i => exact ih e
theorem All2.take {xs : List α} {ys : List β} (h : All2 R xs ys) (n : Nat) : All2 R (xs.take n) (ys.take n) := by
  induction h generalizing n with
  | nil => rw [List.take_nil, List.take_nil]; exact .nil
  | cons r _ ih =>
    cases n with
    | zero => exact .nil
    | succ n => exact .cons r (ih n)
theorem All2.drop {xs : List α} {ys : List β} (h : All2 R xs ys) (n : Nat) : All2 R (xs.drop n) (ys.drop n) := by
  induction h generalizing n with
  | nil => rw [List.drop_nil, List.drop_nil]; exact .nil
  | cons r t ih =>
    cases n with
    | zero => exact .cons r t
    | succ n => exact ih n
end
theorem tup_upd {H : Hp} {a l : Addr} {xs ys : List V} {o : HO} (h : H a = some (.tup xs)) (g : H l = some (.lst ys)) : upd H l o a = some (.tup xs) := by
  rw [upd_ne (ne_of h g (by intro z; cases z))]
  exact h
theorem tup_but {H H' : Hp} {a l : Addr} {xs ys : List V} (bt : But l H H') (h : H a = some (.tup xs)) (g : H l = some (.lst ys)) : H' a = some (.tup xs) := bt _ _ (ne_of h g (by intro z; cases z)) h
theorem cutV_take1 {xs : List V} : cutV xs none (some 1) = xs.take 1 := cutV_take (n := 1)
theorem cutV_drop1 {xs : List V} : cutV xs (some 1) none = xs.drop 1 := cutV_drop (n := 1)
section
variable {X : Cx}
/-- the script: its length, an item -/
def rLenSc (K : PySem.W.Frag) (a : Addr) (ns : List Int) : List V → Hp → VK → Prop := fun vs H Q => vs = [.ref a] ∧ SqL K H a (List.map V.int ns) ∧ Q (.int ns.length) H
theorem call_lenSc (a : Addr) (ns : List Int) : CallR X (.builtin "len") (rLenSc X.K a ns) := CallR.of call_len_seq fun vs H Q ⟨e, h, q⟩ => ⟨a, List.map V.int ns, e, .inl h, by rw [List.length_map]; exact q⟩
def rIxSc (K : PySem.W.Frag) (a : Addr) (ns : List Int) : R2 := fun x y H Q => ∃ i, x = .ref a ∧ y = .int i ∧ SqL K H a (List.map V.int ns) ∧ 0 ≤ i ∧ i < ns.length ∧ Q (.int (gN ns i.toNat)) H
theorem ix_sc (a : Addr) (ns : List Int) : IxR X (rIxSc X.K a ns) := IxR.of ix_list fun x y H Q ⟨i, e1, e2, h, h0, h1, q⟩ => ⟨a, List.map V.int ns, i, _, e1, e2, h, at_g' (Int.toNat_of_nonneg h0).symm (by omega), q⟩
end
section
variable {X : Cx}
def rSumS : List V → Hp → VK → Prop := fun vs H Q => ∃ a ns, vs = [.ref a] ∧ H a = some (.lst (List.map V.int ns)) ∧ Q (.int ns.sum) H
theorem cr_sumS (hc : X.calm = true) : CallR X (.builtin "sum") rSumS := CallR.of (cr_sum hc) fun vs H Q ⟨a, ns, e, g, q⟩ => ⟨a, ns, e, .inl (.inl g), q⟩
end
section
variable {X : Cx}
/-- t[lo:hi]: t itself or a new tuple, in either case one of these items -/
def rSlTS : V → Option Int → Option Int → Hp → VK → Prop := fun x lo hi H Q => ∃ a xs, x = .ref a ∧ H a = some (.tup xs) ∧ ∀ p H', Same H H' → (p = a ∨ H p = none) → H' p = some (.tup (cutV xs lo hi)) → Q (.ref p) H'
theorem sl_tupS : SlR X rSlTS := SlR.of sl_tupA fun x lo hi H Q ⟨a, xs, e, g, q⟩ => ⟨a, xs, e, .inl (.inl g), fun z => q a H (Same.refl _) (.inl rfl) (by
    unfold cutV
    rw [z.1, z.2, List.drop_zero, Nat.sub_zero, List.take_length]
    exact g), fun _ p hp => q p _ (same_upd hp) (.inr hp) upd_same⟩
end
theorem cutV_take3 {xs : List V} : cutV xs none (some 3) = xs.take 3 := cutV_take (n := 3)
section
variable {X : Cx}
theorem PT.of {e : Expr} {t t' : TT} (h : PT X e t) (k : ∀ σ H Q, t' σ H Q → t σ H Q) : PT X e t' := ⟨fun pins s σ H Q I q => h.run pins s σ H Q I (k _ _ _ q)⟩
/-- a list's truth -/
def tTrL (ta : TE) : TT := fun σ H Q => ta σ H fun x H1 => ∃ p xs, x = .ref p ∧ H1 p = some (.lst xs) ∧ Q (decide (0 < xs.length)) H1
theorem pt_truthL {a : Expr} {ta : TE} (ha : PE X a ta) (he : ∀ whole, isTrue a X.env whole = (do let v ← whole; standAt a.pos; holding [v] (truthy v))) : PT X a (tTrL ta) :=
  PT.of (pt_truth (pe_mono ha) he) fun σ H Q q => ⟨_, q, fun x H1 ⟨p, xs, e, g, z⟩ => ⟨decide (0 < xs.length), by rw [e]; exact .inl ⟨xs, .inl (.inl g), by cases xs <;> simp⟩, z⟩⟩
def iEnumL (K : PySem.W.Frag) (ta : TA) : TI := fun σ H R => ta σ H fun vs H1 => ∃ a xs, vs = [.ref a] ∧ H1 a = some (.lst xs) ∧ R (Ite K a) H1
theorem pi_enumL {e : Expr} {ta : TA} {p pos tpos : Pos} {elts : List Expr} {kk : Nat} (hg : Gl X "enumerate") (hm : X.mg "enumerate" = none) (ha : PA X [e] ta) (hs : starEach [e] X.env = [(false, eval e X.env)] := by rfl) :
    PI X (.Tuple elts kk tpos) (.Call (.Name "enumerate" p) [e] [] pos) (iEnumL X.K ta) := PI.of (pi_enum hg hm (pa_mono ha) hs) fun σ H R q => ⟨_, q, fun vs H1 ⟨a, xs, e, g, r⟩ => ⟨a, xs, e, .inl (.inl g), r⟩⟩
end
theorem walkE {K : PySem.W.Frag} {a : Addr} {xs : List V} : Walk (Ite K a) xs.length (fun H => H a = some (.lst xs)) (YPair (fun i => some (.int (i : Nat))) (fun i => xs[i]?)) := (walk_enum (K := K) (a := a) (xs := xs)).mono (fun _ h => .inl (.inl h)) fun _ _ _ _ _ _ y => y
theorem seq_cut {s1 R : TS} {D : Ends} {σ : L2.St} {H : Hp} (I : L2.St → Hp → Prop) (h2 : ∀ σ H, I σ H → R D σ H) (h1 : ∀ C : L2.St → Hp → Prop, (∀ σ H, I σ H → C σ H) → s1 { D with nx := C } σ H) : tSeq s1 R D σ H := h1 _ h2
section
variable {X : Cx}
theorem inV_int (i : Int) : ∀ ns : List Int, inV (.int i) (List.map V.int ns) = decide (i ∈ ns)
  | [] => by simp [inV]
  | n :: r => by
    have ih := inV_int i r
    unfold inV at ih ⊢
    rw [List.map_cons, List.any_cons, ih]
    by_cases h : n = i
    · subst h; simp [eqV]
    · simp [eqV, h, Ne.symm h]
theorem flat_ints : ∀ ns : List Int, (List.map V.int ns).all flatV = true
  | [] => rfl
  | _ :: r => by rw [List.map_cons, List.all_cons, flat_ints r]; rfl
/-- an int in a list of ints -/
def rInI : R2 := fun x y H Q => ∃ i p ns, x = .int i ∧ y = .ref p ∧ H p = some (.lst (List.map V.int ns)) ∧ Q (.bl (decide (i ∈ ns))) H
theorem op_inI : OpR X (compareOp .In) rInI := OpR.of op_in_seq fun x y H Q ⟨i, p, ns, e1, e2, g, q⟩ => ⟨p, List.map V.int ns, e2, .inl (.inl (.inl g)), by rw [e1]; rfl, flat_ints ns, by rw [e1, inV_int]; exact q⟩
/-- xs.index(i): the first place -/
def rIndexI : V → List V → Hp → VK → Prop := fun x xs H Q => ∃ p ns i j, x = .ref p ∧ xs = [.int i] ∧ H p = some (.lst (List.map V.int ns)) ∧ ns[j]? = some i ∧ (∀ m, m < j → ns[m]? ≠ some i) ∧ Q (.int ((j : Nat) : Int)) H
theorem MtR.of {id : String} {r r' : V → List V → Hp → VK → Prop} (h : MtR X id r) (k : ∀ x xs H Q, r' x xs H Q → r x xs H Q) : MtR X id r' := fun pins s σ H x xs v us Q I rx rv q => h pins s σ H x xs v us Q I rx rv (k _ _ _ _ q)
theorem mt_indexI : MtR X "list.index" rIndexI := MtR.of mt_index fun x xs H Q ⟨p, ns, i, j, e1, e2, g, hj, hm, q⟩ =>
  ⟨p, List.map V.int ns, .int i, j, .int i, e1, e2, .inl (.inl g), rfl, flat_ints ns, by rw [List.getElem?_map, hj]; rfl, by simp [eqV], fun m z hmj hz => by
    rw [List.getElem?_map] at hz
    obtain ⟨b, h1, rfl⟩ := Option.map_eq_some_iff.mp hz
    have : b ≠ i := fun e => hm m hmj (e ▸ h1)
    simp [eqV, this], q⟩
end
def sl (ns : List Int) (i j : Nat) : List Int := (ns.drop i).take (j - i)
theorem cut_sl {ns : List Int} {i j : Nat} : cutV (List.map V.int ns) (some (i : Int)) (some (j : Int)) = List.map V.int (sl ns i j) := by
  unfold cutV sl
  rw [HT.sIx_nat, HT.sIx_nat, List.length_map, ← List.map_drop, ← List.map_take]
  congr 1
  by_cases h : i < ns.length
  · rw [Nat.min_eq_left (Nat.le_of_lt h)]
    by_cases h2 : j ≤ ns.length
    · rw [Nat.min_eq_left h2]
    · rw [Nat.min_eq_right (by omega), List.take_of_length_le (by rw [List.length_drop]; exact Nat.le_refl _), List.take_of_length_le (by rw [List.length_drop]; omega)]
  · rw [List.drop_eq_nil_of_le (by omega), List.drop_eq_nil_of_le (by omega), List.take_nil, List.take_nil]
theorem sl_len (ns : List Int) (i j : Nat) : (sl ns i j).length = min (j - i) (ns.length - i) := by
  unfold sl
  rw [List.length_take, List.length_drop]
/-- a dict comprehension -/
def DcLoop (J : It) (g : TG) (tt : TT) (tk tv : TE) (vs : List Nat) (σ : L2.St) (H1 : Hp) (Q : VK) : Prop := ∀ D, H1 D = none → ∃ W : Nat → Nat → Hp → Prop, (∃ m, W 0 m (upd H1 D (.dK []))) ∧ ∀ i m H, W i m H →
  (J.stop i H ∧ Q (.ref D) H) ∨ (J.go i H ∧ ∃ Nx : Hp → Prop, (∀ H', Nx H' → ∃ m', m' < m ∧ W (i + 1) m' H') ∧ ∀ x H', J.yld i H x H' → g x (wipe σ vs) H' fun σ2 H2 => wipe σ2 vs = wipe σ vs ∧ tt σ2 H2 fun b H3 =>
    if b = true then tk σ2 H3 fun y H4 => tv σ2 H4 fun z H5 => ∃ kvs k, y = kV k ∧ H5 D = some (.dK kvs) ∧ kvs.length < sizeLine ∧ Nx (upd H5 D (.dK (putK kvs k z))) else Nx H3)
theorem tDc_eq {wi : TI} {g : TG} {tt : TT} {tk tv : TE} {vs : List Nat} {σ : L2.St} {H : Hp} {Q : VK} : tDc wi g tt tk tv vs σ H Q = wi σ H fun J H1 => DcLoop J g tt tk tv vs σ H1 Q := rfl
theorem dcW {J : It} {n : Nat} {G : Hp → Prop} {Y : Nat → Hp → V → Hp → Prop} (w : Walk J n G Y) {g : TG} {tt : TT} {tk tv : TE} {vs : List Nat} {σ : L2.St} {H1 : Hp} {Q : VK} (Pv : Addr → Nat → Hp → Prop) (h0 : ∀ D H, Same H1 H → H1 D = none → H D = some (.dK []) → Pv D 0 H)
    (hG : ∀ D i H, H1 D = none → i ≤ n → Pv D i H → G H) (hs : ∀ D i x H H', i < n → H1 D = none → Pv D i H → Y i H x H' → g x (wipe σ vs) H' fun σ2 H2 => wipe σ2 vs = wipe σ vs ∧ tt σ2 H2 fun b H3 =>
      if b = true then tk σ2 H3 fun y H4 => tv σ2 H4 fun z H5 => ∃ kvs k, y = kV k ∧ H5 D = some (.dK kvs) ∧ kvs.length < sizeLine ∧ Pv D (i + 1) (upd H5 D (.dK (putK kvs k z))) else Pv D (i + 1) H3)
    (hd : ∀ D H, H1 D = none → Pv D n H → Q (.ref D) H) : DcLoop J g tt tk tv vs σ H1 Q := by
  intro D hD
  refine ⟨fun i m H => m = n - i ∧ i ≤ n ∧ Pv D i H, ⟨n, by simp, Nat.zero_le _, h0 D _ (same_upd hD) hD upd_same⟩, ?_⟩
  rintro i m H ⟨rfl, hi, p⟩
  have q := hG D i H hD hi p
  by_cases hlt : i < n
  · exact .inr ⟨w.goes i H hlt q, Pv D (i + 1), fun H' p' => ⟨n - (i + 1), by omega, rfl, hlt, p'⟩, fun x H' y => hs D i x H H' hlt hD p (w.yields i H x H' hlt q y)⟩
  · have e : i = n := by omega
    subst e
    exact .inl ⟨w.stops H q, hd D H hD p⟩

/-! ### data at any depth: what stands there, and == of it -/
structure Cod {α : Type} [DecidableEq α] (R : Hp → V → α → Prop) (f : α → PyData) (d : Nat) : Prop where
  dp : ∀ (K : PySem.W.Frag) H v a, R H v a → Dp K H v (f a)
  eq : ∀ a b, PyData.eqv (f a) (f b) = decide (a = b)
  lay : ∀ a, PyData.canLay0 (f a) = true
  dep : ∀ a, PyData.depth (f a) ≤ d
def IntV (_ : Hp) (v : V) (i : Int) : Prop := v = .int i
def LstV {α : Type} (R : Hp → V → α → Prop) (H : Hp) (v : V) (l : List α) : Prop := ∃ a vs, v = .ref a ∧ H a = some (.lst vs) ∧ All2 (R H) vs l
def TupV {α : Type} (R : Hp → V → α → Prop) (H : Hp) (v : V) (l : List α) : Prop := ∃ a vs, v = .ref a ∧ H a = some (.tup vs) ∧ All2 (R H) vs l
def Pr2V {α β : Type} (R : Hp → V → α → Prop) (S : Hp → V → β → Prop) (H : Hp) (v : V) (p : α × β) : Prop := ∃ a x y, v = .ref a ∧ H a = some (.tup [x, y]) ∧ R H x p.1 ∧ S H y p.2
def Pr3V {α β γ : Type} (R : Hp → V → α → Prop) (S : Hp → V → β → Prop) (T : Hp → V → γ → Prop) (H : Hp) (v : V) (p : α × β × γ) : Prop := ∃ a x y z, v = .ref a ∧ H a = some (.tup [x, y, z]) ∧ R H x p.1 ∧ S H y p.2.1 ∧ T H z p.2.2
theorem cod_int : Cod IntV PyData.int 0 := ⟨fun K H v a h => by rw [show v = .int a from h]; exact .int a, eqv_ii, fun _ => rfl, fun _ => Nat.le_refl _⟩
section
variable {α β γ : Type} [DecidableEq α] [DecidableEq β] [DecidableEq γ] {R : Hp → V → α → Prop} {S : Hp → V → β → Prop} {T : Hp → V → γ → Prop} {f : α → PyData} {g : β → PyData} {h : γ → PyData} {d e k : Nat}
theorem Cod.all (c : Cod R f d) {K : PySem.W.Frag} {H : Hp} {vs : List V} {l : List α} (a : All2 (R H) vs l) : DpAll K H vs (l.map f) := by
  induction a with
  | nil => exact .nil
  | cons r _ ih => exact .cons (c.dp _ _ _ _ r) ih
theorem Cod.eqAll (c : Cod R f d) : ∀ l m : List α, PyData.eqvAll (l.map f) (m.map f) = decide (l = m)
  | [], [] => by rw [List.map_nil, eqvAll_nil]; rfl
  | [], y :: s => by rw [List.map_nil, List.map_cons, PyData.eqvAll]; simp
  | x :: r, [] => by rw [List.map_nil, List.map_cons, PyData.eqvAll]; simp
  | x :: r, y :: s => by
    rw [List.map_cons, List.map_cons, eqvAll_cons, c.eq, Cod.eqAll c r s]
    simp only [List.cons.injEq, Bool.decide_and]
theorem Cod.layAll (c : Cod R f d) : ∀ l : List α, PyData.canLayAll0 (l.map f) = true
  | [] => rfl
  | x :: r => by rw [List.map_cons, PyData.canLayAll0, c.lay, Cod.layAll c r]; rfl
theorem Cod.depAll (c : Cod R f d) : ∀ l : List α, PyData.depthAll (l.map f) ≤ d
  | [] => by rw [List.map_nil, PyData.depthAll]; exact Nat.zero_le _
  | x :: r => by rw [List.map_cons, PyData.depthAll]; exact Nat.max_le.mpr ⟨c.dep x, Cod.depAll c r⟩
theorem cod_lst (c : Cod R f d) : Cod (LstV R) (fun l => .list (l.map f)) (d + 1) :=
  ⟨fun K H v l ⟨a, vs, e, ha, hv⟩ => by rw [e]; exact .lst (.inl (.inl ha)) (c.all hv), fun l m => by rw [PyData.eqv, c.eqAll], fun l => by rw [PyData.canLay0, c.layAll], fun l => by rw [PyData.depth]; exact Nat.succ_le_succ (c.depAll l)⟩
theorem cod_tup (c : Cod R f d) : Cod (TupV R) (fun l => .tuple (l.map f)) (d + 1) :=
  ⟨fun K H v l ⟨a, vs, e, ha, hv⟩ => by rw [e]; exact .tup (.inl (.inl ha)) (c.all hv), fun l m => by rw [PyData.eqv, c.eqAll], fun l => by rw [PyData.canLay0, c.layAll], fun l => by rw [PyData.depth]; exact Nat.succ_le_succ (c.depAll l)⟩
theorem cod_p2 (c : Cod R f d) (b : Cod S g e) : Cod (Pr2V R S) (fun p => .tuple [f p.1, g p.2]) (max d e + 1) :=
  ⟨fun K H v l ⟨a, x, y, e, ha, hx, hy⟩ => by rw [e]; exact .tup (.inl (.inl ha)) (.cons (c.dp _ _ _ _ hx) (.cons (b.dp _ _ _ _ hy) .nil)),
   fun l m => by
    rw [PyData.eqv, eqvAll_cons, eqvAll_cons, eqvAll_nil, c.eq, b.eq, Bool.and_true, ← Bool.decide_and]
    exact decide_eq_decide.mpr ⟨fun z => Prod.ext z.1 z.2, fun z => by rw [z]; exact ⟨rfl, rfl⟩⟩,
   fun l => by rw [PyData.canLay0, PyData.canLayAll0, PyData.canLayAll0, PyData.canLayAll0, c.lay, b.lay]; rfl,
   fun l => by
    rw [PyData.depth, PyData.depthAll, PyData.depthAll, PyData.depthAll]
    have h1 := c.dep l.1
    have h2 := b.dep l.2
    omega⟩
theorem cod_p3 (c : Cod R f d) (b : Cod S g e) (t : Cod T h k) : Cod (Pr3V R S T) (fun p => .tuple [f p.1, g p.2.1, h p.2.2]) (max d (max e k) + 1) :=
  ⟨fun K H v l ⟨a, x, y, z, e, ha, hx, hy, hz⟩ => by rw [e]; exact .tup (.inl (.inl ha)) (.cons (c.dp _ _ _ _ hx) (.cons (b.dp _ _ _ _ hy) (.cons (t.dp _ _ _ _ hz) .nil))),
   fun l m => by
    rw [PyData.eqv, eqvAll_cons, eqvAll_cons, eqvAll_cons, eqvAll_nil, c.eq, b.eq, t.eq, Bool.and_true, ← Bool.decide_and, ← Bool.decide_and]
    exact decide_eq_decide.mpr ⟨fun z => Prod.ext z.1 (Prod.ext z.2.1 z.2.2), fun z => by rw [z]; exact ⟨rfl, rfl, rfl⟩⟩,
   fun l => by rw [PyData.canLay0, PyData.canLayAll0, PyData.canLayAll0, PyData.canLayAll0, PyData.canLayAll0, c.lay, b.lay, t.lay]; rfl,
   fun l => by
    rw [PyData.depth, PyData.depthAll, PyData.depthAll, PyData.depthAll, PyData.depthAll]
    have h1 := c.dep l.1
    have h2 := b.dep l.2.1
    have h3 := t.dep l.2.2
    omega⟩
end
section
variable {X : Cx} {α : Type} [DecidableEq α] {R : Hp → V → α → Prop} {f : α → PyData} {d : Nat}
def rEqC (R : Hp → V → α → Prop) : R2 := fun x y H Q => ∃ a b, R H x a ∧ R H y b ∧ Q (.bl (decide (a = b))) H
def rNeC (R : Hp → V → α → Prop) : R2 := fun x y H Q => ∃ a b, R H x a ∧ R H y b ∧ Q (.bl (!decide (a = b))) H
theorem Cod.shaped (c : Cod R f d) (hd : d ≤ 64) (a : α) : SeqAt.shaped (f a) = true := by
  unfold SeqAt.shaped
  rw [c.lay, decide_eq_true (Nat.le_trans (c.dep a) hd)]
  rfl
theorem op_eqC (hu : X.A.units + 64 < cLine) (c : Cod R f d) (hd : d ≤ 64) : OpR X (compareOp .Eq) (rEqC R) := OpR.of (op_eqD hu) fun x y H Q ⟨a, b, ha, hb, q⟩ => ⟨f a, f b, c.dp _ _ _ _ ha, c.dp _ _ _ _ hb, c.shaped hd a, c.shaped hd b, by rw [c.eq]; exact q⟩
theorem op_neC (hu : X.A.units + 64 < cLine) (c : Cod R f d) (hd : d ≤ 64) : OpR X (compareOp .NotEq) (rNeC R) := OpR.of (op_neD hu) fun x y H Q ⟨a, b, ha, hb, q⟩ => ⟨f a, f b, c.dp _ _ _ _ ha, c.dp _ _ _ _ hb, c.shaped hd a, c.shaped hd b, by rw [c.eq]; exact q⟩
end
theorem ints_all {H : Hp} (ns : List Int) : All2 (IntV H) (List.map V.int ns) ns := by
  induction ns with
  | nil => exact .nil
  | cons n r ih => exact .cons rfl ih
theorem ints_of {H : Hp} {vs : List V} {ns : List Int} (h : All2 (IntV H) vs ns) : vs = List.map V.int ns := by
  induction h with
  | nil => rfl
  | cons r _ ih => rw [List.map_cons, ih, show _ = V.int _ from r]
theorem intL {H : Hp} {a : Addr} {ns : List Int} (g : H a = some (.lst (List.map V.int ns))) : LstV IntV H (.ref a) ns := ⟨a, _, rfl, g, ints_all ns⟩
theorem lsv_mono {H H' : Hp} (s : Same H H') (v : V) (n : List Int) (h : LstV IntV H v n) : LstV IntV H' v n := by
  obtain ⟨a, vs, e, g, k⟩ := h
  exact ⟨a, vs, e, s _ _ g, k.mono fun _ _ z => z⟩
/-- what stands however the heap goes on, but for one list that changes -/
structure Stab {α : Type} (R : Hp → V → α → Prop) : Prop where
  mono : ∀ {H H' : Hp}, Same H H' → ∀ v a, R H v a → R H' v a
  but : ∀ {H H' : Hp} {l : Addr} {ys : List V}, But l H H' → H l = some (.lst ys) → ∀ v a, R H v a → R H' v a
theorem stab_int : Stab IntV := ⟨fun _ _ _ h => h, fun _ _ _ _ h => h⟩
section
variable {α β γ : Type} {R : Hp → V → α → Prop} {S : Hp → V → β → Prop} {T : Hp → V → γ → Prop}
theorem stab_tup (c : Stab R) : Stab (TupV R) :=
  ⟨fun s v l ⟨a, vs, e, g, k⟩ => ⟨a, vs, e, s _ _ g, k.mono (c.mono s)⟩, fun bt gl v l ⟨a, vs, e, g, k⟩ => ⟨a, vs, e, tup_but bt g gl, k.mono (c.but bt gl)⟩⟩
theorem stab_p2 (c : Stab R) (b : Stab S) : Stab (Pr2V R S) :=
  ⟨fun s v l ⟨a, x, y, e, g, h1, h2⟩ => ⟨a, x, y, e, s _ _ g, c.mono s _ _ h1, b.mono s _ _ h2⟩, fun bt gl v l ⟨a, x, y, e, g, h1, h2⟩ => ⟨a, x, y, e, tup_but bt g gl, c.but bt gl _ _ h1, b.but bt gl _ _ h2⟩⟩
theorem stab_p3 (c : Stab R) (b : Stab S) (t : Stab T) : Stab (Pr3V R S T) :=
  ⟨fun s v l ⟨a, x, y, z, e, g, h1, h2, h3⟩ => ⟨a, x, y, z, e, s _ _ g, c.mono s _ _ h1, b.mono s _ _ h2, t.mono s _ _ h3⟩, fun bt gl v l ⟨a, x, y, z, e, g, h1, h2, h3⟩ => ⟨a, x, y, z, e, tup_but bt g gl, c.but bt gl _ _ h1, b.but bt gl _ _ h2, t.but bt gl _ _ h3⟩⟩
theorem lstV_mono (c : Stab R) {H H' : Hp} (s : Same H H') (v : V) (l : List α) (h : LstV R H v l) : LstV R H' v l := by
  obtain ⟨a, vs, e, g, k⟩ := h
  exact ⟨a, vs, e, s _ _ g, k.mono (c.mono s)⟩
theorem Stab.upd (c : Stab R) {H : Hp} {l : Addr} {ys : List V} {o : HO} (g : H l = some (.lst ys)) (v : V) (a : α) (h : R H v a) : R (upd H l o) v a := c.but ((But.refl l H).put) g v a h
end

/-! ### constants of the top, texts in lists, reversed lists, zip of tuples -/
theorem SqT.of {K : PySem.W.Frag} {H : Hp} {a : Addr} {xs : List V} (h : H a = some (.tup xs)) : SqT K H a xs := .inl (.inl h)
theorem SqL.of {K : PySem.W.Frag} {H : Hp} {a : Addr} {xs : List V} (h : H a = some (.lst xs)) : SqL K H a xs := .inl (.inl h)
section
variable {X : Cx}
theorem ints_tshaped (ns : List Int) : SeqAt.shaped (.tuple (ns.map PyData.int)) = true := (cod_tup cod_int).shaped (by decide) ns
/-- == of a tracked tuple of ints and any tuple of ints -/
def rEqTK (K : PySem.W.Frag) : R2 := fun x y H Q => ∃ a b ns ms, x = .ref a ∧ y = .ref b ∧ H a = some (.tup (List.map V.int ns)) ∧ SqT K H b (List.map V.int ms) ∧ Q (.bl (decide (ns = ms))) H
theorem op_eqTK (hu : X.A.units + 64 < cLine) : OpR X (compareOp .Eq) (rEqTK X.K) := OpR.of (op_eqD hu) (by
  rintro x y H Q ⟨a, b, ns, ms, rfl, rfl, ha, hb, q⟩
  refine ⟨_, _, .tup (.inl (.inl ha)) (ints_dp ns), .tup hb (ints_dp ms), ints_tshaped ns, ints_tshaped ms, ?_⟩
  rw [(cod_tup cod_int).eq ns ms]
  exact q)
abbrev OkS := {s : Str // PyData.strOk s = true}
def StrV (_ : Hp) (v : V) (s : OkS) : Prop := v = .str s.val
theorem eqv_ss (a b : Str) : PyData.eqv (.str a) (.str b) = decide (a = b) := by
  rw [PyData.eqv]
  by_cases h : a = b
  · rw [decide_eq_true h]; exact beq_iff_eq.mpr h
  · rw [decide_eq_false h]; exact beq_eq_false_iff_ne.mpr h
def vS (s : OkS) : V := .str s.val
def dStr (s : OkS) : PyData := .str s.val
theorem cod_str : Cod StrV dStr 0 := ⟨fun K H v a h => by rw [show v = .str a.val from h]; exact .str a.val, fun a b => by
  show PyData.eqv (.str a.val) (.str b.val) = _
  rw [eqv_ss]; exact decide_eq_decide.mpr Subtype.ext_iff.symm, fun a => by show PyData.canLay0 (.str a.val) = true; rw [PyData.canLay0]; exact a.property, fun a => by show PyData.depth (.str a.val) ≤ 0; rw [PyData.depth]; exact Nat.le_refl _⟩
theorem strs_all {H : Hp} : ∀ ns : List OkS, All2 (StrV H) (List.map vS ns) ns
  | [] => .nil
  | _ :: r => .cons rfl (strs_all r)
theorem strs_of {H : Hp} {vs : List V} {ns : List OkS} (h : All2 (StrV H) vs ns) : vs = List.map vS ns := by
  induction h with
  | nil => rfl
  | cons r _ ih => rw [List.map_cons, ih, show _ = _ from r]; rfl
theorem strL {H : Hp} {a : Addr} {ns : List OkS} (g : H a = some (.lst (List.map vS ns))) : LstV StrV H (.ref a) ns := ⟨a, _, rfl, g, strs_all ns⟩
theorem stab_str : Stab StrV := ⟨fun _ _ _ h => h, fun _ _ _ _ h => h⟩
theorem strs_dp {K : PySem.W.Frag} {H : Hp} (ss : List OkS) : DpAll K H (ss.map vS) (ss.map dStr) := cod_str.all (strs_all ss)
/-- != and == of a tuple of texts of the top and a new one -/
def rNeSK (K : PySem.W.Frag) : R2 := fun x y H Q => ∃ a b ss ts, x = .ref a ∧ y = .ref b ∧ SqT K H a (List.map vS ss) ∧ H b = some (.tup (List.map vS ts)) ∧ Q (.bl (!decide (ss = ts))) H
theorem op_neSK (hu : X.A.units + 64 < cLine) : OpR X (compareOp .NotEq) (rNeSK X.K) := OpR.of (op_neD hu) (by
  rintro x y H Q ⟨a, b, ss, ts, rfl, rfl, ha, hb, q⟩
  refine ⟨_, _, .tup ha (strs_dp ss), .tup (.inl (.inl hb)) (strs_dp ts), (cod_tup cod_str).shaped (by decide) ss, (cod_tup cod_str).shaped (by decide) ts, ?_⟩
  rw [(cod_tup cod_str).eq ss ts]
  exact q)
/-- isinstance of a tuple of the top -/
def rIsiTK (K : PySem.W.Frag) : List V → Hp → VK → Prop := fun vs H Q => ∃ p n xs b, vs = [.ref p, .ty n] ∧ SqT K H p xs ∧ kitB "tuple" n = some b ∧ Q (.bl b) H
theorem call_isiTK : CallR X (.builtin "isinstance") (rIsiTK X.K) := CallR.of call_isi (by
  rintro vs H Q ⟨p, n, xs, b, rfl, hp, hb, q⟩
  refine ⟨.ref p, .ty n, .type "tuple", .type n, b, rfl, .ty n, ?_, kit_ty hb, q⟩
  rcases hp with (h | ⟨o, h⟩) | ⟨o, its, k, h1, h2, _⟩
  · exact .base (.tup h)
  · exact .fTuple h
  · exact .kTuple h1 h2)
/-- reversed(list) -/
def iRevS (K : PySem.W.Frag) (ta : TA) : TI := fun σ H R => ta σ H fun vs H1 => ∃ a xs, vs = [.ref a] ∧ H1 a = some (.lst xs) ∧ R (Itv K a xs.length) H1
theorem pi_revS {tg e : Expr} {ta : TA} {p pos : Pos} (hg : Gl X "reversed") (hm : X.mg "reversed" = none) (ha : PA X [e] ta) (hs : starEach [e] X.env = [(false, eval e X.env)] := by rfl) :
    PI X tg (.Call (.Name "reversed" p) [e] [] pos) (iRevS X.K ta) := PI.of (pi_reversed hg hm (pa_mono ha) hs) fun σ H R q => ⟨_, q, fun vs H1 ⟨a, xs, e, g, r⟩ => ⟨a, xs, e, .inl (.inl g), r⟩⟩
/-- zip of two tuples -/
def iZipTS (K : PySem.W.Frag) (ta : TA) : TI := fun σ H R => ta σ H fun vs H1 => ∃ a b xs ys, vs = [.ref a, .ref b] ∧ SqT K H1 a xs ∧ SqT K H1 b ys ∧ R (RZ.ItzT K a b) H1
theorem pi_zipTS {e e2 : Expr} {ta : TA} {p pos tpos : Pos} {elts : List Expr} {kk : Nat} (hg : Gl X "zip") (hm : X.mg "zip" = none) (ha : PA X [e, e2] ta) (hs : starEach [e, e2] X.env = (false, eval e X.env) :: starEach [e2] X.env := by rfl) (hpl : (backTo pos (starEach [e2] X.env)).any (·.1) = false := by rfl) :
    PI X (.Tuple elts kk tpos) (.Call (.Name "zip" p) [e, e2] [] pos) (iZipTS X.K ta) := PI.of (RZ.pi_zipA hg hm (pa_mono ha) hs hpl) fun σ H R q => ⟨_, q, fun vs H1 ⟨a, b, xs, ys, e, g1, g2, r⟩ => ⟨a, b, xs, ys, e, .inr ⟨g1, g2, r⟩⟩⟩
end
theorem walkV {K : PySem.W.Frag} {a : Addr} {xs : List V} : Walk (Itv K a xs.length) xs.length (fun H => H a = some (.lst xs)) (fun i H x H' => H' = H ∧ xs[xs.length - 1 - i]? = some x) := (walk_rev (K := K) (a := a) (xs := xs)).mono (fun _ h => .inl (.inl h)) fun _ _ _ _ _ _ y => y
theorem walkVI {K : PySem.W.Frag} {a : Addr} {ns : List Int} : Walk (Itv K a ns.length) ns.length (fun H => H a = some (.lst (List.map V.int ns))) (YInt ns.reverse) := by
  have w := walkV (K := K) (a := a) (xs := List.map V.int ns)
  rw [List.length_map] at w
  refine w.mono (fun _ h => h) fun i H x H' hi _ y => ⟨y.1, ?_⟩
  have h := y.2
  rw [List.getElem?_map] at h
  obtain ⟨b, h1, rfl⟩ := Option.map_eq_some_iff.mp h
  exact ⟨b, by rw [List.getElem?_reverse hi]; exact h1, rfl⟩
theorem walkZT {K : PySem.W.Frag} {a b : Addr} {xs ys : List V} {n : Nat} (hn : n = min xs.length ys.length) : Walk (RZ.ItzT K a b) n (fun H => SqT K H a xs ∧ SqT K H b ys) (YPair (fun i => xs[i]?) (fun i => ys[i]?)) := by
  subst hn
  refine ⟨fun i _ hi q => ?_, fun _ q => ⟨xs, ys, q.1, q.2, by omega⟩, fun i H v H' _ q y => ?_⟩
  · have h1 : i < xs.length := by omega
    have h2 : i < ys.length := by omega
    exact ⟨xs, ys, xs[i], ys[i], q.1, q.2, by simp [h1], by simp [h2]⟩
  · obtain ⟨T, x, z, h1, h2, h3, h4, h5⟩ := y
    exact ⟨T, x, z, h1, h2, h3, h4 xs q.1, h5 ys q.2⟩
theorem _root_.L2.Same.seqT {K : PySem.W.Frag} {H H' : Hp} (s : Same H H') {a : Addr} {xs : List V} (h : SqT K H a xs) : SqT K H' a xs := by
  rcases h with (h | ⟨o, h⟩) | h
  · exact .inl (.inl (s _ _ h))
  · exact .inl (.inr ⟨o, s _ _ h⟩)
  · exact .inr h
/-- the codes of a text -/
def cds (z : Str) : List Int := z.cps.toList.map fun (c : Nat) => (c : Int)
theorem cds_at {z : Str} {i c : Nat} (h : z.cps[i]? = some c) : (cds z)[i]? = some (c : Int) := by
  unfold cds
  rw [List.getElem?_map, Array.getElem?_toList, h]
  rfl
theorem cds_len (z : Str) : (cds z).length = z.cps.size := by unfold cds; rw [List.length_map, Array.length_toList]
section
variable {X : Cx} {α : Type} [DecidableEq α] {R : Hp → V → α → Prop} {f : α → PyData} {d : Nat}
theorem Cod.anyEq (c : Cod R f d) (a : α) : ∀ l : List α, ((l.map f).any fun z => PyData.eqv z (f a)) = decide (a ∈ l)
  | [] => by simp
  | x :: r => by
    rw [List.map_cons, List.any_cons, c.eq, Cod.anyEq c a r]
    by_cases h : x = a
    · subst h; simp
    · rw [decide_eq_false h, Bool.false_or]
      exact decide_eq_decide.mpr ⟨fun z => List.mem_cons_of_mem _ z, fun z => (List.mem_cons.mp z).resolve_left fun e => h e.symm⟩
/-- x in a list, x not in a list or a tuple, at any depth -/
def rInLC (R : Hp → V → α → Prop) : R2 := fun x y H Q => ∃ a l, R H x a ∧ LstV R H y l ∧ Q (.bl (decide (a ∈ l))) H
def rNotInLC (R : Hp → V → α → Prop) : R2 := fun x y H Q => ∃ a l, R H x a ∧ LstV R H y l ∧ Q (.bl (!decide (a ∈ l))) H
def rNotInTC (R : Hp → V → α → Prop) : R2 := fun x y H Q => ∃ a l, R H x a ∧ TupV R H y l ∧ Q (.bl (!decide (a ∈ l))) H
theorem op_inLC (hu : X.A.units + 65 < cLine) (c : Cod R f d) (hd : d < 64) : OpR X (compareOp .In) (rInLC R) := OpR.of (op_inD hu) fun x y H Q ⟨a, l, ha, hl, q⟩ => ⟨f a, l.map f, c.dp _ _ _ _ ha, (cod_lst c).dp _ _ _ _ hl, c.shaped (Nat.le_of_lt hd) a, (cod_lst c).shaped hd l, by rw [c.anyEq]; exact q⟩
theorem op_notInLC (hu : X.A.units + 65 < cLine) (c : Cod R f d) (hd : d < 64) : OpR X (compareOp .NotIn) (rNotInLC R) := OpR.of (op_notInD hu) fun x y H Q ⟨a, l, ha, hl, q⟩ => ⟨f a, l.map f, c.dp _ _ _ _ ha, (cod_lst c).dp _ _ _ _ hl, c.shaped (Nat.le_of_lt hd) a, (cod_lst c).shaped hd l, by rw [c.anyEq]; exact q⟩
theorem op_notInTC (hu : X.A.units + 65 < cLine) (c : Cod R f d) (hd : d < 64) : OpR X (compareOp .NotIn) (rNotInTC R) := by
  intro pins s σ H x y v u Q I rx ry h
  obtain ⟨a, l, ha, hl, q⟩ := h
  have sd := c.shaped (Nat.le_of_lt hd) a
  have se := (cod_tup c).shaped hd l
  obtain ⟨as, r1⟩ := Dp.reads I (f a) x v (c.dp _ _ _ _ ha) rx
  obtain ⟨bs, r2⟩ := Dp.reads I (.tuple (l.map f)) y u ((cod_tup c).dp _ _ _ _ hl) ry
  exact SeqAt.notIn_tuple_reads r2 r1 (SeqAt.canLay_of_shaped se) (SeqAt.canLay_of_shaped sd) (room_in_shaped sd hu) ⟨.bl _, H, I, rfl, by rw [c.anyEq]; exact q⟩
theorem hu5 {A : Around} {k : Nat} (hr : Room k A) : A.units + 65 < cLine := by have := hr.un; omega
/-- ''.join of a list of single signs -/
def oneS (c : Nat) : Str := ⟨#[c]⟩
theorem joinL_one : ∀ cs : List Nat, TL.joinL [] (cs.map fun c => [c]) = cs
  | [] => rfl
  | [_] => rfl
  | x :: y :: r => by
    show [x] ++ ([] ++ TL.joinL [] ((y :: r).map fun c => [c])) = _
    rw [joinL_one (y :: r)]
    rfl
theorem join_one (cs : List Nat) : Txt.join (Str.ofString "") (cs.map oneS) = ⟨cs.toArray⟩ := by
  have h := SX.join_S [] (cs.map fun c => [c])
  rw [joinL_one, List.map_map] at h
  exact h
def tJoinC (to te : TE) : TE := fun σ H Q => to σ H fun x H1 => x = .str (Str.ofString "") ∧ te σ H1 fun y H2 => ∃ (p : Addr) (cs : List Nat), y = .ref p ∧ H2 p = some (.lst (cs.map fun c => V.str (oneS c))) ∧ cs.length ≤ 1000000 ∧ Q (.str ⟨cs.toArray⟩) H2
theorem one_sum : ∀ cs : List Nat, ((cs.map oneS).map (·.length)).sum = cs.length
  | [] => rfl
  | c :: r => by
    rw [List.map_cons, List.map_cons, List.sum_cons, one_sum r, List.length_cons, Nat.add_comm]
    rfl
theorem pe_joinC {o e : Expr} {to te : TE} {apos pos : Pos} (ho : PE X o to) (he : PE X e te) (hs : starEach [e] X.env = [(false, eval e X.env)] := by rfl) (hbase : attributeBase o "join" X.env (eval o X.env) = eval o X.env := by rfl) (hline : (apos.endLine == pos.line) = true := by rfl) :
    PE X (.Call (.Attribute o "join" apos) [e] [] pos) (tJoinC to te) := PE.of (pe_join (pe_mono ho) (pe_mono he) hs hbase hline) fun σ H Q q => ⟨_, q, fun x H1 z => ⟨⟨_, z.1⟩, _, z.2, fun y H2 ⟨p, cs, e, g, hl, w⟩ => ⟨Str.ofString "", p, cs.map oneS, z.1, by rw [e], .inl (.inl (.inl (by rw [List.map_map]; exact g))), by
    rw [one_sum, List.length_map, show (Str.ofString "").length = 0 from rfl]; omega, by rw [join_one]; exact w⟩⟩⟩
end

theorem iteP {p : Prop} {i : Decidable p} {a b : Prop} (x : p → a) (y : ¬ p → b) : @ite _ p i a b := by
  by_cases h : p
  · rw [if_pos h]; exact x h
  · rw [if_neg h]; exact y h
section
variable {X : Cx}
/-- name = {k: v for ..} on one line, the name a local -/
theorem ps_setDc {i : Nat} {y : Str} {py : Pos} {kx vx tg iter : Expr} {ifs : List Expr} {scope : Scope} {own : List (Str × Nat)} {pos spos : Pos} {wi : TI} {g : TG} {tt : TT} {tk tv : TE} (hc : X.calm = true) (hN : X.N.Nodup) (hy : X.N[i]? = some y) (hyl : X.env.scope.names.lookup y = some .local)
    (hsw : swapsWith (.DictComp kx vx [⟨tg, iter, ifs, 0⟩] scope pos) (some (.Name y py)) spos.line X.env = pure true) (hi : PI X tg iter wi) (ok : BlkOk X.N X.env.scope scope own)
    (hg : ∀ (s : Shared) (H : Hp) (C : Addr) (cl : List (Str × Addr)) (fp : List Addr), PG (X.blk s H scope (compEnvC scope cl C X.env) fp) tg g) (ht : ∀ (s : Shared) (H : Hp) (C : Addr) (cl : List (Str × Addr)) (fp : List Addr), PTs (X.blk s H scope (compEnvC scope cl C X.env) fp) ifs tt)
    (hk : ∀ (s : Shared) (H : Hp) (C : Addr) (cl : List (Str × Addr)) (fp : List Addr), PE (X.blk s H scope (compEnvC scope cl C X.env) fp) kx tk)
    (he : ∀ (s : Shared) (H : Hp) (C : Addr) (cl : List (Str × Addr)) (fp : List Addr), PE (X.blk s H scope (compEnvC scope cl C X.env) fp) vx tv) (hs : ∀ x, foldedSetIterable iter X.env x = pure x := by intro _; rfl) :
    PS X (.Assign [.Name y py] (.DictComp kx vx [⟨tg, iter, ifs, 0⟩] scope pos) spos) (tAsg (tDc wi g tt tk tv (own.map (·.2))) (gName i)) := by
  refine ⟨fun pins s σ H D I h => ?_⟩
  rw [exec_Assign_Name_used _ _ _ _ hsw]
  refine wpAny_bind (wpAny_standAt (wpAny_bind ?_))
  show wpAny _ X.A (do let _ ← comprehension (.DictComp kx vx [⟨tg, iter, ifs, 0⟩] scope pos) scope X.env (firstIterPos [⟨tg, iter, ifs, 0⟩] pos) newDict false (eval iter X.env) (some (assign (.Name y py) X.env))) _ _ s
  have h : tDc wi g tt tk tv (own.map (·.2)) σ H (fun x H1 => gName i x σ H1 D.nx) := h
  refine wpAny_bind (thn (dc_core (Qf := fun _ s' => SP X pins D .next s') hc hN I hi ok hg ht hk he hs h fun L C s' m H' I' q hn f => ?_) fun _ s' hq => wpAny_pure (wpAny_pure hq))
  show wpAny _ _ (assign (.Name y py) X.env (.ref L)) _ _ _
  refine wpAny_assign_Name (store_ok2 (v := V.ref L) I' hN hy (.inl hyl) rfl (fun s2 I2 ⟨a, sb, ha⟩ => ?_) (.inr hyl))
  obtain ⟨f0, f1, f2, f3, f4, f5⟩ := f
  have haC : C ≠ a := by
    rcases ha with z | z
    · rw [z]; exact f1
    · exact fun e => f4 y a z e.symm
  refine ⟨m, hn.sameBut sb haC, fun h3 sb3 => ?_⟩
  exact ⟨_, H', I2.turned (t' := s2.toks) (fun b o hb e => (sb3.2 b hb).trans e) f0 f1 f3 f4 f5, q⟩
theorem sw_trueD {kx vx : Expr} {gs : List Comprehension} {scope : Scope} {pos py : Pos} {y : Str} {l : Nat} {env : Env} (hk : env.scope.kind = .function) (hy : env.scope.names.lookup y = some .local) (hl : (py.line == pos.line) = true)
    (ha : (scope.names.any fun (n, k) => n == y && (k == .local || k == .cell)) = false) : swapsWith (.DictComp kx vx gs scope pos) (some (.Name y py)) l env = pure true := by
  have ky : env.kindOf y = some .local := hy
  have hb : env.blockKind = .function := by unfold Env.blockKind; rw [hk]; rfl
  unfold swapsWith
  simp only [hb, ky, ha, Expr.pos, hl]
  rfl
end

/-- enumerate(text): each character in a new pair -/
def Ites (x : Str) : It :=
  ⟨fun i _ => i < x.cps.size, fun i H v H' => ∃ T c, v = .ref T ∧ H T = none ∧ H' = upd H T (.tup [.int (i : Nat), .str ⟨#[c]⟩]) ∧ x.cps[i]? = some c, fun i _ => x.cps.size ≤ i⟩
theorem turn_enumS {P : Program} {w : World} {K : PySem.W.Frag} {elts : List Expr} {kk : Nat} {tpos : Pos} (x : Str) (t : Tok) (e it : Addr) (ty : String) (hty : ty = "str_ascii_iterator" ∨ ty = "str_iterator") :
    Turn P w K (.Tuple elts kk tpos) (Ites x) [e, it] e (fun i h => (∃ old, IsEnum h e it ((i : Nat) : Int) old) ∧ h.IsStrIter it ty x t i ∧ e ≠ it ∧ i ≤ x.cps.size) where
  mem := by simp
  obj := fun i h st b hb => by
    obtain ⟨⟨old, he⟩, ⟨o, ho, hc, hd⟩, _⟩ := st
    have e' : b = e ∨ b = it := by simpa using hb
    rcases e' with z | z
    · rw [z]; exact ⟨_, he, fun v q => nomatch q⟩
    · rw [z]; exact ⟨o, ho, fun v q => by rw [hd] at q; cases q⟩
  keep := fun i h h' st k => by
    obtain ⟨⟨old, he⟩, ⟨o, ho, r⟩, hne⟩ := st
    exact ⟨⟨old, k e (by simp) _ he⟩, ⟨o, k it (by simp) o ho, r⟩, hne⟩
  item := by
    intro X hP hw hK hc i pins s σ H E I hf st hg
    subst hP hw hK
    obtain ⟨⟨old, he⟩, hit, hne, hle⟩ := st
    have hel : e < s.heap.objs.size := Heap.lt_size he
    have hil : it < s.heap.objs.size := by obtain ⟨_, q, _⟩ := hit; exact Heap.lt_size q
    have Dr : Draws X.prog X.w X.A.in1 it [it] x.cps.size (fun i v => ∃ c u, x.cps[i]? = some c ∧ v = .str ⟨#[c]⟩ u) (fun i h => h.IsStrIter it ty x t i) := by
      rcases hty with z | z
      · rw [z]; exact Draws.strAscii (A := X.A.in1) (I.ok.hd hc) it x t
      · rw [z]; exact Draws.strWide (A := X.A.in1) (I.ok.hd hc) it x t
    refine wpAny_pyNext_enum_itemD Dr he hit hg hne (by simpa using hne) fun v h' tk hv ho hit' hT hsz hk => ?_
    obtain ⟨c, u, hcx, rfl⟩ := hv
    refine ⟨_, rfl, wpAny_letOwnedTupleGo_enum (s := { s with heap := h', toks := tk + 1 }) ho fun h'' he' sb => ?_⟩
    have hT2 : h''.get? s.heap.objs.size = some { cls := .type "tuple", data := .seq #[.int i tk, .str ⟨#[c]⟩ u] } := (sb.2 _ (Nat.ne_of_gt hel)).trans hT
    have new : ObjOk X.prog X.w (upd H s.heap.objs.size (.tup [.int (i : Nat), .str ⟨#[c]⟩])) h'' s.heap.objs.size (.tup [.int (i : Nat), .str ⟨#[c]⟩]) :=
      ⟨by show 2 ≤ sizeLine; decide, [.int i tk, .str ⟨#[c]⟩ u], .cons ⟨_, rfl⟩ (.cons ⟨_, rfl⟩ .nil), ⟨_, hT2, rfl, _, rfl⟩⟩
    have I1 : Inv X pins σ (upd H s.heap.objs.size (.tup [.int (i : Nat), .str ⟨#[c]⟩])) { s with heap := h'', toks := tk + 1 } :=
      I.turnedNew (ch := [e, it]) (fun b ob hb q => (sb.2 b (fun z => hb (by simp [z]))).trans (hk b ob (fun z => hb (by simp [z])) (fun z => hb (by simp [z])) q)) hf (Nat.le_refl _) new
    refine ⟨.ref s.heap.objs.size, _, I1, rfl, ⟨_, c, rfl, I.hok.fresh (Nat.le_refl _), rfl, hcx⟩, ⟨⟨.str ⟨#[c]⟩ u, ?_⟩, ?_, hne, Nat.succ_le_of_lt hg⟩, fun b hb => ?_⟩
    · have e1 : ((i + 1 : Nat) : Int) = (i : Int) + 1 := by omega
      rw [e1]; exact he'
    · obtain ⟨o, q, r⟩ := hit'
      exact ⟨o, (sb.2 it (Ne.symm hne)).trans q, r⟩
    · have hb' : b < s.heap.objs.size := by
        have e' : b = e ∨ b = it := by simpa using hb
        rcases e' with z | z
        · rw [z]; exact hel
        · rw [z]; exact hil
      rw [upd_ne (Nat.ne_of_lt hb')]
      exact (hf b hb).1
  done := by
    intro X hP hw hK hc i pins s σ H E I hf st hg
    subst hP hw hK
    obtain ⟨⟨old, he⟩, hit, hne, hle⟩ := st
    obtain ⟨f0, f1, f2, f3, f4, f5⟩ := hf it (by simp)
    have Dr : Draws X.prog X.w X.A.in1 it [it] x.cps.size (fun i v => ∃ c u, x.cps[i]? = some c ∧ v = .str ⟨#[c]⟩ u) (fun i h => h.IsStrIter it ty x t i) := by
      rcases hty with z | z
      · rw [z]; exact Draws.strAscii (A := X.A.in1) (I.ok.hd hc) it x t
      · rw [z]; exact Draws.strWide (A := X.A.in1) (I.ok.hd hc) it x t
    have ei : i = x.cps.size := Nat.le_antisymm hle hg
    subst ei
    exact wpAny_pyNext_enum_endD Dr he hit fun h' eb => ⟨rfl, I.turned (t' := s.toks) (fun b o hb q => eb b o hb q) f0 f1 f3 f4 f5⟩
  self := fun A i s Q E st h => let ⟨⟨_, he⟩, _⟩ := st; wpAny_pyIter_enum he h
def iEnumS (ta : TA) : TI := fun σ H R => ta σ H fun vs H1 => ∃ x, vs = [.str x] ∧ R (Ites x) H1
theorem pi_enumS {X : Cx} {e : Expr} {ta : TA} {p pos tpos : Pos} {elts : List Expr} {kk : Nat} (hg : Gl X "enumerate") (hm : X.mg "enumerate" = none) (ha : PA X [e] ta) (hs : starEach [e] X.env = [(false, eval e X.env)] := by rfl) :
    PI X (.Tuple elts kk tpos) (.Call (.Name "enumerate" p) [e] [] pos) (iEnumS ta) := by
  refine ⟨fun pins s σ H R I h => ?_⟩
  refine Call_ (ld_blt I hg hm boot_enumerate (PyProof.Rows.callWith_type1 (thn (ha.run pos pins s σ H _ I h) fun us s1 ⟨vs, H1, I1, r1, q1⟩ => ?_) hs rfl))
  obtain ⟨x, ex, q⟩ := q1
  subst ex
  cases r1 with
  | cons r rr =>
    cases rr
    obtain ⟨t, rfl⟩ := r
    refine call_enumerate_str fun h' he hit hsz hk => wpAny_pyIter_enum he ?_
    have I2 : Inv X pins σ H1 { s1 with heap := h' } := I1.kept (t' := s1.toks) hk
    refine ⟨s1.heap.objs.size + 1, [s1.heap.objs.size + 1, s1.heap.objs.size], _, _, H1, rfl, I2, turn_enumS x t (s1.heap.objs.size + 1) s1.heap.objs.size (strIterType x) (by unfold strIterType; split <;> simp), ⟨⟨.none, he⟩, hit, Nat.succ_ne_self _, Nat.zero_le _⟩, fun b hb => ?_, q⟩
    have e' : b = s1.heap.objs.size + 1 ∨ b = s1.heap.objs.size := by simpa using hb
    have hle : s1.heap.objs.size ≤ b := by
      rcases e' with z | z
      · rw [z]; exact Nat.le_add_right _ _
      · rw [z]; exact Nat.le_refl _
    exact I1.fpOk hle (I1.hok.fresh hle)
theorem walk_enumS {z : Str} : Walk (Ites z) z.cps.size (fun _ => True) (fun i H v H' => ∃ T c, v = .ref T ∧ H T = none ∧ H' = upd H T (.tup [.int (i : Nat), .str ⟨#[c]⟩]) ∧ z.cps[i]? = some c) :=
  ⟨fun _ _ hi _ => hi, fun _ _ => Nat.le_refl _, fun _ _ _ _ _ _ y => y⟩


def topS (i : Nat) : Stmt := PySem.Challenge.pw_stillroom_k15_plain_names.main.body.getD i (.Pass ⟨0, 0, 0, 0⟩)
abbrev s_codes : Stmt := topS 2
abbrev s_character : Stmt := topS 3
abbrev s_string_of : Stmt := topS 4
abbrev s_plain_name : Stmt := topS 10
abbrev s__name_parts : Stmt := topS 11
abbrev s__law_row : Stmt := topS 15
abbrev s__law_codes : Stmt := topS 19
abbrev s__law_part : Stmt := topS 20
abbrev s__law_bytes : Stmt := topS 21
abbrev s__law_clean : Stmt := topS 22
abbrev s__law_due : Stmt := topS 23
abbrev s_law : Stmt := topS 24
theorem sc_codes : FnScope ["text", "character"] ["text"] (defScope s_codes) := ⟨rfl, rfl, rfl, by decide +kernel, rfl, by decide +kernel, by decide +kernel⟩
theorem sc_character : FnScope ["code"] ["code"] (defScope s_character) := ⟨rfl, rfl, rfl, by decide +kernel, rfl, by decide +kernel, by decide +kernel⟩
theorem sc_string_of : FnScope ["data", "code"] ["data"] (defScope s_string_of) := ⟨rfl, rfl, rfl, by decide +kernel, rfl, by decide +kernel, by decide +kernel⟩
theorem sc_plain_name : FnScope ["data", "name", "part", "longer"] ["data"] (defScope s_plain_name) := ⟨rfl, rfl, rfl, by decide +kernel, rfl, by decide +kernel, by decide +kernel⟩
theorem sc__name_parts : FnScope ["data", "parts", "byte", "left_out", "part"] ["data"] (defScope s__name_parts) := ⟨rfl, rfl, rfl, by decide +kernel, rfl, by decide +kernel, by decide +kernel⟩
theorem sc__law_row : FnScope ["cell", "count", "row", "left", "k", "state"] ["cell", "count"] (defScope s__law_row) := ⟨rfl, rfl, rfl, by decide +kernel, rfl, by decide +kernel, by decide +kernel⟩
theorem sc__law_codes : FnScope ["text", "sign"] ["text"] (defScope s__law_codes) := ⟨rfl, rfl, rfl, by decide +kernel, rfl, by decide +kernel, by decide +kernel⟩
theorem sc__law_part : FnScope ["cell", "which", "size", "row", "byte"] ["cell"] (defScope s__law_part) := ⟨rfl, rfl, rfl, by decide +kernel, rfl, by decide +kernel, by decide +kernel⟩
theorem sc__law_bytes : FnScope ["script", "data", "k", "cell"] ["script"] (defScope s__law_bytes) := ⟨rfl, rfl, rfl, by decide +kernel, rfl, by decide +kernel, by decide +kernel⟩
theorem sc__law_clean : FnScope ["part", "row", "byte"] ["part"] (defScope s__law_clean) := ⟨rfl, rfl, rfl, by decide +kernel, rfl, by decide +kernel, by decide +kernel⟩
theorem sc__law_due : FnScope ["data", "parts", "byte", "kept", "part", "row", "name"] ["data"] (defScope s__law_due) := ⟨rfl, rfl, rfl, by decide +kernel, rfl, by decide +kernel, by decide +kernel⟩
theorem sc_law : FnScope ["script", "data", "given", "name"] ["script"] (defScope s_law) := ⟨rfl, rfl, rfl, by decide +kernel, rfl, by decide +kernel, by decide +kernel⟩
/-- what the top has left, as far as the walk asks of it -/
structure Txt (K : PySem.W.Frag) (mg : Str → Option Value) where
  f_codes : Addr
  fd_codes : FuncData
  F_codes : Fun K "codes" "codes" s_codes f_codes fd_codes
  b_codes : Binds K fd_codes ["text"] []
  g_codes : mg "codes" = some (.ref f_codes)
  f_character : Addr
  fd_character : FuncData
  F_character : Fun K "character" "character" s_character f_character fd_character
  b_character : Binds K fd_character ["code"] []
  g_character : mg "character" = some (.ref f_character)
  f_string_of : Addr
  fd_string_of : FuncData
  F_string_of : Fun K "string_of" "string_of" s_string_of f_string_of fd_string_of
  b_string_of : Binds K fd_string_of ["data"] []
  g_string_of : mg "string_of" = some (.ref f_string_of)
  f_plain_name : Addr
  fd_plain_name : FuncData
  F_plain_name : Fun K "plain_name" "plain_name" s_plain_name f_plain_name fd_plain_name
  b_plain_name : Binds K fd_plain_name ["data"] []
  g_plain_name : mg "plain_name" = some (.ref f_plain_name)
  f__name_parts : Addr
  fd__name_parts : FuncData
  F__name_parts : Fun K "_name_parts" "_name_parts" s__name_parts f__name_parts fd__name_parts
  b__name_parts : Binds K fd__name_parts ["data"] []
  g__name_parts : mg "_name_parts" = some (.ref f__name_parts)
  f__law_row : Addr
  fd__law_row : FuncData
  F__law_row : Fun K "_law_row" "_law_row" s__law_row f__law_row fd__law_row
  b__law_row : Binds K fd__law_row ["cell", "count"] []
  g__law_row : mg "_law_row" = some (.ref f__law_row)
  f__law_codes : Addr
  fd__law_codes : FuncData
  F__law_codes : Fun K "_law_codes" "_law_codes" s__law_codes f__law_codes fd__law_codes
  b__law_codes : Binds K fd__law_codes ["text"] []
  g__law_codes : mg "_law_codes" = some (.ref f__law_codes)
  f__law_part : Addr
  fd__law_part : FuncData
  F__law_part : Fun K "_law_part" "_law_part" s__law_part f__law_part fd__law_part
  b__law_part : Binds K fd__law_part ["cell"] []
  g__law_part : mg "_law_part" = some (.ref f__law_part)
  f__law_bytes : Addr
  fd__law_bytes : FuncData
  F__law_bytes : Fun K "_law_bytes" "_law_bytes" s__law_bytes f__law_bytes fd__law_bytes
  b__law_bytes : Binds K fd__law_bytes ["script"] []
  g__law_bytes : mg "_law_bytes" = some (.ref f__law_bytes)
  f__law_clean : Addr
  fd__law_clean : FuncData
  F__law_clean : Fun K "_law_clean" "_law_clean" s__law_clean f__law_clean fd__law_clean
  b__law_clean : Binds K fd__law_clean ["part"] []
  g__law_clean : mg "_law_clean" = some (.ref f__law_clean)
  f__law_due : Addr
  fd__law_due : FuncData
  F__law_due : Fun K "_law_due" "_law_due" s__law_due f__law_due fd__law_due
  b__law_due : Binds K fd__law_due ["data"] []
  g__law_due : mg "_law_due" = some (.ref f__law_due)
  f_law : Addr
  fd_law : FuncData
  F_law : Fun K "law" "law" s_law f_law fd_law
  b_law : Binds K fd_law ["script"] []
  g_law : mg "law" = some (.ref f_law)
  t__CHARACTERS : Tok
  c__CHARACTERS : mg "_CHARACTERS" = some (.str " !\"#$ &'()*+,-./0123456789:;<=>?@ABCDEFGHIJKLMNOPQRSTUVWXYZ[\\]^_`abcdefghijklmnopqrstuvwxyz{|}~" t__CHARACTERS)
  t__MOST_CHARACTERS : Tok
  c__MOST_CHARACTERS : mg "_MOST_CHARACTERS" = some (.int 100 t__MOST_CHARACTERS)
  t__SLASH : Tok
  c__SLASH : mg "_SLASH" = some (.int 47 t__SLASH)
  t__BACKSLASH : Tok
  c__BACKSLASH : mg "_BACKSLASH" = some (.int 92 t__BACKSLASH)
  t__PERCENT_SIGN : Tok
  c__PERCENT_SIGN : mg "_PERCENT_SIGN" = some (.int 37 t__PERCENT_SIGN)
  z_abs : mg "abs" = none
  z_int : mg "int" = none
  z_isinstance : mg "isinstance" = none
  z_len : mg "len" = none
  z_list : mg "list" = none
  z_min : mg "min" = none
  z_ord : mg "ord" = none
  z_range : mg "range" = none
  z_str : mg "str" = none
open Lean in
local macro_rules
  | `(tactic| walk_at $s:str) => do
    let ws := (s.getString.splitOn " ").filter (· ≠ "")
    let ids (fs : List String) : Array (TSyntax `term) := (fs.map fun f => (⟨mkIdent f.toName⟩ : TSyntax `term)).toArray
    match ws with
    | "vc" :: fs => do
      let xs := ids fs
      `(tactic| simp (config := {maxSteps := 2000000}) only [tSeq, tAsg, tOp, rI, rI0, rU, tUn, tCB, tCons, tNil, tVar, tC, gName, gSub, rSetL, tRet, tRetN, tIfS, tNext, tTest, tB, tDrop, tIf, tNot, tAnd, tOr, tAndV, tOrV, tNotV, tAug, ipI, tCall, tCmp, t2I, tBreak, tCont, tLst, tTup, tBM, tBM0, rAppend, tyV_upd, rLenH, rLenT, rListH, rIxH, rIxTH, rIxS, rEqIL, rNeIL, rEqTS, rSlH, rRep, rCat, rExtend, tSl, tPart, tNoPart, rIxT, gTup, gCons, gNil, atI_c0, atI_c1, atI_c2, atI_c3, dS_int, dS_bl, isS_int, isS_bl, eqv_ii, eqv_bb, eqvAll_nil, eqvAll_cons, List.all_cons, List.all_nil, Bool.and_true, Bool.true_and, rIsiB, tnm_int, tnm_bl, tnm_str, tnm_non, tnm_ref, kb1, kb2, kb3, kb4, kb5, kb6, kb7, kb8, kb9, kb10, rEq, rNe, scal_ii, scal_ss, scal_bb, scal_nn, scal_in, scal_ni, tFor_eq, tLc_eq, iRng1, iRng2, iList, iTup, iZip, iStr, iRng3, tChain, tYes, wipe, tCallL, Int.sub_zero, Int.toNat_natCast, Int.natCast_add, cxOf, L2.start, List.map_cons, List.map_nil, List.length_cons, List.length_nil, List.reduceReplicate, List.cons_append, List.nil_append, List.append_nil, List.set_cons_zero, List.set_cons_succ, List.getElem?_cons_zero, List.getElem?_cons_succ, upd_same, upd_upd, HO.lst.injEq, HO.tup.injEq, nil_sz, Option.some.injEq, V.int.injEq, V.bl.injEq, V.ref.injEq, V.str.injEq, V.ty.injEq, exists_eq_left', exists_eq_left, exists_eq', exists_eq, Int.cast_ofNat_Int, Int.reduceEq, Int.reduceMul, Int.reduceAdd, Int.reduceSub, Int.natCast_zero, Int.mul_zero, Int.add_zero, exists_and_left, exists_and_right, List.cons.injEq, and_true, true_and, and_assoc, reduceCtorEq, false_and, and_false, exists_false, exists_const, or_false, false_or, Nat.reduceAdd, Nat.reduceSub, Int.reduceLT, Int.reduceLE, Int.reduceNeg, Int.reducePow, Int.reduceToNat, ite_true, ite_false, Bool.false_eq_true, Bool.not_true, Bool.not_false, decide_true, decide_false, if_true, if_false, tTupS, tLstS, rListS, rListT, rTupleL, rCatL, rRepS, rSlS, map_int_inj, sz1, sz2, sz3, sz4, sz5, sz6, sz8, CMul, Nat.reduceLT, Nat.reduceLeDiff, Nat.reducePow, or_true, true_or, List.length_map, List.length_append, List.length_replicate, decide_eq_true_eq, gt_iff_lt, ge_iff_le, Int.reduceGT, Int.reduceGE, ne_eq, not_true_eq_false, not_false_eq_true, Int.reduceToNat, gTupS, gLstS, iListS, iTupS, tML, tML0, rPop, mx_eq, mn_eq, Int.natCast_inj, bitAnd_m1, bitAnd_m2, bitAnd_m3, bitAnd_m4, bitAnd_m5, bitAnd_m6, bitAnd_m7, bitAnd_m8, bitAnd_m16, CDiv, toNat_mul, map_snoc, map_cat, map_setV, List.length_set, absI_eq, Bool.and_self, tAugS, rGetL, iZipS, cutV_take1, cutV_drop1, tPar, rLenSc, rIxSc, iRng2, rSumS, rSlTS, cutV_take3, rEqC, rNeC, tTrL, iEnumL, rInI, rIndexI, tDGet, tDIn, tDNotIn, sDPut, iEnumS, tDc_eq, eq_self, rEqTK, rNeSK, rIsiTK, iRevS, iZipTS, rInLC, rNotInLC, rNotInTC, tJoinC, $[$xs:term],*])
    | "w" :: fs => do
      let xs := ids fs
      let ys := (fs.map fun f => (⟨mkIdent f.toName⟩ : TSyntax `term)).toArray
      `(tactic| simp (config := {maxSteps := 2000000}) only [tSeq, tAsg, tOp, rI, rI0, rU, tUn, tCB, tCons, tNil, tVar, tC, gName, gSub, rSetL, tRet, tRetN, tIfS, tNext, tTest, tB, tDrop, tIf, tNot, tAnd, tOr, tAndV, tOrV, tNotV, tAug, ipI, tCall, tCmp, t2I, tBreak, tCont, tLst, tTup, tBM, tBM0, rAppend, tyV_upd, rLenH, rLenT, rListH, rIxH, rIxTH, rIxS, rEqIL, rNeIL, rEqTS, rSlH, rRep, rCat, rExtend, tSl, tPart, tNoPart, rIxT, gTup, gCons, gNil, atI_c0, atI_c1, atI_c2, atI_c3, dS_int, dS_bl, isS_int, isS_bl, eqv_ii, eqv_bb, eqvAll_nil, eqvAll_cons, List.all_cons, List.all_nil, Bool.and_true, Bool.true_and, rIsiB, tnm_int, tnm_bl, tnm_str, tnm_non, tnm_ref, kb1, kb2, kb3, kb4, kb5, kb6, kb7, kb8, kb9, kb10, rEq, rNe, scal_ii, scal_ss, scal_bb, scal_nn, scal_in, scal_ni, tFor_eq, tLc_eq, iRng1, iRng2, iList, iTup, iZip, iStr, iRng3, tChain, tYes, wipe, tCallL, Int.sub_zero, Int.toNat_natCast, Int.natCast_add, cxOf, L2.start, List.map_cons, List.map_nil, List.length_cons, List.length_nil, List.reduceReplicate, List.cons_append, List.nil_append, List.append_nil, List.set_cons_zero, List.set_cons_succ, List.getElem?_cons_zero, List.getElem?_cons_succ, upd_same, upd_upd, HO.lst.injEq, HO.tup.injEq, nil_sz, Option.some.injEq, V.int.injEq, V.bl.injEq, V.ref.injEq, V.str.injEq, V.ty.injEq, exists_eq_left', exists_eq_left, exists_eq', exists_eq, Int.cast_ofNat_Int, Int.reduceEq, Int.reduceMul, Int.reduceAdd, Int.reduceSub, Int.natCast_zero, Int.mul_zero, Int.add_zero, exists_and_left, exists_and_right, List.cons.injEq, and_true, true_and, and_assoc, reduceCtorEq, false_and, and_false, exists_false, exists_const, or_false, false_or, Nat.reduceAdd, Nat.reduceSub, Int.reduceLT, Int.reduceLE, Int.reduceNeg, Int.reducePow, Int.reduceToNat, ite_true, ite_false, Bool.false_eq_true, Bool.not_true, Bool.not_false, decide_true, decide_false, if_true, if_false, tTupS, tLstS, rListS, rListT, rTupleL, rCatL, rRepS, rSlS, map_int_inj, sz1, sz2, sz3, sz4, sz5, sz6, sz8, CMul, Nat.reduceLT, Nat.reduceLeDiff, Nat.reducePow, or_true, true_or, List.length_map, List.length_append, List.length_replicate, decide_eq_true_eq, gt_iff_lt, ge_iff_le, Int.reduceGT, Int.reduceGE, ne_eq, not_true_eq_false, not_false_eq_true, Int.reduceToNat, gTupS, gLstS, iListS, iTupS, tML, tML0, rPop, mx_eq, mn_eq, Int.natCast_inj, bitAnd_m1, bitAnd_m2, bitAnd_m3, bitAnd_m4, bitAnd_m5, bitAnd_m6, bitAnd_m7, bitAnd_m8, bitAnd_m16, CDiv, toNat_mul, map_snoc, map_cat, map_setV, List.length_set, absI_eq, Bool.and_self, tAugS, rGetL, iZipS, cutV_take1, cutV_drop1, tPar, rLenSc, rIxSc, iRng2, rSumS, rSlTS, cutV_take3, rEqC, rNeC, tTrL, iEnumL, rInI, rIndexI, tDGet, tDIn, tDNotIn, sDPut, iEnumS, tDc_eq, eq_self, rEqTK, rNeSK, rIsiTK, iRevS, iZipTS, rInLC, rNotInLC, rNotInTC, tJoinC, $[$xs:term],*, $[(tyL_eq $ys)],*, $[(sqL_eq $ys)],*])
    | "g" :: fs => do
      let xs := ids fs
      `(tactic| simp only [gTupS, gCons, gNil, gName, HO.tup.injEq, Option.some.injEq, exists_eq_left', exists_eq_left, exists_eq', exists_eq, V.ref.injEq, List.cons.injEq, and_assoc, exists_and_left, exists_and_right, true_and, and_true, List.length_cons, List.length_nil, Nat.reduceAdd, List.set_cons_zero, List.set_cons_succ, $[$xs:term],*])
    | "c" :: sn :: gs => do
      let s1 := mkIdent sn.toName
      let mut out ← `(tactic| skip)
      for g in gs do
        let i := mkIdent g.toName
        out ← `(tactic| ($out; replace $i := $s1 _ _ $i))
      return out
    | "n" :: sn :: suf :: gs => do
      let s1 := mkIdent sn.toName
      let mut out ← `(tactic| skip)
      for g in gs do
        let i := mkIdent g.toName
        let j := mkIdent (g ++ suf).toName
        out ← `(tactic| ($out; have $j := $s1 _ _ $i))
      return out
    | "b" :: bn :: suf :: gs => do
      let s1 := mkIdent bn.toName
      let mut out ← `(tactic| skip)
      for g in gs do
        let i := mkIdent g.toName
        let j := mkIdent (g ++ suf).toName
        let n := mkIdent ("ne_" ++ g).toName
        out ← `(tactic| ($out; have $j := $s1 _ _ $n $i))
      return out
    | _ => Macro.throwUnsupported

section
variable {P : Program} {w : World} {K : PySem.W.Frag} {mg : Str → Option Value} {base : Heap}

theorem foldl_take {α β : Type} (f : β → α → β) (s : β) {l : List α} {i : Nat} {x : α} (h : l[i]? = some x) : (l.take (i + 1)).foldl f s = f ((l.take i).foldl f s) x := by
  rw [List.take_add_one, h, List.foldl_append]
  simp only [Option.toList_some, List.foldl_cons, List.foldl_nil]
theorem take_succ {α : Type} {l : List α} {i : Nat} {x : α} (h : l[i]? = some x) : l.take (i + 1) = l.take i ++ [x] := by
  rw [List.take_add_one, h]
  rfl
theorem take_map_succ {α β : Type} (f : α → β) {l : List α} {i : Nat} {x : α} (h : l[i]? = some x) : (l.map f).take (i + 1) = (l.map f).take i ++ [f x] := take_succ (by rw [List.getElem?_map, h]; rfl)
theorem take_lt {α : Type} (l : List α) (i : Nat) {n : Nat} (h : l.length < n) : (l.take i).length < n := Nat.lt_of_le_of_lt (by rw [List.length_take]; exact Nat.min_le_right _ _) h
def YTup (ns : List Int) : Nat → Hp → V → Hp → Prop := fun i H v H' => H' = H ∧ ∃ b, ns[i]? = some b ∧ v = .int b
theorem walkTI {K : PySem.W.Frag} {a : Addr} {ns : List Int} : Walk (Itt K a) ns.length (fun H => H a = some (.tup (List.map V.int ns))) (YTup ns) := by
  have w := walkT (K := K) (a := a) (xs := List.map V.int ns)
  rw [List.length_map] at w
  refine w.mono (fun _ h => h) fun i H x H' _ _ y => ⟨y.1, ?_⟩
  have h := y.2
  rw [List.getElem?_map] at h
  obtain ⟨b, h1, rfl⟩ := Option.map_eq_some_iff.mp h
  exact ⟨b, h1, rfl⟩
theorem foldl_len {α : Type} {f : List Int → α → List Int} (h : ∀ p c, (f p c).length = p.length) : ∀ (l : List α) (p : List Int), (l.foldl f p).length = p.length
  | [], _ => rfl
  | c :: r, p => by rw [List.foldl_cons, foldl_len h r, h]
theorem ix_in {r c w h : Nat} (hr : r < h) (hc : c < w) : r * w + c < w * h := by
  have h1 : r * w + w ≤ h * w := by rw [← Nat.succ_mul]; exact Nat.mul_le_mul_right w hr
  rw [Nat.mul_comm w h]
  omega
theorem map_set (l : List Int) (i : Nat) (v : Int) : (List.map V.int l).set i (.int v) = List.map V.int (l.set i v) := by rw [List.map_set]
theorem div_in {a d : Int} {n : Nat} (h0 : 0 ≤ a) (h1 : a < d) (hn : 1 ≤ n) : 0 ≤ a * n / d ∧ a * n / d < n := by
  refine ⟨Int.ediv_nonneg (Int.mul_nonneg h0 (by omega)) (by omega), Int.ediv_lt_of_lt_mul (by omega) ?_⟩
  rw [Int.mul_comm (n : Int) d]
  exact Int.mul_lt_mul_of_pos_right h1 (by omega)
theorem foldl_ext' {α β : Type} {f g : α → β → α} {l : List β} : ∀ {a : α}, (∀ a, ∀ b ∈ l, f a b = g a b) → l.foldl f a = l.foldl g a := by
  induction l with
  | nil => exact fun _ => rfl
  | cons x r ih => exact fun {a} h => by rw [List.foldl_cons, List.foldl_cons, h a x List.mem_cons_self]; exact ih fun a b hb => h a b (List.mem_cons_of_mem _ hb)
theorem gN_ge {src : List Int} (h : ∀ v ∈ src, -1 ≤ v) (i : Nat) : -1 ≤ gN src i := by
  unfold gN
  rw [List.getD_eq_getElem?_getD]
  cases e : src[i]? with
  | none => decide
  | some b => exact h b (List.mem_of_getElem? e)
theorem cnt_lt {n : Nat} (h : n ≤ 2000000) : n < sizeLine := Nat.lt_of_le_of_lt h (by decide)
theorem cnt_le {n : Nat} (h : n ≤ 2000000) : n ≤ sizeLine := Nat.le_of_lt (cnt_lt h)

/-! ### signs and texts -/
def chS : Str := Str.ofString " !\"#$ &'()*+,-./0123456789:;<=>?@ABCDEFGHIJKLMNOPQRSTUVWXYZ[\\]^_`abcdefghijklmnopqrstuvwxyz{|}~"
def Pl (c : Int) : Prop := 32 ≤ c ∧ c ≤ 126 ∧ c ≠ 37
def stS (ns : List Int) : Str := ⟨(ns.map Int.toNat).toArray⟩
theorem ch_at : ∀ d : _root_.Fin 95, (d : Nat) ≠ 5 → atI chS.cps.toList ((d : Nat) : Int) = some ((d : Nat) + 32) := by decide +kernel
theorem ch_at' {c : Int} (h : Pl c) : atI chS.cps.toList (c - 32) = some c.toNat := by
  have := ch_at ⟨(c - 32).toNat, by have := h.1; have := h.2.1; omega⟩ (by have := h.1; have := h.2.2; show (c - 32).toNat ≠ 5; omega)
  have e : (((c - 32).toNat : Nat) : Int) = c - 32 := by have := h.1; omega
  have e2 : (c - 32).toNat + 32 = c.toNat := by have := h.1; omega
  simp only [e, e2] at this
  exact this
theorem ch_len : (chS.length ≤ sizeLine) = True := eq_true (by decide +kernel)
def sp_character (K : PySem.W.Frag) : Sp := fun vs H Q _ => ∃ (c : Int), vs = [.int c] ∧ (Pl c) ∧ (Q (.str (oneS c.toNat)) H)
theorem ok_character (T : Txt K mg) : FnOk P w K mg base CX0 1 T.f_character T.fd_character ["code"] (sp_character K) := by
  refine T.F_character.ok sc_character (fun vs H Q E h => ?_) (fun cdv A outer s H vs Q E hr h => ?_)
  · obtain ⟨c, rfl, _⟩ := h
    rfl
  · obtain ⟨c, rfl, hc, q⟩ := h
    refine ⟨_, (pss_one (ps_ret (pe_ix ix_str (pe_glob (v := .str " !\"#$ &'()*+,-./0123456789:;<=>?@ABCDEFGHIJKLMNOPQRSTUVWXYZ[\\]^_`abcdefghijklmnopqrstuvwxyz{|}~") (by rfl) T.c__CHARACTERS ⟨_, rfl⟩) (pe_op op_sub (pv 0) pe_int) (fun _ _ => rfl)))), ?_⟩
    walk_at "vc ch_len"
    exact ⟨cnt_le (by decide +kernel), _, ch_at' hc, q⟩
def sp_codes (K : PySem.W.Frag) : Sp := fun vs H Q _ => ∃ (z : Str), vs = [.str z] ∧ (z.cps.size ≤ 1000) ∧ (∀ H' p, Same H H' → H p = none → H' p = some (.lst (List.map V.int (cds z))) → Q (.ref p) H')
theorem ok_codes (T : Txt K mg) : FnOk P w K mg base CX0 2 T.f_codes T.fd_codes ["text"] (sp_codes K) := by
  refine T.F_codes.ok sc_codes (fun vs H Q E h => ?_) (fun cdv A outer s H vs Q E hr h => ?_)
  · obtain ⟨z, rfl, _⟩ := h
    rfl
  · obtain ⟨z, rfl, hz, q⟩ := h
    refine ⟨_, (pss_one (ps_ret (pe_lc (own := [("character", 1)]) (g := (gName 1)) rfl sc_codes.nd (pi_str (pv 0)) (blkOk_by (own := [("character", 1)]) (N := ["text", "character"]) (sc := defScope s_codes) (by decide +kernel)) (fun _ _ _ _ _ => (pg_name (i := 1) sc_codes.nd rfl (Or.inl rfl))) (fun _ _ _ _ _ => pts_nil) (fun _ _ _ _ _ => (pe_callB call_ord (by rfl) T.z_ord (by decide +kernel) (pa_cons (pv 1) pa_nil)))))), ?_⟩
    walk_at "vc"
    refine lcL (walk_str (z := z)) (L := fun i => List.map V.int ((cds z).take i)) rfl (fun _ _ => True.intro) (fun D i x H1 H2 hi hD s1 g1 y => ?_) (fun pL H1 s1 n1 g1 => ?_)
    · obtain ⟨rfl, c, hc, rfl⟩ := y
      walk_at "vc g1"
      refine ⟨rfl, cnt_lt (by rw [List.length_take]; omega), same_upd2 s1 hD, ?_⟩
      rw [take_succ (cds_at hc)]
      rfl
    · rw [← cds_len, List.take_length] at g1
      exact q H1 pL s1 n1 g1
def sp_string_of (K : PySem.W.Frag) : Sp := fun vs H Q _ => ∃ (a : Addr) (ns : List Int), vs = [.ref a] ∧ (H a = some (.lst (List.map V.int ns))) ∧ (ns.length ≤ 100000) ∧ (∀ c ∈ ns, Pl c) ∧ (∀ H', Same H H' → Q (.str (stS ns)) H')
theorem ok_string_of (T : Txt K mg) : FnOk P w K mg base CX0 2 T.f_string_of T.fd_string_of ["data"] (sp_string_of K) := by
  refine T.F_string_of.ok sc_string_of (fun vs H Q E h => ?_) (fun cdv A outer s H vs Q E hr h => ?_)
  · obtain ⟨a, ns, rfl, _⟩ := h
    rfl
  · obtain ⟨a, ns, rfl, ha, hn, hp, q⟩ := h
    refine ⟨_, (pss_one (ps_ret (pe_joinC pe_str (pe_lc (own := [("code", 1)]) (g := (gName 1)) rfl sc_string_of.nd (pi_listS (pv 0)) (blkOk_by (own := [("code", 1)]) (N := ["data", "code"]) (sc := defScope s_string_of) (by decide +kernel)) (fun _ _ _ _ _ => (pg_name (i := 1) sc_string_of.nd rfl (Or.inl rfl))) (fun _ _ _ _ _ => pts_nil) (fun _ _ _ _ _ => (pe_call (ok_character T) hr (by rfl) T.g_character T.F_character.kp T.b_character .nil pass0 (pa_cons (pv 1) pa_nil))))))), ?_⟩
    walk_at "vc ha"
    refine lcL (walkI (ns := ns)) (L := fun i => (((ns.map Int.toNat).take i).map fun c => V.str (oneS c))) rfl (fun _ s => s _ _ ha) (fun D i x H1 H2 hi hD s1 g1 y => ?_) (fun pL H1 s1 n1 g1 => ?_)
    · obtain ⟨rfl, c, hc, rfl⟩ := y
      walk_at "vc g1"
      refine ⟨c, rfl, hp c (List.mem_of_getElem? hc), ?_⟩
      refine ⟨_, g1, cnt_lt (by rw [List.length_map, List.length_take, List.length_map]; omega), same_upd2 s1 hD, ?_⟩
      rw [take_map_succ Int.toNat hc, List.map_append]
      rfl
    · rw [List.take_of_length_le (by rw [List.length_map]; exact Nat.le_refl _)] at g1
      exact ⟨pL, rfl, _, g1, by rw [List.length_map]; omega, q _ s1⟩

/-! ### parts -/
theorem All2.monoM {α β : Type} {R S : α → β → Prop} {xs : List α} {ys : List β} (h : All2 R xs ys) (k : ∀ x ∈ xs, ∀ y, R x y → S x y) : All2 S xs ys := by
  induction h with
  | nil => exact .nil
  | @cons x y xs ys r t ih => exact .cons (k _ List.mem_cons_self _ r) (ih fun x hx y h => k x (List.mem_cons_of_mem _ hx) y h)
theorem All2.ex {α β : Type} {R : α → β → Prop} {xs : List α} {ys : List β} (h : All2 R xs ys) : ∀ x ∈ xs, ∃ y ∈ ys, R x y := by
  induction h with
  | nil => intro x hx; cases hx
  | @cons x y xs ys r t ih =>
    intro z hz
    rcases List.mem_cons.mp hz with rfl | hz
    · exact ⟨y, List.mem_cons_self, r⟩
    · obtain ⟨w, hw, hr⟩ := ih z hz
      exact ⟨w, List.mem_cons_of_mem _ hw, hr⟩
structure Parts (H : Hp) (P c : Addr) (done : List (List Int)) (cur : List Int) : Prop where
  ex : ∃ rs : List Addr, H P = some (.lst ((rs ++ [c]).map V.ref)) ∧ c ∉ rs ∧ All2 (fun r l => H r = some (.lst (List.map V.int l)) ∧ r ≠ P) rs done
  ne : P ≠ c
  hc : H c = some (.lst (List.map V.int cur))
theorem Parts.put {H : Hp} {P c : Addr} {done : List (List Int)} {cur : List Int} (h : Parts H P c done cur) (v : List Int) : Parts (upd H c (.lst (List.map V.int v))) P c done v := by
  obtain ⟨rs, g, h2, h3⟩ := h.ex
  exact ⟨⟨rs, by rw [upd_ne h.ne]; exact g, h2, h3.monoM fun r hr l e => ⟨by rw [upd_ne (fun z => h2 (by rw [← z]; exact hr))]; exact e.1, e.2⟩⟩, h.ne, upd_same⟩
theorem Parts.new {H H' : Hp} {P c c2 : Addr} {done : List (List Int)} {cur : List Int} (h : Parts H P c done cur) (s : Same H H') (n : H c2 = none) (g : H' c2 = some (.lst [])) :
    ∃ xs, H' P = some (.lst xs) ∧ xs.length = done.length + 1 ∧ Parts (upd H' P (.lst (xs ++ [.ref c2]))) P c2 (done ++ [cur]) [] := by
  obtain ⟨rs, gP, h2, h3⟩ := h.ex
  have nP : P ≠ c2 := fun z => by rw [← z, gP] at n; cases n
  have nc : c ≠ c2 := fun z => by rw [← z, h.hc] at n; cases n
  have nr : c2 ∉ rs := fun z => by
    obtain ⟨y, _, e, _⟩ := h3.ex c2 z
    rw [e] at n; cases n
  refine ⟨_, s _ _ gP, by rw [List.length_map, List.length_append, h3.len]; rfl, ⟨⟨rs ++ [c], by rw [upd_same, List.map_append (l₁ := rs ++ [c])]; rfl, ?_, ?_⟩, nP, by rw [upd_ne nP.symm]; exact g⟩⟩
  · intro z
    rcases List.mem_append.mp z with z | z
    · exact nr z
    · exact nc (List.mem_singleton.mp z).symm
  · refine All2.snoc (h3.mono fun r l e => ⟨by rw [upd_ne e.2]; exact s _ _ e.1, e.2⟩) ⟨by rw [upd_ne h.ne.symm]; exact s _ _ h.hc, h.ne.symm⟩
theorem Parts.same {H H' : Hp} {P c : Addr} {done : List (List Int)} {cur : List Int} (h : Parts H P c done cur) (s : Same H H') : Parts H' P c done cur := by
  obtain ⟨rs, g, h2, h3⟩ := h.ex
  exact ⟨⟨rs, s _ _ g, h2, h3.mono fun r l e => ⟨s _ _ e.1, e.2⟩⟩, h.ne, s _ _ h.hc⟩
theorem Parts.last {H : Hp} {P c : Addr} {done : List (List Int)} {cur : List Int} (h : Parts H P c done cur) : ∃ xs, H P = some (.lst xs) ∧ xs.length = done.length + 1 ∧ atI xs (-1) = some (.ref c) ∧ atI xs (done.length : Int) = some (.ref c) := by
  obtain ⟨rs, g, h2, h3⟩ := h.ex
  have hl : ((rs ++ [c]).map V.ref).length = done.length + 1 := by rw [List.length_map, List.length_append, h3.len]; rfl
  have hx : ((rs ++ [c]).map V.ref)[done.length]? = some (.ref c) := by rw [← h3.len, List.getElem?_map, List.getElem?_append_right (Nat.le_refl _), Nat.sub_self]; rfl
  refine ⟨_, g, hl, ?_, atI_nat hx⟩
  unfold atI ixN
  rw [hl, if_neg (by decide), if_pos (by omega)]
  show ((rs ++ [c]).map V.ref)[((-1 : Int) + ((done.length + 1 : Nat) : Int)).toNat]? = _
  rw [show ((-1 : Int) + ((done.length + 1 : Nat) : Int)).toNat = done.length by omega]
  exact hx
theorem Parts.all {H : Hp} {P c : Addr} {done : List (List Int)} {cur : List Int} (h : Parts H P c done cur) : LstV (LstV IntV) H (.ref P) (done ++ [cur]) := by
  obtain ⟨rs, g, h2, h3⟩ := h.ex
  refine ⟨P, _, rfl, g, ?_⟩
  have : All2 (fun r l => H r = some (.lst (List.map V.int l))) (rs ++ [c]) (done ++ [cur]) := (h3.mono fun _ _ e => e.1).snoc h.hc
  generalize rs ++ [c] = rs at this
  generalize done ++ [cur] = ds at this
  induction this with
  | nil => exact .nil
  | cons e _ ih => exact .cons (intL e) ih
/-- the bytes cut at the two signs -/
def splS (f : Int → List Int) (s : List (List Int) × List Int) (b : Int) : List (List Int) × List Int := if b = 47 ∨ b = 92 then (s.1 ++ [s.2], []) else (s.1, s.2 ++ f b)
def splF (f : Int → List Int) (ns : List Int) : List (List Int) × List Int := ns.foldl (splS f) ([], [])
theorem splF_len (f : Int → List Int) (h : ∀ b, (f b).length ≤ 1) (ns : List Int) : ∀ i, (splF f (ns.take i)).1.length ≤ i ∧ (splF f (ns.take i)).2.length ≤ i
  | 0 => ⟨Nat.le_refl _, Nat.le_refl _⟩
  | i + 1 => by
    have ih := splF_len f h ns i
    cases e : ns[i]? with
    | none =>
      have hl : ns.length ≤ i := List.getElem?_eq_none_iff.mp e
      rw [List.take_of_length_le hl] at ih
      rw [List.take_of_length_le (by omega)]
      omega
    | some b =>
      rw [show splF f (ns.take (i + 1)) = splS f (splF f (ns.take i)) b by unfold splF; rw [foldl_take _ _ e]]
      generalize splF f (ns.take i) = st at ih ⊢
      unfold splS
      split
      · exact ⟨by show (st.1 ++ [st.2]).length ≤ _; rw [List.length_append]; show _ + 1 ≤ _; omega, Nat.zero_le _⟩
      · have := h b
        exact ⟨by show st.1.length ≤ _; omega, by show (st.2 ++ f b).length ≤ _; rw [List.length_append]; omega⟩
def cl1 (b : Int) : List Int := if (32 ≤ b ∧ b ≤ 126) ∧ b ≠ 37 then [if 65 ≤ b ∧ b ≤ 90 then b + 32 else b] else []
def splA (f : Int → List Int) (ns : List Int) : List (List Int) := (splF f ns).1 ++ [(splF f ns).2]
def outL : List (List Int) := [[], [46], [46, 46]]
def prts (ns : List Int) : List (List Int) := (splA cl1 ns).filter fun l => !decide (l ∈ outL)
def sp__name_parts (K : PySem.W.Frag) : Sp := fun vs H Q _ => ∃ (a : Addr) (ns : List Int), vs = [.ref a] ∧ (H a = some (.lst (List.map V.int ns))) ∧ (ns.length ≤ 10000) ∧ (∀ H' p, Same H H' → H p = none → LstV (LstV IntV) H' (.ref p) (prts ns) → Q (.ref p) H')
theorem ok__name_parts (T : Txt K mg) : FnOk P w K mg base CX0 3 T.f__name_parts T.fd__name_parts ["data"] (sp__name_parts K) := by
  refine T.F__name_parts.ok sc__name_parts (fun vs H Q E h => ?_) (fun cdv A outer s H vs Q E hr h => ?_)
  · obtain ⟨a, ns, rfl, _⟩ := h
    rfl
  · obtain ⟨a, ns, rfl, ha, hn, q⟩ := h
    refine ⟨_, (pss_cons (ps_set (i := 1) sc__name_parts.nd rfl (Or.inl rfl) (pe_lstS (pa_cons (pe_lstS pa_nil) pa_nil)))
      (pss_cons (ps_for PassesOwn.never rfl (pi_listS (pv 0)) (pg_name (i := 2) sc__name_parts.nd rfl (Or.inl rfl)) (pss_one (ps_if (PW.pt (pw_or (pt_cmpR op_eq (pv 2) (pe_glob (v := .int 47) (by rfl) T.c__SLASH ⟨_, rfl⟩) (nomark _)) (pw_or1 (pt_cmpR op_eq (pv 2) (pe_glob (v := .int 92) (by rfl) T.c__BACKSLASH ⟨_, rfl⟩) (nomark _))))) (pss_one (ps_expr (pe_ml (pe_bm PySem.F.plainAttrs_list PySem.F.slot_list_append PySem.F.type_list_append mt_append (pe_mono (pv 1)) (pa_cons (pe_lstS pa_nil) pa_nil))))) (pss_one (ps_if (PW.pt (pw_and (pt_chain op_le op_le pe_int (pv 2) pe_int) (pw_and1 (pt_cmpR op_ne (pv 2) (pe_glob (v := .int 37) (by rfl) T.c__PERCENT_SIGN ⟨_, rfl⟩) (nomark _))))) (pss_one (ps_expr (pe_ml (pe_bm PySem.F.plainAttrs_list PySem.F.slot_list_append PySem.F.type_list_append mt_append (pe_mono (pe_ix ix_listH (pv 1) (pe_un un_neg pe_int) (fun _ _ => rfl))) (pa_cons (pe_ifExp (pt_chain op_le op_le pe_int (pv 2) pe_int) (pe_op op_add (pv 2) pe_int) (pv 2)) pa_nil))))) pss_nil)))))
      (pss_cons (ps_set (i := 3) sc__name_parts.nd rfl (Or.inr rfl) (pe_tupS (pa_cons (pe_lstS pa_nil) (pa_cons (pe_call (ok_codes T) hr (by rfl) T.g_codes T.F_codes.kp T.b_codes .nil pass0 (pa_cons pe_str pa_nil)) (pa_cons (pe_call (ok_codes T) hr (by rfl) T.g_codes T.F_codes.kp T.b_codes .nil pass0 (pa_cons pe_str pa_nil)) pa_nil)))))
      (pss_one (ps_ret (pe_lc (own := [("part", 4)]) (g := (gName 4)) rfl sc__name_parts.nd (pi_listS (pv 1)) (blkOk_by (own := [("part", 4)]) (N := ["data", "parts", "byte", "left_out", "part"]) (sc := defScope s__name_parts) (by decide +kernel)) (fun _ _ _ _ _ => (pg_name (i := 4) sc__name_parts.nd rfl (Or.inl rfl))) (fun _ _ _ _ _ => (pts_one (pt_cmpR (op_notInTC (hu5 hr) (cod_lst cod_int) (by decide)) (pv 4) (pv 3) (by rfl)))) (fun _ _ _ _ _ => (pv 4)))))))), ?_⟩
    walk_at "vc ha"
    intro c0 H1 s1 n1 g1 pP H2 s2 n2 g2
    have nP : H pP = none := s1.free n2
    have h0 : Parts H2 pP c0 [] [] := ⟨⟨[], g2, List.not_mem_nil, .nil⟩, fun z => (by rw [← z, n2] at g1; cases g1), s2 _ _ g1⟩
    have hc1 : ∀ b, (cl1 b).length ≤ 1 := fun b => by unfold cl1; split <;> simp
    refine ⟨⟨_, (s1.trans s2) _ _ ha⟩, ?_⟩
    refine lpW (walkI (ns := ns)) (fun i σ H' => ∃ (c : Addr) (v2 : Option V), σ = [some (.ref a), some (.ref pP), v2, none, none] ∧ Same H H' ∧ H c = none ∧ Parts H' pP c (splF cl1 (ns.take i)).1 (splF cl1 (ns.take i)).2) ⟨c0, _, rfl, s1.trans s2, n1, h0⟩ (fun i σ H' _ ⟨_, _, _, sm, _⟩ => sm _ _ ha) ?_ ?_
    · rintro i x σ H' H3 hi ⟨c, v2, rfl, sm, nc, hp⟩ ⟨rfl, b, hb, rfl⟩
      have hl := splF_len cl1 hc1 ns i
      have hi' : i < ns.length := hi
      rw [show splF cl1 (ns.take (i + 1)) = splS cl1 (splF cl1 (ns.take i)) b by unfold splF; rw [foldl_take _ _ hb]]
      generalize splF cl1 (ns.take i) = st at hp hl ⊢
      obtain ⟨xs, gx, hxl, hx1, _⟩ := hp.last
      walk_at "vc gx"
      by_cases hs : b = 47 ∨ b = 92
      · rw [show splS cl1 st b = (st.1 ++ [st.2], []) by unfold splS; rw [if_pos hs]]
        have key : NewH H3 (HO.lst []) fun p H' => ∃ x, H' pP = some (HO.lst x) ∧ x.length < sizeLine ∧ Same H (upd H' pP (HO.lst (x ++ [V.ref p]))) ∧ ∃ x_1, H x_1 = none ∧ Parts (upd H' pP (HO.lst (x ++ [V.ref p]))) pP x_1 (st.1 ++ [st.2]) [] := by
          intro p H4 s4 n4 g4
          obtain ⟨xs, gx, hxl, hP⟩ := hp.new s4 n4 g4
          exact ⟨xs, gx, cnt_lt (by omega), same_upd2 (sm.trans s4) nP, p, sm.free n4, hP⟩
        refine iteP (fun z => key) fun z => iteP (fun z => key) fun z2 => absurd hs (by rintro (h | h); exact z h; exact z2 h)
      · rw [show splS cl1 st b = (st.1, st.2 ++ cl1 b) by unfold splS; rw [if_neg hs]]
        refine iteP (fun z => absurd (.inl z) hs) fun _ => iteP (fun z => absurd (.inr z) hs) fun _ => ?_
        have stay : cl1 b = [] → Same H H3 ∧ ∃ x_1, H x_1 = none ∧ Parts H3 pP x_1 st.1 (st.2 ++ cl1 b) := fun e => ⟨sm, c, nc, by rw [e, List.append_nil]; exact hp⟩
        have put : ∀ v, cl1 b = [v] → ∃ l, V.ref c = V.ref l ∧ ∃ x, H3 l = some (HO.lst x) ∧ x.length < sizeLine ∧ Same H (upd H3 l (HO.lst (x ++ [V.int v]))) ∧ ∃ x_1, H x_1 = none ∧ Parts (upd H3 l (HO.lst (x ++ [V.int v]))) pP x_1 st.1 (st.2 ++ cl1 b) := fun v e => by
          refine ⟨c, rfl, _, hp.hc, by rw [List.length_map]; exact cnt_lt (by omega), same_upd2 sm nc, c, nc, ?_⟩
          rw [map_snoc, e]
          exact hp.put _
        refine iteP (fun z1 => iteP (fun z2 => iteB (p := b ≠ 37) (by by_cases h : b = 37 <;> simp [h]) (fun z3 => ?_) fun z3 => ?_) fun z2 => ?_) fun z1 => ?_
        · refine ⟨_, hx1, c, rfl, ⟨_, hp.hc⟩, iteP (fun y1 => iteP (fun y2 => ?_) fun y2 => ?_) fun y1 => ?_⟩
          · exact put _ (by unfold cl1; rw [if_pos ⟨⟨z1, z2⟩, z3⟩, if_pos ⟨y1, y2⟩])
          · exact put _ (by unfold cl1; rw [if_pos ⟨⟨z1, z2⟩, z3⟩, if_neg fun h => y2 h.2])
          · exact put _ (by unfold cl1; rw [if_pos ⟨⟨z1, z2⟩, z3⟩, if_neg fun h => y1 h.1])
        · exact stay (by unfold cl1; rw [if_neg fun h => z3 h.2])
        · exact stay (by unfold cl1; rw [if_neg fun h => z2 h.1.2])
        · exact stay (by unfold cl1; rw [if_neg fun h => z1 h.1.1])
    · rintro σ H3 ⟨c, v2, rfl, sm, nc, hp⟩
      rw [List.take_length] at hp
      have hA := hp.all
      have hl := splF_len cl1 hc1 ns ns.length
      rw [List.take_length] at hl
      have hl1 : (splA cl1 ns).length ≤ 10001 := by unfold splA; rw [List.length_append]; show _ + 1 ≤ _; omega
      walk_at "vc"
      intro p4 H4 s4 n4 g4
      refine ⟨_, rfl, by decide +kernel, fun H5 p5 s5 n5 g5 => ⟨_, rfl, by decide +kernel, fun H6 p6 s6 n6 g6 p7 H7 s7 n7 g7 => ?_⟩⟩
      rw [show cds (Str.ofString ".") = [46] by decide +kernel] at g5
      rw [show cds (Str.ofString "..") = [46, 46] by decide +kernel] at g6
      have s37 := s4.trans (s5.trans (s6.trans s7))
      have hout : TupV (LstV IntV) H7 (.ref p7) outL := ⟨p7, _, rfl, g7, .cons (intL (ns := []) ((s5.trans (s6.trans s7)) _ _ g4)) (.cons (intL ((s6.trans s7) _ _ g5)) (.cons (intL (s7 _ _ g6)) .nil))⟩
      rw [show (splF cl1 ns).1 ++ [(splF cl1 ns).2] = splA cl1 ns from rfl] at hA
      obtain ⟨_, vs, e, gv, kv⟩ := hA
      obtain rfl := V.ref.inj e
      unfold prts at q
      generalize splA cl1 ns = A at kv hl1 q
      refine ⟨⟨_, s37 _ _ gv⟩, ?_⟩
      refine lcW (walkL (xs := vs)) (fun D i H' => Same H7 H' ∧ ∃ us, H' D = some (.lst us) ∧ us.length ≤ i ∧ All2 (LstV IntV H7) us ((A.take i).filter fun l => !decide (l ∈ outL))) (fun D H' s n g => ⟨s, [], g, Nat.le_refl _, .nil⟩) (fun _ _ _ _ _ p => p.1 _ _ (s37 _ _ gv)) (fun D i x H8 H9 hi hD p y => ?_) (fun pg H8 n8 p => ?_)
      · obtain ⟨rfl, hx⟩ := y
        obtain ⟨s8, us, gD, hul, hu⟩ := p
        obtain ⟨l, hl2, hxl⟩ := kv.at hx
        have hx7 := lsv_mono s37 _ _ hxl
        rw [take_succ hl2, List.filter_append, List.filter_cons]
        have hkl := kv.len
        walk_at "vc"
        refine ⟨l, lsv_mono s8 _ _ hx7, outL, ?_, ?_⟩
        · obtain ⟨_, ws, e, gw, kw⟩ := hout
          exact ⟨_, ws, e, s8 _ _ gw, kw.mono (lsv_mono s8)⟩
        · refine iteB (p := l ∉ outL) (by simp) (fun z => ?_) (fun z => ?_)
          · rw [if_pos (by simp [z])]
            exact ⟨_, gD, cnt_lt (by omega), same_upd2 s8 hD, by omega, hu.app (.cons hx7 .nil)⟩
          · rw [if_neg (by simpa using z), List.filter_nil, List.append_nil]
            exact ⟨s8, us, gD, by omega, hu⟩
      · obtain ⟨s8, us, gD, hul, hu⟩ := p
        rw [kv.len, List.take_length] at hu
        exact q H8 pg (sm.trans (s37.trans s8)) ((sm.trans s37).free n8) ⟨pg, us, rfl, gD, hu.mono (lsv_mono s8)⟩

/-! ### the name -/
def nmF : List (List Int) → List Int → List Int
  | [], n => n
  | r :: rs, n => if (n ++ [47] ++ r).length > 100 then n else nmF rs (n ++ [47] ++ r)
def nmA : List (List Int) → List Int
  | [] => []
  | r :: rs => nmF rs (r.take 100)
def partS : OkS := ⟨Str.ofString "part", by decide +kernel⟩
def pnm (ns : List Int) : Str := if nmA (prts ns) = [] then Str.ofString "part" else stS (nmA (prts ns))
def Cn (c : Int) : Prop := (32 ≤ c ∧ c ≤ 126) ∧ c ≠ 37 ∧ ¬ (65 ≤ c ∧ c ≤ 90) ∧ c ≠ 47 ∧ c ≠ 92
theorem spl_ok : ∀ (ns : List Int) (s : List (List Int) × List Int), (∀ l ∈ s.1, ∀ c ∈ l, Cn c) → (∀ c ∈ s.2, Cn c) → (∀ l ∈ (ns.foldl (splS cl1) s).1, ∀ c ∈ l, Cn c) ∧ ∀ c ∈ (ns.foldl (splS cl1) s).2, Cn c
  | [], _, h1, h2 => ⟨h1, h2⟩
  | b :: r, s, h1, h2 => by
    rw [List.foldl_cons]
    refine spl_ok r _ ?_ ?_
    · unfold splS
      split
      · intro l hl
        rcases List.mem_append.mp hl with h | h
        · exact h1 l h
        · rw [List.mem_singleton.mp h]; exact h2
      · exact h1
    · unfold splS
      split
      · intro c hc; cases hc
      · rename_i hb
        intro c hc
        rcases List.mem_append.mp hc with h | h
        · exact h2 c h
        · unfold cl1 at h
          split at h
          · have := List.mem_singleton.mp h
            unfold Cn
            split at this <;> omega
          · cases h
theorem prts_ok (ns : List Int) : ∀ l ∈ prts ns, l ∉ outL ∧ ∀ c ∈ l, Cn c := by
  intro l hl
  obtain ⟨h1, h2⟩ := List.mem_filter.mp hl
  obtain ⟨h3, h4⟩ := spl_ok ns ([], []) (fun l h => by cases h) (fun c h => by cases h)
  refine ⟨by simpa using h2, ?_⟩
  rcases List.mem_append.mp h1 with h | h
  · exact h3 l h
  · rw [List.mem_singleton.mp h]; exact h4
theorem spl_el {f : Int → List Int} (hf : ∀ b, (f b).length ≤ 1) (N : Nat) : ∀ (ns : List Int) (s : List (List Int) × List Int), (∀ l ∈ s.1, l.length ≤ N) → s.2.length + ns.length ≤ N → (∀ l ∈ (ns.foldl (splS f) s).1, l.length ≤ N) ∧ (ns.foldl (splS f) s).2.length ≤ N
  | [], _, h1, h2 => ⟨h1, h2⟩
  | b :: r, s, h1, h2 => by
    rw [List.length_cons] at h2
    rw [List.foldl_cons]
    refine spl_el hf N r _ ?_ ?_
    · unfold splS
      split
      · intro l hl
        rcases List.mem_append.mp hl with h | h
        · exact h1 l h
        · rw [List.mem_singleton.mp h]; omega
      · exact h1
    · unfold splS
      split
      · show 0 + r.length ≤ N; omega
      · have := hf b
        show (s.2 ++ f b).length + r.length ≤ N
        rw [List.length_append]
        omega
theorem prts_el (ns : List Int) : ∀ l ∈ prts ns, l.length ≤ ns.length := by
  intro l hl
  obtain ⟨h1, _⟩ := List.mem_filter.mp hl
  obtain ⟨h3, h4⟩ := spl_el (f := cl1) (fun b => by unfold cl1; split <;> simp) ns.length ns ([], []) (fun l h => by cases h) (by show 0 + _ ≤ _; omega)
  rcases List.mem_append.mp h1 with h | h
  · exact h3 l h
  · rw [List.mem_singleton.mp h]; exact h4
theorem Cn.pl {c : Int} (h : Cn c) : Pl c := ⟨h.1.1, h.1.2, h.2.1⟩
def sp_plain_name (K : PySem.W.Frag) : Sp := fun vs H Q _ => ∃ (a : Addr) (ns : List Int), vs = [.ref a] ∧ (H a = some (.lst (List.map V.int ns))) ∧ (ns.length ≤ 10000) ∧ (∀ H', Same H H' → Q (.str (pnm ns)) H')
theorem ok_plain_name (T : Txt K mg) : FnOk P w K mg base CX0 4 T.f_plain_name T.fd_plain_name ["data"] (sp_plain_name K) := by
  refine T.F_plain_name.ok sc_plain_name (fun vs H Q E h => ?_) (fun cdv A outer s H vs Q E hr h => ?_)
  · obtain ⟨a, ns, rfl, _⟩ := h
    rfl
  · obtain ⟨a, ns, rfl, ha, hn, q⟩ := h
    refine ⟨_, (pss_cons (ps_set (i := 1) sc_plain_name.nd rfl (Or.inl rfl) (pe_lstS pa_nil))
      (pss_cons (ps_for PassesOwn.never rfl (pi_listS (pe_call (ok__name_parts T) hr (by rfl) T.g__name_parts T.F__name_parts.kp T.b__name_parts .nil pass0 (pa_cons (pv 0) pa_nil))) (pg_name (i := 2) sc_plain_name.nd rfl (Or.inl rfl)) (pss_cons (ps_set (i := 3) sc_plain_name.nd rfl (Or.inl rfl) (pe_ifExp (pt_truthL (pv 1) (by intro _; rfl)) (pe_op op_catS (pe_op op_catS (pv 1) (pe_lstS (pa_cons (pe_glob (v := .int 47) (by rfl) T.c__SLASH ⟨_, rfl⟩) pa_nil))) (pv 2)) (pe_slice sl_listS (pv 2) po_none (po_some (pe_glob (v := .int 100) (by rfl) T.c__MOST_CHARACTERS ⟨_, rfl⟩)))))
      (pss_cons (ps_if (pt_cmpR op_gt (pe_callB call_lenH (by rfl) T.z_len PySem.boot_len (pa_cons (pv 3) pa_nil)) (pe_glob (v := .int 100) (by rfl) T.c__MOST_CHARACTERS ⟨_, rfl⟩) (nomark _)) (pss_one ps_break) pss_nil)
      (pss_one (ps_set (i := 1) sc_plain_name.nd rfl (Or.inl rfl) (pv 3))))))
      (pss_one (ps_ret (pe_ifExp (pt_truthL (pv 1) (by intro _; rfl)) (pe_call (ok_string_of T) (hr.mono (by decide)) (by rfl) T.g_string_of T.F_string_of.kp T.b_string_of .nil pass0 (pa_cons (pv 1) pa_nil)) pe_str))))), ?_⟩
    have hok := prts_ok ns
    have hel := prts_el ns
    unfold pnm at q
    refine seq_cut (fun σ H1 => ∃ p1, σ = [some (.ref a), some (.ref p1), none, none] ∧ Same H H1 ∧ H1 p1 = some (.lst [])) ?_ (fun C hC => ?_)
    rotate_left
    · walk_at "vc"
      exact fun p1 H1 s1 n1 g1 => hC _ _ ⟨p1, rfl, s1, g1⟩
    rintro σ H1 ⟨p1, rfl, s1, g1⟩
    refine seq_cut (fun σ H' => ∃ (pn : Addr) (v2 v3 : Option V) (n : List Int), σ = [some (.ref a), some (.ref pn), v2, v3] ∧ Same H H' ∧ H' pn = some (.lst (List.map V.int n)) ∧ n.length ≤ 100 ∧ (∀ c ∈ n, Pl c) ∧ nmA (prts ns) = n) ?_ (fun C hC => ?_)
    rotate_left
    · walk_at "vc"
      refine ⟨a, ns, rfl, s1 _ _ ha, hn, fun H2 p2 s2 n2 ⟨_, vs, e, g2, k2⟩ => ?_⟩
      obtain rfl := V.ref.inj e
      walk_at "vc"
      generalize prts ns = ps at k2 hok hC hel
      refine ⟨⟨_, g2⟩, lpW (walkL (xs := vs)) (fun i σ H' => ∃ (pn : Addr) (v2 v3 : Option V) (n : List Int), σ = [some (.ref a), some (.ref pn), v2, v3] ∧ Same H2 H' ∧ H' pn = some (.lst (List.map V.int n)) ∧ n.length ≤ 100 ∧ (∀ c ∈ n, Pl c) ∧ ((i = 0 ∧ n = []) ∨ (n ≠ [] ∧ nmA ps = nmF (ps.drop i) n))) ⟨p1, _, _, [], rfl, Same.refl _, s2 _ _ g1, Nat.zero_le _, (fun c h => by cases h), .inl ⟨rfl, rfl⟩⟩ ?_ ?_ ?_⟩
      · rintro i σ H' _ ⟨_, _, _, _, _, sm, _⟩
        exact sm _ _ g2
      · rintro i x σ H' H3 hi ⟨pn, v2, v3, n, rfl, sm, gn, hnl, hnp, hinv⟩ ⟨rfl, hx⟩
        obtain ⟨l, hl, _, us, rfl, gl2, kl⟩ := k2.at hx
        obtain rfl := ints_of kl
        have gl := sm _ _ gl2
        obtain ⟨hlo, hlc⟩ := hok l (List.mem_of_getElem? hl)
        have hdr : ps.drop i = l :: ps.drop (i + 1) := by
          rw [List.drop_eq_getElem_cons (List.getElem?_eq_some_iff.mp hl).1, (List.getElem?_eq_some_iff.mp hl).2]
        have hlne : l ≠ [] := fun z => hlo (by rw [z]; exact List.mem_cons_self)
        have hlp : ∀ c ∈ l, Pl c := fun c hc => (hlc c hc).pl
        rw [hdr] at hinv
        have hll := hel l (List.mem_of_getElem? hl)
        have fin : ∀ (n' : List Int) (H' : Hp) (p : Addr), Same H2 H' → H' p = some (.lst (List.map V.int n')) → n'.length ≤ 100 → (∀ c ∈ n', Pl c) → n' ≠ [] → nmA ps = nmF (List.drop (i + 1) ps) n' → Same H2 H' ∧ ∃ x, H' p = some (HO.lst (List.map V.int x)) ∧ x.length ≤ 100 ∧ (∀ (c : Int), c ∈ x → Pl c) ∧ ¬x = [] ∧ nmA ps = nmF (List.drop (i + 1) ps) x := fun n' H' p a b c d e f => ⟨a, n', b, c, d, e, f⟩
        walk_at "vc gn gl"
        refine iteP (fun z => ?_) (fun z => ?_)
        · have hne : n ≠ [] := fun e => by rw [e] at z; exact absurd z (by decide)
          have hinv := (hinv.resolve_left fun h => hne h.2).2
          intro p4 H4 s4 n4 g4
          refine ⟨_, s4 _ _ gn, _, g4, by rw [List.length_map]; exact cnt_le (show _ + 1 ≤ _ by omega), fun p5 H5 s5 n5 g5 => ?_⟩
          rw [show List.map V.int n ++ [V.int 47] = List.map V.int (n ++ [47]) by rw [List.map_append]; rfl] at g5
          have gl5 := (s4.trans s5) _ _ gl
          refine ⟨_, g5, _, gl5, by rw [List.length_map, List.length_map, List.length_append]; exact cnt_le (show n.length + 1 + l.length ≤ _ by omega), fun p6 H6 s6 n6 g6 => ?_⟩
          rw [map_cat] at g6
          have s36 := s4.trans (s5.trans s6)
          rw [nmF] at hinv
          refine ⟨_, g6, ?_⟩
          rw [List.length_map]
          refine iteP (fun y => ?_) (fun y => ?_)
          · rw [if_pos (by omega)] at hinv
            exact hC _ _ ⟨pn, _, _, n, rfl, s1.trans (s2.trans (sm.trans s36)), s36 _ _ gn, hnl, hnp, hinv⟩
          · rw [if_neg (by omega)] at hinv
            refine fin _ H6 p6 (sm.trans s36) g6 (by omega) (fun c hc => ?_) (by simp) hinv
            rcases List.mem_append.mp hc with h | h
            · rcases List.mem_append.mp h with h | h
              · exact hnp c h
              · rw [List.mem_singleton.mp h]; exact ⟨by decide, by decide, by decide⟩
            · exact hlp c h
        · have hn0 : n = [] := List.eq_nil_of_length_eq_zero (by omega)
          obtain ⟨hi0, _⟩ := hinv.resolve_right fun h => h.1 hn0
          intro p4 H4 s4 n4 g4
          rw [show (100 : Int) = ((100 : Nat) : Int) from rfl, cutI_take] at g4
          have h100 : (l.take 100).length ≤ 100 := by rw [List.length_take]; omega
          refine ⟨_, g4, ?_⟩
          rw [List.length_map]
          refine iteP (fun y => absurd y (by omega)) fun _ => fin _ H4 p4 (sm.trans s4) g4 h100 (fun c hc => hlp c (List.mem_of_mem_take hc)) ?_ ?_
          · intro e
            have : (l.take 100).length = 0 := by rw [e]; rfl
            rw [List.length_take] at this
            exact hlne (List.eq_nil_of_length_eq_zero (by omega))
          · rw [hi0] at hdr ⊢
            rw [List.drop_zero] at hdr
            rw [hdr]
            rfl
      · rintro σ H' ⟨pn, v2, v3, n, rfl, sm, gn, hnl, hnp, hinv⟩
        rw [k2.len] at hinv
        refine hC _ _ ⟨pn, v2, v3, n, rfl, s1.trans (s2.trans sm), gn, hnl, hnp, ?_⟩
        rcases hinv with ⟨h0, rfl⟩ | ⟨_, h⟩
        · rw [List.eq_nil_of_length_eq_zero h0]; rfl
        · rw [h, List.drop_length]; rfl
    rintro σ H2 ⟨pn, v2, v3, n, rfl, s2, g2, hnl, hnp, hnm⟩
    rw [hnm] at q
    walk_at "vc g2"
    refine iteP (fun z => ?_) (fun z => ?_)
    · rw [if_neg (fun e => by rw [e] at z; exact absurd z (by decide))] at q
      exact ⟨pn, n, rfl, g2, by omega, hnp, fun H3 s3 => q H3 (s2.trans s3)⟩
    · rw [if_pos (List.eq_nil_of_length_eq_zero (by omega))] at q
      exact q _ s2

def sp__law_row (K : PySem.W.Frag) : Sp := fun vs H Q _ => ∃ (c : Int) (n : Nat), vs = [.int c, .int (n : Int)] ∧ (n ≤ 100000) ∧ (∀ H' p ns, Same H H' → H p = none → H' p = some (.lst (List.map V.int ns)) → ns.length = n → Q (.ref p) H')
theorem ok__law_row (T : Txt K mg) : FnOk P w K mg base CX0 1 T.f__law_row T.fd__law_row ["cell", "count"] (sp__law_row K) := by
  refine T.F__law_row.ok sc__law_row (fun vs H Q E h => ?_) (fun cdv A outer s H vs Q E hr h => ?_)
  · obtain ⟨c, n, rfl, _⟩ := h
    rfl
  · obtain ⟨c, n, rfl, hn, q⟩ := h
    refine ⟨_, (pss_cons (ps_set (i := 2) sc__law_row.nd rfl (Or.inl rfl) (pe_lstS pa_nil))
      (pss_cons (ps_set (i := 3) sc__law_row.nd rfl (Or.inl rfl) (pe_callB call_abs (by rfl) T.z_abs (by decide +kernel) (pa_cons (pv 0) pa_nil)))
      (pss_cons (ps_if (pt_cmpR op_ge (pv 3) (pe_op op_pow pe_int pe_int) (nomark _)) (pss_cons (ps_for PassesOwn.never rfl (pi_range1 (by rfl) T.z_range (pa_cons (pv 1) pa_nil)) (pg_name (i := 4) sc__law_row.nd rfl (Or.inl rfl)) (pss_cons (ps_expr (pe_ml (pe_bm PySem.F.plainAttrs_list PySem.F.slot_list_append PySem.F.type_list_append mt_append (pe_mono (pv 2)) (pa_cons (pe_op op_and (pv 3) pe_int) pa_nil))))
      (pss_one (ps_set (i := 3) sc__law_row.nd rfl (Or.inl rfl) (pe_op op_shr (pv 3) pe_int)))))
      (pss_one (ps_ret (pv 2)))) pss_nil)
      (pss_cons (ps_set (i := 5) sc__law_row.nd rfl (Or.inl rfl) (pe_op op_add (pe_op op_mod (pe_callTy call_int1 (by rfl) T.z_int (by decide +kernel) (pa_cons (pv 3) pa_nil)) pe_int) pe_int))
      (pss_cons (ps_for PassesOwn.never rfl (pi_range1 (by rfl) T.z_range (pa_cons (pv 1) pa_nil)) (pg_name (i := 4) sc__law_row.nd rfl (Or.inl rfl)) (pss_cons (ps_set (i := 5) sc__law_row.nd rfl (Or.inl rfl) (pe_op op_mod (pe_callTy call_int1 (by rfl) T.z_int (by decide +kernel) (pa_cons (pe_op op_mul (pv 5) pe_int) pa_nil)) pe_int))
      (pss_one (ps_expr (pe_ml (pe_bm PySem.F.plainAttrs_list PySem.F.slot_list_append PySem.F.type_list_append mt_append (pe_mono (pv 2)) (pa_cons (pe_op op_and (pe_op op_add (pe_op op_fdiv (pv 5) pe_int) (pv 5)) pe_int) pa_nil)))))))
      (pss_one (ps_ret (pv 2)))))))), ?_⟩
    walk_at "vc"
    intro p0 H1 s1 n1 g1
    refine ⟨⟨by decide, by decide, by decide⟩, ?_⟩
    have fin : ∀ H' l, Same H H' → H' p0 = some (.lst (List.map V.int l)) → l.length = n → Q (.ref p0) H' := fun H' l s g h => q H' p0 l s n1 g h
    refine iteP (fun z => ?_) (fun z => ?_)
    · refine ⟨by omega, by omega, lpW (walkR (n := n)) (fun i σ H' => ∃ (x : Int) (v4 v5 : Option V) (l : List Int), σ = [some (.int c), some (.int (n : Int)), some (.ref p0), some (.int x), v4, v5] ∧ Same H H' ∧ H' p0 = some (.lst (List.map V.int l)) ∧ l.length = i) ⟨_, _, _, [], rfl, s1, g1, rfl⟩ (fun _ _ _ _ _ => True.intro) ?_ ?_⟩
      · rintro i x σ H' H2 hi ⟨y, v4, v5, l, rfl, sm, g, hl⟩ ⟨rfl, rfl⟩
        walk_at "vc g"
        exact ⟨cnt_lt (by omega), same_upd2 sm n1, by rw [hl]⟩
      · rintro σ H' ⟨y, v4, v5, l, rfl, sm, g, hl⟩
        walk_at "vc"
        exact fin H' l sm g hl
    · refine ⟨by omega, by omega, lpW (walkR (n := n)) (fun i σ H' => ∃ (x : Int) (v4 : Option V) (y : Int) (l : List Int), σ = [some (.int c), some (.int (n : Int)), some (.ref p0), some (.int x), v4, some (.int y)] ∧ Same H H' ∧ H' p0 = some (.lst (List.map V.int l)) ∧ l.length = i) ⟨_, _, _, [], rfl, s1, g1, rfl⟩ (fun _ _ _ _ _ => True.intro) ?_ ?_⟩
      · rintro i x σ H' H2 hi ⟨y, v4, v5, l, rfl, sm, g, hl⟩ ⟨rfl, rfl⟩
        walk_at "vc g"
        exact ⟨cnt_lt (by omega), same_upd2 sm n1, by rw [hl]⟩
      · rintro σ H' ⟨y, v4, v5, l, rfl, sm, g, hl⟩
        walk_at "vc"
        exact fin H' l sm g hl

def sp__law_codes (K : PySem.W.Frag) : Sp := fun vs H Q _ => ∃ (z : Str), vs = [.str z] ∧ (z.cps.size ≤ 1000) ∧ (∀ H' p, Same H H' → H p = none → H' p = some (.lst (List.map V.int (cds z))) → Q (.ref p) H')
theorem ok__law_codes (T : Txt K mg) : FnOk P w K mg base CX0 1 T.f__law_codes T.fd__law_codes ["text"] (sp__law_codes K) := by
  refine T.F__law_codes.ok sc__law_codes (fun vs H Q E h => ?_) (fun cdv A outer s H vs Q E hr h => ?_)
  · obtain ⟨z, rfl, _⟩ := h
    rfl
  · obtain ⟨z, rfl, hz, q⟩ := h
    refine ⟨_, (pss_one (ps_ret (pe_lc (own := [("sign", 1)]) (g := (gName 1)) rfl sc__law_codes.nd (pi_str (pv 0)) (blkOk_by (own := [("sign", 1)]) (N := ["text", "sign"]) (sc := defScope s__law_codes) (by decide +kernel)) (fun _ _ _ _ _ => (pg_name (i := 1) sc__law_codes.nd rfl (Or.inl rfl))) (fun _ _ _ _ _ => pts_nil) (fun _ _ _ _ _ => (pe_callB call_ord (by rfl) T.z_ord (by decide +kernel) (pa_cons (pv 1) pa_nil)))))), ?_⟩
    walk_at "vc"
    refine lcL (walk_str (z := z)) (L := fun i => List.map V.int ((cds z).take i)) rfl (fun _ _ => True.intro) (fun D i x H1 H2 hi hD s1 g1 y => ?_) (fun pL H1 s1 n1 g1 => ?_)
    · obtain ⟨rfl, c, hc, rfl⟩ := y
      walk_at "vc g1"
      refine ⟨rfl, cnt_lt (by rw [List.length_take]; omega), same_upd2 s1 hD, ?_⟩
      rw [take_succ (cds_at hc)]
      rfl
    · rw [← cds_len, List.take_length] at g1
      exact q H1 pL s1 n1 g1


def sp__law_part (K : PySem.W.Frag) : Sp := fun vs H Q _ => ∃ (c : Int), vs = [.int c] ∧ (0 ≤ c) ∧ (∀ H' p xs, Same H H' → H p = none → H' p = some (.lst (List.map V.int xs)) → xs.length ≤ 130 → Q (.ref p) H')
theorem ok__law_part (T : Txt K mg) : FnOk P w K mg base CX0 2 T.f__law_part T.fd__law_part ["cell"] (sp__law_part K) := by
  refine T.F__law_part.ok sc__law_part (fun vs H Q E h => ?_) (fun cdv A outer s H vs Q E hr h => ?_)
  · obtain ⟨c, rfl, _⟩ := h
    rfl
  · obtain ⟨c, rfl, hc, q⟩ := h
    refine ⟨_, (pss_cons (ps_set (i := 1) sc__law_part.nd rfl (Or.inl rfl) (pe_op op_and (pe_callTy call_int1 (by rfl) T.z_int (by decide +kernel) (pa_cons (pv 0) pa_nil)) pe_int))
      (pss_cons (ps_set (i := 2) sc__law_part.nd rfl (Or.inl rfl) (pe_op op_mod (pe_callTy call_int1 (by rfl) T.z_int (by decide +kernel) (pa_cons (pe_op op_fdiv (pv 0) pe_int) pa_nil)) pe_int))
      (pss_cons (ps_if (pt_cmpR op_eq (pe_op op_mod (pe_callTy call_int1 (by rfl) T.z_int (by decide +kernel) (pa_cons (pe_op op_fdiv (pv 0) pe_int) pa_nil)) pe_int) pe_int (nomark _)) (pss_one (ps_set (i := 2) sc__law_part.nd rfl (Or.inl rfl) (pe_op op_add pe_int (pe_op op_mod (pe_callTy call_int1 (by rfl) T.z_int (by decide +kernel) (pa_cons (pe_op op_fdiv (pv 0) pe_int) pa_nil)) pe_int)))) pss_nil)
      (pss_cons (ps_set (i := 3) sc__law_part.nd rfl (Or.inl rfl) (pe_call (ok__law_row T) hr (by rfl) T.g__law_row T.F__law_row.kp T.b__law_row .nil pass0 (pa_cons (pe_op op_add (pe_op op_fdiv (pv 0) pe_int) pe_int) (pa_cons (pv 2) pa_nil))))
      (pss_cons (ps_if (pt_cmpR op_eq (pv 1) pe_int (nomark _)) (pss_one (ps_ret (pe_call (ok__law_codes T) hr (by rfl) T.g__law_codes T.F__law_codes.kp T.b__law_codes .nil pass0 (pa_cons (pe_ix ix_listH (pe_lstS (pa_cons pe_str (pa_cons pe_str (pa_cons pe_str (pa_cons pe_str (pa_cons pe_str (pa_cons pe_str pa_nil))))))) (pe_op op_mod (pe_callTy call_int1 (by rfl) T.z_int (by decide +kernel) (pa_cons (pe_op op_fdiv (pv 0) pe_int) pa_nil)) pe_int) (fun _ _ => rfl)) pa_nil)))) pss_nil)
      (pss_cons (ps_if (pt_cmpR op_eq (pv 1) pe_int (nomark _)) (pss_one (ps_ret (pv 3))) pss_nil)
      (pss_cons (ps_if (pt_cmpR op_eq (pv 1) pe_int (nomark _)) (pss_one (ps_ret (pe_lc (own := [("byte", 4)]) (g := (gName 4)) rfl sc__law_part.nd (pi_listS (pv 3)) (blkOk_by (own := [("byte", 4)]) (N := ["cell", "which", "size", "row", "byte"]) (sc := defScope s__law_part) (by decide +kernel)) (fun _ _ _ _ _ => (pg_name (i := 4) sc__law_part.nd rfl (Or.inl rfl))) (fun _ _ _ _ _ => pts_nil) (fun _ _ _ _ _ => (pe_op op_add pe_int (pe_op op_mod (pe_callTy call_int1 (by rfl) T.z_int (by decide +kernel) (pa_cons (pv 4) pa_nil)) pe_int)))))) pss_nil)
      (pss_one (ps_ret (pe_lc (own := [("byte", 4)]) (g := (gName 4)) rfl sc__law_part.nd (pi_listS (pv 3)) (blkOk_by (own := [("byte", 4)]) (N := ["cell", "which", "size", "row", "byte"]) (sc := defScope s__law_part) (by decide +kernel)) (fun _ _ _ _ _ => (pg_name (i := 4) sc__law_part.nd rfl (Or.inl rfl))) (fun _ _ _ _ _ => pts_nil) (fun _ _ _ _ _ => (pe_ix ix_listH (pe_call (ok__law_codes T) hr (by rfl) T.g__law_codes T.F__law_codes.kp T.b__law_codes .nil pass0 (pa_cons pe_str pa_nil)) (pe_op op_mod (pe_callTy call_int1 (by rfl) T.z_int (by decide +kernel) (pa_cons (pv 4) pa_nil)) pe_int) (fun _ _ => rfl))))))))))))), ?_⟩
    refine seq_cut (fun σ H' => σ = [some (.int c), some (.int (c % 8)), none, none, none] ∧ H = H') ?_ (fun C hC => ?_)
    rotate_left
    · walk_at "vc"
      exact hC _ _ ⟨rfl, rfl⟩
    rintro σ _ ⟨rfl, rfl⟩
    refine seq_cut (fun σ H' => ∃ n : Nat, n ≤ 120 ∧ σ = [some (.int c), some (.int (c % 8)), some (.int (n : Int)), none, none] ∧ H = H') ?_ (fun C hC => ?_)
    rotate_left
    · walk_at "vc"
      obtain ⟨n, hn⟩ := natOf (show 0 ≤ c / 8 % 12 by omega)
      rw [hn]
      exact hC _ _ ⟨n, by omega, rfl, rfl⟩
    rintro σ _ ⟨n, hn, rfl, rfl⟩
    refine seq_cut (fun σ H' => ∃ n : Nat, n ≤ 120 ∧ σ = [some (.int c), some (.int (c % 8)), some (.int (n : Int)), none, none] ∧ H = H') ?_ (fun C hC => ?_)
    rotate_left
    · walk_at "vc"
      refine iteP (fun _ => ?_) (fun _ => hC _ _ ⟨n, hn, rfl, rfl⟩)
      obtain ⟨k, hk⟩ := natOf (show 0 ≤ 40 + c / 8 % 70 by omega)
      rw [hk]
      exact hC _ _ ⟨k, by omega, rfl, rfl⟩
    rintro σ _ ⟨n, hn, rfl, rfl⟩
    walk_at "vc"
    refine ⟨_, n, rfl, by omega, fun H1 p1 l s1 n1 g1 hl => ?_⟩
    have e8 : atI [V.str (Str.ofString "."), V.str (Str.ofString ".."), V.str (Str.ofString "..."), V.str (Str.ofString ""), V.str (Str.ofString " "), V.str (Str.ofString ". ")] (c / 8 % 6) = some (.str ([Str.ofString ".", Str.ofString "..", Str.ofString "...", Str.ofString "", Str.ofString " ", Str.ofString ". "].getD (c / 8 % 6).toNat Str.empty)) := by
      obtain ⟨j, hj⟩ := natOf (show 0 ≤ c / 8 % 6 by omega)
      have hj6 : j < 6 := by omega
      rw [hj]
      refine atI_nat ?_
      match j, hj6 with
      | 0, _ => rfl
      | 1, _ => rfl
      | 2, _ => rfl
      | 3, _ => rfl
      | 4, _ => rfl
      | 5, _ => rfl
    have e9 : ([Str.ofString ".", Str.ofString "..", Str.ofString "...", Str.ofString "", Str.ofString " ", Str.ofString ". "].getD (c / 8 % 6).toNat Str.empty).cps.size ≤ 3 := by
      have : ∀ d : _root_.Fin 6, ([Str.ofString ".", Str.ofString "..", Str.ofString "...", Str.ofString "", Str.ofString " ", Str.ofString ". "].getD d Str.empty).cps.size ≤ 3 := by decide +kernel
      exact this ⟨(c / 8 % 6).toNat, by omega⟩
    generalize [Str.ofString ".", Str.ofString "..", Str.ofString "...", Str.ofString "", Str.ofString " ", Str.ofString ". "].getD (c / 8 % 6).toNat Str.empty = z at e8 e9
    refine iteP (fun _ => ?_) fun _ => iteP (fun _ => q H1 p1 l s1 n1 g1 (by omega)) fun _ => ?_
    · intro p2 H2 s2 n2 g2
      exact ⟨_, g2, _, e8, z, rfl, by omega, fun H3 p3 s3 n3 g3 => q H3 p3 _ (s1.trans (s2.trans s3)) ((s1.trans s2).free n3) g3 (by rw [cds_len]; omega)⟩
    have go : ∀ {te : TE}, (∀ (D : Addr) (i : Nat) (b : Int) (H2 : Hp), H1 D = none → Same H1 H2 → l[i]? = some b → ∀ Q' : VK, (∀ (v : Int) (H3 : Hp), Same H2 H3 → Q' (.int v) H3) → te [some (.int c), some (.int (c % 8)), some (.int (n : Int)), some (.ref p1), some (.int b)] H2 Q') →
        LcLoop (Itl K p1) (gName 4) tYes te [4] [some (.int c), some (.int (c % 8)), some (.int (n : Int)), some (.ref p1), none] H1 Q := by
      intro te hte
      refine lcW (walkI (ns := l)) (fun D i H' => Same H1 H' ∧ ∃ us : List Int, H' D = some (.lst (List.map V.int us)) ∧ us.length ≤ i) (fun D H' s n g => ⟨s, [], g, Nat.le_refl _⟩) (fun _ _ _ _ _ p => p.1 _ _ g1) (fun D i x H2 H3 hi hD p y => ?_) (fun pg H2 n2 p => ?_)
      · obtain ⟨rfl, b, hb, rfl⟩ := y
        obtain ⟨s2, us, gD, hu⟩ := p
        walk_at "vc"
        refine hte D i b _ hD s2 hb _ fun v H4 s4 => ?_
        exact ⟨_, s4 _ _ gD, by rw [List.length_map]; exact cnt_lt (by omega), same_upd2 (s2.trans s4) hD, us ++ [v], by rw [map_snoc], by rw [List.length_append]; show _ + 1 ≤ _; omega⟩
      · obtain ⟨s2, us, gD, hu⟩ := p
        exact q H2 pg us (s1.trans s2) (s1.free n2) gD (by omega)
    refine iteP (fun _ => ?_) fun _ => ?_
    · refine ⟨p1, rfl, ⟨_, g1⟩, go fun D i b H2 hD s2 hb Q' k => ?_⟩
      walk_at "vc"
      exact k _ _ (Same.refl _)
    · refine ⟨p1, rfl, ⟨_, g1⟩, go fun D i b H2 hD s2 hb Q' k => ?_⟩
      walk_at "vc"
      refine ⟨_, rfl, by decide +kernel, fun H3 p3 s3 n3 g3 => ?_⟩
      have e18 : (cds (Str.ofString "abcxyz019._- ?*~!A")).length = 18 := by decide +kernel
      exact ⟨p3, rfl, _, g3, _, at_g' (k := b % 18) (i := (b % 18).toNat) (by omega) (by omega), k _ _ s3⟩
def sp__law_clean (K : PySem.W.Frag) : Sp := fun vs H Q _ => ∃ (a : Addr) (ns : List Int), vs = [.ref a] ∧ (H a = some (.lst (List.map V.int ns))) ∧ (ns.length ≤ 10000) ∧ (∀ H' p, Same H H' → H p = none → H' p = some (.lst (List.map V.int (ns.flatMap cl1))) → Q (.ref p) H')
theorem ok__law_clean (T : Txt K mg) : FnOk P w K mg base CX0 1 T.f__law_clean T.fd__law_clean ["part"] (sp__law_clean K) := by
  refine T.F__law_clean.ok sc__law_clean (fun vs H Q E h => ?_) (fun cdv A outer s H vs Q E hr h => ?_)
  · obtain ⟨a, ns, rfl, _⟩ := h
    rfl
  · obtain ⟨a, ns, rfl, ha, hn, q⟩ := h
    refine ⟨_, (pss_cons (ps_set (i := 1) sc__law_clean.nd rfl (Or.inl rfl) (pe_lstS pa_nil))
      (pss_cons (ps_for PassesOwn.never rfl (pi_listS (pv 0)) (pg_name (i := 2) sc__law_clean.nd rfl (Or.inl rfl)) (pss_one (ps_if (pt_chain op_le op_le pe_int (pv 2) pe_int) (pss_one (ps_expr (pe_ml (pe_bm PySem.F.plainAttrs_list PySem.F.slot_list_append PySem.F.type_list_append mt_append (pe_mono (pv 1)) (pa_cons (pe_op op_add (pv 2) pe_int) pa_nil))))) (pss_one (ps_if (PW.pt (pw_and (pt_chain op_le op_le pe_int (pv 2) pe_int) (pw_and1 (pt_cmpR op_ne (pv 2) pe_int (nomark _))))) (pss_one (ps_expr (pe_ml (pe_bm PySem.F.plainAttrs_list PySem.F.slot_list_append PySem.F.type_list_append mt_append (pe_mono (pv 1)) (pa_cons (pv 2) pa_nil))))) pss_nil)))))
      (pss_one (ps_ret (pv 1))))), ?_⟩
    walk_at "vc"
    intro p1 H1 s1 n1 g1
    have ha1 := s1 _ _ ha
    walk_at "vc ha1"
    refine lpW (walkI (ns := ns)) (fun i σ H' => ∃ v2 : Option V, σ = [some (.ref a), some (.ref p1), v2] ∧ Same H H' ∧ H' p1 = some (.lst (List.map V.int ((ns.take i).flatMap cl1)))) ⟨_, rfl, s1, g1⟩ (fun i σ H' _ ⟨_, _, sm, _⟩ => sm _ _ ha) ?_ ?_
    · rintro i x σ H' H2 hi ⟨v2, rfl, sm, g⟩ ⟨rfl, b, hb, rfl⟩
      rw [take_succ hb, List.flatMap_append, List.flatMap_cons, List.flatMap_nil, List.append_nil]
      have hl : ((ns.take i).flatMap cl1).length ≤ 10000 := by
        have h : ∀ l : List Int, (l.flatMap cl1).length ≤ l.length := by
          intro l
          induction l with
          | nil => exact Nat.le_refl _
          | cons b r ih =>
            rw [List.flatMap_cons, List.length_append, List.length_cons]
            have : (cl1 b).length ≤ 1 := by unfold cl1; split <;> simp
            omega
        have := h (ns.take i)
        rw [List.length_take] at this
        omega
      generalize (ns.take i).flatMap cl1 = m at g hl ⊢
      have hz : m.length < sizeLine := cnt_lt (by omega)
      have sU : ∀ x, Same H (upd H2 p1 (.lst x)) := fun x => same_upd2 sm n1
      have app : ∀ v, cl1 b = [v] → m.length < sizeLine ∧ Same H (upd H2 p1 (HO.lst (List.map V.int (m ++ [v])))) ∧ m ++ [v] = m ++ cl1 b := fun v e => ⟨hz, sU _, by rw [e]⟩
      have non : cl1 b = [] → Same H H2 ∧ m = m ++ cl1 b := fun e => ⟨sm, by rw [e, List.append_nil]⟩
      have low : ¬ (65 ≤ b ∧ b ≤ 90) → if 32 ≤ b then (if b ≤ 126 then (if (!decide (b = 37)) = true then m.length < sizeLine ∧ Same H (upd H2 p1 (HO.lst (List.map V.int (m ++ [b])))) ∧ m ++ [b] = m ++ cl1 b else Same H H2 ∧ m = m ++ cl1 b) else Same H H2 ∧ m = m ++ cl1 b) else Same H H2 ∧ m = m ++ cl1 b := fun hu => by
        refine iteP (fun z1 => iteP (fun z2 => iteB (p := b ≠ 37) (by by_cases h : b = 37 <;> simp [h]) (fun z3 => ?_) fun z3 => ?_) fun z2 => ?_) fun z1 => ?_
        · exact app b (by unfold cl1; rw [if_pos ⟨⟨z1, z2⟩, z3⟩, if_neg hu])
        · exact non (by unfold cl1; rw [if_neg fun h => z3 h.2])
        · exact non (by unfold cl1; rw [if_neg fun h => z2 h.1.2])
        · exact non (by unfold cl1; rw [if_neg fun h => z1 h.1.1])
      walk_at "vc g"
      refine iteP (fun y1 => iteP (fun y2 => ?_) fun y2 => low fun h => y2 h.2) fun y1 => low fun h => y1 h.1
      exact app _ (by unfold cl1; rw [if_pos ⟨⟨by omega, by omega⟩, by omega⟩, if_pos ⟨y1, y2⟩])
    · rintro σ H' ⟨v2, rfl, sm, g⟩
      rw [List.take_length] at g
      walk_at "vc"
      exact q H' p1 sm n1 g

def sp__law_bytes (K : PySem.W.Frag) (a : Addr) (ns : List Int) : Sp := fun vs H Q _ => vs = [.ref a] ∧ (SqL K H a (List.map V.int ns)) ∧ (ns.length ≤ 63) ∧ (∀ H' p xs, Same H H' → H p = none → H' p = some (.lst (List.map V.int xs)) → xs.length ≤ 250 → Q (.ref p) H')
theorem ok__law_bytes (T : Txt K mg) (a : Addr) (ns : List Int) : FnOk P w K mg base CX0 3 T.f__law_bytes T.fd__law_bytes ["script"] (sp__law_bytes K a ns) := by
  refine T.F__law_bytes.ok sc__law_bytes (fun vs H Q E h => ?_) (fun cdv A outer s H vs Q E hr h => ?_)
  · obtain ⟨rfl, _⟩ := h
    rfl
  · obtain ⟨rfl, hS, hlen, q⟩ := h
    refine ⟨_, (pss_cons (ps_set (i := 1) sc__law_bytes.nd rfl (Or.inl rfl) (pe_lstS pa_nil))
      (pss_cons (ps_for PassesOwn.never rfl (pi_range1 (by rfl) T.z_range (pa_cons (pe_callB (call_min2 rfl) (by rfl) T.z_min (by decide +kernel) (pa_cons pe_int (pa_cons (pe_callB (call_lenSc a ns) (by rfl) T.z_len PySem.boot_len (pa_cons (pv 0) pa_nil)) pa_nil))) pa_nil)) (pg_name (i := 2) sc__law_bytes.nd rfl (Or.inl rfl)) (pss_cons (ps_set (i := 3) sc__law_bytes.nd rfl (Or.inl rfl) (pe_callB call_abs (by rfl) T.z_abs (by decide +kernel) (pa_cons (pe_ix (ix_sc a ns) (pv 0) (pv 2) (fun _ _ => rfl)) pa_nil)))
      (pss_cons (ps_if (PW.pt (pw_or (pt_cmpR op_gt (pv 2) pe_int (nomark _)) (pw_or1 (pt_cmpR op_eq (pe_op op_and (pe_callTy call_int1 (by rfl) T.z_int (by decide +kernel) (pa_cons (pv 3) pa_nil)) pe_int) pe_int (nomark _))))) (pss_one (ps_expr (pe_ml (pe_bm PySem.F.plainAttrs_list PySem.F.slot_list_append PySem.F.type_list_append mt_append (pe_mono (pv 1)) (pa_cons (pe_ix ix_listH (pe_lstS (pa_cons pe_int (pa_cons pe_int pa_nil))) (pe_op op_and (pe_callTy call_int1 (by rfl) T.z_int (by decide +kernel) (pa_cons (pe_op op_fdiv (pv 3) pe_int) pa_nil)) pe_int) (fun _ _ => rfl)) pa_nil))))) pss_nil)
      (pss_one (ps_set (i := 1) sc__law_bytes.nd rfl (Or.inl rfl) (pe_op op_catS (pv 1) (pe_call (ok__law_part T) hr (by rfl) T.g__law_part T.F__law_part.kp T.b__law_part .nil pass0 (pa_cons (pe_op op_fdiv (pv 3) pe_int) pa_nil))))))))
      (pss_one (ps_ret (pe_slice sl_listS (pv 1) po_none (po_some pe_int)))))), ?_⟩
    walk_at "vc"
    intro p0 H1 s1 n1 g1
    obtain ⟨N, hN⟩ := natOf (show 0 ≤ mn 6 (ns.length : Int) by unfold mn; split <;> omega)
    have hmn := (lt_mn (x := 6) (y := (ns.length : Int)) (z := (N : Int) - 1)).mp (by omega)
    rw [hN]
    refine ⟨s1.seq hS, by omega, by omega, ?_⟩
    rw [Int.toNat_natCast]
    refine lpW (walkR (n := N)) (fun i σ H2 => ∃ p v2 v3 xs, σ = [some (.ref a), some (.ref p), v2, v3] ∧ Same H H2 ∧ H p = none ∧ H2 p = some (.lst (List.map V.int xs)) ∧ xs.length ≤ 150 * i) ⟨p0, _, _, [], rfl, s1, n1, g1, Nat.le_refl _⟩ (fun _ _ _ _ _ => True.intro) ?_ ?_
    · rintro i x σ Hz H2 hi ⟨p, v2, v3, xs, rfl, sm, np, gp, hx⟩ ⟨rfl, rfl⟩
      have hS2 := sm.seq hS
      refine seq_cut (fun σ H3 => ∃ d : Int, 0 ≤ d ∧ σ = [some (.ref a), some (.ref p), some (.int (i : Int)), some (.int d)] ∧ H2 = H3) ?_ (fun C hC => ?_)
      rotate_left
      · walk_at "vc"
        exact ⟨hS2, by omega, by omega, hC _ _ ⟨_, absI_nn _, rfl, rfl⟩⟩
      rintro σ _ ⟨d, hd, rfl, rfl⟩
      refine seq_cut (fun σ H3 => ∃ xs, σ = [some (.ref a), some (.ref p), some (.int (i : Int)), some (.int d)] ∧ Same H H3 ∧ H3 p = some (.lst (List.map V.int xs)) ∧ xs.length ≤ 150 * i + 1) ?_ (fun C hC => ?_)
      rotate_left
      · have key : ∀ v H3 t, Same H2 H3 → H3 p = some (.lst t) → t = List.map V.int xs → C [some (.ref a), some (.ref p), some (.int (i : Int)), some (.int d)] (upd H3 p (.lst (t ++ [V.int v]))) := fun v H3 t s3 g e => hC _ _ ⟨xs ++ [v], rfl, same_upd2 (sm.trans s3) np, by rw [upd_same, e, map_snoc], by rw [List.length_append]; show _ + 1 ≤ _; omega⟩
        have put : NewH H2 (HO.lst [V.int 47, V.int 92]) fun p_1 H' => ∃ x, H' p_1 = some (HO.lst x) ∧ ∃ x_1, atI x (d / 2 % 2) = some x_1 ∧ ∃ x, H' p = some (HO.lst x) ∧ x.length < sizeLine ∧ C [some (V.ref a), some (V.ref p), some (V.int ↑i), some (V.int d)] (upd H' p (HO.lst (x ++ [x_1]))) := by
          intro p1 H3 s3 n3 g3
          exact ⟨_, g3, _, at_g' (ns := [47, 92]) (k := d / 2 % 2) (i := (d / 2 % 2).toNat) (by omega) (by show _ < 2; omega), _, s3 _ _ gp, by rw [List.length_map]; exact cnt_lt (by omega), key _ _ _ s3 (s3 _ _ gp) rfl⟩
        walk_at "vc gp"
        exact iteP (fun _ => put) fun _ => iteP (fun _ => put) fun _ => hC _ _ ⟨xs, rfl, sm, gp, by omega⟩
      rintro σ H3 ⟨xs3, rfl, s3, g3, hx3⟩
      walk_at "vc"
      refine ⟨_, rfl, by omega, fun H4 p4 l s4 n4 g4 hl => ⟨p4, rfl, _, s4 _ _ g3, _, g4, by rw [List.length_map, List.length_map]; exact cnt_le (by omega), fun p5 H5 s5 n5 g5 => ?_⟩⟩
      rw [map_cat] at g5
      exact ⟨s3.trans (s4.trans s5), (s3.trans s4).free n5, _, g5, by rw [List.length_append]; omega⟩
    · rintro σ H2 ⟨p, v2, v3, xs, rfl, sm, np, gp, hx⟩
      walk_at "vc gp"
      intro p3 H3 s3 n3 g3
      rw [show (250 : Int) = ((250 : Nat) : Int) from rfl, cutI_take] at g3
      exact q H3 p3 _ (sm.trans s3) (sm.free n3) g3 (by rw [List.length_take]; omega)
def one (b : Int) : List Int := [b]
theorem spl_map : ∀ (ns : List Int) (s t : List (List Int) × List Int), t.1 = s.1.map (List.flatMap cl1) → t.2 = s.2.flatMap cl1 → (ns.foldl (splS cl1) t).1 = (ns.foldl (splS one) s).1.map (List.flatMap cl1) ∧ (ns.foldl (splS cl1) t).2 = (ns.foldl (splS one) s).2.flatMap cl1
  | [], _, _, h1, h2 => ⟨h1, h2⟩
  | b :: r, s, t, h1, h2 => by
    rw [List.foldl_cons, List.foldl_cons]
    refine spl_map r _ _ ?_ ?_
    · unfold splS
      split
      · show t.1 ++ [t.2] = (s.1 ++ [s.2]).map _
        rw [h1, h2, List.map_append]; rfl
      · exact h1
    · unfold splS
      split
      · rfl
      · show t.2 ++ cl1 b = (s.2 ++ one b).flatMap cl1
        rw [h2, List.flatMap_append]
        show _ = _ ++ (cl1 b ++ [])
        rw [List.append_nil]
theorem splA_map (ns : List Int) : splA cl1 ns = (splA one ns).map (List.flatMap cl1) := by
  obtain ⟨h1, h2⟩ := spl_map ns ([], []) ([], []) rfl rfl
  unfold splA splF
  rw [h1, h2, List.map_append]
  rfl
def dueN (ns : List Int) : List Int := if nmA (prts ns) = [] then cds (Str.ofString "part") else nmA (prts ns)
def sp__law_due (K : PySem.W.Frag) : Sp := fun vs H Q _ => ∃ (a : Addr) (ns : List Int), vs = [.ref a] ∧ (H a = some (.lst (List.map V.int ns))) ∧ (ns.length ≤ 10000) ∧ (∀ H' p, Same H H' → H p = none → H' p = some (.lst (List.map V.int (dueN ns))) → Q (.ref p) H')
theorem ok__law_due (T : Txt K mg) : FnOk P w K mg base CX0 2 T.f__law_due T.fd__law_due ["data"] (sp__law_due K) := by
  refine T.F__law_due.ok sc__law_due (fun vs H Q E h => ?_) (fun cdv A outer s H vs Q E hr h => ?_)
  · obtain ⟨a, ns, rfl, _⟩ := h
    rfl
  · obtain ⟨a, ns, rfl, ha, hn, q⟩ := h
    refine ⟨_, (pss_cons (ps_set (i := 1) sc__law_due.nd rfl (Or.inl rfl) (pe_lstS (pa_cons (pe_lstS pa_nil) pa_nil)))
      (pss_cons (ps_for PassesOwn.never rfl (pi_listS (pv 0)) (pg_name (i := 2) sc__law_due.nd rfl (Or.inl rfl)) (pss_one (ps_if (PW.pt (pw_or (pt_cmpR op_eq (pv 2) pe_int (nomark _)) (pw_or1 (pt_cmpR op_eq (pv 2) pe_int (nomark _))))) (pss_one (ps_expr (pe_ml (pe_bm PySem.F.plainAttrs_list PySem.F.slot_list_append PySem.F.type_list_append mt_append (pe_mono (pv 1)) (pa_cons (pe_lstS pa_nil) pa_nil))))) (pss_one (ps_expr (pe_ml (pe_bm PySem.F.plainAttrs_list PySem.F.slot_list_append PySem.F.type_list_append mt_append (pe_mono (pe_ix ix_listH (pv 1) (pe_op op_sub (pe_callB call_lenH (by rfl) T.z_len PySem.boot_len (pa_cons (pv 1) pa_nil)) pe_int) (fun _ _ => rfl))) (pa_cons (pv 2) pa_nil))))))))
      (pss_cons (ps_set (i := 3) sc__law_due.nd rfl (Or.inl rfl) (pe_lstS pa_nil))
      (pss_cons (ps_for PassesOwn.never rfl (pi_listS (pv 1)) (pg_name (i := 4) sc__law_due.nd rfl (Or.inl rfl)) (pss_cons (ps_set (i := 5) sc__law_due.nd rfl (Or.inl rfl) (pe_call (ok__law_clean T) hr (by rfl) T.g__law_clean T.F__law_clean.kp T.b__law_clean .nil pass0 (pa_cons (pv 4) pa_nil)))
      (pss_one (ps_if (pt_cmpR (op_notInLC (hu5 hr) (cod_lst cod_int) (by decide)) (pv 5) (pe_lstS (pa_cons (pe_lstS pa_nil) (pa_cons (pe_lstS (pa_cons pe_int pa_nil)) (pa_cons (pe_lstS (pa_cons pe_int (pa_cons pe_int pa_nil))) pa_nil)))) (by rfl)) (pss_one (ps_expr (pe_ml (pe_bm PySem.F.plainAttrs_list PySem.F.slot_list_append PySem.F.type_list_append mt_append (pe_mono (pv 3)) (pa_cons (pv 5) pa_nil))))) pss_nil))))
      (pss_cons (ps_if (pt_cmpR op_eq (pe_callB call_lenH (by rfl) T.z_len PySem.boot_len (pa_cons (pv 3) pa_nil)) pe_int (nomark _)) (pss_one (ps_ret (pe_call (ok__law_codes T) hr (by rfl) T.g__law_codes T.F__law_codes.kp T.b__law_codes .nil pass0 (pa_cons pe_str pa_nil)))) pss_nil)
      (pss_cons (ps_set (i := 6) sc__law_due.nd rfl (Or.inl rfl) (pe_slice sl_listS (pe_ix ix_listH (pv 3) pe_int (fun _ _ => rfl)) po_none (po_some pe_int)))
      (pss_cons (ps_for PassesOwn.never rfl (pi_listS (pe_slice sl_listS (pv 3) (po_some pe_int) po_none)) (pg_name (i := 5) sc__law_due.nd rfl (Or.inl rfl)) (pss_cons (ps_if (pt_cmpR op_gt (pe_op op_add (pe_op op_add (pe_callB call_lenH (by rfl) T.z_len PySem.boot_len (pa_cons (pv 6) pa_nil)) pe_int) (pe_callB call_lenH (by rfl) T.z_len PySem.boot_len (pa_cons (pv 5) pa_nil))) pe_int (nomark _)) (pss_one (ps_ret (pv 6))) pss_nil)
      (pss_one (ps_set (i := 6) sc__law_due.nd rfl (Or.inl rfl) (pe_op op_catS (pe_op op_catS (pv 6) (pe_lstS (pa_cons pe_int pa_nil))) (pv 5))))))
      (pss_one (ps_ret (pv 6)))))))))), ?_⟩
    refine seq_cut (fun σ H1 => ∃ pP c0, σ = [some (.ref a), some (.ref pP), none, none, none, none, none] ∧ Same H H1 ∧ H pP = none ∧ H c0 = none ∧ Parts H1 pP c0 [] []) ?_ (fun C hC => ?_)
    rotate_left
    · walk_at "vc"
      exact fun c0 H1 s1 n1 g1 pP H2 s2 n2 g2 => hC _ _ ⟨pP, c0, rfl, s1.trans s2, s1.free n2, n1, ⟨⟨[], g2, List.not_mem_nil, .nil⟩, fun z => (by rw [← z, n2] at g1; cases g1), s2 _ _ g1⟩⟩
    rintro σ H1 ⟨pP, c0, rfl, s1, nP, nc0, h0⟩
    refine seq_cut (fun σ H' => ∃ (v2 : Option V), σ = [some (.ref a), some (.ref pP), v2, none, none, none, none] ∧ Same H H' ∧ LstV (LstV IntV) H' (.ref pP) (splA one ns)) ?_ (fun C hC => ?_)
    rotate_left
    · have ha1 := s1 _ _ ha
      walk_at "vc ha1"
      refine lpW (walkI (ns := ns)) (fun i σ H' => ∃ (c : Addr) (v2 : Option V), σ = [some (.ref a), some (.ref pP), v2, none, none, none, none] ∧ Same H H' ∧ H c = none ∧ Parts H' pP c (splF one (ns.take i)).1 (splF one (ns.take i)).2) ⟨c0, _, rfl, s1, nc0, h0⟩ (fun i σ H' _ ⟨_, _, _, sm, _⟩ => sm _ _ ha) ?_ ?_
      · rintro i x σ H' H3 hi ⟨c, v2, rfl, sm, nc, hp⟩ ⟨rfl, b, hb, rfl⟩
        have hl := splF_len one (fun b => Nat.le_refl 1) ns i
        have hi' : i < ns.length := hi
        rw [show splF one (ns.take (i + 1)) = splS one (splF one (ns.take i)) b by unfold splF; rw [foldl_take _ _ hb]]
        generalize splF one (ns.take i) = st at hp hl ⊢
        obtain ⟨xs, gx, hxl, _, hx1⟩ := hp.last
        by_cases hs : b = 47 ∨ b = 92
        · rw [show splS one st b = (st.1 ++ [st.2], []) by unfold splS; rw [if_pos hs]]
          have key : NewH H3 (HO.lst []) fun p H' => ∃ x, H' pP = some (HO.lst x) ∧ x.length < sizeLine ∧ Same H (upd H' pP (HO.lst (x ++ [V.ref p]))) ∧ ∃ x_1, H x_1 = none ∧ Parts (upd H' pP (HO.lst (x ++ [V.ref p]))) pP x_1 (st.1 ++ [st.2]) [] := by
            intro p H4 s4 n4 g4
            obtain ⟨xs, gx, hxl, hP⟩ := hp.new s4 n4 g4
            exact ⟨xs, gx, cnt_lt (by omega), same_upd2 (sm.trans s4) nP, p, sm.free n4, hP⟩
          walk_at "vc gx"
          refine iteP (fun z => key) fun z => iteP (fun z => key) fun z2 => absurd hs (by rintro (h | h); exact z h; exact z2 h)
        · rw [show splS one st b = (st.1, st.2 ++ one b) by unfold splS; rw [if_neg hs]]
          walk_at "vc gx"
          refine iteP (fun z => absurd (.inl z) hs) fun _ => iteP (fun z => absurd (.inr z) hs) fun _ => ?_
          refine ⟨.ref c, by rw [hxl]; exact (show atI xs ((st.1.length + 1 : Nat) - 1 : Int) = _ by rw [show (((st.1.length + 1 : Nat) : Int) - 1) = (st.1.length : Int) by omega]; exact hx1), c, rfl, ⟨_, hp.hc⟩, c, rfl, _, hp.hc, by rw [List.length_map]; exact cnt_lt (by omega), same_upd2 sm nc, c, nc, ?_⟩
          rw [map_snoc]
          exact hp.put _
      · rintro σ H3 ⟨c, v2, rfl, sm, nc, hp⟩
        rw [List.take_length] at hp
        exact hC _ _ ⟨v2, rfl, sm, hp.all⟩
    rintro σ H2 ⟨v2, rfl, s2, hA⟩
    have hps : prts ns = ((splA one ns).map (List.flatMap cl1)).filter fun l => !decide (l ∈ outL) := by unfold prts; rw [splA_map]
    obtain ⟨_, vs, e, gv, kv⟩ := hA
    obtain rfl := V.ref.inj e
    have hAel : ∀ l ∈ splA one ns, l.length ≤ 10000 := by
      intro l hl
      obtain ⟨h3, h4⟩ := spl_el (f := one) (fun b => Nat.le_refl 1) ns.length ns ([], []) (fun l h => by cases h) (by show 0 + _ ≤ _; omega)
      rcases List.mem_append.mp hl with h | h
      · exact Nat.le_trans (h3 l h) hn
      · rw [List.mem_singleton.mp h]; exact Nat.le_trans h4 hn
    have hAl : (splA one ns).length ≤ 10001 := by
      have := splF_len one (fun b => Nat.le_refl 1) ns ns.length
      rw [List.take_length] at this
      unfold splA; rw [List.length_append]; show _ + 1 ≤ _; omega
    have hok := prts_ok ns
    have hel := prts_el ns
    unfold dueN at q
    generalize splA one ns = A at kv hps hAel hAl
    refine seq_cut (fun σ H1 => ∃ pK, σ = [some (.ref a), some (.ref pP), v2, some (.ref pK), none, none, none] ∧ Same H2 H1 ∧ H2 pK = none ∧ H1 pK = some (.lst [])) ?_ (fun C hC => ?_)
    rotate_left
    · walk_at "vc"
      exact fun p H1 s1 n1 g1 => hC _ _ ⟨p, rfl, s1, n1, g1⟩
    rintro σ H3 ⟨pK, rfl, s3, nK, g3⟩
    refine seq_cut (fun σ H' => ∃ v4 v5, σ = [some (.ref a), some (.ref pP), v2, some (.ref pK), v4, v5, none] ∧ Same H2 H' ∧ LstV (LstV IntV) H' (.ref pK) (prts ns)) ?_ (fun C hC => ?_)
    rotate_left
    · have gv3 := s3 _ _ gv
      walk_at "vc gv3"
      refine lpW (walkL (xs := vs)) (fun i σ H' => ∃ (v4 v5 : Option V) (us : List V), σ = [some (.ref a), some (.ref pP), v2, some (.ref pK), v4, v5, none] ∧ Same H2 H' ∧ H' pK = some (.lst us) ∧ us.length ≤ i ∧ All2 (fun v l => ∃ r, v = V.ref r ∧ r ≠ pK ∧ H' r = some (.lst (List.map V.int l))) us (((A.take i).map (List.flatMap cl1)).filter fun l => !decide (l ∈ outL))) ⟨_, _, [], rfl, s3, g3, Nat.le_refl _, .nil⟩ (fun i σ H' _ ⟨_, _, _, _, sm, _⟩ => sm _ _ gv) ?_ ?_
      · rintro i x σ Hz H4 hi ⟨v4, v5, us, rfl, sm, gK, hul, hu⟩ ⟨rfl, hx⟩
        obtain ⟨l, hl, pl, us1, rfl, gl2, kl⟩ := kv.at hx
        obtain rfl := ints_of kl
        have hll := hAel l (List.mem_of_getElem? hl)
        have hvl := kv.len
        walk_at "vc"
        refine ⟨pl, l, rfl, sm _ _ gl2, hll, fun H5 p5 s5 n5 g5 => ?_⟩
        walk_at "vc"
        intro p6 H6 s6 n6 g6 p7 H7 s7 n7 g7 p8 H8 s8 n8 g8 p9 H9 s9 n9 g9
        have hout : LstV (LstV IntV) H9 (.ref p9) outL := ⟨p9, _, rfl, g9, .cons (intL (ns := []) ((s7.trans (s8.trans s9)) _ _ g6)) (.cons (intL (ns := [46]) ((s8.trans s9) _ _ g7)) (.cons (intL (ns := [46, 46]) (s9 _ _ g8)) .nil))⟩
        have s59 := s6.trans (s7.trans (s8.trans s9))
        have g59 := s59 _ _ g5
        have ne5 : p5 ≠ pK := fun z => by rw [z, gK] at n5; cases n5
        have s49 := s5.trans s59
        rw [take_succ hl, List.map_append, List.filter_append, List.map_cons, List.map_nil, List.filter_cons]
        refine ⟨_, intL g59, _, hout, iteB (p := l.flatMap cl1 ∉ outL) (by simp) (fun z => ?_) (fun z => ?_)⟩
        · rw [if_pos (by simp [z])]
          have gK9 := s49 _ _ gK
          refine ⟨⟨_, gK9⟩, _, gK9, cnt_lt (by omega), same_upd2 (sm.trans s49) nK, hul, ?_⟩
          refine (hu.mono fun v m ⟨r, e, hne, g⟩ => ⟨r, e, hne, by rw [upd_ne hne]; exact s49 _ _ g⟩).app (.cons ⟨p5, rfl, ne5, by rw [upd_ne ne5]; exact g59⟩ .nil)
        · rw [if_neg (by simpa using z), List.filter_nil, List.append_nil]
          exact ⟨sm.trans s49, us, s49 _ _ gK, by omega, hu.mono fun v m ⟨r, e, hne, g⟩ => ⟨r, e, hne, s49 _ _ g⟩⟩
      · rintro σ H4 ⟨v4, v5, us, rfl, sm, gK, hul, hu⟩
        rw [kv.len, List.take_length, ← hps] at hu
        exact hC _ _ ⟨v4, v5, rfl, sm, pK, us, rfl, gK, hu.mono fun v m ⟨r, e, _, g⟩ => by rw [e]; exact intL g⟩
    rintro σ H4 ⟨v4, v5, rfl, s4, _, ks, e, gK, kK⟩
    obtain rfl := V.ref.inj e
    generalize prts ns = ps at kK hok hel q
    have s04 := s2.trans s4
    walk_at "vc gK"
    have hkl := kK.len
    refine iteP (fun z => ?_) (fun z => ?_)
    · have hp0 : ps = [] := List.eq_nil_of_length_eq_zero (by omega)
      subst hp0
      exact ⟨_, rfl, by decide +kernel, fun H5 p5 s5 n5 g5 => q H5 p5 (s04.trans s5) (s04.free n5) g5⟩
    cases hps' : ps with
    | nil => rw [hps'] at hkl; exact absurd (by rw [hkl]; rfl) z
    | cons l0 rs =>
      subst hps'
      cases kK with
      | @cons k0 _ ks' _ h0 hr =>
        obtain ⟨p0, us0, rfl, gp0, k0⟩ := h0
        obtain rfl := ints_of k0
        have hl0 := hok l0 List.mem_cons_self
        have hl0e : l0 ≠ [] := fun z => hl0.1 (by rw [z]; exact List.mem_cons_self)
        refine ⟨_, atI_c0 _ _, p0, rfl, _, gp0, fun p5 H5 s5 n5 g5 => ⟨_, s5 _ _ gK, fun p6 H6 s6 n6 g6 => ⟨⟨_, g6⟩, ?_⟩⟩⟩
        rw [show (100 : Int) = ((100 : Nat) : Int) from rfl, cutI_take] at g5
        have g6 : H6 p6 = some (.lst ks') := g6
        have s46 := s5.trans s6
        have hend : ∀ n : List Int, n ≠ [] → nmA (l0 :: rs) = n → ∀ H' p, Same H6 H' → H p = none → H' p = some (.lst (List.map V.int n)) → Q (.ref p) H' := fun n hne hn' H' p s' n' g' => q H' p (s04.trans (s46.trans s')) n' (by rw [hn', if_neg hne]; exact g')
        refine lpW (walkL (xs := ks')) (fun i σ H' => ∃ (pn : Addr) (v5 : Option V) (n : List Int), σ = [some (.ref a), some (.ref pP), v2, some (.ref pK), v4, v5, some (.ref pn)] ∧ Same H6 H' ∧ H pn = none ∧ H' pn = some (.lst (List.map V.int n)) ∧ n ≠ [] ∧ n.length ≤ 100 ∧ nmA (l0 :: rs) = nmF (rs.drop i) n) ⟨p5, _, _, rfl, Same.refl _, s04.free n5, s6 _ _ g5, ?_, ?_, ?_⟩ (fun i σ H' _ ⟨_, _, _, _, sm, _⟩ => sm _ _ g6) ?_ ?_
        · intro e
          have : (l0.take 100).length = 0 := by rw [e]; rfl
          rw [List.length_take] at this
          exact hl0e (List.eq_nil_of_length_eq_zero (by omega))
        · rw [List.length_take]; omega
        · rw [List.drop_zero]; rfl
        · rintro i x σ Hz H7 hi ⟨pn, v5, n, rfl, sm, nn, gn, hne, hnl, hinv⟩ ⟨rfl, hx⟩
          obtain ⟨l, hl, pl, us1, rfl, gl4, kl⟩ := hr.at hx
          obtain rfl := ints_of kl
          have gl := sm _ _ (s46 _ _ gl4)
          have hll := hel l (List.mem_cons_of_mem _ (List.mem_of_getElem? hl))
          have hdr : rs.drop i = l :: rs.drop (i + 1) := by
            rw [List.drop_eq_getElem_cons (List.getElem?_eq_some_iff.mp hl).1, (List.getElem?_eq_some_iff.mp hl).2]
          rw [hdr, nmF] at hinv
          have hle : (n ++ [47] ++ l).length = n.length + 1 + l.length := by rw [List.length_append, List.length_append]; rfl
          rw [hle] at hinv
          walk_at "vc gn gl"
          refine iteP (fun z => ?_) (fun z => ?_)
          · rw [if_pos (by omega)] at hinv
            exact hend n hne hinv H7 pn sm nn gn
          · rw [if_neg (by omega)] at hinv
            intro p8 H8 s8 n8 g8
            refine ⟨_, s8 _ _ gn, _, g8, by rw [List.length_map]; exact cnt_le (show _ + 1 ≤ _ by omega), fun p9 H9 s9 n9 g9 => ?_⟩
            rw [show List.map V.int n ++ [V.int 47] = List.map V.int (n ++ [47]) by rw [List.map_append]; rfl] at g9
            refine ⟨_, g9, _, (s8.trans s9) _ _ gl, by rw [List.length_map, List.length_map, List.length_append]; exact cnt_le (show n.length + 1 + l.length ≤ _ by omega), fun p10 H10 s10 n10 g10 => ?_⟩
            rw [map_cat] at g10
            have s710 := s8.trans (s9.trans s10)
            refine ⟨sm.trans s710, (s04.trans (s46.trans (sm.trans (s8.trans s9)))).free n10, _, g10, by simp, by omega, hinv⟩
        · rintro σ H7 ⟨pn, v5, n, rfl, sm, nn, gn, hne, hnl, hinv⟩
          rw [hr.len, List.drop_length] at hinv
          walk_at "vc"
          exact hend n hne hinv H7 pn sm nn gn

/-! ### the name once more -/
def jF (n : List Int) (rs : List (List Int)) : List Int := rs.foldl (fun n r => n ++ [47] ++ r) n
theorem jF_len : ∀ (rs : List (List Int)) (n : List Int), n.length ≤ (jF n rs).length
  | [], _ => Nat.le_refl _
  | r :: rs, n => by
    have ih := jF_len rs (n ++ [47] ++ r)
    rw [List.length_append, List.length_append] at ih
    show _ ≤ (jF (n ++ [47] ++ r) rs).length
    omega
theorem nmF_jF : ∀ (rs : List (List Int)) (n : List Int), (jF n rs).length ≤ 100 → nmF rs n = jF n rs
  | [], _, _ => rfl
  | r :: rs, n, h => by
    have h2 : (jF (n ++ [47] ++ r) rs).length ≤ 100 := h
    have := jF_len rs (n ++ [47] ++ r)
    rw [nmF, if_neg (by omega), nmF_jF rs _ h2]
    rfl
theorem nmF_take : ∀ (rs : List (List Int)) (n : List Int), n.length ≤ 100 → ∃ k, nmF rs n = jF n (rs.take k) ∧ (jF n (rs.take k)).length ≤ 100
  | [], n, h => ⟨0, rfl, h⟩
  | r :: rs, n, h => by
    rw [nmF]
    by_cases c : (n ++ [47] ++ r).length > 100
    · exact ⟨0, by rw [if_pos c]; rfl, h⟩
    · obtain ⟨k, e, hk⟩ := nmF_take rs (n ++ [47] ++ r) (by omega)
      exact ⟨k + 1, by rw [if_neg c, e]; rfl, hk⟩
theorem cl1_cn {c : Int} (h : Cn c) : cl1 c = [c] := by
  unfold cl1
  rw [if_pos ⟨h.1, h.2.1⟩, if_neg h.2.2.1]
theorem fold_cn : ∀ (r : List Int) (D : List (List Int)) (c : List Int), (∀ x ∈ r, Cn x) → r.foldl (splS cl1) (D, c) = (D, c ++ r)
  | [], D, c, _ => by rw [List.append_nil]; rfl
  | x :: r, D, c, h => by
    have hx := h x List.mem_cons_self
    rw [List.foldl_cons, show splS cl1 (D, c) x = (D, c ++ [x]) by unfold splS; rw [if_neg (by have := hx.2.2.2; omega), cl1_cn hx], fold_cn r _ _ fun y hy => h y (List.mem_cons_of_mem _ hy), List.append_assoc]
    rfl
theorem fold_jF : ∀ (rs : List (List Int)) (n : List Int) (D : List (List Int)) (c : List Int), n.foldl (splS cl1) ([], []) = (D, c) → (∀ r ∈ rs, ∀ x ∈ r, Cn x) →
    ((jF n rs).foldl (splS cl1) ([], [])).1 ++ [((jF n rs).foldl (splS cl1) ([], [])).2] = D ++ [c] ++ rs
  | [], n, D, c, e, _ => by
    show (n.foldl (splS cl1) ([], [])).1 ++ [(n.foldl (splS cl1) ([], [])).2] = _
    rw [e, List.append_nil]
  | r :: rs, n, D, c, e, h => by
    have e2 : (n ++ [47] ++ r).foldl (splS cl1) ([], []) = (D ++ [c], r) := by
      rw [List.foldl_append, List.foldl_append, e, List.foldl_cons, List.foldl_nil, show splS cl1 (D, c) 47 = (D ++ [c], []) by unfold splS; rw [if_pos (.inl rfl)], fold_cn r _ _ (h r List.mem_cons_self), List.nil_append]
    have ih := fold_jF rs (n ++ [47] ++ r) (D ++ [c]) r e2 fun y hy => h y (List.mem_cons_of_mem _ hy)
    show ((jF (n ++ [47] ++ r) rs).foldl (splS cl1) ([], [])).1 ++ [((jF (n ++ [47] ++ r) rs).foldl (splS cl1) ([], [])).2] = _
    rw [ih]
    simp
theorem prts_jF {q0 : List Int} {rs : List (List Int)} (h0 : ∀ x ∈ q0, Cn x) (o0 : q0 ∉ outL) (h : ∀ r ∈ rs, r ∉ outL ∧ ∀ x ∈ r, Cn x) : prts (jF q0 rs) = q0 :: rs := by
  unfold prts splA splF
  rw [fold_jF rs q0 [] q0 (by rw [fold_cn q0 _ _ h0, List.nil_append]) fun r hr => (h r hr).2]
  show List.filter _ (q0 :: rs) = _
  refine List.filter_eq_self.mpr fun l hl => ?_
  rcases List.mem_cons.mp hl with rfl | hl
  · simpa using o0
  · simpa using (h l hl).1
theorem jF_pl : ∀ (rs : List (List Int)) (n : List Int), (∀ x ∈ n, Pl x) → (∀ r ∈ rs, ∀ x ∈ r, Cn x) → ∀ x ∈ jF n rs, Pl x
  | [], _, h, _ => h
  | r :: rs, n, h, k => jF_pl rs _ (fun x hx => by
      rcases List.mem_append.mp hx with hx | hx
      · rcases List.mem_append.mp hx with hx | hx
        · exact h x hx
        · rw [List.mem_singleton.mp hx]; exact ⟨by decide, by decide, by decide⟩
      · exact (k r List.mem_cons_self x hx).pl) fun y hy => k y (List.mem_cons_of_mem _ hy)
theorem cds_stS {n : List Int} (h : ∀ x ∈ n, Pl x) : cds (stS n) = n := by
  unfold cds stS
  show List.map _ (List.map Int.toNat n) = n
  rw [List.map_map]
  conv => rhs; rw [← List.map_id n]
  exact List.map_congr_left fun x hx => by
    have := (h x hx).1
    show ((x.toNat : Nat) : Int) = x
    omega
/-- the name of a list: its signs, its length, and it stays -/
theorem pnm_facts (ns : List Int) : cds (pnm ns) = dueN ns ∧ 1 ≤ (dueN ns).length ∧ (dueN ns).length ≤ 100 ∧ pnm (dueN ns) = pnm ns := by
  have hok := prts_ok ns
  unfold pnm dueN
  cases hp : prts ns with
  | nil =>
    exact ⟨rfl, by decide +kernel, by decide +kernel, by decide +kernel⟩
  | cons l0 rs =>
    rw [hp] at hok
    obtain ⟨o0, c0⟩ := hok l0 List.mem_cons_self
    have hl : (l0.take 100).length ≤ 100 := by rw [List.length_take]; omega
    have hc : ∀ x ∈ l0.take 100, Cn x := fun x hx => c0 x (List.mem_of_mem_take hx)
    have ho : l0.take 100 ∉ outL := by
      by_cases h : l0.length ≤ 100
      · rw [List.take_of_length_le h]; exact o0
      · intro z
        have : ∀ l ∈ outL, l.length ≤ 2 := by decide
        have := this _ z
        rw [List.length_take] at this
        omega
    obtain ⟨k, e, hk⟩ := nmF_take rs (l0.take 100) hl
    have hne : l0.take 100 ≠ [] := fun z => ho (by rw [z]; exact List.mem_cons_self)
    have e1 : nmA (l0 :: rs) = jF (l0.take 100) (rs.take k) := e
    have hrs : ∀ r ∈ rs.take k, r ∉ outL ∧ ∀ x ∈ r, Cn x := fun r hr => hok r (List.mem_cons_of_mem _ (List.mem_of_mem_take hr))
    have h1 := jF_len (rs.take k) (l0.take 100)
    have h1' : 1 ≤ (l0.take 100).length := by
      cases hz : l0.take 100 with
      | nil => exact absurd hz hne
      | cons _ _ => exact Nat.succ_pos _
    rw [e1]
    have hpl := jF_pl (rs.take k) (l0.take 100) (fun x hx => (hc x hx).pl) fun r hr => (hrs r hr).2
    have hP := prts_jF hc ho hrs
    have hnn : nmA (prts (jF (l0.take 100) (rs.take k))) = jF (l0.take 100) (rs.take k) := by
      rw [hP]
      show nmF (rs.take k) ((l0.take 100).take 100) = _
      rw [List.take_take, Nat.min_self]
      exact nmF_jF _ _ hk
    generalize jF (l0.take 100) (rs.take k) = n at hk h1 hpl hnn
    have hn : n ≠ [] := fun z => by rw [z] at h1; have h1 : (l0.take 100).length ≤ 0 := h1; omega
    rw [if_neg hn, if_neg hn]
    refine ⟨cds_stS hpl, by omega, hk, ?_⟩
    show (if nmA (prts n) = [] then _ else stS (nmA (prts n))) = _
    rw [hnn, if_neg hn]
def spLaw (K : PySem.W.Frag) : Sp := fun vs H Q _ => ∃ (a : Addr) (ns : List Int), vs = [.ref a] ∧ SqL K H a (ns.map V.int) ∧ ns.length ≤ 63 ∧ ∀ H', Q (.bl true) H'
theorem ok_law_of {f : Addr} {fd : FuncData} (F : Fun K "law" "law" s_law f fd) (T : Txt K mg) : FnOk P w K mg base CX0 5 f fd ["script"] (spLaw K) := by
  refine F.ok sc_law (fun vs H Q E h => ?_) (fun cdv A outer s H vs Q E hr h => ?_)
  · obtain ⟨a, ns, rfl, _⟩ := h
    rfl
  · obtain ⟨a, ns, rfl, hS, hlen, q⟩ := h
    refine ⟨_, (pss_cons (ps_set (i := 1) sc_law.nd rfl (Or.inl rfl) (pe_call (ok__law_bytes T a ns) (hr.mono (by decide)) (by rfl) T.g__law_bytes T.F__law_bytes.kp T.b__law_bytes .nil pass0 (pa_cons (pv 0) pa_nil)))
      (pss_cons (ps_set (i := 2) sc_law.nd rfl (Or.inl rfl) (pe_callTy call_listS (by rfl) T.z_list (by decide +kernel) (pa_cons (pv 1) pa_nil)))
      (pss_cons (ps_set (i := 3) sc_law.nd rfl (Or.inl rfl) (pe_call (ok_plain_name T) hr (by rfl) T.g_plain_name T.F_plain_name.kp T.b_plain_name .nil pass0 (pa_cons (pv 2) pa_nil)))
      (pss_cons (ps_if (PW.pt (pw_or (pt_not (pt_val (pe_callB call_isiB (by rfl) T.z_isinstance (by decide +kernel) (pa_cons (pv 3) (pa_cons (pe_bltn (v := .ty "str") (u := .type "str") (by rfl) T.z_str (by decide +kernel) rfl) pa_nil))))) (pw_or (pt_cmpR (op_neIL hr.units) (pv 2) (pv 1) (nomark _)) (pw_or1 (pt_cmpR (op_neIL hr.units) (pe_call (ok__law_codes T) (hr.mono (by decide)) (by rfl) T.g__law_codes T.F__law_codes.kp T.b__law_codes .nil pass0 (pa_cons (pv 3) pa_nil)) (pe_call (ok__law_due T) (hr.mono (by decide)) (by rfl) T.g__law_due T.F__law_due.kp T.b__law_due .nil pass0 (pa_cons (pv 1) pa_nil)) (nomark _)))))) (pss_one (ps_ret pe_bl)) pss_nil)
      (pss_cons (ps_if (PW.pt (pw_or (pt_cmpR op_lt (pe_callB call_len_str (by rfl) T.z_len PySem.boot_len (pa_cons (pv 3) pa_nil)) pe_int (nomark _)) (pw_or1 (pt_cmpR op_gt (pe_callB call_len_str (by rfl) T.z_len PySem.boot_len (pa_cons (pv 3) pa_nil)) pe_int (nomark _))))) (pss_one (ps_ret pe_bl)) pss_nil)
      (pss_one (ps_ret (pe_cmpR op_eq (pe_call (ok_plain_name T) hr (by rfl) T.g_plain_name T.F_plain_name.kp T.b_plain_name .nil pass0 (pa_cons (pe_call (ok__law_codes T) (hr.mono (by decide)) (by rfl) T.g__law_codes T.F__law_codes.kp T.b__law_codes .nil pass0 (pa_cons (pv 3) pa_nil)) pa_nil)) (pv 3) (nomark _))))))))), ?_⟩
    walk_at "vc"
    refine ⟨rfl, hS, hlen, fun H1 p1 xs s1 n1 g1 hx => ?_⟩
    walk_at "vc g1"
    intro p2 H2 s2 n2 g2
    have g12 := s2 _ _ g1
    have hnx : xs.length ≤ 10000 := by omega
    refine ⟨p2, xs, rfl, g2, hnx, fun H3 s3 => ?_⟩
    obtain ⟨f1, f2, f3, f4⟩ := pnm_facts xs
    have hz : (pnm xs).cps.size = (dueN xs).length := by rw [← f1, cds_len]
    have hzl : (pnm xs).length = (dueN xs).length := hz
    walk_at "vc"
    have s13 := s2.trans s3
    refine ⟨_, s3 _ _ g2, _, s13 _ _ g1, iteF' (by rw [decide_eq_true rfl]; rfl) ?_⟩
    refine ⟨_, rfl, by omega, fun H4 p4 s4 n4 g4 => ⟨p1, xs, rfl, (s13.trans s4) _ _ g1, hnx, fun H5 p5 s5 n5 g5 => ?_⟩⟩
    rw [f1] at g4
    refine ⟨p4, rfl, p5, rfl, _, s5 _ _ g4, _, g5, iteF' (by rw [decide_eq_true rfl]; rfl) ?_⟩
    refine ⟨cnt_le (by omega), iteP (fun z => absurd z (by omega)) fun _ => ⟨cnt_le (by omega), iteP (fun z => absurd z (by omega)) fun _ => ?_⟩⟩
    refine ⟨_, rfl, by omega, fun H6 p6 s6 n6 g6 => ?_⟩
    rw [f1] at g6
    refine ⟨p6, _, rfl, g6, by omega, fun H7 s7 => ⟨rfl, ?_⟩⟩
    rw [f4, decide_eq_true rfl]
    exact q _

end
theorem all_mk {l : PySem.W.OpenLaw} {w : World} {K : PySem.W.Frag} {h : Heap} {mg : Str → Option Value} {fa : Addr} (X : K.In h) (G : h.Ns mainGlobals mg) (hfa : mg "law" = some (.ref fa))
    {f1 : Addr} {od1 an1 : Option Addr} {sl1 : Array (Option Value)} {oc1 kV1 dc1 pm1 cd1 ct1 : Value}
    (a1 : PySem.W.nsIn K mainGlobals "codes" = some (some (.ref f1))) (l1 : K.lookup f1 = some ⟨oc1, od1, .func (PySem.W.fnOf "codes" "codes" (defArgs s_codes) (defBody s_codes) (defScope s_codes) .none kV1 dc1 pm1 an1 cd1 ct1), sl1⟩) (c1 : PySem.W.codeIn K cd1 "codes" = true) (k1 : PySem.W.keepIn K (.ref f1) = true)
    {f2 : Addr} {od2 an2 : Option Addr} {sl2 : Array (Option Value)} {oc2 kV2 dc2 pm2 cd2 ct2 : Value}
    (a2 : PySem.W.nsIn K mainGlobals "character" = some (some (.ref f2))) (l2 : K.lookup f2 = some ⟨oc2, od2, .func (PySem.W.fnOf "character" "character" (defArgs s_character) (defBody s_character) (defScope s_character) .none kV2 dc2 pm2 an2 cd2 ct2), sl2⟩) (c2 : PySem.W.codeIn K cd2 "character" = true) (k2 : PySem.W.keepIn K (.ref f2) = true)
    {f3 : Addr} {od3 an3 : Option Addr} {sl3 : Array (Option Value)} {oc3 kV3 dc3 pm3 cd3 ct3 : Value}
    (a3 : PySem.W.nsIn K mainGlobals "string_of" = some (some (.ref f3))) (l3 : K.lookup f3 = some ⟨oc3, od3, .func (PySem.W.fnOf "string_of" "string_of" (defArgs s_string_of) (defBody s_string_of) (defScope s_string_of) .none kV3 dc3 pm3 an3 cd3 ct3), sl3⟩) (c3 : PySem.W.codeIn K cd3 "string_of" = true) (k3 : PySem.W.keepIn K (.ref f3) = true)
    {f4 : Addr} {od4 an4 : Option Addr} {sl4 : Array (Option Value)} {oc4 kV4 dc4 pm4 cd4 ct4 : Value}
    (a4 : PySem.W.nsIn K mainGlobals "plain_name" = some (some (.ref f4))) (l4 : K.lookup f4 = some ⟨oc4, od4, .func (PySem.W.fnOf "plain_name" "plain_name" (defArgs s_plain_name) (defBody s_plain_name) (defScope s_plain_name) .none kV4 dc4 pm4 an4 cd4 ct4), sl4⟩) (c4 : PySem.W.codeIn K cd4 "plain_name" = true) (k4 : PySem.W.keepIn K (.ref f4) = true)
    {f5 : Addr} {od5 an5 : Option Addr} {sl5 : Array (Option Value)} {oc5 kV5 dc5 pm5 cd5 ct5 : Value}
    (a5 : PySem.W.nsIn K mainGlobals "_name_parts" = some (some (.ref f5))) (l5 : K.lookup f5 = some ⟨oc5, od5, .func (PySem.W.fnOf "_name_parts" "_name_parts" (defArgs s__name_parts) (defBody s__name_parts) (defScope s__name_parts) .none kV5 dc5 pm5 an5 cd5 ct5), sl5⟩) (c5 : PySem.W.codeIn K cd5 "_name_parts" = true) (k5 : PySem.W.keepIn K (.ref f5) = true)
    {f6 : Addr} {od6 an6 : Option Addr} {sl6 : Array (Option Value)} {oc6 kV6 dc6 pm6 cd6 ct6 : Value}
    (a6 : PySem.W.nsIn K mainGlobals "_law_row" = some (some (.ref f6))) (l6 : K.lookup f6 = some ⟨oc6, od6, .func (PySem.W.fnOf "_law_row" "_law_row" (defArgs s__law_row) (defBody s__law_row) (defScope s__law_row) .none kV6 dc6 pm6 an6 cd6 ct6), sl6⟩) (c6 : PySem.W.codeIn K cd6 "_law_row" = true) (k6 : PySem.W.keepIn K (.ref f6) = true)
    {f7 : Addr} {od7 an7 : Option Addr} {sl7 : Array (Option Value)} {oc7 kV7 dc7 pm7 cd7 ct7 : Value}
    (a7 : PySem.W.nsIn K mainGlobals "_law_codes" = some (some (.ref f7))) (l7 : K.lookup f7 = some ⟨oc7, od7, .func (PySem.W.fnOf "_law_codes" "_law_codes" (defArgs s__law_codes) (defBody s__law_codes) (defScope s__law_codes) .none kV7 dc7 pm7 an7 cd7 ct7), sl7⟩) (c7 : PySem.W.codeIn K cd7 "_law_codes" = true) (k7 : PySem.W.keepIn K (.ref f7) = true)
    {f8 : Addr} {od8 an8 : Option Addr} {sl8 : Array (Option Value)} {oc8 kV8 dc8 pm8 cd8 ct8 : Value}
    (a8 : PySem.W.nsIn K mainGlobals "_law_part" = some (some (.ref f8))) (l8 : K.lookup f8 = some ⟨oc8, od8, .func (PySem.W.fnOf "_law_part" "_law_part" (defArgs s__law_part) (defBody s__law_part) (defScope s__law_part) .none kV8 dc8 pm8 an8 cd8 ct8), sl8⟩) (c8 : PySem.W.codeIn K cd8 "_law_part" = true) (k8 : PySem.W.keepIn K (.ref f8) = true)
    {f9 : Addr} {od9 an9 : Option Addr} {sl9 : Array (Option Value)} {oc9 kV9 dc9 pm9 cd9 ct9 : Value}
    (a9 : PySem.W.nsIn K mainGlobals "_law_bytes" = some (some (.ref f9))) (l9 : K.lookup f9 = some ⟨oc9, od9, .func (PySem.W.fnOf "_law_bytes" "_law_bytes" (defArgs s__law_bytes) (defBody s__law_bytes) (defScope s__law_bytes) .none kV9 dc9 pm9 an9 cd9 ct9), sl9⟩) (c9 : PySem.W.codeIn K cd9 "_law_bytes" = true) (k9 : PySem.W.keepIn K (.ref f9) = true)
    {f10 : Addr} {od10 an10 : Option Addr} {sl10 : Array (Option Value)} {oc10 kV10 dc10 pm10 cd10 ct10 : Value}
    (a10 : PySem.W.nsIn K mainGlobals "_law_clean" = some (some (.ref f10))) (l10 : K.lookup f10 = some ⟨oc10, od10, .func (PySem.W.fnOf "_law_clean" "_law_clean" (defArgs s__law_clean) (defBody s__law_clean) (defScope s__law_clean) .none kV10 dc10 pm10 an10 cd10 ct10), sl10⟩) (c10 : PySem.W.codeIn K cd10 "_law_clean" = true) (k10 : PySem.W.keepIn K (.ref f10) = true)
    {f11 : Addr} {od11 an11 : Option Addr} {sl11 : Array (Option Value)} {oc11 kV11 dc11 pm11 cd11 ct11 : Value}
    (a11 : PySem.W.nsIn K mainGlobals "_law_due" = some (some (.ref f11))) (l11 : K.lookup f11 = some ⟨oc11, od11, .func (PySem.W.fnOf "_law_due" "_law_due" (defArgs s__law_due) (defBody s__law_due) (defScope s__law_due) .none kV11 dc11 pm11 an11 cd11 ct11), sl11⟩) (c11 : PySem.W.codeIn K cd11 "_law_due" = true) (k11 : PySem.W.keepIn K (.ref f11) = true)
    {f12 : Addr} {od12 an12 : Option Addr} {sl12 : Array (Option Value)} {oc12 kV12 dc12 pm12 cd12 ct12 : Value}
    (a12 : PySem.W.nsIn K mainGlobals "law" = some (some (.ref f12))) (l12 : K.lookup f12 = some ⟨oc12, od12, .func (PySem.W.fnOf "law" "law" (defArgs s_law) (defBody s_law) (defScope s_law) .none kV12 dc12 pm12 an12 cd12 ct12), sl12⟩) (c12 : PySem.W.codeIn K cd12 "law" = true) (k12 : PySem.W.keepIn K (.ref f12) = true)
    {t13 : Tok} (a13 : PySem.W.nsIn K mainGlobals "_CHARACTERS" = some (some (.str " !\"#$ &'()*+,-./0123456789:;<=>?@ABCDEFGHIJKLMNOPQRSTUVWXYZ[\\]^_`abcdefghijklmnopqrstuvwxyz{|}~" t13)))
    {t14 : Tok} (a14 : PySem.W.nsIn K mainGlobals "_MOST_CHARACTERS" = some (some (.int 100 t14)))
    {t15 : Tok} (a15 : PySem.W.nsIn K mainGlobals "_SLASH" = some (some (.int 47 t15)))
    {t16 : Tok} (a16 : PySem.W.nsIn K mainGlobals "_BACKSLASH" = some (some (.int 92 t16)))
    {t17 : Tok} (a17 : PySem.W.nsIn K mainGlobals "_PERCENT_SIGN" = some (some (.int 37 t17)))
    (a18 : PySem.W.nsIn K mainGlobals "abs" = some none)
    (a19 : PySem.W.nsIn K mainGlobals "int" = some none)
    (a20 : PySem.W.nsIn K mainGlobals "isinstance" = some none)
    (a21 : PySem.W.nsIn K mainGlobals "len" = some none)
    (a22 : PySem.W.nsIn K mainGlobals "list" = some none)
    (a23 : PySem.W.nsIn K mainGlobals "min" = some none)
    (a24 : PySem.W.nsIn K mainGlobals "ord" = some none)
    (a25 : PySem.W.nsIn K mainGlobals "range" = some none)
    (a26 : PySem.W.nsIn K mainGlobals "str" = some none)
    : ∃ fd : FuncData, (∀ (s : Shared) (v : Value), BindsTo s fd ⟨[v], []⟩ [("script", v)]) ∧ ∀ base : Heap, K.In base → base.Ns mainGlobals mg → FnOk l.prog w K mg base CX0 5 fa fd ["script"] (spLaw K) := by
  have e := hfa.symm.trans (PySem.W.mg_of X G a12)
  cases e
  have F1 := fun_mk (st := s_codes) l1 c1 k1
  have b1 := F1.binds (ps := ["text"]) fun _ _ _ _ _ _ us hl => match us, hl with | [_], _ => rfl
  have F2 := fun_mk (st := s_character) l2 c2 k2
  have b2 := F2.binds (ps := ["code"]) fun _ _ _ _ _ _ us hl => match us, hl with | [_], _ => rfl
  have F3 := fun_mk (st := s_string_of) l3 c3 k3
  have b3 := F3.binds (ps := ["data"]) fun _ _ _ _ _ _ us hl => match us, hl with | [_], _ => rfl
  have F4 := fun_mk (st := s_plain_name) l4 c4 k4
  have b4 := F4.binds (ps := ["data"]) fun _ _ _ _ _ _ us hl => match us, hl with | [_], _ => rfl
  have F5 := fun_mk (st := s__name_parts) l5 c5 k5
  have b5 := F5.binds (ps := ["data"]) fun _ _ _ _ _ _ us hl => match us, hl with | [_], _ => rfl
  have F6 := fun_mk (st := s__law_row) l6 c6 k6
  have b6 := F6.binds (ps := ["cell", "count"]) fun _ _ _ _ _ _ us hl => match us, hl with | [_, _], _ => rfl
  have F7 := fun_mk (st := s__law_codes) l7 c7 k7
  have b7 := F7.binds (ps := ["text"]) fun _ _ _ _ _ _ us hl => match us, hl with | [_], _ => rfl
  have F8 := fun_mk (st := s__law_part) l8 c8 k8
  have b8 := F8.binds (ps := ["cell"]) fun _ _ _ _ _ _ us hl => match us, hl with | [_], _ => rfl
  have F9 := fun_mk (st := s__law_bytes) l9 c9 k9
  have b9 := F9.binds (ps := ["script"]) fun _ _ _ _ _ _ us hl => match us, hl with | [_], _ => rfl
  have F10 := fun_mk (st := s__law_clean) l10 c10 k10
  have b10 := F10.binds (ps := ["part"]) fun _ _ _ _ _ _ us hl => match us, hl with | [_], _ => rfl
  have F11 := fun_mk (st := s__law_due) l11 c11 k11
  have b11 := F11.binds (ps := ["data"]) fun _ _ _ _ _ _ us hl => match us, hl with | [_], _ => rfl
  have F12 := fun_mk (st := s_law) l12 c12 k12
  have b12 := F12.binds (ps := ["script"]) fun _ _ _ _ _ _ us hl => match us, hl with | [_], _ => rfl
  have T : Txt K mg := ⟨f1, _, F1, b1, PySem.W.mg_of X G a1,
    f2, _, F2, b2, PySem.W.mg_of X G a2,
    f3, _, F3, b3, PySem.W.mg_of X G a3,
    f4, _, F4, b4, PySem.W.mg_of X G a4,
    f5, _, F5, b5, PySem.W.mg_of X G a5,
    f6, _, F6, b6, PySem.W.mg_of X G a6,
    f7, _, F7, b7, PySem.W.mg_of X G a7,
    f8, _, F8, b8, PySem.W.mg_of X G a8,
    f9, _, F9, b9, PySem.W.mg_of X G a9,
    f10, _, F10, b10, PySem.W.mg_of X G a10,
    f11, _, F11, b11, PySem.W.mg_of X G a11,
    fa, _, F12, b12, PySem.W.mg_of X G a12,
    t13, PySem.W.mg_of X G a13,
    t14, PySem.W.mg_of X G a14,
    t15, PySem.W.mg_of X G a15,
    t16, PySem.W.mg_of X G a16,
    t17, PySem.W.mg_of X G a17,
    PySem.W.mg_none_of X G a18,
    PySem.W.mg_none_of X G a19,
    PySem.W.mg_none_of X G a20,
    PySem.W.mg_none_of X G a21,
    PySem.W.mg_none_of X G a22,
    PySem.W.mg_none_of X G a23,
    PySem.W.mg_none_of X G a24,
    PySem.W.mg_none_of X G a25,
    PySem.W.mg_none_of X G a26⟩
  refine ⟨PySem.W.fnOf "law" "law" (defArgs s_law) (defBody s_law) (defScope s_law) .none kV12 dc12 pm12 an12 cd12 ct12, fun s v => .of_eq rfl, fun base _ _ => ?_⟩
  exact ok_law_of F12 T
end K15
open PySem PySem.W PyProof.Rows
set_option maxRecDepth 100000 in
set_option maxHeartbeats 0 in
theorem PySem.Challenge.cw_stillroom_k15_plain_names_holds : PySem.Challenge.rw_stillroom_k15_plain_names.Holds := by
  w_on; o_law; k_head; (case hw => w_witness2)
  k_fill
  refine L2.walk_of (l := PySem.Challenge.rw_stillroom_k15_plain_names) (n := 63) (k := 5) (x := "script") (CX := fun _ => L2.CX0) (sp := fun w => K15.spLaw _) rfl (by decide) rfl ⟨rfl, by decide, by decide⟩ (fun w h Y => PySem.W.kIn_of Y) ?F (fun _ _ a ns hl _ hS => ⟨a, ns, rfl, hS, hl, fun _ => rfl⟩) (fun _ _ _ _ _ h => h)
  case F =>
    intro w mg fa h KX G hmg
    refine' K15.all_mk KX G hmg ?a1 ?l1 ?c1 ?k1 ?a2 ?l2 ?c2 ?k2 ?a3 ?l3 ?c3 ?k3 ?a4 ?l4 ?c4 ?k4 ?a5 ?l5 ?c5 ?k5 ?a6 ?l6 ?c6 ?k6 ?a7 ?l7 ?c7 ?k7 ?a8 ?l8 ?c8 ?k8 ?a9 ?l9 ?c9 ?k9 ?a10 ?l10 ?c10 ?k10 ?a11 ?l11 ?c11 ?k11 ?a12 ?l12 ?c12 ?k12 ?a13 ?a14 ?a15 ?a16 ?a17 ?a18 ?a19 ?a20 ?a21 ?a22 ?a23 ?a24 ?a25 ?a26
    (case a1 => k_is)
    (case l1 => k_is)
    (case c1 => k_is)
    (case k1 => k_is)
    (case a2 => k_is)
    (case l2 => k_is)
    (case c2 => k_is)
    (case k2 => k_is)
    (case a3 => k_is)
    (case l3 => k_is)
    (case c3 => k_is)
    (case k3 => k_is)
    (case a4 => k_is)
    (case l4 => k_is)
    (case c4 => k_is)
    (case k4 => k_is)
    (case a5 => k_is)
    (case l5 => k_is)
    (case c5 => k_is)
    (case k5 => k_is)
    (case a6 => k_is)
    (case l6 => k_is)
    (case c6 => k_is)
    (case k6 => k_is)
    (case a7 => k_is)
    (case l7 => k_is)
    (case c7 => k_is)
    (case k7 => k_is)
    (case a8 => k_is)
    (case l8 => k_is)
    (case c8 => k_is)
    (case k8 => k_is)
    (case a9 => k_is)
    (case l9 => k_is)
    (case c9 => k_is)
    (case k9 => k_is)
    (case a10 => k_is)
    (case l10 => k_is)
    (case c10 => k_is)
    (case k10 => k_is)
    (case a11 => k_is)
    (case l11 => k_is)
    (case c11 => k_is)
    (case k11 => k_is)
    (case a12 => k_is)
    (case l12 => k_is)
    (case c12 => k_is)
    (case k12 => k_is)
    (case a13 => k_is)
    (case a14 => k_is)
    (case a15 => k_is)
    (case a16 => k_is)
    (case a17 => k_is)
    (case a18 => k_is)
    (case a19 => k_is)
    (case a20 => k_is)
    (case a21 => k_is)
    (case a22 => k_is)
    (case a23 => k_is)
    (case a24 => k_is)
    (case a25 => k_is)
    (case a26 => k_is)

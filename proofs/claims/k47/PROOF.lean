

import PyProof.Rows.All
import Wide.All
import OpenK.AllK
import Wide.FinOn
import HandS.ForMost
import HandS.Wide
import HandS.IsInst
import HandS.FStr
import HandS.Zip
import HandS.CallLocal
import HandS.Walk
import HandS.TryOnly
import HandS.TupAny
import PySem.Challenge.RW_stillroom_k47_lines
set_option Elab.async false
set_option linter.all false
set_option maxRecDepth 100000
namespace K47
open PySem PySem.Spec PyProof.Rows L2

/-! ### rules with plainer readings -/
section
variable {X : Cx}
theorem CallR.of {f : Value} {r r' : List V → Hp → VK → Prop} (h : CallR X f r) (k : ∀ xs H Q, r' xs H Q → r xs H Q) : CallR X f r' := fun pins s σ H xs us Q I rv q => h pins s σ H xs us Q I rv (k xs H Q q)
theorem OpR.of {f : Value → Value → Sem Value} {r r' : R2} (h : OpR X f r) (k : ∀ x y H Q, r' x y H Q → r x y H Q) : OpR X f r' := fun pins s σ H x y v u Q I rx ry q => h pins s σ H x y v u Q I rx ry (k x y H Q q)
/-- the name of a plain value's type -/
def tnm : V → Option String
  | .non => some "NoneType"
  | .bl _ => some "bool"
  | .int _ => some "int"
  | .str _ => some "str"
  | _ => none
theorem tnm_int (i : Int) : tnm (.int i) = some "int" := rfl
theorem tnm_bl (b : Bool) : tnm (.bl b) = some "bool" := rfl
theorem tnm_str (x : Str) : tnm (.str x) = some "str" := rfl
theorem tnm_non : tnm .non = some "NoneType" := rfl
theorem tnm_ref (p : Addr) : tnm (.ref p) = none := rfl
theorem scal_ii (i j : Int) : scal (.int i) (.int j) = true := rfl
theorem scal_ss (i j : Str) : scal (.str i) (.str j) = true := rfl
theorem scal_bb (i j : Bool) : scal (.bl i) (.bl j) = true := rfl
theorem scal_nn : scal .non .non = true := rfl
theorem scal_in (i : Int) : scal (.int i) .non = true := rfl
theorem scal_ni (i : Int) : scal .non (.int i) = true := rfl
def rIsiB : List V → Hp → VK → Prop := fun vs H Q => (∃ x n a b, vs = [x, .ty n] ∧ tnm x = some a ∧ kitB a n = some b ∧ Q (.bl b) H) ∨
  (∃ p n xs b, vs = [.ref p, .ty n] ∧ H p = some (.lst xs) ∧ kitB "list" n = some b ∧ Q (.bl b) H) ∨ ∃ p n xs b, vs = [.ref p, .ty n] ∧ H p = some (.tup xs) ∧ kitB "tuple" n = some b ∧ Q (.bl b) H
theorem call_isiB : CallR X (.builtin "isinstance") rIsiB := CallR.of call_isi (by
  intro vs H Q h
  rcases h with ⟨x, n, a, b, rfl, ha, hb, q⟩ | ⟨p, n, xs, b, rfl, ha, hb, q⟩ | ⟨p, n, xs, b, rfl, ha, hb, q⟩
  · refine ⟨x, .ty n, .type a, .type n, b, rfl, .ty n, ?_, kit_ty hb, q⟩
    cases x <;> cases ha
    · exact .base .non
    · exact .base (.bl _)
    · exact .base (.int _)
    · exact .base (.str _)
  · exact ⟨.ref p, .ty n, .type "list", .type n, b, rfl, .ty n, .base (.lst ha), kit_ty hb, q⟩
  · exact ⟨.ref p, .ty n, .type "tuple", .type n, b, rfl, .ty n, .base (.tup ha), kit_ty hb, q⟩)
theorem kb1 : kitB "int" "int" = some true := by decide +kernel
theorem kb2 : kitB "int" "bool" = some false := by decide +kernel
theorem kb3 : kitB "bool" "bool" = some true := by decide +kernel
theorem kb4 : kitB "bool" "int" = some true := by decide +kernel
theorem kb5 : kitB "str" "str" = some true := by decide +kernel
theorem kb6 : kitB "str" "int" = some false := by decide +kernel
theorem kb7 : kitB "list" "list" = some true := by decide +kernel
theorem kb8 : kitB "tuple" "tuple" = some true := by decide +kernel
theorem kb9 : kitB "NoneType" "int" = some false := by decide +kernel
theorem kb10 : kitB "NoneType" "list" = some false := by decide +kernel
/-- len, a copy, an item of a tracked list -/
def rLenH : List V → Hp → VK → Prop := fun vs H Q => ∃ p xs, vs = [.ref p] ∧ H p = some (.lst xs) ∧ Q (.int xs.length) H
theorem call_lenH : CallR X (.builtin "len") rLenH := CallR.of call_len_seq (by
  rintro vs H Q ⟨p, xs, rfl, h, q⟩
  exact ⟨p, xs, rfl, .inl (.inl (.inl h)), q⟩)
def rLenT : List V → Hp → VK → Prop := fun vs H Q => ∃ p xs, vs = [.ref p] ∧ H p = some (.tup xs) ∧ Q (.int xs.length) H
theorem call_lenT : CallR X (.builtin "len") rLenT := CallR.of call_len_seq (by
  rintro vs H Q ⟨p, xs, rfl, h, q⟩
  exact ⟨p, xs, rfl, .inr (.inl (.inl h)), q⟩)
def rListH : List V → Hp → VK → Prop := fun vs H Q => ∃ p xs, vs = [.ref p] ∧ H p = some (.lst xs) ∧ ∀ l, H l = none → Q (.ref l) (upd H l (.lst xs))
theorem call_listH : CallR X (.type "list") rListH := CallR.of call_list_of (by
  rintro vs H Q ⟨p, xs, rfl, h, q⟩
  exact ⟨p, xs, rfl, .inl (.inl (.inl h)), q⟩)
theorem ints_dp {K : PySem.W.Frag} {H : Hp} : ∀ ns : List Int, DpAll K H (ns.map V.int) (ns.map PyData.int)
  | [] => .nil
  | n :: r => .cons (.int n) (ints_dp r)
theorem ints_eqv : ∀ ns ms : List Int, PyData.eqvAll (ns.map PyData.int) (ms.map PyData.int) = decide (ns = ms)
  | [], [] => by simp [PyData.eqvAll]
  | [], _ :: _ => by simp [PyData.eqvAll]
  | _ :: _, [] => by simp [PyData.eqvAll]
  | n :: r, m :: q => by
    rw [List.map_cons, List.map_cons, PyData.eqvAll, ints_eqv r q]
    simp only [PyData.eqv, List.cons.injEq, Bool.decide_and]
    by_cases h : n = m <;> simp [h]
theorem ints_lay : ∀ ns : List Int, PyData.canLayAll0 (ns.map PyData.int) = true
  | [] => rfl
  | _ :: r => by rw [List.map_cons, PyData.canLayAll0, ints_lay r]; rfl
theorem ints_depth : ∀ ns : List Int, PyData.depthAll (ns.map PyData.int) = 0
  | [] => rfl
  | _ :: r => by rw [List.map_cons, PyData.depthAll, ints_depth r]; rfl
theorem ints_shaped (ns : List Int) : SeqAt.shaped (.list (ns.map PyData.int)) = true := by
  unfold SeqAt.shaped
  rw [PyData.canLay0, ints_lay, PyData.depth, ints_depth]
  rfl
/-- == and != of two tracked lists of ints -/
def rEqIL : R2 := fun x y H Q => ∃ a b ns ms, x = .ref a ∧ y = .ref b ∧ H a = some (.lst (List.map V.int ns)) ∧ H b = some (.lst (List.map V.int ms)) ∧ Q (.bl (decide (ns = ms))) H
theorem op_eqIL (hu : X.A.units + 64 < cLine) : OpR X (compareOp .Eq) rEqIL := OpR.of (op_eqD hu) (by
  rintro x y H Q ⟨a, b, ns, ms, rfl, rfl, ha, hb, q⟩
  refine ⟨_, _, .lst (.inl (.inl ha)) (ints_dp ns), .lst (.inl (.inl hb)) (ints_dp ms), ints_shaped ns, ints_shaped ms, ?_⟩
  rw [PyData.eqv, ints_eqv]
  exact q)
def rNeIL : R2 := fun x y H Q => ∃ a b ns ms, x = .ref a ∧ y = .ref b ∧ H a = some (.lst (List.map V.int ns)) ∧ H b = some (.lst (List.map V.int ms)) ∧ Q (.bl (!decide (ns = ms))) H
theorem op_neIL (hu : X.A.units + 64 < cLine) : OpR X (compareOp .NotEq) rNeIL := OpR.of (op_neD hu) (by
  rintro x y H Q ⟨a, b, ns, ms, rfl, rfl, ha, hb, q⟩
  refine ⟨_, _, .lst (.inl (.inl ha)) (ints_dp ns), .lst (.inl (.inl hb)) (ints_dp ms), ints_shaped ns, ints_shaped ms, ?_⟩
  rw [PyData.eqv, ints_eqv]
  exact q)
/-- == of two tracked tuples of plain things -/
def dS : V → PyData
  | .int i => .int i
  | .bl b => .bool b
  | _ => .none
def isS : V → Bool
  | .int _ => true
  | .bl _ => true
  | .non => true
  | _ => false
theorem isS_dp {K : PySem.W.Frag} {H : Hp} : ∀ xs : List V, xs.all isS = true → DpAll K H xs (xs.map dS)
  | [], _ => .nil
  | x :: r, h => by
    rw [List.all_cons, Bool.and_eq_true] at h
    refine .cons ?_ (isS_dp r h.2)
    have h1 := h.1
    cases x <;> first | exact .int _ | exact .bl _ | exact .non | cases h1
theorem isS_lay : ∀ xs : List V, PyData.canLayAll0 (xs.map dS) = true
  | [] => rfl
  | x :: r => by rw [List.map_cons, PyData.canLayAll0, isS_lay r]; cases x <;> rfl
theorem isS_depth : ∀ xs : List V, PyData.depthAll (xs.map dS) = 0
  | [] => rfl
  | x :: r => by rw [List.map_cons, PyData.depthAll, isS_depth r]; cases x <;> rfl
theorem isS_shaped (xs : List V) : SeqAt.shaped (.tuple (xs.map dS)) = true := by
  unfold SeqAt.shaped
  rw [PyData.canLay0, isS_lay, PyData.depth, isS_depth]
  rfl
def rEqTS : R2 := fun x y H Q => ∃ a b xs ys, x = .ref a ∧ y = .ref b ∧ H a = some (.tup xs) ∧ H b = some (.tup ys) ∧ xs.all isS = true ∧ ys.all isS = true ∧ Q (.bl (PyData.eqvAll (xs.map dS) (ys.map dS))) H
theorem op_eqTS (hu : X.A.units + 64 < cLine) : OpR X (compareOp .Eq) rEqTS := OpR.of (op_eqD hu) (by
  rintro x y H Q ⟨a, b, xs, ys, rfl, rfl, ha, hb, h1, h2, q⟩
  refine ⟨_, _, .tup (.inl (.inl ha)) (isS_dp xs h1), .tup (.inl (.inl hb)) (isS_dp ys h2), isS_shaped xs, isS_shaped ys, ?_⟩
  rw [PyData.eqv]
  exact q)
theorem dS_int (i : Int) : dS (.int i) = .int i := rfl
theorem dS_bl (b : Bool) : dS (.bl b) = .bool b := rfl
theorem isS_int (i : Int) : isS (.int i) = true := rfl
theorem isS_bl (b : Bool) : isS (.bl b) = true := rfl
theorem eqv_ii (i j : Int) : PyData.eqv (.int i) (.int j) = decide (i = j) := by rw [PyData.eqv]; rfl
theorem eqv_bb (i j : Bool) : PyData.eqv (.bool i) (.bool j) = decide (i = j) := by rw [PyData.eqv]; cases i <;> cases j <;> rfl
theorem eqvAll_nil : PyData.eqvAll [] [] = true := by rw [PyData.eqvAll]
theorem eqvAll_cons (x y : PyData) (xs ys : List PyData) : PyData.eqvAll (x :: xs) (y :: ys) = (PyData.eqv x y && PyData.eqvAll xs ys) := by rw [PyData.eqvAll]
theorem ip_of {op : Operator} {r : R2} (h : OpR X (inplaceOp op) r) : PIp X op r := fun pins s σ H x y v u Q I r1 r2 q => h pins s σ H x y v u Q I r1 r2 q
theorem SlR.of {r r' : V → Option Int → Option Int → Hp → VK → Prop} (h : SlR X r) (k : ∀ x lo hi H Q, r' x lo hi H Q → r x lo hi H Q) : SlR X r' := fun pins s σ H x v vl vu lo hi sl Q I rx hs pl pu q => h pins s σ H x v vl vu lo hi sl Q I rx hs pl pu (k x lo hi H Q q)
/-- a slice of a tracked list -/
def rSlH : V → Option Int → Option Int → Hp → VK → Prop := fun x lo hi H Q => ∃ a xs, x = .ref a ∧ H a = some (.lst xs) ∧ ∀ p, H p = none → Q (.ref p) (upd H p (.lst (cutV xs lo hi)))
theorem sl_listH : SlR X rSlH := SlR.of sl_list (by
  rintro x lo hi H Q ⟨a, xs, rfl, h, q⟩
  exact ⟨a, xs, rfl, .inl (.inl h), q⟩)
/-- == and != of two tracked pairs of a list of ints and an int -/
theorem li_dp {K : PySem.W.Frag} {H : Hp} {q : Addr} {l : Int} {ns : List Int} (hq : H q = some (.lst (List.map V.int ns))) : DpAll K H [.ref q, .int l] [.list (ns.map PyData.int), .int l] := .cons (.lst (.inl (.inl hq)) (ints_dp ns)) (.cons (.int l) .nil)
theorem li_shaped (ns : List Int) (l : Int) : SeqAt.shaped (.tuple [.list (ns.map PyData.int), .int l]) = true := by
  unfold SeqAt.shaped
  rw [PyData.canLay0, PyData.canLayAll0, PyData.canLay0, ints_lay, PyData.canLayAll0, PyData.depth, PyData.depthAll, PyData.depth, ints_depth, PyData.depthAll]
  rfl
theorem li_eqv (ns ms : List Int) (l m : Int) : PyData.eqv (.tuple [.list (ns.map PyData.int), .int l]) (.tuple [.list (ms.map PyData.int), .int m]) = (decide (ns = ms) && decide (l = m)) := by
  rw [PyData.eqv, PyData.eqvAll, PyData.eqvAll, PyData.eqvAll, PyData.eqv, PyData.eqv, ints_eqv, Bool.and_true]
  rfl
def rEqLI : R2 := fun x y H Q => ∃ a b q r l m ns ms, x = .ref a ∧ y = .ref b ∧ H a = some (.tup [.ref q, .int l]) ∧ H b = some (.tup [.ref r, .int m]) ∧ H q = some (.lst (List.map V.int ns)) ∧ H r = some (.lst (List.map V.int ms)) ∧ Q (.bl (decide (ns = ms) && decide (l = m))) H
theorem op_eqLI (hu : X.A.units + 64 < cLine) : OpR X (compareOp .Eq) rEqLI := OpR.of (op_eqD hu) (by
  rintro x y H Q ⟨a, b, q, r, l, m, ns, ms, rfl, rfl, ha, hb, hq, hr, k⟩
  refine ⟨_, _, .tup (.inl (.inl ha)) (li_dp hq), .tup (.inl (.inl hb)) (li_dp hr), li_shaped ns l, li_shaped ms m, ?_⟩
  rw [li_eqv]
  exact k)
def rNeLI : R2 := fun x y H Q => ∃ a b q r l m ns ms, x = .ref a ∧ y = .ref b ∧ H a = some (.tup [.ref q, .int l]) ∧ H b = some (.tup [.ref r, .int m]) ∧ H q = some (.lst (List.map V.int ns)) ∧ H r = some (.lst (List.map V.int ms)) ∧ Q (.bl (!(decide (ns = ms) && decide (l = m)))) H
theorem op_neLI (hu : X.A.units + 64 < cLine) : OpR X (compareOp .NotEq) rNeLI := OpR.of (op_neD hu) (by
  rintro x y H Q ⟨a, b, q, r, l, m, ns, ms, rfl, rfl, ha, hb, hq, hr, k⟩
  refine ⟨_, _, .tup (.inl (.inl ha)) (li_dp hq), .tup (.inl (.inl hb)) (li_dp hr), li_shaped ns l, li_shaped ms m, ?_⟩
  rw [li_eqv]
  exact k)
def rIxH : R2 := fun x y H Q => ∃ p xs i v, x = .ref p ∧ y = .int i ∧ H p = some (.lst xs) ∧ atI xs i = some v ∧ Q v H
theorem IxR.of {r r' : R2} (h : IxR X r) (k : ∀ x y H Q, r' x y H Q → r x y H Q) : IxR X r' := fun va sl pins s σ H x y v u Q I rx ry q hs => h va sl pins s σ H x y v u Q I rx ry (k x y H Q q) hs
theorem ix_listH : IxR X rIxH := IxR.of ix_list (by
  rintro x y H Q ⟨p, xs, i, v, e1, e2, h, h2, q⟩
  exact ⟨p, xs, i, v, e1, e2, .inl (.inl h), h2, q⟩)
def rIxTH : R2 := fun x y H Q => ∃ p xs i v, x = .ref p ∧ y = .int i ∧ H p = some (.tup xs) ∧ atI xs i = some v ∧ Q v H
theorem ix_tupH : IxR X rIxTH := IxR.of ix_tup (by
  rintro x y H Q ⟨p, xs, i, v, e1, e2, h, h2, q⟩
  exact ⟨p, xs, i, v, e1, e2, .inl (.inl h), h2, q⟩)
end
/-- a place in bounds -/
theorem ixN_in {n : Nat} {k : Int} (h0 : 0 ≤ k) (h1 : k < n) : ixN n k = some k.toNat := by
  unfold ixN
  rw [if_pos h0, if_pos h1]
theorem atI_in {xs : List Int} {k : Int} (h0 : 0 ≤ k) (h1 : k < xs.length) : ∃ b, xs[k.toNat]? = some b ∧ atI (xs.map V.int) k = some (.int b) := by
  have h : k.toNat < xs.length := by omega
  refine ⟨xs[k.toNat], List.getElem?_eq_getElem h, ?_⟩
  unfold atI
  rw [List.length_map, ixN_in h0 h1]
  show (xs.map V.int)[k.toNat]? = _
  rw [List.getElem?_map, List.getElem?_eq_getElem h]
  rfl
theorem mod_in (x : Int) {m : Int} (h : 0 < m) : 0 ≤ x % m ∧ x % m < m := ⟨Int.emod_nonneg x (by omega), Int.emod_lt_of_pos x h⟩
theorem atI_c0 {α : Type} (x : α) (xs : List α) : atI (x :: xs) 0 = some x := atI_nat (j := 0) rfl
theorem atI_c1 {α : Type} (x y : α) (xs : List α) : atI (x :: y :: xs) 1 = some y := atI_nat (j := 1) rfl
theorem atI_c2 {α : Type} (x y z : α) (xs : List α) : atI (x :: y :: z :: xs) 2 = some z := atI_nat (j := 2) rfl
theorem atI_c3 {α : Type} (x y z u : α) (xs : List α) : atI (x :: y :: z :: u :: xs) 3 = some u := atI_nat (j := 3) rfl

theorem tyV_upd {K : PySem.W.Frag} {H : Hp} {p : Addr} {xs : List V} : tyV K "list" (.ref p) (upd H p (.lst xs)) = True := eq_true (.inl ⟨rfl, xs, .inl (.inl upd_same)⟩)
theorem nil_sz : (0 ≤ sizeLine) = True := eq_true (Nat.zero_le _)
/-- what a for asks once its walk stands -/
def Loop (J : It) (g : TG) (tb : TS) (D : Ends) (σ : L2.St) (H1 : Hp) : Prop := ∃ W : Nat → Nat → L2.St → Hp → Prop, (∃ m, W 0 m σ H1) ∧ ∀ i m σ H, W i m σ H →
  (J.stop i H ∧ D.nx σ H) ∨ (J.go i H ∧ ∃ N : L2.St → Hp → Prop, (∀ σ' H', N σ' H' → ∃ m', m' < m ∧ W (i + 1) m' σ' H') ∧ ∀ x H', J.yld i H x H' → g x σ H' fun σ2 H2 => tb { D with nx := N, ct := N, bk := D.nx } σ2 H2)
theorem tFor_eq {wi : TI} {g : TG} {tb : TS} {D : Ends} {σ : L2.St} {H : Hp} : tFor wi g tb D σ H = wi σ H fun J H1 => Loop J g tb D σ H1 := rfl
theorem lp_range {n : Nat} {g : TG} {tb : TS} {D : Ends} {σ : L2.St} {H : Hp} (Pv : Nat → L2.St → Hp → Prop) (h0 : Pv 0 σ H)
    (hs : ∀ i σ H, i < n → Pv i σ H → g (.int i) σ H fun σ2 H2 => tb { D with nx := Pv (i + 1), ct := Pv (i + 1), bk := D.nx } σ2 H2) (hd : ∀ σ H, Pv n σ H → D.nx σ H) : Loop (Itr 0 n) g tb D σ H :=
  for_range (lo := 0) Pv h0 (fun i σ H a b => by have := hs i σ H a b; rw [Int.zero_add]; exact this) hd
theorem lp_list {K : PySem.W.Frag} {a : Addr} {xs : List V} {g : TG} {tb : TS} {D : Ends} {σ : L2.St} {H : Hp} (Pv : Nat → L2.St → Hp → Prop) (h0 : Pv 0 σ H) (hl : ∀ i σ H, i ≤ xs.length → Pv i σ H → SqL K H a xs)
    (hs : ∀ i x σ H, xs[i]? = some x → Pv i σ H → g x σ H fun σ2 H2 => tb { D with nx := Pv (i + 1), ct := Pv (i + 1), bk := D.nx } σ2 H2) (hd : ∀ σ H, Pv xs.length σ H → D.nx σ H) : Loop (Itl K a) g tb D σ H := for_list Pv h0 hl hs hd
/-- the same for a comprehension -/
def LcLoop (J : It) (g : TG) (tt : TT) (te : TE) (vs : List Nat) (σ : L2.St) (H1 : Hp) (Q : VK) : Prop := ∀ D, H1 D = none → ∃ W : Nat → Nat → Hp → Prop, (∃ m, W 0 m (upd H1 D (.lst []))) ∧ ∀ i m H, W i m H →
  (J.stop i H ∧ Q (.ref D) H) ∨ (J.go i H ∧ ∃ Nx : Hp → Prop, (∀ H', Nx H' → ∃ m', m' < m ∧ W (i + 1) m' H') ∧ ∀ x H', J.yld i H x H' → g x (wipe σ vs) H' fun σ2 H2 => wipe σ2 vs = wipe σ vs ∧ tt σ2 H2 fun b H3 =>
    if b = true then te σ2 H3 fun y H4 => ∃ acc, H4 D = some (.lst acc) ∧ acc.length < sizeLine ∧ Nx (upd H4 D (.lst (acc ++ [y]))) else Nx H3)
theorem tLc_eq {wi : TI} {g : TG} {tt : TT} {te : TE} {vs : List Nat} {σ : L2.St} {H : Hp} {Q : VK} : tLc wi g tt te vs σ H Q = wi σ H fun J H1 => LcLoop J g tt te vs σ H1 Q := rfl
/-- a comprehension over a list, whose elements leave the heap as it is: L i is what i turns have made -/
theorem lc_pure {K : PySem.W.Frag} {a : Addr} {xs : List V} {g : TG} {tt : TT} {te : TE} {vs : List Nat} {σ : L2.St} {H1 : Hp} {Q : VK} (L : Nat → List V) (hS : SqL K H1 a xs) (h0 : L 0 = [])
    (hs : ∀ i x D, xs[i]? = some x → H1 D = none → g x (wipe σ vs) (upd H1 D (.lst (L i))) fun σ2 H2 => wipe σ2 vs = wipe σ vs ∧ tt σ2 H2 fun b H3 =>
      if b = true then te σ2 H3 fun y H4 => ∃ acc, H4 D = some (.lst acc) ∧ acc.length < sizeLine ∧ upd H4 D (.lst (acc ++ [y])) = upd H1 D (.lst (L (i + 1))) else H3 = upd H1 D (.lst (L (i + 1))))
    (hd : ∀ D, H1 D = none → Q (.ref D) (upd H1 D (.lst (L xs.length)))) : LcLoop (Itl K a) g tt te vs σ H1 Q := by
  intro D hD
  refine lc_list (K := K) (a := a) (xs := xs) (fun i H => H = upd H1 D (.lst (L i))) (by rw [h0]) (fun i H _ e => ?_) (fun i x H hx e => ?_) (fun H e => ?_)
  · subst e
    exact (show Same H1 _ from fun b o e => by rw [upd_ne (ne_of_none e hD)]; exact e).seq hS
  · subst e
    exact hs i x D hx hD
  · subst e
    exact hd D hD
theorem lc_pure_range {n : Nat} {g : TG} {tt : TT} {te : TE} {vs : List Nat} {σ : L2.St} {H1 : Hp} {Q : VK} (L : Nat → List V) (h0 : L 0 = [])
    (hs : ∀ i D, i < n → H1 D = none → g (.int i) (wipe σ vs) (upd H1 D (.lst (L i))) fun σ2 H2 => wipe σ2 vs = wipe σ vs ∧ tt σ2 H2 fun b H3 =>
      if b = true then te σ2 H3 fun y H4 => ∃ acc, H4 D = some (.lst acc) ∧ acc.length < sizeLine ∧ upd H4 D (.lst (acc ++ [y])) = upd H1 D (.lst (L (i + 1))) else H3 = upd H1 D (.lst (L (i + 1))))
    (hd : ∀ D, H1 D = none → Q (.ref D) (upd H1 D (.lst (L n)))) : LcLoop (Itr 0 n) g tt te vs σ H1 Q := by
  intro D hD
  refine lc_range (lo := 0) (n := n) (fun i H => H = upd H1 D (.lst (L i))) (by rw [h0]) (fun i H hi e => ?_) (fun H e => ?_)
  · subst e
    rw [Int.zero_add]
    exact hs i D hi hD
  · subst e
    exact hd D hD
theorem lp_zip {K : PySem.W.Frag} {a b : Addr} {xs ys : List V} {g : TG} {tb : TS} {D : Ends} {σ : L2.St} {H : Hp} (hl : xs.length = ys.length) (Pv : Nat → L2.St → Hp → Prop) (h0 : Pv 0 σ H) (hq : ∀ i σ H, Pv i σ H → SqL K H a xs ∧ SqL K H b ys)
    (hs : ∀ (i : Nat) (x y : V) (T : Addr) (σ : L2.St) (H : Hp), xs[i]? = some x → ys[i]? = some y → Pv i σ H → H T = none → g (.ref T) σ (upd H T (.tup [x, y])) fun σ2 H2 => tb { D with nx := Pv (i + 1), ct := Pv (i + 1), bk := D.nx } σ2 H2) (hd : ∀ σ H, Pv xs.length σ H → D.nx σ H) :
    Loop (Itz K a b) g tb D σ H := RZ.for_zipL hl Pv h0 hq hs hd
theorem lc_str {x : Str} {g : TG} {tt : TT} {te : TE} {vs : List Nat} {σ : L2.St} {H1 : Hp} {Q : VK} (L : Nat → List V) (h0 : L 0 = [])
    (hs : ∀ i c D, x.cps[i]? = some c → H1 D = none → g (.str ⟨#[c]⟩) (wipe σ vs) (upd H1 D (.lst (L i))) fun σ2 H2 => wipe σ2 vs = wipe σ vs ∧ tt σ2 H2 fun b H3 =>
      if b = true then te σ2 H3 fun y H4 => ∃ acc, H4 D = some (.lst acc) ∧ acc.length < sizeLine ∧ upd H4 D (.lst (acc ++ [y])) = upd H1 D (.lst (L (i + 1))) else H3 = upd H1 D (.lst (L (i + 1))))
    (hd : ∀ D, H1 D = none → Q (.ref D) (upd H1 D (.lst (L x.cps.size)))) : LcLoop (Its x) g tt te vs σ H1 Q := by
  intro D hD
  refine ⟨fun i m H => m = x.cps.size - i ∧ i ≤ x.cps.size ∧ H = upd H1 D (.lst (L i)), ⟨x.cps.size, by simp, Nat.zero_le _, by rw [h0]⟩, ?_⟩
  rintro i m H ⟨rfl, hi, rfl⟩
  by_cases hlt : i < x.cps.size
  · refine .inr ⟨hlt, fun H' => H' = upd H1 D (.lst (L (i + 1))), fun H' p' => ⟨x.cps.size - (i + 1), by omega, rfl, hlt, p'⟩, fun v H' y => ?_⟩
    obtain ⟨e, c, hc, ev⟩ := y
    subst e ev
    exact hs i c D hc hD
  · have e : i = x.cps.size := by omega
    subst e
    exact .inl ⟨Nat.le_refl _, hd D hD⟩
theorem lc_rangeC {lo c : Int} {n : Nat} {g : TG} {tt : TT} {te : TE} {vs : List Nat} {σ : L2.St} {H1 : Hp} {Q : VK} (L : Nat → List V) (h0 : L 0 = [])
    (hs : ∀ i D, i < n → H1 D = none → g (.int (lo + (i : Nat) * c)) (wipe σ vs) (upd H1 D (.lst (L i))) fun σ2 H2 => wipe σ2 vs = wipe σ vs ∧ tt σ2 H2 fun b H3 =>
      if b = true then te σ2 H3 fun y H4 => ∃ acc, H4 D = some (.lst acc) ∧ acc.length < sizeLine ∧ upd H4 D (.lst (acc ++ [y])) = upd H1 D (.lst (L (i + 1))) else H3 = upd H1 D (.lst (L (i + 1))))
    (hd : ∀ D, H1 D = none → Q (.ref D) (upd H1 D (.lst (L n)))) : LcLoop (Itc lo c n) g tt te vs σ H1 Q := by
  intro D hD
  refine ⟨fun i m H => m = n - i ∧ i ≤ n ∧ H = upd H1 D (.lst (L i)), ⟨n, by simp, Nat.zero_le _, by rw [h0]⟩, ?_⟩
  rintro i m H ⟨rfl, hi, rfl⟩
  by_cases hlt : i < n
  · refine .inr ⟨hlt, fun H' => H' = upd H1 D (.lst (L (i + 1))), fun H' p' => ⟨n - (i + 1), by omega, rfl, hlt, p'⟩, fun v H' y => ?_⟩
    obtain ⟨e, ev⟩ := y
    subst e ev
    exact hs i D hlt hD
  · have e : i = n := by omega
    subst e
    exact .inl ⟨Nat.le_refl _, hd D hD⟩
theorem small_two {a b : Int} (ha : -(2 ^ 62) ≤ a) (ha' : a < 2 ^ 62) (hb : -(2 ^ 62) ≤ b) (hb' : b < 2 ^ 62) : Builtin.Range.small a b 2 = true := by
  unfold Builtin.Range.small Builtin.Range.rangeSize
  simp only [Builtin.Range.rangeFitsLong, Bool.and_eq_true, Bool.or_eq_true, decide_eq_true_eq, beq_iff_eq, show ((2 : Int) > 0) by decide, if_true]
  split <;> omega
theorem rg_two {n : Nat} (h : n < 1000000) : RgC 0 ((n : Int) - 1) 2 (n / 2) := by
  refine ⟨by decide, by decide, small_two (by decide) (by decide) (by omega) (by omega), ?_⟩
  unfold Builtin.Range.rangeSize
  rw [if_pos (by decide)]
  split <;> omega
theorem wh_by {c : TT} {tb : TS} {D : Ends} {σ : L2.St} {H : Hp} (W : Nat → L2.St → Hp → Prop) (m : Nat) (h0 : W m σ H)
    (hs : ∀ m σ H, W m σ H → c σ H fun b H1 => if b = true then ∃ N : L2.St → Hp → Prop, (∀ σ' H', N σ' H' → ∃ m', m' < m ∧ W m' σ' H') ∧ tb { D with nx := N, ct := N, bk := D.nx } σ H1 else D.nx σ H1) : tWhile c tb D σ H := ⟨W, ⟨m, h0⟩, hs⟩
theorem lc_rng {n : Nat} {g : TG} {tt : TT} {te : TE} {vs : List Nat} {σ : L2.St} {H1 : Hp} {Q : VK} (Pv : Addr → Nat → Hp → Prop) (h0 : ∀ D, H1 D = none → Pv D 0 (upd H1 D (.lst [])))
    (hs : ∀ D i H, i < n → H1 D = none → Pv D i H → g (.int i) (wipe σ vs) H fun σ2 H2 => wipe σ2 vs = wipe σ vs ∧ tt σ2 H2 fun b H3 =>
      if b = true then te σ2 H3 fun y H4 => ∃ acc, H4 D = some (.lst acc) ∧ acc.length < sizeLine ∧ Pv D (i + 1) (upd H4 D (.lst (acc ++ [y]))) else Pv D (i + 1) H3)
    (hd : ∀ D H, H1 D = none → Pv D n H → Q (.ref D) H) : LcLoop (Itr 0 n) g tt te vs σ H1 Q := by
  intro D hD
  refine lc_range (lo := 0) (n := n) (Pv D) (h0 D hD) (fun i H hi p => ?_) (fun H p => hd D H hD p)
  rw [Int.zero_add]
  exact hs D i H hi hD p
theorem same_upd {H : Hp} {p : Addr} {o : HO} (h : H p = none) : Same H (upd H p o) := fun b x e => by
  rw [upd_ne (ne_of_none e h)]
  exact e
theorem same_upd2 {H H' : Hp} {q : Addr} {o : HO} (s : Same H H') (h : H q = none) : Same H (upd H' q o) := fun b x e => by
  rw [upd_ne (ne_of_none e h)]
  exact s b x e

/-! ### fresh objects: the heap behind one as a heap of its own -/
def NewH (H : Hp) (o : HO) (k : Addr → Hp → Prop) : Prop := ∀ p H', Same H H' → H p = none → H' p = some o → k p H'
theorem NewH.go {H : Hp} {o : HO} {k : Addr → Hp → Prop} (h : NewH H o k) : ∀ p, H p = none → k p (upd H p o) := fun p hp => h p _ (same_upd hp) hp upd_same
section
variable {X : Cx} {es : List Expr} {t : TA} {pos : Pos}
theorem pa_mono (h : PA X es t) : PA X es (fun σ H Q => ∃ Q', t σ H Q' ∧ ∀ xs H1, Q' xs H1 → Q xs H1) := ⟨fun pos pins s σ H Q I ⟨_, q, k⟩ => thn (h.run pos pins s σ H _ I q) fun _ _ ⟨vs, H', I', r, q'⟩ => ⟨vs, H', I', r, k _ _ q'⟩⟩
theorem PE.of {e : Expr} {t t' : TE} (h : PE X e t) (k : ∀ σ H Q, t' σ H Q → t σ H Q) : PE X e t' := ⟨fun pins s σ H Q I q => h.run pins s σ H Q I (k _ _ _ q)⟩
def tTupS (t : TA) : TE := fun σ H Q => t σ H fun xs H1 => xs.length ≤ sizeLine ∧ NewH H1 (.tup xs) fun p H' => Q (.ref p) H'
def tLstS (t : TA) : TE := fun σ H Q => t σ H fun xs H1 => xs.length ≤ sizeLine ∧ NewH H1 (.lst xs) fun p H' => Q (.ref p) H'
theorem pe_tupS {x1} (h : PA X es t) : PE X (.Tuple es x1 pos) (tTupS t) := PE.of (pe_tup (pa_mono h)) fun σ H Q q => ⟨_, q, fun _ _ z => ⟨z.1, z.2.go⟩⟩
theorem pe_lstS (h : PA X es t) : PE X (.List es pos) (tLstS t) := PE.of (pe_lst (pa_mono h)) fun σ H Q q => ⟨_, q, fun _ _ z => ⟨z.1, z.2.go⟩⟩
def rListS : List V → Hp → VK → Prop := fun vs H Q => ∃ p xs, vs = [.ref p] ∧ H p = some (.lst xs) ∧ NewH H (.lst xs) fun l H' => Q (.ref l) H'
theorem call_listS : CallR X (.type "list") rListS := CallR.of call_listH fun vs H Q ⟨p, xs, e, h, q⟩ => ⟨p, xs, e, h, q.go⟩
/-- list(t) of a tuple -/
def rListT : List V → Hp → VK → Prop := fun vs H Q => ∃ p xs, vs = [.ref p] ∧ H p = some (.tup xs) ∧ NewH H (.lst xs) fun l H' => Q (.ref l) H'
theorem call_listT : CallR X (.type "list") rListT := CallR.of call_list_of fun vs H Q ⟨p, xs, e, h, q⟩ => ⟨p, xs, e, .inr (.inl (.inl h)), q.go⟩
/-- tuple(xs) of a tracked list -/
def rTupleL : List V → Hp → VK → Prop := fun vs H Q => ∃ p xs, vs = [.ref p] ∧ H p = some (.lst xs) ∧ NewH H (.tup xs) fun l H' => Q (.ref l) H'
theorem call_tupleL : CallR X (.type "tuple") rTupleL := CallR.of call_tuple_of fun vs H Q ⟨p, xs, e, h, q⟩ => ⟨p, xs, e, .inl ⟨.inl (.inl h), q.go⟩⟩
def rCatL : R2 := fun x y H Q => ∃ l b xs zs, x = .ref l ∧ y = .ref b ∧ H l = some (.lst xs) ∧ H b = some (.lst zs) ∧ xs.length + zs.length ≤ sizeLine ∧ NewH H (.lst (xs ++ zs)) fun p H' => Q (.ref p) H'
theorem op_catS : OpR X (binaryOp .Add) rCatL := OpR.of op_cat fun x y H Q ⟨l, b, xs, zs, e1, e2, h1, h2, z, q⟩ => ⟨l, b, xs, zs, e1, e2, h1, h2, z, q.go⟩
/-- [x] * n -/
def rRepS : R2 := fun x y H Q => ∃ l k v, x = .ref l ∧ y = .int k ∧ H l = some (.lst [v]) ∧ k ≤ 16777216 ∧ -(2 ^ 62) ≤ k ∧ NewH H (.lst (List.replicate k.toNat v)) fun p H' => Q (.ref p) H'
theorem rep_flat {α : Type} (n : Nat) (y : α) : (List.replicate n [y]).flatten = List.replicate n y := by
  induction n with
  | zero => rfl
  | succ n ih => rw [List.replicate_succ, List.flatten_cons, ih, List.replicate_succ]; rfl
theorem op_repS : OpR X (binaryOp .Mult) rRepS := OpR.of op_rep fun x y H Q ⟨l, k, v, e1, e2, h1, z1, z2, q⟩ => ⟨l, k, [v], e1, e2, h1, by omega, by omega, by
    rw [List.length_singleton, show sizeLine = 16777216 from rfl]; omega, by rw [rep_flat]; exact q.go⟩
def rSlS : V → Option Int → Option Int → Hp → VK → Prop := fun x lo hi H Q => ∃ a xs, x = .ref a ∧ H a = some (.lst xs) ∧ NewH H (.lst (cutV xs lo hi)) fun p H' => Q (.ref p) H'
theorem sl_listS : SlR X rSlS := SlR.of sl_listH fun x lo hi H Q ⟨a, xs, e, h, q⟩ => ⟨a, xs, e, h, q.go⟩
theorem pe_mono {e : Expr} {t : TE} (h : PE X e t) : PE X e (fun σ H Q => ∃ Q', t σ H Q' ∧ ∀ v H1, Q' v H1 → Q v H1) := ⟨fun pins s σ H Q I ⟨_, q, k⟩ => thn (h.run pins s σ H _ I q) fun _ _ ⟨v, H', I', r, q'⟩ => ⟨v, H', I', r, k _ _ q'⟩⟩
theorem PG.of {e : Expr} {t t' : TG} (h : PG X e t) (k : ∀ v σ H Q, t' v σ H Q → t v σ H Q) : PG X e t' := ⟨fun pins s σ H v u Q I r q => h.run pins s σ H v u Q I r (k _ _ _ _ q)⟩
theorem PI.of {tg e : Expr} {t t' : TI} (h : PI X tg e t) (k : ∀ σ H R, t' σ H R → t σ H R) : PI X tg e t' := ⟨fun pins s σ H R I q => h.run pins s σ H R I (k _ _ _ q)⟩
def gTupS (n : Nat) (t : TGs) : TG := fun v σ H Q => ∃ a xs, v = .ref a ∧ H a = some (.tup xs) ∧ xs.length = n ∧ t xs σ H Q
theorem pg_tupS {k : Nat} {t : TGs} {n : Nat} (hc : X.calm = true) (h : PGs X es t) (hn : (assignEach es X.env).length = n := by rfl) (hst : (assignEach es X.env).findIdx? (·.1) = none := by rfl) : PG X (.Tuple es k pos) (gTupS n t) :=
  PG.of (pg_tup hc h hn hst) fun v σ H Q ⟨a, xs, e, g, l, q⟩ => ⟨a, xs, e, .inl (.inl g), l, q⟩
def gLstS (n : Nat) (t : TGs) : TG := fun v σ H Q => ∃ a xs, v = .ref a ∧ H a = some (.lst xs) ∧ xs.length = n ∧ t xs σ H Q
theorem pg_lstS {k : Nat} {t : TGs} {n : Nat} (hc : X.calm = true) (h : PGs X es t) (hn : (assignEach es X.env).length = n := by rfl) (hst : (assignEach es X.env).findIdx? (·.1) = none := by rfl) : PG X (.Tuple es k pos) (gLstS n t) :=
  PG.of (pg_lst hc h hn hst) fun v σ H Q ⟨a, xs, e, g, l, q⟩ => ⟨a, xs, e, .inl (.inl g), l, q⟩
def iListS (K : PySem.W.Frag) (tl : TE) : TI := fun σ H R => tl σ H fun x H1 => ∃ a xs, x = .ref a ∧ H1 a = some (.lst xs) ∧ R (Itl K a) H1
theorem pi_listS {tg l : Expr} {tl : TE} (hl : PE X l tl) : PI X tg l (iListS X.K tl) := PI.of (pi_list (pe_mono hl)) fun σ H R q => ⟨_, q, fun _ _ ⟨a, xs, e, g, r⟩ => ⟨a, e, ⟨xs, .inl (.inl g)⟩, r⟩⟩
def iTupS (K : PySem.W.Frag) (tl : TE) : TI := fun σ H R => tl σ H fun x H1 => ∃ a xs, x = .ref a ∧ H1 a = some (.tup xs) ∧ R (Itt K a) H1
theorem pi_tupS {tg l : Expr} {tl : TE} (hl : PE X l tl) : PI X tg l (iTupS X.K tl) := PI.of (pi_tup (pe_mono hl)) fun σ H R q => ⟨_, q, fun _ _ ⟨a, xs, e, g, r⟩ => ⟨a, e, ⟨xs, .inl (.inl g)⟩, r⟩⟩
def tML (r : V → List V → Hp → VK → Prop) (to : TE) (t : TA) : TE := fun σ H Q => to σ H fun x H1 => ∃ p xs, x = .ref p ∧ H1 p = some (.lst xs) ∧ t σ H1 fun ys H2 => r x ys H2 Q
theorem pe_ml {to : TE} {t : TA} {e : PySem.Expr} {K : PySem.W.Frag} {r : V → List V → Hp → VK → Prop} (h : PE X e (tBM K "list" r (fun σ H Q => ∃ Q', to σ H Q' ∧ ∀ v H1, Q' v H1 → Q v H1) t)) : PE X e (tML r to t) :=
  PE.of h fun σ H Q q => ⟨_, q, fun v H1 ⟨p, xs, e, g, z⟩ => ⟨by rw [e]; exact .inl ⟨rfl, xs, .inl (.inl g)⟩, z⟩⟩
def tML0 (r : V → List V → Hp → VK → Prop) (to : TE) : TE := fun σ H Q => to σ H fun x H1 => ∃ p xs, x = .ref p ∧ H1 p = some (.lst xs) ∧ r x [] H1 Q
theorem pe_ml0 {to : TE} {e : PySem.Expr} {K : PySem.W.Frag} {r : V → List V → Hp → VK → Prop} (h : PE X e (tBM0 K "list" r (fun σ H Q => ∃ Q', to σ H Q' ∧ ∀ v H1, Q' v H1 → Q v H1))) : PE X e (tML0 r to) :=
  PE.of h fun σ H Q q => ⟨_, q, fun v H1 ⟨p, xs, e, g, z⟩ => ⟨by rw [e]; exact .inl ⟨rfl, xs, .inl (.inl g)⟩, z⟩⟩
end
/-- loops and comprehensions over any walk -/
theorem lpW {J : It} {n : Nat} {G : Hp → Prop} {Y : Nat → Hp → V → Hp → Prop} (w : Walk J n G Y) {g : TG} {tb : TS} {D : Ends} {σ : L2.St} {H : Hp} (Pv : Nat → L2.St → Hp → Prop) (h0 : Pv 0 σ H) (hG : ∀ i σ H, i ≤ n → Pv i σ H → G H)
    (hs : ∀ i x σ H H', i < n → Pv i σ H → Y i H x H' → g x σ H' fun σ2 H2 => tb { D with nx := Pv (i + 1), ct := Pv (i + 1), bk := D.nx } σ2 H2) (hd : ∀ σ H, Pv n σ H → D.nx σ H) : Loop J g tb D σ H := for_it w Pv h0 hG hs hd
theorem lcW {J : It} {n : Nat} {G : Hp → Prop} {Y : Nat → Hp → V → Hp → Prop} (w : Walk J n G Y) {g : TG} {tt : TT} {te : TE} {vs : List Nat} {σ : L2.St} {H1 : Hp} {Q : VK} (Pv : Addr → Nat → Hp → Prop) (h0 : ∀ D H, Same H1 H → H1 D = none → H D = some (.lst []) → Pv D 0 H)
    (hG : ∀ D i H, H1 D = none → i ≤ n → Pv D i H → G H) (hs : ∀ D i x H H', i < n → H1 D = none → Pv D i H → Y i H x H' → g x (wipe σ vs) H' fun σ2 H2 => wipe σ2 vs = wipe σ vs ∧ tt σ2 H2 fun b H3 =>
      if b = true then te σ2 H3 fun y H4 => ∃ acc, H4 D = some (.lst acc) ∧ acc.length < sizeLine ∧ Pv D (i + 1) (upd H4 D (.lst (acc ++ [y]))) else Pv D (i + 1) H3)
    (hd : ∀ D H, H1 D = none → Pv D n H → Q (.ref D) H) : LcLoop J g tt te vs σ H1 Q :=
  fun D hD => lc_it w (Pv D) (h0 D _ (same_upd hD) hD upd_same) (fun i H hi p => hG D i H hD hi p) (fun i x H H' hi p y => hs D i x H H' hi hD p y) fun H p => hd D H hD p
theorem lcL {J : It} {n : Nat} {G : Hp → Prop} {Y : Nat → Hp → V → Hp → Prop} (w : Walk J n G Y) {g : TG} {tt : TT} {te : TE} {vs : List Nat} {σ : L2.St} {H1 : Hp} {Q : VK} (L : Nat → List V) (hz : L 0 = []) (hG : ∀ H, Same H1 H → G H)
    (hs : ∀ D i x H H', i < n → H1 D = none → Same H1 H → H D = some (.lst (L i)) → Y i H x H' → g x (wipe σ vs) H' fun σ2 H2 => wipe σ2 vs = wipe σ vs ∧ tt σ2 H2 fun b H3 =>
      if b = true then te σ2 H3 fun y H4 => ∃ acc, H4 D = some (.lst acc) ∧ acc.length < sizeLine ∧ Same H1 (upd H4 D (.lst (acc ++ [y]))) ∧ upd H4 D (.lst (acc ++ [y])) D = some (.lst (L (i + 1))) else Same H1 H3 ∧ H3 D = some (.lst (L (i + 1))))
    (hd : ∀ D H, Same H1 H → H1 D = none → H D = some (.lst (L n)) → Q (.ref D) H) : LcLoop J g tt te vs σ H1 Q :=
  lcW w (fun D i H => Same H1 H ∧ H D = some (.lst (L i))) (fun D H s _ g => ⟨s, by rw [g, hz]⟩) (fun _ _ H _ _ p => hG H p.1) (fun D i x H H' hi hD p y => hs D i x H H' hi hD p.1 p.2 y) fun D H hD p => hd D H p.1 hD p.2
theorem walkR {n : Nat} : Walk (Itr 0 n) n (fun _ => True) (YFn fun i => .int (i : Int)) := walk_range.mono (fun _ h => h) fun i H x H' _ _ y => ⟨y.1, by rw [y.2]; show V.int (0 + (i : Int)) = V.int (i : Int); rw [Int.zero_add]⟩
theorem walkL {K : PySem.W.Frag} {a : Addr} {xs : List V} : Walk (Itl K a) xs.length (fun H => H a = some (.lst xs)) (YAt xs) := (walk_list (K := K) (a := a) (xs := xs)).mono (fun _ h => .inl (.inl h)) fun _ _ _ _ _ _ y => y
theorem walkT {K : PySem.W.Frag} {a : Addr} {xs : List V} : Walk (Itt K a) xs.length (fun H => H a = some (.tup xs)) (YAt xs) := (walk_tup (K := K) (a := a) (xs := xs)).mono (fun _ h => .inl (.inl h)) fun _ _ _ _ _ _ y => y
/-- a list of ints is walked -/
def YInt (ns : List Int) : Nat → Hp → V → Hp → Prop := fun i H v H' => H' = H ∧ ∃ b, ns[i]? = some b ∧ v = .int b
theorem walkI {K : PySem.W.Frag} {a : Addr} {ns : List Int} : Walk (Itl K a) ns.length (fun H => H a = some (.lst (List.map V.int ns))) (YInt ns) := by
  have w := walkL (K := K) (a := a) (xs := List.map V.int ns)
  rw [List.length_map] at w
  refine w.mono (fun _ h => h) fun i H x H' _ _ y => ⟨y.1, ?_⟩
  have h := y.2
  rw [List.getElem?_map] at h
  obtain ⟨b, h1, rfl⟩ := Option.map_eq_some_iff.mp h
  exact ⟨b, h1, rfl⟩
theorem sqL_eq {K : PySem.W.Frag} {H : Hp} {a : Addr} {xs : List V} (h : H a = some (.lst xs)) : (∃ xs, SqL K H a xs) = True := eq_true ⟨_, .inl (.inl h)⟩
theorem sqT_eq {K : PySem.W.Frag} {H : Hp} {a : Addr} {xs : List V} (h : H a = some (.tup xs)) : (∃ xs, SqT K H a xs) = True := eq_true ⟨_, .inl (.inl h)⟩
theorem tyL_eq {K : PySem.W.Frag} {H : Hp} {p : Addr} {xs : List V} (h : H p = some (.lst xs)) : tyV K "list" (.ref p) H = True := eq_true (.inl ⟨rfl, xs, .inl (.inl h)⟩)
theorem Same.c2 {H H' : Hp} {a b : Addr} {x y : HO} (s : Same H H') (ga : H a = some x) (gb : H b = some y) : H' a = some x ∧ H' b = some y := ⟨s _ _ ga, s _ _ gb⟩
theorem map_int_inj {xs ys : List Int} : (List.map V.int xs = List.map V.int ys) = (xs = ys) := by
  refine propext ⟨fun h => ?_, fun h => by rw [h]⟩
  induction xs generalizing ys with
  | nil => cases ys with
    | nil => rfl
    | cons y q => cases h
  | cons x r ih => cases ys with
    | nil => cases h
    | cons y q =>
      rw [List.map_cons, List.map_cons, List.cons.injEq, V.int.injEq] at h
      rw [h.1, ih h.2]
theorem sz1 : (1 ≤ sizeLine) = True := eq_true (by decide)
theorem sz2 : (2 ≤ sizeLine) = True := eq_true (by decide)
theorem sz3 : (3 ≤ sizeLine) = True := eq_true (by decide)
theorem sz4 : (4 ≤ sizeLine) = True := eq_true (by decide)
theorem sz5 : (5 ≤ sizeLine) = True := eq_true (by decide)
theorem sz6 : (6 ≤ sizeLine) = True := eq_true (by decide)
theorem sz8 : (8 ≤ sizeLine) = True := eq_true (by decide)
/-- an item of a list of ints -/
def gN (ns : List Int) (i : Nat) : Int := ns.getD i 0
theorem at_g {ns : List Int} {i : Nat} (h : i < ns.length) : atI (ns.map V.int) (i : Int) = some (V.int (gN ns i)) := by
  refine atI_nat ?_
  rw [List.getElem?_map, List.getElem?_eq_getElem h]
  simp [gN, h]
theorem at_g' {ns : List Int} {k : Int} {i : Nat} (e : k = (i : Int)) (h : i < ns.length) : atI (ns.map V.int) k = some (V.int (gN ns i)) := by
  rw [e]
  exact at_g h
theorem iteT' {c : Bool} {a b : Prop} (h : c = true) (x : a) : if c = true then a else b := by rw [if_pos h]; exact x
theorem iteF' {c : Bool} {a b : Prop} (h : c = false) (x : b) : if c = true then a else b := by rw [if_neg (by rw [h]; decide)]; exact x
theorem iteB {c : Bool} {p : Prop} [Decidable p] {a b : Prop} (h : c = decide p) (x : p → a) (y : ¬ p → b) : if c = true then a else b := by
  subst h
  exact ite2 (fun e => x (of_decide_eq_true e)) fun e => y fun z => e (decide_eq_true z)
theorem iteD {p : Prop} [Decidable p] {a b : Prop} (x : p → a) (y : ¬ p → b) : if decide p = true then a else b := iteB rfl x y
def mx (x y : Int) : Int := if x < y then y else x
def mn (x y : Int) : Int := if y < x then y else x
theorem mx_eq (x y : Int) : (if x < y then y else x) = mx x y := rfl
theorem mn_eq (x y : Int) : (if y < x then y else x) = mn x y := rfl
theorem mx_le {x y z : Int} : mx x y ≤ z ↔ x ≤ z ∧ y ≤ z := by
  unfold mx
  split <;> omega
theorem lt_mn {x y z : Int} : z < mn x y ↔ z < x ∧ z < y := by
  unfold mn
  split <;> omega
theorem toNat_mul (m n : Nat) : ((m : Int) * (n : Int)).toNat = m * n := by rw [← Int.natCast_mul, Int.toNat_natCast]
theorem atI_lit {xs : List V} {k : Int} (h0 : 0 ≤ k) (h1 : k < xs.length) : ∃ v, atI xs k = some v ∧ v ∈ xs := by
  have h : k.toNat < xs.length := by omega
  refine ⟨xs[k.toNat], ?_, List.getElem_mem h⟩
  unfold atI
  rw [ixN_in h0 h1]
  exact List.getElem?_eq_getElem h
theorem atI_lits {xs : List Int} {k : Int} (h0 : 0 ≤ k) (h1 : k < xs.length) : ∃ v, atI (List.map V.int xs) k = some (.int v) ∧ v ∈ xs := by
  obtain ⟨v, h, hm⟩ := atI_lit (xs := List.map V.int xs) h0 (by rw [List.length_map]; exact h1)
  obtain ⟨i, hi, rfl⟩ := List.mem_map.mp hm
  exact ⟨i, h, hi⟩
theorem natOf {x : Int} (h : 0 ≤ x) : ∃ n : Nat, x = (n : Int) := ⟨x.toNat, by omega⟩
theorem map_cat (xs ys : List Int) : List.map V.int xs ++ List.map V.int ys = List.map V.int (xs ++ ys) := by rw [List.map_append]
theorem map_snoc (xs : List Int) (v : Int) : List.map V.int xs ++ [V.int v] = List.map V.int (xs ++ [v]) := by rw [List.map_append]; rfl
theorem map_setV (l : List Int) (i : Nat) (v : Int) : (List.map V.int l).set i (.int v) = List.map V.int (l.set i v) := by rw [List.map_set]
/-- all but one object stand as they stood -/
def But (a : Addr) (H H' : Hp) : Prop := ∀ b o, b ≠ a → H b = some o → H' b = some o
theorem But.refl (a : Addr) (H : Hp) : But a H H := fun _ _ _ h => h
theorem But.ofSame {a : Addr} {H H' : Hp} (s : Same H H') : But a H H' := fun b o _ h => s b o h
theorem But.trans {a : Addr} {H H1 H2 : Hp} (x : But a H H1) (y : But a H1 H2) : But a H H2 := fun b o n h => y b o n (x b o n h)
theorem But.put {a : Addr} {H H' : Hp} {o : HO} (x : But a H H') : But a H (upd H' a o) := fun b o' n h => by rw [upd_ne n]; exact x b o' n h
theorem But.same {a : Addr} {H H1 H' : Hp} (s : Same H H1) (x : But a H1 H') (h : H a = none) : Same H H' := fun b o e => x b o (ne_of_none e h) (s b o e)
/-- the cell k of the script -/
def cellA (ns : List Int) (k : Nat) : Int := ns.getD k 0
def absI (c : Int) : Int := if c < 0 then -c else c
theorem absI_eq (c : Int) : (if c < 0 then -c else c) = absI c := rfl
theorem absI_nn (c : Int) : 0 ≤ absI c := by
  unfold absI
  split <;> omega
section
variable {X : Cx}
/-- xs[i] op= e reads the item first -/
def rGetL : V → V → Hp → VK → Prop := fun x y H Q => ∃ p xs i v, x = .ref p ∧ y = .int i ∧ H p = some (.lst xs) ∧ 0 ≤ i ∧ i < 2 ^ 62 ∧ xs[i.toNat]? = some v ∧ Q v H
theorem pget_list : PGet X rGetL := by
  intro pins s σ H x y v u Q I rx ry h
  obtain ⟨p, xs, i, z, rfl, rfl, hp, h0, h1, he, q⟩ := h
  cases rx
  obtain ⟨t, rfl⟩ := ry
  obtain ⟨its, r, pl, _⟩ := I.list (.inl (.inl hp))
  obtain ⟨w, ew, rw'⟩ := r.get he
  exact getItem_listL pl.isList h0 (by omega) ew ⟨z, H, I, rw', q⟩
def iZipS (K : PySem.W.Frag) (ta : TA) : TI := fun σ H R => ta σ H fun vs H1 => ∃ a b xs ys, vs = [.ref a, .ref b] ∧ H1 a = some (.lst xs) ∧ H1 b = some (.lst ys) ∧ R (Itz K a b) H1
theorem pi_zipS {e e2 : Expr} {ta : TA} {p pos tpos : Pos} {elts : List Expr} {kk : Nat} (hg : Gl X "zip") (hm : X.mg "zip" = none) (ha : PA X [e, e2] ta) (hs : starEach [e, e2] X.env = (false, eval e X.env) :: starEach [e2] X.env := by rfl) (hpl : (backTo pos (starEach [e2] X.env)).any (·.1) = false := by rfl) :
    PI X (.Tuple elts kk tpos) (.Call (.Name "zip" p) [e, e2] [] pos) (iZipS X.K ta) := PI.of (pi_zip hg hm (pa_mono ha) hs hpl) fun σ H R q => ⟨_, q, fun vs H1 ⟨a, b, xs, ys, e, g1, g2, r⟩ => ⟨a, b, xs, ys, e, .inl (.inl g1), .inl (.inl g2), r⟩⟩
end
theorem walkZ {K : PySem.W.Frag} {a b : Addr} {xs ys : List V} {n : Nat} (hn : n = min xs.length ys.length) : Walk (Itz K a b) n (fun H => H a = some (.lst xs) ∧ H b = some (.lst ys)) (YPair (fun i => xs[i]?) (fun i => ys[i]?)) :=
  (walk_zip (K := K) (a := a) (b := b) hn).mono (fun _ h => ⟨.inl (.inl h.1), .inl (.inl h.2)⟩) fun _ _ _ _ _ _ y => y
theorem cutV_take {xs : List V} {n : Nat} : cutV xs none (some (n : Int)) = xs.take n := by
  unfold cutV
  rw [HT.sIx_nat, HT.sIx_none, List.drop_zero]
  by_cases h : n ≤ xs.length
  · rw [Nat.min_eq_left h, Nat.sub_zero]
  · rw [Nat.min_eq_right (by omega), Nat.sub_zero, List.take_of_length_le (Nat.le_refl _), List.take_of_length_le (by omega)]
theorem cutV_drop {xs : List V} {n : Nat} : cutV xs (some (n : Int)) none = xs.drop n := by
  unfold cutV
  rw [HT.sIx_nat, HT.sIx_none]
  by_cases h : n ≤ xs.length
  · rw [Nat.min_eq_left h, List.take_of_length_le (by rw [List.length_drop]; exact Nat.le_refl _)]
  · rw [Nat.min_eq_right (by omega), List.drop_of_length_le (Nat.le_refl _), List.drop_of_length_le (by omega), List.take_nil]
theorem cutI_take {xs : List Int} {n : Nat} : cutV (List.map V.int xs) none (some (n : Int)) = List.map V.int (xs.take n) := by rw [cutV_take, List.map_take]
theorem cutI_drop {xs : List Int} {n : Nat} : cutV (List.map V.int xs) (some (n : Int)) none = List.map V.int (xs.drop n) := by rw [cutV_drop, List.map_drop]
/-- two lists item by item -/
inductive All2 {α β : Type} (R : α → β → Prop) : List α → List β → Prop
  | nil : All2 R [] []
  | cons {x : α} {y : β} {xs : List α} {ys : List β} : R x y → All2 R xs ys → All2 R (x :: xs) (y :: ys)
section
variable {α β : Type} {R S : α → β → Prop}
theorem All2.len {xs : List α} {ys : List β} (h : All2 R xs ys) : xs.length = ys.length := by
  induction h with
  | nil => rfl
  | cons _ _ ih => rw [List.length_cons, List.length_cons, ih]
theorem All2.mono {xs : List α} {ys : List β} (h : All2 R xs ys) (k : ∀ x y, R x y → S x y) : All2 S xs ys := by
  induction h with
  | nil => exact .nil
  | cons r _ ih => exact .cons (k _ _ r) ih
theorem All2.app {xs xs' : List α} {ys ys' : List β} (h : All2 R xs ys) (k : All2 R xs' ys') : All2 R (xs ++ xs') (ys ++ ys') := by
  induction h with
  | nil => exact k
  | cons r _ ih => exact .cons r ih
theorem All2.snoc {xs : List α} {ys : List β} {x : α} {y : β} (h : All2 R xs ys) (r : R x y) : All2 R (xs ++ [x]) (ys ++ [y]) := h.app (.cons r .nil)
theorem All2.at {xs : List α} {ys : List β} (h : All2 R xs ys) {i : Nat} {x : α} (e : xs[i]? = some x) : ∃ y, ys[i]? = some y ∧ R x y := by
  induction h generalizing i with
  | nil => simp at e
  | cons r _ ih =>
    cases i with
    | zero => exact ⟨_, rfl, by simpa using (Option.some.inj e) ▸ r⟩
    | succ i => exact ih e
theorem All2.at' {xs : List α} {ys : List β} (h : All2 R xs ys) {i : Nat} {y : β} (e : ys[i]? = some y) : ∃ x, xs[i]? = some x ∧ R x y := by
  induction h generalizing i with
  | nil => simp at e
  | cons r _ ih =>
    cases i with
    | zero => exact ⟨_, rfl, by simpa using (Option.some.inj e) ▸ r⟩
    | succ i => exact ih e
theorem All2.take {xs : List α} {ys : List β} (h : All2 R xs ys) (n : Nat) : All2 R (xs.take n) (ys.take n) := by
  induction h generalizing n with
  | nil => rw [List.take_nil, List.take_nil]; exact .nil
  | cons r _ ih =>
    cases n with
    | zero => exact .nil
    | succ n => exact .cons r (ih n)
theorem All2.drop {xs : List α} {ys : List β} (h : All2 R xs ys) (n : Nat) : All2 R (xs.drop n) (ys.drop n) := by
  induction h generalizing n with
  | nil => rw [List.drop_nil, List.drop_nil]; exact .nil
  | cons r t ih =>
    cases n with
    | zero => exact .cons r t
    | succ n => exact ih n
end
theorem tup_upd {H : Hp} {a l : Addr} {xs ys : List V} {o : HO} (h : H a = some (.tup xs)) (g : H l = some (.lst ys)) : upd H l o a = some (.tup xs) := by
  rw [upd_ne (ne_of h g (by intro z; cases z))]
  exact h
theorem tup_but {H H' : Hp} {a l : Addr} {xs ys : List V} (bt : But l H H') (h : H a = some (.tup xs)) (g : H l = some (.lst ys)) : H' a = some (.tup xs) := bt _ _ (ne_of h g (by intro z; cases z)) h
theorem cutV_take1 {xs : List V} : cutV xs none (some 1) = xs.take 1 := cutV_take (n := 1)
theorem cutV_drop1 {xs : List V} : cutV xs (some 1) none = xs.drop 1 := cutV_drop (n := 1)
section
variable {X : Cx}
/-- the script: its length, an item -/
def rLenSc (K : PySem.W.Frag) (a : Addr) (ns : List Int) : List V → Hp → VK → Prop := fun vs H Q => vs = [.ref a] ∧ SqL K H a (List.map V.int ns) ∧ Q (.int ns.length) H
theorem call_lenSc (a : Addr) (ns : List Int) : CallR X (.builtin "len") (rLenSc X.K a ns) := CallR.of call_len_seq fun vs H Q ⟨e, h, q⟩ => ⟨a, List.map V.int ns, e, .inl h, by rw [List.length_map]; exact q⟩
def rIxSc (K : PySem.W.Frag) (a : Addr) (ns : List Int) : R2 := fun x y H Q => ∃ i, x = .ref a ∧ y = .int i ∧ SqL K H a (List.map V.int ns) ∧ 0 ≤ i ∧ i < ns.length ∧ Q (.int (gN ns i.toNat)) H
theorem ix_sc (a : Addr) (ns : List Int) : IxR X (rIxSc X.K a ns) := IxR.of ix_list fun x y H Q ⟨i, e1, e2, h, h0, h1, q⟩ => ⟨a, List.map V.int ns, i, _, e1, e2, h, at_g' (Int.toNat_of_nonneg h0).symm (by omega), q⟩
end
section
variable {X : Cx}
def rSumS : List V → Hp → VK → Prop := fun vs H Q => ∃ a ns, vs = [.ref a] ∧ H a = some (.lst (List.map V.int ns)) ∧ Q (.int ns.sum) H
theorem cr_sumS (hc : X.calm = true) : CallR X (.builtin "sum") rSumS := CallR.of (cr_sum hc) fun vs H Q ⟨a, ns, e, g, q⟩ => ⟨a, ns, e, .inl (.inl g), q⟩
end
section
variable {X : Cx}
/-- t[lo:hi]: t itself or a new tuple, in either case one of these items -/
def rSlTS : V → Option Int → Option Int → Hp → VK → Prop := fun x lo hi H Q => ∃ a xs, x = .ref a ∧ H a = some (.tup xs) ∧ ∀ p H', Same H H' → (p = a ∨ H p = none) → H' p = some (.tup (cutV xs lo hi)) → Q (.ref p) H'
theorem sl_tupS : SlR X rSlTS := SlR.of sl_tupA fun x lo hi H Q ⟨a, xs, e, g, q⟩ => ⟨a, xs, e, .inl (.inl g), fun z => q a H (Same.refl _) (.inl rfl) (by
    unfold cutV
    rw [z.1, z.2, List.drop_zero, Nat.sub_zero, List.take_length]
    exact g), fun _ p hp => q p _ (same_upd hp) (.inr hp) upd_same⟩
end
theorem cutV_take3 {xs : List V} : cutV xs none (some 3) = xs.take 3 := cutV_take (n := 3)
section
variable {X : Cx}
theorem PT.of {e : Expr} {t t' : TT} (h : PT X e t) (k : ∀ σ H Q, t' σ H Q → t σ H Q) : PT X e t' := ⟨fun pins s σ H Q I q => h.run pins s σ H Q I (k _ _ _ q)⟩
/-- a list's truth -/
def tTrL (ta : TE) : TT := fun σ H Q => ta σ H fun x H1 => ∃ p xs, x = .ref p ∧ H1 p = some (.lst xs) ∧ Q (decide (0 < xs.length)) H1
theorem pt_truthL {a : Expr} {ta : TE} (ha : PE X a ta) (he : ∀ whole, isTrue a X.env whole = (do let v ← whole; standAt a.pos; holding [v] (truthy v))) : PT X a (tTrL ta) :=
  PT.of (pt_truth (pe_mono ha) he) fun σ H Q q => ⟨_, q, fun x H1 ⟨p, xs, e, g, z⟩ => ⟨decide (0 < xs.length), by rw [e]; exact .inl ⟨xs, .inl (.inl g), by cases xs <;> simp⟩, z⟩⟩
def iEnumL (K : PySem.W.Frag) (ta : TA) : TI := fun σ H R => ta σ H fun vs H1 => ∃ a xs, vs = [.ref a] ∧ H1 a = some (.lst xs) ∧ R (Ite K a) H1
theorem pi_enumL {e : Expr} {ta : TA} {p pos tpos : Pos} {elts : List Expr} {kk : Nat} (hg : Gl X "enumerate") (hm : X.mg "enumerate" = none) (ha : PA X [e] ta) (hs : starEach [e] X.env = [(false, eval e X.env)] := by rfl) :
    PI X (.Tuple elts kk tpos) (.Call (.Name "enumerate" p) [e] [] pos) (iEnumL X.K ta) := PI.of (pi_enum hg hm (pa_mono ha) hs) fun σ H R q => ⟨_, q, fun vs H1 ⟨a, xs, e, g, r⟩ => ⟨a, xs, e, .inl (.inl g), r⟩⟩
end
theorem walkE {K : PySem.W.Frag} {a : Addr} {xs : List V} : Walk (Ite K a) xs.length (fun H => H a = some (.lst xs)) (YPair (fun i => some (.int (i : Nat))) (fun i => xs[i]?)) := (walk_enum (K := K) (a := a) (xs := xs)).mono (fun _ h => .inl (.inl h)) fun _ _ _ _ _ _ y => y
theorem seq_cut {s1 R : TS} {D : Ends} {σ : L2.St} {H : Hp} (I : L2.St → Hp → Prop) (h2 : ∀ σ H, I σ H → R D σ H) (h1 : ∀ C : L2.St → Hp → Prop, (∀ σ H, I σ H → C σ H) → s1 { D with nx := C } σ H) : tSeq s1 R D σ H := h1 _ h2

/-! ### data at any depth: what stands there, and == of it -/
structure Cod {α : Type} [DecidableEq α] (R : Hp → V → α → Prop) (f : α → PyData) (d : Nat) : Prop where
  dp : ∀ (K : PySem.W.Frag) H v a, R H v a → Dp K H v (f a)
  eq : ∀ a b, PyData.eqv (f a) (f b) = decide (a = b)
  lay : ∀ a, PyData.canLay0 (f a) = true
  dep : ∀ a, PyData.depth (f a) ≤ d
def IntV (_ : Hp) (v : V) (i : Int) : Prop := v = .int i
def LstV {α : Type} (R : Hp → V → α → Prop) (H : Hp) (v : V) (l : List α) : Prop := ∃ a vs, v = .ref a ∧ H a = some (.lst vs) ∧ All2 (R H) vs l
def TupV {α : Type} (R : Hp → V → α → Prop) (H : Hp) (v : V) (l : List α) : Prop := ∃ a vs, v = .ref a ∧ H a = some (.tup vs) ∧ All2 (R H) vs l
def Pr2V {α β : Type} (R : Hp → V → α → Prop) (S : Hp → V → β → Prop) (H : Hp) (v : V) (p : α × β) : Prop := ∃ a x y, v = .ref a ∧ H a = some (.tup [x, y]) ∧ R H x p.1 ∧ S H y p.2
def Pr3V {α β γ : Type} (R : Hp → V → α → Prop) (S : Hp → V → β → Prop) (T : Hp → V → γ → Prop) (H : Hp) (v : V) (p : α × β × γ) : Prop := ∃ a x y z, v = .ref a ∧ H a = some (.tup [x, y, z]) ∧ R H x p.1 ∧ S H y p.2.1 ∧ T H z p.2.2
theorem cod_int : Cod IntV PyData.int 0 := ⟨fun K H v a h => by rw [show v = .int a from h]; exact .int a, eqv_ii, fun _ => rfl, fun _ => Nat.le_refl _⟩
section
variable {α β γ : Type} [DecidableEq α] [DecidableEq β] [DecidableEq γ] {R : Hp → V → α → Prop} {S : Hp → V → β → Prop} {T : Hp → V → γ → Prop} {f : α → PyData} {g : β → PyData} {h : γ → PyData} {d e k : Nat}
theorem Cod.all (c : Cod R f d) {K : PySem.W.Frag} {H : Hp} {vs : List V} {l : List α} (a : All2 (R H) vs l) : DpAll K H vs (l.map f) := by
  induction a with
  | nil => exact .nil
  | cons r _ ih => exact .cons (c.dp _ _ _ _ r) ih
theorem Cod.eqAll (c : Cod R f d) : ∀ l m : List α, PyData.eqvAll (l.map f) (m.map f) = decide (l = m)
  | [], [] => by rw [List.map_nil, eqvAll_nil]; rfl
  | [], y :: s => by rw [List.map_nil, List.map_cons, PyData.eqvAll]; simp
  | x :: r, [] => by rw [List.map_nil, List.map_cons, PyData.eqvAll]; simp
  | x :: r, y :: s => by
    rw [List.map_cons, List.map_cons, eqvAll_cons, c.eq, Cod.eqAll c r s]
    simp only [List.cons.injEq, Bool.decide_and]
theorem Cod.layAll (c : Cod R f d) : ∀ l : List α, PyData.canLayAll0 (l.map f) = true
  | [] => rfl
  | x :: r => by rw [List.map_cons, PyData.canLayAll0, c.lay, Cod.layAll c r]; rfl
theorem Cod.depAll (c : Cod R f d) : ∀ l : List α, PyData.depthAll (l.map f) ≤ d
  | [] => by rw [List.map_nil, PyData.depthAll]; exact Nat.zero_le _
  | x :: r => by rw [List.map_cons, PyData.depthAll]; exact Nat.max_le.mpr ⟨c.dep x, Cod.depAll c r⟩
theorem cod_lst (c : Cod R f d) : Cod (LstV R) (fun l => .list (l.map f)) (d + 1) :=
  ⟨fun K H v l ⟨a, vs, e, ha, hv⟩ => by rw [e]; exact .lst (.inl (.inl ha)) (c.all hv), fun l m => by rw [PyData.eqv, c.eqAll], fun l => by rw [PyData.canLay0, c.layAll], fun l => by rw [PyData.depth]; exact Nat.succ_le_succ (c.depAll l)⟩
theorem cod_tup (c : Cod R f d) : Cod (TupV R) (fun l => .tuple (l.map f)) (d + 1) :=
  ⟨fun K H v l ⟨a, vs, e, ha, hv⟩ => by rw [e]; exact .tup (.inl (.inl ha)) (c.all hv), fun l m => by rw [PyData.eqv, c.eqAll], fun l => by rw [PyData.canLay0, c.layAll], fun l => by rw [PyData.depth]; exact Nat.succ_le_succ (c.depAll l)⟩
theorem cod_p2 (c : Cod R f d) (b : Cod S g e) : Cod (Pr2V R S) (fun p => .tuple [f p.1, g p.2]) (max d e + 1) :=
  ⟨fun K H v l ⟨a, x, y, e, ha, hx, hy⟩ => by rw [e]; exact .tup (.inl (.inl ha)) (.cons (c.dp _ _ _ _ hx) (.cons (b.dp _ _ _ _ hy) .nil)),
   fun l m => by
    rw [PyData.eqv, eqvAll_cons, eqvAll_cons, eqvAll_nil, c.eq, b.eq, Bool.and_true, ← Bool.decide_and]
    exact decide_eq_decide.mpr ⟨fun z => Prod.ext z.1 z.2, fun z => by rw [z]; exact ⟨rfl, rfl⟩⟩,
   fun l => by rw [PyData.canLay0, PyData.canLayAll0, PyData.canLayAll0, PyData.canLayAll0, c.lay, b.lay]; rfl,
   fun l => by
    rw [PyData.depth, PyData.depthAll, PyData.depthAll, PyData.depthAll]
    have h1 := c.dep l.1
    have h2 := b.dep l.2
    omega⟩
theorem cod_p3 (c : Cod R f d) (b : Cod S g e) (t : Cod T h k) : Cod (Pr3V R S T) (fun p => .tuple [f p.1, g p.2.1, h p.2.2]) (max d (max e k) + 1) :=
  ⟨fun K H v l ⟨a, x, y, z, e, ha, hx, hy, hz⟩ => by rw [e]; exact .tup (.inl (.inl ha)) (.cons (c.dp _ _ _ _ hx) (.cons (b.dp _ _ _ _ hy) (.cons (t.dp _ _ _ _ hz) .nil))),
   fun l m => by
    rw [PyData.eqv, eqvAll_cons, eqvAll_cons, eqvAll_cons, eqvAll_nil, c.eq, b.eq, t.eq, Bool.and_true, ← Bool.decide_and, ← Bool.decide_and]
    exact decide_eq_decide.mpr ⟨fun z => Prod.ext z.1 (Prod.ext z.2.1 z.2.2), fun z => by rw [z]; exact ⟨rfl, rfl, rfl⟩⟩,
   fun l => by rw [PyData.canLay0, PyData.canLayAll0, PyData.canLayAll0, PyData.canLayAll0, PyData.canLayAll0, c.lay, b.lay, t.lay]; rfl,
   fun l => by
    rw [PyData.depth, PyData.depthAll, PyData.depthAll, PyData.depthAll, PyData.depthAll]
    have h1 := c.dep l.1
    have h2 := b.dep l.2.1
    have h3 := t.dep l.2.2
    omega⟩
end
section
variable {X : Cx} {α : Type} [DecidableEq α] {R : Hp → V → α → Prop} {f : α → PyData} {d : Nat}
def rEqC (R : Hp → V → α → Prop) : R2 := fun x y H Q => ∃ a b, R H x a ∧ R H y b ∧ Q (.bl (decide (a = b))) H
def rNeC (R : Hp → V → α → Prop) : R2 := fun x y H Q => ∃ a b, R H x a ∧ R H y b ∧ Q (.bl (!decide (a = b))) H
theorem Cod.shaped (c : Cod R f d) (hd : d ≤ 64) (a : α) : SeqAt.shaped (f a) = true := by
  unfold SeqAt.shaped
  rw [c.lay, decide_eq_true (Nat.le_trans (c.dep a) hd)]
  rfl
theorem op_eqC (hu : X.A.units + 64 < cLine) (c : Cod R f d) (hd : d ≤ 64) : OpR X (compareOp .Eq) (rEqC R) := OpR.of (op_eqD hu) fun x y H Q ⟨a, b, ha, hb, q⟩ => ⟨f a, f b, c.dp _ _ _ _ ha, c.dp _ _ _ _ hb, c.shaped hd a, c.shaped hd b, by rw [c.eq]; exact q⟩
theorem op_neC (hu : X.A.units + 64 < cLine) (c : Cod R f d) (hd : d ≤ 64) : OpR X (compareOp .NotEq) (rNeC R) := OpR.of (op_neD hu) fun x y H Q ⟨a, b, ha, hb, q⟩ => ⟨f a, f b, c.dp _ _ _ _ ha, c.dp _ _ _ _ hb, c.shaped hd a, c.shaped hd b, by rw [c.eq]; exact q⟩
end
theorem ints_all {H : Hp} (ns : List Int) : All2 (IntV H) (List.map V.int ns) ns := by
  induction ns with
  | nil => exact .nil
  | cons n r ih => exact .cons rfl ih
theorem ints_of {H : Hp} {vs : List V} {ns : List Int} (h : All2 (IntV H) vs ns) : vs = List.map V.int ns := by
  induction h with
  | nil => rfl
  | cons r _ ih => rw [List.map_cons, ih, show _ = V.int _ from r]
theorem intL {H : Hp} {a : Addr} {ns : List Int} (g : H a = some (.lst (List.map V.int ns))) : LstV IntV H (.ref a) ns := ⟨a, _, rfl, g, ints_all ns⟩
theorem lsv_mono {H H' : Hp} (s : Same H H') (v : V) (n : List Int) (h : LstV IntV H v n) : LstV IntV H' v n := by
  obtain ⟨a, vs, e, g, k⟩ := h
  exact ⟨a, vs, e, s _ _ g, k.mono fun _ _ z => z⟩
/-- what stands however the heap goes on, but for one list that changes -/
structure Stab {α : Type} (R : Hp → V → α → Prop) : Prop where
  mono : ∀ {H H' : Hp}, Same H H' → ∀ v a, R H v a → R H' v a
  but : ∀ {H H' : Hp} {l : Addr} {ys : List V}, But l H H' → H l = some (.lst ys) → ∀ v a, R H v a → R H' v a
theorem stab_int : Stab IntV := ⟨fun _ _ _ h => h, fun _ _ _ _ h => h⟩
section
variable {α β γ : Type} {R : Hp → V → α → Prop} {S : Hp → V → β → Prop} {T : Hp → V → γ → Prop}
theorem stab_tup (c : Stab R) : Stab (TupV R) :=
  ⟨fun s v l ⟨a, vs, e, g, k⟩ => ⟨a, vs, e, s _ _ g, k.mono (c.mono s)⟩, fun bt gl v l ⟨a, vs, e, g, k⟩ => ⟨a, vs, e, tup_but bt g gl, k.mono (c.but bt gl)⟩⟩
theorem stab_p2 (c : Stab R) (b : Stab S) : Stab (Pr2V R S) :=
  ⟨fun s v l ⟨a, x, y, e, g, h1, h2⟩ => ⟨a, x, y, e, s _ _ g, c.mono s _ _ h1, b.mono s _ _ h2⟩, fun bt gl v l ⟨a, x, y, e, g, h1, h2⟩ => ⟨a, x, y, e, tup_but bt g gl, c.but bt gl _ _ h1, b.but bt gl _ _ h2⟩⟩
theorem stab_p3 (c : Stab R) (b : Stab S) (t : Stab T) : Stab (Pr3V R S T) :=
  ⟨fun s v l ⟨a, x, y, z, e, g, h1, h2, h3⟩ => ⟨a, x, y, z, e, s _ _ g, c.mono s _ _ h1, b.mono s _ _ h2, t.mono s _ _ h3⟩, fun bt gl v l ⟨a, x, y, z, e, g, h1, h2, h3⟩ => ⟨a, x, y, z, e, tup_but bt g gl, c.but bt gl _ _ h1, b.but bt gl _ _ h2, t.but bt gl _ _ h3⟩⟩
theorem lstV_mono (c : Stab R) {H H' : Hp} (s : Same H H') (v : V) (l : List α) (h : LstV R H v l) : LstV R H' v l := by
  obtain ⟨a, vs, e, g, k⟩ := h
  exact ⟨a, vs, e, s _ _ g, k.mono (c.mono s)⟩
theorem Stab.upd (c : Stab R) {H : Hp} {l : Addr} {ys : List V} {o : HO} (g : H l = some (.lst ys)) (v : V) (a : α) (h : R H v a) : R (upd H l o) v a := c.but ((But.refl l H).put) g v a h
end

theorem iteP {p : Prop} {i : Decidable p} {a b : Prop} (x : p → a) (y : ¬ p → b) : @ite _ p i a b := by
  by_cases h : p
  · rw [if_pos h]; exact x h
  · rw [if_neg h]; exact y h

def topS (i : Nat) : Stmt := PySem.Challenge.pw_stillroom_k47_lines.main.body.getD i (.Pass ⟨0, 0, 0, 0⟩)
abbrev s_break_lines : Stmt := topS 1
abbrev s__law_cell : Stmt := topS 3
abbrev s__law_twice : Stmt := topS 4
abbrev s__law_bytes : Stmt := topS 5
abbrev s__law_integer : Stmt := topS 6
abbrev s__law_words : Stmt := topS 7
abbrev s__law_due : Stmt := topS 8
abbrev s_law : Stmt := topS 9
theorem sc_break_lines : FnScope ["advances", "space", "width", "lines", "places", "end", "word", "parts", "rune", "part"] ["advances", "space", "width"] (defScope s_break_lines) := ⟨rfl, rfl, rfl, by decide +kernel, rfl, by decide +kernel, by decide +kernel⟩
theorem sc__law_cell : FnScope ["script", "k"] ["script", "k"] (defScope s__law_cell) := ⟨rfl, rfl, rfl, by decide +kernel, rfl, by decide +kernel, by decide +kernel⟩
theorem sc__law_twice : FnScope ["cell", "k", "x"] ["cell", "k"] (defScope s__law_twice) := ⟨rfl, rfl, rfl, by decide +kernel, rfl, by decide +kernel, by decide +kernel⟩
theorem sc__law_bytes : FnScope ["cell", "size", "left", "great", "data", "k"] ["cell", "size"] (defScope s__law_bytes) := ⟨rfl, rfl, rfl, by decide +kernel, rfl, by decide +kernel, by decide +kernel⟩
theorem sc__law_integer : FnScope ["value"] ["value"] (defScope s__law_integer) := ⟨rfl, rfl, rfl, by decide +kernel, rfl, by decide +kernel, by decide +kernel⟩
theorem sc__law_words : FnScope ["script", "words", "k", "cell", "word", "j", "draw"] ["script"] (defScope s__law_words) := ⟨rfl, rfl, rfl, by decide +kernel, rfl, by decide +kernel, by decide +kernel⟩
theorem sc__law_due : FnScope ["words", "space", "width", "lines", "line", "end", "w", "total", "r"] ["words", "space", "width"] (defScope s__law_due) := ⟨rfl, rfl, rfl, by decide +kernel, rfl, by decide +kernel, by decide +kernel⟩
theorem sc_law : FnScope ["script", "words", "space", "width", "given", "word", "found", "seen", "line", "place", "due", "w", "r"] ["script"] (defScope s_law) := ⟨rfl, rfl, rfl, by decide +kernel, rfl, by decide +kernel, by decide +kernel⟩
/-- what the top has left, as far as the walk asks of it -/
structure Txt (K : PySem.W.Frag) (mg : Str → Option Value) where
  f_break_lines : Addr
  fd_break_lines : FuncData
  F_break_lines : Fun K "break_lines" "break_lines" s_break_lines f_break_lines fd_break_lines
  b_break_lines : Binds K fd_break_lines ["advances", "space", "width"] []
  g_break_lines : mg "break_lines" = some (.ref f_break_lines)
  f__law_cell : Addr
  fd__law_cell : FuncData
  F__law_cell : Fun K "_law_cell" "_law_cell" s__law_cell f__law_cell fd__law_cell
  b__law_cell : Binds K fd__law_cell ["script", "k"] []
  g__law_cell : mg "_law_cell" = some (.ref f__law_cell)
  f__law_twice : Addr
  fd__law_twice : FuncData
  F__law_twice : Fun K "_law_twice" "_law_twice" s__law_twice f__law_twice fd__law_twice
  b__law_twice : Binds K fd__law_twice ["cell", "k"] []
  g__law_twice : mg "_law_twice" = some (.ref f__law_twice)
  f__law_bytes : Addr
  fd__law_bytes : FuncData
  F__law_bytes : Fun K "_law_bytes" "_law_bytes" s__law_bytes f__law_bytes fd__law_bytes
  b__law_bytes : Binds K fd__law_bytes ["cell", "size"] []
  g__law_bytes : mg "_law_bytes" = some (.ref f__law_bytes)
  f__law_integer : Addr
  fd__law_integer : FuncData
  F__law_integer : Fun K "_law_integer" "_law_integer" s__law_integer f__law_integer fd__law_integer
  b__law_integer : Binds K fd__law_integer ["value"] []
  g__law_integer : mg "_law_integer" = some (.ref f__law_integer)
  f__law_words : Addr
  fd__law_words : FuncData
  F__law_words : Fun K "_law_words" "_law_words" s__law_words f__law_words fd__law_words
  b__law_words : Binds K fd__law_words ["script"] []
  g__law_words : mg "_law_words" = some (.ref f__law_words)
  f__law_due : Addr
  fd__law_due : FuncData
  F__law_due : Fun K "_law_due" "_law_due" s__law_due f__law_due fd__law_due
  b__law_due : Binds K fd__law_due ["words", "space", "width"] []
  g__law_due : mg "_law_due" = some (.ref f__law_due)
  f_law : Addr
  fd_law : FuncData
  F_law : Fun K "law" "law" s_law f_law fd_law
  b_law : Binds K fd_law ["script"] []
  g_law : mg "law" = some (.ref f_law)
  z_abs : mg "abs" = none
  z_bool : mg "bool" = none
  z_enumerate : mg "enumerate" = none
  z_int : mg "int" = none
  z_isinstance : mg "isinstance" = none
  z_len : mg "len" = none
  z_list : mg "list" = none
  z_max : mg "max" = none
  z_range : mg "range" = none
  z_sum : mg "sum" = none
  z_tuple : mg "tuple" = none
open Lean in
local macro_rules
  | `(tactic| walk_at $s:str) => do
    let ws := (s.getString.splitOn " ").filter (· ≠ "")
    let ids (fs : List String) : Array (TSyntax `term) := (fs.map fun f => (⟨mkIdent f.toName⟩ : TSyntax `term)).toArray
    match ws with
    | "vc" :: fs => do
      let xs := ids fs
      `(tactic| simp (config := {maxSteps := 2000000}) only [tSeq, tAsg, tOp, rI, rI0, rU, tUn, tCB, tCons, tNil, tVar, tC, gName, gSub, rSetL, tRet, tRetN, tIfS, tNext, tTest, tB, tDrop, tIf, tNot, tAnd, tOr, tAndV, tOrV, tNotV, tAug, ipI, tCall, tCmp, t2I, tBreak, tCont, tLst, tTup, tBM, tBM0, rAppend, tyV_upd, rLenH, rLenT, rListH, rIxH, rIxTH, rIxS, rEqIL, rNeIL, rEqTS, rSlH, rRep, rCat, rExtend, tSl, tPart, tNoPart, rIxT, gTup, gCons, gNil, atI_c0, atI_c1, atI_c2, atI_c3, dS_int, dS_bl, isS_int, isS_bl, eqv_ii, eqv_bb, eqvAll_nil, eqvAll_cons, List.all_cons, List.all_nil, Bool.and_true, Bool.true_and, rIsiB, tnm_int, tnm_bl, tnm_str, tnm_non, tnm_ref, kb1, kb2, kb3, kb4, kb5, kb6, kb7, kb8, kb9, kb10, rEq, rNe, scal_ii, scal_ss, scal_bb, scal_nn, scal_in, scal_ni, tFor_eq, tLc_eq, iRng1, iRng2, iList, iTup, iZip, iStr, iRng3, tChain, tYes, wipe, tCallL, Int.sub_zero, Int.toNat_natCast, Int.natCast_add, cxOf, L2.start, List.map_cons, List.map_nil, List.length_cons, List.length_nil, List.reduceReplicate, List.cons_append, List.nil_append, List.append_nil, List.set_cons_zero, List.set_cons_succ, List.getElem?_cons_zero, List.getElem?_cons_succ, upd_same, upd_upd, HO.lst.injEq, HO.tup.injEq, nil_sz, Option.some.injEq, V.int.injEq, V.bl.injEq, V.ref.injEq, V.str.injEq, V.ty.injEq, exists_eq_left', exists_eq_left, exists_eq', exists_eq, Int.cast_ofNat_Int, Int.reduceEq, Int.reduceMul, Int.reduceAdd, Int.reduceSub, Int.natCast_zero, Int.mul_zero, Int.add_zero, exists_and_left, exists_and_right, List.cons.injEq, and_true, true_and, and_assoc, reduceCtorEq, false_and, and_false, exists_false, exists_const, or_false, false_or, Nat.reduceAdd, Nat.reduceSub, Int.reduceLT, Int.reduceLE, Int.reduceNeg, Int.reducePow, Int.reduceToNat, ite_true, ite_false, Bool.false_eq_true, Bool.not_true, Bool.not_false, decide_true, decide_false, if_true, if_false, tTupS, tLstS, rListS, rListT, rTupleL, rCatL, rRepS, rSlS, map_int_inj, sz1, sz2, sz3, sz4, sz5, sz6, sz8, CMul, Nat.reduceLT, Nat.reduceLeDiff, Nat.reducePow, or_true, true_or, List.length_map, List.length_append, List.length_replicate, decide_eq_true_eq, gt_iff_lt, ge_iff_le, Int.reduceGT, Int.reduceGE, ne_eq, not_true_eq_false, not_false_eq_true, Int.reduceToNat, gTupS, gLstS, iListS, iTupS, tML, tML0, rPop, mx_eq, mn_eq, Int.natCast_inj, bitAnd_m1, bitAnd_m2, bitAnd_m3, bitAnd_m4, bitAnd_m5, bitAnd_m6, bitAnd_m7, bitAnd_m8, bitAnd_m16, CDiv, toNat_mul, map_snoc, map_cat, map_setV, List.length_set, absI_eq, Bool.and_self, tAugS, rGetL, iZipS, cutV_take1, cutV_drop1, tPar, rLenSc, rIxSc, iRng2, rSumS, rSlTS, cutV_take3, rEqC, rNeC, tTrL, iEnumL, eq_self, $[$xs:term],*])
    | "w" :: fs => do
      let xs := ids fs
      let ys := (fs.map fun f => (⟨mkIdent f.toName⟩ : TSyntax `term)).toArray
      `(tactic| simp (config := {maxSteps := 2000000}) only [tSeq, tAsg, tOp, rI, rI0, rU, tUn, tCB, tCons, tNil, tVar, tC, gName, gSub, rSetL, tRet, tRetN, tIfS, tNext, tTest, tB, tDrop, tIf, tNot, tAnd, tOr, tAndV, tOrV, tNotV, tAug, ipI, tCall, tCmp, t2I, tBreak, tCont, tLst, tTup, tBM, tBM0, rAppend, tyV_upd, rLenH, rLenT, rListH, rIxH, rIxTH, rIxS, rEqIL, rNeIL, rEqTS, rSlH, rRep, rCat, rExtend, tSl, tPart, tNoPart, rIxT, gTup, gCons, gNil, atI_c0, atI_c1, atI_c2, atI_c3, dS_int, dS_bl, isS_int, isS_bl, eqv_ii, eqv_bb, eqvAll_nil, eqvAll_cons, List.all_cons, List.all_nil, Bool.and_true, Bool.true_and, rIsiB, tnm_int, tnm_bl, tnm_str, tnm_non, tnm_ref, kb1, kb2, kb3, kb4, kb5, kb6, kb7, kb8, kb9, kb10, rEq, rNe, scal_ii, scal_ss, scal_bb, scal_nn, scal_in, scal_ni, tFor_eq, tLc_eq, iRng1, iRng2, iList, iTup, iZip, iStr, iRng3, tChain, tYes, wipe, tCallL, Int.sub_zero, Int.toNat_natCast, Int.natCast_add, cxOf, L2.start, List.map_cons, List.map_nil, List.length_cons, List.length_nil, List.reduceReplicate, List.cons_append, List.nil_append, List.append_nil, List.set_cons_zero, List.set_cons_succ, List.getElem?_cons_zero, List.getElem?_cons_succ, upd_same, upd_upd, HO.lst.injEq, HO.tup.injEq, nil_sz, Option.some.injEq, V.int.injEq, V.bl.injEq, V.ref.injEq, V.str.injEq, V.ty.injEq, exists_eq_left', exists_eq_left, exists_eq', exists_eq, Int.cast_ofNat_Int, Int.reduceEq, Int.reduceMul, Int.reduceAdd, Int.reduceSub, Int.natCast_zero, Int.mul_zero, Int.add_zero, exists_and_left, exists_and_right, List.cons.injEq, and_true, true_and, and_assoc, reduceCtorEq, false_and, and_false, exists_false, exists_const, or_false, false_or, Nat.reduceAdd, Nat.reduceSub, Int.reduceLT, Int.reduceLE, Int.reduceNeg, Int.reducePow, Int.reduceToNat, ite_true, ite_false, Bool.false_eq_true, Bool.not_true, Bool.not_false, decide_true, decide_false, if_true, if_false, tTupS, tLstS, rListS, rListT, rTupleL, rCatL, rRepS, rSlS, map_int_inj, sz1, sz2, sz3, sz4, sz5, sz6, sz8, CMul, Nat.reduceLT, Nat.reduceLeDiff, Nat.reducePow, or_true, true_or, List.length_map, List.length_append, List.length_replicate, decide_eq_true_eq, gt_iff_lt, ge_iff_le, Int.reduceGT, Int.reduceGE, ne_eq, not_true_eq_false, not_false_eq_true, Int.reduceToNat, gTupS, gLstS, iListS, iTupS, tML, tML0, rPop, mx_eq, mn_eq, Int.natCast_inj, bitAnd_m1, bitAnd_m2, bitAnd_m3, bitAnd_m4, bitAnd_m5, bitAnd_m6, bitAnd_m7, bitAnd_m8, bitAnd_m16, CDiv, toNat_mul, map_snoc, map_cat, map_setV, List.length_set, absI_eq, Bool.and_self, tAugS, rGetL, iZipS, cutV_take1, cutV_drop1, tPar, rLenSc, rIxSc, iRng2, rSumS, rSlTS, cutV_take3, rEqC, rNeC, tTrL, iEnumL, eq_self, $[$xs:term],*, $[(tyL_eq $ys)],*, $[(sqL_eq $ys)],*])
    | "g" :: fs => do
      let xs := ids fs
      `(tactic| simp only [gTupS, gCons, gNil, gName, HO.tup.injEq, Option.some.injEq, exists_eq_left', exists_eq_left, exists_eq', exists_eq, V.ref.injEq, List.cons.injEq, and_assoc, exists_and_left, exists_and_right, true_and, and_true, List.length_cons, List.length_nil, Nat.reduceAdd, List.set_cons_zero, List.set_cons_succ, $[$xs:term],*])
    | "c" :: sn :: gs => do
      let s1 := mkIdent sn.toName
      let mut out ← `(tactic| skip)
      for g in gs do
        let i := mkIdent g.toName
        out ← `(tactic| ($out; replace $i := $s1 _ _ $i))
      return out
    | "n" :: sn :: suf :: gs => do
      let s1 := mkIdent sn.toName
      let mut out ← `(tactic| skip)
      for g in gs do
        let i := mkIdent g.toName
        let j := mkIdent (g ++ suf).toName
        out ← `(tactic| ($out; have $j := $s1 _ _ $i))
      return out
    | "b" :: bn :: suf :: gs => do
      let s1 := mkIdent bn.toName
      let mut out ← `(tactic| skip)
      for g in gs do
        let i := mkIdent g.toName
        let j := mkIdent (g ++ suf).toName
        let n := mkIdent ("ne_" ++ g).toName
        out ← `(tactic| ($out; have $j := $s1 _ _ $n $i))
      return out
    | _ => Macro.throwUnsupported

section
variable {P : Program} {w : World} {K : PySem.W.Frag} {mg : Str → Option Value} {base : Heap}

theorem foldl_take {α β : Type} (f : β → α → β) (s : β) {l : List α} {i : Nat} {x : α} (h : l[i]? = some x) : (l.take (i + 1)).foldl f s = f ((l.take i).foldl f s) x := by
  rw [List.take_add_one, h, List.foldl_append]
  simp only [Option.toList_some, List.foldl_cons, List.foldl_nil]
theorem take_succ {α : Type} {l : List α} {i : Nat} {x : α} (h : l[i]? = some x) : l.take (i + 1) = l.take i ++ [x] := by
  rw [List.take_add_one, h]
  rfl
theorem take_map_succ {α β : Type} (f : α → β) {l : List α} {i : Nat} {x : α} (h : l[i]? = some x) : (l.map f).take (i + 1) = (l.map f).take i ++ [f x] := take_succ (by rw [List.getElem?_map, h]; rfl)
theorem take_lt {α : Type} (l : List α) (i : Nat) {n : Nat} (h : l.length < n) : (l.take i).length < n := Nat.lt_of_le_of_lt (by rw [List.length_take]; exact Nat.min_le_right _ _) h
def YTup (ns : List Int) : Nat → Hp → V → Hp → Prop := fun i H v H' => H' = H ∧ ∃ b, ns[i]? = some b ∧ v = .int b
theorem walkTI {K : PySem.W.Frag} {a : Addr} {ns : List Int} : Walk (Itt K a) ns.length (fun H => H a = some (.tup (List.map V.int ns))) (YTup ns) := by
  have w := walkT (K := K) (a := a) (xs := List.map V.int ns)
  rw [List.length_map] at w
  refine w.mono (fun _ h => h) fun i H x H' _ _ y => ⟨y.1, ?_⟩
  have h := y.2
  rw [List.getElem?_map] at h
  obtain ⟨b, h1, rfl⟩ := Option.map_eq_some_iff.mp h
  exact ⟨b, h1, rfl⟩
theorem foldl_len {α : Type} {f : List Int → α → List Int} (h : ∀ p c, (f p c).length = p.length) : ∀ (l : List α) (p : List Int), (l.foldl f p).length = p.length
  | [], _ => rfl
  | c :: r, p => by rw [List.foldl_cons, foldl_len h r, h]
theorem ix_in {r c w h : Nat} (hr : r < h) (hc : c < w) : r * w + c < w * h := by
  have h1 : r * w + w ≤ h * w := by rw [← Nat.succ_mul]; exact Nat.mul_le_mul_right w hr
  rw [Nat.mul_comm w h]
  omega
theorem map_set (l : List Int) (i : Nat) (v : Int) : (List.map V.int l).set i (.int v) = List.map V.int (l.set i v) := by rw [List.map_set]
theorem div_in {a d : Int} {n : Nat} (h0 : 0 ≤ a) (h1 : a < d) (hn : 1 ≤ n) : 0 ≤ a * n / d ∧ a * n / d < n := by
  refine ⟨Int.ediv_nonneg (Int.mul_nonneg h0 (by omega)) (by omega), Int.ediv_lt_of_lt_mul (by omega) ?_⟩
  rw [Int.mul_comm (n : Int) d]
  exact Int.mul_lt_mul_of_pos_right h1 (by omega)
theorem foldl_ext' {α β : Type} {f g : α → β → α} {l : List β} : ∀ {a : α}, (∀ a, ∀ b ∈ l, f a b = g a b) → l.foldl f a = l.foldl g a := by
  induction l with
  | nil => exact fun _ => rfl
  | cons x r ih => exact fun {a} h => by rw [List.foldl_cons, List.foldl_cons, h a x List.mem_cons_self]; exact ih fun a b hb => h a b (List.mem_cons_of_mem _ hb)
theorem gN_ge {src : List Int} (h : ∀ v ∈ src, -1 ≤ v) (i : Nat) : -1 ≤ gN src i := by
  unfold gN
  rw [List.getD_eq_getElem?_getD]
  cases e : src[i]? with
  | none => decide
  | some b => exact h b (List.mem_of_getElem? e)

/-! ### breaking lines -/
abbrev Pl := Int × Int × Int
abbrev Ln := List Pl × Int
abbrev PlV : Hp → V → Pl → Prop := Pr3V IntV IntV IntV
abbrev LnV : Hp → V → Ln → Prop := Pr2V (TupV PlV) IntV
theorem stab_pl : Stab PlV := stab_p3 stab_int stab_int stab_int
theorem stab_ln : Stab LnV := stab_p2 (stab_tup stab_pl) stab_int
structure FS where
  ls : List Ln
  pl : List Pl
  en : Int
def FS.flush (s : FS) : FS := ⟨s.ls ++ [(s.pl, s.en)], [], 0⟩
def FS.rune (width : Int) (w : Nat) (s : FS) (r : Nat) (part : Int) : FS :=
  if 0 < s.pl.length ∧ width < s.en + part then ⟨s.flush.ls, [((w : Int), (r : Int), 0)], part⟩ else ⟨s.ls, s.pl ++ [((w : Int), (r : Int), s.en)], s.en + part⟩
def FS.runes (width : Int) (w : Nat) (s : FS) (parts : List Int) : Nat → FS
  | 0 => s
  | j + 1 => (FS.runes width w s parts j).rune width w j (gN parts j)
def FS.word (space width : Int) (s : FS) (total : Int) : FS := if 0 < s.pl.length then (if width < s.en + space + total then s.flush else ⟨s.ls, s.pl, s.en + space⟩) else s
def FS.words (space width : Int) (ws : List (List Int)) : Nat → FS
  | 0 => ⟨[], [], 0⟩
  | i + 1 => ((FS.words space width ws i).word space width (ws.getD i []).sum).runes width i (ws.getD i []) (ws.getD i []).length
def FS.fin (s : FS) : List Ln := if 0 < s.pl.length then s.ls ++ [(s.pl, s.en)] else s.ls
def brk (ws : List (List Int)) (space width : Int) : List Ln := (FS.words space width ws ws.length).fin
/-- the state in the heap: the list of lines, the list of places -/
structure FsH (H : Hp) (p0 pc : Addr) (s : FS) : Prop where
  ls : ∃ vs, H p0 = some (.lst vs) ∧ All2 (LnV H) vs s.ls
  pl : ∃ us, H pc = some (.lst us) ∧ All2 (PlV H) us s.pl
theorem FsH.mono {H H' : Hp} {p0 pc : Addr} {s : FS} (h : FsH H p0 pc s) (m : Same H H') : FsH H' p0 pc s := by
  obtain ⟨⟨vs, g1, k1⟩, us, g2, k2⟩ := h
  exact ⟨⟨vs, m _ _ g1, k1.mono (stab_ln.mono m)⟩, us, m _ _ g2, k2.mono (stab_pl.mono m)⟩
theorem flush_do {H H0 : Hp} {p0 pc : Addr} {s : FS} {us : List V} {k : Addr → Hp → Prop} (h : FsH H p0 pc s) (g : H pc = some (.lst us)) (hsz : s.ls.length < sizeLine) (s0 : Same H0 H) (f0 : H0 p0 = none)
    (hk : ∀ p H', Same H0 H' → H0 p = none → p0 ≠ p → FsH H' p0 p s.flush → k p H') :
    NewH H (.tup us) fun l H1 => NewH H1 (.tup [.ref l, .int s.en]) fun t H2 => ∃ x, H2 p0 = some (.lst x) ∧ x.length < sizeLine ∧ NewH (upd H2 p0 (.lst (x ++ [.ref t]))) (.lst []) fun p H' => k p H' := by
  intro l H1 s1 n1 g1 t H2 s2 n2 g2
  obtain ⟨⟨vs, g3, k3⟩, us', g4, k4⟩ := h
  rw [g] at g4
  obtain rfl : us = us' := by simpa using g4
  have s12 := s1.trans s2
  have g32 := s12 _ _ g3
  refine ⟨vs, g32, by rw [k3.len]; exact hsz, fun p H' s5 n5 g5 => ?_⟩
  have s0' := same_upd2 (s0.trans s12) f0 (o := .lst (vs ++ [.ref t]))
  refine hk p H' (s0'.trans s5) (s0'.free n5) (ne_of_none upd_same n5) ⟨⟨vs ++ [.ref t], s5 _ _ upd_same, ?_⟩, [], g5, .nil⟩
  have l1 : LnV H2 (.ref t) (s.pl, s.en) := ⟨t, .ref l, .int s.en, rfl, g2, ⟨l, us, rfl, s2 _ _ g1, k4.mono (stab_pl.mono s12)⟩, rfl⟩
  exact ((((k3.mono (stab_ln.mono s12)).mono (stab_ln.upd g32)).snoc (stab_ln.upd g32 _ _ l1))).mono (stab_ln.mono s5)
theorem app_do {H H1 : Hp} {p0 pc t : Addr} {s : FS} {us : List V} {x : Pl} {e : Int} (h : FsH H p0 pc s) (ne : p0 ≠ pc) (g : H pc = some (.lst us)) (s1 : Same H H1) (gt : H1 t = some (.tup [.int x.1, .int x.2.1, .int x.2.2])) :
    FsH (upd H1 pc (.lst (us ++ [.ref t]))) p0 pc ⟨s.ls, s.pl ++ [x], e⟩ := by
  obtain ⟨⟨vs, g3, k3⟩, us', g4, k4⟩ := h
  rw [g] at g4
  obtain rfl : us = us' := by simpa using g4
  have g1 := s1 _ _ g
  refine ⟨⟨vs, by rw [upd_ne ne]; exact s1 _ _ g3, (k3.mono (stab_ln.mono s1)).mono (stab_ln.upd g1)⟩, us ++ [.ref t], upd_same, ((k4.mono (stab_pl.mono s1)).mono (stab_pl.upd g1)).snoc (stab_pl.upd g1 _ _ ⟨t, _, _, _, rfl, gt, rfl, rfl, rfl⟩)⟩
def FS.cnt (s : FS) : Nat := s.ls.length + s.pl.length
theorem FS.cnt_rune (width : Int) (w : Nat) (s : FS) (r : Nat) (part : Int) : (s.rune width w r part).cnt ≤ s.cnt + 1 := by
  unfold FS.rune FS.cnt FS.flush
  split
  · rename_i h
    simp only [List.length_append, List.length_cons, List.length_nil]
    omega
  · simp only [List.length_append, List.length_cons, List.length_nil]
    omega
theorem FS.cnt_runes (width : Int) (w : Nat) (s : FS) (parts : List Int) : ∀ j, (s.runes width w parts j).cnt ≤ s.cnt + j
  | 0 => Nat.le_refl _
  | j + 1 => by
    have := FS.cnt_runes width w s parts j
    have := FS.cnt_rune width w (s.runes width w parts j) j (gN parts j)
    rw [FS.runes]
    omega
theorem FS.cnt_word (space width : Int) (s : FS) (total : Int) : (s.word space width total).cnt ≤ s.cnt := by
  unfold FS.word FS.cnt FS.flush
  split
  · split
    · simp only [List.length_append, List.length_cons, List.length_nil]
      omega
    · exact Nat.le_refl _
  · exact Nat.le_refl _
theorem FS.cnt_words (space width : Int) (ws : List (List Int)) (h : ∀ l ∈ ws, l.length ≤ 1000) : ∀ i, (FS.words space width ws i).cnt ≤ 1000 * i
  | 0 => Nat.le_refl _
  | i + 1 => by
    have h1 := FS.cnt_words space width ws h i
    have h2 := FS.cnt_word space width (FS.words space width ws i) (ws.getD i []).sum
    have h3 := FS.cnt_runes width i ((FS.words space width ws i).word space width (ws.getD i []).sum) (ws.getD i []) (ws.getD i []).length
    have h4 : (ws.getD i []).length ≤ 1000 := by
      rw [List.getD_eq_getElem?_getD]
      cases e : ws[i]? with
      | none => exact Nat.zero_le _
      | some l => exact h l (List.mem_of_getElem? e)
    rw [FS.words]
    omega
theorem cnt_lt {n : Nat} (h : n ≤ 2000000) : n < sizeLine := Nat.lt_of_le_of_lt h (by decide)
def sp_break_lines (K : PySem.W.Frag) : Sp := fun vs H Q _ => ∃ (a : Addr) (ws : List (List Int)) (space width : Int), vs = [.ref a, .int space, .int width] ∧ (LstV (LstV IntV) H (.ref a) ws) ∧ (ws.length ≤ 1000 ∧ ∀ l ∈ ws, l.length ≤ 1000) ∧ (∀ H' p, Same H H' → LstV LnV H' (.ref p) (brk ws space (mx width 1)) → Q (.ref p) H')
theorem ok_break_lines (T : Txt K mg) : FnOk P w K mg base CX0 1 T.f_break_lines T.fd_break_lines ["advances", "space", "width"] (sp_break_lines K) := by
  refine T.F_break_lines.ok sc_break_lines (fun vs H Q E h => ?_) (fun cdv A outer s H vs Q E hr h => ?_)
  · obtain ⟨a, ws, space, width, rfl, _⟩ := h
    rfl
  · obtain ⟨a, ws, space, width, rfl, ha, hn, q⟩ := h
    refine ⟨_, (pss_cons (ps_set (i := 2) sc_break_lines.nd rfl (Or.inl rfl) (pe_callB (call_max2 rfl) (by rfl) T.z_max (by decide +kernel) (pa_cons (pv 2) (pa_cons pe_int pa_nil))))
      (pss_cons (ps_set (i := 3) sc_break_lines.nd rfl (Or.inl rfl) (pe_lstS pa_nil))
      (pss_cons (ps_set (i := 4) sc_break_lines.nd rfl (Or.inl rfl) (pe_lstS pa_nil))
      (pss_cons (ps_set (i := 5) sc_break_lines.nd rfl (Or.inl rfl) pe_int)
      (pss_cons (ps_for PassesOwn.never rfl (pi_enumL (by rfl) T.z_enumerate (pa_cons (pv 0) pa_nil)) (pg_tupS (n := 2) (by rfl) (pgs_cons (pg_name (i := 6) sc_break_lines.nd rfl (Or.inl rfl)) (pgs_cons (pg_name (i := 7) sc_break_lines.nd rfl (Or.inl rfl)) pgs_nil))) (pss_cons (ps_if (PW.pt (pw_and (pt_truthL (pv 4) (by intro _; rfl)) (pw_and1 (pt_cmpR op_gt (pe_op op_add (pe_op op_add (pv 5) (pv 1)) (pe_callB (cr_sumS rfl) (by rfl) T.z_sum (by decide +kernel) (pa_cons (pv 7) pa_nil))) (pv 2) (nomark _))))) (pss_cons (ps_expr (pe_ml (pe_bm PySem.F.plainAttrs_list PySem.F.slot_list_append PySem.F.type_list_append mt_append (pe_mono (pv 3)) (pa_cons (pe_tupS (pa_cons (pe_callTy call_tupleL (by rfl) T.z_tuple (by decide +kernel) (pa_cons (pv 4) pa_nil)) (pa_cons (pv 5) pa_nil))) pa_nil))))
      (pss_one (ps_par (i := 4) (j := 5) (by rfl) sc_break_lines.nd rfl rfl (by decide) rfl rfl (pa_cons (pe_lstS pa_nil) (pa_cons pe_int pa_nil)) (by rfl)))) (pss_one (ps_if (pt_truthL (pv 4) (by intro _; rfl)) (pss_one (ps_aug (i := 5) sc_break_lines.nd rfl (Or.inl rfl) (pv 1) ip_add)) pss_nil)))
      (pss_one (ps_for PassesOwn.never rfl (pi_enumL (by rfl) T.z_enumerate (pa_cons (pv 7) pa_nil)) (pg_tupS (n := 2) (by rfl) (pgs_cons (pg_name (i := 8) sc_break_lines.nd rfl (Or.inl rfl)) (pgs_cons (pg_name (i := 9) sc_break_lines.nd rfl (Or.inl rfl)) pgs_nil))) (pss_cons (ps_if (PW.pt (pw_and (pt_truthL (pv 4) (by intro _; rfl)) (pw_and1 (pt_cmpR op_gt (pe_op op_add (pv 5) (pv 9)) (pv 2) (nomark _))))) (pss_cons (ps_expr (pe_ml (pe_bm PySem.F.plainAttrs_list PySem.F.slot_list_append PySem.F.type_list_append mt_append (pe_mono (pv 3)) (pa_cons (pe_tupS (pa_cons (pe_callTy call_tupleL (by rfl) T.z_tuple (by decide +kernel) (pa_cons (pv 4) pa_nil)) (pa_cons (pv 5) pa_nil))) pa_nil))))
      (pss_one (ps_par (i := 4) (j := 5) (by rfl) sc_break_lines.nd rfl rfl (by decide) rfl rfl (pa_cons (pe_lstS pa_nil) (pa_cons pe_int pa_nil)) (by rfl)))) pss_nil)
      (pss_cons (ps_expr (pe_ml (pe_bm PySem.F.plainAttrs_list PySem.F.slot_list_append PySem.F.type_list_append mt_append (pe_mono (pv 4)) (pa_cons (pe_tupS (pa_cons (pv 6) (pa_cons (pv 8) (pa_cons (pv 5) pa_nil)))) pa_nil))))
      (pss_one (ps_aug (i := 5) sc_break_lines.nd rfl (Or.inl rfl) (pv 9) ip_add))))))))
      (pss_cons (ps_if (pt_truthL (pv 4) (by intro _; rfl)) (pss_one (ps_expr (pe_ml (pe_bm PySem.F.plainAttrs_list PySem.F.slot_list_append PySem.F.type_list_append mt_append (pe_mono (pv 3)) (pa_cons (pe_tupS (pa_cons (pe_callTy call_tupleL (by rfl) T.z_tuple (by decide +kernel) (pa_cons (pv 4) pa_nil)) (pa_cons (pv 5) pa_nil))) pa_nil))))) pss_nil)
      (pss_one (ps_ret (pv 3))))))))), ?_⟩
    obtain ⟨_, vs, ea, ga, hv⟩ := ha
    obtain rfl := V.ref.inj ea
    walk_at "vc ga"
    intro p0 H1 s1 n1 g1 pc H2 s2 n2 g2
    have ga2 := (s1.trans s2) _ _ ga
    refine ⟨⟨_, ga2⟩, ?_⟩
    generalize mx width 1 = wd at q ⊢
    refine lpW (walkE (xs := vs)) (fun i σ H' => ∃ (pc : Addr) (v6 v7 v8 v9 : Option V), σ = [some (.ref a), some (.int space), some (.int wd), some (.ref p0), some (.ref pc), some (.int (FS.words space wd ws i).en), v6, v7, v8, v9] ∧ Same H H' ∧ H pc = none ∧ p0 ≠ pc ∧ FsH H' p0 pc (FS.words space wd ws i))
      ⟨pc, _, _, _, _, rfl, s1.trans s2, s1.free n2, ne_of_none g1 n2, ⟨[], s2 _ _ g1, .nil⟩, [], g2, .nil⟩ ?_ ?_ ?_
    · rintro i σ H' _ ⟨_, _, _, _, _, _, sm, _⟩
      exact sm _ _ ga
    · rintro i x σ H' H3 hi ⟨pc, v6, v7, v8, v9, rfl, sm, fc, ne, hF⟩ ⟨T, x1, x2, rfl, nT, rfl, hx1, hx2⟩
      obtain rfl : V.int (i : Int) = x1 := by simpa using hx1
      obtain ⟨parts, hpi, ap, us, rfl, gp, hp⟩ := hv.at hx2
      have e1 : ws.getD i [] = parts := by rw [List.getD_eq_getElem?_getD, hpi]; rfl
      have hpl := hn.2 parts (List.mem_of_getElem? hpi)
      obtain rfl := ints_of hp
      have sT := same_upd nT (o := .tup [.int (i : Int), .ref ap])
      have gT : upd H' T (.tup [.int (i : Int), .ref ap]) T = some (.tup [.int (i : Int), .ref ap]) := upd_same
      have hF := hF.mono sT
      have sm := sm.trans sT
      generalize upd H' T (.tup [.int (i : Int), .ref ap]) = H3 at gT hF sm ⊢
      have gp3 := sm _ _ gp
      have hc := FS.cnt_words space wd ws hn.2 i
      have hio : i < 1000 := by have := hv.len; omega
      obtain ⟨us, gu, ku⟩ := id hF.pl
      obtain ⟨vs', gv, kv⟩ := id hF.ls
      have hul := ku.len
      rw [show FS.words space wd ws (i + 1) = ((FS.words space wd ws i).word space wd parts.sum).runes wd i parts parts.length by rw [FS.words, e1]]
      generalize FS.words space wd ws i = S at hF hc ku kv hul ⊢
      have hS : S.ls.length < sizeLine := cnt_lt (show S.ls.length ≤ 2000000 by unfold FS.cnt at hc; omega)
      walk_at "g gT"
      refine seq_cut (fun σ H' => ∃ (pc : Addr) (v8 v9 : Option V), σ = [some (.ref a), some (.int space), some (.int wd), some (.ref p0), some (.ref pc), some (.int (S.word space wd parts.sum).en), some (.int (i : Int)), some (.ref ap), v8, v9] ∧ Same H H' ∧ H pc = none ∧ p0 ≠ pc ∧ FsH H' p0 pc (S.word space wd parts.sum)) ?_ (fun C hC => ?_)
      · have hcw := FS.cnt_word space wd S parts.sum
        generalize S.word space wd parts.sum = S1 at hcw ⊢
        rintro σ H' ⟨pc, v8, v9, rfl, sm, fc, ne, hF⟩
        have gp4 := sm _ _ gp
        walk_at "vc gp4"
        refine lpW (walkE (xs := List.map V.int parts)) (fun j σ H' => ∃ (pc : Addr) (v8 v9 : Option V), σ = [some (.ref a), some (.int space), some (.int wd), some (.ref p0), some (.ref pc), some (.int (S1.runes wd i parts j).en), some (.int (i : Int)), some (.ref ap), v8, v9] ∧ Same H H' ∧ H pc = none ∧ p0 ≠ pc ∧ FsH H' p0 pc (S1.runes wd i parts j))
          ⟨pc, _, _, rfl, sm, fc, ne, hF⟩ ?_ ?_ ?_
        · rintro j σ H' _ ⟨_, _, _, _, s, _⟩
          exact s _ _ gp
        · rintro j x σ H' H5 hj ⟨pc, v8, v9, rfl, sm, fc, ne, hF⟩ ⟨T, x1, x2, rfl, nT, rfl, hx1, hx2⟩
          obtain rfl : V.int (j : Int) = x1 := by simpa using hx1
          obtain ⟨part, hpj, rfl⟩ : ∃ part, parts[j]? = some part ∧ V.int part = x2 := by
            have h : (List.map V.int parts)[j]? = some x2 := hx2
            rw [List.getElem?_map] at h
            obtain ⟨b, h1, h2⟩ := Option.map_eq_some_iff.mp h
            exact ⟨b, h1, h2⟩
          have e2 : gN parts j = part := by unfold gN; rw [List.getD_eq_getElem?_getD, hpj]; rfl
          have sT := same_upd nT (o := .tup [.int (j : Int), .int part])
          have gT : upd H' T (.tup [.int (j : Int), .int part]) T = some (.tup [.int (j : Int), .int part]) := upd_same
          have hF := hF.mono sT
          have sm := sm.trans sT
          generalize upd H' T (.tup [.int (j : Int), .int part]) = H5 at gT hF sm ⊢
          have hcr := FS.cnt_runes wd i S1 parts j
          rw [List.length_map] at hj
          rw [show S1.runes wd i parts (j + 1) = (S1.runes wd i parts j).rune wd i j part by rw [FS.runes, e2]]
          generalize S1.runes wd i parts j = S2 at hF hcr ⊢
          have hcnt : S2.cnt ≤ 2000000 := by omega
          have hS2 : S2.ls.length < sizeLine := cnt_lt (show S2.ls.length ≤ 2000000 by unfold FS.cnt at hcnt; omega)
          have hS3 : S2.pl.length < sizeLine := cnt_lt (show S2.pl.length ≤ 2000000 by unfold FS.cnt at hcnt; omega)
          obtain ⟨us, gu, ku⟩ := id hF.pl
          obtain ⟨vs', gv, kv⟩ := id hF.ls
          have hul := ku.len
          walk_at "vc gT gu gv"
          have keep : ¬ (0 < S2.pl.length ∧ wd < S2.en + part) → S2.rune wd i j part = ⟨S2.ls, S2.pl ++ [((i : Int), (j : Int), S2.en)], S2.en + part⟩ := fun z => by unfold FS.rune; rw [if_neg z]
          have go : ¬ (0 < S2.pl.length ∧ wd < S2.en + part) → NewH H5 (.tup [.int (i : Int), .int (j : Int), .int S2.en]) fun p H' => ∃ x, H' pc = some (.lst x) ∧ x.length < sizeLine ∧ S2.en + part = (S2.rune wd i j part).en ∧ Same H (upd H' pc (.lst (x ++ [.ref p]))) ∧ H pc = none ∧ ¬ p0 = pc ∧ FsH (upd H' pc (.lst (x ++ [.ref p]))) p0 pc (S2.rune wd i j part) := by
            intro z t H6 s6 n6 g6
            rw [keep z]
            exact ⟨us, s6 _ _ gu, by rw [hul]; exact hS3, rfl, same_upd2 (sm.trans s6) fc, fc, ne, app_do hF ne gu s6 g6⟩
          refine iteP (fun c1 => iteP (fun c2 => ?_) (fun c2 => go fun z => c2 z.2)) (fun c1 => go fun z => c1 (by rw [hul]; exact z.1))
          refine flush_do hF gu hS2 sm n1 fun p H6 s6 n6 ne6 hF6 => ?_
          obtain ⟨us6, gu6, ku6⟩ := id hF6.pl
          have e6 : us6 = [] := List.eq_nil_of_length_eq_zero (by rw [ku6.len]; rfl)
          rw [e6] at gu6
          refine ⟨⟨_, gu6⟩, fun t H7 s7 n7 g7 => ?_⟩
          have er : S2.rune wd i j part = ⟨S2.flush.ls, [((i : Int), (j : Int), 0)], part⟩ := by unfold FS.rune; rw [if_pos ⟨by rw [← hul]; exact c1, c2⟩]
          rw [er]
          exact ⟨[], s7 _ _ gu6, by show 0 < sizeLine; decide, by show 0 + part = part; omega, same_upd2 (s6.trans s7) n6, n6, ne6, app_do (s := S2.flush) hF6 ne6 gu6 s7 g7⟩
        · rintro σ H' ⟨pc, v8, v9, rfl, sm, fc, ne, hF⟩
          rw [List.length_map] at hF ⊢
          exact ⟨pc, ⟨_, _, _, _, rfl⟩, sm, fc, ne, hF⟩
      · walk_at "vc gu gv"
        have keep : ∀ (S' : FS) , S.word space wd parts.sum = S' → S'.ls = S.ls → S'.pl = S.pl → C [some (.ref a), some (.int space), some (.int wd), some (.ref p0), some (.ref pc), some (.int S'.en), some (.int (i : Int)), some (.ref ap), v8, v9] H3 := by
          intro S' e e1 e2
          refine hC _ _ ⟨pc, v8, v9, by rw [e], sm, fc, ne, ?_⟩
          rw [e]
          exact ⟨by rw [e1]; exact hF.ls, by rw [e2]; exact hF.pl⟩
        have none_ : ¬ 0 < us.length → C [some (.ref a), some (.int space), some (.int wd), some (.ref p0), some (.ref pc), some (.int S.en), some (.int (i : Int)), some (.ref ap), v8, v9] H3 := fun c => keep S (by unfold FS.word; rw [if_neg (by rw [← hul]; exact c)]) rfl rfl
        refine iteP (fun c1 => ⟨parts, gp3, iteP (fun c2 => ?_) (fun c2 => iteP (fun _ => ?_) fun z => none_ z)⟩) (fun c1 => iteP (fun z => absurd z c1) fun z => none_ z)
        · refine flush_do hF gu hS sm n1 fun p H6 s6 n6 ne6 hF6 => ?_
          have ew : S.word space wd parts.sum = S.flush := by unfold FS.word; rw [if_pos (by rw [← hul]; exact c1), if_pos c2]
          refine hC _ _ ⟨p, v8, v9, by rw [ew]; rfl, s6, n6, ne6, by rw [ew]; exact hF6⟩
        · exact keep ⟨S.ls, S.pl, S.en + space⟩ (by unfold FS.word; rw [if_pos (by rw [← hul]; exact c1), if_neg c2]) rfl rfl
    · rintro σ H' ⟨pc, v6, v7, v8, v9, rfl, sm, fc, ne, hF⟩
      rw [hv.len] at hF ⊢
      have hc := FS.cnt_words space wd ws hn.2 ws.length
      have q2 : ∀ H' p, Same H H' → LstV LnV H' (.ref p) (FS.words space wd ws ws.length).fin → Q (.ref p) H' := q
      generalize FS.words space wd ws ws.length = S at hF hc q2 ⊢
      have hcn := hn.1
      obtain ⟨us, gu, ku⟩ := id hF.pl
      obtain ⟨vs', gv, kv⟩ := id hF.ls
      have hul := ku.len
      have hS : S.ls.length < sizeLine := cnt_lt (show S.ls.length ≤ 2000000 by unfold FS.cnt at hc; omega)
      walk_at "vc gu gv"
      refine iteP (fun c1 => ?_) (fun c1 => ?_)
      · intro l H6 s6 n6 g6 t H7 s7 n7 g7
        have s67 := s6.trans s7
        have gv7 := s67 _ _ gv
        refine ⟨vs', gv7, by rw [kv.len]; exact hS, q2 _ p0 (same_upd2 (sm.trans s67) n1) ⟨p0, _, rfl, upd_same, ?_⟩⟩
        unfold FS.fin
        rw [if_pos (by rw [← hul]; exact c1)]
        have l1 : LnV H7 (.ref t) (S.pl, S.en) := ⟨t, .ref l, .int S.en, rfl, g7, ⟨l, us, rfl, s7 _ _ g6, ku.mono (stab_pl.mono s67)⟩, rfl⟩
        exact ((kv.mono (stab_ln.mono s67)).mono (stab_ln.upd gv7)).snoc (stab_ln.upd gv7 _ _ l1)
      · refine q2 _ p0 sm ⟨p0, vs', rfl, gv, ?_⟩
        unfold FS.fin
        rw [if_neg (by rw [← hul]; exact c1)]
        exact kv

def sp__law_cell (K : PySem.W.Frag) (a : Addr) (ns : List Int) : Sp := fun vs H Q _ => ∃ (k : Int), vs = [.ref a, .int k] ∧ (0 ≤ k) ∧ (SqL K H a (List.map V.int ns)) ∧ (Q (.int (cellA ns k.toNat)) H)
theorem ok__law_cell (T : Txt K mg) (a : Addr) (ns : List Int) : FnOk P w K mg base CX0 1 T.f__law_cell T.fd__law_cell ["script", "k"] (sp__law_cell K a ns) := by
  refine T.F__law_cell.ok sc__law_cell (fun vs H Q E h => ?_) (fun cdv A outer s H vs Q E hr h => ?_)
  · obtain ⟨k, rfl, _⟩ := h
    rfl
  · obtain ⟨k, rfl, hk0, hS, q⟩ := h
    refine ⟨_, (pss_cons (ps_if (pt_cmpR op_lt (pv 1) (pe_callB call_len_seq (by rfl) T.z_len PySem.boot_len (pa_cons (pv 0) pa_nil)) (nomark _)) (pss_one (ps_ret (pe_callTy call_int1 (by rfl) T.z_int (by decide +kernel) (pa_cons (pe_ix ix_list (pv 0) (pv 1) (fun _ _ => rfl)) pa_nil)))) pss_nil)
      (pss_one (ps_ret pe_int))), ?_⟩
    obtain ⟨k, rfl⟩ := natOf hk0
    rw [Int.toNat_natCast] at q
    refine ⟨_, rfl, _, rfl, a, _, rfl, .inl hS, _, _, rfl, rfl, _, rfl, ite2 (fun e => ?_) (fun e => ?_)⟩
    · have e1 := of_decide_eq_true e
      rw [List.length_map] at e1
      have hk : k < ns.length := by omega
      refine ⟨_, rfl, _, rfl, a, _, _, .int (cellA ns k), rfl, rfl, hS, ?_, .inl ⟨_, rfl, q⟩⟩
      refine atI_nat ?_
      rw [List.getElem?_map, List.getElem?_eq_getElem hk]
      simp [cellA, hk]
    · have e1 : ¬ ((k : Int) < ((ns.map V.int).length : Int)) := fun z => e (decide_eq_true z)
      rw [List.length_map] at e1
      have hk : ns.length ≤ k := by omega
      have e0 : cellA ns k = 0 := by simp [cellA, hk]
      rw [e0] at q
      exact q

def tw (c k : Int) : Int :=
  let x := (c * 48271 + k * 69621 + 7) % 2147483647
  let y := (x * x + k * 40692 + 3) % 2147483629
  let z := (y * y + k * 30269 + 5) % 2147483587
  z / 64
theorem tw_nn (c k : Int) : 0 ≤ tw c k := by
  unfold tw
  exact Int.ediv_nonneg (Int.emod_nonneg _ (by decide)) (by decide)
theorem tw_lt (c k : Int) : tw c k < 33554432 := by
  unfold tw
  have := Int.emod_lt_of_pos ((((c * 48271 + k * 69621 + 7) % 2147483647 * ((c * 48271 + k * 69621 + 7) % 2147483647) + k * 40692 + 3) % 2147483629) * (((c * 48271 + k * 69621 + 7) % 2147483647 * ((c * 48271 + k * 69621 + 7) % 2147483647) + k * 40692 + 3) % 2147483629) + k * 30269 + 5) (show (0 : Int) < 2147483587 by decide)
  simp only
  omega
def sp__law_twice (K : PySem.W.Frag) : Sp := fun vs H Q _ => ∃ (c k : Int), vs = [.int c, .int k] ∧ (Q (.int (tw c k)) H)
theorem ok__law_twice (T : Txt K mg) : FnOk P w K mg base CX0 1 T.f__law_twice T.fd__law_twice ["cell", "k"] (sp__law_twice K) := by
  refine T.F__law_twice.ok sc__law_twice (fun vs H Q E h => ?_) (fun cdv A outer s H vs Q E hr h => ?_)
  · obtain ⟨c, k, rfl, _⟩ := h
    rfl
  · obtain ⟨c, k, rfl, q⟩ := h
    refine ⟨_, (pss_cons (ps_set (i := 2) sc__law_twice.nd rfl (Or.inl rfl) (pe_op op_mod (pe_callTy call_int1 (by rfl) T.z_int (by decide +kernel) (pa_cons (pe_op op_add (pe_op op_add (pe_op op_mul (pv 0) pe_int) (pe_op op_mul (pv 1) pe_int)) pe_int) pa_nil)) pe_int))
      (pss_cons (ps_set (i := 2) sc__law_twice.nd rfl (Or.inl rfl) (pe_op op_mod (pe_callTy call_int1 (by rfl) T.z_int (by decide +kernel) (pa_cons (pe_op op_add (pe_op op_add (pe_op op_mul (pv 2) (pv 2)) (pe_op op_mul (pv 1) pe_int)) pe_int) pa_nil)) pe_int))
      (pss_cons (ps_set (i := 2) sc__law_twice.nd rfl (Or.inl rfl) (pe_op op_mod (pe_callTy call_int1 (by rfl) T.z_int (by decide +kernel) (pa_cons (pe_op op_add (pe_op op_add (pe_op op_mul (pv 2) (pv 2)) (pe_op op_mul (pv 1) pe_int)) pe_int) pa_nil)) pe_int))
      (pss_one (ps_ret (pe_op op_fdiv (pv 2) pe_int)))))), ?_⟩
    walk_at "vc"
    have b1 := mod_in (c * 48271 + k * 69621 + 7) (show (0 : Int) < 2147483647 by decide)
    have b2 := mod_in ((c * 48271 + k * 69621 + 7) % 2147483647 * ((c * 48271 + k * 69621 + 7) % 2147483647) + k * 40692 + 3) (show (0 : Int) < 2147483629 by decide)
    exact ⟨.inl ⟨by omega, by omega⟩, .inl ⟨by omega, by omega⟩, q⟩

def sp__law_integer (K : PySem.W.Frag) : Sp := fun vs H Q _ => ∃ (i : Int), vs = [.int i] ∧ (Q (.bl true) H)
theorem ok__law_integer (T : Txt K mg) : FnOk P w K mg base CX0 1 T.f__law_integer T.fd__law_integer ["value"] (sp__law_integer K) := by
  refine T.F__law_integer.ok sc__law_integer (fun vs H Q E h => ?_) (fun cdv A outer s H vs Q E hr h => ?_)
  · obtain ⟨i, rfl, _⟩ := h
    rfl
  · obtain ⟨i, rfl, q⟩ := h
    refine ⟨_, (pss_one (ps_ret (pe_and (pe_callB call_isiB (by rfl) T.z_isinstance (by decide +kernel) (pa_cons (pv 0) (pa_cons (pe_bltn (v := .ty "int") (u := .type "int") (by rfl) T.z_int (by decide +kernel) rfl) pa_nil))) (pe_one (pe_not (pe_callB call_isiB (by rfl) T.z_isinstance (by decide +kernel) (pa_cons (pv 0) (pa_cons (pe_bltn (v := .ty "bool") (u := .type "bool") (by rfl) T.z_bool (by decide +kernel) rfl) pa_nil)))))))), ?_⟩
    walk_at "vc"
    exact q
def WOk (ws : List (List Int)) : Prop := ws.length ≤ 10 ∧ ∀ l ∈ ws, (1 ≤ l.length ∧ l.length ≤ 8) ∧ ∀ x ∈ l, 0 ≤ x
def sp__law_words (K : PySem.W.Frag) (a : Addr) (ns : List Int) : Sp := fun vs H Q _ => vs = [.ref a] ∧ (SqL K H a (List.map V.int ns)) ∧ (∀ (H' : Hp) (p : Addr) (ws : List (List Int)), Same H H' → H p = none → LstV (LstV IntV) H' (.ref p) ws → WOk ws → Q (.ref p) H')
theorem ok__law_words (T : Txt K mg) (a : Addr) (ns : List Int) : FnOk P w K mg base CX0 2 T.f__law_words T.fd__law_words ["script"] (sp__law_words K a ns) := by
  refine T.F__law_words.ok sc__law_words (fun vs H Q E h => ?_) (fun cdv A outer s H vs Q E hr h => ?_)
  · obtain ⟨rfl, _⟩ := h
    rfl
  · obtain ⟨rfl, hS, q⟩ := h
    refine ⟨_, (pss_cons (ps_set (i := 1) sc__law_words.nd rfl (Or.inl rfl) (pe_lstS pa_nil))
      (pss_cons (ps_for PassesOwn.never rfl (pi_range1 (by rfl) T.z_range (pa_cons (pe_op op_mod (pe_callB call_abs (by rfl) T.z_abs (by decide +kernel) (pa_cons (pe_call (ok__law_cell T a ns) hr (by rfl) T.g__law_cell T.F__law_cell.kp T.b__law_cell .nil pass0 (pa_cons (pv 0) (pa_cons pe_int pa_nil))) pa_nil)) pe_int) pa_nil)) (pg_name (i := 2) sc__law_words.nd rfl (Or.inl rfl)) (pss_cons (ps_set (i := 3) sc__law_words.nd rfl (Or.inl rfl) (pe_callB call_abs (by rfl) T.z_abs (by decide +kernel) (pa_cons (pe_call (ok__law_cell T a ns) hr (by rfl) T.g__law_cell T.F__law_cell.kp T.b__law_cell .nil pass0 (pa_cons (pv 0) (pa_cons (pe_op op_add pe_int (pv 2)) pa_nil))) pa_nil)))
      (pss_cons (ps_set (i := 4) sc__law_words.nd rfl (Or.inl rfl) (pe_lstS pa_nil))
      (pss_cons (ps_for PassesOwn.never rfl (pi_range1 (by rfl) T.z_range (pa_cons (pe_op op_add pe_int (pe_op op_mod (pv 3) pe_int)) pa_nil)) (pg_name (i := 5) sc__law_words.nd rfl (Or.inl rfl)) (pss_cons (ps_set (i := 6) sc__law_words.nd rfl (Or.inl rfl) (pe_call (ok__law_twice T) hr (by rfl) T.g__law_twice T.F__law_twice.kp T.b__law_twice .nil pass0 (pa_cons (pv 3) (pa_cons (pv 5) pa_nil))))
      (pss_one (ps_expr (pe_ml (pe_bm PySem.F.plainAttrs_list PySem.F.slot_list_append PySem.F.type_list_append mt_append (pe_mono (pv 4)) (pa_cons (pe_ix ix_listH (pe_lstS (pa_cons (pe_op op_mod (pe_op op_fdiv (pv 6) pe_int) pe_int) (pa_cons (pe_op op_mod (pe_op op_fdiv (pv 6) pe_int) pe_int) (pa_cons pe_int pa_nil)))) (pe_ix ix_listH (pe_lstS (pa_cons pe_int (pa_cons pe_int (pa_cons pe_int (pa_cons pe_int pa_nil))))) (pe_op op_mul (pe_op op_mod (pv 6) pe_int) (pe_callTy call_int1 (by rfl) T.z_int (by decide +kernel) (pa_cons (pe_cmpR op_lt (pe_op op_mod (pv 6) pe_int) pe_int (nomark _)) pa_nil))) (fun _ _ => rfl)) (fun _ _ => rfl)) pa_nil)))))))
      (pss_one (ps_expr (pe_ml (pe_bm PySem.F.plainAttrs_list PySem.F.slot_list_append PySem.F.type_list_append mt_append (pe_mono (pv 1)) (pa_cons (pv 4) pa_nil)))))))))
      (pss_one (ps_ret (pv 1))))), ?_⟩
    walk_at "vc sp__law_cell hS"
    intro p0 H1 s1 n1 g1
    have hS1 := s1.seq hS
    refine ⟨hS1, by omega, by omega, ?_⟩
    obtain ⟨N, hN⟩ := natOf (show 0 ≤ absI (cellA ns 2) % 11 by omega)
    rw [hN, Int.toNat_natCast]
    have hN10 : N ≤ 10 := by omega
    refine lpW (walkR (n := N)) (fun i σ H' => ∃ (v2 v3 v4 v5 v6 : Option V) (us : List V) (ws : List (List Int)), σ = [some (.ref a), some (.ref p0), v2, v3, v4, v5, v6] ∧ Same H H' ∧ H' p0 = some (.lst us) ∧ All2 (fun v l => ∀ H2, But p0 H' H2 → LstV IntV H2 v l) us ws ∧ ws.length = i ∧ ∀ l ∈ ws, (1 ≤ l.length ∧ l.length ≤ 8) ∧ ∀ x ∈ l, 0 ≤ x) ⟨_, _, _, _, _, [], [], rfl, s1, g1, .nil, rfl, fun _ z => nomatch z⟩ (fun _ _ _ _ _ => True.intro) ?_ ?_
    · rintro i x σ H' H2 hi ⟨v2, v3, v4, v5, v6, us, ws, rfl, sm, gp, hu, hl, hw⟩ ⟨rfl, rfl⟩
      have hS2 := sm.seq hS
      walk_at "vc sp__law_cell hS2"
      refine ⟨by omega, fun p1 H3 s3 n3 g3 => ?_⟩
      generalize absI (cellA ns (3 + (i : Int)).toNat) = c
      obtain ⟨M, hM⟩ := natOf (show 0 ≤ 1 + c % 8 by omega)
      rw [hM]
      have gp3 := s3 _ _ gp
      have ne31 : p1 ≠ p0 := (ne_of_none gp n3).symm
      refine ⟨by omega, by omega, ?_⟩
      rw [Int.toNat_natCast]
      refine lpW (walkR (n := M)) (fun j σ H' => ∃ (v5 v6 : Option V) (l : List Int), σ = [some (.ref a), some (.ref p0), some (.int (i : Int)), some (.int c), some (.ref p1), v5, v6] ∧ Same H2 H' ∧ H' p1 = some (.lst (List.map V.int l)) ∧ l.length = j ∧ ∀ x ∈ l, 0 ≤ x) ⟨_, _, [], rfl, s3, g3, rfl, fun _ z => nomatch z⟩ (fun _ _ _ _ _ => True.intro) ?_ ?_
      · rintro j x σ H' H4 hj ⟨v5, v6, l, rfl, s4, g4, hl4, hx4⟩ ⟨rfl, rfl⟩
        walk_at "vc sp__law_twice g4"
        have ht := tw_nn c (j : Int)
        have gp1 := g4
        generalize tw c (j : Int) = d at ht ⊢
        intro pA H5 s5 n5 gA pB H6 s6 n6 gB
        have e6 : 0 ≤ d % 4 * (if d % 16 < 4 then (1 : Int) else 0) ∧ d % 4 * (if d % 16 < 4 then (1 : Int) else 0) < 4 := by split <;> omega
        obtain ⟨u, hu1, hu2⟩ := atI_lits (xs := [0, 1, 0, 2]) (k := d % 4 * (if d % 16 < 4 then (1 : Int) else 0)) e6.1 e6.2
        have hu3 : 0 ≤ u ∧ u < 3 := by
          simp only [List.mem_cons, List.not_mem_nil, or_false] at hu2
          omega
        obtain ⟨y, hy1, hy2⟩ := atI_lits (xs := [d / 3 % 21, d / 3 % 4, 70]) (k := u) hu3.1 hu3.2
        have hy3 : 0 ≤ y := by
          simp only [List.mem_cons, List.not_mem_nil, or_false] at hy2
          omega
        have gA6 := s6 _ _ gA
        have s56 := s5.trans s6
        have g46 := s56 _ _ g4
        refine ⟨.inl ⟨by omega, by omega⟩, _, gB, _, hu1, _, _, rfl, gA6, _, hy1, _, g46, cnt_lt (show (List.map V.int l).length ≤ 2000000 by rw [List.length_map]; omega), same_upd2 (s4.trans s56) n3, l ++ [y], by rw [List.map_append]; rfl, by rw [List.length_append, hl4]; rfl, fun z hz => ?_⟩
        rcases List.mem_append.mp hz with k | k
        · exact hx4 z k
        · rw [List.mem_singleton.mp k]; exact hy3
      · rintro σ H' ⟨v5, v6, l, rfl, s4, g4, hl4, hx4⟩
        have gp4 := s4 _ _ gp
        walk_at "vc gp4"
        refine ⟨cnt_lt (show us.length ≤ 2000000 by rw [hu.len]; omega), same_upd2 (sm.trans s4) n1, ws ++ [l], (hu.mono fun v m q H5 bt => q H5 (((But.ofSame s4).trans (But.refl _ _).put).trans bt)).snoc fun H5 bt => intL (((But.refl _ _).put.trans bt) _ _ ne31 g4), by rw [List.length_append, hl]; rfl, fun l' hl' => ?_⟩
        rcases List.mem_append.mp hl' with z | z
        · exact ⟨(hw l' z).1.1, (hw l' z).1.2, (hw l' z).2⟩
        · rw [List.mem_singleton.mp z]
          exact ⟨by omega, by omega, hx4⟩
    · rintro σ H' ⟨v2, v3, v4, v5, v6, us, ws, rfl, sm, gp, hu, hl, hw⟩
      walk_at "vc"
      exact q H' p0 ws sm n1 ⟨p0, us, rfl, gp, hu.mono fun v l q => q H' (But.refl _ _)⟩ ⟨by omega, hw⟩
def sp__law_due (K : PySem.W.Frag) : Sp := fun vs H Q _ => ∃ (a : Addr) (ws : List (List Int)) (space width : Int), vs = [.ref a, .int space, .int width] ∧ (LstV (LstV IntV) H (.ref a) ws) ∧ (ws.length ≤ 1000 ∧ ∀ l ∈ ws, l.length ≤ 1000) ∧ (∀ H' p, Same H H' → LstV LnV H' (.ref p) (brk ws space width) → Q (.ref p) H')
theorem ok__law_due (T : Txt K mg) : FnOk P w K mg base CX0 1 T.f__law_due T.fd__law_due ["words", "space", "width"] (sp__law_due K) := by
  refine T.F__law_due.ok sc__law_due (fun vs H Q E h => ?_) (fun cdv A outer s H vs Q E hr h => ?_)
  · obtain ⟨a, ws, space, width, rfl, _⟩ := h
    rfl
  · obtain ⟨a, ws, space, width, rfl, ha, hn, q⟩ := h
    refine ⟨_, (pss_cons (ps_set (i := 3) sc__law_due.nd rfl (Or.inl rfl) (pe_lstS pa_nil))
      (pss_cons (ps_set (i := 4) sc__law_due.nd rfl (Or.inl rfl) (pe_lstS pa_nil))
      (pss_cons (ps_set (i := 5) sc__law_due.nd rfl (Or.inl rfl) pe_int)
      (pss_cons (ps_for PassesOwn.never rfl (pi_range1 (by rfl) T.z_range (pa_cons (pe_callB call_lenH (by rfl) T.z_len PySem.boot_len (pa_cons (pv 0) pa_nil)) pa_nil)) (pg_name (i := 6) sc__law_due.nd rfl (Or.inl rfl)) (pss_cons (ps_set (i := 7) sc__law_due.nd rfl (Or.inl rfl) (pe_callB (cr_sumS rfl) (by rfl) T.z_sum (by decide +kernel) (pa_cons (pe_ix ix_listH (pv 0) (pv 6) (fun _ _ => rfl)) pa_nil)))
      (pss_cons (ps_if (pt_cmpR op_gt (pe_callB call_lenH (by rfl) T.z_len PySem.boot_len (pa_cons (pv 4) pa_nil)) pe_int (nomark _)) (pss_one (ps_if (pt_cmpR op_gt (pe_op op_add (pe_op op_add (pv 5) (pv 1)) (pv 7)) (pv 2) (nomark _)) (pss_cons (ps_expr (pe_ml (pe_bm PySem.F.plainAttrs_list PySem.F.slot_list_append PySem.F.type_list_append mt_append (pe_mono (pv 3)) (pa_cons (pe_tupS (pa_cons (pe_callTy call_tupleL (by rfl) T.z_tuple (by decide +kernel) (pa_cons (pv 4) pa_nil)) (pa_cons (pv 5) pa_nil))) pa_nil))))
      (pss_cons (ps_set (i := 4) sc__law_due.nd rfl (Or.inl rfl) (pe_lstS pa_nil))
      (pss_one (ps_set (i := 5) sc__law_due.nd rfl (Or.inl rfl) pe_int)))) (pss_one (ps_set (i := 5) sc__law_due.nd rfl (Or.inl rfl) (pe_op op_add (pv 5) (pv 1)))))) pss_nil)
      (pss_one (ps_for PassesOwn.never rfl (pi_range1 (by rfl) T.z_range (pa_cons (pe_callB call_lenH (by rfl) T.z_len PySem.boot_len (pa_cons (pe_ix ix_listH (pv 0) (pv 6) (fun _ _ => rfl)) pa_nil)) pa_nil)) (pg_name (i := 8) sc__law_due.nd rfl (Or.inl rfl)) (pss_cons (ps_if (PW.pt (pw_and (pt_cmpR op_gt (pe_callB call_lenH (by rfl) T.z_len PySem.boot_len (pa_cons (pv 4) pa_nil)) pe_int (nomark _)) (pw_and1 (pt_cmpR op_gt (pe_op op_add (pv 5) (pe_ix ix_listH (pe_ix ix_listH (pv 0) (pv 6) (fun _ _ => rfl)) (pv 8) (fun _ _ => rfl))) (pv 2) (nomark _))))) (pss_cons (ps_expr (pe_ml (pe_bm PySem.F.plainAttrs_list PySem.F.slot_list_append PySem.F.type_list_append mt_append (pe_mono (pv 3)) (pa_cons (pe_tupS (pa_cons (pe_callTy call_tupleL (by rfl) T.z_tuple (by decide +kernel) (pa_cons (pv 4) pa_nil)) (pa_cons (pv 5) pa_nil))) pa_nil))))
      (pss_cons (ps_set (i := 4) sc__law_due.nd rfl (Or.inl rfl) (pe_lstS pa_nil))
      (pss_one (ps_set (i := 5) sc__law_due.nd rfl (Or.inl rfl) pe_int)))) pss_nil)
      (pss_cons (ps_expr (pe_ml (pe_bm PySem.F.plainAttrs_list PySem.F.slot_list_append PySem.F.type_list_append mt_append (pe_mono (pv 4)) (pa_cons (pe_tupS (pa_cons (pv 6) (pa_cons (pv 8) (pa_cons (pv 5) pa_nil)))) pa_nil))))
      (pss_one (ps_set (i := 5) sc__law_due.nd rfl (Or.inl rfl) (pe_op op_add (pv 5) (pe_ix ix_listH (pe_ix ix_listH (pv 0) (pv 6) (fun _ _ => rfl)) (pv 8) (fun _ _ => rfl))))))))))))
      (pss_cons (ps_if (pt_cmpR op_gt (pe_callB call_lenH (by rfl) T.z_len PySem.boot_len (pa_cons (pv 4) pa_nil)) pe_int (nomark _)) (pss_one (ps_expr (pe_ml (pe_bm PySem.F.plainAttrs_list PySem.F.slot_list_append PySem.F.type_list_append mt_append (pe_mono (pv 3)) (pa_cons (pe_tupS (pa_cons (pe_callTy call_tupleL (by rfl) T.z_tuple (by decide +kernel) (pa_cons (pv 4) pa_nil)) (pa_cons (pv 5) pa_nil))) pa_nil))))) pss_nil)
      (pss_one (ps_ret (pv 3)))))))), ?_⟩
    obtain ⟨_, vs, ea, ga, hv⟩ := ha
    obtain rfl := V.ref.inj ea
    walk_at "vc ga"
    intro p0 H1 s1 n1 g1 pc H2 s2 n2 g2
    have ga2 := (s1.trans s2) _ _ ga
    refine ⟨vs, ga2, by omega, by have := hv.len; omega, ?_⟩
    rw [hv.len]
    refine lpW (walkR (n := ws.length)) (fun i σ H' => ∃ (pc : Addr) (v6 v7 v8 : Option V), σ = [some (.ref a), some (.int space), some (.int width), some (.ref p0), some (.ref pc), some (.int (FS.words space width ws i).en), v6, v7, v8] ∧ Same H H' ∧ H pc = none ∧ p0 ≠ pc ∧ FsH H' p0 pc (FS.words space width ws i))
      ⟨pc, _, _, _, rfl, s1.trans s2, s1.free n2, ne_of_none g1 n2, ⟨[], s2 _ _ g1, .nil⟩, [], g2, .nil⟩ (fun _ _ _ _ _ => True.intro) ?_ ?_
    · rintro i x σ H' H3 hi ⟨pc, v6, v7, v8, rfl, sm, fc, ne, hF⟩ ⟨rfl, rfl⟩
      have hpi := List.getElem?_eq_getElem hi
      generalize ws[i] = parts at hpi
      obtain ⟨xv, hxv, ap, us0, rfl, gp, hp⟩ := hv.at' hpi
      have e1 : ws.getD i [] = parts := by rw [List.getD_eq_getElem?_getD, hpi]; rfl
      have hpl := hn.2 parts (List.mem_of_getElem? hpi)
      obtain rfl := ints_of hp
      have hat : atI vs (i : Int) = some (.ref ap) := atI_nat hxv
      have hc := FS.cnt_words space width ws hn.2 i
      have hio : i < 1000 := by omega
      obtain ⟨us, gu, ku⟩ := id hF.pl
      obtain ⟨vs', gv, kv⟩ := id hF.ls
      have hul := ku.len
      rw [show FS.words space width ws (i + 1) = ((FS.words space width ws i).word space width parts.sum).runes width i parts parts.length by rw [FS.words, e1]]
      generalize FS.words space width ws i = S at hF hc ku kv hul ⊢
      have hS : S.ls.length < sizeLine := cnt_lt (show S.ls.length ≤ 2000000 by unfold FS.cnt at hc; omega)
      have ga3 := sm _ _ ga
      have gp3 := sm _ _ gp
      simp only [gName, List.set_cons_zero, List.set_cons_succ]
      refine seq_cut (fun σ H' => σ = [some (.ref a), some (.int space), some (.int width), some (.ref p0), some (.ref pc), some (.int S.en), some (.int (i : Int)), some (.int parts.sum), v8] ∧ H' = H3) ?_ (fun C hC => ?_)
      rotate_left
      · walk_at "vc ga3 gp3"
        exact ⟨_, hat, ap, rfl, parts, gp3, hC _ _ ⟨rfl, rfl⟩⟩
      rintro σ H' ⟨rfl, rfl⟩
      refine seq_cut (fun σ H' => ∃ (pc : Addr) (v8 : Option V), σ = [some (.ref a), some (.int space), some (.int width), some (.ref p0), some (.ref pc), some (.int (S.word space width parts.sum).en), some (.int (i : Int)), some (.int parts.sum), v8] ∧ Same H H' ∧ H pc = none ∧ p0 ≠ pc ∧ FsH H' p0 pc (S.word space width parts.sum)) ?_ (fun C hC => ?_)
      · have hcw := FS.cnt_word space width S parts.sum
        generalize S.word space width parts.sum = S1 at hcw ⊢
        rintro σ H' ⟨pc, v8, rfl, sm, fc, ne, hF⟩
        have ga4 := sm _ _ ga
        have gp4 := sm _ _ gp
        walk_at "vc ga4"
        refine ⟨_, hat, ap, rfl, _, gp4, by omega, by rw [List.length_map]; omega, ?_⟩
        rw [List.length_map]
        refine lpW (walkR (n := parts.length)) (fun j σ H' => ∃ (pc : Addr) (v8 : Option V), σ = [some (.ref a), some (.int space), some (.int width), some (.ref p0), some (.ref pc), some (.int (S1.runes width i parts j).en), some (.int (i : Int)), some (.int parts.sum), v8] ∧ Same H H' ∧ H pc = none ∧ p0 ≠ pc ∧ FsH H' p0 pc (S1.runes width i parts j))
          ⟨pc, _, rfl, sm, fc, ne, hF⟩ (fun _ _ _ _ _ => True.intro) ?_ ?_
        · rintro j x σ H' H5 hj ⟨pc, v8, rfl, sm, fc, ne, hF⟩ ⟨rfl, rfl⟩
          have hpj := List.getElem?_eq_getElem hj
          generalize parts[j] = part at hpj
          have e2 : gN parts j = part := by unfold gN; rw [List.getD_eq_getElem?_getD, hpj]; rfl
          have hcr := FS.cnt_runes width i S1 parts j
          rw [show S1.runes width i parts (j + 1) = (S1.runes width i parts j).rune width i j part by rw [FS.runes, e2]]
          generalize S1.runes width i parts j = S2 at hF hcr ⊢
          have hcnt : S2.cnt ≤ 2000000 := by omega
          have hS2 : S2.ls.length < sizeLine := cnt_lt (show S2.ls.length ≤ 2000000 by unfold FS.cnt at hcnt; omega)
          have hS3 : S2.pl.length < sizeLine := cnt_lt (show S2.pl.length ≤ 2000000 by unfold FS.cnt at hcnt; omega)
          obtain ⟨us, gu, ku⟩ := id hF.pl
          obtain ⟨vs', gv, kv⟩ := id hF.ls
          have hul := ku.len
          have ga5 := sm _ _ ga
          have gp5 := sm _ _ gp
          have hatj : atI (List.map V.int parts) (j : Int) = some (.int part) := by rw [at_g hj, e2]
          walk_at "vc gu gv ga5"
          have keep : ¬ (0 < S2.pl.length ∧ width < S2.en + part) → S2.rune width i j part = ⟨S2.ls, S2.pl ++ [((i : Int), (j : Int), S2.en)], S2.en + part⟩ := fun z => by unfold FS.rune; rw [if_neg z]
          by_cases c1 : 0 < us.length
          · rw [if_pos (by omega)]
            refine ⟨_, hat, ap, rfl, _, gp5, _, hatj, _, rfl, ?_⟩
            refine iteP (fun c2 => ?_) (fun c2 => ?_)
            · refine flush_do hF gu hS2 sm n1 fun p H6 s6 n6 ne6 hF6 => ?_
              obtain ⟨us6, gu6, ku6⟩ := id hF6.pl
              have e6 : us6 = [] := List.eq_nil_of_length_eq_zero (by rw [ku6.len]; rfl)
              rw [e6] at gu6
              refine ⟨⟨_, gu6⟩, fun t H7 s7 n7 g7 => ?_⟩
              have sU := same_upd2 (s6.trans s7) n6 (o := .lst ([] ++ [V.ref t]))
              have er : S2.rune width i j part = ⟨S2.flush.ls, [((i : Int), (j : Int), 0)], part⟩ := by unfold FS.rune; rw [if_pos ⟨by rw [← hul]; exact c1, c2⟩]
              refine ⟨[], s7 _ _ gu6, by show 0 < sizeLine; decide, vs, sU _ _ ga, _, hat, ap, rfl, _, sU _ _ gp, _, hatj, _, rfl, ?_⟩
              rw [er]
              exact ⟨by show 0 + part = part; omega, sU, n6, ne6, app_do (s := S2.flush) hF6 ne6 gu6 s7 g7⟩
            · intro t H6 s6 n6 g6
              have sU := same_upd2 (sm.trans s6) fc (o := .lst (us ++ [V.ref t]))
              refine ⟨us, s6 _ _ gu, by rw [hul]; exact hS3, vs, sU _ _ ga, _, hat, ap, rfl, _, sU _ _ gp, _, hatj, _, rfl, ?_⟩
              rw [keep fun z => c2 z.2]
              exact ⟨rfl, sU, fc, ne, app_do hF ne gu s6 g6⟩
          · rw [if_neg (by omega)]
            intro t H6 s6 n6 g6
            have sU := same_upd2 (sm.trans s6) fc (o := .lst (us ++ [V.ref t]))
            refine ⟨us, s6 _ _ gu, by rw [hul]; exact hS3, vs, sU _ _ ga, _, hat, ap, rfl, _, sU _ _ gp, _, hatj, _, rfl, ?_⟩
            rw [keep fun z => c1 (by rw [hul]; exact z.1)]
            exact ⟨rfl, sU, fc, ne, app_do hF ne gu s6 g6⟩
        · rintro σ H' ⟨pc, v8, rfl, sm, fc, ne, hF⟩
          exact ⟨pc, ⟨_, _, _, rfl⟩, sm, fc, ne, hF⟩
      · walk_at "vc gu gv"
        have keep : ∀ (S' : FS) , S.word space width parts.sum = S' → S'.ls = S.ls → S'.pl = S.pl → C [some (.ref a), some (.int space), some (.int width), some (.ref p0), some (.ref pc), some (.int S'.en), some (.int (i : Int)), some (.int parts.sum), v8] H' := by
          intro S' e e1 e2
          refine hC _ _ ⟨pc, v8, by rw [e], sm, fc, ne, ?_⟩
          rw [e]
          exact ⟨by rw [e1]; exact hF.ls, by rw [e2]; exact hF.pl⟩
        refine iteP (fun c1 => iteP (fun c2 => ?_) (fun c2 => ?_)) (fun c1 => keep S (by unfold FS.word; rw [if_neg (by omega)]) rfl rfl)
        · refine flush_do hF gu hS sm n1 fun p H6 s6 n6 ne6 hF6 => ?_
          have ew : S.word space width parts.sum = S.flush := by unfold FS.word; rw [if_pos (by omega), if_pos c2]
          refine hC _ _ ⟨p, v8, by rw [ew]; rfl, s6, n6, ne6, by rw [ew]; exact hF6⟩
        · exact keep ⟨S.ls, S.pl, S.en + space⟩ (by unfold FS.word; rw [if_pos (by omega), if_neg c2]) rfl rfl
    · rintro σ H' ⟨pc, v6, v7, v8, rfl, sm, fc, ne, hF⟩
      have hc := FS.cnt_words space width ws hn.2 ws.length
      have q2 : ∀ H' p, Same H H' → LstV LnV H' (.ref p) (FS.words space width ws ws.length).fin → Q (.ref p) H' := q
      generalize FS.words space width ws ws.length = S at hF hc q2 ⊢
      have hcn := hn.1
      obtain ⟨us, gu, ku⟩ := id hF.pl
      obtain ⟨vs', gv, kv⟩ := id hF.ls
      have hul := ku.len
      have hS : S.ls.length < sizeLine := cnt_lt (show S.ls.length ≤ 2000000 by unfold FS.cnt at hc; omega)
      walk_at "vc gu gv"
      refine iteP (fun c1 => ?_) (fun c1 => ?_)
      · intro l H6 s6 n6 g6 t H7 s7 n7 g7
        have s67 := s6.trans s7
        have gv7 := s67 _ _ gv
        refine ⟨vs', gv7, by rw [kv.len]; exact hS, q2 _ p0 (same_upd2 (sm.trans s67) n1) ⟨p0, _, rfl, upd_same, ?_⟩⟩
        unfold FS.fin
        rw [if_pos (by omega)]
        have l1 : LnV H7 (.ref t) (S.pl, S.en) := ⟨t, .ref l, .int S.en, rfl, g7, ⟨l, us, rfl, s7 _ _ g6, ku.mono (stab_pl.mono s67)⟩, rfl⟩
        exact ((kv.mono (stab_ln.mono s67)).mono (stab_ln.upd gv7)).snoc (stab_ln.upd gv7 _ _ l1)
      · refine q2 _ p0 sm ⟨p0, vs', rfl, gv, ?_⟩
        unfold FS.fin
        rw [if_neg (by omega)]
        exact kv

/-! ### what the law asks of the lines -/
def pr (x : Pl) : Int × Int := (x.1, x.2.1)
def FS.prs (s : FS) : List (Int × Int) := s.ls.flatMap (fun l => l.1.map pr) ++ s.pl.map pr
def allP (ws : List (List Int)) (n : Nat) : List (Int × Int) := (List.range n).flatMap fun (i : Nat) => (List.range (ws.getD i []).length).map fun (j : Nat) => ((i : Int), (j : Int))
theorem allP_len {ws : List (List Int)} (h : ∀ l ∈ ws, l.length ≤ 8) : ∀ n, (allP ws n).length ≤ n * 8
  | 0 => Nat.le_refl _
  | n + 1 => by
    have ih := allP_len h n
    unfold allP at ih ⊢
    rw [List.range_succ, List.flatMap_append, List.flatMap_cons, List.flatMap_nil, List.append_nil, List.length_append, List.length_map, List.length_range]
    have : (ws.getD n []).length ≤ 8 := by
      rw [List.getD_eq_getElem?_getD]
      cases e : ws[n]? with
      | none => exact Nat.zero_le _
      | some l => exact h l (List.mem_of_getElem? e)
    omega
theorem FS.prs_flush (s : FS) : s.flush.prs = s.prs := by
  unfold FS.flush FS.prs
  simp only [List.flatMap_append, List.flatMap_cons, List.flatMap_nil, List.append_nil, List.map_nil]
theorem FS.prs_word (space width : Int) (s : FS) (total : Int) : (s.word space width total).prs = s.prs := by
  unfold FS.word
  split
  · split
    · exact FS.prs_flush s
    · rfl
  · rfl
theorem FS.prs_rune (width : Int) (w : Nat) (s : FS) (r : Nat) (part : Int) : (s.rune width w r part).prs = s.prs ++ [((w : Int), (r : Int))] := by
  unfold FS.rune
  split
  · rw [← FS.prs_flush s]
    unfold FS.flush FS.prs
    simp only [List.map_cons, List.map_nil, List.append_nil, pr]
  · unfold FS.prs
    simp only [List.map_append, List.map_cons, List.map_nil, List.append_assoc, pr]
theorem FS.prs_runes (width : Int) (w : Nat) (s : FS) (parts : List Int) : ∀ j, (s.runes width w parts j).prs = s.prs ++ (List.range j).map fun (j : Nat) => ((w : Int), (j : Int))
  | 0 => by rw [FS.runes, List.range_zero, List.map_nil, List.append_nil]
  | j + 1 => by rw [FS.runes, FS.prs_rune, FS.prs_runes width w s parts j, List.range_succ, List.map_append, List.append_assoc]; rfl
theorem FS.prs_words (space width : Int) (ws : List (List Int)) : ∀ i, (FS.words space width ws i).prs = allP ws i
  | 0 => rfl
  | i + 1 => by
    rw [FS.words, FS.prs_runes, FS.prs_word, FS.prs_words space width ws i]
    unfold allP
    rw [List.range_succ, List.flatMap_append, List.flatMap_cons, List.flatMap_nil, List.append_nil]
theorem brk_pairs (ws : List (List Int)) (space width : Int) : (brk ws space width).flatMap (fun l => l.1.map pr) = allP ws ws.length := by
  rw [← FS.prs_words space width ws ws.length]
  unfold brk FS.fin FS.prs
  split
  · simp only [List.flatMap_append, List.flatMap_cons, List.flatMap_nil, List.append_nil]
  · rename_i h
    rw [List.eq_nil_of_length_eq_zero (show (FS.words space width ws ws.length).pl.length = 0 by omega), List.map_nil, List.append_nil]
def FS.good (width : Int) (s : FS) : Prop := (∀ l ∈ s.ls, width < l.2 → l.1.length ≤ 1) ∧ (width < s.en → s.pl.length ≤ 1)
theorem FS.good_flush {width : Int} {s : FS} (h : s.good width) : s.flush.good width := by
  refine ⟨fun l hl hw => ?_, fun _ => Nat.zero_le _⟩
  rcases List.mem_append.mp hl with z | z
  · exact h.1 l z hw
  · rw [List.mem_singleton.mp z] at hw ⊢
    exact h.2 hw
theorem FS.good_word {space width : Int} {s : FS} {total : Int} (ht : 0 ≤ total) (h : s.good width) : (s.word space width total).good width := by
  unfold FS.word
  split
  · split
    · exact FS.good_flush h
    · exact ⟨h.1, fun z => absurd (show width < s.en + space from z) (by omega)⟩
  · exact h
theorem FS.good_rune {width : Int} {w : Nat} {s : FS} {r : Nat} {part : Int} (h : s.good width) : (s.rune width w r part).good width := by
  unfold FS.rune
  split
  · exact ⟨(FS.good_flush h).1, fun _ => Nat.le_refl _⟩
  · rename_i c
    refine ⟨h.1, fun z => ?_⟩
    have z : width < s.en + part := z
    have : s.pl.length = 0 := by omega
    show (s.pl ++ [_]).length ≤ 1
    rw [List.length_append, this]
    exact Nat.le_refl _
theorem FS.good_runes {width : Int} {w : Nat} {s : FS} {parts : List Int} (h : s.good width) : ∀ j, (s.runes width w parts j).good width
  | 0 => h
  | j + 1 => FS.good_rune (FS.good_runes h j)
theorem sum_nnI : ∀ l : List Int, (∀ x ∈ l, 0 ≤ x) → 0 ≤ l.sum
  | [], _ => Int.le_refl 0
  | x :: r, h => by
    rw [List.sum_cons]
    have := h x List.mem_cons_self
    have := sum_nnI r fun y hy => h y (List.mem_cons_of_mem _ hy)
    omega
theorem FS.good_words {space width : Int} {ws : List (List Int)} (h : ∀ l ∈ ws, ∀ x ∈ l, 0 ≤ x) : ∀ i, (FS.words space width ws i).good width
  | 0 => ⟨(fun _ z => nomatch z), fun _ => Nat.zero_le _⟩
  | i + 1 => by
    rw [FS.words]
    refine FS.good_runes (FS.good_word (sum_nnI _ fun x hx => ?_) (FS.good_words h i)) _
    rw [List.getD_eq_getElem?_getD] at hx
    cases e : ws[i]? with
    | none => rw [e] at hx; cases hx
    | some l => rw [e] at hx; exact h l (List.mem_of_getElem? e) x hx
theorem brk_good {ws : List (List Int)} {space width : Int} (h : ∀ l ∈ ws, ∀ x ∈ l, 0 ≤ x) : ∀ l ∈ brk ws space width, width < l.2 → l.1.length ≤ 1 := by
  have g := FS.good_words (space := space) (width := width) h ws.length
  unfold brk FS.fin
  split
  · exact (FS.good_flush g).1
  · exact g.1
theorem lsl_mono {H H' : Hp} (s : Same H H') (v : V) (n : List (List Int)) (h : LstV (LstV IntV) H v n) : LstV (LstV IntV) H' v n := by
  obtain ⟨a, vs, e, g, k⟩ := h
  exact ⟨a, vs, e, s _ _ g, k.mono (lsv_mono s)⟩
theorem stab_p22 : Stab (Pr2V IntV IntV) := stab_p2 stab_int stab_int
def spLaw (K : PySem.W.Frag) : Sp := fun vs H Q _ => ∃ (a : Addr) (ns : List Int), vs = [.ref a] ∧ SqL K H a (ns.map V.int) ∧ ns.length ≤ 63 ∧ ∀ H', Q (.bl true) H'
theorem ok_law_of {f : Addr} {fd : FuncData} (F : Fun K "law" "law" s_law f fd) (T : Txt K mg) : FnOk P w K mg base CX0 3 f fd ["script"] (spLaw K) := by
  refine F.ok sc_law (fun vs H Q E h => ?_) (fun cdv A outer s H vs Q E hr h => ?_)
  · obtain ⟨a, ns, rfl, _⟩ := h
    rfl
  · obtain ⟨a, ns, rfl, hS, hlen, q⟩ := h
    refine ⟨_, (pss_cons (ps_set (i := 1) sc_law.nd rfl (Or.inr rfl) (pe_call (ok__law_words T a ns) hr (by rfl) T.g__law_words T.F__law_words.kp T.b__law_words .nil pass0 (pa_cons (pv 0) pa_nil)))
      (pss_cons (ps_set (i := 2) sc_law.nd rfl (Or.inl rfl) (pe_op op_mod (pe_callB call_abs (by rfl) T.z_abs (by decide +kernel) (pa_cons (pe_call (ok__law_cell T a ns) (hr.mono (by decide)) (by rfl) T.g__law_cell T.F__law_cell.kp T.b__law_cell .nil pass0 (pa_cons (pv 0) (pa_cons pe_int pa_nil))) pa_nil)) pe_int))
      (pss_cons (ps_set (i := 3) sc_law.nd rfl (Or.inl rfl) (pe_op op_add pe_int (pe_op op_mod (pe_callB call_abs (by rfl) T.z_abs (by decide +kernel) (pa_cons (pe_call (ok__law_cell T a ns) (hr.mono (by decide)) (by rfl) T.g__law_cell T.F__law_cell.kp T.b__law_cell .nil pass0 (pa_cons (pv 0) (pa_cons pe_int pa_nil))) pa_nil)) pe_int)))
      (pss_cons (ps_setLc (i := 4) (own := [("word", 5)]) (g := (gName 5)) rfl sc_law.nd rfl rfl (sw_true rfl rfl rfl (by decide +kernel)) (pi_listS (pv 1)) (blkOk_by (own := [("word", 5)]) (N := ["script", "words", "space", "width", "given", "word", "found", "seen", "line", "place", "due", "w", "r"]) (sc := defScope s_law) (by decide +kernel)) (fun _ _ _ _ _ => (pg_name (i := 5) sc_law.nd rfl (Or.inl rfl))) (fun _ _ _ _ _ => pts_nil) (fun _ _ _ _ _ => (pe_callTy call_listS (by rfl) T.z_list (by decide +kernel) (pa_cons (pv 5) pa_nil))))
      (pss_cons (ps_set (i := 6) sc_law.nd rfl (Or.inl rfl) (pe_call (ok_break_lines T) (hr.mono (by decide)) (by rfl) T.g_break_lines T.F_break_lines.kp T.b_break_lines .nil pass0 (pa_cons (pv 4) (pa_cons (pv 2) (pa_cons (pv 3) pa_nil)))))
      (pss_cons (ps_if (PW.pt (pw_or (pt_not (pt_val (pe_callB call_isiB (by rfl) T.z_isinstance (by decide +kernel) (pa_cons (pv 6) (pa_cons (pe_bltn (v := .ty "list") (u := .type "list") (by rfl) T.z_list (by decide +kernel) rfl) pa_nil))))) (pw_or (pt_cmpR (op_neC hr.units (cod_lst (cod_p2 (cod_tup (cod_p3 cod_int cod_int cod_int)) cod_int)) (by decide)) (pv 6) (pe_call (ok__law_due T) (hr.mono (by decide)) (by rfl) T.g__law_due T.F__law_due.kp T.b__law_due .nil pass0 (pa_cons (pv 1) (pa_cons (pv 2) (pa_cons (pv 3) pa_nil)))) (nomark _)) (pw_or1 (pt_cmpR (op_neC hr.units (cod_lst (cod_lst cod_int)) (by decide)) (pv 4) (pv 1) (nomark _)))))) (pss_one (ps_ret pe_bl)) pss_nil)
      (pss_cons (ps_set (i := 7) sc_law.nd rfl (Or.inl rfl) (pe_lstS pa_nil))
      (pss_cons (ps_for PassesOwn.never rfl (pi_listS (pv 6)) (pg_name (i := 8) sc_law.nd rfl (Or.inl rfl)) (pss_cons (ps_if (PW.pt (pw_or (pt_not (pt_val (pe_callB call_isiB (by rfl) T.z_isinstance (by decide +kernel) (pa_cons (pv 8) (pa_cons (pe_bltn (v := .ty "tuple") (u := .type "tuple") (by rfl) T.z_tuple (by decide +kernel) rfl) pa_nil))))) (pw_or (pt_cmpR op_ne (pe_callB call_lenT (by rfl) T.z_len PySem.boot_len (pa_cons (pv 8) pa_nil)) pe_int (nomark _)) (pw_or (pt_not (pt_val (pe_callB call_isiB (by rfl) T.z_isinstance (by decide +kernel) (pa_cons (pe_ix ix_tupH (pv 8) pe_int (fun _ _ => rfl)) (pa_cons (pe_bltn (v := .ty "tuple") (u := .type "tuple") (by rfl) T.z_tuple (by decide +kernel) rfl) pa_nil))))) (pw_or1 (pt_not (pt_val (pe_call (ok__law_integer T) (hr.mono (by decide)) (by rfl) T.g__law_integer T.F__law_integer.kp T.b__law_integer .nil pass0 (pa_cons (pe_ix ix_tupH (pv 8) pe_int (fun _ _ => rfl)) pa_nil))))))))) (pss_one (ps_ret pe_bl)) pss_nil)
      (pss_cons (ps_for PassesOwn.never rfl (pi_tupS (pe_ix ix_tupH (pv 8) pe_int (fun _ _ => rfl))) (pg_name (i := 9) sc_law.nd rfl (Or.inl rfl)) (pss_one (ps_expr (pe_ml (pe_bm PySem.F.plainAttrs_list PySem.F.slot_list_append PySem.F.type_list_append mt_append (pe_mono (pv 7)) (pa_cons (pe_tupS (pa_cons (pe_ix ix_tupH (pv 9) pe_int (fun _ _ => rfl)) (pa_cons (pe_ix ix_tupH (pv 9) pe_int (fun _ _ => rfl)) pa_nil))) pa_nil))))))
      (pss_one (ps_if (PW.pt (pw_and (pt_cmpR op_gt (pe_ix ix_tupH (pv 8) pe_int (fun _ _ => rfl)) (pv 3) (nomark _)) (pw_and1 (pt_cmpR op_gt (pe_callB call_lenH (by rfl) T.z_len PySem.boot_len (pa_cons (pe_lc (own := [("place", 9)]) (g := (gName 9)) rfl sc_law.nd (pi_tupS (pe_ix ix_tupH (pv 8) pe_int (fun _ _ => rfl))) (blkOk_by (own := [("place", 9)]) (N := ["script", "words", "space", "width", "given", "word", "found", "seen", "line", "place", "due", "w", "r"]) (sc := defScope s_law) (by decide +kernel)) (fun _ _ _ _ _ => (pg_name (i := 9) sc_law.nd rfl (Or.inl rfl))) (fun _ _ _ _ _ => (pts_one (pt_cmpR op_gt (pe_ix ix_listH (pe_ix ix_listH (pv 1) (pe_ix ix_tupH (pv 9) pe_int (fun _ _ => rfl)) (fun _ _ => rfl)) (pe_ix ix_tupH (pv 9) pe_int (fun _ _ => rfl)) (fun _ _ => rfl)) pe_int (nomark _)))) (fun _ _ _ _ _ => (pv 9))) pa_nil)) pe_int (nomark _))))) (pss_one (ps_ret pe_bl)) pss_nil)))))
      (pss_cons (ps_set (i := 10) sc_law.nd rfl (Or.inl rfl) (pe_lstS pa_nil))
      (pss_cons (ps_for PassesOwn.never rfl (pi_range1 (by rfl) T.z_range (pa_cons (pe_callB call_lenH (by rfl) T.z_len PySem.boot_len (pa_cons (pv 1) pa_nil)) pa_nil)) (pg_name (i := 11) sc_law.nd rfl (Or.inl rfl)) (pss_one (ps_for PassesOwn.never rfl (pi_range1 (by rfl) T.z_range (pa_cons (pe_callB call_lenH (by rfl) T.z_len PySem.boot_len (pa_cons (pe_ix ix_listH (pv 1) (pv 11) (fun _ _ => rfl)) pa_nil)) pa_nil)) (pg_name (i := 12) sc_law.nd rfl (Or.inl rfl)) (pss_one (ps_expr (pe_ml (pe_bm PySem.F.plainAttrs_list PySem.F.slot_list_append PySem.F.type_list_append mt_append (pe_mono (pv 10)) (pa_cons (pe_tupS (pa_cons (pv 11) (pa_cons (pv 12) pa_nil))) pa_nil))))))))
      (pss_one (ps_ret (pe_cmpR (op_eqC hr.units (cod_lst (cod_p2 cod_int cod_int)) (by decide)) (pv 7) (pv 10) (nomark _)))))))))))))), ?_⟩
    walk_at "vc hS"
    refine ⟨rfl, hS, fun H1 pw ws s1 n1 hw hok => ?_⟩
    obtain ⟨_, vs, ew, gw, kw⟩ := id hw
    obtain rfl := V.ref.inj ew
    have hS1 := s1.seq hS
    walk_at "vc sp__law_cell hS1 gw"
    obtain ⟨hwl, hwi⟩ := hok
    have hn : ws.length ≤ 1000 ∧ ∀ l ∈ ws, l.length ≤ 1000 := ⟨by omega, fun l hl => Nat.le_trans (hwi l hl).1.2 (by decide)⟩
    have hwd := Int.emod_nonneg (absI (cellA ns 1)) (show (60 : Int) ≠ 0 by decide)
    have ewd : mx (1 + absI (cellA ns 1) % 60) 1 = 1 + absI (cellA ns 1) % 60 := by unfold mx; rw [if_neg (by omega)]
    generalize 1 + absI (cellA ns 1) % 60 = width at ewd ⊢
    generalize absI (cellA ns 0) % 10 = space
    refine lcW (walkL (xs := vs)) (fun D i H' => Same H1 H' ∧ ∃ us, H' D = some (.lst us) ∧ All2 (fun v l => ∀ H2, But D H' H2 → LstV IntV H2 v l) us (ws.take i)) (fun D H' s n g => ⟨s, [], g, .nil⟩) (fun _ _ _ _ _ p => p.1 _ _ gw) (fun D i x H2 H3 hi hD p y => ?_) (fun pg H2 hg p => ?_)
    · obtain ⟨rfl, hx⟩ := y
      obtain ⟨s2, us, gD, hu⟩ := p
      obtain ⟨l, hl, al, _, rfl, gl, kl⟩ := kw.at hx
      obtain rfl := ints_of kl
      have gl3 := s2 _ _ gl
      rw [take_succ hl]
      walk_at "vc gl3"
      intro t H4 s4 n4 g4
      have gD4 := s4 _ _ gD
      walk_at "vc gD4"
      exact ⟨cnt_lt (show us.length ≤ 2000000 by rw [hu.len, List.length_take]; omega), same_upd2 (s2.trans s4) hD, (hu.mono fun v m q H5 bt => q H5 (((But.ofSame s4).trans (But.refl _ _).put).trans bt)).snoc fun H5 bt => intL (((But.refl _ _).put.trans bt) _ _ (ne_of_none gD n4).symm g4)⟩
    obtain ⟨s2, us, gg, hu⟩ := p
    rw [kw.len, List.take_length] at hu
    have hu := hu.mono fun v n q => q H2 (But.refl _ _)
    have hgv : LstV (LstV IntV) H2 (.ref pg) ws := ⟨pg, us, rfl, gg, hu⟩
    have hw2 := lsl_mono s2 _ _ hw
    refine ⟨pg, ws, space, width, rfl, hgv, hn, fun H3 pf s3 hf => ?_⟩
    rw [ewd] at hf
    obtain ⟨_, ls, ef, gf, kf⟩ := id hf
    obtain rfl := V.ref.inj ef
    walk_at "vc gf"
    have hw3 := lsl_mono s3 _ _ hw2
    have hg3 := lsl_mono s3 _ _ hgv
    refine ⟨pw, ws, space, width, rfl, hw3, hn, fun H4 pd s4 hd => ?_⟩
    have hf4 := lstV_mono stab_ln s4 _ _ hf
    refine ⟨_, hf4, _, hd, ?_⟩
    rw [decide_eq_true (rfl : brk ws space width = brk ws space width)]
    refine iteF' rfl ⟨_, lsl_mono s4 _ _ hg3, _, lsl_mono s4 _ _ hw3, ?_⟩
    rw [decide_eq_true (rfl : ws = ws)]
    refine iteF' rfl fun pse H5 s5 n5 gse => ?_
    have s35 := s4.trans s5
    have hgood := brk_good (space := space) (width := width) fun l hl => (hwi l hl).2
    have hpairs := brk_pairs ws space width
    have gw3 := (s2.trans s3) _ _ gw
    have kw3 := kw.mono (lsv_mono (s2.trans s3))
    generalize brk ws space width = B at hgood hpairs kf
    have gf5 := s35 _ _ gf
    have hall : ∀ ln ∈ B, ∀ x ∈ ln.1, ∃ (i j : Nat) (l : List Int) (y : Int), x.1 = (i : Int) ∧ x.2.1 = (j : Int) ∧ ws[i]? = some l ∧ l[j]? = some y := by
      intro ln hln x hx
      have hm : pr x ∈ allP ws ws.length := by
        rw [← hpairs]
        exact List.mem_flatMap.mpr ⟨ln, hln, List.mem_map.mpr ⟨x, hx, rfl⟩⟩
      obtain ⟨i, hi, h2⟩ := List.mem_flatMap.mp hm
      obtain ⟨j, hj, h3⟩ := List.mem_map.mp h2
      have hi := List.mem_range.mp hi
      have hj := List.mem_range.mp hj
      rw [List.getD_eq_getElem?_getD, List.getElem?_eq_getElem hi] at hj
      have hj : j < ws[i].length := hj
      exact ⟨i, j, ws[i], ws[i][j], (congrArg Prod.fst h3).symm, (congrArg Prod.snd h3).symm, List.getElem?_eq_getElem hi, List.getElem?_eq_getElem hj⟩
    have hBn : (B.flatMap fun l => l.1.map pr).length ≤ 100 := by
      rw [hpairs]
      exact Nat.le_trans (allP_len (fun l hl => (hwi l hl).1.2) ws.length) (by omega)
    refine ⟨⟨_, gf5⟩, ?_⟩
    have bnd : ∀ i, ((B.take i).flatMap fun l => l.1.map pr).length ≤ 100 := fun i => by
      refine Nat.le_trans ?_ hBn
      conv => rhs; rw [← List.take_append_drop i B]
      rw [List.flatMap_append, List.length_append]
      exact Nat.le_add_right _ _
    refine lpW (walkL (xs := ls)) (fun i σ H' => ∃ (v8 v9 : Option V), σ = [some (.ref a), some (.ref pw), some (.int space), some (.int width), some (.ref pg), none, some (.ref pf), some (.ref pse), v8, v9, none, none, none] ∧ Same H4 H' ∧ LstV (Pr2V IntV IntV) H' (.ref pse) ((B.take i).flatMap fun l => l.1.map pr)) ⟨_, _, rfl, s5, pse, [], rfl, gse, .nil⟩ ?_ ?_ ?_
    · rintro i σ H' _ ⟨_, _, _, sm, _⟩
      exact (s4.trans sm) _ _ gf
    · rintro i x σ H' H6 hi ⟨v8, v9, rfl, sm, hse⟩ ⟨rfl, hx⟩
      obtain ⟨ln, hln, hlV⟩ := kf.at hx
      obtain ⟨al, y1, y2, rfl, gal3, ⟨at_, us1, rfl, gat3, kat3⟩, e2⟩ := hlV
      have gal := (s4.trans sm) _ _ gal3
      have gat := (s4.trans sm) _ _ gat3
      have kat := kat3.mono (stab_pl.mono (s4.trans sm))
      obtain rfl : y2 = .int ln.2 := e2
      have hmem := List.mem_of_getElem? hln
      have gw6 := (s4.trans sm) _ _ gw3
      have kw6 := kw3.mono (lsv_mono (s4.trans sm))
      walk_at "vc gal gat sp__law_integer"
      have hb1 := bnd (i + 1)
      rw [take_succ hln, List.flatMap_append, List.flatMap_cons, List.flatMap_nil, List.append_nil] at hb1 ⊢
      generalize (B.take i).flatMap (fun l => l.1.map pr) = pref at hse hb1 ⊢
      rw [List.length_append, List.length_map] at hb1
      refine lpW (walkT (xs := us1)) (fun j σ H' => ∃ (v9 : Option V), σ = [some (.ref a), some (.ref pw), some (.int space), some (.int width), some (.ref pg), none, some (.ref pf), some (.ref pse), some (.ref al), v9, none, none, none] ∧ Same H4 H' ∧ LstV (Pr2V IntV IntV) H' (.ref pse) (pref ++ (ln.1.map pr).take j)) ⟨_, rfl, sm, by rw [List.take_zero, List.append_nil]; exact hse⟩ ?_ ?_ ?_
      · rintro j σ H' _ ⟨_, _, s, _⟩
        exact (s4.trans s) _ _ gat3
      · rintro j y σ H' H7 hj ⟨v9, rfl, sm, p_, us, e, gse, kse⟩ ⟨rfl, hy⟩
        obtain rfl := V.ref.inj e
        obtain ⟨x, hxl, ax, x1, x2, x3, rfl, gx, e1, e2, e3⟩ := kat3.at hy
        obtain rfl : x1 = .int x.1 := e1
        obtain rfl : x2 = .int x.2.1 := e2
        have gx7 := (s4.trans sm) _ _ gx
        walk_at "vc gx7 gse"
        intro t H8 s8 n8 g8
        have gse8 := s8 _ _ gse
        walk_at "vc gse8"
        have hul := kse.len
        rw [List.length_append, List.length_take, List.length_map] at hul
        refine ⟨cnt_lt (by omega), same_upd2 (sm.trans s8) n5, pse, _, rfl, upd_same, ?_⟩
        rw [take_map_succ pr hxl, ← List.append_assoc]
        exact ((kse.mono (stab_p22.mono s8)).mono (stab_p22.upd gse8)).snoc (stab_p22.upd gse8 _ _ ⟨t, _, _, rfl, g8, rfl, rfl⟩)
      · rintro σ H' ⟨v9, rfl, sm, hse⟩
        rw [kat3.len, show ln.1.length = (ln.1.map pr).length by rw [List.length_map], List.take_length] at hse
        have gal := (s4.trans sm) _ _ gal3
        have gat := (s4.trans sm) _ _ gat3
        have gw7 := (s4.trans sm) _ _ gw3
        have kw7 := kw3.mono (lsv_mono (s4.trans sm))
        walk_at "vc gal gat"
        refine iteP (fun c1 => ?_) (fun c1 => ⟨sm, hse⟩)
        refine lcW (walkT (xs := us1)) (fun D j H2 => Same H' H2 ∧ ∃ rs, H2 D = some (.lst rs) ∧ rs.length ≤ j) (fun D H2 s n g => ⟨s, [], g, Nat.le_refl _⟩) (fun _ _ _ _ _ p => p.1 _ _ gat) (fun D j y H2 H7 hj hD p z => ?_) (fun pR H2 hR p => ?_)
        · obtain ⟨rfl, hy⟩ := z
          obtain ⟨s2, rs, gr, hrs⟩ := p
          obtain ⟨x, hxl, ax, x1, x2, x3, rfl, gx, e1, e2, e3⟩ := kat3.at hy
          obtain rfl : x1 = .int x.1 := e1
          obtain rfl : x2 = .int x.2.1 := e2
          obtain ⟨p, q1, l, u, ep, eq_, hl1, hl2⟩ := hall ln hmem x (List.mem_of_getElem? hxl)
          obtain ⟨xv, hxv, ap, us0, rfl, gap, kap⟩ := kw7.at' hl1
          obtain rfl := ints_of kap
          have gx7 := s2 _ _ ((s4.trans sm) _ _ gx)
          have gw8 := s2 _ _ gw7
          have gap8 := s2 _ _ gap
          walk_at "vc gx7 gw8"
          refine ⟨_, by rw [ep]; exact atI_nat hxv, ap, rfl, _, gap8, _, by rw [eq_]; exact atI_nat (by rw [List.getElem?_map, hl2]; rfl), _, rfl, ?_⟩
          have hrl : rs.length < sizeLine := cnt_lt (by have := kat3.len; omega)
          refine iteP (fun _ => ?_) (fun _ => ⟨s2, rs, gr, by omega⟩)
          exact ⟨rs, gr, hrl, same_upd2 s2 hD, by omega⟩
        · obtain ⟨s2, rs, gr, hrs⟩ := p
          have h1 := hgood ln hmem c1
          have h2 := kat3.len
          refine ⟨pR, rfl, rs, gr, iteP (fun z => absurd z (by omega)) fun _ => ⟨sm.trans s2, lstV_mono stab_p22 s2 _ _ hse⟩⟩
    · rintro σ H' ⟨v8, v9, rfl, sm, hse⟩
      rw [kf.len, List.take_length, hpairs] at hse
      have gw6 := (s4.trans sm) _ _ gw3
      have kw6 := kw3.mono (lsv_mono (s4.trans sm))
      walk_at "vc gw6"
      intro pq H6 s6 n6 gq
      have gw7 := s6 _ _ gw6
      have hvl := kw.len
      refine ⟨vs, gw7, by omega, by omega, ?_⟩
      rw [hvl]
      refine lpW (walkR (n := ws.length)) (fun i σ H2 => ∃ (v11 v12 : Option V), σ = [some (.ref a), some (.ref pw), some (.int space), some (.int width), some (.ref pg), none, some (.ref pf), some (.ref pse), v8, v9, some (.ref pq), v11, v12] ∧ Same H' H2 ∧ LstV (Pr2V IntV IntV) H2 (.ref pq) (allP ws i)) ⟨_, _, rfl, s6, pq, [], rfl, gq, .nil⟩ (fun _ _ _ _ _ => True.intro) ?_ ?_
      · rintro i x σ H2 H7 hi ⟨v11, v12, rfl, sm2, hq⟩ ⟨rfl, rfl⟩
        have hpi := List.getElem?_eq_getElem hi
        generalize ws[i] = l at hpi
        obtain ⟨xv, hxv, ap, us0, rfl, gap, kap⟩ := kw6.at' hpi
        obtain rfl := ints_of kap
        have gw8 := sm2 _ _ gw6
        have gap8 := sm2 _ _ gap
        have hl8 := (hwi l (List.mem_of_getElem? hpi)).1.2
        have e1 : ws.getD i [] = l := by rw [List.getD_eq_getElem?_getD, hpi]; rfl
        have hsuc : allP ws (i + 1) = allP ws i ++ (List.range l.length).map fun (j : Nat) => ((i : Int), (j : Int)) := by
          unfold allP
          rw [List.range_succ, List.flatMap_append, List.flatMap_cons, List.flatMap_nil, List.append_nil, e1]
        have hal := allP_len (fun l hl => (hwi l hl).1.2) i
        rw [hsuc]
        walk_at "vc gw8"
        refine ⟨_, atI_nat hxv, ap, rfl, _, gap8, by omega, by rw [List.length_map]; omega, ?_⟩
        rw [List.length_map]
        refine lpW (walkR (n := l.length)) (fun j σ H2 => ∃ (v12 : Option V), σ = [some (.ref a), some (.ref pw), some (.int space), some (.int width), some (.ref pg), none, some (.ref pf), some (.ref pse), v8, v9, some (.ref pq), some (.int (i : Int)), v12] ∧ Same H' H2 ∧ LstV (Pr2V IntV IntV) H2 (.ref pq) (allP ws i ++ (List.range j).map fun (j : Nat) => ((i : Int), (j : Int)))) ⟨_, rfl, sm2, by rw [List.range_zero, List.map_nil, List.append_nil]; exact hq⟩ (fun _ _ _ _ _ => True.intro) ?_ ?_
        · rintro j x σ H2 H8 hj ⟨v12, rfl, sm2, p_, us, e, gq, kq⟩ ⟨rfl, rfl⟩
          obtain rfl := V.ref.inj e
          walk_at "vc gq"
          intro t H9 s9 n9 g9
          have gq9 := s9 _ _ gq
          walk_at "vc gq9"
          have hul := kq.len
          rw [List.length_append, List.length_map, List.length_range] at hul
          refine ⟨cnt_lt (by omega), same_upd2 (sm2.trans s9) n6, pq, _, rfl, upd_same, ?_⟩
          rw [List.range_succ, List.map_append, ← List.append_assoc]
          exact ((kq.mono (stab_p22.mono s9)).mono (stab_p22.upd gq9)).snoc (stab_p22.upd gq9 _ _ ⟨t, _, _, rfl, g9, rfl, rfl⟩)
        · rintro σ H2 ⟨v12, rfl, sm2, hq⟩
          exact ⟨⟨_, _, rfl⟩, sm2, hq⟩
      · rintro σ H2 ⟨v11, v12, rfl, sm2, hq⟩
        walk_at "vc"
        refine ⟨_, lstV_mono stab_p22 sm2 _ _ hse, _, hq, ?_⟩
        rw [decide_eq_true (rfl : allP ws ws.length = allP ws ws.length)]
        exact q _

end
theorem all_mk {l : PySem.W.OpenLaw} {w : World} {K : PySem.W.Frag} {h : Heap} {mg : Str → Option Value} {fa : Addr} (X : K.In h) (G : h.Ns mainGlobals mg) (hfa : mg "law" = some (.ref fa))
    {f1 : Addr} {od1 an1 : Option Addr} {sl1 : Array (Option Value)} {oc1 kV1 dc1 pm1 cd1 ct1 : Value}
    (a1 : PySem.W.nsIn K mainGlobals "break_lines" = some (some (.ref f1))) (l1 : K.lookup f1 = some ⟨oc1, od1, .func (PySem.W.fnOf "break_lines" "break_lines" (defArgs s_break_lines) (defBody s_break_lines) (defScope s_break_lines) .none kV1 dc1 pm1 an1 cd1 ct1), sl1⟩) (c1 : PySem.W.codeIn K cd1 "break_lines" = true) (k1 : PySem.W.keepIn K (.ref f1) = true)
    {f2 : Addr} {od2 an2 : Option Addr} {sl2 : Array (Option Value)} {oc2 kV2 dc2 pm2 cd2 ct2 : Value}
    (a2 : PySem.W.nsIn K mainGlobals "_law_cell" = some (some (.ref f2))) (l2 : K.lookup f2 = some ⟨oc2, od2, .func (PySem.W.fnOf "_law_cell" "_law_cell" (defArgs s__law_cell) (defBody s__law_cell) (defScope s__law_cell) .none kV2 dc2 pm2 an2 cd2 ct2), sl2⟩) (c2 : PySem.W.codeIn K cd2 "_law_cell" = true) (k2 : PySem.W.keepIn K (.ref f2) = true)
    {f3 : Addr} {od3 an3 : Option Addr} {sl3 : Array (Option Value)} {oc3 kV3 dc3 pm3 cd3 ct3 : Value}
    (a3 : PySem.W.nsIn K mainGlobals "_law_twice" = some (some (.ref f3))) (l3 : K.lookup f3 = some ⟨oc3, od3, .func (PySem.W.fnOf "_law_twice" "_law_twice" (defArgs s__law_twice) (defBody s__law_twice) (defScope s__law_twice) .none kV3 dc3 pm3 an3 cd3 ct3), sl3⟩) (c3 : PySem.W.codeIn K cd3 "_law_twice" = true) (k3 : PySem.W.keepIn K (.ref f3) = true)
    {f4 : Addr} {od4 an4 : Option Addr} {sl4 : Array (Option Value)} {oc4 kV4 dc4 pm4 cd4 ct4 : Value}
    (a4 : PySem.W.nsIn K mainGlobals "_law_bytes" = some (some (.ref f4))) (l4 : K.lookup f4 = some ⟨oc4, od4, .func (PySem.W.fnOf "_law_bytes" "_law_bytes" (defArgs s__law_bytes) (defBody s__law_bytes) (defScope s__law_bytes) .none kV4 dc4 pm4 an4 cd4 ct4), sl4⟩) (c4 : PySem.W.codeIn K cd4 "_law_bytes" = true) (k4 : PySem.W.keepIn K (.ref f4) = true)
    {f5 : Addr} {od5 an5 : Option Addr} {sl5 : Array (Option Value)} {oc5 kV5 dc5 pm5 cd5 ct5 : Value}
    (a5 : PySem.W.nsIn K mainGlobals "_law_integer" = some (some (.ref f5))) (l5 : K.lookup f5 = some ⟨oc5, od5, .func (PySem.W.fnOf "_law_integer" "_law_integer" (defArgs s__law_integer) (defBody s__law_integer) (defScope s__law_integer) .none kV5 dc5 pm5 an5 cd5 ct5), sl5⟩) (c5 : PySem.W.codeIn K cd5 "_law_integer" = true) (k5 : PySem.W.keepIn K (.ref f5) = true)
    {f6 : Addr} {od6 an6 : Option Addr} {sl6 : Array (Option Value)} {oc6 kV6 dc6 pm6 cd6 ct6 : Value}
    (a6 : PySem.W.nsIn K mainGlobals "_law_words" = some (some (.ref f6))) (l6 : K.lookup f6 = some ⟨oc6, od6, .func (PySem.W.fnOf "_law_words" "_law_words" (defArgs s__law_words) (defBody s__law_words) (defScope s__law_words) .none kV6 dc6 pm6 an6 cd6 ct6), sl6⟩) (c6 : PySem.W.codeIn K cd6 "_law_words" = true) (k6 : PySem.W.keepIn K (.ref f6) = true)
    {f7 : Addr} {od7 an7 : Option Addr} {sl7 : Array (Option Value)} {oc7 kV7 dc7 pm7 cd7 ct7 : Value}
    (a7 : PySem.W.nsIn K mainGlobals "_law_due" = some (some (.ref f7))) (l7 : K.lookup f7 = some ⟨oc7, od7, .func (PySem.W.fnOf "_law_due" "_law_due" (defArgs s__law_due) (defBody s__law_due) (defScope s__law_due) .none kV7 dc7 pm7 an7 cd7 ct7), sl7⟩) (c7 : PySem.W.codeIn K cd7 "_law_due" = true) (k7 : PySem.W.keepIn K (.ref f7) = true)
    {f8 : Addr} {od8 an8 : Option Addr} {sl8 : Array (Option Value)} {oc8 kV8 dc8 pm8 cd8 ct8 : Value}
    (a8 : PySem.W.nsIn K mainGlobals "law" = some (some (.ref f8))) (l8 : K.lookup f8 = some ⟨oc8, od8, .func (PySem.W.fnOf "law" "law" (defArgs s_law) (defBody s_law) (defScope s_law) .none kV8 dc8 pm8 an8 cd8 ct8), sl8⟩) (c8 : PySem.W.codeIn K cd8 "law" = true) (k8 : PySem.W.keepIn K (.ref f8) = true)
    (a9 : PySem.W.nsIn K mainGlobals "abs" = some none)
    (a10 : PySem.W.nsIn K mainGlobals "bool" = some none)
    (a11 : PySem.W.nsIn K mainGlobals "enumerate" = some none)
    (a12 : PySem.W.nsIn K mainGlobals "int" = some none)
    (a13 : PySem.W.nsIn K mainGlobals "isinstance" = some none)
    (a14 : PySem.W.nsIn K mainGlobals "len" = some none)
    (a15 : PySem.W.nsIn K mainGlobals "list" = some none)
    (a16 : PySem.W.nsIn K mainGlobals "max" = some none)
    (a17 : PySem.W.nsIn K mainGlobals "range" = some none)
    (a18 : PySem.W.nsIn K mainGlobals "sum" = some none)
    (a19 : PySem.W.nsIn K mainGlobals "tuple" = some none)
    : ∃ fd : FuncData, (∀ (s : Shared) (v : Value), BindsTo s fd ⟨[v], []⟩ [("script", v)]) ∧ ∀ base : Heap, K.In base → base.Ns mainGlobals mg → FnOk l.prog w K mg base CX0 3 fa fd ["script"] (spLaw K) := by
  have e := hfa.symm.trans (PySem.W.mg_of X G a8)
  cases e
  have F1 := fun_mk (st := s_break_lines) l1 c1 k1
  have b1 := F1.binds (ps := ["advances", "space", "width"]) fun _ _ _ _ _ _ us hl => match us, hl with | [_, _, _], _ => rfl
  have F2 := fun_mk (st := s__law_cell) l2 c2 k2
  have b2 := F2.binds (ps := ["script", "k"]) fun _ _ _ _ _ _ us hl => match us, hl with | [_, _], _ => rfl
  have F3 := fun_mk (st := s__law_twice) l3 c3 k3
  have b3 := F3.binds (ps := ["cell", "k"]) fun _ _ _ _ _ _ us hl => match us, hl with | [_, _], _ => rfl
  have F4 := fun_mk (st := s__law_bytes) l4 c4 k4
  have b4 := F4.binds (ps := ["cell", "size"]) fun _ _ _ _ _ _ us hl => match us, hl with | [_, _], _ => rfl
  have F5 := fun_mk (st := s__law_integer) l5 c5 k5
  have b5 := F5.binds (ps := ["value"]) fun _ _ _ _ _ _ us hl => match us, hl with | [_], _ => rfl
  have F6 := fun_mk (st := s__law_words) l6 c6 k6
  have b6 := F6.binds (ps := ["script"]) fun _ _ _ _ _ _ us hl => match us, hl with | [_], _ => rfl
  have F7 := fun_mk (st := s__law_due) l7 c7 k7
  have b7 := F7.binds (ps := ["words", "space", "width"]) fun _ _ _ _ _ _ us hl => match us, hl with | [_, _, _], _ => rfl
  have F8 := fun_mk (st := s_law) l8 c8 k8
  have b8 := F8.binds (ps := ["script"]) fun _ _ _ _ _ _ us hl => match us, hl with | [_], _ => rfl
  have T : Txt K mg := ⟨f1, _, F1, b1, PySem.W.mg_of X G a1,
    f2, _, F2, b2, PySem.W.mg_of X G a2,
    f3, _, F3, b3, PySem.W.mg_of X G a3,
    f4, _, F4, b4, PySem.W.mg_of X G a4,
    f5, _, F5, b5, PySem.W.mg_of X G a5,
    f6, _, F6, b6, PySem.W.mg_of X G a6,
    f7, _, F7, b7, PySem.W.mg_of X G a7,
    fa, _, F8, b8, PySem.W.mg_of X G a8,
    PySem.W.mg_none_of X G a9,
    PySem.W.mg_none_of X G a10,
    PySem.W.mg_none_of X G a11,
    PySem.W.mg_none_of X G a12,
    PySem.W.mg_none_of X G a13,
    PySem.W.mg_none_of X G a14,
    PySem.W.mg_none_of X G a15,
    PySem.W.mg_none_of X G a16,
    PySem.W.mg_none_of X G a17,
    PySem.W.mg_none_of X G a18,
    PySem.W.mg_none_of X G a19⟩
  refine ⟨PySem.W.fnOf "law" "law" (defArgs s_law) (defBody s_law) (defScope s_law) .none kV8 dc8 pm8 an8 cd8 ct8, fun s v => .of_eq rfl, fun base _ _ => ?_⟩
  exact ok_law_of F8 T
end K47
open PySem PySem.W PyProof.Rows
set_option maxRecDepth 100000 in
set_option maxHeartbeats 0 in
theorem PySem.Challenge.cw_stillroom_k47_lines_holds : PySem.Challenge.rw_stillroom_k47_lines.Holds := by
  w_on; o_law; k_head; (case hw => w_witness2)
  k_fill
  refine L2.walk_of (l := PySem.Challenge.rw_stillroom_k47_lines) (n := 63) (k := 3) (x := "script") (CX := fun _ => L2.CX0) (sp := fun w => K47.spLaw _) rfl (by decide) rfl ⟨rfl, by decide, by decide⟩ (fun w h Y => PySem.W.kIn_of Y) ?F (fun _ _ a ns hl _ hS => ⟨a, ns, rfl, hS, hl, fun _ => rfl⟩) (fun _ _ _ _ _ h => h)
  case F =>
    intro w mg fa h KX G hmg
    refine' K47.all_mk KX G hmg ?a1 ?l1 ?c1 ?k1 ?a2 ?l2 ?c2 ?k2 ?a3 ?l3 ?c3 ?k3 ?a4 ?l4 ?c4 ?k4 ?a5 ?l5 ?c5 ?k5 ?a6 ?l6 ?c6 ?k6 ?a7 ?l7 ?c7 ?k7 ?a8 ?l8 ?c8 ?k8 ?a9 ?a10 ?a11 ?a12 ?a13 ?a14 ?a15 ?a16 ?a17 ?a18 ?a19
    (case a1 => k_is)
    (case l1 => k_is)
    (case c1 => k_is)
    (case k1 => k_is)
    (case a2 => k_is)
    (case l2 => k_is)
    (case c2 => k_is)
    (case k2 => k_is)
    (case a3 => k_is)
    (case l3 => k_is)
    (case c3 => k_is)
    (case k3 => k_is)
    (case a4 => k_is)
    (case l4 => k_is)
    (case c4 => k_is)
    (case k4 => k_is)
    (case a5 => k_is)
    (case l5 => k_is)
    (case c5 => k_is)
    (case k5 => k_is)
    (case a6 => k_is)
    (case l6 => k_is)
    (case c6 => k_is)
    (case k6 => k_is)
    (case a7 => k_is)
    (case l7 => k_is)
    (case c7 => k_is)
    (case k7 => k_is)
    (case a8 => k_is)
    (case l8 => k_is)
    (case c8 => k_is)
    (case k8 => k_is)
    (case a9 => k_is)
    (case a10 => k_is)
    (case a11 => k_is)
    (case a12 => k_is)
    (case a13 => k_is)
    (case a14 => k_is)
    (case a15 => k_is)
    (case a16 => k_is)
    (case a17 => k_is)
    (case a18 => k_is)
    (case a19 => k_is)

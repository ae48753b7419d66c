

import PyProof.Rows.All
import Wide.All
import OpenK.AllK
import Wide.FinOn
import HandS.ForMost
import HandS.Wide
import HandS.IsInst
import HandS.FStr
import HandS.Zip
import HandS.CallLocal
import PySem.Challenge.RW_stillroom_k06_runs_written
set_option Elab.async false
set_option linter.all false
set_option maxRecDepth 100000
namespace K06
open PySem PySem.Spec PyProof.Rows L2

/-! ### rules with plainer readings -/
section
variable {X : Cx}
theorem CallR.of {f : Value} {r r' : List V → Hp → VK → Prop} (h : CallR X f r) (k : ∀ xs H Q, r' xs H Q → r xs H Q) : CallR X f r' := fun pins s σ H xs us Q I rv q => h pins s σ H xs us Q I rv (k xs H Q q)
theorem OpR.of {f : Value → Value → Sem Value} {r r' : R2} (h : OpR X f r) (k : ∀ x y H Q, r' x y H Q → r x y H Q) : OpR X f r' := fun pins s σ H x y v u Q I rx ry q => h pins s σ H x y v u Q I rx ry (k x y H Q q)
/-- the name of a plain value's type -/
def tnm : V → Option String
  | .non => some "NoneType"
  | .bl _ => some "bool"
  | .int _ => some "int"
  | .str _ => some "str"
  | _ => none
theorem tnm_int (i : Int) : tnm (.int i) = some "int" := rfl
theorem tnm_bl (b : Bool) : tnm (.bl b) = some "bool" := rfl
theorem tnm_str (x : Str) : tnm (.str x) = some "str" := rfl
theorem tnm_non : tnm .non = some "NoneType" := rfl
theorem tnm_ref (p : Addr) : tnm (.ref p) = none := rfl
theorem scal_ii (i j : Int) : scal (.int i) (.int j) = true := rfl
theorem scal_ss (i j : Str) : scal (.str i) (.str j) = true := rfl
theorem scal_bb (i j : Bool) : scal (.bl i) (.bl j) = true := rfl
theorem scal_nn : scal .non .non = true := rfl
theorem scal_in (i : Int) : scal (.int i) .non = true := rfl
theorem scal_ni (i : Int) : scal .non (.int i) = true := rfl
def rIsiB : List V → Hp → VK → Prop := fun vs H Q => (∃ x n a b, vs = [x, .ty n] ∧ tnm x = some a ∧ kitB a n = some b ∧ Q (.bl b) H) ∨
  (∃ p n xs b, vs = [.ref p, .ty n] ∧ H p = some (.lst xs) ∧ kitB "list" n = some b ∧ Q (.bl b) H) ∨ ∃ p n xs b, vs = [.ref p, .ty n] ∧ H p = some (.tup xs) ∧ kitB "tuple" n = some b ∧ Q (.bl b) H
theorem call_isiB : CallR X (.builtin "isinstance") rIsiB := CallR.of call_isi (by
  intro vs H Q h
  rcases h with ⟨x, n, a, b, rfl, ha, hb, q⟩ | ⟨p, n, xs, b, rfl, ha, hb, q⟩ | ⟨p, n, xs, b, rfl, ha, hb, q⟩
  · refine ⟨x, .ty n, .type a, .type n, b, rfl, .ty n, ?_, kit_ty hb, q⟩
    cases x <;> cases ha
    · exact .base .non
    · exact .base (.bl _)
    · exact .base (.int _)
    · exact .base (.str _)
  · exact ⟨.ref p, .ty n, .type "list", .type n, b, rfl, .ty n, .base (.lst ha), kit_ty hb, q⟩
  · exact ⟨.ref p, .ty n, .type "tuple", .type n, b, rfl, .ty n, .base (.tup ha), kit_ty hb, q⟩)
theorem kb1 : kitB "int" "int" = some true := by decide +kernel
theorem kb2 : kitB "int" "bool" = some false := by decide +kernel
theorem kb3 : kitB "bool" "bool" = some true := by decide +kernel
theorem kb4 : kitB "bool" "int" = some true := by decide +kernel
theorem kb5 : kitB "str" "str" = some true := by decide +kernel
theorem kb6 : kitB "str" "int" = some false := by decide +kernel
theorem kb7 : kitB "list" "list" = some true := by decide +kernel
theorem kb8 : kitB "tuple" "tuple" = some true := by decide +kernel
theorem kb9 : kitB "NoneType" "int" = some false := by decide +kernel
theorem kb10 : kitB "NoneType" "list" = some false := by decide +kernel
/-- len, a copy, an item of a tracked list -/
def rLenH : List V → Hp → VK → Prop := fun vs H Q => ∃ p xs, vs = [.ref p] ∧ H p = some (.lst xs) ∧ Q (.int xs.length) H
theorem call_lenH : CallR X (.builtin "len") rLenH := CallR.of call_len_seq (by
  rintro vs H Q ⟨p, xs, rfl, h, q⟩
  exact ⟨p, xs, rfl, .inl (.inl (.inl h)), q⟩)
def rLenT : List V → Hp → VK → Prop := fun vs H Q => ∃ p xs, vs = [.ref p] ∧ H p = some (.tup xs) ∧ Q (.int xs.length) H
theorem call_lenT : CallR X (.builtin "len") rLenT := CallR.of call_len_seq (by
  rintro vs H Q ⟨p, xs, rfl, h, q⟩
  exact ⟨p, xs, rfl, .inr (.inl (.inl h)), q⟩)
def rListH : List V → Hp → VK → Prop := fun vs H Q => ∃ p xs, vs = [.ref p] ∧ H p = some (.lst xs) ∧ ∀ l, H l = none → Q (.ref l) (upd H l (.lst xs))
theorem call_listH : CallR X (.type "list") rListH := CallR.of call_list_of (by
  rintro vs H Q ⟨p, xs, rfl, h, q⟩
  exact ⟨p, xs, rfl, .inl (.inl (.inl h)), q⟩)
theorem ints_dp {K : PySem.W.Frag} {H : Hp} : ∀ ns : List Int, DpAll K H (ns.map V.int) (ns.map PyData.int)
  | [] => .nil
  | n :: r => .cons (.int n) (ints_dp r)
theorem ints_eqv : ∀ ns ms : List Int, PyData.eqvAll (ns.map PyData.int) (ms.map PyData.int) = decide (ns = ms)
  | [], [] => by simp [PyData.eqvAll]
  | [], _ :: _ => by simp [PyData.eqvAll]
  | _ :: _, [] => by simp [PyData.eqvAll]
  | n :: r, m :: q => by
    rw [List.map_cons, List.map_cons, PyData.eqvAll, ints_eqv r q]
    simp only [PyData.eqv, List.cons.injEq, Bool.decide_and]
    by_cases h : n = m <;> simp [h]
theorem ints_lay : ∀ ns : List Int, PyData.canLayAll0 (ns.map PyData.int) = true
  | [] => rfl
  | _ :: r => by rw [List.map_cons, PyData.canLayAll0, ints_lay r]; rfl
theorem ints_depth : ∀ ns : List Int, PyData.depthAll (ns.map PyData.int) = 0
  | [] => rfl
  | _ :: r => by rw [List.map_cons, PyData.depthAll, ints_depth r]; rfl
theorem ints_shaped (ns : List Int) : SeqAt.shaped (.list (ns.map PyData.int)) = true := by
  unfold SeqAt.shaped
  rw [PyData.canLay0, ints_lay, PyData.depth, ints_depth]
  rfl
/-- == and != of two tracked lists of ints -/
def rEqIL : R2 := fun x y H Q => ∃ a b ns ms, x = .ref a ∧ y = .ref b ∧ H a = some (.lst (List.map V.int ns)) ∧ H b = some (.lst (List.map V.int ms)) ∧ Q (.bl (decide (ns = ms))) H
theorem op_eqIL (hu : X.A.units + 64 < cLine) : OpR X (compareOp .Eq) rEqIL := OpR.of (op_eqD hu) (by
  rintro x y H Q ⟨a, b, ns, ms, rfl, rfl, ha, hb, q⟩
  refine ⟨_, _, .lst (.inl (.inl ha)) (ints_dp ns), .lst (.inl (.inl hb)) (ints_dp ms), ints_shaped ns, ints_shaped ms, ?_⟩
  rw [PyData.eqv, ints_eqv]
  exact q)
def rNeIL : R2 := fun x y H Q => ∃ a b ns ms, x = .ref a ∧ y = .ref b ∧ H a = some (.lst (List.map V.int ns)) ∧ H b = some (.lst (List.map V.int ms)) ∧ Q (.bl (!decide (ns = ms))) H
theorem op_neIL (hu : X.A.units + 64 < cLine) : OpR X (compareOp .NotEq) rNeIL := OpR.of (op_neD hu) (by
  rintro x y H Q ⟨a, b, ns, ms, rfl, rfl, ha, hb, q⟩
  refine ⟨_, _, .lst (.inl (.inl ha)) (ints_dp ns), .lst (.inl (.inl hb)) (ints_dp ms), ints_shaped ns, ints_shaped ms, ?_⟩
  rw [PyData.eqv, ints_eqv]
  exact q)
/-- == of two tracked tuples of plain things -/
def dS : V → PyData
  | .int i => .int i
  | .bl b => .bool b
  | _ => .none
def isS : V → Bool
  | .int _ => true
  | .bl _ => true
  | .non => true
  | _ => false
theorem isS_dp {K : PySem.W.Frag} {H : Hp} : ∀ xs : List V, xs.all isS = true → DpAll K H xs (xs.map dS)
  | [], _ => .nil
  | x :: r, h => by
    rw [List.all_cons, Bool.and_eq_true] at h
    refine .cons ?_ (isS_dp r h.2)
    have h1 := h.1
    cases x <;> first | exact .int _ | exact .bl _ | exact .non | cases h1
theorem isS_lay : ∀ xs : List V, PyData.canLayAll0 (xs.map dS) = true
  | [] => rfl
  | x :: r => by rw [List.map_cons, PyData.canLayAll0, isS_lay r]; cases x <;> rfl
theorem isS_depth : ∀ xs : List V, PyData.depthAll (xs.map dS) = 0
  | [] => rfl
  | x :: r => by rw [List.map_cons, PyData.depthAll, isS_depth r]; cases x <;> rfl
theorem isS_shaped (xs : List V) : SeqAt.shaped (.tuple (xs.map dS)) = true := by
  unfold SeqAt.shaped
  rw [PyData.canLay0, isS_lay, PyData.depth, isS_depth]
  rfl
def rEqTS : R2 := fun x y H Q => ∃ a b xs ys, x = .ref a ∧ y = .ref b ∧ H a = some (.tup xs) ∧ H b = some (.tup ys) ∧ xs.all isS = true ∧ ys.all isS = true ∧ Q (.bl (PyData.eqvAll (xs.map dS) (ys.map dS))) H
theorem op_eqTS (hu : X.A.units + 64 < cLine) : OpR X (compareOp .Eq) rEqTS := OpR.of (op_eqD hu) (by
  rintro x y H Q ⟨a, b, xs, ys, rfl, rfl, ha, hb, h1, h2, q⟩
  refine ⟨_, _, .tup (.inl (.inl ha)) (isS_dp xs h1), .tup (.inl (.inl hb)) (isS_dp ys h2), isS_shaped xs, isS_shaped ys, ?_⟩
  rw [PyData.eqv]
  exact q)
theorem dS_int (i : Int) : dS (.int i) = .int i := rfl
theorem dS_bl (b : Bool) : dS (.bl b) = .bool b := rfl
theorem isS_int (i : Int) : isS (.int i) = true := rfl
theorem isS_bl (b : Bool) : isS (.bl b) = true := rfl
theorem eqv_ii (i j : Int) : PyData.eqv (.int i) (.int j) = decide (i = j) := by rw [PyData.eqv]; rfl
theorem eqv_bb (i j : Bool) : PyData.eqv (.bool i) (.bool j) = decide (i = j) := by rw [PyData.eqv]; cases i <;> cases j <;> rfl
theorem eqvAll_nil : PyData.eqvAll [] [] = true := by rw [PyData.eqvAll]
theorem eqvAll_cons (x y : PyData) (xs ys : List PyData) : PyData.eqvAll (x :: xs) (y :: ys) = (PyData.eqv x y && PyData.eqvAll xs ys) := by rw [PyData.eqvAll]
theorem ip_of {op : Operator} {r : R2} (h : OpR X (inplaceOp op) r) : PIp X op r := fun pins s σ H x y v u Q I r1 r2 q => h pins s σ H x y v u Q I r1 r2 q
theorem SlR.of {r r' : V → Option Int → Option Int → Hp → VK → Prop} (h : SlR X r) (k : ∀ x lo hi H Q, r' x lo hi H Q → r x lo hi H Q) : SlR X r' := fun pins s σ H x v vl vu lo hi sl Q I rx hs pl pu q => h pins s σ H x v vl vu lo hi sl Q I rx hs pl pu (k x lo hi H Q q)
/-- a slice of a tracked list -/
def rSlH : V → Option Int → Option Int → Hp → VK → Prop := fun x lo hi H Q => ∃ a xs, x = .ref a ∧ H a = some (.lst xs) ∧ ∀ p, H p = none → Q (.ref p) (upd H p (.lst (cutV xs lo hi)))
theorem sl_listH : SlR X rSlH := SlR.of sl_list (by
  rintro x lo hi H Q ⟨a, xs, rfl, h, q⟩
  exact ⟨a, xs, rfl, .inl (.inl h), q⟩)
/-- == and != of two tracked pairs of a list of ints and an int -/
theorem li_dp {K : PySem.W.Frag} {H : Hp} {q : Addr} {l : Int} {ns : List Int} (hq : H q = some (.lst (List.map V.int ns))) : DpAll K H [.ref q, .int l] [.list (ns.map PyData.int), .int l] := .cons (.lst (.inl (.inl hq)) (ints_dp ns)) (.cons (.int l) .nil)
theorem li_shaped (ns : List Int) (l : Int) : SeqAt.shaped (.tuple [.list (ns.map PyData.int), .int l]) = true := by
  unfold SeqAt.shaped
  rw [PyData.canLay0, PyData.canLayAll0, PyData.canLay0, ints_lay, PyData.canLayAll0, PyData.depth, PyData.depthAll, PyData.depth, ints_depth, PyData.depthAll]
  rfl
theorem li_eqv (ns ms : List Int) (l m : Int) : PyData.eqv (.tuple [.list (ns.map PyData.int), .int l]) (.tuple [.list (ms.map PyData.int), .int m]) = (decide (ns = ms) && decide (l = m)) := by
  rw [PyData.eqv, PyData.eqvAll, PyData.eqvAll, PyData.eqvAll, PyData.eqv, PyData.eqv, ints_eqv, Bool.and_true]
  rfl
def rEqLI : R2 := fun x y H Q => ∃ a b q r l m ns ms, x = .ref a ∧ y = .ref b ∧ H a = some (.tup [.ref q, .int l]) ∧ H b = some (.tup [.ref r, .int m]) ∧ H q = some (.lst (List.map V.int ns)) ∧ H r = some (.lst (List.map V.int ms)) ∧ Q (.bl (decide (ns = ms) && decide (l = m))) H
theorem op_eqLI (hu : X.A.units + 64 < cLine) : OpR X (compareOp .Eq) rEqLI := OpR.of (op_eqD hu) (by
  rintro x y H Q ⟨a, b, q, r, l, m, ns, ms, rfl, rfl, ha, hb, hq, hr, k⟩
  refine ⟨_, _, .tup (.inl (.inl ha)) (li_dp hq), .tup (.inl (.inl hb)) (li_dp hr), li_shaped ns l, li_shaped ms m, ?_⟩
  rw [li_eqv]
  exact k)
def rNeLI : R2 := fun x y H Q => ∃ a b q r l m ns ms, x = .ref a ∧ y = .ref b ∧ H a = some (.tup [.ref q, .int l]) ∧ H b = some (.tup [.ref r, .int m]) ∧ H q = some (.lst (List.map V.int ns)) ∧ H r = some (.lst (List.map V.int ms)) ∧ Q (.bl (!(decide (ns = ms) && decide (l = m)))) H
theorem op_neLI (hu : X.A.units + 64 < cLine) : OpR X (compareOp .NotEq) rNeLI := OpR.of (op_neD hu) (by
  rintro x y H Q ⟨a, b, q, r, l, m, ns, ms, rfl, rfl, ha, hb, hq, hr, k⟩
  refine ⟨_, _, .tup (.inl (.inl ha)) (li_dp hq), .tup (.inl (.inl hb)) (li_dp hr), li_shaped ns l, li_shaped ms m, ?_⟩
  rw [li_eqv]
  exact k)
def rIxH : R2 := fun x y H Q => ∃ p xs i v, x = .ref p ∧ y = .int i ∧ H p = some (.lst xs) ∧ atI xs i = some v ∧ Q v H
theorem IxR.of {r r' : R2} (h : IxR X r) (k : ∀ x y H Q, r' x y H Q → r x y H Q) : IxR X r' := fun va sl pins s σ H x y v u Q I rx ry q hs => h va sl pins s σ H x y v u Q I rx ry (k x y H Q q) hs
theorem ix_listH : IxR X rIxH := IxR.of ix_list (by
  rintro x y H Q ⟨p, xs, i, v, e1, e2, h, h2, q⟩
  exact ⟨p, xs, i, v, e1, e2, .inl (.inl h), h2, q⟩)
def rIxTH : R2 := fun x y H Q => ∃ p xs i v, x = .ref p ∧ y = .int i ∧ H p = some (.tup xs) ∧ atI xs i = some v ∧ Q v H
theorem ix_tupH : IxR X rIxTH := IxR.of ix_tup (by
  rintro x y H Q ⟨p, xs, i, v, e1, e2, h, h2, q⟩
  exact ⟨p, xs, i, v, e1, e2, .inl (.inl h), h2, q⟩)
end
/-- a place in bounds -/
theorem ixN_in {n : Nat} {k : Int} (h0 : 0 ≤ k) (h1 : k < n) : ixN n k = some k.toNat := by
  unfold ixN
  rw [if_pos h0, if_pos h1]
theorem atI_in {xs : List Int} {k : Int} (h0 : 0 ≤ k) (h1 : k < xs.length) : ∃ b, xs[k.toNat]? = some b ∧ atI (xs.map V.int) k = some (.int b) := by
  have h : k.toNat < xs.length := by omega
  refine ⟨xs[k.toNat], List.getElem?_eq_getElem h, ?_⟩
  unfold atI
  rw [List.length_map, ixN_in h0 h1]
  show (xs.map V.int)[k.toNat]? = _
  rw [List.getElem?_map, List.getElem?_eq_getElem h]
  rfl
theorem mod_in (x : Int) {m : Int} (h : 0 < m) : 0 ≤ x % m ∧ x % m < m := ⟨Int.emod_nonneg x (by omega), Int.emod_lt_of_pos x h⟩
theorem atI_c0 {α : Type} (x : α) (xs : List α) : atI (x :: xs) 0 = some x := atI_nat (j := 0) rfl
theorem atI_c1 {α : Type} (x y : α) (xs : List α) : atI (x :: y :: xs) 1 = some y := atI_nat (j := 1) rfl
theorem atI_c2 {α : Type} (x y z : α) (xs : List α) : atI (x :: y :: z :: xs) 2 = some z := atI_nat (j := 2) rfl
theorem atI_c3 {α : Type} (x y z u : α) (xs : List α) : atI (x :: y :: z :: u :: xs) 3 = some u := atI_nat (j := 3) rfl

theorem tyV_upd {K : PySem.W.Frag} {H : Hp} {p : Addr} {xs : List V} : tyV K "list" (.ref p) (upd H p (.lst xs)) = True := eq_true (.inl ⟨rfl, xs, .inl (.inl upd_same)⟩)
theorem nil_sz : (0 ≤ sizeLine) = True := eq_true (Nat.zero_le _)
/-- what a for asks once its walk stands -/
def Loop (J : It) (g : TG) (tb : TS) (D : Ends) (σ : L2.St) (H1 : Hp) : Prop := ∃ W : Nat → Nat → L2.St → Hp → Prop, (∃ m, W 0 m σ H1) ∧ ∀ i m σ H, W i m σ H →
  (J.stop i H ∧ D.nx σ H) ∨ (J.go i H ∧ ∃ N : L2.St → Hp → Prop, (∀ σ' H', N σ' H' → ∃ m', m' < m ∧ W (i + 1) m' σ' H') ∧ ∀ x H', J.yld i H x H' → g x σ H' fun σ2 H2 => tb { D with nx := N, ct := N, bk := D.nx } σ2 H2)
theorem tFor_eq {wi : TI} {g : TG} {tb : TS} {D : Ends} {σ : L2.St} {H : Hp} : tFor wi g tb D σ H = wi σ H fun J H1 => Loop J g tb D σ H1 := rfl
theorem lp_range {n : Nat} {g : TG} {tb : TS} {D : Ends} {σ : L2.St} {H : Hp} (Pv : Nat → L2.St → Hp → Prop) (h0 : Pv 0 σ H)
    (hs : ∀ i σ H, i < n → Pv i σ H → g (.int i) σ H fun σ2 H2 => tb { D with nx := Pv (i + 1), ct := Pv (i + 1), bk := D.nx } σ2 H2) (hd : ∀ σ H, Pv n σ H → D.nx σ H) : Loop (Itr 0 n) g tb D σ H :=
  for_range (lo := 0) Pv h0 (fun i σ H a b => by have := hs i σ H a b; rw [Int.zero_add]; exact this) hd
theorem lp_list {K : PySem.W.Frag} {a : Addr} {xs : List V} {g : TG} {tb : TS} {D : Ends} {σ : L2.St} {H : Hp} (Pv : Nat → L2.St → Hp → Prop) (h0 : Pv 0 σ H) (hl : ∀ i σ H, i ≤ xs.length → Pv i σ H → SqL K H a xs)
    (hs : ∀ i x σ H, xs[i]? = some x → Pv i σ H → g x σ H fun σ2 H2 => tb { D with nx := Pv (i + 1), ct := Pv (i + 1), bk := D.nx } σ2 H2) (hd : ∀ σ H, Pv xs.length σ H → D.nx σ H) : Loop (Itl K a) g tb D σ H := for_list Pv h0 hl hs hd
/-- the same for a comprehension -/
def LcLoop (J : It) (g : TG) (tt : TT) (te : TE) (vs : List Nat) (σ : L2.St) (H1 : Hp) (Q : VK) : Prop := ∀ D, H1 D = none → ∃ W : Nat → Nat → Hp → Prop, (∃ m, W 0 m (upd H1 D (.lst []))) ∧ ∀ i m H, W i m H →
  (J.stop i H ∧ Q (.ref D) H) ∨ (J.go i H ∧ ∃ Nx : Hp → Prop, (∀ H', Nx H' → ∃ m', m' < m ∧ W (i + 1) m' H') ∧ ∀ x H', J.yld i H x H' → g x (wipe σ vs) H' fun σ2 H2 => wipe σ2 vs = wipe σ vs ∧ tt σ2 H2 fun b H3 =>
    if b = true then te σ2 H3 fun y H4 => ∃ acc, H4 D = some (.lst acc) ∧ acc.length < sizeLine ∧ Nx (upd H4 D (.lst (acc ++ [y]))) else Nx H3)
theorem tLc_eq {wi : TI} {g : TG} {tt : TT} {te : TE} {vs : List Nat} {σ : L2.St} {H : Hp} {Q : VK} : tLc wi g tt te vs σ H Q = wi σ H fun J H1 => LcLoop J g tt te vs σ H1 Q := rfl
/-- a comprehension over a list, whose elements leave the heap as it is: L i is what i turns have made -/
theorem lc_pure {K : PySem.W.Frag} {a : Addr} {xs : List V} {g : TG} {tt : TT} {te : TE} {vs : List Nat} {σ : L2.St} {H1 : Hp} {Q : VK} (L : Nat → List V) (hS : SqL K H1 a xs) (h0 : L 0 = [])
    (hs : ∀ i x D, xs[i]? = some x → H1 D = none → g x (wipe σ vs) (upd H1 D (.lst (L i))) fun σ2 H2 => wipe σ2 vs = wipe σ vs ∧ tt σ2 H2 fun b H3 =>
      if b = true then te σ2 H3 fun y H4 => ∃ acc, H4 D = some (.lst acc) ∧ acc.length < sizeLine ∧ upd H4 D (.lst (acc ++ [y])) = upd H1 D (.lst (L (i + 1))) else H3 = upd H1 D (.lst (L (i + 1))))
    (hd : ∀ D, H1 D = none → Q (.ref D) (upd H1 D (.lst (L xs.length)))) : LcLoop (Itl K a) g tt te vs σ H1 Q := by
  intro D hD
  refine lc_list (K := K) (a := a) (xs := xs) (fun i H => H = upd H1 D (.lst (L i))) (by rw [h0]) (fun i H _ e => ?_) (fun i x H hx e => ?_) (fun H e => ?_)
  · subst e
    exact (show Same H1 _ from fun b o e => by rw [upd_ne (ne_of_none e hD)]; exact e).seq hS
  · subst e
    exact hs i x D hx hD
  · subst e
    exact hd D hD
theorem lc_pure_range {n : Nat} {g : TG} {tt : TT} {te : TE} {vs : List Nat} {σ : L2.St} {H1 : Hp} {Q : VK} (L : Nat → List V) (h0 : L 0 = [])
    (hs : ∀ i D, i < n → H1 D = none → g (.int i) (wipe σ vs) (upd H1 D (.lst (L i))) fun σ2 H2 => wipe σ2 vs = wipe σ vs ∧ tt σ2 H2 fun b H3 =>
      if b = true then te σ2 H3 fun y H4 => ∃ acc, H4 D = some (.lst acc) ∧ acc.length < sizeLine ∧ upd H4 D (.lst (acc ++ [y])) = upd H1 D (.lst (L (i + 1))) else H3 = upd H1 D (.lst (L (i + 1))))
    (hd : ∀ D, H1 D = none → Q (.ref D) (upd H1 D (.lst (L n)))) : LcLoop (Itr 0 n) g tt te vs σ H1 Q := by
  intro D hD
  refine lc_range (lo := 0) (n := n) (fun i H => H = upd H1 D (.lst (L i))) (by rw [h0]) (fun i H hi e => ?_) (fun H e => ?_)
  · subst e
    rw [Int.zero_add]
    exact hs i D hi hD
  · subst e
    exact hd D hD
theorem lp_zip {K : PySem.W.Frag} {a b : Addr} {xs ys : List V} {g : TG} {tb : TS} {D : Ends} {σ : L2.St} {H : Hp} (hl : xs.length = ys.length) (Pv : Nat → L2.St → Hp → Prop) (h0 : Pv 0 σ H) (hq : ∀ i σ H, Pv i σ H → SqL K H a xs ∧ SqL K H b ys)
    (hs : ∀ (i : Nat) (x y : V) (T : Addr) (σ : L2.St) (H : Hp), xs[i]? = some x → ys[i]? = some y → Pv i σ H → H T = none → g (.ref T) σ (upd H T (.tup [x, y])) fun σ2 H2 => tb { D with nx := Pv (i + 1), ct := Pv (i + 1), bk := D.nx } σ2 H2) (hd : ∀ σ H, Pv xs.length σ H → D.nx σ H) :
    Loop (Itz K a b) g tb D σ H := RZ.for_zipL hl Pv h0 hq hs hd
theorem lc_str {x : Str} {g : TG} {tt : TT} {te : TE} {vs : List Nat} {σ : L2.St} {H1 : Hp} {Q : VK} (L : Nat → List V) (h0 : L 0 = [])
    (hs : ∀ i c D, x.cps[i]? = some c → H1 D = none → g (.str ⟨#[c]⟩) (wipe σ vs) (upd H1 D (.lst (L i))) fun σ2 H2 => wipe σ2 vs = wipe σ vs ∧ tt σ2 H2 fun b H3 =>
      if b = true then te σ2 H3 fun y H4 => ∃ acc, H4 D = some (.lst acc) ∧ acc.length < sizeLine ∧ upd H4 D (.lst (acc ++ [y])) = upd H1 D (.lst (L (i + 1))) else H3 = upd H1 D (.lst (L (i + 1))))
    (hd : ∀ D, H1 D = none → Q (.ref D) (upd H1 D (.lst (L x.cps.size)))) : LcLoop (Its x) g tt te vs σ H1 Q := by
  intro D hD
  refine ⟨fun i m H => m = x.cps.size - i ∧ i ≤ x.cps.size ∧ H = upd H1 D (.lst (L i)), ⟨x.cps.size, by simp, Nat.zero_le _, by rw [h0]⟩, ?_⟩
  rintro i m H ⟨rfl, hi, rfl⟩
  by_cases hlt : i < x.cps.size
  · refine .inr ⟨hlt, fun H' => H' = upd H1 D (.lst (L (i + 1))), fun H' p' => ⟨x.cps.size - (i + 1), by omega, rfl, hlt, p'⟩, fun v H' y => ?_⟩
    obtain ⟨e, c, hc, ev⟩ := y
    subst e ev
    exact hs i c D hc hD
  · have e : i = x.cps.size := by omega
    subst e
    exact .inl ⟨Nat.le_refl _, hd D hD⟩
theorem lc_rangeC {lo c : Int} {n : Nat} {g : TG} {tt : TT} {te : TE} {vs : List Nat} {σ : L2.St} {H1 : Hp} {Q : VK} (L : Nat → List V) (h0 : L 0 = [])
    (hs : ∀ i D, i < n → H1 D = none → g (.int (lo + (i : Nat) * c)) (wipe σ vs) (upd H1 D (.lst (L i))) fun σ2 H2 => wipe σ2 vs = wipe σ vs ∧ tt σ2 H2 fun b H3 =>
      if b = true then te σ2 H3 fun y H4 => ∃ acc, H4 D = some (.lst acc) ∧ acc.length < sizeLine ∧ upd H4 D (.lst (acc ++ [y])) = upd H1 D (.lst (L (i + 1))) else H3 = upd H1 D (.lst (L (i + 1))))
    (hd : ∀ D, H1 D = none → Q (.ref D) (upd H1 D (.lst (L n)))) : LcLoop (Itc lo c n) g tt te vs σ H1 Q := by
  intro D hD
  refine ⟨fun i m H => m = n - i ∧ i ≤ n ∧ H = upd H1 D (.lst (L i)), ⟨n, by simp, Nat.zero_le _, by rw [h0]⟩, ?_⟩
  rintro i m H ⟨rfl, hi, rfl⟩
  by_cases hlt : i < n
  · refine .inr ⟨hlt, fun H' => H' = upd H1 D (.lst (L (i + 1))), fun H' p' => ⟨n - (i + 1), by omega, rfl, hlt, p'⟩, fun v H' y => ?_⟩
    obtain ⟨e, ev⟩ := y
    subst e ev
    exact hs i D hlt hD
  · have e : i = n := by omega
    subst e
    exact .inl ⟨Nat.le_refl _, hd D hD⟩
theorem small_two {a b : Int} (ha : -(2 ^ 62) ≤ a) (ha' : a < 2 ^ 62) (hb : -(2 ^ 62) ≤ b) (hb' : b < 2 ^ 62) : Builtin.Range.small a b 2 = true := by
  unfold Builtin.Range.small Builtin.Range.rangeSize
  simp only [Builtin.Range.rangeFitsLong, Bool.and_eq_true, Bool.or_eq_true, decide_eq_true_eq, beq_iff_eq, show ((2 : Int) > 0) by decide, if_true]
  split <;> omega
theorem rg_two {n : Nat} (h : n < 1000000) : RgC 0 ((n : Int) - 1) 2 (n / 2) := by
  refine ⟨by decide, by decide, small_two (by decide) (by decide) (by omega) (by omega), ?_⟩
  unfold Builtin.Range.rangeSize
  rw [if_pos (by decide)]
  split <;> omega
theorem wh_by {c : TT} {tb : TS} {D : Ends} {σ : L2.St} {H : Hp} (W : Nat → L2.St → Hp → Prop) (m : Nat) (h0 : W m σ H)
    (hs : ∀ m σ H, W m σ H → c σ H fun b H1 => if b = true then ∃ N : L2.St → Hp → Prop, (∀ σ' H', N σ' H' → ∃ m', m' < m ∧ W m' σ' H') ∧ tb { D with nx := N, ct := N, bk := D.nx } σ H1 else D.nx σ H1) : tWhile c tb D σ H := ⟨W, ⟨m, h0⟩, hs⟩
theorem lc_rng {n : Nat} {g : TG} {tt : TT} {te : TE} {vs : List Nat} {σ : L2.St} {H1 : Hp} {Q : VK} (Pv : Addr → Nat → Hp → Prop) (h0 : ∀ D, H1 D = none → Pv D 0 (upd H1 D (.lst [])))
    (hs : ∀ D i H, i < n → H1 D = none → Pv D i H → g (.int i) (wipe σ vs) H fun σ2 H2 => wipe σ2 vs = wipe σ vs ∧ tt σ2 H2 fun b H3 =>
      if b = true then te σ2 H3 fun y H4 => ∃ acc, H4 D = some (.lst acc) ∧ acc.length < sizeLine ∧ Pv D (i + 1) (upd H4 D (.lst (acc ++ [y]))) else Pv D (i + 1) H3)
    (hd : ∀ D H, H1 D = none → Pv D n H → Q (.ref D) H) : LcLoop (Itr 0 n) g tt te vs σ H1 Q := by
  intro D hD
  refine lc_range (lo := 0) (n := n) (Pv D) (h0 D hD) (fun i H hi p => ?_) (fun H p => hd D H hD p)
  rw [Int.zero_add]
  exact hs D i H hi hD p
theorem same_upd {H : Hp} {p : Addr} {o : HO} (h : H p = none) : Same H (upd H p o) := fun b x e => by
  rw [upd_ne (ne_of_none e h)]
  exact e
theorem same_upd2 {H H' : Hp} {q : Addr} {o : HO} (s : Same H H') (h : H q = none) : Same H (upd H' q o) := fun b x e => by
  rw [upd_ne (ne_of_none e h)]
  exact s b x e
local macro_rules | `(tactic| walk_at "vc") => `(tactic| simp only [tSeq, tAsg, tOp, rI, rI0, rU, tUn, tCB, tCons, tNil, tVar, tC, gName, gSub, rSetL, tRet, tRetN, tIfS, tNext, tTest, tB, tDrop, tIf, tNot, tAnd, tOr, tAndV, tOrV, tNotV, tAug, ipI, tCall, tCmp, t2I, tBreak, tCont, tLst, tTup, tBM, tBM0, rAppend, tyV_upd, rLenH, rLenT, rListH, rIxH, rIxTH, rIxS, rEqIL, rNeIL, rEqTS, rSlH, rRep, rCat, rExtend, tSl, tPart, tNoPart, rIxT, gTup, gCons, gNil, atI_c0, atI_c1, atI_c2, atI_c3, dS_int, dS_bl, isS_int, isS_bl, eqv_ii, eqv_bb, eqvAll_nil, eqvAll_cons, List.all_cons, List.all_nil, Bool.and_true, Bool.true_and, rIsiB, tnm_int, tnm_bl, tnm_str, tnm_non, tnm_ref, kb1, kb2, kb3, kb4, kb5, kb6, kb7, kb8, kb9, kb10, rEq, rNe, scal_ii, scal_ss, scal_bb, scal_nn, scal_in, scal_ni,
  tFor_eq, tLc_eq, iRng1, iRng2, iList, iTup, iZip, iStr, iRng3, tChain, tYes, wipe, tCallL, Int.sub_zero, Int.toNat_natCast, Int.natCast_add,
  cxOf, L2.start, List.map_cons, List.map_nil, List.length_cons, List.length_nil, List.reduceReplicate, List.cons_append, List.nil_append, List.append_nil, List.set_cons_zero, List.set_cons_succ, List.getElem?_cons_zero, List.getElem?_cons_succ,
  upd_same, upd_upd, HO.lst.injEq, HO.tup.injEq, nil_sz,
  Option.some.injEq, V.int.injEq, V.bl.injEq, V.ref.injEq, V.str.injEq, V.ty.injEq, exists_eq_left', exists_eq_left, exists_eq', exists_eq, Int.cast_ofNat_Int, Int.reduceEq, Int.reduceMul, Int.reduceAdd, Int.reduceSub, Int.natCast_zero, Int.mul_zero, Int.add_zero, exists_and_left, exists_and_right, List.cons.injEq, and_true, true_and, and_assoc, reduceCtorEq, false_and, and_false, exists_false, exists_const, or_false, false_or, Nat.reduceAdd, Nat.reduceSub, Int.reduceLT, Int.reduceLE, Int.reduceNeg, Int.reducePow, Int.reduceToNat, ite_true, ite_false, Bool.false_eq_true, Bool.not_true, Bool.not_false, decide_true, decide_false, if_true, if_false])


def topS (i : Nat) : Stmt := PySem.Challenge.pw_stillroom_k06_runs_written.main.body.getD i (.Pass ⟨0, 0, 0, 0⟩)
abbrev s_spend : Stmt := topS 1
abbrev s_read_pieces : Stmt := topS 3
abbrev s_plain_piece : Stmt := topS 4
abbrev s_read_plain_piece : Stmt := topS 5
abbrev s_from_runs : Stmt := topS 9
abbrev s__run_at : Stmt := topS 10
abbrev s_to_runs : Stmt := topS 11
abbrev s__three_equal : Stmt := topS 12
abbrev s__count_equal : Stmt := topS 13
abbrev s__count_unlike : Stmt := topS 14
abbrev s__law_cell : Stmt := topS 16
abbrev s__law_is_integer : Stmt := topS 17
abbrev s__law_draw : Stmt := topS 18
abbrev s__law_state : Stmt := topS 19
abbrev s__law_is_bytes : Stmt := topS 20
abbrev s__law_data : Stmt := topS 21
abbrev s__law_row : Stmt := topS 22
abbrev s__law_due : Stmt := topS 23
abbrev s_law : Stmt := topS 24
theorem sc_spend : FnScope ["left", "cost"] ["left", "cost"] (defScope s_spend) := ⟨rfl, rfl, rfl, by decide +kernel, rfl, by decide +kernel, by decide +kernel⟩
theorem sc_read_pieces : FnScope ["data", "left", "piece_at", "enough", "found", "at", "piece"] ["data", "left", "piece_at"] (defScope s_read_pieces) := ⟨rfl, rfl, rfl, by decide +kernel, rfl, by decide +kernel, by decide +kernel⟩
theorem sc_plain_piece : FnScope ["data"] ["data"] (defScope s_plain_piece) := ⟨rfl, rfl, rfl, by decide +kernel, rfl, by decide +kernel, by decide +kernel⟩
theorem sc_read_plain_piece : FnScope ["data", "at", "end"] ["data", "at"] (defScope s_read_plain_piece) := ⟨rfl, rfl, rfl, by decide +kernel, rfl, by decide +kernel, by decide +kernel⟩
theorem sc_from_runs : FnScope ["data", "left"] ["data", "left"] (defScope s_from_runs) := ⟨rfl, rfl, rfl, by decide +kernel, rfl, by decide +kernel, by decide +kernel⟩
theorem sc__run_at : FnScope ["data", "at", "_", "count"] ["data", "at", "_"] (defScope s__run_at) := ⟨rfl, rfl, rfl, by decide +kernel, rfl, by decide +kernel, by decide +kernel⟩
theorem sc_to_runs : FnScope ["data", "found", "at", "many"] ["data"] (defScope s_to_runs) := ⟨rfl, rfl, rfl, by decide +kernel, rfl, by decide +kernel, by decide +kernel⟩
theorem sc__three_equal : FnScope ["data", "at"] ["data", "at"] (defScope s__three_equal) := ⟨rfl, rfl, rfl, by decide +kernel, rfl, by decide +kernel, by decide +kernel⟩
theorem sc__count_equal : FnScope ["data", "at", "many"] ["data", "at"] (defScope s__count_equal) := ⟨rfl, rfl, rfl, by decide +kernel, rfl, by decide +kernel, by decide +kernel⟩
theorem sc__count_unlike : FnScope ["data", "at", "many"] ["data", "at"] (defScope s__count_unlike) := ⟨rfl, rfl, rfl, by decide +kernel, rfl, by decide +kernel, by decide +kernel⟩
theorem sc__law_cell : FnScope ["script", "k"] ["script", "k"] (defScope s__law_cell) := ⟨rfl, rfl, rfl, by decide +kernel, rfl, by decide +kernel, by decide +kernel⟩
theorem sc__law_is_integer : FnScope ["actual"] ["actual"] (defScope s__law_is_integer) := ⟨rfl, rfl, rfl, by decide +kernel, rfl, by decide +kernel, by decide +kernel⟩
theorem sc__law_draw : FnScope ["state", "many", "rest"] ["state", "many"] (defScope s__law_draw) := ⟨rfl, rfl, rfl, by decide +kernel, rfl, by decide +kernel, by decide +kernel⟩
theorem sc__law_state : FnScope ["cell", "salt", "rest"] ["cell", "salt"] (defScope s__law_state) := ⟨rfl, rfl, rfl, by decide +kernel, rfl, by decide +kernel, by decide +kernel⟩
theorem sc__law_is_bytes : FnScope ["actual", "byte"] ["actual"] (defScope s__law_is_bytes) := ⟨rfl, rfl, rfl, by decide +kernel, rfl, by decide +kernel, by decide +kernel⟩
theorem sc__law_data : FnScope ["state", "most", "data", "kind", "turn", "how", "k", "at"] ["state", "most"] (defScope s__law_data) := ⟨rfl, rfl, rfl, by decide +kernel, rfl, by decide +kernel, by decide +kernel⟩
theorem sc__law_row : FnScope ["data", "at", "count", "k"] ["data", "at"] (defScope s__law_row) := ⟨rfl, rfl, rfl, by decide +kernel, rfl, by decide +kernel, by decide +kernel⟩
theorem sc__law_due : FnScope ["data", "found", "kept", "at", "turn", "count"] ["data"] (defScope s__law_due) := ⟨rfl, rfl, rfl, by decide +kernel, rfl, by decide +kernel, by decide +kernel⟩
theorem sc_law : FnScope ["script", "state", "data", "handed", "found", "cost", "more", "pieces", "back", "less"] ["script"] (defScope s_law) := ⟨rfl, rfl, rfl, by decide +kernel, rfl, by decide +kernel, by decide +kernel⟩
/-- what the top has left, as far as the walk asks of it -/
structure Txt (K : PySem.W.Frag) (mg : Str → Option Value) where
  f_spend : Addr
  fd_spend : FuncData
  F_spend : Fun K "spend" "spend" s_spend f_spend fd_spend
  b_spend : Binds K fd_spend ["left", "cost"] []
  g_spend : mg "spend" = some (.ref f_spend)
  f_read_pieces : Addr
  fd_read_pieces : FuncData
  F_read_pieces : Fun K "read_pieces" "read_pieces" s_read_pieces f_read_pieces fd_read_pieces
  b_read_pieces : Binds K fd_read_pieces ["data", "left", "piece_at"] []
  g_read_pieces : mg "read_pieces" = some (.ref f_read_pieces)
  f_plain_piece : Addr
  fd_plain_piece : FuncData
  F_plain_piece : Fun K "plain_piece" "plain_piece" s_plain_piece f_plain_piece fd_plain_piece
  b_plain_piece : Binds K fd_plain_piece ["data"] []
  g_plain_piece : mg "plain_piece" = some (.ref f_plain_piece)
  f_read_plain_piece : Addr
  fd_read_plain_piece : FuncData
  F_read_plain_piece : Fun K "read_plain_piece" "read_plain_piece" s_read_plain_piece f_read_plain_piece fd_read_plain_piece
  b_read_plain_piece : Binds K fd_read_plain_piece ["data", "at"] []
  g_read_plain_piece : mg "read_plain_piece" = some (.ref f_read_plain_piece)
  f_from_runs : Addr
  fd_from_runs : FuncData
  F_from_runs : Fun K "from_runs" "from_runs" s_from_runs f_from_runs fd_from_runs
  b_from_runs : Binds K fd_from_runs ["data", "left"] []
  g_from_runs : mg "from_runs" = some (.ref f_from_runs)
  f__run_at : Addr
  fd__run_at : FuncData
  F__run_at : Fun K "_run_at" "_run_at" s__run_at f__run_at fd__run_at
  b__run_at : Binds K fd__run_at ["data", "at", "_"] []
  g__run_at : mg "_run_at" = some (.ref f__run_at)
  f_to_runs : Addr
  fd_to_runs : FuncData
  F_to_runs : Fun K "to_runs" "to_runs" s_to_runs f_to_runs fd_to_runs
  b_to_runs : Binds K fd_to_runs ["data"] []
  g_to_runs : mg "to_runs" = some (.ref f_to_runs)
  f__three_equal : Addr
  fd__three_equal : FuncData
  F__three_equal : Fun K "_three_equal" "_three_equal" s__three_equal f__three_equal fd__three_equal
  b__three_equal : Binds K fd__three_equal ["data", "at"] []
  g__three_equal : mg "_three_equal" = some (.ref f__three_equal)
  f__count_equal : Addr
  fd__count_equal : FuncData
  F__count_equal : Fun K "_count_equal" "_count_equal" s__count_equal f__count_equal fd__count_equal
  b__count_equal : Binds K fd__count_equal ["data", "at"] []
  g__count_equal : mg "_count_equal" = some (.ref f__count_equal)
  f__count_unlike : Addr
  fd__count_unlike : FuncData
  F__count_unlike : Fun K "_count_unlike" "_count_unlike" s__count_unlike f__count_unlike fd__count_unlike
  b__count_unlike : Binds K fd__count_unlike ["data", "at"] []
  g__count_unlike : mg "_count_unlike" = some (.ref f__count_unlike)
  f__law_cell : Addr
  fd__law_cell : FuncData
  F__law_cell : Fun K "_law_cell" "_law_cell" s__law_cell f__law_cell fd__law_cell
  b__law_cell : Binds K fd__law_cell ["script", "k"] []
  g__law_cell : mg "_law_cell" = some (.ref f__law_cell)
  f__law_is_integer : Addr
  fd__law_is_integer : FuncData
  F__law_is_integer : Fun K "_law_is_integer" "_law_is_integer" s__law_is_integer f__law_is_integer fd__law_is_integer
  b__law_is_integer : Binds K fd__law_is_integer ["actual"] []
  g__law_is_integer : mg "_law_is_integer" = some (.ref f__law_is_integer)
  f__law_draw : Addr
  fd__law_draw : FuncData
  F__law_draw : Fun K "_law_draw" "_law_draw" s__law_draw f__law_draw fd__law_draw
  b__law_draw : Binds K fd__law_draw ["state", "many"] []
  g__law_draw : mg "_law_draw" = some (.ref f__law_draw)
  f__law_state : Addr
  fd__law_state : FuncData
  F__law_state : Fun K "_law_state" "_law_state" s__law_state f__law_state fd__law_state
  b__law_state : Binds K fd__law_state ["cell", "salt"] []
  g__law_state : mg "_law_state" = some (.ref f__law_state)
  f__law_is_bytes : Addr
  fd__law_is_bytes : FuncData
  F__law_is_bytes : Fun K "_law_is_bytes" "_law_is_bytes" s__law_is_bytes f__law_is_bytes fd__law_is_bytes
  b__law_is_bytes : Binds K fd__law_is_bytes ["actual"] []
  g__law_is_bytes : mg "_law_is_bytes" = some (.ref f__law_is_bytes)
  f__law_data : Addr
  fd__law_data : FuncData
  F__law_data : Fun K "_law_data" "_law_data" s__law_data f__law_data fd__law_data
  b__law_data : Binds K fd__law_data ["state", "most"] []
  g__law_data : mg "_law_data" = some (.ref f__law_data)
  f__law_row : Addr
  fd__law_row : FuncData
  F__law_row : Fun K "_law_row" "_law_row" s__law_row f__law_row fd__law_row
  b__law_row : Binds K fd__law_row ["data", "at"] []
  g__law_row : mg "_law_row" = some (.ref f__law_row)
  f__law_due : Addr
  fd__law_due : FuncData
  F__law_due : Fun K "_law_due" "_law_due" s__law_due f__law_due fd__law_due
  b__law_due : Binds K fd__law_due ["data"] []
  g__law_due : mg "_law_due" = some (.ref f__law_due)
  f_law : Addr
  fd_law : FuncData
  F_law : Fun K "law" "law" s_law f_law fd_law
  b_law : Binds K fd_law ["script"] []
  g_law : mg "law" = some (.ref f_law)
  t__MOST_BYTES : Tok
  c__MOST_BYTES : mg "_MOST_BYTES" = some (.int 128 t__MOST_BYTES)
  t__END : Tok
  c__END : mg "_END" = some (.int 128 t__END)
  z_abs : mg "abs" = none
  z_bool : mg "bool" = none
  z_int : mg "int" = none
  z_isinstance : mg "isinstance" = none
  z_len : mg "len" = none
  z_list : mg "list" = none
  z_max : mg "max" = none
  z_min : mg "min" = none
  z_range : mg "range" = none
  z_tuple : mg "tuple" = none
/-! ### the law's own helpers -/
/-- the cell k of the script -/
def cellA (ns : List Int) (k : Nat) : Int := ns.getD k 0
def spCell (K : PySem.W.Frag) : Sp := fun vs H Q _ => ∃ (a : Addr) (ns : List Int) (k : Nat), vs = [.ref a, .int (k : Int)] ∧ SqL K H a (ns.map V.int) ∧ Q (.int (cellA ns k)) H
def tw (c k : Int) : Int :=
  let x := (c * 48271 + k * 69621 + 7) % 2147483647
  let y := (x * x + k * 40692 + 3) % 2147483629
  let z := (y * y + k * 30269 + 5) % 2147483587
  z / 64
def spTwice : Sp := fun vs H Q _ => ∃ (c k : Int), vs = [.int c, .int k] ∧ Q (.int (tw c k)) H
def absI (c : Int) : Int := if c < 0 then -c else c
/-- the law's drawn bytes, turn by turn: what is left of the cell, the bytes so far -/
def byR (c : Int) : Nat → Int × List Int
  | 0 => (absI c, [])
  | i + 1 => if 1000000000000000000 ≤ absI c ∧ 0 < (byR c i).1 then ((byR c i).1 / 256, (byR c i).2 ++ [(byR c i).1 % 256])
      else ((byR c i).1, (byR c i).2 ++ [tw c i % 256])
def byL (c : Int) (n : Nat) : List Int := (byR c n).2
theorem byL_len (c : Int) : ∀ n, (byL c n).length = n
  | 0 => rfl
  | n + 1 => by
    have ih := byL_len c n
    unfold byL at ih ⊢
    unfold byR
    split <;> simp [ih]
theorem byL_mem (c : Int) : ∀ n, ∀ b ∈ byL c n, 0 ≤ b ∧ b < 256
  | 0 => by intro b h; cases h
  | n + 1 => by
    have ih := byL_mem c n
    intro b h
    unfold byL at ih h
    unfold byR at h
    split at h
    all_goals
      rcases List.mem_append.mp h with h | h
      · exact ih b h
      · simp at h; omega
theorem absI_eq (c : Int) : (if c < 0 then -c else c) = absI c := rfl
theorem absI_nn (c : Int) : 0 ≤ absI c := by
  unfold absI
  split <;> omega
def spBytes : Sp := fun vs H Q _ => ∃ (c : Int) (n : Nat), vs = [.int c, .int (n : Int)] ∧ n ≤ 100000 ∧ ∀ p, H p = none → Q (.ref p) (upd H p (.lst ((byL c n).map V.int)))
/-- the answer of a call of the drawn bytes, with a size that is a remainder -/
theorem bytes_mod {c x m : Int} {H : Hp} {Q : VK} {E : XK} (hm : 0 < m) (hm2 : m ≤ 100000) (h : ∀ p, H p = none → Q (.ref p) (upd H p (.lst ((byL c (x % m).toNat).map V.int)))) :
    spBytes [V.int c, V.int (x % m)] H Q E := by
  have h0 := Int.emod_nonneg x (show m ≠ 0 by omega)
  have h1 := Int.emod_lt_of_pos x hm
  exact ⟨c, (x % m).toNat, by rw [Int.toNat_of_nonneg h0], by omega, h⟩
theorem cmul_c {i j : Int} (h1 : -(2 ^ 64) < j) (h2 : j < 2 ^ 64) : CMul i j := .inr ⟨h1, h2⟩
theorem cmul_m {x m y : Int} (h1 : 0 < m) (h2 : m ≤ 2 ^ 64) : CMul (x % m) y := by
  have a := Int.emod_nonneg x (show m ≠ 0 by omega)
  have b := Int.emod_lt_of_pos x h1
  exact .inl ⟨by omega, by omega⟩

section
variable {P : Program} {w : World} {K : PySem.W.Frag} {mg : Str → Option Value} {base : Heap}
theorem ok__law_cell (T : Txt K mg) : FnOk P w K mg base CX0 1 T.f__law_cell T.fd__law_cell ["script", "k"] (spCell K) := by
  refine T.F__law_cell.ok sc__law_cell (fun vs H Q E h => ?_) (fun cdv A outer s H vs Q E hr h => ?_)
  · obtain ⟨a, ns, k, rfl, _⟩ := h
    rfl
  · obtain ⟨a, ns, k, rfl, hS, q⟩ := h
    refine ⟨_, (pss_cons (ps_if (pt_cmpR op_lt (pv 1) (pe_callB call_len_seq (by rfl) T.z_len PySem.boot_len (pa_cons (pv 0) pa_nil)) (nomark _)) (pss_one (ps_ret (pe_callTy call_int1 (by rfl) T.z_int (by decide +kernel) (pa_cons (pe_ix ix_list (pv 0) (pv 1) (fun _ _ => rfl)) pa_nil)))) pss_nil)
      (pss_one (ps_ret pe_int))), ?_⟩
    refine ⟨_, rfl, _, rfl, a, _, rfl, .inl hS, _, _, rfl, rfl, _, rfl, ite2 (fun e => ?_) (fun e => ?_)⟩
    · have e1 := of_decide_eq_true e
      rw [List.length_map] at e1
      have hk : k < ns.length := by omega
      refine ⟨_, rfl, _, rfl, a, _, _, .int (cellA ns k), rfl, rfl, hS, ?_, .inl ⟨_, rfl, q⟩⟩
      refine atI_nat ?_
      rw [List.getElem?_map, List.getElem?_eq_getElem hk]
      simp [cellA, hk]
    · have e1 : ¬ ((k : Int) < ((ns.map V.int).length : Int)) := fun z => e (decide_eq_true z)
      rw [List.length_map] at e1
      have hk : ns.length ≤ k := by omega
      have e0 : cellA ns k = 0 := by simp [cellA, hk]
      rw [e0] at q
      exact q
end

/-! ### spending -/
def cl (c : Int) : Int := if 0 > c then 0 else c
theorem cl_eq (c : Int) : (if 0 > c then 0 else c) = cl c := rfl
theorem cl_nat (n : Nat) : cl (n : Int) = n := by
  unfold cl
  rw [if_neg (by omega)]
def spdL (l c : Int) : Int := if l < cl c then 0 else l - cl c
def spdB (l c : Int) : Bool := !decide (l < cl c)
def spdV (l c : Int) : List V := [.int (spdL l c), .bl (spdB l c)]
def spSpend : Sp := fun vs H Q _ => ∃ l c : Int, vs = [.int l, .int c] ∧ ∀ p, H p = none → Q (.ref p) (upd H p (.tup (spdV l c)))
section
variable {P : Program} {w : World} {K : PySem.W.Frag} {mg : Str → Option Value} {base : Heap}
theorem ok_spend (T : Txt K mg) : FnOk P w K mg base CX0 1 T.f_spend T.fd_spend ["left", "cost"] spSpend := by
  refine T.F_spend.ok sc_spend (fun vs H Q E h => ?_) (fun cdv A outer s H vs Q E hr h => ?_)
  · obtain ⟨l, c, rfl, _⟩ := h
    rfl
  · obtain ⟨l, c, rfl, q⟩ := h
    refine ⟨_, (pss_cons (ps_set (i := 1) sc_spend.nd rfl (Or.inl rfl) (pe_callB (call_max2 rfl) (by rfl) T.z_max (by decide +kernel) (pa_cons (pv 1) (pa_cons pe_int pa_nil))))
      (pss_cons (ps_if (pt_cmpR op_gt (pv 1) (pv 0) (nomark _)) (pss_one (ps_ret (pe_tup (pa_cons pe_int (pa_cons pe_bl pa_nil))))) pss_nil)
      (pss_one (ps_ret (pe_tup (pa_cons (pe_op op_sub (pv 0) (pv 1)) (pa_cons pe_bl pa_nil))))))), ?_⟩
    walk_at "vc"
    rw [cl_eq]
    unfold spdV spdL spdB at q
    refine ite2 (fun e => ?_) (fun e => ?_)
    · have e1 := of_decide_eq_true e
      simp only [if_pos e1, decide_eq_true e1, Bool.not_true] at q
      exact ⟨by decide, q⟩
    · have e1 : ¬ l < cl c := fun z => e (decide_eq_true z)
      simp only [if_neg e1, decide_eq_false e1, Bool.not_false] at q
      exact ⟨by decide, q⟩
end

/-! ### the law's drawing state -/
def Byt (ns : List Int) : Prop := ∀ b ∈ ns, 0 ≤ b ∧ b < 256
def DrawSt (ps : Addr) (H : Hp) : Prop := ∃ x y : Int, H ps = some (.lst [.int x, .int y]) ∧ 0 ≤ x ∧ 0 ≤ y
/-- the state has gone on, all else that stood stands -/
structure Adv (ps : Addr) (H H' : Hp) : Prop where
  st : DrawSt ps H'
  same : ∀ b o, b ≠ ps → H b = some o → H' b = some o
theorem DrawSt.ne {ps q : Addr} {H : Hp} (h : DrawSt ps H) (hq : H q = none) : q ≠ ps := fun e => by
  obtain ⟨x, y, h1, _⟩ := h
  rw [e, h1] at hq
  cases hq
theorem Adv.refl {ps : Addr} {H : Hp} (h : DrawSt ps H) : Adv ps H H := ⟨h, fun _ _ _ e => e⟩
theorem Adv.trans {ps : Addr} {H H1 H2 : Hp} (a : Adv ps H H1) (b : Adv ps H1 H2) : Adv ps H H2 := ⟨b.st, fun c o n e => b.same c o n (a.same c o n e)⟩
theorem Adv.free {ps q : Addr} {H H' : Hp} (a : Adv ps H H') (hq : H' q = none) : H q = none := by
  have n := a.st.ne hq
  cases e : H q with
  | none => rfl
  | some o =>
    rw [a.same q o n e] at hq
    cases hq
theorem Adv.put {ps q : Addr} {H H' : Hp} {o : HO} (a : Adv ps H H') (hn : q ≠ ps) (hq : H q = none) : Adv ps H (upd H' q o) := by
  refine ⟨?_, fun b o' n e => ?_⟩
  · obtain ⟨x, y, h1, h2⟩ := a.st
    exact ⟨x, y, by rw [upd_ne hn.symm]; exact h1, h2⟩
  · rw [upd_ne (ne_of_none e hq)]
    exact a.same b o' n e
theorem Adv.new {ps q : Addr} {H H' : Hp} {o : HO} (a : Adv ps H H') (hq : H' q = none) : Adv ps H (upd H' q o) := a.put (a.st.ne hq) (a.free hq)
def spDraw : Sp := fun vs H Q _ => ∃ (ps : Addr) (many : Int), vs = [.ref ps, .int many] ∧ DrawSt ps H ∧ 0 < many ∧ many < 1073741824 ∧
  ∀ H' v, Adv ps H H' → 0 ≤ v → v < many → Q (.int v) H'
def spState : Sp := fun vs H Q _ => ∃ c salt : Int, vs = [.int c, .int salt] ∧ 0 ≤ salt ∧ ∀ H' p, Same H H' → H p = none → DrawSt p H' → Q (.ref p) H'
section
variable {P : Program} {w : World} {K : PySem.W.Frag} {mg : Str → Option Value} {base : Heap}
theorem ok__law_draw (T : Txt K mg) : FnOk P w K mg base CX0 1 T.f__law_draw T.fd__law_draw ["state", "many"] spDraw := by
  refine T.F__law_draw.ok sc__law_draw (fun vs H Q E h => ?_) (fun cdv A outer s H vs Q E hr h => ?_)
  · obtain ⟨ps, many, rfl, _⟩ := h
    rfl
  · obtain ⟨ps, many, rfl, ⟨x, y, hst, hx, hy⟩, hm, hm2, q⟩ := h
    refine ⟨_, (pss_cons (ps_set (i := 2) sc__law_draw.nd rfl (Or.inl rfl) (pe_ix ix_listH (pv 0) pe_int (fun _ _ => rfl)))
      (pss_cons (ps_if (pt_cmpR op_gt (pv 2) pe_int (nomark _)) (pss_cons (ps_asg (pe_op op_fdiv (pv 2) (pv 1)) (pg_sub (pv 0) pe_int set_list))
      (pss_one (ps_ret (pe_op op_mod (pv 2) (pv 1))))) pss_nil)
      (pss_cons (ps_asg (pe_op op_mod (pe_op op_add (pe_op op_mul (pe_ix ix_listH (pv 0) pe_int (fun _ _ => rfl)) pe_int) pe_int) pe_int) (pg_sub (pv 0) pe_int set_list))
      (pss_one (ps_ret (pe_op op_mod (pe_op op_fdiv (pe_ix ix_listH (pv 0) pe_int (fun _ _ => rfl)) pe_int) (pv 1))))))), ?_⟩
    walk_at "vc"
    simp only [hst]
    walk_at "vc"
    have ad : ∀ x' y' : Int, 0 ≤ x' → 0 ≤ y' → Adv ps H (upd H ps (.lst [.int x', .int y'])) := fun x' y' h1 h2 => ⟨⟨x', y', upd_same, h1, h2⟩, fun b o n e => by rw [upd_ne n]; exact e⟩
    have m1 := mod_in y hm
    refine ite2 (fun e => ?_) (fun e => ?_)
    · refine ⟨⟨hm, hm2⟩, 1, ixN_in (n := 2) (k := 1) (by decide) (by decide), hm, ?_⟩
      exact q _ _ (ad _ _ hx (Int.ediv_nonneg hy (by omega))) m1.1 m1.2
    · have m2 := mod_in (x * 48271 + 11) (show (0 : Int) < 2147483647 by decide)
      have m3 := mod_in ((x * 48271 + 11) % 2147483647 / 7) hm
      refine ⟨cmul_c (by decide) (by decide), 0, ixN_in (n := 2) (k := 0) (by decide) (by decide), _, atI_c0 _ _, _, rfl, ⟨by decide, by decide⟩, hm, ?_⟩
      exact q _ _ (ad _ _ m2.1 hy) m3.1 m3.2
theorem ok__law_state (T : Txt K mg) : FnOk P w K mg base CX0 1 T.f__law_state T.fd__law_state ["cell", "salt"] spState := by
  refine T.F__law_state.ok sc__law_state (fun vs H Q E h => ?_) (fun cdv A outer s H vs Q E hr h => ?_)
  · obtain ⟨c, salt, rfl, _⟩ := h
    rfl
  · obtain ⟨c, salt, rfl, hs, q⟩ := h
    refine ⟨_, (pss_cons (ps_set (i := 2) sc__law_state.nd rfl (Or.inl rfl) (pe_callB call_abs (by rfl) T.z_abs (by decide +kernel) (pa_cons (pv 0) pa_nil)))
      (pss_cons (ps_if (pt_cmpR op_ge (pv 2) (pe_op op_pow pe_int pe_int) (nomark _)) (pss_one (ps_ret (pe_lst (pa_cons (pe_op op_add (pe_op op_mod (pv 2) pe_int) (pv 1)) (pa_cons (pe_op op_sub (pv 2) (pe_op op_pow pe_int pe_int)) pa_nil))))) pss_nil)
      (pss_one (ps_ret (pe_lst (pa_cons (pe_op op_mod (pe_op op_add (pe_op op_add (pe_op op_mul (pv 2) pe_int) (pe_op op_mul (pv 1) pe_int)) pe_int) pe_int) (pa_cons pe_int pa_nil))))))), ?_⟩
    walk_at "vc"
    rw [absI_eq]
    have hc := absI_nn c
    generalize absI c = r at hc ⊢
    have ad : ∀ (p : Addr) (x' y' : Int), H p = none → 0 ≤ x' → 0 ≤ y' → Q (V.ref p) (upd H p (.lst [.int x', .int y'])) := fun p x' y' h0 h1 h2 => q _ p (same_upd h0) h0 ⟨x', y', upd_same, h1, h2⟩
    refine ⟨⟨by decide, by decide, by decide⟩, ite2 (fun e => ⟨⟨by decide, by decide, by decide⟩, by decide, fun p hp => ?_⟩) (fun e => ⟨cmul_c (by decide) (by decide), cmul_c (by decide) (by decide), by decide, fun p hp => ?_⟩)⟩
    · have e1 := of_decide_eq_true e
      have m2 := mod_in r (show (0 : Int) < 2147483629 by decide)
      exact ad p _ _ hp (by omega) (by omega)
    · have m2 := mod_in (r * 48271 + salt * 69621 + 12345) (show (0 : Int) < 2147483647 by decide)
      exact ad p _ _ hp m2.1 (by decide)
end

/-! ### runs: what the program's functions give, as functions of the list -/
def gN (ns : List Int) (i : Nat) : Int := ns.getD i 0
def sl (ns : List Int) (i j : Nat) : List Int := (ns.drop i).take (j - i)
theorem at_g {ns : List Int} {i : Nat} (h : i < ns.length) : atI (ns.map V.int) (i : Int) = some (V.int (gN ns i)) := by
  refine atI_nat ?_
  rw [List.getElem?_map, List.getElem?_eq_getElem h]
  simp [gN, h]
theorem at_g' {ns : List Int} {k : Int} {i : Nat} (e : k = (i : Int)) (h : i < ns.length) : atI (ns.map V.int) k = some (V.int (gN ns i)) := by
  rw [e]
  exact at_g h
theorem gN_byt {ns : List Int} (hB : Byt ns) (i : Nat) : 0 ≤ gN ns i ∧ gN ns i < 256 := by
  unfold gN
  rw [List.getD_eq_getElem?_getD]
  cases e : ns[i]? with
  | none => exact ⟨by decide, by decide⟩
  | some b => exact hB b (List.mem_of_getElem? e)
theorem cut_sl {ns : List Int} {i j : Nat} {a b : Int} (ea : a = (i : Int)) (eb : b = (j : Int)) : cutV (ns.map V.int) (some a) (some b) = (sl ns i j).map V.int := by
  subst ea eb
  unfold cutV sl
  rw [HT.sIx_nat, HT.sIx_nat, List.length_map, ← List.map_drop, ← List.map_take]
  congr 1
  by_cases h : i < ns.length
  · rw [Nat.min_eq_left (Nat.le_of_lt h)]
    by_cases h2 : j ≤ ns.length
    · rw [Nat.min_eq_left h2]
    · rw [Nat.min_eq_right (by omega), List.take_of_length_le (by rw [List.length_drop]; exact Nat.le_refl _), List.take_of_length_le (by rw [List.length_drop]; omega)]
  · rw [List.drop_eq_nil_of_le (by omega), List.drop_eq_nil_of_le (by omega), List.take_nil, List.take_nil]
theorem sl_len (ns : List Int) (i j : Nat) : (sl ns i j).length = min (j - i) (ns.length - i) := by
  unfold sl
  rw [List.length_take, List.length_drop]
theorem sl_byt {ns : List Int} (h : Byt ns) (i j : Nat) : Byt (sl ns i j) := fun b hb => h b (List.mem_of_mem_drop (List.mem_of_mem_take hb))
theorem byt_app {x y : List Int} (hx : Byt x) (hy : Byt y) : Byt (x ++ y) := fun b hb => by
  rcases List.mem_append.mp hb with h | h
  · exact hx b h
  · exact hy b h
/-- the bytes of a piece, and the place behind it -/
def pcB (ns : List Int) (at_ : Nat) : List Int :=
  if gN ns at_ = 128 then [] else if gN ns at_ < 128 then sl ns (at_ + 1) (at_ + (gN ns at_).toNat + 2) else (List.replicate (257 - gN ns at_).toNat (sl ns (at_ + 1) (at_ + 2))).flatten
def pcE (ns : List Int) (at_ : Nat) : Nat :=
  if gN ns at_ = 128 then ns.length else if gN ns at_ < 128 then at_ + (gN ns at_).toNat + 2 else at_ + 2
/-- reading: what is given, and what is left -/
def rd (ns : List Int) : Nat → Nat → Int → List Int → List Int × Int
  | 0, _, left, found => (found, left)
  | k + 1, at_, left, found => if at_ < ns.length then (if gN ns at_ = 128 then (found, left) else if left < (pcB ns at_).length then (found, 0) else rd ns k (pcE ns at_) (left - (pcB ns at_).length) (found ++ pcB ns at_)) else (found, left)
def frR (ns : List Int) (left : Int) : List Int × Int := if left < ns.length then ([], 0) else rd ns ns.length 0 (left - ns.length) []
def three (ns : List Int) (i : Nat) : Bool := decide (i + 3 ≤ ns.length) && decide (gN ns i = gN ns (i + 1)) && decide (gN ns (i + 1) = gN ns (i + 2))
def cE (ns : List Int) (i : Nat) : Nat → Nat → Nat
  | 0, m => m
  | f + 1, m => if m < 128 ∧ i + m < ns.length ∧ gN ns (i + m) = gN ns i then cE ns i f (m + 1) else m
def cU (ns : List Int) (i : Nat) : Nat → Nat → Nat
  | 0, m => m
  | f + 1, m => if m < 128 ∧ i + m < ns.length ∧ three ns (i + m) = false then cU ns i f (m + 1) else m
def nE (ns : List Int) (i : Nat) : Nat := cE ns i 128 1
def nU (ns : List Int) (i : Nat) : Nat := cU ns i 128 1
def toF (ns : List Int) : Nat → Nat → List Int
  | 0, _ => [128]
  | f + 1, i => if i < ns.length then (if three ns i = true then [257 - (nE ns i : Int), gN ns i] ++ toF ns f (i + nE ns i) else (((sl ns i (i + nU ns i)).length : Int) - 1) :: sl ns i (i + nU ns i) ++ toF ns f (i + nU ns i)) else [128]
def toR (ns : List Int) : List Int := toF ns ns.length 0
theorem cE_rng (ns : List Int) (i : Nat) : ∀ f m, 1 ≤ m → m ≤ 128 → i + m ≤ ns.length → m ≤ cE ns i f m ∧ cE ns i f m ≤ 128 ∧ i + cE ns i f m ≤ ns.length
  | 0, m, h1, h2, h3 => ⟨Nat.le_refl _, h2, h3⟩
  | f + 1, m, h1, h2, h3 => by
    unfold cE
    split
    · have := cE_rng ns i f (m + 1) (by omega) (by omega) (by omega)
      omega
    · exact ⟨Nat.le_refl _, h2, h3⟩
theorem cU_rng (ns : List Int) (i : Nat) : ∀ f m, 1 ≤ m → m ≤ 128 → i + m ≤ ns.length → m ≤ cU ns i f m ∧ cU ns i f m ≤ 128 ∧ i + cU ns i f m ≤ ns.length
  | 0, m, h1, h2, h3 => ⟨Nat.le_refl _, h2, h3⟩
  | f + 1, m, h1, h2, h3 => by
    unfold cU
    split
    · have := cU_rng ns i f (m + 1) (by omega) (by omega) (by omega)
      omega
    · exact ⟨Nat.le_refl _, h2, h3⟩
theorem three_lt {ns : List Int} {i : Nat} (h : three ns i = true) : i + 3 ≤ ns.length ∧ gN ns i = gN ns (i + 1) ∧ gN ns (i + 1) = gN ns (i + 2) := by
  unfold three at h
  rw [Bool.and_eq_true, Bool.and_eq_true] at h
  exact ⟨of_decide_eq_true h.1.1, of_decide_eq_true h.1.2, of_decide_eq_true h.2⟩
theorem nE_three {ns : List Int} {i : Nat} (h : three ns i = true) : 3 ≤ nE ns i ∧ nE ns i ≤ 128 ∧ i + nE ns i ≤ ns.length := by
  obtain ⟨h1, h2, h3⟩ := three_lt h
  unfold nE
  rw [cE, if_pos ⟨by decide, by omega, h2.symm⟩, cE, if_pos ⟨by decide, by omega, by show gN ns (i + 2) = _; rw [← h3, ← h2]⟩]
  exact cE_rng ns i 126 3 (by decide) (by decide) h1
theorem nU_rng {ns : List Int} {i : Nat} (h : i < ns.length) : 1 ≤ nU ns i ∧ nU ns i ≤ 128 ∧ i + nU ns i ≤ ns.length := cU_rng ns i 128 1 (by decide) (by decide) (by omega)
section
variable {P : Program} {w : World} {K : PySem.W.Frag} {mg : Str → Option Value} {base : Heap}
def spPlain : Sp := fun vs H Q _ => ∃ (a : Addr) (ns : List Int), vs = [.ref a] ∧ H a = some (.lst (ns.map V.int)) ∧ ns ≠ [] ∧ ns.length ≤ 100000 ∧ ∀ H' p, Same H H' → H p = none → H' p = some (.lst (List.map V.int (((ns.length : Int) - 1) :: ns))) → Q (.ref p) H'
theorem ok_plain_piece (T : Txt K mg) : FnOk P w K mg base CX0 1 T.f_plain_piece T.fd_plain_piece ["data"] spPlain := by
  refine T.F_plain_piece.ok sc_plain_piece (fun vs H Q E h => ?_) (fun cdv A outer s H vs Q E hr h => ?_)
  · obtain ⟨a, ns, rfl, _⟩ := h
    rfl
  · obtain ⟨a, ns, rfl, ha, hne, hn, q⟩ := h
    refine ⟨_, (pss_cons (ps_if (pt_cmpR op_eq (pe_callB call_lenH (by rfl) T.z_len PySem.boot_len (pa_cons (pv 0) pa_nil)) pe_int (nomark _)) (pss_one (ps_ret (pe_lst pa_nil))) pss_nil)
      (pss_one (ps_ret (pe_op op_cat (pe_lst (pa_cons (pe_op op_sub (pe_callB call_lenH (by rfl) T.z_len PySem.boot_len (pa_cons (pv 0) pa_nil)) pe_int) pa_nil)) (pv 0))))), ?_⟩
    walk_at "vc"
    simp only [ha]
    walk_at "vc"
    rw [List.length_map]
    have hl : 0 < ns.length := List.length_pos_iff.mpr hne
    rw [decide_eq_false (show ¬ ((ns.length : Int) = 0) by omega)]
    refine iteF ⟨by decide, fun p hp => ?_⟩
    have s1 := same_upd (o := .lst [V.int ((ns.length : Int) - 1)]) hp
    refine ⟨_, s1 _ _ ha, by rw [List.length_map]; exact Nat.le_trans (show 1 + ns.length ≤ 200000 by omega) (by decide), fun p1 hp1 => ?_⟩
    exact q _ p1 (s1.trans (same_upd hp1)) (s1.free hp1) upd_same
/-- a piece: a pair of its bytes and the place behind -/
def spPiece (ok : List Int → Nat → Prop) (f : List Int → Nat → List Int) (g : List Int → Nat → Nat) : Sp := fun vs H Q _ => ∃ (a : Addr) (ns : List Int) (i : Nat) (rest : List V), vs = .ref a :: .int (i : Int) :: rest ∧ H a = some (.lst (ns.map V.int)) ∧ Byt ns ∧ ns.length ≤ 100000 ∧ i < ns.length ∧ ok ns i ∧
  ∀ H' p q, Same H H' → H' p = some (.tup [.ref q, .int ((g ns i : Nat) : Int)]) → H' q = some (.lst ((f ns i).map V.int)) → Q (.ref p) H'
theorem ok_read_plain_piece (T : Txt K mg) : FnOk P w K mg base CX0 1 T.f_read_plain_piece T.fd_read_plain_piece ["data", "at"] (fun vs H Q E => vs.length = 2 ∧ spPiece (fun ns i => gN ns i < 128) pcB pcE vs H Q E) := by
  refine T.F_read_plain_piece.ok sc_read_plain_piece (fun vs H Q E h => h.1) (fun cdv A outer s H vs Q E hr h => ?_)
  · obtain ⟨hvl, a, ns, i, rest, rfl, ha, hB, hn, hi, hlt, q⟩ := h
    have hrn : rest = [] := List.eq_nil_of_length_eq_zero (by simpa using hvl)
    subst hrn
    refine ⟨_, (pss_cons (ps_set (i := 2) sc_read_plain_piece.nd rfl (Or.inl rfl) (pe_op op_add (pe_op op_add (pv 1) (pe_ix ix_listH (pv 0) (pv 1) (fun _ _ => rfl))) pe_int))
      (pss_one (ps_ret (pe_tup (pa_cons (pe_slice sl_listH (pv 0) (po_some (pe_op op_add (pv 1) pe_int)) (po_some (pv 2))) (pa_cons (pv 2) pa_nil)))))), ?_⟩
    walk_at "vc"
    simp only [ha]
    walk_at "vc"
    have hb := gN_byt hB i
    refine ⟨_, at_g hi, _, rfl, fun p hp => ⟨by decide, fun p1 hp1 => ?_⟩⟩
    rw [cut_sl (i := i + 1) (j := i + (gN ns i).toNat + 2) (by omega) (by omega)] at hp1 ⊢
    have n1 : p ≠ p1 := ne_of_none upd_same hp1
    have eB : pcB ns i = sl ns (i + 1) (i + (gN ns i).toNat + 2) := by
      unfold pcB
      rw [if_neg (by omega), if_pos hlt]
    have eE : ((pcE ns i : Nat) : Int) = (i : Int) + gN ns i + 2 := by
      unfold pcE
      rw [if_neg (by omega), if_pos hlt]
      omega
    refine q _ p1 p ((same_upd hp).trans (same_upd hp1)) ?_ ?_
    · rw [upd_same, eE]
    · rw [upd_ne n1, upd_same, eB]
theorem ok__run_at (T : Txt K mg) : FnOk P w K mg base CX0 2 T.f__run_at T.fd__run_at ["data", "at", "_"] (fun vs H Q E => vs.length = 3 ∧ spPiece (fun _ _ => True) pcB pcE vs H Q E) := by
  refine T.F__run_at.ok sc__run_at (fun vs H Q E h => h.1) (fun cdv A outer s H vs Q E hr h => ?_)
  · obtain ⟨hvl, a, ns, i, rest, rfl, ha, hB, hn, hi, _, q⟩ := h
    obtain ⟨x, rfl⟩ : ∃ x, rest = [x] := by
      match rest, hvl with
      | [x], _ => exact ⟨x, rfl⟩
    refine ⟨_, (pss_cons (ps_set (i := 3) sc__run_at.nd rfl (Or.inl rfl) (pe_ix ix_listH (pv 0) (pv 1) (fun _ _ => rfl)))
      (pss_cons (ps_if (pt_cmpR op_eq (pv 3) (pe_glob (v := .int 128) (by rfl) T.c__END ⟨_, rfl⟩) (nomark _)) (pss_one (ps_ret (pe_tup (pa_cons (pe_lst pa_nil) (pa_cons (pe_callB call_lenH (by rfl) T.z_len PySem.boot_len (pa_cons (pv 0) pa_nil)) pa_nil))))) pss_nil)
      (pss_cons (ps_if (pt_cmpR op_lt (pv 3) (pe_glob (v := .int 128) (by rfl) T.c__END ⟨_, rfl⟩) (nomark _)) (pss_one (ps_ret (pe_call (ok_read_plain_piece T) hr (by rfl) T.g_read_plain_piece T.F_read_plain_piece.kp T.b_read_plain_piece .nil pass0 (pa_cons (pv 0) (pa_cons (pv 1) pa_nil))))) pss_nil)
      (pss_one (ps_ret (pe_tup (pa_cons (pe_op op_rep (pe_slice sl_listH (pv 0) (po_some (pe_op op_add (pv 1) pe_int)) (po_some (pe_op op_add (pv 1) pe_int))) (pe_op op_sub pe_int (pv 3))) (pa_cons (pe_op op_add (pv 1) pe_int) pa_nil)))))))), ?_⟩
    walk_at "vc"
    simp only [ha]
    walk_at "vc"
    have hb := gN_byt hB i
    refine ⟨_, at_g hi, rfl, ite2 (fun e => ?_) (fun e => ?_)⟩
    · have e1 : gN ns i = 128 := V.int.inj (of_decide_eq_true e)
      intro p hp
      have s1 := same_upd (o := .lst []) hp
      refine ⟨_, s1 _ _ ha, by decide, fun p1 hp1 => ?_⟩
      have n1 : p ≠ p1 := ne_of_none upd_same hp1
      refine q _ p1 p (s1.trans (same_upd hp1)) ?_ ?_
      · rw [upd_same, List.length_map]
        unfold pcE
        rw [if_pos e1]
      · rw [upd_ne n1, upd_same]
        unfold pcB
        rw [if_pos e1]
        rfl
    have e1 : gN ns i ≠ 128 := fun z => e (decide_eq_true (by rw [z]))
    refine ⟨_, rfl, ite2 (fun e2 => ?_) (fun e2 => ?_)⟩
    · exact ⟨a, ns, i, [], rfl, ha, hB, hn, hi, of_decide_eq_true e2, q⟩
    have e3 : ¬ gN ns i < 128 := fun z => e2 (decide_eq_true z)
    intro p hp
    rw [cut_sl (i := i + 1) (j := i + 2) (by omega) (by omega)]
    refine ⟨_, rfl, by omega, by omega, ?_, fun p1 hp1 => ⟨by decide, fun p2 hp2 => ?_⟩⟩
    · rw [List.length_map, sl_len]
      exact Nat.le_trans (Nat.mul_le_mul (show min (i + 2 - (i + 1)) (ns.length - (i + 1)) ≤ 1 by omega) (show (257 - gN ns i).toNat ≤ 256 by omega)) (by decide)
    have n2 : p1 ≠ p2 := ne_of_none upd_same hp2
    refine q _ p2 p1 (((same_upd hp).trans (same_upd hp1)).trans (same_upd hp2)) ?_ ?_
    · rw [upd_same]
      unfold pcE
      rw [if_neg e1, if_neg e3]
      rfl
    · rw [upd_ne n2, upd_same]
      unfold pcB
      rw [if_neg e1, if_neg e3, List.map_flatten, List.map_replicate]
theorem pcB_len {ns : List Int} {i : Nat} (hB : Byt ns) (h : i < ns.length) : (pcB ns i).length ≤ 128 := by
  have hb := gN_byt hB i
  unfold pcB
  split
  · exact Nat.zero_le _
  · split
    · rw [sl_len]
      omega
    · rw [List.length_flatten, List.map_replicate, List.sum_replicate_nat, sl_len]
      exact Nat.le_trans (Nat.mul_le_mul (show (257 - gN ns i).toNat ≤ 128 by omega) (show min (i + 2 - (i + 1)) (ns.length - (i + 1)) ≤ 1 by omega)) (by decide)
theorem pcE_rng {ns : List Int} {i : Nat} (hB : Byt ns) (h : i < ns.length) : i < pcE ns i ∧ pcE ns i ≤ ns.length + 150 := by
  have hb := gN_byt hB i
  unfold pcE
  split
  · omega
  · split <;> omega
/-- the reader's promise -/
def spRead (fr : Addr) : Sp := fun vs H Q _ => ∃ (a : Addr) (ns : List Int) (left : Int), vs = [.ref a, .int left, .ref fr] ∧ H a = some (.lst (ns.map V.int)) ∧ Byt ns ∧ ns.length ≤ 10000 ∧ 0 ≤ left ∧
  ∀ H' p q, Same H H' → H p = none → H q = none → p ≠ q → H' p = some (.tup [.ref q, .int (frR ns left).2]) → H' q = some (.lst ((frR ns left).1.map V.int)) → Q (.ref p) H'
def spFrom : Sp := fun vs H Q _ => ∃ (a : Addr) (ns : List Int) (left : Int), vs = [.ref a, .int left] ∧ H a = some (.lst (ns.map V.int)) ∧ Byt ns ∧ ns.length ≤ 10000 ∧ 0 ≤ left ∧
  ∀ H' p q, Same H H' → H p = none → H q = none → p ≠ q → H' p = some (.tup [.ref q, .int (frR ns left).2]) → H' q = some (.lst ((frR ns left).1.map V.int)) → Q (.ref p) H'
theorem ok_read_pieces (T : Txt K mg) : FnOk P w K mg base CX0 3 T.f_read_pieces T.fd_read_pieces ["data", "left", "piece_at"] (spRead T.f__run_at) := by
  refine T.F_read_pieces.ok sc_read_pieces (fun vs H Q E h => ?_) (fun cdv A outer s H vs Q E hr h => ?_)
  · obtain ⟨a, ns, left, rfl, _⟩ := h
    rfl
  · obtain ⟨a, ns, left, rfl, ha, hB, hn, hl, q⟩ := h
    refine ⟨_, (pss_cons (ps_asg (pe_call (ok_spend T) (hr.mono (by decide)) (by rfl) T.g_spend T.F_spend.kp T.b_spend .nil pass0 (pa_cons (pv 1) (pa_cons (pe_callB call_lenH (by rfl) T.z_len PySem.boot_len (pa_cons (pv 0) pa_nil)) pa_nil))) (pg_tup (by rfl) (pgs_cons (pg_name (i := 1) sc_read_pieces.nd rfl (Or.inl rfl)) (pgs_cons (pg_name (i := 3) sc_read_pieces.nd rfl (Or.inl rfl)) pgs_nil))))
      (pss_cons (ps_set (i := 4) sc_read_pieces.nd rfl (Or.inl rfl) (pe_lst pa_nil))
      (pss_cons (ps_set (i := 5) sc_read_pieces.nd rfl (Or.inl rfl) pe_int)
      (pss_cons (ps_while PassesOwn.never (PW.pt (pw_and (pt_val (pv 3)) (pw_and1 (pt_cmpR op_lt (pv 5) (pe_callB call_lenH (by rfl) T.z_len PySem.boot_len (pa_cons (pv 0) pa_nil)) (nomark _))))) (pss_cons (ps_asg (pe_callL (i := 2) (ok__run_at T) hr rfl (Or.inl rfl) T.F__run_at.kp T.b__run_at .nil pass0 (pa_cons (pv 0) (pa_cons (pv 5) (pa_cons (pv 4) pa_nil)))) (pg_tup (by rfl) (pgs_cons (pg_name (i := 6) sc_read_pieces.nd rfl (Or.inl rfl)) (pgs_cons (pg_name (i := 5) sc_read_pieces.nd rfl (Or.inl rfl)) pgs_nil))))
      (pss_cons (ps_asg (pe_call (ok_spend T) (hr.mono (by decide)) (by rfl) T.g_spend T.F_spend.kp T.b_spend .nil pass0 (pa_cons (pv 1) (pa_cons (pe_callB call_lenH (by rfl) T.z_len PySem.boot_len (pa_cons (pv 6) pa_nil)) pa_nil))) (pg_tup (by rfl) (pgs_cons (pg_name (i := 1) sc_read_pieces.nd rfl (Or.inl rfl)) (pgs_cons (pg_name (i := 3) sc_read_pieces.nd rfl (Or.inl rfl)) pgs_nil))))
      (pss_one (ps_if (pt_val (pv 3)) (pss_one (ps_expr (pe_bm PySem.F.plainAttrs_list PySem.F.slot_list_extend PySem.F.type_list_extend mt_extend (pv 4) (pa_cons (pv 6) pa_nil)))) pss_nil)))))
      (pss_one (ps_ret (pe_tup (pa_cons (pv 4) (pa_cons (pv 1) pa_nil))))))))), ?_⟩
    walk_at "vc"
    refine ⟨_, ha, left, _, rfl, fun p hp => ?_⟩
    rw [List.length_map]
    refine ⟨p, rfl, _, .inl (.inl upd_same), rfl, _, _, rfl, _, _, rfl, rfl, ?_⟩
    have s1 : Same H (upd H p (.tup (spdV left (ns.length : Int)))) := same_upd hp
    intro pf hpf
    have s2 := s1.trans (same_upd (o := .lst []) hpf)
    have gf : upd (upd H p (.tup (spdV left (ns.length : Int)))) pf (.lst []) pf = some (.lst (List.map V.int [])) := upd_same
    have hpf0 := s1.free hpf
    generalize upd (upd H p (.tup (spdV left (ns.length : Int)))) pf (.lst []) = H1 at s2 gf ⊢
    refine wh_by (fun m σ H' => ∃ (lf : Int) (en : Bool) (fs : List Int) (i : Nat) (pv : Option V), σ = [some (.ref a), some (.int lf), some (.ref T.f__run_at), some (.bl en), some (.ref pf), some (.int (i : Int)), pv] ∧ Same H H' ∧ H' pf = some (.lst (List.map V.int fs)) ∧ fs.length ≤ 128 * i ∧ i ≤ ns.length + 200 ∧ 0 ≤ lf ∧
        (en = true → ∃ k, ns.length ≤ i + k ∧ rd ns k i lf fs = frR ns left) ∧ (en = false → (fs, (0 : Int)) = frR ns left ∧ lf = 0) ∧ m = (if en = true then ns.length + 1 - i else 0)) _ ⟨spdL left (ns.length : Int), spdB left (ns.length : Int), [], 0, none, rfl, s2, gf, Nat.le_refl _, by omega, ?_, ?_, ?_, rfl⟩ ?_
    · unfold spdL
      rw [cl_nat]
      split <;> omega
    · intro e
      have e1 : ¬ left < ns.length := by
        unfold spdB at e
        rw [cl_nat] at e
        simpa using e
      refine ⟨ns.length, by omega, ?_⟩
      unfold frR spdL
      rw [cl_nat, if_neg e1, if_neg e1]
    · intro e
      have e1 : left < ns.length := by
        unfold spdB at e
        rw [cl_nat] at e
        simpa using e
      unfold frR spdL
      rw [cl_nat, if_pos e1, if_pos e1]
      exact ⟨rfl, rfl⟩
    rintro m σ H' ⟨lf, en, fs, i, pv, rfl, sm, gf', hfl, hi, hlf, hT, hF, rfl⟩
    walk_at "vc"
    have ha' := sm _ _ ha
    -- what follows the loop
    have out : ∀ (H2 : Hp), Same H H2 → H2 pf = some (.lst (List.map V.int fs)) → (fs, lf) = frR ns left → 2 ≤ sizeLine ∧ ∀ (p : Addr), H2 p = none → Q (V.ref p) (upd H2 p (.tup [V.ref pf, V.int lf])) := fun H2 sm2 g2 eR => by
      refine ⟨by decide, fun r hr' => ?_⟩
      have n1 : pf ≠ r := ne_of_none g2 hr'
      refine q _ r pf (sm2.trans (same_upd hr')) (sm2.free hr') hpf0 n1.symm ?_ ?_
      · rw [upd_same, ← eR]
      · rw [upd_ne n1, ← eR]
        exact g2
    cases en with
    | false =>
      refine iteF ?_
      obtain ⟨h1, h2⟩ := hF rfl
      exact out H' sm gf' (by rw [h2]; exact h1)
    | true =>
      refine iteT ?_
      obtain ⟨k, hk, hR⟩ := hT rfl
      walk_at "vc"
      refine ⟨_, ha', ?_⟩
      rw [List.length_map]
      refine ite2 (fun e => ?_) (fun e => ?_)
      · have e1 : i < ns.length := by have := of_decide_eq_true e; omega
        refine ⟨_, fun _ _ h => h, ?_⟩
        have hap : a ≠ pf := fun z => by
          rw [z, hpf0] at ha
          cases ha
        refine ⟨a, ns, i, [.ref pf], rfl, ha', hB, by omega, e1, True.intro, fun H2 p1 q1 sm2 g1 g2 => ?_⟩
        refine ⟨p1, rfl, _, .inl (.inl g1), rfl, _, _, rfl, _, _, rfl, rfl, q1, rfl, _, g2, ?_⟩
        rw [List.length_map]
        refine ⟨lf, _, rfl, fun p2 hp2 => ?_⟩
        refine ⟨p2, rfl, _, .inl (.inl upd_same), rfl, _, _, rfl, _, _, rfl, rfl, _, rfl, ?_⟩
        have gf2 := sm2 _ _ gf'
        have u1 := same_upd (o := .tup (spdV lf ((pcB ns i).length : Int))) hp2
        have gf3 := u1 _ _ gf2
        have gq3 := u1 _ _ g2
        have sm3 := (sm.trans sm2).trans u1
        generalize upd H2 p2 (.tup (spdV lf ((pcB ns i).length : Int))) = H3 at gf3 gq3 sm3 ⊢
        have hpl := pcB_len hB e1
        have hpe := pcE_rng hB e1
        have cln : cl ((pcB ns i).length : Int) = ((pcB ns i).length : Int) := cl_nat _
        refine ite2 (fun e2 => ?_) (fun e2 => ?_)
        · have e3 : ¬ lf < (pcB ns i).length := by
            unfold spdB at e2
            rw [cln] at e2
            simpa using e2
          refine ⟨.inl ⟨rfl, _, .inl (.inl gf3)⟩, q1, rfl, _, gf3, _, gq3, ?_, ?_⟩
          · rw [List.length_map, List.length_map]
            exact Nat.le_trans (show fs.length + (pcB ns i).length ≤ 2000000 by omega) (by decide)
          have eL : spdL lf ((pcB ns i).length : Int) = lf - (pcB ns i).length := by
            unfold spdL
            rw [cln, if_neg e3]
          refine ⟨_, ?_, spdL lf ((pcB ns i).length : Int), spdB lf ((pcB ns i).length : Int), fs ++ pcB ns i, pcE ns i, ⟨_, rfl⟩, same_upd2 sm3 hpf0, by rw [upd_same, List.map_append], by rw [List.length_append]; omega, by omega, by rw [eL]; omega, fun _ => ?_, fun z => ?_, rfl⟩
          · rw [e2, if_pos rfl]
            omega
          · have e4 : k ≠ 0 := by omega
            obtain ⟨k', rfl⟩ : ∃ k', k = k' + 1 := ⟨k - 1, by omega⟩
            rw [rd, if_pos e1] at hR
            by_cases e5 : gN ns i = 128
            · rw [if_pos e5] at hR
              have eB : pcB ns i = [] := by unfold pcB; rw [if_pos e5]
              have eE : pcE ns i = ns.length := by unfold pcE; rw [if_pos e5]
              refine ⟨0, by omega, ?_⟩
              rw [rd, eL, eB, List.append_nil, ← hR]
              simp
            · rw [if_neg e5, if_neg e3] at hR
              exact ⟨k', by omega, by rw [eL]; exact hR⟩
          · rw [e2] at z
            cases z
        · have e3 : lf < (pcB ns i).length := by
            unfold spdB at e2
            rw [cln] at e2
            simpa using e2
          have e6 : spdB lf ((pcB ns i).length : Int) = false := by simpa using e2
          have eL : spdL lf ((pcB ns i).length : Int) = 0 := by
            unfold spdL
            rw [cln, if_pos e3]
          refine ⟨_, ?_, spdL lf ((pcB ns i).length : Int), spdB lf ((pcB ns i).length : Int), fs, pcE ns i, ⟨_, rfl⟩, sm3, gf3, by omega, by omega, by rw [eL]; omega, fun z => ?_, fun _ => ⟨?_, eL⟩, rfl⟩
          · rw [e6, if_neg (by decide)]
            omega
          · rw [e6] at z
            cases z
          · obtain ⟨k', rfl⟩ : ∃ k', k = k' + 1 := ⟨k - 1, by omega⟩
            rw [rd, if_pos e1] at hR
            have e5 : gN ns i ≠ 128 := fun z => by
              have eB : pcB ns i = [] := by unfold pcB; rw [if_pos z]
              rw [eB] at e3
              simp at e3
              omega
            rw [if_neg e5, if_pos e3] at hR
            exact hR
      · have e1 : ¬ i < ns.length := fun z => e (decide_eq_true (by omega))
        refine out H' sm gf' ?_
        rw [← hR]
        cases k with
        | zero => rfl
        | succ k => rw [rd, if_neg e1]
theorem ok_from_runs (T : Txt K mg) : FnOk P w K mg base CX0 4 T.f_from_runs T.fd_from_runs ["data", "left"] spFrom := by
  refine T.F_from_runs.ok sc_from_runs (fun vs H Q E h => ?_) (fun cdv A outer s H vs Q E hr h => ?_)
  · obtain ⟨a, ns, left, rfl, _⟩ := h
    rfl
  · obtain ⟨a, ns, left, rfl, ha, hB, hn, hl, q⟩ := h
    refine ⟨_, (pss_one (ps_ret (pe_call (ok_read_pieces T) hr (by rfl) T.g_read_pieces T.F_read_pieces.kp T.b_read_pieces .nil pass0 (pa_cons (pv 0) (pa_cons (pv 1) (pa_cons (pe_glob (v := .ref T.f__run_at) (by rfl) T.g__run_at rfl) pa_nil)))))), ?_⟩
    walk_at "vc"
    exact ⟨a, ns, left, rfl, ha, hB, hn, hl, q⟩
end
section
variable {P : Program} {w : World} {K : PySem.W.Frag} {mg : Str → Option Value} {base : Heap}
def spThree : Sp := fun vs H Q _ => ∃ (a : Addr) (ns : List Int) (i : Nat), vs = [.ref a, .int (i : Int)] ∧ H a = some (.lst (ns.map V.int)) ∧ Q (.bl (three ns i)) H
theorem ok__three_equal (T : Txt K mg) : FnOk P w K mg base CX0 1 T.f__three_equal T.fd__three_equal ["data", "at"] spThree := by
  refine T.F__three_equal.ok sc__three_equal (fun vs H Q E h => ?_) (fun cdv A outer s H vs Q E hr h => ?_)
  · obtain ⟨a, ns, i, rfl, _⟩ := h
    rfl
  · obtain ⟨a, ns, i, rfl, ha, q⟩ := h
    refine ⟨_, (pss_one (ps_ret (pe_and (pe_cmpR op_le (pe_op op_add (pv 1) pe_int) (pe_callB call_lenH (by rfl) T.z_len PySem.boot_len (pa_cons (pv 0) pa_nil)) (nomark _)) (pe_one (pe_chain op_eq op_eq (pe_ix ix_listH (pv 0) (pv 1) (fun _ _ => rfl)) (pe_ix ix_listH (pv 0) (pe_op op_add (pv 1) pe_int) (fun _ _ => rfl)) (pe_ix ix_listH (pv 0) (pe_op op_add (pv 1) pe_int) (fun _ _ => rfl))))))), ?_⟩
    walk_at "vc"
    simp only [ha]
    walk_at "vc"
    rw [List.length_map]
    refine ite2 (fun e => ?_) (fun e => ?_)
    · have e1 : i + 3 ≤ ns.length := by have := of_decide_eq_true e; omega
      refine ⟨_, at_g (by omega), _, at_g' (i := i + 1) (by omega) (by omega), rfl, ite2 (fun e2 => ?_) (fun e2 => ?_)⟩
      · have e3 : gN ns i = gN ns (i + 1) := V.int.inj (of_decide_eq_true e2)
        refine ⟨_, at_g' (i := i + 2) (by omega) (by omega), rfl, ?_⟩
        unfold three at q
        rw [decide_eq_true e1, decide_eq_true e3, Bool.true_and, Bool.true_and] at q
        by_cases e4 : gN ns (i + 1) = gN ns (i + 2)
        · rw [decide_eq_true e4] at q
          rw [decide_eq_true (congrArg V.int e4)]
          exact q
        · rw [decide_eq_false e4] at q
          rw [decide_eq_false (fun z => e4 (V.int.inj z))]
          exact q
      · have e3 : ¬ gN ns i = gN ns (i + 1) := fun z => e2 (decide_eq_true (congrArg V.int z))
        unfold three at q
        rw [decide_eq_false e3, Bool.and_false, Bool.false_and] at q
        exact q
    · have e1 : ¬ i + 3 ≤ ns.length := fun z => e (decide_eq_true (by omega))
      unfold three at q
      rw [decide_eq_false e1, Bool.false_and, Bool.false_and] at q
      exact q
def spCount (f : List Int → Nat → Nat) : Sp := fun vs H Q _ => ∃ (a : Addr) (ns : List Int) (i : Nat), vs = [.ref a, .int (i : Int)] ∧ H a = some (.lst (ns.map V.int)) ∧ i < ns.length ∧ ns.length ≤ 10000 ∧ Q (.int ((f ns i : Nat) : Int)) H
theorem ok__count_equal (T : Txt K mg) : FnOk P w K mg base CX0 1 T.f__count_equal T.fd__count_equal ["data", "at"] (spCount nE) := by
  refine T.F__count_equal.ok sc__count_equal (fun vs H Q E h => ?_) (fun cdv A outer s H vs Q E hr h => ?_)
  · obtain ⟨a, ns, i, rfl, _⟩ := h
    rfl
  · obtain ⟨a, ns, i, rfl, ha, hi, hn, q⟩ := h
    refine ⟨_, (pss_cons (ps_set (i := 2) sc__count_equal.nd rfl (Or.inl rfl) pe_int)
      (pss_cons (ps_while PassesOwn.never (PW.pt (pw_and (pt_cmpR op_lt (pv 2) (pe_glob (v := .int 128) (by rfl) T.c__MOST_BYTES ⟨_, rfl⟩) (nomark _)) (pw_and (pt_cmpR op_lt (pe_op op_add (pv 1) (pv 2)) (pe_callB call_lenH (by rfl) T.z_len PySem.boot_len (pa_cons (pv 0) pa_nil)) (nomark _)) (pw_and1 (pt_cmpR op_eq (pe_ix ix_listH (pv 0) (pe_op op_add (pv 1) (pv 2)) (fun _ _ => rfl)) (pe_ix ix_listH (pv 0) (pv 1) (fun _ _ => rfl)) (nomark _)))))) (pss_one (ps_aug (i := 2) sc__count_equal.nd rfl (Or.inl rfl) pe_int ip_add)))
      (pss_one (ps_ret (pv 2))))), ?_⟩
    walk_at "vc"
    refine wh_by (fun m σ H' => ∃ (k f : Nat), σ = [some (.ref a), some (.int (i : Int)), some (.int (k : Int))] ∧ H' = H ∧ 128 ≤ k + f ∧ 1 ≤ k ∧ i + k ≤ ns.length ∧ k ≤ 128 ∧ cE ns i f k = nE ns i ∧ m = 128 - k) _ ⟨1, 128, rfl, rfl, by decide, by decide, by omega, by decide, rfl, rfl⟩ ?_
    rintro m σ H' ⟨k, f, rfl, rfl, hkf, hk1, hik, hk8, hE, rfl⟩
    walk_at "vc"
    simp only [ha]
    walk_at "vc"
    rw [List.length_map]
    have fin : (¬ (k < 128 ∧ i + k < ns.length ∧ gN ns (i + k) = gN ns i)) → Q (V.int ((k : Nat) : Int)) H' := fun hc => by
      have e : k = nE ns i := by
        rw [← hE]
        cases f with
        | zero => rfl
        | succ f => rw [cE, if_neg hc]
      rw [← e] at q
      exact q
    refine ite2 (fun e1 => ite2 (fun e2 => ?_) (fun e2 => fin fun z => e2 (decide_eq_true (by omega)))) (fun e1 => fin fun z => e1 (decide_eq_true (by omega)))
    have e3 : i + k < ns.length := by have := of_decide_eq_true e2; omega
    have e4 : k < 128 := by have := of_decide_eq_true e1; omega
    refine ⟨_, at_g' (i := i + k) (by omega) (by omega), _, at_g hi, rfl, ite2 (fun e5 => ?_) (fun e5 => fin fun z => e5 (decide_eq_true (congrArg V.int z.2.2)))⟩
    have e6 : gN ns (i + k) = gN ns i := V.int.inj (of_decide_eq_true e5)
    obtain ⟨f', rfl⟩ : ∃ f', f = f' + 1 := ⟨f - 1, by omega⟩
    rw [cE, if_pos ⟨e4, e3, e6⟩] at hE
    exact ⟨_, fun _ _ h => h, _, by omega, k + 1, rfl, rfl, f', by omega, by omega, by omega, by omega, hE, rfl⟩
theorem ok__count_unlike (T : Txt K mg) : FnOk P w K mg base CX0 2 T.f__count_unlike T.fd__count_unlike ["data", "at"] (spCount nU) := by
  refine T.F__count_unlike.ok sc__count_unlike (fun vs H Q E h => ?_) (fun cdv A outer s H vs Q E hr h => ?_)
  · obtain ⟨a, ns, i, rfl, _⟩ := h
    rfl
  · obtain ⟨a, ns, i, rfl, ha, hi, hn, q⟩ := h
    refine ⟨_, (pss_cons (ps_set (i := 2) sc__count_unlike.nd rfl (Or.inl rfl) pe_int)
      (pss_cons (ps_while PassesOwn.never (PW.pt (pw_and (pt_cmpR op_lt (pv 2) (pe_glob (v := .int 128) (by rfl) T.c__MOST_BYTES ⟨_, rfl⟩) (nomark _)) (pw_and (pt_cmpR op_lt (pe_op op_add (pv 1) (pv 2)) (pe_callB call_lenH (by rfl) T.z_len PySem.boot_len (pa_cons (pv 0) pa_nil)) (nomark _)) (pw_and1 (pt_not (pt_val (pe_call (ok__three_equal T) hr (by rfl) T.g__three_equal T.F__three_equal.kp T.b__three_equal .nil pass0 (pa_cons (pv 0) (pa_cons (pe_op op_add (pv 1) (pv 2)) pa_nil))))))))) (pss_one (ps_aug (i := 2) sc__count_unlike.nd rfl (Or.inl rfl) pe_int ip_add)))
      (pss_one (ps_ret (pv 2))))), ?_⟩
    walk_at "vc"
    refine wh_by (fun m σ H' => ∃ (k f : Nat), σ = [some (.ref a), some (.int (i : Int)), some (.int (k : Int))] ∧ H' = H ∧ 128 ≤ k + f ∧ 1 ≤ k ∧ i + k ≤ ns.length ∧ k ≤ 128 ∧ cU ns i f k = nU ns i ∧ m = 128 - k) _ ⟨1, 128, rfl, rfl, by decide, by decide, by omega, by decide, rfl, rfl⟩ ?_
    rintro m σ H' ⟨k, f, rfl, rfl, hkf, hk1, hik, hk8, hE, rfl⟩
    walk_at "vc"
    simp only [ha]
    walk_at "vc"
    rw [List.length_map]
    have fin : (¬ (k < 128 ∧ i + k < ns.length ∧ three ns (i + k) = false)) → Q (V.int ((k : Nat) : Int)) H' := fun hc => by
      have e : k = nU ns i := by
        rw [← hE]
        cases f with
        | zero => rfl
        | succ f => rw [cU, if_neg hc]
      rw [← e] at q
      exact q
    refine ite2 (fun e1 => ite2 (fun e2 => ?_) (fun e2 => fin fun z => e2 (decide_eq_true (by omega)))) (fun e1 => fin fun z => e1 (decide_eq_true (by omega)))
    have e3 : i + k < ns.length := by have := of_decide_eq_true e2; omega
    have e4 : k < 128 := by have := of_decide_eq_true e1; omega
    refine ⟨a, ns, i + k, by rw [Int.natCast_add], ha, _, rfl, ite2 (fun e5 => ?_) (fun e5 => fin fun z => e5 (by rw [z.2.2]; rfl))⟩
    have e6 : three ns (i + k) = false := by simpa using e5
    obtain ⟨f', rfl⟩ : ∃ f', f = f' + 1 := ⟨f - 1, by omega⟩
    rw [cU, if_pos ⟨e4, e3, e6⟩] at hE
    exact ⟨_, fun _ _ h => h, _, by omega, k + 1, rfl, rfl, f', by omega, by omega, by omega, by omega, hE, rfl⟩
def spToRuns : Sp := fun vs H Q _ => ∃ (a : Addr) (ns : List Int), vs = [.ref a] ∧ H a = some (.lst (ns.map V.int)) ∧ Byt ns ∧ ns.length ≤ 10000 ∧ ∀ H' p, Same H H' → H p = none → H' p = some (.lst ((toR ns).map V.int)) → Q (.ref p) H'
theorem ok_to_runs (T : Txt K mg) : FnOk P w K mg base CX0 3 T.f_to_runs T.fd_to_runs ["data"] spToRuns := by
  refine T.F_to_runs.ok sc_to_runs (fun vs H Q E h => ?_) (fun cdv A outer s H vs Q E hr h => ?_)
  · obtain ⟨a, ns, rfl, _⟩ := h
    rfl
  · obtain ⟨a, ns, rfl, ha, hB, hn, q⟩ := h
    refine ⟨_, (pss_cons (ps_set (i := 1) sc_to_runs.nd rfl (Or.inl rfl) (pe_lst pa_nil))
      (pss_cons (ps_set (i := 2) sc_to_runs.nd rfl (Or.inl rfl) pe_int)
      (pss_cons (ps_while PassesOwn.never (pt_cmpR op_lt (pv 2) (pe_callB call_lenH (by rfl) T.z_len PySem.boot_len (pa_cons (pv 0) pa_nil)) (nomark _)) (pss_cons (ps_if (pt_val (pe_call (ok__three_equal T) (hr.mono (by decide)) (by rfl) T.g__three_equal T.F__three_equal.kp T.b__three_equal .nil pass0 (pa_cons (pv 0) (pa_cons (pv 2) pa_nil)))) (pss_cons (ps_set (i := 3) sc_to_runs.nd rfl (Or.inl rfl) (pe_call (ok__count_equal T) (hr.mono (by decide)) (by rfl) T.g__count_equal T.F__count_equal.kp T.b__count_equal .nil pass0 (pa_cons (pv 0) (pa_cons (pv 2) pa_nil))))
      (pss_one (ps_expr (pe_bm PySem.F.plainAttrs_list PySem.F.slot_list_extend PySem.F.type_list_extend mt_extend (pv 1) (pa_cons (pe_lst (pa_cons (pe_op op_sub pe_int (pv 3)) (pa_cons (pe_ix ix_listH (pv 0) (pv 2) (fun _ _ => rfl)) pa_nil))) pa_nil))))) (pss_cons (ps_set (i := 3) sc_to_runs.nd rfl (Or.inl rfl) (pe_call (ok__count_unlike T) hr (by rfl) T.g__count_unlike T.F__count_unlike.kp T.b__count_unlike .nil pass0 (pa_cons (pv 0) (pa_cons (pv 2) pa_nil))))
      (pss_one (ps_expr (pe_bm PySem.F.plainAttrs_list PySem.F.slot_list_extend PySem.F.type_list_extend mt_extend (pv 1) (pa_cons (pe_call (ok_plain_piece T) (hr.mono (by decide)) (by rfl) T.g_plain_piece T.F_plain_piece.kp T.b_plain_piece .nil pass0 (pa_cons (pe_slice sl_listH (pv 0) (po_some (pv 2)) (po_some (pe_op op_add (pv 2) (pv 3)))) pa_nil)) pa_nil))))))
      (pss_one (ps_aug (i := 2) sc_to_runs.nd rfl (Or.inl rfl) (pv 3) ip_add))))
      (pss_cons (ps_expr (pe_bm PySem.F.plainAttrs_list PySem.F.slot_list_append PySem.F.type_list_append mt_append (pv 1) (pa_cons (pe_glob (v := .int 128) (by rfl) T.c__END ⟨_, rfl⟩) pa_nil)))
      (pss_one (ps_ret (pv 1))))))), ?_⟩
    walk_at "vc"
    intro pf hpf
    have s1 := same_upd (o := .lst []) hpf
    refine wh_by (fun m σ H' => ∃ (i f : Nat) (fs : List Int) (mv : Option V), σ = [some (.ref a), some (.ref pf), some (.int (i : Int)), mv] ∧ Same H H' ∧ H' pf = some (.lst (List.map V.int fs)) ∧ fs.length ≤ 2 * i ∧ i ≤ ns.length ∧ ns.length ≤ i + f ∧ fs ++ toF ns f i = toR ns ∧ m = ns.length - i) _ ⟨0, ns.length, [], none, rfl, s1, upd_same, by decide, by omega, by omega, rfl, rfl⟩ ?_
    rintro m σ H' ⟨i, f, fs, mv, rfl, sm, gf, hfl, hi, hif, hR, rfl⟩
    walk_at "vc"
    have ha' := sm _ _ ha
    simp only [ha']
    walk_at "vc"
    rw [List.length_map]
    refine ite2 (fun e => ?_) (fun e => ?_)
    · have e1 : i < ns.length := by have := of_decide_eq_true e; omega
      obtain ⟨f', rfl⟩ : ∃ f', f = f' + 1 := ⟨f - 1, by omega⟩
      rw [toF, if_pos e1] at hR
      refine ⟨_, fun _ _ h => h, a, ns, i, rfl, ha', _, rfl, ite2 (fun e2 => ?_) (fun e2 => ?_)⟩
      · rw [if_pos e2] at hR
        have hE := nE_three e2
        refine ⟨a, ns, i, rfl, ha', e1, hn, .inl ⟨rfl, _, .inl (.inl gf)⟩, _, rfl, _, ha', _, at_g e1, by decide, fun r hr' => ?_⟩
        have n1 : pf ≠ r := ne_of_none gf hr'
        have s3 := sm.trans (same_upd (o := .lst [V.int (257 - ((nE ns i : Nat) : Int)), V.int (gN ns i)]) hr')
        refine ⟨_, by rw [upd_ne n1]; exact gf, ?_, _, rfl, _, ?_, i + nE ns i, ⟨_, by rw [Int.natCast_add]⟩, same_upd2 s3 hpf, f', fs ++ [257 - ((nE ns i : Nat) : Int), gN ns i], ?_, ?_, by omega, by omega, ?_, rfl⟩
        · rw [List.length_map]
          exact Nat.le_trans (show fs.length + 2 ≤ 30000 by omega) (by decide)
        · omega
        · rw [upd_same, List.map_append]
          rfl
        · rw [List.length_append]
          show fs.length + 2 ≤ _
          omega
        · rw [← hR, List.append_assoc]
      · rw [if_neg e2] at hR
        have hU := nU_rng e1
        refine ⟨a, ns, i, rfl, ha', e1, hn, .inl ⟨rfl, _, .inl (.inl gf)⟩, _, rfl, _, ha', fun r hr' => ?_⟩
        rw [cut_sl (i := i) (j := i + nU ns i) rfl (by rw [Int.natCast_add])]
        have hsl : (sl ns i (i + nU ns i)).length = nU ns i := by rw [sl_len]; omega
        have n1 : pf ≠ r := ne_of_none gf hr'
        have s3 := same_upd (o := .lst ((sl ns i (i + nU ns i)).map V.int)) hr'
        refine ⟨r, sl ns i (i + nU ns i), rfl, upd_same, fun z => by rw [z] at hsl; simp at hsl; omega, by omega, fun H2 r2 sm2 hr2 gr2 => ?_⟩
        have s4 := sm.trans (s3.trans sm2)
        refine ⟨r2, rfl, _, sm2 _ _ (s3 _ _ gf), _, gr2, ?_, _, rfl, _, ?_, i + nU ns i, ⟨_, by rw [Int.natCast_add]⟩, same_upd2 s4 hpf, f', fs ++ ((((sl ns i (i + nU ns i)).length : Int) - 1) :: sl ns i (i + nU ns i)), ?_, ?_, by omega, by omega, ?_, rfl⟩
        · rw [List.length_map, List.length_map, List.length_cons]
          exact Nat.le_trans (show fs.length + ((sl ns i (i + nU ns i)).length + 1) ≤ 30000 by omega) (by decide)
        · omega
        · rw [upd_same, List.map_append]
        · rw [List.length_append, List.length_cons]
          omega
        · rw [← hR, List.append_assoc]
    · have e1 : ¬ i < ns.length := fun z => e (decide_eq_true (by omega))
      refine ⟨.inl ⟨rfl, _, .inl (.inl gf)⟩, _, gf, ?_, ?_⟩
      · rw [List.length_map]
        exact Nat.lt_of_le_of_lt (show fs.length ≤ 30000 by omega) (by decide)
      · have e2 : List.map V.int fs ++ [V.int 128] = (toR ns).map V.int := by
          have : toF ns f i = [128] := by
            cases f with
            | zero => rfl
            | succ f => rw [toF, if_neg e1]
          rw [← hR, this, List.map_append]
          rfl
        rw [e2]
        exact q _ pf (same_upd2 sm hpf) hpf upd_same
end

section
variable {P : Program} {w : World} {K : PySem.W.Frag} {mg : Str → Option Value} {base : Heap}
def spInteger : Sp := fun vs H Q _ => ∃ i : Int, vs = [.int i] ∧ Q (.bl true) H
theorem ok__law_is_integer (T : Txt K mg) : FnOk P w K mg base CX0 1 T.f__law_is_integer T.fd__law_is_integer ["actual"] spInteger := by
  refine T.F__law_is_integer.ok sc__law_is_integer (fun vs H Q E h => ?_) (fun cdv A outer s H vs Q E hr h => ?_)
  · obtain ⟨i, rfl, _⟩ := h
    rfl
  · obtain ⟨i, rfl, q⟩ := h
    refine ⟨_, (pss_one (ps_ret (pe_and (pe_callB call_isiB (by rfl) T.z_isinstance (by decide +kernel) (pa_cons (pv 0) (pa_cons (pe_bltn (v := .ty "int") (u := .type "int") (by rfl) T.z_int (by decide +kernel) rfl) pa_nil))) (pe_one (pe_not (pe_callB call_isiB (by rfl) T.z_isinstance (by decide +kernel) (pa_cons (pv 0) (pa_cons (pe_bltn (v := .ty "bool") (u := .type "bool") (by rfl) T.z_bool (by decide +kernel) rfl) pa_nil)))))))), ?_⟩
    walk_at "vc"
    exact q
def spIsBytes : Sp := fun vs H Q _ => ∃ (p : Addr) (ns : List Int), vs = [.ref p] ∧ H p = some (.lst (ns.map V.int)) ∧ Byt ns ∧ Q (.bl true) H
theorem ok__law_is_bytes (T : Txt K mg) : FnOk P w K mg base CX0 2 T.f__law_is_bytes T.fd__law_is_bytes ["actual"] spIsBytes := by
  refine T.F__law_is_bytes.ok sc__law_is_bytes (fun vs H Q E h => ?_) (fun cdv A outer s H vs Q E hr h => ?_)
  · obtain ⟨p, ns, rfl, _⟩ := h
    rfl
  · obtain ⟨p, ns, rfl, hp, hB, q⟩ := h
    refine ⟨_, (pss_cons (ps_if (pt_not (pt_val (pe_callB call_isiB (by rfl) T.z_isinstance (by decide +kernel) (pa_cons (pv 0) (pa_cons (pe_bltn (v := .ty "list") (u := .type "list") (by rfl) T.z_list (by decide +kernel) rfl) pa_nil))))) (pss_one (ps_ret pe_bl)) pss_nil)
      (pss_cons (ps_for PassesOwn.never rfl (pi_list (pv 0)) (pg_name (i := 1) sc__law_is_bytes.nd rfl (Or.inl rfl)) (pss_one (ps_if (PW.pt (pw_or (pt_not (pt_val (pe_call (ok__law_is_integer T) hr (by rfl) T.g__law_is_integer T.F__law_is_integer.kp T.b__law_is_integer .nil pass0 (pa_cons (pv 1) pa_nil)))) (pw_or (pt_cmpR op_lt (pv 1) pe_int (nomark _)) (pw_or1 (pt_cmpR op_gt (pv 1) pe_int (nomark _)))))) (pss_one (ps_ret pe_bl)) pss_nil)))
      (pss_one (ps_ret pe_bl)))), ?_⟩
    walk_at "vc"
    simp only [hp]
    walk_at "vc"
    refine ⟨⟨_, .inl (.inl hp)⟩, lp_list (xs := ns.map V.int) (fun i σ H' => ∃ bv, σ = [some (.ref p), bv] ∧ H' = H) ⟨none, rfl, rfl⟩ ?_ ?_ ?_⟩
    · rintro i σ H' _ ⟨bv, rfl, rfl⟩
      exact .inl (.inl hp)
    · rintro i x σ H' hx ⟨bv, rfl, rfl⟩
      rw [List.getElem?_map] at hx
      obtain ⟨b, hb1, rfl⟩ := Option.map_eq_some_iff.mp hx
      have hb := hB b (List.mem_of_getElem? hb1)
      walk_at "vc"
      simp only [spInteger]
      walk_at "vc"
      rw [decide_eq_false (show ¬ b < 0 by omega), decide_eq_false (show ¬ 255 < b by omega)]
      exact iteF (iteF True.intro)
    · rintro σ H' ⟨bv, rfl, rfl⟩
      walk_at "vc"
      exact q
theorem byt_nil : Byt [] := fun _ h => by cases h
theorem byt_one {v : Int} (h0 : 0 ≤ v) (h1 : v < 256) : Byt [v] := fun b hb => by
  rw [List.mem_singleton.mp hb]
  exact ⟨h0, h1⟩
theorem rep_one (n : Nat) (y : Int) : (List.replicate n [V.int y]).flatten = List.map V.int (List.replicate n y) := by
  induction n with
  | zero => rfl
  | succ n ih => rw [List.replicate_succ, List.flatten_cons, ih, List.replicate_succ]; rfl
theorem cut_take {ns : List Int} {n : Nat} : cutV (ns.map V.int) none (some (n : Int)) = (ns.take n).map V.int := by
  unfold cutV
  rw [HT.sIx_nat, HT.sIx_none, List.length_map, List.drop_zero, ← List.map_take]
  congr 1
  by_cases h : n ≤ ns.length
  · rw [Nat.min_eq_left h, Nat.sub_zero]
  · rw [Nat.min_eq_right (by omega), Nat.sub_zero, List.take_of_length_le (Nat.le_refl _), List.take_of_length_le (by omega)]
theorem cut_drop {ns : List Int} {n : Nat} : cutV (ns.map V.int) (some (n : Int)) none = (ns.drop n).map V.int := by
  unfold cutV
  rw [HT.sIx_nat, HT.sIx_none, List.length_map, ← List.map_drop, ← List.map_take]
  congr 1
  by_cases h : n ≤ ns.length
  · rw [Nat.min_eq_left h, List.take_of_length_le (by rw [List.length_drop]; exact Nat.le_refl _)]
  · rw [Nat.min_eq_right (by omega), List.drop_of_length_le (Nat.le_refl _), List.drop_of_length_le (by omega), List.take_nil]
theorem toF_byt {ns : List Int} (hB : Byt ns) : ∀ f i, Byt (toF ns f i)
  | 0, _ => byt_one (by decide) (by decide)
  | f + 1, i => by
    rw [toF]
    split
    · rename_i hi
      split
      · rename_i h3
        have hE := nE_three h3
        have hg := gN_byt hB i
        exact byt_app (x := [257 - (nE ns i : Int), gN ns i]) (byt_app (x := [257 - (nE ns i : Int)]) (byt_one (by omega) (by omega)) (byt_one hg.1 hg.2)) (toF_byt hB f _)
      · have hU := nU_rng hi
        have hsl : (sl ns i (i + nU ns i)).length = nU ns i := by rw [sl_len]; omega
        exact byt_app (byt_app (x := [((sl ns i (i + nU ns i)).length : Int) - 1]) (byt_one (by omega) (by omega)) (sl_byt hB _ _)) (toF_byt hB f _)
    · exact byt_one (by decide) (by decide)
theorem toF_len (ns : List Int) : ∀ f i, i ≤ ns.length → 1 ≤ (toF ns f i).length ∧ (toF ns f i).length ≤ 2 * (ns.length - i) + 1
  | 0, i, _ => ⟨Nat.le_refl _, by show 1 ≤ _; omega⟩
  | f + 1, i, h => by
    rw [toF]
    split
    · rename_i hi
      split
      · rename_i h3
        have hE := nE_three h3
        have ih := toF_len ns f (i + nE ns i) (by omega)
        rw [List.length_append]
        show 1 ≤ 2 + _ ∧ 2 + _ ≤ _
        omega
      · have hU := nU_rng hi
        have hsl : (sl ns i (i + nU ns i)).length = nU ns i := by rw [sl_len]; omega
        have ih := toF_len ns f (i + nU ns i) (by omega)
        rw [List.length_append, List.length_cons, hsl]
        omega
    · exact ⟨Nat.le_refl _, by show 1 ≤ _; omega⟩
theorem toR_byt {ns : List Int} (hB : Byt ns) : Byt (toR ns) := toF_byt hB _ _
theorem toR_len (ns : List Int) : 1 ≤ (toR ns).length ∧ (toR ns).length ≤ 2 * ns.length + 1 := toF_len ns _ 0 (Nat.zero_le _)
def spData : Sp := fun vs H Q _ => ∃ (ps : Addr) (most : Nat), vs = [.ref ps, .int (most : Int)] ∧ DrawSt ps H ∧
  ∀ H' p D, Adv ps H H' → H p = none → H' p = some (.lst (List.map V.int D)) → Byt D → D.length ≤ most → Q (.ref p) H'
theorem ok__law_data (T : Txt K mg) : FnOk P w K mg base CX0 2 T.f__law_data T.fd__law_data ["state", "most"] spData := by
  refine T.F__law_data.ok sc__law_data (fun vs H Q E h => ?_) (fun cdv A outer s H vs Q E hr h => ?_)
  · obtain ⟨ps, most, rfl, _⟩ := h
    rfl
  · obtain ⟨ps, most, rfl, hst, q⟩ := h
    refine ⟨_, (pss_cons (ps_set (i := 2) sc__law_data.nd rfl (Or.inl rfl) (pe_lst pa_nil))
      (pss_cons (ps_set (i := 3) sc__law_data.nd rfl (Or.inl rfl) (pe_call (ok__law_draw T) hr (by rfl) T.g__law_draw T.F__law_draw.kp T.b__law_draw .nil pass0 (pa_cons (pv 0) (pa_cons pe_int pa_nil))))
      (pss_cons (ps_for PassesOwn.never rfl (pi_range1 (by rfl) T.z_range (pa_cons (pe_call (ok__law_draw T) hr (by rfl) T.g__law_draw T.F__law_draw.kp T.b__law_draw .nil pass0 (pa_cons (pv 0) (pa_cons pe_int pa_nil))) pa_nil)) (pg_name (i := 4) sc__law_data.nd rfl (Or.inl rfl)) (pss_cons (ps_set (i := 5) sc__law_data.nd rfl (Or.inl rfl) (pe_call (ok__law_draw T) hr (by rfl) T.g__law_draw T.F__law_draw.kp T.b__law_draw .nil pass0 (pa_cons (pv 0) (pa_cons pe_int pa_nil))))
      (pss_one (ps_if (pt_cmpR op_eq (pv 5) pe_int (nomark _)) (pss_one (ps_set (i := 2) sc__law_data.nd rfl (Or.inl rfl) (pe_op op_cat (pv 2) (pe_lc (own := [("k", 6)]) (g := (gName 6)) rfl sc__law_data.nd (pi_range1 (by rfl) T.z_range (pa_cons (pe_call (ok__law_draw T) hr (by rfl) T.g__law_draw T.F__law_draw.kp T.b__law_draw .nil pass0 (pa_cons (pv 0) (pa_cons pe_int pa_nil))) pa_nil)) (blkOk_by (own := [("k", 6)]) (N := ["state", "most", "data", "kind", "turn", "how", "k", "at"]) (sc := defScope s__law_data) (by decide +kernel)) (fun _ _ _ _ _ => (pg_name (i := 6) sc__law_data.nd rfl (Or.inl rfl))) (fun _ _ _ _ _ => pts_nil) (fun _ _ _ _ _ => (pe_call (ok__law_draw T) hr (by rfl) T.g__law_draw T.F__law_draw.kp T.b__law_draw .nil pass0 (pa_cons (pv 0) (pa_cons pe_int pa_nil)))))))) (pss_one (ps_if (pt_cmpR op_eq (pv 5) pe_int (nomark _)) (pss_one (ps_set (i := 2) sc__law_data.nd rfl (Or.inl rfl) (pe_op op_cat (pv 2) (pe_op op_rep (pe_lst (pa_cons (pe_ix ix_listH (pe_lst (pa_cons pe_int (pa_cons pe_int (pa_cons pe_int (pa_cons pe_int pa_nil))))) (pe_call (ok__law_draw T) hr (by rfl) T.g__law_draw T.F__law_draw.kp T.b__law_draw .nil pass0 (pa_cons (pv 0) (pa_cons pe_int pa_nil))) (fun _ _ => rfl)) pa_nil)) (pe_call (ok__law_draw T) hr (by rfl) T.g__law_draw T.F__law_draw.kp T.b__law_draw .nil pass0 (pa_cons (pv 0) (pa_cons pe_int pa_nil))))))) (pss_one (ps_if (PW.pt (pw_and (pt_cmpR op_eq (pv 5) pe_int (nomark _)) (pw_and1 (pt_cmpR op_gt (pe_callB call_lenH (by rfl) T.z_len PySem.boot_len (pa_cons (pv 2) pa_nil)) pe_int (nomark _))))) (pss_cons (ps_set (i := 7) sc__law_data.nd rfl (Or.inl rfl) (pe_call (ok__law_draw T) hr (by rfl) T.g__law_draw T.F__law_draw.kp T.b__law_draw .nil pass0 (pa_cons (pv 0) (pa_cons (pe_callB call_lenH (by rfl) T.z_len PySem.boot_len (pa_cons (pv 2) pa_nil)) pa_nil))))
      (pss_one (ps_set (i := 2) sc__law_data.nd rfl (Or.inl rfl) (pe_op op_cat (pv 2) (pe_slice sl_listH (pv 2) (po_some (pv 7)) (po_some (pe_op op_add (pv 7) (pe_call (ok__law_draw T) hr (by rfl) T.g__law_draw T.F__law_draw.kp T.b__law_draw .nil pass0 (pa_cons (pv 0) (pa_cons pe_int pa_nil)))))))))) (pss_one (ps_if (PW.pt (pw_and (pt_cmpR op_eq (pv 5) pe_int (nomark _)) (pw_and1 (pt_cmpR op_eq (pv 3) pe_int (nomark _))))) (pss_one (ps_set (i := 2) sc__law_data.nd rfl (Or.inl rfl) (pe_op op_cat (pv 2) (pe_op op_rep (pe_lst (pa_cons (pe_call (ok__law_draw T) hr (by rfl) T.g__law_draw T.F__law_draw.kp T.b__law_draw .nil pass0 (pa_cons (pv 0) (pa_cons pe_int pa_nil))) pa_nil)) (pe_ix ix_listH (pe_lst (pa_cons pe_int (pa_cons pe_int (pa_cons pe_int (pa_cons pe_int (pa_cons pe_int (pa_cons pe_int (pa_cons pe_int pa_nil)))))))) (pe_call (ok__law_draw T) hr (by rfl) T.g__law_draw T.F__law_draw.kp T.b__law_draw .nil pass0 (pa_cons (pv 0) (pa_cons pe_int pa_nil))) (fun _ _ => rfl)))))) (pss_one (ps_if (PW.pt (pw_and (pt_cmpR op_eq (pv 5) pe_int (nomark _)) (pw_and1 (pt_cmpR op_eq (pv 3) pe_int (nomark _))))) (pss_one (ps_set (i := 2) sc__law_data.nd rfl (Or.inl rfl) (pe_op op_cat (pv 2) (pe_lc (own := [("k", 6)]) (g := (gName 6)) rfl sc__law_data.nd (pi_range1 (by rfl) T.z_range (pa_cons (pe_ix ix_listH (pe_lst (pa_cons pe_int (pa_cons pe_int (pa_cons pe_int (pa_cons pe_int (pa_cons pe_int (pa_cons pe_int pa_nil))))))) (pe_call (ok__law_draw T) hr (by rfl) T.g__law_draw T.F__law_draw.kp T.b__law_draw .nil pass0 (pa_cons (pv 0) (pa_cons pe_int pa_nil))) (fun _ _ => rfl)) pa_nil)) (blkOk_by (own := [("k", 6)]) (N := ["state", "most", "data", "kind", "turn", "how", "k", "at"]) (sc := defScope s__law_data) (by decide +kernel)) (fun _ _ _ _ _ => (pg_name (i := 6) sc__law_data.nd rfl (Or.inl rfl))) (fun _ _ _ _ _ => pts_nil) (fun _ _ _ _ _ => (pe_op op_mod (pe_op op_mul (pv 6) pe_int) pe_int)))))) (pss_one (ps_set (i := 2) sc__law_data.nd rfl (Or.inl rfl) (pe_op op_cat (pv 2) (pe_lst (pa_cons (pe_call (ok__law_draw T) hr (by rfl) T.g__law_draw T.F__law_draw.kp T.b__law_draw .nil pass0 (pa_cons (pv 0) (pa_cons pe_int pa_nil))) (pa_cons (pe_call (ok__law_draw T) hr (by rfl) T.g__law_draw T.F__law_draw.kp T.b__law_draw .nil pass0 (pa_cons (pv 0) (pa_cons pe_int pa_nil))) pa_nil))))))))))))))))))
      (pss_one (ps_ret (pe_slice sl_listH (pv 2) po_none (po_some (pv 1)))))))), ?_⟩
    walk_at "vc"
    intro p0 hp0
    have a0 := (Adv.refl hst).new (o := .lst []) hp0
    refine ⟨ps, 6, rfl, a0.st, by decide, by decide, fun H1 kd a1 k0 k1 => ?_⟩
    walk_at "vc"
    refine ⟨ps, 9, rfl, a1.st, by decide, by decide, fun H2 tn a2 t0 t1 => ?_⟩
    walk_at "vc"
    have n0 : p0 ≠ ps := hst.ne hp0
    have g0 := a2.same _ _ n0 (a1.same _ _ n0 (upd_same (H := H) (o := .lst [])))
    refine ⟨by omega, by omega, ?_⟩
    refine lp_range (fun i σ H' => ∃ (p : Addr) (D : List Int) (tv hv kv av : Option V), σ = [some (.ref ps), some (.int (most : Int)), some (.ref p), some (.int kd), tv, hv, kv, av] ∧ Adv ps H H' ∧ H p = none ∧ H' p = some (.lst (List.map V.int D)) ∧ Byt D ∧ D.length ≤ 400 * i) ⟨p0, [], none, none, none, none, rfl, (a0.trans a1).trans a2, hp0, g0, byt_nil, Nat.zero_le _⟩ ?_ ?_
    · rintro i σ H' hi ⟨p, D, tv, hv, kv, av, rfl, ad, hp, gp, hB, hl⟩
      walk_at "vc"
      refine ⟨ps, 5, rfl, ad.st, by decide, by decide, fun H3 how a3 w0 w1 => ?_⟩
      walk_at "vc"
      have np : p ≠ ps := hst.ne hp
      have hi9 : i < 9 := by omega
      have fin : ∀ (H4 : Hp) (X : List Int) (r : Addr), Adv ps H H4 → Byt X → X.length ≤ 400 → H4 r = none →
          (Adv ps H (upd H4 r (HO.lst (List.map V.int D ++ List.map V.int X))) ∧ H r = none ∧ ∃ x, List.map V.int D ++ List.map V.int X = List.map V.int x ∧ Byt x ∧ x.length ≤ 400 * (i + 1)) := fun H4 X r a4 hX hXl hr4 =>
        ⟨a4.new hr4, a4.free hr4, D ++ X, (List.map_append).symm, byt_app hB hX, by rw [List.length_append]; omega⟩
      have siz : ∀ X : List Int, X.length ≤ 400 → (List.map V.int D).length + (List.map V.int X).length ≤ sizeLine := fun X h => by
        rw [List.length_map, List.length_map]
        exact Nat.le_trans (show D.length + X.length ≤ 5000 by omega) (by decide)
      have b3 := ad.trans a3
      have gp3 := a3.same _ _ np gp
      refine ite2 (fun e0 => ?_) (fun e0 => ite2 (fun e1 => ?_) (fun e1 => ?_))
      · refine ⟨ps, 9, rfl, b3.st, by decide, by decide, fun H4 j a4 j0 j1 => ⟨j, rfl, by omega, by omega, ?_⟩⟩
        have b4 := b3.trans a4
        have gp4 := a4.same _ _ np gp3
        refine lc_rng (fun E i Hc => Adv ps H Hc ∧ Hc p = some (.lst (List.map V.int D)) ∧ ∃ L, Hc E = some (.lst (List.map V.int L)) ∧ Byt L ∧ L.length = i) (fun E hE => ⟨b4.new hE, by rw [upd_ne (ne_of_none gp4 hE)]; exact gp4, [], upd_same, byt_nil, rfl⟩) (fun E u Hc hu hE ⟨ac, gc, L, gL, hL, hLl⟩ => ?_) (fun E Hc hE ⟨ac, gc, L, gL, hL, hLl⟩ => ?_)
        · have nE := b4.st.ne hE
          have hE0 := b4.free hE
          walk_at "vc"
          refine ⟨ps, 256, rfl, ac.st, by decide, by decide, fun H5 v a5 v0 v1 => ?_⟩
          refine ⟨_, a5.same _ _ nE gL, ?_, (ac.trans a5).put nE hE0, ?_, L ++ [v], ?_, byt_app hL (byt_one v0 v1), by rw [List.length_append, hLl]; rfl⟩
          · rw [List.length_map]
            exact Nat.lt_of_le_of_lt (show L.length ≤ 10 by omega) (by decide)
          · rw [upd_ne (ne_of_none gp4 hE)]
            exact a5.same _ _ np gc
          · rw [List.map_append]
            rfl
        · refine ⟨E, rfl, _, gc, _, gL, siz L (by omega), fun r hr4 => fin Hc L r ac hL (by omega) hr4⟩
      · refine ⟨by decide, fun r1 hr1 => ?_⟩
        have b4 := b3.new (o := .lst [V.int 0, V.int 7, V.int 255, V.int 128]) hr1
        have nr1 := b3.st.ne hr1
        refine ⟨ps, 4, rfl, b4.st, by decide, by decide, fun H4 v a5 v0 v1 => ?_⟩
        have gr1 := a5.same _ _ nr1 (upd_same (H := H3) (o := .lst [V.int 0, V.int 7, V.int 255, V.int 128]))
        obtain ⟨y, hy1, hy2⟩ := atI_in (xs := [0, 7, 255, 128]) (k := v) v0 v1
        have hyB : 0 ≤ y ∧ y < 256 := by
          have := List.mem_of_getElem? hy1
          simp only [List.mem_cons, List.not_mem_nil, or_false] at this
          omega
        refine ⟨_, v, rfl, gr1, _, hy2, by decide, fun r2 hr2 => ?_⟩
        have b5 := b4.trans a5
        have b6 := b5.new (o := .lst [V.int y]) hr2
        have nr2 := b5.st.ne hr2
        refine ⟨ps, 7, rfl, b6.st, by decide, by decide, fun H5 v2 a6 w2 w3 => ?_⟩
        have gr2 := a6.same _ _ nr2 (upd_same (H := H4) (o := .lst [V.int y]))
        have b7 := b6.trans a6
        refine ⟨v2, rfl, _, gr2, by omega, by omega, ?_, fun r3 hr3 => ?_⟩
        · show 1 * v2.toNat ≤ sizeLine
          exact Nat.le_trans (show 1 * v2.toNat ≤ 7 by omega) (by decide)
        have gp5 : H5 p = some (.lst (List.map V.int D)) := a6.same _ _ np (by rw [upd_ne (fun z => by rw [← z] at hr2; rw [a5.same _ _ np (by rw [upd_ne (ne_of_none gp3 hr1)]; exact gp3)] at hr2; cases hr2)]; exact a5.same _ _ np (by rw [upd_ne (ne_of_none gp3 hr1)]; exact gp3))
        rw [rep_one]
        have hX : Byt (List.replicate v2.toNat y) := fun b hb => by rw [List.eq_of_mem_replicate hb]; exact hyB
        have hXl : (List.replicate v2.toNat y).length ≤ 400 := by rw [List.length_replicate]; omega
        refine ⟨_, by rw [upd_ne (ne_of_none gp5 hr3)]; exact gp5, siz _ hXl, fun r hr4 => ?_⟩
        exact fin _ _ r (b7.new hr3) hX hXl hr4
      · have n2 : how = 2 → ¬ how = 3 ∧ ¬ how = 4 := fun z => by omega
        refine ite2 (fun e2 => ⟨_, gp3, ite2 (fun e3 => ?_) (fun e3 => ?_)⟩) (fun e2 => ite2 (fun e3 => ite2 (fun e4 => ?_) (fun e4 => ?_)) (fun e3 => ite2 (fun e4 => ite2 (fun e5 => ?_) (fun e5 => ?_)) (fun e4 => ?_)))
        · have hDl : 0 < D.length := by have := of_decide_eq_true e3; rw [List.length_map] at this; omega
          refine ⟨_, gp3, ?_⟩
          rw [List.length_map]
          refine ⟨ps, (D.length : Int), rfl, b3.st, by omega, by omega, fun H4 v a4 v0 v1 => ⟨v, rfl, ?_⟩⟩
          refine ⟨ps, 20, rfl, a4.st, by decide, by decide, fun H5 v2 a5 w2 w3 => ⟨v, rfl, v2, rfl, ?_⟩⟩
          have b5 := (b3.trans a4).trans a5
          have gp5 := a5.same _ _ np (a4.same _ _ np gp3)
          refine ⟨_, gp5, fun r3 hr3 => ?_⟩
          rw [cut_sl (i := v.toNat) (j := v.toNat + v2.toNat) (by omega) (by omega)]
          have hXl : (sl D v.toNat (v.toNat + v2.toNat)).length ≤ 400 := by rw [sl_len]; omega
          refine ⟨_, by rw [upd_ne (ne_of_none gp5 hr3)]; exact gp5, siz _ hXl, fun r hr4 => ?_⟩
          exact fin _ _ r (b5.new hr3) (sl_byt hB _ _) hXl hr4
        · have e6 := n2 (of_decide_eq_true e2)
          rw [decide_eq_false e6.1, decide_eq_false e6.2]
          refine iteF (iteF ?_)
          refine ⟨ps, 4, rfl, b3.st, by decide, by decide, fun H4 v a4 v0 v1 => ?_⟩
          refine ⟨ps, 2, rfl, a4.st, by decide, by decide, fun H5 v2 a5 w2 w3 => ?_⟩
          have b5 := (b3.trans a4).trans a5
          have gp5 := a5.same _ _ np (a4.same _ _ np gp3)
          refine ⟨by decide, fun r3 hr3 => ?_⟩
          refine ⟨_, by rw [upd_ne (ne_of_none gp5 hr3)]; exact gp5, siz [v, v2] (show 2 ≤ 400 by decide), fun r hr4 => ?_⟩
          exact fin _ [v, v2] r (b5.new hr3) (byt_app (x := [v]) (byt_one v0 (by omega)) (byt_one w2 (by omega))) (show 2 ≤ 400 by decide) hr4
        · refine ⟨ps, 3, rfl, b3.st, by decide, by decide, fun H4 v a4 v0 v1 => ⟨by decide, fun r1 hr1 => ⟨by decide, fun r2 hr2 => ?_⟩⟩⟩
          have b4 := b3.trans a4
          have gp4 := a4.same _ _ np gp3
          have b5 := b4.new (o := .lst [V.int v]) hr1
          have gp5 : upd H4 r1 (.lst [V.int v]) p = some (.lst (List.map V.int D)) := by rw [upd_ne (ne_of_none gp4 hr1)]; exact gp4
          have gr1 : upd H4 r1 (.lst [V.int v]) r1 = some (.lst [V.int v]) := upd_same
          have nr1 := b4.st.ne hr1
          generalize upd H4 r1 (.lst [V.int v]) = H5 at b5 gp5 gr1 hr2 ⊢
          have b6 := b5.new (o := .lst [V.int 127, V.int 128, V.int 129, V.int 130, V.int 131, V.int 256, V.int 300]) hr2
          have u6 : ∀ b o, H5 b = some o → upd H5 r2 (.lst [V.int 127, V.int 128, V.int 129, V.int 130, V.int 131, V.int 256, V.int 300]) b = some o := same_upd hr2
          have gr2 : upd H5 r2 (.lst [V.int 127, V.int 128, V.int 129, V.int 130, V.int 131, V.int 256, V.int 300]) r2 = some (.lst [V.int 127, V.int 128, V.int 129, V.int 130, V.int 131, V.int 256, V.int 300]) := upd_same
          have nr2 := b5.st.ne hr2
          have gp6 := u6 _ _ gp5
          have gr16 := u6 _ _ gr1
          generalize upd H5 r2 (.lst [V.int 127, V.int 128, V.int 129, V.int 130, V.int 131, V.int 256, V.int 300]) = H6 at b6 gp6 gr16 gr2 ⊢
          refine ⟨ps, 7, rfl, b6.st, by decide, by decide, fun H7 v2 a7 w2 w3 => ?_⟩
          obtain ⟨y, hy1, hy2⟩ := atI_in (xs := [127, 128, 129, 130, 131, 256, 300]) (k := v2) w2 w3
          have hyB : 0 ≤ y ∧ y ≤ 300 := by
            have := List.mem_of_getElem? hy1
            simp only [List.mem_cons, List.not_mem_nil, or_false] at this
            omega
          have gp7 := a7.same _ _ np gp6
          refine ⟨_, v2, rfl, a7.same _ _ nr2 gr2, _, hy2, y, rfl, _, a7.same _ _ nr1 gr16, by omega, by omega, ?_, fun r3 hr3 => ?_⟩
          · show 1 * y.toNat ≤ sizeLine
            exact Nat.le_trans (show 1 * y.toNat ≤ 300 by omega) (by decide)
          rw [rep_one]
          have hX : Byt (List.replicate y.toNat v) := fun b hb => by rw [List.eq_of_mem_replicate hb]; omega
          have hXl : (List.replicate y.toNat v).length ≤ 400 := by rw [List.length_replicate]; omega
          refine ⟨_, by rw [upd_ne (ne_of_none gp7 hr3)]; exact gp7, siz _ hXl, fun r hr4 => ?_⟩
          exact fin _ _ r ((b6.trans a7).new hr3) hX hXl hr4
        · have e6 : ¬ how = 4 := by have := of_decide_eq_true e3; omega
          rw [decide_eq_false e6]
          refine iteF ?_
          refine ⟨ps, 4, rfl, b3.st, by decide, by decide, fun H4 v a4 v0 v1 => ?_⟩
          refine ⟨ps, 2, rfl, a4.st, by decide, by decide, fun H5 v2 a5 w2 w3 => ?_⟩
          have b5 := (b3.trans a4).trans a5
          have gp5 := a5.same _ _ np (a4.same _ _ np gp3)
          refine ⟨by decide, fun r3 hr3 => ?_⟩
          refine ⟨_, by rw [upd_ne (ne_of_none gp5 hr3)]; exact gp5, siz [v, v2] (show 2 ≤ 400 by decide), fun r hr4 => ?_⟩
          exact fin _ [v, v2] r (b5.new hr3) (byt_app (x := [v]) (byt_one v0 (by omega)) (byt_one w2 (by omega))) (show 2 ≤ 400 by decide) hr4
        · refine ⟨by decide, fun r2 hr2 => ?_⟩
          have b6 := b3.new (o := .lst [V.int 126, V.int 127, V.int 128, V.int 129, V.int 130, V.int 257]) hr2
          have gr2 : upd H3 r2 (.lst [V.int 126, V.int 127, V.int 128, V.int 129, V.int 130, V.int 257]) r2 = some (.lst [V.int 126, V.int 127, V.int 128, V.int 129, V.int 130, V.int 257]) := upd_same
          have nr2 := b3.st.ne hr2
          have gp6 : upd H3 r2 (.lst [V.int 126, V.int 127, V.int 128, V.int 129, V.int 130, V.int 257]) p = some (.lst (List.map V.int D)) := by rw [upd_ne (ne_of_none gp3 hr2)]; exact gp3
          generalize upd H3 r2 (.lst [V.int 126, V.int 127, V.int 128, V.int 129, V.int 130, V.int 257]) = H6 at b6 gp6 gr2 ⊢
          refine ⟨ps, 6, rfl, b6.st, by decide, by decide, fun H7 v2 a7 w2 w3 => ?_⟩
          obtain ⟨y, hy1, hy2⟩ := atI_in (xs := [126, 127, 128, 129, 130, 257]) (k := v2) w2 w3
          have hyB : 0 ≤ y ∧ y ≤ 257 := by
            have := List.mem_of_getElem? hy1
            simp only [List.mem_cons, List.not_mem_nil, or_false] at this
            omega
          have gp7 := a7.same _ _ np gp6
          refine ⟨_, v2, rfl, a7.same _ _ nr2 gr2, _, hy2, y, rfl, by omega, by omega, ?_⟩
          have b7 := b6.trans a7
          refine lc_pure_range (L := fun i => List.map (fun (k : Nat) => V.int ((k : Int) * 7 % 251)) (List.range i)) rfl (fun u E hu hE => ?_) (fun E hE => ?_)
          · walk_at "vc"
            refine ⟨cmul_c (by decide) (by decide), ?_, ?_⟩
            · rw [List.length_map, List.length_range]
              exact Nat.lt_of_le_of_lt (show u ≤ 300 by omega) (by decide)
            · rw [List.range_succ, List.map_append]
              rfl
          · have eX : (List.map (fun k : Nat => V.int ((k : Int) * 7 % 251)) (List.range y.toNat)) = List.map V.int ((List.range y.toNat).map fun k : Nat => (k : Int) * 7 % 251) := by rw [List.map_map]; rfl
            rw [eX]
            have hX : Byt ((List.range y.toNat).map fun k : Nat => (k : Int) * 7 % 251) := fun b hb => by
              obtain ⟨k, _, rfl⟩ := List.mem_map.mp hb
              have := mod_in ((k : Int) * 7) (show (0 : Int) < 251 by decide)
              omega
            have hXl : ((List.range y.toNat).map fun k : Nat => (k : Int) * 7 % 251).length ≤ 400 := by rw [List.length_map, List.length_range]; omega
            generalize ((List.range y.toNat).map fun k : Nat => (k : Int) * 7 % 251) = X at hX hXl ⊢
            refine ⟨E, rfl, _, by rw [upd_ne (ne_of_none gp7 hE)]; exact gp7, _, upd_same, siz _ hXl, fun r hr4 => fin _ _ r (b7.new hE) hX hXl hr4⟩
        · refine ⟨ps, 4, rfl, b3.st, by decide, by decide, fun H4 v a4 v0 v1 => ?_⟩
          refine ⟨ps, 2, rfl, a4.st, by decide, by decide, fun H5 v2 a5 w2 w3 => ?_⟩
          have b5 := (b3.trans a4).trans a5
          have gp5 := a5.same _ _ np (a4.same _ _ np gp3)
          refine ⟨by decide, fun r3 hr3 => ?_⟩
          refine ⟨_, by rw [upd_ne (ne_of_none gp5 hr3)]; exact gp5, siz [v, v2] (show 2 ≤ 400 by decide), fun r hr4 => ?_⟩
          exact fin _ [v, v2] r (b5.new hr3) (byt_app (x := [v]) (byt_one v0 (by omega)) (byt_one w2 (by omega))) (show 2 ≤ 400 by decide) hr4
        · refine ⟨ps, 4, rfl, b3.st, by decide, by decide, fun H4 v a4 v0 v1 => ?_⟩
          refine ⟨ps, 2, rfl, a4.st, by decide, by decide, fun H5 v2 a5 w2 w3 => ?_⟩
          have b5 := (b3.trans a4).trans a5
          have gp5 := a5.same _ _ np (a4.same _ _ np gp3)
          refine ⟨by decide, fun r3 hr3 => ?_⟩
          refine ⟨_, by rw [upd_ne (ne_of_none gp5 hr3)]; exact gp5, siz [v, v2] (show 2 ≤ 400 by decide), fun r hr4 => ?_⟩
          exact fin _ [v, v2] r (b5.new hr3) (byt_app (x := [v]) (byt_one v0 (by omega)) (byt_one w2 (by omega))) (show 2 ≤ 400 by decide) hr4
    · rintro σ H' ⟨p, D, tv, hv, kv, av, rfl, ad, hp, gp, hB, hl⟩
      walk_at "vc"
      refine ⟨_, gp, fun r hr' => ?_⟩
      rw [cut_take]
      exact q _ r (D.take most) (ad.new hr') (ad.free hr') upd_same (fun b hb => hB b (List.mem_of_mem_take hb)) (by rw [List.length_take]; omega)
end

/-! ### runs: writing them, as the law does it, and reading what was written -/
theorem gN_drop {ns : List Int} {i k : Nat} : gN (ns.drop i) k = gN ns (i + k) := by
  unfold gN
  rw [List.getD_eq_getElem?_getD, List.getD_eq_getElem?_getD, List.getElem?_drop]
theorem drop_cons {ns : List Int} {i : Nat} (h : i < ns.length) : ns.drop i = gN ns i :: ns.drop (i + 1) := by
  rw [List.drop_eq_getElem_cons h]
  unfold gN
  rw [List.getD_eq_getElem?_getD, List.getElem?_eq_getElem h]
  rfl
theorem sl_snoc {ns : List Int} {s i : Nat} (h1 : s ≤ i) (h2 : i < ns.length) : sl ns s i ++ [gN ns i] = sl ns s (i + 1) := by
  unfold sl
  rw [show i + 1 - s = (i - s) + 1 by omega, List.take_add_one, List.getElem?_drop, show s + (i - s) = i by omega, List.getElem?_eq_getElem h2]
  unfold gN
  rw [List.getD_eq_getElem?_getD, List.getElem?_eq_getElem h2]
  rfl
theorem sl_self (ns : List Int) (s : Nat) : sl ns s s = [] := by
  unfold sl
  rw [Nat.sub_self, List.take_zero]
theorem sl_app {ns : List Int} {s i j : Nat} (h1 : s ≤ i) (h2 : i ≤ j) : sl ns s j = sl ns s i ++ sl ns i j := by
  unfold sl
  rw [show j - s = (i - s) + (j - i) by omega, List.take_add, List.drop_drop, show s + (i - s) = i by omega]
theorem nE_two {ns : List Int} {i : Nat} (h : three ns i = false) : nE ns i ≤ 2 := by
  unfold nE
  rw [cE]
  split
  · rename_i h1
    rw [cE]
    split
    · rename_i h2
      exfalso
      have a := h1.2.2
      have b := h2.2.2
      have : three ns i = true := by
        unfold three
        rw [Bool.and_eq_true, Bool.and_eq_true]
        exact ⟨⟨decide_eq_true (by omega), decide_eq_true a.symm⟩, decide_eq_true (by rw [a]; exact b.symm)⟩
      rw [this] at h
      cases h
    · exact Nat.le_refl _
  · decide
theorem cE_all {ns : List Int} {i : Nat} : ∀ f m, (∀ j, j < m → gN ns (i + j) = gN ns i) → ∀ j, j < cE ns i f m → gN ns (i + j) = gN ns i
  | 0, _, h => h
  | f + 1, m, h => by
    rw [cE]
    split
    · rename_i h1
      refine cE_all f (m + 1) (fun j hj => ?_)
      by_cases e : j = m
      · rw [e]
        exact h1.2.2
      · exact h j (by omega)
    · exact h
theorem nE_all {ns : List Int} {i : Nat} : ∀ j, j < nE ns i → gN ns (i + j) = gN ns i := cE_all 128 1 (fun j hj => by rw [show j = 0 by omega]; rfl)
theorem rep_sl {ns : List Int} {y : Int} : ∀ (n i : Nat), i + n ≤ ns.length → (∀ j, j < n → gN ns (i + j) = y) → List.replicate n y = sl ns i (i + n)
  | 0, i, _, _ => by rw [Nat.add_zero, sl_self]; rfl
  | n + 1, i, h, e => by
    rw [List.replicate_succ', rep_sl n i (by omega) (fun j hj => e j (by omega)), ← e n (by omega), sl_snoc (by omega) (by omega)]
    rfl
/-- what stands before a flush -/
def fl (kept : List Int) : List Int := if kept = [] then [] else ((kept.length : Int) - 1) :: kept
/-- what the law still puts behind -/
def lw (ns : List Int) : Nat → Nat → List Int → List Int
  | 0, _, kept => fl kept ++ [128]
  | f + 1, i, kept => if i < ns.length then
      (if 2 < nE ns i then fl kept ++ ([257 - (nE ns i : Int), gN ns i] ++ lw ns f (i + nE ns i) [])
       else if kept.length = 128 then fl kept ++ lw ns f (i + 1) [gN ns i] else lw ns f (i + 1) (kept ++ [gN ns i]))
    else fl kept ++ [128]
theorem lw_eq (ns : List Int) : ∀ n i, ns.length - i = n → i ≤ ns.length →
    (∀ f f', n ≤ f → n ≤ f' → lw ns f i [] = toF ns f' i) ∧
    (∀ s m f f', i = s + m → 1 ≤ m → m ≤ 128 → three ns s = false → nU ns s = cU ns s (129 - m) m → n ≤ f → ns.length - s ≤ f' + m → lw ns f i (sl ns s i) = fl (sl ns s (s + nU ns s)) ++ toF ns f' (s + nU ns s)) := by
  intro n
  induction n using Nat.strongRecOn with
  | ind n ih =>
    intro i hn hi
    have hlen : ∀ s m, i = s + m → (sl ns s i).length = m := fun s m e => by rw [sl_len]; omega
    have two : ∀ s m f f', i = s + m → 1 ≤ m → m ≤ 128 → three ns s = false → nU ns s = cU ns s (129 - m) m → n ≤ f → ns.length - s ≤ f' + m → lw ns f i (sl ns s i) = fl (sl ns s (s + nU ns s)) ++ toF ns f' (s + nU ns s) := by
      intro s m f f' es m1 m2 hs hU hf hf'
      have hl := hlen s m es
      obtain ⟨c, hc⟩ : ∃ c, 129 - m = c + 1 := ⟨128 - m, by omega⟩
      rw [hc, cU] at hU
      by_cases hlt : i < ns.length
      · obtain ⟨f0, rfl⟩ : ∃ f0, f = f0 + 1 := ⟨f - 1, by omega⟩
        obtain ⟨g0, rfl⟩ : ∃ g0, f' = g0 + 1 := ⟨f' - 1, by omega⟩
        rw [lw, if_pos hlt]
        cases h3 : three ns i with
        | true =>
          have hE := nE_three h3
          rw [if_pos (by omega)]
          rw [if_neg (by rw [← es, h3]; intro z; cases z.2.2)] at hU
          rw [hU, ← es, toF, if_pos hlt, if_pos h3]
          rw [(ih (ns.length - (i + nE ns i)) (by omega) (i + nE ns i) rfl hE.2.2).1 f0 g0 (by omega) (by omega)]
        | false =>
          have hE := nE_two h3
          rw [if_neg (by omega), hl]
          by_cases e128 : m = 128
          · rw [if_pos e128]
            rw [if_neg (by omega)] at hU
            rw [hU, ← es]
            have := (ih (ns.length - (i + 1)) (by omega) (i + 1) rfl (by omega)).2 i 1 f0 g0 rfl (by decide) (by decide) h3 rfl (by omega) (by omega)
            rw [← sl_snoc (Nat.le_refl i) hlt, sl_self, List.nil_append] at this
            rw [this, toF, if_pos hlt, if_neg (by rw [h3]; decide)]
            have hU2 := nU_rng hlt
            have hsl : (sl ns i (i + nU ns i)).length = nU ns i := by rw [sl_len]; omega
            rw [show fl (sl ns i (i + nU ns i)) = (((sl ns i (i + nU ns i)).length : Int) - 1) :: sl ns i (i + nU ns i) from if_neg (fun z => by rw [z] at hsl; simp at hsl; omega)]
          · rw [if_neg e128, sl_snoc (by omega) hlt]
            rw [if_pos ⟨by omega, by omega, by rw [← es]; exact h3⟩] at hU
            exact (ih (ns.length - (i + 1)) (by omega) (i + 1) rfl (by omega)).2 s (m + 1) f0 (g0 + 1) (by omega) (by omega) (by omega) hs (by rw [hU, show 129 - (m + 1) = c by omega]) (by omega) (by omega)
      · have hU' : nU ns s = m := by rw [hU, if_neg (by omega)]
        rw [hU', ← es]
        have e1 : lw ns f i (sl ns s i) = fl (sl ns s i) ++ [128] := by
          cases f with
          | zero => rfl
          | succ f0 => rw [lw, if_neg hlt]
        have e2 : toF ns f' i = [128] := by
          cases f' with
          | zero => rfl
          | succ f0 => rw [toF, if_neg hlt]
        rw [e1, e2]
    refine ⟨fun f f' hf hf' => ?_, two⟩
    by_cases hlt : i < ns.length
    · obtain ⟨f0, rfl⟩ : ∃ f0, f = f0 + 1 := ⟨f - 1, by omega⟩
      obtain ⟨g0, rfl⟩ : ∃ g0, f' = g0 + 1 := ⟨f' - 1, by omega⟩
      rw [lw, if_pos hlt]
      cases h3 : three ns i with
      | true =>
        have hE := nE_three h3
        rw [if_pos (by omega), toF, if_pos hlt, if_pos h3]
        rw [(ih (ns.length - (i + nE ns i)) (by omega) (i + nE ns i) rfl hE.2.2).1 f0 g0 (by omega) (by omega)]
        rfl
      | false =>
        have hE := nE_two h3
        rw [if_neg (by omega), if_neg (by decide)]
        have := (ih (ns.length - (i + 1)) (by omega) (i + 1) rfl (by omega)).2 i 1 f0 g0 rfl (by decide) (by decide) h3 rfl (by omega) (by omega)
        rw [← sl_snoc (Nat.le_refl i) hlt, sl_self, List.nil_append] at this
        rw [List.nil_append, this, toF, if_pos hlt, if_neg (by rw [h3]; decide)]
        have hU2 := nU_rng hlt
        have hsl : (sl ns i (i + nU ns i)).length = nU ns i := by rw [sl_len]; omega
        rw [show fl (sl ns i (i + nU ns i)) = (((sl ns i (i + nU ns i)).length : Int) - 1) :: sl ns i (i + nU ns i) from if_neg (fun z => by rw [z] at hsl; simp at hsl; omega)]
    · have e1 : lw ns f i [] = [128] := by
        cases f with
        | zero => rfl
        | succ f0 => rw [lw, if_neg hlt]; rfl
      have e2 : toF ns f' i = [128] := by
        cases f' with
        | zero => rfl
        | succ f0 => rw [toF, if_neg hlt]
      rw [e1, e2]
theorem lw_toR (ns : List Int) : lw ns (ns.length + 1) 0 [] = toR ns := (lw_eq ns ns.length 0 (by omega) (Nat.zero_le _)).1 _ _ (by omega) (Nat.le_refl _)
/-- reading what was written: as much as there is work for -/
theorem rd_toF (ns W : List Int) : ∀ f i a left fs k, W.drop a = toF ns f i → i ≤ ns.length → ns.length - i ≤ f → 0 ≤ left → W.length - a ≤ k →
    ∃ n r, n ≤ ns.length - i ∧ rd W k a left fs = (fs ++ sl ns i (i + n), r) ∧ ((ns.length - i : Nat) ≤ left → n = ns.length - i ∧ r = left - (ns.length - i : Nat)) ∧ (left < (ns.length - i : Nat) → n < ns.length - i ∧ r = 0) := by
  intro f
  have stop : ∀ i a left fs k, W.drop a = [128] → ns.length ≤ i → W.length - a ≤ k → rd W k a left fs = (fs, left) := by
    intro i a left fs k hW hi hk
    have hl := congrArg List.length hW
    rw [List.length_drop, List.length_singleton] at hl
    obtain ⟨k0, rfl⟩ : ∃ k0, k = k0 + 1 := ⟨k - 1, by omega⟩
    rw [rd, if_pos (by omega), if_pos]
    have := gN_drop (ns := W) (i := a) (k := 0)
    rw [hW] at this
    exact this.symm
  induction f with
  | zero =>
    intro i a left fs k hW hi hf hl hk
    refine ⟨0, left, Nat.zero_le _, ?_, fun _ => ⟨by omega, by omega⟩, fun z => by omega⟩
    rw [Nat.add_zero, sl_self, List.append_nil]
    exact stop i a left fs k hW (by omega) hk
  | succ f ih =>
    intro i a left fs k hW hi hf hl hk
    rw [toF] at hW
    by_cases hlt : i < ns.length
    · rw [if_pos hlt] at hW
      -- a piece: its first byte is no end, its bytes are the next n ones
      have step : ∀ n, 1 ≤ n → i + n ≤ ns.length → gN W a ≠ 128 → a < W.length → pcB W a = sl ns i (i + n) → W.drop (pcE W a) = toF ns f (i + n) → a < pcE W a →
          ∃ n r, n ≤ ns.length - i ∧ rd W k a left fs = (fs ++ sl ns i (i + n), r) ∧ ((ns.length - i : Nat) ≤ left → n = ns.length - i ∧ r = left - (ns.length - i : Nat)) ∧ (left < (ns.length - i : Nat) → n < ns.length - i ∧ r = 0) := by
        intro n n1 n2 hg ha hB hE hp
        obtain ⟨k0, rfl⟩ : ∃ k0, k = k0 + 1 := ⟨k - 1, by omega⟩
        have hpl : (pcB W a).length = n := by rw [hB, sl_len]; omega
        rw [rd, if_pos ha, if_neg hg, hpl]
        by_cases hlt2 : left < n
        · rw [if_pos hlt2]
          refine ⟨0, 0, Nat.zero_le _, by rw [Nat.add_zero, sl_self, List.append_nil], fun z => by omega, fun _ => ⟨by omega, rfl⟩⟩
        · rw [if_neg hlt2]
          obtain ⟨m, r, h1, h2, h3, h4⟩ := ih (i + n) (pcE W a) (left - n) (fs ++ pcB W a) k0 hE n2 (by omega) (by omega) (by omega)
          refine ⟨n + m, r, by omega, ?_, fun z => ?_, fun z => ?_⟩
          · rw [h2, hB, List.append_assoc, ← sl_app (by omega) (by omega)]
            rw [Nat.add_assoc]
          · have := h3 (by omega)
            omega
          · have := h4 (by omega)
            omega
      have hlW : a < W.length := by
        have := congrArg List.length hW
        rw [List.length_drop] at this
        split at this <;> · rw [List.length_append, List.length_cons] at this; omega
      cases h3 : three ns i with
      | true =>
        rw [if_pos h3] at hW
        have hE := nE_three h3
        have g0 : gN W a = 257 - (nE ns i : Int) := by
          have := gN_drop (ns := W) (i := a) (k := 0)
          rw [hW] at this
          exact this.symm
        have d1 : W.drop (a + 1) = gN ns i :: toF ns f (i + nE ns i) := by
          rw [← List.drop_drop, hW]
          rfl
        have d2 : W.drop (a + 2) = toF ns f (i + nE ns i) := by
          rw [← List.drop_drop, hW]
          rfl
        have eB : pcB W a = sl ns i (i + nE ns i) := by
          unfold pcB
          rw [if_neg (by omega), if_neg (by omega), g0]
          rw [show (257 - (257 - (nE ns i : Int))).toNat = nE ns i by omega]
          rw [← rep_sl (nE ns i) i hE.2.2 nE_all]
          unfold sl
          rw [d1, show a + 2 - (a + 1) = 1 by omega]
          simp
        have eE : pcE W a = a + 2 := by
          unfold pcE
          rw [if_neg (by omega), if_neg (by omega)]
        exact step (nE ns i) (by omega) hE.2.2 (by omega) hlW eB (by rw [eE]; exact d2) (by omega)
      | false =>
        rw [if_neg (by rw [h3]; decide)] at hW
        have hU := nU_rng hlt
        have hsl : (sl ns i (i + nU ns i)).length = nU ns i := by rw [sl_len]; omega
        have g0 : gN W a = (nU ns i : Int) - 1 := by
          have := gN_drop (ns := W) (i := a) (k := 0)
          rw [hW, hsl] at this
          exact this.symm
        have d1 : W.drop (a + 1) = sl ns i (i + nU ns i) ++ toF ns f (i + nU ns i) := by
          rw [← List.drop_drop, hW]
          rfl
        have d2 : W.drop (a + (nU ns i + 1)) = toF ns f (i + nU ns i) := by
          rw [show a + (nU ns i + 1) = a + 1 + nU ns i by omega, ← List.drop_drop, d1, List.drop_left' hsl]
        have eN : a + (gN W a).toNat + 2 = a + (nU ns i + 1) := by rw [g0]; omega
        have eB : pcB W a = sl ns i (i + nU ns i) := by
          unfold pcB
          rw [if_neg (by omega), if_pos (by omega), eN]
          rw [show sl W (a + 1) (a + (nU ns i + 1)) = (W.drop (a + 1)).take (nU ns i) by unfold sl; congr 1; omega]
          rw [d1, List.take_left' hsl]
        have eE : pcE W a = a + (nU ns i + 1) := by
          unfold pcE
          rw [if_neg (by omega), if_pos (by omega), eN]
        exact step (nU ns i) hU.1 hU.2.2 (by omega) hlW eB (by rw [eE]; exact d2) (by omega)
    · rw [if_neg hlt] at hW
      refine ⟨0, left, Nat.zero_le _, ?_, fun _ => ⟨by omega, by omega⟩, fun z => by omega⟩
      rw [Nat.add_zero, sl_self, List.append_nil]
      exact stop i a left fs k hW (by omega) hk
theorem sl_zero (ns : List Int) (n : Nat) : sl ns 0 n = ns.take n := rfl
theorem frR_all (ns : List Int) (more : Int) (h : 0 ≤ more) : frR (toR ns) ((toR ns).length + ns.length + more) = (ns, more) := by
  unfold frR
  rw [if_neg (by omega)]
  obtain ⟨n, r, h1, h2, h3, _⟩ := rd_toF ns (toR ns) ns.length 0 0 ((toR ns).length + ns.length + more - (toR ns).length) [] (toR ns).length rfl (Nat.zero_le _) (by omega) (by omega) (by omega)
  have h4 := h3 (by omega)
  rw [h2, h4.1, List.nil_append, Nat.zero_add, sl_zero, List.take_of_length_le (by omega), h4.2]
  congr 1
  omega
theorem frR_less (ns : List Int) : ∃ n, frR (toR ns) ((toR ns).length + ns.length - 1) = (ns.take n, 0) ∧ n ≤ ns.length ∧ (n < ns.length ∨ ns.length = 0) := by
  unfold frR
  have hR := toR_len ns
  by_cases e : ns.length = 0
  · rw [if_pos (by omega)]
    exact ⟨0, rfl, by omega, .inr e⟩
  rw [if_neg (by omega)]
  obtain ⟨n, r, h1, h2, _, h3⟩ := rd_toF ns (toR ns) ns.length 0 0 ((toR ns).length + ns.length - 1 - (toR ns).length) [] (toR ns).length rfl (Nat.zero_le _) (by omega) (by omega) (by omega)
  have h4 := h3 (by omega)
  rw [h2, List.nil_append, Nat.zero_add, sl_zero, h4.2]
  exact ⟨n, rfl, by omega, .inl (by omega)⟩

section
variable {P : Program} {w : World} {K : PySem.W.Frag} {mg : Str → Option Value} {base : Heap}
theorem ok__law_row (T : Txt K mg) : FnOk P w K mg base CX0 1 T.f__law_row T.fd__law_row ["data", "at"] (spCount nE) := by
  refine T.F__law_row.ok sc__law_row (fun vs H Q E h => ?_) (fun cdv A outer s H vs Q E hr h => ?_)
  · obtain ⟨a, ns, i, rfl, _⟩ := h
    rfl
  · obtain ⟨a, ns, i, rfl, ha, hi, hn, q⟩ := h
    refine ⟨_, (pss_cons (ps_set (i := 2) sc__law_row.nd rfl (Or.inl rfl) pe_int)
      (pss_cons (ps_for PassesOwn.never rfl (pi_range2 (by rfl) T.z_range (pa_cons (pe_op op_add (pv 1) pe_int) (pa_cons (pe_callB (call_min2 rfl) (by rfl) T.z_min (by decide +kernel) (pa_cons (pe_callB call_lenH (by rfl) T.z_len PySem.boot_len (pa_cons (pv 0) pa_nil)) (pa_cons (pe_op op_add (pv 1) pe_int) pa_nil))) pa_nil))) (pg_name (i := 3) sc__law_row.nd rfl (Or.inl rfl)) (pss_cons (ps_if (pt_cmpR op_ne (pe_ix ix_listH (pv 0) (pv 3) (fun _ _ => rfl)) (pe_ix ix_listH (pv 0) (pv 1) (fun _ _ => rfl)) (nomark _)) (pss_one ps_break) pss_nil)
      (pss_one (ps_set (i := 2) sc__law_row.nd rfl (Or.inl rfl) (pe_op op_add (pv 2) pe_int)))))
      (pss_one (ps_ret (pv 2))))), ?_⟩
    walk_at "vc"
    simp only [ha]
    walk_at "vc"
    rw [List.length_map]
    obtain ⟨n, hn1, hn2⟩ : ∃ n : Nat, ((if (i : Int) + 128 < (ns.length : Int) then (i : Int) + 128 else (ns.length : Int)) - ((i : Int) + 1)).toNat = n ∧ (n = 127 ∧ i + n + 1 ≤ ns.length ∨ n ≤ 127 ∧ i + n + 1 = ns.length) := ⟨_, rfl, by split <;> omega⟩
    refine ⟨by omega, by omega, by split <;> omega, by split <;> omega, ?_⟩
    rw [hn1]
    refine for_range (lo := (i : Int) + 1) (fun t σ H' => ∃ kv : Option V, σ = [some (.ref a), some (.int (i : Int)), some (.int ((t : Int) + 1)), kv] ∧ H' = H ∧ nE ns i = cE ns i (128 - t) (t + 1)) ⟨none, by rfl, rfl, rfl⟩ ?_ ?_
    · rintro t σ H' ht ⟨kv, rfl, rfl, hE⟩
      obtain ⟨c, hc⟩ : ∃ c, 128 - t = c + 1 := ⟨127 - t, by omega⟩
      rw [hc, cE] at hE
      walk_at "vc"
      simp only [ha]
      walk_at "vc"
      refine ⟨_, at_g' (i := i + (t + 1)) (by omega) (by omega), _, at_g hi, ?_⟩
      refine ⟨rfl, ite2 (fun e => ?_) (fun e => ?_)⟩
      · have e1 : ¬ gN ns (i + (t + 1)) = gN ns i := fun z => by rw [z] at e; simp at e
        rw [if_neg (fun z => e1 z.2.2)] at hE
        rw [hE] at q
        exact q
      · have e1 : gN ns (i + (t + 1)) = gN ns i := by
          apply Classical.byContradiction
          intro z
          simp [z] at e
        rw [if_pos ⟨by omega, by omega, e1⟩] at hE
        rw [hE]
        congr 1
        omega
    · rintro σ H' ⟨kv, rfl, rfl, hE⟩
      obtain ⟨c, hc⟩ : ∃ c, 128 - n = c + 1 := ⟨127 - n, by omega⟩
      rw [hc, cE, if_neg (by omega)] at hE
      walk_at "vc"
      rw [hE] at q
      exact q
theorem iteT' {c : Bool} {a b : Prop} (h : c = true) (x : a) : if c = true then a else b := by rw [if_pos h]; exact x
theorem iteF' {c : Bool} {a b : Prop} (h : c = false) (x : b) : if c = true then a else b := by rw [if_neg (by rw [h]; decide)]; exact x
theorem Adv.ofSame {ps : Addr} {H H' : Hp} (h : DrawSt ps H) (s : Same H H') : Adv ps H H' := by
  obtain ⟨x, y, h1, h2⟩ := h
  exact ⟨⟨x, y, s _ _ h1, h2⟩, fun b o _ e => s b o e⟩
theorem same_upd3 {H H' : Hp} {q : Addr} {o : HO} (s : Same H H') (h : H q = none) : Same H (upd H' q o) := fun b x e => by
  rw [upd_ne (ne_of_none e h)]
  exact s b x e
theorem ok__law_due (T : Txt K mg) : FnOk P w K mg base CX0 2 T.f__law_due T.fd__law_due ["data"] spToRuns := by
  refine T.F__law_due.ok sc__law_due (fun vs H Q E h => ?_) (fun cdv A outer s H vs Q E hr h => ?_)
  · obtain ⟨a, ns, rfl, _⟩ := h
    rfl
  · obtain ⟨a, ns, rfl, ha, hB, hn, q⟩ := h
    refine ⟨_, (pss_cons (ps_set (i := 1) sc__law_due.nd rfl (Or.inl rfl) (pe_lst pa_nil))
      (pss_cons (ps_set (i := 2) sc__law_due.nd rfl (Or.inl rfl) (pe_lst pa_nil))
      (pss_cons (ps_set (i := 3) sc__law_due.nd rfl (Or.inl rfl) pe_int)
      (pss_cons (ps_for PassesOwn.never rfl (pi_range1 (by rfl) T.z_range (pa_cons (pe_op op_add (pe_callB call_lenH (by rfl) T.z_len PySem.boot_len (pa_cons (pv 0) pa_nil)) pe_int) pa_nil)) (pg_name (i := 4) sc__law_due.nd rfl (Or.inl rfl)) (pss_cons (ps_if (pt_cmpR op_ge (pv 3) (pe_callB call_lenH (by rfl) T.z_len PySem.boot_len (pa_cons (pv 0) pa_nil)) (nomark _)) (pss_one ps_break) pss_nil)
      (pss_cons (ps_set (i := 5) sc__law_due.nd rfl (Or.inl rfl) (pe_call (ok__law_row T) hr (by rfl) T.g__law_row T.F__law_row.kp T.b__law_row .nil pass0 (pa_cons (pv 0) (pa_cons (pv 3) pa_nil))))
      (pss_cons (ps_if (PW.pt (pw_or (pt_cmpR op_gt (pv 5) pe_int (nomark _)) (pw_or1 (pt_cmpR op_eq (pe_callB call_lenH (by rfl) T.z_len PySem.boot_len (pa_cons (pv 2) pa_nil)) pe_int (nomark _))))) (pss_one (ps_if (pt_cmpR op_gt (pe_callB call_lenH (by rfl) T.z_len PySem.boot_len (pa_cons (pv 2) pa_nil)) pe_int (nomark _)) (pss_cons (ps_set (i := 1) sc__law_due.nd rfl (Or.inl rfl) (pe_op op_cat (pe_op op_cat (pv 1) (pe_lst (pa_cons (pe_op op_sub (pe_callB call_lenH (by rfl) T.z_len PySem.boot_len (pa_cons (pv 2) pa_nil)) pe_int) pa_nil))) (pv 2)))
      (pss_one (ps_set (i := 2) sc__law_due.nd rfl (Or.inl rfl) (pe_lst pa_nil)))) pss_nil)) pss_nil)
      (pss_one (ps_if (pt_cmpR op_gt (pv 5) pe_int (nomark _)) (pss_cons (ps_set (i := 1) sc__law_due.nd rfl (Or.inl rfl) (pe_op op_cat (pv 1) (pe_lst (pa_cons (pe_op op_sub pe_int (pv 5)) (pa_cons (pe_ix ix_listH (pv 0) (pv 3) (fun _ _ => rfl)) pa_nil)))))
      (pss_one (ps_set (i := 3) sc__law_due.nd rfl (Or.inl rfl) (pe_op op_add (pv 3) (pv 5))))) (pss_cons (ps_expr (pe_bm PySem.F.plainAttrs_list PySem.F.slot_list_append PySem.F.type_list_append mt_append (pv 2) (pa_cons (pe_ix ix_listH (pv 0) (pv 3) (fun _ _ => rfl)) pa_nil)))
      (pss_one (ps_set (i := 3) sc__law_due.nd rfl (Or.inl rfl) (pe_op op_add (pv 3) pe_int))))))))))
      (pss_cons (ps_if (pt_cmpR op_gt (pe_callB call_lenH (by rfl) T.z_len PySem.boot_len (pa_cons (pv 2) pa_nil)) pe_int (nomark _)) (pss_one (ps_set (i := 1) sc__law_due.nd rfl (Or.inl rfl) (pe_op op_cat (pe_op op_cat (pv 1) (pe_lst (pa_cons (pe_op op_sub (pe_callB call_lenH (by rfl) T.z_len PySem.boot_len (pa_cons (pv 2) pa_nil)) pe_int) pa_nil))) (pv 2)))) pss_nil)
      (pss_one (ps_ret (pe_op op_cat (pv 1) (pe_lst (pa_cons pe_int pa_nil)))))))))), ?_⟩
    walk_at "vc"
    intro p0 hp0
    have s0 := same_upd (o := .lst []) hp0
    intro k0 hk0
    have s1 := s0.trans (same_upd (o := .lst []) hk0)
    have n0 : p0 ≠ k0 := ne_of_none upd_same hk0
    have f0 := s0.free hk0
    refine ⟨_, s1 _ _ ha, by omega, by rw [List.length_map]; omega, ?_⟩
    rw [List.length_map]
    have hRl := toR_len ns
    have retp : ∀ (H2 : Hp) (pf2 : Addr) (fs2 : List Int), Same H H2 → H pf2 = none → H2 pf2 = some (.lst (List.map V.int fs2)) → fs2 ++ [128] = toR ns →
        (1 ≤ sizeLine ∧ ∀ (p : Addr), H2 p = none → ∃ x, upd H2 p (HO.lst [V.int 128]) pf2 = some (HO.lst x) ∧ x.length + 1 ≤ sizeLine ∧ ∀ (p_1 : Addr), upd H2 p (HO.lst [V.int 128]) p_1 = none → Q (V.ref p_1) (upd (upd H2 p (HO.lst [V.int 128])) p_1 (HO.lst (x ++ [V.int 128])))) := fun H2 pf2 fs2 sm2 hpf2 g2 eR => by
      have hfl := congrArg List.length eR
      rw [List.length_append, List.length_singleton] at hfl
      refine ⟨by decide, fun p hp => ⟨_, same_upd hp _ _ g2, ?_, fun p1 hp1 => ?_⟩⟩
      · rw [List.length_map]
        exact Nat.le_trans (show fs2.length + 1 ≤ 100000 by omega) (by decide)
      · have s5 := sm2.trans (same_upd (o := .lst [V.int 128]) hp)
        refine q _ p1 (s5.trans (same_upd hp1)) (s5.free hp1) ?_
        rw [upd_same, ← eR, List.map_append]
        rfl
    refine lp_range (fun t σ H' => ∃ (pf pk : Addr) (fs ks : List Int) (i : Nat) (tv cv : Option V), σ = [some (.ref a), some (.ref pf), some (.ref pk), some (.int (i : Int)), tv, cv] ∧ Same H H' ∧ H pf = none ∧ H pk = none ∧ pf ≠ pk ∧ H' pf = some (.lst (List.map V.int fs)) ∧ H' pk = some (.lst (List.map V.int ks)) ∧ ks.length ≤ 128 ∧ i ≤ ns.length ∧ fs ++ lw ns (ns.length + 1 - t) i ks = toR ns)
      ⟨p0, k0, [], [], 0, none, none, rfl, s1, hp0, f0, n0, by rw [upd_ne n0]; exact upd_same, upd_same, by decide, Nat.zero_le _, lw_toR ns⟩ ?_ ?_
    · rintro t σ H' ht ⟨pf, pk, fs, ks, i, tv, cv, rfl, sm, hpf, hpk, npk, gf, gk, hk, hi, hR⟩
      have ha' := sm _ _ ha
      have hfl := congrArg List.length hR
      rw [List.length_append] at hfl
      walk_at "vc"
      simp only [ha']
      walk_at "vc"
      rw [List.length_map]
      obtain ⟨f, hf⟩ : ∃ f, ns.length + 1 - t = f + 1 := ⟨ns.length - t, by omega⟩
      have hf2 : ns.length + 1 - (t + 1) = f := by omega
      rw [hf, lw] at hR
      have hfll : (fl ks).length ≤ ks.length + 1 := by
        unfold fl
        split
        · exact Nat.zero_le _
        · exact Nat.le_refl _
      refine ite2 (fun e2 => ?_) (fun e2 => ?_)
      · have e3 : ¬ i < ns.length := by have := of_decide_eq_true e2; omega
        rw [if_neg e3] at hR
        refine ⟨_, gk, ?_⟩
        rw [List.length_map]
        refine ite2 (fun e4 => ?_) (fun e4 => ?_)
        · have e5 := of_decide_eq_true e4
          refine ⟨_, gk, by decide, fun r1 hr1 => ⟨_, same_upd hr1 _ _ gf, ?_, fun r2 hr2 => ⟨_, same_upd hr2 _ _ (same_upd hr1 _ _ gk), ?_, fun r3 hr3 => ?_⟩⟩⟩
          · rw [List.length_map]
            exact Nat.le_trans (show fs.length + 1 ≤ 100000 by omega) (by decide)
          · rw [List.length_append, List.length_map, List.length_map]
            exact Nat.le_trans (show fs.length + 1 + ks.length ≤ 100000 by omega) (by decide)
          rw [List.length_map] at hr2 hr3 ⊢
          have s3 := (same_upd hr1 (o := .lst [V.int ((ks.length : Int) - 1)])).trans ((same_upd hr2 (o := .lst (List.map V.int fs ++ [V.int ((ks.length : Int) - 1)]))).trans (same_upd hr3 (o := .lst (List.map V.int fs ++ [V.int ((ks.length : Int) - 1)] ++ List.map V.int ks))))
          have fr3 : H r3 = none := (sm.trans ((same_upd hr1 (o := .lst [V.int ((ks.length : Int) - 1)])).trans (same_upd hr2 (o := .lst (List.map V.int fs ++ [V.int ((ks.length : Int) - 1)]))))).free hr3
          have gr3 : ∀ Hx : Hp, upd Hx r3 (.lst (List.map V.int fs ++ [V.int ((ks.length : Int) - 1)] ++ List.map V.int ks)) r3 = some (.lst (List.map V.int (fs ++ fl ks))) := fun Hx => by
            rw [upd_same, show fl ks = ((ks.length : Int) - 1) :: ks from if_neg (fun z => by rw [z] at e5; simp at e5), List.map_append, List.append_assoc]
            rfl
          replace gr3 := gr3 (upd (upd H' r1 (.lst [V.int ((ks.length : Int) - 1)])) r2 (.lst (List.map V.int fs ++ [V.int ((ks.length : Int) - 1)])))
          have n3 : r3 ≠ pk := fun z => by rw [z, same_upd hr2 _ _ (same_upd hr1 _ _ gk)] at hr3; cases hr3
          generalize upd (upd (upd H' r1 (.lst [V.int ((ks.length : Int) - 1)])) r2 (.lst (List.map V.int fs ++ [V.int ((ks.length : Int) - 1)]))) r3 (.lst (List.map V.int fs ++ [V.int ((ks.length : Int) - 1)] ++ List.map V.int ks)) = H3 at s3 gr3 ⊢
          exact retp H3 r3 _ (sm.trans s3) fr3 gr3 (by rw [← hR, List.append_assoc])
        · have e5 : ¬ ((0 : Int) < ks.length) := fun z => e4 (decide_eq_true z)
          have e6 : ks = [] := List.eq_nil_of_length_eq_zero (by omega)
          have e7 : fl ks = [] := by rw [e6]; rfl
          exact retp H' pf _ sm hpf gf (by rw [← hR, e7]; rfl)

      have e3 : i < ns.length := by
        have : ¬ ((ns.length : Int) ≤ (i : Int)) := fun z => e2 (decide_eq_true z)
        omega
      rw [if_pos e3] at hR
      refine ⟨a, ns, i, rfl, ha', e3, hn, ?_⟩
      walk_at "vc"
      by_cases h2 : 2 < nE ns i
      · have h3 : three ns i = true := by
          cases e : three ns i with
          | true => rfl
          | false => have := nE_two e; omega
        rw [if_pos h2] at hR
        refine iteT' (decide_eq_true (by omega)) ?_
        refine ⟨_, gk, ?_⟩
        rw [List.length_map]
        refine ite2 (fun e4 => ?_) (fun e4 => ?_)
        · have e5 := of_decide_eq_true e4
          refine ⟨_, gk, by decide, fun r1 hr1 => ⟨_, same_upd hr1 _ _ gf, ?_, fun r2 hr2 => ⟨_, same_upd hr2 _ _ (same_upd hr1 _ _ gk), ?_, fun r3 hr3 => ?_⟩⟩⟩
          · rw [List.length_map]
            exact Nat.le_trans (show fs.length + 1 ≤ 100000 by omega) (by decide)
          · rw [List.length_append, List.length_map, List.length_map]
            exact Nat.le_trans (show fs.length + 1 + ks.length ≤ 100000 by omega) (by decide)
          rw [List.length_map] at hr2 hr3 ⊢
          have s3 := (same_upd hr1 (o := .lst [V.int ((ks.length : Int) - 1)])).trans ((same_upd hr2 (o := .lst (List.map V.int fs ++ [V.int ((ks.length : Int) - 1)]))).trans (same_upd hr3 (o := .lst (List.map V.int fs ++ [V.int ((ks.length : Int) - 1)] ++ List.map V.int ks))))
          have fr3 : H r3 = none := (sm.trans ((same_upd hr1 (o := .lst [V.int ((ks.length : Int) - 1)])).trans (same_upd hr2 (o := .lst (List.map V.int fs ++ [V.int ((ks.length : Int) - 1)]))))).free hr3
          have gr3 : ∀ Hx : Hp, upd Hx r3 (.lst (List.map V.int fs ++ [V.int ((ks.length : Int) - 1)] ++ List.map V.int ks)) r3 = some (.lst (List.map V.int (fs ++ fl ks))) := fun Hx => by
            rw [upd_same, show fl ks = ((ks.length : Int) - 1) :: ks from if_neg (fun z => by rw [z] at e5; simp at e5), List.map_append, List.append_assoc]
            rfl
          replace gr3 := gr3 (upd (upd H' r1 (.lst [V.int ((ks.length : Int) - 1)])) r2 (.lst (List.map V.int fs ++ [V.int ((ks.length : Int) - 1)])))
          have n3 : r3 ≠ pk := fun z => by rw [z, same_upd hr2 _ _ (same_upd hr1 _ _ gk)] at hr3; cases hr3
          generalize upd (upd (upd H' r1 (.lst [V.int ((ks.length : Int) - 1)])) r2 (.lst (List.map V.int fs ++ [V.int ((ks.length : Int) - 1)]))) r3 (.lst (List.map V.int fs ++ [V.int ((ks.length : Int) - 1)] ++ List.map V.int ks)) = H3 at s3 gr3 ⊢
          intro r4 hr4
          have s4 := s3.trans (same_upd (o := .lst []) hr4)
          have fr4 : H r4 = none := (sm.trans s3).free hr4
          have n4 : r3 ≠ r4 := ne_of_none gr3 hr4
          have gr4 : upd H3 r4 (.lst []) r3 = some (.lst (List.map V.int (fs ++ fl ks))) := by rw [upd_ne n4]; exact gr3
          have gk4 : upd H3 r4 (.lst []) r4 = some (.lst (List.map V.int [])) := upd_same
          generalize upd H3 r4 (.lst []) = H4 at s4 gr4 gk4 ⊢
          have s44 := sm.trans s4
          refine iteT' (decide_eq_true (by omega)) ?_
          refine ⟨_, s44 _ _ ha, _, at_g e3, by decide, fun r5 hr5 => ⟨_, same_upd hr5 _ _ gr4, ?_, fun r6 hr6 => ?_⟩⟩
          · rw [List.length_map]
            exact Nat.le_trans (show (fs ++ fl ks).length + 2 ≤ 100000 by rw [List.length_append]; omega) (by decide)
          have s6 := (same_upd hr5 (o := .lst [V.int (257 - (nE ns i : Int)), V.int (gN ns i)])).trans (same_upd hr6 (o := .lst (List.map V.int (fs ++ fl ks) ++ [V.int (257 - (nE ns i : Int)), V.int (gN ns i)])))
          have f6 : H r6 = none := (s44.trans (same_upd hr5 (o := .lst [V.int (257 - (nE ns i : Int)), V.int (gN ns i)]))).free hr6
          have n6 : r6 ≠ r4 := fun z => by rw [z, same_upd hr5 _ _ gk4] at hr6; cases hr6
          have hE := nE_three h3
          refine ⟨(fs ++ fl ks) ++ [257 - (nE ns i : Int), gN ns i], [], i + nE ns i, rfl, s44.trans s6, f6, fr4, n6, ?_, s6 _ _ gk4, by decide, hE.2.2, ?_⟩
          · simp only [List.map_append, List.map_cons, List.map_nil]
          · rw [hf2, ← hR]
            rw [List.append_assoc, List.append_assoc]
        · have e5 : ¬ ((0 : Int) < ks.length) := fun z => e4 (decide_eq_true z)
          have e6 : ks = [] := List.eq_nil_of_length_eq_zero (by omega)
          have e7 : fl ks = [] := by rw [e6]; rfl
          refine iteT' (decide_eq_true (by omega)) ?_
          refine ⟨_, sm _ _ ha, _, at_g e3, by decide, fun r5 hr5 => ⟨_, same_upd hr5 _ _ gf, ?_, fun r6 hr6 => ?_⟩⟩
          · rw [List.length_map]
            exact Nat.le_trans (show fs.length + 2 ≤ 100000 by omega) (by decide)
          have s6 := (same_upd hr5 (o := .lst [V.int (257 - (nE ns i : Int)), V.int (gN ns i)])).trans (same_upd hr6 (o := .lst (List.map V.int fs ++ [V.int (257 - (nE ns i : Int)), V.int (gN ns i)])))
          have f6 : H r6 = none := (sm.trans (same_upd hr5 (o := .lst [V.int (257 - (nE ns i : Int)), V.int (gN ns i)]))).free hr6
          have n6 : r6 ≠ pk := fun z => by rw [z, same_upd hr5 _ _ gk] at hr6; cases hr6
          have hE := nE_three h3
          refine ⟨fs ++ [257 - (nE ns i : Int), gN ns i], [], i + nE ns i, rfl, sm.trans s6, f6, hpk, n6, ?_, s6 _ _ (by rw [e6] at gk; exact gk), by decide, hE.2.2, ?_⟩
          · simp only [List.map_append, List.map_cons, List.map_nil]
          · rw [hf2, ← hR]
            rw [e7, List.nil_append, List.append_assoc]
      rw [if_neg h2] at hR
      refine iteF' (decide_eq_false (by omega)) ?_
      refine ⟨_, gk, ?_⟩
      rw [List.length_map]
      refine ite2 (fun e8 => ?_) (fun e8 => ?_)
      · have h8 : ks.length = 128 := by have := of_decide_eq_true e8; omega
        rw [if_pos h8] at hR
        refine ⟨_, gk, ?_⟩
        rw [List.length_map]
        refine ite2 (fun e4 => ?_) (fun e4 => ?_)
        · have e5 := of_decide_eq_true e4
          refine ⟨_, gk, by decide, fun r1 hr1 => ⟨_, same_upd hr1 _ _ gf, ?_, fun r2 hr2 => ⟨_, same_upd hr2 _ _ (same_upd hr1 _ _ gk), ?_, fun r3 hr3 => ?_⟩⟩⟩
          · rw [List.length_map]
            exact Nat.le_trans (show fs.length + 1 ≤ 100000 by omega) (by decide)
          · rw [List.length_append, List.length_map, List.length_map]
            exact Nat.le_trans (show fs.length + 1 + ks.length ≤ 100000 by omega) (by decide)
          rw [List.length_map] at hr2 hr3 ⊢
          have s3 := (same_upd hr1 (o := .lst [V.int ((ks.length : Int) - 1)])).trans ((same_upd hr2 (o := .lst (List.map V.int fs ++ [V.int ((ks.length : Int) - 1)]))).trans (same_upd hr3 (o := .lst (List.map V.int fs ++ [V.int ((ks.length : Int) - 1)] ++ List.map V.int ks))))
          have fr3 : H r3 = none := (sm.trans ((same_upd hr1 (o := .lst [V.int ((ks.length : Int) - 1)])).trans (same_upd hr2 (o := .lst (List.map V.int fs ++ [V.int ((ks.length : Int) - 1)]))))).free hr3
          have gr3 : ∀ Hx : Hp, upd Hx r3 (.lst (List.map V.int fs ++ [V.int ((ks.length : Int) - 1)] ++ List.map V.int ks)) r3 = some (.lst (List.map V.int (fs ++ fl ks))) := fun Hx => by
            rw [upd_same, show fl ks = ((ks.length : Int) - 1) :: ks from if_neg (fun z => by rw [z] at e5; simp at e5), List.map_append, List.append_assoc]
            rfl
          replace gr3 := gr3 (upd (upd H' r1 (.lst [V.int ((ks.length : Int) - 1)])) r2 (.lst (List.map V.int fs ++ [V.int ((ks.length : Int) - 1)])))
          have n3 : r3 ≠ pk := fun z => by rw [z, same_upd hr2 _ _ (same_upd hr1 _ _ gk)] at hr3; cases hr3
          generalize upd (upd (upd H' r1 (.lst [V.int ((ks.length : Int) - 1)])) r2 (.lst (List.map V.int fs ++ [V.int ((ks.length : Int) - 1)]))) r3 (.lst (List.map V.int fs ++ [V.int ((ks.length : Int) - 1)] ++ List.map V.int ks)) = H3 at s3 gr3 ⊢
          intro r4 hr4
          have s4 := s3.trans (same_upd (o := .lst []) hr4)
          have fr4 : H r4 = none := (sm.trans s3).free hr4
          have n4 : r3 ≠ r4 := ne_of_none gr3 hr4
          have gr4 : upd H3 r4 (.lst []) r3 = some (.lst (List.map V.int (fs ++ fl ks))) := by rw [upd_ne n4]; exact gr3
          refine iteF' (decide_eq_false (by omega)) ?_
          refine ⟨_, (sm.trans s4) _ _ ha, _, at_g e3, by decide, fs ++ fl ks, [gN ns i], i + 1, rfl, ?_, fr3, fr4, n4, ?_, rfl, (by decide : 1 ≤ 128), e3, ?_⟩
          · exact (sm.trans s3).trans (same_upd hr4)
          · rw [upd_ne n4]
            exact gr3
          · rw [hf2, ← hR]
            rw [List.append_assoc]
        · exact absurd (decide_eq_true (show (0 : Int) < ks.length by omega)) e4
      · have h8 : ¬ ks.length = 128 := fun z => e8 (by rw [z]; rfl)
        rw [if_neg h8] at hR
        refine iteF' (decide_eq_false (by omega)) ?_
        refine ⟨.inl ⟨rfl, _, .inl (.inl gk)⟩, _, sm _ _ ha, _, at_g e3, _, gk, ?_, ?_⟩
        · rw [List.length_map]
          exact Nat.lt_of_le_of_lt (show ks.length ≤ 128 by exact hk) (by decide)
        refine ⟨fs, ks ++ [gN ns i], i + 1, rfl, ?_, hpf, hpk, npk, ?_, ?_, ?_, e3, ?_⟩
        · exact same_upd3 sm hpk
        · rw [upd_ne npk]
          exact gf
        · rw [List.map_append]
          rfl
        · rw [List.length_append, List.length_singleton]; omega
        · rw [hf2, ← hR]
    · rintro σ H' ⟨pf, pk, fs, ks, i, tv, cv, rfl, sm, hpf, hpk, npk, gf, gk, hk, hi, hR⟩
      rw [show ns.length + 1 - ((ns.length : Int) + 1).toNat = 0 by omega, lw] at hR
      have hfl := congrArg List.length hR
      rw [List.length_append] at hfl
      walk_at "vc"
      · refine ⟨_, gk, ?_⟩
        rw [List.length_map]
        refine ite2 (fun e4 => ?_) (fun e4 => ?_)
        · have e5 := of_decide_eq_true e4
          refine ⟨_, gk, by decide, fun r1 hr1 => ⟨_, same_upd hr1 _ _ gf, ?_, fun r2 hr2 => ⟨_, same_upd hr2 _ _ (same_upd hr1 _ _ gk), ?_, fun r3 hr3 => ?_⟩⟩⟩
          · rw [List.length_map]
            exact Nat.le_trans (show fs.length + 1 ≤ 100000 by omega) (by decide)
          · rw [List.length_append, List.length_map, List.length_map]
            exact Nat.le_trans (show fs.length + 1 + ks.length ≤ 100000 by omega) (by decide)
          rw [List.length_map] at hr2 hr3 ⊢
          have s3 := (same_upd hr1 (o := .lst [V.int ((ks.length : Int) - 1)])).trans ((same_upd hr2 (o := .lst (List.map V.int fs ++ [V.int ((ks.length : Int) - 1)]))).trans (same_upd hr3 (o := .lst (List.map V.int fs ++ [V.int ((ks.length : Int) - 1)] ++ List.map V.int ks))))
          have fr3 : H r3 = none := (sm.trans ((same_upd hr1 (o := .lst [V.int ((ks.length : Int) - 1)])).trans (same_upd hr2 (o := .lst (List.map V.int fs ++ [V.int ((ks.length : Int) - 1)]))))).free hr3
          have gr3 : ∀ Hx : Hp, upd Hx r3 (.lst (List.map V.int fs ++ [V.int ((ks.length : Int) - 1)] ++ List.map V.int ks)) r3 = some (.lst (List.map V.int (fs ++ fl ks))) := fun Hx => by
            rw [upd_same, show fl ks = ((ks.length : Int) - 1) :: ks from if_neg (fun z => by rw [z] at e5; simp at e5), List.map_append, List.append_assoc]
            rfl
          replace gr3 := gr3 (upd (upd H' r1 (.lst [V.int ((ks.length : Int) - 1)])) r2 (.lst (List.map V.int fs ++ [V.int ((ks.length : Int) - 1)])))
          have n3 : r3 ≠ pk := fun z => by rw [z, same_upd hr2 _ _ (same_upd hr1 _ _ gk)] at hr3; cases hr3
          generalize upd (upd (upd H' r1 (.lst [V.int ((ks.length : Int) - 1)])) r2 (.lst (List.map V.int fs ++ [V.int ((ks.length : Int) - 1)]))) r3 (.lst (List.map V.int fs ++ [V.int ((ks.length : Int) - 1)] ++ List.map V.int ks)) = H3 at s3 gr3 ⊢
          exact retp H3 r3 _ (sm.trans s3) fr3 gr3 (by rw [← hR, List.append_assoc])
        · have e5 : ¬ ((0 : Int) < ks.length) := fun z => e4 (decide_eq_true z)
          have e6 : ks = [] := List.eq_nil_of_length_eq_zero (by omega)
          have e7 : fl ks = [] := by rw [e6]; rfl
          exact retp H' pf _ sm hpf gf (by rw [← hR, e7]; rfl)

def spLaw (K : PySem.W.Frag) : Sp := fun vs H Q _ => ∃ (a : Addr) (ns : List Int), vs = [.ref a] ∧ SqL K H a (ns.map V.int) ∧ ns.length ≤ 63 ∧ ∀ H', Q (.bl true) H'
theorem ok_law_of {f : Addr} {fd : FuncData} (F : Fun K "law" "law" s_law f fd) (T : Txt K mg) : FnOk P w K mg base CX0 5 f fd ["script"] (spLaw K) := by
  refine F.ok sc_law (fun vs H Q E h => ?_) (fun cdv A outer s H vs Q E hr h => ?_)
  · obtain ⟨a, ns, rfl, _⟩ := h
    rfl
  · obtain ⟨a, ns, rfl, hS, hlen, q⟩ := h
    refine ⟨_, (pss_cons (ps_set (i := 1) sc_law.nd rfl (Or.inl rfl) (pe_call (ok__law_state T) (hr.mono (by decide)) (by rfl) T.g__law_state T.F__law_state.kp T.b__law_state .nil pass0 (pa_cons (pe_call (ok__law_cell T) (hr.mono (by decide)) (by rfl) T.g__law_cell T.F__law_cell.kp T.b__law_cell .nil pass0 (pa_cons (pv 0) (pa_cons pe_int pa_nil))) (pa_cons pe_int pa_nil))))
      (pss_cons (ps_set (i := 2) sc_law.nd rfl (Or.inl rfl) (pe_call (ok__law_data T) (hr.mono (by decide)) (by rfl) T.g__law_data T.F__law_data.kp T.b__law_data .nil pass0 (pa_cons (pv 1) (pa_cons pe_int pa_nil))))
      (pss_cons (ps_set (i := 3) sc_law.nd rfl (Or.inl rfl) (pe_callTy call_listH (by rfl) T.z_list (by decide +kernel) (pa_cons (pv 2) pa_nil)))
      (pss_cons (ps_set (i := 4) sc_law.nd rfl (Or.inl rfl) (pe_call (ok_to_runs T) (hr.mono (by decide)) (by rfl) T.g_to_runs T.F_to_runs.kp T.b_to_runs .nil pass0 (pa_cons (pv 3) pa_nil)))
      (pss_cons (ps_if (PW.pt (pw_or (pt_not (pt_val (pe_call (ok__law_is_bytes T) (hr.mono (by decide)) (by rfl) T.g__law_is_bytes T.F__law_is_bytes.kp T.b__law_is_bytes .nil pass0 (pa_cons (pv 4) pa_nil)))) (pw_or (pt_cmpR (op_neIL hr.units) (pv 4) (pe_call (ok__law_due T) (hr.mono (by decide)) (by rfl) T.g__law_due T.F__law_due.kp T.b__law_due .nil pass0 (pa_cons (pv 2) pa_nil)) (nomark _)) (pw_or1 (pt_cmpR (op_neIL hr.units) (pv 3) (pv 2) (nomark _)))))) (pss_one (ps_ret pe_bl)) pss_nil)
      (pss_cons (ps_set (i := 5) sc_law.nd rfl (Or.inl rfl) (pe_op op_add (pe_callB call_lenH (by rfl) T.z_len PySem.boot_len (pa_cons (pv 4) pa_nil)) (pe_callB call_lenH (by rfl) T.z_len PySem.boot_len (pa_cons (pv 2) pa_nil))))
      (pss_cons (ps_set (i := 6) sc_law.nd rfl (Or.inl rfl) (pe_call (ok__law_draw T) (hr.mono (by decide)) (by rfl) T.g__law_draw T.F__law_draw.kp T.b__law_draw .nil pass0 (pa_cons (pv 1) (pa_cons pe_int pa_nil))))
      (pss_cons (ps_set (i := 7) sc_law.nd rfl (Or.inl rfl) (pe_callTy call_listH (by rfl) T.z_list (by decide +kernel) (pa_cons (pv 4) pa_nil)))
      (pss_cons (ps_set (i := 8) sc_law.nd rfl (Or.inl rfl) (pe_call (ok_from_runs T) hr (by rfl) T.g_from_runs T.F_from_runs.kp T.b_from_runs .nil pass0 (pa_cons (pv 7) (pa_cons (pe_op op_add (pv 5) (pv 6)) pa_nil))))
      (pss_cons (ps_if (PW.pt (pw_or (pt_not (pt_val (pe_callB call_isiB (by rfl) T.z_isinstance (by decide +kernel) (pa_cons (pv 8) (pa_cons (pe_bltn (v := .ty "tuple") (u := .type "tuple") (by rfl) T.z_tuple (by decide +kernel) rfl) pa_nil))))) (pw_or (pt_cmpR op_ne (pe_callB call_lenT (by rfl) T.z_len PySem.boot_len (pa_cons (pv 8) pa_nil)) pe_int (nomark _)) (pw_or (pt_cmpR (op_neLI hr.units) (pv 8) (pe_tup (pa_cons (pv 2) (pa_cons (pv 6) pa_nil))) (nomark _)) (pw_or1 (pt_cmpR (op_neIL hr.units) (pv 7) (pv 4) (nomark _))))))) (pss_one (ps_ret pe_bl)) pss_nil)
      (pss_cons (ps_if (PW.pt (pw_or (pt_not (pt_val (pe_call (ok__law_is_bytes T) (hr.mono (by decide)) (by rfl) T.g__law_is_bytes T.F__law_is_bytes.kp T.b__law_is_bytes .nil pass0 (pa_cons (pe_ix ix_tupH (pv 8) pe_int (fun _ _ => rfl)) pa_nil)))) (pw_or1 (pt_not (pt_val (pe_call (ok__law_is_integer T) (hr.mono (by decide)) (by rfl) T.g__law_is_integer T.F__law_is_integer.kp T.b__law_is_integer .nil pass0 (pa_cons (pe_ix ix_tupH (pv 8) pe_int (fun _ _ => rfl)) pa_nil))))))) (pss_one (ps_ret pe_bl)) pss_nil)
      (pss_cons (ps_set (i := 9) sc_law.nd rfl (Or.inl rfl) (pe_call (ok_from_runs T) hr (by rfl) T.g_from_runs T.F_from_runs.kp T.b_from_runs .nil pass0 (pa_cons (pv 7) (pa_cons (pe_op op_sub (pv 5) pe_int) pa_nil))))
      (pss_one (ps_ret (pe_and (pe_cmpR op_eq (pe_ix ix_tupH (pv 9) pe_int (fun _ _ => rfl)) pe_int (nomark _)) (pe_and (pe_or (pe_cmpR op_lt (pe_callB call_lenH (by rfl) T.z_len PySem.boot_len (pa_cons (pe_ix ix_tupH (pv 9) pe_int (fun _ _ => rfl)) pa_nil)) (pe_callB call_lenH (by rfl) T.z_len PySem.boot_len (pa_cons (pv 2) pa_nil)) (nomark _)) (pe_one (pe_cmpR op_eq (pe_callB call_lenH (by rfl) T.z_len PySem.boot_len (pa_cons (pv 2) pa_nil)) pe_int (nomark _)))) (pe_one (pe_cmpR (op_eqIL hr.units) (pe_ix ix_tupH (pv 9) pe_int (fun _ _ => rfl)) (pe_slice sl_listH (pv 2) po_none (po_some (pe_callB call_lenH (by rfl) T.z_len PySem.boot_len (pa_cons (pe_ix ix_tupH (pv 9) pe_int (fun _ _ => rfl)) pa_nil)))) (nomark _))))))))))))))))))), ?_⟩
    walk_at "vc"
    refine ⟨a, ns, 0, rfl, hS, ?_⟩
    refine ⟨_, 1, rfl, by decide, fun H1 ps sm1 hps hst => ?_⟩
    refine ⟨ps, 400, rfl, hst, fun H2 p D a2 hp g2 hB hDl => ?_⟩
    walk_at "vc"
    refine ⟨_, g2, fun l hl => ?_⟩
    have u1 := same_upd (o := .lst (List.map V.int D)) hl
    have gDl : upd H2 l (.lst (List.map V.int D)) l = some (.lst (List.map V.int D)) := upd_same
    have gDp := u1 _ _ g2
    have a3 := a2.new (o := .lst (List.map V.int D)) hl
    generalize upd H2 l (.lst (List.map V.int D)) = H3 at gDl gDp a3 u1 ⊢
    have hT := toR_byt hB
    have hTl := toR_len D
    refine ⟨l, D, rfl, gDl, hB, by omega, fun H4 f m4 hf gf => ?_⟩
    refine ⟨f, _, rfl, gf, hT, ?_⟩
    walk_at "vc"
    refine ⟨p, D, rfl, m4 _ _ gDp, hB, by omega, fun H5 d m5 hd gd => ?_⟩
    refine ⟨d, rfl, _, m5 _ _ gf, _, gd, iteF' (by rw [decide_eq_true rfl]; rfl) ?_⟩
    refine ⟨_, m5 _ _ (m4 _ _ gDl), _, m5 _ _ (m4 _ _ gDp), iteF' (by rw [decide_eq_true rfl]; rfl) ?_⟩
    have st3 := a3.st
    have nf := st3.ne hf
    have np := hst.ne hp
    have a5 : Adv ps H3 H5 := Adv.ofSame st3 (m4.trans m5)
    refine ⟨_, m5 _ _ gf, _, m5 _ _ (m4 _ _ gDp), ps, 50, rfl, a5.st, by decide, by decide, fun H6 more a6 v0 v1 => ?_⟩
    have gf6 := a6.same _ _ nf (m5 _ _ gf)
    have gD6 := a6.same _ _ np (m5 _ _ (m4 _ _ gDp))
    rw [List.length_map, List.length_map]
    walk_at "vc"
    refine ⟨_, gf6, fun l2 hl2 => ?_⟩
    have u2 := same_upd (o := .lst (List.map V.int (toR D))) hl2
    have gl2 : upd H6 l2 (.lst (List.map V.int (toR D))) l2 = some (.lst (List.map V.int (toR D))) := upd_same
    have gf7 := u2 _ _ gf6
    have gD7 := u2 _ _ gD6
    generalize upd H6 l2 (.lst (List.map V.int (toR D))) = H7 at gl2 gf7 gD7 u2 ⊢
    refine ⟨l2, toR D, _, rfl, gl2, hT, by omega, by omega, fun H8 p1 q1 m8 hp1 hq1 ne1 f8 fq8 => ?_⟩
    rw [frR_all D more v0] at f8 fq8
    walk_at "vc"
    simp only [f8]
    walk_at "vc"
    refine ⟨by decide, fun r hr' => ?_⟩
    have u3 := same_upd (o := .tup [.ref p, .int more]) hr'
    have g3 : upd H8 r (.tup [.ref p, .int more]) r = some (.tup [.ref p, .int more]) := upd_same
    have f9 := u3 _ _ f8
    have fq9 := u3 _ _ fq8
    have gf9 := u3 _ _ (m8 _ _ gf7)
    have gD9 := u3 _ _ (m8 _ _ gD7)
    have gl9 := u3 _ _ (m8 _ _ gl2)
    generalize upd H8 r (.tup [.ref p, .int more]) = H9 at u3 g3 f9 fq9 gf9 gD9 gl9 ⊢
    refine ⟨p1, r, q1, p, _, _, _, _, rfl, rfl, f9, g3, fq9, gD9, false, by rw [decide_eq_true rfl, decide_eq_true rfl]; rfl, ?_⟩
    refine iteF ⟨_, gl9, _, gf9, iteF' (by rw [decide_eq_true rfl]; rfl) ?_⟩
    refine ⟨_, f9, _, atI_c0 _ _, q1, _, rfl, fq9, hB, ?_⟩
    walk_at "vc"
    simp only [f9, spInteger]
    walk_at "vc"
    obtain ⟨n, hF, hn1, hn2⟩ := frR_less D
    refine ⟨l2, toR D, _, rfl, gl9, hT, by omega, by omega, fun H10 p2 q2 m10 hp2 hq2 ne2 f10 fq10 => ?_⟩
    rw [hF] at f10 fq10
    walk_at "vc"
    simp only [f10]
    walk_at "vc"
    have gD10 := m10 _ _ gD9
    have fin : ∃ x, H10 q2 = some (HO.lst x) ∧ ∃ x_2, H10 p = some (HO.lst x_2) ∧ ∀ (p : Addr), H10 p = none → ∃ x_3, upd H10 p (HO.lst (cutV x_2 none (some (x.length : Int)))) q2 = some (HO.lst (List.map V.int x_3)) ∧
        ∃ x_4, cutV x_2 none (some (x.length : Int)) = List.map V.int x_4 ∧ Q (V.bl (decide (x_3 = x_4))) (upd H10 p (HO.lst (cutV x_2 none (some (x.length : Int))))) := by
      refine ⟨_, fq10, _, gD10, fun r2 hr2 => ⟨_, same_upd hr2 _ _ fq10, D.take n, ?_, ?_⟩⟩
      · rw [List.length_map, List.length_take, Nat.min_eq_left hn1]
        exact cut_take
      · rw [decide_eq_true (show (D.take n, (0 : Int)).1 = D.take n from rfl)]
        exact q _
    refine ⟨_, fq10, _, gD10, ite2 (fun _ => fin) (fun e => ⟨_, gD10, ?_⟩)⟩
    rw [List.length_map, List.length_map, List.length_take, Nat.min_eq_left hn1] at e
    rw [List.length_map]
    refine iteT' (decide_eq_true ?_) fin
    rcases hn2 with h | h
    · exact absurd (decide_eq_true (by omega)) e
    · omega
end

theorem all_mk {l : PySem.W.OpenLaw} {w : World} {K : PySem.W.Frag} {h : Heap} {mg : Str → Option Value} {fa : Addr} (X : K.In h) (G : h.Ns mainGlobals mg) (hfa : mg "law" = some (.ref fa))
    {f1 : Addr} {od1 an1 : Option Addr} {sl1 : Array (Option Value)} {oc1 kV1 dc1 pm1 cd1 ct1 : Value}
    (a1 : PySem.W.nsIn K mainGlobals "spend" = some (some (.ref f1))) (l1 : K.lookup f1 = some ⟨oc1, od1, .func (PySem.W.fnOf "spend" "spend" (defArgs s_spend) (defBody s_spend) (defScope s_spend) .none kV1 dc1 pm1 an1 cd1 ct1), sl1⟩) (c1 : PySem.W.codeIn K cd1 "spend" = true) (k1 : PySem.W.keepIn K (.ref f1) = true)
    {f2 : Addr} {od2 an2 : Option Addr} {sl2 : Array (Option Value)} {oc2 kV2 dc2 pm2 cd2 ct2 : Value}
    (a2 : PySem.W.nsIn K mainGlobals "read_pieces" = some (some (.ref f2))) (l2 : K.lookup f2 = some ⟨oc2, od2, .func (PySem.W.fnOf "read_pieces" "read_pieces" (defArgs s_read_pieces) (defBody s_read_pieces) (defScope s_read_pieces) .none kV2 dc2 pm2 an2 cd2 ct2), sl2⟩) (c2 : PySem.W.codeIn K cd2 "read_pieces" = true) (k2 : PySem.W.keepIn K (.ref f2) = true)
    {f3 : Addr} {od3 an3 : Option Addr} {sl3 : Array (Option Value)} {oc3 kV3 dc3 pm3 cd3 ct3 : Value}
    (a3 : PySem.W.nsIn K mainGlobals "plain_piece" = some (some (.ref f3))) (l3 : K.lookup f3 = some ⟨oc3, od3, .func (PySem.W.fnOf "plain_piece" "plain_piece" (defArgs s_plain_piece) (defBody s_plain_piece) (defScope s_plain_piece) .none kV3 dc3 pm3 an3 cd3 ct3), sl3⟩) (c3 : PySem.W.codeIn K cd3 "plain_piece" = true) (k3 : PySem.W.keepIn K (.ref f3) = true)
    {f4 : Addr} {od4 an4 : Option Addr} {sl4 : Array (Option Value)} {oc4 kV4 dc4 pm4 cd4 ct4 : Value}
    (a4 : PySem.W.nsIn K mainGlobals "read_plain_piece" = some (some (.ref f4))) (l4 : K.lookup f4 = some ⟨oc4, od4, .func (PySem.W.fnOf "read_plain_piece" "read_plain_piece" (defArgs s_read_plain_piece) (defBody s_read_plain_piece) (defScope s_read_plain_piece) .none kV4 dc4 pm4 an4 cd4 ct4), sl4⟩) (c4 : PySem.W.codeIn K cd4 "read_plain_piece" = true) (k4 : PySem.W.keepIn K (.ref f4) = true)
    {f5 : Addr} {od5 an5 : Option Addr} {sl5 : Array (Option Value)} {oc5 kV5 dc5 pm5 cd5 ct5 : Value}
    (a5 : PySem.W.nsIn K mainGlobals "from_runs" = some (some (.ref f5))) (l5 : K.lookup f5 = some ⟨oc5, od5, .func (PySem.W.fnOf "from_runs" "from_runs" (defArgs s_from_runs) (defBody s_from_runs) (defScope s_from_runs) .none kV5 dc5 pm5 an5 cd5 ct5), sl5⟩) (c5 : PySem.W.codeIn K cd5 "from_runs" = true) (k5 : PySem.W.keepIn K (.ref f5) = true)
    {f6 : Addr} {od6 an6 : Option Addr} {sl6 : Array (Option Value)} {oc6 kV6 dc6 pm6 cd6 ct6 : Value}
    (a6 : PySem.W.nsIn K mainGlobals "_run_at" = some (some (.ref f6))) (l6 : K.lookup f6 = some ⟨oc6, od6, .func (PySem.W.fnOf "_run_at" "_run_at" (defArgs s__run_at) (defBody s__run_at) (defScope s__run_at) .none kV6 dc6 pm6 an6 cd6 ct6), sl6⟩) (c6 : PySem.W.codeIn K cd6 "_run_at" = true) (k6 : PySem.W.keepIn K (.ref f6) = true)
    {f7 : Addr} {od7 an7 : Option Addr} {sl7 : Array (Option Value)} {oc7 kV7 dc7 pm7 cd7 ct7 : Value}
    (a7 : PySem.W.nsIn K mainGlobals "to_runs" = some (some (.ref f7))) (l7 : K.lookup f7 = some ⟨oc7, od7, .func (PySem.W.fnOf "to_runs" "to_runs" (defArgs s_to_runs) (defBody s_to_runs) (defScope s_to_runs) .none kV7 dc7 pm7 an7 cd7 ct7), sl7⟩) (c7 : PySem.W.codeIn K cd7 "to_runs" = true) (k7 : PySem.W.keepIn K (.ref f7) = true)
    {f8 : Addr} {od8 an8 : Option Addr} {sl8 : Array (Option Value)} {oc8 kV8 dc8 pm8 cd8 ct8 : Value}
    (a8 : PySem.W.nsIn K mainGlobals "_three_equal" = some (some (.ref f8))) (l8 : K.lookup f8 = some ⟨oc8, od8, .func (PySem.W.fnOf "_three_equal" "_three_equal" (defArgs s__three_equal) (defBody s__three_equal) (defScope s__three_equal) .none kV8 dc8 pm8 an8 cd8 ct8), sl8⟩) (c8 : PySem.W.codeIn K cd8 "_three_equal" = true) (k8 : PySem.W.keepIn K (.ref f8) = true)
    {f9 : Addr} {od9 an9 : Option Addr} {sl9 : Array (Option Value)} {oc9 kV9 dc9 pm9 cd9 ct9 : Value}
    (a9 : PySem.W.nsIn K mainGlobals "_count_equal" = some (some (.ref f9))) (l9 : K.lookup f9 = some ⟨oc9, od9, .func (PySem.W.fnOf "_count_equal" "_count_equal" (defArgs s__count_equal) (defBody s__count_equal) (defScope s__count_equal) .none kV9 dc9 pm9 an9 cd9 ct9), sl9⟩) (c9 : PySem.W.codeIn K cd9 "_count_equal" = true) (k9 : PySem.W.keepIn K (.ref f9) = true)
    {f10 : Addr} {od10 an10 : Option Addr} {sl10 : Array (Option Value)} {oc10 kV10 dc10 pm10 cd10 ct10 : Value}
    (a10 : PySem.W.nsIn K mainGlobals "_count_unlike" = some (some (.ref f10))) (l10 : K.lookup f10 = some ⟨oc10, od10, .func (PySem.W.fnOf "_count_unlike" "_count_unlike" (defArgs s__count_unlike) (defBody s__count_unlike) (defScope s__count_unlike) .none kV10 dc10 pm10 an10 cd10 ct10), sl10⟩) (c10 : PySem.W.codeIn K cd10 "_count_unlike" = true) (k10 : PySem.W.keepIn K (.ref f10) = true)
    {f11 : Addr} {od11 an11 : Option Addr} {sl11 : Array (Option Value)} {oc11 kV11 dc11 pm11 cd11 ct11 : Value}
    (a11 : PySem.W.nsIn K mainGlobals "_law_cell" = some (some (.ref f11))) (l11 : K.lookup f11 = some ⟨oc11, od11, .func (PySem.W.fnOf "_law_cell" "_law_cell" (defArgs s__law_cell) (defBody s__law_cell) (defScope s__law_cell) .none kV11 dc11 pm11 an11 cd11 ct11), sl11⟩) (c11 : PySem.W.codeIn K cd11 "_law_cell" = true) (k11 : PySem.W.keepIn K (.ref f11) = true)
    {f12 : Addr} {od12 an12 : Option Addr} {sl12 : Array (Option Value)} {oc12 kV12 dc12 pm12 cd12 ct12 : Value}
    (a12 : PySem.W.nsIn K mainGlobals "_law_is_integer" = some (some (.ref f12))) (l12 : K.lookup f12 = some ⟨oc12, od12, .func (PySem.W.fnOf "_law_is_integer" "_law_is_integer" (defArgs s__law_is_integer) (defBody s__law_is_integer) (defScope s__law_is_integer) .none kV12 dc12 pm12 an12 cd12 ct12), sl12⟩) (c12 : PySem.W.codeIn K cd12 "_law_is_integer" = true) (k12 : PySem.W.keepIn K (.ref f12) = true)
    {f13 : Addr} {od13 an13 : Option Addr} {sl13 : Array (Option Value)} {oc13 kV13 dc13 pm13 cd13 ct13 : Value}
    (a13 : PySem.W.nsIn K mainGlobals "_law_draw" = some (some (.ref f13))) (l13 : K.lookup f13 = some ⟨oc13, od13, .func (PySem.W.fnOf "_law_draw" "_law_draw" (defArgs s__law_draw) (defBody s__law_draw) (defScope s__law_draw) .none kV13 dc13 pm13 an13 cd13 ct13), sl13⟩) (c13 : PySem.W.codeIn K cd13 "_law_draw" = true) (k13 : PySem.W.keepIn K (.ref f13) = true)
    {f14 : Addr} {od14 an14 : Option Addr} {sl14 : Array (Option Value)} {oc14 kV14 dc14 pm14 cd14 ct14 : Value}
    (a14 : PySem.W.nsIn K mainGlobals "_law_state" = some (some (.ref f14))) (l14 : K.lookup f14 = some ⟨oc14, od14, .func (PySem.W.fnOf "_law_state" "_law_state" (defArgs s__law_state) (defBody s__law_state) (defScope s__law_state) .none kV14 dc14 pm14 an14 cd14 ct14), sl14⟩) (c14 : PySem.W.codeIn K cd14 "_law_state" = true) (k14 : PySem.W.keepIn K (.ref f14) = true)
    {f15 : Addr} {od15 an15 : Option Addr} {sl15 : Array (Option Value)} {oc15 kV15 dc15 pm15 cd15 ct15 : Value}
    (a15 : PySem.W.nsIn K mainGlobals "_law_is_bytes" = some (some (.ref f15))) (l15 : K.lookup f15 = some ⟨oc15, od15, .func (PySem.W.fnOf "_law_is_bytes" "_law_is_bytes" (defArgs s__law_is_bytes) (defBody s__law_is_bytes) (defScope s__law_is_bytes) .none kV15 dc15 pm15 an15 cd15 ct15), sl15⟩) (c15 : PySem.W.codeIn K cd15 "_law_is_bytes" = true) (k15 : PySem.W.keepIn K (.ref f15) = true)
    {f16 : Addr} {od16 an16 : Option Addr} {sl16 : Array (Option Value)} {oc16 kV16 dc16 pm16 cd16 ct16 : Value}
    (a16 : PySem.W.nsIn K mainGlobals "_law_data" = some (some (.ref f16))) (l16 : K.lookup f16 = some ⟨oc16, od16, .func (PySem.W.fnOf "_law_data" "_law_data" (defArgs s__law_data) (defBody s__law_data) (defScope s__law_data) .none kV16 dc16 pm16 an16 cd16 ct16), sl16⟩) (c16 : PySem.W.codeIn K cd16 "_law_data" = true) (k16 : PySem.W.keepIn K (.ref f16) = true)
    {f17 : Addr} {od17 an17 : Option Addr} {sl17 : Array (Option Value)} {oc17 kV17 dc17 pm17 cd17 ct17 : Value}
    (a17 : PySem.W.nsIn K mainGlobals "_law_row" = some (some (.ref f17))) (l17 : K.lookup f17 = some ⟨oc17, od17, .func (PySem.W.fnOf "_law_row" "_law_row" (defArgs s__law_row) (defBody s__law_row) (defScope s__law_row) .none kV17 dc17 pm17 an17 cd17 ct17), sl17⟩) (c17 : PySem.W.codeIn K cd17 "_law_row" = true) (k17 : PySem.W.keepIn K (.ref f17) = true)
    {f18 : Addr} {od18 an18 : Option Addr} {sl18 : Array (Option Value)} {oc18 kV18 dc18 pm18 cd18 ct18 : Value}
    (a18 : PySem.W.nsIn K mainGlobals "_law_due" = some (some (.ref f18))) (l18 : K.lookup f18 = some ⟨oc18, od18, .func (PySem.W.fnOf "_law_due" "_law_due" (defArgs s__law_due) (defBody s__law_due) (defScope s__law_due) .none kV18 dc18 pm18 an18 cd18 ct18), sl18⟩) (c18 : PySem.W.codeIn K cd18 "_law_due" = true) (k18 : PySem.W.keepIn K (.ref f18) = true)
    {f19 : Addr} {od19 an19 : Option Addr} {sl19 : Array (Option Value)} {oc19 kV19 dc19 pm19 cd19 ct19 : Value}
    (a19 : PySem.W.nsIn K mainGlobals "law" = some (some (.ref f19))) (l19 : K.lookup f19 = some ⟨oc19, od19, .func (PySem.W.fnOf "law" "law" (defArgs s_law) (defBody s_law) (defScope s_law) .none kV19 dc19 pm19 an19 cd19 ct19), sl19⟩) (c19 : PySem.W.codeIn K cd19 "law" = true) (k19 : PySem.W.keepIn K (.ref f19) = true)
    {t20 : Tok} (a20 : PySem.W.nsIn K mainGlobals "_MOST_BYTES" = some (some (.int 128 t20)))
    {t21 : Tok} (a21 : PySem.W.nsIn K mainGlobals "_END" = some (some (.int 128 t21)))
    (a22 : PySem.W.nsIn K mainGlobals "abs" = some none)
    (a23 : PySem.W.nsIn K mainGlobals "bool" = some none)
    (a24 : PySem.W.nsIn K mainGlobals "int" = some none)
    (a25 : PySem.W.nsIn K mainGlobals "isinstance" = some none)
    (a26 : PySem.W.nsIn K mainGlobals "len" = some none)
    (a27 : PySem.W.nsIn K mainGlobals "list" = some none)
    (a28 : PySem.W.nsIn K mainGlobals "max" = some none)
    (a29 : PySem.W.nsIn K mainGlobals "min" = some none)
    (a30 : PySem.W.nsIn K mainGlobals "range" = some none)
    (a31 : PySem.W.nsIn K mainGlobals "tuple" = some none)
    : ∃ fd : FuncData, (∀ (s : Shared) (v : Value), BindsTo s fd ⟨[v], []⟩ [("script", v)]) ∧ ∀ base : Heap, K.In base → base.Ns mainGlobals mg → FnOk l.prog w K mg base CX0 5 fa fd ["script"] (spLaw K) := by
  have e := hfa.symm.trans (PySem.W.mg_of X G a19)
  cases e
  have F1 := fun_mk (st := s_spend) l1 c1 k1
  have b1 := F1.binds (ps := ["left", "cost"]) fun _ _ _ _ _ _ us hl => match us, hl with | [_, _], _ => rfl
  have F2 := fun_mk (st := s_read_pieces) l2 c2 k2
  have b2 := F2.binds (ps := ["data", "left", "piece_at"]) fun _ _ _ _ _ _ us hl => match us, hl with | [_, _, _], _ => rfl
  have F3 := fun_mk (st := s_plain_piece) l3 c3 k3
  have b3 := F3.binds (ps := ["data"]) fun _ _ _ _ _ _ us hl => match us, hl with | [_], _ => rfl
  have F4 := fun_mk (st := s_read_plain_piece) l4 c4 k4
  have b4 := F4.binds (ps := ["data", "at"]) fun _ _ _ _ _ _ us hl => match us, hl with | [_, _], _ => rfl
  have F5 := fun_mk (st := s_from_runs) l5 c5 k5
  have b5 := F5.binds (ps := ["data", "left"]) fun _ _ _ _ _ _ us hl => match us, hl with | [_, _], _ => rfl
  have F6 := fun_mk (st := s__run_at) l6 c6 k6
  have b6 := F6.binds (ps := ["data", "at", "_"]) fun _ _ _ _ _ _ us hl => match us, hl with | [_, _, _], _ => rfl
  have F7 := fun_mk (st := s_to_runs) l7 c7 k7
  have b7 := F7.binds (ps := ["data"]) fun _ _ _ _ _ _ us hl => match us, hl with | [_], _ => rfl
  have F8 := fun_mk (st := s__three_equal) l8 c8 k8
  have b8 := F8.binds (ps := ["data", "at"]) fun _ _ _ _ _ _ us hl => match us, hl with | [_, _], _ => rfl
  have F9 := fun_mk (st := s__count_equal) l9 c9 k9
  have b9 := F9.binds (ps := ["data", "at"]) fun _ _ _ _ _ _ us hl => match us, hl with | [_, _], _ => rfl
  have F10 := fun_mk (st := s__count_unlike) l10 c10 k10
  have b10 := F10.binds (ps := ["data", "at"]) fun _ _ _ _ _ _ us hl => match us, hl with | [_, _], _ => rfl
  have F11 := fun_mk (st := s__law_cell) l11 c11 k11
  have b11 := F11.binds (ps := ["script", "k"]) fun _ _ _ _ _ _ us hl => match us, hl with | [_, _], _ => rfl
  have F12 := fun_mk (st := s__law_is_integer) l12 c12 k12
  have b12 := F12.binds (ps := ["actual"]) fun _ _ _ _ _ _ us hl => match us, hl with | [_], _ => rfl
  have F13 := fun_mk (st := s__law_draw) l13 c13 k13
  have b13 := F13.binds (ps := ["state", "many"]) fun _ _ _ _ _ _ us hl => match us, hl with | [_, _], _ => rfl
  have F14 := fun_mk (st := s__law_state) l14 c14 k14
  have b14 := F14.binds (ps := ["cell", "salt"]) fun _ _ _ _ _ _ us hl => match us, hl with | [_, _], _ => rfl
  have F15 := fun_mk (st := s__law_is_bytes) l15 c15 k15
  have b15 := F15.binds (ps := ["actual"]) fun _ _ _ _ _ _ us hl => match us, hl with | [_], _ => rfl
  have F16 := fun_mk (st := s__law_data) l16 c16 k16
  have b16 := F16.binds (ps := ["state", "most"]) fun _ _ _ _ _ _ us hl => match us, hl with | [_, _], _ => rfl
  have F17 := fun_mk (st := s__law_row) l17 c17 k17
  have b17 := F17.binds (ps := ["data", "at"]) fun _ _ _ _ _ _ us hl => match us, hl with | [_, _], _ => rfl
  have F18 := fun_mk (st := s__law_due) l18 c18 k18
  have b18 := F18.binds (ps := ["data"]) fun _ _ _ _ _ _ us hl => match us, hl with | [_], _ => rfl
  have F19 := fun_mk (st := s_law) l19 c19 k19
  have b19 := F19.binds (ps := ["script"]) fun _ _ _ _ _ _ us hl => match us, hl with | [_], _ => rfl
  have T : Txt K mg := ⟨f1, _, F1, b1, PySem.W.mg_of X G a1,
    f2, _, F2, b2, PySem.W.mg_of X G a2,
    f3, _, F3, b3, PySem.W.mg_of X G a3,
    f4, _, F4, b4, PySem.W.mg_of X G a4,
    f5, _, F5, b5, PySem.W.mg_of X G a5,
    f6, _, F6, b6, PySem.W.mg_of X G a6,
    f7, _, F7, b7, PySem.W.mg_of X G a7,
    f8, _, F8, b8, PySem.W.mg_of X G a8,
    f9, _, F9, b9, PySem.W.mg_of X G a9,
    f10, _, F10, b10, PySem.W.mg_of X G a10,
    f11, _, F11, b11, PySem.W.mg_of X G a11,
    f12, _, F12, b12, PySem.W.mg_of X G a12,
    f13, _, F13, b13, PySem.W.mg_of X G a13,
    f14, _, F14, b14, PySem.W.mg_of X G a14,
    f15, _, F15, b15, PySem.W.mg_of X G a15,
    f16, _, F16, b16, PySem.W.mg_of X G a16,
    f17, _, F17, b17, PySem.W.mg_of X G a17,
    f18, _, F18, b18, PySem.W.mg_of X G a18,
    fa, _, F19, b19, PySem.W.mg_of X G a19,
    t20, PySem.W.mg_of X G a20,
    t21, PySem.W.mg_of X G a21,
    PySem.W.mg_none_of X G a22,
    PySem.W.mg_none_of X G a23,
    PySem.W.mg_none_of X G a24,
    PySem.W.mg_none_of X G a25,
    PySem.W.mg_none_of X G a26,
    PySem.W.mg_none_of X G a27,
    PySem.W.mg_none_of X G a28,
    PySem.W.mg_none_of X G a29,
    PySem.W.mg_none_of X G a30,
    PySem.W.mg_none_of X G a31⟩
  refine ⟨PySem.W.fnOf "law" "law" (defArgs s_law) (defBody s_law) (defScope s_law) .none kV19 dc19 pm19 an19 cd19 ct19, fun s v => .of_eq rfl, fun base _ _ => ?_⟩
  exact ok_law_of F19 T
end K06
open PySem PySem.W PyProof.Rows
set_option maxRecDepth 100000 in
set_option maxHeartbeats 0 in
theorem PySem.Challenge.cw_stillroom_k06_runs_written_holds : PySem.Challenge.rw_stillroom_k06_runs_written.Holds := by
  w_on; o_law; k_head; (case hw => w_witness2)
  k_fill
  refine L2.walk_of (l := PySem.Challenge.rw_stillroom_k06_runs_written) (n := 63) (k := 5) (x := "script") (CX := fun _ => L2.CX0) (sp := fun w => K06.spLaw _) rfl (by decide) rfl ⟨rfl, by decide, by decide⟩ (fun w h Y => PySem.W.kIn_of Y) ?F (fun _ _ a ns hl _ hS => ⟨a, ns, rfl, hS, hl, fun _ => rfl⟩) (fun _ _ _ _ _ h => h)
  case F =>
    intro w mg fa h KX G hmg
    refine' K06.all_mk KX G hmg ?a1 ?l1 ?c1 ?k1 ?a2 ?l2 ?c2 ?k2 ?a3 ?l3 ?c3 ?k3 ?a4 ?l4 ?c4 ?k4 ?a5 ?l5 ?c5 ?k5 ?a6 ?l6 ?c6 ?k6 ?a7 ?l7 ?c7 ?k7 ?a8 ?l8 ?c8 ?k8 ?a9 ?l9 ?c9 ?k9 ?a10 ?l10 ?c10 ?k10 ?a11 ?l11 ?c11 ?k11 ?a12 ?l12 ?c12 ?k12 ?a13 ?l13 ?c13 ?k13 ?a14 ?l14 ?c14 ?k14 ?a15 ?l15 ?c15 ?k15 ?a16 ?l16 ?c16 ?k16 ?a17 ?l17 ?c17 ?k17 ?a18 ?l18 ?c18 ?k18 ?a19 ?l19 ?c19 ?k19 ?a20 ?a21 ?a22 ?a23 ?a24 ?a25 ?a26 ?a27 ?a28 ?a29 ?a30 ?a31
    (case a1 => k_is)
    (case l1 => k_is)
    (case c1 => k_is)
    (case k1 => k_is)
    (case a2 => k_is)
    (case l2 => k_is)
    (case c2 => k_is)
    (case k2 => k_is)
    (case a3 => k_is)
    (case l3 => k_is)
    (case c3 => k_is)
    (case k3 => k_is)
    (case a4 => k_is)
    (case l4 => k_is)
    (case c4 => k_is)
    (case k4 => k_is)
    (case a5 => k_is)
    (case l5 => k_is)
    (case c5 => k_is)
    (case k5 => k_is)
    (case a6 => k_is)
    (case l6 => k_is)
    (case c6 => k_is)
    (case k6 => k_is)
    (case a7 => k_is)
    (case l7 => k_is)
    (case c7 => k_is)
    (case k7 => k_is)
    (case a8 => k_is)
    (case l8 => k_is)
    (case c8 => k_is)
    (case k8 => k_is)
    (case a9 => k_is)
    (case l9 => k_is)
    (case c9 => k_is)
    (case k9 => k_is)
    (case a10 => k_is)
    (case l10 => k_is)
    (case c10 => k_is)
    (case k10 => k_is)
    (case a11 => k_is)
    (case l11 => k_is)
    (case c11 => k_is)
    (case k11 => k_is)
    (case a12 => k_is)
    (case l12 => k_is)
    (case c12 => k_is)
    (case k12 => k_is)
    (case a13 => k_is)
    (case l13 => k_is)
    (case c13 => k_is)
    (case k13 => k_is)
    (case a14 => k_is)
    (case l14 => k_is)
    (case c14 => k_is)
    (case k14 => k_is)
    (case a15 => k_is)
    (case l15 => k_is)
    (case c15 => k_is)
    (case k15 => k_is)
    (case a16 => k_is)
    (case l16 => k_is)
    (case c16 => k_is)
    (case k16 => k_is)
    (case a17 => k_is)
    (case l17 => k_is)
    (case c17 => k_is)
    (case k17 => k_is)
    (case a18 => k_is)
    (case l18 => k_is)
    (case c18 => k_is)
    (case k18 => k_is)
    (case a19 => k_is)
    (case l19 => k_is)
    (case c19 => k_is)
    (case k19 => k_is)
    (case a20 => k_is)
    (case a21 => k_is)
    (case a22 => k_is)
    (case a23 => k_is)
    (case a24 => k_is)
    (case a25 => k_is)
    (case a26 => k_is)
    (case a27 => k_is)
    (case a28 => k_is)
    (case a29 => k_is)
    (case a30 => k_is)
    (case a31 => k_is)



import PyProof.Rows.All
import Wide.All
import OpenK.AllK
import Wide.FinOn
import HandS.ForMost
import HandS.Wide
import HandS.IsInst
import HandS.FStr
import HandS.Zip
import HandS.CallLocal
import HandS.Walk
import HandS.TryOnly
import HandS.TupAny
import HandS.DictComp
import PySem.Challenge.RW_stillroom_k04_base_64
set_option Elab.async false
set_option linter.all false
set_option maxRecDepth 100000
namespace K04
open PySem PySem.Spec PyProof.Rows L2

/-! ### rules with plainer readings -/
section
variable {X : Cx}
theorem CallR.of {f : Value} {r r' : List V → Hp → VK → Prop} (h : CallR X f r) (k : ∀ xs H Q, r' xs H Q → r xs H Q) : CallR X f r' := fun pins s σ H xs us Q I rv q => h pins s σ H xs us Q I rv (k xs H Q q)
theorem OpR.of {f : Value → Value → Sem Value} {r r' : R2} (h : OpR X f r) (k : ∀ x y H Q, r' x y H Q → r x y H Q) : OpR X f r' := fun pins s σ H x y v u Q I rx ry q => h pins s σ H x y v u Q I rx ry (k x y H Q q)
/-- the name of a plain value's type -/
def tnm : V → Option String
  | .non => some "NoneType"
  | .bl _ => some "bool"
  | .int _ => some "int"
  | .str _ => some "str"
  | _ => none
theorem tnm_int (i : Int) : tnm (.int i) = some "int" := rfl
theorem tnm_bl (b : Bool) : tnm (.bl b) = some "bool" := rfl
theorem tnm_str (x : Str) : tnm (.str x) = some "str" := rfl
theorem tnm_non : tnm .non = some "NoneType" := rfl
theorem tnm_ref (p : Addr) : tnm (.ref p) = none := rfl
theorem scal_ii (i j : Int) : scal (.int i) (.int j) = true := rfl
theorem scal_ss (i j : Str) : scal (.str i) (.str j) = true := rfl
theorem scal_bb (i j : Bool) : scal (.bl i) (.bl j) = true := rfl
theorem scal_nn : scal .non .non = true := rfl
theorem scal_in (i : Int) : scal (.int i) .non = true := rfl
theorem scal_ni (i : Int) : scal .non (.int i) = true := rfl
def rIsiB : List V → Hp → VK → Prop := fun vs H Q => (∃ x n a b, vs = [x, .ty n] ∧ tnm x = some a ∧ kitB a n = some b ∧ Q (.bl b) H) ∨
  (∃ p n xs b, vs = [.ref p, .ty n] ∧ H p = some (.lst xs) ∧ kitB "list" n = some b ∧ Q (.bl b) H) ∨ ∃ p n xs b, vs = [.ref p, .ty n] ∧ H p = some (.tup xs) ∧ kitB "tuple" n = some b ∧ Q (.bl b) H
theorem call_isiB : CallR X (.builtin "isinstance") rIsiB := CallR.of call_isi (by
  intro vs H Q h
  rcases h with ⟨x, n, a, b, rfl, ha, hb, q⟩ | ⟨p, n, xs, b, rfl, ha, hb, q⟩ | ⟨p, n, xs, b, rfl, ha, hb, q⟩
  · refine ⟨x, .ty n, .type a, .type n, b, rfl, .ty n, ?_, kit_ty hb, q⟩
    cases x <;> cases ha
    · exact .base .non
    · exact .base (.bl _)
    · exact .base (.int _)
    · exact .base (.str _)
  · exact ⟨.ref p, .ty n, .type "list", .type n, b, rfl, .ty n, .base (.lst ha), kit_ty hb, q⟩
  · exact ⟨.ref p, .ty n, .type "tuple", .type n, b, rfl, .ty n, .base (.tup ha), kit_ty hb, q⟩)
theorem kb1 : kitB "int" "int" = some true := by decide +kernel
theorem kb2 : kitB "int" "bool" = some false := by decide +kernel
theorem kb3 : kitB "bool" "bool" = some true := by decide +kernel
theorem kb4 : kitB "bool" "int" = some true := by decide +kernel
theorem kb5 : kitB "str" "str" = some true := by decide +kernel
theorem kb6 : kitB "str" "int" = some false := by decide +kernel
theorem kb7 : kitB "list" "list" = some true := by decide +kernel
theorem kb8 : kitB "tuple" "tuple" = some true := by decide +kernel
theorem kb9 : kitB "NoneType" "int" = some false := by decide +kernel
theorem kb10 : kitB "NoneType" "list" = some false := by decide +kernel
/-- len, a copy, an item of a tracked list -/
def rLenH : List V → Hp → VK → Prop := fun vs H Q => ∃ p xs, vs = [.ref p] ∧ H p = some (.lst xs) ∧ Q (.int xs.length) H
theorem call_lenH : CallR X (.builtin "len") rLenH := CallR.of call_len_seq (by
  rintro vs H Q ⟨p, xs, rfl, h, q⟩
  exact ⟨p, xs, rfl, .inl (.inl (.inl h)), q⟩)
def rLenT : List V → Hp → VK → Prop := fun vs H Q => ∃ p xs, vs = [.ref p] ∧ H p = some (.tup xs) ∧ Q (.int xs.length) H
theorem call_lenT : CallR X (.builtin "len") rLenT := CallR.of call_len_seq (by
  rintro vs H Q ⟨p, xs, rfl, h, q⟩
  exact ⟨p, xs, rfl, .inr (.inl (.inl h)), q⟩)
def rListH : List V → Hp → VK → Prop := fun vs H Q => ∃ p xs, vs = [.ref p] ∧ H p = some (.lst xs) ∧ ∀ l, H l = none → Q (.ref l) (upd H l (.lst xs))
theorem call_listH : CallR X (.type "list") rListH := CallR.of call_list_of (by
  rintro vs H Q ⟨p, xs, rfl, h, q⟩
  exact ⟨p, xs, rfl, .inl (.inl (.inl h)), q⟩)
theorem ints_dp {K : PySem.W.Frag} {H : Hp} : ∀ ns : List Int, DpAll K H (ns.map V.int) (ns.map PyData.int)
  | [] => .nil
  | n :: r => .cons (.int n) (ints_dp r)
theorem ints_eqv : ∀ ns ms : List Int, PyData.eqvAll (ns.map PyData.int) (ms.map PyData.int) = decide (ns = ms)
  | [], [] => by simp [PyData.eqvAll]
  | [], _ :: _ => by simp [PyData.eqvAll]
  | _ :: _, [] => by simp [PyData.eqvAll]
  | n :: r, m :: q => by
    rw [List.map_cons, List.map_cons, PyData.eqvAll, ints_eqv r q]
    simp only [PyData.eqv, List.cons.injEq, Bool.decide_and]
    by_cases h : n = m <;> simp [h]
theorem ints_lay : ∀ ns : List Int, PyData.canLayAll0 (ns.map PyData.int) = true
  | [] => rfl
  | _ :: r => by rw [List.map_cons, PyData.canLayAll0, ints_lay r]; rfl
theorem ints_depth : ∀ ns : List Int, PyData.depthAll (ns.map PyData.int) = 0
  | [] => rfl
  | _ :: r => by rw [List.map_cons, PyData.depthAll, ints_depth r]; rfl
theorem ints_shaped (ns : List Int) : SeqAt.shaped (.list (ns.map PyData.int)) = true := by
  unfold SeqAt.shaped
  rw [PyData.canLay0, ints_lay, PyData.depth, ints_depth]
  rfl
/-- == and != of two tracked lists of ints -/
def rEqIL : R2 := fun x y H Q => ∃ a b ns ms, x = .ref a ∧ y = .ref b ∧ H a = some (.lst (List.map V.int ns)) ∧ H b = some (.lst (List.map V.int ms)) ∧ Q (.bl (decide (ns = ms))) H
theorem op_eqIL (hu : X.A.units + 64 < cLine) : OpR X (compareOp .Eq) rEqIL := OpR.of (op_eqD hu) (by
  rintro x y H Q ⟨a, b, ns, ms, rfl, rfl, ha, hb, q⟩
  refine ⟨_, _, .lst (.inl (.inl ha)) (ints_dp ns), .lst (.inl (.inl hb)) (ints_dp ms), ints_shaped ns, ints_shaped ms, ?_⟩
  rw [PyData.eqv, ints_eqv]
  exact q)
def rNeIL : R2 := fun x y H Q => ∃ a b ns ms, x = .ref a ∧ y = .ref b ∧ H a = some (.lst (List.map V.int ns)) ∧ H b = some (.lst (List.map V.int ms)) ∧ Q (.bl (!decide (ns = ms))) H
theorem op_neIL (hu : X.A.units + 64 < cLine) : OpR X (compareOp .NotEq) rNeIL := OpR.of (op_neD hu) (by
  rintro x y H Q ⟨a, b, ns, ms, rfl, rfl, ha, hb, q⟩
  refine ⟨_, _, .lst (.inl (.inl ha)) (ints_dp ns), .lst (.inl (.inl hb)) (ints_dp ms), ints_shaped ns, ints_shaped ms, ?_⟩
  rw [PyData.eqv, ints_eqv]
  exact q)
/-- == of two tracked tuples of plain things -/
def dS : V → PyData
  | .int i => .int i
  | .bl b => .bool b
  | _ => .none
def isS : V → Bool
  | .int _ => true
  | .bl _ => true
  | .non => true
  | _ => false
theorem isS_dp {K : PySem.W.Frag} {H : Hp} : ∀ xs : List V, xs.all isS = true → DpAll K H xs (xs.map dS)
  | [], _ => .nil
  | x :: r, h => by
    rw [List.all_cons, Bool.and_eq_true] at h
    refine .cons ?_ (isS_dp r h.2)
    have h1 := h.1
    cases x <;> first | exact .int _ | exact .bl _ | exact .non | cases h1
theorem isS_lay : ∀ xs : List V, PyData.canLayAll0 (xs.map dS) = true
  | [] => rfl
  | x :: r => by rw [List.map_cons, PyData.canLayAll0, isS_lay r]; cases x <;> rfl
theorem isS_depth : ∀ xs : List V, PyData.depthAll (xs.map dS) = 0
  | [] => rfl
  | x :: r => by rw [List.map_cons, PyData.depthAll, isS_depth r]; cases x <;> rfl
theorem isS_shaped (xs : List V) : SeqAt.shaped (.tuple (xs.map dS)) = true := by
  unfold SeqAt.shaped
  rw [PyData.canLay0, isS_lay, PyData.depth, isS_depth]
  rfl
def rEqTS : R2 := fun x y H Q => ∃ a b xs ys, x = .ref a ∧ y = .ref b ∧ H a = some (.tup xs) ∧ H b = some (.tup ys) ∧ xs.all isS = true ∧ ys.all isS = true ∧ Q (.bl (PyData.eqvAll (xs.map dS) (ys.map dS))) H
theorem op_eqTS (hu : X.A.units + 64 < cLine) : OpR X (compareOp .Eq) rEqTS := OpR.of (op_eqD hu) (by
  rintro x y H Q ⟨a, b, xs, ys, rfl, rfl, ha, hb, h1, h2, q⟩
  refine ⟨_, _, .tup (.inl (.inl ha)) (isS_dp xs h1), .tup (.inl (.inl hb)) (isS_dp ys h2), isS_shaped xs, isS_shaped ys, ?_⟩
  rw [PyData.eqv]
  exact q)
theorem dS_int (i : Int) : dS (.int i) = .int i := rfl
theorem dS_bl (b : Bool) : dS (.bl b) = .bool b := rfl
theorem isS_int (i : Int) : isS (.int i) = true := rfl
theorem isS_bl (b : Bool) : isS (.bl b) = true := rfl
theorem eqv_ii (i j : Int) : PyData.eqv (.int i) (.int j) = decide (i = j) := by rw [PyData.eqv]; rfl
theorem eqv_bb (i j : Bool) : PyData.eqv (.bool i) (.bool j) = decide (i = j) := by rw [PyData.eqv]; cases i <;> cases j <;> rfl
theorem eqvAll_nil : PyData.eqvAll [] [] = true := by rw [PyData.eqvAll]
theorem eqvAll_cons (x y : PyData) (xs ys : List PyData) : PyData.eqvAll (x :: xs) (y :: ys) = (PyData.eqv x y && PyData.eqvAll xs ys) := by rw [PyData.eqvAll]
theorem ip_of {op : Operator} {r : R2} (h : OpR X (inplaceOp op) r) : PIp X op r := fun pins s σ H x y v u Q I r1 r2 q => h pins s σ H x y v u Q I r1 r2 q
theorem SlR.of {r r' : V → Option Int → Option Int → Hp → VK → Prop} (h : SlR X r) (k : ∀ x lo hi H Q, r' x lo hi H Q → r x lo hi H Q) : SlR X r' := fun pins s σ H x v vl vu lo hi sl Q I rx hs pl pu q => h pins s σ H x v vl vu lo hi sl Q I rx hs pl pu (k x lo hi H Q q)
/-- a slice of a tracked list -/
def rSlH : V → Option Int → Option Int → Hp → VK → Prop := fun x lo hi H Q => ∃ a xs, x = .ref a ∧ H a = some (.lst xs) ∧ ∀ p, H p = none → Q (.ref p) (upd H p (.lst (cutV xs lo hi)))
theorem sl_listH : SlR X rSlH := SlR.of sl_list (by
  rintro x lo hi H Q ⟨a, xs, rfl, h, q⟩
  exact ⟨a, xs, rfl, .inl (.inl h), q⟩)
/-- == and != of two tracked pairs of a list of ints and an int -/
theorem li_dp {K : PySem.W.Frag} {H : Hp} {q : Addr} {l : Int} {ns : List Int} (hq : H q = some (.lst (List.map V.int ns))) : DpAll K H [.ref q, .int l] [.list (ns.map PyData.int), .int l] := .cons (.lst (.inl (.inl hq)) (ints_dp ns)) (.cons (.int l) .nil)
theorem li_shaped (ns : List Int) (l : Int) : SeqAt.shaped (.tuple [.list (ns.map PyData.int), .int l]) = true := by
  unfold SeqAt.shaped
  rw [PyData.canLay0, PyData.canLayAll0, PyData.canLay0, ints_lay, PyData.canLayAll0, PyData.depth, PyData.depthAll, PyData.depth, ints_depth, PyData.depthAll]
  rfl
theorem li_eqv (ns ms : List Int) (l m : Int) : PyData.eqv (.tuple [.list (ns.map PyData.int), .int l]) (.tuple [.list (ms.map PyData.int), .int m]) = (decide (ns = ms) && decide (l = m)) := by
  rw [PyData.eqv, PyData.eqvAll, PyData.eqvAll, PyData.eqvAll, PyData.eqv, PyData.eqv, ints_eqv, Bool.and_true]
  rfl
def rEqLI : R2 := fun x y H Q => ∃ a b q r l m ns ms, x = .ref a ∧ y = .ref b ∧ H a = some (.tup [.ref q, .int l]) ∧ H b = some (.tup [.ref r, .int m]) ∧ H q = some (.lst (List.map V.int ns)) ∧ H r = some (.lst (List.map V.int ms)) ∧ Q (.bl (decide (ns = ms) && decide (l = m))) H
theorem op_eqLI (hu : X.A.units + 64 < cLine) : OpR X (compareOp .Eq) rEqLI := OpR.of (op_eqD hu) (by
  rintro x y H Q ⟨a, b, q, r, l, m, ns, ms, rfl, rfl, ha, hb, hq, hr, k⟩
  refine ⟨_, _, .tup (.inl (.inl ha)) (li_dp hq), .tup (.inl (.inl hb)) (li_dp hr), li_shaped ns l, li_shaped ms m, ?_⟩
  rw [li_eqv]
  exact k)
def rNeLI : R2 := fun x y H Q => ∃ a b q r l m ns ms, x = .ref a ∧ y = .ref b ∧ H a = some (.tup [.ref q, .int l]) ∧ H b = some (.tup [.ref r, .int m]) ∧ H q = some (.lst (List.map V.int ns)) ∧ H r = some (.lst (List.map V.int ms)) ∧ Q (.bl (!(decide (ns = ms) && decide (l = m)))) H
theorem op_neLI (hu : X.A.units + 64 < cLine) : OpR X (compareOp .NotEq) rNeLI := OpR.of (op_neD hu) (by
  rintro x y H Q ⟨a, b, q, r, l, m, ns, ms, rfl, rfl, ha, hb, hq, hr, k⟩
  refine ⟨_, _, .tup (.inl (.inl ha)) (li_dp hq), .tup (.inl (.inl hb)) (li_dp hr), li_shaped ns l, li_shaped ms m, ?_⟩
  rw [li_eqv]
  exact k)
def rIxH : R2 := fun x y H Q => ∃ p xs i v, x = .ref p ∧ y = .int i ∧ H p = some (.lst xs) ∧ atI xs i = some v ∧ Q v H
theorem IxR.of {r r' : R2} (h : IxR X r) (k : ∀ x y H Q, r' x y H Q → r x y H Q) : IxR X r' := fun va sl pins s σ H x y v u Q I rx ry q hs => h va sl pins s σ H x y v u Q I rx ry (k x y H Q q) hs
theorem ix_listH : IxR X rIxH := IxR.of ix_list (by
  rintro x y H Q ⟨p, xs, i, v, e1, e2, h, h2, q⟩
  exact ⟨p, xs, i, v, e1, e2, .inl (.inl h), h2, q⟩)
def rIxTH : R2 := fun x y H Q => ∃ p xs i v, x = .ref p ∧ y = .int i ∧ H p = some (.tup xs) ∧ atI xs i = some v ∧ Q v H
theorem ix_tupH : IxR X rIxTH := IxR.of ix_tup (by
  rintro x y H Q ⟨p, xs, i, v, e1, e2, h, h2, q⟩
  exact ⟨p, xs, i, v, e1, e2, .inl (.inl h), h2, q⟩)
end
/-- a place in bounds -/
theorem ixN_in {n : Nat} {k : Int} (h0 : 0 ≤ k) (h1 : k < n) : ixN n k = some k.toNat := by
  unfold ixN
  rw [if_pos h0, if_pos h1]
theorem atI_in {xs : List Int} {k : Int} (h0 : 0 ≤ k) (h1 : k < xs.length) : ∃ b, xs[k.toNat]? = some b ∧ atI (xs.map V.int) k = some (.int b) := by
  have h : k.toNat < xs.length := by omega
  refine ⟨xs[k.toNat], List.getElem?_eq_getElem h, ?_⟩
  unfold atI
  rw [List.length_map, ixN_in h0 h1]
  show (xs.map V.int)[k.toNat]? = _
  rw [List.getElem?_map, List.getElem?_eq_getElem h]
  rfl
theorem mod_in (x : Int) {m : Int} (h : 0 < m) : 0 ≤ x % m ∧ x % m < m := ⟨Int.emod_nonneg x (by omega), Int.emod_lt_of_pos x h⟩
theorem atI_c0 {α : Type} (x : α) (xs : List α) : atI (x :: xs) 0 = some x := atI_nat (j := 0) rfl
theorem atI_c1 {α : Type} (x y : α) (xs : List α) : atI (x :: y :: xs) 1 = some y := atI_nat (j := 1) rfl
theorem atI_c2 {α : Type} (x y z : α) (xs : List α) : atI (x :: y :: z :: xs) 2 = some z := atI_nat (j := 2) rfl
theorem atI_c3 {α : Type} (x y z u : α) (xs : List α) : atI (x :: y :: z :: u :: xs) 3 = some u := atI_nat (j := 3) rfl

theorem tyV_upd {K : PySem.W.Frag} {H : Hp} {p : Addr} {xs : List V} : tyV K "list" (.ref p) (upd H p (.lst xs)) = True := eq_true (.inl ⟨rfl, xs, .inl (.inl upd_same)⟩)
theorem nil_sz : (0 ≤ sizeLine) = True := eq_true (Nat.zero_le _)
/-- what a for asks once its walk stands -/
def Loop (J : It) (g : TG) (tb : TS) (D : Ends) (σ : L2.St) (H1 : Hp) : Prop := ∃ W : Nat → Nat → L2.St → Hp → Prop, (∃ m, W 0 m σ H1) ∧ ∀ i m σ H, W i m σ H →
  (J.stop i H ∧ D.nx σ H) ∨ (J.go i H ∧ ∃ N : L2.St → Hp → Prop, (∀ σ' H', N σ' H' → ∃ m', m' < m ∧ W (i + 1) m' σ' H') ∧ ∀ x H', J.yld i H x H' → g x σ H' fun σ2 H2 => tb { D with nx := N, ct := N, bk := D.nx } σ2 H2)
theorem tFor_eq {wi : TI} {g : TG} {tb : TS} {D : Ends} {σ : L2.St} {H : Hp} : tFor wi g tb D σ H = wi σ H fun J H1 => Loop J g tb D σ H1 := rfl
theorem lp_range {n : Nat} {g : TG} {tb : TS} {D : Ends} {σ : L2.St} {H : Hp} (Pv : Nat → L2.St → Hp → Prop) (h0 : Pv 0 σ H)
    (hs : ∀ i σ H, i < n → Pv i σ H → g (.int i) σ H fun σ2 H2 => tb { D with nx := Pv (i + 1), ct := Pv (i + 1), bk := D.nx } σ2 H2) (hd : ∀ σ H, Pv n σ H → D.nx σ H) : Loop (Itr 0 n) g tb D σ H :=
  for_range (lo := 0) Pv h0 (fun i σ H a b => by have := hs i σ H a b; rw [Int.zero_add]; exact this) hd
theorem lp_list {K : PySem.W.Frag} {a : Addr} {xs : List V} {g : TG} {tb : TS} {D : Ends} {σ : L2.St} {H : Hp} (Pv : Nat → L2.St → Hp → Prop) (h0 : Pv 0 σ H) (hl : ∀ i σ H, i ≤ xs.length → Pv i σ H → SqL K H a xs)
    (hs : ∀ i x σ H, xs[i]? = some x → Pv i σ H → g x σ H fun σ2 H2 => tb { D with nx := Pv (i + 1), ct := Pv (i + 1), bk := D.nx } σ2 H2) (hd : ∀ σ H, Pv xs.length σ H → D.nx σ H) : Loop (Itl K a) g tb D σ H := for_list Pv h0 hl hs hd
/-- the same for a comprehension -/
def LcLoop (J : It) (g : TG) (tt : TT) (te : TE) (vs : List Nat) (σ : L2.St) (H1 : Hp) (Q : VK) : Prop := ∀ D, H1 D = none → ∃ W : Nat → Nat → Hp → Prop, (∃ m, W 0 m (upd H1 D (.lst []))) ∧ ∀ i m H, W i m H →
  (J.stop i H ∧ Q (.ref D) H) ∨ (J.go i H ∧ ∃ Nx : Hp → Prop, (∀ H', Nx H' → ∃ m', m' < m ∧ W (i + 1) m' H') ∧ ∀ x H', J.yld i H x H' → g x (wipe σ vs) H' fun σ2 H2 => wipe σ2 vs = wipe σ vs ∧ tt σ2 H2 fun b H3 =>
    if b = true then te σ2 H3 fun y H4 => ∃ acc, H4 D = some (.lst acc) ∧ acc.length < sizeLine ∧ Nx (upd H4 D (.lst (acc ++ [y]))) else Nx H3)
theorem tLc_eq {wi : TI} {g : TG} {tt : TT} {te : TE} {vs : List Nat} {σ : L2.St} {H : Hp} {Q : VK} : tLc wi g tt te vs σ H Q = wi σ H fun J H1 => LcLoop J g tt te vs σ H1 Q := rfl
/-- a comprehension over a list, whose elements leave the heap as it is: L i is what i turns have made -/
theorem lc_pure {K : PySem.W.Frag} {a : Addr} {xs : List V} {g : TG} {tt : TT} {te : TE} {vs : List Nat} {σ : L2.St} {H1 : Hp} {Q : VK} (L : Nat → List V) (hS : SqL K H1 a xs) (h0 : L 0 = [])
    (hs : ∀ i x D, xs[i]? = some x → H1 D = none → g x (wipe σ vs) (upd H1 D (.lst (L i))) fun σ2 H2 => wipe σ2 vs = wipe σ vs ∧ tt σ2 H2 fun b H3 =>
      if b = true then te σ2 H3 fun y H4 => ∃ acc, H4 D = some (.lst acc) ∧ acc.length < sizeLine ∧ upd H4 D (.lst (acc ++ [y])) = upd H1 D (.lst (L (i + 1))) else H3 = upd H1 D (.lst (L (i + 1))))
    (hd : ∀ D, H1 D = none → Q (.ref D) (upd H1 D (.lst (L xs.length)))) : LcLoop (Itl K a) g tt te vs σ H1 Q := by
  intro D hD
  refine lc_list (K := K) (a := a) (xs := xs) (fun i H => H = upd H1 D (.lst (L i))) (by rw [h0]) (fun i H _ e => ?_) (fun i x H hx e => ?_) (fun H e => ?_)
  · subst e
    exact (show Same H1 _ from fun b o e => by rw [upd_ne (ne_of_none e hD)]; exact e).seq hS
  · subst e
    exact hs i x D hx hD
  · subst e
    exact hd D hD
theorem lc_pure_range {n : Nat} {g : TG} {tt : TT} {te : TE} {vs : List Nat} {σ : L2.St} {H1 : Hp} {Q : VK} (L : Nat → List V) (h0 : L 0 = [])
    (hs : ∀ i D, i < n → H1 D = none → g (.int i) (wipe σ vs) (upd H1 D (.lst (L i))) fun σ2 H2 => wipe σ2 vs = wipe σ vs ∧ tt σ2 H2 fun b H3 =>
      if b = true then te σ2 H3 fun y H4 => ∃ acc, H4 D = some (.lst acc) ∧ acc.length < sizeLine ∧ upd H4 D (.lst (acc ++ [y])) = upd H1 D (.lst (L (i + 1))) else H3 = upd H1 D (.lst (L (i + 1))))
    (hd : ∀ D, H1 D = none → Q (.ref D) (upd H1 D (.lst (L n)))) : LcLoop (Itr 0 n) g tt te vs σ H1 Q := by
  intro D hD
  refine lc_range (lo := 0) (n := n) (fun i H => H = upd H1 D (.lst (L i))) (by rw [h0]) (fun i H hi e => ?_) (fun H e => ?_)
  · subst e
    rw [Int.zero_add]
    exact hs i D hi hD
  · subst e
    exact hd D hD
theorem lp_zip {K : PySem.W.Frag} {a b : Addr} {xs ys : List V} {g : TG} {tb : TS} {D : Ends} {σ : L2.St} {H : Hp} (hl : xs.length = ys.length) (Pv : Nat → L2.St → Hp → Prop) (h0 : Pv 0 σ H) (hq : ∀ i σ H, Pv i σ H → SqL K H a xs ∧ SqL K H b ys)
    (hs : ∀ (i : Nat) (x y : V) (T : Addr) (σ : L2.St) (H : Hp), xs[i]? = some x → ys[i]? = some y → Pv i σ H → H T = none → g (.ref T) σ (upd H T (.tup [x, y])) fun σ2 H2 => tb { D with nx := Pv (i + 1), ct := Pv (i + 1), bk := D.nx } σ2 H2) (hd : ∀ σ H, Pv xs.length σ H → D.nx σ H) :
    Loop (Itz K a b) g tb D σ H := RZ.for_zipL hl Pv h0 hq hs hd
theorem lc_str {x : Str} {g : TG} {tt : TT} {te : TE} {vs : List Nat} {σ : L2.St} {H1 : Hp} {Q : VK} (L : Nat → List V) (h0 : L 0 = [])
    (hs : ∀ i c D, x.cps[i]? = some c → H1 D = none → g (.str ⟨#[c]⟩) (wipe σ vs) (upd H1 D (.lst (L i))) fun σ2 H2 => wipe σ2 vs = wipe σ vs ∧ tt σ2 H2 fun b H3 =>
      if b = true then te σ2 H3 fun y H4 => ∃ acc, H4 D = some (.lst acc) ∧ acc.length < sizeLine ∧ upd H4 D (.lst (acc ++ [y])) = upd H1 D (.lst (L (i + 1))) else H3 = upd H1 D (.lst (L (i + 1))))
    (hd : ∀ D, H1 D = none → Q (.ref D) (upd H1 D (.lst (L x.cps.size)))) : LcLoop (Its x) g tt te vs σ H1 Q := by
  intro D hD
  refine ⟨fun i m H => m = x.cps.size - i ∧ i ≤ x.cps.size ∧ H = upd H1 D (.lst (L i)), ⟨x.cps.size, by simp, Nat.zero_le _, by rw [h0]⟩, ?_⟩
  rintro i m H ⟨rfl, hi, rfl⟩
  by_cases hlt : i < x.cps.size
  · refine .inr ⟨hlt, fun H' => H' = upd H1 D (.lst (L (i + 1))), fun H' p' => ⟨x.cps.size - (i + 1), by omega, rfl, hlt, p'⟩, fun v H' y => ?_⟩
    obtain ⟨e, c, hc, ev⟩ := y
    subst e ev
    exact hs i c D hc hD
  · have e : i = x.cps.size := by omega
    subst e
    exact .inl ⟨Nat.le_refl _, hd D hD⟩
theorem lc_rangeC {lo c : Int} {n : Nat} {g : TG} {tt : TT} {te : TE} {vs : List Nat} {σ : L2.St} {H1 : Hp} {Q : VK} (L : Nat → List V) (h0 : L 0 = [])
    (hs : ∀ i D, i < n → H1 D = none → g (.int (lo + (i : Nat) * c)) (wipe σ vs) (upd H1 D (.lst (L i))) fun σ2 H2 => wipe σ2 vs = wipe σ vs ∧ tt σ2 H2 fun b H3 =>
      if b = true then te σ2 H3 fun y H4 => ∃ acc, H4 D = some (.lst acc) ∧ acc.length < sizeLine ∧ upd H4 D (.lst (acc ++ [y])) = upd H1 D (.lst (L (i + 1))) else H3 = upd H1 D (.lst (L (i + 1))))
    (hd : ∀ D, H1 D = none → Q (.ref D) (upd H1 D (.lst (L n)))) : LcLoop (Itc lo c n) g tt te vs σ H1 Q := by
  intro D hD
  refine ⟨fun i m H => m = n - i ∧ i ≤ n ∧ H = upd H1 D (.lst (L i)), ⟨n, by simp, Nat.zero_le _, by rw [h0]⟩, ?_⟩
  rintro i m H ⟨rfl, hi, rfl⟩
  by_cases hlt : i < n
  · refine .inr ⟨hlt, fun H' => H' = upd H1 D (.lst (L (i + 1))), fun H' p' => ⟨n - (i + 1), by omega, rfl, hlt, p'⟩, fun v H' y => ?_⟩
    obtain ⟨e, ev⟩ := y
    subst e ev
    exact hs i D hlt hD
  · have e : i = n := by omega
    subst e
    exact .inl ⟨Nat.le_refl _, hd D hD⟩
theorem small_two {a b : Int} (ha : -(2 ^ 62) ≤ a) (ha' : a < 2 ^ 62) (hb : -(2 ^ 62) ≤ b) (hb' : b < 2 ^ 62) : Builtin.Range.small a b 2 = true := by
  unfold Builtin.Range.small Builtin.Range.rangeSize
  simp only [Builtin.Range.rangeFitsLong, Bool.and_eq_true, Bool.or_eq_true, decide_eq_true_eq, beq_iff_eq, show ((2 : Int) > 0) by decide, if_true]
  split <;> omega
theorem rg_two {n : Nat} (h : n < 1000000) : RgC 0 ((n : Int) - 1) 2 (n / 2) := by
  refine ⟨by decide, by decide, small_two (by decide) (by decide) (by omega) (by omega), ?_⟩
  unfold Builtin.Range.rangeSize
  rw [if_pos (by decide)]
  split <;> omega
theorem wh_by {c : TT} {tb : TS} {D : Ends} {σ : L2.St} {H : Hp} (W : Nat → L2.St → Hp → Prop) (m : Nat) (h0 : W m σ H)
    (hs : ∀ m σ H, W m σ H → c σ H fun b H1 => if b = true then ∃ N : L2.St → Hp → Prop, (∀ σ' H', N σ' H' → ∃ m', m' < m ∧ W m' σ' H') ∧ tb { D with nx := N, ct := N, bk := D.nx } σ H1 else D.nx σ H1) : tWhile c tb D σ H := ⟨W, ⟨m, h0⟩, hs⟩
theorem lc_rng {n : Nat} {g : TG} {tt : TT} {te : TE} {vs : List Nat} {σ : L2.St} {H1 : Hp} {Q : VK} (Pv : Addr → Nat → Hp → Prop) (h0 : ∀ D, H1 D = none → Pv D 0 (upd H1 D (.lst [])))
    (hs : ∀ D i H, i < n → H1 D = none → Pv D i H → g (.int i) (wipe σ vs) H fun σ2 H2 => wipe σ2 vs = wipe σ vs ∧ tt σ2 H2 fun b H3 =>
      if b = true then te σ2 H3 fun y H4 => ∃ acc, H4 D = some (.lst acc) ∧ acc.length < sizeLine ∧ Pv D (i + 1) (upd H4 D (.lst (acc ++ [y]))) else Pv D (i + 1) H3)
    (hd : ∀ D H, H1 D = none → Pv D n H → Q (.ref D) H) : LcLoop (Itr 0 n) g tt te vs σ H1 Q := by
  intro D hD
  refine lc_range (lo := 0) (n := n) (Pv D) (h0 D hD) (fun i H hi p => ?_) (fun H p => hd D H hD p)
  rw [Int.zero_add]
  exact hs D i H hi hD p
theorem same_upd {H : Hp} {p : Addr} {o : HO} (h : H p = none) : Same H (upd H p o) := fun b x e => by
  rw [upd_ne (ne_of_none e h)]
  exact e
theorem same_upd2 {H H' : Hp} {q : Addr} {o : HO} (s : Same H H') (h : H q = none) : Same H (upd H' q o) := fun b x e => by
  rw [upd_ne (ne_of_none e h)]
  exact s b x e

/-! ### fresh objects: the heap behind one as a heap of its own -/
def NewH (H : Hp) (o : HO) (k : Addr → Hp → Prop) : Prop := ∀ p H', Same H H' → H p = none → H' p = some o → k p H'
theorem NewH.go {H : Hp} {o : HO} {k : Addr → Hp → Prop} (h : NewH H o k) : ∀ p, H p = none → k p (upd H p o) := fun p hp => h p _ (same_upd hp) hp upd_same
section
variable {X : Cx} {es : List Expr} {t : TA} {pos : Pos}
theorem pa_mono (h : PA X es t) : PA X es (fun σ H Q => ∃ Q', t σ H Q' ∧ ∀ xs H1, Q' xs H1 → Q xs H1) := ⟨fun pos pins s σ H Q I ⟨_, q, k⟩ => thn (h.run pos pins s σ H _ I q) fun _ _ ⟨vs, H', I', r, q'⟩ => ⟨vs, H', I', r, k _ _ q'⟩⟩
theorem PE.of {e : Expr} {t t' : TE} (h : PE X e t) (k : ∀ σ H Q, t' σ H Q → t σ H Q) : PE X e t' := ⟨fun pins s σ H Q I q => h.run pins s σ H Q I (k _ _ _ q)⟩
def tTupS (t : TA) : TE := fun σ H Q => t σ H fun xs H1 => xs.length ≤ sizeLine ∧ NewH H1 (.tup xs) fun p H' => Q (.ref p) H'
def tLstS (t : TA) : TE := fun σ H Q => t σ H fun xs H1 => xs.length ≤ sizeLine ∧ NewH H1 (.lst xs) fun p H' => Q (.ref p) H'
theorem pe_tupS {x1} (h : PA X es t) : PE X (.Tuple es x1 pos) (tTupS t) := PE.of (pe_tup (pa_mono h)) fun σ H Q q => ⟨_, q, fun _ _ z => ⟨z.1, z.2.go⟩⟩
theorem pe_lstS (h : PA X es t) : PE X (.List es pos) (tLstS t) := PE.of (pe_lst (pa_mono h)) fun σ H Q q => ⟨_, q, fun _ _ z => ⟨z.1, z.2.go⟩⟩
def rListS : List V → Hp → VK → Prop := fun vs H Q => ∃ p xs, vs = [.ref p] ∧ H p = some (.lst xs) ∧ NewH H (.lst xs) fun l H' => Q (.ref l) H'
theorem call_listS : CallR X (.type "list") rListS := CallR.of call_listH fun vs H Q ⟨p, xs, e, h, q⟩ => ⟨p, xs, e, h, q.go⟩
/-- list(t) of a tuple -/
def rListT : List V → Hp → VK → Prop := fun vs H Q => ∃ p xs, vs = [.ref p] ∧ H p = some (.tup xs) ∧ NewH H (.lst xs) fun l H' => Q (.ref l) H'
theorem call_listT : CallR X (.type "list") rListT := CallR.of call_list_of fun vs H Q ⟨p, xs, e, h, q⟩ => ⟨p, xs, e, .inr (.inl (.inl h)), q.go⟩
/-- tuple(xs) of a tracked list -/
def rTupleL : List V → Hp → VK → Prop := fun vs H Q => ∃ p xs, vs = [.ref p] ∧ H p = some (.lst xs) ∧ NewH H (.tup xs) fun l H' => Q (.ref l) H'
theorem call_tupleL : CallR X (.type "tuple") rTupleL := CallR.of call_tuple_of fun vs H Q ⟨p, xs, e, h, q⟩ => ⟨p, xs, e, .inl ⟨.inl (.inl h), q.go⟩⟩
def rCatL : R2 := fun x y H Q => ∃ l b xs zs, x = .ref l ∧ y = .ref b ∧ H l = some (.lst xs) ∧ H b = some (.lst zs) ∧ xs.length + zs.length ≤ sizeLine ∧ NewH H (.lst (xs ++ zs)) fun p H' => Q (.ref p) H'
theorem op_catS : OpR X (binaryOp .Add) rCatL := OpR.of op_cat fun x y H Q ⟨l, b, xs, zs, e1, e2, h1, h2, z, q⟩ => ⟨l, b, xs, zs, e1, e2, h1, h2, z, q.go⟩
/-- [x] * n -/
def rRepS : R2 := fun x y H Q => ∃ l k v, x = .ref l ∧ y = .int k ∧ H l = some (.lst [v]) ∧ k ≤ 16777216 ∧ -(2 ^ 62) ≤ k ∧ NewH H (.lst (List.replicate k.toNat v)) fun p H' => Q (.ref p) H'
theorem rep_flat {α : Type} (n : Nat) (y : α) : (List.replicate n [y]).flatten = List.replicate n y := by
  induction n with
  | zero => rfl
  | succ n ih => rw [List.replicate_succ, List.flatten_cons, ih, List.replicate_succ]; rfl
theorem op_repS : OpR X (binaryOp .Mult) rRepS := OpR.of op_rep fun x y H Q ⟨l, k, v, e1, e2, h1, z1, z2, q⟩ => ⟨l, k, [v], e1, e2, h1, by omega, by omega, by
    rw [List.length_singleton, show sizeLine = 16777216 from rfl]; omega, by rw [rep_flat]; exact q.go⟩
def rSlS : V → Option Int → Option Int → Hp → VK → Prop := fun x lo hi H Q => ∃ a xs, x = .ref a ∧ H a = some (.lst xs) ∧ NewH H (.lst (cutV xs lo hi)) fun p H' => Q (.ref p) H'
theorem sl_listS : SlR X rSlS := SlR.of sl_listH fun x lo hi H Q ⟨a, xs, e, h, q⟩ => ⟨a, xs, e, h, q.go⟩
theorem pe_mono {e : Expr} {t : TE} (h : PE X e t) : PE X e (fun σ H Q => ∃ Q', t σ H Q' ∧ ∀ v H1, Q' v H1 → Q v H1) := ⟨fun pins s σ H Q I ⟨_, q, k⟩ => thn (h.run pins s σ H _ I q) fun _ _ ⟨v, H', I', r, q'⟩ => ⟨v, H', I', r, k _ _ q'⟩⟩
theorem PG.of {e : Expr} {t t' : TG} (h : PG X e t) (k : ∀ v σ H Q, t' v σ H Q → t v σ H Q) : PG X e t' := ⟨fun pins s σ H v u Q I r q => h.run pins s σ H v u Q I r (k _ _ _ _ q)⟩
theorem PI.of {tg e : Expr} {t t' : TI} (h : PI X tg e t) (k : ∀ σ H R, t' σ H R → t σ H R) : PI X tg e t' := ⟨fun pins s σ H R I q => h.run pins s σ H R I (k _ _ _ q)⟩
def gTupS (n : Nat) (t : TGs) : TG := fun v σ H Q => ∃ a xs, v = .ref a ∧ H a = some (.tup xs) ∧ xs.length = n ∧ t xs σ H Q
theorem pg_tupS {k : Nat} {t : TGs} {n : Nat} (hc : X.calm = true) (h : PGs X es t) (hn : (assignEach es X.env).length = n := by rfl) (hst : (assignEach es X.env).findIdx? (·.1) = none := by rfl) : PG X (.Tuple es k pos) (gTupS n t) :=
  PG.of (pg_tup hc h hn hst) fun v σ H Q ⟨a, xs, e, g, l, q⟩ => ⟨a, xs, e, .inl (.inl g), l, q⟩
def gLstS (n : Nat) (t : TGs) : TG := fun v σ H Q => ∃ a xs, v = .ref a ∧ H a = some (.lst xs) ∧ xs.length = n ∧ t xs σ H Q
theorem pg_lstS {k : Nat} {t : TGs} {n : Nat} (hc : X.calm = true) (h : PGs X es t) (hn : (assignEach es X.env).length = n := by rfl) (hst : (assignEach es X.env).findIdx? (·.1) = none := by rfl) : PG X (.Tuple es k pos) (gLstS n t) :=
  PG.of (pg_lst hc h hn hst) fun v σ H Q ⟨a, xs, e, g, l, q⟩ => ⟨a, xs, e, .inl (.inl g), l, q⟩
def iListS (K : PySem.W.Frag) (tl : TE) : TI := fun σ H R => tl σ H fun x H1 => ∃ a xs, x = .ref a ∧ H1 a = some (.lst xs) ∧ R (Itl K a) H1
theorem pi_listS {tg l : Expr} {tl : TE} (hl : PE X l tl) : PI X tg l (iListS X.K tl) := PI.of (pi_list (pe_mono hl)) fun σ H R q => ⟨_, q, fun _ _ ⟨a, xs, e, g, r⟩ => ⟨a, e, ⟨xs, .inl (.inl g)⟩, r⟩⟩
def iTupS (K : PySem.W.Frag) (tl : TE) : TI := fun σ H R => tl σ H fun x H1 => ∃ a xs, x = .ref a ∧ H1 a = some (.tup xs) ∧ R (Itt K a) H1
theorem pi_tupS {tg l : Expr} {tl : TE} (hl : PE X l tl) : PI X tg l (iTupS X.K tl) := PI.of (pi_tup (pe_mono hl)) fun σ H R q => ⟨_, q, fun _ _ ⟨a, xs, e, g, r⟩ => ⟨a, e, ⟨xs, .inl (.inl g)⟩, r⟩⟩
def tML (r : V → List V → Hp → VK → Prop) (to : TE) (t : TA) : TE := fun σ H Q => to σ H fun x H1 => ∃ p xs, x = .ref p ∧ H1 p = some (.lst xs) ∧ t σ H1 fun ys H2 => r x ys H2 Q
theorem pe_ml {to : TE} {t : TA} {e : PySem.Expr} {K : PySem.W.Frag} {r : V → List V → Hp → VK → Prop} (h : PE X e (tBM K "list" r (fun σ H Q => ∃ Q', to σ H Q' ∧ ∀ v H1, Q' v H1 → Q v H1) t)) : PE X e (tML r to t) :=
  PE.of h fun σ H Q q => ⟨_, q, fun v H1 ⟨p, xs, e, g, z⟩ => ⟨by rw [e]; exact .inl ⟨rfl, xs, .inl (.inl g)⟩, z⟩⟩
def tML0 (r : V → List V → Hp → VK → Prop) (to : TE) : TE := fun σ H Q => to σ H fun x H1 => ∃ p xs, x = .ref p ∧ H1 p = some (.lst xs) ∧ r x [] H1 Q
theorem pe_ml0 {to : TE} {e : PySem.Expr} {K : PySem.W.Frag} {r : V → List V → Hp → VK → Prop} (h : PE X e (tBM0 K "list" r (fun σ H Q => ∃ Q', to σ H Q' ∧ ∀ v H1, Q' v H1 → Q v H1))) : PE X e (tML0 r to) :=
  PE.of h fun σ H Q q => ⟨_, q, fun v H1 ⟨p, xs, e, g, z⟩ => ⟨by rw [e]; exact .inl ⟨rfl, xs, .inl (.inl g)⟩, z⟩⟩
end
/-- loops and comprehensions over any walk -/
theorem lpW {J : It} {n : Nat} {G : Hp → Prop} {Y : Nat → Hp → V → Hp → Prop} (w : Walk J n G Y) {g : TG} {tb : TS} {D : Ends} {σ : L2.St} {H : Hp} (Pv : Nat → L2.St → Hp → Prop) (h0 : Pv 0 σ H) (hG : ∀ i σ H, i ≤ n → Pv i σ H → G H)
    (hs : ∀ i x σ H H', i < n → Pv i σ H → Y i H x H' → g x σ H' fun σ2 H2 => tb { D with nx := Pv (i + 1), ct := Pv (i + 1), bk := D.nx } σ2 H2) (hd : ∀ σ H, Pv n σ H → D.nx σ H) : Loop J g tb D σ H := for_it w Pv h0 hG hs hd
theorem lcW {J : It} {n : Nat} {G : Hp → Prop} {Y : Nat → Hp → V → Hp → Prop} (w : Walk J n G Y) {g : TG} {tt : TT} {te : TE} {vs : List Nat} {σ : L2.St} {H1 : Hp} {Q : VK} (Pv : Addr → Nat → Hp → Prop) (h0 : ∀ D H, Same H1 H → H1 D = none → H D = some (.lst []) → Pv D 0 H)
    (hG : ∀ D i H, H1 D = none → i ≤ n → Pv D i H → G H) (hs : ∀ D i x H H', i < n → H1 D = none → Pv D i H → Y i H x H' → g x (wipe σ vs) H' fun σ2 H2 => wipe σ2 vs = wipe σ vs ∧ tt σ2 H2 fun b H3 =>
      if b = true then te σ2 H3 fun y H4 => ∃ acc, H4 D = some (.lst acc) ∧ acc.length < sizeLine ∧ Pv D (i + 1) (upd H4 D (.lst (acc ++ [y]))) else Pv D (i + 1) H3)
    (hd : ∀ D H, H1 D = none → Pv D n H → Q (.ref D) H) : LcLoop J g tt te vs σ H1 Q :=
  fun D hD => lc_it w (Pv D) (h0 D _ (same_upd hD) hD upd_same) (fun i H hi p => hG D i H hD hi p) (fun i x H H' hi p y => hs D i x H H' hi hD p y) fun H p => hd D H hD p
theorem lcL {J : It} {n : Nat} {G : Hp → Prop} {Y : Nat → Hp → V → Hp → Prop} (w : Walk J n G Y) {g : TG} {tt : TT} {te : TE} {vs : List Nat} {σ : L2.St} {H1 : Hp} {Q : VK} (L : Nat → List V) (hz : L 0 = []) (hG : ∀ H, Same H1 H → G H)
    (hs : ∀ D i x H H', i < n → H1 D = none → Same H1 H → H D = some (.lst (L i)) → Y i H x H' → g x (wipe σ vs) H' fun σ2 H2 => wipe σ2 vs = wipe σ vs ∧ tt σ2 H2 fun b H3 =>
      if b = true then te σ2 H3 fun y H4 => ∃ acc, H4 D = some (.lst acc) ∧ acc.length < sizeLine ∧ Same H1 (upd H4 D (.lst (acc ++ [y]))) ∧ upd H4 D (.lst (acc ++ [y])) D = some (.lst (L (i + 1))) else Same H1 H3 ∧ H3 D = some (.lst (L (i + 1))))
    (hd : ∀ D H, Same H1 H → H1 D = none → H D = some (.lst (L n)) → Q (.ref D) H) : LcLoop J g tt te vs σ H1 Q :=
  lcW w (fun D i H => Same H1 H ∧ H D = some (.lst (L i))) (fun D H s _ g => ⟨s, by rw [g, hz]⟩) (fun _ _ H _ _ p => hG H p.1) (fun D i x H H' hi hD p y => hs D i x H H' hi hD p.1 p.2 y) fun D H hD p => hd D H p.1 hD p.2
theorem walkR {n : Nat} : Walk (Itr 0 n) n (fun _ => True) (YFn fun i => .int (i : Int)) := walk_range.mono (fun _ h => h) fun i H x H' _ _ y => ⟨y.1, by rw [y.2]; show V.int (0 + (i : Int)) = V.int (i : Int); rw [Int.zero_add]⟩
theorem walkL {K : PySem.W.Frag} {a : Addr} {xs : List V} : Walk (Itl K a) xs.length (fun H => H a = some (.lst xs)) (YAt xs) := (walk_list (K := K) (a := a) (xs := xs)).mono (fun _ h => .inl (.inl h)) fun _ _ _ _ _ _ y => y
theorem walkT {K : PySem.W.Frag} {a : Addr} {xs : List V} : Walk (Itt K a) xs.length (fun H => H a = some (.tup xs)) (YAt xs) := (walk_tup (K := K) (a := a) (xs := xs)).mono (fun _ h => .inl (.inl h)) fun _ _ _ _ _ _ y => y
/-- a list of ints is walked -/
def YInt (ns : List Int) : Nat → Hp → V → Hp → Prop := fun i H v H' => H' = H ∧ ∃ b, ns[i]? = some b ∧ v = .int b
theorem walkI {K : PySem.W.Frag} {a : Addr} {ns : List Int} : Walk (Itl K a) ns.length (fun H => H a = some (.lst (List.map V.int ns))) (YInt ns) := by
  have w := walkL (K := K) (a := a) (xs := List.map V.int ns)
  rw [List.length_map] at w
  refine w.mono (fun _ h => h) fun i H x H' _ _ y => ⟨y.1, ?_⟩
  have h := y.2
  rw [List.getElem?_map] at h
  obtain ⟨b, h1, rfl⟩ := Option.map_eq_some_iff.mp h
  exact ⟨b, h1, rfl⟩
theorem sqL_eq {K : PySem.W.Frag} {H : Hp} {a : Addr} {xs : List V} (h : H a = some (.lst xs)) : (∃ xs, SqL K H a xs) = True := eq_true ⟨_, .inl (.inl h)⟩
theorem sqT_eq {K : PySem.W.Frag} {H : Hp} {a : Addr} {xs : List V} (h : H a = some (.tup xs)) : (∃ xs, SqT K H a xs) = True := eq_true ⟨_, .inl (.inl h)⟩
theorem tyL_eq {K : PySem.W.Frag} {H : Hp} {p : Addr} {xs : List V} (h : H p = some (.lst xs)) : tyV K "list" (.ref p) H = True := eq_true (.inl ⟨rfl, xs, .inl (.inl h)⟩)
theorem Same.c2 {H H' : Hp} {a b : Addr} {x y : HO} (s : Same H H') (ga : H a = some x) (gb : H b = some y) : H' a = some x ∧ H' b = some y := ⟨s _ _ ga, s _ _ gb⟩
theorem map_int_inj {xs ys : List Int} : (List.map V.int xs = List.map V.int ys) = (xs = ys) := by
  refine propext ⟨fun h => ?_, fun h => by rw [h]⟩
  induction xs generalizing ys with
  | nil => cases ys with
    | nil => rfl
    | cons y q => cases h
  | cons x r ih => cases ys with
    | nil => cases h
    | cons y q =>
      rw [List.map_cons, List.map_cons, List.cons.injEq, V.int.injEq] at h
      rw [h.1, ih h.2]
theorem sz1 : (1 ≤ sizeLine) = True := eq_true (by decide)
theorem sz2 : (2 ≤ sizeLine) = True := eq_true (by decide)
theorem sz3 : (3 ≤ sizeLine) = True := eq_true (by decide)
theorem sz4 : (4 ≤ sizeLine) = True := eq_true (by decide)
theorem sz5 : (5 ≤ sizeLine) = True := eq_true (by decide)
theorem sz6 : (6 ≤ sizeLine) = True := eq_true (by decide)
theorem sz8 : (8 ≤ sizeLine) = True := eq_true (by decide)
/-- an item of a list of ints -/
def gN (ns : List Int) (i : Nat) : Int := ns.getD i 0
theorem at_g {ns : List Int} {i : Nat} (h : i < ns.length) : atI (ns.map V.int) (i : Int) = some (V.int (gN ns i)) := by
  refine atI_nat ?_
  rw [List.getElem?_map, List.getElem?_eq_getElem h]
  simp [gN, h]
theorem at_g' {ns : List Int} {k : Int} {i : Nat} (e : k = (i : Int)) (h : i < ns.length) : atI (ns.map V.int) k = some (V.int (gN ns i)) := by
  rw [e]
  exact at_g h
theorem iteT' {c : Bool} {a b : Prop} (h : c = true) (x : a) : if c = true then a else b := by rw [if_pos h]; exact x
theorem iteF' {c : Bool} {a b : Prop} (h : c = false) (x : b) : if c = true then a else b := by rw [if_neg (by rw [h]; decide)]; exact x
theorem iteB {c : Bool} {p : Prop} [Decidable p] {a b : Prop} (h : c = decide p) (x : p → a) (y : ¬ p → b) : if c = true then a else b := by
  subst h
  exact ite2 (fun e => x (of_decide_eq_true e)) fun e => y fun z => e (decide_eq_true z)
theorem iteD {p : Prop} [Decidable p] {a b : Prop} (x : p → a) (y : ¬ p → b) : if decide p = true then a else b := iteB rfl x y
def mx (x y : Int) : Int := if x < y then y else x
def mn (x y : Int) : Int := if y < x then y else x
theorem mx_eq (x y : Int) : (if x < y then y else x) = mx x y := rfl
theorem mn_eq (x y : Int) : (if y < x then y else x) = mn x y := rfl
theorem mx_le {x y z : Int} : mx x y ≤ z ↔ x ≤ z ∧ y ≤ z := by
  unfold mx
  split <;> omega
theorem lt_mn {x y z : Int} : z < mn x y ↔ z < x ∧ z < y := by
  unfold mn
  split <;> omega
theorem toNat_mul (m n : Nat) : ((m : Int) * (n : Int)).toNat = m * n := by rw [← Int.natCast_mul, Int.toNat_natCast]
theorem atI_lit {xs : List V} {k : Int} (h0 : 0 ≤ k) (h1 : k < xs.length) : ∃ v, atI xs k = some v ∧ v ∈ xs := by
  have h : k.toNat < xs.length := by omega
  refine ⟨xs[k.toNat], ?_, List.getElem_mem h⟩
  unfold atI
  rw [ixN_in h0 h1]
  exact List.getElem?_eq_getElem h
theorem atI_lits {xs : List Int} {k : Int} (h0 : 0 ≤ k) (h1 : k < xs.length) : ∃ v, atI (List.map V.int xs) k = some (.int v) ∧ v ∈ xs := by
  obtain ⟨v, h, hm⟩ := atI_lit (xs := List.map V.int xs) h0 (by rw [List.length_map]; exact h1)
  obtain ⟨i, hi, rfl⟩ := List.mem_map.mp hm
  exact ⟨i, h, hi⟩
theorem natOf {x : Int} (h : 0 ≤ x) : ∃ n : Nat, x = (n : Int) := ⟨x.toNat, by omega⟩
theorem map_cat (xs ys : List Int) : List.map V.int xs ++ List.map V.int ys = List.map V.int (xs ++ ys) := by rw [List.map_append]
theorem map_snoc (xs : List Int) (v : Int) : List.map V.int xs ++ [V.int v] = List.map V.int (xs ++ [v]) := by rw [List.map_append]; rfl
theorem map_setV (l : List Int) (i : Nat) (v : Int) : (List.map V.int l).set i (.int v) = List.map V.int (l.set i v) := by rw [List.map_set]
/-- all but one object stand as they stood -/
def But (a : Addr) (H H' : Hp) : Prop := ∀ b o, b ≠ a → H b = some o → H' b = some o
theorem But.refl (a : Addr) (H : Hp) : But a H H := fun _ _ _ h => h
theorem But.ofSame {a : Addr} {H H' : Hp} (s : Same H H') : But a H H' := fun b o _ h => s b o h
theorem But.trans {a : Addr} {H H1 H2 : Hp} (x : But a H H1) (y : But a H1 H2) : But a H H2 := fun b o n h => y b o n (x b o n h)
theorem But.put {a : Addr} {H H' : Hp} {o : HO} (x : But a H H') : But a H (upd H' a o) := fun b o' n h => by rw [upd_ne n]; exact x b o' n h
theorem But.same {a : Addr} {H H1 H' : Hp} (s : Same H H1) (x : But a H1 H') (h : H a = none) : Same H H' := fun b o e => x b o (ne_of_none e h) (s b o e)
/-- the cell k of the script -/
def cellA (ns : List Int) (k : Nat) : Int := ns.getD k 0
def absI (c : Int) : Int := if c < 0 then -c else c
theorem absI_eq (c : Int) : (if c < 0 then -c else c) = absI c := rfl
theorem absI_nn (c : Int) : 0 ≤ absI c := by
  unfold absI
  split <;> omega
section
variable {X : Cx}
/-- xs[i] op= e reads the item first -/
def rGetL : V → V → Hp → VK → Prop := fun x y H Q => ∃ p xs i v, x = .ref p ∧ y = .int i ∧ H p = some (.lst xs) ∧ 0 ≤ i ∧ i < 2 ^ 62 ∧ xs[i.toNat]? = some v ∧ Q v H
theorem pget_list : PGet X rGetL := by
  intro pins s σ H x y v u Q I rx ry h
  obtain ⟨p, xs, i, z, rfl, rfl, hp, h0, h1, he, q⟩ := h
  cases rx
  obtain ⟨t, rfl⟩ := ry
  obtain ⟨its, r, pl, _⟩ := I.list (.inl (.inl hp))
  obtain ⟨w, ew, rw'⟩ := r.get he
  exact getItem_listL pl.isList h0 (by omega) ew ⟨z, H, I, rw', q⟩
def iZipS (K : PySem.W.Frag) (ta : TA) : TI := fun σ H R => ta σ H fun vs H1 => ∃ a b xs ys, vs = [.ref a, .ref b] ∧ H1 a = some (.lst xs) ∧ H1 b = some (.lst ys) ∧ R (Itz K a b) H1
theorem pi_zipS {e e2 : Expr} {ta : TA} {p pos tpos : Pos} {elts : List Expr} {kk : Nat} (hg : Gl X "zip") (hm : X.mg "zip" = none) (ha : PA X [e, e2] ta) (hs : starEach [e, e2] X.env = (false, eval e X.env) :: starEach [e2] X.env := by rfl) (hpl : (backTo pos (starEach [e2] X.env)).any (·.1) = false := by rfl) :
    PI X (.Tuple elts kk tpos) (.Call (.Name "zip" p) [e, e2] [] pos) (iZipS X.K ta) := PI.of (pi_zip hg hm (pa_mono ha) hs hpl) fun σ H R q => ⟨_, q, fun vs H1 ⟨a, b, xs, ys, e, g1, g2, r⟩ => ⟨a, b, xs, ys, e, .inl (.inl g1), .inl (.inl g2), r⟩⟩
end
theorem walkZ {K : PySem.W.Frag} {a b : Addr} {xs ys : List V} {n : Nat} (hn : n = min xs.length ys.length) : Walk (Itz K a b) n (fun H => H a = some (.lst xs) ∧ H b = some (.lst ys)) (YPair (fun i => xs[i]?) (fun i => ys[i]?)) :=
  (walk_zip (K := K) (a := a) (b := b) hn).mono (fun _ h => ⟨.inl (.inl h.1), .inl (.inl h.2)⟩) fun _ _ _ _ _ _ y => y
theorem cutV_take {xs : List V} {n : Nat} : cutV xs none (some (n : Int)) = xs.take n := by
  unfold cutV
  rw [HT.sIx_nat, HT.sIx_none, List.drop_zero]
  by_cases h : n ≤ xs.length
  · rw [Nat.min_eq_left h, Nat.sub_zero]
  · rw [Nat.min_eq_right (by omega), Nat.sub_zero, List.take_of_length_le (Nat.le_refl _), List.take_of_length_le (by omega)]
theorem cutV_drop {xs : List V} {n : Nat} : cutV xs (some (n : Int)) none = xs.drop n := by
  unfold cutV
  rw [HT.sIx_nat, HT.sIx_none]
  by_cases h : n ≤ xs.length
  · rw [Nat.min_eq_left h, List.take_of_length_le (by rw [List.length_drop]; exact Nat.le_refl _)]
  · rw [Nat.min_eq_right (by omega), List.drop_of_length_le (Nat.le_refl _), List.drop_of_length_le (by omega), List.take_nil]
theorem cutI_take {xs : List Int} {n : Nat} : cutV (List.map V.int xs) none (some (n : Int)) = List.map V.int (xs.take n) := by rw [cutV_take, List.map_take]
theorem cutI_drop {xs : List Int} {n : Nat} : cutV (List.map V.int xs) (some (n : Int)) none = List.map V.int (xs.drop n) := by rw [cutV_drop, List.map_drop]
/-- two lists item by item -/
inductive All2 {α β : Type} (R : α → β → Prop) : List α → List β → Prop
  | nil : All2 R [] []
  | cons {x : α} {y : β} {xs : List α} {ys : List β} : R x y → All2 R xs ys → All2 R (x :: xs) (y :: ys)
section
variable {α β : Type} {R S : α → β → Prop}
theorem All2.len {xs : List α} {ys : List β} (h : All2 R xs ys) : xs.length = ys.length := by
  induction h with
  | nil => rfl
  | cons _ _ ih => rw [List.length_cons, List.length_cons, ih]
theorem All2.mono {xs : List α} {ys : List β} (h : All2 R xs ys) (k : ∀ x y, R x y → S x y) : All2 S xs ys := by
  induction h with
  | nil => exact .nil
  | cons r _ ih => exact .cons (k _ _ r) ih
theorem All2.app {xs xs' : List α} {ys ys' : List β} (h : All2 R xs ys) (k : All2 R xs' ys') : All2 R (xs ++ xs') (ys ++ ys') := by
  induction h with
  | nil => exact k
  | cons r _ ih => exact .cons r ih
theorem All2.snoc {xs : List α} {ys : List β} {x : α} {y : β} (h : All2 R xs ys) (r : R x y) : All2 R (xs ++ [x]) (ys ++ [y]) := h.app (.cons r .nil)
theorem All2.at {xs : List α} {ys : List β} (h : All2 R xs ys) {i : Nat} {x : α} (e : xs[i]? = some x) : ∃ y, ys[i]? = some y ∧ R x y := by
  induction h generalizing i with
  | nil => simp at e
  | cons r _ ih =>
    cases i with
    | zero => exact ⟨_, rfl, by simpa using (Option.some.inj e) ▸ r⟩
    | succ i => exact ih e
theorem All2.at' {xs : List α} {ys : List β} (h : All2 R xs ys) {i : Nat} {y : β} (e : ys[i]? = some y) : ∃ x, xs[i]? = some x ∧ R x y := by
  induction h generalizing i with
  | nil => simp at e
  | cons r _ ih =>
    cases i with
    | zero => exact ⟨_, rfl, by simpa using (Option.some.inj e) ▸ r⟩
    | succ i => exact ih e
theorem All2.take {xs : List α} {ys : List β} (h : All2 R xs ys) (n : Nat) : All2 R (xs.take n) (ys.take n) := by
  induction h generalizing n with
  | nil => rw [List.take_nil, List.take_nil]; exact .nil
  | cons r _ ih =>
    cases n with
    | zero => exact .nil
    | succ n => exact .cons r (ih n)
theorem All2.drop {xs : List α} {ys : List β} (h : All2 R xs ys) (n : Nat) : All2 R (xs.drop n) (ys.drop n) := by
  induction h generalizing n with
  | nil => rw [List.drop_nil, List.drop_nil]; exact .nil
  | cons r t ih =>
    cases n with
    | zero => exact .cons r t
    | succ n => exact ih n
end
theorem tup_upd {H : Hp} {a l : Addr} {xs ys : List V} {o : HO} (h : H a = some (.tup xs)) (g : H l = some (.lst ys)) : upd H l o a = some (.tup xs) := by
  rw [upd_ne (ne_of h g (by intro z; cases z))]
  exact h
theorem tup_but {H H' : Hp} {a l : Addr} {xs ys : List V} (bt : But l H H') (h : H a = some (.tup xs)) (g : H l = some (.lst ys)) : H' a = some (.tup xs) := bt _ _ (ne_of h g (by intro z; cases z)) h
theorem cutV_take1 {xs : List V} : cutV xs none (some 1) = xs.take 1 := cutV_take (n := 1)
theorem cutV_drop1 {xs : List V} : cutV xs (some 1) none = xs.drop 1 := cutV_drop (n := 1)
section
variable {X : Cx}
/-- the script: its length, an item -/
def rLenSc (K : PySem.W.Frag) (a : Addr) (ns : List Int) : List V → Hp → VK → Prop := fun vs H Q => vs = [.ref a] ∧ SqL K H a (List.map V.int ns) ∧ Q (.int ns.length) H
theorem call_lenSc (a : Addr) (ns : List Int) : CallR X (.builtin "len") (rLenSc X.K a ns) := CallR.of call_len_seq fun vs H Q ⟨e, h, q⟩ => ⟨a, List.map V.int ns, e, .inl h, by rw [List.length_map]; exact q⟩
def rIxSc (K : PySem.W.Frag) (a : Addr) (ns : List Int) : R2 := fun x y H Q => ∃ i, x = .ref a ∧ y = .int i ∧ SqL K H a (List.map V.int ns) ∧ 0 ≤ i ∧ i < ns.length ∧ Q (.int (gN ns i.toNat)) H
theorem ix_sc (a : Addr) (ns : List Int) : IxR X (rIxSc X.K a ns) := IxR.of ix_list fun x y H Q ⟨i, e1, e2, h, h0, h1, q⟩ => ⟨a, List.map V.int ns, i, _, e1, e2, h, at_g' (Int.toNat_of_nonneg h0).symm (by omega), q⟩
end
section
variable {X : Cx}
def rSumS : List V → Hp → VK → Prop := fun vs H Q => ∃ a ns, vs = [.ref a] ∧ H a = some (.lst (List.map V.int ns)) ∧ Q (.int ns.sum) H
theorem cr_sumS (hc : X.calm = true) : CallR X (.builtin "sum") rSumS := CallR.of (cr_sum hc) fun vs H Q ⟨a, ns, e, g, q⟩ => ⟨a, ns, e, .inl (.inl g), q⟩
end
section
variable {X : Cx}
/-- t[lo:hi]: t itself or a new tuple, in either case one of these items -/
def rSlTS : V → Option Int → Option Int → Hp → VK → Prop := fun x lo hi H Q => ∃ a xs, x = .ref a ∧ H a = some (.tup xs) ∧ ∀ p H', Same H H' → (p = a ∨ H p = none) → H' p = some (.tup (cutV xs lo hi)) → Q (.ref p) H'
theorem sl_tupS : SlR X rSlTS := SlR.of sl_tupA fun x lo hi H Q ⟨a, xs, e, g, q⟩ => ⟨a, xs, e, .inl (.inl g), fun z => q a H (Same.refl _) (.inl rfl) (by
    unfold cutV
    rw [z.1, z.2, List.drop_zero, Nat.sub_zero, List.take_length]
    exact g), fun _ p hp => q p _ (same_upd hp) (.inr hp) upd_same⟩
end
theorem cutV_take3 {xs : List V} : cutV xs none (some 3) = xs.take 3 := cutV_take (n := 3)
section
variable {X : Cx}
theorem PT.of {e : Expr} {t t' : TT} (h : PT X e t) (k : ∀ σ H Q, t' σ H Q → t σ H Q) : PT X e t' := ⟨fun pins s σ H Q I q => h.run pins s σ H Q I (k _ _ _ q)⟩
/-- a list's truth -/
def tTrL (ta : TE) : TT := fun σ H Q => ta σ H fun x H1 => ∃ p xs, x = .ref p ∧ H1 p = some (.lst xs) ∧ Q (decide (0 < xs.length)) H1
theorem pt_truthL {a : Expr} {ta : TE} (ha : PE X a ta) (he : ∀ whole, isTrue a X.env whole = (do let v ← whole; standAt a.pos; holding [v] (truthy v))) : PT X a (tTrL ta) :=
  PT.of (pt_truth (pe_mono ha) he) fun σ H Q q => ⟨_, q, fun x H1 ⟨p, xs, e, g, z⟩ => ⟨decide (0 < xs.length), by rw [e]; exact .inl ⟨xs, .inl (.inl g), by cases xs <;> simp⟩, z⟩⟩
def iEnumL (K : PySem.W.Frag) (ta : TA) : TI := fun σ H R => ta σ H fun vs H1 => ∃ a xs, vs = [.ref a] ∧ H1 a = some (.lst xs) ∧ R (Ite K a) H1
theorem pi_enumL {e : Expr} {ta : TA} {p pos tpos : Pos} {elts : List Expr} {kk : Nat} (hg : Gl X "enumerate") (hm : X.mg "enumerate" = none) (ha : PA X [e] ta) (hs : starEach [e] X.env = [(false, eval e X.env)] := by rfl) :
    PI X (.Tuple elts kk tpos) (.Call (.Name "enumerate" p) [e] [] pos) (iEnumL X.K ta) := PI.of (pi_enum hg hm (pa_mono ha) hs) fun σ H R q => ⟨_, q, fun vs H1 ⟨a, xs, e, g, r⟩ => ⟨a, xs, e, .inl (.inl g), r⟩⟩
end
theorem walkE {K : PySem.W.Frag} {a : Addr} {xs : List V} : Walk (Ite K a) xs.length (fun H => H a = some (.lst xs)) (YPair (fun i => some (.int (i : Nat))) (fun i => xs[i]?)) := (walk_enum (K := K) (a := a) (xs := xs)).mono (fun _ h => .inl (.inl h)) fun _ _ _ _ _ _ y => y
theorem seq_cut {s1 R : TS} {D : Ends} {σ : L2.St} {H : Hp} (I : L2.St → Hp → Prop) (h2 : ∀ σ H, I σ H → R D σ H) (h1 : ∀ C : L2.St → Hp → Prop, (∀ σ H, I σ H → C σ H) → s1 { D with nx := C } σ H) : tSeq s1 R D σ H := h1 _ h2
section
variable {X : Cx}
theorem inV_int (i : Int) : ∀ ns : List Int, inV (.int i) (List.map V.int ns) = decide (i ∈ ns)
  | [] => by simp [inV]
  | n :: r => by
    have ih := inV_int i r
    unfold inV at ih ⊢
    rw [List.map_cons, List.any_cons, ih]
    by_cases h : n = i
    · subst h; simp [eqV]
    · simp [eqV, h, Ne.symm h]
theorem flat_ints : ∀ ns : List Int, (List.map V.int ns).all flatV = true
  | [] => rfl
  | _ :: r => by rw [List.map_cons, List.all_cons, flat_ints r]; rfl
/-- an int in a list of ints -/
def rInI : R2 := fun x y H Q => ∃ i p ns, x = .int i ∧ y = .ref p ∧ H p = some (.lst (List.map V.int ns)) ∧ Q (.bl (decide (i ∈ ns))) H
theorem op_inI : OpR X (compareOp .In) rInI := OpR.of op_in_seq fun x y H Q ⟨i, p, ns, e1, e2, g, q⟩ => ⟨p, List.map V.int ns, e2, .inl (.inl (.inl g)), by rw [e1]; rfl, flat_ints ns, by rw [e1, inV_int]; exact q⟩
/-- xs.index(i): the first place -/
def rIndexI : V → List V → Hp → VK → Prop := fun x xs H Q => ∃ p ns i j, x = .ref p ∧ xs = [.int i] ∧ H p = some (.lst (List.map V.int ns)) ∧ ns[j]? = some i ∧ (∀ m, m < j → ns[m]? ≠ some i) ∧ Q (.int ((j : Nat) : Int)) H
theorem MtR.of {id : String} {r r' : V → List V → Hp → VK → Prop} (h : MtR X id r) (k : ∀ x xs H Q, r' x xs H Q → r x xs H Q) : MtR X id r' := fun pins s σ H x xs v us Q I rx rv q => h pins s σ H x xs v us Q I rx rv (k _ _ _ _ q)
theorem mt_indexI : MtR X "list.index" rIndexI := MtR.of mt_index fun x xs H Q ⟨p, ns, i, j, e1, e2, g, hj, hm, q⟩ =>
  ⟨p, List.map V.int ns, .int i, j, .int i, e1, e2, .inl (.inl g), rfl, flat_ints ns, by rw [List.getElem?_map, hj]; rfl, by simp [eqV], fun m z hmj hz => by
    rw [List.getElem?_map] at hz
    obtain ⟨b, h1, rfl⟩ := Option.map_eq_some_iff.mp hz
    have : b ≠ i := fun e => hm m hmj (e ▸ h1)
    simp [eqV, this], q⟩
end
def sl (ns : List Int) (i j : Nat) : List Int := (ns.drop i).take (j - i)
theorem cut_sl {ns : List Int} {i j : Nat} : cutV (List.map V.int ns) (some (i : Int)) (some (j : Int)) = List.map V.int (sl ns i j) := by
  unfold cutV sl
  rw [HT.sIx_nat, HT.sIx_nat, List.length_map, ← List.map_drop, ← List.map_take]
  congr 1
  by_cases h : i < ns.length
  · rw [Nat.min_eq_left (Nat.le_of_lt h)]
    by_cases h2 : j ≤ ns.length
    · rw [Nat.min_eq_left h2]
    · rw [Nat.min_eq_right (by omega), List.take_of_length_le (by rw [List.length_drop]; exact Nat.le_refl _), List.take_of_length_le (by rw [List.length_drop]; omega)]
  · rw [List.drop_eq_nil_of_le (by omega), List.drop_eq_nil_of_le (by omega), List.take_nil, List.take_nil]
theorem sl_len (ns : List Int) (i j : Nat) : (sl ns i j).length = min (j - i) (ns.length - i) := by
  unfold sl
  rw [List.length_take, List.length_drop]
/-- a dict comprehension -/
def DcLoop (J : It) (g : TG) (tt : TT) (tk tv : TE) (vs : List Nat) (σ : L2.St) (H1 : Hp) (Q : VK) : Prop := ∀ D, H1 D = none → ∃ W : Nat → Nat → Hp → Prop, (∃ m, W 0 m (upd H1 D (.dK []))) ∧ ∀ i m H, W i m H →
  (J.stop i H ∧ Q (.ref D) H) ∨ (J.go i H ∧ ∃ Nx : Hp → Prop, (∀ H', Nx H' → ∃ m', m' < m ∧ W (i + 1) m' H') ∧ ∀ x H', J.yld i H x H' → g x (wipe σ vs) H' fun σ2 H2 => wipe σ2 vs = wipe σ vs ∧ tt σ2 H2 fun b H3 =>
    if b = true then tk σ2 H3 fun y H4 => tv σ2 H4 fun z H5 => ∃ kvs k, y = kV k ∧ H5 D = some (.dK kvs) ∧ kvs.length < sizeLine ∧ Nx (upd H5 D (.dK (putK kvs k z))) else Nx H3)
theorem tDc_eq {wi : TI} {g : TG} {tt : TT} {tk tv : TE} {vs : List Nat} {σ : L2.St} {H : Hp} {Q : VK} : tDc wi g tt tk tv vs σ H Q = wi σ H fun J H1 => DcLoop J g tt tk tv vs σ H1 Q := rfl
theorem dcW {J : It} {n : Nat} {G : Hp → Prop} {Y : Nat → Hp → V → Hp → Prop} (w : Walk J n G Y) {g : TG} {tt : TT} {tk tv : TE} {vs : List Nat} {σ : L2.St} {H1 : Hp} {Q : VK} (Pv : Addr → Nat → Hp → Prop) (h0 : ∀ D H, Same H1 H → H1 D = none → H D = some (.dK []) → Pv D 0 H)
    (hG : ∀ D i H, H1 D = none → i ≤ n → Pv D i H → G H) (hs : ∀ D i x H H', i < n → H1 D = none → Pv D i H → Y i H x H' → g x (wipe σ vs) H' fun σ2 H2 => wipe σ2 vs = wipe σ vs ∧ tt σ2 H2 fun b H3 =>
      if b = true then tk σ2 H3 fun y H4 => tv σ2 H4 fun z H5 => ∃ kvs k, y = kV k ∧ H5 D = some (.dK kvs) ∧ kvs.length < sizeLine ∧ Pv D (i + 1) (upd H5 D (.dK (putK kvs k z))) else Pv D (i + 1) H3)
    (hd : ∀ D H, H1 D = none → Pv D n H → Q (.ref D) H) : DcLoop J g tt tk tv vs σ H1 Q := by
  intro D hD
  refine ⟨fun i m H => m = n - i ∧ i ≤ n ∧ Pv D i H, ⟨n, by simp, Nat.zero_le _, h0 D _ (same_upd hD) hD upd_same⟩, ?_⟩
  rintro i m H ⟨rfl, hi, p⟩
  have q := hG D i H hD hi p
  by_cases hlt : i < n
  · exact .inr ⟨w.goes i H hlt q, Pv D (i + 1), fun H' p' => ⟨n - (i + 1), by omega, rfl, hlt, p'⟩, fun x H' y => hs D i x H H' hlt hD p (w.yields i H x H' hlt q y)⟩
  · have e : i = n := by omega
    subst e
    exact .inl ⟨w.stops H q, hd D H hD p⟩

/-! ### data at any depth: what stands there, and == of it -/
structure Cod {α : Type} [DecidableEq α] (R : Hp → V → α → Prop) (f : α → PyData) (d : Nat) : Prop where
  dp : ∀ (K : PySem.W.Frag) H v a, R H v a → Dp K H v (f a)
  eq : ∀ a b, PyData.eqv (f a) (f b) = decide (a = b)
  lay : ∀ a, PyData.canLay0 (f a) = true
  dep : ∀ a, PyData.depth (f a) ≤ d
def IntV (_ : Hp) (v : V) (i : Int) : Prop := v = .int i
def LstV {α : Type} (R : Hp → V → α → Prop) (H : Hp) (v : V) (l : List α) : Prop := ∃ a vs, v = .ref a ∧ H a = some (.lst vs) ∧ All2 (R H) vs l
def TupV {α : Type} (R : Hp → V → α → Prop) (H : Hp) (v : V) (l : List α) : Prop := ∃ a vs, v = .ref a ∧ H a = some (.tup vs) ∧ All2 (R H) vs l
def Pr2V {α β : Type} (R : Hp → V → α → Prop) (S : Hp → V → β → Prop) (H : Hp) (v : V) (p : α × β) : Prop := ∃ a x y, v = .ref a ∧ H a = some (.tup [x, y]) ∧ R H x p.1 ∧ S H y p.2
def Pr3V {α β γ : Type} (R : Hp → V → α → Prop) (S : Hp → V → β → Prop) (T : Hp → V → γ → Prop) (H : Hp) (v : V) (p : α × β × γ) : Prop := ∃ a x y z, v = .ref a ∧ H a = some (.tup [x, y, z]) ∧ R H x p.1 ∧ S H y p.2.1 ∧ T H z p.2.2
theorem cod_int : Cod IntV PyData.int 0 := ⟨fun K H v a h => by rw [show v = .int a from h]; exact .int a, eqv_ii, fun _ => rfl, fun _ => Nat.le_refl _⟩
section
variable {α β γ : Type} [DecidableEq α] [DecidableEq β] [DecidableEq γ] {R : Hp → V → α → Prop} {S : Hp → V → β → Prop} {T : Hp → V → γ → Prop} {f : α → PyData} {g : β → PyData} {h : γ → PyData} {d e k : Nat}
theorem Cod.all (c : Cod R f d) {K : PySem.W.Frag} {H : Hp} {vs : List V} {l : List α} (a : All2 (R H) vs l) : DpAll K H vs (l.map f) := by
  induction a with
  | nil => exact .nil
  | cons r _ ih => exact .cons (c.dp _ _ _ _ r) ih
theorem Cod.eqAll (c : Cod R f d) : ∀ l m : List α, PyData.eqvAll (l.map f) (m.map f) = decide (l = m)
  | [], [] => by rw [List.map_nil, eqvAll_nil]; rfl
  | [], y :: s => by rw [List.map_nil, List.map_cons, PyData.eqvAll]; simp
  | x :: r, [] => by rw [List.map_nil, List.map_cons, PyData.eqvAll]; simp
  | x :: r, y :: s => by
    rw [List.map_cons, List.map_cons, eqvAll_cons, c.eq, Cod.eqAll c r s]
    simp only [List.cons.injEq, Bool.decide_and]
theorem Cod.layAll (c : Cod R f d) : ∀ l : List α, PyData.canLayAll0 (l.map f) = true
  | [] => rfl
  | x :: r => by rw [List.map_cons, PyData.canLayAll0, c.lay, Cod.layAll c r]; rfl
theorem Cod.depAll (c : Cod R f d) : ∀ l : List α, PyData.depthAll (l.map f) ≤ d
  | [] => by rw [List.map_nil, PyData.depthAll]; exact Nat.zero_le _
  | x :: r => by rw [List.map_cons, PyData.depthAll]; exact Nat.max_le.mpr ⟨c.dep x, Cod.depAll c r⟩
theorem cod_lst (c : Cod R f d) : Cod (LstV R) (fun l => .list (l.map f)) (d + 1) :=
  ⟨fun K H v l ⟨a, vs, e, ha, hv⟩ => by rw [e]; exact .lst (.inl (.inl ha)) (c.all hv), fun l m => by rw [PyData.eqv, c.eqAll], fun l => by rw [PyData.canLay0, c.layAll], fun l => by rw [PyData.depth]; exact Nat.succ_le_succ (c.depAll l)⟩
theorem cod_tup (c : Cod R f d) : Cod (TupV R) (fun l => .tuple (l.map f)) (d + 1) :=
  ⟨fun K H v l ⟨a, vs, e, ha, hv⟩ => by rw [e]; exact .tup (.inl (.inl ha)) (c.all hv), fun l m => by rw [PyData.eqv, c.eqAll], fun l => by rw [PyData.canLay0, c.layAll], fun l => by rw [PyData.depth]; exact Nat.succ_le_succ (c.depAll l)⟩
theorem cod_p2 (c : Cod R f d) (b : Cod S g e) : Cod (Pr2V R S) (fun p => .tuple [f p.1, g p.2]) (max d e + 1) :=
  ⟨fun K H v l ⟨a, x, y, e, ha, hx, hy⟩ => by rw [e]; exact .tup (.inl (.inl ha)) (.cons (c.dp _ _ _ _ hx) (.cons (b.dp _ _ _ _ hy) .nil)),
   fun l m => by
    rw [PyData.eqv, eqvAll_cons, eqvAll_cons, eqvAll_nil, c.eq, b.eq, Bool.and_true, ← Bool.decide_and]
    exact decide_eq_decide.mpr ⟨fun z => Prod.ext z.1 z.2, fun z => by rw [z]; exact ⟨rfl, rfl⟩⟩,
   fun l => by rw [PyData.canLay0, PyData.canLayAll0, PyData.canLayAll0, PyData.canLayAll0, c.lay, b.lay]; rfl,
   fun l => by
    rw [PyData.depth, PyData.depthAll, PyData.depthAll, PyData.depthAll]
    have h1 := c.dep l.1
    have h2 := b.dep l.2
    omega⟩
theorem cod_p3 (c : Cod R f d) (b : Cod S g e) (t : Cod T h k) : Cod (Pr3V R S T) (fun p => .tuple [f p.1, g p.2.1, h p.2.2]) (max d (max e k) + 1) :=
  ⟨fun K H v l ⟨a, x, y, z, e, ha, hx, hy, hz⟩ => by rw [e]; exact .tup (.inl (.inl ha)) (.cons (c.dp _ _ _ _ hx) (.cons (b.dp _ _ _ _ hy) (.cons (t.dp _ _ _ _ hz) .nil))),
   fun l m => by
    rw [PyData.eqv, eqvAll_cons, eqvAll_cons, eqvAll_cons, eqvAll_nil, c.eq, b.eq, t.eq, Bool.and_true, ← Bool.decide_and, ← Bool.decide_and]
    exact decide_eq_decide.mpr ⟨fun z => Prod.ext z.1 (Prod.ext z.2.1 z.2.2), fun z => by rw [z]; exact ⟨rfl, rfl, rfl⟩⟩,
   fun l => by rw [PyData.canLay0, PyData.canLayAll0, PyData.canLayAll0, PyData.canLayAll0, PyData.canLayAll0, c.lay, b.lay, t.lay]; rfl,
   fun l => by
    rw [PyData.depth, PyData.depthAll, PyData.depthAll, PyData.depthAll, PyData.depthAll]
    have h1 := c.dep l.1
    have h2 := b.dep l.2.1
    have h3 := t.dep l.2.2
    omega⟩
end
section
variable {X : Cx} {α : Type} [DecidableEq α] {R : Hp → V → α → Prop} {f : α → PyData} {d : Nat}
def rEqC (R : Hp → V → α → Prop) : R2 := fun x y H Q => ∃ a b, R H x a ∧ R H y b ∧ Q (.bl (decide (a = b))) H
def rNeC (R : Hp → V → α → Prop) : R2 := fun x y H Q => ∃ a b, R H x a ∧ R H y b ∧ Q (.bl (!decide (a = b))) H
theorem Cod.shaped (c : Cod R f d) (hd : d ≤ 64) (a : α) : SeqAt.shaped (f a) = true := by
  unfold SeqAt.shaped
  rw [c.lay, decide_eq_true (Nat.le_trans (c.dep a) hd)]
  rfl
theorem op_eqC (hu : X.A.units + 64 < cLine) (c : Cod R f d) (hd : d ≤ 64) : OpR X (compareOp .Eq) (rEqC R) := OpR.of (op_eqD hu) fun x y H Q ⟨a, b, ha, hb, q⟩ => ⟨f a, f b, c.dp _ _ _ _ ha, c.dp _ _ _ _ hb, c.shaped hd a, c.shaped hd b, by rw [c.eq]; exact q⟩
theorem op_neC (hu : X.A.units + 64 < cLine) (c : Cod R f d) (hd : d ≤ 64) : OpR X (compareOp .NotEq) (rNeC R) := OpR.of (op_neD hu) fun x y H Q ⟨a, b, ha, hb, q⟩ => ⟨f a, f b, c.dp _ _ _ _ ha, c.dp _ _ _ _ hb, c.shaped hd a, c.shaped hd b, by rw [c.eq]; exact q⟩
end
theorem ints_all {H : Hp} (ns : List Int) : All2 (IntV H) (List.map V.int ns) ns := by
  induction ns with
  | nil => exact .nil
  | cons n r ih => exact .cons rfl ih
theorem ints_of {H : Hp} {vs : List V} {ns : List Int} (h : All2 (IntV H) vs ns) : vs = List.map V.int ns := by
  induction h with
  | nil => rfl
  | cons r _ ih => rw [List.map_cons, ih, show _ = V.int _ from r]
theorem intL {H : Hp} {a : Addr} {ns : List Int} (g : H a = some (.lst (List.map V.int ns))) : LstV IntV H (.ref a) ns := ⟨a, _, rfl, g, ints_all ns⟩
theorem lsv_mono {H H' : Hp} (s : Same H H') (v : V) (n : List Int) (h : LstV IntV H v n) : LstV IntV H' v n := by
  obtain ⟨a, vs, e, g, k⟩ := h
  exact ⟨a, vs, e, s _ _ g, k.mono fun _ _ z => z⟩
/-- what stands however the heap goes on, but for one list that changes -/
structure Stab {α : Type} (R : Hp → V → α → Prop) : Prop where
  mono : ∀ {H H' : Hp}, Same H H' → ∀ v a, R H v a → R H' v a
  but : ∀ {H H' : Hp} {l : Addr} {ys : List V}, But l H H' → H l = some (.lst ys) → ∀ v a, R H v a → R H' v a
theorem stab_int : Stab IntV := ⟨fun _ _ _ h => h, fun _ _ _ _ h => h⟩
section
variable {α β γ : Type} {R : Hp → V → α → Prop} {S : Hp → V → β → Prop} {T : Hp → V → γ → Prop}
theorem stab_tup (c : Stab R) : Stab (TupV R) :=
  ⟨fun s v l ⟨a, vs, e, g, k⟩ => ⟨a, vs, e, s _ _ g, k.mono (c.mono s)⟩, fun bt gl v l ⟨a, vs, e, g, k⟩ => ⟨a, vs, e, tup_but bt g gl, k.mono (c.but bt gl)⟩⟩
theorem stab_p2 (c : Stab R) (b : Stab S) : Stab (Pr2V R S) :=
  ⟨fun s v l ⟨a, x, y, e, g, h1, h2⟩ => ⟨a, x, y, e, s _ _ g, c.mono s _ _ h1, b.mono s _ _ h2⟩, fun bt gl v l ⟨a, x, y, e, g, h1, h2⟩ => ⟨a, x, y, e, tup_but bt g gl, c.but bt gl _ _ h1, b.but bt gl _ _ h2⟩⟩
theorem stab_p3 (c : Stab R) (b : Stab S) (t : Stab T) : Stab (Pr3V R S T) :=
  ⟨fun s v l ⟨a, x, y, z, e, g, h1, h2, h3⟩ => ⟨a, x, y, z, e, s _ _ g, c.mono s _ _ h1, b.mono s _ _ h2, t.mono s _ _ h3⟩, fun bt gl v l ⟨a, x, y, z, e, g, h1, h2, h3⟩ => ⟨a, x, y, z, e, tup_but bt g gl, c.but bt gl _ _ h1, b.but bt gl _ _ h2, t.but bt gl _ _ h3⟩⟩
theorem lstV_mono (c : Stab R) {H H' : Hp} (s : Same H H') (v : V) (l : List α) (h : LstV R H v l) : LstV R H' v l := by
  obtain ⟨a, vs, e, g, k⟩ := h
  exact ⟨a, vs, e, s _ _ g, k.mono (c.mono s)⟩
theorem Stab.upd (c : Stab R) {H : Hp} {l : Addr} {ys : List V} {o : HO} (g : H l = some (.lst ys)) (v : V) (a : α) (h : R H v a) : R (upd H l o) v a := c.but ((But.refl l H).put) g v a h
end

theorem iteP {p : Prop} {i : Decidable p} {a b : Prop} (x : p → a) (y : ¬ p → b) : @ite _ p i a b := by
  by_cases h : p
  · rw [if_pos h]; exact x h
  · rw [if_neg h]; exact y h

section
variable {X : Cx}
/-- name = {k: v for ..} on one line, the name a local -/
theorem ps_setDc {i : Nat} {y : Str} {py : Pos} {kx vx tg iter : Expr} {ifs : List Expr} {scope : Scope} {own : List (Str × Nat)} {pos spos : Pos} {wi : TI} {g : TG} {tt : TT} {tk tv : TE} (hc : X.calm = true) (hN : X.N.Nodup) (hy : X.N[i]? = some y) (hyl : X.env.scope.names.lookup y = some .local)
    (hsw : swapsWith (.DictComp kx vx [⟨tg, iter, ifs, 0⟩] scope pos) (some (.Name y py)) spos.line X.env = pure true) (hi : PI X tg iter wi) (ok : BlkOk X.N X.env.scope scope own)
    (hg : ∀ (s : Shared) (H : Hp) (C : Addr) (cl : List (Str × Addr)) (fp : List Addr), PG (X.blk s H scope (compEnvC scope cl C X.env) fp) tg g) (ht : ∀ (s : Shared) (H : Hp) (C : Addr) (cl : List (Str × Addr)) (fp : List Addr), PTs (X.blk s H scope (compEnvC scope cl C X.env) fp) ifs tt)
    (hk : ∀ (s : Shared) (H : Hp) (C : Addr) (cl : List (Str × Addr)) (fp : List Addr), PE (X.blk s H scope (compEnvC scope cl C X.env) fp) kx tk)
    (he : ∀ (s : Shared) (H : Hp) (C : Addr) (cl : List (Str × Addr)) (fp : List Addr), PE (X.blk s H scope (compEnvC scope cl C X.env) fp) vx tv) (hs : ∀ x, foldedSetIterable iter X.env x = pure x := by intro _; rfl) :
    PS X (.Assign [.Name y py] (.DictComp kx vx [⟨tg, iter, ifs, 0⟩] scope pos) spos) (tAsg (tDc wi g tt tk tv (own.map (·.2))) (gName i)) := by
  refine ⟨fun pins s σ H D I h => ?_⟩
  rw [exec_Assign_Name_used _ _ _ _ hsw]
  refine wpAny_bind (wpAny_standAt (wpAny_bind ?_))
  show wpAny _ X.A (do let _ ← comprehension (.DictComp kx vx [⟨tg, iter, ifs, 0⟩] scope pos) scope X.env (firstIterPos [⟨tg, iter, ifs, 0⟩] pos) newDict false (eval iter X.env) (some (assign (.Name y py) X.env))) _ _ s
  have h : tDc wi g tt tk tv (own.map (·.2)) σ H (fun x H1 => gName i x σ H1 D.nx) := h
  refine wpAny_bind (thn (dc_core (Qf := fun _ s' => SP X pins D .next s') hc hN I hi ok hg ht hk he hs h fun L C s' m H' I' q hn f => ?_) fun _ s' hq => wpAny_pure (wpAny_pure hq))
  show wpAny _ _ (assign (.Name y py) X.env (.ref L)) _ _ _
  refine wpAny_assign_Name (store_ok2 (v := V.ref L) I' hN hy (.inl hyl) rfl (fun s2 I2 ⟨a, sb, ha⟩ => ?_) (.inr hyl))
  obtain ⟨f0, f1, f2, f3, f4, f5⟩ := f
  have haC : C ≠ a := by
    rcases ha with z | z
    · rw [z]; exact f1
    · exact fun e => f4 y a z e.symm
  refine ⟨m, hn.sameBut sb haC, fun h3 sb3 => ?_⟩
  exact ⟨_, H', I2.turned (t' := s2.toks) (fun b o hb e => (sb3.2 b hb).trans e) f0 f1 f3 f4 f5, q⟩
theorem sw_trueD {kx vx : Expr} {gs : List Comprehension} {scope : Scope} {pos py : Pos} {y : Str} {l : Nat} {env : Env} (hk : env.scope.kind = .function) (hy : env.scope.names.lookup y = some .local) (hl : (py.line == pos.line) = true)
    (ha : (scope.names.any fun (n, k) => n == y && (k == .local || k == .cell)) = false) : swapsWith (.DictComp kx vx gs scope pos) (some (.Name y py)) l env = pure true := by
  have ky : env.kindOf y = some .local := hy
  have hb : env.blockKind = .function := by unfold Env.blockKind; rw [hk]; rfl
  unfold swapsWith
  simp only [hb, ky, ha, Expr.pos, hl]
  rfl
end

/-- enumerate(text): each character in a new pair -/
def Ites (x : Str) : It :=
  ⟨fun i _ => i < x.cps.size, fun i H v H' => ∃ T c, v = .ref T ∧ H T = none ∧ H' = upd H T (.tup [.int (i : Nat), .str ⟨#[c]⟩]) ∧ x.cps[i]? = some c, fun i _ => x.cps.size ≤ i⟩
theorem turn_enumS {P : Program} {w : World} {K : PySem.W.Frag} {elts : List Expr} {kk : Nat} {tpos : Pos} (x : Str) (t : Tok) (e it : Addr) (ty : String) (hty : ty = "str_ascii_iterator" ∨ ty = "str_iterator") :
    Turn P w K (.Tuple elts kk tpos) (Ites x) [e, it] e (fun i h => (∃ old, IsEnum h e it ((i : Nat) : Int) old) ∧ h.IsStrIter it ty x t i ∧ e ≠ it ∧ i ≤ x.cps.size) where
  mem := by simp
  obj := fun i h st b hb => by
    obtain ⟨⟨old, he⟩, ⟨o, ho, hc, hd⟩, _⟩ := st
    have e' : b = e ∨ b = it := by simpa using hb
    rcases e' with z | z
    · rw [z]; exact ⟨_, he, fun v q => nomatch q⟩
    · rw [z]; exact ⟨o, ho, fun v q => by rw [hd] at q; cases q⟩
  keep := fun i h h' st k => by
    obtain ⟨⟨old, he⟩, ⟨o, ho, r⟩, hne⟩ := st
    exact ⟨⟨old, k e (by simp) _ he⟩, ⟨o, k it (by simp) o ho, r⟩, hne⟩
  item := by
    intro X hP hw hK hc i pins s σ H E I hf st hg
    subst hP hw hK
    obtain ⟨⟨old, he⟩, hit, hne, hle⟩ := st
    have hel : e < s.heap.objs.size := Heap.lt_size he
    have hil : it < s.heap.objs.size := by obtain ⟨_, q, _⟩ := hit; exact Heap.lt_size q
    have Dr : Draws X.prog X.w X.A.in1 it [it] x.cps.size (fun i v => ∃ c u, x.cps[i]? = some c ∧ v = .str ⟨#[c]⟩ u) (fun i h => h.IsStrIter it ty x t i) := by
      rcases hty with z | z
      · rw [z]; exact Draws.strAscii (A := X.A.in1) (I.ok.hd hc) it x t
      · rw [z]; exact Draws.strWide (A := X.A.in1) (I.ok.hd hc) it x t
    refine wpAny_pyNext_enum_itemD Dr he hit hg hne (by simpa using hne) fun v h' tk hv ho hit' hT hsz hk => ?_
    obtain ⟨c, u, hcx, rfl⟩ := hv
    refine ⟨_, rfl, wpAny_letOwnedTupleGo_enum (s := { s with heap := h', toks := tk + 1 }) ho fun h'' he' sb => ?_⟩
    have hT2 : h''.get? s.heap.objs.size = some { cls := .type "tuple", data := .seq #[.int i tk, .str ⟨#[c]⟩ u] } := (sb.2 _ (Nat.ne_of_gt hel)).trans hT
    have new : ObjOk X.prog X.w (upd H s.heap.objs.size (.tup [.int (i : Nat), .str ⟨#[c]⟩])) h'' s.heap.objs.size (.tup [.int (i : Nat), .str ⟨#[c]⟩]) :=
      ⟨by show 2 ≤ sizeLine; decide, [.int i tk, .str ⟨#[c]⟩ u], .cons ⟨_, rfl⟩ (.cons ⟨_, rfl⟩ .nil), ⟨_, hT2, rfl, _, rfl⟩⟩
    have I1 : Inv X pins σ (upd H s.heap.objs.size (.tup [.int (i : Nat), .str ⟨#[c]⟩])) { s with heap := h'', toks := tk + 1 } :=
      I.turnedNew (ch := [e, it]) (fun b ob hb q => (sb.2 b (fun z => hb (by simp [z]))).trans (hk b ob (fun z => hb (by simp [z])) (fun z => hb (by simp [z])) q)) hf (Nat.le_refl _) new
    refine ⟨.ref s.heap.objs.size, _, I1, rfl, ⟨_, c, rfl, I.hok.fresh (Nat.le_refl _), rfl, hcx⟩, ⟨⟨.str ⟨#[c]⟩ u, ?_⟩, ?_, hne, Nat.succ_le_of_lt hg⟩, fun b hb => ?_⟩
    · have e1 : ((i + 1 : Nat) : Int) = (i : Int) + 1 := by omega
      rw [e1]; exact he'
    · obtain ⟨o, q, r⟩ := hit'
      exact ⟨o, (sb.2 it (Ne.symm hne)).trans q, r⟩
    · have hb' : b < s.heap.objs.size := by
        have e' : b = e ∨ b = it := by simpa using hb
        rcases e' with z | z
        · rw [z]; exact hel
        · rw [z]; exact hil
      rw [upd_ne (Nat.ne_of_lt hb')]
      exact (hf b hb).1
  done := by
    intro X hP hw hK hc i pins s σ H E I hf st hg
    subst hP hw hK
    obtain ⟨⟨old, he⟩, hit, hne, hle⟩ := st
    obtain ⟨f0, f1, f2, f3, f4, f5⟩ := hf it (by simp)
    have Dr : Draws X.prog X.w X.A.in1 it [it] x.cps.size (fun i v => ∃ c u, x.cps[i]? = some c ∧ v = .str ⟨#[c]⟩ u) (fun i h => h.IsStrIter it ty x t i) := by
      rcases hty with z | z
      · rw [z]; exact Draws.strAscii (A := X.A.in1) (I.ok.hd hc) it x t
      · rw [z]; exact Draws.strWide (A := X.A.in1) (I.ok.hd hc) it x t
    have ei : i = x.cps.size := Nat.le_antisymm hle hg
    subst ei
    exact wpAny_pyNext_enum_endD Dr he hit fun h' eb => ⟨rfl, I.turned (t' := s.toks) (fun b o hb q => eb b o hb q) f0 f1 f3 f4 f5⟩
  self := fun A i s Q E st h => let ⟨⟨_, he⟩, _⟩ := st; wpAny_pyIter_enum he h
def iEnumS (ta : TA) : TI := fun σ H R => ta σ H fun vs H1 => ∃ x, vs = [.str x] ∧ R (Ites x) H1
theorem pi_enumS {X : Cx} {e : Expr} {ta : TA} {p pos tpos : Pos} {elts : List Expr} {kk : Nat} (hg : Gl X "enumerate") (hm : X.mg "enumerate" = none) (ha : PA X [e] ta) (hs : starEach [e] X.env = [(false, eval e X.env)] := by rfl) :
    PI X (.Tuple elts kk tpos) (.Call (.Name "enumerate" p) [e] [] pos) (iEnumS ta) := by
  refine ⟨fun pins s σ H R I h => ?_⟩
  refine Call_ (ld_blt I hg hm boot_enumerate (PyProof.Rows.callWith_type1 (thn (ha.run pos pins s σ H _ I h) fun us s1 ⟨vs, H1, I1, r1, q1⟩ => ?_) hs rfl))
  obtain ⟨x, ex, q⟩ := q1
  subst ex
  cases r1 with
  | cons r rr =>
    cases rr
    obtain ⟨t, rfl⟩ := r
    refine call_enumerate_str fun h' he hit hsz hk => wpAny_pyIter_enum he ?_
    have I2 : Inv X pins σ H1 { s1 with heap := h' } := I1.kept (t' := s1.toks) hk
    refine ⟨s1.heap.objs.size + 1, [s1.heap.objs.size + 1, s1.heap.objs.size], _, _, H1, rfl, I2, turn_enumS x t (s1.heap.objs.size + 1) s1.heap.objs.size (strIterType x) (by unfold strIterType; split <;> simp), ⟨⟨.none, he⟩, hit, Nat.succ_ne_self _, Nat.zero_le _⟩, fun b hb => ?_, q⟩
    have e' : b = s1.heap.objs.size + 1 ∨ b = s1.heap.objs.size := by simpa using hb
    have hle : s1.heap.objs.size ≤ b := by
      rcases e' with z | z
      · rw [z]; exact Nat.le_add_right _ _
      · rw [z]; exact Nat.le_refl _
    exact I1.fpOk hle (I1.hok.fresh hle)
theorem walk_enumS {z : Str} : Walk (Ites z) z.cps.size (fun _ => True) (fun i H v H' => ∃ T c, v = .ref T ∧ H T = none ∧ H' = upd H T (.tup [.int (i : Nat), .str ⟨#[c]⟩]) ∧ z.cps[i]? = some c) :=
  ⟨fun _ _ hi _ => hi, fun _ _ => Nat.le_refl _, fun _ _ _ _ _ _ y => y⟩

def topS (i : Nat) : Stmt := PySem.Challenge.pw_stillroom_k04_base_64.main.body.getD i (.Pass ⟨0, 0, 0, 0⟩)
abbrev s_spend : Stmt := topS 1
abbrev s_to_base64 : Stmt := topS 5
abbrev s__four_signs : Stmt := topS 6
abbrev s_from_base64 : Stmt := topS 7
abbrev s__sign_values : Stmt := topS 8
abbrev s__three_bytes : Stmt := topS 9
abbrev s__law_cell : Stmt := topS 11
abbrev s__law_twice : Stmt := topS 12
abbrev s__law_bytes : Stmt := topS 13
abbrev s__law_integer : Stmt := topS 14
abbrev s__law_is_list : Stmt := topS 15
abbrev s__law_signs : Stmt := topS 16
abbrev s__law_value : Stmt := topS 17
abbrev s__law_due : Stmt := topS 18
abbrev s__law_written : Stmt := topS 19
abbrev s__law_right : Stmt := topS 20
abbrev s__law_mixed : Stmt := topS 21
abbrev s_law : Stmt := topS 22
theorem sc_spend : FnScope ["left", "cost"] ["left", "cost"] (defScope s_spend) := ⟨rfl, rfl, rfl, by decide +kernel, rfl, by decide +kernel, by decide +kernel⟩
theorem sc_to_base64 : FnScope ["data", "found", "at"] ["data"] (defScope s_to_base64) := ⟨rfl, rfl, rfl, by decide +kernel, rfl, by decide +kernel, by decide +kernel⟩
theorem sc__four_signs : FnScope ["group", "missing", "first", "second", "third", "bits", "signs", "shift"] ["group"] (defScope s__four_signs) := ⟨rfl, rfl, rfl, by decide +kernel, rfl, by decide +kernel, by decide +kernel⟩
theorem sc_from_base64 : FnScope ["data", "left", "enough", "end", "table", "values", "code", "found", "at"] ["data", "left"] (defScope s_from_base64) := ⟨rfl, rfl, rfl, by decide +kernel, rfl, by decide +kernel, by decide +kernel⟩
theorem sc__sign_values : FnScope ["table", "value", "sign"] [] (defScope s__sign_values) := ⟨rfl, rfl, rfl, by decide +kernel, rfl, by decide +kernel, by decide +kernel⟩
theorem sc__three_bytes : FnScope ["values", "bits", "value"] ["values"] (defScope s__three_bytes) := ⟨rfl, rfl, rfl, by decide +kernel, rfl, by decide +kernel, by decide +kernel⟩
theorem sc__law_cell : FnScope ["script", "k"] ["script", "k"] (defScope s__law_cell) := ⟨rfl, rfl, rfl, by decide +kernel, rfl, by decide +kernel, by decide +kernel⟩
theorem sc__law_twice : FnScope ["cell", "k", "x"] ["cell", "k"] (defScope s__law_twice) := ⟨rfl, rfl, rfl, by decide +kernel, rfl, by decide +kernel, by decide +kernel⟩
theorem sc__law_bytes : FnScope ["cell", "size", "left", "great", "data", "k"] ["cell", "size"] (defScope s__law_bytes) := ⟨rfl, rfl, rfl, by decide +kernel, rfl, by decide +kernel, by decide +kernel⟩
theorem sc__law_integer : FnScope ["value"] ["value"] (defScope s__law_integer) := ⟨rfl, rfl, rfl, by decide +kernel, rfl, by decide +kernel, by decide +kernel⟩
theorem sc__law_is_list : FnScope ["found", "due", "one", "other"] ["found", "due"] (defScope s__law_is_list) := ⟨rfl, rfl, rfl, by decide +kernel, rfl, by decide +kernel, by decide +kernel⟩
theorem sc__law_signs : FnScope [] [] (defScope s__law_signs) := ⟨rfl, rfl, rfl, by decide +kernel, rfl, by decide +kernel, by decide +kernel⟩
theorem sc__law_value : FnScope ["code", "signs", "value"] ["code"] (defScope s__law_value) := ⟨rfl, rfl, rfl, by decide +kernel, rfl, by decide +kernel, by decide +kernel⟩
theorem sc__law_due : FnScope ["data", "left", "bits", "code", "value", "at", "found", "k", "number", "bit"] ["data", "left"] (defScope s__law_due) := ⟨rfl, rfl, rfl, by decide +kernel, rfl, by decide +kernel, by decide +kernel⟩
theorem sc__law_written : FnScope ["data", "codes", "signs", "k", "part", "number", "byte", "row"] ["data"] (defScope s__law_written) := ⟨rfl, rfl, rfl, by decide +kernel, rfl, by decide +kernel, by decide +kernel⟩
theorem sc__law_right : FnScope ["data", "left", "given", "found", "due"] ["data", "left"] (defScope s__law_right) := ⟨rfl, rfl, rfl, by decide +kernel, rfl, by decide +kernel, by decide +kernel⟩
theorem sc__law_mixed : FnScope ["codes", "cell", "out", "k", "draw", "code"] ["codes", "cell"] (defScope s__law_mixed) := ⟨rfl, rfl, rfl, by decide +kernel, rfl, by decide +kernel, by decide +kernel⟩
theorem sc_law : FnScope ["script", "data", "byte", "given", "codes", "mixed", "bare", "code", "cell", "rows", "row", "left"] ["script"] (defScope s_law) := ⟨rfl, rfl, rfl, by decide +kernel, rfl, by decide +kernel, by decide +kernel⟩
/-- what the top has left, as far as the walk asks of it -/
structure Txt (K : PySem.W.Frag) (mg : Str → Option Value) where
  f_spend : Addr
  fd_spend : FuncData
  F_spend : Fun K "spend" "spend" s_spend f_spend fd_spend
  b_spend : Binds K fd_spend ["left", "cost"] []
  g_spend : mg "spend" = some (.ref f_spend)
  f_to_base64 : Addr
  fd_to_base64 : FuncData
  F_to_base64 : Fun K "to_base64" "to_base64" s_to_base64 f_to_base64 fd_to_base64
  b_to_base64 : Binds K fd_to_base64 ["data"] []
  g_to_base64 : mg "to_base64" = some (.ref f_to_base64)
  f__four_signs : Addr
  fd__four_signs : FuncData
  F__four_signs : Fun K "_four_signs" "_four_signs" s__four_signs f__four_signs fd__four_signs
  b__four_signs : Binds K fd__four_signs ["group"] []
  g__four_signs : mg "_four_signs" = some (.ref f__four_signs)
  f_from_base64 : Addr
  fd_from_base64 : FuncData
  F_from_base64 : Fun K "from_base64" "from_base64" s_from_base64 f_from_base64 fd_from_base64
  b_from_base64 : Binds K fd_from_base64 ["data", "left"] []
  g_from_base64 : mg "from_base64" = some (.ref f_from_base64)
  f__sign_values : Addr
  fd__sign_values : FuncData
  F__sign_values : Fun K "_sign_values" "_sign_values" s__sign_values f__sign_values fd__sign_values
  b__sign_values : Binds K fd__sign_values [] []
  g__sign_values : mg "_sign_values" = some (.ref f__sign_values)
  f__three_bytes : Addr
  fd__three_bytes : FuncData
  F__three_bytes : Fun K "_three_bytes" "_three_bytes" s__three_bytes f__three_bytes fd__three_bytes
  b__three_bytes : Binds K fd__three_bytes ["values"] []
  g__three_bytes : mg "_three_bytes" = some (.ref f__three_bytes)
  f__law_cell : Addr
  fd__law_cell : FuncData
  F__law_cell : Fun K "_law_cell" "_law_cell" s__law_cell f__law_cell fd__law_cell
  b__law_cell : Binds K fd__law_cell ["script", "k"] []
  g__law_cell : mg "_law_cell" = some (.ref f__law_cell)
  f__law_twice : Addr
  fd__law_twice : FuncData
  F__law_twice : Fun K "_law_twice" "_law_twice" s__law_twice f__law_twice fd__law_twice
  b__law_twice : Binds K fd__law_twice ["cell", "k"] []
  g__law_twice : mg "_law_twice" = some (.ref f__law_twice)
  f__law_bytes : Addr
  fd__law_bytes : FuncData
  F__law_bytes : Fun K "_law_bytes" "_law_bytes" s__law_bytes f__law_bytes fd__law_bytes
  b__law_bytes : Binds K fd__law_bytes ["cell", "size"] []
  g__law_bytes : mg "_law_bytes" = some (.ref f__law_bytes)
  f__law_integer : Addr
  fd__law_integer : FuncData
  F__law_integer : Fun K "_law_integer" "_law_integer" s__law_integer f__law_integer fd__law_integer
  b__law_integer : Binds K fd__law_integer ["value"] []
  g__law_integer : mg "_law_integer" = some (.ref f__law_integer)
  f__law_is_list : Addr
  fd__law_is_list : FuncData
  F__law_is_list : Fun K "_law_is_list" "_law_is_list" s__law_is_list f__law_is_list fd__law_is_list
  b__law_is_list : Binds K fd__law_is_list ["found", "due"] []
  g__law_is_list : mg "_law_is_list" = some (.ref f__law_is_list)
  f__law_signs : Addr
  fd__law_signs : FuncData
  F__law_signs : Fun K "_law_signs" "_law_signs" s__law_signs f__law_signs fd__law_signs
  b__law_signs : Binds K fd__law_signs [] []
  g__law_signs : mg "_law_signs" = some (.ref f__law_signs)
  f__law_value : Addr
  fd__law_value : FuncData
  F__law_value : Fun K "_law_value" "_law_value" s__law_value f__law_value fd__law_value
  b__law_value : Binds K fd__law_value ["code"] []
  g__law_value : mg "_law_value" = some (.ref f__law_value)
  f__law_due : Addr
  fd__law_due : FuncData
  F__law_due : Fun K "_law_due" "_law_due" s__law_due f__law_due fd__law_due
  b__law_due : Binds K fd__law_due ["data", "left"] []
  g__law_due : mg "_law_due" = some (.ref f__law_due)
  f__law_written : Addr
  fd__law_written : FuncData
  F__law_written : Fun K "_law_written" "_law_written" s__law_written f__law_written fd__law_written
  b__law_written : Binds K fd__law_written ["data"] []
  g__law_written : mg "_law_written" = some (.ref f__law_written)
  f__law_right : Addr
  fd__law_right : FuncData
  F__law_right : Fun K "_law_right" "_law_right" s__law_right f__law_right fd__law_right
  b__law_right : Binds K fd__law_right ["data", "left"] []
  g__law_right : mg "_law_right" = some (.ref f__law_right)
  f__law_mixed : Addr
  fd__law_mixed : FuncData
  F__law_mixed : Fun K "_law_mixed" "_law_mixed" s__law_mixed f__law_mixed fd__law_mixed
  b__law_mixed : Binds K fd__law_mixed ["codes", "cell"] []
  g__law_mixed : mg "_law_mixed" = some (.ref f__law_mixed)
  f_law : Addr
  fd_law : FuncData
  F_law : Fun K "law" "law" s_law f_law fd_law
  b_law : Binds K fd_law ["script"] []
  g_law : mg "law" = some (.ref f_law)
  t__BASE64_SIGNS : Tok
  c__BASE64_SIGNS : mg "_BASE64_SIGNS" = some (.str "ABCDEFGHIJKLMNOPQRSTUVWXYZabcdefghijklmnopqrstuvwxyz0123456789+/" t__BASE64_SIGNS)
  t__EQUALS_SIGN : Tok
  c__EQUALS_SIGN : mg "_EQUALS_SIGN" = some (.int 61 t__EQUALS_SIGN)
  z_abs : mg "abs" = none
  z_bool : mg "bool" = none
  z_enumerate : mg "enumerate" = none
  z_int : mg "int" = none
  z_isinstance : mg "isinstance" = none
  z_len : mg "len" = none
  z_list : mg "list" = none
  z_max : mg "max" = none
  z_ord : mg "ord" = none
  z_range : mg "range" = none
  z_tuple : mg "tuple" = none
  z_zip : mg "zip" = none
open Lean in
local macro_rules
  | `(tactic| walk_at $s:str) => do
    let ws := (s.getString.splitOn " ").filter (· ≠ "")
    let ids (fs : List String) : Array (TSyntax `term) := (fs.map fun f => (⟨mkIdent f.toName⟩ : TSyntax `term)).toArray
    match ws with
    | "vc" :: fs => do
      let xs := ids fs
      `(tactic| simp (config := {maxSteps := 2000000}) only [tSeq, tAsg, tOp, rI, rI0, rU, tUn, tCB, tCons, tNil, tVar, tC, gName, gSub, rSetL, tRet, tRetN, tIfS, tNext, tTest, tB, tDrop, tIf, tNot, tAnd, tOr, tAndV, tOrV, tNotV, tAug, ipI, tCall, tCmp, t2I, tBreak, tCont, tLst, tTup, tBM, tBM0, rAppend, tyV_upd, rLenH, rLenT, rListH, rIxH, rIxTH, rIxS, rEqIL, rNeIL, rEqTS, rSlH, rRep, rCat, rExtend, tSl, tPart, tNoPart, rIxT, gTup, gCons, gNil, atI_c0, atI_c1, atI_c2, atI_c3, dS_int, dS_bl, isS_int, isS_bl, eqv_ii, eqv_bb, eqvAll_nil, eqvAll_cons, List.all_cons, List.all_nil, Bool.and_true, Bool.true_and, rIsiB, tnm_int, tnm_bl, tnm_str, tnm_non, tnm_ref, kb1, kb2, kb3, kb4, kb5, kb6, kb7, kb8, kb9, kb10, rEq, rNe, scal_ii, scal_ss, scal_bb, scal_nn, scal_in, scal_ni, tFor_eq, tLc_eq, iRng1, iRng2, iList, iTup, iZip, iStr, iRng3, tChain, tYes, wipe, tCallL, Int.sub_zero, Int.toNat_natCast, Int.natCast_add, cxOf, L2.start, List.map_cons, List.map_nil, List.length_cons, List.length_nil, List.reduceReplicate, List.cons_append, List.nil_append, List.append_nil, List.set_cons_zero, List.set_cons_succ, List.getElem?_cons_zero, List.getElem?_cons_succ, upd_same, upd_upd, HO.lst.injEq, HO.tup.injEq, nil_sz, Option.some.injEq, V.int.injEq, V.bl.injEq, V.ref.injEq, V.str.injEq, V.ty.injEq, exists_eq_left', exists_eq_left, exists_eq', exists_eq, Int.cast_ofNat_Int, Int.reduceEq, Int.reduceMul, Int.reduceAdd, Int.reduceSub, Int.natCast_zero, Int.mul_zero, Int.add_zero, exists_and_left, exists_and_right, List.cons.injEq, and_true, true_and, and_assoc, reduceCtorEq, false_and, and_false, exists_false, exists_const, or_false, false_or, Nat.reduceAdd, Nat.reduceSub, Int.reduceLT, Int.reduceLE, Int.reduceNeg, Int.reducePow, Int.reduceToNat, ite_true, ite_false, Bool.false_eq_true, Bool.not_true, Bool.not_false, decide_true, decide_false, if_true, if_false, tTupS, tLstS, rListS, rListT, rTupleL, rCatL, rRepS, rSlS, map_int_inj, sz1, sz2, sz3, sz4, sz5, sz6, sz8, CMul, Nat.reduceLT, Nat.reduceLeDiff, Nat.reducePow, or_true, true_or, List.length_map, List.length_append, List.length_replicate, decide_eq_true_eq, gt_iff_lt, ge_iff_le, Int.reduceGT, Int.reduceGE, ne_eq, not_true_eq_false, not_false_eq_true, Int.reduceToNat, gTupS, gLstS, iListS, iTupS, tML, tML0, rPop, mx_eq, mn_eq, Int.natCast_inj, bitAnd_m1, bitAnd_m2, bitAnd_m3, bitAnd_m4, bitAnd_m5, bitAnd_m6, bitAnd_m7, bitAnd_m8, bitAnd_m16, CDiv, toNat_mul, map_snoc, map_cat, map_setV, List.length_set, absI_eq, Bool.and_self, tAugS, rGetL, iZipS, cutV_take1, cutV_drop1, tPar, rLenSc, rIxSc, iRng2, rSumS, rSlTS, cutV_take3, rEqC, rNeC, tTrL, iEnumL, rInI, rIndexI, tDGet, tDIn, tDNotIn, sDPut, iEnumS, tDc_eq, eq_self, $[$xs:term],*])
    | "w" :: fs => do
      let xs := ids fs
      let ys := (fs.map fun f => (⟨mkIdent f.toName⟩ : TSyntax `term)).toArray
      `(tactic| simp (config := {maxSteps := 2000000}) only [tSeq, tAsg, tOp, rI, rI0, rU, tUn, tCB, tCons, tNil, tVar, tC, gName, gSub, rSetL, tRet, tRetN, tIfS, tNext, tTest, tB, tDrop, tIf, tNot, tAnd, tOr, tAndV, tOrV, tNotV, tAug, ipI, tCall, tCmp, t2I, tBreak, tCont, tLst, tTup, tBM, tBM0, rAppend, tyV_upd, rLenH, rLenT, rListH, rIxH, rIxTH, rIxS, rEqIL, rNeIL, rEqTS, rSlH, rRep, rCat, rExtend, tSl, tPart, tNoPart, rIxT, gTup, gCons, gNil, atI_c0, atI_c1, atI_c2, atI_c3, dS_int, dS_bl, isS_int, isS_bl, eqv_ii, eqv_bb, eqvAll_nil, eqvAll_cons, List.all_cons, List.all_nil, Bool.and_true, Bool.true_and, rIsiB, tnm_int, tnm_bl, tnm_str, tnm_non, tnm_ref, kb1, kb2, kb3, kb4, kb5, kb6, kb7, kb8, kb9, kb10, rEq, rNe, scal_ii, scal_ss, scal_bb, scal_nn, scal_in, scal_ni, tFor_eq, tLc_eq, iRng1, iRng2, iList, iTup, iZip, iStr, iRng3, tChain, tYes, wipe, tCallL, Int.sub_zero, Int.toNat_natCast, Int.natCast_add, cxOf, L2.start, List.map_cons, List.map_nil, List.length_cons, List.length_nil, List.reduceReplicate, List.cons_append, List.nil_append, List.append_nil, List.set_cons_zero, List.set_cons_succ, List.getElem?_cons_zero, List.getElem?_cons_succ, upd_same, upd_upd, HO.lst.injEq, HO.tup.injEq, nil_sz, Option.some.injEq, V.int.injEq, V.bl.injEq, V.ref.injEq, V.str.injEq, V.ty.injEq, exists_eq_left', exists_eq_left, exists_eq', exists_eq, Int.cast_ofNat_Int, Int.reduceEq, Int.reduceMul, Int.reduceAdd, Int.reduceSub, Int.natCast_zero, Int.mul_zero, Int.add_zero, exists_and_left, exists_and_right, List.cons.injEq, and_true, true_and, and_assoc, reduceCtorEq, false_and, and_false, exists_false, exists_const, or_false, false_or, Nat.reduceAdd, Nat.reduceSub, Int.reduceLT, Int.reduceLE, Int.reduceNeg, Int.reducePow, Int.reduceToNat, ite_true, ite_false, Bool.false_eq_true, Bool.not_true, Bool.not_false, decide_true, decide_false, if_true, if_false, tTupS, tLstS, rListS, rListT, rTupleL, rCatL, rRepS, rSlS, map_int_inj, sz1, sz2, sz3, sz4, sz5, sz6, sz8, CMul, Nat.reduceLT, Nat.reduceLeDiff, Nat.reducePow, or_true, true_or, List.length_map, List.length_append, List.length_replicate, decide_eq_true_eq, gt_iff_lt, ge_iff_le, Int.reduceGT, Int.reduceGE, ne_eq, not_true_eq_false, not_false_eq_true, Int.reduceToNat, gTupS, gLstS, iListS, iTupS, tML, tML0, rPop, mx_eq, mn_eq, Int.natCast_inj, bitAnd_m1, bitAnd_m2, bitAnd_m3, bitAnd_m4, bitAnd_m5, bitAnd_m6, bitAnd_m7, bitAnd_m8, bitAnd_m16, CDiv, toNat_mul, map_snoc, map_cat, map_setV, List.length_set, absI_eq, Bool.and_self, tAugS, rGetL, iZipS, cutV_take1, cutV_drop1, tPar, rLenSc, rIxSc, iRng2, rSumS, rSlTS, cutV_take3, rEqC, rNeC, tTrL, iEnumL, rInI, rIndexI, tDGet, tDIn, tDNotIn, sDPut, iEnumS, tDc_eq, eq_self, $[$xs:term],*, $[(tyL_eq $ys)],*, $[(sqL_eq $ys)],*])
    | "g" :: fs => do
      let xs := ids fs
      `(tactic| simp only [gTupS, gCons, gNil, gName, HO.tup.injEq, Option.some.injEq, exists_eq_left', exists_eq_left, exists_eq', exists_eq, V.ref.injEq, List.cons.injEq, and_assoc, exists_and_left, exists_and_right, true_and, and_true, List.length_cons, List.length_nil, Nat.reduceAdd, List.set_cons_zero, List.set_cons_succ, $[$xs:term],*])
    | "c" :: sn :: gs => do
      let s1 := mkIdent sn.toName
      let mut out ← `(tactic| skip)
      for g in gs do
        let i := mkIdent g.toName
        out ← `(tactic| ($out; replace $i := $s1 _ _ $i))
      return out
    | "n" :: sn :: suf :: gs => do
      let s1 := mkIdent sn.toName
      let mut out ← `(tactic| skip)
      for g in gs do
        let i := mkIdent g.toName
        let j := mkIdent (g ++ suf).toName
        out ← `(tactic| ($out; have $j := $s1 _ _ $i))
      return out
    | "b" :: bn :: suf :: gs => do
      let s1 := mkIdent bn.toName
      let mut out ← `(tactic| skip)
      for g in gs do
        let i := mkIdent g.toName
        let j := mkIdent (g ++ suf).toName
        let n := mkIdent ("ne_" ++ g).toName
        out ← `(tactic| ($out; have $j := $s1 _ _ $n $i))
      return out
    | _ => Macro.throwUnsupported

section
variable {P : Program} {w : World} {K : PySem.W.Frag} {mg : Str → Option Value} {base : Heap}

theorem foldl_take {α β : Type} (f : β → α → β) (s : β) {l : List α} {i : Nat} {x : α} (h : l[i]? = some x) : (l.take (i + 1)).foldl f s = f ((l.take i).foldl f s) x := by
  rw [List.take_add_one, h, List.foldl_append]
  simp only [Option.toList_some, List.foldl_cons, List.foldl_nil]
theorem take_succ {α : Type} {l : List α} {i : Nat} {x : α} (h : l[i]? = some x) : l.take (i + 1) = l.take i ++ [x] := by
  rw [List.take_add_one, h]
  rfl
theorem take_map_succ {α β : Type} (f : α → β) {l : List α} {i : Nat} {x : α} (h : l[i]? = some x) : (l.map f).take (i + 1) = (l.map f).take i ++ [f x] := take_succ (by rw [List.getElem?_map, h]; rfl)
theorem take_lt {α : Type} (l : List α) (i : Nat) {n : Nat} (h : l.length < n) : (l.take i).length < n := Nat.lt_of_le_of_lt (by rw [List.length_take]; exact Nat.min_le_right _ _) h
def YTup (ns : List Int) : Nat → Hp → V → Hp → Prop := fun i H v H' => H' = H ∧ ∃ b, ns[i]? = some b ∧ v = .int b
theorem walkTI {K : PySem.W.Frag} {a : Addr} {ns : List Int} : Walk (Itt K a) ns.length (fun H => H a = some (.tup (List.map V.int ns))) (YTup ns) := by
  have w := walkT (K := K) (a := a) (xs := List.map V.int ns)
  rw [List.length_map] at w
  refine w.mono (fun _ h => h) fun i H x H' _ _ y => ⟨y.1, ?_⟩
  have h := y.2
  rw [List.getElem?_map] at h
  obtain ⟨b, h1, rfl⟩ := Option.map_eq_some_iff.mp h
  exact ⟨b, h1, rfl⟩
theorem foldl_len {α : Type} {f : List Int → α → List Int} (h : ∀ p c, (f p c).length = p.length) : ∀ (l : List α) (p : List Int), (l.foldl f p).length = p.length
  | [], _ => rfl
  | c :: r, p => by rw [List.foldl_cons, foldl_len h r, h]
theorem ix_in {r c w h : Nat} (hr : r < h) (hc : c < w) : r * w + c < w * h := by
  have h1 : r * w + w ≤ h * w := by rw [← Nat.succ_mul]; exact Nat.mul_le_mul_right w hr
  rw [Nat.mul_comm w h]
  omega
theorem map_set (l : List Int) (i : Nat) (v : Int) : (List.map V.int l).set i (.int v) = List.map V.int (l.set i v) := by rw [List.map_set]
theorem div_in {a d : Int} {n : Nat} (h0 : 0 ≤ a) (h1 : a < d) (hn : 1 ≤ n) : 0 ≤ a * n / d ∧ a * n / d < n := by
  refine ⟨Int.ediv_nonneg (Int.mul_nonneg h0 (by omega)) (by omega), Int.ediv_lt_of_lt_mul (by omega) ?_⟩
  rw [Int.mul_comm (n : Int) d]
  exact Int.mul_lt_mul_of_pos_right h1 (by omega)
theorem foldl_ext' {α β : Type} {f g : α → β → α} {l : List β} : ∀ {a : α}, (∀ a, ∀ b ∈ l, f a b = g a b) → l.foldl f a = l.foldl g a := by
  induction l with
  | nil => exact fun _ => rfl
  | cons x r ih => exact fun {a} h => by rw [List.foldl_cons, List.foldl_cons, h a x List.mem_cons_self]; exact ih fun a b hb => h a b (List.mem_cons_of_mem _ hb)
theorem gN_ge {src : List Int} (h : ∀ v ∈ src, -1 ≤ v) (i : Nat) : -1 ≤ gN src i := by
  unfold gN
  rw [List.getD_eq_getElem?_getD]
  cases e : src[i]? with
  | none => decide
  | some b => exact h b (List.mem_of_getElem? e)
theorem cnt_lt {n : Nat} (h : n ≤ 2000000) : n < sizeLine := Nat.lt_of_le_of_lt h (by decide)

/-! ### spending -/
def spdL (l c : Int) : Int := if l < mx c 0 then 0 else l - mx c 0
def spdB (l c : Int) : Bool := !decide (l < mx c 0)
theorem mx_nat (n : Nat) : mx (n : Int) 0 = n := by
  unfold mx
  rw [if_neg (by omega)]
theorem mx_nn {c : Int} (h : 0 ≤ c) : mx c 0 = c := by
  unfold mx
  rw [if_neg (by omega)]
def sp_spend (K : PySem.W.Frag) : Sp := fun vs H Q _ => ∃ (l c : Int), vs = [.int l, .int c] ∧ (NewH H (.tup [.int (spdL l c), .bl (spdB l c)]) fun p H' => Q (.ref p) H')
theorem ok_spend (T : Txt K mg) : FnOk P w K mg base CX0 1 T.f_spend T.fd_spend ["left", "cost"] (sp_spend K) := by
  refine T.F_spend.ok sc_spend (fun vs H Q E h => ?_) (fun cdv A outer s H vs Q E hr h => ?_)
  · obtain ⟨l, c, rfl, _⟩ := h
    rfl
  · obtain ⟨l, c, rfl, q⟩ := h
    refine ⟨_, (pss_cons (ps_set (i := 1) sc_spend.nd rfl (Or.inl rfl) (pe_callB (call_max2 rfl) (by rfl) T.z_max (by decide +kernel) (pa_cons (pv 1) (pa_cons pe_int pa_nil))))
      (pss_cons (ps_if (pt_cmpR op_gt (pv 1) (pv 0) (nomark _)) (pss_one (ps_ret (pe_tupS (pa_cons pe_int (pa_cons pe_bl pa_nil))))) pss_nil)
      (pss_one (ps_ret (pe_tupS (pa_cons (pe_op op_sub (pv 0) (pv 1)) (pa_cons pe_bl pa_nil))))))), ?_⟩
    walk_at "vc"
    unfold spdL spdB at q
    refine iteP (fun e => ?_) (fun e => ?_)
    · simp only [if_pos e, decide_eq_true e, Bool.not_true] at q
      exact q
    · simp only [if_neg e, decide_eq_false e, Bool.not_false] at q
      exact q

/-! ### base 64 -/
abbrev b64S : Str := Str.ofString "ABCDEFGHIJKLMNOPQRSTUVWXYZabcdefghijklmnopqrstuvwxyz0123456789+/"
def tbB (ns : List Int) : Int := (ns ++ List.replicate (4 - ns.length) 0).foldl (fun b v => b * 64 + v) 0
def tb (ns : List Int) : List Int := [tbB ns / 65536, tbB ns / 256 % 256, tbB ns % 256].take (ns.length - 1)
def sp__three_bytes (K : PySem.W.Frag) : Sp := fun vs H Q _ => ∃ (a : Addr) (ns : List Int), vs = [.ref a] ∧ (H a = some (.lst (List.map V.int ns))) ∧ (1 ≤ ns.length ∧ ns.length ≤ 4) ∧ (∀ H' p, Same H H' → H p = none → H' p = some (.lst (List.map V.int (tb ns))) → Q (.ref p) H')
theorem ok__three_bytes (T : Txt K mg) : FnOk P w K mg base CX0 1 T.f__three_bytes T.fd__three_bytes ["values"] (sp__three_bytes K) := by
  refine T.F__three_bytes.ok sc__three_bytes (fun vs H Q E h => ?_) (fun cdv A outer s H vs Q E hr h => ?_)
  · obtain ⟨a, ns, rfl, _⟩ := h
    rfl
  · obtain ⟨a, ns, rfl, ha, hn, q⟩ := h
    refine ⟨_, (pss_cons (ps_set (i := 1) sc__three_bytes.nd rfl (Or.inl rfl) pe_int)
      (pss_cons (ps_for PassesOwn.never rfl (pi_listS (pe_op op_catS (pv 0) (pe_op op_repS (pe_lstS (pa_cons pe_int pa_nil)) (pe_op op_sub pe_int (pe_callB call_lenH (by rfl) T.z_len PySem.boot_len (pa_cons (pv 0) pa_nil)))))) (pg_name (i := 2) sc__three_bytes.nd rfl (Or.inl rfl)) (pss_one (ps_set (i := 1) sc__three_bytes.nd rfl (Or.inl rfl) (pe_op op_add (pe_op op_mul (pv 1) pe_int) (pv 2)))))
      (pss_one (ps_ret (pe_slice sl_listS (pe_lstS (pa_cons (pe_op op_shr (pv 1) pe_int) (pa_cons (pe_op op_and (pe_op op_shr (pv 1) pe_int) pe_int) (pa_cons (pe_op op_and (pv 1) pe_int) pa_nil)))) po_none (po_some (pe_op op_sub (pe_callB call_lenH (by rfl) T.z_len PySem.boot_len (pa_cons (pv 0) pa_nil)) pe_int))))))), ?_⟩
    walk_at "vc ha"
    intro p1 H1 s1 n1 g1
    have ha1 := s1 _ _ ha
    walk_at "vc g1 ha1"
    refine ⟨by omega, by omega, fun p2 H2 s2 n2 g2 => ?_⟩
    rw [show ((4 : Int) - (ns.length : Int)).toNat = 4 - ns.length by omega, show List.replicate (4 - ns.length) (V.int 0) = List.map V.int (List.replicate (4 - ns.length) 0) by rw [List.map_replicate]] at g2
    have ha2 := s2 _ _ ha1
    walk_at "vc g2 ha2"
    refine ⟨Nat.le_trans (show ns.length + (4 - ns.length) ≤ 8 by omega) (by decide), fun p3 H3 s3 n3 g3 => ?_⟩
    have s13 := (s1.trans s2).trans s3
    walk_at "vc g3"
    refine lpW (walkI (ns := ns ++ List.replicate (4 - ns.length) 0)) (fun i σ H' => ∃ vv : Option V, σ = [some (.ref a), some (.int (((ns ++ List.replicate (4 - ns.length) 0).take i).foldl (fun b v => b * 64 + v) 0)), vv] ∧ H' = H3) ⟨none, rfl, rfl⟩ ?_ ?_ ?_
    · rintro i σ H' _ ⟨_, _, rfl⟩
      exact g3
    · rintro i x σ H' H4 hi ⟨vv, rfl, rfl⟩ ⟨rfl, b, hb, rfl⟩
      rw [foldl_take _ _ hb]
      walk_at "vc"
    · rintro σ H' ⟨vv, rfl, rfl⟩
      rw [List.take_length, show List.foldl (fun b v => b * 64 + v) 0 (ns ++ List.replicate (4 - ns.length) 0) = tbB ns from rfl]
      have ha3 := s13 _ _ ha
      walk_at "vc ha3"
      intro p4 H4 s4 n4 g4
      have ha4 := s4 _ _ ha3
      replace g4 : H4 p4 = some (.lst (List.map V.int [tbB ns / 65536, tbB ns / 256 % 256, tbB ns % 256])) := g4
      walk_at "vc g4 ha4"
      intro p5 H5 s5 n5 g5
      have s05 := s13.trans s4
      rw [show (ns.length : Int) - 1 = ((ns.length - 1 : Nat) : Int) by omega] at g5
      replace g5 : H5 p5 = some (.lst (cutV (List.map V.int [tbB ns / 65536, tbB ns / 256 % 256, tbB ns % 256]) none (some ((ns.length - 1 : Nat) : Int)))) := g5
      rw [cutI_take] at g5
      exact q _ p5 (s05.trans s5) (s05.free n5) g5
/-- the four signs of a group -/
def fsB (ns : List Int) : Int := (ns ++ List.replicate (3 - ns.length) 0).foldl (fun b v => b * 256 + v) 0
def sgn (v : Int) : Int := ((b64S.cps.getD v.toNat 0 : Nat) : Int)
def fs (ns : List Int) : List Int := ([sgn (fsB ns / 262144), sgn (fsB ns / 4096 % 64), sgn (fsB ns / 64 % 64), sgn (fsB ns % 64)].take (ns.length + 1)) ++ List.replicate (3 - ns.length) 61
theorem sgn_at : ∀ d : _root_.Fin 64, atI b64S.cps.toList ((d : Nat) : Int) = some (b64S.cps.getD (d : Nat) 0) := by decide +kernel
theorem sgn_at' {v : Int} (h0 : 0 ≤ v) (h1 : v < 64) : ∃ c, atI b64S.cps.toList v = some c ∧ (c : Int) = sgn v := by
  have := sgn_at ⟨v.toNat, by omega⟩
  rw [show (((⟨v.toNat, by omega⟩ : _root_.Fin 64) : Nat) : Int) = v by show ((v.toNat : Nat) : Int) = v; omega] at this
  exact ⟨_, this, rfl⟩
theorem b64_len : (b64S.length ≤ sizeLine) = True := eq_true (by decide +kernel)
def Byt (ns : List Int) : Prop := ∀ b ∈ ns, 0 ≤ b ∧ b < 256
theorem one_len (c : Nat) : (Str.mk #[c]).length = 1 := rfl
def sp__four_signs (K : PySem.W.Frag) : Sp := fun vs H Q _ => ∃ (a : Addr) (ns : List Int), vs = [.ref a] ∧ (H a = some (.lst (List.map V.int ns))) ∧ (1 ≤ ns.length ∧ ns.length ≤ 3) ∧ (Byt ns) ∧ (∀ H' p, Same H H' → H p = none → H' p = some (.lst (List.map V.int (fs ns))) → Q (.ref p) H')
theorem ok__four_signs (T : Txt K mg) : FnOk P w K mg base CX0 1 T.f__four_signs T.fd__four_signs ["group"] (sp__four_signs K) := by
  refine T.F__four_signs.ok sc__four_signs (fun vs H Q E h => ?_) (fun cdv A outer s H vs Q E hr h => ?_)
  · obtain ⟨a, ns, rfl, _⟩ := h
    rfl
  · obtain ⟨a, ns, rfl, ha, hn, hB, q⟩ := h
    refine ⟨_, (pss_cons (ps_set (i := 1) sc__four_signs.nd rfl (Or.inl rfl) (pe_op op_sub pe_int (pe_callB call_lenH (by rfl) T.z_len PySem.boot_len (pa_cons (pv 0) pa_nil))))
      (pss_cons (ps_asg (pe_op op_catS (pe_callTy call_listS (by rfl) T.z_list (by decide +kernel) (pa_cons (pv 0) pa_nil)) (pe_op op_repS (pe_lstS (pa_cons pe_int pa_nil)) (pv 1))) (pg_lstS (n := 3) (by rfl) (pgs_cons (pg_name (i := 2) sc__four_signs.nd rfl (Or.inl rfl)) (pgs_cons (pg_name (i := 3) sc__four_signs.nd rfl (Or.inl rfl)) (pgs_cons (pg_name (i := 4) sc__four_signs.nd rfl (Or.inl rfl)) pgs_nil)))))
      (pss_cons (ps_set (i := 5) sc__four_signs.nd rfl (Or.inr rfl) (pe_op op_add (pe_op op_add (pe_op op_mul (pv 2) pe_int) (pe_op op_mul (pv 3) pe_int)) (pv 4)))
      (pss_cons (ps_setLc (i := 6) (own := [("shift", 7)]) (g := (gName 7)) rfl sc__four_signs.nd rfl rfl (sw_true rfl rfl rfl (by decide +kernel)) (pi_tupS (pe_tupS (pa_cons pe_int (pa_cons pe_int (pa_cons pe_int (pa_cons pe_int pa_nil)))))) (blkOk_by (own := [("shift", 7)]) (N := ["group", "missing", "first", "second", "third", "bits", "signs", "shift"]) (sc := defScope s__four_signs) (by decide +kernel)) (fun _ _ _ _ _ => (pg_name (i := 7) sc__four_signs.nd rfl (Or.inl rfl))) (fun _ _ _ _ _ => pts_nil) (fun _ _ _ _ _ => (pe_callB call_ord (by rfl) T.z_ord (by decide +kernel) (pa_cons (pe_ix ix_str (pe_glob (v := .str "ABCDEFGHIJKLMNOPQRSTUVWXYZabcdefghijklmnopqrstuvwxyz0123456789+/") (by rfl) T.c__BASE64_SIGNS ⟨_, rfl⟩) (pe_op op_and (pe_op op_shr (pv 5) (pv 7)) pe_int) (fun _ _ => rfl)) pa_nil))))
      (pss_one (ps_ret (pe_op op_catS (pe_slice sl_listS (pv 6) po_none (po_some (pe_op op_sub pe_int (pv 1)))) (pe_op op_repS (pe_lstS (pa_cons (pe_glob (v := .int 61) (by rfl) T.c__EQUALS_SIGN ⟨_, rfl⟩) pa_nil)) (pv 1))))))))), ?_⟩
    walk_at "vc ha"
    intro p1 H1 s1 n1 g1 p2 H2 s2 n2 g2
    walk_at "n s2 2 g1"
    walk_at "vc g2 g12"
    refine ⟨by omega, by omega, fun p3 H3 s3 n3 g3 => ?_⟩
    rw [show ((3 : Int) - (ns.length : Int)).toNat = 3 - ns.length by omega, show List.replicate (3 - ns.length) (V.int 0) = List.map V.int (List.replicate (3 - ns.length) 0) by rw [List.map_replicate]] at g3
    have g13 := s3 _ _ g12
    walk_at "vc g3 g13"
    refine ⟨Nat.le_trans (show ns.length + (3 - ns.length) ≤ 8 by omega) (by decide), fun p4 H4 s4 n4 g4 => ?_⟩
    have s14 := ((s1.trans s2).trans s3).trans s4
    obtain ⟨x, y, z, hX⟩ : ∃ x y z : Int, ns ++ List.replicate (3 - ns.length) 0 = [x, y, z] := by
      have hl3 : (ns ++ List.replicate (3 - ns.length) 0).length = 3 := by rw [List.length_append, List.length_replicate]; omega
      match ns ++ List.replicate (3 - ns.length) 0, hl3 with
      | [x, y, z], _ => exact ⟨x, y, z, rfl⟩
    have eB : fsB ns = x * 65536 + y * 256 + z := by
      unfold fsB
      rw [hX]
      show ((0 * 256 + x) * 256 + y) * 256 + z = _
      omega
    have hXB : ∀ v ∈ [x, y, z], 0 ≤ v ∧ v < 256 := by
      rw [← hX]
      intro v hv
      rcases List.mem_append.mp hv with h | h
      · exact hB v h
      · rw [List.eq_of_mem_replicate h]; exact ⟨by decide, by decide⟩
    have hx := hXB x (by simp)
    have hy := hXB y (by simp)
    have hz := hXB z (by simp)
    have hb0 : 0 ≤ fsB ns ∧ fsB ns < 16777216 := by omega
    rw [hX] at g4
    replace g4 : H4 p4 = some (.lst [.int x, .int y, .int z]) := g4
    walk_at "vc g4"
    rw [← eB]
    generalize hb : fsB ns = B at hb0 ⊢
    intro p5 H5 s5 n5 g5
    have s15 := s14.trans s5
    replace g5 : H5 p5 = some (.tup (List.map V.int [18, 12, 6, 0])) := g5
    have st5 : (∃ xs, H5 p5 = some (.tup xs)) = True := eq_true ⟨_, g5⟩
    refine ⟨⟨_, g5⟩, lcL (walkTI (ns := [18, 12, 6, 0])) (L := fun i => List.map V.int ([sgn (B / 262144), sgn (B / 4096 % 64), sgn (B / 64 % 64), sgn (B % 64)].take i)) rfl (fun _ s => s _ _ g5) (fun D i v H6 H7 hi hD s6 gD yv => ?_) (fun pD H6 s6 n6 gD => ?_)⟩
    · obtain ⟨rfl, sh, hsh, rfl⟩ := yv
      have four : i = 0 ∨ i = 1 ∨ i = 2 ∨ i = 3 := by have : i < 4 := hi; omega
      have done_ : ∀ (vv : Int) (k : Nat), 0 ≤ vv → vv < 64 → [sgn (B / 262144), sgn (B / 4096 % 64), sgn (B / 64 % 64), sgn (B % 64)][i]? = some (sgn vv) → ∃ c, atI b64S.cps.toList vv = some c ∧ Same H5 (upd H7 D (.lst (List.map V.int (([sgn (B / 262144), sgn (B / 4096 % 64), sgn (B / 64 % 64), sgn (B % 64)].take i) ++ [(c : Int)])))) ∧
          ([sgn (B / 262144), sgn (B / 4096 % 64), sgn (B / 64 % 64), sgn (B % 64)].take i) ++ [(c : Int)] = [sgn (B / 262144), sgn (B / 4096 % 64), sgn (B / 64 % 64), sgn (B % 64)].take (i + 1) := by
        intro vv k h0 h1 hi
        obtain ⟨c, c1, c2⟩ := sgn_at' h0 h1
        exact ⟨c, c1, same_upd2 s6 hD, by rw [take_succ hi, c2]⟩
      walk_at "vc b64_len gD one_len"
      have z4 : (([sgn (B / 262144), sgn (B / 4096 % 64), sgn (B / 64 % 64), sgn (B % 64)].take i)).length < sizeLine := take_lt _ _ (show 4 < sizeLine by decide)
      rcases four with rfl | rfl | rfl | rfl
      · obtain rfl : 18 = sh := by simpa using hsh
        obtain ⟨c, c1, c2, c3⟩ := done_ (B / 262144) 0 (by omega) (by omega) rfl
        exact ⟨by decide, c, by rw [show B / 2 ^ ((18 : Int)).toNat % 64 = B / 262144 from by show B / 262144 % 64 = B / 262144; omega]; exact c1, z4, c2, c3⟩
      · obtain rfl : 12 = sh := by simpa using hsh
        obtain ⟨c, c1, c2, c3⟩ := done_ (B / 4096 % 64) 1 (by omega) (by omega) rfl
        exact ⟨by decide, c, c1, z4, c2, c3⟩
      · obtain rfl : 6 = sh := by simpa using hsh
        obtain ⟨c, c1, c2, c3⟩ := done_ (B / 64 % 64) 2 (by omega) (by omega) rfl
        exact ⟨by decide, c, c1, z4, c2, c3⟩
      · obtain rfl : 0 = sh := by simpa using hsh
        obtain ⟨c, c1, c2, c3⟩ := done_ (B % 64) 3 (by omega) (by omega) rfl
        exact ⟨by decide, c, by rw [show B / 2 ^ ((0 : Int)).toNat % 64 = B % 64 from by show B / 1 % 64 = B % 64; omega]; exact c1, z4, c2, c3⟩
    · replace gD : H6 pD = some (.lst (List.map V.int [sgn (B / 262144), sgn (B / 4096 % 64), sgn (B / 64 % 64), sgn (B % 64)])) := gD
      rw [← hb] at gD
      generalize hS : [sgn (fsB ns / 262144), sgn (fsB ns / 4096 % 64), sgn (fsB ns / 64 % 64), sgn (fsB ns % 64)] = S4 at gD
      walk_at "vc gD"
      intro p7 H7 s7 n7 g7 p8 H8 s8 n8 g8
      rw [show (4 : Int) - ((3 : Int) - (ns.length : Int)) = ((ns.length + 1 : Nat) : Int) by omega, cutI_take] at g7
      have g78 := s8 _ _ g7
      walk_at "vc g8 g78"
      refine ⟨by omega, by omega, fun p9 H9 s9 n9 g9 => ?_⟩
      rw [show ((3 : Int) - (ns.length : Int)).toNat = 3 - ns.length by omega, show List.replicate (3 - ns.length) (V.int 61) = List.map V.int (List.replicate (3 - ns.length) 61) by rw [List.map_replicate]] at g9
      have g79 := s9 _ _ g78
      walk_at "vc g9 g79"
      refine ⟨?_, fun p10 H10 s10 n10 g10 => ?_⟩
      · exact Nat.le_trans (show (S4.take (ns.length + 1)).length + (3 - ns.length) ≤ 10 by rw [List.length_take]; omega) (by decide)
      · have s09 := ((((s15.trans s6).trans s7).trans s8).trans s9)
        refine q _ p10 (s09.trans s10) (s09.free n10) ?_
        unfold fs
        rw [hS]
        exact g10
def tF (ns : List Int) : Nat → List Int
  | 0 => []
  | r + 1 => tF ns r ++ fs (sl ns (3 * r) (3 * r + 3))
theorem fs_len {ns : List Int} (h : ns.length ≤ 3) : (fs ns).length = 4 := by
  unfold fs
  rw [List.length_append, List.length_take, List.length_replicate]
  show min (ns.length + 1) 4 + (3 - ns.length) = 4
  omega
theorem tF_len (ns : List Int) : ∀ r, (tF ns r).length = 4 * r
  | 0 => rfl
  | r + 1 => by
    rw [tF, List.length_append, tF_len ns r, fs_len (by rw [sl_len]; omega)]
    omega
def toB (ns : List Int) : List Int := tF ns ((ns.length + 2) / 3)
theorem rg_gen {L c : Nat} (hL : L < 1000000) (h1 : 1 ≤ c) (h2 : c ≤ 100000) : RgC 0 (L : Int) (c : Int) ((L + c - 1) / c) := by
  have hd : (L + c - 1) / c ≤ L + c - 1 := Nat.div_le_self _ _
  have e : Builtin.Range.rangeSize 0 (L : Int) (c : Int) = (((L + c - 1) / c : Nat) : Int) := by
    unfold Builtin.Range.rangeSize
    rw [if_pos (by omega)]
    by_cases h : L = 0
    · rw [if_neg (by omega), h, Nat.div_eq_of_lt (by omega)]
      rfl
    · rw [if_pos (by omega), show (L : Int) - 0 - 1 = ((L - 1 : Nat) : Int) by omega, ← Int.natCast_ediv, show L + c - 1 = (L - 1) + c by omega, Nat.add_div_right _ (by omega)]
      rfl
  generalize (L + c - 1) / c = n at hd e ⊢
  refine ⟨by omega, by omega, ?_, e⟩
  unfold Builtin.Range.small
  rw [e]
  simp only [Builtin.Range.rangeFitsLong, Bool.and_eq_true, Bool.or_eq_true, decide_eq_true_eq, beq_iff_eq, show ((c : Int) > 0) by omega, if_true]
  omega
theorem rg_lt {L c i : Nat} (h1 : 1 ≤ c) (h : i < (L + c - 1) / c) : i * c < L := by
  have := (Nat.le_div_iff_mul_le (by omega)).mp (Nat.succ_le_of_lt h)
  rw [Nat.succ_mul] at this
  omega

theorem sl_byt {ns : List Int} (h : Byt ns) (i j : Nat) : Byt (sl ns i j) := fun b hb => h b (List.mem_of_mem_drop (List.mem_of_mem_take hb))
def sp_to_base64 (K : PySem.W.Frag) : Sp := fun vs H Q _ => ∃ (a : Addr) (ns : List Int), vs = [.ref a] ∧ (H a = some (.lst (List.map V.int ns))) ∧ (ns.length ≤ 1000) ∧ (Byt ns) ∧ (∀ H' p, Same H H' → H p = none → H' p = some (.lst (List.map V.int (toB ns))) → Q (.ref p) H')
theorem ok_to_base64 (T : Txt K mg) : FnOk P w K mg base CX0 2 T.f_to_base64 T.fd_to_base64 ["data"] (sp_to_base64 K) := by
  refine T.F_to_base64.ok sc_to_base64 (fun vs H Q E h => ?_) (fun cdv A outer s H vs Q E hr h => ?_)
  · obtain ⟨a, ns, rfl, _⟩ := h
    rfl
  · obtain ⟨a, ns, rfl, ha, hn, hB, q⟩ := h
    refine ⟨_, (pss_cons (ps_set (i := 1) sc_to_base64.nd rfl (Or.inl rfl) (pe_lstS pa_nil))
      (pss_cons (ps_for PassesOwn.never rfl (pi_range3 (by rfl) T.z_range (pa_cons pe_int (pa_cons (pe_callB call_lenH (by rfl) T.z_len PySem.boot_len (pa_cons (pv 0) pa_nil)) (pa_cons pe_int pa_nil)))) (pg_name (i := 2) sc_to_base64.nd rfl (Or.inl rfl)) (pss_one (ps_expr (pe_ml (pe_bm PySem.F.plainAttrs_list PySem.F.slot_list_extend PySem.F.type_list_extend mt_extend (pe_mono (pv 1)) (pa_cons (pe_call (ok__four_signs T) hr (by rfl) T.g__four_signs T.F__four_signs.kp T.b__four_signs .nil pass0 (pa_cons (pe_slice sl_listS (pv 0) (po_some (pv 2)) (po_some (pe_op op_add (pv 2) pe_int))) pa_nil)) pa_nil))))))
      (pss_one (ps_ret (pv 1))))), ?_⟩
    walk_at "vc"
    intro p0 H1 s1 n1 g1
    have ha1 := s1 _ _ ha
    walk_at "vc ha1"
    refine ⟨(ns.length + 3 - 1) / 3, rg_gen (c := 3) (by omega) (by decide) (by decide), ?_⟩
    refine lpW (walk_rangeC (lo := 0) (c := 3) (n := (ns.length + 3 - 1) / 3)) (fun r σ H' => ∃ av : Option V, σ = [some (.ref a), some (.ref p0), av] ∧ Same H H' ∧ H' p0 = some (.lst (List.map V.int (tF ns r)))) ⟨none, rfl, s1, g1⟩ (fun _ _ _ _ _ => True.intro) ?_ ?_
    · rintro r x σ H' H2 hr' ⟨av, rfl, sm, gf⟩ ⟨rfl, rfl⟩
      have hlt := rg_lt (c := 3) (by decide) hr'
      have hfl := tF_len ns r
      have ha2 := sm _ _ ha
      walk_at "vc ha2 gf"
      intro p1 H3 s3 n3 g3
      rw [show (0 : Int) + (r : Int) * 3 = ((3 * r : Nat) : Int) by omega, show ((3 * r : Nat) : Int) + 3 = ((3 * r + 3 : Nat) : Int) by omega, cut_sl] at g3
      have hsl : (sl ns (3 * r) (3 * r + 3)).length = min 3 (ns.length - 3 * r) := by rw [sl_len]; congr 1; omega
      refine ⟨p1, sl ns (3 * r) (3 * r + 3), rfl, g3, ⟨by omega, by omega⟩, sl_byt hB _ _, fun H4 p2 s4 n4 g4 => ?_⟩
      have gf4 := s4 _ _ (s3 _ _ gf)
      walk_at "vc gf4 g4"
      refine ⟨?_, same_upd2 (sm.trans (s3.trans s4)) n1, by rw [tF]⟩
      rw [hfl, fs_len (by omega)]
      exact Nat.le_trans (show 4 * r + 4 ≤ 10000 by omega) (by decide)
    · rintro σ H' ⟨av, rfl, sm, gf⟩
      walk_at "vc"
      refine q _ p0 sm n1 ?_
      unfold toB
      rw [show (ns.length + 2) / 3 = (ns.length + 3 - 1) / 3 by omega]
      exact gf
/-! ### the table -/
def tbT : Nat → List (Key × V)
  | 0 => []
  | i + 1 => putK (tbT i) (.inl (sgn (i : Int))) (.int (i : Int))
theorem putK_len (kvs : List (Key × V)) (k : Key) (v : V) : (putK kvs k v).length ≤ kvs.length + 1 := by
  unfold putK
  split
  · rw [List.length_map]; omega
  · rw [List.length_append]; exact Nat.le_refl _
theorem tbT_len : ∀ i, (tbT i).length ≤ i
  | 0 => Nat.le_refl _
  | i + 1 => by
    have := tbT_len i
    have := putK_len (tbT i) (.inl (sgn (i : Int))) (.int (i : Int))
    rw [tbT]
    omega
def tbl : List (Key × V) := putK (putK (tbT 64) (.inl 45) (.int 62)) (.inl 95) (.int 63)
def vI : V → Int
  | .int n => n
  | _ => -1
def sgv (c : Int) : Option Int := (valV tbl (.inl c)).map vI
def sp__sign_values (K : PySem.W.Frag) : Sp := fun vs H Q _ => vs = [] ∧ (∀ H' p, Same H H' → H p = none → H' p = some (.dK tbl) → Q (.ref p) H')
theorem ok__sign_values (T : Txt K mg) : FnOk P w K mg base CX0 1 T.f__sign_values T.fd__sign_values [] (sp__sign_values K) := by
  refine T.F__sign_values.ok sc__sign_values (fun vs H Q E h => ?_) (fun cdv A outer s H vs Q E hr h => ?_)
  · obtain ⟨rfl, _⟩ := h
    rfl
  · obtain ⟨rfl, q⟩ := h
    refine ⟨_, (pss_cons (ps_setDc (i := 0) (own := [("value", 1), ("sign", 2)]) (g := _) rfl sc__sign_values.nd rfl rfl (sw_trueD rfl rfl rfl (by decide +kernel)) (pi_enumS (by rfl) T.z_enumerate (pa_cons (pe_glob (v := .str "ABCDEFGHIJKLMNOPQRSTUVWXYZabcdefghijklmnopqrstuvwxyz0123456789+/") (by rfl) T.c__BASE64_SIGNS ⟨_, rfl⟩) pa_nil)) (blkOk_by (own := [("value", 1), ("sign", 2)]) (N := ["table", "value", "sign"]) (sc := defScope s__sign_values) (by decide +kernel)) (fun _ _ _ _ _ => (pg_tupS (n := 2) (by rfl) (pgs_cons (pg_name (i := 1) sc__sign_values.nd rfl (Or.inl rfl)) (pgs_cons (pg_name (i := 2) sc__sign_values.nd rfl (Or.inl rfl)) pgs_nil)))) (fun _ _ _ _ _ => pts_nil) (fun _ _ _ _ _ => (pe_callB call_ord (by rfl) T.z_ord (by decide +kernel) (pa_cons (pv 2) pa_nil))) (fun _ _ _ _ _ => (pv 1)))
      (pss_cons (ps_dput (hu_of hr) (pv 0) (pe_callB call_ord (by rfl) T.z_ord (by decide +kernel) (pa_cons pe_str pa_nil)) (pe_dget (hu_of hr) (pv 0) (pe_callB call_ord (by rfl) T.z_ord (by decide +kernel) (pa_cons pe_str pa_nil)) (fun _ _ => rfl)) rfl)
      (pss_cons (ps_dput (hu_of hr) (pv 0) (pe_callB call_ord (by rfl) T.z_ord (by decide +kernel) (pa_cons pe_str pa_nil)) (pe_dget (hu_of hr) (pv 0) (pe_callB call_ord (by rfl) T.z_ord (by decide +kernel) (pa_cons pe_str pa_nil)) (fun _ _ => rfl)) rfl)
      (pss_one (ps_ret (pv 0)))))), ?_⟩
    walk_at "vc"
    have c1 : (Str.ofString "+").length = 1 ∧ (((Str.ofString "+").cps.getD 0 0 : Nat) : Int) = 43 := by decide +kernel
    have c2 : (Str.ofString "-").length = 1 ∧ (((Str.ofString "-").cps.getD 0 0 : Nat) : Int) = 45 := by decide +kernel
    have c3 : (Str.ofString "/").length = 1 ∧ (((Str.ofString "/").cps.getD 0 0 : Nat) : Int) = 47 := by decide +kernel
    have c4 : (Str.ofString "_").length = 1 ∧ (((Str.ofString "_").cps.getD 0 0 : Nat) : Int) = 95 := by decide +kernel
    have v1 : valV (tbT 64) (.inl 43) = some (.int 62) := by decide +kernel
    have v2 : valV (putK (tbT 64) (.inl 45) (.int 62)) (.inl 47) = some (.int 63) := by decide +kernel
    have sz : b64S.cps.size = 64 := by decide +kernel
    refine dcW (walk_enumS (z := b64S)) (fun D i H' => Same H H' ∧ H' D = some (.dK (tbT i))) (fun D H' s n g => ⟨s, g⟩) (fun _ _ _ _ _ _ => True.intro) (fun D i x H1 H2 hi hD p y => ?_) (fun pD H1 hD p => ?_)
    · obtain ⟨T, c, rfl, nT, rfl, hc⟩ := y
      obtain ⟨s1, gD⟩ := p
      have sT := same_upd nT (o := .tup [.int (i : Int), .str ⟨#[c]⟩])
      have gT : upd H1 T (.tup [.int (i : Int), .str ⟨#[c]⟩]) T = some (.tup [.int (i : Int), .str ⟨#[c]⟩]) := upd_same
      have gD2 := sT _ _ gD
      have s2 := s1.trans sT
      generalize upd H1 T (.tup [.int (i : Int), .str ⟨#[c]⟩]) = H2 at gT gD2 s2 ⊢
      have ec : (c : Int) = sgn (i : Int) := by
        unfold sgn
        rw [Int.toNat_natCast, Array.getD_eq_getD_getElem?, hc]
        rfl
      have hl := tbT_len i
      walk_at "vc gT"
      refine ⟨rfl, tbT i, .inl (c : Int), rfl, gD2, Nat.lt_of_le_of_lt hl (Nat.lt_of_lt_of_le (show i < 65 by omega) (by decide)), same_upd2 s2 hD, ?_⟩
      rw [tbT, ec]
    · obtain ⟨s1, gD⟩ := p
      rw [sz] at gD
      have hl := tbT_len 64
      have l1 := putK_len (tbT 64) (.inl 45) (.int 62)
      have d1 : DGet H1 pD (.int 43) (some (.int 62)) := by rw [← v1]; exact DGet.k (k := .inl 43) gD
      have p1 : DPut H1 pD (.int 45) (.int 62) (upd H1 pD (.dK (putK (tbT 64) (.inl 45) (.int 62)))) := DPut.k (k := .inl 45) gD (Nat.lt_of_le_of_lt hl (by decide))
      have d2 : DGet (upd H1 pD (.dK (putK (tbT 64) (.inl 45) (.int 62)))) pD (.int 47) (some (.int 63)) := by rw [← v2]; exact DGet.k (k := .inl 47) upd_same
      have p2 : DPut (upd H1 pD (.dK (putK (tbT 64) (.inl 45) (.int 62)))) pD (.int 95) (.int 63) (upd (upd H1 pD (.dK (putK (tbT 64) (.inl 45) (.int 62)))) pD (.dK tbl)) := DPut.k (k := .inl 95) upd_same (Nat.lt_of_le_of_lt (Nat.le_trans l1 (Nat.succ_le_succ hl)) (by decide))
      refine ⟨c1.1, pD, rfl, _, by rw [c1.2]; exact d1, c2.1, pD, rfl, _, by rw [c2.2]; exact p1, c3.1, pD, rfl, _, by rw [c3.2]; exact d2, c4.1, pD, rfl, _, by rw [c4.2]; exact p2, ?_⟩
      exact q _ pD (same_upd2 (same_upd2 s1 hD) hD) hD upd_same
/-! ### reading -/
def cut61 (ns : List Int) : List Int := ns.takeWhile fun c => decide (c ≠ 61)
def vls (ns : List Int) : List Int := (cut61 ns).filterMap sgv
def gB (vs : List Int) : Nat → List Int
  | 0 => []
  | r + 1 => gB vs r ++ tb (sl vs (4 * r) (4 * r + 4))
def fromV (vs : List Int) : List Int := gB vs ((vs.length + 3) / 4)
def fbR (ns : List Int) (left : Int) : List Int := if left < ns.length then [] else fromV (vls ns)
def fbL (ns : List Int) (left : Int) : Int := if left < ns.length then 0 else left - ns.length
theorem tbl_ok : tbl.all (fun kv => match kv.1, kv.2 with
    | .inl c, .int v => decide (0 ≤ v ∧ v < 64 ∧ (c = sgn v ∨ (c = 45 ∧ v = 62) ∨ (c = 95 ∧ v = 63)))
    | _, _ => false) = true := by decide +kernel
theorem valV_mem {kvs : List (Key × V)} {k : Key} {v : V} (h : valV kvs k = some v) : (k, v) ∈ kvs := by
  unfold valV at h
  obtain ⟨kv, h1, rfl⟩ := Option.map_eq_some_iff.mp h
  have h2 := List.find?_some h1
  have e : kv.1 = k := of_decide_eq_true h2
  rw [← e]
  exact List.mem_of_find?_eq_some h1
theorem sgv_some {c : Int} {v : V} (h : valV tbl (.inl c) = some v) : ∃ n, v = .int n ∧ 0 ≤ n ∧ n < 64 ∧ (c = sgn n ∨ (c = 45 ∧ n = 62) ∨ (c = 95 ∧ n = 63)) ∧ sgv c = some n := by
  have hm := List.all_eq_true.mp tbl_ok _ (valV_mem h)
  cases v with
  | int n =>
    obtain ⟨h1, h2, h3⟩ := of_decide_eq_true hm
    exact ⟨n, rfl, h1, h2, h3, by unfold sgv; rw [h]; rfl⟩
  | _ => cases hm
theorem sgv_none {c : Int} (h : valV tbl (.inl c) = none) : sgv c = none := by unfold sgv; rw [h]; rfl
theorem vls_len (ns : List Int) : (vls ns).length ≤ ns.length := Nat.le_trans (List.length_filterMap_le _ _) ((List.takeWhile_sublist _).length_le)
theorem cut61_take {ns : List Int} {j : Nat} (h : ns[j]? = some 61) (hm : ∀ m, m < j → ns[m]? ≠ some 61) : ns.take j = cut61 ns := by
  induction ns generalizing j with
  | nil => cases h
  | cons c r ih =>
    unfold cut61
    cases j with
    | zero =>
      have e : c = 61 := by simpa using h
      rw [e, List.take_zero, List.takeWhile_cons]
      rfl
    | succ j =>
      have e : c ≠ 61 := fun e => hm 0 (by omega) (by rw [e]; rfl)
      rw [List.take_succ_cons, List.takeWhile_cons, decide_eq_true e]
      simp only [if_true]
      rw [ih (j := j) h fun m hm' => hm (m + 1) (by omega)]
      rfl
theorem cut61_all {ns : List Int} (h : 61 ∉ ns) : cut61 ns = ns := by
  induction ns with
  | nil => rfl
  | cons c r ih =>
    unfold cut61
    rw [List.takeWhile_cons, decide_eq_true (show c ≠ 61 from fun e => h (by rw [e]; exact List.mem_cons_self))]
    simp only [if_true]
    exact congrArg (c :: ·) (ih fun z => h (List.mem_cons_of_mem _ z))
theorem first61 {ns : List Int} (h : 61 ∈ ns) : ∃ j : Nat, ns[j]? = some 61 ∧ ∀ m : Nat, m < j → ns[m]? ≠ some 61 := by
  induction ns with
  | nil => cases h
  | cons c r ih =>
    by_cases e : c = 61
    · exact ⟨0, by rw [e]; rfl, fun m hm => absurd hm (Nat.not_lt_zero m)⟩
    · obtain ⟨j, h1, h2⟩ := ih ((List.mem_cons.mp h).resolve_left fun z => e z.symm)
      refine ⟨j + 1, h1, fun m hm => ?_⟩
      cases m with
      | zero => exact fun z => e (by simpa using z)
      | succ m => exact h2 m (Nat.lt_of_succ_lt_succ hm)
theorem gB_take (vs : List Int) (r : Nat) : (gB vs r).length ≤ 3 * r := by
  induction r with
  | zero => exact Nat.le_refl _
  | succ r ih =>
    rw [gB, List.length_append]
    have : (tb (sl vs (4 * r) (4 * r + 4))).length ≤ 3 := by unfold tb; rw [List.length_take]; exact Nat.min_le_right _ _
    omega
def sp_from_base64 (K : PySem.W.Frag) : Sp := fun vs H Q _ => ∃ (a : Addr) (ns : List Int) (left : Int), vs = [.ref a, .int left] ∧ (H a = some (.lst (List.map V.int ns))) ∧ (ns.length ≤ 1000) ∧ (∀ H' p f, Same H H' → H p = none → H f = none → H' p = some (.tup [.ref f, .int (fbL ns left)]) → H' f = some (.lst (List.map V.int (fbR ns left))) → Q (.ref p) H')
theorem ok_from_base64 (T : Txt K mg) : FnOk P w K mg base CX0 2 T.f_from_base64 T.fd_from_base64 ["data", "left"] (sp_from_base64 K) := by
  refine T.F_from_base64.ok sc_from_base64 (fun vs H Q E h => ?_) (fun cdv A outer s H vs Q E hr h => ?_)
  · obtain ⟨a, ns, left, rfl, _⟩ := h
    rfl
  · obtain ⟨a, ns, left, rfl, ha, hn, q⟩ := h
    refine ⟨_, (pss_cons (ps_asg (pe_call (ok_spend T) hr (by rfl) T.g_spend T.F_spend.kp T.b_spend .nil pass0 (pa_cons (pv 1) (pa_cons (pe_callB call_lenH (by rfl) T.z_len PySem.boot_len (pa_cons (pv 0) pa_nil)) pa_nil))) (pg_tupS (n := 2) (by rfl) (pgs_cons (pg_name (i := 1) sc_from_base64.nd rfl (Or.inl rfl)) (pgs_cons (pg_name (i := 2) sc_from_base64.nd rfl (Or.inl rfl)) pgs_nil))))
      (pss_cons (ps_if (pt_not (pt_val (pv 2))) (pss_one (ps_ret (pe_tupS (pa_cons (pe_lstS pa_nil) (pa_cons (pv 1) pa_nil))))) pss_nil)
      (pss_cons (ps_set (i := 3) sc_from_base64.nd rfl (Or.inl rfl) (pe_ifExp (pt_cmpR op_inI (pe_glob (v := .int 61) (by rfl) T.c__EQUALS_SIGN ⟨_, rfl⟩) (pv 0) (by rfl)) (pe_ml (pe_bm PySem.F.plainAttrs_list PySem.F.slot_list_index PySem.F.type_list_index mt_indexI (pe_mono (pv 0)) (pa_cons (pe_glob (v := .int 61) (by rfl) T.c__EQUALS_SIGN ⟨_, rfl⟩) pa_nil))) (pe_callB call_lenH (by rfl) T.z_len PySem.boot_len (pa_cons (pv 0) pa_nil))))
      (pss_cons (ps_set (i := 4) sc_from_base64.nd rfl (Or.inr rfl) (pe_call0 (ok__sign_values T) hr (by rfl) T.g__sign_values T.F__sign_values.kp T.b__sign_values .nil pass0))
      (pss_cons (ps_setLc (i := 5) (own := [("code", 6)]) (g := (gName 6)) rfl sc_from_base64.nd rfl rfl (sw_true rfl rfl rfl (by decide +kernel)) (pi_listS (pe_slice sl_listS (pv 0) po_none (po_some (pv 3)))) (blkOk_by (own := [("code", 6)]) (N := ["data", "left", "enough", "end", "table", "values", "code", "found", "at"]) (sc := defScope s_from_base64) (by decide +kernel)) (fun _ _ _ _ _ => (pg_name (i := 6) sc_from_base64.nd rfl (Or.inl rfl))) (fun _ _ _ _ _ => (pts_one (pt_cmp (pc_din (hu_of hr) (pv 6) (pv 4))))) (fun _ _ _ _ _ => (pe_dget (hu_of hr) (pv 4) (pv 6) (fun _ _ => rfl))))
      (pss_cons (ps_set (i := 7) sc_from_base64.nd rfl (Or.inl rfl) (pe_lstS pa_nil))
      (pss_cons (ps_for PassesOwn.never rfl (pi_range3 (by rfl) T.z_range (pa_cons pe_int (pa_cons (pe_callB call_lenH (by rfl) T.z_len PySem.boot_len (pa_cons (pv 5) pa_nil)) (pa_cons pe_int pa_nil)))) (pg_name (i := 8) sc_from_base64.nd rfl (Or.inl rfl)) (pss_one (ps_expr (pe_ml (pe_bm PySem.F.plainAttrs_list PySem.F.slot_list_extend PySem.F.type_list_extend mt_extend (pe_mono (pv 7)) (pa_cons (pe_call (ok__three_bytes T) hr (by rfl) T.g__three_bytes T.F__three_bytes.kp T.b__three_bytes .nil pass0 (pa_cons (pe_slice sl_listS (pv 5) (po_some (pv 8)) (po_some (pe_op op_add (pv 8) pe_int))) pa_nil)) pa_nil))))))
      (pss_one (ps_ret (pe_tupS (pa_cons (pv 7) (pa_cons (pv 1) pa_nil)))))))))))), ?_⟩
    walk_at "vc ha sp_spend"
    intro p1 H1 s1 n1 g1
    have ha1 := s1 _ _ ha
    walk_at "vc g1 ha1"
    rw [show spdB left (ns.length : Int) = !decide (left < (ns.length : Int)) by unfold spdB; rw [mx_nat], show spdL left (ns.length : Int) = fbL ns left by unfold spdL fbL; rw [mx_nat]]
    by_cases hz : left < (ns.length : Int)
    · rw [decide_eq_true hz]
      walk_at "vc"
      intro p2 H2 s2 n2 g2 p3 H3 s3 n3 g3
      refine q H3 p3 p2 ((s1.trans s2).trans s3) ((s1.trans s2).free n3) (s1.free n2) g3 ?_
      unfold fbR
      rw [if_pos hz]
      exact s3 _ _ g2
    rw [decide_eq_false hz]
    have q2 : ∀ H' p f, Same H H' → H p = none → H f = none → H' p = some (.tup [.ref f, .int (fbL ns left)]) → H' f = some (.lst (List.map V.int (fromV (vls ns)))) → Q (.ref p) H' := by
      unfold fbR at q
      rw [if_neg hz] at q
      exact q
    have hvl := vls_len ns
    walk_at "vc"
    refine iteP (fun z => ?_) (fun z => ?_)
    · obtain ⟨j, h1, h2⟩ := first61 z
      have e := cut61_take h1 h2
      refine ⟨j, h1, h2, ?_⟩
      refine ⟨rfl, fun H2 pT s2 n2 gT => ?_⟩
      have ha2 := s2 _ _ ha1
      refine ⟨_, ha2, fun p3 H3 s3 n3 g3 => ?_⟩
      rw [cutI_take, e] at g3
      refine ⟨⟨_, g3⟩, lcL (walkI (ns := cut61 ns)) (L := fun i => List.map V.int (((cut61 ns).take i).filterMap sgv)) rfl (fun _ s => s _ _ g3) (fun D i x H4 H5 hi hD s4 g4 y => ?_) (fun pV H4 s4 n4 g4 => ?_)⟩
      · obtain ⟨rfl, c, hc, rfl⟩ := y
        have gT4 := s4 _ _ (s3 _ _ gT)
        have hl4 : (((cut61 ns).take i).filterMap sgv).length < sizeLine := cnt_lt (by
          have h1 := List.length_filterMap_le sgv ((cut61 ns).take i)
          have h2 : (cut61 ns).length ≤ ns.length := (List.takeWhile_sublist _).length_le
          rw [List.length_take] at h1
          omega)
        rw [take_succ hc, List.filterMap_append]
        walk_at "vc"
        have d1 : DGet H5 pT (.int c) (valV tbl (.inl c)) := DGet.k (k := .inl c) gT4
        refine ⟨_, d1, ?_⟩
        cases hv : valV tbl (.inl c) with
        | none =>
          rw [show List.filterMap sgv [c] = [] by simp [sgv_none hv], List.append_nil]
          exact ⟨s4, g4⟩
        | some v =>
          obtain ⟨n, rfl, h0, h1, _, h2⟩ := sgv_some hv
          rw [show List.filterMap sgv [c] = [n] by simp [h2]]
          refine ⟨_, by rw [hv] at d1; exact d1, _, g4, by rw [List.length_map]; exact hl4, same_upd2 s4 hD, ?_⟩
          rw [List.map_append]
          rfl
      rw [List.take_length, show List.filterMap sgv (cut61 ns) = vls ns from rfl] at g4
      intro p5 H5 s5 n5 g5
      have g45 := s5 _ _ g4
      have s15 := ((s1.trans s2).trans (s3.trans s4)).trans s5
      walk_at "vc g45"
      refine ⟨((vls ns).length + 4 - 1) / 4, by exact rg_gen (c := 4) (by omega) (by decide) (by decide), ?_⟩
      generalize vls ns = vs at hvl g45 q2 ⊢
      refine lpW (walk_rangeC (lo := 0) (c := 4) (n := (vs.length + 4 - 1) / 4)) (fun r σ H' => ∃ av : Option V, σ = [some (.ref a), some (.int (fbL ns left)), some (.bl true), some (.int (j : Int)), some (.ref pT), some (.ref pV), none, some (.ref p5), av] ∧ Same H H' ∧ H' pV = some (.lst (List.map V.int vs)) ∧ H' p5 = some (.lst (List.map V.int (gB vs r)))) ⟨_, rfl, s15, g45, g5⟩ (fun _ _ _ _ _ => True.intro) ?_ ?_
      · rintro r x σ H' H6 hr' ⟨av, rfl, sm, gV, gf⟩ ⟨rfl, rfl⟩
        have hlt := rg_lt (c := 4) (by decide) hr'
        have hfl := gB_take vs r
        have nf : p5 ≠ pV := fun z => by rw [z] at n5; rw [g4] at n5; cases n5
        walk_at "vc gV gf"
        intro p7 H7 s7 n7 g7
        rw [show (0 : Int) + (r : Int) * 4 = ((4 * r : Nat) : Int) by omega, show ((4 * r : Nat) : Int) + 4 = ((4 * r + 4 : Nat) : Int) by omega, cut_sl] at g7
        have hsl : (sl vs (4 * r) (4 * r + 4)).length = min 4 (vs.length - 4 * r) := by rw [sl_len]; congr 1; omega
        refine ⟨p7, sl vs (4 * r) (4 * r + 4), rfl, g7, ⟨by omega, by omega⟩, fun H8 p8 s8 n8 g8 => ?_⟩
        have gf8 := s8 _ _ (s7 _ _ gf)
        have gV8 := s8 _ _ (s7 _ _ gV)
        walk_at "vc gf8 g8"
        refine ⟨?_, same_upd2 (sm.trans (s7.trans s8)) ((s1.trans s2).trans (s3.trans s4) |>.free n5), by rw [upd_ne nf.symm]; exact gV8, by rw [gB]⟩
        have : (tb (sl vs (4 * r) (4 * r + 4))).length ≤ 3 := by unfold tb; rw [List.length_take]; exact Nat.min_le_right _ _
        exact Nat.le_trans (show (gB vs r).length + (tb (sl vs (4 * r) (4 * r + 4))).length ≤ 10000 by omega) (by decide)
      · rintro σ H' ⟨av, rfl, sm, gV, gf⟩
        walk_at "vc"
        intro p9 H9 s9 n9 g9
        refine q2 H9 p9 p5 (sm.trans s9) (sm.free n9) (((s1.trans s2).trans (s3.trans s4)).free n5) g9 ?_
        unfold fromV
        rw [show (vs.length + 3) / 4 = (vs.length + 4 - 1) / 4 by omega]
        exact s9 _ _ gf
    · have e : ns.take ns.length = cut61 ns := by rw [List.take_length, cut61_all z]
      refine ⟨rfl, fun H2 pT s2 n2 gT => ?_⟩
      have ha2 := s2 _ _ ha1
      refine ⟨_, ha2, fun p3 H3 s3 n3 g3 => ?_⟩
      rw [cutI_take, e] at g3
      refine ⟨⟨_, g3⟩, lcL (walkI (ns := cut61 ns)) (L := fun i => List.map V.int (((cut61 ns).take i).filterMap sgv)) rfl (fun _ s => s _ _ g3) (fun D i x H4 H5 hi hD s4 g4 y => ?_) (fun pV H4 s4 n4 g4 => ?_)⟩
      · obtain ⟨rfl, c, hc, rfl⟩ := y
        have gT4 := s4 _ _ (s3 _ _ gT)
        have hl4 : (((cut61 ns).take i).filterMap sgv).length < sizeLine := cnt_lt (by
          have h1 := List.length_filterMap_le sgv ((cut61 ns).take i)
          have h2 : (cut61 ns).length ≤ ns.length := (List.takeWhile_sublist _).length_le
          rw [List.length_take] at h1
          omega)
        rw [take_succ hc, List.filterMap_append]
        walk_at "vc"
        have d1 : DGet H5 pT (.int c) (valV tbl (.inl c)) := DGet.k (k := .inl c) gT4
        refine ⟨_, d1, ?_⟩
        cases hv : valV tbl (.inl c) with
        | none =>
          rw [show List.filterMap sgv [c] = [] by simp [sgv_none hv], List.append_nil]
          exact ⟨s4, g4⟩
        | some v =>
          obtain ⟨n, rfl, h0, h1, _, h2⟩ := sgv_some hv
          rw [show List.filterMap sgv [c] = [n] by simp [h2]]
          refine ⟨_, by rw [hv] at d1; exact d1, _, g4, by rw [List.length_map]; exact hl4, same_upd2 s4 hD, ?_⟩
          rw [List.map_append]
          rfl
      rw [List.take_length, show List.filterMap sgv (cut61 ns) = vls ns from rfl] at g4
      intro p5 H5 s5 n5 g5
      have g45 := s5 _ _ g4
      have s15 := ((s1.trans s2).trans (s3.trans s4)).trans s5
      walk_at "vc g45"
      refine ⟨((vls ns).length + 4 - 1) / 4, by exact rg_gen (c := 4) (by omega) (by decide) (by decide), ?_⟩
      generalize vls ns = vs at hvl g45 q2 ⊢
      refine lpW (walk_rangeC (lo := 0) (c := 4) (n := (vs.length + 4 - 1) / 4)) (fun r σ H' => ∃ av : Option V, σ = [some (.ref a), some (.int (fbL ns left)), some (.bl true), some (.int (ns.length : Int)), some (.ref pT), some (.ref pV), none, some (.ref p5), av] ∧ Same H H' ∧ H' pV = some (.lst (List.map V.int vs)) ∧ H' p5 = some (.lst (List.map V.int (gB vs r)))) ⟨_, rfl, s15, g45, g5⟩ (fun _ _ _ _ _ => True.intro) ?_ ?_
      · rintro r x σ H' H6 hr' ⟨av, rfl, sm, gV, gf⟩ ⟨rfl, rfl⟩
        have hlt := rg_lt (c := 4) (by decide) hr'
        have hfl := gB_take vs r
        have nf : p5 ≠ pV := fun z => by rw [z] at n5; rw [g4] at n5; cases n5
        walk_at "vc gV gf"
        intro p7 H7 s7 n7 g7
        rw [show (0 : Int) + (r : Int) * 4 = ((4 * r : Nat) : Int) by omega, show ((4 * r : Nat) : Int) + 4 = ((4 * r + 4 : Nat) : Int) by omega, cut_sl] at g7
        have hsl : (sl vs (4 * r) (4 * r + 4)).length = min 4 (vs.length - 4 * r) := by rw [sl_len]; congr 1; omega
        refine ⟨p7, sl vs (4 * r) (4 * r + 4), rfl, g7, ⟨by omega, by omega⟩, fun H8 p8 s8 n8 g8 => ?_⟩
        have gf8 := s8 _ _ (s7 _ _ gf)
        have gV8 := s8 _ _ (s7 _ _ gV)
        walk_at "vc gf8 g8"
        refine ⟨?_, same_upd2 (sm.trans (s7.trans s8)) ((s1.trans s2).trans (s3.trans s4) |>.free n5), by rw [upd_ne nf.symm]; exact gV8, by rw [gB]⟩
        have : (tb (sl vs (4 * r) (4 * r + 4))).length ≤ 3 := by unfold tb; rw [List.length_take]; exact Nat.min_le_right _ _
        exact Nat.le_trans (show (gB vs r).length + (tb (sl vs (4 * r) (4 * r + 4))).length ≤ 10000 by omega) (by decide)
      · rintro σ H' ⟨av, rfl, sm, gV, gf⟩
        walk_at "vc"
        intro p9 H9 s9 n9 g9
        refine q2 H9 p9 p5 (sm.trans s9) (sm.free n9) (((s1.trans s2).trans (s3.trans s4)).free n5) g9 ?_
        unfold fromV
        rw [show (vs.length + 3) / 4 = (vs.length + 4 - 1) / 4 by omega]
        exact s9 _ _ gf

def sp__law_cell (K : PySem.W.Frag) (a : Addr) (ns : List Int) : Sp := fun vs H Q _ => ∃ (k : Int), vs = [.ref a, .int k] ∧ (0 ≤ k) ∧ (SqL K H a (List.map V.int ns)) ∧ (Q (.int (cellA ns k.toNat)) H)
theorem ok__law_cell (T : Txt K mg) (a : Addr) (ns : List Int) : FnOk P w K mg base CX0 1 T.f__law_cell T.fd__law_cell ["script", "k"] (sp__law_cell K a ns) := by
  refine T.F__law_cell.ok sc__law_cell (fun vs H Q E h => ?_) (fun cdv A outer s H vs Q E hr h => ?_)
  · obtain ⟨k, rfl, _⟩ := h
    rfl
  · obtain ⟨k, rfl, hk0, hS, q⟩ := h
    refine ⟨_, (pss_cons (ps_if (pt_cmpR op_lt (pv 1) (pe_callB call_len_seq (by rfl) T.z_len PySem.boot_len (pa_cons (pv 0) pa_nil)) (nomark _)) (pss_one (ps_ret (pe_callTy call_int1 (by rfl) T.z_int (by decide +kernel) (pa_cons (pe_ix ix_list (pv 0) (pv 1) (fun _ _ => rfl)) pa_nil)))) pss_nil)
      (pss_one (ps_ret pe_int))), ?_⟩
    obtain ⟨k, rfl⟩ := natOf hk0
    rw [Int.toNat_natCast] at q
    refine ⟨_, rfl, _, rfl, a, _, rfl, .inl hS, _, _, rfl, rfl, _, rfl, ite2 (fun e => ?_) (fun e => ?_)⟩
    · have e1 := of_decide_eq_true e
      rw [List.length_map] at e1
      have hk : k < ns.length := by omega
      refine ⟨_, rfl, _, rfl, a, _, _, .int (cellA ns k), rfl, rfl, hS, ?_, .inl ⟨_, rfl, q⟩⟩
      refine atI_nat ?_
      rw [List.getElem?_map, List.getElem?_eq_getElem hk]
      simp [cellA, hk]
    · have e1 : ¬ ((k : Int) < ((ns.map V.int).length : Int)) := fun z => e (decide_eq_true z)
      rw [List.length_map] at e1
      have hk : ns.length ≤ k := by omega
      have e0 : cellA ns k = 0 := by simp [cellA, hk]
      rw [e0] at q
      exact q

def tw (c k : Int) : Int :=
  let x := (c * 48271 + k * 69621 + 7) % 2147483647
  let y := (x * x + k * 40692 + 3) % 2147483629
  let z := (y * y + k * 30269 + 5) % 2147483587
  z / 64
theorem tw_nn (c k : Int) : 0 ≤ tw c k := by
  unfold tw
  exact Int.ediv_nonneg (Int.emod_nonneg _ (by decide)) (by decide)
theorem tw_lt (c k : Int) : tw c k < 33554432 := by
  unfold tw
  have := Int.emod_lt_of_pos ((((c * 48271 + k * 69621 + 7) % 2147483647 * ((c * 48271 + k * 69621 + 7) % 2147483647) + k * 40692 + 3) % 2147483629) * (((c * 48271 + k * 69621 + 7) % 2147483647 * ((c * 48271 + k * 69621 + 7) % 2147483647) + k * 40692 + 3) % 2147483629) + k * 30269 + 5) (show (0 : Int) < 2147483587 by decide)
  simp only
  omega
def sp__law_twice (K : PySem.W.Frag) : Sp := fun vs H Q _ => ∃ (c k : Int), vs = [.int c, .int k] ∧ (Q (.int (tw c k)) H)
theorem ok__law_twice (T : Txt K mg) : FnOk P w K mg base CX0 1 T.f__law_twice T.fd__law_twice ["cell", "k"] (sp__law_twice K) := by
  refine T.F__law_twice.ok sc__law_twice (fun vs H Q E h => ?_) (fun cdv A outer s H vs Q E hr h => ?_)
  · obtain ⟨c, k, rfl, _⟩ := h
    rfl
  · obtain ⟨c, k, rfl, q⟩ := h
    refine ⟨_, (pss_cons (ps_set (i := 2) sc__law_twice.nd rfl (Or.inl rfl) (pe_op op_mod (pe_callTy call_int1 (by rfl) T.z_int (by decide +kernel) (pa_cons (pe_op op_add (pe_op op_add (pe_op op_mul (pv 0) pe_int) (pe_op op_mul (pv 1) pe_int)) pe_int) pa_nil)) pe_int))
      (pss_cons (ps_set (i := 2) sc__law_twice.nd rfl (Or.inl rfl) (pe_op op_mod (pe_callTy call_int1 (by rfl) T.z_int (by decide +kernel) (pa_cons (pe_op op_add (pe_op op_add (pe_op op_mul (pv 2) (pv 2)) (pe_op op_mul (pv 1) pe_int)) pe_int) pa_nil)) pe_int))
      (pss_cons (ps_set (i := 2) sc__law_twice.nd rfl (Or.inl rfl) (pe_op op_mod (pe_callTy call_int1 (by rfl) T.z_int (by decide +kernel) (pa_cons (pe_op op_add (pe_op op_add (pe_op op_mul (pv 2) (pv 2)) (pe_op op_mul (pv 1) pe_int)) pe_int) pa_nil)) pe_int))
      (pss_one (ps_ret (pe_op op_fdiv (pv 2) pe_int)))))), ?_⟩
    walk_at "vc"
    have b1 := mod_in (c * 48271 + k * 69621 + 7) (show (0 : Int) < 2147483647 by decide)
    have b2 := mod_in ((c * 48271 + k * 69621 + 7) % 2147483647 * ((c * 48271 + k * 69621 + 7) % 2147483647) + k * 40692 + 3) (show (0 : Int) < 2147483629 by decide)
    exact ⟨.inl ⟨by omega, by omega⟩, .inl ⟨by omega, by omega⟩, q⟩

/-- the law's drawn bytes, turn by turn: what is left of the cell, the bytes so far -/
def byR (c : Int) : Nat → Int × List Int
  | 0 => (absI c, [])
  | i + 1 => if 1000000000000000000 ≤ absI c ∧ 0 < (byR c i).1 then ((byR c i).1 / 256, (byR c i).2 ++ [(byR c i).1 % 256])
      else ((byR c i).1, (byR c i).2 ++ [tw c i % 256])
def byL (c : Int) (n : Nat) : List Int := (byR c n).2
theorem byL_len (c : Int) : ∀ n, (byL c n).length = n
  | 0 => rfl
  | n + 1 => by
    have ih := byL_len c n
    unfold byL at ih ⊢
    unfold byR
    split <;> simp [ih]
theorem byL_mem (c : Int) : ∀ n, ∀ b ∈ byL c n, 0 ≤ b ∧ b < 256
  | 0 => by intro b h; cases h
  | n + 1 => by
    have ih := byL_mem c n
    intro b h
    unfold byL at ih h
    unfold byR at h
    split at h
    all_goals
      rcases List.mem_append.mp h with h | h
      · exact ih b h
      · simp at h; omega
def sp__law_bytes (K : PySem.W.Frag) : Sp := fun vs H Q _ => ∃ (c : Int) (n : Int), vs = [.int c, .int n] ∧ (0 ≤ n ∧ n ≤ 100000) ∧ (∀ H' p, Same H H' → H p = none → H' p = some (.lst (List.map V.int (byL c n.toNat))) → Q (.ref p) H')
theorem ok__law_bytes (T : Txt K mg) : FnOk P w K mg base CX0 2 T.f__law_bytes T.fd__law_bytes ["cell", "size"] (sp__law_bytes K) := by
  refine T.F__law_bytes.ok sc__law_bytes (fun vs H Q E h => ?_) (fun cdv A outer s H vs Q E hr h => ?_)
  · obtain ⟨c, n, rfl, _⟩ := h
    rfl
  · obtain ⟨c, n, rfl, hn, q⟩ := h
    refine ⟨_, (pss_cons (ps_set (i := 2) sc__law_bytes.nd rfl (Or.inl rfl) (pe_callB call_abs (by rfl) T.z_abs (by decide +kernel) (pa_cons (pe_callTy call_int1 (by rfl) T.z_int (by decide +kernel) (pa_cons (pv 0) pa_nil)) pa_nil)))
      (pss_cons (ps_set (i := 3) sc__law_bytes.nd rfl (Or.inl rfl) (pe_cmpR op_ge (pv 2) (pe_op op_pow pe_int pe_int) (nomark _)))
      (pss_cons (ps_set (i := 4) sc__law_bytes.nd rfl (Or.inl rfl) (pe_lstS pa_nil))
      (pss_cons (ps_for PassesOwn.never rfl (pi_range1 (by rfl) T.z_range (pa_cons (pv 1) pa_nil)) (pg_name (i := 5) sc__law_bytes.nd rfl (Or.inl rfl)) (pss_one (ps_if (PW.pt (pw_and (pt_val (pv 3)) (pw_and1 (pt_cmpR op_gt (pv 2) pe_int (nomark _))))) (pss_cons (ps_expr (pe_ml (pe_bm PySem.F.plainAttrs_list PySem.F.slot_list_append PySem.F.type_list_append mt_append (pe_mono (pv 4)) (pa_cons (pe_op op_mod (pe_callTy call_int1 (by rfl) T.z_int (by decide +kernel) (pa_cons (pv 2) pa_nil)) pe_int) pa_nil))))
      (pss_one (ps_set (i := 2) sc__law_bytes.nd rfl (Or.inl rfl) (pe_op op_fdiv (pv 2) pe_int)))) (pss_one (ps_expr (pe_ml (pe_bm PySem.F.plainAttrs_list PySem.F.slot_list_append PySem.F.type_list_append mt_append (pe_mono (pv 4)) (pa_cons (pe_op op_mod (pe_callTy call_int1 (by rfl) T.z_int (by decide +kernel) (pa_cons (pe_call (ok__law_twice T) hr (by rfl) T.g__law_twice T.F__law_twice.kp T.b__law_twice .nil pass0 (pa_cons (pv 0) (pa_cons (pv 5) pa_nil))) pa_nil)) pe_int) pa_nil))))))))
      (pss_one (ps_ret (pv 4))))))), ?_⟩
    obtain ⟨n, rfl⟩ := natOf hn.1
    rw [Int.toNat_natCast] at q
    walk_at "vc"
    refine ⟨⟨by decide, by decide, by decide⟩, ?_⟩
    intro p H1 s1 n1 g1
    refine ⟨by omega, by omega, lpW (walkR (n := n)) (fun i σ H' => ∃ kv : Option V, σ = [some (.int c), some (.int (n : Int)), some (.int (byR c i).1), some (.bl (decide (1000000000000000000 ≤ absI c))), some (.ref p), kv] ∧ Same H H' ∧ H' p = some (.lst (List.map V.int (byR c i).2))) ⟨_, rfl, s1, g1⟩ (fun _ _ _ _ _ => True.intro) ?_ ?_⟩
    · rintro i x σ H' H2 hi ⟨kv, rfl, sm, g⟩ ⟨rfl, rfl⟩
      have hl : (byR c i).2.length = i := byL_len c i
      have hz : (byR c i).2.length < sizeLine := cnt_lt (by omega)
      simp only [byR]
      walk_at "vc g sp__law_twice"
      by_cases h1 : 1000000000000000000 ≤ absI c
      · by_cases h2 : 0 < (byR c i).1
        · simp only [h1, h2, and_self, if_true, true_and, and_true]
          exact ⟨hz, same_upd2 sm n1⟩
        · simp only [h1, h2, and_false, if_true, if_false, true_and, and_true]
          exact ⟨hz, same_upd2 sm n1⟩
      · simp only [h1, false_and, if_false, true_and, and_true]
        exact ⟨hz, same_upd2 sm n1⟩
    · rintro σ H' ⟨kv, rfl, sm, g⟩
      walk_at "vc"
      exact q H' p sm n1 g
def sp__law_integer (K : PySem.W.Frag) : Sp := fun vs H Q _ => ∃ (i : Int), vs = [.int i] ∧ (Q (.bl true) H)
theorem ok__law_integer (T : Txt K mg) : FnOk P w K mg base CX0 1 T.f__law_integer T.fd__law_integer ["value"] (sp__law_integer K) := by
  refine T.F__law_integer.ok sc__law_integer (fun vs H Q E h => ?_) (fun cdv A outer s H vs Q E hr h => ?_)
  · obtain ⟨i, rfl, _⟩ := h
    rfl
  · obtain ⟨i, rfl, q⟩ := h
    refine ⟨_, (pss_one (ps_ret (pe_and (pe_callB call_isiB (by rfl) T.z_isinstance (by decide +kernel) (pa_cons (pv 0) (pa_cons (pe_bltn (v := .ty "int") (u := .type "int") (by rfl) T.z_int (by decide +kernel) rfl) pa_nil))) (pe_one (pe_not (pe_callB call_isiB (by rfl) T.z_isinstance (by decide +kernel) (pa_cons (pv 0) (pa_cons (pe_bltn (v := .ty "bool") (u := .type "bool") (by rfl) T.z_bool (by decide +kernel) rfl) pa_nil)))))))), ?_⟩
    walk_at "vc"
    exact q
def sp__law_is_list (K : PySem.W.Frag) : Sp := fun vs H Q _ => ∃ (p b : Addr) (ns : List Int), vs = [.ref p, .ref b] ∧ (H p = some (.lst (List.map V.int ns))) ∧ (H b = some (.lst (List.map V.int ns))) ∧ (∀ H', Same H H' → Q (.bl true) H')
theorem ok__law_is_list (T : Txt K mg) : FnOk P w K mg base CX0 2 T.f__law_is_list T.fd__law_is_list ["found", "due"] (sp__law_is_list K) := by
  refine T.F__law_is_list.ok sc__law_is_list (fun vs H Q E h => ?_) (fun cdv A outer s H vs Q E hr h => ?_)
  · obtain ⟨p, b, ns, rfl, _⟩ := h
    rfl
  · obtain ⟨p, b, ns, rfl, hp, hb, q⟩ := h
    refine ⟨_, (pss_cons (ps_if (PW.pt (pw_or (pt_not (pt_val (pe_callB call_isiB (by rfl) T.z_isinstance (by decide +kernel) (pa_cons (pv 0) (pa_cons (pe_bltn (v := .ty "list") (u := .type "list") (by rfl) T.z_list (by decide +kernel) rfl) pa_nil))))) (pw_or1 (pt_cmpR op_ne (pe_callB call_lenH (by rfl) T.z_len PySem.boot_len (pa_cons (pv 0) pa_nil)) (pe_callB call_lenH (by rfl) T.z_len PySem.boot_len (pa_cons (pv 1) pa_nil)) (nomark _))))) (pss_one (ps_ret pe_bl)) pss_nil)
      (pss_cons (ps_for PassesOwn.never rfl (pi_zipS (by rfl) T.z_zip (pa_cons (pv 0) (pa_cons (pv 1) pa_nil))) (pg_tupS (n := 2) (by rfl) (pgs_cons (pg_name (i := 2) sc__law_is_list.nd rfl (Or.inl rfl)) (pgs_cons (pg_name (i := 3) sc__law_is_list.nd rfl (Or.inl rfl)) pgs_nil))) (pss_one (ps_if (PW.pt (pw_or (pt_not (pt_val (pe_call (ok__law_integer T) hr (by rfl) T.g__law_integer T.F__law_integer.kp T.b__law_integer .nil pass0 (pa_cons (pv 2) pa_nil)))) (pw_or1 (pt_cmpR op_ne (pv 2) (pv 3) (nomark _))))) (pss_one (ps_ret pe_bl)) pss_nil)))
      (pss_one (ps_ret pe_bl)))), ?_⟩
    walk_at "vc hp hb"
    refine lpW (walkZ (xs := List.map V.int ns) (ys := List.map V.int ns) (n := ns.length) (by rw [List.length_map, Nat.min_self])) (fun i σ H' => ∃ ov uv : Option V, σ = [some (.ref p), some (.ref b), ov, uv] ∧ Same H H') ⟨_, _, rfl, Same.refl _⟩ ?_ ?_ ?_
    · rintro i σ H' _ ⟨_, _, _, sm⟩
      exact ⟨sm _ _ hp, sm _ _ hb⟩
    · rintro i x σ H' H2 hi ⟨ov, uv, rfl, sm⟩ ⟨T, x1, x2, rfl, nT, rfl, hx1, hx2⟩
      have e : x1 = x2 := Option.some.inj (hx1.symm.trans hx2)
      subst e
      have hx1 : (List.map V.int ns)[i]? = some x1 := hx1
      rw [List.getElem?_map] at hx1
      obtain ⟨u, hu, rfl⟩ := Option.map_eq_some_iff.mp hx1
      have gT : upd H' T (.tup [.int u, .int u]) T = some (.tup [.int u, .int u]) := upd_same
      have s2 := sm.trans (same_upd nT (o := .tup [.int u, .int u]))
      generalize upd H' T (.tup [.int u, .int u]) = H2 at gT s2 ⊢
      walk_at "vc gT sp__law_integer"
      exact s2
    · rintro σ H' ⟨ov, uv, rfl, sm⟩
      walk_at "vc"
      exact q H' sm

def sp__law_signs (K : PySem.W.Frag) : Sp := fun vs H Q _ => vs = [] ∧ (Q (.str b64S) H)
theorem ok__law_signs (T : Txt K mg) : FnOk P w K mg base CX0 1 T.f__law_signs T.fd__law_signs [] (sp__law_signs K) := by
  refine T.F__law_signs.ok sc__law_signs (fun vs H Q E h => ?_) (fun cdv A outer s H vs Q E hr h => ?_)
  · obtain ⟨rfl, _⟩ := h
    rfl
  · obtain ⟨rfl, q⟩ := h
    refine ⟨_, (pss_one (ps_ret pe_str)), ?_⟩
    walk_at "vc"
    exact q
def lv (c : Int) : Int := match sgv c with | some v => v | none => -1
theorem sgn_code : ∀ d : _root_.Fin 64, sgv (sgn ((d : Nat) : Int)) = some ((d : Nat) : Int) := by decide +kernel
theorem sgn_code' {v : Int} (h0 : 0 ≤ v) (h1 : v < 64) : sgv (sgn v) = some v := by
  have := sgn_code ⟨v.toNat, by omega⟩
  rw [show (((⟨v.toNat, by omega⟩ : _root_.Fin 64) : Nat) : Int) = v by show ((v.toNat : Nat) : Int) = v; omega] at this
  exact this
def sp__law_value (K : PySem.W.Frag) : Sp := fun vs H Q _ => ∃ (c : Int), vs = [.int c] ∧ (Q (.int (lv c)) H)
theorem ok__law_value (T : Txt K mg) : FnOk P w K mg base CX0 2 T.f__law_value T.fd__law_value ["code"] (sp__law_value K) := by
  refine T.F__law_value.ok sc__law_value (fun vs H Q E h => ?_) (fun cdv A outer s H vs Q E hr h => ?_)
  · obtain ⟨c, rfl, _⟩ := h
    rfl
  · obtain ⟨c, rfl, q⟩ := h
    refine ⟨_, (pss_cons (ps_if (pt_cmpR op_eq (pv 0) pe_int (nomark _)) (pss_one (ps_ret pe_int)) pss_nil)
      (pss_cons (ps_if (pt_cmpR op_eq (pv 0) pe_int (nomark _)) (pss_one (ps_ret pe_int)) pss_nil)
      (pss_cons (ps_set (i := 1) sc__law_value.nd rfl (Or.inl rfl) (pe_call0 (ok__law_signs T) hr (by rfl) T.g__law_signs T.F__law_signs.kp T.b__law_signs .nil pass0))
      (pss_cons (ps_for PassesOwn.never rfl (pi_range1 (by rfl) T.z_range (pa_cons pe_int pa_nil)) (pg_name (i := 2) sc__law_value.nd rfl (Or.inl rfl)) (pss_one (ps_if (pt_cmpR op_eq (pv 0) (pe_callB call_ord (by rfl) T.z_ord (by decide +kernel) (pa_cons (pe_ix ix_str (pv 1) (pv 2) (fun _ _ => rfl)) pa_nil)) (nomark _)) (pss_one (ps_ret (pv 2))) pss_nil)))
      (pss_one (ps_ret (pe_un un_neg pe_int))))))), ?_⟩
    walk_at "vc sp__law_signs"
    have e45 : lv 45 = 62 := by decide +kernel
    have e95 : lv 95 = 63 := by decide +kernel
    refine iteP (fun z => by rw [z, e45] at q; exact q) fun z1 => iteP (fun z => by rw [z, e95] at q; exact q) fun z2 => ?_
    refine lpW (walkR (n := 64)) (fun i σ H' => ∃ vv : Option V, σ = [some (.int c), some (.str b64S), vv] ∧ H' = H ∧ ∀ k, k < i → c ≠ sgn ((k : Nat) : Int)) ⟨_, rfl, rfl, fun k hk => absurd hk (Nat.not_lt_zero k)⟩ (fun _ _ _ _ _ => True.intro) ?_ ?_
    · rintro i x σ H' H2 hi ⟨vv, rfl, rfl, hno⟩ ⟨rfl, rfl⟩
      obtain ⟨d, d1, d2⟩ := sgn_at' (v := (i : Int)) (by omega) (by omega)
      walk_at "vc b64_len"
      refine ⟨d, d1, rfl, ?_⟩
      show if c = (d : Int) then _ else _
      rw [d2]
      refine iteP (fun z => ?_) (fun z => fun k hk => ?_)
      · have : lv c = (i : Int) := by unfold lv; rw [z, sgn_code' (by omega) (by omega)]
        rw [this] at q
        exact q
      · rcases Nat.lt_succ_iff_lt_or_eq.mp hk with h | h
        · exact hno k h
        · rw [h]; exact z
    · rintro σ H' ⟨vv, rfl, rfl, hno⟩
      walk_at "vc"
      have : lv c = -1 := by
        unfold lv
        cases e : valV tbl (.inl c) with
        | none => rw [sgv_none e]
        | some v =>
          obtain ⟨n, _, h0, h1, h2, _⟩ := sgv_some e
          rcases h2 with h | ⟨h, _⟩ | ⟨h, _⟩
          · exact absurd (by rw [Int.toNat_of_nonneg h0]; exact h) (hno n.toNat (by omega))
          · exact absurd h z1
          · exact absurd h z2
      rw [this] at q
      exact q
def bits6 (v : Int) : List Int := [v / 32 % 2, v / 16 % 2, v / 8 % 2, v / 4 % 2, v / 2 % 2, v % 2]
def bitsOf (vs : List Int) : List Int := vs.flatMap bits6
def num (l : List Int) : Int := l.foldl (fun n b => 2 * n + b) 0
def nums (l : List Int) : List Int := (List.range (l.length / 8)).map fun k => num (sl l (8 * k) (8 * k + 8))
theorem bitsOf_len (vs : List Int) : (bitsOf vs).length = 6 * vs.length := by
  induction vs with
  | nil => rfl
  | cons v r ih =>
    show (bits6 v ++ bitsOf r).length = _
    rw [List.length_append, ih, List.length_cons]
    show 6 + _ = _
    omega
def vlsN (ns : List Int) : List Int := ns.filterMap sgv
def sp__law_due (K : PySem.W.Frag) : Sp := fun vs H Q _ => ∃ (a : Addr) (ns : List Int) (left : Int), vs = [.ref a, .int left] ∧ (H a = some (.lst (List.map V.int ns))) ∧ (ns.length ≤ 1000) ∧ (∀ H' p f, Same H H' → H p = none → H f = none → H' p = some (.tup [.ref f, .int (fbL ns left)]) → H' f = some (.lst (List.map V.int (if left < (ns.length : Int) then [] else nums (bitsOf (vls ns))))) → Q (.ref p) H')
theorem ok__law_due (T : Txt K mg) : FnOk P w K mg base CX0 3 T.f__law_due T.fd__law_due ["data", "left"] (sp__law_due K) := by
  refine T.F__law_due.ok sc__law_due (fun vs H Q E h => ?_) (fun cdv A outer s H vs Q E hr h => ?_)
  · obtain ⟨a, ns, left, rfl, _⟩ := h
    rfl
  · obtain ⟨a, ns, left, rfl, ha, hn, q⟩ := h
    refine ⟨_, (pss_cons (ps_if (pt_cmpR op_gt (pe_callB call_lenH (by rfl) T.z_len PySem.boot_len (pa_cons (pv 0) pa_nil)) (pv 1) (nomark _)) (pss_one (ps_ret (pe_tupS (pa_cons (pe_lstS pa_nil) (pa_cons pe_int pa_nil))))) pss_nil)
      (pss_cons (ps_set (i := 2) sc__law_due.nd rfl (Or.inl rfl) (pe_lstS pa_nil))
      (pss_cons (ps_for PassesOwn.never rfl (pi_listS (pv 0)) (pg_name (i := 3) sc__law_due.nd rfl (Or.inl rfl)) (pss_cons (ps_if (pt_cmpR op_eq (pv 3) pe_int (nomark _)) (pss_one ps_break) pss_nil)
      (pss_cons (ps_set (i := 4) sc__law_due.nd rfl (Or.inr rfl) (pe_call (ok__law_value T) hr (by rfl) T.g__law_value T.F__law_value.kp T.b__law_value .nil pass0 (pa_cons (pv 3) pa_nil)))
      (pss_one (ps_if (pt_cmpR op_ge (pv 4) pe_int (nomark _)) (pss_one (ps_set (i := 2) sc__law_due.nd rfl (Or.inl rfl) (pe_op op_catS (pv 2) (pe_lc (own := [("at", 5)]) (g := (gName 5)) rfl sc__law_due.nd (pi_range1 (by rfl) T.z_range (pa_cons pe_int pa_nil)) (blkOk_by (own := [("at", 5)]) (N := ["data", "left", "bits", "code", "value", "at", "found", "k", "number", "bit"]) (sc := defScope s__law_due) (by decide +kernel)) (fun _ _ _ _ _ => (pg_name (i := 5) sc__law_due.nd rfl (Or.inl rfl))) (fun _ _ _ _ _ => pts_nil) (fun _ _ _ _ _ => (pe_op op_and (pe_op op_shr (pv 4) (pe_op op_sub pe_int (pv 5))) pe_int)))))) pss_nil)))))
      (pss_cons (ps_set (i := 6) sc__law_due.nd rfl (Or.inl rfl) (pe_lstS pa_nil))
      (pss_cons (ps_for PassesOwn.never rfl (pi_range1 (by rfl) T.z_range (pa_cons (pe_op op_fdiv (pe_callB call_lenH (by rfl) T.z_len PySem.boot_len (pa_cons (pv 2) pa_nil)) pe_int) pa_nil)) (pg_name (i := 7) sc__law_due.nd rfl (Or.inl rfl)) (pss_cons (ps_set (i := 8) sc__law_due.nd rfl (Or.inl rfl) pe_int)
      (pss_cons (ps_for PassesOwn.never rfl (pi_listS (pe_slice sl_listS (pv 2) (po_some (pe_op op_mul pe_int (pv 7))) (po_some (pe_op op_add (pe_op op_mul pe_int (pv 7)) pe_int)))) (pg_name (i := 9) sc__law_due.nd rfl (Or.inl rfl)) (pss_one (ps_set (i := 8) sc__law_due.nd rfl (Or.inl rfl) (pe_op op_add (pe_op op_mul pe_int (pv 8)) (pv 9)))))
      (pss_one (ps_expr (pe_ml (pe_bm PySem.F.plainAttrs_list PySem.F.slot_list_append PySem.F.type_list_append mt_append (pe_mono (pv 6)) (pa_cons (pv 8) pa_nil))))))))
      (pss_one (ps_ret (pe_tupS (pa_cons (pv 6) (pa_cons (pe_op op_sub (pv 1) (pe_callB call_lenH (by rfl) T.z_len PySem.boot_len (pa_cons (pv 0) pa_nil))) pa_nil)))))))))), ?_⟩
    by_cases hz : left < (ns.length : Int)
    · walk_at "vc ha"
      rw [if_pos hz]
      intro p1 H1 s1 n1 g1 p2 H2 s2 n2 g2
      refine q H2 p2 p1 (s1.trans s2) (s1.free n2) n1 (by unfold fbL; rw [if_pos hz]; exact g2) ?_
      rw [if_pos hz]
      exact s2 _ _ g1
    rw [if_neg hz] at q
    rw [show fbL ns left = left - (ns.length : Int) by unfold fbL; rw [if_neg hz]] at q
    refine seq_cut (fun σ H' => σ = [some (.ref a), some (.int left), none, none, none, none, none, none, none, none] ∧ H' = H) ?_ (fun C hC => ?_)
    rotate_left
    · walk_at "vc ha"
      rw [if_neg hz]
      exact hC _ _ ⟨rfl, rfl⟩
    rintro σ H' ⟨rfl, rfl⟩
    refine seq_cut (fun σ H1 => ∃ p, σ = [some (.ref a), some (.int left), some (.ref p), none, none, none, none, none, none, none] ∧ Same H' H1 ∧ H' p = none ∧ H1 p = some (.lst [])) ?_ (fun C hC => ?_)
    rotate_left
    · walk_at "vc"
      intro p H1 s1 n1 g1
      exact hC _ _ ⟨p, rfl, s1, n1, g1⟩
    rintro σ H1 ⟨p0, rfl, s1, n1, g1⟩
    refine seq_cut (fun σ H2 => ∃ (p : Addr) (v3 v4 v5 v6 v7 v8 v9 : Option V), σ = [some (.ref a), some (.int left), some (.ref p), v3, v4, v5, v6, v7, v8, v9] ∧ Same H' H2 ∧ H2 p = some (.lst (List.map V.int (bitsOf (vls ns))))) ?_ (fun C hC => ?_)
    rotate_left
    · have ha1 := s1 _ _ ha
      walk_at "vc ha1"
      refine lpW (walkI (ns := ns)) (fun i σ H2 => ∃ (p : Addr) (v3 v4 v5 : Option V), σ = [some (.ref a), some (.int left), some (.ref p), v3, v4, v5, none, none, none, none] ∧ Same H' H2 ∧ H2 p = some (.lst (List.map V.int (bitsOf (vlsN (ns.take i))))) ∧ 61 ∉ ns.take i) ⟨p0, none, none, none, rfl, s1, g1, by rw [List.take_zero]; exact List.not_mem_nil⟩ ?_ ?_ ?_
      · rintro i σ H2 _ ⟨_, _, _, _, _, sm, _⟩
        exact sm _ _ ha
      · rintro i x σ H2 H3 hi ⟨p, v3, v4, v5, rfl, sm, gp, hno⟩ ⟨rfl, c, hc, rfl⟩
        walk_at "vc"
        refine iteP (fun z => ?_) (fun z => ?_)
        · refine hC _ _ ⟨p, _, _, _, _, _, _, _, rfl, sm, ?_⟩
          rw [gp]
          unfold vls
          rw [← cut61_take (ns := ns) (j := i) (by rw [hc, z]) (fun m hm hz => hno (List.mem_of_getElem? (i := m) (by rw [List.getElem?_take, if_pos hm]; exact hz)))]
          rfl
        · have hno2 : 61 ∉ ns.take (i + 1) := by
            rw [take_succ hc]
            intro h
            rcases List.mem_append.mp h with h | h
            · exact hno h
            · exact z (List.mem_singleton.mp h).symm
          refine ⟨c, rfl, ?_⟩
          have evl : vlsN (ns.take (i + 1)) = vlsN (ns.take i) ++ vlsN [c] := by unfold vlsN; rw [take_succ hc, List.filterMap_append]
          rw [evl]
          walk_at "vc"
          have hvl : (vlsN (ns.take i)).length ≤ ns.length := by
            have := List.length_filterMap_le sgv (ns.take i)
            rw [List.length_take] at this
            unfold vlsN
            omega
          cases e : sgv c with
          | none =>
            have e1 : lv c = -1 := by unfold lv; rw [e]
            have e2 : vlsN [c] = [] := by simp [vlsN, e]
            rw [e1, e2, List.append_nil]
            refine iteP (fun z => absurd z (by decide)) fun _ => ?_
            exact ⟨sm, gp, hno2⟩
          | some v =>
            have e1 : lv c = v := by unfold lv; rw [e]
            have e2 : vlsN [c] = [v] := by simp [vlsN, e]
            have hv : 0 ≤ v ∧ v < 64 := by
              cases e3 : valV tbl (.inl c) with
              | none => rw [sgv_none e3] at e; cases e
              | some w =>
                obtain ⟨n, _, h0, h1, _, h2⟩ := sgv_some e3
                rw [h2] at e
                obtain rfl := Option.some.inj e
                exact ⟨h0, h1⟩
            rw [e1, e2]
            refine iteP (fun _ => ?_) (fun z => absurd hv.1 z)
            refine lcL (walkR (n := 6)) (L := fun i => List.map V.int ((bits6 v).take i)) rfl (fun _ _ => True.intro) (fun D j x H4 H5 hj hD s4 g4 y => ?_) (fun pL H4 s4 n4 g4 => ?_)
            · obtain ⟨rfl, rfl⟩ := y
              walk_at "vc g4"
              have six : j = 0 ∨ j = 1 ∨ j = 2 ∨ j = 3 ∨ j = 4 ∨ j = 5 := by omega
              have zl : ((bits6 v).take j).length < sizeLine := take_lt _ _ (show 6 < sizeLine by decide)
              refine ⟨by omega, zl, same_upd2 s4 hD, ?_⟩
              rcases six with rfl | rfl | rfl | rfl | rfl | rfl
              iterate 5 rfl
              · show [v / 32 % 2, v / 16 % 2, v / 8 % 2, v / 4 % 2, v / 2 % 2] ++ [v / 1 % 2] = bits6 v
                rw [Int.ediv_one]
                rfl
            · replace g4 : H4 pL = some (.lst (List.map V.int (bits6 v))) := g4
              have gp4 := s4 _ _ gp
              walk_at "vc g4 gp4"
              refine ⟨?_, fun p5 H5 s5 n5 g5 => ⟨sm.trans (s4.trans s5), ?_, hno2⟩⟩
              · rw [bitsOf_len]
                exact Nat.le_trans (show 6 * (vlsN (ns.take i)).length + 6 ≤ 10000 by omega) (by decide)
              · rw [g5]
                unfold bitsOf
                rw [List.flatMap_append, List.flatMap_cons, List.flatMap_nil, List.append_nil]
      · rintro σ H2 ⟨p, v3, v4, v5, rfl, sm, gp, hno⟩
        rw [List.take_length] at gp hno
        refine hC _ _ ⟨p, _, _, _, _, _, _, _, rfl, sm, ?_⟩
        rw [gp]
        unfold vls
        rw [cut61_all hno]
        rfl
    rintro σ H2 ⟨pb, v3, v4, v5, v6, v7, v8, v9, rfl, s2, g2⟩
    have hvl := vls_len ns
    have hbl := bitsOf_len (vls ns)
    generalize bitsOf (vls ns) = bs at g2 hbl q
    walk_at "vc g2"
    intro pf H3 s3 n3 g3
    have g23 := s3 _ _ g2
    have e8 : ((bs.length : Int) / 8).toNat = bs.length / 8 := by omega
    walk_at "vc g23"
    refine ⟨by omega, by omega, ?_⟩
    rw [e8]
    refine lpW (walkR (n := bs.length / 8)) (fun i σ H' => ∃ (v7 v8 v9 : Option V), σ = [some (.ref a), some (.int left), some (.ref pb), v3, v4, v5, some (.ref pf), v7, v8, v9] ∧ Same H2 H' ∧ H' pf = some (.lst (List.map V.int ((nums bs).take i)))) ⟨_, _, _, rfl, s3, by rw [List.take_zero]; exact g3⟩ (fun _ _ _ _ _ => True.intro) ?_ ?_
    · rintro i x σ H4 H5 hi ⟨v7, v8, v9, rfl, sm, gf⟩ ⟨rfl, rfl⟩
      have gb := sm _ _ g2
      walk_at "vc gb"
      intro p6 H6 s6 n6 g6
      rw [show (8 : Int) * (i : Int) = ((8 * i : Nat) : Int) by omega, show ((8 * i : Nat) : Int) + 8 = ((8 * i + 8 : Nat) : Int) by omega, cut_sl] at g6
      refine ⟨⟨_, g6⟩, ?_⟩
      have gf6 := s6 _ _ gf
      refine lpW (walkI (ns := sl bs (8 * i) (8 * i + 8))) (fun j σ H' => ∃ (v9 : Option V), σ = [some (.ref a), some (.int left), some (.ref pb), v3, v4, v5, some (.ref pf), some (.int (i : Int)), some (.int (num ((sl bs (8 * i) (8 * i + 8)).take j))), v9] ∧ H' = H6) ⟨_, rfl, rfl⟩ ?_ ?_ ?_
      · rintro j σ H' _ ⟨_, _, rfl⟩
        exact g6
      · rintro j x σ H' H7 hj ⟨v9, rfl, rfl⟩ ⟨rfl, b, hb, rfl⟩
        walk_at "vc"
        unfold num
        rw [foldl_take _ _ hb]
      · rintro σ H' ⟨v9, rfl, rfl⟩
        rw [List.take_length]
        walk_at "vc gf6"
        have hnum : (nums bs)[i]? = some (num (sl bs (8 * i) (8 * i + 8))) := by
          unfold nums
          rw [List.getElem?_map, List.getElem?_range hi]
          rfl
        have hnl : (nums bs).length = bs.length / 8 := by unfold nums; rw [List.length_map, List.length_range]
        refine ⟨cnt_lt (by rw [List.length_take]; omega), same_upd2 (sm.trans s6) n3, ?_⟩
        rw [take_succ hnum]
    · rintro σ H4 ⟨v7, v8, v9, rfl, sm, gf⟩
      rw [List.take_of_length_le (by unfold nums; rw [List.length_map, List.length_range]; exact Nat.le_refl _)] at gf
      have ha4 := sm _ _ (s2 _ _ ha)
      walk_at "vc ha4"
      intro p5 H5 s5 n5 g5
      have s25 := s2.trans sm
      exact q H5 p5 pf (s25.trans s5) (s25.free n5) (s2.free n3) g5 (s5 _ _ gf)

theorem sz4' : ([V.int a, V.int b].length + [V.int c, V.int d].length ≤ sizeLine) := by show 4 ≤ sizeLine; decide
theorem fsB_lt {ns : List Int} (hn : 1 ≤ ns.length ∧ ns.length ≤ 3) (hB : Byt ns) : 0 ≤ fsB ns ∧ fsB ns < 16777216 := by
  obtain ⟨x, y, z, hX⟩ : ∃ x y z : Int, ns ++ List.replicate (3 - ns.length) 0 = [x, y, z] := by
    have hl3 : (ns ++ List.replicate (3 - ns.length) 0).length = 3 := by rw [List.length_append, List.length_replicate]; omega
    match ns ++ List.replicate (3 - ns.length) 0, hl3 with
    | [x, y, z], _ => exact ⟨x, y, z, rfl⟩
  have eB : fsB ns = x * 65536 + y * 256 + z := by
    unfold fsB
    rw [hX]
    show ((0 * 256 + x) * 256 + y) * 256 + z = _
    omega
  have hXB : ∀ v ∈ [x, y, z], 0 ≤ v ∧ v < 256 := by
    rw [← hX]
    intro v hv
    rcases List.mem_append.mp hv with h | h
    · exact hB v h
    · rw [List.eq_of_mem_replicate h]; exact ⟨by decide, by decide⟩
  have hx := hXB x (by simp)
  have hy := hXB y (by simp)
  have hz := hXB z (by simp)
  omega

def sp__law_written (K : PySem.W.Frag) : Sp := fun vs H Q _ => ∃ (a : Addr) (ns : List Int), vs = [.ref a] ∧ (H a = some (.lst (List.map V.int ns))) ∧ (ns.length ≤ 1000) ∧ (Byt ns) ∧ (∀ H' p, Same H H' → H' p = some (.lst (List.map V.int (toB ns))) → Q (.ref p) H')
theorem ok__law_written (T : Txt K mg) : FnOk P w K mg base CX0 2 T.f__law_written T.fd__law_written ["data"] (sp__law_written K) := by
  refine T.F__law_written.ok sc__law_written (fun vs H Q E h => ?_) (fun cdv A outer s H vs Q E hr h => ?_)
  · obtain ⟨a, ns, rfl, _⟩ := h
    rfl
  · obtain ⟨a, ns, rfl, ha, hn, hB, q⟩ := h
    refine ⟨_, (pss_cons (ps_set (i := 1) sc__law_written.nd rfl (Or.inl rfl) (pe_lstS pa_nil))
      (pss_cons (ps_set (i := 2) sc__law_written.nd rfl (Or.inl rfl) (pe_call0 (ok__law_signs T) hr (by rfl) T.g__law_signs T.F__law_signs.kp T.b__law_signs .nil pass0))
      (pss_cons (ps_for PassesOwn.never rfl (pi_range1 (by rfl) T.z_range (pa_cons (pe_op op_fdiv (pe_op op_add (pe_callB call_lenH (by rfl) T.z_len PySem.boot_len (pa_cons (pv 0) pa_nil)) pe_int) pe_int) pa_nil)) (pg_name (i := 3) sc__law_written.nd rfl (Or.inl rfl)) (pss_cons (ps_set (i := 4) sc__law_written.nd rfl (Or.inl rfl) (pe_slice sl_listS (pv 0) (po_some (pe_op op_mul pe_int (pv 3))) (po_some (pe_op op_add (pe_op op_mul pe_int (pv 3)) pe_int))))
      (pss_cons (ps_set (i := 5) sc__law_written.nd rfl (Or.inl rfl) pe_int)
      (pss_cons (ps_for PassesOwn.never rfl (pi_listS (pe_op op_catS (pv 4) (pe_op op_repS (pe_lstS (pa_cons pe_int pa_nil)) (pe_op op_sub pe_int (pe_callB call_lenH (by rfl) T.z_len PySem.boot_len (pa_cons (pv 4) pa_nil)))))) (pg_name (i := 6) sc__law_written.nd rfl (Or.inl rfl)) (pss_one (ps_set (i := 5) sc__law_written.nd rfl (Or.inl rfl) (pe_op op_add (pe_op op_mul (pv 5) pe_int) (pv 6)))))
      (pss_cons (ps_set (i := 7) sc__law_written.nd rfl (Or.inl rfl) (pe_lstS (pa_cons (pe_callB call_ord (by rfl) T.z_ord (by decide +kernel) (pa_cons (pe_ix ix_str (pv 2) (pe_op op_fdiv (pv 5) pe_int) (fun _ _ => rfl)) pa_nil)) (pa_cons (pe_callB call_ord (by rfl) T.z_ord (by decide +kernel) (pa_cons (pe_ix ix_str (pv 2) (pe_op op_mod (pe_op op_fdiv (pv 5) pe_int) pe_int) (fun _ _ => rfl)) pa_nil)) pa_nil))))
      (pss_cons (ps_set (i := 7) sc__law_written.nd rfl (Or.inl rfl) (pe_op op_catS (pv 7) (pe_lstS (pa_cons (pe_callB call_ord (by rfl) T.z_ord (by decide +kernel) (pa_cons (pe_ix ix_str (pv 2) (pe_op op_mod (pe_op op_fdiv (pv 5) pe_int) pe_int) (fun _ _ => rfl)) pa_nil)) (pa_cons (pe_callB call_ord (by rfl) T.z_ord (by decide +kernel) (pa_cons (pe_ix ix_str (pv 2) (pe_op op_mod (pv 5) pe_int) (fun _ _ => rfl)) pa_nil)) pa_nil)))))
      (pss_one (ps_set (i := 1) sc__law_written.nd rfl (Or.inl rfl) (pe_op op_catS (pe_op op_catS (pv 1) (pe_slice sl_listS (pv 7) po_none (po_some (pe_op op_add (pe_callB call_lenH (by rfl) T.z_len PySem.boot_len (pa_cons (pv 4) pa_nil)) pe_int)))) (pe_op op_repS (pe_lstS (pa_cons pe_int pa_nil)) (pe_op op_sub pe_int (pe_callB call_lenH (by rfl) T.z_len PySem.boot_len (pa_cons (pv 4) pa_nil)))))))))))))
      (pss_one (ps_ret (pv 1)))))), ?_⟩
    walk_at "vc ha sp__law_signs"
    intro p0 H1 s1 n1 g1
    have ha1 := s1 _ _ ha
    walk_at "vc ha1 sp__law_signs"
    refine ⟨by omega, by omega, ?_⟩
    rw [show (((ns.length : Int) + 2) / 3).toNat = (ns.length + 2) / 3 by omega]
    refine lpW (walkR (n := (ns.length + 2) / 3)) (fun i σ H' => ∃ (p : Addr) (v3 v4 v5 v6 v7 : Option V), σ = [some (.ref a), some (.ref p), some (.str b64S), v3, v4, v5, v6, v7] ∧ Same H H' ∧ H' p = some (.lst (List.map V.int (tF ns i)))) ⟨p0, _, _, _, _, _, rfl, s1, g1⟩ (fun _ _ _ _ _ => True.intro) ?_ ?_
    · rintro i x σ H2 H3 hi ⟨p, v3, v4, v5, v6, v7, rfl, sm, gp⟩ ⟨rfl, rfl⟩
      have ha2 := sm _ _ ha
      have hfl := tF_len ns i
      walk_at "vc ha2"
      intro p3 H3 s3 n3 g3
      rw [show (3 : Int) * (i : Int) = ((3 * i : Nat) : Int) by omega, show ((3 * i : Nat) : Int) + 3 = ((3 * i + 3 : Nat) : Int) by omega, cut_sl] at g3
      have hsl : (sl ns (3 * i) (3 * i + 3)).length = min 3 (ns.length - 3 * i) := by rw [sl_len]; congr 1; omega
      have hB3 := sl_byt hB (3 * i) (3 * i + 3)
      rw [tF]
      generalize sl ns (3 * i) (3 * i + 3) = ps at g3 hsl hB3 ⊢
      have hps : 1 ≤ ps.length ∧ ps.length ≤ 3 := by omega
      intro p4 H4 s4 n4 g4
      have g34 := s4 _ _ g3
      walk_at "vc g34 g4"
      refine ⟨by omega, by omega, fun p5 H5 s5 n5 g5 => ?_⟩
      rw [show ((3 : Int) - (ps.length : Int)).toNat = 3 - ps.length by omega, show List.replicate (3 - ps.length) (V.int 0) = List.map V.int (List.replicate (3 - ps.length) 0) by rw [List.map_replicate]] at g5
      have g35 := s5 _ _ g34
      walk_at "vc g35 g5"
      refine ⟨Nat.le_trans (show ps.length + (3 - ps.length) ≤ 8 by omega) (by decide), fun p6 H6 s6 n6 g6 => ?_⟩
      have s26 := ((s3.trans s4).trans s5).trans s6
      refine ⟨⟨_, g6⟩, ?_⟩
      refine lpW (walkI (ns := ps ++ List.replicate (3 - ps.length) 0)) (fun j σ H' => ∃ (v6 : Option V), σ = [some (.ref a), some (.ref p), some (.str b64S), some (.int (i : Int)), some (.ref p3), some (.int (((ps ++ List.replicate (3 - ps.length) 0).take j).foldl (fun b v => b * 256 + v) 0)), v6, v7] ∧ H' = H6) ⟨_, rfl, rfl⟩ ?_ ?_ ?_
      · rintro j σ H' _ ⟨_, _, rfl⟩
        exact g6
      · rintro j x σ H' H7 hj ⟨v6, rfl, rfl⟩ ⟨rfl, b, hb, rfl⟩
        rw [foldl_take _ _ hb]
        walk_at "vc"
      · rintro σ H' ⟨v6, rfl, rfl⟩
        rw [List.take_length, show List.foldl (fun b v => b * 256 + v) 0 (ps ++ List.replicate (3 - ps.length) 0) = fsB ps from rfl]
        have hb0 := fsB_lt hps hB3
        obtain ⟨c1, d1, e1⟩ := sgn_at' (v := fsB ps / 262144) (by omega) (by omega)
        obtain ⟨c2, d2, e2⟩ := sgn_at' (v := fsB ps / 4096 % 64) (by omega) (by omega)
        obtain ⟨c3, d3, e3⟩ := sgn_at' (v := fsB ps / 64 % 64) (by omega) (by omega)
        obtain ⟨c4, d4, e4⟩ := sgn_at' (v := fsB ps % 64) (by omega) (by omega)
        walk_at "vc b64_len one_len"
        refine ⟨c1, d1, c2, d2, ?_⟩
        intro p7 H7 s7 n7 g7
        refine ⟨c3, d3, c4, d4, fun p8 H8 s8 n8 g8 => ?_⟩
        replace g7 : H7 p7 = some (.lst (List.map V.int [(c1 : Int), (c2 : Int)])) := g7
        replace g8 : H8 p8 = some (.lst (List.map V.int [(c3 : Int), (c4 : Int)])) := g8
        rw [e1, e2] at g7
        rw [e3, e4] at g8
        have g78 := s8 _ _ g7
        refine ⟨_, g78, _, g8, sz4', fun p9 H9 s9 n9 g9 => ?_⟩
        replace g9 : H9 p9 = some (.lst (List.map V.int [sgn (fsB ps / 262144), sgn (fsB ps / 4096 % 64), sgn (fsB ps / 64 % 64), sgn (fsB ps % 64)])) := g9
        have hfs : fs ps = [sgn (fsB ps / 262144), sgn (fsB ps / 4096 % 64), sgn (fsB ps / 64 % 64), sgn (fsB ps % 64)].take (ps.length + 1) ++ List.replicate (3 - ps.length) 61 := rfl
        generalize hS : [sgn (fsB ps / 262144), sgn (fsB ps / 4096 % 64), sgn (fsB ps / 64 % 64), sgn (fsB ps % 64)] = S4 at g9 hfs
        have hS4 : S4.length = 4 := by rw [← hS]; rfl
        have s69 := (s7.trans s8).trans s9
        have g39 := s69 _ _ (s6 _ _ g35)
        have gp9 := s69 _ _ (s26 _ _ gp)
        refine ⟨_, g39, _, g9, fun p10 H10 s10 n10 g10 => ?_⟩
        rw [List.length_map, show ((ps.length : Nat) : Int) + 1 = ((ps.length + 1 : Nat) : Int) by omega, cutI_take] at g10
        have hk : (S4.take (ps.length + 1)).length = ps.length + 1 := by rw [List.length_take]; omega
        refine ⟨_, s10 _ _ gp9, _, g10, ?_, fun p11 H11 s11 n11 g11 p12 H12 s12 n12 g12 => ?_⟩
        · rw [List.length_map, List.length_map, hfl, hk]
          exact Nat.le_trans (show 4 * i + (ps.length + 1) ≤ 10000 by omega) (by decide)
        rw [map_cat] at g11
        have g312 := s12 _ _ (s11 _ _ (s10 _ _ g39))
        refine ⟨_, g312, _, g12, by rw [List.length_map]; omega, by rw [List.length_map]; omega, fun p13 H13 s13 n13 g13 => ?_⟩
        rw [List.length_map, show ((3 : Int) - (ps.length : Int)).toNat = 3 - ps.length by omega, show List.replicate (3 - ps.length) (V.int 61) = List.map V.int (List.replicate (3 - ps.length) 61) by rw [List.map_replicate]] at g13
        refine ⟨_, s13 _ _ (s12 _ _ g11), _, g13, ?_, fun p14 H14 s14 n14 g14 => ?_⟩
        · rw [List.length_map, List.length_map, List.length_append, hfl, hk, List.length_replicate]
          exact Nat.le_trans (show 4 * i + (ps.length + 1) + (3 - ps.length) ≤ 10000 by omega) (by decide)
        rw [map_cat, List.append_assoc, ← hfs] at g14
        exact ⟨((sm.trans s26).trans s69).trans (s10.trans (s11.trans (s12.trans (s13.trans s14)))), g14⟩
    · rintro σ H2 ⟨p, v3, v4, v5, v6, v7, rfl, sm, gp⟩
      walk_at "vc"
      exact q H2 p sm gp

/-! ### the mathematics -/
def chk (f : List Int → List Int) (k : Nat) (ns : List Int) : Nat → List Int
  | 0 => []
  | r + 1 => chk f k ns r ++ f (sl ns (k * r) (k * r + k))
theorem chk_succ (f : List Int → List Int) (k : Nat) (ns : List Int) : ∀ r, chk f k ns (r + 1) = f (ns.take k) ++ chk f k (ns.drop k) r
  | 0 => by
    show [] ++ f (sl ns (k * 0) (k * 0 + k)) = f (ns.take k) ++ []
    rw [List.nil_append, List.append_nil, Nat.mul_zero, Nat.zero_add]
    rfl
  | r + 1 => by
    rw [chk, chk_succ f k ns r, List.append_assoc]
    show _ = f (ns.take k) ++ (chk f k (ns.drop k) r ++ f (sl (ns.drop k) (k * r) (k * r + k)))
    congr 2
    unfold sl
    rw [List.drop_drop, Nat.mul_succ, Nat.add_sub_cancel_left, Nat.add_sub_cancel_left, Nat.add_comm k]
theorem tF_chk (ns : List Int) : ∀ r, tF ns r = chk fs 3 ns r
  | 0 => rfl
  | r + 1 => by rw [tF, chk, tF_chk ns r]
theorem gB_chk (ns : List Int) : ∀ r, gB ns r = chk tb 4 ns r
  | 0 => rfl
  | r + 1 => by rw [gB, chk, gB_chk ns r]
theorem nums_chk' (l : List Int) : ∀ r, (List.range r).map (fun k => num (sl l (8 * k) (8 * k + 8))) = chk (fun s => [num s]) 8 l r
  | 0 => rfl
  | r + 1 => by rw [List.range_succ, List.map_append, chk, nums_chk' l r]; rfl
theorem toB_app {l m : List Int} (h : l.length = 3) : toB (l ++ m) = fs l ++ toB m := by
  unfold toB
  rw [tF_chk, tF_chk, List.length_append, h, show (3 + m.length + 2) / 3 = (m.length + 2) / 3 + 1 by omega, chk_succ, List.take_left' h, List.drop_left' h]
theorem fromV_app {l m : List Int} (h : l.length = 4) : fromV (l ++ m) = tb l ++ fromV m := by
  unfold fromV
  rw [gB_chk, gB_chk, List.length_append, h, show (4 + m.length + 3) / 4 = (m.length + 3) / 4 + 1 by omega, chk_succ, List.take_left' h, List.drop_left' h]
theorem nums_app {l m : List Int} (h : l.length = 8) : nums (l ++ m) = num l :: nums m := by
  unfold nums
  rw [nums_chk', nums_chk', List.length_append, h, show (8 + m.length) / 8 = m.length / 8 + 1 by omega, chk_succ, List.take_left' h, List.drop_left' h]
  rfl
theorem nums_n {l : List Int} (r : Nat) (h : l.length / 8 = r) : nums l = (List.range r).map (fun k => num (sl l (8 * k) (8 * k + 8))) := by rw [← h]; rfl
theorem fromV_n {l : List Int} (r : Nat) (h : (l.length + 3) / 4 = r) : fromV l = gB l r := by rw [← h]; rfl
theorem toB_n {l : List Int} (r : Nat) (h : (l.length + 2) / 3 = r) : toB l = tF l r := by rw [← h]; rfl
theorem bitsOf_cons (v : Int) (r : List Int) : bitsOf (v :: r) = bits6 v ++ bitsOf r := rfl
abbrev V6 (v : Int) : Prop := 0 ≤ v ∧ v < 64
theorem nums_bits : ∀ (n : Nat) (vs : List Int), vs.length ≤ n → (∀ v ∈ vs, V6 v) → nums (bitsOf vs) = fromV vs
  | _, [], _, _ => rfl
  | _, [a], _, _ => by
    rw [nums_n 0 (by rw [bitsOf_len]; simp), fromV_n 1 (by simp)]
    rfl
  | _, [a, b], _, h => by
    have ha : V6 a := h a (by simp)
    have hb : V6 b := h b (by simp)
    rw [nums_n 1 (by rw [bitsOf_len]; simp), fromV_n 1 (by simp)]
    show [num [a / 32 % 2, a / 16 % 2, a / 8 % 2, a / 4 % 2, a / 2 % 2, a % 2, b / 32 % 2, b / 16 % 2]] = [((((0 * 64 + a) * 64 + b) * 64 + 0) * 64 + 0) / 65536]
    congr 1
    show 2 * (2 * (2 * (2 * (2 * (2 * (2 * (2 * 0 + a / 32 % 2) + a / 16 % 2) + a / 8 % 2) + a / 4 % 2) + a / 2 % 2) + a % 2) + b / 32 % 2) + b / 16 % 2 = _
    unfold V6 at ha hb
    omega
  | _, [a, b, c], _, h => by
    have ha : V6 a := h a (by simp)
    have hb : V6 b := h b (by simp)
    have hc : V6 c := h c (by simp)
    unfold V6 at ha hb hc
    rw [nums_n 2 (by rw [bitsOf_len]; simp), fromV_n 1 (by simp)]
    show [num [a / 32 % 2, a / 16 % 2, a / 8 % 2, a / 4 % 2, a / 2 % 2, a % 2, b / 32 % 2, b / 16 % 2], num [b / 8 % 2, b / 4 % 2, b / 2 % 2, b % 2, c / 32 % 2, c / 16 % 2, c / 8 % 2, c / 4 % 2]] = [((((0 * 64 + a) * 64 + b) * 64 + c) * 64 + 0) / 65536, ((((0 * 64 + a) * 64 + b) * 64 + c) * 64 + 0) / 256 % 256]
    congr 1
    · show 2 * (2 * (2 * (2 * (2 * (2 * (2 * (2 * 0 + a / 32 % 2) + a / 16 % 2) + a / 8 % 2) + a / 4 % 2) + a / 2 % 2) + a % 2) + b / 32 % 2) + b / 16 % 2 = _
      omega
    · congr 1
      show 2 * (2 * (2 * (2 * (2 * (2 * (2 * (2 * 0 + b / 8 % 2) + b / 4 % 2) + b / 2 % 2) + b % 2) + c / 32 % 2) + c / 16 % 2) + c / 8 % 2) + c / 4 % 2 = _
      omega
  | 0, _ :: _ :: _ :: _ :: _, hn, _ => absurd hn (by simp)
  | n + 1, a :: b :: c :: d :: r, hn, h => by
    have ha : V6 a := h a (by simp)
    have hb : V6 b := h b (by simp)
    have hc : V6 c := h c (by simp)
    have hd : V6 d := h d (by simp)
    unfold V6 at ha hb hc hd
    have ih := nums_bits n r (by simp at hn; omega) fun v hv => h v (by simp [hv])
    rw [show bitsOf (a :: b :: c :: d :: r) = [a / 32 % 2, a / 16 % 2, a / 8 % 2, a / 4 % 2, a / 2 % 2, a % 2, b / 32 % 2, b / 16 % 2] ++ ([b / 8 % 2, b / 4 % 2, b / 2 % 2, b % 2, c / 32 % 2, c / 16 % 2, c / 8 % 2, c / 4 % 2] ++ ([c / 2 % 2, c % 2, d / 32 % 2, d / 16 % 2, d / 8 % 2, d / 4 % 2, d / 2 % 2, d % 2] ++ bitsOf r)) from rfl]
    rw [nums_app rfl, nums_app rfl, nums_app rfl, ih, show a :: b :: c :: d :: r = [a, b, c, d] ++ r from rfl, fromV_app rfl]
    show _ = [((((0 * 64 + a) * 64 + b) * 64 + c) * 64 + d) / 65536, ((((0 * 64 + a) * 64 + b) * 64 + c) * 64 + d) / 256 % 256, ((((0 * 64 + a) * 64 + b) * 64 + c) * 64 + d) % 256] ++ fromV r
    simp only [List.cons_append, List.nil_append]
    congr 1
    · show 2 * (2 * (2 * (2 * (2 * (2 * (2 * (2 * 0 + a / 32 % 2) + a / 16 % 2) + a / 8 % 2) + a / 4 % 2) + a / 2 % 2) + a % 2) + b / 32 % 2) + b / 16 % 2 = _
      omega
    · congr 1
      · show 2 * (2 * (2 * (2 * (2 * (2 * (2 * (2 * 0 + b / 8 % 2) + b / 4 % 2) + b / 2 % 2) + b % 2) + c / 32 % 2) + c / 16 % 2) + c / 8 % 2) + c / 4 % 2 = _
        omega
      · congr 1
        show 2 * (2 * (2 * (2 * (2 * (2 * (2 * (2 * 0 + c / 2 % 2) + c % 2) + d / 32 % 2) + d / 16 % 2) + d / 8 % 2) + d / 4 % 2) + d / 2 % 2) + d % 2 = _
        omega
theorem vls_mem {ns : List Int} : ∀ v ∈ vls ns, V6 v := by
  intro v hv
  obtain ⟨c, _, e⟩ := List.mem_filterMap.mp hv
  cases e3 : valV tbl (.inl c) with
  | none => rw [sgv_none e3] at e; cases e
  | some w =>
    obtain ⟨n, _, h0, h1, _, h2⟩ := sgv_some e3
    rw [h2] at e
    obtain rfl := Option.some.inj e
    exact ⟨h0, h1⟩
theorem due_eq (ns : List Int) (left : Int) : (if left < (ns.length : Int) then [] else nums (bitsOf (vls ns))) = fbR ns left := by
  unfold fbR
  split
  · rfl
  · exact nums_bits _ _ (Nat.le_refl _) vls_mem
theorem sgn_ne : ∀ d : _root_.Fin 64, sgn ((d : Nat) : Int) ≠ 61 := by decide +kernel
theorem sgn_ne' {v : Int} (h : V6 v) : sgn v ≠ 61 := by
  have := sgn_ne ⟨v.toNat, by unfold V6 at h; omega⟩
  rw [show (((⟨v.toNat, by unfold V6 at h; omega⟩ : _root_.Fin 64) : Nat) : Int) = v by show ((v.toNat : Nat) : Int) = v; unfold V6 at h; omega] at this
  exact this
theorem sgv61 : sgv 61 = none := by decide +kernel
theorem vls_cons {c : Int} (h : c ≠ 61) (r : List Int) : vls (c :: r) = (match sgv c with | some v => [v] | none => []) ++ vls r := by
  unfold vls cut61
  rw [List.takeWhile_cons, decide_eq_true h]
  simp only [if_true]
  cases e : sgv c <;> simp [List.filterMap_cons, e]
theorem vls_sgn {v : Int} (h : V6 v) (r : List Int) : vls (sgn v :: r) = v :: vls r := by
  rw [vls_cons (sgn_ne' h), sgn_code' h.1 h.2]
  rfl
theorem vls_61 (r : List Int) : vls (61 :: r) = [] := by
  unfold vls cut61
  rw [List.takeWhile_cons, decide_eq_false (by decide)]
  rfl
theorem fm_sgn {v : Int} (h : V6 v) (r : List Int) : (sgn v :: r).filterMap sgv = v :: r.filterMap sgv := by
  rw [List.filterMap_cons, sgn_code' h.1 h.2]
theorem fm_61 (r : List Int) : ((61 : Int) :: r).filterMap sgv = r.filterMap sgv := by
  rw [List.filterMap_cons, sgv61]
theorem rt : ∀ (n : Nat) (ns : List Int), ns.length ≤ n → Byt ns → fromV (vls (toB ns)) = ns ∧ (toB ns).filterMap sgv = vls (toB ns)
  | _, [], _, _ => ⟨rfl, rfl⟩
  | _, [x], _, h => by
    have hx := h x (by simp)
    rw [show toB [x] = [sgn ((((0 * 256 + x) * 256 + 0) * 256 + 0) / 262144), sgn ((((0 * 256 + x) * 256 + 0) * 256 + 0) / 4096 % 64), 61, 61] by rw [toB_n 1 (by simp)]; rfl]
    have h1 : V6 ((((0 * 256 + x) * 256 + 0) * 256 + 0) / 262144) := by unfold V6; omega
    have h2 : V6 ((((0 * 256 + x) * 256 + 0) * 256 + 0) / 4096 % 64) := by unfold V6; omega
    rw [vls_sgn h1, vls_sgn h2, vls_61, fm_sgn h1, fm_sgn h2, fm_61, fm_61]
    refine ⟨?_, rfl⟩
    generalize e1 : (((0 * 256 + x) * 256 + 0) * 256 + 0) / 262144 = v1 at h1
    generalize e2 : (((0 * 256 + x) * 256 + 0) * 256 + 0) / 4096 % 64 = v2 at h2
    rw [fromV_n 1 (by simp [vls, cut61])]
    show [((((0 * 64 + v1) * 64 + v2) * 64 + 0) * 64 + 0) / 65536] = [x]
    congr 1
    unfold V6 at h1 h2
    omega
  | _, [x, y], _, h => by
    have hx := h x (by simp)
    have hy := h y (by simp)
    rw [show toB [x, y] = [sgn ((((0 * 256 + x) * 256 + y) * 256 + 0) / 262144), sgn ((((0 * 256 + x) * 256 + y) * 256 + 0) / 4096 % 64), sgn ((((0 * 256 + x) * 256 + y) * 256 + 0) / 64 % 64), 61] by rw [toB_n 1 (by simp)]; rfl]
    have h1 : V6 ((((0 * 256 + x) * 256 + y) * 256 + 0) / 262144) := by unfold V6; omega
    have h2 : V6 ((((0 * 256 + x) * 256 + y) * 256 + 0) / 4096 % 64) := by unfold V6; omega
    have h3 : V6 ((((0 * 256 + x) * 256 + y) * 256 + 0) / 64 % 64) := by unfold V6; omega
    rw [vls_sgn h1, vls_sgn h2, vls_sgn h3, vls_61, fm_sgn h1, fm_sgn h2, fm_sgn h3, fm_61]
    refine ⟨?_, rfl⟩
    generalize e1 : (((0 * 256 + x) * 256 + y) * 256 + 0) / 262144 = v1 at h1
    generalize e2 : (((0 * 256 + x) * 256 + y) * 256 + 0) / 4096 % 64 = v2 at h2
    generalize e3 : (((0 * 256 + x) * 256 + y) * 256 + 0) / 64 % 64 = v3 at h3
    rw [fromV_n 1 (by simp [vls, cut61])]
    show [((((0 * 64 + v1) * 64 + v2) * 64 + v3) * 64 + 0) / 65536, ((((0 * 64 + v1) * 64 + v2) * 64 + v3) * 64 + 0) / 256 % 256] = [x, y]
    unfold V6 at h1 h2 h3
    congr 1
    · omega
    · congr 1
      omega
  | 0, _ :: _ :: _ :: _, hn, _ => absurd hn (by simp)
  | n + 1, x :: y :: z :: r, hn, h => by
    have hx := h x (by simp)
    have hy := h y (by simp)
    have hz := h z (by simp)
    obtain ⟨i1, i2⟩ := rt n r (by simp at hn; omega) fun v hv => h v (by simp [hv])
    rw [show x :: y :: z :: r = [x, y, z] ++ r from rfl, toB_app rfl]
    rw [show fs [x, y, z] = [sgn ((((0 * 256 + x) * 256 + y) * 256 + z) / 262144), sgn ((((0 * 256 + x) * 256 + y) * 256 + z) / 4096 % 64), sgn ((((0 * 256 + x) * 256 + y) * 256 + z) / 64 % 64), sgn ((((0 * 256 + x) * 256 + y) * 256 + z) % 64)] from rfl]
    have h1 : V6 ((((0 * 256 + x) * 256 + y) * 256 + z) / 262144) := by unfold V6; omega
    have h2 : V6 ((((0 * 256 + x) * 256 + y) * 256 + z) / 4096 % 64) := by unfold V6; omega
    have h3 : V6 ((((0 * 256 + x) * 256 + y) * 256 + z) / 64 % 64) := by unfold V6; omega
    have h4 : V6 ((((0 * 256 + x) * 256 + y) * 256 + z) % 64) := by unfold V6; omega
    simp only [List.cons_append, List.nil_append]
    rw [vls_sgn h1, vls_sgn h2, vls_sgn h3, vls_sgn h4, fm_sgn h1, fm_sgn h2, fm_sgn h3, fm_sgn h4, i2]
    refine ⟨?_, rfl⟩
    generalize e1 : (((0 * 256 + x) * 256 + y) * 256 + z) / 262144 = v1 at h1
    generalize e2 : (((0 * 256 + x) * 256 + y) * 256 + z) / 4096 % 64 = v2 at h2
    generalize e3 : (((0 * 256 + x) * 256 + y) * 256 + z) / 64 % 64 = v3 at h3
    generalize e4 : (((0 * 256 + x) * 256 + y) * 256 + z) % 64 = v4 at h4
    rw [show v1 :: v2 :: v3 :: v4 :: vls (toB r) = [v1, v2, v3, v4] ++ vls (toB r) from rfl, fromV_app rfl, i1]
    show [((((0 * 64 + v1) * 64 + v2) * 64 + v3) * 64 + v4) / 65536, ((((0 * 64 + v1) * 64 + v2) * 64 + v3) * 64 + v4) / 256 % 256, ((((0 * 64 + v1) * 64 + v2) * 64 + v3) * 64 + v4) % 256] ++ r = x :: y :: z :: r
    unfold V6 at h1 h2 h3 h4
    simp only [List.cons_append, List.nil_append]
    congr 1
    · omega
    · congr 1
      · omega
      · congr 1
        omega
/-! ### mixed -/
def junkL : List Int := [32, 10, 13, 255, 46, 44, 33, 0]
def junk (d : Int) : List Int := if d % 5 = 0 then [junkL.getD (d / 5 % 8).toNat 0] else []
def mixC (d c : Int) : Int := if c = 43 ∧ d % 2 = 1 then 45 else if c = 47 ∧ d % 2 = 1 then 95 else c
def mixF (cell : Int) (k : Nat) : List Int → List Int
  | [] => []
  | x :: xs => junk (tw cell k) ++ mixC (tw cell k) x :: mixF cell (k + 1) xs
theorem mixF_snoc (cell x : Int) : ∀ (xs : List Int) (k : Nat), mixF cell k (xs ++ [x]) = mixF cell k xs ++ (junk (tw cell ((k + xs.length : Nat) : Int)) ++ [mixC (tw cell ((k + xs.length : Nat) : Int)) x])
  | [], k => by
    show junk (tw cell k) ++ [mixC (tw cell k) x] = [] ++ _
    rfl
  | y :: ys, k => by
    have ih := mixF_snoc cell x ys (k + 1)
    show junk (tw cell k) ++ mixC (tw cell k) y :: mixF cell (k + 1) (ys ++ [x]) = (junk (tw cell k) ++ mixC (tw cell k) y :: mixF cell (k + 1) ys) ++ _
    rw [ih, List.length_cons, show k + (ys.length + 1) = k + 1 + ys.length by omega, List.append_assoc]
    rfl
theorem junk_no : ∀ j : _root_.Fin 8, sgv (junkL.getD j 0) = none ∧ junkL.getD j 0 ≠ 61 := by decide +kernel
theorem junk_or (d : Int) : junk d = [] ∨ ∃ j, junk d = [j] ∧ sgv j = none ∧ j ≠ 61 := by
  unfold junk
  split
  · have := junk_no ⟨(d / 5 % 8).toNat, by omega⟩
    exact .inr ⟨_, rfl, this.1, this.2⟩
  · exact .inl rfl
theorem sgv43 : sgv 45 = sgv 43 ∧ sgv 95 = sgv 47 := by decide +kernel
theorem mixC_sgv (d c : Int) : sgv (mixC d c) = sgv c ∧ (mixC d c = 61 ↔ c = 61) := by
  unfold mixC
  split
  · rename_i h
    rw [h.1, sgv43.1]
    exact ⟨rfl, by decide⟩
  · split
    · rename_i h
      rw [h.1, sgv43.2]
      exact ⟨rfl, by decide⟩
    · exact ⟨rfl, Iff.rfl⟩
theorem vls_mix (cell : Int) : ∀ (xs : List Int) (k : Nat), vls (mixF cell k xs) = vls xs
  | [], _ => rfl
  | x :: xs, k => by
    have ih := vls_mix cell xs (k + 1)
    obtain ⟨m1, m2⟩ := mixC_sgv (tw cell k) x
    rw [mixF]
    have main : vls (mixC (tw cell k) x :: mixF cell (k + 1) xs) = vls (x :: xs) := by
      by_cases h : x = 61
      · rw [m2.mpr h, h, vls_61, vls_61]
      · rw [vls_cons (fun z => h (m2.mp z)), vls_cons h, m1, ih]
    rcases junk_or (tw cell k) with e | ⟨j, e, e1, e2⟩
    · rw [e]; exact main
    · rw [e]
      show vls (j :: _) = _
      rw [vls_cons e2, e1]
      exact main
theorem fm_mix (cell : Int) : ∀ (xs : List Int) (k : Nat), (mixF cell k xs).filterMap sgv = xs.filterMap sgv
  | [], _ => rfl
  | x :: xs, k => by
    have ih := fm_mix cell xs (k + 1)
    obtain ⟨m1, m2⟩ := mixC_sgv (tw cell k) x
    rw [mixF, List.filterMap_append, List.filterMap_cons, List.filterMap_cons, m1, ih]
    rcases junk_or (tw cell k) with e | ⟨j, e, e1, e2⟩
    · rw [e]; rfl
    · rw [e, List.filterMap_cons, e1]; rfl
def bareL (l : List Int) : List Int := l.filter fun c => decide (c ≠ 61)
theorem fm_bare : ∀ l : List Int, (bareL l).filterMap sgv = l.filterMap sgv
  | [] => rfl
  | c :: r => by
    have ih := fm_bare r
    unfold bareL at ih ⊢
    rw [List.filter_cons]
    by_cases h : c = 61
    · rw [h]
      simp only [ne_eq, not_true_eq_false, decide_false, Bool.false_eq_true, if_false]
      rw [ih, fm_61]
    · rw [decide_eq_true h]
      simp only [if_true]
      rw [List.filterMap_cons, List.filterMap_cons, ih]
theorem bare_no (l : List Int) : 61 ∉ bareL l := fun h => absurd rfl (of_decide_eq_true (List.mem_filter.mp h).2)
theorem vls_bare (l : List Int) : vls (bareL l) = l.filterMap sgv := by
  unfold vls
  rw [cut61_all (bare_no l), fm_bare]
theorem back1 {ns : List Int} (h : Byt ns) (cell : Int) : fromV (vls (mixF cell 0 (toB ns))) = ns := by
  rw [vls_mix]
  exact (rt _ _ (Nat.le_refl _) h).1
theorem back2 {ns : List Int} (h : Byt ns) (cell : Int) : fromV (vls (bareL (mixF cell 0 (toB ns)))) = ns := by
  obtain ⟨h1, h2⟩ := rt _ _ (Nat.le_refl _) h
  rw [vls_bare, fm_mix, h2]
  exact h1
theorem mix_len (cell : Int) : ∀ (xs : List Int) (k : Nat), (mixF cell k xs).length ≤ 2 * xs.length
  | [], _ => Nat.le_refl _
  | x :: xs, k => by
    have ih := mix_len cell xs (k + 1)
    have hj : (junk (tw cell k)).length ≤ 1 := by unfold junk; split <;> simp
    rw [mixF, List.length_append, List.length_cons, List.length_cons]
    omega

def sp__law_mixed (K : PySem.W.Frag) : Sp := fun vs H Q _ => ∃ (a : Addr) (cs : List Int) (cell : Int), vs = [.ref a, .int cell] ∧ (H a = some (.lst (List.map V.int cs))) ∧ (cs.length ≤ 1000) ∧ (∀ H' p, Same H H' → H p = none → H' p = some (.lst (List.map V.int (mixF cell 0 cs))) → Q (.ref p) H')
theorem ok__law_mixed (T : Txt K mg) : FnOk P w K mg base CX0 2 T.f__law_mixed T.fd__law_mixed ["codes", "cell"] (sp__law_mixed K) := by
  refine T.F__law_mixed.ok sc__law_mixed (fun vs H Q E h => ?_) (fun cdv A outer s H vs Q E hr h => ?_)
  · obtain ⟨a, cs, cell, rfl, _⟩ := h
    rfl
  · obtain ⟨a, cs, cell, rfl, ha, hn, q⟩ := h
    refine ⟨_, (pss_cons (ps_set (i := 2) sc__law_mixed.nd rfl (Or.inl rfl) (pe_lstS pa_nil))
      (pss_cons (ps_for PassesOwn.never rfl (pi_range1 (by rfl) T.z_range (pa_cons (pe_callB call_lenH (by rfl) T.z_len PySem.boot_len (pa_cons (pv 0) pa_nil)) pa_nil)) (pg_name (i := 3) sc__law_mixed.nd rfl (Or.inl rfl)) (pss_cons (ps_set (i := 4) sc__law_mixed.nd rfl (Or.inl rfl) (pe_call (ok__law_twice T) hr (by rfl) T.g__law_twice T.F__law_twice.kp T.b__law_twice .nil pass0 (pa_cons (pv 1) (pa_cons (pv 3) pa_nil))))
      (pss_cons (ps_set (i := 5) sc__law_mixed.nd rfl (Or.inl rfl) (pe_ix ix_listH (pv 0) (pv 3) (fun _ _ => rfl)))
      (pss_cons (ps_if (pt_cmpR op_eq (pe_op op_mod (pv 4) pe_int) pe_int (nomark _)) (pss_one (ps_expr (pe_ml (pe_bm PySem.F.plainAttrs_list PySem.F.slot_list_append PySem.F.type_list_append mt_append (pe_mono (pv 2)) (pa_cons (pe_ix ix_listH (pe_lstS (pa_cons pe_int (pa_cons pe_int (pa_cons pe_int (pa_cons pe_int (pa_cons pe_int (pa_cons pe_int (pa_cons pe_int (pa_cons pe_int pa_nil))))))))) (pe_op op_mod (pe_op op_fdiv (pv 4) pe_int) pe_int) (fun _ _ => rfl)) pa_nil))))) pss_nil)
      (pss_cons (ps_if (PW.pt (pw_and (pt_cmpR op_eq (pv 5) pe_int (nomark _)) (pw_and1 (pt_cmpR op_eq (pe_op op_mod (pv 4) pe_int) pe_int (nomark _))))) (pss_one (ps_set (i := 5) sc__law_mixed.nd rfl (Or.inl rfl) pe_int)) pss_nil)
      (pss_cons (ps_if (PW.pt (pw_and (pt_cmpR op_eq (pv 5) pe_int (nomark _)) (pw_and1 (pt_cmpR op_eq (pe_op op_mod (pv 4) pe_int) pe_int (nomark _))))) (pss_one (ps_set (i := 5) sc__law_mixed.nd rfl (Or.inl rfl) pe_int)) pss_nil)
      (pss_one (ps_expr (pe_ml (pe_bm PySem.F.plainAttrs_list PySem.F.slot_list_append PySem.F.type_list_append mt_append (pe_mono (pv 2)) (pa_cons (pv 5) pa_nil)))))))))))
      (pss_one (ps_ret (pv 2))))), ?_⟩
    walk_at "vc"
    intro p0 H1 s1 n1 g1
    have ha1 := s1 _ _ ha
    walk_at "vc ha1"
    refine ⟨by omega, by omega, ?_⟩
    refine lpW (walkR (n := cs.length)) (fun i σ H' => ∃ (v3 v4 v5 : Option V), σ = [some (.ref a), some (.int cell), some (.ref p0), v3, v4, v5] ∧ Same H H' ∧ H' p0 = some (.lst (List.map V.int (mixF cell 0 (cs.take i))))) ⟨_, _, _, rfl, s1, g1⟩ (fun _ _ _ _ _ => True.intro) ?_ ?_
    · rintro i x σ H' H2 hi ⟨v3, v4, v5, rfl, sm, gp⟩ ⟨rfl, rfl⟩
      have ha2 := sm _ _ ha
      have hc := List.getElem?_eq_getElem hi
      generalize cs[i] = c at hc
      have ml := mix_len cell (cs.take i) 0
      rw [List.length_take] at ml
      rw [take_succ hc, mixF_snoc, List.length_take, Nat.min_eq_left (Nat.le_of_lt hi), Nat.zero_add]
      walk_at "vc ha2 sp__law_twice"
      refine ⟨.int c, atI_nat (by rw [List.getElem?_map, hc]; rfl), ?_⟩
      simp only [V.int.injEq, scal_ii, true_and]
      have hl0 : (mixF cell 0 (cs.take i)).length ≤ 2000 := by omega
      generalize mixF cell 0 (cs.take i) = m at gp hl0 ⊢
      have hd0 := tw_nn cell (i : Int)
      generalize tw cell (i : Int) = d at hd0 ⊢
      generalize hr : mixC d c = r
      refine iteP (fun z => ?_) (fun z => ?_)
      · have ej : junk d = [junkL.getD (d / 5 % 8).toNat 0] := by unfold junk; rw [if_pos z]
        rw [ej]
        refine ⟨⟨_, gp⟩, fun p3 H3 s3 n3 g3 => ⟨_, g3, ?_⟩⟩
        have hj : atI [V.int 32, V.int 10, V.int 13, V.int 255, V.int 46, V.int 44, V.int 33, V.int 0] (d / 5 % 8) = some (.int (junkL.getD (d / 5 % 8).toNat 0)) := by
          have h := at_g' (ns := junkL) (k := d / 5 % 8) (i := (d / 5 % 8).toNat) (by omega) (by show _ < 8; omega)
          exact h
        refine ⟨_, hj, _, s3 _ _ gp, by rw [List.length_map]; exact cnt_lt (by omega), ?_⟩
        have sz : (List.map V.int m).length + 1 < sizeLine := by rw [List.length_map]; exact cnt_lt (by omega)
        have sU : ∀ x, Same H (upd H3 p0 (.lst x)) := fun x => same_upd2 (sm.trans s3) n1
        generalize junkL.getD (d / 5 % 8).toNat 0 = jj
        have fin : ∀ c', r = c' → (List.map V.int m).length + 1 < sizeLine ∧ Same H (upd H3 p0 (.lst (List.map V.int m ++ [.int jj] ++ [.int c']))) ∧ List.map V.int m ++ [.int jj] ++ [.int c'] = List.map V.int (m ++ ([jj] ++ [r])) := fun c' e => ⟨sz, sU _, by rw [e]; simp⟩
        by_cases h2 : c = 43 <;> by_cases h3 : c = 47 <;> by_cases h4 : d % 2 = 1 <;> simp only [h2, h3, h4, if_true, if_false, eq_self, Int.reduceEq] <;> exact fin _ (by rw [← hr]; unfold mixC; simp [h2, h3, h4])
      · have ej : junk d = [] := by unfold junk; rw [if_neg z]
        rw [ej]
        have sz : (List.map V.int m).length < sizeLine := by rw [List.length_map]; exact cnt_lt (by omega)
        have sU : ∀ x, Same H (upd H2 p0 (.lst x)) := fun x => same_upd2 sm n1
        have fin : ∀ c', r = c' → (∃ x, H2 p0 = some (.lst x)) ∧ ∃ x, H2 p0 = some (.lst x) ∧ x.length < sizeLine ∧ Same H (upd H2 p0 (.lst (x ++ [.int c']))) ∧ x ++ [.int c'] = List.map V.int (m ++ ([] ++ [r])) := fun c' e => ⟨⟨_, gp⟩, _, gp, sz, sU _, by rw [e]; simp⟩
        by_cases h2 : c = 43 <;> by_cases h3 : c = 47 <;> by_cases h4 : d % 2 = 1 <;> simp only [h2, h3, h4, if_true, if_false, eq_self, Int.reduceEq] <;> exact fin _ (by rw [← hr]; unfold mixC; simp [h2, h3, h4])
    · rintro σ H' ⟨v3, v4, v5, rfl, sm, gp⟩
      rw [List.take_length] at gp
      walk_at "vc"
      exact q _ p0 sm n1 gp

def sp__law_right (K : PySem.W.Frag) : Sp := fun vs H Q _ => ∃ (a : Addr) (ns : List Int) (left : Int), vs = [.ref a, .int left] ∧ (H a = some (.lst (List.map V.int ns))) ∧ (ns.length ≤ 1000) ∧ (∀ H', Same H H' → Q (.bl true) H')
theorem ok__law_right (T : Txt K mg) : FnOk P w K mg base CX0 4 T.f__law_right T.fd__law_right ["data", "left"] (sp__law_right K) := by
  refine T.F__law_right.ok sc__law_right (fun vs H Q E h => ?_) (fun cdv A outer s H vs Q E hr h => ?_)
  · obtain ⟨a, ns, left, rfl, _⟩ := h
    rfl
  · obtain ⟨a, ns, left, rfl, ha, hn, q⟩ := h
    refine ⟨_, (pss_cons (ps_set (i := 2) sc__law_right.nd rfl (Or.inl rfl) (pe_callTy call_listS (by rfl) T.z_list (by decide +kernel) (pa_cons (pv 0) pa_nil)))
      (pss_cons (ps_set (i := 3) sc__law_right.nd rfl (Or.inl rfl) (pe_call (ok_from_base64 T) (hr.mono (by decide)) (by rfl) T.g_from_base64 T.F_from_base64.kp T.b_from_base64 .nil pass0 (pa_cons (pv 2) (pa_cons (pv 1) pa_nil))))
      (pss_cons (ps_set (i := 4) sc__law_right.nd rfl (Or.inl rfl) (pe_call (ok__law_due T) hr (by rfl) T.g__law_due T.F__law_due.kp T.b__law_due .nil pass0 (pa_cons (pv 0) (pa_cons (pv 1) pa_nil))))
      (pss_cons (ps_if (PW.pt (pw_or (pt_not (pt_val (pe_callB call_isiB (by rfl) T.z_isinstance (by decide +kernel) (pa_cons (pv 3) (pa_cons (pe_bltn (v := .ty "tuple") (u := .type "tuple") (by rfl) T.z_tuple (by decide +kernel) rfl) pa_nil))))) (pw_or (pt_cmpR op_ne (pe_callB call_lenT (by rfl) T.z_len PySem.boot_len (pa_cons (pv 3) pa_nil)) pe_int (nomark _)) (pw_or1 (pt_cmpR (op_neIL hr.units) (pv 2) (pv 0) (nomark _)))))) (pss_one (ps_ret pe_bl)) pss_nil)
      (pss_one (ps_ret (pe_and (pe_call (ok__law_is_list T) (hr.mono (by decide)) (by rfl) T.g__law_is_list T.F__law_is_list.kp T.b__law_is_list .nil pass0 (pa_cons (pe_ix ix_tupH (pv 3) pe_int (fun _ _ => rfl)) (pa_cons (pe_ix ix_tupH (pv 4) pe_int (fun _ _ => rfl)) pa_nil))) (pe_and (pe_call (ok__law_integer T) (hr.mono (by decide)) (by rfl) T.g__law_integer T.F__law_integer.kp T.b__law_integer .nil pass0 (pa_cons (pe_ix ix_tupH (pv 3) pe_int (fun _ _ => rfl)) pa_nil)) (pe_one (pe_cmpR op_eq (pe_ix ix_tupH (pv 3) pe_int (fun _ _ => rfl)) (pe_ix ix_tupH (pv 4) pe_int (fun _ _ => rfl)) (nomark _))))))))))), ?_⟩
    walk_at "vc ha"
    intro p1 H1 s1 n1 g1
    have ha1 := s1 _ _ ha
    refine ⟨p1, ns, left, rfl, g1, hn, fun H2 p2 f2 s2 n2 nf2 g2 gf2 => ?_⟩
    refine ⟨a, ns, left, rfl, s2 _ _ ha1, hn, fun H3 p3 f3 s3 n3 nf3 g3 gf3 => ?_⟩
    have g23 := s3 _ _ g2
    have gf23 := s3 _ _ gf2
    have g13 := s3 _ _ (s2 _ _ g1)
    have ha3 := s3 _ _ (s2 _ _ ha1)
    rw [due_eq] at gf3
    walk_at "vc g23 g13 ha3"
    refine ⟨_, g3, _, rfl, f2, f3, _, rfl, gf23, gf3, fun H4 s4 => ?_⟩
    have g24 := s4 _ _ g23
    have g34 := s4 _ _ g3
    walk_at "vc g24 g34 sp__law_integer"
    exact q _ (s1.trans (s2.trans (s3.trans s4)))

theorem fb_plus (ns : List Int) (k : Nat) : fbR ns ((ns.length : Int) + k) = fromV (vls ns) ∧ fbL ns ((ns.length : Int) + k) = k := by
  unfold fbR fbL
  rw [if_neg (by omega), if_neg (by omega)]
  exact ⟨rfl, by omega⟩
theorem bare_len (l : List Int) : (bareL l).length ≤ l.length := List.length_filter_le _ _
def drawn (ns : List Int) : List Int := byL (cellA ns 1) (absI (cellA ns 0) % 41).toNat
def few : List Int := [251, 255, 191, 62, 63]
def spLaw (K : PySem.W.Frag) : Sp := fun vs H Q _ => ∃ (a : Addr) (ns : List Int), vs = [.ref a] ∧ SqL K H a (ns.map V.int) ∧ ns.length ≤ 63 ∧ ∀ H', Q (.bl true) H'
theorem ok_law_of {f : Addr} {fd : FuncData} (F : Fun K "law" "law" s_law f fd) (T : Txt K mg) : FnOk P w K mg base CX0 5 f fd ["script"] (spLaw K) := by
  refine F.ok sc_law (fun vs H Q E h => ?_) (fun cdv A outer s H vs Q E hr h => ?_)
  · obtain ⟨a, ns, rfl, _⟩ := h
    rfl
  · obtain ⟨a, ns, rfl, hS, hlen, q⟩ := h
    refine ⟨_, (pss_cons (ps_set (i := 1) sc_law.nd rfl (Or.inl rfl) (pe_call (ok__law_bytes T) (hr.mono (by decide)) (by rfl) T.g__law_bytes T.F__law_bytes.kp T.b__law_bytes .nil pass0 (pa_cons (pe_call (ok__law_cell T a ns) (hr.mono (by decide)) (by rfl) T.g__law_cell T.F__law_cell.kp T.b__law_cell .nil pass0 (pa_cons (pv 0) (pa_cons pe_int pa_nil))) (pa_cons (pe_op op_mod (pe_callB call_abs (by rfl) T.z_abs (by decide +kernel) (pa_cons (pe_call (ok__law_cell T a ns) (hr.mono (by decide)) (by rfl) T.g__law_cell T.F__law_cell.kp T.b__law_cell .nil pass0 (pa_cons (pv 0) (pa_cons pe_int pa_nil))) pa_nil)) pe_int) pa_nil))))
      (pss_cons (ps_if (pt_cmpR op_eq (pe_op op_mod (pe_op op_fdiv (pe_call (ok__law_cell T a ns) (hr.mono (by decide)) (by rfl) T.g__law_cell T.F__law_cell.kp T.b__law_cell .nil pass0 (pa_cons (pv 0) (pa_cons pe_int pa_nil))) pe_int) pe_int) pe_int (nomark _)) (pss_one (ps_setLc (i := 1) (own := [("byte", 2)]) (g := (gName 2)) rfl sc_law.nd rfl rfl (sw_true rfl rfl rfl (by decide +kernel)) (pi_listS (pv 1)) (blkOk_by (own := [("byte", 2)]) (N := ["script", "data", "byte", "given", "codes", "mixed", "bare", "code", "cell", "rows", "row", "left"]) (sc := defScope s_law) (by decide +kernel)) (fun _ _ _ _ _ => (pg_name (i := 2) sc_law.nd rfl (Or.inl rfl))) (fun _ _ _ _ _ => pts_nil) (fun _ _ _ _ _ => (pe_ix ix_listH (pe_lstS (pa_cons pe_int (pa_cons pe_int (pa_cons pe_int (pa_cons pe_int (pa_cons pe_int pa_nil)))))) (pe_op op_mod (pv 2) pe_int) (fun _ _ => rfl))))) pss_nil)
      (pss_cons (ps_set (i := 3) sc_law.nd rfl (Or.inl rfl) (pe_callTy call_listS (by rfl) T.z_list (by decide +kernel) (pa_cons (pv 1) pa_nil)))
      (pss_cons (ps_set (i := 4) sc_law.nd rfl (Or.inl rfl) (pe_call (ok__law_written T) (hr.mono (by decide)) (by rfl) T.g__law_written T.F__law_written.kp T.b__law_written .nil pass0 (pa_cons (pv 1) pa_nil)))
      (pss_cons (ps_if (PW.pt (pw_or (pt_not (pt_val (pe_call (ok__law_is_list T) (hr.mono (by decide)) (by rfl) T.g__law_is_list T.F__law_is_list.kp T.b__law_is_list .nil pass0 (pa_cons (pe_call (ok_to_base64 T) (hr.mono (by decide)) (by rfl) T.g_to_base64 T.F_to_base64.kp T.b_to_base64 .nil pass0 (pa_cons (pv 3) pa_nil)) (pa_cons (pv 4) pa_nil))))) (pw_or1 (pt_cmpR (op_neIL hr.units) (pv 3) (pv 1) (nomark _))))) (pss_one (ps_ret pe_bl)) pss_nil)
      (pss_cons (ps_set (i := 5) sc_law.nd rfl (Or.inl rfl) (pe_call (ok__law_mixed T) (hr.mono (by decide)) (by rfl) T.g__law_mixed T.F__law_mixed.kp T.b__law_mixed .nil pass0 (pa_cons (pv 4) (pa_cons (pe_callB call_abs (by rfl) T.z_abs (by decide +kernel) (pa_cons (pe_call (ok__law_cell T a ns) (hr.mono (by decide)) (by rfl) T.g__law_cell T.F__law_cell.kp T.b__law_cell .nil pass0 (pa_cons (pv 0) (pa_cons pe_int pa_nil))) pa_nil)) pa_nil))))
      (pss_cons (ps_if (pt_cmpR (op_neLI hr.units) (pe_call (ok_from_base64 T) (hr.mono (by decide)) (by rfl) T.g_from_base64 T.F_from_base64.kp T.b_from_base64 .nil pass0 (pa_cons (pe_callTy call_listS (by rfl) T.z_list (by decide +kernel) (pa_cons (pv 5) pa_nil)) (pa_cons (pe_op op_add (pe_callB call_lenH (by rfl) T.z_len PySem.boot_len (pa_cons (pv 5) pa_nil)) pe_int) pa_nil))) (pe_tupS (pa_cons (pv 1) (pa_cons pe_int pa_nil))) (nomark _)) (pss_one (ps_ret pe_bl)) pss_nil)
      (pss_cons (ps_setLc (i := 6) (own := [("code", 7)]) (g := (gName 7)) rfl sc_law.nd rfl rfl (sw_true rfl rfl rfl (by decide +kernel)) (pi_listS (pv 5)) (blkOk_by (own := [("code", 7)]) (N := ["script", "data", "byte", "given", "codes", "mixed", "bare", "code", "cell", "rows", "row", "left"]) (sc := defScope s_law) (by decide +kernel)) (fun _ _ _ _ _ => (pg_name (i := 7) sc_law.nd rfl (Or.inl rfl))) (fun _ _ _ _ _ => (pts_one (pt_cmpR op_ne (pv 7) pe_int (nomark _)))) (fun _ _ _ _ _ => (pv 7)))
      (pss_cons (ps_if (pt_cmpR (op_neLI hr.units) (pe_call (ok_from_base64 T) (hr.mono (by decide)) (by rfl) T.g_from_base64 T.F_from_base64.kp T.b_from_base64 .nil pass0 (pa_cons (pe_callTy call_listS (by rfl) T.z_list (by decide +kernel) (pa_cons (pv 6) pa_nil)) (pa_cons (pe_callB call_lenH (by rfl) T.z_len PySem.boot_len (pa_cons (pv 6) pa_nil)) pa_nil))) (pe_tupS (pa_cons (pv 1) (pa_cons pe_int pa_nil))) (nomark _)) (pss_one (ps_ret pe_bl)) pss_nil)
      (pss_cons (ps_set (i := 8) sc_law.nd rfl (Or.inl rfl) (pe_callB call_abs (by rfl) T.z_abs (by decide +kernel) (pa_cons (pe_call (ok__law_cell T a ns) (hr.mono (by decide)) (by rfl) T.g__law_cell T.F__law_cell.kp T.b__law_cell .nil pass0 (pa_cons (pv 0) (pa_cons pe_int pa_nil))) pa_nil)))
      (pss_cons (ps_set (i := 9) sc_law.nd rfl (Or.inl rfl) (pe_lstS (pa_cons (pe_op op_catS (pv 5) (pe_lstS (pa_cons pe_int (pa_cons pe_int (pa_cons pe_int pa_nil))))) (pa_cons (pe_op op_catS (pv 6) (pe_lstS (pa_cons (pe_op op_add pe_int (pe_op op_mod (pv 8) pe_int)) pa_nil))) (pa_cons (pe_call (ok__law_bytes T) (hr.mono (by decide)) (by rfl) T.g__law_bytes T.F__law_bytes.kp T.b__law_bytes .nil pass0 (pa_cons (pe_call (ok__law_cell T a ns) (hr.mono (by decide)) (by rfl) T.g__law_cell T.F__law_cell.kp T.b__law_cell .nil pass0 (pa_cons (pv 0) (pa_cons pe_int pa_nil))) (pa_cons (pe_op op_mod (pv 8) pe_int) pa_nil))) (pa_cons (pe_lstS pa_nil) (pa_cons (pe_lstS (pa_cons pe_int pa_nil)) pa_nil)))))))
      (pss_cons (ps_for PassesOwn.never rfl (pi_listS (pv 9)) (pg_name (i := 10) sc_law.nd rfl (Or.inl rfl)) (pss_one (ps_for PassesOwn.never rfl (pi_listS (pe_lstS (pa_cons (pe_callB call_lenH (by rfl) T.z_len PySem.boot_len (pa_cons (pv 10) pa_nil)) (pa_cons (pe_op op_add (pe_callB call_lenH (by rfl) T.z_len PySem.boot_len (pa_cons (pv 10) pa_nil)) (pe_op op_mod (pe_op op_fdiv (pv 8) pe_int) pe_int)) (pa_cons (pe_callB (call_max2 rfl) (by rfl) T.z_max (by decide +kernel) (pa_cons pe_int (pa_cons (pe_op op_sub (pe_op op_sub (pe_callB call_lenH (by rfl) T.z_len PySem.boot_len (pa_cons (pv 10) pa_nil)) pe_int) (pe_op op_mod (pe_op op_fdiv (pv 8) pe_int) pe_int)) pa_nil))) pa_nil))))) (pg_name (i := 11) sc_law.nd rfl (Or.inl rfl)) (pss_one (ps_if (pt_not (pt_val (pe_call (ok__law_right T) hr (by rfl) T.g__law_right T.F__law_right.kp T.b__law_right .nil pass0 (pa_cons (pv 10) (pa_cons (pv 11) pa_nil))))) (pss_one (ps_ret pe_bl)) pss_nil)))))
      (pss_one (ps_ret pe_bl)))))))))))))), ?_⟩
    have hd41 : 0 ≤ absI (cellA ns 0) % 41 ∧ absI (cellA ns 0) % 41 < 41 := mod_in _ (by decide)
    refine seq_cut (fun σ H' => ∃ p, σ = (some (.ref a)) :: (some (.ref p)) :: List.replicate 10 none ∧ Same H H' ∧ H' p = some (.lst (List.map V.int (drawn ns)))) ?_ (fun C hC => ?_)
    rotate_left
    · walk_at "vc hS sp__law_cell"
      exact ⟨_, _, rfl, ⟨hd41.1, by omega⟩, fun H' p' s' n' g' => hC _ _ ⟨p', rfl, s', g'⟩⟩
    rintro σ H' ⟨p, rfl, sm, gp⟩
    have hS1 := sm.seq hS
    refine seq_cut (fun σ H' => ∃ p v, σ = (some (.ref a)) :: (some (.ref p)) :: v :: List.replicate 9 none ∧ Same H H' ∧ ∃ ds, H' p = some (.lst (List.map V.int ds)) ∧ ds.length ≤ 41 ∧ Byt ds) ?_ (fun C hC => ?_)
    rotate_left
    · walk_at "vc hS1 gp sp__law_cell"
      have hdl : (drawn ns).length ≤ 41 := by unfold drawn; rw [byL_len]; omega
      have hdB : Byt (drawn ns) := byL_mem _ _
      generalize drawn ns = ds at gp hdl hdB
      refine iteP (fun z => ?_) (fun z => hC _ _ ⟨p, none, rfl, sm, ds, gp, hdl, hdB⟩)
      refine lcL (walkI (ns := ds)) (L := fun i => List.map V.int ((List.map (fun b => few.getD (b % 5).toNat 0) ds).take i)) rfl (fun _ s => s _ _ gp) (fun D j x H4 H5 hj hD s4 g4 y => ?_) (fun pL H4 s4 n4 g4 => ?_)
      · obtain ⟨rfl, b, hb, rfl⟩ := y
        walk_at "vc"
        intro p6 H6 s6 n6 g6
        have g46 := s6 _ _ g4
        refine ⟨_, g6, .int (few.getD (b % 5).toNat 0), at_g' (ns := few) (k := b % 5) (i := (b % 5).toNat) (by omega) (by show _ < 5; omega), _, g46, ?_, same_upd2 (s4.trans s6) hD, ?_⟩
        · rw [List.length_map, List.length_take, List.length_map]; exact cnt_lt (by omega)
        · rw [take_map_succ _ hb, List.map_append]; rfl
      · refine hC _ _ ⟨pL, _, rfl, sm.trans s4, _, g4, ?_, ?_⟩
        · rw [List.length_take, List.length_map]; omega
        · intro v hv
          obtain ⟨b, _, rfl⟩ := List.mem_map.mp (List.mem_of_mem_take hv)
          have : ∀ d : _root_.Fin 5, 0 ≤ few.getD d 0 ∧ few.getD d 0 < 256 := by decide
          exact this ⟨(b % 5).toNat, by omega⟩
    rintro σ H1 ⟨p1, v, rfl, s1, ds, g1, hdl, hdB⟩
    walk_at "vc g1"
    intro p2 H2 s2 n2 g2
    have g12 := s2 _ _ g1
    have hdn : ds.length ≤ 1000 := by omega
    have htb : (toB ds).length ≤ 56 := by unfold toB; rw [tF_len]; omega
    refine ⟨p1, ds, rfl, g12, hdn, hdB, fun H3 p3 s3 g3 => ?_⟩
    have g23 := s3 _ _ g2
    refine ⟨p2, ds, rfl, g23, hdn, hdB, fun H4 p4 s4 n4 g4 => ?_⟩
    refine ⟨p4, p3, toB ds, rfl, g4, s4 _ _ g3, fun H5 s5 => ?_⟩
    have s25 := (s3.trans s4).trans s5
    have g15 := s25 _ _ g12
    have g25 := s25 _ _ g2
    have g35 := s5 _ _ (s4 _ _ g3)
    have hS5 := (s1.trans (s2.trans s25)).seq hS
    refine ⟨true, rfl, iteP (fun z => absurd z (by decide)) fun _ => ⟨ds, g25, ds, g15, ?_⟩⟩
    rw [decide_eq_true (rfl : ds = ds)]
    refine iteP (fun z => absurd z (by decide)) fun _ => ⟨2, rfl, by decide, hS5, _, rfl, p3, toB ds, _, rfl, g35, by omega, fun H6 p6 s6 n6 g6 => ?_⟩
    generalize absI (cellA ns (2 : Int).toNat) = cell at g6
    have hml := mix_len cell (toB ds) 0
    have b1 := back1 hdB cell
    have b2 := back2 hdB cell
    generalize mixF cell 0 (toB ds) = mx1 at g6 hml b1 b2
    refine ⟨p6, rfl, _, g6, fun p7 H7 s7 n7 g7 => ⟨p6, rfl, _, s7 _ _ g6, p7, mx1, _, rfl, g7, by omega, fun H8 p8 f8 s8 n8 nf8 g8 gf8 => ?_⟩⟩
    rw [List.length_map] at g8 gf8
    obtain ⟨e1, e2⟩ := fb_plus mx1 3
    rw [show ((mx1.length : Int) + 3) = (mx1.length : Int) + ((3 : Nat) : Int) from rfl, e2] at g8
    rw [show ((mx1.length : Int) + 3) = (mx1.length : Int) + ((3 : Nat) : Int) from rfl, e1, b1] at gf8
    intro p9 H9 s9 n9 g9
    have s59 := s6.trans (s7.trans (s8.trans s9))
    have g19 := s59 _ _ g15
    refine ⟨p8, p9, f8, p1, _, _, _, _, rfl, rfl, s9 _ _ g8, g9, s9 _ _ gf8, g19, _, rfl, ?_⟩
    refine iteF' (by simp) ⟨p6, rfl, ⟨_, (s7.trans (s8.trans s9)) _ _ g6⟩, ?_⟩
    have g69 := (s7.trans (s8.trans s9)) _ _ g6
    refine lcL (walkI (ns := mx1)) (L := fun i => List.map V.int (bareL (mx1.take i))) rfl (fun _ s => s _ _ g69) (fun D j x H10 H11 hj hD s10 g10 y => ?_) (fun pB H10 s10 n10 g10 => ?_)
    · obtain ⟨rfl, c, hc, rfl⟩ := y
      have hl : (bareL (mx1.take j)).length ≤ 1000 := by
        have := bare_len (mx1.take j)
        rw [List.length_take] at this
        omega
      rw [take_succ hc, show bareL (mx1.take j ++ [c]) = bareL (mx1.take j) ++ bareL [c] by unfold bareL; rw [List.filter_append]]
      walk_at "vc g10"
      by_cases h : c = 61
      · refine iteF' (by simp [h]) ?_
        rw [show bareL [c] = [] by rw [h]; rfl, List.append_nil]
        exact ⟨s10, rfl⟩
      · refine iteT' (by simp [h]) ?_
        rw [show bareL [c] = [c] by unfold bareL; rw [List.filter_cons, decide_eq_true h]; rfl]
        exact ⟨cnt_lt (by omega), same_upd2 s10 hD, rfl⟩
    rw [List.take_length] at g10
    have hbl := bare_len mx1
    have hno := bare_no mx1
    generalize bareL mx1 = br at g10 hbl hno b2
    refine ⟨pB, rfl, _, g10, fun p11 H11 s11 n11 g11 => ⟨pB, rfl, _, s11 _ _ g10, p11, br, _, rfl, g11, by omega, fun H12 p12 f12 s12 n12 nf12 g12' gf12 => ?_⟩⟩
    rw [List.length_map] at g12' gf12
    obtain ⟨e3, e4⟩ := fb_plus br 0
    rw [show (br.length : Int) = (br.length : Int) + ((0 : Nat) : Int) by omega, e4] at g12'
    rw [show (br.length : Int) = (br.length : Int) + ((0 : Nat) : Int) by omega, e3, b2] at gf12
    intro p13 H13 s13 n13 g13
    have s913 := s10.trans (s11.trans (s12.trans s13))
    refine ⟨p12, p13, f12, p1, _, _, _, _, rfl, rfl, s13 _ _ g12', g13, s13 _ _ gf12, s913 _ _ g19, _, rfl, ?_⟩
    refine iteF' (by simp) ?_
    have hS13 := (s59.trans s913).seq hS5
    refine ⟨3, rfl, by decide, hS13, _, rfl, ?_⟩
    have g613 := s913 _ _ g69
    have gB13 := (s11.trans (s12.trans s13)) _ _ g10
    generalize absI (cellA ns (3 : Int).toNat) = c3
    have hc5 : 0 ≤ c3 % 50 ∧ c3 % 50 < 50 := mod_in _ (by decide)
    intro r1 J1 t1 m1 k1
    refine ⟨p6, rfl, _, t1 _ _ g613, _, k1, by rw [List.length_map]; exact Nat.le_of_lt (cnt_lt (show _ + 3 ≤ 2000000 by omega)), fun r2 J2 t2 m2 k2 r3 J3 t3 m3 k3 => ?_⟩
    refine ⟨pB, rfl, _, (t1.trans (t2.trans t3)) _ _ gB13, _, k3, by rw [List.length_map]; exact Nat.le_of_lt (cnt_lt (show _ + 1 ≤ 2000000 by omega)), fun r4 J4 t4 m4 k4 => ?_⟩
    have tS := t1.trans (t2.trans (t3.trans t4))
    refine ⟨4, rfl, by decide, tS.seq hS13, _, _, rfl, ⟨hc5.1, by omega⟩, fun J5 r5 t5 m5 k5 => ?_⟩
    intro r6 J6 t6 m6 k6 r7 J7 t7 m7 k7 rR J8 t8 m8 k8
    refine ⟨⟨_, k8⟩, ?_⟩
    have hrow : ∀ x ∈ [V.ref r2, V.ref r4, V.ref r5, V.ref r6, V.ref r7], ∃ (r : Addr) (l : List Int), x = .ref r ∧ J8 r = some (.lst (List.map V.int l)) ∧ l.length ≤ 1000 := by
      have u5 := t6.trans (t7.trans t8)
      have u4 := t5.trans u5
      have hby := byL_len (cellA ns (Int.toNat 4)) (c3 % 50).toNat
      intro x hx
      simp only [List.mem_cons, List.not_mem_nil, or_false] at hx
      rcases hx with rfl | rfl | rfl | rfl | rfl
      · exact ⟨r2, mx1 ++ [61, 65, 66], rfl, by rw [(t3.trans (t4.trans u4)) _ _ k2]; simp, by rw [List.length_append]; show _ + 3 ≤ _; omega⟩
      · exact ⟨r4, br ++ [48 + c3 % 10], rfl, by rw [u4 _ _ k4]; simp, by rw [List.length_append]; show _ + 1 ≤ _; omega⟩
      · exact ⟨r5, _, rfl, u5 _ _ k5, by omega⟩
      · exact ⟨r6, [], rfl, (t7.trans t8) _ _ k6, Nat.zero_le _⟩
      · exact ⟨r7, [65], rfl, t8 _ _ k7, by decide⟩
    generalize [V.ref r2, V.ref r4, V.ref r5, V.ref r6, V.ref r7] = rows at k8 hrow
    refine lpW (walkL (xs := rows)) (fun i σ H' => ∃ (v10 v11 : Option V), σ = [some (.ref a), some (.ref p1), v, some (.ref p2), some (.ref p3), some (.ref p6), some (.ref pB), none, some (.int c3), some (.ref rR), v10, v11] ∧ Same J8 H') ⟨_, _, rfl, Same.refl _⟩ (fun i σ H' _ ⟨_, _, _, sm⟩ => sm _ _ k8) ?_ ?_
    · rintro i x σ H' H'' hi ⟨v10, v11, rfl, sm⟩ ⟨rfl, hx⟩
      obtain ⟨r, l, rfl, gr, hl⟩ := hrow x (List.mem_of_getElem? hx)
      have gr2 := sm _ _ gr
      walk_at "vc gr2"
      intro r9 J9 t9 m9 k9
      refine ⟨⟨_, k9⟩, ?_⟩
      have hint : ∀ x ∈ [V.int (l.length : Int), V.int ((l.length : Int) + c3 / 50 % 9), V.int (mx 0 ((l.length : Int) - 1 - c3 / 450 % 3))], ∃ z, x = V.int z := by
        intro x hx
        simp only [List.mem_cons, List.not_mem_nil, or_false] at hx
        rcases hx with rfl | rfl | rfl <;> exact ⟨_, rfl⟩
      generalize [V.int (l.length : Int), V.int ((l.length : Int) + c3 / 50 % 9), V.int (mx 0 ((l.length : Int) - 1 - c3 / 450 % 3))] = lefts at k9 hint
      refine lpW (walkL (xs := lefts)) (fun i σ H' => ∃ (v11 : Option V), σ = [some (.ref a), some (.ref p1), v, some (.ref p2), some (.ref p3), some (.ref p6), some (.ref pB), none, some (.int c3), some (.ref rR), some (.ref r), v11] ∧ Same J9 H') ⟨_, rfl, Same.refl _⟩ (fun i σ H' _ ⟨_, _, sm⟩ => sm _ _ k9) ?_ ?_
      · rintro j y σ H' H3' hj ⟨v11, rfl, sm2⟩ ⟨rfl, hy⟩
        obtain ⟨z, rfl⟩ := hint y (List.mem_of_getElem? hy)
        walk_at "vc"
        refine ⟨r, l, z, rfl, sm2 _ _ (t9 _ _ gr2), hl, fun H4' s4' => ?_⟩
        exact ⟨true, rfl, iteF' rfl (sm2.trans s4')⟩
      · rintro σ H' ⟨v11, rfl, sm2⟩
        exact ⟨⟨_, _, rfl⟩, sm.trans (t9.trans sm2)⟩
    · rintro σ H' ⟨v10, v11, rfl, sm⟩
      walk_at "vc"
      exact q _

end
theorem all_mk {l : PySem.W.OpenLaw} {w : World} {K : PySem.W.Frag} {h : Heap} {mg : Str → Option Value} {fa : Addr} (X : K.In h) (G : h.Ns mainGlobals mg) (hfa : mg "law" = some (.ref fa))
    {f1 : Addr} {od1 an1 : Option Addr} {sl1 : Array (Option Value)} {oc1 kV1 dc1 pm1 cd1 ct1 : Value}
    (a1 : PySem.W.nsIn K mainGlobals "spend" = some (some (.ref f1))) (l1 : K.lookup f1 = some ⟨oc1, od1, .func (PySem.W.fnOf "spend" "spend" (defArgs s_spend) (defBody s_spend) (defScope s_spend) .none kV1 dc1 pm1 an1 cd1 ct1), sl1⟩) (c1 : PySem.W.codeIn K cd1 "spend" = true) (k1 : PySem.W.keepIn K (.ref f1) = true)
    {f2 : Addr} {od2 an2 : Option Addr} {sl2 : Array (Option Value)} {oc2 kV2 dc2 pm2 cd2 ct2 : Value}
    (a2 : PySem.W.nsIn K mainGlobals "to_base64" = some (some (.ref f2))) (l2 : K.lookup f2 = some ⟨oc2, od2, .func (PySem.W.fnOf "to_base64" "to_base64" (defArgs s_to_base64) (defBody s_to_base64) (defScope s_to_base64) .none kV2 dc2 pm2 an2 cd2 ct2), sl2⟩) (c2 : PySem.W.codeIn K cd2 "to_base64" = true) (k2 : PySem.W.keepIn K (.ref f2) = true)
    {f3 : Addr} {od3 an3 : Option Addr} {sl3 : Array (Option Value)} {oc3 kV3 dc3 pm3 cd3 ct3 : Value}
    (a3 : PySem.W.nsIn K mainGlobals "_four_signs" = some (some (.ref f3))) (l3 : K.lookup f3 = some ⟨oc3, od3, .func (PySem.W.fnOf "_four_signs" "_four_signs" (defArgs s__four_signs) (defBody s__four_signs) (defScope s__four_signs) .none kV3 dc3 pm3 an3 cd3 ct3), sl3⟩) (c3 : PySem.W.codeIn K cd3 "_four_signs" = true) (k3 : PySem.W.keepIn K (.ref f3) = true)
    {f4 : Addr} {od4 an4 : Option Addr} {sl4 : Array (Option Value)} {oc4 kV4 dc4 pm4 cd4 ct4 : Value}
    (a4 : PySem.W.nsIn K mainGlobals "from_base64" = some (some (.ref f4))) (l4 : K.lookup f4 = some ⟨oc4, od4, .func (PySem.W.fnOf "from_base64" "from_base64" (defArgs s_from_base64) (defBody s_from_base64) (defScope s_from_base64) .none kV4 dc4 pm4 an4 cd4 ct4), sl4⟩) (c4 : PySem.W.codeIn K cd4 "from_base64" = true) (k4 : PySem.W.keepIn K (.ref f4) = true)
    {f5 : Addr} {od5 an5 : Option Addr} {sl5 : Array (Option Value)} {oc5 kV5 dc5 pm5 cd5 ct5 : Value}
    (a5 : PySem.W.nsIn K mainGlobals "_sign_values" = some (some (.ref f5))) (l5 : K.lookup f5 = some ⟨oc5, od5, .func (PySem.W.fnOf "_sign_values" "_sign_values" (defArgs s__sign_values) (defBody s__sign_values) (defScope s__sign_values) .none kV5 dc5 pm5 an5 cd5 ct5), sl5⟩) (c5 : PySem.W.codeIn K cd5 "_sign_values" = true) (k5 : PySem.W.keepIn K (.ref f5) = true)
    {f6 : Addr} {od6 an6 : Option Addr} {sl6 : Array (Option Value)} {oc6 kV6 dc6 pm6 cd6 ct6 : Value}
    (a6 : PySem.W.nsIn K mainGlobals "_three_bytes" = some (some (.ref f6))) (l6 : K.lookup f6 = some ⟨oc6, od6, .func (PySem.W.fnOf "_three_bytes" "_three_bytes" (defArgs s__three_bytes) (defBody s__three_bytes) (defScope s__three_bytes) .none kV6 dc6 pm6 an6 cd6 ct6), sl6⟩) (c6 : PySem.W.codeIn K cd6 "_three_bytes" = true) (k6 : PySem.W.keepIn K (.ref f6) = true)
    {f7 : Addr} {od7 an7 : Option Addr} {sl7 : Array (Option Value)} {oc7 kV7 dc7 pm7 cd7 ct7 : Value}
    (a7 : PySem.W.nsIn K mainGlobals "_law_cell" = some (some (.ref f7))) (l7 : K.lookup f7 = some ⟨oc7, od7, .func (PySem.W.fnOf "_law_cell" "_law_cell" (defArgs s__law_cell) (defBody s__law_cell) (defScope s__law_cell) .none kV7 dc7 pm7 an7 cd7 ct7), sl7⟩) (c7 : PySem.W.codeIn K cd7 "_law_cell" = true) (k7 : PySem.W.keepIn K (.ref f7) = true)
    {f8 : Addr} {od8 an8 : Option Addr} {sl8 : Array (Option Value)} {oc8 kV8 dc8 pm8 cd8 ct8 : Value}
    (a8 : PySem.W.nsIn K mainGlobals "_law_twice" = some (some (.ref f8))) (l8 : K.lookup f8 = some ⟨oc8, od8, .func (PySem.W.fnOf "_law_twice" "_law_twice" (defArgs s__law_twice) (defBody s__law_twice) (defScope s__law_twice) .none kV8 dc8 pm8 an8 cd8 ct8), sl8⟩) (c8 : PySem.W.codeIn K cd8 "_law_twice" = true) (k8 : PySem.W.keepIn K (.ref f8) = true)
    {f9 : Addr} {od9 an9 : Option Addr} {sl9 : Array (Option Value)} {oc9 kV9 dc9 pm9 cd9 ct9 : Value}
    (a9 : PySem.W.nsIn K mainGlobals "_law_bytes" = some (some (.ref f9))) (l9 : K.lookup f9 = some ⟨oc9, od9, .func (PySem.W.fnOf "_law_bytes" "_law_bytes" (defArgs s__law_bytes) (defBody s__law_bytes) (defScope s__law_bytes) .none kV9 dc9 pm9 an9 cd9 ct9), sl9⟩) (c9 : PySem.W.codeIn K cd9 "_law_bytes" = true) (k9 : PySem.W.keepIn K (.ref f9) = true)
    {f10 : Addr} {od10 an10 : Option Addr} {sl10 : Array (Option Value)} {oc10 kV10 dc10 pm10 cd10 ct10 : Value}
    (a10 : PySem.W.nsIn K mainGlobals "_law_integer" = some (some (.ref f10))) (l10 : K.lookup f10 = some ⟨oc10, od10, .func (PySem.W.fnOf "_law_integer" "_law_integer" (defArgs s__law_integer) (defBody s__law_integer) (defScope s__law_integer) .none kV10 dc10 pm10 an10 cd10 ct10), sl10⟩) (c10 : PySem.W.codeIn K cd10 "_law_integer" = true) (k10 : PySem.W.keepIn K (.ref f10) = true)
    {f11 : Addr} {od11 an11 : Option Addr} {sl11 : Array (Option Value)} {oc11 kV11 dc11 pm11 cd11 ct11 : Value}
    (a11 : PySem.W.nsIn K mainGlobals "_law_is_list" = some (some (.ref f11))) (l11 : K.lookup f11 = some ⟨oc11, od11, .func (PySem.W.fnOf "_law_is_list" "_law_is_list" (defArgs s__law_is_list) (defBody s__law_is_list) (defScope s__law_is_list) .none kV11 dc11 pm11 an11 cd11 ct11), sl11⟩) (c11 : PySem.W.codeIn K cd11 "_law_is_list" = true) (k11 : PySem.W.keepIn K (.ref f11) = true)
    {f12 : Addr} {od12 an12 : Option Addr} {sl12 : Array (Option Value)} {oc12 kV12 dc12 pm12 cd12 ct12 : Value}
    (a12 : PySem.W.nsIn K mainGlobals "_law_signs" = some (some (.ref f12))) (l12 : K.lookup f12 = some ⟨oc12, od12, .func (PySem.W.fnOf "_law_signs" "_law_signs" (defArgs s__law_signs) (defBody s__law_signs) (defScope s__law_signs) .none kV12 dc12 pm12 an12 cd12 ct12), sl12⟩) (c12 : PySem.W.codeIn K cd12 "_law_signs" = true) (k12 : PySem.W.keepIn K (.ref f12) = true)
    {f13 : Addr} {od13 an13 : Option Addr} {sl13 : Array (Option Value)} {oc13 kV13 dc13 pm13 cd13 ct13 : Value}
    (a13 : PySem.W.nsIn K mainGlobals "_law_value" = some (some (.ref f13))) (l13 : K.lookup f13 = some ⟨oc13, od13, .func (PySem.W.fnOf "_law_value" "_law_value" (defArgs s__law_value) (defBody s__law_value) (defScope s__law_value) .none kV13 dc13 pm13 an13 cd13 ct13), sl13⟩) (c13 : PySem.W.codeIn K cd13 "_law_value" = true) (k13 : PySem.W.keepIn K (.ref f13) = true)
    {f14 : Addr} {od14 an14 : Option Addr} {sl14 : Array (Option Value)} {oc14 kV14 dc14 pm14 cd14 ct14 : Value}
    (a14 : PySem.W.nsIn K mainGlobals "_law_due" = some (some (.ref f14))) (l14 : K.lookup f14 = some ⟨oc14, od14, .func (PySem.W.fnOf "_law_due" "_law_due" (defArgs s__law_due) (defBody s__law_due) (defScope s__law_due) .none kV14 dc14 pm14 an14 cd14 ct14), sl14⟩) (c14 : PySem.W.codeIn K cd14 "_law_due" = true) (k14 : PySem.W.keepIn K (.ref f14) = true)
    {f15 : Addr} {od15 an15 : Option Addr} {sl15 : Array (Option Value)} {oc15 kV15 dc15 pm15 cd15 ct15 : Value}
    (a15 : PySem.W.nsIn K mainGlobals "_law_written" = some (some (.ref f15))) (l15 : K.lookup f15 = some ⟨oc15, od15, .func (PySem.W.fnOf "_law_written" "_law_written" (defArgs s__law_written) (defBody s__law_written) (defScope s__law_written) .none kV15 dc15 pm15 an15 cd15 ct15), sl15⟩) (c15 : PySem.W.codeIn K cd15 "_law_written" = true) (k15 : PySem.W.keepIn K (.ref f15) = true)
    {f16 : Addr} {od16 an16 : Option Addr} {sl16 : Array (Option Value)} {oc16 kV16 dc16 pm16 cd16 ct16 : Value}
    (a16 : PySem.W.nsIn K mainGlobals "_law_right" = some (some (.ref f16))) (l16 : K.lookup f16 = some ⟨oc16, od16, .func (PySem.W.fnOf "_law_right" "_law_right" (defArgs s__law_right) (defBody s__law_right) (defScope s__law_right) .none kV16 dc16 pm16 an16 cd16 ct16), sl16⟩) (c16 : PySem.W.codeIn K cd16 "_law_right" = true) (k16 : PySem.W.keepIn K (.ref f16) = true)
    {f17 : Addr} {od17 an17 : Option Addr} {sl17 : Array (Option Value)} {oc17 kV17 dc17 pm17 cd17 ct17 : Value}
    (a17 : PySem.W.nsIn K mainGlobals "_law_mixed" = some (some (.ref f17))) (l17 : K.lookup f17 = some ⟨oc17, od17, .func (PySem.W.fnOf "_law_mixed" "_law_mixed" (defArgs s__law_mixed) (defBody s__law_mixed) (defScope s__law_mixed) .none kV17 dc17 pm17 an17 cd17 ct17), sl17⟩) (c17 : PySem.W.codeIn K cd17 "_law_mixed" = true) (k17 : PySem.W.keepIn K (.ref f17) = true)
    {f18 : Addr} {od18 an18 : Option Addr} {sl18 : Array (Option Value)} {oc18 kV18 dc18 pm18 cd18 ct18 : Value}
    (a18 : PySem.W.nsIn K mainGlobals "law" = some (some (.ref f18))) (l18 : K.lookup f18 = some ⟨oc18, od18, .func (PySem.W.fnOf "law" "law" (defArgs s_law) (defBody s_law) (defScope s_law) .none kV18 dc18 pm18 an18 cd18 ct18), sl18⟩) (c18 : PySem.W.codeIn K cd18 "law" = true) (k18 : PySem.W.keepIn K (.ref f18) = true)
    {t19 : Tok} (a19 : PySem.W.nsIn K mainGlobals "_BASE64_SIGNS" = some (some (.str "ABCDEFGHIJKLMNOPQRSTUVWXYZabcdefghijklmnopqrstuvwxyz0123456789+/" t19)))
    {t20 : Tok} (a20 : PySem.W.nsIn K mainGlobals "_EQUALS_SIGN" = some (some (.int 61 t20)))
    (a21 : PySem.W.nsIn K mainGlobals "abs" = some none)
    (a22 : PySem.W.nsIn K mainGlobals "bool" = some none)
    (a23 : PySem.W.nsIn K mainGlobals "enumerate" = some none)
    (a24 : PySem.W.nsIn K mainGlobals "int" = some none)
    (a25 : PySem.W.nsIn K mainGlobals "isinstance" = some none)
    (a26 : PySem.W.nsIn K mainGlobals "len" = some none)
    (a27 : PySem.W.nsIn K mainGlobals "list" = some none)
    (a28 : PySem.W.nsIn K mainGlobals "max" = some none)
    (a29 : PySem.W.nsIn K mainGlobals "ord" = some none)
    (a30 : PySem.W.nsIn K mainGlobals "range" = some none)
    (a31 : PySem.W.nsIn K mainGlobals "tuple" = some none)
    (a32 : PySem.W.nsIn K mainGlobals "zip" = some none)
    : ∃ fd : FuncData, (∀ (s : Shared) (v : Value), BindsTo s fd ⟨[v], []⟩ [("script", v)]) ∧ ∀ base : Heap, K.In base → base.Ns mainGlobals mg → FnOk l.prog w K mg base CX0 5 fa fd ["script"] (spLaw K) := by
  have e := hfa.symm.trans (PySem.W.mg_of X G a18)
  cases e
  have F1 := fun_mk (st := s_spend) l1 c1 k1
  have b1 := F1.binds (ps := ["left", "cost"]) fun _ _ _ _ _ _ us hl => match us, hl with | [_, _], _ => rfl
  have F2 := fun_mk (st := s_to_base64) l2 c2 k2
  have b2 := F2.binds (ps := ["data"]) fun _ _ _ _ _ _ us hl => match us, hl with | [_], _ => rfl
  have F3 := fun_mk (st := s__four_signs) l3 c3 k3
  have b3 := F3.binds (ps := ["group"]) fun _ _ _ _ _ _ us hl => match us, hl with | [_], _ => rfl
  have F4 := fun_mk (st := s_from_base64) l4 c4 k4
  have b4 := F4.binds (ps := ["data", "left"]) fun _ _ _ _ _ _ us hl => match us, hl with | [_, _], _ => rfl
  have F5 := fun_mk (st := s__sign_values) l5 c5 k5
  have b5 := F5.binds (ps := []) fun _ _ _ _ _ _ us hl => match us, hl with | [], _ => rfl
  have F6 := fun_mk (st := s__three_bytes) l6 c6 k6
  have b6 := F6.binds (ps := ["values"]) fun _ _ _ _ _ _ us hl => match us, hl with | [_], _ => rfl
  have F7 := fun_mk (st := s__law_cell) l7 c7 k7
  have b7 := F7.binds (ps := ["script", "k"]) fun _ _ _ _ _ _ us hl => match us, hl with | [_, _], _ => rfl
  have F8 := fun_mk (st := s__law_twice) l8 c8 k8
  have b8 := F8.binds (ps := ["cell", "k"]) fun _ _ _ _ _ _ us hl => match us, hl with | [_, _], _ => rfl
  have F9 := fun_mk (st := s__law_bytes) l9 c9 k9
  have b9 := F9.binds (ps := ["cell", "size"]) fun _ _ _ _ _ _ us hl => match us, hl with | [_, _], _ => rfl
  have F10 := fun_mk (st := s__law_integer) l10 c10 k10
  have b10 := F10.binds (ps := ["value"]) fun _ _ _ _ _ _ us hl => match us, hl with | [_], _ => rfl
  have F11 := fun_mk (st := s__law_is_list) l11 c11 k11
  have b11 := F11.binds (ps := ["found", "due"]) fun _ _ _ _ _ _ us hl => match us, hl with | [_, _], _ => rfl
  have F12 := fun_mk (st := s__law_signs) l12 c12 k12
  have b12 := F12.binds (ps := []) fun _ _ _ _ _ _ us hl => match us, hl with | [], _ => rfl
  have F13 := fun_mk (st := s__law_value) l13 c13 k13
  have b13 := F13.binds (ps := ["code"]) fun _ _ _ _ _ _ us hl => match us, hl with | [_], _ => rfl
  have F14 := fun_mk (st := s__law_due) l14 c14 k14
  have b14 := F14.binds (ps := ["data", "left"]) fun _ _ _ _ _ _ us hl => match us, hl with | [_, _], _ => rfl
  have F15 := fun_mk (st := s__law_written) l15 c15 k15
  have b15 := F15.binds (ps := ["data"]) fun _ _ _ _ _ _ us hl => match us, hl with | [_], _ => rfl
  have F16 := fun_mk (st := s__law_right) l16 c16 k16
  have b16 := F16.binds (ps := ["data", "left"]) fun _ _ _ _ _ _ us hl => match us, hl with | [_, _], _ => rfl
  have F17 := fun_mk (st := s__law_mixed) l17 c17 k17
  have b17 := F17.binds (ps := ["codes", "cell"]) fun _ _ _ _ _ _ us hl => match us, hl with | [_, _], _ => rfl
  have F18 := fun_mk (st := s_law) l18 c18 k18
  have b18 := F18.binds (ps := ["script"]) fun _ _ _ _ _ _ us hl => match us, hl with | [_], _ => rfl
  have T : Txt K mg := ⟨f1, _, F1, b1, PySem.W.mg_of X G a1,
    f2, _, F2, b2, PySem.W.mg_of X G a2,
    f3, _, F3, b3, PySem.W.mg_of X G a3,
    f4, _, F4, b4, PySem.W.mg_of X G a4,
    f5, _, F5, b5, PySem.W.mg_of X G a5,
    f6, _, F6, b6, PySem.W.mg_of X G a6,
    f7, _, F7, b7, PySem.W.mg_of X G a7,
    f8, _, F8, b8, PySem.W.mg_of X G a8,
    f9, _, F9, b9, PySem.W.mg_of X G a9,
    f10, _, F10, b10, PySem.W.mg_of X G a10,
    f11, _, F11, b11, PySem.W.mg_of X G a11,
    f12, _, F12, b12, PySem.W.mg_of X G a12,
    f13, _, F13, b13, PySem.W.mg_of X G a13,
    f14, _, F14, b14, PySem.W.mg_of X G a14,
    f15, _, F15, b15, PySem.W.mg_of X G a15,
    f16, _, F16, b16, PySem.W.mg_of X G a16,
    f17, _, F17, b17, PySem.W.mg_of X G a17,
    fa, _, F18, b18, PySem.W.mg_of X G a18,
    t19, PySem.W.mg_of X G a19,
    t20, PySem.W.mg_of X G a20,
    PySem.W.mg_none_of X G a21,
    PySem.W.mg_none_of X G a22,
    PySem.W.mg_none_of X G a23,
    PySem.W.mg_none_of X G a24,
    PySem.W.mg_none_of X G a25,
    PySem.W.mg_none_of X G a26,
    PySem.W.mg_none_of X G a27,
    PySem.W.mg_none_of X G a28,
    PySem.W.mg_none_of X G a29,
    PySem.W.mg_none_of X G a30,
    PySem.W.mg_none_of X G a31,
    PySem.W.mg_none_of X G a32⟩
  refine ⟨PySem.W.fnOf "law" "law" (defArgs s_law) (defBody s_law) (defScope s_law) .none kV18 dc18 pm18 an18 cd18 ct18, fun s v => .of_eq rfl, fun base _ _ => ?_⟩
  exact ok_law_of F18 T
end K04
open PySem PySem.W PyProof.Rows
set_option maxRecDepth 100000 in
set_option maxHeartbeats 0 in
theorem PySem.Challenge.cw_stillroom_k04_base_64_holds : PySem.Challenge.rw_stillroom_k04_base_64.Holds := by
  w_on; o_law; k_head; (case hw => w_witness2)
  k_fill
  refine L2.walk_of (l := PySem.Challenge.rw_stillroom_k04_base_64) (n := 63) (k := 5) (x := "script") (CX := fun _ => L2.CX0) (sp := fun w => K04.spLaw _) rfl (by decide) rfl ⟨rfl, by decide, by decide⟩ (fun w h Y => PySem.W.kIn_of Y) ?F (fun _ _ a ns hl _ hS => ⟨a, ns, rfl, hS, hl, fun _ => rfl⟩) (fun _ _ _ _ _ h => h)
  case F =>
    intro w mg fa h KX G hmg
    refine' K04.all_mk KX G hmg ?a1 ?l1 ?c1 ?k1 ?a2 ?l2 ?c2 ?k2 ?a3 ?l3 ?c3 ?k3 ?a4 ?l4 ?c4 ?k4 ?a5 ?l5 ?c5 ?k5 ?a6 ?l6 ?c6 ?k6 ?a7 ?l7 ?c7 ?k7 ?a8 ?l8 ?c8 ?k8 ?a9 ?l9 ?c9 ?k9 ?a10 ?l10 ?c10 ?k10 ?a11 ?l11 ?c11 ?k11 ?a12 ?l12 ?c12 ?k12 ?a13 ?l13 ?c13 ?k13 ?a14 ?l14 ?c14 ?k14 ?a15 ?l15 ?c15 ?k15 ?a16 ?l16 ?c16 ?k16 ?a17 ?l17 ?c17 ?k17 ?a18 ?l18 ?c18 ?k18 ?a19 ?a20 ?a21 ?a22 ?a23 ?a24 ?a25 ?a26 ?a27 ?a28 ?a29 ?a30 ?a31 ?a32
    (case a1 => k_is)
    (case l1 => k_is)
    (case c1 => k_is)
    (case k1 => k_is)
    (case a2 => k_is)
    (case l2 => k_is)
    (case c2 => k_is)
    (case k2 => k_is)
    (case a3 => k_is)
    (case l3 => k_is)
    (case c3 => k_is)
    (case k3 => k_is)
    (case a4 => k_is)
    (case l4 => k_is)
    (case c4 => k_is)
    (case k4 => k_is)
    (case a5 => k_is)
    (case l5 => k_is)
    (case c5 => k_is)
    (case k5 => k_is)
    (case a6 => k_is)
    (case l6 => k_is)
    (case c6 => k_is)
    (case k6 => k_is)
    (case a7 => k_is)
    (case l7 => k_is)
    (case c7 => k_is)
    (case k7 => k_is)
    (case a8 => k_is)
    (case l8 => k_is)
    (case c8 => k_is)
    (case k8 => k_is)
    (case a9 => k_is)
    (case l9 => k_is)
    (case c9 => k_is)
    (case k9 => k_is)
    (case a10 => k_is)
    (case l10 => k_is)
    (case c10 => k_is)
    (case k10 => k_is)
    (case a11 => k_is)
    (case l11 => k_is)
    (case c11 => k_is)
    (case k11 => k_is)
    (case a12 => k_is)
    (case l12 => k_is)
    (case c12 => k_is)
    (case k12 => k_is)
    (case a13 => k_is)
    (case l13 => k_is)
    (case c13 => k_is)
    (case k13 => k_is)
    (case a14 => k_is)
    (case l14 => k_is)
    (case c14 => k_is)
    (case k14 => k_is)
    (case a15 => k_is)
    (case l15 => k_is)
    (case c15 => k_is)
    (case k15 => k_is)
    (case a16 => k_is)
    (case l16 => k_is)
    (case c16 => k_is)
    (case k16 => k_is)
    (case a17 => k_is)
    (case l17 => k_is)
    (case c17 => k_is)
    (case k17 => k_is)
    (case a18 => k_is)
    (case l18 => k_is)
    (case c18 => k_is)
    (case k18 => k_is)
    (case a19 => k_is)
    (case a20 => k_is)
    (case a21 => k_is)
    (case a22 => k_is)
    (case a23 => k_is)
    (case a24 => k_is)
    (case a25 => k_is)
    (case a26 => k_is)
    (case a27 => k_is)
    (case a28 => k_is)
    (case a29 => k_is)
    (case a30 => k_is)
    (case a31 => k_is)
    (case a32 => k_is)

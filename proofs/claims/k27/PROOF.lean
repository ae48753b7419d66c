

import PyProof.Rows.All
import Wide.All
import OpenK.AllK
import Wide.FinOn
import HandS.ForMost
import HandS.Wide
import HandS.IsInst
import HandS.FStr
import HandS.Zip
import HandS.CallLocal
import HandS.Walk
import HandS.TryOnly
import HandS.TupAny
import HandS.DictComp
import HandS.Deep
import PyProof.DictMoreH
import HandS.Text
import HandS.Codes
import KE.GoesMore
import HandS.Style
import HandS.Rev
import HandS.ExcOwn
import HandS.WordsExc
import HandS.ExcIs
import HandS.TryMany
import PySem.Challenge.RW_stillroom_k27_reach
set_option Elab.async false
set_option linter.all false
set_option maxRecDepth 100000
namespace K27
open PySem PySem.Spec PyProof.Rows L2

/-! ### rules with plainer readings -/
section
variable {X : Cx}
theorem CallR.of {f : Value} {r r' : List V → Hp → VK → Prop} (h : CallR X f r) (k : ∀ xs H Q, r' xs H Q → r xs H Q) : CallR X f r' := fun pins s σ H xs us Q I rv q => h pins s σ H xs us Q I rv (k xs H Q q)
theorem OpR.of {f : Value → Value → Sem Value} {r r' : R2} (h : OpR X f r) (k : ∀ x y H Q, r' x y H Q → r x y H Q) : OpR X f r' := fun pins s σ H x y v u Q I rx ry q => h pins s σ H x y v u Q I rx ry (k x y H Q q)
/-- the name of a plain value's type -/
def tnm : V → Option String
  | .non => some "NoneType"
  | .bl _ => some "bool"
  | .int _ => some "int"
  | .str _ => some "str"
  | _ => none
theorem tnm_int (i : Int) : tnm (.int i) = some "int" := rfl
theorem tnm_bl (b : Bool) : tnm (.bl b) = some "bool" := rfl
theorem tnm_str (x : Str) : tnm (.str x) = some "str" := rfl
theorem tnm_non : tnm .non = some "NoneType" := rfl
theorem tnm_ref (p : Addr) : tnm (.ref p) = none := rfl
theorem scal_ii (i j : Int) : scal (.int i) (.int j) = true := rfl
theorem scal_ss (i j : Str) : scal (.str i) (.str j) = true := rfl
theorem scal_bb (i j : Bool) : scal (.bl i) (.bl j) = true := rfl
theorem scal_nn : scal .non .non = true := rfl
theorem scal_in (i : Int) : scal (.int i) .non = true := rfl
theorem scal_ni (i : Int) : scal .non (.int i) = true := rfl
def rIsiB : List V → Hp → VK → Prop := fun vs H Q => (∃ x n a b, vs = [x, .ty n] ∧ tnm x = some a ∧ kitB a n = some b ∧ Q (.bl b) H) ∨
  (∃ p n xs b, vs = [.ref p, .ty n] ∧ H p = some (.lst xs) ∧ kitB "list" n = some b ∧ Q (.bl b) H) ∨ ∃ p n xs b, vs = [.ref p, .ty n] ∧ H p = some (.tup xs) ∧ kitB "tuple" n = some b ∧ Q (.bl b) H
theorem call_isiB : CallR X (.builtin "isinstance") rIsiB := CallR.of call_isi (by
  intro vs H Q h
  rcases h with ⟨x, n, a, b, rfl, ha, hb, q⟩ | ⟨p, n, xs, b, rfl, ha, hb, q⟩ | ⟨p, n, xs, b, rfl, ha, hb, q⟩
  · refine ⟨x, .ty n, .type a, .type n, b, rfl, .ty n, ?_, kit_ty hb, q⟩
    cases x <;> cases ha
    · exact .base .non
    · exact .base (.bl _)
    · exact .base (.int _)
    · exact .base (.str _)
  · exact ⟨.ref p, .ty n, .type "list", .type n, b, rfl, .ty n, .base (.lst ha), kit_ty hb, q⟩
  · exact ⟨.ref p, .ty n, .type "tuple", .type n, b, rfl, .ty n, .base (.tup ha), kit_ty hb, q⟩)
theorem kb1 : kitB "int" "int" = some true := by decide +kernel
theorem kb2 : kitB "int" "bool" = some false := by decide +kernel
theorem kb3 : kitB "bool" "bool" = some true := by decide +kernel
theorem kb4 : kitB "bool" "int" = some true := by decide +kernel
theorem kb5 : kitB "str" "str" = some true := by decide +kernel
theorem kb6 : kitB "str" "int" = some false := by decide +kernel
theorem kb7 : kitB "list" "list" = some true := by decide +kernel
theorem kb8 : kitB "tuple" "tuple" = some true := by decide +kernel
theorem kb9 : kitB "NoneType" "int" = some false := by decide +kernel
theorem kb10 : kitB "NoneType" "list" = some false := by decide +kernel
/-- len, a copy, an item of a tracked list -/
def rLenH : List V → Hp → VK → Prop := fun vs H Q => ∃ p xs, vs = [.ref p] ∧ H p = some (.lst xs) ∧ Q (.int xs.length) H
theorem call_lenH : CallR X (.builtin "len") rLenH := CallR.of call_len_seq (by
  rintro vs H Q ⟨p, xs, rfl, h, q⟩
  exact ⟨p, xs, rfl, .inl (.inl (.inl h)), q⟩)
def rLenT : List V → Hp → VK → Prop := fun vs H Q => ∃ p xs, vs = [.ref p] ∧ H p = some (.tup xs) ∧ Q (.int xs.length) H
theorem call_lenT : CallR X (.builtin "len") rLenT := CallR.of call_len_seq (by
  rintro vs H Q ⟨p, xs, rfl, h, q⟩
  exact ⟨p, xs, rfl, .inr (.inl (.inl h)), q⟩)
def rListH : List V → Hp → VK → Prop := fun vs H Q => ∃ p xs, vs = [.ref p] ∧ H p = some (.lst xs) ∧ ∀ l, H l = none → Q (.ref l) (upd H l (.lst xs))
theorem call_listH : CallR X (.type "list") rListH := CallR.of call_list_of (by
  rintro vs H Q ⟨p, xs, rfl, h, q⟩
  exact ⟨p, xs, rfl, .inl (.inl (.inl h)), q⟩)
theorem ints_dp {K : PySem.W.Frag} {H : Hp} : ∀ ns : List Int, DpAll K H (ns.map V.int) (ns.map PyData.int)
  | [] => .nil
  | n :: r => .cons (.int n) (ints_dp r)
theorem ints_eqv : ∀ ns ms : List Int, PyData.eqvAll (ns.map PyData.int) (ms.map PyData.int) = decide (ns = ms)
  | [], [] => by simp [PyData.eqvAll]
  | [], _ :: _ => by simp [PyData.eqvAll]
  | _ :: _, [] => by simp [PyData.eqvAll]
  | n :: r, m :: q => by
    rw [List.map_cons, List.map_cons, PyData.eqvAll, ints_eqv r q]
    simp only [PyData.eqv, List.cons.injEq, Bool.decide_and]
    by_cases h : n = m <;> simp [h]
theorem ints_lay : ∀ ns : List Int, PyData.canLayAll0 (ns.map PyData.int) = true
  | [] => rfl
  | _ :: r => by rw [List.map_cons, PyData.canLayAll0, ints_lay r]; rfl
theorem ints_depth : ∀ ns : List Int, PyData.depthAll (ns.map PyData.int) = 0
  | [] => rfl
  | _ :: r => by rw [List.map_cons, PyData.depthAll, ints_depth r]; rfl
theorem ints_shaped (ns : List Int) : SeqAt.shaped (.list (ns.map PyData.int)) = true := by
  unfold SeqAt.shaped
  rw [PyData.canLay0, ints_lay, PyData.depth, ints_depth]
  rfl
/-- == and != of two tracked lists of ints -/
def rEqIL : R2 := fun x y H Q => ∃ a b ns ms, x = .ref a ∧ y = .ref b ∧ H a = some (.lst (List.map V.int ns)) ∧ H b = some (.lst (List.map V.int ms)) ∧ Q (.bl (decide (ns = ms))) H
theorem op_eqIL (hu : X.A.units + 64 < cLine) : OpR X (compareOp .Eq) rEqIL := OpR.of (op_eqD hu) (by
  rintro x y H Q ⟨a, b, ns, ms, rfl, rfl, ha, hb, q⟩
  refine ⟨_, _, .lst (.inl (.inl ha)) (ints_dp ns), .lst (.inl (.inl hb)) (ints_dp ms), ints_shaped ns, ints_shaped ms, ?_⟩
  rw [PyData.eqv, ints_eqv]
  exact q)
def rNeIL : R2 := fun x y H Q => ∃ a b ns ms, x = .ref a ∧ y = .ref b ∧ H a = some (.lst (List.map V.int ns)) ∧ H b = some (.lst (List.map V.int ms)) ∧ Q (.bl (!decide (ns = ms))) H
theorem op_neIL (hu : X.A.units + 64 < cLine) : OpR X (compareOp .NotEq) rNeIL := OpR.of (op_neD hu) (by
  rintro x y H Q ⟨a, b, ns, ms, rfl, rfl, ha, hb, q⟩
  refine ⟨_, _, .lst (.inl (.inl ha)) (ints_dp ns), .lst (.inl (.inl hb)) (ints_dp ms), ints_shaped ns, ints_shaped ms, ?_⟩
  rw [PyData.eqv, ints_eqv]
  exact q)
/-- == of two tracked tuples of plain things -/
def dS : V → PyData
  | .int i => .int i
  | .bl b => .bool b
  | _ => .none
def isS : V → Bool
  | .int _ => true
  | .bl _ => true
  | .non => true
  | _ => false
theorem isS_dp {K : PySem.W.Frag} {H : Hp} : ∀ xs : List V, xs.all isS = true → DpAll K H xs (xs.map dS)
  | [], _ => .nil
  | x :: r, h => by
    rw [List.all_cons, Bool.and_eq_true] at h
    refine .cons ?_ (isS_dp r h.2)
    have h1 := h.1
    cases x <;> first | exact .int _ | exact .bl _ | exact .non | cases h1
theorem isS_lay : ∀ xs : List V, PyData.canLayAll0 (xs.map dS) = true
  | [] => rfl
  | x :: r => by rw [List.map_cons, PyData.canLayAll0, isS_lay r]; cases x <;> rfl
theorem isS_depth : ∀ xs : List V, PyData.depthAll (xs.map dS) = 0
  | [] => rfl
  | x :: r => by rw [List.map_cons, PyData.depthAll, isS_depth r]; cases x <;> rfl
theorem isS_shaped (xs : List V) : SeqAt.shaped (.tuple (xs.map dS)) = true := by
  unfold SeqAt.shaped
  rw [PyData.canLay0, isS_lay, PyData.depth, isS_depth]
  rfl
def rEqTS : R2 := fun x y H Q => ∃ a b xs ys, x = .ref a ∧ y = .ref b ∧ H a = some (.tup xs) ∧ H b = some (.tup ys) ∧ xs.all isS = true ∧ ys.all isS = true ∧ Q (.bl (PyData.eqvAll (xs.map dS) (ys.map dS))) H
theorem op_eqTS (hu : X.A.units + 64 < cLine) : OpR X (compareOp .Eq) rEqTS := OpR.of (op_eqD hu) (by
  rintro x y H Q ⟨a, b, xs, ys, rfl, rfl, ha, hb, h1, h2, q⟩
  refine ⟨_, _, .tup (.inl (.inl ha)) (isS_dp xs h1), .tup (.inl (.inl hb)) (isS_dp ys h2), isS_shaped xs, isS_shaped ys, ?_⟩
  rw [PyData.eqv]
  exact q)
theorem dS_int (i : Int) : dS (.int i) = .int i := rfl
theorem dS_bl (b : Bool) : dS (.bl b) = .bool b := rfl
theorem isS_int (i : Int) : isS (.int i) = true := rfl
theorem isS_bl (b : Bool) : isS (.bl b) = true := rfl
theorem eqv_ii (i j : Int) : PyData.eqv (.int i) (.int j) = decide (i = j) := by rw [PyData.eqv]; rfl
theorem eqv_bb (i j : Bool) : PyData.eqv (.bool i) (.bool j) = decide (i = j) := by rw [PyData.eqv]; cases i <;> cases j <;> rfl
theorem eqvAll_nil : PyData.eqvAll [] [] = true := by rw [PyData.eqvAll]
theorem eqvAll_cons (x y : PyData) (xs ys : List PyData) : PyData.eqvAll (x :: xs) (y :: ys) = (PyData.eqv x y && PyData.eqvAll xs ys) := by rw [PyData.eqvAll]
theorem ip_of {op : Operator} {r : R2} (h : OpR X (inplaceOp op) r) : PIp X op r := fun pins s σ H x y v u Q I r1 r2 q => h pins s σ H x y v u Q I r1 r2 q
theorem SlR.of {r r' : V → Option Int → Option Int → Hp → VK → Prop} (h : SlR X r) (k : ∀ x lo hi H Q, r' x lo hi H Q → r x lo hi H Q) : SlR X r' := fun pins s σ H x v vl vu lo hi sl Q I rx hs pl pu q => h pins s σ H x v vl vu lo hi sl Q I rx hs pl pu (k x lo hi H Q q)
/-- a slice of a tracked list -/
def rSlH : V → Option Int → Option Int → Hp → VK → Prop := fun x lo hi H Q => ∃ a xs, x = .ref a ∧ H a = some (.lst xs) ∧ ∀ p, H p = none → Q (.ref p) (upd H p (.lst (cutV xs lo hi)))
theorem sl_listH : SlR X rSlH := SlR.of sl_list (by
  rintro x lo hi H Q ⟨a, xs, rfl, h, q⟩
  exact ⟨a, xs, rfl, .inl (.inl h), q⟩)
/-- == and != of two tracked pairs of a list of ints and an int -/
theorem li_dp {K : PySem.W.Frag} {H : Hp} {q : Addr} {l : Int} {ns : List Int} (hq : H q = some (.lst (List.map V.int ns))) : DpAll K H [.ref q, .int l] [.list (ns.map PyData.int), .int l] := .cons (.lst (.inl (.inl hq)) (ints_dp ns)) (.cons (.int l) .nil)
theorem li_shaped (ns : List Int) (l : Int) : SeqAt.shaped (.tuple [.list (ns.map PyData.int), .int l]) = true := by
  unfold SeqAt.shaped
  rw [PyData.canLay0, PyData.canLayAll0, PyData.canLay0, ints_lay, PyData.canLayAll0, PyData.depth, PyData.depthAll, PyData.depth, ints_depth, PyData.depthAll]
  rfl
theorem li_eqv (ns ms : List Int) (l m : Int) : PyData.eqv (.tuple [.list (ns.map PyData.int), .int l]) (.tuple [.list (ms.map PyData.int), .int m]) = (decide (ns = ms) && decide (l = m)) := by
  rw [PyData.eqv, PyData.eqvAll, PyData.eqvAll, PyData.eqvAll, PyData.eqv, PyData.eqv, ints_eqv, Bool.and_true]
  rfl
def rEqLI : R2 := fun x y H Q => ∃ a b q r l m ns ms, x = .ref a ∧ y = .ref b ∧ H a = some (.tup [.ref q, .int l]) ∧ H b = some (.tup [.ref r, .int m]) ∧ H q = some (.lst (List.map V.int ns)) ∧ H r = some (.lst (List.map V.int ms)) ∧ Q (.bl (decide (ns = ms) && decide (l = m))) H
theorem op_eqLI (hu : X.A.units + 64 < cLine) : OpR X (compareOp .Eq) rEqLI := OpR.of (op_eqD hu) (by
  rintro x y H Q ⟨a, b, q, r, l, m, ns, ms, rfl, rfl, ha, hb, hq, hr, k⟩
  refine ⟨_, _, .tup (.inl (.inl ha)) (li_dp hq), .tup (.inl (.inl hb)) (li_dp hr), li_shaped ns l, li_shaped ms m, ?_⟩
  rw [li_eqv]
  exact k)
def rNeLI : R2 := fun x y H Q => ∃ a b q r l m ns ms, x = .ref a ∧ y = .ref b ∧ H a = some (.tup [.ref q, .int l]) ∧ H b = some (.tup [.ref r, .int m]) ∧ H q = some (.lst (List.map V.int ns)) ∧ H r = some (.lst (List.map V.int ms)) ∧ Q (.bl (!(decide (ns = ms) && decide (l = m)))) H
theorem op_neLI (hu : X.A.units + 64 < cLine) : OpR X (compareOp .NotEq) rNeLI := OpR.of (op_neD hu) (by
  rintro x y H Q ⟨a, b, q, r, l, m, ns, ms, rfl, rfl, ha, hb, hq, hr, k⟩
  refine ⟨_, _, .tup (.inl (.inl ha)) (li_dp hq), .tup (.inl (.inl hb)) (li_dp hr), li_shaped ns l, li_shaped ms m, ?_⟩
  rw [li_eqv]
  exact k)
def rIxH : R2 := fun x y H Q => ∃ p xs i v, x = .ref p ∧ y = .int i ∧ H p = some (.lst xs) ∧ atI xs i = some v ∧ Q v H
theorem IxR.of {r r' : R2} (h : IxR X r) (k : ∀ x y H Q, r' x y H Q → r x y H Q) : IxR X r' := fun va sl pins s σ H x y v u Q I rx ry q hs => h va sl pins s σ H x y v u Q I rx ry (k x y H Q q) hs
theorem ix_listH : IxR X rIxH := IxR.of ix_list (by
  rintro x y H Q ⟨p, xs, i, v, e1, e2, h, h2, q⟩
  exact ⟨p, xs, i, v, e1, e2, .inl (.inl h), h2, q⟩)
def rIxTH : R2 := fun x y H Q => ∃ p xs i v, x = .ref p ∧ y = .int i ∧ H p = some (.tup xs) ∧ atI xs i = some v ∧ Q v H
theorem ix_tupH : IxR X rIxTH := IxR.of ix_tup (by
  rintro x y H Q ⟨p, xs, i, v, e1, e2, h, h2, q⟩
  exact ⟨p, xs, i, v, e1, e2, .inl (.inl h), h2, q⟩)
end
/-- a place in bounds -/
theorem ixN_in {n : Nat} {k : Int} (h0 : 0 ≤ k) (h1 : k < n) : ixN n k = some k.toNat := by
  unfold ixN
  rw [if_pos h0, if_pos h1]
theorem atI_in {xs : List Int} {k : Int} (h0 : 0 ≤ k) (h1 : k < xs.length) : ∃ b, xs[k.toNat]? = some b ∧ atI (xs.map V.int) k = some (.int b) := by
  have h : k.toNat < xs.length := by omega
  refine ⟨xs[k.toNat], List.getElem?_eq_getElem h, ?_⟩
  unfold atI
  rw [List.length_map, ixN_in h0 h1]
  show (xs.map V.int)[k.toNat]? = _
  rw [List.getElem?_map, List.getElem?_eq_getElem h]
  rfl
theorem mod_in (x : Int) {m : Int} (h : 0 < m) : 0 ≤ x % m ∧ x % m < m := ⟨Int.emod_nonneg x (by omega), Int.emod_lt_of_pos x h⟩
theorem atI_c0 {α : Type} (x : α) (xs : List α) : atI (x :: xs) 0 = some x := atI_nat (j := 0) rfl
theorem atI_c1 {α : Type} (x y : α) (xs : List α) : atI (x :: y :: xs) 1 = some y := atI_nat (j := 1) rfl
theorem atI_c2 {α : Type} (x y z : α) (xs : List α) : atI (x :: y :: z :: xs) 2 = some z := atI_nat (j := 2) rfl
theorem atI_c3 {α : Type} (x y z u : α) (xs : List α) : atI (x :: y :: z :: u :: xs) 3 = some u := atI_nat (j := 3) rfl

theorem tyV_upd {K : PySem.W.Frag} {H : Hp} {p : Addr} {xs : List V} : tyV K "list" (.ref p) (upd H p (.lst xs)) = True := eq_true (.inl ⟨rfl, xs, .inl (.inl upd_same)⟩)
theorem nil_sz : (0 ≤ sizeLine) = True := eq_true (Nat.zero_le _)
/-- what a for asks once its walk stands -/
def Loop (J : It) (g : TG) (tb : TS) (D : Ends) (σ : L2.St) (H1 : Hp) : Prop := ∃ W : Nat → Nat → L2.St → Hp → Prop, (∃ m, W 0 m σ H1) ∧ ∀ i m σ H, W i m σ H →
  (J.stop i H ∧ D.nx σ H) ∨ (J.go i H ∧ ∃ N : L2.St → Hp → Prop, (∀ σ' H', N σ' H' → ∃ m', m' < m ∧ W (i + 1) m' σ' H') ∧ ∀ x H', J.yld i H x H' → g x σ H' fun σ2 H2 => tb { D with nx := N, ct := N, bk := D.nx } σ2 H2)
theorem tFor_eq {wi : TI} {g : TG} {tb : TS} {D : Ends} {σ : L2.St} {H : Hp} : tFor wi g tb D σ H = wi σ H fun J H1 => Loop J g tb D σ H1 := rfl
theorem lp_range {n : Nat} {g : TG} {tb : TS} {D : Ends} {σ : L2.St} {H : Hp} (Pv : Nat → L2.St → Hp → Prop) (h0 : Pv 0 σ H)
    (hs : ∀ i σ H, i < n → Pv i σ H → g (.int i) σ H fun σ2 H2 => tb { D with nx := Pv (i + 1), ct := Pv (i + 1), bk := D.nx } σ2 H2) (hd : ∀ σ H, Pv n σ H → D.nx σ H) : Loop (Itr 0 n) g tb D σ H :=
  for_range (lo := 0) Pv h0 (fun i σ H a b => by have := hs i σ H a b; rw [Int.zero_add]; exact this) hd
theorem lp_list {K : PySem.W.Frag} {a : Addr} {xs : List V} {g : TG} {tb : TS} {D : Ends} {σ : L2.St} {H : Hp} (Pv : Nat → L2.St → Hp → Prop) (h0 : Pv 0 σ H) (hl : ∀ i σ H, i ≤ xs.length → Pv i σ H → SqL K H a xs)
    (hs : ∀ i x σ H, xs[i]? = some x → Pv i σ H → g x σ H fun σ2 H2 => tb { D with nx := Pv (i + 1), ct := Pv (i + 1), bk := D.nx } σ2 H2) (hd : ∀ σ H, Pv xs.length σ H → D.nx σ H) : Loop (Itl K a) g tb D σ H := for_list Pv h0 hl hs hd
/-- the same for a comprehension -/
def LcLoop (J : It) (g : TG) (tt : TT) (te : TE) (vs : List Nat) (σ : L2.St) (H1 : Hp) (Q : VK) : Prop := ∀ D, H1 D = none → ∃ W : Nat → Nat → Hp → Prop, (∃ m, W 0 m (upd H1 D (.lst []))) ∧ ∀ i m H, W i m H →
  (J.stop i H ∧ Q (.ref D) H) ∨ (J.go i H ∧ ∃ Nx : Hp → Prop, (∀ H', Nx H' → ∃ m', m' < m ∧ W (i + 1) m' H') ∧ ∀ x H', J.yld i H x H' → g x (wipe σ vs) H' fun σ2 H2 => wipe σ2 vs = wipe σ vs ∧ tt σ2 H2 fun b H3 =>
    if b = true then te σ2 H3 fun y H4 => ∃ acc, H4 D = some (.lst acc) ∧ acc.length < sizeLine ∧ Nx (upd H4 D (.lst (acc ++ [y]))) else Nx H3)
theorem tLc_eq {wi : TI} {g : TG} {tt : TT} {te : TE} {vs : List Nat} {σ : L2.St} {H : Hp} {Q : VK} : tLc wi g tt te vs σ H Q = wi σ H fun J H1 => LcLoop J g tt te vs σ H1 Q := rfl
/-- a comprehension over a list, whose elements leave the heap as it is: L i is what i turns have made -/
theorem lc_pure {K : PySem.W.Frag} {a : Addr} {xs : List V} {g : TG} {tt : TT} {te : TE} {vs : List Nat} {σ : L2.St} {H1 : Hp} {Q : VK} (L : Nat → List V) (hS : SqL K H1 a xs) (h0 : L 0 = [])
    (hs : ∀ i x D, xs[i]? = some x → H1 D = none → g x (wipe σ vs) (upd H1 D (.lst (L i))) fun σ2 H2 => wipe σ2 vs = wipe σ vs ∧ tt σ2 H2 fun b H3 =>
      if b = true then te σ2 H3 fun y H4 => ∃ acc, H4 D = some (.lst acc) ∧ acc.length < sizeLine ∧ upd H4 D (.lst (acc ++ [y])) = upd H1 D (.lst (L (i + 1))) else H3 = upd H1 D (.lst (L (i + 1))))
    (hd : ∀ D, H1 D = none → Q (.ref D) (upd H1 D (.lst (L xs.length)))) : LcLoop (Itl K a) g tt te vs σ H1 Q := by
  intro D hD
  refine lc_list (K := K) (a := a) (xs := xs) (fun i H => H = upd H1 D (.lst (L i))) (by rw [h0]) (fun i H _ e => ?_) (fun i x H hx e => ?_) (fun H e => ?_)
  · subst e
    exact (show Same H1 _ from fun b o e => by rw [upd_ne (ne_of_none e hD)]; exact e).seq hS
  · subst e
    exact hs i x D hx hD
  · subst e
    exact hd D hD
theorem lc_pure_range {n : Nat} {g : TG} {tt : TT} {te : TE} {vs : List Nat} {σ : L2.St} {H1 : Hp} {Q : VK} (L : Nat → List V) (h0 : L 0 = [])
    (hs : ∀ i D, i < n → H1 D = none → g (.int i) (wipe σ vs) (upd H1 D (.lst (L i))) fun σ2 H2 => wipe σ2 vs = wipe σ vs ∧ tt σ2 H2 fun b H3 =>
      if b = true then te σ2 H3 fun y H4 => ∃ acc, H4 D = some (.lst acc) ∧ acc.length < sizeLine ∧ upd H4 D (.lst (acc ++ [y])) = upd H1 D (.lst (L (i + 1))) else H3 = upd H1 D (.lst (L (i + 1))))
    (hd : ∀ D, H1 D = none → Q (.ref D) (upd H1 D (.lst (L n)))) : LcLoop (Itr 0 n) g tt te vs σ H1 Q := by
  intro D hD
  refine lc_range (lo := 0) (n := n) (fun i H => H = upd H1 D (.lst (L i))) (by rw [h0]) (fun i H hi e => ?_) (fun H e => ?_)
  · subst e
    rw [Int.zero_add]
    exact hs i D hi hD
  · subst e
    exact hd D hD
theorem lp_zip {K : PySem.W.Frag} {a b : Addr} {xs ys : List V} {g : TG} {tb : TS} {D : Ends} {σ : L2.St} {H : Hp} (hl : xs.length = ys.length) (Pv : Nat → L2.St → Hp → Prop) (h0 : Pv 0 σ H) (hq : ∀ i σ H, Pv i σ H → SqL K H a xs ∧ SqL K H b ys)
    (hs : ∀ (i : Nat) (x y : V) (T : Addr) (σ : L2.St) (H : Hp), xs[i]? = some x → ys[i]? = some y → Pv i σ H → H T = none → g (.ref T) σ (upd H T (.tup [x, y])) fun σ2 H2 => tb { D with nx := Pv (i + 1), ct := Pv (i + 1), bk := D.nx } σ2 H2) (hd : ∀ σ H, Pv xs.length σ H → D.nx σ H) :
    Loop (Itz K a b) g tb D σ H := RZ.for_zipL hl Pv h0 hq hs hd
theorem lc_str {x : Str} {g : TG} {tt : TT} {te : TE} {vs : List Nat} {σ : L2.St} {H1 : Hp} {Q : VK} (L : Nat → List V) (h0 : L 0 = [])
    (hs : ∀ i c D, x.cps[i]? = some c → H1 D = none → g (.str ⟨#[c]⟩) (wipe σ vs) (upd H1 D (.lst (L i))) fun σ2 H2 => wipe σ2 vs = wipe σ vs ∧ tt σ2 H2 fun b H3 =>
      if b = true then te σ2 H3 fun y H4 => ∃ acc, H4 D = some (.lst acc) ∧ acc.length < sizeLine ∧ upd H4 D (.lst (acc ++ [y])) = upd H1 D (.lst (L (i + 1))) else H3 = upd H1 D (.lst (L (i + 1))))
    (hd : ∀ D, H1 D = none → Q (.ref D) (upd H1 D (.lst (L x.cps.size)))) : LcLoop (Its x) g tt te vs σ H1 Q := by
  intro D hD
  refine ⟨fun i m H => m = x.cps.size - i ∧ i ≤ x.cps.size ∧ H = upd H1 D (.lst (L i)), ⟨x.cps.size, by simp, Nat.zero_le _, by rw [h0]⟩, ?_⟩
  rintro i m H ⟨rfl, hi, rfl⟩
  by_cases hlt : i < x.cps.size
  · refine .inr ⟨hlt, fun H' => H' = upd H1 D (.lst (L (i + 1))), fun H' p' => ⟨x.cps.size - (i + 1), by omega, rfl, hlt, p'⟩, fun v H' y => ?_⟩
    obtain ⟨e, c, hc, ev⟩ := y
    subst e ev
    exact hs i c D hc hD
  · have e : i = x.cps.size := by omega
    subst e
    exact .inl ⟨Nat.le_refl _, hd D hD⟩
theorem lc_rangeC {lo c : Int} {n : Nat} {g : TG} {tt : TT} {te : TE} {vs : List Nat} {σ : L2.St} {H1 : Hp} {Q : VK} (L : Nat → List V) (h0 : L 0 = [])
    (hs : ∀ i D, i < n → H1 D = none → g (.int (lo + (i : Nat) * c)) (wipe σ vs) (upd H1 D (.lst (L i))) fun σ2 H2 => wipe σ2 vs = wipe σ vs ∧ tt σ2 H2 fun b H3 =>
      if b = true then te σ2 H3 fun y H4 => ∃ acc, H4 D = some (.lst acc) ∧ acc.length < sizeLine ∧ upd H4 D (.lst (acc ++ [y])) = upd H1 D (.lst (L (i + 1))) else H3 = upd H1 D (.lst (L (i + 1))))
    (hd : ∀ D, H1 D = none → Q (.ref D) (upd H1 D (.lst (L n)))) : LcLoop (Itc lo c n) g tt te vs σ H1 Q := by
  intro D hD
  refine ⟨fun i m H => m = n - i ∧ i ≤ n ∧ H = upd H1 D (.lst (L i)), ⟨n, by simp, Nat.zero_le _, by rw [h0]⟩, ?_⟩
  rintro i m H ⟨rfl, hi, rfl⟩
  by_cases hlt : i < n
  · refine .inr ⟨hlt, fun H' => H' = upd H1 D (.lst (L (i + 1))), fun H' p' => ⟨n - (i + 1), by omega, rfl, hlt, p'⟩, fun v H' y => ?_⟩
    obtain ⟨e, ev⟩ := y
    subst e ev
    exact hs i D hlt hD
  · have e : i = n := by omega
    subst e
    exact .inl ⟨Nat.le_refl _, hd D hD⟩
theorem small_two {a b : Int} (ha : -(2 ^ 62) ≤ a) (ha' : a < 2 ^ 62) (hb : -(2 ^ 62) ≤ b) (hb' : b < 2 ^ 62) : Builtin.Range.small a b 2 = true := by
  unfold Builtin.Range.small Builtin.Range.rangeSize
  simp only [Builtin.Range.rangeFitsLong, Bool.and_eq_true, Bool.or_eq_true, decide_eq_true_eq, beq_iff_eq, show ((2 : Int) > 0) by decide, if_true]
  split <;> omega
theorem rg_two {n : Nat} (h : n < 1000000) : RgC 0 ((n : Int) - 1) 2 (n / 2) := by
  refine ⟨by decide, by decide, small_two (by decide) (by decide) (by omega) (by omega), ?_⟩
  unfold Builtin.Range.rangeSize
  rw [if_pos (by decide)]
  split <;> omega
theorem wh_by {c : TT} {tb : TS} {D : Ends} {σ : L2.St} {H : Hp} (W : Nat → L2.St → Hp → Prop) (m : Nat) (h0 : W m σ H)
    (hs : ∀ m σ H, W m σ H → c σ H fun b H1 => if b = true then ∃ N : L2.St → Hp → Prop, (∀ σ' H', N σ' H' → ∃ m', m' < m ∧ W m' σ' H') ∧ tb { D with nx := N, ct := N, bk := D.nx } σ H1 else D.nx σ H1) : tWhile c tb D σ H := ⟨W, ⟨m, h0⟩, hs⟩
theorem lc_rng {n : Nat} {g : TG} {tt : TT} {te : TE} {vs : List Nat} {σ : L2.St} {H1 : Hp} {Q : VK} (Pv : Addr → Nat → Hp → Prop) (h0 : ∀ D, H1 D = none → Pv D 0 (upd H1 D (.lst [])))
    (hs : ∀ D i H, i < n → H1 D = none → Pv D i H → g (.int i) (wipe σ vs) H fun σ2 H2 => wipe σ2 vs = wipe σ vs ∧ tt σ2 H2 fun b H3 =>
      if b = true then te σ2 H3 fun y H4 => ∃ acc, H4 D = some (.lst acc) ∧ acc.length < sizeLine ∧ Pv D (i + 1) (upd H4 D (.lst (acc ++ [y]))) else Pv D (i + 1) H3)
    (hd : ∀ D H, H1 D = none → Pv D n H → Q (.ref D) H) : LcLoop (Itr 0 n) g tt te vs σ H1 Q := by
  intro D hD
  refine lc_range (lo := 0) (n := n) (Pv D) (h0 D hD) (fun i H hi p => ?_) (fun H p => hd D H hD p)
  rw [Int.zero_add]
  exact hs D i H hi hD p
theorem same_upd {H : Hp} {p : Addr} {o : HO} (h : H p = none) : Same H (upd H p o) := fun b x e => by
  rw [upd_ne (ne_of_none e h)]
  exact e
theorem same_upd2 {H H' : Hp} {q : Addr} {o : HO} (s : Same H H') (h : H q = none) : Same H (upd H' q o) := fun b x e => by
  rw [upd_ne (ne_of_none e h)]
  exact s b x e

/-! ### fresh objects: the heap behind one as a heap of its own -/
def NewH (H : Hp) (o : HO) (k : Addr → Hp → Prop) : Prop := ∀ p H', Same H H' → H p = none → H' p = some o → k p H'
theorem NewH.go {H : Hp} {o : HO} {k : Addr → Hp → Prop} (h : NewH H o k) : ∀ p, H p = none → k p (upd H p o) := fun p hp => h p _ (same_upd hp) hp upd_same
section
variable {X : Cx} {es : List Expr} {t : TA} {pos : Pos}
theorem pa_mono (h : PA X es t) : PA X es (fun σ H Q => ∃ Q', t σ H Q' ∧ ∀ xs H1, Q' xs H1 → Q xs H1) := ⟨fun pos pins s σ H Q I ⟨_, q, k⟩ => thn (h.run pos pins s σ H _ I q) fun _ _ ⟨vs, H', I', r, q'⟩ => ⟨vs, H', I', r, k _ _ q'⟩⟩
theorem PE.of {e : Expr} {t t' : TE} (h : PE X e t) (k : ∀ σ H Q, t' σ H Q → t σ H Q) : PE X e t' := ⟨fun pins s σ H Q I q => h.run pins s σ H Q I (k _ _ _ q)⟩
def tTupS (t : TA) : TE := fun σ H Q => t σ H fun xs H1 => xs.length ≤ sizeLine ∧ NewH H1 (.tup xs) fun p H' => Q (.ref p) H'
def tLstS (t : TA) : TE := fun σ H Q => t σ H fun xs H1 => xs.length ≤ sizeLine ∧ NewH H1 (.lst xs) fun p H' => Q (.ref p) H'
theorem pe_tupS {x1} (h : PA X es t) : PE X (.Tuple es x1 pos) (tTupS t) := PE.of (pe_tup (pa_mono h)) fun σ H Q q => ⟨_, q, fun _ _ z => ⟨z.1, z.2.go⟩⟩
theorem pe_lstS (h : PA X es t) : PE X (.List es pos) (tLstS t) := PE.of (pe_lst (pa_mono h)) fun σ H Q q => ⟨_, q, fun _ _ z => ⟨z.1, z.2.go⟩⟩
def rListS : List V → Hp → VK → Prop := fun vs H Q => ∃ p xs, vs = [.ref p] ∧ H p = some (.lst xs) ∧ NewH H (.lst xs) fun l H' => Q (.ref l) H'
theorem call_listS : CallR X (.type "list") rListS := CallR.of call_listH fun vs H Q ⟨p, xs, e, h, q⟩ => ⟨p, xs, e, h, q.go⟩
/-- list(t) of a tuple -/
def rListT : List V → Hp → VK → Prop := fun vs H Q => ∃ p xs, vs = [.ref p] ∧ H p = some (.tup xs) ∧ NewH H (.lst xs) fun l H' => Q (.ref l) H'
theorem call_listT : CallR X (.type "list") rListT := CallR.of call_list_of fun vs H Q ⟨p, xs, e, h, q⟩ => ⟨p, xs, e, .inr (.inl (.inl h)), q.go⟩
/-- tuple(xs) of a tracked list -/
def rTupleL : List V → Hp → VK → Prop := fun vs H Q => ∃ p xs, vs = [.ref p] ∧ H p = some (.lst xs) ∧ NewH H (.tup xs) fun l H' => Q (.ref l) H'
theorem call_tupleL : CallR X (.type "tuple") rTupleL := CallR.of call_tuple_of fun vs H Q ⟨p, xs, e, h, q⟩ => ⟨p, xs, e, .inl ⟨.inl (.inl h), q.go⟩⟩
def rCatL : R2 := fun x y H Q => ∃ l b xs zs, x = .ref l ∧ y = .ref b ∧ H l = some (.lst xs) ∧ H b = some (.lst zs) ∧ xs.length + zs.length ≤ sizeLine ∧ NewH H (.lst (xs ++ zs)) fun p H' => Q (.ref p) H'
theorem op_catS : OpR X (binaryOp .Add) rCatL := OpR.of op_cat fun x y H Q ⟨l, b, xs, zs, e1, e2, h1, h2, z, q⟩ => ⟨l, b, xs, zs, e1, e2, h1, h2, z, q.go⟩
/-- [x] * n -/
def rRepS : R2 := fun x y H Q => ∃ l k v, x = .ref l ∧ y = .int k ∧ H l = some (.lst [v]) ∧ k ≤ 16777216 ∧ -(2 ^ 62) ≤ k ∧ NewH H (.lst (List.replicate k.toNat v)) fun p H' => Q (.ref p) H'
theorem rep_flat {α : Type} (n : Nat) (y : α) : (List.replicate n [y]).flatten = List.replicate n y := by
  induction n with
  | zero => rfl
  | succ n ih => rw [List.replicate_succ, List.flatten_cons, ih, List.replicate_succ]; rfl
theorem op_repS : OpR X (binaryOp .Mult) rRepS := OpR.of op_rep fun x y H Q ⟨l, k, v, e1, e2, h1, z1, z2, q⟩ => ⟨l, k, [v], e1, e2, h1, by omega, by omega, by
    rw [List.length_singleton, show sizeLine = 16777216 from rfl]; omega, by rw [rep_flat]; exact q.go⟩
def rSlS : V → Option Int → Option Int → Hp → VK → Prop := fun x lo hi H Q => ∃ a xs, x = .ref a ∧ H a = some (.lst xs) ∧ NewH H (.lst (cutV xs lo hi)) fun p H' => Q (.ref p) H'
theorem sl_listS : SlR X rSlS := SlR.of sl_listH fun x lo hi H Q ⟨a, xs, e, h, q⟩ => ⟨a, xs, e, h, q.go⟩
theorem pe_mono {e : Expr} {t : TE} (h : PE X e t) : PE X e (fun σ H Q => ∃ Q', t σ H Q' ∧ ∀ v H1, Q' v H1 → Q v H1) := ⟨fun pins s σ H Q I ⟨_, q, k⟩ => thn (h.run pins s σ H _ I q) fun _ _ ⟨v, H', I', r, q'⟩ => ⟨v, H', I', r, k _ _ q'⟩⟩
theorem PG.of {e : Expr} {t t' : TG} (h : PG X e t) (k : ∀ v σ H Q, t' v σ H Q → t v σ H Q) : PG X e t' := ⟨fun pins s σ H v u Q I r q => h.run pins s σ H v u Q I r (k _ _ _ _ q)⟩
theorem PI.of {tg e : Expr} {t t' : TI} (h : PI X tg e t) (k : ∀ σ H R, t' σ H R → t σ H R) : PI X tg e t' := ⟨fun pins s σ H R I q => h.run pins s σ H R I (k _ _ _ q)⟩
def gTupS (n : Nat) (t : TGs) : TG := fun v σ H Q => ∃ a xs, v = .ref a ∧ H a = some (.tup xs) ∧ xs.length = n ∧ t xs σ H Q
theorem pg_tupS {k : Nat} {t : TGs} {n : Nat} (hc : X.calm = true) (h : PGs X es t) (hn : (assignEach es X.env).length = n := by rfl) (hst : (assignEach es X.env).findIdx? (·.1) = none := by rfl) : PG X (.Tuple es k pos) (gTupS n t) :=
  PG.of (pg_tup hc h hn hst) fun v σ H Q ⟨a, xs, e, g, l, q⟩ => ⟨a, xs, e, .inl (.inl g), l, q⟩
def gLstS (n : Nat) (t : TGs) : TG := fun v σ H Q => ∃ a xs, v = .ref a ∧ H a = some (.lst xs) ∧ xs.length = n ∧ t xs σ H Q
theorem pg_lstS {k : Nat} {t : TGs} {n : Nat} (hc : X.calm = true) (h : PGs X es t) (hn : (assignEach es X.env).length = n := by rfl) (hst : (assignEach es X.env).findIdx? (·.1) = none := by rfl) : PG X (.Tuple es k pos) (gLstS n t) :=
  PG.of (pg_lst hc h hn hst) fun v σ H Q ⟨a, xs, e, g, l, q⟩ => ⟨a, xs, e, .inl (.inl g), l, q⟩
def iListS (K : PySem.W.Frag) (tl : TE) : TI := fun σ H R => tl σ H fun x H1 => ∃ a xs, x = .ref a ∧ H1 a = some (.lst xs) ∧ R (Itl K a) H1
theorem pi_listS {tg l : Expr} {tl : TE} (hl : PE X l tl) : PI X tg l (iListS X.K tl) := PI.of (pi_list (pe_mono hl)) fun σ H R q => ⟨_, q, fun _ _ ⟨a, xs, e, g, r⟩ => ⟨a, e, ⟨xs, .inl (.inl g)⟩, r⟩⟩
def iTupS (K : PySem.W.Frag) (tl : TE) : TI := fun σ H R => tl σ H fun x H1 => ∃ a xs, x = .ref a ∧ H1 a = some (.tup xs) ∧ R (Itt K a) H1
theorem pi_tupS {tg l : Expr} {tl : TE} (hl : PE X l tl) : PI X tg l (iTupS X.K tl) := PI.of (pi_tup (pe_mono hl)) fun σ H R q => ⟨_, q, fun _ _ ⟨a, xs, e, g, r⟩ => ⟨a, e, ⟨xs, .inl (.inl g)⟩, r⟩⟩
def tML (r : V → List V → Hp → VK → Prop) (to : TE) (t : TA) : TE := fun σ H Q => to σ H fun x H1 => ∃ p xs, x = .ref p ∧ H1 p = some (.lst xs) ∧ t σ H1 fun ys H2 => r x ys H2 Q
theorem pe_ml {to : TE} {t : TA} {e : PySem.Expr} {K : PySem.W.Frag} {r : V → List V → Hp → VK → Prop} (h : PE X e (tBM K "list" r (fun σ H Q => ∃ Q', to σ H Q' ∧ ∀ v H1, Q' v H1 → Q v H1) t)) : PE X e (tML r to t) :=
  PE.of h fun σ H Q q => ⟨_, q, fun v H1 ⟨p, xs, e, g, z⟩ => ⟨by rw [e]; exact .inl ⟨rfl, xs, .inl (.inl g)⟩, z⟩⟩
def tML0 (r : V → List V → Hp → VK → Prop) (to : TE) : TE := fun σ H Q => to σ H fun x H1 => ∃ p xs, x = .ref p ∧ H1 p = some (.lst xs) ∧ r x [] H1 Q
theorem pe_ml0 {to : TE} {e : PySem.Expr} {K : PySem.W.Frag} {r : V → List V → Hp → VK → Prop} (h : PE X e (tBM0 K "list" r (fun σ H Q => ∃ Q', to σ H Q' ∧ ∀ v H1, Q' v H1 → Q v H1))) : PE X e (tML0 r to) :=
  PE.of h fun σ H Q q => ⟨_, q, fun v H1 ⟨p, xs, e, g, z⟩ => ⟨by rw [e]; exact .inl ⟨rfl, xs, .inl (.inl g)⟩, z⟩⟩
end
/-- loops and comprehensions over any walk -/
theorem lpW {J : It} {n : Nat} {G : Hp → Prop} {Y : Nat → Hp → V → Hp → Prop} (w : Walk J n G Y) {g : TG} {tb : TS} {D : Ends} {σ : L2.St} {H : Hp} (Pv : Nat → L2.St → Hp → Prop) (h0 : Pv 0 σ H) (hG : ∀ i σ H, i ≤ n → Pv i σ H → G H)
    (hs : ∀ i x σ H H', i < n → Pv i σ H → Y i H x H' → g x σ H' fun σ2 H2 => tb { D with nx := Pv (i + 1), ct := Pv (i + 1), bk := D.nx } σ2 H2) (hd : ∀ σ H, Pv n σ H → D.nx σ H) : Loop J g tb D σ H := for_it w Pv h0 hG hs hd
theorem lcW {J : It} {n : Nat} {G : Hp → Prop} {Y : Nat → Hp → V → Hp → Prop} (w : Walk J n G Y) {g : TG} {tt : TT} {te : TE} {vs : List Nat} {σ : L2.St} {H1 : Hp} {Q : VK} (Pv : Addr → Nat → Hp → Prop) (h0 : ∀ D H, Same H1 H → H1 D = none → H D = some (.lst []) → Pv D 0 H)
    (hG : ∀ D i H, H1 D = none → i ≤ n → Pv D i H → G H) (hs : ∀ D i x H H', i < n → H1 D = none → Pv D i H → Y i H x H' → g x (wipe σ vs) H' fun σ2 H2 => wipe σ2 vs = wipe σ vs ∧ tt σ2 H2 fun b H3 =>
      if b = true then te σ2 H3 fun y H4 => ∃ acc, H4 D = some (.lst acc) ∧ acc.length < sizeLine ∧ Pv D (i + 1) (upd H4 D (.lst (acc ++ [y]))) else Pv D (i + 1) H3)
    (hd : ∀ D H, H1 D = none → Pv D n H → Q (.ref D) H) : LcLoop J g tt te vs σ H1 Q :=
  fun D hD => lc_it w (Pv D) (h0 D _ (same_upd hD) hD upd_same) (fun i H hi p => hG D i H hD hi p) (fun i x H H' hi p y => hs D i x H H' hi hD p y) fun H p => hd D H hD p
theorem lcL {J : It} {n : Nat} {G : Hp → Prop} {Y : Nat → Hp → V → Hp → Prop} (w : Walk J n G Y) {g : TG} {tt : TT} {te : TE} {vs : List Nat} {σ : L2.St} {H1 : Hp} {Q : VK} (L : Nat → List V) (hz : L 0 = []) (hG : ∀ H, Same H1 H → G H)
    (hs : ∀ D i x H H', i < n → H1 D = none → Same H1 H → H D = some (.lst (L i)) → Y i H x H' → g x (wipe σ vs) H' fun σ2 H2 => wipe σ2 vs = wipe σ vs ∧ tt σ2 H2 fun b H3 =>
      if b = true then te σ2 H3 fun y H4 => ∃ acc, H4 D = some (.lst acc) ∧ acc.length < sizeLine ∧ Same H1 (upd H4 D (.lst (acc ++ [y]))) ∧ upd H4 D (.lst (acc ++ [y])) D = some (.lst (L (i + 1))) else Same H1 H3 ∧ H3 D = some (.lst (L (i + 1))))
    (hd : ∀ D H, Same H1 H → H1 D = none → H D = some (.lst (L n)) → Q (.ref D) H) : LcLoop J g tt te vs σ H1 Q :=
  lcW w (fun D i H => Same H1 H ∧ H D = some (.lst (L i))) (fun D H s _ g => ⟨s, by rw [g, hz]⟩) (fun _ _ H _ _ p => hG H p.1) (fun D i x H H' hi hD p y => hs D i x H H' hi hD p.1 p.2 y) fun D H hD p => hd D H p.1 hD p.2
theorem walkR {n : Nat} : Walk (Itr 0 n) n (fun _ => True) (YFn fun i => .int (i : Int)) := walk_range.mono (fun _ h => h) fun i H x H' _ _ y => ⟨y.1, by rw [y.2]; show V.int (0 + (i : Int)) = V.int (i : Int); rw [Int.zero_add]⟩
theorem walkL {K : PySem.W.Frag} {a : Addr} {xs : List V} : Walk (Itl K a) xs.length (fun H => H a = some (.lst xs)) (YAt xs) := (walk_list (K := K) (a := a) (xs := xs)).mono (fun _ h => .inl (.inl h)) fun _ _ _ _ _ _ y => y
theorem walkT {K : PySem.W.Frag} {a : Addr} {xs : List V} : Walk (Itt K a) xs.length (fun H => H a = some (.tup xs)) (YAt xs) := (walk_tup (K := K) (a := a) (xs := xs)).mono (fun _ h => .inl (.inl h)) fun _ _ _ _ _ _ y => y
/-- a list of ints is walked -/
def YInt (ns : List Int) : Nat → Hp → V → Hp → Prop := fun i H v H' => H' = H ∧ ∃ b, ns[i]? = some b ∧ v = .int b
theorem walkI {K : PySem.W.Frag} {a : Addr} {ns : List Int} : Walk (Itl K a) ns.length (fun H => H a = some (.lst (List.map V.int ns))) (YInt ns) := by
  have w := walkL (K := K) (a := a) (xs := List.map V.int ns)
  rw [List.length_map] at w
  refine w.mono (fun _ h => h) fun i H x H' _ _ y => ⟨y.1, ?_⟩
  have h := y.2
  rw [List.getElem?_map] at h
  obtain ⟨b, h1, rfl⟩ := Option.map_eq_some_iff.mp h
  exact ⟨b, h1, rfl⟩
theorem sqL_eq {K : PySem.W.Frag} {H : Hp} {a : Addr} {xs : List V} (h : H a = some (.lst xs)) : (∃ xs, SqL K H a xs) = True := eq_true ⟨_, .inl (.inl h)⟩
theorem sqT_eq {K : PySem.W.Frag} {H : Hp} {a : Addr} {xs : List V} (h : H a = some (.tup xs)) : (∃ xs, SqT K H a xs) = True := eq_true ⟨_, .inl (.inl h)⟩
theorem tyL_eq {K : PySem.W.Frag} {H : Hp} {p : Addr} {xs : List V} (h : H p = some (.lst xs)) : tyV K "list" (.ref p) H = True := eq_true (.inl ⟨rfl, xs, .inl (.inl h)⟩)
theorem Same.c2 {H H' : Hp} {a b : Addr} {x y : HO} (s : Same H H') (ga : H a = some x) (gb : H b = some y) : H' a = some x ∧ H' b = some y := ⟨s _ _ ga, s _ _ gb⟩
theorem map_int_inj {xs ys : List Int} : (List.map V.int xs = List.map V.int ys) = (xs = ys) := by
  refine propext ⟨fun h => ?_, fun h => by rw [h]⟩
  induction xs generalizing ys with
  | nil => cases ys with
    | nil => rfl
    | cons y q => cases h
  | cons x r ih => cases ys with
    | nil => cases h
    | cons y q =>
      rw [List.map_cons, List.map_cons, List.cons.injEq, V.int.injEq] at h
      rw [h.1, ih h.2]
theorem sz1 : (1 ≤ sizeLine) = True := eq_true (by decide)
theorem sz2 : (2 ≤ sizeLine) = True := eq_true (by decide)
theorem sz3 : (3 ≤ sizeLine) = True := eq_true (by decide)
theorem sz4 : (4 ≤ sizeLine) = True := eq_true (by decide)
theorem sz5 : (5 ≤ sizeLine) = True := eq_true (by decide)
theorem sz6 : (6 ≤ sizeLine) = True := eq_true (by decide)
theorem sz8 : (8 ≤ sizeLine) = True := eq_true (by decide)
/-- an item of a list of ints -/
def gN (ns : List Int) (i : Nat) : Int := ns.getD i 0
theorem at_g {ns : List Int} {i : Nat} (h : i < ns.length) : atI (ns.map V.int) (i : Int) = some (V.int (gN ns i)) := by
  refine atI_nat ?_
  rw [List.getElem?_map, List.getElem?_eq_getElem h]
  simp [gN, h]
theorem at_g' {ns : List Int} {k : Int} {i : Nat} (e : k = (i : Int)) (h : i < ns.length) : atI (ns.map V.int) k = some (V.int (gN ns i)) := by
  rw [e]
  exact at_g h
theorem iteT' {c : Bool} {a b : Prop} (h : c = true) (x : a) : if c = true then a else b := by rw [if_pos h]; exact x
theorem iteF' {c : Bool} {a b : Prop} (h : c = false) (x : b) : if c = true then a else b := by rw [if_neg (by rw [h]; decide)]; exact x
theorem iteB {c : Bool} {p : Prop} [Decidable p] {a b : Prop} (h : c = decide p) (x : p → a) (y : ¬ p → b) : if c = true then a else b := by
  subst h
  exact ite2 (fun e => x (of_decide_eq_true e)) fun e => y fun z => e (decide_eq_true z)
theorem iteD {p : Prop} [Decidable p] {a b : Prop} (x : p → a) (y : ¬ p → b) : if decide p = true then a else b := iteB rfl x y
def mx (x y : Int) : Int := if x < y then y else x
def mn (x y : Int) : Int := if y < x then y else x
theorem mx_eq (x y : Int) : (if x < y then y else x) = mx x y := rfl
theorem mn_eq (x y : Int) : (if y < x then y else x) = mn x y := rfl
theorem mx_le {x y z : Int} : mx x y ≤ z ↔ x ≤ z ∧ y ≤ z := by
  unfold mx
  split <;> omega
theorem lt_mn {x y z : Int} : z < mn x y ↔ z < x ∧ z < y := by
  unfold mn
  split <;> omega
theorem toNat_mul (m n : Nat) : ((m : Int) * (n : Int)).toNat = m * n := by rw [← Int.natCast_mul, Int.toNat_natCast]
theorem atI_lit {xs : List V} {k : Int} (h0 : 0 ≤ k) (h1 : k < xs.length) : ∃ v, atI xs k = some v ∧ v ∈ xs := by
  have h : k.toNat < xs.length := by omega
  refine ⟨xs[k.toNat], ?_, List.getElem_mem h⟩
  unfold atI
  rw [ixN_in h0 h1]
  exact List.getElem?_eq_getElem h
theorem atI_lits {xs : List Int} {k : Int} (h0 : 0 ≤ k) (h1 : k < xs.length) : ∃ v, atI (List.map V.int xs) k = some (.int v) ∧ v ∈ xs := by
  obtain ⟨v, h, hm⟩ := atI_lit (xs := List.map V.int xs) h0 (by rw [List.length_map]; exact h1)
  obtain ⟨i, hi, rfl⟩ := List.mem_map.mp hm
  exact ⟨i, h, hi⟩
theorem natOf {x : Int} (h : 0 ≤ x) : ∃ n : Nat, x = (n : Int) := ⟨x.toNat, by omega⟩
theorem map_cat (xs ys : List Int) : List.map V.int xs ++ List.map V.int ys = List.map V.int (xs ++ ys) := by rw [List.map_append]
theorem map_snoc (xs : List Int) (v : Int) : List.map V.int xs ++ [V.int v] = List.map V.int (xs ++ [v]) := by rw [List.map_append]; rfl
theorem map_setV (l : List Int) (i : Nat) (v : Int) : (List.map V.int l).set i (.int v) = List.map V.int (l.set i v) := by rw [List.map_set]
/-- all but one object stand as they stood -/
def But (a : Addr) (H H' : Hp) : Prop := ∀ b o, b ≠ a → H b = some o → H' b = some o
theorem But.refl (a : Addr) (H : Hp) : But a H H := fun _ _ _ h => h
theorem But.ofSame {a : Addr} {H H' : Hp} (s : Same H H') : But a H H' := fun b o _ h => s b o h
theorem But.trans {a : Addr} {H H1 H2 : Hp} (x : But a H H1) (y : But a H1 H2) : But a H H2 := fun b o n h => y b o n (x b o n h)
theorem But.put {a : Addr} {H H' : Hp} {o : HO} (x : But a H H') : But a H (upd H' a o) := fun b o' n h => by rw [upd_ne n]; exact x b o' n h
theorem But.same {a : Addr} {H H1 H' : Hp} (s : Same H H1) (x : But a H1 H') (h : H a = none) : Same H H' := fun b o e => x b o (ne_of_none e h) (s b o e)
/-- the cell k of the script -/
def cellA (ns : List Int) (k : Nat) : Int := ns.getD k 0
def absI (c : Int) : Int := if c < 0 then -c else c
theorem absI_eq (c : Int) : (if c < 0 then -c else c) = absI c := rfl
theorem absI_nn (c : Int) : 0 ≤ absI c := by
  unfold absI
  split <;> omega
section
variable {X : Cx}
/-- xs[i] op= e reads the item first -/
def rGetL : V → V → Hp → VK → Prop := fun x y H Q => ∃ p xs i v, x = .ref p ∧ y = .int i ∧ H p = some (.lst xs) ∧ 0 ≤ i ∧ i < 2 ^ 62 ∧ xs[i.toNat]? = some v ∧ Q v H
theorem pget_list : PGet X rGetL := by
  intro pins s σ H x y v u Q I rx ry h
  obtain ⟨p, xs, i, z, rfl, rfl, hp, h0, h1, he, q⟩ := h
  cases rx
  obtain ⟨t, rfl⟩ := ry
  obtain ⟨its, r, pl, _⟩ := I.list (.inl (.inl hp))
  obtain ⟨w, ew, rw'⟩ := r.get he
  exact getItem_listL pl.isList h0 (by omega) ew ⟨z, H, I, rw', q⟩
def iZipS (K : PySem.W.Frag) (ta : TA) : TI := fun σ H R => ta σ H fun vs H1 => ∃ a b xs ys, vs = [.ref a, .ref b] ∧ H1 a = some (.lst xs) ∧ H1 b = some (.lst ys) ∧ R (Itz K a b) H1
theorem pi_zipS {e e2 : Expr} {ta : TA} {p pos tpos : Pos} {elts : List Expr} {kk : Nat} (hg : Gl X "zip") (hm : X.mg "zip" = none) (ha : PA X [e, e2] ta) (hs : starEach [e, e2] X.env = (false, eval e X.env) :: starEach [e2] X.env := by rfl) (hpl : (backTo pos (starEach [e2] X.env)).any (·.1) = false := by rfl) :
    PI X (.Tuple elts kk tpos) (.Call (.Name "zip" p) [e, e2] [] pos) (iZipS X.K ta) := PI.of (pi_zip hg hm (pa_mono ha) hs hpl) fun σ H R q => ⟨_, q, fun vs H1 ⟨a, b, xs, ys, e, g1, g2, r⟩ => ⟨a, b, xs, ys, e, .inl (.inl g1), .inl (.inl g2), r⟩⟩
end
theorem walkZ {K : PySem.W.Frag} {a b : Addr} {xs ys : List V} {n : Nat} (hn : n = min xs.length ys.length) : Walk (Itz K a b) n (fun H => H a = some (.lst xs) ∧ H b = some (.lst ys)) (YPair (fun i => xs[i]?) (fun i => ys[i]?)) :=
  (walk_zip (K := K) (a := a) (b := b) hn).mono (fun _ h => ⟨.inl (.inl h.1), .inl (.inl h.2)⟩) fun _ _ _ _ _ _ y => y
theorem cutV_take {xs : List V} {n : Nat} : cutV xs none (some (n : Int)) = xs.take n := by
  unfold cutV
  rw [HT.sIx_nat, HT.sIx_none, List.drop_zero]
  by_cases h : n ≤ xs.length
  · rw [Nat.min_eq_left h, Nat.sub_zero]
  · rw [Nat.min_eq_right (by omega), Nat.sub_zero, List.take_of_length_le (Nat.le_refl _), List.take_of_length_le (by omega)]
theorem cutV_drop {xs : List V} {n : Nat} : cutV xs (some (n : Int)) none = xs.drop n := by
  unfold cutV
  rw [HT.sIx_nat, HT.sIx_none]
  by_cases h : n ≤ xs.length
  · rw [Nat.min_eq_left h, List.take_of_length_le (by rw [List.length_drop]; exact Nat.le_refl _)]
  · rw [Nat.min_eq_right (by omega), List.drop_of_length_le (Nat.le_refl _), List.drop_of_length_le (by omega), List.take_nil]
theorem cutI_take {xs : List Int} {n : Nat} : cutV (List.map V.int xs) none (some (n : Int)) = List.map V.int (xs.take n) := by rw [cutV_take, List.map_take]
theorem cutI_drop {xs : List Int} {n : Nat} : cutV (List.map V.int xs) (some (n : Int)) none = List.map V.int (xs.drop n) := by rw [cutV_drop, List.map_drop]
/-- two lists item by item -/
inductive All2 {α β : Type} (R : α → β → Prop) : List α → List β → Prop
  | nil : All2 R [] []
  | cons {x : α} {y : β} {xs : List α} {ys : List β} : R x y → All2 R xs ys → All2 R (x :: xs) (y :: ys)
section
variable {α β : Type} {R S : α → β → Prop}
theorem All2.len {xs : List α} {ys : List β} (h : All2 R xs ys) : xs.length = ys.length := by
  induction h with
  | nil => rfl
  | cons _ _ ih => rw [List.length_cons, List.length_cons, ih]
theorem All2.mono {xs : List α} {ys : List β} (h : All2 R xs ys) (k : ∀ x y, R x y → S x y) : All2 S xs ys := by
  induction h with
  | nil => exact .nil
  | cons r _ ih => exact .cons (k _ _ r) ih
theorem All2.app {xs xs' : List α} {ys ys' : List β} (h : All2 R xs ys) (k : All2 R xs' ys') : All2 R (xs ++ xs') (ys ++ ys') := by
  induction h with
  | nil => exact k
  | cons r _ ih => exact .cons r ih
theorem All2.snoc {xs : List α} {ys : List β} {x : α} {y : β} (h : All2 R xs ys) (r : R x y) : All2 R (xs ++ [x]) (ys ++ [y]) := h.app (.cons r .nil)
theorem All2.at {xs : List α} {ys : List β} (h : All2 R xs ys) {i : Nat} {x : α} (e : xs[i]? = some x) : ∃ y, ys[i]? = some y ∧ R x y := by
  induction h generalizing i with
  | nil => simp at e
  | cons r _ ih =>
    cases i with
    | zero => exact ⟨_, rfl, by simpa using (Option.some.inj e) ▸ r⟩
    | succ i => exact ih e
theorem All2.at' {xs : List α} {ys : List β} (h : All2 R xs ys) {i : Nat} {y : β} (e : ys[i]? = some y) : ∃ x, xs[i]? = some x ∧ R x y := by
  induction h generalizing i with
  | nil => simp at e
  | cons r _ ih =>
    cases i with
    | zero => exact ⟨_, rfl, by simpa using (Option.some.inj e) ▸ r⟩
    | succ i => exact ih e
theorem All2.take {xs : List α} {ys : List β} (h : All2 R xs ys) (n : Nat) : All2 R (xs.take n) (ys.take n) := by
  induction h generalizing n with
  | nil => rw [List.take_nil, List.take_nil]; exact .nil
  | cons r _ ih =>
    cases n with
    | zero => exact .nil
    | succ n => exact .cons r (ih n)
theorem All2.drop {xs : List α} {ys : List β} (h : All2 R xs ys) (n : Nat) : All2 R (xs.drop n) (ys.drop n) := by
  induction h generalizing n with
  | nil => rw [List.drop_nil, List.drop_nil]; exact .nil
  | cons r t ih =>
    cases n with
    | zero => exact .cons r t
    | succ n => exact ih n
end
theorem tup_upd {H : Hp} {a l : Addr} {xs ys : List V} {o : HO} (h : H a = some (.tup xs)) (g : H l = some (.lst ys)) : upd H l o a = some (.tup xs) := by
  rw [upd_ne (ne_of h g (by intro z; cases z))]
  exact h
theorem tup_but {H H' : Hp} {a l : Addr} {xs ys : List V} (bt : But l H H') (h : H a = some (.tup xs)) (g : H l = some (.lst ys)) : H' a = some (.tup xs) := bt _ _ (ne_of h g (by intro z; cases z)) h
theorem cutV_take1 {xs : List V} : cutV xs none (some 1) = xs.take 1 := cutV_take (n := 1)
theorem cutV_drop1 {xs : List V} : cutV xs (some 1) none = xs.drop 1 := cutV_drop (n := 1)
section
variable {X : Cx}
/-- the script: its length, an item -/
def rLenSc (K : PySem.W.Frag) (a : Addr) (ns : List Int) : List V → Hp → VK → Prop := fun vs H Q => vs = [.ref a] ∧ SqL K H a (List.map V.int ns) ∧ Q (.int ns.length) H
theorem call_lenSc (a : Addr) (ns : List Int) : CallR X (.builtin "len") (rLenSc X.K a ns) := CallR.of call_len_seq fun vs H Q ⟨e, h, q⟩ => ⟨a, List.map V.int ns, e, .inl h, by rw [List.length_map]; exact q⟩
def rIxSc (K : PySem.W.Frag) (a : Addr) (ns : List Int) : R2 := fun x y H Q => ∃ i, x = .ref a ∧ y = .int i ∧ SqL K H a (List.map V.int ns) ∧ 0 ≤ i ∧ i < ns.length ∧ Q (.int (gN ns i.toNat)) H
theorem ix_sc (a : Addr) (ns : List Int) : IxR X (rIxSc X.K a ns) := IxR.of ix_list fun x y H Q ⟨i, e1, e2, h, h0, h1, q⟩ => ⟨a, List.map V.int ns, i, _, e1, e2, h, at_g' (Int.toNat_of_nonneg h0).symm (by omega), q⟩
end
section
variable {X : Cx}
def rSumS : List V → Hp → VK → Prop := fun vs H Q => ∃ a ns, vs = [.ref a] ∧ H a = some (.lst (List.map V.int ns)) ∧ Q (.int ns.sum) H
theorem cr_sumS (hc : X.calm = true) : CallR X (.builtin "sum") rSumS := CallR.of (cr_sum hc) fun vs H Q ⟨a, ns, e, g, q⟩ => ⟨a, ns, e, .inl (.inl g), q⟩
end
section
variable {X : Cx}
/-- t[lo:hi]: t itself or a new tuple, in either case one of these items -/
def rSlTS : V → Option Int → Option Int → Hp → VK → Prop := fun x lo hi H Q => ∃ a xs, x = .ref a ∧ H a = some (.tup xs) ∧ ∀ p H', Same H H' → (p = a ∨ H p = none) → H' p = some (.tup (cutV xs lo hi)) → Q (.ref p) H'
theorem sl_tupS : SlR X rSlTS := SlR.of sl_tupA fun x lo hi H Q ⟨a, xs, e, g, q⟩ => ⟨a, xs, e, .inl (.inl g), fun z => q a H (Same.refl _) (.inl rfl) (by
    unfold cutV
    rw [z.1, z.2, List.drop_zero, Nat.sub_zero, List.take_length]
    exact g), fun _ p hp => q p _ (same_upd hp) (.inr hp) upd_same⟩
end
theorem cutV_take3 {xs : List V} : cutV xs none (some 3) = xs.take 3 := cutV_take (n := 3)
section
variable {X : Cx}
theorem PT.of {e : Expr} {t t' : TT} (h : PT X e t) (k : ∀ σ H Q, t' σ H Q → t σ H Q) : PT X e t' := ⟨fun pins s σ H Q I q => h.run pins s σ H Q I (k _ _ _ q)⟩
/-- a list's truth -/
def tTrL (ta : TE) : TT := fun σ H Q => ta σ H fun x H1 => ∃ p xs, x = .ref p ∧ H1 p = some (.lst xs) ∧ Q (decide (0 < xs.length)) H1
theorem pt_truthL {a : Expr} {ta : TE} (ha : PE X a ta) (he : ∀ whole, isTrue a X.env whole = (do let v ← whole; standAt a.pos; holding [v] (truthy v))) : PT X a (tTrL ta) :=
  PT.of (pt_truth (pe_mono ha) he) fun σ H Q q => ⟨_, q, fun x H1 ⟨p, xs, e, g, z⟩ => ⟨decide (0 < xs.length), by rw [e]; exact .inl ⟨xs, .inl (.inl g), by cases xs <;> simp⟩, z⟩⟩
def iEnumL (K : PySem.W.Frag) (ta : TA) : TI := fun σ H R => ta σ H fun vs H1 => ∃ a xs, vs = [.ref a] ∧ H1 a = some (.lst xs) ∧ R (Ite K a) H1
theorem pi_enumL {e : Expr} {ta : TA} {p pos tpos : Pos} {elts : List Expr} {kk : Nat} (hg : Gl X "enumerate") (hm : X.mg "enumerate" = none) (ha : PA X [e] ta) (hs : starEach [e] X.env = [(false, eval e X.env)] := by rfl) :
    PI X (.Tuple elts kk tpos) (.Call (.Name "enumerate" p) [e] [] pos) (iEnumL X.K ta) := PI.of (pi_enum hg hm (pa_mono ha) hs) fun σ H R q => ⟨_, q, fun vs H1 ⟨a, xs, e, g, r⟩ => ⟨a, xs, e, .inl (.inl g), r⟩⟩
end
theorem walkE {K : PySem.W.Frag} {a : Addr} {xs : List V} : Walk (Ite K a) xs.length (fun H => H a = some (.lst xs)) (YPair (fun i => some (.int (i : Nat))) (fun i => xs[i]?)) := (walk_enum (K := K) (a := a) (xs := xs)).mono (fun _ h => .inl (.inl h)) fun _ _ _ _ _ _ y => y
theorem seq_cut {s1 R : TS} {D : Ends} {σ : L2.St} {H : Hp} (I : L2.St → Hp → Prop) (h2 : ∀ σ H, I σ H → R D σ H) (h1 : ∀ C : L2.St → Hp → Prop, (∀ σ H, I σ H → C σ H) → s1 { D with nx := C } σ H) : tSeq s1 R D σ H := h1 _ h2
section
variable {X : Cx}
theorem inV_int (i : Int) : ∀ ns : List Int, inV (.int i) (List.map V.int ns) = decide (i ∈ ns)
  | [] => by simp [inV]
  | n :: r => by
    have ih := inV_int i r
    unfold inV at ih ⊢
    rw [List.map_cons, List.any_cons, ih]
    by_cases h : n = i
    · subst h; simp [eqV]
    · simp [eqV, h, Ne.symm h]
theorem flat_ints : ∀ ns : List Int, (List.map V.int ns).all flatV = true
  | [] => rfl
  | _ :: r => by rw [List.map_cons, List.all_cons, flat_ints r]; rfl
/-- an int in a list of ints -/
def rInI : R2 := fun x y H Q => ∃ i p ns, x = .int i ∧ y = .ref p ∧ H p = some (.lst (List.map V.int ns)) ∧ Q (.bl (decide (i ∈ ns))) H
theorem op_inI : OpR X (compareOp .In) rInI := OpR.of op_in_seq fun x y H Q ⟨i, p, ns, e1, e2, g, q⟩ => ⟨p, List.map V.int ns, e2, .inl (.inl (.inl g)), by rw [e1]; rfl, flat_ints ns, by rw [e1, inV_int]; exact q⟩
/-- xs.index(i): the first place -/
def rIndexI : V → List V → Hp → VK → Prop := fun x xs H Q => ∃ p ns i j, x = .ref p ∧ xs = [.int i] ∧ H p = some (.lst (List.map V.int ns)) ∧ ns[j]? = some i ∧ (∀ m, m < j → ns[m]? ≠ some i) ∧ Q (.int ((j : Nat) : Int)) H
theorem MtR.of {id : String} {r r' : V → List V → Hp → VK → Prop} (h : MtR X id r) (k : ∀ x xs H Q, r' x xs H Q → r x xs H Q) : MtR X id r' := fun pins s σ H x xs v us Q I rx rv q => h pins s σ H x xs v us Q I rx rv (k _ _ _ _ q)
theorem mt_indexI : MtR X "list.index" rIndexI := MtR.of mt_index fun x xs H Q ⟨p, ns, i, j, e1, e2, g, hj, hm, q⟩ =>
  ⟨p, List.map V.int ns, .int i, j, .int i, e1, e2, .inl (.inl g), rfl, flat_ints ns, by rw [List.getElem?_map, hj]; rfl, by simp [eqV], fun m z hmj hz => by
    rw [List.getElem?_map] at hz
    obtain ⟨b, h1, rfl⟩ := Option.map_eq_some_iff.mp hz
    have : b ≠ i := fun e => hm m hmj (e ▸ h1)
    simp [eqV, this], q⟩
end
def sl (ns : List Int) (i j : Nat) : List Int := (ns.drop i).take (j - i)
theorem cut_sl {ns : List Int} {i j : Nat} : cutV (List.map V.int ns) (some (i : Int)) (some (j : Int)) = List.map V.int (sl ns i j) := by
  unfold cutV sl
  rw [HT.sIx_nat, HT.sIx_nat, List.length_map, ← List.map_drop, ← List.map_take]
  congr 1
  by_cases h : i < ns.length
  · rw [Nat.min_eq_left (Nat.le_of_lt h)]
    by_cases h2 : j ≤ ns.length
    · rw [Nat.min_eq_left h2]
    · rw [Nat.min_eq_right (by omega), List.take_of_length_le (by rw [List.length_drop]; exact Nat.le_refl _), List.take_of_length_le (by rw [List.length_drop]; omega)]
  · rw [List.drop_eq_nil_of_le (by omega), List.drop_eq_nil_of_le (by omega), List.take_nil, List.take_nil]
theorem sl_len (ns : List Int) (i j : Nat) : (sl ns i j).length = min (j - i) (ns.length - i) := by
  unfold sl
  rw [List.length_take, List.length_drop]
/-- a dict comprehension -/
def DcLoop (J : It) (g : TG) (tt : TT) (tk tv : TE) (vs : List Nat) (σ : L2.St) (H1 : Hp) (Q : VK) : Prop := ∀ D, H1 D = none → ∃ W : Nat → Nat → Hp → Prop, (∃ m, W 0 m (upd H1 D (.dK []))) ∧ ∀ i m H, W i m H →
  (J.stop i H ∧ Q (.ref D) H) ∨ (J.go i H ∧ ∃ Nx : Hp → Prop, (∀ H', Nx H' → ∃ m', m' < m ∧ W (i + 1) m' H') ∧ ∀ x H', J.yld i H x H' → g x (wipe σ vs) H' fun σ2 H2 => wipe σ2 vs = wipe σ vs ∧ tt σ2 H2 fun b H3 =>
    if b = true then tk σ2 H3 fun y H4 => tv σ2 H4 fun z H5 => ∃ kvs k, y = kV k ∧ H5 D = some (.dK kvs) ∧ kvs.length < sizeLine ∧ Nx (upd H5 D (.dK (putK kvs k z))) else Nx H3)
theorem tDc_eq {wi : TI} {g : TG} {tt : TT} {tk tv : TE} {vs : List Nat} {σ : L2.St} {H : Hp} {Q : VK} : tDc wi g tt tk tv vs σ H Q = wi σ H fun J H1 => DcLoop J g tt tk tv vs σ H1 Q := rfl
theorem dcW {J : It} {n : Nat} {G : Hp → Prop} {Y : Nat → Hp → V → Hp → Prop} (w : Walk J n G Y) {g : TG} {tt : TT} {tk tv : TE} {vs : List Nat} {σ : L2.St} {H1 : Hp} {Q : VK} (Pv : Addr → Nat → Hp → Prop) (h0 : ∀ D H, Same H1 H → H1 D = none → H D = some (.dK []) → Pv D 0 H)
    (hG : ∀ D i H, H1 D = none → i ≤ n → Pv D i H → G H) (hs : ∀ D i x H H', i < n → H1 D = none → Pv D i H → Y i H x H' → g x (wipe σ vs) H' fun σ2 H2 => wipe σ2 vs = wipe σ vs ∧ tt σ2 H2 fun b H3 =>
      if b = true then tk σ2 H3 fun y H4 => tv σ2 H4 fun z H5 => ∃ kvs k, y = kV k ∧ H5 D = some (.dK kvs) ∧ kvs.length < sizeLine ∧ Pv D (i + 1) (upd H5 D (.dK (putK kvs k z))) else Pv D (i + 1) H3)
    (hd : ∀ D H, H1 D = none → Pv D n H → Q (.ref D) H) : DcLoop J g tt tk tv vs σ H1 Q := by
  intro D hD
  refine ⟨fun i m H => m = n - i ∧ i ≤ n ∧ Pv D i H, ⟨n, by simp, Nat.zero_le _, h0 D _ (same_upd hD) hD upd_same⟩, ?_⟩
  rintro i m H ⟨rfl, hi, p⟩
  have q := hG D i H hD hi p
  by_cases hlt : i < n
  · exact .inr ⟨w.goes i H hlt q, Pv D (i + 1), fun H' p' => ⟨n - (i + 1), by omega, rfl, hlt, p'⟩, fun x H' y => hs D i x H H' hlt hD p (w.yields i H x H' hlt q y)⟩
  · have e : i = n := by omega
    subst e
    exact .inl ⟨w.stops H q, hd D H hD p⟩

/-! ### data at any depth: what stands there, and == of it -/
structure Cod {α : Type} [DecidableEq α] (R : Hp → V → α → Prop) (f : α → PyData) (d : Nat) : Prop where
  dp : ∀ (K : PySem.W.Frag) H v a, R H v a → Dp K H v (f a)
  eq : ∀ a b, PyData.eqv (f a) (f b) = decide (a = b)
  lay : ∀ a, PyData.canLay0 (f a) = true
  dep : ∀ a, PyData.depth (f a) ≤ d
def IntV (_ : Hp) (v : V) (i : Int) : Prop := v = .int i
def LstV {α : Type} (R : Hp → V → α → Prop) (H : Hp) (v : V) (l : List α) : Prop := ∃ a vs, v = .ref a ∧ H a = some (.lst vs) ∧ All2 (R H) vs l
def TupV {α : Type} (R : Hp → V → α → Prop) (H : Hp) (v : V) (l : List α) : Prop := ∃ a vs, v = .ref a ∧ H a = some (.tup vs) ∧ All2 (R H) vs l
def Pr2V {α β : Type} (R : Hp → V → α → Prop) (S : Hp → V → β → Prop) (H : Hp) (v : V) (p : α × β) : Prop := ∃ a x y, v = .ref a ∧ H a = some (.tup [x, y]) ∧ R H x p.1 ∧ S H y p.2
def Pr3V {α β γ : Type} (R : Hp → V → α → Prop) (S : Hp → V → β → Prop) (T : Hp → V → γ → Prop) (H : Hp) (v : V) (p : α × β × γ) : Prop := ∃ a x y z, v = .ref a ∧ H a = some (.tup [x, y, z]) ∧ R H x p.1 ∧ S H y p.2.1 ∧ T H z p.2.2
theorem cod_int : Cod IntV PyData.int 0 := ⟨fun K H v a h => by rw [show v = .int a from h]; exact .int a, eqv_ii, fun _ => rfl, fun _ => Nat.le_refl _⟩
section
variable {α β γ : Type} [DecidableEq α] [DecidableEq β] [DecidableEq γ] {R : Hp → V → α → Prop} {S : Hp → V → β → Prop} {T : Hp → V → γ → Prop} {f : α → PyData} {g : β → PyData} {h : γ → PyData} {d e k : Nat}
theorem Cod.all (c : Cod R f d) {K : PySem.W.Frag} {H : Hp} {vs : List V} {l : List α} (a : All2 (R H) vs l) : DpAll K H vs (l.map f) := by
  induction a with
  | nil => exact .nil
  | cons r _ ih => exact .cons (c.dp _ _ _ _ r) ih
theorem Cod.eqAll (c : Cod R f d) : ∀ l m : List α, PyData.eqvAll (l.map f) (m.map f) = decide (l = m)
  | [], [] => by rw [List.map_nil, eqvAll_nil]; rfl
  | [], y :: s => by rw [List.map_nil, List.map_cons, PyData.eqvAll]; simp
  | x :: r, [] => by rw [List.map_nil, List.map_cons, PyData.eqvAll]; simp
  | x :: r, y :: s => by
    rw [List.map_cons, List.map_cons, eqvAll_cons, c.eq, Cod.eqAll c r s]
    simp only [List.cons.injEq, Bool.decide_and]
theorem Cod.layAll (c : Cod R f d) : ∀ l : List α, PyData.canLayAll0 (l.map f) = true
  | [] => rfl
  | x :: r => by rw [List.map_cons, PyData.canLayAll0, c.lay, Cod.layAll c r]; rfl
theorem Cod.depAll (c : Cod R f d) : ∀ l : List α, PyData.depthAll (l.map f) ≤ d
  | [] => by rw [List.map_nil, PyData.depthAll]; exact Nat.zero_le _
  | x :: r => by rw [List.map_cons, PyData.depthAll]; exact Nat.max_le.mpr ⟨c.dep x, Cod.depAll c r⟩
theorem cod_lst (c : Cod R f d) : Cod (LstV R) (fun l => .list (l.map f)) (d + 1) :=
  ⟨fun K H v l ⟨a, vs, e, ha, hv⟩ => by rw [e]; exact .lst (.inl (.inl ha)) (c.all hv), fun l m => by rw [PyData.eqv, c.eqAll], fun l => by rw [PyData.canLay0, c.layAll], fun l => by rw [PyData.depth]; exact Nat.succ_le_succ (c.depAll l)⟩
theorem cod_tup (c : Cod R f d) : Cod (TupV R) (fun l => .tuple (l.map f)) (d + 1) :=
  ⟨fun K H v l ⟨a, vs, e, ha, hv⟩ => by rw [e]; exact .tup (.inl (.inl ha)) (c.all hv), fun l m => by rw [PyData.eqv, c.eqAll], fun l => by rw [PyData.canLay0, c.layAll], fun l => by rw [PyData.depth]; exact Nat.succ_le_succ (c.depAll l)⟩
theorem cod_p2 (c : Cod R f d) (b : Cod S g e) : Cod (Pr2V R S) (fun p => .tuple [f p.1, g p.2]) (max d e + 1) :=
  ⟨fun K H v l ⟨a, x, y, e, ha, hx, hy⟩ => by rw [e]; exact .tup (.inl (.inl ha)) (.cons (c.dp _ _ _ _ hx) (.cons (b.dp _ _ _ _ hy) .nil)),
   fun l m => by
    rw [PyData.eqv, eqvAll_cons, eqvAll_cons, eqvAll_nil, c.eq, b.eq, Bool.and_true, ← Bool.decide_and]
    exact decide_eq_decide.mpr ⟨fun z => Prod.ext z.1 z.2, fun z => by rw [z]; exact ⟨rfl, rfl⟩⟩,
   fun l => by rw [PyData.canLay0, PyData.canLayAll0, PyData.canLayAll0, PyData.canLayAll0, c.lay, b.lay]; rfl,
   fun l => by
    rw [PyData.depth, PyData.depthAll, PyData.depthAll, PyData.depthAll]
    have h1 := c.dep l.1
    have h2 := b.dep l.2
    omega⟩
theorem cod_p3 (c : Cod R f d) (b : Cod S g e) (t : Cod T h k) : Cod (Pr3V R S T) (fun p => .tuple [f p.1, g p.2.1, h p.2.2]) (max d (max e k) + 1) :=
  ⟨fun K H v l ⟨a, x, y, z, e, ha, hx, hy, hz⟩ => by rw [e]; exact .tup (.inl (.inl ha)) (.cons (c.dp _ _ _ _ hx) (.cons (b.dp _ _ _ _ hy) (.cons (t.dp _ _ _ _ hz) .nil))),
   fun l m => by
    rw [PyData.eqv, eqvAll_cons, eqvAll_cons, eqvAll_cons, eqvAll_nil, c.eq, b.eq, t.eq, Bool.and_true, ← Bool.decide_and, ← Bool.decide_and]
    exact decide_eq_decide.mpr ⟨fun z => Prod.ext z.1 (Prod.ext z.2.1 z.2.2), fun z => by rw [z]; exact ⟨rfl, rfl, rfl⟩⟩,
   fun l => by rw [PyData.canLay0, PyData.canLayAll0, PyData.canLayAll0, PyData.canLayAll0, PyData.canLayAll0, c.lay, b.lay, t.lay]; rfl,
   fun l => by
    rw [PyData.depth, PyData.depthAll, PyData.depthAll, PyData.depthAll, PyData.depthAll]
    have h1 := c.dep l.1
    have h2 := b.dep l.2.1
    have h3 := t.dep l.2.2
    omega⟩
end
section
variable {X : Cx} {α : Type} [DecidableEq α] {R : Hp → V → α → Prop} {f : α → PyData} {d : Nat}
def rEqC (R : Hp → V → α → Prop) : R2 := fun x y H Q => ∃ a b, R H x a ∧ R H y b ∧ Q (.bl (decide (a = b))) H
def rNeC (R : Hp → V → α → Prop) : R2 := fun x y H Q => ∃ a b, R H x a ∧ R H y b ∧ Q (.bl (!decide (a = b))) H
theorem Cod.shaped (c : Cod R f d) (hd : d ≤ 64) (a : α) : SeqAt.shaped (f a) = true := by
  unfold SeqAt.shaped
  rw [c.lay, decide_eq_true (Nat.le_trans (c.dep a) hd)]
  rfl
theorem op_eqC (hu : X.A.units + 64 < cLine) (c : Cod R f d) (hd : d ≤ 64) : OpR X (compareOp .Eq) (rEqC R) := OpR.of (op_eqD hu) fun x y H Q ⟨a, b, ha, hb, q⟩ => ⟨f a, f b, c.dp _ _ _ _ ha, c.dp _ _ _ _ hb, c.shaped hd a, c.shaped hd b, by rw [c.eq]; exact q⟩
theorem op_neC (hu : X.A.units + 64 < cLine) (c : Cod R f d) (hd : d ≤ 64) : OpR X (compareOp .NotEq) (rNeC R) := OpR.of (op_neD hu) fun x y H Q ⟨a, b, ha, hb, q⟩ => ⟨f a, f b, c.dp _ _ _ _ ha, c.dp _ _ _ _ hb, c.shaped hd a, c.shaped hd b, by rw [c.eq]; exact q⟩
end
theorem ints_all {H : Hp} (ns : List Int) : All2 (IntV H) (List.map V.int ns) ns := by
  induction ns with
  | nil => exact .nil
  | cons n r ih => exact .cons rfl ih
theorem ints_of {H : Hp} {vs : List V} {ns : List Int} (h : All2 (IntV H) vs ns) : vs = List.map V.int ns := by
  induction h with
  | nil => rfl
  | cons r _ ih => rw [List.map_cons, ih, show _ = V.int _ from r]
theorem intL {H : Hp} {a : Addr} {ns : List Int} (g : H a = some (.lst (List.map V.int ns))) : LstV IntV H (.ref a) ns := ⟨a, _, rfl, g, ints_all ns⟩
theorem lsv_mono {H H' : Hp} (s : Same H H') (v : V) (n : List Int) (h : LstV IntV H v n) : LstV IntV H' v n := by
  obtain ⟨a, vs, e, g, k⟩ := h
  exact ⟨a, vs, e, s _ _ g, k.mono fun _ _ z => z⟩
/-- what stands however the heap goes on, but for one list that changes -/
structure Stab {α : Type} (R : Hp → V → α → Prop) : Prop where
  mono : ∀ {H H' : Hp}, Same H H' → ∀ v a, R H v a → R H' v a
  but : ∀ {H H' : Hp} {l : Addr} {ys : List V}, But l H H' → H l = some (.lst ys) → ∀ v a, R H v a → R H' v a
theorem stab_int : Stab IntV := ⟨fun _ _ _ h => h, fun _ _ _ _ h => h⟩
section
variable {α β γ : Type} {R : Hp → V → α → Prop} {S : Hp → V → β → Prop} {T : Hp → V → γ → Prop}
theorem stab_tup (c : Stab R) : Stab (TupV R) :=
  ⟨fun s v l ⟨a, vs, e, g, k⟩ => ⟨a, vs, e, s _ _ g, k.mono (c.mono s)⟩, fun bt gl v l ⟨a, vs, e, g, k⟩ => ⟨a, vs, e, tup_but bt g gl, k.mono (c.but bt gl)⟩⟩
theorem stab_p2 (c : Stab R) (b : Stab S) : Stab (Pr2V R S) :=
  ⟨fun s v l ⟨a, x, y, e, g, h1, h2⟩ => ⟨a, x, y, e, s _ _ g, c.mono s _ _ h1, b.mono s _ _ h2⟩, fun bt gl v l ⟨a, x, y, e, g, h1, h2⟩ => ⟨a, x, y, e, tup_but bt g gl, c.but bt gl _ _ h1, b.but bt gl _ _ h2⟩⟩
theorem stab_p3 (c : Stab R) (b : Stab S) (t : Stab T) : Stab (Pr3V R S T) :=
  ⟨fun s v l ⟨a, x, y, z, e, g, h1, h2, h3⟩ => ⟨a, x, y, z, e, s _ _ g, c.mono s _ _ h1, b.mono s _ _ h2, t.mono s _ _ h3⟩, fun bt gl v l ⟨a, x, y, z, e, g, h1, h2, h3⟩ => ⟨a, x, y, z, e, tup_but bt g gl, c.but bt gl _ _ h1, b.but bt gl _ _ h2, t.but bt gl _ _ h3⟩⟩
theorem lstV_mono (c : Stab R) {H H' : Hp} (s : Same H H') (v : V) (l : List α) (h : LstV R H v l) : LstV R H' v l := by
  obtain ⟨a, vs, e, g, k⟩ := h
  exact ⟨a, vs, e, s _ _ g, k.mono (c.mono s)⟩
theorem Stab.upd (c : Stab R) {H : Hp} {l : Addr} {ys : List V} {o : HO} (g : H l = some (.lst ys)) (v : V) (a : α) (h : R H v a) : R (upd H l o) v a := c.but ((But.refl l H).put) g v a h
end

/-! ### constants of the top, texts in lists, reversed lists, zip of tuples -/
theorem SqT.of {K : PySem.W.Frag} {H : Hp} {a : Addr} {xs : List V} (h : H a = some (.tup xs)) : SqT K H a xs := .inl (.inl h)
theorem SqL.of {K : PySem.W.Frag} {H : Hp} {a : Addr} {xs : List V} (h : H a = some (.lst xs)) : SqL K H a xs := .inl (.inl h)
section
variable {X : Cx}
theorem ints_tshaped (ns : List Int) : SeqAt.shaped (.tuple (ns.map PyData.int)) = true := (cod_tup cod_int).shaped (by decide) ns
/-- == of a tracked tuple of ints and any tuple of ints -/
def rEqTK (K : PySem.W.Frag) : R2 := fun x y H Q => ∃ a b ns ms, x = .ref a ∧ y = .ref b ∧ H a = some (.tup (List.map V.int ns)) ∧ SqT K H b (List.map V.int ms) ∧ Q (.bl (decide (ns = ms))) H
theorem op_eqTK (hu : X.A.units + 64 < cLine) : OpR X (compareOp .Eq) (rEqTK X.K) := OpR.of (op_eqD hu) (by
  rintro x y H Q ⟨a, b, ns, ms, rfl, rfl, ha, hb, q⟩
  refine ⟨_, _, .tup (.inl (.inl ha)) (ints_dp ns), .tup hb (ints_dp ms), ints_tshaped ns, ints_tshaped ms, ?_⟩
  rw [(cod_tup cod_int).eq ns ms]
  exact q)
abbrev OkS := {s : Str // PyData.strOk s = true}
def StrV (_ : Hp) (v : V) (s : OkS) : Prop := v = .str s.val
theorem eqv_ss (a b : Str) : PyData.eqv (.str a) (.str b) = decide (a = b) := by
  rw [PyData.eqv]
  by_cases h : a = b
  · rw [decide_eq_true h]; exact beq_iff_eq.mpr h
  · rw [decide_eq_false h]; exact beq_eq_false_iff_ne.mpr h
def vS (s : OkS) : V := .str s.val
def dStr (s : OkS) : PyData := .str s.val
theorem cod_str : Cod StrV dStr 0 := ⟨fun K H v a h => by rw [show v = .str a.val from h]; exact .str a.val, fun a b => by
  show PyData.eqv (.str a.val) (.str b.val) = _
  rw [eqv_ss]; exact decide_eq_decide.mpr Subtype.ext_iff.symm, fun a => by show PyData.canLay0 (.str a.val) = true; rw [PyData.canLay0]; exact a.property, fun a => by show PyData.depth (.str a.val) ≤ 0; rw [PyData.depth]; exact Nat.le_refl _⟩
theorem strs_all {H : Hp} : ∀ ns : List OkS, All2 (StrV H) (List.map vS ns) ns
  | [] => .nil
  | _ :: r => .cons rfl (strs_all r)
theorem strs_of {H : Hp} {vs : List V} {ns : List OkS} (h : All2 (StrV H) vs ns) : vs = List.map vS ns := by
  induction h with
  | nil => rfl
  | cons r _ ih => rw [List.map_cons, ih, show _ = _ from r]; rfl
theorem strL {H : Hp} {a : Addr} {ns : List OkS} (g : H a = some (.lst (List.map vS ns))) : LstV StrV H (.ref a) ns := ⟨a, _, rfl, g, strs_all ns⟩
theorem stab_str : Stab StrV := ⟨fun _ _ _ h => h, fun _ _ _ _ h => h⟩
theorem strs_dp {K : PySem.W.Frag} {H : Hp} (ss : List OkS) : DpAll K H (ss.map vS) (ss.map dStr) := cod_str.all (strs_all ss)
/-- != and == of a tuple of texts of the top and a new one -/
def rNeSK (K : PySem.W.Frag) : R2 := fun x y H Q => ∃ a b ss ts, x = .ref a ∧ y = .ref b ∧ SqT K H a (List.map vS ss) ∧ H b = some (.tup (List.map vS ts)) ∧ Q (.bl (!decide (ss = ts))) H
theorem op_neSK (hu : X.A.units + 64 < cLine) : OpR X (compareOp .NotEq) (rNeSK X.K) := OpR.of (op_neD hu) (by
  rintro x y H Q ⟨a, b, ss, ts, rfl, rfl, ha, hb, q⟩
  refine ⟨_, _, .tup ha (strs_dp ss), .tup (.inl (.inl hb)) (strs_dp ts), (cod_tup cod_str).shaped (by decide) ss, (cod_tup cod_str).shaped (by decide) ts, ?_⟩
  rw [(cod_tup cod_str).eq ss ts]
  exact q)
/-- isinstance of a tuple of the top -/
def rIsiTK (K : PySem.W.Frag) : List V → Hp → VK → Prop := fun vs H Q => ∃ p n xs b, vs = [.ref p, .ty n] ∧ SqT K H p xs ∧ kitB "tuple" n = some b ∧ Q (.bl b) H
theorem call_isiTK : CallR X (.builtin "isinstance") (rIsiTK X.K) := CallR.of call_isi (by
  rintro vs H Q ⟨p, n, xs, b, rfl, hp, hb, q⟩
  refine ⟨.ref p, .ty n, .type "tuple", .type n, b, rfl, .ty n, ?_, kit_ty hb, q⟩
  rcases hp with (h | ⟨o, h⟩) | ⟨o, its, k, h1, h2, _⟩
  · exact .base (.tup h)
  · exact .fTuple h
  · exact .kTuple h1 h2)
/-- reversed(list) -/
def iRevS (K : PySem.W.Frag) (ta : TA) : TI := fun σ H R => ta σ H fun vs H1 => ∃ a xs, vs = [.ref a] ∧ H1 a = some (.lst xs) ∧ R (Itv K a xs.length) H1
theorem pi_revS {tg e : Expr} {ta : TA} {p pos : Pos} (hg : Gl X "reversed") (hm : X.mg "reversed" = none) (ha : PA X [e] ta) (hs : starEach [e] X.env = [(false, eval e X.env)] := by rfl) :
    PI X tg (.Call (.Name "reversed" p) [e] [] pos) (iRevS X.K ta) := PI.of (pi_reversed hg hm (pa_mono ha) hs) fun σ H R q => ⟨_, q, fun vs H1 ⟨a, xs, e, g, r⟩ => ⟨a, xs, e, .inl (.inl g), r⟩⟩
/-- zip of two tuples -/
def iZipTS (K : PySem.W.Frag) (ta : TA) : TI := fun σ H R => ta σ H fun vs H1 => ∃ a b xs ys, vs = [.ref a, .ref b] ∧ SqT K H1 a xs ∧ SqT K H1 b ys ∧ R (RZ.ItzT K a b) H1
theorem pi_zipTS {e e2 : Expr} {ta : TA} {p pos tpos : Pos} {elts : List Expr} {kk : Nat} (hg : Gl X "zip") (hm : X.mg "zip" = none) (ha : PA X [e, e2] ta) (hs : starEach [e, e2] X.env = (false, eval e X.env) :: starEach [e2] X.env := by rfl) (hpl : (backTo pos (starEach [e2] X.env)).any (·.1) = false := by rfl) :
    PI X (.Tuple elts kk tpos) (.Call (.Name "zip" p) [e, e2] [] pos) (iZipTS X.K ta) := PI.of (RZ.pi_zipA hg hm (pa_mono ha) hs hpl) fun σ H R q => ⟨_, q, fun vs H1 ⟨a, b, xs, ys, e, g1, g2, r⟩ => ⟨a, b, xs, ys, e, .inr ⟨g1, g2, r⟩⟩⟩
end
theorem walkV {K : PySem.W.Frag} {a : Addr} {xs : List V} : Walk (Itv K a xs.length) xs.length (fun H => H a = some (.lst xs)) (fun i H x H' => H' = H ∧ xs[xs.length - 1 - i]? = some x) := (walk_rev (K := K) (a := a) (xs := xs)).mono (fun _ h => .inl (.inl h)) fun _ _ _ _ _ _ y => y
theorem walkVI {K : PySem.W.Frag} {a : Addr} {ns : List Int} : Walk (Itv K a ns.length) ns.length (fun H => H a = some (.lst (List.map V.int ns))) (YInt ns.reverse) := by
  have w := walkV (K := K) (a := a) (xs := List.map V.int ns)
  rw [List.length_map] at w
  refine w.mono (fun _ h => h) fun i H x H' hi _ y => ⟨y.1, ?_⟩
  have h := y.2
  rw [List.getElem?_map] at h
  obtain ⟨b, h1, rfl⟩ := Option.map_eq_some_iff.mp h
  exact ⟨b, by rw [List.getElem?_reverse hi]; exact h1, rfl⟩
theorem walkZT {K : PySem.W.Frag} {a b : Addr} {xs ys : List V} {n : Nat} (hn : n = min xs.length ys.length) : Walk (RZ.ItzT K a b) n (fun H => SqT K H a xs ∧ SqT K H b ys) (YPair (fun i => xs[i]?) (fun i => ys[i]?)) := by
  subst hn
  refine ⟨fun i _ hi q => ?_, fun _ q => ⟨xs, ys, q.1, q.2, by omega⟩, fun i H v H' _ q y => ?_⟩
  · have h1 : i < xs.length := by omega
    have h2 : i < ys.length := by omega
    exact ⟨xs, ys, xs[i], ys[i], q.1, q.2, by simp [h1], by simp [h2]⟩
  · obtain ⟨T, x, z, h1, h2, h3, h4, h5⟩ := y
    exact ⟨T, x, z, h1, h2, h3, h4 xs q.1, h5 ys q.2⟩
theorem _root_.L2.Same.seqT {K : PySem.W.Frag} {H H' : Hp} (s : Same H H') {a : Addr} {xs : List V} (h : SqT K H a xs) : SqT K H' a xs := by
  rcases h with (h | ⟨o, h⟩) | h
  · exact .inl (.inl (s _ _ h))
  · exact .inl (.inr ⟨o, s _ _ h⟩)
  · exact .inr h
/-- the codes of a text -/
def cds (z : Str) : List Int := z.cps.toList.map fun (c : Nat) => (c : Int)
theorem cds_at {z : Str} {i c : Nat} (h : z.cps[i]? = some c) : (cds z)[i]? = some (c : Int) := by
  unfold cds
  rw [List.getElem?_map, Array.getElem?_toList, h]
  rfl
theorem cds_len (z : Str) : (cds z).length = z.cps.size := by unfold cds; rw [List.length_map, Array.length_toList]
section
variable {X : Cx} {α : Type} [DecidableEq α] {R : Hp → V → α → Prop} {f : α → PyData} {d : Nat}
theorem Cod.anyEq (c : Cod R f d) (a : α) : ∀ l : List α, ((l.map f).any fun z => PyData.eqv z (f a)) = decide (a ∈ l)
  | [] => by simp
  | x :: r => by
    rw [List.map_cons, List.any_cons, c.eq, Cod.anyEq c a r]
    by_cases h : x = a
    · subst h; simp
    · rw [decide_eq_false h, Bool.false_or]
      exact decide_eq_decide.mpr ⟨fun z => List.mem_cons_of_mem _ z, fun z => (List.mem_cons.mp z).resolve_left fun e => h e.symm⟩
/-- x in a list, x not in a list or a tuple, at any depth -/
def rInLC (R : Hp → V → α → Prop) : R2 := fun x y H Q => ∃ a l, R H x a ∧ LstV R H y l ∧ Q (.bl (decide (a ∈ l))) H
def rNotInLC (R : Hp → V → α → Prop) : R2 := fun x y H Q => ∃ a l, R H x a ∧ LstV R H y l ∧ Q (.bl (!decide (a ∈ l))) H
def rNotInTC (R : Hp → V → α → Prop) : R2 := fun x y H Q => ∃ a l, R H x a ∧ TupV R H y l ∧ Q (.bl (!decide (a ∈ l))) H
theorem op_inLC (hu : X.A.units + 65 < cLine) (c : Cod R f d) (hd : d < 64) : OpR X (compareOp .In) (rInLC R) := OpR.of (op_inD hu) fun x y H Q ⟨a, l, ha, hl, q⟩ => ⟨f a, l.map f, c.dp _ _ _ _ ha, (cod_lst c).dp _ _ _ _ hl, c.shaped (Nat.le_of_lt hd) a, (cod_lst c).shaped hd l, by rw [c.anyEq]; exact q⟩
theorem op_notInLC (hu : X.A.units + 65 < cLine) (c : Cod R f d) (hd : d < 64) : OpR X (compareOp .NotIn) (rNotInLC R) := OpR.of (op_notInD hu) fun x y H Q ⟨a, l, ha, hl, q⟩ => ⟨f a, l.map f, c.dp _ _ _ _ ha, (cod_lst c).dp _ _ _ _ hl, c.shaped (Nat.le_of_lt hd) a, (cod_lst c).shaped hd l, by rw [c.anyEq]; exact q⟩
theorem op_notInTC (hu : X.A.units + 65 < cLine) (c : Cod R f d) (hd : d < 64) : OpR X (compareOp .NotIn) (rNotInTC R) := by
  intro pins s σ H x y v u Q I rx ry h
  obtain ⟨a, l, ha, hl, q⟩ := h
  have sd := c.shaped (Nat.le_of_lt hd) a
  have se := (cod_tup c).shaped hd l
  obtain ⟨as, r1⟩ := Dp.reads I (f a) x v (c.dp _ _ _ _ ha) rx
  obtain ⟨bs, r2⟩ := Dp.reads I (.tuple (l.map f)) y u ((cod_tup c).dp _ _ _ _ hl) ry
  exact SeqAt.notIn_tuple_reads r2 r1 (SeqAt.canLay_of_shaped se) (SeqAt.canLay_of_shaped sd) (room_in_shaped sd hu) ⟨.bl _, H, I, rfl, by rw [c.anyEq]; exact q⟩
theorem hu5 {A : Around} {k : Nat} (hr : Room k A) : A.units + 65 < cLine := by have := hr.un; omega
/-- ''.join of a list of single signs -/
def oneS (c : Nat) : Str := ⟨#[c]⟩
theorem joinL_one : ∀ cs : List Nat, TL.joinL [] (cs.map fun c => [c]) = cs
  | [] => rfl
  | [_] => rfl
  | x :: y :: r => by
    show [x] ++ ([] ++ TL.joinL [] ((y :: r).map fun c => [c])) = _
    rw [joinL_one (y :: r)]
    rfl
theorem join_one (cs : List Nat) : Txt.join (Str.ofString "") (cs.map oneS) = ⟨cs.toArray⟩ := by
  have h := SX.join_S [] (cs.map fun c => [c])
  rw [joinL_one, List.map_map] at h
  exact h
def tJoinC (to te : TE) : TE := fun σ H Q => to σ H fun x H1 => x = .str (Str.ofString "") ∧ te σ H1 fun y H2 => ∃ (p : Addr) (cs : List Nat), y = .ref p ∧ H2 p = some (.lst (cs.map fun c => V.str (oneS c))) ∧ cs.length ≤ 1000000 ∧ Q (.str ⟨cs.toArray⟩) H2
theorem one_sum : ∀ cs : List Nat, ((cs.map oneS).map (·.length)).sum = cs.length
  | [] => rfl
  | c :: r => by
    rw [List.map_cons, List.map_cons, List.sum_cons, one_sum r, List.length_cons, Nat.add_comm]
    rfl
theorem pe_joinC {o e : Expr} {to te : TE} {apos pos : Pos} (ho : PE X o to) (he : PE X e te) (hs : starEach [e] X.env = [(false, eval e X.env)] := by rfl) (hbase : attributeBase o "join" X.env (eval o X.env) = eval o X.env := by rfl) (hline : (apos.endLine == pos.line) = true := by rfl) :
    PE X (.Call (.Attribute o "join" apos) [e] [] pos) (tJoinC to te) := PE.of (pe_join (pe_mono ho) (pe_mono he) hs hbase hline) fun σ H Q q => ⟨_, q, fun x H1 z => ⟨⟨_, z.1⟩, _, z.2, fun y H2 ⟨p, cs, e, g, hl, w⟩ => ⟨Str.ofString "", p, cs.map oneS, z.1, by rw [e], .inl (.inl (.inl (by rw [List.map_map]; exact g))), by
    rw [one_sum, List.length_map, show (Str.ofString "").length = 0 from rfl]; omega, by rw [join_one]; exact w⟩⟩⟩
end
section
variable {X : Cx}
/-- xs * n -/
def rRepL : R2 := fun x y H Q => ∃ l k xs, x = .ref l ∧ y = .int k ∧ H l = some (.lst xs) ∧ k ≤ 2 ^ 62 - 1 ∧ -(2 ^ 62) ≤ k ∧ xs.length * k.toNat ≤ sizeLine ∧ NewH H (.lst (List.replicate k.toNat xs).flatten) fun p H' => Q (.ref p) H'
theorem op_repL : OpR X (binaryOp .Mult) rRepL := OpR.of op_rep fun x y H Q ⟨l, k, xs, e1, e2, h1, z1, z2, z3, q⟩ => ⟨l, k, xs, e1, e2, h1, by omega, by omega, z3, q.go⟩
end

theorem iteP {p : Prop} {i : Decidable p} {a b : Prop} (x : p → a) (y : ¬ p → b) : @ite _ p i a b := by
  by_cases h : p
  · rw [if_pos h]; exact x h
  · rw [if_neg h]; exact y h
section
variable {X : Cx}
/-- name = {k: v for ..} on one line, the name a local -/
theorem ps_setDc {i : Nat} {y : Str} {py : Pos} {kx vx tg iter : Expr} {ifs : List Expr} {scope : Scope} {own : List (Str × Nat)} {pos spos : Pos} {wi : TI} {g : TG} {tt : TT} {tk tv : TE} (hc : X.calm = true) (hN : X.N.Nodup) (hy : X.N[i]? = some y) (hyl : X.env.scope.names.lookup y = some .local)
    (hsw : swapsWith (.DictComp kx vx [⟨tg, iter, ifs, 0⟩] scope pos) (some (.Name y py)) spos.line X.env = pure true) (hi : PI X tg iter wi) (ok : BlkOk X.N X.env.scope scope own)
    (hg : ∀ (s : Shared) (H : Hp) (C : Addr) (cl : List (Str × Addr)) (fp : List Addr), PG (X.blk s H scope (compEnvC scope cl C X.env) fp) tg g) (ht : ∀ (s : Shared) (H : Hp) (C : Addr) (cl : List (Str × Addr)) (fp : List Addr), PTs (X.blk s H scope (compEnvC scope cl C X.env) fp) ifs tt)
    (hk : ∀ (s : Shared) (H : Hp) (C : Addr) (cl : List (Str × Addr)) (fp : List Addr), PE (X.blk s H scope (compEnvC scope cl C X.env) fp) kx tk)
    (he : ∀ (s : Shared) (H : Hp) (C : Addr) (cl : List (Str × Addr)) (fp : List Addr), PE (X.blk s H scope (compEnvC scope cl C X.env) fp) vx tv) (hs : ∀ x, foldedSetIterable iter X.env x = pure x := by intro _; rfl) :
    PS X (.Assign [.Name y py] (.DictComp kx vx [⟨tg, iter, ifs, 0⟩] scope pos) spos) (tAsg (tDc wi g tt tk tv (own.map (·.2))) (gName i)) := by
  refine ⟨fun pins s σ H D I h => ?_⟩
  rw [exec_Assign_Name_used _ _ _ _ hsw]
  refine wpAny_bind (wpAny_standAt (wpAny_bind ?_))
  show wpAny _ X.A (do let _ ← comprehension (.DictComp kx vx [⟨tg, iter, ifs, 0⟩] scope pos) scope X.env (firstIterPos [⟨tg, iter, ifs, 0⟩] pos) newDict false (eval iter X.env) (some (assign (.Name y py) X.env))) _ _ s
  have h : tDc wi g tt tk tv (own.map (·.2)) σ H (fun x H1 => gName i x σ H1 D.nx) := h
  refine wpAny_bind (thn (dc_core (Qf := fun _ s' => SP X pins D .next s') hc hN I hi ok hg ht hk he hs h fun L C s' m H' I' q hn f => ?_) fun _ s' hq => wpAny_pure (wpAny_pure hq))
  show wpAny _ _ (assign (.Name y py) X.env (.ref L)) _ _ _
  refine wpAny_assign_Name (store_ok2 (v := V.ref L) I' hN hy (.inl hyl) rfl (fun s2 I2 ⟨a, sb, ha⟩ => ?_) (.inr hyl))
  obtain ⟨f0, f1, f2, f3, f4, f5⟩ := f
  have haC : C ≠ a := by
    rcases ha with z | z
    · rw [z]; exact f1
    · exact fun e => f4 y a z e.symm
  refine ⟨m, hn.sameBut sb haC, fun h3 sb3 => ?_⟩
  exact ⟨_, H', I2.turned (t' := s2.toks) (fun b o hb e => (sb3.2 b hb).trans e) f0 f1 f3 f4 f5, q⟩
theorem sw_trueD {kx vx : Expr} {gs : List Comprehension} {scope : Scope} {pos py : Pos} {y : Str} {l : Nat} {env : Env} (hk : env.scope.kind = .function) (hy : env.scope.names.lookup y = some .local) (hl : (py.line == pos.line) = true)
    (ha : (scope.names.any fun (n, k) => n == y && (k == .local || k == .cell)) = false) : swapsWith (.DictComp kx vx gs scope pos) (some (.Name y py)) l env = pure true := by
  have ky : env.kindOf y = some .local := hy
  have hb : env.blockKind = .function := by unfold Env.blockKind; rw [hk]; rfl
  unfold swapsWith
  simp only [hb, ky, ha, Expr.pos, hl]
  rfl
end

/-- enumerate(text): each character in a new pair -/
def Ites (x : Str) : It :=
  ⟨fun i _ => i < x.cps.size, fun i H v H' => ∃ T c, v = .ref T ∧ H T = none ∧ H' = upd H T (.tup [.int (i : Nat), .str ⟨#[c]⟩]) ∧ x.cps[i]? = some c, fun i _ => x.cps.size ≤ i⟩
theorem turn_enumS {P : Program} {w : World} {K : PySem.W.Frag} {elts : List Expr} {kk : Nat} {tpos : Pos} (x : Str) (t : Tok) (e it : Addr) (ty : String) (hty : ty = "str_ascii_iterator" ∨ ty = "str_iterator") :
    Turn P w K (.Tuple elts kk tpos) (Ites x) [e, it] e (fun i h => (∃ old, IsEnum h e it ((i : Nat) : Int) old) ∧ h.IsStrIter it ty x t i ∧ e ≠ it ∧ i ≤ x.cps.size) where
  mem := by simp
  obj := fun i h st b hb => by
    obtain ⟨⟨old, he⟩, ⟨o, ho, hc, hd⟩, _⟩ := st
    have e' : b = e ∨ b = it := by simpa using hb
    rcases e' with z | z
    · rw [z]; exact ⟨_, he, fun v q => nomatch q⟩
    · rw [z]; exact ⟨o, ho, fun v q => by rw [hd] at q; cases q⟩
  keep := fun i h h' st k => by
    obtain ⟨⟨old, he⟩, ⟨o, ho, r⟩, hne⟩ := st
    exact ⟨⟨old, k e (by simp) _ he⟩, ⟨o, k it (by simp) o ho, r⟩, hne⟩
  item := by
    intro X hP hw hK hc i pins s σ H E I hf st hg
    subst hP hw hK
    obtain ⟨⟨old, he⟩, hit, hne, hle⟩ := st
    have hel : e < s.heap.objs.size := Heap.lt_size he
    have hil : it < s.heap.objs.size := by obtain ⟨_, q, _⟩ := hit; exact Heap.lt_size q
    have Dr : Draws X.prog X.w X.A.in1 it [it] x.cps.size (fun i v => ∃ c u, x.cps[i]? = some c ∧ v = .str ⟨#[c]⟩ u) (fun i h => h.IsStrIter it ty x t i) := by
      rcases hty with z | z
      · rw [z]; exact Draws.strAscii (A := X.A.in1) (I.ok.hd hc) it x t
      · rw [z]; exact Draws.strWide (A := X.A.in1) (I.ok.hd hc) it x t
    refine wpAny_pyNext_enum_itemD Dr he hit hg hne (by simpa using hne) fun v h' tk hv ho hit' hT hsz hk => ?_
    obtain ⟨c, u, hcx, rfl⟩ := hv
    refine ⟨_, rfl, wpAny_letOwnedTupleGo_enum (s := { s with heap := h', toks := tk + 1 }) ho fun h'' he' sb => ?_⟩
    have hT2 : h''.get? s.heap.objs.size = some { cls := .type "tuple", data := .seq #[.int i tk, .str ⟨#[c]⟩ u] } := (sb.2 _ (Nat.ne_of_gt hel)).trans hT
    have new : ObjOk X.prog X.w (upd H s.heap.objs.size (.tup [.int (i : Nat), .str ⟨#[c]⟩])) h'' s.heap.objs.size (.tup [.int (i : Nat), .str ⟨#[c]⟩]) :=
      ⟨by show 2 ≤ sizeLine; decide, [.int i tk, .str ⟨#[c]⟩ u], .cons ⟨_, rfl⟩ (.cons ⟨_, rfl⟩ .nil), ⟨_, hT2, rfl, _, rfl⟩⟩
    have I1 : Inv X pins σ (upd H s.heap.objs.size (.tup [.int (i : Nat), .str ⟨#[c]⟩])) { s with heap := h'', toks := tk + 1 } :=
      I.turnedNew (ch := [e, it]) (fun b ob hb q => (sb.2 b (fun z => hb (by simp [z]))).trans (hk b ob (fun z => hb (by simp [z])) (fun z => hb (by simp [z])) q)) hf (Nat.le_refl _) new
    refine ⟨.ref s.heap.objs.size, _, I1, rfl, ⟨_, c, rfl, I.hok.fresh (Nat.le_refl _), rfl, hcx⟩, ⟨⟨.str ⟨#[c]⟩ u, ?_⟩, ?_, hne, Nat.succ_le_of_lt hg⟩, fun b hb => ?_⟩
    · have e1 : ((i + 1 : Nat) : Int) = (i : Int) + 1 := by omega
      rw [e1]; exact he'
    · obtain ⟨o, q, r⟩ := hit'
      exact ⟨o, (sb.2 it (Ne.symm hne)).trans q, r⟩
    · have hb' : b < s.heap.objs.size := by
        have e' : b = e ∨ b = it := by simpa using hb
        rcases e' with z | z
        · rw [z]; exact hel
        · rw [z]; exact hil
      rw [upd_ne (Nat.ne_of_lt hb')]
      exact (hf b hb).1
  done := by
    intro X hP hw hK hc i pins s σ H E I hf st hg
    subst hP hw hK
    obtain ⟨⟨old, he⟩, hit, hne, hle⟩ := st
    obtain ⟨f0, f1, f2, f3, f4, f5⟩ := hf it (by simp)
    have Dr : Draws X.prog X.w X.A.in1 it [it] x.cps.size (fun i v => ∃ c u, x.cps[i]? = some c ∧ v = .str ⟨#[c]⟩ u) (fun i h => h.IsStrIter it ty x t i) := by
      rcases hty with z | z
      · rw [z]; exact Draws.strAscii (A := X.A.in1) (I.ok.hd hc) it x t
      · rw [z]; exact Draws.strWide (A := X.A.in1) (I.ok.hd hc) it x t
    have ei : i = x.cps.size := Nat.le_antisymm hle hg
    subst ei
    exact wpAny_pyNext_enum_endD Dr he hit fun h' eb => ⟨rfl, I.turned (t' := s.toks) (fun b o hb q => eb b o hb q) f0 f1 f3 f4 f5⟩
  self := fun A i s Q E st h => let ⟨⟨_, he⟩, _⟩ := st; wpAny_pyIter_enum he h
def iEnumS (ta : TA) : TI := fun σ H R => ta σ H fun vs H1 => ∃ x, vs = [.str x] ∧ R (Ites x) H1
theorem pi_enumS {X : Cx} {e : Expr} {ta : TA} {p pos tpos : Pos} {elts : List Expr} {kk : Nat} (hg : Gl X "enumerate") (hm : X.mg "enumerate" = none) (ha : PA X [e] ta) (hs : starEach [e] X.env = [(false, eval e X.env)] := by rfl) :
    PI X (.Tuple elts kk tpos) (.Call (.Name "enumerate" p) [e] [] pos) (iEnumS ta) := by
  refine ⟨fun pins s σ H R I h => ?_⟩
  refine Call_ (ld_blt I hg hm boot_enumerate (PyProof.Rows.callWith_type1 (thn (ha.run pos pins s σ H _ I h) fun us s1 ⟨vs, H1, I1, r1, q1⟩ => ?_) hs rfl))
  obtain ⟨x, ex, q⟩ := q1
  subst ex
  cases r1 with
  | cons r rr =>
    cases rr
    obtain ⟨t, rfl⟩ := r
    refine call_enumerate_str fun h' he hit hsz hk => wpAny_pyIter_enum he ?_
    have I2 : Inv X pins σ H1 { s1 with heap := h' } := I1.kept (t' := s1.toks) hk
    refine ⟨s1.heap.objs.size + 1, [s1.heap.objs.size + 1, s1.heap.objs.size], _, _, H1, rfl, I2, turn_enumS x t (s1.heap.objs.size + 1) s1.heap.objs.size (strIterType x) (by unfold strIterType; split <;> simp), ⟨⟨.none, he⟩, hit, Nat.succ_ne_self _, Nat.zero_le _⟩, fun b hb => ?_, q⟩
    have e' : b = s1.heap.objs.size + 1 ∨ b = s1.heap.objs.size := by simpa using hb
    have hle : s1.heap.objs.size ≤ b := by
      rcases e' with z | z
      · rw [z]; exact Nat.le_add_right _ _
      · rw [z]; exact Nat.le_refl _
    exact I1.fpOk hle (I1.hok.fresh hle)
theorem walk_enumS {z : Str} : Walk (Ites z) z.cps.size (fun _ => True) (fun i H v H' => ∃ T c, v = .ref T ∧ H T = none ∧ H' = upd H T (.tup [.int (i : Nat), .str ⟨#[c]⟩]) ∧ z.cps[i]? = some c) :=
  ⟨fun _ _ hi _ => hi, fun _ _ => Nat.le_refl _, fun _ _ _ _ _ _ y => y⟩

/-! ### setdefault of a dict with tuple keys -/
section
variable {X : Cx} {pins : List (Addr × Obj)} {σ : L2.St} {H : Hp} {s : Shared} {a b : Addr} {r : Value} {d : V} {k : List L2.Key} {A : Around} {E : Value → Shared → Prop}
theorem d_setdT {kvs : List (List L2.Key × V)} {Q : Value → Shared → Prop} (hu : A.units + 1 < cLine) (I : Inv X pins σ H s) (e : H a = some (.dT kvs)) (eb : H b = some (.tup (k.map kV))) (rd : RelV d r) (hl : kvs.length < sizeLine)
    (h1 : ∀ v, valV kvs k = some v → ∀ (w' : Value) (s' : Shared), Inv X pins σ H s' → RelV v w' → Q w' s') (h2 : valV kvs k = none → ∀ (w' : Value) (s' : Shared), Inv X pins σ (upd H a (.dT (putK kvs k d))) s' → RelV d w' → Q w' s') :
    wpAny (model X.prog X.w) A (call (.builtin "dict.setdefault") [.ref a, .ref b, r]) Q E s := by
  obtain ⟨z, hd, xs, rel, dd⟩ := dt_of I.hok e
  have hz : xs.length ≤ sizeLine := by rw [← Paired.length rel]; exact z
  have hl2 : (putK kvs k d).length ≤ sizeLine := by have := length_putK kvs k d; omega
  refine call_setdefault_heap (hsz := hz) (tupleKind_room_in1 hu) (key_of I.hok eb) hd dd (fun p hp => ?_) (fun hn h' dd' hs => ?_)
  · have q := rel.val k
    rw [hp] at q
    cases q0 : valV kvs k with
    | none => rw [q0] at q; exact (show False from q).elim
    | some v0 => rw [q0] at q; exact h1 v0 q0 _ _ (I.tok _) q
  · have q := rel.val k
    rw [hn] at q
    cases q0 : valV kvs k with
    | some v0 => rw [q0] at q; exact (show False from q).elim
    | none =>
      obtain ⟨o, es, ep, hq, h3, h4, h5, _, h6⟩ := dd'
      refine h2 q0 _ _ (d_write I (by rw [e]; exact True.intro) hs ⟨o, hq⟩ ⟨hl2, hd, _, (rel.put k eb rd).keeps fun c ys ec => ?_, o, es, ep, hq, h3, h4, h5, h6⟩) rd
      rw [upd_ne (ne_of ec e (fun z => nomatch z))]
      exact ec
end
def tDSetdT (td ty tx : TE) : TE := fun σ H Q => td σ H fun x H1 => ∃ a, x = .ref a ∧ IsD H1 a ∧ ty σ H1 fun y H2 => tx σ H2 fun z H3 => ∃ (kvs : List (List L2.Key × V)) (k : List L2.Key) (b : Addr), H3 a = some (.dT kvs) ∧ y = .ref b ∧ H3 b = some (.tup (k.map kV)) ∧ kvs.length < sizeLine ∧
  (∀ v, valV kvs k = some v → Q v H3) ∧ (valV kvs k = none → Q z (upd H3 a (.dT (putK kvs k z))))
section
variable {X : Cx} {o e f : Expr} {td ty tx : TE} {apos cpos : Pos}
theorem pe_dsetdT (hu : X.A.units + 1 < cLine) (ho : PE X o td) (he : PE X e ty) (hf : PE X f tx) (m : M2 X o "setdefault" apos e f cpos) : PE X (.Call (.Attribute o "setdefault" apos) [e, f] [] cpos) (tDSetdT td ty tx) := by
  refine ⟨fun pins s σ H Q I h => ?_⟩
  refine wpAny_Call_method m.base m.few m.line PySem.F.plainAttrs_dict PySem.F.slot_dict_setdefault PySem.F.type_dict_setdefault (thn (ho.run pins s σ H _ I h) fun u s1 ⟨x, H1, I1, rx, a, ex, d, q1⟩ => ?_)
  subst ex
  obtain rfl : u = Value.ref a := rx
  obtain ⟨t1, t2, _⟩ := isD_at I1 d
  refine ⟨t1, t2, ?_⟩
  rw [m.trees]
  refine Calls.callWith_builtin rfl (Calls.evalArgs_plain (Calls.spliced_cons (thn (he.run pins s1 σ H1 _ I1 q1) fun iv s2 ⟨y, H2, I2, ry, q2⟩ =>
    Calls.spliced_cons (thn (hf.run pins s2 σ H2 _ I2 q2) fun fv s3 ⟨z, H3, I3, rz, kvs, k, b, ea, ey, eb, hl, q3, q4⟩ => Calls.spliced_nil ?_))))
  subst ey
  obtain rfl : iv = Value.ref b := ry
  exact d_setdT hu I3 ea eb rz hl (fun v hv w' s4 I4 rw' => ⟨v, _, I4, rw', q3 v hv⟩) fun hn w' s4 I4 rw' => ⟨z, _, I4, rw', q4 hn⟩
end

def tDNewTS : TE := fun _ H Q => NewH H (.dT []) fun p H' => Q (.ref p) H'
theorem pe_dnewTS {X : Cx} {pos : Pos} : PE X (.Dict [] [] pos) tDNewTS := PE.of pe_dnewT fun σ H Q q => q.go

/-! ### errors -/
section
variable {X : Cx}
/-- isinstance(e, c) in a suite, whatever class the error has -/
def rIsE1 (K : PySem.W.Frag) (cls : Value) (d : Option Addr) (a : Addr) : List V → Hp → VK → Prop := fun xs H Q => ∃ D, cls = .ref D ∧ d = none ∧ ExcC K D ∧ ∃ (C : Addr) (b : Bool), xs = [.ref a, .ref C] ∧ PySem.W.kitOne K (.ref D) (.ref C) = some b ∧ Q (.bl b) H
theorem call_isE1 {a : Addr} {oe : Obj} {cls : Value} {d : Option Addr} {pn : List (Addr × Obj)} (hz : Zc cls d oe) (hf : ∃ vs, oe.data = .fields vs) : CallR (X.suite a ((a, oe) :: pn)) (.builtin "isinstance") (rIsE1 X.K cls d a) := by
  intro pins s σ H xs us Q I r ⟨D, e1, e2, C, c, b, e3, e4, q⟩
  subst e1 e2
  exact call_isE C hz hf pins s σ H xs us Q I r ⟨.ref c, .ref c, b, e3, fun u z => z, e4, q⟩
theorem ifB {c : Bool} {a b : Prop} (x : c = true → a) (y : c = false → b) : if c = true then a else b := by
  cases c
  · rw [if_neg Bool.false_ne_true]; exact y rfl
  · rw [if_pos rfl]; exact x rfl
end
section
variable {X : Cx}
/-- all and any of a tracked list of bools -/
def rAllS : List V → Hp → VK → Prop := fun vs H Q => ∃ (a : Addr) (bs : List Bool), vs = [.ref a] ∧ H a = some (.lst (bs.map V.bl)) ∧ Q (.bl (bs.all id)) H
theorem cr_allS (hc : X.calm = true) : CallR X (.builtin "all") rAllS := CallR.of (cr_all hc) fun vs H Q ⟨a, bs, e, g, q⟩ => ⟨a, bs, e, .inl (.inl g), q⟩
def rAnyS : List V → Hp → VK → Prop := fun vs H Q => ∃ (a : Addr) (bs : List Bool), vs = [.ref a] ∧ H a = some (.lst (bs.map V.bl)) ∧ Q (.bl (bs.any id)) H
theorem cr_anyS (hc : X.calm = true) : CallR X (.builtin "any") rAnyS := CallR.of (cr_any hc) fun vs H Q ⟨a, bs, e, g, q⟩ => ⟨a, bs, e, .inl (.inl g), q⟩
theorem all_id {α : Type} (f : α → Bool) (l : List α) : (l.map f).all id = l.all f := by rw [List.all_map]; rfl
theorem any_id {α : Type} (f : α → Bool) (l : List α) : (l.map f).any id = l.any f := by rw [List.any_map]; rfl
end
/-- a plain value -/
def Pl (v : V) : Prop := ∃ a, tnm v = some a
theorem Pl.int (i : Int) : Pl (.int i) := ⟨_, rfl⟩
theorem Pl.bl (i : Bool) : Pl (.bl i) := ⟨_, rfl⟩
theorem Pl.non : Pl .non := ⟨_, rfl⟩
theorem Pl.str (i : Str) : Pl (.str i) := ⟨_, rfl⟩
theorem Pl.cs {v : V} (h : Pl v) : v = .non ∨ (∃ b, v = .bl b) ∨ (∃ i, v = .int i) ∨ ∃ s, v = .str s := by
  obtain ⟨a, h⟩ := h
  cases v <;> first | exact .inl rfl | exact .inr (.inl ⟨_, rfl⟩) | exact .inr (.inr (.inl ⟨_, rfl⟩)) | exact .inr (.inr (.inr ⟨_, rfl⟩)) | cases h
theorem kb11 : kitB "NoneType" "tuple" = some false := by decide +kernel
theorem kb12 : kitB "bool" "tuple" = some false := by decide +kernel
theorem kb13 : kitB "int" "tuple" = some false := by decide +kernel
theorem kb14 : kitB "str" "tuple" = some false := by decide +kernel
theorem kb15 : kitB "list" "tuple" = some false := by decide +kernel
theorem kb16 : kitB "NoneType" "str" = some false := by decide +kernel
theorem kb17 : kitB "bool" "str" = some false := by decide +kernel
theorem kb18 : kitB "int" "str" = some false := by decide +kernel
theorem kb19 : kitB "list" "str" = some false := by decide +kernel
theorem kb20 : kitB "tuple" "str" = some false := by decide +kernel
theorem kb21 : kitB "bool" "list" = some false := by decide +kernel
theorem kb22 : kitB "int" "list" = some false := by decide +kernel
theorem kb23 : kitB "str" "list" = some false := by decide +kernel
theorem kb24 : kitB "tuple" "list" = some false := by decide +kernel
theorem kb25 : kitB "list" "int" = some false := by decide +kernel
theorem kb26 : kitB "tuple" "int" = some false := by decide +kernel
theorem kb27 : kitB "list" "bool" = some false := by decide +kernel
theorem kb28 : kitB "tuple" "bool" = some false := by decide +kernel
theorem kb29 : kitB "NoneType" "bool" = some false := by decide +kernel
theorem kb30 : kitB "str" "bool" = some false := by decide +kernel
theorem if_true_of {c : Bool} {A B : Prop} (hc : c = true) (h : A) : if c = true then A else B := by
  rw [if_pos hc]
  exact h
theorem if_false_of {c : Bool} {A B : Prop} (hc : c = false) (h : B) : if c = true then A else B := by
  rw [hc, if_neg Bool.false_ne_true]
  exact h
/-- cuts behind more statements -/
theorem seq_cut2 {s1 s2 R : TS} {D : Ends} {σ : L2.St} {H : Hp} (I : L2.St → Hp → Prop) (h2 : ∀ σ H, I σ H → R D σ H) (h1 : ∀ C : L2.St → Hp → Prop, (∀ σ H, I σ H → C σ H) → tSeq s1 s2 { D with nx := C } σ H) : tSeq s1 (tSeq s2 R) D σ H := h1 _ h2
theorem seq_cut3 {s1 s2 s3 R : TS} {D : Ends} {σ : L2.St} {H : Hp} (I : L2.St → Hp → Prop) (h2 : ∀ σ H, I σ H → R D σ H) (h1 : ∀ C : L2.St → Hp → Prop, (∀ σ H, I σ H → C σ H) → tSeq s1 (tSeq s2 s3) { D with nx := C } σ H) : tSeq s1 (tSeq s2 (tSeq s3 R)) D σ H := h1 _ h2
theorem seq_cut4 {s1 s2 s3 s4 R : TS} {D : Ends} {σ : L2.St} {H : Hp} (I : L2.St → Hp → Prop) (h2 : ∀ σ H, I σ H → R D σ H) (h1 : ∀ C : L2.St → Hp → Prop, (∀ σ H, I σ H → C σ H) → tSeq s1 (tSeq s2 (tSeq s3 s4)) { D with nx := C } σ H) : tSeq s1 (tSeq s2 (tSeq s3 (tSeq s4 R))) D σ H := h1 _ h2
theorem seq_cut5 {s1 s2 s3 s4 s5 R : TS} {D : Ends} {σ : L2.St} {H : Hp} (I : L2.St → Hp → Prop) (h2 : ∀ σ H, I σ H → R D σ H) (h1 : ∀ C : L2.St → Hp → Prop, (∀ σ H, I σ H → C σ H) → tSeq s1 (tSeq s2 (tSeq s3 (tSeq s4 s5))) { D with nx := C } σ H) : tSeq s1 (tSeq s2 (tSeq s3 (tSeq s4 (tSeq s5 R)))) D σ H := h1 _ h2
section
variable {X : Cx}
/-- the walks within a comprehension, with the written part told apart from the context -/
theorem pi_tupK {K : PySem.W.Frag} {tg l : Expr} {tl : TE} (hl : PE X l tl) (e : X.K = K := by rfl) : PI X tg l (iTupS K tl) := by subst e; exact pi_tupS hl
theorem pi_listK {K : PySem.W.Frag} {tg l : Expr} {tl : TE} (hl : PE X l tl) (e : X.K = K := by rfl) : PI X tg l (iListS K tl) := by subst e; exact pi_listS hl
theorem pi_enumK {K : PySem.W.Frag} {e : Expr} {ta : TA} {p pos tpos : Pos} {elts : List Expr} {kk : Nat} (hg : Gl X "enumerate") (hm : X.mg "enumerate" = none) (ha : PA X [e] ta) (hK : X.K = K := by rfl) (hs : starEach [e] X.env = [(false, eval e X.env)] := by rfl) :
    PI X (.Tuple elts kk tpos) (.Call (.Name "enumerate" p) [e] [] pos) (iEnumL K ta) := by subst hK; exact pi_enumL hg hm ha hs
theorem pi_zipK {K : PySem.W.Frag} {e e2 : Expr} {ta : TA} {p pos tpos : Pos} {elts : List Expr} {kk : Nat} (hg : Gl X "zip") (hm : X.mg "zip" = none) (ha : PA X [e, e2] ta) (hK : X.K = K := by rfl) (hs : starEach [e, e2] X.env = (false, eval e X.env) :: starEach [e2] X.env := by rfl) (hpl : (backTo pos (starEach [e2] X.env)).any (·.1) = false := by rfl) :
    PI X (.Tuple elts kk tpos) (.Call (.Name "zip" p) [e, e2] [] pos) (iZipS K ta) := by subst hK; exact pi_zipS hg hm ha hs hpl
end
theorem All2.rev {α β : Type} {R : α → β → Prop} {xs : List α} {ys : List β} (h : All2 R xs ys) : All2 R xs.reverse ys.reverse := by
  induction h with
  | nil => exact .nil
  | cons r _ ih => rw [List.reverse_cons, List.reverse_cons]; exact ih.app (.cons r .nil)
section
variable {X : Cx}
theorem ix_tupK {K : PySem.W.Frag} (e : X.K = K := by rfl) : IxR X (rIxT K) := by subst e; exact ix_tup
theorem ix_listK {K : PySem.W.Frag} (a : Addr) (ns : List Int) (e : X.K = K := by rfl) : IxR X (rIxSc K a ns) := by subst e; exact ix_sc a ns
end
theorem ifN_T {p : Prop} {i : Decidable p} {a b : Prop} (h : p) (x : b) : if (!(@decide p i)) = true then a else b := by
  rw [decide_eq_true h]
  exact x
theorem ifN_F {p : Prop} {i : Decidable p} {a b : Prop} (h : ¬ p) (x : a) : if (!(@decide p i)) = true then a else b := by
  rw [decide_eq_false h]
  exact x

/-! ### list(reversed(list)) -/
section
variable {prog : Program} {w : World} {A : Around} {E : Value → Shared → Prop} {s : Shared}
theorem list_init_rev {R : Result → Shared → Prop} {it l : Addr} {items : Array Value} (hh : A.handled = none) (hit : s.heap.IsRevIter it l ((items.size : Int) - 1)) (hl : s.heap.IsList l items) (hne : l ≠ it) (hn : items.size ≤ sizeLine) (S : Addr) (hS : s.heap.get? S = some { cls := .type "list", data := .seq #[] })
    (hSi : S ≠ it) (hSl : S ≠ l)
    (hR : ∀ h' tk acc' c', (∀ b o, b ≠ S → b ≠ it → s.heap.get? b = some o → h'.get? b = some o) → h'.get? S = some { cls := .type "list", dict := none, data := .seq acc' c', slots := #[] } →
      ItemsOf (fun i v => items[items.size - 1 - i]? = some v) acc' items.size → R (.ok (.ret .none)) { s with heap := h', toks := tk }) :
    wpAny (model prog w) A.in1 (Builtin.«list.__init__» ⟨[.ref S, .ref it], []⟩)
      (fun fin s' => match fin with | .done f => R (.ok f) s' | .again c' => c'.quiet = true ∧ codeAny (model prog w) A c' R s') (fun e s' => R (.error e) s') s := by
  have W := (Walks.listRev (prog := prog) (w := w) (A := A.in1) hh it l hne items).toS
  have hSf : S ∉ [it, l] := by simp only [List.mem_cons, List.not_mem_nil, or_false, not_or]; exact ⟨hSi, hSl⟩
  show wpAny _ A.in1 (do let old ← Builtin.List.listItems (.ref S); Builtin.List.listUpdate (.ref S) (fun _ => #[]); letGo old.toList.reverse; Builtin.List.listExtendWith (.ref S) (.ref it) .none) _ _ s
  refine wpAny_bind ?_
  unfold Builtin.List.listItems
  refine wpAny_bind (wpAny_seqItems hS rfl (wpAny_pure ?_))
  show wpAny _ A.in1 (updateSeq S (fun _ => #[]) >>= fun _ => letGo (#[] : Array Value).toList.reverse >>= fun _ => Builtin.List.listExtendWith (.ref S) (.ref it) .none) _ _ s
  refine wpAny_bind (wpAny_updateSeq hS rfl ?_)
  have hS₂ := Heap.get?_update_self (Obj.mapSeq (fun _ => (#[] : Array Value))) hS rfl
  have oth : ∀ b o, b ≠ S → s.heap.get? b = some o → (s.heap.update S (Obj.mapSeq (fun _ => (#[] : Array Value)))).get? b = some o :=
    fun b o hb e => (Heap.get?_update_other _ _ (Ne.symm hb)).trans e
  refine wpAny_bind (wpAny_letGo ?_)
  have hit1 : (s.heap.update S (Obj.mapSeq (fun _ => (#[] : Array Value)))).IsRevIter it l ((items.size : Int) - 1) := hit.at fun o e => oth it o hSi.symm e
  have hl1 : (s.heap.update S (Obj.mapSeq (fun _ => (#[] : Array Value)))).IsList l items := hl.at fun o e => oth l o hSl.symm e
  have hT := Heap.IsRevIter.typeIs (s := { s with heap := s.heap.update S (Obj.mapSeq (fun _ => (#[] : Array Value))) }) hit1
  have h1 : Builtin.List.listSameRef (.ref S) (.ref it) = false := by simp [Builtin.List.listSameRef, hSi]
  unfold Builtin.List.listExtendWith
  refine wpAny_bind (wpAny_typeOf hT ?_)
  rw [if_neg (by rw [h1]; decide)]
  refine wpAny_bind (wpAny_pyIter_revIter (s := { s with heap := s.heap.update S (Obj.mapSeq (fun _ => (#[] : Array Value))) }) hit1 ?_)
  refine wpAny_bind (wpAny_holding ?_)
  unfold Builtin.List.listLengthHint
  refine wpAny_bind (wpAny_specialOf hT RT.nolen_lri ?_)
  show wpAny _ A.in1 (specialOf (Value.ref it) (Str.ofString "__length_hint__") >>= _) _ _ _
  refine wpAny_bind (wpAny_specialOf hT RT.hint_lri ?_)
  generalize hid : ("list_reverseiterator.__length_hint__" : String) = id0
  wp_delta
  rw [show splitId id0 = some ("list_reverseiterator", "__length_hint__") from by subst hid; decide +kernel]
  subst hid
  refine wpAny_bind (wpAny_isInstance (b := true) hT (by rw [isSubtype_type]; kernel_rfl) ?_)
  refine wpAny_pure ?_
  rw [if_neg (by decide)]
  have e0 : ((items.size : Nat) : Int) - 1 - ((0 : Nat) : Int) = (items.size : Int) - 1 := by omega
  refine wpAny_pure ⟨plainId_quiet F.plain_extend_loop _, codeAny_extend_loopS W hn _ hSf _ items.size 0 _ _ _ rfl (Nat.zero_le _) ⟨Nat.zero_le _, by rw [e0]; exact hit1, hl1⟩ hS₂ (ItemsOf.nil _) fun s' acc' c' hm hS' hacc => ?_⟩
  rw [Moved.eq_with hm]
  refine hR s'.heap s'.toks acc' c' (fun b o hb hb2 e => hm.heap b o (fun hmem => ?_) (oth b o hb e)) hS' hacc
  rcases List.mem_cons.mp hmem with e' | hmem
  · exact hb e'
  · exact hb2 (List.mem_singleton.mp hmem)
theorem call_list_rev {Q : Value → Shared → Prop} {it l : Addr} {items : Array Value} (hh : A.handled = none) (hit : s.heap.IsRevIter it l ((items.size : Int) - 1)) (hl : s.heap.IsList l items) (hne : l ≠ it) (hn : items.size ≤ sizeLine)
    (hQ : ∀ h' tk acc' c', (∀ b o, b ≠ it → s.heap.get? b = some o → h'.get? b = some o) →
      h'.get? s.heap.objs.size = some { cls := .type "list", dict := none, data := .seq acc' c', slots := #[] } → ItemsOf (fun i v => items[items.size - 1 - i]? = some v) acc' items.size → Q (.ref s.heap.objs.size) { s with heap := h', toks := tk }) :
    wpAny (model prog w) A (call (.type "list") [.ref it]) Q E s := by
  obtain ⟨oi, hoi, _⟩ := id hit
  obtain ⟨ol, hol, _⟩ := id hl
  have hSi : s.heap.objs.size ≠ it := Nat.ne_of_gt (Heap.lt_size hoi)
  have hSl : s.heap.objs.size ≠ l := Nat.ne_of_gt (Heap.lt_size hol)
  refine callType_codes (Q₁ := fun obj s₁ => obj = .ref s.heap.objs.size ∧ s₁ = { s with heap := s.heap.push { cls := .type "list", data := .seq #[] } }) F.called_list (F.typeCall_list_1 _) F.entry_list_init
    (code_list_new _ ⟨rfl, rfl⟩) fun obj s₁ h₁ => ?_
  obtain ⟨rfl, rfl⟩ := h₁
  have hS : (s.heap.push { cls := .type "list", data := .seq #[] }).get? s.heap.objs.size = some { cls := .type "list", data := .seq #[] } := Heap.get?_push_size _ rfl
  refine ⟨⟨_, hS, rfl⟩, F.args_list_init_2 _ _, list_init_rev (s := { s with heap := s.heap.push { cls := .type "list", data := .seq #[] } }) (A := A.in1) hh (hit.at fun o e => Heap.get?_push_of_some _ e) (hl.push _) hne hn _ hS hSi hSl fun h' tk acc' c' hk hS' hacc => ?_⟩
  exact ⟨rfl, hQ h' tk acc' c' (fun b o hb e => hk b o (Nat.ne_of_lt (Heap.lt_size e)) hb (Heap.get?_push_of_some _ e)) hS' hacc⟩
end
section
variable {X : Cx}
/-- list(reversed(x)), x a list: a new list -/
def tLstRev (te : TE) : TE := fun σ H Q => te σ H fun v H1 => ∃ (a : Addr) (xs : List V), v = .ref a ∧ H1 a = some (.lst xs) ∧ NewH H1 (.lst xs.reverse) fun q H' => Q (.ref q) H'
theorem pe_lstRev {e : Expr} {te : TE} {p p2 pos pos2 : Pos} (hc : X.calm = true) (hg : Gl X "list") (hm : X.mg "list" = none) (hg2 : Gl X "reversed") (hm2 : X.mg "reversed" = none) (he : PE X e te)
    (hs : starEach [e] X.env = (false, eval e X.env) :: starEach [] X.env := by rfl)
    (hs2 : starEach [.Call (.Name "reversed" p2) [e] [] pos2] X.env = (false, eval (.Call (.Name "reversed" p2) [e] [] pos2) X.env) :: starEach [] X.env := by rfl) :
    PE X (.Call (.Name "list" p) [.Call (.Name "reversed" p2) [e] [] pos2] [] pos) (tLstRev te) := by
  refine ⟨fun pins s σ H Q I h => ?_⟩
  refine Call_ (ld_blt I hg hm boot_list (PyProof.Rows.callWith_type1 (args_cons (Call_ (ld_blt I hg2 hm2 PyProof.Rows.boot_reversed (PyProof.Rows.callWith_type1 (args_cons (thn (he.run pins s σ H _ I h) fun u s1 ⟨v, H1, I1, r1, q1⟩ => args_nil ?_) hs) hs rfl))) hs2) hs2 rfl))
  obtain ⟨a, xs, ev, hq0, q0⟩ := q1
  have hq : SqL X.K H1 a xs := .inl (.inl hq0)
  have q := q0.go
  subst ev
  obtain rfl : u = Value.ref a := r1
  obtain ⟨its, rv, p', hz⟩ := I1.list hq
  refine call_reversed_list p'.isList (args_nil ?_)
  have k0 : ∀ b o, s1.heap.get? b = some o → (s1.heap.push (revObj a ((its.toArray.size : Int) - 1))).get? b = some o := fun b o e => Heap.get?_push_of_some _ e
  have I2 : Inv X pins σ H1 { s1 with heap := s1.heap.push (revObj a ((its.toArray.size : Int) - 1)) } := I1.kept (t' := s1.toks) k0
  have hfp := I1.fpOk (H' := H1) (b := s1.heap.objs.size) (Nat.le_refl _) (I1.hok.fresh (Nat.le_refl _))
  have hl := p'.isList
  obtain ⟨ol, hol, _⟩ := id hl
  have hne : a ≠ s1.heap.objs.size := Nat.ne_of_lt (Heap.lt_size hol)
  have hn : its.toArray.size ≤ sizeLine := by rw [List.size_toArray, ← rv.length]; exact hz
  refine call_list_rev (s := { s1 with heap := s1.heap.push (revObj a ((its.toArray.size : Int) - 1)) }) (I1.ok.hd hc) ⟨_, Heap.get?_push_size _ rfl, rfl, rfl⟩ (hl.push _) hne hn fun h' tk acc c' hk hS hi => ?_
  have I3 : Inv X pins σ (upd H1 (s1.heap.push (revObj a ((its.toArray.size : Int) - 1))).objs.size (.lst xs.reverse)) { s1 with heap := h', toks := tk } := I2.turnedNew (ch := [s1.heap.objs.size]) (fun b o hb e => hk b o (fun z => hb (by rw [z]; exact List.mem_singleton_self _)) e) (fun b hb => by rw [List.mem_singleton.mp hb]; exact hfp) (Nat.le_refl _)
    (show ObjOk X.prog X.w _ h' _ (.lst xs.reverse) from ⟨by rw [List.length_reverse]; exact hz, acc.toList, c', RT.vals_rev rv hi, by rw [Array.toArray_toList]; exact hS⟩)
  exact ⟨.ref _, _, I3, rfl, q _ (I2.hok.fresh (Nat.le_refl _))⟩
/-- tuple(reversed(x)), x a list: a new tuple -/
def tTupRevS (te : TE) : TE := fun σ H Q => te σ H fun v H1 => ∃ (a : Addr) (xs : List V), v = .ref a ∧ H1 a = some (.lst xs) ∧ NewH H1 (.tup xs.reverse) fun q H' => Q (.ref q) H'
theorem pe_tupRevS {e : Expr} {te : TE} {p p2 pos pos2 : Pos} (hc : X.calm = true) (hg : Gl X "tuple") (hm : X.mg "tuple" = none) (hg2 : Gl X "reversed") (hm2 : X.mg "reversed" = none) (he : PE X e te)
    (hs : starEach [e] X.env = (false, eval e X.env) :: starEach [] X.env := by rfl)
    (hs2 : starEach [.Call (.Name "reversed" p2) [e] [] pos2] X.env = (false, eval (.Call (.Name "reversed" p2) [e] [] pos2) X.env) :: starEach [] X.env := by rfl) :
    PE X (.Call (.Name "tuple" p) [.Call (.Name "reversed" p2) [e] [] pos2] [] pos) (tTupRevS te) := PE.of (RT.pe_tupRev hc hg hm hg2 hm2 (pe_mono he) hs hs2) fun σ H Q q => ⟨_, q, fun v H1 ⟨a, xs, e, g, n⟩ => ⟨a, xs, e, .inl (.inl g), n.go⟩⟩
end

section
variable {X : Cx}
/-- t + u of tracked tuples: one of them or a new one, in either case these items -/
def rCatTS : R2 := fun x y H Q => ∃ a b xs ys, x = .ref a ∧ y = .ref b ∧ H a = some (.tup xs) ∧ H b = some (.tup ys) ∧ xs.length + ys.length ≤ sizeLine ∧ ∀ p H', Same H H' → H' p = some (.tup (xs ++ ys)) → Q (.ref p) H'
theorem op_catTS : OpR X (binaryOp .Add) rCatTS := OpR.of op_catA fun x y H Q ⟨a, b, xs, ys, e1, e2, g1, g2, hz, q⟩ => ⟨a, b, xs, ys, e1, e2, .inl (.inl g1), .inl (.inl g2), hz, fun z => q b H (Same.refl _) (by rw [z]; exact g2), fun _ z => q a H (Same.refl _) (by rw [z, List.append_nil]; exact g1), fun _ _ p hp => q p _ (same_upd hp) upd_same⟩
/-- xs.insert(i, y) -/
def rInsert : V → List V → Hp → VK → Prop := fun x vs H Q => ∃ (l : Addr) (xs : List V) (i : Int) (y : V), x = .ref l ∧ vs = [.int i, y] ∧ H l = some (.lst xs) ∧ xs.length < sizeLine ∧ 0 ≤ i ∧ i < 2 ^ 63 ∧ Q .non (upd H l (.lst (xs.take i.toNat ++ [y] ++ xs.drop i.toNat)))
theorem mt_insertS : MtR X "list.insert" rInsert := mt_insert
/-- x in a tuple, at any depth -/
def rInTC {α : Type} [DecidableEq α] (R : Hp → V → α → Prop) : R2 := fun x y H Q => ∃ a l, R H x a ∧ TupV R H y l ∧ Q (.bl (decide (a ∈ l))) H
theorem op_inTC {α : Type} [DecidableEq α] {R : Hp → V → α → Prop} {f : α → PyData} {d : Nat} (hu : X.A.units + 65 < cLine) (c : Cod R f d) (hd : d < 64) : OpR X (compareOp .In) (rInTC R) := by
  intro pins s σ H x y v u Q I rx ry h
  obtain ⟨a, l, ha, hl, q⟩ := h
  have sd := c.shaped (Nat.le_of_lt hd) a
  have se := (cod_tup c).shaped hd l
  obtain ⟨as, r1⟩ := Dp.reads I (f a) x v (c.dp _ _ _ _ ha) rx
  obtain ⟨bs, r2⟩ := Dp.reads I (.tuple (l.map f)) y u ((cod_tup c).dp _ _ _ _ hl) ry
  exact SeqAt.in_tuple_reads r2 r1 (SeqAt.canLay_of_shaped se) (SeqAt.canLay_of_shaped sd) (room_in_shaped sd hu) ⟨.bl _, H, I, rfl, by rw [c.anyEq]; exact q⟩
end


def topS (i : Nat) : Stmt := PySem.Challenge.pw_stillroom_k27_reach.main.body.getD i (.Pass ⟨0, 0, 0, 0⟩)
abbrev s__parts : Stmt := topS 1
abbrev s_reach : Stmt := topS 2
abbrev s__references : Stmt := topS 3
abbrev s__law_cell : Stmt := topS 5
abbrev s__law_twice : Stmt := topS 6
abbrev s__law_integer : Stmt := topS 8
abbrev s__law_is_list : Stmt := topS 9
abbrev s__law_value : Stmt := topS 10
abbrev s__law_refers : Stmt := topS 11
abbrev s__law_reach : Stmt := topS 12
abbrev s_law : Stmt := topS 13
theorem sc__parts : FnScope ["value", "_", "part"] ["value"] (defScope s__parts) := ⟨rfl, rfl, rfl, by decide +kernel, rfl, by decide +kernel, by decide +kernel⟩
theorem sc_reach : FnScope ["book", "objects", "root", "table", "number", "value", "reached", "waiting"] ["book"] (defScope s_reach) := ⟨rfl, rfl, rfl, by decide +kernel, rfl, by decide +kernel, by decide +kernel⟩
theorem sc__references : FnScope ["value", "found", "waiting", "part"] ["value"] (defScope s__references) := ⟨rfl, rfl, rfl, by decide +kernel, rfl, by decide +kernel, by decide +kernel⟩
theorem sc__law_cell : FnScope ["script", "k"] ["script", "k"] (defScope s__law_cell) := ⟨rfl, rfl, rfl, by decide +kernel, rfl, by decide +kernel, by decide +kernel⟩
theorem sc__law_twice : FnScope ["cell", "k", "x"] ["cell", "k"] (defScope s__law_twice) := ⟨rfl, rfl, rfl, by decide +kernel, rfl, by decide +kernel, by decide +kernel⟩
theorem sc__law_integer : FnScope ["value"] ["value"] (defScope s__law_integer) := ⟨rfl, rfl, rfl, by decide +kernel, rfl, by decide +kernel, by decide +kernel⟩
theorem sc__law_is_list : FnScope ["found", "due", "one", "other"] ["found", "due"] (defScope s__law_is_list) := ⟨rfl, rfl, rfl, by decide +kernel, rfl, by decide +kernel, by decide +kernel⟩
theorem sc__law_value : FnScope ["cell", "k", "deep", "draw", "left", "items", "j", "pairs"] ["cell", "k", "deep"] (defScope s__law_value) := ⟨rfl, rfl, rfl, by decide +kernel, rfl, by decide +kernel, by decide +kernel⟩
theorem sc__law_refers : FnScope ["value", "found", "one", "key"] ["value"] (defScope s__law_refers) := ⟨rfl, rfl, rfl, by decide +kernel, rfl, by decide +kernel, by decide +kernel⟩
theorem sc__law_reach : FnScope ["objects", "root", "found", "number", "value", "turn", "more", "one", "other", "some"] ["objects", "root"] (defScope s__law_reach) := ⟨rfl, rfl, rfl, by decide +kernel, rfl, by decide +kernel, by decide +kernel⟩
theorem sc_law : FnScope ["script", "cell", "objects", "k", "root", "found", "kept", "one"] ["script"] (defScope s_law) := ⟨rfl, rfl, rfl, by decide +kernel, rfl, by decide +kernel, by decide +kernel⟩
/-- what the top has left, as far as the walk asks of it -/
structure Txt (K : PySem.W.Frag) (mg : Str → Option Value) where
  f__parts : Addr
  fd__parts : FuncData
  F__parts : Fun K "_parts" "_parts" s__parts f__parts fd__parts
  b__parts : Binds K fd__parts ["value"] []
  g__parts : mg "_parts" = some (.ref f__parts)
  f_reach : Addr
  fd_reach : FuncData
  F_reach : Fun K "reach" "reach" s_reach f_reach fd_reach
  b_reach : Binds K fd_reach ["book"] []
  g_reach : mg "reach" = some (.ref f_reach)
  f__references : Addr
  fd__references : FuncData
  F__references : Fun K "_references" "_references" s__references f__references fd__references
  b__references : Binds K fd__references ["value"] []
  g__references : mg "_references" = some (.ref f__references)
  f__law_cell : Addr
  fd__law_cell : FuncData
  F__law_cell : Fun K "_law_cell" "_law_cell" s__law_cell f__law_cell fd__law_cell
  b__law_cell : Binds K fd__law_cell ["script", "k"] []
  g__law_cell : mg "_law_cell" = some (.ref f__law_cell)
  f__law_twice : Addr
  fd__law_twice : FuncData
  F__law_twice : Fun K "_law_twice" "_law_twice" s__law_twice f__law_twice fd__law_twice
  b__law_twice : Binds K fd__law_twice ["cell", "k"] []
  g__law_twice : mg "_law_twice" = some (.ref f__law_twice)
  f__law_integer : Addr
  fd__law_integer : FuncData
  F__law_integer : Fun K "_law_integer" "_law_integer" s__law_integer f__law_integer fd__law_integer
  b__law_integer : Binds K fd__law_integer ["value"] []
  g__law_integer : mg "_law_integer" = some (.ref f__law_integer)
  f__law_is_list : Addr
  fd__law_is_list : FuncData
  F__law_is_list : Fun K "_law_is_list" "_law_is_list" s__law_is_list f__law_is_list fd__law_is_list
  b__law_is_list : Binds K fd__law_is_list ["found", "due"] []
  g__law_is_list : mg "_law_is_list" = some (.ref f__law_is_list)
  f__law_value : Addr
  fd__law_value : FuncData
  F__law_value : Fun K "_law_value" "_law_value" s__law_value f__law_value fd__law_value
  b__law_value : Binds K fd__law_value ["cell", "k", "deep"] []
  g__law_value : mg "_law_value" = some (.ref f__law_value)
  f__law_refers : Addr
  fd__law_refers : FuncData
  F__law_refers : Fun K "_law_refers" "_law_refers" s__law_refers f__law_refers fd__law_refers
  b__law_refers : Binds K fd__law_refers ["value"] []
  g__law_refers : mg "_law_refers" = some (.ref f__law_refers)
  f__law_reach : Addr
  fd__law_reach : FuncData
  F__law_reach : Fun K "_law_reach" "_law_reach" s__law_reach f__law_reach fd__law_reach
  b__law_reach : Binds K fd__law_reach ["objects", "root"] []
  g__law_reach : mg "_law_reach" = some (.ref f__law_reach)
  f_law : Addr
  fd_law : FuncData
  F_law : Fun K "law" "law" s_law f_law fd_law
  b_law : Binds K fd_law ["script"] []
  g_law : mg "law" = some (.ref f_law)
  z_abs : mg "abs" = none
  z_bool : mg "bool" = none
  z_int : mg "int" = none
  z_isinstance : mg "isinstance" = none
  z_len : mg "len" = none
  z_list : mg "list" = none
  z_range : mg "range" = none
  z_sorted : mg "sorted" = none
  z_tuple : mg "tuple" = none
  z_zip : mg "zip" = none
open Lean in
local macro_rules
  | `(tactic| walk_at $s:str) => do
    let ws := (s.getString.splitOn " ").filter (· ≠ "")
    let ids (fs : List String) : Array (TSyntax `term) := (fs.map fun f => (⟨mkIdent f.toName⟩ : TSyntax `term)).toArray
    match ws with
    | "vc" :: fs => do
      let xs := ids fs
      `(tactic| simp (config := {maxSteps := 2000000}) only [tSeq, tAsg, tOp, rI, rI0, rU, tUn, tCB, tCons, tNil, tVar, tC, gName, gSub, rSetL, tRet, tRetN, tIfS, tNext, tTest, tB, tDrop, tIf, tNot, tAnd, tOr, tAndV, tOrV, tNotV, tAug, ipI, tCall, tCmp, t2I, tBreak, tCont, tLst, tTup, tBM, tBM0, rAppend, tyV_upd, rLenH, rLenT, rListH, rIxH, rIxTH, rIxS, rEqIL, rNeIL, rEqTS, rSlH, rRep, rCat, rExtend, tSl, tPart, tNoPart, rIxT, gTup, gCons, gNil, atI_c0, atI_c1, atI_c2, atI_c3, dS_int, dS_bl, isS_int, isS_bl, eqv_ii, eqv_bb, eqvAll_nil, eqvAll_cons, List.all_cons, List.all_nil, Bool.and_true, Bool.true_and, rIsiB, tnm_int, tnm_bl, tnm_str, tnm_non, tnm_ref, kb1, kb2, kb3, kb4, kb5, kb6, kb7, kb8, kb9, kb10, rEq, rNe, scal_ii, scal_ss, scal_bb, scal_nn, scal_in, scal_ni, tFor_eq, tLc_eq, iRng1, iRng2, iList, iTup, iZip, iStr, iRng3, tChain, tYes, wipe, tCallL, Int.sub_zero, Int.toNat_natCast, Int.natCast_add, cxOf, L2.start, List.map_cons, List.map_nil, List.length_cons, List.length_nil, List.reduceReplicate, List.cons_append, List.nil_append, List.append_nil, List.set_cons_zero, List.set_cons_succ, List.getElem?_cons_zero, List.getElem?_cons_succ, upd_same, upd_upd, HO.lst.injEq, HO.tup.injEq, nil_sz, Option.some.injEq, V.int.injEq, V.bl.injEq, V.ref.injEq, V.str.injEq, V.ty.injEq, exists_eq_left', exists_eq_left, exists_eq', exists_eq, Int.cast_ofNat_Int, Int.reduceEq, Int.reduceMul, Int.reduceAdd, Int.reduceSub, Int.natCast_zero, Int.mul_zero, Int.add_zero, exists_and_left, exists_and_right, List.cons.injEq, and_true, true_and, and_assoc, reduceCtorEq, false_and, and_false, exists_false, exists_const, or_false, false_or, Nat.reduceAdd, Nat.reduceSub, Int.reduceLT, Int.reduceLE, Int.reduceNeg, Int.reducePow, Int.reduceToNat, ite_true, ite_false, Bool.false_eq_true, Bool.not_true, Bool.not_false, decide_true, decide_false, if_true, if_false, tTupS, tLstS, rListS, rListT, rTupleL, rCatL, rRepS, rSlS, map_int_inj, sz1, sz2, sz3, sz4, sz5, sz6, sz8, CMul, Nat.reduceLT, Nat.reduceLeDiff, Nat.reducePow, or_true, true_or, List.length_map, List.length_append, List.length_replicate, decide_eq_true_eq, gt_iff_lt, ge_iff_le, Int.reduceGT, Int.reduceGE, ne_eq, not_true_eq_false, not_false_eq_true, Int.reduceToNat, gTupS, gLstS, iListS, iTupS, tML, tML0, rPop, mx_eq, mn_eq, Int.natCast_inj, bitAnd_m1, bitAnd_m2, bitAnd_m3, bitAnd_m4, bitAnd_m5, bitAnd_m6, bitAnd_m7, bitAnd_m8, bitAnd_m16, CDiv, toNat_mul, map_snoc, map_cat, map_setV, List.length_set, absI_eq, Bool.and_self, tAugS, rGetL, iZipS, cutV_take1, cutV_drop1, tPar, rLenSc, rIxSc, iRng2, rSumS, rSlTS, cutV_take3, rEqC, rNeC, tTrL, iEnumL, rInI, rIndexI, tDGet, tDIn, tDNotIn, sDPut, iEnumS, tDc_eq, eq_self, rEqTK, rNeSK, rIsiTK, iRevS, iZipTS, rInLC, rNotInLC, rNotInTC, rInTC, rRepL, tJoinC, tDGet2, tDNewTS, tDSetdT, tCallS, rIsB, rNotB, rIsE1, rAllS, rAnyS, tLstRev, tTupRevS, rCatTS, rInsert, kb11, kb12, kb13, kb14, kb15, kb16, kb17, kb18, kb19, kb20, kb21, kb22, kb23, kb24, kb25, kb26, kb27, kb28, kb29, kb30, $[$xs:term],*])
    | "w" :: fs => do
      let xs := ids fs
      let ys := (fs.map fun f => (⟨mkIdent f.toName⟩ : TSyntax `term)).toArray
      `(tactic| simp (config := {maxSteps := 2000000}) only [tSeq, tAsg, tOp, rI, rI0, rU, tUn, tCB, tCons, tNil, tVar, tC, gName, gSub, rSetL, tRet, tRetN, tIfS, tNext, tTest, tB, tDrop, tIf, tNot, tAnd, tOr, tAndV, tOrV, tNotV, tAug, ipI, tCall, tCmp, t2I, tBreak, tCont, tLst, tTup, tBM, tBM0, rAppend, tyV_upd, rLenH, rLenT, rListH, rIxH, rIxTH, rIxS, rEqIL, rNeIL, rEqTS, rSlH, rRep, rCat, rExtend, tSl, tPart, tNoPart, rIxT, gTup, gCons, gNil, atI_c0, atI_c1, atI_c2, atI_c3, dS_int, dS_bl, isS_int, isS_bl, eqv_ii, eqv_bb, eqvAll_nil, eqvAll_cons, List.all_cons, List.all_nil, Bool.and_true, Bool.true_and, rIsiB, tnm_int, tnm_bl, tnm_str, tnm_non, tnm_ref, kb1, kb2, kb3, kb4, kb5, kb6, kb7, kb8, kb9, kb10, rEq, rNe, scal_ii, scal_ss, scal_bb, scal_nn, scal_in, scal_ni, tFor_eq, tLc_eq, iRng1, iRng2, iList, iTup, iZip, iStr, iRng3, tChain, tYes, wipe, tCallL, Int.sub_zero, Int.toNat_natCast, Int.natCast_add, cxOf, L2.start, List.map_cons, List.map_nil, List.length_cons, List.length_nil, List.reduceReplicate, List.cons_append, List.nil_append, List.append_nil, List.set_cons_zero, List.set_cons_succ, List.getElem?_cons_zero, List.getElem?_cons_succ, upd_same, upd_upd, HO.lst.injEq, HO.tup.injEq, nil_sz, Option.some.injEq, V.int.injEq, V.bl.injEq, V.ref.injEq, V.str.injEq, V.ty.injEq, exists_eq_left', exists_eq_left, exists_eq', exists_eq, Int.cast_ofNat_Int, Int.reduceEq, Int.reduceMul, Int.reduceAdd, Int.reduceSub, Int.natCast_zero, Int.mul_zero, Int.add_zero, exists_and_left, exists_and_right, List.cons.injEq, and_true, true_and, and_assoc, reduceCtorEq, false_and, and_false, exists_false, exists_const, or_false, false_or, Nat.reduceAdd, Nat.reduceSub, Int.reduceLT, Int.reduceLE, Int.reduceNeg, Int.reducePow, Int.reduceToNat, ite_true, ite_false, Bool.false_eq_true, Bool.not_true, Bool.not_false, decide_true, decide_false, if_true, if_false, tTupS, tLstS, rListS, rListT, rTupleL, rCatL, rRepS, rSlS, map_int_inj, sz1, sz2, sz3, sz4, sz5, sz6, sz8, CMul, Nat.reduceLT, Nat.reduceLeDiff, Nat.reducePow, or_true, true_or, List.length_map, List.length_append, List.length_replicate, decide_eq_true_eq, gt_iff_lt, ge_iff_le, Int.reduceGT, Int.reduceGE, ne_eq, not_true_eq_false, not_false_eq_true, Int.reduceToNat, gTupS, gLstS, iListS, iTupS, tML, tML0, rPop, mx_eq, mn_eq, Int.natCast_inj, bitAnd_m1, bitAnd_m2, bitAnd_m3, bitAnd_m4, bitAnd_m5, bitAnd_m6, bitAnd_m7, bitAnd_m8, bitAnd_m16, CDiv, toNat_mul, map_snoc, map_cat, map_setV, List.length_set, absI_eq, Bool.and_self, tAugS, rGetL, iZipS, cutV_take1, cutV_drop1, tPar, rLenSc, rIxSc, iRng2, rSumS, rSlTS, cutV_take3, rEqC, rNeC, tTrL, iEnumL, rInI, rIndexI, tDGet, tDIn, tDNotIn, sDPut, iEnumS, tDc_eq, eq_self, rEqTK, rNeSK, rIsiTK, iRevS, iZipTS, rInLC, rNotInLC, rNotInTC, rInTC, rRepL, tJoinC, tDGet2, tDNewTS, tDSetdT, tCallS, rIsB, rNotB, rIsE1, rAllS, rAnyS, tLstRev, tTupRevS, rCatTS, rInsert, kb11, kb12, kb13, kb14, kb15, kb16, kb17, kb18, kb19, kb20, kb21, kb22, kb23, kb24, kb25, kb26, kb27, kb28, kb29, kb30, $[$xs:term],*, $[(tyL_eq $ys)],*, $[(sqL_eq $ys)],*])
    | "g" :: fs => do
      let xs := ids fs
      `(tactic| simp only [gTupS, gCons, gNil, gName, HO.tup.injEq, Option.some.injEq, exists_eq_left', exists_eq_left, exists_eq', exists_eq, V.ref.injEq, List.cons.injEq, and_assoc, exists_and_left, exists_and_right, true_and, and_true, List.length_cons, List.length_nil, Nat.reduceAdd, List.set_cons_zero, List.set_cons_succ, $[$xs:term],*])
    | "c" :: sn :: gs => do
      let s1 := mkIdent sn.toName
      let mut out ← `(tactic| skip)
      for g in gs do
        let i := mkIdent g.toName
        out ← `(tactic| ($out; replace $i := $s1 _ _ $i))
      return out
    | "n" :: sn :: suf :: gs => do
      let s1 := mkIdent sn.toName
      let mut out ← `(tactic| skip)
      for g in gs do
        let i := mkIdent g.toName
        let j := mkIdent (g ++ suf).toName
        out ← `(tactic| ($out; have $j := $s1 _ _ $i))
      return out
    | "b" :: bn :: suf :: gs => do
      let s1 := mkIdent bn.toName
      let mut out ← `(tactic| skip)
      for g in gs do
        let i := mkIdent g.toName
        let j := mkIdent (g ++ suf).toName
        let n := mkIdent ("ne_" ++ g).toName
        out ← `(tactic| ($out; have $j := $s1 _ _ $n $i))
      return out
    | _ => Macro.throwUnsupported

section
variable {P : Program} {w : World} {K : PySem.W.Frag} {mg : Str → Option Value} {base : Heap}

theorem foldl_take {α β : Type} (f : β → α → β) (s : β) {l : List α} {i : Nat} {x : α} (h : l[i]? = some x) : (l.take (i + 1)).foldl f s = f ((l.take i).foldl f s) x := by
  rw [List.take_add_one, h, List.foldl_append]
  simp only [Option.toList_some, List.foldl_cons, List.foldl_nil]
theorem take_succ {α : Type} {l : List α} {i : Nat} {x : α} (h : l[i]? = some x) : l.take (i + 1) = l.take i ++ [x] := by
  rw [List.take_add_one, h]
  rfl
theorem take_map_succ {α β : Type} (f : α → β) {l : List α} {i : Nat} {x : α} (h : l[i]? = some x) : (l.map f).take (i + 1) = (l.map f).take i ++ [f x] := take_succ (by rw [List.getElem?_map, h]; rfl)
theorem take_lt {α : Type} (l : List α) (i : Nat) {n : Nat} (h : l.length < n) : (l.take i).length < n := Nat.lt_of_le_of_lt (by rw [List.length_take]; exact Nat.min_le_right _ _) h
def YTup (ns : List Int) : Nat → Hp → V → Hp → Prop := fun i H v H' => H' = H ∧ ∃ b, ns[i]? = some b ∧ v = .int b
theorem walkTI {K : PySem.W.Frag} {a : Addr} {ns : List Int} : Walk (Itt K a) ns.length (fun H => H a = some (.tup (List.map V.int ns))) (YTup ns) := by
  have w := walkT (K := K) (a := a) (xs := List.map V.int ns)
  rw [List.length_map] at w
  refine w.mono (fun _ h => h) fun i H x H' _ _ y => ⟨y.1, ?_⟩
  have h := y.2
  rw [List.getElem?_map] at h
  obtain ⟨b, h1, rfl⟩ := Option.map_eq_some_iff.mp h
  exact ⟨b, h1, rfl⟩
theorem foldl_len {α : Type} {f : List Int → α → List Int} (h : ∀ p c, (f p c).length = p.length) : ∀ (l : List α) (p : List Int), (l.foldl f p).length = p.length
  | [], _ => rfl
  | c :: r, p => by rw [List.foldl_cons, foldl_len h r, h]
theorem ix_in {r c w h : Nat} (hr : r < h) (hc : c < w) : r * w + c < w * h := by
  have h1 : r * w + w ≤ h * w := by rw [← Nat.succ_mul]; exact Nat.mul_le_mul_right w hr
  rw [Nat.mul_comm w h]
  omega
theorem map_set (l : List Int) (i : Nat) (v : Int) : (List.map V.int l).set i (.int v) = List.map V.int (l.set i v) := by rw [List.map_set]
theorem div_in {a d : Int} {n : Nat} (h0 : 0 ≤ a) (h1 : a < d) (hn : 1 ≤ n) : 0 ≤ a * n / d ∧ a * n / d < n := by
  refine ⟨Int.ediv_nonneg (Int.mul_nonneg h0 (by omega)) (by omega), Int.ediv_lt_of_lt_mul (by omega) ?_⟩
  rw [Int.mul_comm (n : Int) d]
  exact Int.mul_lt_mul_of_pos_right h1 (by omega)
theorem foldl_ext' {α β : Type} {f g : α → β → α} {l : List β} : ∀ {a : α}, (∀ a, ∀ b ∈ l, f a b = g a b) → l.foldl f a = l.foldl g a := by
  induction l with
  | nil => exact fun _ => rfl
  | cons x r ih => exact fun {a} h => by rw [List.foldl_cons, List.foldl_cons, h a x List.mem_cons_self]; exact ih fun a b hb => h a b (List.mem_cons_of_mem _ hb)
theorem gN_ge {src : List Int} (h : ∀ v ∈ src, -1 ≤ v) (i : Nat) : -1 ≤ gN src i := by
  unfold gN
  rw [List.getD_eq_getElem?_getD]
  cases e : src[i]? with
  | none => decide
  | some b => exact h b (List.mem_of_getElem? e)
theorem cnt_lt {n : Nat} (h : n ≤ 2000000) : n < sizeLine := Nat.lt_of_le_of_lt h (by decide)
theorem cnt_le {n : Nat} (h : n ≤ 2000000) : n ≤ sizeLine := Nat.le_of_lt (cnt_lt h)
theorem cnt_leL {n : Nat} (h : n ≤ 10000000) : n ≤ sizeLine := Nat.le_trans h (by decide)

/-! ### values: data of tuples, told by the library's data -/
mutual
inductive TV (H : Hp) : V → PyData → Prop
  | non : TV H .non .none
  | int (i : Int) : TV H (.int i) (.int i)
  | str (x : Str) : TV H (.str x) (.str x)
  | tup {a : Addr} {xs : List V} {ds : List PyData} : H a = some (.tup xs) → TVs H xs ds → TV H (.ref a) (.tuple ds)
inductive TVs (H : Hp) : List V → List PyData → Prop
  | nil : TVs H [] []
  | cons {v : V} {vs : List V} {d : PyData} {ds : List PyData} : TV H v d → TVs H vs ds → TVs H (v :: vs) (d :: ds)
end
mutual
theorem TV.mono {H H' : Hp} (s : Same H H') {v : V} {d : PyData} : TV H v d → TV H' v d
  | .non => .non
  | .int i => .int i
  | .str x => .str x
  | .tup g h => .tup (s _ _ g) (TVs.mono s h)
theorem TVs.mono {H H' : Hp} (s : Same H H') {vs : List V} {ds : List PyData} : TVs H vs ds → TVs H' vs ds
  | .nil => .nil
  | .cons h t => .cons (TV.mono s h) (TVs.mono s t)
end
mutual
theorem TV.but {H H' : Hp} {l : Addr} {ys : List V} (bt : But l H H') (g : H l = some (.lst ys)) {v : V} {d : PyData} : TV H v d → TV H' v d
  | .non => .non
  | .int i => .int i
  | .str x => .str x
  | .tup k h => .tup (tup_but bt k g) (TVs.but bt g h)
theorem TVs.but {H H' : Hp} {l : Addr} {ys : List V} (bt : But l H H') (g : H l = some (.lst ys)) {vs : List V} {ds : List PyData} : TVs H vs ds → TVs H' vs ds
  | .nil => .nil
  | .cons h t => .cons (TV.but bt g h) (TVs.but bt g t)
end
mutual
theorem TV.dp {K : PySem.W.Frag} {H : Hp} {v : V} {d : PyData} : TV H v d → Dp K H v d
  | .non => .non
  | .int i => .int i
  | .str x => .str x
  | .tup g h => .tup (.inl (.inl g)) (TVs.dp h)
theorem TVs.dp {K : PySem.W.Frag} {H : Hp} {vs : List V} {ds : List PyData} : TVs H vs ds → DpAll K H vs ds
  | .nil => .nil
  | .cons h t => .cons (TV.dp h) (TVs.dp t)
end
theorem TV.upd {H : Hp} {l : Addr} {ys : List V} {o : HO} (g : H l = some (.lst ys)) {v : V} {d : PyData} (h : TV H v d) : TV (upd H l o) v d := h.but ((But.refl l H).put) g
theorem TVs.all {H : Hp} {vs : List V} {ds : List PyData} : TVs H vs ds → All2 (TV H) vs ds
  | .nil => .nil
  | .cons h t => .cons h (TVs.all t)
theorem TVs.of {H : Hp} {vs : List V} {ds : List PyData} (h : All2 (TV H) vs ds) : TVs H vs ds := by
  induction h with
  | nil => exact .nil
  | cons r _ ih => exact .cons r ih
theorem TVs.ints {H : Hp} : ∀ ns : List Int, TVs H (ns.map V.int) (ns.map PyData.int)
  | [] => .nil
  | n :: r => .cons (.int n) (TVs.ints r)
theorem TVs.of_ints {H : Hp} : ∀ {vs : List V} {ns : List Int}, TVs H vs (ns.map PyData.int) → vs = ns.map V.int
  | _, [], h => by cases h; rfl
  | _, n :: r, h => by
    rw [List.map_cons] at h
    cases h with
    | cons a b =>
      cases a
      rw [TVs.of_ints b]
      rfl
/-- a data value that is laid out and not too deep -/
def Sh (n : Nat) (d : PyData) : Prop := PyData.canLay0 d = true ∧ PyData.depth d ≤ n
theorem Sh.shaped {n : Nat} {d : PyData} (h : Sh n d) (hn : n ≤ 64) : SeqAt.shaped d = true := by
  unfold SeqAt.shaped
  rw [h.1, decide_eq_true (Nat.le_trans h.2 hn)]
  rfl
theorem Sh.mono {n m : Nat} {d : PyData} (h : Sh n d) (hm : n ≤ m) : Sh m d := ⟨h.1, Nat.le_trans h.2 hm⟩
theorem Sh.refl {n : Nat} {d : PyData} (h : Sh n d) : PyData.eqv d d = true := PySem.SeqAt.eqv_refl d h.1
theorem sh_non (n : Nat) : Sh n .none := ⟨rfl, Nat.zero_le _⟩
theorem sh_int (n : Nat) (i : Int) : Sh n (.int i) := ⟨rfl, by rw [PyData.depth]; exact Nat.zero_le _⟩
theorem sh_str (n : Nat) {x : Str} (h : PyData.strOk x = true) : Sh n (.str x) := ⟨by rw [PyData.canLay0]; exact h, by rw [PyData.depth]; exact Nat.zero_le _⟩
theorem layAll_iff : ∀ ds : List PyData, PyData.canLayAll0 ds = true ↔ ∀ d ∈ ds, PyData.canLay0 d = true
  | [] => by simp [PyData.canLayAll0]
  | d :: r => by
    rw [PyData.canLayAll0, Bool.and_eq_true, layAll_iff r]
    simp
theorem depAll_iff (n : Nat) : ∀ ds : List PyData, PyData.depthAll ds ≤ n ↔ ∀ d ∈ ds, PyData.depth d ≤ n
  | [] => by simp [PyData.depthAll]
  | d :: r => by
    rw [PyData.depthAll, Nat.max_le, depAll_iff n r]
    simp
theorem sh_tup {n : Nat} {ds : List PyData} : Sh (n + 1) (.tuple ds) ↔ ∀ d ∈ ds, Sh n d := by
  unfold Sh
  rw [PyData.canLay0, PyData.depth, layAll_iff, show (PyData.depthAll ds + 1 ≤ n + 1) = (PyData.depthAll ds ≤ n) from propext (Nat.add_le_add_iff_right), depAll_iff]
  exact ⟨fun h d hd => ⟨h.1 d hd, h.2 d hd⟩, fun h => ⟨fun d hd => (h d hd).1, fun d hd => (h d hd).2⟩⟩
theorem sh_sub {n : Nat} {ds : List PyData} (h : Sh n (.tuple ds)) : ∀ d ∈ ds, Sh n d := by
  cases n with
  | zero =>
    have := h.2
    rw [PyData.depth] at this
    omega
  | succ n => exact fun d hd => (sh_tup.mp h d hd).mono (Nat.le_succ n)

def sRef : Str := Str.ofString "ref"
def sList : Str := Str.ofString "list"
def sDict : Str := Str.ofString "dict"
def sStream : Str := Str.ofString "stream"
def okDict : OkS := ⟨sDict, by decide +kernel⟩
def okStream : OkS := ⟨sStream, by decide +kernel⟩
def prD (p : List Int × PyData) : PyData := .tuple [.tuple (p.1.map PyData.int), p.2]
theorem pr_tv {H : Hp} {v : V} {p : List Int × PyData} (t : TV H v (prD p)) : ∃ b aN y, v = .ref b ∧ H b = some (.tup [.ref aN, y]) ∧ H aN = some (.tup (List.map V.int p.1)) ∧ TV H y p.2 := by
  unfold prD at t
  cases t with
  | tup g ts => cases ts with
    | cons a b => cases b with
      | cons c d =>
        cases d
        cases a with
        | tup g1 t1 =>
          obtain rfl := TVs.of_ints t1
          exact ⟨_, _, _, rfl, g, g1, c⟩
/-- a value of depth under k, and the references in it in their order -/
def RV : Nat → PyData → List Int → Prop
  | 0, _, _ => False
  | k + 1, d, rs => (∃ n, d = .tuple [.str sRef, .int n] ∧ rs = [n])
    ∨ (∃ w tl, d = .tuple (.str w :: tl) ∧ PyData.strOk w = true ∧ w ≠ sRef ∧ w ≠ sList ∧ w ≠ sDict ∧ w ≠ sStream ∧ rs = [])
    ∨ (∃ ds rss, d = .tuple [.str sList, .tuple ds] ∧ All2 (RV k) ds rss ∧ ds.length ≤ 2 ∧ rs = rss.flatten)
    ∨ (∃ w ps tl rss, d = .tuple (.str w :: .tuple (ps.map prD) :: tl) ∧ (w = sDict ∨ w = sStream) ∧ All2 (fun p rs => RV k p.2 rs) ps rss ∧ ps.length ≤ 2 ∧ rs = rss.flatten)
theorem all2_map {α β γ : Type} {R : α → γ → Prop} {f : β → γ} {xs : List α} {ys : List β} (h : All2 (fun x y => R x (f y)) xs ys) : All2 R xs (ys.map f) := by
  induction h with
  | nil => exact .nil
  | cons r _ ih => exact .cons r ih
theorem all2_mapl {α β γ : Type} {R : γ → β → Prop} {f : α → γ} {xs : List α} {ys : List β} (h : All2 (fun x y => R (f x) y) xs ys) : All2 R (xs.map f) ys := by
  induction h with
  | nil => exact .nil
  | cons r _ ih => exact .cons r ih
theorem hd_tv {H : Hp} {v : V} {w : Str} {tl : List PyData} (t : TV H v (.tuple (.str w :: tl))) : ∃ p xs, v = .ref p ∧ H p = some (.tup (.str w :: xs)) ∧ TVs H xs tl := by
  cases t with
  | tup g ts => cases ts with
    | cons a b => cases a; exact ⟨_, _, rfl, g, b⟩
theorem RV.le {k : Nat} : ∀ {d : PyData} {rs : List Int}, RV k d rs → ∀ {m : Nat}, k ≤ m → RV m d rs := by
  induction k with
  | zero => exact fun h => h.elim
  | succ k ih =>
    intro d rs h m hm
    obtain ⟨m, rfl⟩ : ∃ j, m = j + 1 := ⟨m - 1, by omega⟩
    rcases h with h | h | ⟨ds, rss, e, ha, hl, hr⟩ | ⟨w, ps, tl, rss, e, hw, ha, hl, hr⟩
    · exact .inl h
    · exact .inr (.inl h)
    · exact .inr (.inr (.inl ⟨ds, rss, e, ha.mono fun d rs h => ih h (by omega), hl, hr⟩))
    · exact .inr (.inr (.inr ⟨w, ps, tl, rss, e, hw, ha.mono fun d rs h => ih h (by omega), hl, hr⟩))

/-- what stands at the head of a value: its own reference -/
def ownR (k : Nat) (d : PyData) (rs : List Int) (ds : List PyData) (rss : List (List Int)) : Prop := All2 (RV k) ds rss ∧ ds.length ≤ 2 ∧ ∃ own, rs = own ++ rss.flatten ∧ ((own = [] ∧ ∃ w tl, d = .tuple (.str w :: tl) ∧ w ≠ sRef) ∨ ∃ n, own = [n] ∧ d = .tuple [.str sRef, .int n])
def sp__parts (K : PySem.W.Frag) : Sp := fun vs H Q _ => ∃ (v : V) (k : Nat) (d : PyData) (rs : List Int), vs = [v] ∧ (TV H v d) ∧ (RV (k + 1) d rs) ∧ (∀ H' p us ds rss, Same H H' → H p = none → H' p = some (.lst us) → All2 (TV H') us ds → ownR k d rs ds rss → Q (.ref p) H')
theorem ok__parts (T : Txt K mg) : FnOk P w K mg base CX0 1 T.f__parts T.fd__parts ["value"] (sp__parts K) := by
  refine T.F__parts.ok sc__parts (fun vs H Q E h => ?_) (fun cdv A outer s H vs Q E hr h => ?_)
  · obtain ⟨v, k, d, rs, rfl, _⟩ := h
    rfl
  · obtain ⟨v, k, d, rs, rfl, hv, hk, q⟩ := h
    refine ⟨_, (pss_cons (ps_if (pt_cmpR op_eq (pe_ix ix_tupH (pv 0) pe_int (fun _ _ => rfl)) pe_str (nomark _)) (pss_one (ps_ret (pe_callTy call_listT (by rfl) T.z_list (by decide +kernel) (pa_cons (pe_ix ix_tupH (pv 0) pe_int (fun _ _ => rfl)) pa_nil)))) pss_nil)
      (pss_cons (ps_if (pt_cmpR (op_inTC (hu5 hr) cod_str (by decide)) (pe_ix ix_tupH (pv 0) pe_int (fun _ _ => rfl)) (pe_tupS (pa_cons pe_str (pa_cons pe_str pa_nil))) (by rfl)) (pss_one (ps_ret (pe_lc (own := [("_", 1), ("part", 2)]) (g := _) rfl sc__parts.nd (pi_tupS (pe_ix ix_tupH (pv 0) pe_int (fun _ _ => rfl))) (blkOk_by (own := [("_", 1), ("part", 2)]) (N := ["value", "_", "part"]) (sc := defScope s__parts) (by decide +kernel)) (fun _ _ _ _ _ => (pg_tupS (n := 2) (by rfl) (pgs_cons (pg_name (i := 1) sc__parts.nd rfl (Or.inl rfl)) (pgs_cons (pg_name (i := 2) sc__parts.nd rfl (Or.inl rfl)) pgs_nil)))) (fun _ _ _ _ _ => pts_nil) (fun _ _ _ _ _ => (pv 2))))) pss_nil)
      (pss_one (ps_ret (pe_lstS pa_nil))))), ?_⟩
    have no : ∀ (w : Str) (p : Addr) (h1 : w ≠ sList) (hok : PyData.strOk w = true) (h2 : w ≠ sDict) (h3 : w ≠ sStream) (H' : Hp) (pt : Addr) (A B : Prop), H' pt = some (HO.tup [V.str sDict, V.str sStream]) → B → ∃ a, StrV H' (V.str w) a ∧ ∃ x, TupV StrV H' (V.ref pt) x ∧ if a ∈ x then A else B := fun w p h1 hok h2 h3 H' pt A B gt b => by
      refine ⟨⟨w, hok⟩, rfl, [okDict, okStream], ⟨pt, _, rfl, gt, strs_all [okDict, okStream]⟩, ?_⟩
      have hme : ¬ (⟨w, hok⟩ : OkS) ∈ [okDict, okStream] := fun z => by
        rcases List.mem_cons.mp z with e | e
        · exact h2 (congrArg Subtype.val e)
        · exact h3 (congrArg Subtype.val (List.mem_singleton.mp e))
      exact (if_neg hme).mpr b
    rcases hk with ⟨n, rfl, rfl⟩ | ⟨w, tl, rfl, hok, h1, h2, h3, h4, rfl⟩ | ⟨ds, rss, rfl, ha, hl, rfl⟩ | ⟨w, ps, tl, rss, rfl, hw, ha, hl, rfl⟩
    · obtain ⟨p, xs, rfl, g, hx⟩ := hd_tv hv
      walk_at "vc g"
      refine (if_neg (show ¬ sRef = Str.ofString "list" by decide +kernel)).mpr fun pt H1 s1 n1 g1 => no sRef p (by decide +kernel) (by decide +kernel) (by decide +kernel) (by decide +kernel) H1 pt _ _ g1 fun pl H2 s2 n2 g2 => ?_
      exact q H2 pl [] [] [] (s1.trans s2) (s1.free n2) g2 .nil ⟨.nil, by decide, [n], rfl, .inr ⟨n, rfl, rfl⟩⟩
    · obtain ⟨p, xs, rfl, g, hx⟩ := hd_tv hv
      walk_at "vc g"
      refine (if_neg (show ¬ w = Str.ofString "list" from h2)).mpr fun pt H1 s1 n1 g1 => no w p h2 hok h3 h4 H1 pt _ _ g1 fun pl H2 s2 n2 g2 => ?_
      exact q H2 pl [] [] [] (s1.trans s2) (s1.free n2) g2 .nil ⟨.nil, by decide, [], rfl, .inl ⟨rfl, w, tl, rfl, h1⟩⟩
    · obtain ⟨p, xs, rfl, g, hx⟩ := hd_tv hv
      walk_at "vc g"
      refine (if_pos (show sList = Str.ofString "list" from rfl)).mpr ?_
      cases hx with
      | cons a b =>
        cases b
        cases a with
        | tup g1 t1 => exact ⟨_, atI_c1 _ _ _, _, rfl, _, g1, fun pl H2 s2 n2 g2 => q H2 pl _ ds rss s2 n2 g2 (t1.mono s2).all ⟨ha, hl, [], rfl, .inl ⟨rfl, sList, _, rfl, by decide +kernel⟩⟩⟩
    · obtain ⟨p, xs, rfl, g, hx⟩ := hd_tv hv
      have hnl : w ≠ sList := by rcases hw with rfl | rfl <;> decide +kernel
      have hnr : w ≠ sRef := by rcases hw with rfl | rfl <;> decide +kernel
      have hok : PyData.strOk w = true := by rcases hw with rfl | rfl <;> decide +kernel
      walk_at "vc g"
      refine (if_neg (show ¬ w = Str.ofString "list" from hnl)).mpr fun pt H1 s1 n1 g1 => ⟨⟨w, hok⟩, rfl, [okDict, okStream], ⟨pt, _, rfl, g1, strs_all [okDict, okStream]⟩, ?_⟩
      have hme : (⟨w, hok⟩ : OkS) ∈ [okDict, okStream] := by
        rcases hw with e | e
        · exact List.mem_cons.mpr (.inl (Subtype.ext e))
        · exact List.mem_cons_of_mem _ (List.mem_singleton.mpr (Subtype.ext e))
      refine (if_pos hme).mpr ?_
      cases hx with
      | cons a b =>
        cases a with
        | tup g2 t2 =>
          rename_i aP vP
          have g21 := s1 _ _ g2
          have t21 := (t2.mono s1).all
          have hvl := t21.len
          rw [List.length_map] at hvl
          refine ⟨_, s1 _ _ g, _, atI_c1 _ _ _, _, rfl, ⟨_, g21⟩, lcW (walkT (xs := vP)) (fun D i H' => Same H1 H' ∧ ∃ us, H' D = some (.lst us) ∧ All2 (TV H') us ((ps.map (·.2)).take i) ∧ us.length = i) (fun D H' s n g => ⟨s, [], g, .nil, rfl⟩) (fun D i H' _ _ h => h.1 _ _ g21) (fun D i y H2 H3 hi hD h y2 => ?_) (fun D H2 hD h => ?_)⟩
          · obtain ⟨s2, us, gD, hu, hul⟩ := h
            obtain ⟨rfl, hy⟩ := y2
            obtain ⟨d, hd, td⟩ := t21.at hy
            rw [List.getElem?_map] at hd
            obtain ⟨z, hz, rfl⟩ := Option.map_eq_some_iff.mp hd
            obtain ⟨b', aN, y3, rfl, gb, gN, ty⟩ := pr_tv td
            have gb2 := s2 _ _ gb
            walk_at "vc gb2"
            refine ⟨_, gD, cnt_lt (by omega), same_upd2 s2 hD, ?_, by omega⟩
            rw [take_map_succ (·.2) hz]
            exact (hu.mono fun v d t => TV.upd gD t).snoc (TV.upd gD (ty.mono s2))
          · obtain ⟨s2, us, gD, hu, hul⟩ := h
            rw [hvl, show ps.length = (ps.map (·.2)).length by rw [List.length_map], List.take_length] at hu
            exact q H2 D us _ rss (s1.trans s2) (s1.free hD) gD hu ⟨all2_mapl ha, by rw [List.length_map]; exact hl, [], rfl, .inl ⟨rfl, w, _, rfl, hnr⟩⟩
theorem all2_snoc_inv {α β : Type} {R : α → β → Prop} {xs : List α} {x : α} {ys : List β} (h : All2 R (xs ++ [x]) ys) : ∃ ys' y, ys = ys' ++ [y] ∧ All2 R xs ys' ∧ R x y := by
  induction xs generalizing ys with
  | nil =>
    cases h with
    | cons r t => cases t; exact ⟨[], _, rfl, .nil, r⟩
  | cons a xs ih =>
    cases h with
    | cons r t =>
      obtain ⟨ys', y, rfl, h1, h2⟩ := ih t
      exact ⟨_ :: ys', y, rfl, .cons r h1, h2⟩
def S3 (ws : List (Nat × PyData × List Int)) : Nat := (ws.map fun w => 3 ^ w.1).sum
theorem S3_app (xs ys : List (Nat × PyData × List Int)) : S3 (xs ++ ys) = S3 xs + S3 ys := by unfold S3; rw [List.map_append, List.sum_append]
theorem S3_one (w : Nat × PyData × List Int) : S3 [w] = 3 ^ w.1 := by unfold S3; simp
theorem S3_len : ∀ ws : List (Nat × PyData × List Int), ws.length ≤ S3 ws
  | [] => Nat.zero_le _
  | w :: r => by
    have h1 := S3_len r
    have h2 : 1 ≤ 3 ^ w.1 := Nat.one_le_pow _ _ (by decide)
    rw [show w :: r = [w] ++ r from rfl, S3_app, S3_one, List.length_append]
    simp only [List.length_cons, List.length_nil]
    omega
theorem kidsW {k : Nat} {H : Hp} {ds : List PyData} {rss : List (List Int)} (h : All2 (RV k) ds rss) : ∀ {us : List V}, All2 (TV H) us ds → ∃ zs : List (Nat × PyData × List Int), All2 (fun v w => TV H v w.2.1) us zs ∧ (∀ w ∈ zs, RV w.1 w.2.1 w.2.2) ∧ (∀ n, n ∈ rss.flatten ↔ ∃ w ∈ zs, n ∈ w.2.2) ∧ S3 zs = us.length * 3 ^ k := by
  induction h with
  | nil => intro us hu; cases hu; exact ⟨[], .nil, (fun _ z => nomatch z), fun n => by simp, by simp [S3]⟩
  | cons r _ ih =>
    rename_i d rs ds rss _
    intro us hu
    cases hu with
    | cons a b =>
      obtain ⟨zs, h1, h2, h3, h4⟩ := ih b
      refine ⟨(k, d, rs) :: zs, .cons a h1, fun w hw => ?_, fun n => ?_, ?_⟩
      · rcases List.mem_cons.mp hw with e | e
        · rw [e]; exact r
        · exact h2 w e
      · rw [List.flatten_cons, List.mem_append, h3]
        constructor
        · rintro (z | ⟨w, hw, hn⟩)
          · exact ⟨_, List.mem_cons_self .., z⟩
          · exact ⟨w, List.mem_cons_of_mem _ hw, hn⟩
        · rintro ⟨w, hw, hn⟩
          rcases List.mem_cons.mp hw with e | e
          · rw [e] at hn; exact .inl hn
          · exact .inr ⟨w, e, hn⟩
      · rw [show (k, d, rs) :: zs = [(k, d, rs)] ++ zs from rfl, S3_app, S3_one, h4, List.length_cons, Nat.succ_mul]
        exact Nat.add_comm _ _
theorem RV_head {k : Nat} {d : PyData} {rs : List Int} (h : RV k d rs) : ∃ j, k = j + 1 ∧ RV (j + 1) d rs ∧ ((∃ n, d = .tuple [.str sRef, .int n] ∧ rs = [n]) ∨ ∃ w tl, d = .tuple (.str w :: tl) ∧ w ≠ sRef) := by
  cases k with
  | zero => exact h.elim
  | succ j =>
    refine ⟨j, rfl, h, ?_⟩
    rcases h with ⟨n, e, h⟩ | ⟨w, tl, e, _, h1, _⟩ | ⟨ds, rss, e, _⟩ | ⟨w, ps, tl, rss, e, hw, _⟩
    · exact .inl ⟨n, e, h⟩
    · exact .inr ⟨w, tl, e, h1⟩
    · exact .inr ⟨sList, _, e, by decide +kernel⟩
    · exact .inr ⟨w, _, e, by rcases hw with rfl | rfl <;> decide +kernel⟩
def sp__references (K : PySem.W.Frag) : Sp := fun vs H Q _ => ∃ (v : V) (k : Nat) (d : PyData) (rs : List Int), vs = [v] ∧ (TV H v d) ∧ (RV k d rs) ∧ (k ≤ 4) ∧ (∀ H' p fs, Same H H' → H p = none → H' p = some (.lst (List.map V.int fs)) → (∀ n, n ∈ fs ↔ n ∈ rs) → fs.length ≤ 81 → Q (.ref p) H')
theorem ok__references (T : Txt K mg) : FnOk P w K mg base CX0 2 T.f__references T.fd__references ["value"] (sp__references K) := by
  refine T.F__references.ok sc__references (fun vs H Q E h => ?_) (fun cdv A outer s H vs Q E hr h => ?_)
  · obtain ⟨v, k, d, rs, rfl, _⟩ := h
    rfl
  · obtain ⟨v, k, d, rs, rfl, hv, hk, h4, q⟩ := h
    refine ⟨_, (pss_cons (ps_set (i := 1) sc__references.nd rfl (Or.inl rfl) (pe_lstS pa_nil))
      (pss_cons (ps_set (i := 2) sc__references.nd rfl (Or.inl rfl) (pe_lstS (pa_cons (pv 0) pa_nil)))
      (pss_cons (ps_while PassesOwn.never (pt_truthL (pv 2) (by intro _; rfl)) (pss_cons (ps_set (i := 3) sc__references.nd rfl (Or.inl rfl) (pe_ml0 (pe_bm0 PySem.F.plainAttrs_list PySem.F.slot_list_pop PySem.F.type_list_pop mt_pop (pe_mono (pv 2)))))
      (pss_cons (ps_if (pt_cmpR op_eq (pe_ix ix_tupH (pv 3) pe_int (fun _ _ => rfl)) pe_str (nomark _)) (pss_one (ps_expr (pe_ml (pe_bm PySem.F.plainAttrs_list PySem.F.slot_list_append PySem.F.type_list_append mt_append (pe_mono (pv 1)) (pa_cons (pe_ix ix_tupH (pv 3) pe_int (fun _ _ => rfl)) pa_nil))))) pss_nil)
      (pss_one (ps_expr (pe_ml (pe_bm PySem.F.plainAttrs_list PySem.F.slot_list_extend PySem.F.type_list_extend mt_extend (pe_mono (pv 2)) (pa_cons (pe_call (ok__parts T) hr (by rfl) T.g__parts T.F__parts.kp T.b__parts .nil pass0 (pa_cons (pv 3) pa_nil)) pa_nil))))))))
      (pss_one (ps_ret (pv 1)))))), ?_⟩
    walk_at "vc"
    intro pf H1 s1 n1 g1 pw H2 s2 n2 g2
    have ne : pf ≠ pw := ne_of_none g1 n2
    refine wh_by (fun m σ H' => ∃ (fs : List Int) (us : List V) (ws : List (Nat × PyData × List Int)) (v3 : Option V), σ = [some v, some (.ref pf), some (.ref pw), v3] ∧ Same H H' ∧ H' pf = some (.lst (List.map V.int fs)) ∧ H' pw = some (.lst us) ∧ All2 (fun v w => TV H' v w.2.1) us ws ∧ (∀ w ∈ ws, RV w.1 w.2.1 w.2.2) ∧ (∀ n, n ∈ rs ↔ n ∈ fs ∨ ∃ w ∈ ws, n ∈ w.2.2) ∧ fs.length + S3 ws ≤ 81 ∧ S3 ws ≤ m) (3 ^ k) ⟨[], [v], [(k, d, rs)], none, rfl, s1.trans s2, s2 _ _ g1, g2, .cons (hv.mono (s1.trans s2)) .nil, ?_, ?_, ?_, ?_⟩ ?_
    · intro w hw
      rw [List.mem_singleton.mp hw]; exact hk
    · intro n
      simp
    · have : 3 ^ k ≤ 3 ^ 4 := Nat.pow_le_pow_right (by decide) h4
      rw [S3_one]
      simpa using this
    · rw [S3_one]; exact Nat.le_refl _
    rintro m σ H3 ⟨fs, us, ws, v3, rfl, s3, gf, gw, hu, hws, hrs, hb, hm⟩
    walk_at "vc gw gf sp__parts"
    rcases List.eq_nil_or_concat us with rfl | ⟨us', x, rfl⟩
    · cases hu
      refine (if_neg (show ¬ 0 < ([] : List V).length by decide)).mpr ?_
      exact q H3 pf fs s3 n1 gf (fun n => by rw [hrs]; simp) (by omega)
    · rw [List.concat_eq_append] at gw hu ⊢
      obtain ⟨ws', w, rfl, hu', tx⟩ := all2_snoc_inv hu
      refine (if_pos (show 0 < (us' ++ [x]).length by rw [List.length_append]; simp)).mpr ?_
      obtain ⟨j, hj, rj, hhead⟩ := RV_head (hws w (List.mem_append.mpr (.inr (List.mem_singleton.mpr rfl))))
      rw [S3_app, S3_one, hj] at hb hm
      have p3 : 3 ^ (j + 1) = 3 * 3 ^ j := by rw [Nat.pow_succ]; omega
      have p1 : 1 ≤ 3 ^ j := Nat.one_le_pow _ _ (by decide)
      have hul := hu'.len
      have hwl := S3_len ws'
      refine ⟨fun σ' H' => ∃ m', m' < m ∧ ∃ (fs : List Int) (us : List V) (ws : List (Nat × PyData × List Int)) (v3 : Option V), σ' = [some v, some (.ref pf), some (.ref pw), v3] ∧ Same H H' ∧ H' pf = some (.lst (List.map V.int fs)) ∧ H' pw = some (.lst us) ∧ All2 (fun v w => TV H' v w.2.1) us ws ∧ (∀ w ∈ ws, RV w.1 w.2.1 w.2.2) ∧ (∀ n, n ∈ rs ↔ n ∈ fs ∨ ∃ w ∈ ws, n ∈ w.2.2) ∧ fs.length + S3 ws ≤ 81 ∧ S3 ws ≤ m', ?_, ?_⟩
      · rintro σ' H' ⟨m', hm', fs, us, ws, v3, rfl, k1, k2, k3, k4, k5, k6, k7, k8⟩
        exact ⟨m', hm', ⟨_, rfl⟩, k1, fs, k2, us, k3, ws, k4, k5, k6, k7, k8⟩
      · have hget : (us' ++ [x])[(us' ++ [x]).length - 1]? = some x := by simp
        have hdl : (us' ++ [x]).dropLast = us' := by simp
        rw [hdl]
        have tx4 : TV (upd H3 pw (.lst us')) x w.2.1 := TV.upd gw tx
        have hu4 : All2 (fun v w => TV (upd H3 pw (.lst us')) v w.2.1) us' ws' := hu'.mono fun v w t => TV.upd gw t
        refine ⟨x, hget, ?_⟩
        have npw : H pw = none := s1.free n2
        have gpf4 : upd H3 pw (.lst us') pf = some (.lst (List.map V.int fs)) := (upd_ne ne).trans gf
        have gpw4 : upd H3 pw (.lst us') pw = some (.lst us') := upd_same
        have s4 : Same H (upd H3 pw (.lst us')) := same_upd2 s3 npw
        have fin : ∀ (H5 : Hp) (own fs' : List Int), H5 pw = some (.lst us') → H5 pf = some (.lst (List.map V.int fs')) → Same H H5 → All2 (fun v w => TV H5 v w.2.1) us' ws' → fs' = fs ++ own → own.length ≤ 1 → (∀ ds rss, ownR j w.2.1 w.2.2 ds rss → w.2.2 = own ++ rss.flatten) →
            ∀ H6 pl usd ds rss, Same H5 H6 → H5 pl = none → H6 pl = some (.lst usd) → All2 (TV H6) usd ds → ownR j w.2.1 w.2.2 ds rss → ∃ xs, H6 pw = some (.lst xs) ∧ ∃ ys, H6 pl = some (.lst ys) ∧ xs.length + ys.length ≤ sizeLine ∧ ∃ m', m' < m ∧ ∃ (fs : List Int) (us : List V) (ws : List (Nat × PyData × List Int)) (v3 : Option V), ([some v, some (.ref pf), some (.ref pw), some x] : L2.St) = [some v, some (.ref pf), some (.ref pw), v3] ∧ Same H (upd H6 pw (.lst (xs ++ ys))) ∧ upd H6 pw (.lst (xs ++ ys)) pf = some (.lst (List.map V.int fs)) ∧ upd H6 pw (.lst (xs ++ ys)) pw = some (.lst us) ∧ All2 (fun v w => TV (upd H6 pw (.lst (xs ++ ys))) v w.2.1) us ws ∧ (∀ w ∈ ws, RV w.1 w.2.1 w.2.2) ∧ (∀ n, n ∈ rs ↔ n ∈ fs ∨ ∃ w ∈ ws, n ∈ w.2.2) ∧ fs.length + S3 ws ≤ 81 ∧ S3 ws ≤ m' := by
          intro H5 own fs' gw5 gf5 s5 hu5 hfs hown hrw H6 pl usd ds rss s6 n6 g6 hud hO
          have hrw' := hrw ds rss hO
          obtain ⟨ha, hl2, _⟩ := hO
          obtain ⟨zs, z1, z2, z3, z4⟩ := kidsW ha hud
          have gw6 := s6 _ _ gw5
          have hudl := hud.len
          have hm2 : usd.length * 3 ^ j ≤ 2 * 3 ^ j := Nat.mul_le_mul_right _ (by omega)
          have hu6 : All2 (fun v w => TV H6 v w.2.1) us' ws' := hu5.mono fun v w t => TV.mono s6 t
          refine ⟨us', gw6, usd, g6, Nat.le_trans (show us'.length + usd.length ≤ 200 by omega) (by decide), S3 (ws' ++ zs), ?_, fs', us' ++ usd, ws' ++ zs, _, rfl, same_upd2 (s5.trans s6) npw, (upd_ne ne).trans (s6 _ _ gf5), upd_same, ?_, ?_, ?_, ?_, Nat.le_refl _⟩
          · rw [S3_app, z4]; omega
          · exact All2.app (hu6.mono fun v w t => TV.upd gw6 t) (z1.mono fun v w t => TV.upd gw6 t)
          · intro y hy
            rcases List.mem_append.mp hy with z | z
            · exact hws y (List.mem_append.mpr (.inl z))
            · exact z2 y z
          · intro n
            rw [hrs, hfs]
            constructor
            · rintro (z | ⟨y, hy, hn⟩)
              · exact .inl (List.mem_append.mpr (.inl z))
              · rcases List.mem_append.mp hy with z | z
                · exact .inr ⟨y, List.mem_append.mpr (.inl z), hn⟩
                · rw [List.mem_singleton.mp z, hrw'] at hn
                  rcases List.mem_append.mp hn with h | h
                  · exact .inl (List.mem_append.mpr (.inr h))
                  · obtain ⟨y, hy, hn⟩ := (z3 n).mp h
                    exact .inr ⟨y, List.mem_append.mpr (.inr hy), hn⟩
            · rintro (z | ⟨y, hy, hn⟩)
              · rcases List.mem_append.mp z with h | h
                · exact .inl h
                · exact .inr ⟨w, List.mem_append.mpr (.inr (List.mem_singleton.mpr rfl)), by rw [hrw']; exact List.mem_append.mpr (.inl h)⟩
              · rcases List.mem_append.mp hy with z | z
                · exact .inr ⟨y, List.mem_append.mpr (.inl z), hn⟩
                · exact .inr ⟨w, List.mem_append.mpr (.inr (List.mem_singleton.mpr rfl)), by rw [hrw']; exact List.mem_append.mpr (.inr ((z3 n).mpr ⟨y, z, hn⟩))⟩
          · rw [S3_app, z4, hfs, List.length_append]; omega
        rcases hhead with ⟨n, hd1, hr1⟩ | ⟨wd, tl, hd1, hne⟩
        · rw [hd1] at tx4
          obtain ⟨px, ys, rfl, gp, tys⟩ := hd_tv tx4
          cases tys with
          | cons a b =>
            cases a
            cases b
            refine ⟨px, rfl, _, gp, _, atI_c0 _ _, rfl, (if_pos rfl).mpr ?_⟩
            refine ⟨⟨_, gpf4⟩, px, rfl, _, gp, _, atI_c1 _ _ _, _, gpf4, by rw [List.length_map]; exact cnt_lt (by omega), ?_⟩
            have gp5 := (TV.upd gpf4 (o := .lst (List.map V.int (fs ++ [n]))) tx4)
            have e5 : List.map V.int fs ++ [V.int n] = List.map V.int (fs ++ [n]) := by rw [List.map_append]; rfl
            rw [e5]
            have gw5 : upd (upd H3 pw (.lst us')) pf (.lst (List.map V.int (fs ++ [n]))) pw = some (.lst us') := (upd_ne (Ne.symm ne)).trans gpw4
            refine ⟨⟨_, gw5⟩, j, _, gp5, w.2.2, by rw [← hd1]; exact rj, ?_⟩
            have hF := fin _ [n] (fs ++ [n]) gw5 (upd_same) (same_upd2 s4 n1) (hu4.mono fun v w t => TV.upd gpf4 t) rfl (by simp) (fun ds rss hO => by
              obtain ⟨_, _, own, ho, h | ⟨n', h1, h2⟩⟩ := hO
              · obtain ⟨_, w', tl', h2, h3⟩ := h
                rw [hd1] at h2
                injection h2 with h2
                injection h2 with h2 _
                injection h2 with h2
                exact absurd h2.symm h3
              · rw [hd1] at h2
                injection h2 with h2
                injection h2 with _ h2
                injection h2 with h2 _
                injection h2 with h2
                rw [ho, h1, h2])
            rw [hd1] at hF
            intro H6 pl usd ds rss s6 n6 g6 hud hO
            exact hF H6 pl usd ds rss s6 n6 g6 hud hO
        · rw [hd1] at tx4
          obtain ⟨px, ys, rfl, gp, tys⟩ := hd_tv tx4
          have hne' : V.str wd ≠ V.str (Str.ofString "ref") := fun e => hne (V.str.inj e)
          refine ⟨px, rfl, _, gp, _, atI_c0 _ _, rfl, (if_neg hne').mpr ?_⟩
          refine ⟨j, _, tx4, w.2.2, by rw [← hd1]; exact rj, ?_⟩
          have hF := fin _ [] fs gpw4 gpf4 s4 hu4 (by simp) (by simp) (fun ds rss hO => by
            obtain ⟨_, _, own, ho, h | ⟨n', h1, h2⟩⟩ := hO
            · rw [ho, h.1]
            · rw [hd1] at h2
              injection h2 with h2
              injection h2 with h2 _
              injection h2 with h2
              exact absurd h2 hne)
          rw [hd1] at hF
          intro H6 pl usd ds rss s6 n6 g6 hud hO
          exact hF H6 pl usd ds rss s6 n6 g6 hud hO

mutual
theorem TV.put {H : Hp} {l : Addr} {o : HO} (g : ∀ xs, H l ≠ some (.tup xs)) {v : V} {d : PyData} : TV H v d → TV (upd H l o) v d
  | .non => .non
  | .int i => .int i
  | .str x => .str x
  | .tup (a := a) (xs := xs) k h => .tup (by
      by_cases e : a = l
      · exact absurd (e ▸ k) (g xs)
      · rw [upd_ne e]; exact k) (TVs.put g h)
theorem TVs.put {H : Hp} {l : Addr} {o : HO} (g : ∀ xs, H l ≠ some (.tup xs)) {vs : List V} {ds : List PyData} : TVs H vs ds → TVs (upd H l o) vs ds
  | .nil => .nil
  | .cons h t => .cons (TV.put g h) (TVs.put g t)
end
abbrev OB := Int × PyData × List Int
def obR (o : OB) : PyData := .tuple [.int o.1, o.2.1]
def BookR (H : Hp) (v : V) (os : List OB) (root : Int) : Prop := ∃ a p xs, v = .ref a ∧ H a = some (.tup [.ref p, .int root]) ∧ H p = some (.tup xs) ∧ TVs H xs (os.map obR) ∧ ∀ o ∈ os, RV 4 o.2.1 o.2.2
def AscR (os : List OB) : Prop := os.Pairwise fun a b => a.1 < b.1
inductive Rch (os : List OB) (root : Int) : Int → Prop
  | root : root ∈ os.map (·.1) → Rch os root root
  | step {n m : Int} {o : OB} : Rch os root n → o ∈ os → o.1 = n → m ∈ o.2.2 → m ∈ os.map (·.1) → Rch os root m
theorem Rch.key {os : List OB} {root n : Int} (h : Rch os root n) : n ∈ os.map (·.1) := by cases h <;> assumption
theorem obR_tv {H : Hp} {v : V} {o : OB} (t : TV H v (obR o)) : ∃ b y, v = .ref b ∧ H b = some (.tup [.int o.1, y]) ∧ TV H y o.2.1 := by
  unfold obR at t
  cases t with
  | tup g ts => cases ts with
    | cons a b => cases b with
      | cons c d => cases a; cases d; exact ⟨_, _, rfl, g, c⟩
/-- a dict of the objects -/
def Tab (H : Hp) (kvs : List (L2.Key × V)) (os : List OB) : Prop := All2 (fun kv o => kv.1 = Sum.inl o.1 ∧ TV H kv.2 o.2.1) kvs os
theorem tab_any {H : Hp} {kvs : List (L2.Key × V)} {os : List OB} (h : Tab H kvs os) {n : Int} (hn : ∀ o ∈ os, o.1 ≠ n) : (kvs.any fun kv => decide (kv.1 = Sum.inl n)) = false := by
  unfold Tab at h
  induction h with
  | nil => rfl
  | cons r _ ih =>
    rw [List.any_cons, ih fun o ho => hn o (List.mem_cons_of_mem _ ho), r.1, decide_eq_false (fun e => hn _ (List.mem_cons_self ..) (Sum.inl.inj e))]
    rfl
theorem tab_none {H : Hp} {kvs : List (L2.Key × V)} {os : List OB} (h : Tab H kvs os) {n : Int} (hn : n ∉ os.map (·.1)) : valV kvs (Sum.inl n) = none := by
  unfold Tab at h
  unfold valV
  induction h with
  | nil => rfl
  | cons r _ ih =>
    rename_i kv o kvs os _
    rw [List.map_cons, List.mem_cons, not_or] at hn
    rw [List.find?_cons_of_neg (by rw [r.1]; simp only [decide_eq_true_eq]; exact fun e => hn.1 (Sum.inl.inj e).symm)]
    exact ih hn.2
theorem tab_some {H : Hp} {kvs : List (L2.Key × V)} {os : List OB} (h : Tab H kvs os) {n : Int} (hn : n ∈ os.map (·.1)) : ∃ v o, valV kvs (Sum.inl n) = some v ∧ o ∈ os ∧ o.1 = n ∧ TV H v o.2.1 := by
  unfold Tab at h
  unfold valV
  induction h with
  | nil => simp at hn
  | cons r _ ih =>
    rename_i kv o kvs os _
    by_cases e : o.1 = n
    · exact ⟨kv.2, o, by rw [List.find?_cons_of_pos (by rw [r.1, e]; exact decide_eq_true rfl)]; rfl, List.mem_cons_self .., e, r.2⟩
    · rw [List.map_cons, List.mem_cons] at hn
      obtain ⟨v, o', h1, h2, h3, h4⟩ := ih (hn.resolve_left fun z => e z.symm)
      refine ⟨v, o', ?_, List.mem_cons_of_mem _ h2, h3, h4⟩
      rw [List.find?_cons_of_neg (by rw [r.1]; simp only [decide_eq_true_eq]; exact fun z => e (Sum.inl.inj z))]
      exact h1
theorem nodup_le {α : Type} [DecidableEq α] : ∀ {xs ys : List α}, xs.Nodup → (∀ x ∈ xs, x ∈ ys) → xs.length ≤ ys.length
  | [], _, _, _ => Nat.zero_le _
  | x :: xs, ys, hn, hs => by
    have hx := hs x (List.mem_cons_self ..)
    have h1 := List.nodup_cons.mp hn
    have := nodup_le (ys := ys.erase x) h1.2 fun y hy => (List.mem_erase_of_ne (fun e => h1.1 (by rw [← e]; exact hy))).mpr (hs y (List.mem_cons_of_mem _ hy))
    rw [List.length_erase_of_mem hx] at this
    have : 0 < ys.length := List.length_pos_of_mem hx
    rw [List.length_cons]
    omega
theorem asc_take {os : List OB} (h : AscR os) {i : Nat} {o o' : OB} (hi : os[i]? = some o) (ho : o' ∈ os.take i) : o'.1 < o.1 := by
  obtain ⟨j, hj, rfl⟩ := List.mem_take_iff_getElem.mp ho
  obtain ⟨li, rfl⟩ := List.getElem?_eq_some_iff.mp hi
  exact List.pairwise_iff_getElem.mp h j i (by omega) li (by omega)
theorem asc_eq {os : List OB} (h : AscR os) {o o' : OB} (ho : o ∈ os) (ho' : o' ∈ os) (e : o.1 = o'.1) : o = o' := by
  obtain ⟨i, hi, rfl⟩ := List.mem_iff_getElem.mp ho
  obtain ⟨j, hj, rfl⟩ := List.mem_iff_getElem.mp ho'
  rcases Nat.lt_trichotomy i j with z | z | z
  · have := List.pairwise_iff_getElem.mp h i j hi hj z; omega
  · subst z; rfl
  · have := List.pairwise_iff_getElem.mp h j i hj hi z; omega
/-- the state of the search -/
structure Rst (os : List OB) (root : Int) (rs us : List Int) : Prop where
  nd : rs.Nodup
  r : ∀ n ∈ rs, Rch os root n
  u : ∀ n ∈ us, n ∈ os.map (·.1) → Rch os root n
  root : root ∈ os.map (·.1) → root ∈ rs ∨ root ∈ us
  cl : ∀ n ∈ rs, ∀ o ∈ os, o.1 = n → ∀ m ∈ o.2.2, m ∈ os.map (·.1) → m ∈ rs ∨ m ∈ us
theorem Rst.le {os : List OB} {root : Int} {rs us : List Int} (h : Rst os root rs us) : rs.length ≤ os.length := by
  have := nodup_le (ys := os.map (·.1)) h.nd fun n hn => (h.r n hn).key
  rwa [List.length_map] at this
theorem Rst.fin {os : List OB} {root : Int} {rs : List Int} (h : Rst os root rs []) (n : Int) : n ∈ rs ↔ Rch os root n := by
  refine ⟨h.r n, fun hr => ?_⟩
  induction hr with
  | root hk => exact (h.root hk).resolve_right fun z => nomatch z
  | step _ ho e hm hk ih => exact (h.cl _ ih _ ho e _ hm hk).resolve_right fun z => nomatch z
theorem Rst.skip {os : List OB} {root n : Int} {rs us : List Int} (h : Rst os root rs (us ++ [n])) (hn : n ∉ os.map (·.1) ∨ n ∈ rs) : Rst os root rs us where
  nd := h.nd
  r := h.r
  u := fun m hm => h.u m (List.mem_append.mpr (.inl hm))
  root := fun hk => by
    rcases h.root hk with z | z
    · exact .inl z
    · rcases List.mem_append.mp z with z | z
      · exact .inr z
      · have e := List.mem_singleton.mp z
        exact .inl (hn.elim (fun w => absurd (e ▸ hk) w) fun w => by rw [e]; exact w)
  cl := fun m hm o ho e j hj hk => by
    rcases h.cl m hm o ho e j hj hk with z | z
    · exact .inl z
    · rcases List.mem_append.mp z with z | z
      · exact .inr z
      · have e := List.mem_singleton.mp z
        exact .inl (hn.elim (fun w => absurd (by rw [← e]; exact hk) w) fun w => by rw [e]; exact w)
theorem Rst.take {os : List OB} (ha : AscR os) {root n : Int} {rs us fs : List Int} (h : Rst os root rs (us ++ [n])) {o : OB} (ho : o ∈ os) (e : o.1 = n) (hr : n ∉ rs) (hf : ∀ m, m ∈ fs ↔ m ∈ o.2.2) : Rst os root (rs ++ [n]) (us ++ fs) := by
  have hk : n ∈ os.map (·.1) := List.mem_map.mpr ⟨o, ho, e⟩
  have hn : Rch os root n := h.u n (List.mem_append.mpr (.inr (List.mem_singleton.mpr rfl))) hk
  have mv : ∀ {m}, m ∈ rs ∨ m ∈ us ++ [n] → m ∈ rs ++ [n] ∨ m ∈ us ++ fs := fun {m} z => by
    rcases z with z | z
    · exact .inl (List.mem_append.mpr (.inl z))
    · rcases List.mem_append.mp z with z | z
      · exact .inr (List.mem_append.mpr (.inl z))
      · exact .inl (List.mem_append.mpr (.inr z))
  refine ⟨?_, fun m hm => ?_, fun m hm hk' => ?_, fun hk' => mv (h.root hk'), fun m hm o' ho' e' j hj hk' => ?_⟩
  · rw [List.nodup_append]
    exact ⟨h.nd, by simp, fun a ha b hb => by rw [List.mem_singleton.mp hb]; exact fun z => hr (z ▸ ha)⟩
  · rcases List.mem_append.mp hm with z | z
    · exact h.r m z
    · rw [List.mem_singleton.mp z]; exact hn
  · rcases List.mem_append.mp hm with z | z
    · exact h.u m (List.mem_append.mpr (.inl z)) hk'
    · exact .step hn ho e ((hf m).mp z) hk'
  · rcases List.mem_append.mp hm with z | z
    · exact mv (h.cl m z o' ho' e' j hj hk')
    · have e2 : o' = o := asc_eq ha ho' ho (by rw [e', e]; exact List.mem_singleton.mp z)
      rw [e2] at hj
      exact .inr (List.mem_append.mpr (.inr ((hf j).mpr hj)))
theorem val_rs {rs : List Int} {n : Int} : (valV (rs.map fun n => ((Sum.inl n : L2.Key), V.bl true)) (Sum.inl n)).isSome = decide (n ∈ rs) := by
  unfold valV
  induction rs with
  | nil => rfl
  | cons r rs ih =>
    rw [List.map_cons]
    by_cases e : r = n
    · rw [List.find?_cons_of_pos (by rw [e]; exact decide_eq_true rfl), decide_eq_true (by rw [e]; exact List.mem_cons_self ..)]
      rfl
    · rw [List.find?_cons_of_neg (by simp only [decide_eq_true_eq]; exact fun z => e (Sum.inl.inj z)), ih]
      exact decide_eq_decide.mpr ⟨fun z => List.mem_cons_of_mem _ z, fun z => (List.mem_cons.mp z).resolve_left fun w => e w.symm⟩
theorem put_rs {rs : List Int} {n : Int} (h : n ∉ rs) : putK (rs.map fun n => ((Sum.inl n : L2.Key), V.bl true)) (Sum.inl n) (V.bl true) = (rs ++ [n]).map fun n => ((Sum.inl n : L2.Key), V.bl true) := by
  unfold putK
  rw [if_neg, List.map_append]
  · rfl
  · rw [List.any_eq_true]
    rintro ⟨kv, hm, e⟩
    obtain ⟨m, hm', he⟩ := List.mem_map.mp hm
    have e1 : kv.1 = Sum.inl n := of_decide_eq_true e
    rw [← he] at e1
    exact h (Sum.inl.inj e1 ▸ hm')
def sp_reach (K : PySem.W.Frag) : Sp := fun vs H Q _ => ∃ (v : V) (os : List OB) (root : Int), vs = [v] ∧ (BookR H v os root) ∧ (AscR os) ∧ (os.length ≤ 12) ∧ (∀ H' p ns, Same H H' → H p = none → H' p = some (.lst (List.map V.int ns)) → ns.Pairwise (· ≤ ·) → ns.Nodup → (∀ n, n ∈ ns ↔ Rch os root n) → Q (.ref p) H')
theorem ok_reach (T : Txt K mg) : FnOk P w K mg base CX0 3 T.f_reach T.fd_reach ["book"] (sp_reach K) := by
  refine T.F_reach.ok sc_reach (fun vs H Q E h => ?_) (fun cdv A outer s H vs Q E hr h => ?_)
  · obtain ⟨v, os, root, rfl, _⟩ := h
    rfl
  · obtain ⟨v, os, root, rfl, hb, ha, hl, q⟩ := h
    refine ⟨_, (pss_cons (ps_asg (pv 0) (pg_tupS (n := 2) (by rfl) (pgs_cons (pg_name (i := 1) sc_reach.nd rfl (Or.inl rfl)) (pgs_cons (pg_name (i := 2) sc_reach.nd rfl (Or.inl rfl)) pgs_nil))))
      (pss_cons (ps_setDc (i := 3) (own := [("number", 4), ("value", 5)]) (g := _) rfl sc_reach.nd rfl rfl (sw_trueD rfl rfl rfl (by decide +kernel)) (pi_tupS (pv 1)) (blkOk_by (own := [("number", 4), ("value", 5)]) (N := ["book", "objects", "root", "table", "number", "value", "reached", "waiting"]) (sc := defScope s_reach) (by decide +kernel)) (fun _ _ _ _ _ => (pg_tupS (n := 2) (by rfl) (pgs_cons (pg_name (i := 4) sc_reach.nd rfl (Or.inl rfl)) (pgs_cons (pg_name (i := 5) sc_reach.nd rfl (Or.inl rfl)) pgs_nil)))) (fun _ _ _ _ _ => pts_nil) (fun _ _ _ _ _ => (pv 4)) (fun _ _ _ _ _ => (pv 5)))
      (pss_cons (ps_set (i := 6) sc_reach.nd rfl (Or.inl rfl) pe_dnewK)
      (pss_cons (ps_set (i := 7) sc_reach.nd rfl (Or.inl rfl) (pe_lstS (pa_cons (pv 2) pa_nil)))
      (pss_cons (ps_while PassesOwn.never (pt_truthL (pv 7) (by intro _; rfl)) (pss_cons (ps_set (i := 4) sc_reach.nd rfl (Or.inl rfl) (pe_ml0 (pe_bm0 PySem.F.plainAttrs_list PySem.F.slot_list_pop PySem.F.type_list_pop mt_pop (pe_mono (pv 7)))))
      (pss_one (ps_if (PW.pt (pw_and (pt_cmp (pc_din (hu_of hr) (pv 4) (pv 3))) (pw_and1 (pt_cmp (pc_dnotin (hu_of hr) (pv 4) (pv 6)))))) (pss_cons (ps_dput (hu_of hr) (pv 6) (pv 4) pe_bl rfl)
      (pss_one (ps_expr (pe_ml (pe_bm PySem.F.plainAttrs_list PySem.F.slot_list_extend PySem.F.type_list_extend mt_extend (pe_mono (pv 7)) (pa_cons (pe_call (ok__references T) hr (by rfl) T.g__references T.F__references.kp T.b__references .nil pass0 (pa_cons (pe_dget (hu_of hr) (pv 3) (pv 4) (fun _ _ => rfl)) pa_nil)) pa_nil)))))) pss_nil))))
      (pss_one (ps_ret (pe_callB (call_sortedDI rfl) (by rfl) T.z_sorted (by decide +kernel) (pa_cons (pv 6) pa_nil))))))))), ?_⟩
    obtain ⟨a, p, xs, rfl, ga, gp, ht, ho⟩ := hb
    walk_at "vc ga gp tDNewK"
    refine dcW (walkT (xs := xs)) (fun D i H' => Same H H' ∧ ∃ kvs, H' D = some (.dK kvs) ∧ Tab H' kvs (os.take i) ∧ kvs.length = i) (fun D H' s n g => ⟨s, [], g, .nil, rfl⟩) (fun D i H' _ _ h => h.1 _ _ gp) ?_ ?_
    · rintro D i y H1 H2 hi hD ⟨s1, kvs, gD, hT, hkl⟩ ⟨rfl, hy⟩
      obtain ⟨d, hd, td⟩ := (ht.mono s1).all.at hy
      rw [List.getElem?_map] at hd
      obtain ⟨o, hoi, rfl⟩ := Option.map_eq_some_iff.mp hd
      obtain ⟨b, y2, rfl, gb, ty⟩ := obR_tv td
      have hil := (List.getElem?_eq_some_iff.mp hoi).1
      walk_at "vc gb"
      have hput : putK kvs (Sum.inl o.1) y2 = kvs ++ [(Sum.inl o.1, y2)] := by
        unfold putK
        rw [tab_any hT fun o' ho' => by have := asc_take ha hoi ho'; omega, if_neg (by decide)]
      have gnt : ∀ xs, H2 D ≠ some (.tup xs) := fun xs z => by rw [gD] at z; cases z
      refine ⟨kvs, Sum.inl o.1, rfl, gD, cnt_lt (by omega), same_upd2 s1 hD, _, rfl, ?_, ?_⟩
      · rw [hput, take_succ hoi]
        exact All2.snoc (All2.mono (S := fun kv o => kv.1 = Sum.inl o.1 ∧ TV _ kv.2 o.2.1) hT fun kv o h => ⟨h.1, TV.put gnt h.2⟩) ⟨rfl, TV.put gnt ty⟩
      · rw [hput, List.length_append, hkl]; rfl
    · rintro D H1 hD ⟨s1, kvs, gD, hT, hkl⟩
      have hxl := ht.all.len
      rw [List.length_map] at hxl
      rw [hxl, List.take_length] at hT
      intro pr npr pw H3 s3 nw gw
      have gr3 : H3 pr = some (.dK []) := s3 _ _ upd_same
      have nerw : pr ≠ pw := ne_of_none upd_same nw
      have s13 : Same H1 H3 := (same_upd npr).trans s3
      have nwH : H1 pw = none := by rwa [upd_ne (Ne.symm nerw)] at nw
      have neD : D ≠ pr := ne_of_none gD npr
      have neDw : D ≠ pw := ne_of_none gD nwH
      refine wh_by (fun m σ H' => ∃ (rs us : List Int) (v4 : Option V), σ = [some (.ref a), some (.ref p), some (.int root), some (.ref D), v4, none, some (.ref pr), some (.ref pw)] ∧ Same H1 H' ∧ H' pr = some (.dK (rs.map fun n => ((Sum.inl n : L2.Key), V.bl true))) ∧ H' pw = some (.lst (List.map V.int us)) ∧ Rst os root rs us ∧ us.length + 82 * (os.length - rs.length) ≤ m ∧ m ≤ 985) (1 + 82 * os.length) ⟨[], [root], none, rfl, s13, gr3, gw, ⟨List.nodup_nil, (fun _ z => nomatch z), fun n hn hk => ?_, fun _ => .inr (List.mem_singleton.mpr rfl), (fun _ z => nomatch z)⟩, ?_, by omega⟩ ?_
      · obtain rfl := List.mem_singleton.mp hn
        exact .root hk
      · simp
      rintro m σ H4 ⟨rs, us, v4, rfl, s4, gr, gw4, hR, hm, hm9⟩
      walk_at "vc gw4 gr sp__references"
      have hrl := hR.le
      rcases List.eq_nil_or_concat us with rfl | ⟨us', n, rfl⟩
      · refine (if_neg (show ¬ 0 < ([] : List Int).length by decide)).mpr ?_
        refine ⟨_, .inl gr, rs, by rw [List.map_map]; rfl, by omega, fun ys p9 hp hs n9 => ?_⟩
        have s14 := s1.trans s4
        exact q _ p9 ys (s14.trans (same_upd n9)) (s14.free n9) upd_same hs (hp.nodup_iff.mpr hR.nd) fun n => by rw [hp.mem_iff]; exact hR.fin n
      · rw [List.concat_eq_append] at gw4 hR hm ⊢
        have hul : (us' ++ [n]).length = us'.length + 1 := by rw [List.length_append]; rfl
        rw [hul] at hm
        refine (if_pos (show 0 < (us' ++ [n]).length by omega)).mpr ?_
        refine ⟨fun σ' H' => ∃ m', m' < m ∧ ∃ (rs us : List Int) (v4 : Option V), σ' = [some (.ref a), some (.ref p), some (.int root), some (.ref D), v4, none, some (.ref pr), some (.ref pw)] ∧ Same H1 H' ∧ H' pr = some (.dK (rs.map fun n => ((Sum.inl n : L2.Key), V.bl true))) ∧ H' pw = some (.lst (List.map V.int us)) ∧ Rst os root rs us ∧ us.length + 82 * (os.length - rs.length) ≤ m' ∧ m' ≤ 985, ?_, ?_⟩
        · rintro σ' H' ⟨m', k0, rs, us, v4, rfl, k1, k2, k3, k4, k5, k6⟩
          exact ⟨m', k0, ⟨_, rfl⟩, k1, rs, k2, us, k3, k4, k5, k6⟩
        have hdl : (List.map V.int (us' ++ [n])).dropLast = List.map V.int us' := by rw [← List.map_dropLast]; simp
        rw [hdl]
        have s15 : Same H1 (upd H4 pw (.lst (List.map V.int us'))) := same_upd2 s4 nwH
        have gD5 := s15 _ _ gD
        have gr5 : upd H4 pw (.lst (List.map V.int us')) pr = _ := (upd_ne nerw).trans gr
        have gw5 : upd H4 pw (.lst (List.map V.int us')) pw = _ := upd_same
        refine ⟨.int n, by rw [List.getElem?_map, List.length_append]; simp, _, DGet.k (k := Sum.inl n) gD5, ?_⟩
        have skip : (n ∉ os.map (·.1) ∨ n ∈ rs) → ∃ m', m' < m ∧ ∃ (rs us : List Int) (v4' : Option V), ([some (.ref a), some (.ref p), some (.int root), some (.ref D), some (.int n), none, some (.ref pr), some (.ref pw)] : L2.St) = [some (.ref a), some (.ref p), some (.int root), some (.ref D), v4', none, some (.ref pr), some (.ref pw)] ∧ Same H1 (upd H4 pw (.lst (List.map V.int us'))) ∧ upd H4 pw (.lst (List.map V.int us')) pr = some (.dK (rs.map fun n => ((Sum.inl n : L2.Key), V.bl true))) ∧ upd H4 pw (.lst (List.map V.int us')) pw = some (.lst (List.map V.int us)) ∧ Rst os root rs us ∧ us.length + 82 * (os.length - rs.length) ≤ m' ∧ m' ≤ 985 := fun h => ⟨us'.length + 82 * (os.length - rs.length), by omega, rs, us', _, rfl, s15, gr5, gw5, hR.skip h, Nat.le_refl _, by omega⟩
        by_cases hk : n ∈ os.map (·.1)
        · obtain ⟨x, o, hv, hom, hon, tx⟩ := tab_some hT hk
          rw [hv]
          refine (if_pos rfl).mpr ⟨_, DGet.k (k := Sum.inl n) gr5, ?_⟩
          rw [val_rs]
          by_cases hin : n ∈ rs
          · rw [decide_eq_true hin]
            exact (if_neg (by decide)).mpr (skip (.inr hin))
          · rw [decide_eq_false hin]
            have hlen : rs.length + 1 ≤ os.length := by
              have := (hR.take ha hom hon hin (fs := o.2.2) fun _ => Iff.rfl).le
              rwa [List.length_append] at this
            have hput := put_rs hin
            refine (if_pos rfl).mpr ⟨_, .inl ⟨_, Sum.inl n, gr5, rfl, by rw [List.length_map]; exact cnt_lt (by omega), rfl⟩, ?_⟩
            rw [hput]
            have s16 : Same H1 (upd (upd H4 pw (.lst (List.map V.int us'))) pr (.dK ((rs ++ [n]).map fun n => ((Sum.inl n : L2.Key), V.bl true)))) := same_upd2 s15 npr
            have gw6 := (upd_ne (H := upd H4 pw (.lst (List.map V.int us'))) (o := .dK ((rs ++ [n]).map fun n => ((Sum.inl n : L2.Key), V.bl true))) (Ne.symm nerw)).trans gw5
            refine ⟨⟨_, gw6⟩, x, ?_, 4, o.2.1, tx.mono s16, o.2.2, ho o hom, by decide, fun H7 pf fs s7 n7 g7 hf hfl => ?_⟩
            · rw [← hv]
              exact DGet.k (k := Sum.inl n) (s16 _ _ gD)
            · have gw7 := s7 _ _ gw6
              refine ⟨_, gw7, _, g7, Nat.le_trans (show (List.map V.int us').length + (List.map V.int fs).length ≤ 2000 by rw [List.length_map, List.length_map]; omega) (by decide), us'.length + fs.length + 82 * (os.length - (rs.length + 1)), by omega, rs ++ [n], us' ++ fs, _, rfl, same_upd2 (s16.trans s7) nwH, (upd_ne nerw).trans (s7 _ _ upd_same), by rw [← List.map_append]; exact upd_same, hR.take ha hom hon hin hf, ?_, by omega⟩
              rw [List.length_append, List.length_append]
              exact Nat.le_refl _
        · rw [tab_none hT hk]
          exact (if_neg (by decide)).mpr (skip (.inl hk))

def sp__law_cell (K : PySem.W.Frag) (a : Addr) (ns : List Int) : Sp := fun vs H Q _ => ∃ (k : Int), vs = [.ref a, .int k] ∧ (0 ≤ k) ∧ (SqL K H a (List.map V.int ns)) ∧ (Q (.int (cellA ns k.toNat)) H)
theorem ok__law_cell (T : Txt K mg) (a : Addr) (ns : List Int) : FnOk P w K mg base CX0 1 T.f__law_cell T.fd__law_cell ["script", "k"] (sp__law_cell K a ns) := by
  refine T.F__law_cell.ok sc__law_cell (fun vs H Q E h => ?_) (fun cdv A outer s H vs Q E hr h => ?_)
  · obtain ⟨k, rfl, _⟩ := h
    rfl
  · obtain ⟨k, rfl, hk0, hS, q⟩ := h
    refine ⟨_, (pss_cons (ps_if (pt_cmpR op_lt (pv 1) (pe_callB call_len_seq (by rfl) T.z_len PySem.boot_len (pa_cons (pv 0) pa_nil)) (nomark _)) (pss_one (ps_ret (pe_callTy call_int1 (by rfl) T.z_int (by decide +kernel) (pa_cons (pe_ix ix_list (pv 0) (pv 1) (fun _ _ => rfl)) pa_nil)))) pss_nil)
      (pss_one (ps_ret pe_int))), ?_⟩
    obtain ⟨k, rfl⟩ := natOf hk0
    rw [Int.toNat_natCast] at q
    refine ⟨_, rfl, _, rfl, a, _, rfl, .inl hS, _, _, rfl, rfl, _, rfl, ite2 (fun e => ?_) (fun e => ?_)⟩
    · have e1 := of_decide_eq_true e
      rw [List.length_map] at e1
      have hk : k < ns.length := by omega
      refine ⟨_, rfl, _, rfl, a, _, _, .int (cellA ns k), rfl, rfl, hS, ?_, .inl ⟨_, rfl, q⟩⟩
      refine atI_nat ?_
      rw [List.getElem?_map, List.getElem?_eq_getElem hk]
      simp [cellA, hk]
    · have e1 : ¬ ((k : Int) < ((ns.map V.int).length : Int)) := fun z => e (decide_eq_true z)
      rw [List.length_map] at e1
      have hk : ns.length ≤ k := by omega
      have e0 : cellA ns k = 0 := by simp [cellA, hk]
      rw [e0] at q
      exact q

def tw (c k : Int) : Int :=
  let x := (c * 48271 + k * 69621 + 7) % 2147483647
  let y := (x * x + k * 40692 + 3) % 2147483629
  let z := (y * y + k * 30269 + 5) % 2147483587
  z / 64
theorem tw_nn (c k : Int) : 0 ≤ tw c k := by
  unfold tw
  exact Int.ediv_nonneg (Int.emod_nonneg _ (by decide)) (by decide)
theorem tw_lt (c k : Int) : tw c k < 33554432 := by
  unfold tw
  have := Int.emod_lt_of_pos ((((c * 48271 + k * 69621 + 7) % 2147483647 * ((c * 48271 + k * 69621 + 7) % 2147483647) + k * 40692 + 3) % 2147483629) * (((c * 48271 + k * 69621 + 7) % 2147483647 * ((c * 48271 + k * 69621 + 7) % 2147483647) + k * 40692 + 3) % 2147483629) + k * 30269 + 5) (show (0 : Int) < 2147483587 by decide)
  simp only
  omega
def sp__law_twice (K : PySem.W.Frag) : Sp := fun vs H Q _ => ∃ (c k : Int), vs = [.int c, .int k] ∧ (Q (.int (tw c k)) H)
theorem ok__law_twice (T : Txt K mg) : FnOk P w K mg base CX0 1 T.f__law_twice T.fd__law_twice ["cell", "k"] (sp__law_twice K) := by
  refine T.F__law_twice.ok sc__law_twice (fun vs H Q E h => ?_) (fun cdv A outer s H vs Q E hr h => ?_)
  · obtain ⟨c, k, rfl, _⟩ := h
    rfl
  · obtain ⟨c, k, rfl, q⟩ := h
    refine ⟨_, (pss_cons (ps_set (i := 2) sc__law_twice.nd rfl (Or.inl rfl) (pe_op op_mod (pe_callTy call_int1 (by rfl) T.z_int (by decide +kernel) (pa_cons (pe_op op_add (pe_op op_add (pe_op op_mul (pv 0) pe_int) (pe_op op_mul (pv 1) pe_int)) pe_int) pa_nil)) pe_int))
      (pss_cons (ps_set (i := 2) sc__law_twice.nd rfl (Or.inl rfl) (pe_op op_mod (pe_callTy call_int1 (by rfl) T.z_int (by decide +kernel) (pa_cons (pe_op op_add (pe_op op_add (pe_op op_mul (pv 2) (pv 2)) (pe_op op_mul (pv 1) pe_int)) pe_int) pa_nil)) pe_int))
      (pss_cons (ps_set (i := 2) sc__law_twice.nd rfl (Or.inl rfl) (pe_op op_mod (pe_callTy call_int1 (by rfl) T.z_int (by decide +kernel) (pa_cons (pe_op op_add (pe_op op_add (pe_op op_mul (pv 2) (pv 2)) (pe_op op_mul (pv 1) pe_int)) pe_int) pa_nil)) pe_int))
      (pss_one (ps_ret (pe_op op_fdiv (pv 2) pe_int)))))), ?_⟩
    walk_at "vc"
    have b1 := mod_in (c * 48271 + k * 69621 + 7) (show (0 : Int) < 2147483647 by decide)
    have b2 := mod_in ((c * 48271 + k * 69621 + 7) % 2147483647 * ((c * 48271 + k * 69621 + 7) % 2147483647) + k * 40692 + 3) (show (0 : Int) < 2147483629 by decide)
    exact ⟨.inl ⟨by omega, by omega⟩, .inl ⟨by omega, by omega⟩, q⟩

def sp__law_integer (K : PySem.W.Frag) : Sp := fun vs H Q _ => ∃ (i : Int), vs = [.int i] ∧ (Q (.bl true) H)
theorem ok__law_integer (T : Txt K mg) : FnOk P w K mg base CX0 1 T.f__law_integer T.fd__law_integer ["value"] (sp__law_integer K) := by
  refine T.F__law_integer.ok sc__law_integer (fun vs H Q E h => ?_) (fun cdv A outer s H vs Q E hr h => ?_)
  · obtain ⟨i, rfl, _⟩ := h
    rfl
  · obtain ⟨i, rfl, q⟩ := h
    refine ⟨_, (pss_one (ps_ret (pe_and (pe_callB call_isiB (by rfl) T.z_isinstance (by decide +kernel) (pa_cons (pv 0) (pa_cons (pe_bltn (v := .ty "int") (u := .type "int") (by rfl) T.z_int (by decide +kernel) rfl) pa_nil))) (pe_one (pe_not (pe_callB call_isiB (by rfl) T.z_isinstance (by decide +kernel) (pa_cons (pv 0) (pa_cons (pe_bltn (v := .ty "bool") (u := .type "bool") (by rfl) T.z_bool (by decide +kernel) rfl) pa_nil)))))))), ?_⟩
    walk_at "vc"
    exact q
def sp__law_is_list (K : PySem.W.Frag) : Sp := fun vs H Q _ => ∃ (p b : Addr) (ns : List Int), vs = [.ref p, .ref b] ∧ (H p = some (.lst (List.map V.int ns))) ∧ (H b = some (.lst (List.map V.int ns))) ∧ (∀ H', Same H H' → Q (.bl true) H')
theorem ok__law_is_list (T : Txt K mg) : FnOk P w K mg base CX0 2 T.f__law_is_list T.fd__law_is_list ["found", "due"] (sp__law_is_list K) := by
  refine T.F__law_is_list.ok sc__law_is_list (fun vs H Q E h => ?_) (fun cdv A outer s H vs Q E hr h => ?_)
  · obtain ⟨p, b, ns, rfl, _⟩ := h
    rfl
  · obtain ⟨p, b, ns, rfl, hp, hb, q⟩ := h
    refine ⟨_, (pss_cons (ps_if (PW.pt (pw_or (pt_not (pt_val (pe_callB call_isiB (by rfl) T.z_isinstance (by decide +kernel) (pa_cons (pv 0) (pa_cons (pe_bltn (v := .ty "list") (u := .type "list") (by rfl) T.z_list (by decide +kernel) rfl) pa_nil))))) (pw_or1 (pt_cmpR op_ne (pe_callB call_lenH (by rfl) T.z_len PySem.boot_len (pa_cons (pv 0) pa_nil)) (pe_callB call_lenH (by rfl) T.z_len PySem.boot_len (pa_cons (pv 1) pa_nil)) (nomark _))))) (pss_one (ps_ret pe_bl)) pss_nil)
      (pss_cons (ps_for PassesOwn.never rfl (pi_zipS (by rfl) T.z_zip (pa_cons (pv 0) (pa_cons (pv 1) pa_nil))) (pg_tupS (n := 2) (by rfl) (pgs_cons (pg_name (i := 2) sc__law_is_list.nd rfl (Or.inl rfl)) (pgs_cons (pg_name (i := 3) sc__law_is_list.nd rfl (Or.inl rfl)) pgs_nil))) (pss_one (ps_if (PW.pt (pw_or (pt_not (pt_val (pe_call (ok__law_integer T) hr (by rfl) T.g__law_integer T.F__law_integer.kp T.b__law_integer .nil pass0 (pa_cons (pv 2) pa_nil)))) (pw_or1 (pt_cmpR op_ne (pv 2) (pv 3) (nomark _))))) (pss_one (ps_ret pe_bl)) pss_nil)))
      (pss_one (ps_ret pe_bl)))), ?_⟩
    walk_at "vc hp hb"
    refine lpW (walkZ (xs := List.map V.int ns) (ys := List.map V.int ns) (n := ns.length) (by rw [List.length_map, Nat.min_self])) (fun i σ H' => ∃ ov uv : Option V, σ = [some (.ref p), some (.ref b), ov, uv] ∧ Same H H') ⟨_, _, rfl, Same.refl _⟩ ?_ ?_ ?_
    · rintro i σ H' _ ⟨_, _, _, sm⟩
      exact ⟨sm _ _ hp, sm _ _ hb⟩
    · rintro i x σ H' H2 hi ⟨ov, uv, rfl, sm⟩ ⟨T, x1, x2, rfl, nT, rfl, hx1, hx2⟩
      have e : x1 = x2 := Option.some.inj (hx1.symm.trans hx2)
      subst e
      have hx1 : (List.map V.int ns)[i]? = some x1 := hx1
      rw [List.getElem?_map] at hx1
      obtain ⟨u, hu, rfl⟩ := Option.map_eq_some_iff.mp hx1
      have gT : upd H' T (.tup [.int u, .int u]) T = some (.tup [.int u, .int u]) := upd_same
      have s2 := sm.trans (same_upd nT (o := .tup [.int u, .int u]))
      generalize upd H' T (.tup [.int u, .int u]) = H2 at gT s2 ⊢
      walk_at "vc gT sp__law_integer"
      exact s2
    · rintro σ H' ⟨ov, uv, rfl, sm⟩
      walk_at "vc"
      exact q H' sm

theorem all2_of_map {α β γ : Type} {R : γ → β → Prop} {f : α → γ} : ∀ {xs : List α} {ys : List β}, All2 R (xs.map f) ys → All2 (fun x y => R (f x) y) xs ys
  | [], _, h => by cases h; exact .nil
  | _ :: _, _, h => by
    cases h with
    | cons a b => exact .cons a (all2_of_map b)
theorem fn_false {k : Nat} {f : Addr} {fd : FuncData} {ps : List Str} : FnOk P w K mg base CX0 k f fd ps (fun _ _ _ _ => False) := ⟨fun _ _ _ _ h => h.elim, fun _ _ _ _ _ _ _ _ _ _ _ _ _ h => h.elim⟩
theorem rv_leaf_ref (k : Nat) (n : Int) : RV (k + 1) (.tuple [.str sRef, .int n]) [n] := .inl ⟨n, rfl, rfl⟩
def spV (K : PySem.W.Frag) (d : Nat) : Sp := fun vs H Q _ => ∃ c k : Int, vs = [.int c, .int k, .int (d : Int)] ∧ d ≤ 3 ∧ ∀ H' v x rs, Same H H' → TV H' v x → RV (d + 1) x rs → Q v H'
theorem val_step (T : Txt K mg) (d : Nat) (sp' : Sp) (IH : FnOk P w K mg base CX0 (2 - 1 + d) T.f__law_value T.fd__law_value ["cell", "k", "deep"] sp') (hd : d = 0 ∨ ∃ e, d = e + 1 ∧ sp' = spV K e) :
    FnOk P w K mg base CX0 (2 - 1 + d + 1) T.f__law_value T.fd__law_value ["cell", "k", "deep"] (spV K d) := by
  refine T.F__law_value.ok sc__law_value (fun vs H Q E h => ?_) (fun cdv A outer s H vs Q E hr h => ?_)
  · obtain ⟨c, k, rfl, _⟩ := h
    rfl
  · obtain ⟨c, k, rfl, d3, q⟩ := h
    refine ⟨_, (pss_cons (ps_set (i := 3) sc__law_value.nd rfl (Or.inl rfl) (pe_call (ok__law_twice T) (hr.mono (by omega)) (by rfl) T.g__law_twice T.F__law_twice.kp T.b__law_twice .nil pass0 (pa_cons (pv 0) (pa_cons (pv 1) pa_nil))))
      (pss_cons (ps_set (i := 4) sc__law_value.nd rfl (Or.inl rfl) (pe_op op_fdiv (pv 3) pe_int))
      (pss_cons (ps_if (PW.pt (pw_or (pt_cmpR op_lt (pe_op op_mod (pv 3) pe_int) pe_int (nomark _)) (pw_or1 (pt_cmpR op_eq (pv 2) pe_int (nomark _))))) (pss_one (ps_ret (pe_ix ix_listH (pe_lstS (pa_cons (pe_tupS (pa_cons pe_str (pa_cons (pe_op op_add pe_int (pe_op op_mod (pv 4) pe_int)) pa_nil))) (pa_cons (pe_tupS (pa_cons pe_str (pa_cons (pe_op op_add pe_int (pe_op op_mod (pv 4) pe_int)) pa_nil))) (pa_cons (pe_tupS (pa_cons pe_str (pa_cons pe_int pa_nil))) pa_nil)))) (pe_op op_mod (pv 3) pe_int) (fun _ _ => rfl)))) pss_nil)
      (pss_cons (ps_set (i := 5) sc__law_value.nd rfl (Or.inr rfl) (pe_lc (own := [("j", 6)]) (g := (gName 6)) rfl sc__law_value.nd (pi_range1 (by rfl) T.z_range (pa_cons (pe_op op_mod (pv 4) pe_int) pa_nil)) (blkOk_by (own := [("j", 6)]) (N := ["cell", "k", "deep", "draw", "left", "items", "j", "pairs"]) (sc := defScope s__law_value) (by decide +kernel)) (fun _ _ _ _ _ => (pg_name (i := 6) sc__law_value.nd rfl (Or.inl rfl))) (fun _ _ _ _ _ => pts_nil) (fun _ _ _ _ _ => (pe_call IH hr (by rfl) T.g__law_value T.F__law_value.kp T.b__law_value .nil pass0 (pa_cons (pv 0) (pa_cons (pe_op op_add (pe_op op_add (pe_op op_mul pe_int (pv 1)) (pv 6)) pe_int) (pa_cons (pe_op op_sub (pv 2) pe_int) pa_nil)))))))
      (pss_cons (ps_if (pt_cmpR op_eq (pe_op op_mod (pv 3) pe_int) pe_int (nomark _)) (pss_one (ps_ret (pe_tupS (pa_cons pe_str (pa_cons (pe_callTy call_tupleL (by rfl) T.z_tuple (by decide +kernel) (pa_cons (pv 5) pa_nil)) pa_nil))))) pss_nil)
      (pss_cons (ps_set (i := 7) sc__law_value.nd rfl (Or.inl rfl) (pe_callTy call_tupleL (by rfl) T.z_tuple (by decide +kernel) (pa_cons (pe_lc (own := [("j", 6)]) (g := (gName 6)) rfl sc__law_value.nd (pi_range1 (by rfl) T.z_range (pa_cons (pe_callB call_lenH (by rfl) T.z_len PySem.boot_len (pa_cons (pv 5) pa_nil)) pa_nil)) (blkOk_by (own := [("j", 6)]) (N := ["cell", "k", "deep", "draw", "left", "items", "j", "pairs"]) (sc := defScope s__law_value) (by decide +kernel)) (fun _ _ _ _ _ => (pg_name (i := 6) sc__law_value.nd rfl (Or.inl rfl))) (fun _ _ _ _ _ => pts_nil) (fun _ _ _ _ _ => (pe_tupS (pa_cons (pe_tupS (pa_cons (pe_op op_add pe_int (pv 6)) pa_nil)) (pa_cons (pe_ix ix_listH (pv 5) (pv 6) (fun _ _ => rfl)) pa_nil))))) pa_nil)))
      (pss_cons (ps_if (pt_cmpR op_eq (pe_op op_mod (pv 3) pe_int) pe_int (nomark _)) (pss_one (ps_ret (pe_tupS (pa_cons pe_str (pa_cons (pv 7) pa_nil))))) pss_nil)
      (pss_one (ps_ret (pe_tupS (pa_cons pe_str (pa_cons (pv 7) (pa_cons (pe_tupS (pa_cons pe_int (pa_cons pe_int pa_nil))) pa_nil))))))))))))), ?_⟩
    have t0 := tw_nn c k
    refine seq_cut3 (fun σ H1 => σ = [some (.int c), some (.int k), some (.int (d : Int)), some (.int (tw c k)), some (.int (tw c k / 6)), none, none, none] ∧ H1 = H ∧ 3 ≤ tw c k % 6 ∧ d ≠ 0) ?_ (fun C hC => ?_)
    rotate_left
    · walk_at "vc sp__law_twice"
      have leaf : NewH H (HO.tup [V.str (Str.ofString "ref"), V.int (1 + tw c k / 6 % 15)]) fun p H' =>
          NewH H' (HO.tup [V.str (Str.ofString "ref"), V.int (1 + tw c k / 6 % 8)]) fun p_1 H' =>
          NewH H' (HO.tup [V.str (Str.ofString "int"), V.int 3]) fun p_2 H' =>
          NewH H' (HO.lst [V.ref p, V.ref p_1, V.ref p_2]) fun p H' =>
            ∃ x, H' p = some (HO.lst x) ∧ ∃ x_1, atI x (tw c k % 3) = some x_1 ∧ Q x_1 H' := by
        intro p1 H1 s1 n1 g1 p2 H2 s2 n2 g2 p3 H3 s3 n3 g3 p4 H4 s4 n4 g4
        refine ⟨_, g4, ?_⟩
        have st := s1.trans (s2.trans (s3.trans s4))
        rcases (show tw c k % 3 = 0 ∨ tw c k % 3 = 1 ∨ tw c k % 3 = 2 by omega) with e | e | e <;> rw [e]
        · exact ⟨_, rfl, q H4 _ (.tuple [.str sRef, .int (1 + tw c k / 6 % 15)]) _ st (.tup ((s2.trans (s3.trans s4)) _ _ g1) (.cons (.str _) (.cons (.int _) .nil))) (.inl ⟨_, rfl, rfl⟩)⟩
        · exact ⟨_, rfl, q H4 _ (.tuple [.str sRef, .int (1 + tw c k / 6 % 8)]) _ st (.tup ((s3.trans s4) _ _ g2) (.cons (.str _) (.cons (.int _) .nil))) (.inl ⟨_, rfl, rfl⟩)⟩
        · exact ⟨_, rfl, q H4 _ (.tuple [.str (Str.ofString "int"), .int 3]) _ st (.tup (s4 _ _ g3) (.cons (.str _) (.cons (.int _) .nil))) (.inr (.inl ⟨_, _, rfl, by decide +kernel, by decide +kernel, by decide +kernel, by decide +kernel, by decide +kernel, rfl⟩))⟩
      exact iteP (fun _ => leaf) (fun h1 => iteP (fun _ => leaf) (fun h2 => hC _ _ ⟨rfl, rfl, by omega, fun z => h2 (by rw [z]; rfl)⟩))
    rintro σ H1 ⟨rfl, rfl, h3, hd0⟩
    obtain ⟨e, rfl, rfl⟩ : ∃ e, d = e + 1 ∧ sp' = spV K e := hd.resolve_left hd0
    obtain ⟨N, hN⟩ := natOf (show 0 ≤ tw c k / 6 % 3 by omega)
    refine seq_cut (fun σ H2 => ∃ (pl : Addr) (us : List V) (ds : List PyData) (rss : List (List Int)), σ = [some (.int c), some (.int k), some (.int ((e + 1 : Nat) : Int)), some (.int (tw c k)), some (.int (tw c k / 6)), some (.ref pl), none, none] ∧ Same H1 H2 ∧ H2 pl = some (.lst us) ∧ All2 (TV H2) us ds ∧ All2 (RV (e + 1)) ds rss ∧ us.length = N) ?_ (fun C hC => ?_)
    rotate_left
    · walk_at "vc"
      rw [hN, Int.toNat_natCast]
      refine ⟨by omega, by omega, lcW (walkR (n := N)) (fun D i H' => Same H1 H' ∧ ∃ us ds rss, H' D = some (.lst us) ∧ All2 (TV H') us ds ∧ All2 (RV (e + 1)) ds rss ∧ us.length = i) (fun D H' s n g => ⟨s, [], [], [], g, .nil, .nil, rfl⟩) (fun _ _ _ _ _ _ => True.intro) (fun D i x H4 H5 hi hD p y => ?_) (fun D H4 hD p => ?_)⟩
      · obtain ⟨s4, us, ds, rss, gD, hu, hr2, hl⟩ := p
        obtain ⟨rfl, rfl⟩ := y
        walk_at "vc"
        refine ⟨_, _, by rw [show ((e : Int) + 1 - 1) = (e : Int) by omega], by omega, fun H6 v x rs s6 tv hrv => ⟨us, s6 _ _ gD, cnt_lt (by omega), same_upd2 (s4.trans s6) hD, ds ++ [x], ?_, ⟨rss ++ [rs], hr2.snoc hrv⟩, by omega⟩⟩
        exact ((hu.mono fun v d t => TV.mono s6 t).mono fun v d t => TV.upd (s6 _ _ gD) t).snoc (TV.upd (s6 _ _ gD) tv)
      · obtain ⟨s4, us, ds, rss, gD, hu, hr2, hl⟩ := p
        exact hC _ _ ⟨D, us, ds, rss, rfl, s4, gD, hu, hr2, hl⟩
    rintro σ H2 ⟨pl, us, ds, rss, rfl, s2, gl, hu, hr2, hul⟩
    have hdl := hu.len
    walk_at "vc gl"
    refine iteP (fun e3 p5 H5 s5 n5 g5 p6 H6 s6 n6 g6 => ?_) (fun e3 => ⟨by omega, by omega, ?_⟩)
    · have s56 := s5.trans s6
      exact q H6 _ (.tuple [.str sList, .tuple ds]) rss.flatten (s2.trans s56) (.tup g6 (.cons (.str _) (.cons (.tup (s6 _ _ g5) (TVs.of (hu.mono fun v d t => TV.mono s56 t))) .nil))) (.inr (.inr (.inl ⟨ds, rss, rfl, hr2, by omega, rfl⟩)))
    refine lcW (walkR (n := us.length)) (fun D i H' => Same H2 H' ∧ ∃ (ps : List (List Int × PyData)) (vs : List V), H' D = some (.lst vs) ∧ All2 (fun v p => TV H' v (prD p)) vs ps ∧ ps.map (·.2) = ds.take i ∧ vs.length = i) (fun D H' s n g => ⟨s, [], [], g, .nil, rfl, rfl⟩) (fun _ _ _ _ _ _ => True.intro) (fun D i x H4 H5 hi hD p y => ?_) (fun D H4 hD p => ?_)
    · obtain ⟨s4, ps, vs, gD, hv, hps, hvl⟩ := p
      obtain ⟨rfl, rfl⟩ := y
      have gl4 := s4 _ _ gl
      obtain ⟨u, hu1⟩ : ∃ u, us[i]? = some u := ⟨_, List.getElem?_eq_getElem hi⟩
      obtain ⟨dd, hd1, td⟩ := hu.at hu1
      walk_at "vc gl4"
      intro pa Ha sa na ga
      have gla := sa _ _ gl4
      refine ⟨_, gla, u, atI_nat hu1, fun pb Hb sb nb gb => ?_⟩
      have sab := sa.trans sb
      have gDb := sab _ _ gD
      refine ⟨vs, gDb, cnt_lt (by omega), same_upd2 (s4.trans sab) hD, ps ++ [([65 + (i : Int)], dd)], ?_, ?_, by omega⟩
      · refine ((hv.mono fun v p t => TV.mono sab t).mono fun v p t => TV.upd gDb t).snoc (TV.upd gDb ?_)
        exact .tup gb (.cons (.tup (sb _ _ ga) (.cons (.int _) .nil)) (.cons (td.mono (s4.trans sab)) .nil))
      · rw [List.map_append, hps, take_succ hd1]
        rfl
    · obtain ⟨s4, ps, vs, gD, hv, hps, hvl⟩ := p
      rw [hdl, List.take_length] at hps
      have hpl : ps.length = ds.length := by rw [← hps, List.length_map]
      have hra : All2 (fun p rs => RV (e + 1) p.2 rs) ps rss := all2_of_map (by rw [hps]; exact hr2)
      refine ⟨D, rfl, vs, gD, fun p5 H5 s5 n5 g5 => ?_⟩
      refine iteP (fun _ p6 H6 s6 n6 g6 => ?_) (fun _ p6 H6 s6 n6 g6 p7 H7 s7 n7 g7 => ?_)
      · have s56 := s5.trans s6
        exact q H6 _ (.tuple [.str sDict, .tuple (ps.map prD)]) rss.flatten (s2.trans (s4.trans s56)) (.tup g6 (.cons (.str _) (.cons (.tup (s6 _ _ g5) (TVs.of (all2_map (hv.mono fun v d t => TV.mono s56 t)))) .nil))) (.inr (.inr (.inr ⟨sDict, ps, [], rss, rfl, .inl rfl, hra, by omega, rfl⟩)))
      · have s57 := s5.trans (s6.trans s7)
        exact q H7 _ (.tuple [.str sStream, .tuple (ps.map prD), .tuple [.int 1, .int 2]]) rss.flatten (s2.trans (s4.trans s57)) (.tup g7 (.cons (.str _) (.cons (.tup ((s6.trans s7) _ _ g5) (TVs.of (all2_map (hv.mono fun v d t => TV.mono s57 t)))) (.cons (.tup (s7 _ _ g6) (.cons (.int _) (.cons (.int _) .nil))) .nil)))) (.inr (.inr (.inr ⟨sStream, ps, [.tuple [.int 1, .int 2]], rss, rfl, .inr rfl, hra, by omega, rfl⟩)))
theorem ok__law_value (T : Txt K mg) : ∀ d : Nat, FnOk P w K mg base CX0 (2 + d) T.f__law_value T.fd__law_value ["cell", "k", "deep"] (spV K d)
  | 0 => val_step T 0 _ fn_false (.inl rfl)
  | d + 1 => by
    have ih := ok__law_value T d
    rw [show 2 + d = 2 - 1 + (d + 1) by omega] at ih
    have := val_step T (d + 1) _ ih (.inr ⟨d, rfl, rfl⟩)
    rw [show 2 - 1 + (d + 1) + 1 = 2 + (d + 1) by omega] at this
    exact this
theorem RV_len : ∀ {k : Nat} {d : PyData} {rs : List Int}, RV k d rs → rs.length ≤ 3 ^ k
  | 0, _, _, h => h.elim
  | k + 1, d, rs, h => by
    have p3 : 3 ^ (k + 1) = 3 * 3 ^ k := by rw [Nat.pow_succ]; omega
    have p1 : 1 ≤ 3 ^ k := Nat.one_le_pow _ _ (by decide)
    have fl : ∀ {α : Type} {xs : List α} {g : α → PyData} {rss : List (List Int)}, All2 (fun x rs => RV k (g x) rs) xs rss → rss.flatten.length ≤ xs.length * 3 ^ k := fun {α xs g rss} h => by
      induction h with
      | nil => simp
      | cons r _ ih =>
        have := RV_len r
        rw [List.flatten_cons, List.length_append, List.length_cons, Nat.succ_mul]
        omega
    rcases h with ⟨n, e, rfl⟩ | ⟨w, tl, e, _, _, _, _, _, rfl⟩ | ⟨ds, rss, e, ha, hl, rfl⟩ | ⟨w, ps, tl, rss, e, hw, ha, hl, rfl⟩
    · simp only [List.length_cons, List.length_nil]; omega
    · simp
    · have := fl (g := fun x => x) ha
      have : ds.length * 3 ^ k ≤ 2 * 3 ^ k := Nat.mul_le_mul_right _ hl
      omega
    · have := fl (g := fun p : List Int × PyData => p.2) ha
      have : ps.length * 3 ^ k ≤ 2 * 3 ^ k := Nat.mul_le_mul_right _ hl
      omega
theorem noDict {H' : Hp} {pt : Addr} {A B : Prop} (w : Str) (hok : PyData.strOk w = true) (h2 : w ≠ sDict) (h3 : w ≠ sStream) (gt : H' pt = some (HO.tup [V.str sDict, V.str sStream])) (b : B) : ∃ a, StrV H' (V.str w) a ∧ ∃ x, TupV StrV H' (V.ref pt) x ∧ if a ∈ x then A else B := by
  refine ⟨⟨w, hok⟩, rfl, [okDict, okStream], ⟨pt, _, rfl, gt, strs_all [okDict, okStream]⟩, ?_⟩
  have hme : ¬ (⟨w, hok⟩ : OkS) ∈ [okDict, okStream] := fun z => by
    rcases List.mem_cons.mp z with e | e
    · exact h2 (congrArg Subtype.val e)
    · exact h3 (congrArg Subtype.val (List.mem_singleton.mp e))
  exact (if_neg hme).mpr b
theorem yesDict {H' : Hp} {pt : Addr} {A B : Prop} (w : Str) (hok : PyData.strOk w = true) (hw : w = sDict ∨ w = sStream) (gt : H' pt = some (HO.tup [V.str sDict, V.str sStream])) (b : A) : ∃ a, StrV H' (V.str w) a ∧ ∃ x, TupV StrV H' (V.ref pt) x ∧ if a ∈ x then A else B := by
  refine ⟨⟨w, hok⟩, rfl, [okDict, okStream], ⟨pt, _, rfl, gt, strs_all [okDict, okStream]⟩, ?_⟩
  have hme : (⟨w, hok⟩ : OkS) ∈ [okDict, okStream] := by
    rcases hw with e | e
    · exact List.mem_cons.mpr (.inl (Subtype.ext e))
    · exact List.mem_cons_of_mem _ (List.mem_singleton.mpr (Subtype.ext e))
  exact (if_pos hme).mpr b
theorem flat_take {rss : List (List Int)} {i : Nat} {r : List Int} (h : rss[i]? = some r) : (rss.take (i + 1)).flatten = (rss.take i).flatten ++ r ∧ (rss.take i).flatten.length + r.length ≤ rss.flatten.length := by
  have e : (rss.take (i + 1)).flatten = (rss.take i).flatten ++ r := by rw [take_succ h, List.flatten_append]; simp
  refine ⟨e, ?_⟩
  have h2 : rss.flatten = (rss.take (i + 1)).flatten ++ (rss.drop (i + 1)).flatten := by rw [← List.flatten_append, List.take_append_drop]
  rw [h2, e, List.length_append, List.length_append]
  omega
def spR (d : Nat) : Sp := fun vs H Q _ => ∃ v dd rs, vs = [v] ∧ d ≤ 4 ∧ TV H v dd ∧ RV d dd rs ∧ ∀ H' p, Same H H' → H p = none → H' p = some (.lst (List.map V.int rs)) → Q (.ref p) H'
theorem ref_step (T : Txt K mg) (d : Nat) (IH : FnOk P w K mg base CX0 (1 + d) T.f__law_refers T.fd__law_refers ["value"] (spR d)) :
    FnOk P w K mg base CX0 (1 + d + 1) T.f__law_refers T.fd__law_refers ["value"] (spR (d + 1)) := by
  refine T.F__law_refers.ok sc__law_refers (fun vs H Q E h => ?_) (fun cdv A outer s H vs Q E hr h => ?_)
  · obtain ⟨v, dd, rs, rfl, _⟩ := h
    rfl
  · obtain ⟨v, dd, rs, rfl, d4, tv, hrv, q⟩ := h
    refine ⟨_, (pss_cons (ps_if (pt_cmpR op_eq (pe_ix ix_tupH (pv 0) pe_int (fun _ _ => rfl)) pe_str (nomark _)) (pss_one (ps_ret (pe_lstS (pa_cons (pe_ix ix_tupH (pv 0) pe_int (fun _ _ => rfl)) pa_nil)))) pss_nil)
      (pss_cons (ps_set (i := 1) sc__law_refers.nd rfl (Or.inl rfl) (pe_lstS pa_nil))
      (pss_cons (ps_if (pt_cmpR op_eq (pe_ix ix_tupH (pv 0) pe_int (fun _ _ => rfl)) pe_str (nomark _)) (pss_one (ps_for PassesOwn.never rfl (pi_tupS (pe_ix ix_tupH (pv 0) pe_int (fun _ _ => rfl))) (pg_name (i := 2) sc__law_refers.nd rfl (Or.inl rfl)) (pss_one (ps_set (i := 1) sc__law_refers.nd rfl (Or.inl rfl) (pe_op op_catS (pv 1) (pe_call IH hr (by rfl) T.g__law_refers T.F__law_refers.kp T.b__law_refers .nil pass0 (pa_cons (pv 2) pa_nil))))))) pss_nil)
      (pss_cons (ps_if (pt_cmpR (op_inTC (hu5 hr) cod_str (by decide)) (pe_ix ix_tupH (pv 0) pe_int (fun _ _ => rfl)) (pe_tupS (pa_cons pe_str (pa_cons pe_str pa_nil))) (by rfl)) (pss_one (ps_for PassesOwn.never rfl (pi_tupS (pe_ix ix_tupH (pv 0) pe_int (fun _ _ => rfl))) (pg_tupS (n := 2) (by rfl) (pgs_cons (pg_name (i := 3) sc__law_refers.nd rfl (Or.inl rfl)) (pgs_cons (pg_name (i := 2) sc__law_refers.nd rfl (Or.inl rfl)) pgs_nil))) (pss_one (ps_set (i := 1) sc__law_refers.nd rfl (Or.inl rfl) (pe_op op_catS (pv 1) (pe_call IH hr (by rfl) T.g__law_refers T.F__law_refers.kp T.b__law_refers .nil pass0 (pa_cons (pv 2) pa_nil))))))) pss_nil)
      (pss_one (ps_ret (pv 1))))))), ?_⟩
    have hlen := RV_len hrv
    have hp4 : 3 ^ (d + 1) ≤ 3 ^ 4 := Nat.pow_le_pow_right (by decide) d4
    rcases hrv with ⟨n, rfl, rfl⟩ | ⟨w, tl, rfl, hok, h1, h2, h3, h4, rfl⟩ | ⟨ds, rss, rfl, ha, hl, rfl⟩ | ⟨w, ps, tl, rss, rfl, hw, ha, hl, rfl⟩
    · obtain ⟨p, xs, rfl, g, hx⟩ := hd_tv tv
      cases hx with
      | cons a b =>
        cases a
        cases b
        walk_at "vc g"
        exact (if_pos rfl).mpr fun p1 H1 s1 n1 g1 => q H1 p1 s1 n1 g1
    · obtain ⟨p, xs, rfl, g, hx⟩ := hd_tv tv
      walk_at "vc g"
      refine (if_neg (show ¬ w = Str.ofString "ref" from h1)).mpr fun p1 H1 s1 n1 g1 => ⟨_, s1 _ _ g, _, atI_c0 _ _, rfl, (if_neg (fun z => h2 (V.str.inj z))).mpr ?_⟩
      refine ⟨_, s1 _ _ g, _, atI_c0 _ _, fun p2 H2 s2 n2 g2 => noDict w hok h3 h4 g2 ?_⟩
      exact q H2 p1 (s1.trans s2) n1 (s2 _ _ g1)
    · obtain ⟨p, xs, rfl, g, hx⟩ := hd_tv tv
      walk_at "vc g"
      refine (if_neg (show ¬ sList = Str.ofString "ref" by decide +kernel)).mpr fun p1 H1 s1 n1 g1 => ⟨_, s1 _ _ g, _, atI_c0 _ _, rfl, (if_pos rfl).mpr ?_⟩
      cases hx with
      | cons a b =>
        cases a with
        | tup g2 t2 =>
          rename_i aP vP
          have g21 := s1 _ _ g2
          have t21 := (t2.mono s1).all
          have hvl := t21.len
          refine ⟨_, s1 _ _ g, _, atI_c1 _ _ _, _, rfl, ⟨_, g21⟩, lpW (walkT (xs := vP)) (fun i σ H' => ∃ (pf : Addr) (v2 v3 : Option V), σ = [some (.ref p), some (.ref pf), v2, v3] ∧ Same H1 H' ∧ H pf = none ∧ H' pf = some (.lst (List.map V.int (rss.take i).flatten))) ⟨p1, _, _, rfl, Same.refl _, n1, g1⟩ (fun i σ H' _ ⟨_, _, _, _, s, _⟩ => s _ _ g21) ?_ ?_⟩
          · rintro i y σ H2 H3 hi ⟨pf, v2, v3, rfl, s2, nf, gf⟩ ⟨rfl, hy⟩
            obtain ⟨d', hd', td⟩ := t21.at hy
            obtain ⟨r, hr', hrv⟩ := ha.at hd'
            obtain ⟨f1, f2⟩ := flat_take hr'
            walk_at "vc gf"
            refine ⟨y, d', r, rfl, by omega, td.mono s2, hrv, fun H4 p4 s4 n4 g4 => ⟨p4, rfl, _, s4 _ _ gf, _, g4, ?_, fun p5 H5 s5 n5 g5 => ⟨s2.trans (s4.trans s5), (s1.trans (s2.trans s4)).free n5, by rw [f1, List.map_append]; exact g5⟩⟩⟩
            exact Nat.le_trans (show (List.map V.int (List.take i rss).flatten).length + (List.map V.int r).length ≤ 81 by rw [List.length_map, List.length_map]; omega) (by decide)
          · rintro σ H2 ⟨pf, v2, v3, rfl, s2, nf, gf⟩
            rw [hvl, ha.len, List.take_length] at gf
            have g2' := (s1.trans s2) _ _ g
            walk_at "vc g2'"
            intro p2 H3 s3 n3 g3
            refine noDict sList (by decide +kernel) (by decide +kernel) (by decide +kernel) g3 ?_
            exact q H3 pf (s1.trans (s2.trans s3)) nf (s3 _ _ gf)
    · obtain ⟨p, xs, rfl, g, hx⟩ := hd_tv tv
      have hnl : w ≠ sList := by rcases hw with rfl | rfl <;> decide +kernel
      have hnr : w ≠ sRef := by rcases hw with rfl | rfl <;> decide +kernel
      have hok : PyData.strOk w = true := by rcases hw with rfl | rfl <;> decide +kernel
      walk_at "vc g"
      refine (if_neg (show ¬ w = Str.ofString "ref" from hnr)).mpr fun p1 H1 s1 n1 g1 => ⟨_, s1 _ _ g, _, atI_c0 _ _, rfl, (if_neg (fun z => hnl (V.str.inj z))).mpr ?_⟩
      refine ⟨_, s1 _ _ g, _, atI_c0 _ _, fun p2 H2 s2 n2 g2 => yesDict w hok hw g2 ?_⟩
      cases hx with
      | cons a b =>
        cases a with
        | tup g2 t2 =>
          rename_i aP vP
          have s12 := s1.trans s2
          have g21 := s12 _ _ g2
          have t21 := (t2.mono s12).all
          have hvl := t21.len
          rw [List.length_map] at hvl
          refine ⟨_, s12 _ _ g, _, atI_c1 _ _ _, _, rfl, ⟨_, g21⟩, lpW (walkT (xs := vP)) (fun i σ H' => ∃ (pf : Addr) (v2 v3 : Option V), σ = [some (.ref p), some (.ref pf), v2, v3] ∧ Same H2 H' ∧ H pf = none ∧ H' pf = some (.lst (List.map V.int (rss.take i).flatten))) ⟨p1, _, _, rfl, Same.refl _, n1, s2 _ _ g1⟩ (fun i σ H' _ ⟨_, _, _, _, s, _⟩ => s _ _ g21) ?_ ?_⟩
          · rintro i y σ H3 H4 hi ⟨pf, v2, v3, rfl, s3, nf, gf⟩ ⟨rfl, hy⟩
            obtain ⟨d', hd', td⟩ := (t2.mono (s12.trans s3)).all.at hy
            rw [List.getElem?_map] at hd'
            obtain ⟨z, hz, rfl⟩ := Option.map_eq_some_iff.mp hd'
            obtain ⟨r, hr', hrv⟩ := ha.at hz
            obtain ⟨f1, f2⟩ := flat_take hr'
            obtain ⟨b', aN, y3, rfl, gb, gN, ty⟩ := pr_tv td
            walk_at "vc gb gf"
            refine ⟨y3, _, r, rfl, by omega, ty, hrv, fun H5 p4 s4 n4 g4 => ⟨p4, rfl, _, s4 _ _ gf, _, g4, ?_, fun p5 H6 s5 n5 g5 => ⟨s3.trans (s4.trans s5), (s12.trans (s3.trans s4)).free n5, by rw [f1, List.map_append]; exact g5⟩⟩⟩
            exact Nat.le_trans (show (List.map V.int (List.take i rss).flatten).length + (List.map V.int r).length ≤ 81 by rw [List.length_map, List.length_map]; omega) (by decide)
          · rintro σ H3 ⟨pf, v2, v3, rfl, s3, nf, gf⟩
            rw [hvl, ha.len, List.take_length] at gf
            walk_at "vc"
            exact q H3 pf (s12.trans s3) nf gf
theorem ok__law_refers (T : Txt K mg) : ∀ d : Nat, FnOk P w K mg base CX0 (1 + d) T.f__law_refers T.fd__law_refers ["value"] (spR d)
  | 0 => ⟨fun _ _ _ _ ⟨_, _, _, _, _, _, h, _⟩ => h.elim, fun _ _ _ _ _ _ _ _ _ _ _ _ _ ⟨_, _, _, _, _, _, h, _⟩ => h.elim⟩
  | d + 1 => ref_step T d (ok__law_refers T d)

def rNotInI : R2 := fun x y H Q => ∃ i p ns, x = .int i ∧ y = .ref p ∧ H p = some (.lst (List.map V.int ns)) ∧ Q (.bl (!decide (i ∈ ns))) H
theorem op_notInI {X : Cx} : OpR X (compareOp .NotIn) rNotInI := OpR.of op_notIn_seq fun x y H Q ⟨i, p, ns, e1, e2, g, q⟩ => ⟨p, List.map V.int ns, e2, .inl (.inl (.inl g)), by rw [e1]; rfl, flat_ints ns, by rw [e1, inV_int]; exact q⟩
theorem keys_take {os : List OB} {i : Nat} {o : OB} (h : os[i]? = some o) : (os.map (·.1)).take (i + 1) = (os.map (·.1)).take i ++ [o.1] := take_map_succ (·.1) h
theorem rch_fin {os : List OB} (ha : AscR os) {root : Int} {fs : List Int} (h1 : ∀ n ∈ fs, Rch os root n) (h2 : root ∈ os.map (·.1) → root ∈ fs) (h3 : ∀ o ∈ os, o.1 ∈ fs → ∀ m ∈ o.2.2, m ∈ os.map (·.1) → m ∈ fs) (n : Int) : n ∈ fs ↔ Rch os root n := by
  refine ⟨h1 n, fun hr => ?_⟩
  induction hr with
  | root hk => exact h2 hk
  | step _ ho e hm hk ih => exact h3 _ ho (by rw [e]; exact ih) _ hm hk
def sp__law_reach (K : PySem.W.Frag) : Sp := fun vs H Q _ => ∃ (p : Addr) (xs : List V) (root : Int) (os : List OB), vs = [.ref p, .int root] ∧ (H p = some (.lst xs)) ∧ (TVs H xs (os.map obR)) ∧ (∀ o ∈ os, RV 4 o.2.1 o.2.2) ∧ (AscR os) ∧ (os.length ≤ 12) ∧ (∀ H' p ns, Same H H' → H p = none → H' p = some (.lst (List.map V.int ns)) → ns.Pairwise (· ≤ ·) → ns.Nodup → (∀ n, n ∈ ns ↔ Rch os root n) → Q (.ref p) H')
theorem ok__law_reach (T : Txt K mg) : FnOk P w K mg base CX0 6 T.f__law_reach T.fd__law_reach ["objects", "root"] (sp__law_reach K) := by
  refine T.F__law_reach.ok sc__law_reach (fun vs H Q E h => ?_) (fun cdv A outer s H vs Q E hr h => ?_)
  · obtain ⟨p, xs, root, os, rfl, _⟩ := h
    rfl
  · obtain ⟨p, xs, root, os, rfl, gp, ht, ho, ha, hl, q⟩ := h
    refine ⟨_, (pss_cons (ps_set (i := 2) sc__law_reach.nd rfl (Or.inl rfl) (pe_lstS pa_nil))
      (pss_cons (ps_if (pt_cmpR op_inI (pv 1) (pe_lc (own := [("number", 3), ("value", 4)]) (g := _) rfl sc__law_reach.nd (pi_listS (pv 0)) (blkOk_by (own := [("number", 3), ("value", 4)]) (N := ["objects", "root", "found", "number", "value", "turn", "more", "one", "other", "some"]) (sc := defScope s__law_reach) (by decide +kernel)) (fun _ _ _ _ _ => (pg_tupS (n := 2) (by rfl) (pgs_cons (pg_name (i := 3) sc__law_reach.nd rfl (Or.inl rfl)) (pgs_cons (pg_name (i := 4) sc__law_reach.nd rfl (Or.inl rfl)) pgs_nil)))) (fun _ _ _ _ _ => pts_nil) (fun _ _ _ _ _ => (pv 3))) (by rfl)) (pss_one (ps_set (i := 2) sc__law_reach.nd rfl (Or.inl rfl) (pe_lstS (pa_cons (pv 1) pa_nil)))) pss_nil)
      (pss_cons (ps_for PassesOwn.never rfl (pi_range1 (by rfl) T.z_range (pa_cons pe_int pa_nil)) (pg_name (i := 5) sc__law_reach.nd rfl (Or.inl rfl)) (pss_cons (ps_set (i := 6) sc__law_reach.nd rfl (Or.inl rfl) (pe_callTy call_listS (by rfl) T.z_list (by decide +kernel) (pa_cons (pv 2) pa_nil)))
      (pss_cons (ps_for PassesOwn.never rfl (pi_listS (pv 0)) (pg_tupS (n := 2) (by rfl) (pgs_cons (pg_name (i := 3) sc__law_reach.nd rfl (Or.inl rfl)) (pgs_cons (pg_name (i := 4) sc__law_reach.nd rfl (Or.inl rfl)) pgs_nil))) (pss_one (ps_if (pt_cmpR op_inI (pv 3) (pv 2) (by rfl)) (pss_one (ps_for PassesOwn.never rfl (pi_listS (pe_call (ok__law_refers T 4) hr (by rfl) T.g__law_refers T.F__law_refers.kp T.b__law_refers .nil pass0 (pa_cons (pv 4) pa_nil))) (pg_name (i := 7) sc__law_reach.nd rfl (Or.inl rfl)) (pss_one (ps_if (PW.pt (pw_and (pt_cmpR op_notInI (pv 7) (pv 6) (by rfl)) (pw_and1 (pt_cmpR op_inI (pv 7) (pe_lc (own := [("other", 8), ("some", 9)]) (g := _) rfl sc__law_reach.nd (pi_listS (pv 0)) (blkOk_by (own := [("other", 8), ("some", 9)]) (N := ["objects", "root", "found", "number", "value", "turn", "more", "one", "other", "some"]) (sc := defScope s__law_reach) (by decide +kernel)) (fun _ _ _ _ _ => (pg_tupS (n := 2) (by rfl) (pgs_cons (pg_name (i := 8) sc__law_reach.nd rfl (Or.inl rfl)) (pgs_cons (pg_name (i := 9) sc__law_reach.nd rfl (Or.inl rfl)) pgs_nil)))) (fun _ _ _ _ _ => pts_nil) (fun _ _ _ _ _ => (pv 8))) (by rfl))))) (pss_one (ps_expr (pe_ml (pe_bm PySem.F.plainAttrs_list PySem.F.slot_list_append PySem.F.type_list_append mt_append (pe_mono (pv 6)) (pa_cons (pv 7) pa_nil))))) pss_nil)))) pss_nil)))
      (pss_cons (ps_if (pt_cmpR op_eq (pe_callB call_lenH (by rfl) T.z_len PySem.boot_len (pa_cons (pv 6) pa_nil)) (pe_callB call_lenH (by rfl) T.z_len PySem.boot_len (pa_cons (pv 2) pa_nil)) (nomark _)) (pss_one ps_break) pss_nil)
      (pss_one (ps_set (i := 2) sc__law_reach.nd rfl (Or.inl rfl) (pv 6)))))))
      (pss_one (ps_ret (pe_callB cr_sorted (by rfl) T.z_sorted (by decide +kernel) (pa_cons (pv 2) pa_nil))))))), ?_⟩
    have hxl := ht.all.len
    rw [List.length_map] at hxl
    have keyed : ∀ {H' : Hp}, Same H H' → ∀ {i : Nat} {y : V}, xs[i]? = some y → ∃ o b y2, os[i]? = some o ∧ y = .ref b ∧ H' b = some (.tup [.int o.1, y2]) ∧ TV H' y2 o.2.1 := @fun H' s i y hy => by
      obtain ⟨d, hd, td⟩ := (ht.mono s).all.at hy
      rw [List.getElem?_map] at hd
      obtain ⟨o, hoi, rfl⟩ := Option.map_eq_some_iff.mp hd
      obtain ⟨b, y2, rfl, gb, ty⟩ := obR_tv td
      exact ⟨o, b, y2, hoi, rfl, gb, ty⟩
    refine seq_cut2 (fun σ H1 => ∃ (pf : Addr) (fs : List Int), σ = [some (.ref p), some (.int root), some (.ref pf), none, none, none, none, none, none, none] ∧ Same H H1 ∧ H pf = none ∧ H1 pf = some (.lst (List.map V.int fs)) ∧ fs.Nodup ∧ (∀ n ∈ fs, Rch os root n) ∧ (root ∈ os.map (·.1) → root ∈ fs)) ?_ (fun C hC => ?_)
    rotate_left
    · walk_at "vc gp"
      intro p1 H1 s1 n1 g1
      have gp1 := s1 _ _ gp
      refine ⟨⟨_, gp1⟩, lcL (walkL (xs := xs)) (L := fun i => List.map V.int ((os.map (·.1)).take i)) rfl (fun _ s => s _ _ gp1) (fun D i y H2 H3 hi hD s2 g2 y2 => ?_) (fun pL H2 s2 n2 g2 => ?_)⟩
      · obtain ⟨rfl, hy⟩ := y2
        obtain ⟨o, b, y3, hoi, rfl, gb, ty⟩ := keyed (s1.trans s2) hy
        walk_at "vc gb g2"
        refine ⟨cnt_lt (by rw [List.length_take, List.length_map]; omega), same_upd2 s2 hD, ?_⟩
        rw [keys_take hoi]
      · rw [hxl, show os.length = (os.map (·.1)).length by rw [List.length_map], List.take_length] at g2
        refine ⟨pL, rfl, _, g2, iteP (fun hk p3 H3 s3 n3 g3 => ?_) (fun hk => ?_)⟩
        · exact hC _ _ ⟨p3, [root], rfl, s1.trans (s2.trans s3), (s1.trans s2).free n3, g3, by simp, fun n hn => by rw [List.mem_singleton.mp hn]; exact .root hk, fun _ => List.mem_singleton.mpr rfl⟩
        · exact hC _ _ ⟨p1, [], rfl, s1.trans s2, n1, s2 _ _ g1, List.nodup_nil, (fun _ z => nomatch z), fun z => absurd z hk⟩
    rintro σ H1 ⟨pf, fs, rfl, s1, nf, gf, hnd, hR, hroot⟩
    refine seq_cut (fun σ H2 => ∃ (pf : Addr) (fs : List Int) (v3 v4 v5 v6 v7 v8 v9 : Option V), σ = [some (.ref p), some (.int root), some (.ref pf), v3, v4, v5, v6, v7, v8, v9] ∧ Same H H2 ∧ H pf = none ∧ H2 pf = some (.lst (List.map V.int fs)) ∧ fs.Nodup ∧ (∀ n, n ∈ fs ↔ Rch os root n)) ?_ (fun C hC => ?_)
    rotate_left
    · walk_at "vc"
      refine lpW (walkR (n := 20)) (fun t σ H2 => ∃ (pf : Addr) (fs : List Int) (v3 v4 v5 v6 v7 v8 v9 : Option V), σ = [some (.ref p), some (.int root), some (.ref pf), v3, v4, v5, v6, v7, v8, v9] ∧ Same H H2 ∧ H pf = none ∧ H2 pf = some (.lst (List.map V.int fs)) ∧ fs.Nodup ∧ (∀ n ∈ fs, Rch os root n) ∧ (root ∈ os.map (·.1) → root ∈ fs) ∧ t ≤ fs.length) ⟨pf, fs, _, _, _, _, _, _, _, rfl, s1, nf, gf, hnd, hR, hroot, Nat.zero_le _⟩ (fun _ _ _ _ _ => True.intro) ?_ ?_
      · rintro t x σ H2 H3 ht20 ⟨pf, fs, v3, v4, v5, v6, v7, v8, v9, rfl, s3, nf, gf, hnd, hR, hroot, htl⟩ ⟨rfl, rfl⟩
        have hfl : fs.length ≤ 12 := by
          have := nodup_le (ys := os.map (·.1)) hnd fun n hn => (hR n hn).key
          rw [List.length_map] at this
          omega
        have gp3 := s3 _ _ gp
        refine seq_cut2 (fun σ H4 => ∃ (pm : Addr) (ms : List Int) (v3 v4 v7 v8 v9 : Option V), σ = [some (.ref p), some (.int root), some (.ref pf), v3, v4, some (.int (t : Int)), some (.ref pm), v7, v8, v9] ∧ Same H3 H4 ∧ H3 pm = none ∧ H4 pm = some (.lst (List.map V.int (fs ++ ms))) ∧ (fs ++ ms).Nodup ∧ (∀ n ∈ fs ++ ms, Rch os root n) ∧ ∀ o ∈ os, o.1 ∈ fs → ∀ m ∈ o.2.2, m ∈ os.map (·.1) → m ∈ fs ++ ms) ?_ (fun C hC => ?_)
        rotate_left
        · walk_at "vc gf gp3"
          intro pm H4 s4 n4 g4
          have gp4 := s4 _ _ gp3
          refine ⟨⟨_, gp4⟩, lpW (walkL (xs := xs)) (fun i σ H' => ∃ (ms : List Int) (v3 v4 v7 v8 v9 : Option V), σ = [some (.ref p), some (.int root), some (.ref pf), v3, v4, some (.int (t : Int)), some (.ref pm), v7, v8, v9] ∧ Same H3 H' ∧ H' pm = some (.lst (List.map V.int (fs ++ ms))) ∧ (fs ++ ms).Nodup ∧ (∀ n ∈ fs ++ ms, Rch os root n) ∧ ∀ o ∈ os.take i, o.1 ∈ fs → ∀ m ∈ o.2.2, m ∈ os.map (·.1) → m ∈ fs ++ ms) ⟨[], _, _, _, _, _, rfl, s4, by rw [List.append_nil]; exact g4, by rw [List.append_nil]; exact hnd, by rw [List.append_nil]; exact hR, (fun _ z => nomatch z)⟩ ?_ ?_ ?_⟩
          · rintro i σ H' _ ⟨_, _, _, _, _, _, rfl, s, _⟩
            exact s _ _ gp3
          · rintro i y σ H5 H6 hi ⟨ms, v3, v4, v7, v8, v9, rfl, s5, gm, hnd5, hR5, hcl⟩ ⟨rfl, hy⟩
            obtain ⟨o, b, y2, hoi, rfl, gb, ty⟩ := keyed (s3.trans s5) hy
            have gf5 := s5 _ _ gf
            have hom := List.mem_of_getElem? hoi
            walk_at "vc gb gf5"
            refine iteP (fun hin => ?_) (fun hin => ?_)
            · refine ⟨y2, _, o.2.2, rfl, by decide, ty, ho o hom, fun H7 pr s7 n7 g7 => ⟨pr, rfl, ⟨_, g7⟩, ?_⟩⟩
              have nepr : pm ≠ pr := ne_of_none gm n7
              have hlr := RV_len (ho o hom)
              refine lpW (walkI (ns := o.2.2)) (fun k σ H' => ∃ (ms : List Int) (v7 v8 v9 : Option V), σ = [some (.ref p), some (.int root), some (.ref pf), some (.int o.1), some y2, some (.int (t : Int)), some (.ref pm), v7, v8, v9] ∧ Same H3 H' ∧ H' pr = some (.lst (List.map V.int o.2.2)) ∧ H' pm = some (.lst (List.map V.int (fs ++ ms))) ∧ (fs ++ ms).Nodup ∧ (∀ n ∈ fs ++ ms, Rch os root n) ∧ (∀ o ∈ os.take i, o.1 ∈ fs → ∀ m ∈ o.2.2, m ∈ os.map (·.1) → m ∈ fs ++ ms) ∧ ∀ m ∈ o.2.2.take k, m ∈ os.map (·.1) → m ∈ fs ++ ms) ⟨ms, _, _, _, rfl, s5.trans s7, g7, s7 _ _ gm, hnd5, hR5, hcl, (fun _ z => nomatch z)⟩ ?_ ?_ ?_
              · rintro k σ H' _ ⟨_, _, _, _, rfl, _, g, _⟩
                exact g
              · rintro k x σ H8 H9 hk ⟨ms, v7, v8, v9, rfl, s8, gr, gm, hnd8, hR8, hcl8, hdone⟩ ⟨rfl, m, hm, rfl⟩
                have gp8 := s8 _ _ gp3
                have next : ∀ {as : List Int}, (∀ z ∈ fs ++ ms, z ∈ as) → (m ∈ os.map (·.1) → m ∈ as) → (∀ o ∈ os.take i, o.1 ∈ fs → ∀ m ∈ o.2.2, m ∈ os.map (·.1) → m ∈ as) ∧ ∀ m ∈ o.2.2.take (k + 1), m ∈ os.map (·.1) → m ∈ as := fun h1 h2 => by
                  refine ⟨fun o' ho' he m' hm' hk' => h1 _ (hcl8 o' ho' he m' hm' hk'), fun m' hm' hk' => ?_⟩
                  rw [take_succ hm] at hm'
                  rcases List.mem_append.mp hm' with z | z
                  · exact h1 _ (hdone m' z hk')
                  · rw [List.mem_singleton.mp z] at hk' ⊢; exact h2 hk'
                walk_at "vc gm gp8"
                refine ⟨m, pm, fs ++ ms, rfl, rfl, gm, _, rfl, ?_⟩
                by_cases hmem : m ∈ fs ++ ms
                · rw [decide_eq_true hmem]
                  have hn := next (fun z hz => hz) (fun _ => hmem)
                  refine (if_neg (by decide)).mpr ⟨s8, gr, ms, gm, hnd8, hR8, hn.1, hn.2⟩
                · rw [decide_eq_false hmem]
                  refine (if_pos rfl).mpr ⟨⟨_, gp8⟩, lcL (walkL (xs := xs)) (L := fun i => List.map V.int ((os.map (·.1)).take i)) rfl (fun _ s => s _ _ gp8) (fun D j y HA HB hj hD sA gA yA => ?_) (fun pL HA sA nA gA => ?_)⟩
                  · obtain ⟨rfl, hy'⟩ := yA
                    obtain ⟨o', b', y3, hoj, rfl, gb', ty'⟩ := keyed (s3.trans (s8.trans sA)) hy'
                    walk_at "vc gb' gA"
                    refine ⟨cnt_lt (by rw [List.length_take, List.length_map]; omega), same_upd2 sA hD, ?_⟩
                    rw [keys_take hoj]
                  · rw [hxl, show os.length = (os.map (·.1)).length by rw [List.length_map], List.take_length] at gA
                    refine ⟨pL, rfl, _, gA, iteP (fun hk2 => ?_) (fun hk2 => ?_)⟩
                    · have gmA := sA _ _ gm
                      have hrm : Rch os root m := .step (hR _ hin) hom rfl (List.mem_of_getElem? hm) hk2
                      have hn := next (as := fs ++ (ms ++ [m])) (fun z hz => by rw [← List.append_assoc]; exact List.mem_append.mpr (.inl hz)) (fun _ => by rw [← List.append_assoc]; exact List.mem_append.mpr (.inr (List.mem_singleton.mpr rfl)))
                      have hnd9 : (fs ++ (ms ++ [m])).Nodup := by
                        rw [← List.append_assoc, List.nodup_append]
                        exact ⟨hnd8, by simp, fun a ha b hb => by rw [List.mem_singleton.mp hb]; exact fun z => hmem (z ▸ ha)⟩
                      have hR9 : ∀ n ∈ fs ++ (ms ++ [m]), Rch os root n := fun n hn => by
                        rw [← List.append_assoc] at hn
                        rcases List.mem_append.mp hn with z | z
                        · exact hR8 n z
                        · rw [List.mem_singleton.mp z]; exact hrm
                      have hlen9 := nodup_le (ys := os.map (·.1)) hnd9 fun n hn => (hR9 n hn).key
                      rw [List.length_map, ← List.append_assoc, List.length_append] at hlen9
                      refine ⟨⟨_, gmA⟩, _, gmA, by rw [List.length_map]; exact cnt_lt (by simp only [List.length_cons] at hlen9; omega), same_upd2 (s8.trans sA) n4, (upd_ne (Ne.symm nepr)).trans (sA _ _ gr), ms ++ [m], by simp only [List.map_append, List.append_assoc, List.map_cons, List.map_nil], hnd9, hR9, hn.1, hn.2⟩
                    · have hn := next (fun z hz => hz) (fun h => absurd h hk2)
                      exact ⟨s8.trans sA, sA _ _ gr, ms, sA _ _ gm, hnd8, hR8, hn.1, hn.2⟩
              · rintro σ H8 ⟨ms, v7, v8, v9, rfl, s8, gr, gm, hnd8, hR8, hcl8, hdone⟩
                refine ⟨⟨_, _, _, _, _, rfl⟩, s8, ms, gm, hnd8, hR8, fun o' ho' => ?_⟩
                rw [List.take_length] at hdone
                rw [take_succ hoi] at ho'
                rcases List.mem_append.mp ho' with z | z
                · exact hcl8 o' z
                · rw [List.mem_singleton.mp z]; exact fun _ => hdone
            · refine ⟨s5, ms, gm, hnd5, hR5, fun o' ho' => ?_⟩
              rw [take_succ hoi] at ho'
              rcases List.mem_append.mp ho' with z | z
              · exact hcl o' z
              · rw [List.mem_singleton.mp z]; exact fun h => absurd h hin
          · rintro σ H5 ⟨ms, v3, v4, v7, v8, v9, rfl, s5, gm, hnd5, hR5, hcl⟩
            rw [hxl, List.take_length] at hcl
            exact hC _ _ ⟨pm, ms, _, _, _, _, _, rfl, s5, n4, gm, hnd5, hR5, hcl⟩
        rintro σ H4 ⟨pm, ms, v3, v4, v7, v8, v9, rfl, s4, nm, gm, hnd4, hR4, hcl⟩
        have gf4 := s4 _ _ gf
        walk_at "vc gm gf4"
        refine iteP (fun e => ?_) (fun e => ?_)
        · have hms : ms = [] := List.length_eq_zero_iff.mp (by omega)
          rw [hms, List.append_nil] at hcl
          exact hC _ _ ⟨pf, fs, _, _, _, _, _, _, _, rfl, s3.trans s4, nf, gf4, hnd, rch_fin ha hR hroot hcl⟩
        · refine ⟨s3.trans s4, s3.free nm, hnd4, hR4, fun hk => List.mem_append.mpr (.inl (hroot hk)), ?_⟩
          omega
      · rintro σ H2 ⟨pf, fs, v3, v4, v5, v6, v7, v8, v9, rfl, s2, nf, gf, hnd, hR, hroot, htl⟩
        have := nodup_le (ys := os.map (·.1)) hnd fun n hn => (hR n hn).key
        rw [List.length_map] at this
        omega
    rintro σ H2 ⟨pf, fs, v3, v4, v5, v6, v7, v8, v9, rfl, s2, nf, gf, hnd, hR⟩
    have hfl : fs.length ≤ 12 := by
      have := nodup_le (ys := os.map (·.1)) hnd fun n hn => ((hR n).mp hn).key
      rw [List.length_map] at this
      omega
    walk_at "vc rSorted"
    refine ⟨fs, .inl (.inl gf), by omega, fun ns' p9 hp hs n9 => ?_⟩
    exact q _ p9 ns' (s2.trans (same_upd n9)) (s2.free n9) upd_same hs (hp.nodup_iff.mpr hnd) fun n => by rw [hp.mem_iff]; exact hR n

theorem sorted_eq : ∀ {xs ys : List Int}, xs.Pairwise (· ≤ ·) → xs.Nodup → ys.Pairwise (· ≤ ·) → ys.Nodup → (∀ n, n ∈ xs ↔ n ∈ ys) → xs = ys
  | [], [], _, _, _, _, _ => rfl
  | [], y :: ys, _, _, _, _, h => by have := (h y).mpr (List.mem_cons_self ..); cases this
  | x :: xs, [], _, _, _, _, h => by have := (h x).mp (List.mem_cons_self ..); cases this
  | x :: xs, y :: ys, h1, h2, h3, h4, h => by
    obtain ⟨a1, a2⟩ := List.pairwise_cons.mp h1
    obtain ⟨b1, b2⟩ := List.nodup_cons.mp h2
    obtain ⟨c1, c2⟩ := List.pairwise_cons.mp h3
    obtain ⟨d1, d2⟩ := List.nodup_cons.mp h4
    have e : x = y := by
      have p1 : y ≤ x := by
        rcases List.mem_cons.mp ((h x).mp (List.mem_cons_self ..)) with z | z
        · omega
        · exact c1 x z
      have p2 : x ≤ y := by
        rcases List.mem_cons.mp ((h y).mpr (List.mem_cons_self ..)) with z | z
        · omega
        · exact a1 y z
      omega
    subst e
    rw [sorted_eq a2 b2 c2 d2 fun n => ⟨fun hn => ((List.mem_cons.mp ((h n).mp (List.mem_cons_of_mem _ hn))).resolve_left fun z => b1 (z ▸ hn)), fun hn => ((List.mem_cons.mp ((h n).mpr (List.mem_cons_of_mem _ hn))).resolve_left fun z => d1 (z ▸ hn))⟩]
theorem rch_sub {os : List OB} {root : Int} {p : OB → Bool} (hp : ∀ o ∈ os, Rch os root o.1 → p o = true) (n : Int) : Rch (os.filter p) root n ↔ Rch os root n := by
  have key : ∀ {m}, Rch os root m → m ∈ (os.filter p).map (·.1) := fun {m} h => by
    obtain ⟨o, ho, rfl⟩ := List.mem_map.mp h.key
    exact List.mem_map.mpr ⟨o, List.mem_filter.mpr ⟨ho, hp o ho h⟩, rfl⟩
  have back : ∀ {m}, m ∈ (os.filter p).map (·.1) → m ∈ os.map (·.1) := fun {m} h => by
    obtain ⟨o, ho, rfl⟩ := List.mem_map.mp h
    exact List.mem_map.mpr ⟨o, (List.mem_filter.mp ho).1, rfl⟩
  constructor
  · intro h
    induction h with
    | root hk => exact .root (back hk)
    | step _ ho e hm hk ih => exact .step ih (List.mem_filter.mp ho).1 e hm (back hk)
  · intro h
    induction h with
    | root hk => exact .root (key (.root hk))
    | step h0 ho e hm hk ih => exact .step ih (List.mem_filter.mpr ⟨ho, hp _ ho (by rw [e]; exact h0)⟩) e hm (key (.step h0 ho e hm hk))
def spLaw (K : PySem.W.Frag) : Sp := fun vs H Q _ => ∃ (a : Addr) (ns : List Int), vs = [.ref a] ∧ SqL K H a (ns.map V.int) ∧ ns.length ≤ 63 ∧ ∀ H', Q (.bl true) H'
theorem ok_law_of {f : Addr} {fd : FuncData} (F : Fun K "law" "law" s_law f fd) (T : Txt K mg) : FnOk P w K mg base CX0 7 f fd ["script"] (spLaw K) := by
  refine F.ok sc_law (fun vs H Q E h => ?_) (fun cdv A outer s H vs Q E hr h => ?_)
  · obtain ⟨a, ns, rfl, _⟩ := h
    rfl
  · obtain ⟨a, ns, rfl, hS, hlen, q⟩ := h
    refine ⟨_, (pss_cons (ps_set (i := 1) sc_law.nd rfl (Or.inl rfl) (pe_callB call_abs (by rfl) T.z_abs (by decide +kernel) (pa_cons (pe_call (ok__law_cell T a ns) (hr.mono (by decide)) (by rfl) T.g__law_cell T.F__law_cell.kp T.b__law_cell .nil pass0 (pa_cons (pv 0) (pa_cons pe_int pa_nil))) pa_nil)))
      (pss_cons (ps_set (i := 2) sc_law.nd rfl (Or.inl rfl) (pe_lstS pa_nil))
      (pss_cons (ps_for PassesOwn.never rfl (pi_range1 (by rfl) T.z_range (pa_cons (pe_op op_add pe_int (pe_op op_mod (pv 1) pe_int)) pa_nil)) (pg_name (i := 3) sc_law.nd rfl (Or.inl rfl)) (pss_one (ps_if (pt_cmpR op_gt (pe_op op_mod (pe_call (ok__law_twice T) (hr.mono (by decide)) (by rfl) T.g__law_twice T.F__law_twice.kp T.b__law_twice .nil pass0 (pa_cons (pv 1) (pa_cons (pv 3) pa_nil))) pe_int) pe_int (nomark _)) (pss_one (ps_expr (pe_ml (pe_bm PySem.F.plainAttrs_list PySem.F.slot_list_append PySem.F.type_list_append mt_append (pe_mono (pv 2)) (pa_cons (pe_tupS (pa_cons (pe_op op_add (pv 3) pe_int) (pa_cons (pe_call (ok__law_value T 3) (hr.mono (by decide)) (by rfl) T.g__law_value T.F__law_value.kp T.b__law_value .nil pass0 (pa_cons (pe_callB call_abs (by rfl) T.z_abs (by decide +kernel) (pa_cons (pe_call (ok__law_cell T a ns) (hr.mono (by decide)) (by rfl) T.g__law_cell T.F__law_cell.kp T.b__law_cell .nil pass0 (pa_cons (pv 0) (pa_cons (pe_op op_add pe_int (pv 3)) pa_nil))) pa_nil)) (pa_cons pe_int (pa_cons pe_int pa_nil)))) pa_nil))) pa_nil))))) pss_nil)))
      (pss_cons (ps_if (pt_cmpR op_eq (pe_callB call_lenH (by rfl) T.z_len PySem.boot_len (pa_cons (pv 2) pa_nil)) pe_int (nomark _)) (pss_one (ps_set (i := 2) sc_law.nd rfl (Or.inl rfl) (pe_lstS (pa_cons (pe_tupS (pa_cons pe_int (pa_cons (pe_tupS (pa_cons pe_str pa_nil)) pa_nil))) pa_nil)))) pss_nil)
      (pss_cons (ps_set (i := 4) sc_law.nd rfl (Or.inl rfl) (pe_ix ix_listH (pe_lstS (pa_cons (pe_ix ix_tupH (pe_ix ix_listH (pv 2) (pe_op op_mod (pe_op op_fdiv (pv 1) pe_int) (pe_callB call_lenH (by rfl) T.z_len PySem.boot_len (pa_cons (pv 2) pa_nil))) (fun _ _ => rfl)) pe_int (fun _ _ => rfl)) (pa_cons pe_int pa_nil))) (pe_callTy call_int1 (by rfl) T.z_int (by decide +kernel) (pa_cons (pe_cmpR op_eq (pe_op op_mod (pe_op op_fdiv (pv 1) pe_int) pe_int) pe_int (nomark _)) pa_nil)) (fun _ _ => rfl)))
      (pss_cons (ps_set (i := 5) sc_law.nd rfl (Or.inr rfl) (pe_call (ok_reach T) (hr.mono (by decide)) (by rfl) T.g_reach T.F_reach.kp T.b_reach .nil pass0 (pa_cons (pe_tupS (pa_cons (pe_callTy call_tupleL (by rfl) T.z_tuple (by decide +kernel) (pa_cons (pv 2) pa_nil)) (pa_cons (pv 4) pa_nil))) pa_nil)))
      (pss_cons (ps_if (pt_not (pt_val (pe_call (ok__law_is_list T) (hr.mono (by decide)) (by rfl) T.g__law_is_list T.F__law_is_list.kp T.b__law_is_list .nil pass0 (pa_cons (pv 5) (pa_cons (pe_call (ok__law_reach T) hr (by rfl) T.g__law_reach T.F__law_reach.kp T.b__law_reach .nil pass0 (pa_cons (pv 2) (pa_cons (pv 4) pa_nil))) pa_nil))))) (pss_one (ps_ret pe_bl)) pss_nil)
      (pss_cons (ps_set (i := 6) sc_law.nd rfl (Or.inl rfl) (pe_callTy call_tupleL (by rfl) T.z_tuple (by decide +kernel) (pa_cons (pe_lc (own := [("one", 7)]) (g := (gName 7)) rfl sc_law.nd (pi_listS (pv 2)) (blkOk_by (own := [("one", 7)]) (N := ["script", "cell", "objects", "k", "root", "found", "kept", "one"]) (sc := defScope s_law) (by decide +kernel)) (fun _ _ _ _ _ => (pg_name (i := 7) sc_law.nd rfl (Or.inl rfl))) (fun _ _ _ _ _ => (pts_one (pt_cmpR op_inI (pe_ix ix_tupH (pv 7) pe_int (fun _ _ => rfl)) (pv 5) (by rfl)))) (fun _ _ _ _ _ => (pv 7))) pa_nil)))
      (pss_cons (ps_if (pt_cmpR op_eq (pv 4) pe_int (nomark _)) (pss_one (ps_ret (pe_cmpR (op_eqIL hr.units) (pv 5) (pe_lstS pa_nil) (nomark _)))) pss_nil)
      (pss_one (ps_ret (pe_cmpR (op_eqIL hr.units) (pe_call (ok_reach T) (hr.mono (by decide)) (by rfl) T.g_reach T.F_reach.kp T.b_reach .nil pass0 (pa_cons (pe_tupS (pa_cons (pv 6) (pa_cons (pv 4) pa_nil))) pa_nil)) (pv 5) (nomark _))))))))))))), ?_⟩
    have l0 : 0 ≤ absI (cellA ns 0) := absI_nn _
    obtain ⟨N, hN⟩ := natOf (show 0 ≤ 1 + absI (cellA ns 0) % 12 by omega)
    refine seq_cut3 (fun σ H1 => ∃ (p : Addr) (v3 : Option V) (us : List V) (os : List OB), σ = [some (.ref a), some (.int (absI (cellA ns 0))), some (.ref p), v3, none, none, none, none] ∧ Same H H1 ∧ H1 p = some (.lst us) ∧ All2 (fun v o => TV H1 v (obR o)) us os ∧ (∀ o ∈ os, RV 4 o.2.1 o.2.2) ∧ (∀ o ∈ os, 1 ≤ o.1) ∧ AscR os ∧ os.length ≤ 12) ?_ (fun C hC => ?_)
    rotate_left
    · walk_at "vc sp__law_cell hS"
      intro p0 H0 s0 n0 g0
      rw [hN, Int.toNat_natCast]
      refine ⟨by omega, by omega, lpW (walkR (n := N)) (fun i σ H1 => ∃ (v3 : Option V) (us : List V) (os : List OB), σ = [some (.ref a), some (.int (absI (cellA ns 0))), some (.ref p0), v3, none, none, none, none] ∧ Same H H1 ∧ H1 p0 = some (.lst us) ∧ All2 (fun v o => TV H1 v (obR o)) us os ∧ (∀ o ∈ os, RV 4 o.2.1 o.2.2) ∧ (∀ o ∈ os, 1 ≤ o.1 ∧ o.1 ≤ i) ∧ AscR os ∧ os.length ≤ i) ⟨_, [], [], rfl, s0, g0, .nil, (fun _ z => nomatch z), (fun _ z => nomatch z), List.Pairwise.nil, Nat.le_refl _⟩ (fun _ _ _ _ _ => True.intro) ?_ ?_⟩
      · rintro i x σ H1 H2 hi ⟨v3, us, os, rfl, s1, gu, hu, hrv, hk1, hasc, hol⟩ ⟨rfl, rfl⟩
        have hS1 := s1.seq hS
        have hul := hu.len
        walk_at "vc gu hS1 sp__law_cell sp__law_twice"
        refine iteP (fun _ => ?_) (fun _ => ?_)
        · refine ⟨by omega, _, 1, rfl, by decide, fun H3 v x rs s3 tv hr p4 H4 s4 n4 g4 => ?_⟩
          have s34 := s3.trans s4
          have gu4 := s34 _ _ gu
          refine ⟨us, gu4, cnt_lt (by omega), same_upd2 (s1.trans s34) n0, os ++ [((i : Int) + 1, x, rs)], ?_, ?_, ?_, ?_, ?_⟩
          · exact ((hu.mono fun v o t => TV.mono s34 t).mono fun v o t => TV.upd gu4 t).snoc (TV.upd gu4 (.tup g4 (.cons (.int _) (.cons (tv.mono s4) .nil))))
          · intro o ho
            rcases List.mem_append.mp ho with z | z
            · exact hrv o z
            · rw [List.mem_singleton.mp z]; exact hr
          · intro o ho
            rcases List.mem_append.mp ho with z | z
            · have := hk1 o z; exact ⟨this.1, by have := this.2; omega⟩
            · rw [List.mem_singleton.mp z]; exact ⟨by show 1 ≤ (i : Int) + 1; omega, by show (i : Int) + 1 ≤ _; omega⟩
          · refine List.pairwise_append.mpr ⟨hasc, List.pairwise_singleton _ _, fun o ho o' ho' => ?_⟩
            rw [List.mem_singleton.mp ho']
            have := (hk1 o ho).2
            show o.1 < (i : Int) + 1
            omega
          · rw [List.length_append]; simp only [List.length_cons, List.length_nil]; omega
        · exact ⟨s1, os, hu, hrv, fun o ho => ⟨(hk1 o ho).1, by have := (hk1 o ho).2; omega⟩, hasc, by omega⟩
      · rintro σ H1 ⟨v3, us, os, rfl, s1, gu, hu, hrv, hk1, hasc, hol⟩
        exact hC _ _ ⟨p0, v3, us, os, rfl, s1, gu, hu, hrv, fun o ho => (hk1 o ho).1, hasc, by omega⟩
    rintro σ H1 ⟨p, v3, us, os, rfl, s1, gu, hu, hrv, hk1, hasc, hol⟩
    refine seq_cut (fun σ H2 => ∃ (p : Addr) (us : List V) (os : List OB), σ = [some (.ref a), some (.int (absI (cellA ns 0))), some (.ref p), v3, none, none, none, none] ∧ Same H H2 ∧ H2 p = some (.lst us) ∧ All2 (fun v o => TV H2 v (obR o)) us os ∧ (∀ o ∈ os, RV 4 o.2.1 o.2.2) ∧ (∀ o ∈ os, 1 ≤ o.1) ∧ AscR os ∧ os.length ≤ 12 ∧ 0 < os.length) ?_ (fun C hC => ?_)
    rotate_left
    · walk_at "vc gu"
      have hul := hu.len
      refine iteP (fun e p3 H3 s3 n3 g3 p4 H4 s4 n4 g4 p5 H5 s5 n5 g5 => ?_) (fun e => hC _ _ ⟨p, us, os, rfl, s1, gu, hu, hrv, hk1, hasc, hol, by omega⟩)
      refine hC _ _ ⟨p5, _, [(3, .tuple [.str (Str.ofString "none")], [])], rfl, s1.trans (s3.trans (s4.trans s5)), g5, .cons (.tup (s5 _ _ g4) (.cons (.int _) (.cons (.tup ((s4.trans s5) _ _ g3) (.cons (.str _) .nil)) .nil))) .nil, ?_, ?_, List.pairwise_singleton _ _, by decide, by decide⟩
      · intro o ho
        rw [List.mem_singleton.mp ho]
        exact .inr (.inl ⟨_, _, rfl, by decide +kernel, by decide +kernel, by decide +kernel, by decide +kernel, by decide +kernel, rfl⟩)
      · intro o ho
        rw [List.mem_singleton.mp ho]
        decide
    clear gu hu hrv hk1 hasc hol
    rintro σ H2 ⟨p, us, os, rfl, s2, gu, hu, hrv, hk1, hasc, hol, hpos⟩
    have hul := hu.len
    refine seq_cut (fun σ H3 => ∃ (root : Int), σ = [some (.ref a), some (.int (absI (cellA ns 0))), some (.ref p), v3, some (.int root), none, none, none] ∧ Same H2 H3 ∧ (root = 0 ∨ root ∈ os.map (·.1))) ?_ (fun C hC => ?_)
    rotate_left
    · walk_at "vc gu"
      obtain ⟨v, hv, hm⟩ := atI_lit (xs := us) (k := absI (cellA ns 0) / 12 % (us.length : Int)) (Int.emod_nonneg _ (by omega)) (Int.emod_lt_of_pos _ (by omega))
      obtain ⟨j, hj⟩ := List.mem_iff_getElem?.mp hm
      obtain ⟨o, hoj, td⟩ := hu.at hj
      obtain ⟨b, y2, rfl, gb, ty⟩ := obR_tv td
      refine ⟨by omega, _, hv, b, rfl, _, gb, _, atI_c0 _ _, fun p2 H3 s3 n3 g3 => ⟨_, g3, ?_⟩⟩
      by_cases e : absI (cellA ns 0) / 200 % 8 = 1
      · rw [if_pos e]
        exact ⟨_, rfl, hC _ _ ⟨0, rfl, s3, .inl rfl⟩⟩
      · rw [if_neg e]
        exact ⟨_, rfl, hC _ _ ⟨o.1, rfl, s3, .inr (List.mem_map.mpr ⟨o, List.mem_of_getElem? hoj, rfl⟩)⟩⟩
    rintro σ H3 ⟨root, rfl, s3, hroot⟩
    have gu3 := s3 _ _ gu
    have hu3 := hu.mono fun v o t => TV.mono s3 t
    refine seq_cut2 (fun σ H4 => ∃ (pf : Addr) (fs : List Int), σ = [some (.ref a), some (.int (absI (cellA ns 0))), some (.ref p), v3, some (.int root), some (.ref pf), none, none] ∧ Same H3 H4 ∧ H4 pf = some (.lst (List.map V.int fs)) ∧ fs.Pairwise (· ≤ ·) ∧ fs.Nodup ∧ ∀ n, n ∈ fs ↔ Rch os root n) ?_ (fun C hC => ?_)
    rotate_left
    · walk_at "vc gu3 sp_reach sp__law_reach sp__law_is_list"
      intro l H4 s4 n4 g4 p5 H5 s5 n5 g5
      have s45 := s4.trans s5
      refine ⟨os, root, ⟨p5, l, us, rfl, g5, s5 _ _ g4, TVs.of (all2_map (hu3.mono fun v o t => TV.mono s45 t)), hrv⟩, hasc, hol, fun H6 p6 fs s6 n6 g6 w1 w2 w3 => ?_⟩
      have s46 := s45.trans s6
      refine ⟨us, s46 _ _ gu3, os, TVs.of (all2_map (hu3.mono fun v o t => TV.mono s46 t)), hrv, hasc, hol, fun H7 p7 ds s7 n7 g7 x1 x2 x3 => ?_⟩
      obtain rfl : ds = fs := sorted_eq x1 x2 w1 w2 fun n => (x3 n).trans (w3 n).symm
      exact ⟨_, s7 _ _ g6, g7, fun H8 s8 => hC _ _ ⟨p6, ds, rfl, s46.trans (s7.trans s8), (s7.trans s8) _ _ g6, w1, w2, w3⟩⟩
    rintro σ H4 ⟨pf, fs, rfl, s4, gf, hfs, hfn, hfr⟩
    have gu4 := s4 _ _ gu3
    have hu4 := hu3.mono fun v o t => TV.mono s4 t
    walk_at "vc gu4 gf sp_reach"
    have rootk : ∀ {n : Int}, Rch os root n → root ∈ os.map (·.1) := fun {n} h => by
      induction h with
      | root hk => exact hk
      | step _ _ _ _ _ ih => exact ih
    refine lcW (walkL (xs := us)) (fun D i H' => Same H4 H' ∧ ∃ vs, H' D = some (.lst vs) ∧ All2 (fun v o => TV H' v (obR o)) vs ((os.take i).filter fun o => decide (o.1 ∈ fs)) ∧ vs.length ≤ i) (fun D H' s n g => ⟨s, [], g, .nil, Nat.le_refl _⟩) (fun D i H' _ _ h => h.1 _ _ gu4) (fun D i y H5 H6 hi hD h y5 => ?_) (fun D H5 hD h => ?_)
    · obtain ⟨s5, vs, gD, hv, hvl⟩ := h
      obtain ⟨rfl, hy⟩ := y5
      obtain ⟨o, hoi, td⟩ := hu4.at hy
      obtain ⟨b, y2, rfl, gb, ty⟩ := obR_tv td
      have gb5 := s5 _ _ gb
      have gf5 := s5 _ _ gf
      walk_at "vc gb5 gf5"
      rw [take_succ hoi, List.filter_append]
      refine iteP (fun hin => ?_) (fun hin => ?_)
      · refine ⟨vs, gD, cnt_lt (by omega), same_upd2 s5 hD, ?_, by omega⟩
        rw [show List.filter (fun o : OB => decide (o.1 ∈ fs)) [o] = [o] from List.filter_cons_of_pos (p := fun o : OB => decide (o.1 ∈ fs)) (decide_eq_true hin)]
        exact (hv.mono fun v o t => TV.upd gD t).snoc (TV.upd gD (td.mono s5))
      · rw [List.filter_cons_of_neg (by rw [decide_eq_false hin]; decide), List.filter_nil, List.append_nil]
        exact ⟨s5, vs, gD, hv, by omega⟩
    · obtain ⟨s5, vs, gD, hv, hvl⟩ := h
      rw [hul, List.take_length] at hv
      refine ⟨D, rfl, vs, gD, fun l H6 s6 n6 g6 => iteP (fun hr0 p7 H7 s7 n7 g7 => ?_) (fun hr0 p7 H7 s7 n7 g7 => ?_)⟩
      · have hnil : fs = [] := List.eq_nil_iff_forall_not_mem.mpr fun n hn => by
          obtain ⟨o, ho, e⟩ := List.mem_map.mp (rootk ((hfr n).mp hn))
          have := hk1 o ho
          omega
        refine ⟨fs, (s5.trans (s6.trans s7)) _ _ gf, [], g7, ?_⟩
        rw [decide_eq_true hnil]
        exact q _
      · have s67 := s6.trans s7
        have hsub := rch_sub (os := os) (root := root) (p := fun o => decide (o.1 ∈ fs)) fun o _ h => decide_eq_true ((hfr o.1).mpr h)
        refine ⟨os.filter fun o => decide (o.1 ∈ fs), root, ⟨p7, l, vs, rfl, g7, s7 _ _ g6, TVs.of (all2_map (hv.mono fun v o t => TV.mono s67 t)), fun o ho => hrv o (List.mem_filter.mp ho).1⟩, hasc.filter _, Nat.le_trans (List.length_filter_le _ _) hol, fun H8 p8 ds s8 n8 g8 w1 w2 w3 => ?_⟩
        have e : ds = fs := sorted_eq w1 w2 hfs hfn fun n => (w3 n).trans ((hsub n).trans (hfr n).symm)
        refine ⟨ds, g8, fs, (s5.trans (s67.trans s8)) _ _ gf, ?_⟩
        rw [decide_eq_true e]
        exact q _

end
theorem all_mk {l : PySem.W.OpenLaw} {w : World} {K : PySem.W.Frag} {h : Heap} {mg : Str → Option Value} {fa : Addr} (X : K.In h) (G : h.Ns mainGlobals mg) (hfa : mg "law" = some (.ref fa))
    {f1 : Addr} {od1 an1 : Option Addr} {sl1 : Array (Option Value)} {oc1 kV1 dc1 pm1 cd1 ct1 : Value}
    (a1 : PySem.W.nsIn K mainGlobals "_parts" = some (some (.ref f1))) (l1 : K.lookup f1 = some ⟨oc1, od1, .func (PySem.W.fnOf "_parts" "_parts" (defArgs s__parts) (defBody s__parts) (defScope s__parts) .none kV1 dc1 pm1 an1 cd1 ct1), sl1⟩) (c1 : PySem.W.codeIn K cd1 "_parts" = true) (k1 : PySem.W.keepIn K (.ref f1) = true)
    {f2 : Addr} {od2 an2 : Option Addr} {sl2 : Array (Option Value)} {oc2 kV2 dc2 pm2 cd2 ct2 : Value}
    (a2 : PySem.W.nsIn K mainGlobals "reach" = some (some (.ref f2))) (l2 : K.lookup f2 = some ⟨oc2, od2, .func (PySem.W.fnOf "reach" "reach" (defArgs s_reach) (defBody s_reach) (defScope s_reach) .none kV2 dc2 pm2 an2 cd2 ct2), sl2⟩) (c2 : PySem.W.codeIn K cd2 "reach" = true) (k2 : PySem.W.keepIn K (.ref f2) = true)
    {f3 : Addr} {od3 an3 : Option Addr} {sl3 : Array (Option Value)} {oc3 kV3 dc3 pm3 cd3 ct3 : Value}
    (a3 : PySem.W.nsIn K mainGlobals "_references" = some (some (.ref f3))) (l3 : K.lookup f3 = some ⟨oc3, od3, .func (PySem.W.fnOf "_references" "_references" (defArgs s__references) (defBody s__references) (defScope s__references) .none kV3 dc3 pm3 an3 cd3 ct3), sl3⟩) (c3 : PySem.W.codeIn K cd3 "_references" = true) (k3 : PySem.W.keepIn K (.ref f3) = true)
    {f4 : Addr} {od4 an4 : Option Addr} {sl4 : Array (Option Value)} {oc4 kV4 dc4 pm4 cd4 ct4 : Value}
    (a4 : PySem.W.nsIn K mainGlobals "_law_cell" = some (some (.ref f4))) (l4 : K.lookup f4 = some ⟨oc4, od4, .func (PySem.W.fnOf "_law_cell" "_law_cell" (defArgs s__law_cell) (defBody s__law_cell) (defScope s__law_cell) .none kV4 dc4 pm4 an4 cd4 ct4), sl4⟩) (c4 : PySem.W.codeIn K cd4 "_law_cell" = true) (k4 : PySem.W.keepIn K (.ref f4) = true)
    {f5 : Addr} {od5 an5 : Option Addr} {sl5 : Array (Option Value)} {oc5 kV5 dc5 pm5 cd5 ct5 : Value}
    (a5 : PySem.W.nsIn K mainGlobals "_law_twice" = some (some (.ref f5))) (l5 : K.lookup f5 = some ⟨oc5, od5, .func (PySem.W.fnOf "_law_twice" "_law_twice" (defArgs s__law_twice) (defBody s__law_twice) (defScope s__law_twice) .none kV5 dc5 pm5 an5 cd5 ct5), sl5⟩) (c5 : PySem.W.codeIn K cd5 "_law_twice" = true) (k5 : PySem.W.keepIn K (.ref f5) = true)
    {f6 : Addr} {od6 an6 : Option Addr} {sl6 : Array (Option Value)} {oc6 kV6 dc6 pm6 cd6 ct6 : Value}
    (a6 : PySem.W.nsIn K mainGlobals "_law_integer" = some (some (.ref f6))) (l6 : K.lookup f6 = some ⟨oc6, od6, .func (PySem.W.fnOf "_law_integer" "_law_integer" (defArgs s__law_integer) (defBody s__law_integer) (defScope s__law_integer) .none kV6 dc6 pm6 an6 cd6 ct6), sl6⟩) (c6 : PySem.W.codeIn K cd6 "_law_integer" = true) (k6 : PySem.W.keepIn K (.ref f6) = true)
    {f7 : Addr} {od7 an7 : Option Addr} {sl7 : Array (Option Value)} {oc7 kV7 dc7 pm7 cd7 ct7 : Value}
    (a7 : PySem.W.nsIn K mainGlobals "_law_is_list" = some (some (.ref f7))) (l7 : K.lookup f7 = some ⟨oc7, od7, .func (PySem.W.fnOf "_law_is_list" "_law_is_list" (defArgs s__law_is_list) (defBody s__law_is_list) (defScope s__law_is_list) .none kV7 dc7 pm7 an7 cd7 ct7), sl7⟩) (c7 : PySem.W.codeIn K cd7 "_law_is_list" = true) (k7 : PySem.W.keepIn K (.ref f7) = true)
    {f8 : Addr} {od8 an8 : Option Addr} {sl8 : Array (Option Value)} {oc8 kV8 dc8 pm8 cd8 ct8 : Value}
    (a8 : PySem.W.nsIn K mainGlobals "_law_value" = some (some (.ref f8))) (l8 : K.lookup f8 = some ⟨oc8, od8, .func (PySem.W.fnOf "_law_value" "_law_value" (defArgs s__law_value) (defBody s__law_value) (defScope s__law_value) .none kV8 dc8 pm8 an8 cd8 ct8), sl8⟩) (c8 : PySem.W.codeIn K cd8 "_law_value" = true) (k8 : PySem.W.keepIn K (.ref f8) = true)
    {f9 : Addr} {od9 an9 : Option Addr} {sl9 : Array (Option Value)} {oc9 kV9 dc9 pm9 cd9 ct9 : Value}
    (a9 : PySem.W.nsIn K mainGlobals "_law_refers" = some (some (.ref f9))) (l9 : K.lookup f9 = some ⟨oc9, od9, .func (PySem.W.fnOf "_law_refers" "_law_refers" (defArgs s__law_refers) (defBody s__law_refers) (defScope s__law_refers) .none kV9 dc9 pm9 an9 cd9 ct9), sl9⟩) (c9 : PySem.W.codeIn K cd9 "_law_refers" = true) (k9 : PySem.W.keepIn K (.ref f9) = true)
    {f10 : Addr} {od10 an10 : Option Addr} {sl10 : Array (Option Value)} {oc10 kV10 dc10 pm10 cd10 ct10 : Value}
    (a10 : PySem.W.nsIn K mainGlobals "_law_reach" = some (some (.ref f10))) (l10 : K.lookup f10 = some ⟨oc10, od10, .func (PySem.W.fnOf "_law_reach" "_law_reach" (defArgs s__law_reach) (defBody s__law_reach) (defScope s__law_reach) .none kV10 dc10 pm10 an10 cd10 ct10), sl10⟩) (c10 : PySem.W.codeIn K cd10 "_law_reach" = true) (k10 : PySem.W.keepIn K (.ref f10) = true)
    {f11 : Addr} {od11 an11 : Option Addr} {sl11 : Array (Option Value)} {oc11 kV11 dc11 pm11 cd11 ct11 : Value}
    (a11 : PySem.W.nsIn K mainGlobals "law" = some (some (.ref f11))) (l11 : K.lookup f11 = some ⟨oc11, od11, .func (PySem.W.fnOf "law" "law" (defArgs s_law) (defBody s_law) (defScope s_law) .none kV11 dc11 pm11 an11 cd11 ct11), sl11⟩) (c11 : PySem.W.codeIn K cd11 "law" = true) (k11 : PySem.W.keepIn K (.ref f11) = true)
    (a12 : PySem.W.nsIn K mainGlobals "abs" = some none)
    (a13 : PySem.W.nsIn K mainGlobals "bool" = some none)
    (a14 : PySem.W.nsIn K mainGlobals "int" = some none)
    (a15 : PySem.W.nsIn K mainGlobals "isinstance" = some none)
    (a16 : PySem.W.nsIn K mainGlobals "len" = some none)
    (a17 : PySem.W.nsIn K mainGlobals "list" = some none)
    (a18 : PySem.W.nsIn K mainGlobals "range" = some none)
    (a19 : PySem.W.nsIn K mainGlobals "sorted" = some none)
    (a20 : PySem.W.nsIn K mainGlobals "tuple" = some none)
    (a21 : PySem.W.nsIn K mainGlobals "zip" = some none)
    : ∃ fd : FuncData, (∀ (s : Shared) (v : Value), BindsTo s fd ⟨[v], []⟩ [("script", v)]) ∧ ∀ base : Heap, K.In base → base.Ns mainGlobals mg → FnOk l.prog w K mg base CX0 7 fa fd ["script"] (spLaw K) := by
  have e := hfa.symm.trans (PySem.W.mg_of X G a11)
  cases e
  have F1 := fun_mk (st := s__parts) l1 c1 k1
  have b1 := F1.binds (ps := ["value"]) fun _ _ _ _ _ _ us hl => match us, hl with | [_], _ => rfl
  have F2 := fun_mk (st := s_reach) l2 c2 k2
  have b2 := F2.binds (ps := ["book"]) fun _ _ _ _ _ _ us hl => match us, hl with | [_], _ => rfl
  have F3 := fun_mk (st := s__references) l3 c3 k3
  have b3 := F3.binds (ps := ["value"]) fun _ _ _ _ _ _ us hl => match us, hl with | [_], _ => rfl
  have F4 := fun_mk (st := s__law_cell) l4 c4 k4
  have b4 := F4.binds (ps := ["script", "k"]) fun _ _ _ _ _ _ us hl => match us, hl with | [_, _], _ => rfl
  have F5 := fun_mk (st := s__law_twice) l5 c5 k5
  have b5 := F5.binds (ps := ["cell", "k"]) fun _ _ _ _ _ _ us hl => match us, hl with | [_, _], _ => rfl
  have F6 := fun_mk (st := s__law_integer) l6 c6 k6
  have b6 := F6.binds (ps := ["value"]) fun _ _ _ _ _ _ us hl => match us, hl with | [_], _ => rfl
  have F7 := fun_mk (st := s__law_is_list) l7 c7 k7
  have b7 := F7.binds (ps := ["found", "due"]) fun _ _ _ _ _ _ us hl => match us, hl with | [_, _], _ => rfl
  have F8 := fun_mk (st := s__law_value) l8 c8 k8
  have b8 := F8.binds (ps := ["cell", "k", "deep"]) fun _ _ _ _ _ _ us hl => match us, hl with | [_, _, _], _ => rfl
  have F9 := fun_mk (st := s__law_refers) l9 c9 k9
  have b9 := F9.binds (ps := ["value"]) fun _ _ _ _ _ _ us hl => match us, hl with | [_], _ => rfl
  have F10 := fun_mk (st := s__law_reach) l10 c10 k10
  have b10 := F10.binds (ps := ["objects", "root"]) fun _ _ _ _ _ _ us hl => match us, hl with | [_, _], _ => rfl
  have F11 := fun_mk (st := s_law) l11 c11 k11
  have b11 := F11.binds (ps := ["script"]) fun _ _ _ _ _ _ us hl => match us, hl with | [_], _ => rfl
  have T : Txt K mg := ⟨f1, _, F1, b1, PySem.W.mg_of X G a1,
    f2, _, F2, b2, PySem.W.mg_of X G a2,
    f3, _, F3, b3, PySem.W.mg_of X G a3,
    f4, _, F4, b4, PySem.W.mg_of X G a4,
    f5, _, F5, b5, PySem.W.mg_of X G a5,
    f6, _, F6, b6, PySem.W.mg_of X G a6,
    f7, _, F7, b7, PySem.W.mg_of X G a7,
    f8, _, F8, b8, PySem.W.mg_of X G a8,
    f9, _, F9, b9, PySem.W.mg_of X G a9,
    f10, _, F10, b10, PySem.W.mg_of X G a10,
    fa, _, F11, b11, PySem.W.mg_of X G a11,
    PySem.W.mg_none_of X G a12,
    PySem.W.mg_none_of X G a13,
    PySem.W.mg_none_of X G a14,
    PySem.W.mg_none_of X G a15,
    PySem.W.mg_none_of X G a16,
    PySem.W.mg_none_of X G a17,
    PySem.W.mg_none_of X G a18,
    PySem.W.mg_none_of X G a19,
    PySem.W.mg_none_of X G a20,
    PySem.W.mg_none_of X G a21⟩
  refine ⟨PySem.W.fnOf "law" "law" (defArgs s_law) (defBody s_law) (defScope s_law) .none kV11 dc11 pm11 an11 cd11 ct11, fun s v => .of_eq rfl, fun base _ _ => ?_⟩
  exact ok_law_of F11 T
end K27
open PySem PySem.W PyProof.Rows
set_option maxRecDepth 100000 in
set_option maxHeartbeats 0 in
theorem PySem.Challenge.cw_stillroom_k27_reach_holds : PySem.Challenge.rw_stillroom_k27_reach.Holds := by
  w_on; o_law; k_head; (case hw => w_witness2)
  k_fill
  refine L2.walk_of (l := PySem.Challenge.rw_stillroom_k27_reach) (n := 63) (k := 7) (x := "script") (CX := fun _ => L2.CX0) (sp := fun w => K27.spLaw _) rfl (by decide) rfl ⟨rfl, by decide, by decide⟩ (fun w h Y => PySem.W.kIn_of Y) ?F (fun _ _ a ns hl _ hS => ⟨a, ns, rfl, hS, hl, fun _ => rfl⟩) (fun _ _ _ _ _ h => h)
  case F =>
    intro w mg fa h KX G hmg
    refine' K27.all_mk KX G hmg ?a1 ?l1 ?c1 ?k1 ?a2 ?l2 ?c2 ?k2 ?a3 ?l3 ?c3 ?k3 ?a4 ?l4 ?c4 ?k4 ?a5 ?l5 ?c5 ?k5 ?a6 ?l6 ?c6 ?k6 ?a7 ?l7 ?c7 ?k7 ?a8 ?l8 ?c8 ?k8 ?a9 ?l9 ?c9 ?k9 ?a10 ?l10 ?c10 ?k10 ?a11 ?l11 ?c11 ?k11 ?a12 ?a13 ?a14 ?a15 ?a16 ?a17 ?a18 ?a19 ?a20 ?a21
    (case a1 => k_is)
    (case l1 => k_is)
    (case c1 => k_is)
    (case k1 => k_is)
    (case a2 => k_is)
    (case l2 => k_is)
    (case c2 => k_is)
    (case k2 => k_is)
    (case a3 => k_is)
    (case l3 => k_is)
    (case c3 => k_is)
    (case k3 => k_is)
    (case a4 => k_is)
    (case l4 => k_is)
    (case c4 => k_is)
    (case k4 => k_is)
    (case a5 => k_is)
    (case l5 => k_is)
    (case c5 => k_is)
    (case k5 => k_is)
    (case a6 => k_is)
    (case l6 => k_is)
    (case c6 => k_is)
    (case k6 => k_is)
    (case a7 => k_is)
    (case l7 => k_is)
    (case c7 => k_is)
    (case k7 => k_is)
    (case a8 => k_is)
    (case l8 => k_is)
    (case c8 => k_is)
    (case k8 => k_is)
    (case a9 => k_is)
    (case l9 => k_is)
    (case c9 => k_is)
    (case k9 => k_is)
    (case a10 => k_is)
    (case l10 => k_is)
    (case c10 => k_is)
    (case k10 => k_is)
    (case a11 => k_is)
    (case l11 => k_is)
    (case c11 => k_is)
    (case k11 => k_is)
    (case a12 => k_is)
    (case a13 => k_is)
    (case a14 => k_is)
    (case a15 => k_is)
    (case a16 => k_is)
    (case a17 => k_is)
    (case a18 => k_is)
    (case a19 => k_is)
    (case a20 => k_is)
    (case a21 => k_is)



import PyProof.Rows.All
import Wide.All
import OpenK.AllK
import Wide.FinOn
import HandS.ForMost
import HandS.Wide
import HandS.IsInst
import HandS.FStr
import HandS.Zip
import HandS.CallLocal
import HandS.Walk
import HandS.TryOnly
import HandS.TupAny
import HandS.DictComp
import HandS.Deep
import PyProof.DictMoreH
import HandS.Text
import HandS.Codes
import KE.GoesMore
import HandS.Style
import HandS.ExcOwn
import HandS.WordsExc
import HandS.ExcIs
import HandS.TryMany
import PySem.Challenge.RW_stillroom_k35_grids_and_boxes
set_option Elab.async false
set_option linter.all false
set_option maxRecDepth 100000
namespace K35
open PySem PySem.Spec PyProof.Rows L2

/-! ### rules with plainer readings -/
section
variable {X : Cx}
theorem CallR.of {f : Value} {r r' : List V → Hp → VK → Prop} (h : CallR X f r) (k : ∀ xs H Q, r' xs H Q → r xs H Q) : CallR X f r' := fun pins s σ H xs us Q I rv q => h pins s σ H xs us Q I rv (k xs H Q q)
theorem OpR.of {f : Value → Value → Sem Value} {r r' : R2} (h : OpR X f r) (k : ∀ x y H Q, r' x y H Q → r x y H Q) : OpR X f r' := fun pins s σ H x y v u Q I rx ry q => h pins s σ H x y v u Q I rx ry (k x y H Q q)
/-- the name of a plain value's type -/
def tnm : V → Option String
  | .non => some "NoneType"
  | .bl _ => some "bool"
  | .int _ => some "int"
  | .str _ => some "str"
  | _ => none
theorem tnm_int (i : Int) : tnm (.int i) = some "int" := rfl
theorem tnm_bl (b : Bool) : tnm (.bl b) = some "bool" := rfl
theorem tnm_str (x : Str) : tnm (.str x) = some "str" := rfl
theorem tnm_non : tnm .non = some "NoneType" := rfl
theorem tnm_ref (p : Addr) : tnm (.ref p) = none := rfl
theorem scal_ii (i j : Int) : scal (.int i) (.int j) = true := rfl
theorem scal_ss (i j : Str) : scal (.str i) (.str j) = true := rfl
theorem scal_bb (i j : Bool) : scal (.bl i) (.bl j) = true := rfl
theorem scal_nn : scal .non .non = true := rfl
theorem scal_in (i : Int) : scal (.int i) .non = true := rfl
theorem scal_ni (i : Int) : scal .non (.int i) = true := rfl
def rIsiB : List V → Hp → VK → Prop := fun vs H Q => (∃ x n a b, vs = [x, .ty n] ∧ tnm x = some a ∧ kitB a n = some b ∧ Q (.bl b) H) ∨
  (∃ p n xs b, vs = [.ref p, .ty n] ∧ H p = some (.lst xs) ∧ kitB "list" n = some b ∧ Q (.bl b) H) ∨ ∃ p n xs b, vs = [.ref p, .ty n] ∧ H p = some (.tup xs) ∧ kitB "tuple" n = some b ∧ Q (.bl b) H
theorem call_isiB : CallR X (.builtin "isinstance") rIsiB := CallR.of call_isi (by
  intro vs H Q h
  rcases h with ⟨x, n, a, b, rfl, ha, hb, q⟩ | ⟨p, n, xs, b, rfl, ha, hb, q⟩ | ⟨p, n, xs, b, rfl, ha, hb, q⟩
  · refine ⟨x, .ty n, .type a, .type n, b, rfl, .ty n, ?_, kit_ty hb, q⟩
    cases x <;> cases ha
    · exact .base .non
    · exact .base (.bl _)
    · exact .base (.int _)
    · exact .base (.str _)
  · exact ⟨.ref p, .ty n, .type "list", .type n, b, rfl, .ty n, .base (.lst ha), kit_ty hb, q⟩
  · exact ⟨.ref p, .ty n, .type "tuple", .type n, b, rfl, .ty n, .base (.tup ha), kit_ty hb, q⟩)
theorem kb1 : kitB "int" "int" = some true := by decide +kernel
theorem kb2 : kitB "int" "bool" = some false := by decide +kernel
theorem kb3 : kitB "bool" "bool" = some true := by decide +kernel
theorem kb4 : kitB "bool" "int" = some true := by decide +kernel
theorem kb5 : kitB "str" "str" = some true := by decide +kernel
theorem kb6 : kitB "str" "int" = some false := by decide +kernel
theorem kb7 : kitB "list" "list" = some true := by decide +kernel
theorem kb8 : kitB "tuple" "tuple" = some true := by decide +kernel
theorem kb9 : kitB "NoneType" "int" = some false := by decide +kernel
theorem kb10 : kitB "NoneType" "list" = some false := by decide +kernel
/-- len, a copy, an item of a tracked list -/
def rLenH : List V → Hp → VK → Prop := fun vs H Q => ∃ p xs, vs = [.ref p] ∧ H p = some (.lst xs) ∧ Q (.int xs.length) H
theorem call_lenH : CallR X (.builtin "len") rLenH := CallR.of call_len_seq (by
  rintro vs H Q ⟨p, xs, rfl, h, q⟩
  exact ⟨p, xs, rfl, .inl (.inl (.inl h)), q⟩)
def rLenT : List V → Hp → VK → Prop := fun vs H Q => ∃ p xs, vs = [.ref p] ∧ H p = some (.tup xs) ∧ Q (.int xs.length) H
theorem call_lenT : CallR X (.builtin "len") rLenT := CallR.of call_len_seq (by
  rintro vs H Q ⟨p, xs, rfl, h, q⟩
  exact ⟨p, xs, rfl, .inr (.inl (.inl h)), q⟩)
def rListH : List V → Hp → VK → Prop := fun vs H Q => ∃ p xs, vs = [.ref p] ∧ H p = some (.lst xs) ∧ ∀ l, H l = none → Q (.ref l) (upd H l (.lst xs))
theorem call_listH : CallR X (.type "list") rListH := CallR.of call_list_of (by
  rintro vs H Q ⟨p, xs, rfl, h, q⟩
  exact ⟨p, xs, rfl, .inl (.inl (.inl h)), q⟩)
theorem ints_dp {K : PySem.W.Frag} {H : Hp} : ∀ ns : List Int, DpAll K H (ns.map V.int) (ns.map PyData.int)
  | [] => .nil
  | n :: r => .cons (.int n) (ints_dp r)
theorem ints_eqv : ∀ ns ms : List Int, PyData.eqvAll (ns.map PyData.int) (ms.map PyData.int) = decide (ns = ms)
  | [], [] => by simp [PyData.eqvAll]
  | [], _ :: _ => by simp [PyData.eqvAll]
  | _ :: _, [] => by simp [PyData.eqvAll]
  | n :: r, m :: q => by
    rw [List.map_cons, List.map_cons, PyData.eqvAll, ints_eqv r q]
    simp only [PyData.eqv, List.cons.injEq, Bool.decide_and]
    by_cases h : n = m <;> simp [h]
theorem ints_lay : ∀ ns : List Int, PyData.canLayAll0 (ns.map PyData.int) = true
  | [] => rfl
  | _ :: r => by rw [List.map_cons, PyData.canLayAll0, ints_lay r]; rfl
theorem ints_depth : ∀ ns : List Int, PyData.depthAll (ns.map PyData.int) = 0
  | [] => rfl
  | _ :: r => by rw [List.map_cons, PyData.depthAll, ints_depth r]; rfl
theorem ints_shaped (ns : List Int) : SeqAt.shaped (.list (ns.map PyData.int)) = true := by
  unfold SeqAt.shaped
  rw [PyData.canLay0, ints_lay, PyData.depth, ints_depth]
  rfl
/-- == and != of two tracked lists of ints -/
def rEqIL : R2 := fun x y H Q => ∃ a b ns ms, x = .ref a ∧ y = .ref b ∧ H a = some (.lst (List.map V.int ns)) ∧ H b = some (.lst (List.map V.int ms)) ∧ Q (.bl (decide (ns = ms))) H
theorem op_eqIL (hu : X.A.units + 64 < cLine) : OpR X (compareOp .Eq) rEqIL := OpR.of (op_eqD hu) (by
  rintro x y H Q ⟨a, b, ns, ms, rfl, rfl, ha, hb, q⟩
  refine ⟨_, _, .lst (.inl (.inl ha)) (ints_dp ns), .lst (.inl (.inl hb)) (ints_dp ms), ints_shaped ns, ints_shaped ms, ?_⟩
  rw [PyData.eqv, ints_eqv]
  exact q)
def rNeIL : R2 := fun x y H Q => ∃ a b ns ms, x = .ref a ∧ y = .ref b ∧ H a = some (.lst (List.map V.int ns)) ∧ H b = some (.lst (List.map V.int ms)) ∧ Q (.bl (!decide (ns = ms))) H
theorem op_neIL (hu : X.A.units + 64 < cLine) : OpR X (compareOp .NotEq) rNeIL := OpR.of (op_neD hu) (by
  rintro x y H Q ⟨a, b, ns, ms, rfl, rfl, ha, hb, q⟩
  refine ⟨_, _, .lst (.inl (.inl ha)) (ints_dp ns), .lst (.inl (.inl hb)) (ints_dp ms), ints_shaped ns, ints_shaped ms, ?_⟩
  rw [PyData.eqv, ints_eqv]
  exact q)
/-- == of two tracked tuples of plain things -/
def dS : V → PyData
  | .int i => .int i
  | .bl b => .bool b
  | _ => .none
def isS : V → Bool
  | .int _ => true
  | .bl _ => true
  | .non => true
  | _ => false
theorem isS_dp {K : PySem.W.Frag} {H : Hp} : ∀ xs : List V, xs.all isS = true → DpAll K H xs (xs.map dS)
  | [], _ => .nil
  | x :: r, h => by
    rw [List.all_cons, Bool.and_eq_true] at h
    refine .cons ?_ (isS_dp r h.2)
    have h1 := h.1
    cases x <;> first | exact .int _ | exact .bl _ | exact .non | cases h1
theorem isS_lay : ∀ xs : List V, PyData.canLayAll0 (xs.map dS) = true
  | [] => rfl
  | x :: r => by rw [List.map_cons, PyData.canLayAll0, isS_lay r]; cases x <;> rfl
theorem isS_depth : ∀ xs : List V, PyData.depthAll (xs.map dS) = 0
  | [] => rfl
  | x :: r => by rw [List.map_cons, PyData.depthAll, isS_depth r]; cases x <;> rfl
theorem isS_shaped (xs : List V) : SeqAt.shaped (.tuple (xs.map dS)) = true := by
  unfold SeqAt.shaped
  rw [PyData.canLay0, isS_lay, PyData.depth, isS_depth]
  rfl
def rEqTS : R2 := fun x y H Q => ∃ a b xs ys, x = .ref a ∧ y = .ref b ∧ H a = some (.tup xs) ∧ H b = some (.tup ys) ∧ xs.all isS = true ∧ ys.all isS = true ∧ Q (.bl (PyData.eqvAll (xs.map dS) (ys.map dS))) H
theorem op_eqTS (hu : X.A.units + 64 < cLine) : OpR X (compareOp .Eq) rEqTS := OpR.of (op_eqD hu) (by
  rintro x y H Q ⟨a, b, xs, ys, rfl, rfl, ha, hb, h1, h2, q⟩
  refine ⟨_, _, .tup (.inl (.inl ha)) (isS_dp xs h1), .tup (.inl (.inl hb)) (isS_dp ys h2), isS_shaped xs, isS_shaped ys, ?_⟩
  rw [PyData.eqv]
  exact q)
theorem dS_int (i : Int) : dS (.int i) = .int i := rfl
theorem dS_bl (b : Bool) : dS (.bl b) = .bool b := rfl
theorem isS_int (i : Int) : isS (.int i) = true := rfl
theorem isS_bl (b : Bool) : isS (.bl b) = true := rfl
theorem eqv_ii (i j : Int) : PyData.eqv (.int i) (.int j) = decide (i = j) := by rw [PyData.eqv]; rfl
theorem eqv_bb (i j : Bool) : PyData.eqv (.bool i) (.bool j) = decide (i = j) := by rw [PyData.eqv]; cases i <;> cases j <;> rfl
theorem eqvAll_nil : PyData.eqvAll [] [] = true := by rw [PyData.eqvAll]
theorem eqvAll_cons (x y : PyData) (xs ys : List PyData) : PyData.eqvAll (x :: xs) (y :: ys) = (PyData.eqv x y && PyData.eqvAll xs ys) := by rw [PyData.eqvAll]
theorem ip_of {op : Operator} {r : R2} (h : OpR X (inplaceOp op) r) : PIp X op r := fun pins s σ H x y v u Q I r1 r2 q => h pins s σ H x y v u Q I r1 r2 q
theorem SlR.of {r r' : V → Option Int → Option Int → Hp → VK → Prop} (h : SlR X r) (k : ∀ x lo hi H Q, r' x lo hi H Q → r x lo hi H Q) : SlR X r' := fun pins s σ H x v vl vu lo hi sl Q I rx hs pl pu q => h pins s σ H x v vl vu lo hi sl Q I rx hs pl pu (k x lo hi H Q q)
/-- a slice of a tracked list -/
def rSlH : V → Option Int → Option Int → Hp → VK → Prop := fun x lo hi H Q => ∃ a xs, x = .ref a ∧ H a = some (.lst xs) ∧ ∀ p, H p = none → Q (.ref p) (upd H p (.lst (cutV xs lo hi)))
theorem sl_listH : SlR X rSlH := SlR.of sl_list (by
  rintro x lo hi H Q ⟨a, xs, rfl, h, q⟩
  exact ⟨a, xs, rfl, .inl (.inl h), q⟩)
/-- == and != of two tracked pairs of a list of ints and an int -/
theorem li_dp {K : PySem.W.Frag} {H : Hp} {q : Addr} {l : Int} {ns : List Int} (hq : H q = some (.lst (List.map V.int ns))) : DpAll K H [.ref q, .int l] [.list (ns.map PyData.int), .int l] := .cons (.lst (.inl (.inl hq)) (ints_dp ns)) (.cons (.int l) .nil)
theorem li_shaped (ns : List Int) (l : Int) : SeqAt.shaped (.tuple [.list (ns.map PyData.int), .int l]) = true := by
  unfold SeqAt.shaped
  rw [PyData.canLay0, PyData.canLayAll0, PyData.canLay0, ints_lay, PyData.canLayAll0, PyData.depth, PyData.depthAll, PyData.depth, ints_depth, PyData.depthAll]
  rfl
theorem li_eqv (ns ms : List Int) (l m : Int) : PyData.eqv (.tuple [.list (ns.map PyData.int), .int l]) (.tuple [.list (ms.map PyData.int), .int m]) = (decide (ns = ms) && decide (l = m)) := by
  rw [PyData.eqv, PyData.eqvAll, PyData.eqvAll, PyData.eqvAll, PyData.eqv, PyData.eqv, ints_eqv, Bool.and_true]
  rfl
def rEqLI : R2 := fun x y H Q => ∃ a b q r l m ns ms, x = .ref a ∧ y = .ref b ∧ H a = some (.tup [.ref q, .int l]) ∧ H b = some (.tup [.ref r, .int m]) ∧ H q = some (.lst (List.map V.int ns)) ∧ H r = some (.lst (List.map V.int ms)) ∧ Q (.bl (decide (ns = ms) && decide (l = m))) H
theorem op_eqLI (hu : X.A.units + 64 < cLine) : OpR X (compareOp .Eq) rEqLI := OpR.of (op_eqD hu) (by
  rintro x y H Q ⟨a, b, q, r, l, m, ns, ms, rfl, rfl, ha, hb, hq, hr, k⟩
  refine ⟨_, _, .tup (.inl (.inl ha)) (li_dp hq), .tup (.inl (.inl hb)) (li_dp hr), li_shaped ns l, li_shaped ms m, ?_⟩
  rw [li_eqv]
  exact k)
def rNeLI : R2 := fun x y H Q => ∃ a b q r l m ns ms, x = .ref a ∧ y = .ref b ∧ H a = some (.tup [.ref q, .int l]) ∧ H b = some (.tup [.ref r, .int m]) ∧ H q = some (.lst (List.map V.int ns)) ∧ H r = some (.lst (List.map V.int ms)) ∧ Q (.bl (!(decide (ns = ms) && decide (l = m)))) H
theorem op_neLI (hu : X.A.units + 64 < cLine) : OpR X (compareOp .NotEq) rNeLI := OpR.of (op_neD hu) (by
  rintro x y H Q ⟨a, b, q, r, l, m, ns, ms, rfl, rfl, ha, hb, hq, hr, k⟩
  refine ⟨_, _, .tup (.inl (.inl ha)) (li_dp hq), .tup (.inl (.inl hb)) (li_dp hr), li_shaped ns l, li_shaped ms m, ?_⟩
  rw [li_eqv]
  exact k)
def rIxH : R2 := fun x y H Q => ∃ p xs i v, x = .ref p ∧ y = .int i ∧ H p = some (.lst xs) ∧ atI xs i = some v ∧ Q v H
theorem IxR.of {r r' : R2} (h : IxR X r) (k : ∀ x y H Q, r' x y H Q → r x y H Q) : IxR X r' := fun va sl pins s σ H x y v u Q I rx ry q hs => h va sl pins s σ H x y v u Q I rx ry (k x y H Q q) hs
theorem ix_listH : IxR X rIxH := IxR.of ix_list (by
  rintro x y H Q ⟨p, xs, i, v, e1, e2, h, h2, q⟩
  exact ⟨p, xs, i, v, e1, e2, .inl (.inl h), h2, q⟩)
def rIxTH : R2 := fun x y H Q => ∃ p xs i v, x = .ref p ∧ y = .int i ∧ H p = some (.tup xs) ∧ atI xs i = some v ∧ Q v H
theorem ix_tupH : IxR X rIxTH := IxR.of ix_tup (by
  rintro x y H Q ⟨p, xs, i, v, e1, e2, h, h2, q⟩
  exact ⟨p, xs, i, v, e1, e2, .inl (.inl h), h2, q⟩)
end
/-- a place in bounds -/
theorem ixN_in {n : Nat} {k : Int} (h0 : 0 ≤ k) (h1 : k < n) : ixN n k = some k.toNat := by
  unfold ixN
  rw [if_pos h0, if_pos h1]
theorem atI_in {xs : List Int} {k : Int} (h0 : 0 ≤ k) (h1 : k < xs.length) : ∃ b, xs[k.toNat]? = some b ∧ atI (xs.map V.int) k = some (.int b) := by
  have h : k.toNat < xs.length := by omega
  refine ⟨xs[k.toNat], List.getElem?_eq_getElem h, ?_⟩
  unfold atI
  rw [List.length_map, ixN_in h0 h1]
  show (xs.map V.int)[k.toNat]? = _
  rw [List.getElem?_map, List.getElem?_eq_getElem h]
  rfl
theorem mod_in (x : Int) {m : Int} (h : 0 < m) : 0 ≤ x % m ∧ x % m < m := ⟨Int.emod_nonneg x (by omega), Int.emod_lt_of_pos x h⟩
theorem atI_c0 {α : Type} (x : α) (xs : List α) : atI (x :: xs) 0 = some x := atI_nat (j := 0) rfl
theorem atI_c1 {α : Type} (x y : α) (xs : List α) : atI (x :: y :: xs) 1 = some y := atI_nat (j := 1) rfl
theorem atI_c2 {α : Type} (x y z : α) (xs : List α) : atI (x :: y :: z :: xs) 2 = some z := atI_nat (j := 2) rfl
theorem atI_c3 {α : Type} (x y z u : α) (xs : List α) : atI (x :: y :: z :: u :: xs) 3 = some u := atI_nat (j := 3) rfl

theorem tyV_upd {K : PySem.W.Frag} {H : Hp} {p : Addr} {xs : List V} : tyV K "list" (.ref p) (upd H p (.lst xs)) = True := eq_true (.inl ⟨rfl, xs, .inl (.inl upd_same)⟩)
theorem nil_sz : (0 ≤ sizeLine) = True := eq_true (Nat.zero_le _)
/-- what a for asks once its walk stands -/
def Loop (J : It) (g : TG) (tb : TS) (D : Ends) (σ : L2.St) (H1 : Hp) : Prop := ∃ W : Nat → Nat → L2.St → Hp → Prop, (∃ m, W 0 m σ H1) ∧ ∀ i m σ H, W i m σ H →
  (J.stop i H ∧ D.nx σ H) ∨ (J.go i H ∧ ∃ N : L2.St → Hp → Prop, (∀ σ' H', N σ' H' → ∃ m', m' < m ∧ W (i + 1) m' σ' H') ∧ ∀ x H', J.yld i H x H' → g x σ H' fun σ2 H2 => tb { D with nx := N, ct := N, bk := D.nx } σ2 H2)
theorem tFor_eq {wi : TI} {g : TG} {tb : TS} {D : Ends} {σ : L2.St} {H : Hp} : tFor wi g tb D σ H = wi σ H fun J H1 => Loop J g tb D σ H1 := rfl
theorem lp_range {n : Nat} {g : TG} {tb : TS} {D : Ends} {σ : L2.St} {H : Hp} (Pv : Nat → L2.St → Hp → Prop) (h0 : Pv 0 σ H)
    (hs : ∀ i σ H, i < n → Pv i σ H → g (.int i) σ H fun σ2 H2 => tb { D with nx := Pv (i + 1), ct := Pv (i + 1), bk := D.nx } σ2 H2) (hd : ∀ σ H, Pv n σ H → D.nx σ H) : Loop (Itr 0 n) g tb D σ H :=
  for_range (lo := 0) Pv h0 (fun i σ H a b => by have := hs i σ H a b; rw [Int.zero_add]; exact this) hd
theorem lp_list {K : PySem.W.Frag} {a : Addr} {xs : List V} {g : TG} {tb : TS} {D : Ends} {σ : L2.St} {H : Hp} (Pv : Nat → L2.St → Hp → Prop) (h0 : Pv 0 σ H) (hl : ∀ i σ H, i ≤ xs.length → Pv i σ H → SqL K H a xs)
    (hs : ∀ i x σ H, xs[i]? = some x → Pv i σ H → g x σ H fun σ2 H2 => tb { D with nx := Pv (i + 1), ct := Pv (i + 1), bk := D.nx } σ2 H2) (hd : ∀ σ H, Pv xs.length σ H → D.nx σ H) : Loop (Itl K a) g tb D σ H := for_list Pv h0 hl hs hd
/-- the same for a comprehension -/
def LcLoop (J : It) (g : TG) (tt : TT) (te : TE) (vs : List Nat) (σ : L2.St) (H1 : Hp) (Q : VK) : Prop := ∀ D, H1 D = none → ∃ W : Nat → Nat → Hp → Prop, (∃ m, W 0 m (upd H1 D (.lst []))) ∧ ∀ i m H, W i m H →
  (J.stop i H ∧ Q (.ref D) H) ∨ (J.go i H ∧ ∃ Nx : Hp → Prop, (∀ H', Nx H' → ∃ m', m' < m ∧ W (i + 1) m' H') ∧ ∀ x H', J.yld i H x H' → g x (wipe σ vs) H' fun σ2 H2 => wipe σ2 vs = wipe σ vs ∧ tt σ2 H2 fun b H3 =>
    if b = true then te σ2 H3 fun y H4 => ∃ acc, H4 D = some (.lst acc) ∧ acc.length < sizeLine ∧ Nx (upd H4 D (.lst (acc ++ [y]))) else Nx H3)
theorem tLc_eq {wi : TI} {g : TG} {tt : TT} {te : TE} {vs : List Nat} {σ : L2.St} {H : Hp} {Q : VK} : tLc wi g tt te vs σ H Q = wi σ H fun J H1 => LcLoop J g tt te vs σ H1 Q := rfl
/-- a comprehension over a list, whose elements leave the heap as it is: L i is what i turns have made -/
theorem lc_pure {K : PySem.W.Frag} {a : Addr} {xs : List V} {g : TG} {tt : TT} {te : TE} {vs : List Nat} {σ : L2.St} {H1 : Hp} {Q : VK} (L : Nat → List V) (hS : SqL K H1 a xs) (h0 : L 0 = [])
    (hs : ∀ i x D, xs[i]? = some x → H1 D = none → g x (wipe σ vs) (upd H1 D (.lst (L i))) fun σ2 H2 => wipe σ2 vs = wipe σ vs ∧ tt σ2 H2 fun b H3 =>
      if b = true then te σ2 H3 fun y H4 => ∃ acc, H4 D = some (.lst acc) ∧ acc.length < sizeLine ∧ upd H4 D (.lst (acc ++ [y])) = upd H1 D (.lst (L (i + 1))) else H3 = upd H1 D (.lst (L (i + 1))))
    (hd : ∀ D, H1 D = none → Q (.ref D) (upd H1 D (.lst (L xs.length)))) : LcLoop (Itl K a) g tt te vs σ H1 Q := by
  intro D hD
  refine lc_list (K := K) (a := a) (xs := xs) (fun i H => H = upd H1 D (.lst (L i))) (by rw [h0]) (fun i H _ e => ?_) (fun i x H hx e => ?_) (fun H e => ?_)
  · subst e
    exact (show Same H1 _ from fun b o e => by rw [upd_ne (ne_of_none e hD)]; exact e).seq hS
  · subst e
    exact hs i x D hx hD
  · subst e
    exact hd D hD
theorem lc_pure_range {n : Nat} {g : TG} {tt : TT} {te : TE} {vs : List Nat} {σ : L2.St} {H1 : Hp} {Q : VK} (L : Nat → List V) (h0 : L 0 = [])
    (hs : ∀ i D, i < n → H1 D = none → g (.int i) (wipe σ vs) (upd H1 D (.lst (L i))) fun σ2 H2 => wipe σ2 vs = wipe σ vs ∧ tt σ2 H2 fun b H3 =>
      if b = true then te σ2 H3 fun y H4 => ∃ acc, H4 D = some (.lst acc) ∧ acc.length < sizeLine ∧ upd H4 D (.lst (acc ++ [y])) = upd H1 D (.lst (L (i + 1))) else H3 = upd H1 D (.lst (L (i + 1))))
    (hd : ∀ D, H1 D = none → Q (.ref D) (upd H1 D (.lst (L n)))) : LcLoop (Itr 0 n) g tt te vs σ H1 Q := by
  intro D hD
  refine lc_range (lo := 0) (n := n) (fun i H => H = upd H1 D (.lst (L i))) (by rw [h0]) (fun i H hi e => ?_) (fun H e => ?_)
  · subst e
    rw [Int.zero_add]
    exact hs i D hi hD
  · subst e
    exact hd D hD
theorem lp_zip {K : PySem.W.Frag} {a b : Addr} {xs ys : List V} {g : TG} {tb : TS} {D : Ends} {σ : L2.St} {H : Hp} (hl : xs.length = ys.length) (Pv : Nat → L2.St → Hp → Prop) (h0 : Pv 0 σ H) (hq : ∀ i σ H, Pv i σ H → SqL K H a xs ∧ SqL K H b ys)
    (hs : ∀ (i : Nat) (x y : V) (T : Addr) (σ : L2.St) (H : Hp), xs[i]? = some x → ys[i]? = some y → Pv i σ H → H T = none → g (.ref T) σ (upd H T (.tup [x, y])) fun σ2 H2 => tb { D with nx := Pv (i + 1), ct := Pv (i + 1), bk := D.nx } σ2 H2) (hd : ∀ σ H, Pv xs.length σ H → D.nx σ H) :
    Loop (Itz K a b) g tb D σ H := RZ.for_zipL hl Pv h0 hq hs hd
theorem lc_str {x : Str} {g : TG} {tt : TT} {te : TE} {vs : List Nat} {σ : L2.St} {H1 : Hp} {Q : VK} (L : Nat → List V) (h0 : L 0 = [])
    (hs : ∀ i c D, x.cps[i]? = some c → H1 D = none → g (.str ⟨#[c]⟩) (wipe σ vs) (upd H1 D (.lst (L i))) fun σ2 H2 => wipe σ2 vs = wipe σ vs ∧ tt σ2 H2 fun b H3 =>
      if b = true then te σ2 H3 fun y H4 => ∃ acc, H4 D = some (.lst acc) ∧ acc.length < sizeLine ∧ upd H4 D (.lst (acc ++ [y])) = upd H1 D (.lst (L (i + 1))) else H3 = upd H1 D (.lst (L (i + 1))))
    (hd : ∀ D, H1 D = none → Q (.ref D) (upd H1 D (.lst (L x.cps.size)))) : LcLoop (Its x) g tt te vs σ H1 Q := by
  intro D hD
  refine ⟨fun i m H => m = x.cps.size - i ∧ i ≤ x.cps.size ∧ H = upd H1 D (.lst (L i)), ⟨x.cps.size, by simp, Nat.zero_le _, by rw [h0]⟩, ?_⟩
  rintro i m H ⟨rfl, hi, rfl⟩
  by_cases hlt : i < x.cps.size
  · refine .inr ⟨hlt, fun H' => H' = upd H1 D (.lst (L (i + 1))), fun H' p' => ⟨x.cps.size - (i + 1), by omega, rfl, hlt, p'⟩, fun v H' y => ?_⟩
    obtain ⟨e, c, hc, ev⟩ := y
    subst e ev
    exact hs i c D hc hD
  · have e : i = x.cps.size := by omega
    subst e
    exact .inl ⟨Nat.le_refl _, hd D hD⟩
theorem lc_rangeC {lo c : Int} {n : Nat} {g : TG} {tt : TT} {te : TE} {vs : List Nat} {σ : L2.St} {H1 : Hp} {Q : VK} (L : Nat → List V) (h0 : L 0 = [])
    (hs : ∀ i D, i < n → H1 D = none → g (.int (lo + (i : Nat) * c)) (wipe σ vs) (upd H1 D (.lst (L i))) fun σ2 H2 => wipe σ2 vs = wipe σ vs ∧ tt σ2 H2 fun b H3 =>
      if b = true then te σ2 H3 fun y H4 => ∃ acc, H4 D = some (.lst acc) ∧ acc.length < sizeLine ∧ upd H4 D (.lst (acc ++ [y])) = upd H1 D (.lst (L (i + 1))) else H3 = upd H1 D (.lst (L (i + 1))))
    (hd : ∀ D, H1 D = none → Q (.ref D) (upd H1 D (.lst (L n)))) : LcLoop (Itc lo c n) g tt te vs σ H1 Q := by
  intro D hD
  refine ⟨fun i m H => m = n - i ∧ i ≤ n ∧ H = upd H1 D (.lst (L i)), ⟨n, by simp, Nat.zero_le _, by rw [h0]⟩, ?_⟩
  rintro i m H ⟨rfl, hi, rfl⟩
  by_cases hlt : i < n
  · refine .inr ⟨hlt, fun H' => H' = upd H1 D (.lst (L (i + 1))), fun H' p' => ⟨n - (i + 1), by omega, rfl, hlt, p'⟩, fun v H' y => ?_⟩
    obtain ⟨e, ev⟩ := y
    subst e ev
    exact hs i D hlt hD
  · have e : i = n := by omega
    subst e
    exact .inl ⟨Nat.le_refl _, hd D hD⟩
theorem small_two {a b : Int} (ha : -(2 ^ 62) ≤ a) (ha' : a < 2 ^ 62) (hb : -(2 ^ 62) ≤ b) (hb' : b < 2 ^ 62) : Builtin.Range.small a b 2 = true := by
  unfold Builtin.Range.small Builtin.Range.rangeSize
  simp only [Builtin.Range.rangeFitsLong, Bool.and_eq_true, Bool.or_eq_true, decide_eq_true_eq, beq_iff_eq, show ((2 : Int) > 0) by decide, if_true]
  split <;> omega
theorem rg_two {n : Nat} (h : n < 1000000) : RgC 0 ((n : Int) - 1) 2 (n / 2) := by
  refine ⟨by decide, by decide, small_two (by decide) (by decide) (by omega) (by omega), ?_⟩
  unfold Builtin.Range.rangeSize
  rw [if_pos (by decide)]
  split <;> omega
theorem wh_by {c : TT} {tb : TS} {D : Ends} {σ : L2.St} {H : Hp} (W : Nat → L2.St → Hp → Prop) (m : Nat) (h0 : W m σ H)
    (hs : ∀ m σ H, W m σ H → c σ H fun b H1 => if b = true then ∃ N : L2.St → Hp → Prop, (∀ σ' H', N σ' H' → ∃ m', m' < m ∧ W m' σ' H') ∧ tb { D with nx := N, ct := N, bk := D.nx } σ H1 else D.nx σ H1) : tWhile c tb D σ H := ⟨W, ⟨m, h0⟩, hs⟩
theorem lc_rng {n : Nat} {g : TG} {tt : TT} {te : TE} {vs : List Nat} {σ : L2.St} {H1 : Hp} {Q : VK} (Pv : Addr → Nat → Hp → Prop) (h0 : ∀ D, H1 D = none → Pv D 0 (upd H1 D (.lst [])))
    (hs : ∀ D i H, i < n → H1 D = none → Pv D i H → g (.int i) (wipe σ vs) H fun σ2 H2 => wipe σ2 vs = wipe σ vs ∧ tt σ2 H2 fun b H3 =>
      if b = true then te σ2 H3 fun y H4 => ∃ acc, H4 D = some (.lst acc) ∧ acc.length < sizeLine ∧ Pv D (i + 1) (upd H4 D (.lst (acc ++ [y]))) else Pv D (i + 1) H3)
    (hd : ∀ D H, H1 D = none → Pv D n H → Q (.ref D) H) : LcLoop (Itr 0 n) g tt te vs σ H1 Q := by
  intro D hD
  refine lc_range (lo := 0) (n := n) (Pv D) (h0 D hD) (fun i H hi p => ?_) (fun H p => hd D H hD p)
  rw [Int.zero_add]
  exact hs D i H hi hD p
theorem same_upd {H : Hp} {p : Addr} {o : HO} (h : H p = none) : Same H (upd H p o) := fun b x e => by
  rw [upd_ne (ne_of_none e h)]
  exact e
theorem same_upd2 {H H' : Hp} {q : Addr} {o : HO} (s : Same H H') (h : H q = none) : Same H (upd H' q o) := fun b x e => by
  rw [upd_ne (ne_of_none e h)]
  exact s b x e

/-! ### fresh objects: the heap behind one as a heap of its own -/
def NewH (H : Hp) (o : HO) (k : Addr → Hp → Prop) : Prop := ∀ p H', Same H H' → H p = none → H' p = some o → k p H'
theorem NewH.go {H : Hp} {o : HO} {k : Addr → Hp → Prop} (h : NewH H o k) : ∀ p, H p = none → k p (upd H p o) := fun p hp => h p _ (same_upd hp) hp upd_same
section
variable {X : Cx} {es : List Expr} {t : TA} {pos : Pos}
theorem pa_mono (h : PA X es t) : PA X es (fun σ H Q => ∃ Q', t σ H Q' ∧ ∀ xs H1, Q' xs H1 → Q xs H1) := ⟨fun pos pins s σ H Q I ⟨_, q, k⟩ => thn (h.run pos pins s σ H _ I q) fun _ _ ⟨vs, H', I', r, q'⟩ => ⟨vs, H', I', r, k _ _ q'⟩⟩
theorem PE.of {e : Expr} {t t' : TE} (h : PE X e t) (k : ∀ σ H Q, t' σ H Q → t σ H Q) : PE X e t' := ⟨fun pins s σ H Q I q => h.run pins s σ H Q I (k _ _ _ q)⟩
def tTupS (t : TA) : TE := fun σ H Q => t σ H fun xs H1 => xs.length ≤ sizeLine ∧ NewH H1 (.tup xs) fun p H' => Q (.ref p) H'
def tLstS (t : TA) : TE := fun σ H Q => t σ H fun xs H1 => xs.length ≤ sizeLine ∧ NewH H1 (.lst xs) fun p H' => Q (.ref p) H'
theorem pe_tupS {x1} (h : PA X es t) : PE X (.Tuple es x1 pos) (tTupS t) := PE.of (pe_tup (pa_mono h)) fun σ H Q q => ⟨_, q, fun _ _ z => ⟨z.1, z.2.go⟩⟩
theorem pe_lstS (h : PA X es t) : PE X (.List es pos) (tLstS t) := PE.of (pe_lst (pa_mono h)) fun σ H Q q => ⟨_, q, fun _ _ z => ⟨z.1, z.2.go⟩⟩
def rListS : List V → Hp → VK → Prop := fun vs H Q => ∃ p xs, vs = [.ref p] ∧ H p = some (.lst xs) ∧ NewH H (.lst xs) fun l H' => Q (.ref l) H'
theorem call_listS : CallR X (.type "list") rListS := CallR.of call_listH fun vs H Q ⟨p, xs, e, h, q⟩ => ⟨p, xs, e, h, q.go⟩
/-- list(t) of a tuple -/
def rListT : List V → Hp → VK → Prop := fun vs H Q => ∃ p xs, vs = [.ref p] ∧ H p = some (.tup xs) ∧ NewH H (.lst xs) fun l H' => Q (.ref l) H'
theorem call_listT : CallR X (.type "list") rListT := CallR.of call_list_of fun vs H Q ⟨p, xs, e, h, q⟩ => ⟨p, xs, e, .inr (.inl (.inl h)), q.go⟩
/-- tuple(xs) of a tracked list -/
def rTupleL : List V → Hp → VK → Prop := fun vs H Q => ∃ p xs, vs = [.ref p] ∧ H p = some (.lst xs) ∧ NewH H (.tup xs) fun l H' => Q (.ref l) H'
theorem call_tupleL : CallR X (.type "tuple") rTupleL := CallR.of call_tuple_of fun vs H Q ⟨p, xs, e, h, q⟩ => ⟨p, xs, e, .inl ⟨.inl (.inl h), q.go⟩⟩
def rCatL : R2 := fun x y H Q => ∃ l b xs zs, x = .ref l ∧ y = .ref b ∧ H l = some (.lst xs) ∧ H b = some (.lst zs) ∧ xs.length + zs.length ≤ sizeLine ∧ NewH H (.lst (xs ++ zs)) fun p H' => Q (.ref p) H'
theorem op_catS : OpR X (binaryOp .Add) rCatL := OpR.of op_cat fun x y H Q ⟨l, b, xs, zs, e1, e2, h1, h2, z, q⟩ => ⟨l, b, xs, zs, e1, e2, h1, h2, z, q.go⟩
/-- [x] * n -/
def rRepS : R2 := fun x y H Q => ∃ l k v, x = .ref l ∧ y = .int k ∧ H l = some (.lst [v]) ∧ k ≤ 16777216 ∧ -(2 ^ 62) ≤ k ∧ NewH H (.lst (List.replicate k.toNat v)) fun p H' => Q (.ref p) H'
theorem rep_flat {α : Type} (n : Nat) (y : α) : (List.replicate n [y]).flatten = List.replicate n y := by
  induction n with
  | zero => rfl
  | succ n ih => rw [List.replicate_succ, List.flatten_cons, ih, List.replicate_succ]; rfl
theorem op_repS : OpR X (binaryOp .Mult) rRepS := OpR.of op_rep fun x y H Q ⟨l, k, v, e1, e2, h1, z1, z2, q⟩ => ⟨l, k, [v], e1, e2, h1, by omega, by omega, by
    rw [List.length_singleton, show sizeLine = 16777216 from rfl]; omega, by rw [rep_flat]; exact q.go⟩
def rSlS : V → Option Int → Option Int → Hp → VK → Prop := fun x lo hi H Q => ∃ a xs, x = .ref a ∧ H a = some (.lst xs) ∧ NewH H (.lst (cutV xs lo hi)) fun p H' => Q (.ref p) H'
theorem sl_listS : SlR X rSlS := SlR.of sl_listH fun x lo hi H Q ⟨a, xs, e, h, q⟩ => ⟨a, xs, e, h, q.go⟩
theorem pe_mono {e : Expr} {t : TE} (h : PE X e t) : PE X e (fun σ H Q => ∃ Q', t σ H Q' ∧ ∀ v H1, Q' v H1 → Q v H1) := ⟨fun pins s σ H Q I ⟨_, q, k⟩ => thn (h.run pins s σ H _ I q) fun _ _ ⟨v, H', I', r, q'⟩ => ⟨v, H', I', r, k _ _ q'⟩⟩
theorem PG.of {e : Expr} {t t' : TG} (h : PG X e t) (k : ∀ v σ H Q, t' v σ H Q → t v σ H Q) : PG X e t' := ⟨fun pins s σ H v u Q I r q => h.run pins s σ H v u Q I r (k _ _ _ _ q)⟩
theorem PI.of {tg e : Expr} {t t' : TI} (h : PI X tg e t) (k : ∀ σ H R, t' σ H R → t σ H R) : PI X tg e t' := ⟨fun pins s σ H R I q => h.run pins s σ H R I (k _ _ _ q)⟩
def gTupS (n : Nat) (t : TGs) : TG := fun v σ H Q => ∃ a xs, v = .ref a ∧ H a = some (.tup xs) ∧ xs.length = n ∧ t xs σ H Q
theorem pg_tupS {k : Nat} {t : TGs} {n : Nat} (hc : X.calm = true) (h : PGs X es t) (hn : (assignEach es X.env).length = n := by rfl) (hst : (assignEach es X.env).findIdx? (·.1) = none := by rfl) : PG X (.Tuple es k pos) (gTupS n t) :=
  PG.of (pg_tup hc h hn hst) fun v σ H Q ⟨a, xs, e, g, l, q⟩ => ⟨a, xs, e, .inl (.inl g), l, q⟩
def gLstS (n : Nat) (t : TGs) : TG := fun v σ H Q => ∃ a xs, v = .ref a ∧ H a = some (.lst xs) ∧ xs.length = n ∧ t xs σ H Q
theorem pg_lstS {k : Nat} {t : TGs} {n : Nat} (hc : X.calm = true) (h : PGs X es t) (hn : (assignEach es X.env).length = n := by rfl) (hst : (assignEach es X.env).findIdx? (·.1) = none := by rfl) : PG X (.Tuple es k pos) (gLstS n t) :=
  PG.of (pg_lst hc h hn hst) fun v σ H Q ⟨a, xs, e, g, l, q⟩ => ⟨a, xs, e, .inl (.inl g), l, q⟩
def iListS (K : PySem.W.Frag) (tl : TE) : TI := fun σ H R => tl σ H fun x H1 => ∃ a xs, x = .ref a ∧ H1 a = some (.lst xs) ∧ R (Itl K a) H1
theorem pi_listS {tg l : Expr} {tl : TE} (hl : PE X l tl) : PI X tg l (iListS X.K tl) := PI.of (pi_list (pe_mono hl)) fun σ H R q => ⟨_, q, fun _ _ ⟨a, xs, e, g, r⟩ => ⟨a, e, ⟨xs, .inl (.inl g)⟩, r⟩⟩
def iTupS (K : PySem.W.Frag) (tl : TE) : TI := fun σ H R => tl σ H fun x H1 => ∃ a xs, x = .ref a ∧ H1 a = some (.tup xs) ∧ R (Itt K a) H1
theorem pi_tupS {tg l : Expr} {tl : TE} (hl : PE X l tl) : PI X tg l (iTupS X.K tl) := PI.of (pi_tup (pe_mono hl)) fun σ H R q => ⟨_, q, fun _ _ ⟨a, xs, e, g, r⟩ => ⟨a, e, ⟨xs, .inl (.inl g)⟩, r⟩⟩
def tML (r : V → List V → Hp → VK → Prop) (to : TE) (t : TA) : TE := fun σ H Q => to σ H fun x H1 => ∃ p xs, x = .ref p ∧ H1 p = some (.lst xs) ∧ t σ H1 fun ys H2 => r x ys H2 Q
theorem pe_ml {to : TE} {t : TA} {e : PySem.Expr} {K : PySem.W.Frag} {r : V → List V → Hp → VK → Prop} (h : PE X e (tBM K "list" r (fun σ H Q => ∃ Q', to σ H Q' ∧ ∀ v H1, Q' v H1 → Q v H1) t)) : PE X e (tML r to t) :=
  PE.of h fun σ H Q q => ⟨_, q, fun v H1 ⟨p, xs, e, g, z⟩ => ⟨by rw [e]; exact .inl ⟨rfl, xs, .inl (.inl g)⟩, z⟩⟩
def tML0 (r : V → List V → Hp → VK → Prop) (to : TE) : TE := fun σ H Q => to σ H fun x H1 => ∃ p xs, x = .ref p ∧ H1 p = some (.lst xs) ∧ r x [] H1 Q
theorem pe_ml0 {to : TE} {e : PySem.Expr} {K : PySem.W.Frag} {r : V → List V → Hp → VK → Prop} (h : PE X e (tBM0 K "list" r (fun σ H Q => ∃ Q', to σ H Q' ∧ ∀ v H1, Q' v H1 → Q v H1))) : PE X e (tML0 r to) :=
  PE.of h fun σ H Q q => ⟨_, q, fun v H1 ⟨p, xs, e, g, z⟩ => ⟨by rw [e]; exact .inl ⟨rfl, xs, .inl (.inl g)⟩, z⟩⟩
end
/-- loops and comprehensions over any walk -/
theorem lpW {J : It} {n : Nat} {G : Hp → Prop} {Y : Nat → Hp → V → Hp → Prop} (w : Walk J n G Y) {g : TG} {tb : TS} {D : Ends} {σ : L2.St} {H : Hp} (Pv : Nat → L2.St → Hp → Prop) (h0 : Pv 0 σ H) (hG : ∀ i σ H, i ≤ n → Pv i σ H → G H)
    (hs : ∀ i x σ H H', i < n → Pv i σ H → Y i H x H' → g x σ H' fun σ2 H2 => tb { D with nx := Pv (i + 1), ct := Pv (i + 1), bk := D.nx } σ2 H2) (hd : ∀ σ H, Pv n σ H → D.nx σ H) : Loop J g tb D σ H := for_it w Pv h0 hG hs hd
theorem lcW {J : It} {n : Nat} {G : Hp → Prop} {Y : Nat → Hp → V → Hp → Prop} (w : Walk J n G Y) {g : TG} {tt : TT} {te : TE} {vs : List Nat} {σ : L2.St} {H1 : Hp} {Q : VK} (Pv : Addr → Nat → Hp → Prop) (h0 : ∀ D H, Same H1 H → H1 D = none → H D = some (.lst []) → Pv D 0 H)
    (hG : ∀ D i H, H1 D = none → i ≤ n → Pv D i H → G H) (hs : ∀ D i x H H', i < n → H1 D = none → Pv D i H → Y i H x H' → g x (wipe σ vs) H' fun σ2 H2 => wipe σ2 vs = wipe σ vs ∧ tt σ2 H2 fun b H3 =>
      if b = true then te σ2 H3 fun y H4 => ∃ acc, H4 D = some (.lst acc) ∧ acc.length < sizeLine ∧ Pv D (i + 1) (upd H4 D (.lst (acc ++ [y]))) else Pv D (i + 1) H3)
    (hd : ∀ D H, H1 D = none → Pv D n H → Q (.ref D) H) : LcLoop J g tt te vs σ H1 Q :=
  fun D hD => lc_it w (Pv D) (h0 D _ (same_upd hD) hD upd_same) (fun i H hi p => hG D i H hD hi p) (fun i x H H' hi p y => hs D i x H H' hi hD p y) fun H p => hd D H hD p
theorem lcL {J : It} {n : Nat} {G : Hp → Prop} {Y : Nat → Hp → V → Hp → Prop} (w : Walk J n G Y) {g : TG} {tt : TT} {te : TE} {vs : List Nat} {σ : L2.St} {H1 : Hp} {Q : VK} (L : Nat → List V) (hz : L 0 = []) (hG : ∀ H, Same H1 H → G H)
    (hs : ∀ D i x H H', i < n → H1 D = none → Same H1 H → H D = some (.lst (L i)) → Y i H x H' → g x (wipe σ vs) H' fun σ2 H2 => wipe σ2 vs = wipe σ vs ∧ tt σ2 H2 fun b H3 =>
      if b = true then te σ2 H3 fun y H4 => ∃ acc, H4 D = some (.lst acc) ∧ acc.length < sizeLine ∧ Same H1 (upd H4 D (.lst (acc ++ [y]))) ∧ upd H4 D (.lst (acc ++ [y])) D = some (.lst (L (i + 1))) else Same H1 H3 ∧ H3 D = some (.lst (L (i + 1))))
    (hd : ∀ D H, Same H1 H → H1 D = none → H D = some (.lst (L n)) → Q (.ref D) H) : LcLoop J g tt te vs σ H1 Q :=
  lcW w (fun D i H => Same H1 H ∧ H D = some (.lst (L i))) (fun D H s _ g => ⟨s, by rw [g, hz]⟩) (fun _ _ H _ _ p => hG H p.1) (fun D i x H H' hi hD p y => hs D i x H H' hi hD p.1 p.2 y) fun D H hD p => hd D H p.1 hD p.2
theorem walkR {n : Nat} : Walk (Itr 0 n) n (fun _ => True) (YFn fun i => .int (i : Int)) := walk_range.mono (fun _ h => h) fun i H x H' _ _ y => ⟨y.1, by rw [y.2]; show V.int (0 + (i : Int)) = V.int (i : Int); rw [Int.zero_add]⟩
theorem walkL {K : PySem.W.Frag} {a : Addr} {xs : List V} : Walk (Itl K a) xs.length (fun H => H a = some (.lst xs)) (YAt xs) := (walk_list (K := K) (a := a) (xs := xs)).mono (fun _ h => .inl (.inl h)) fun _ _ _ _ _ _ y => y
theorem walkT {K : PySem.W.Frag} {a : Addr} {xs : List V} : Walk (Itt K a) xs.length (fun H => H a = some (.tup xs)) (YAt xs) := (walk_tup (K := K) (a := a) (xs := xs)).mono (fun _ h => .inl (.inl h)) fun _ _ _ _ _ _ y => y
/-- a list of ints is walked -/
def YInt (ns : List Int) : Nat → Hp → V → Hp → Prop := fun i H v H' => H' = H ∧ ∃ b, ns[i]? = some b ∧ v = .int b
theorem walkI {K : PySem.W.Frag} {a : Addr} {ns : List Int} : Walk (Itl K a) ns.length (fun H => H a = some (.lst (List.map V.int ns))) (YInt ns) := by
  have w := walkL (K := K) (a := a) (xs := List.map V.int ns)
  rw [List.length_map] at w
  refine w.mono (fun _ h => h) fun i H x H' _ _ y => ⟨y.1, ?_⟩
  have h := y.2
  rw [List.getElem?_map] at h
  obtain ⟨b, h1, rfl⟩ := Option.map_eq_some_iff.mp h
  exact ⟨b, h1, rfl⟩
theorem sqL_eq {K : PySem.W.Frag} {H : Hp} {a : Addr} {xs : List V} (h : H a = some (.lst xs)) : (∃ xs, SqL K H a xs) = True := eq_true ⟨_, .inl (.inl h)⟩
theorem sqT_eq {K : PySem.W.Frag} {H : Hp} {a : Addr} {xs : List V} (h : H a = some (.tup xs)) : (∃ xs, SqT K H a xs) = True := eq_true ⟨_, .inl (.inl h)⟩
theorem tyL_eq {K : PySem.W.Frag} {H : Hp} {p : Addr} {xs : List V} (h : H p = some (.lst xs)) : tyV K "list" (.ref p) H = True := eq_true (.inl ⟨rfl, xs, .inl (.inl h)⟩)
theorem Same.c2 {H H' : Hp} {a b : Addr} {x y : HO} (s : Same H H') (ga : H a = some x) (gb : H b = some y) : H' a = some x ∧ H' b = some y := ⟨s _ _ ga, s _ _ gb⟩
theorem map_int_inj {xs ys : List Int} : (List.map V.int xs = List.map V.int ys) = (xs = ys) := by
  refine propext ⟨fun h => ?_, fun h => by rw [h]⟩
  induction xs generalizing ys with
  | nil => cases ys with
    | nil => rfl
    | cons y q => cases h
  | cons x r ih => cases ys with
    | nil => cases h
    | cons y q =>
      rw [List.map_cons, List.map_cons, List.cons.injEq, V.int.injEq] at h
      rw [h.1, ih h.2]
theorem sz1 : (1 ≤ sizeLine) = True := eq_true (by decide)
theorem sz2 : (2 ≤ sizeLine) = True := eq_true (by decide)
theorem sz3 : (3 ≤ sizeLine) = True := eq_true (by decide)
theorem sz4 : (4 ≤ sizeLine) = True := eq_true (by decide)
theorem sz5 : (5 ≤ sizeLine) = True := eq_true (by decide)
theorem sz6 : (6 ≤ sizeLine) = True := eq_true (by decide)
theorem sz8 : (8 ≤ sizeLine) = True := eq_true (by decide)
/-- an item of a list of ints -/
def gN (ns : List Int) (i : Nat) : Int := ns.getD i 0
theorem at_g {ns : List Int} {i : Nat} (h : i < ns.length) : atI (ns.map V.int) (i : Int) = some (V.int (gN ns i)) := by
  refine atI_nat ?_
  rw [List.getElem?_map, List.getElem?_eq_getElem h]
  simp [gN, h]
theorem at_g' {ns : List Int} {k : Int} {i : Nat} (e : k = (i : Int)) (h : i < ns.length) : atI (ns.map V.int) k = some (V.int (gN ns i)) := by
  rw [e]
  exact at_g h
theorem iteT' {c : Bool} {a b : Prop} (h : c = true) (x : a) : if c = true then a else b := by rw [if_pos h]; exact x
theorem iteF' {c : Bool} {a b : Prop} (h : c = false) (x : b) : if c = true then a else b := by rw [if_neg (by rw [h]; decide)]; exact x
theorem iteB {c : Bool} {p : Prop} [Decidable p] {a b : Prop} (h : c = decide p) (x : p → a) (y : ¬ p → b) : if c = true then a else b := by
  subst h
  exact ite2 (fun e => x (of_decide_eq_true e)) fun e => y fun z => e (decide_eq_true z)
theorem iteD {p : Prop} [Decidable p] {a b : Prop} (x : p → a) (y : ¬ p → b) : if decide p = true then a else b := iteB rfl x y
def mx (x y : Int) : Int := if x < y then y else x
def mn (x y : Int) : Int := if y < x then y else x
theorem mx_eq (x y : Int) : (if x < y then y else x) = mx x y := rfl
theorem mn_eq (x y : Int) : (if y < x then y else x) = mn x y := rfl
theorem mx_le {x y z : Int} : mx x y ≤ z ↔ x ≤ z ∧ y ≤ z := by
  unfold mx
  split <;> omega
theorem lt_mn {x y z : Int} : z < mn x y ↔ z < x ∧ z < y := by
  unfold mn
  split <;> omega
theorem toNat_mul (m n : Nat) : ((m : Int) * (n : Int)).toNat = m * n := by rw [← Int.natCast_mul, Int.toNat_natCast]
theorem atI_lit {xs : List V} {k : Int} (h0 : 0 ≤ k) (h1 : k < xs.length) : ∃ v, atI xs k = some v ∧ v ∈ xs := by
  have h : k.toNat < xs.length := by omega
  refine ⟨xs[k.toNat], ?_, List.getElem_mem h⟩
  unfold atI
  rw [ixN_in h0 h1]
  exact List.getElem?_eq_getElem h
theorem atI_lits {xs : List Int} {k : Int} (h0 : 0 ≤ k) (h1 : k < xs.length) : ∃ v, atI (List.map V.int xs) k = some (.int v) ∧ v ∈ xs := by
  obtain ⟨v, h, hm⟩ := atI_lit (xs := List.map V.int xs) h0 (by rw [List.length_map]; exact h1)
  obtain ⟨i, hi, rfl⟩ := List.mem_map.mp hm
  exact ⟨i, h, hi⟩
theorem natOf {x : Int} (h : 0 ≤ x) : ∃ n : Nat, x = (n : Int) := ⟨x.toNat, by omega⟩
theorem map_cat (xs ys : List Int) : List.map V.int xs ++ List.map V.int ys = List.map V.int (xs ++ ys) := by rw [List.map_append]
theorem map_snoc (xs : List Int) (v : Int) : List.map V.int xs ++ [V.int v] = List.map V.int (xs ++ [v]) := by rw [List.map_append]; rfl
theorem map_setV (l : List Int) (i : Nat) (v : Int) : (List.map V.int l).set i (.int v) = List.map V.int (l.set i v) := by rw [List.map_set]
/-- all but one object stand as they stood -/
def But (a : Addr) (H H' : Hp) : Prop := ∀ b o, b ≠ a → H b = some o → H' b = some o
theorem But.refl (a : Addr) (H : Hp) : But a H H := fun _ _ _ h => h
theorem But.ofSame {a : Addr} {H H' : Hp} (s : Same H H') : But a H H' := fun b o _ h => s b o h
theorem But.trans {a : Addr} {H H1 H2 : Hp} (x : But a H H1) (y : But a H1 H2) : But a H H2 := fun b o n h => y b o n (x b o n h)
theorem But.put {a : Addr} {H H' : Hp} {o : HO} (x : But a H H') : But a H (upd H' a o) := fun b o' n h => by rw [upd_ne n]; exact x b o' n h
theorem But.same {a : Addr} {H H1 H' : Hp} (s : Same H H1) (x : But a H1 H') (h : H a = none) : Same H H' := fun b o e => x b o (ne_of_none e h) (s b o e)
/-- the cell k of the script -/
def cellA (ns : List Int) (k : Nat) : Int := ns.getD k 0
def absI (c : Int) : Int := if c < 0 then -c else c
theorem absI_eq (c : Int) : (if c < 0 then -c else c) = absI c := rfl
theorem absI_nn (c : Int) : 0 ≤ absI c := by
  unfold absI
  split <;> omega
section
variable {X : Cx}
/-- xs[i] op= e reads the item first -/
def rGetL : V → V → Hp → VK → Prop := fun x y H Q => ∃ p xs i v, x = .ref p ∧ y = .int i ∧ H p = some (.lst xs) ∧ 0 ≤ i ∧ i < 2 ^ 62 ∧ xs[i.toNat]? = some v ∧ Q v H
theorem pget_list : PGet X rGetL := by
  intro pins s σ H x y v u Q I rx ry h
  obtain ⟨p, xs, i, z, rfl, rfl, hp, h0, h1, he, q⟩ := h
  cases rx
  obtain ⟨t, rfl⟩ := ry
  obtain ⟨its, r, pl, _⟩ := I.list (.inl (.inl hp))
  obtain ⟨w, ew, rw'⟩ := r.get he
  exact getItem_listL pl.isList h0 (by omega) ew ⟨z, H, I, rw', q⟩
def iZipS (K : PySem.W.Frag) (ta : TA) : TI := fun σ H R => ta σ H fun vs H1 => ∃ a b xs ys, vs = [.ref a, .ref b] ∧ H1 a = some (.lst xs) ∧ H1 b = some (.lst ys) ∧ R (Itz K a b) H1
theorem pi_zipS {e e2 : Expr} {ta : TA} {p pos tpos : Pos} {elts : List Expr} {kk : Nat} (hg : Gl X "zip") (hm : X.mg "zip" = none) (ha : PA X [e, e2] ta) (hs : starEach [e, e2] X.env = (false, eval e X.env) :: starEach [e2] X.env := by rfl) (hpl : (backTo pos (starEach [e2] X.env)).any (·.1) = false := by rfl) :
    PI X (.Tuple elts kk tpos) (.Call (.Name "zip" p) [e, e2] [] pos) (iZipS X.K ta) := PI.of (pi_zip hg hm (pa_mono ha) hs hpl) fun σ H R q => ⟨_, q, fun vs H1 ⟨a, b, xs, ys, e, g1, g2, r⟩ => ⟨a, b, xs, ys, e, .inl (.inl g1), .inl (.inl g2), r⟩⟩
end
theorem walkZ {K : PySem.W.Frag} {a b : Addr} {xs ys : List V} {n : Nat} (hn : n = min xs.length ys.length) : Walk (Itz K a b) n (fun H => H a = some (.lst xs) ∧ H b = some (.lst ys)) (YPair (fun i => xs[i]?) (fun i => ys[i]?)) :=
  (walk_zip (K := K) (a := a) (b := b) hn).mono (fun _ h => ⟨.inl (.inl h.1), .inl (.inl h.2)⟩) fun _ _ _ _ _ _ y => y
theorem cutV_take {xs : List V} {n : Nat} : cutV xs none (some (n : Int)) = xs.take n := by
  unfold cutV
  rw [HT.sIx_nat, HT.sIx_none, List.drop_zero]
  by_cases h : n ≤ xs.length
  · rw [Nat.min_eq_left h, Nat.sub_zero]
  · rw [Nat.min_eq_right (by omega), Nat.sub_zero, List.take_of_length_le (Nat.le_refl _), List.take_of_length_le (by omega)]
theorem cutV_drop {xs : List V} {n : Nat} : cutV xs (some (n : Int)) none = xs.drop n := by
  unfold cutV
  rw [HT.sIx_nat, HT.sIx_none]
  by_cases h : n ≤ xs.length
  · rw [Nat.min_eq_left h, List.take_of_length_le (by rw [List.length_drop]; exact Nat.le_refl _)]
  · rw [Nat.min_eq_right (by omega), List.drop_of_length_le (Nat.le_refl _), List.drop_of_length_le (by omega), List.take_nil]
theorem cutI_take {xs : List Int} {n : Nat} : cutV (List.map V.int xs) none (some (n : Int)) = List.map V.int (xs.take n) := by rw [cutV_take, List.map_take]
theorem cutI_drop {xs : List Int} {n : Nat} : cutV (List.map V.int xs) (some (n : Int)) none = List.map V.int (xs.drop n) := by rw [cutV_drop, List.map_drop]
/-- two lists item by item -/
inductive All2 {α β : Type} (R : α → β → Prop) : List α → List β → Prop
  | nil : All2 R [] []
  | cons {x : α} {y : β} {xs : List α} {ys : List β} : R x y → All2 R xs ys → All2 R (x :: xs) (y :: ys)
section
variable {α β : Type} {R S : α → β → Prop}
theorem All2.len {xs : List α} {ys : List β} (h : All2 R xs ys) : xs.length = ys.length := by
  induction h with
  | nil => rfl
  | cons _ _ ih => rw [List.length_cons, List.length_cons, ih]
theorem All2.mono {xs : List α} {ys : List β} (h : All2 R xs ys) (k : ∀ x y, R x y → S x y) : All2 S xs ys := by
  induction h with
  | nil => exact .nil
  | cons r _ ih => exact .cons (k _ _ r) ih
theorem All2.app {xs xs' : List α} {ys ys' : List β} (h : All2 R xs ys) (k : All2 R xs' ys') : All2 R (xs ++ xs') (ys ++ ys') := by
  induction h with
  | nil => exact k
  | cons r _ ih => exact .cons r ih
theorem All2.snoc {xs : List α} {ys : List β} {x : α} {y : β} (h : All2 R xs ys) (r : R x y) : All2 R (xs ++ [x]) (ys ++ [y]) := h.app (.cons r .nil)
theorem All2.at {xs : List α} {ys : List β} (h : All2 R xs ys) {i : Nat} {x : α} (e : xs[i]? = some x) : ∃ y, ys[i]? = some y ∧ R x y := by
  induction h generalizing i with
  | nil => simp at e
  | cons r _ ih =>
    cases i with
    | zero => exact ⟨_, rfl, by simpa using (Option.some.inj e) ▸ r⟩
    | succ i => exact ih e
theorem All2.at' {xs : List α} {ys : List β} (h : All2 R xs ys) {i : Nat} {y : β} (e : ys[i]? = some y) : ∃ x, xs[i]? = some x ∧ R x y := by
  induction h generalizing i with
  | nil => simp at e
  | cons r _ ih =>
    cases i with
    | zero => exact ⟨_, rfl, by simpa using (Option.some.inj e) ▸ r⟩
    | succ i => exact ih e
theorem All2.take {xs : List α} {ys : List β} (h : All2 R xs ys) (n : Nat) : All2 R (xs.take n) (ys.take n) := by
  induction h generalizing n with
  | nil => rw [List.take_nil, List.take_nil]; exact .nil
  | cons r _ ih =>
    cases n with
    | zero => exact .nil
    | succ n => exact .cons r (ih n)
theorem All2.drop {xs : List α} {ys : List β} (h : All2 R xs ys) (n : Nat) : All2 R (xs.drop n) (ys.drop n) := by
  induction h generalizing n with
  | nil => rw [List.drop_nil, List.drop_nil]; exact .nil
  | cons r t ih =>
    cases n with
    | zero => exact .cons r t
    | succ n => exact ih n
end
theorem tup_upd {H : Hp} {a l : Addr} {xs ys : List V} {o : HO} (h : H a = some (.tup xs)) (g : H l = some (.lst ys)) : upd H l o a = some (.tup xs) := by
  rw [upd_ne (ne_of h g (by intro z; cases z))]
  exact h
theorem tup_but {H H' : Hp} {a l : Addr} {xs ys : List V} (bt : But l H H') (h : H a = some (.tup xs)) (g : H l = some (.lst ys)) : H' a = some (.tup xs) := bt _ _ (ne_of h g (by intro z; cases z)) h
theorem cutV_take1 {xs : List V} : cutV xs none (some 1) = xs.take 1 := cutV_take (n := 1)
theorem cutV_drop1 {xs : List V} : cutV xs (some 1) none = xs.drop 1 := cutV_drop (n := 1)
section
variable {X : Cx}
/-- the script: its length, an item -/
def rLenSc (K : PySem.W.Frag) (a : Addr) (ns : List Int) : List V → Hp → VK → Prop := fun vs H Q => vs = [.ref a] ∧ SqL K H a (List.map V.int ns) ∧ Q (.int ns.length) H
theorem call_lenSc (a : Addr) (ns : List Int) : CallR X (.builtin "len") (rLenSc X.K a ns) := CallR.of call_len_seq fun vs H Q ⟨e, h, q⟩ => ⟨a, List.map V.int ns, e, .inl h, by rw [List.length_map]; exact q⟩
def rIxSc (K : PySem.W.Frag) (a : Addr) (ns : List Int) : R2 := fun x y H Q => ∃ i, x = .ref a ∧ y = .int i ∧ SqL K H a (List.map V.int ns) ∧ 0 ≤ i ∧ i < ns.length ∧ Q (.int (gN ns i.toNat)) H
theorem ix_sc (a : Addr) (ns : List Int) : IxR X (rIxSc X.K a ns) := IxR.of ix_list fun x y H Q ⟨i, e1, e2, h, h0, h1, q⟩ => ⟨a, List.map V.int ns, i, _, e1, e2, h, at_g' (Int.toNat_of_nonneg h0).symm (by omega), q⟩
end
section
variable {X : Cx}
def rSumS : List V → Hp → VK → Prop := fun vs H Q => ∃ a ns, vs = [.ref a] ∧ H a = some (.lst (List.map V.int ns)) ∧ Q (.int ns.sum) H
theorem cr_sumS (hc : X.calm = true) : CallR X (.builtin "sum") rSumS := CallR.of (cr_sum hc) fun vs H Q ⟨a, ns, e, g, q⟩ => ⟨a, ns, e, .inl (.inl g), q⟩
end
section
variable {X : Cx}
/-- t[lo:hi]: t itself or a new tuple, in either case one of these items -/
def rSlTS : V → Option Int → Option Int → Hp → VK → Prop := fun x lo hi H Q => ∃ a xs, x = .ref a ∧ H a = some (.tup xs) ∧ ∀ p H', Same H H' → (p = a ∨ H p = none) → H' p = some (.tup (cutV xs lo hi)) → Q (.ref p) H'
theorem sl_tupS : SlR X rSlTS := SlR.of sl_tupA fun x lo hi H Q ⟨a, xs, e, g, q⟩ => ⟨a, xs, e, .inl (.inl g), fun z => q a H (Same.refl _) (.inl rfl) (by
    unfold cutV
    rw [z.1, z.2, List.drop_zero, Nat.sub_zero, List.take_length]
    exact g), fun _ p hp => q p _ (same_upd hp) (.inr hp) upd_same⟩
end
theorem cutV_take3 {xs : List V} : cutV xs none (some 3) = xs.take 3 := cutV_take (n := 3)
section
variable {X : Cx}
theorem PT.of {e : Expr} {t t' : TT} (h : PT X e t) (k : ∀ σ H Q, t' σ H Q → t σ H Q) : PT X e t' := ⟨fun pins s σ H Q I q => h.run pins s σ H Q I (k _ _ _ q)⟩
/-- a list's truth -/
def tTrL (ta : TE) : TT := fun σ H Q => ta σ H fun x H1 => ∃ p xs, x = .ref p ∧ H1 p = some (.lst xs) ∧ Q (decide (0 < xs.length)) H1
theorem pt_truthL {a : Expr} {ta : TE} (ha : PE X a ta) (he : ∀ whole, isTrue a X.env whole = (do let v ← whole; standAt a.pos; holding [v] (truthy v))) : PT X a (tTrL ta) :=
  PT.of (pt_truth (pe_mono ha) he) fun σ H Q q => ⟨_, q, fun x H1 ⟨p, xs, e, g, z⟩ => ⟨decide (0 < xs.length), by rw [e]; exact .inl ⟨xs, .inl (.inl g), by cases xs <;> simp⟩, z⟩⟩
def iEnumL (K : PySem.W.Frag) (ta : TA) : TI := fun σ H R => ta σ H fun vs H1 => ∃ a xs, vs = [.ref a] ∧ H1 a = some (.lst xs) ∧ R (Ite K a) H1
theorem pi_enumL {e : Expr} {ta : TA} {p pos tpos : Pos} {elts : List Expr} {kk : Nat} (hg : Gl X "enumerate") (hm : X.mg "enumerate" = none) (ha : PA X [e] ta) (hs : starEach [e] X.env = [(false, eval e X.env)] := by rfl) :
    PI X (.Tuple elts kk tpos) (.Call (.Name "enumerate" p) [e] [] pos) (iEnumL X.K ta) := PI.of (pi_enum hg hm (pa_mono ha) hs) fun σ H R q => ⟨_, q, fun vs H1 ⟨a, xs, e, g, r⟩ => ⟨a, xs, e, .inl (.inl g), r⟩⟩
end
theorem walkE {K : PySem.W.Frag} {a : Addr} {xs : List V} : Walk (Ite K a) xs.length (fun H => H a = some (.lst xs)) (YPair (fun i => some (.int (i : Nat))) (fun i => xs[i]?)) := (walk_enum (K := K) (a := a) (xs := xs)).mono (fun _ h => .inl (.inl h)) fun _ _ _ _ _ _ y => y
theorem seq_cut {s1 R : TS} {D : Ends} {σ : L2.St} {H : Hp} (I : L2.St → Hp → Prop) (h2 : ∀ σ H, I σ H → R D σ H) (h1 : ∀ C : L2.St → Hp → Prop, (∀ σ H, I σ H → C σ H) → s1 { D with nx := C } σ H) : tSeq s1 R D σ H := h1 _ h2
section
variable {X : Cx}
theorem inV_int (i : Int) : ∀ ns : List Int, inV (.int i) (List.map V.int ns) = decide (i ∈ ns)
  | [] => by simp [inV]
  | n :: r => by
    have ih := inV_int i r
    unfold inV at ih ⊢
    rw [List.map_cons, List.any_cons, ih]
    by_cases h : n = i
    · subst h; simp [eqV]
    · simp [eqV, h, Ne.symm h]
theorem flat_ints : ∀ ns : List Int, (List.map V.int ns).all flatV = true
  | [] => rfl
  | _ :: r => by rw [List.map_cons, List.all_cons, flat_ints r]; rfl
/-- an int in a list of ints -/
def rInI : R2 := fun x y H Q => ∃ i p ns, x = .int i ∧ y = .ref p ∧ H p = some (.lst (List.map V.int ns)) ∧ Q (.bl (decide (i ∈ ns))) H
theorem op_inI : OpR X (compareOp .In) rInI := OpR.of op_in_seq fun x y H Q ⟨i, p, ns, e1, e2, g, q⟩ => ⟨p, List.map V.int ns, e2, .inl (.inl (.inl g)), by rw [e1]; rfl, flat_ints ns, by rw [e1, inV_int]; exact q⟩
/-- xs.index(i): the first place -/
def rIndexI : V → List V → Hp → VK → Prop := fun x xs H Q => ∃ p ns i j, x = .ref p ∧ xs = [.int i] ∧ H p = some (.lst (List.map V.int ns)) ∧ ns[j]? = some i ∧ (∀ m, m < j → ns[m]? ≠ some i) ∧ Q (.int ((j : Nat) : Int)) H
theorem MtR.of {id : String} {r r' : V → List V → Hp → VK → Prop} (h : MtR X id r) (k : ∀ x xs H Q, r' x xs H Q → r x xs H Q) : MtR X id r' := fun pins s σ H x xs v us Q I rx rv q => h pins s σ H x xs v us Q I rx rv (k _ _ _ _ q)
theorem mt_indexI : MtR X "list.index" rIndexI := MtR.of mt_index fun x xs H Q ⟨p, ns, i, j, e1, e2, g, hj, hm, q⟩ =>
  ⟨p, List.map V.int ns, .int i, j, .int i, e1, e2, .inl (.inl g), rfl, flat_ints ns, by rw [List.getElem?_map, hj]; rfl, by simp [eqV], fun m z hmj hz => by
    rw [List.getElem?_map] at hz
    obtain ⟨b, h1, rfl⟩ := Option.map_eq_some_iff.mp hz
    have : b ≠ i := fun e => hm m hmj (e ▸ h1)
    simp [eqV, this], q⟩
end
def sl (ns : List Int) (i j : Nat) : List Int := (ns.drop i).take (j - i)
theorem cut_sl {ns : List Int} {i j : Nat} : cutV (List.map V.int ns) (some (i : Int)) (some (j : Int)) = List.map V.int (sl ns i j) := by
  unfold cutV sl
  rw [HT.sIx_nat, HT.sIx_nat, List.length_map, ← List.map_drop, ← List.map_take]
  congr 1
  by_cases h : i < ns.length
  · rw [Nat.min_eq_left (Nat.le_of_lt h)]
    by_cases h2 : j ≤ ns.length
    · rw [Nat.min_eq_left h2]
    · rw [Nat.min_eq_right (by omega), List.take_of_length_le (by rw [List.length_drop]; exact Nat.le_refl _), List.take_of_length_le (by rw [List.length_drop]; omega)]
  · rw [List.drop_eq_nil_of_le (by omega), List.drop_eq_nil_of_le (by omega), List.take_nil, List.take_nil]
theorem sl_len (ns : List Int) (i j : Nat) : (sl ns i j).length = min (j - i) (ns.length - i) := by
  unfold sl
  rw [List.length_take, List.length_drop]
/-- a dict comprehension -/
def DcLoop (J : It) (g : TG) (tt : TT) (tk tv : TE) (vs : List Nat) (σ : L2.St) (H1 : Hp) (Q : VK) : Prop := ∀ D, H1 D = none → ∃ W : Nat → Nat → Hp → Prop, (∃ m, W 0 m (upd H1 D (.dK []))) ∧ ∀ i m H, W i m H →
  (J.stop i H ∧ Q (.ref D) H) ∨ (J.go i H ∧ ∃ Nx : Hp → Prop, (∀ H', Nx H' → ∃ m', m' < m ∧ W (i + 1) m' H') ∧ ∀ x H', J.yld i H x H' → g x (wipe σ vs) H' fun σ2 H2 => wipe σ2 vs = wipe σ vs ∧ tt σ2 H2 fun b H3 =>
    if b = true then tk σ2 H3 fun y H4 => tv σ2 H4 fun z H5 => ∃ kvs k, y = kV k ∧ H5 D = some (.dK kvs) ∧ kvs.length < sizeLine ∧ Nx (upd H5 D (.dK (putK kvs k z))) else Nx H3)
theorem tDc_eq {wi : TI} {g : TG} {tt : TT} {tk tv : TE} {vs : List Nat} {σ : L2.St} {H : Hp} {Q : VK} : tDc wi g tt tk tv vs σ H Q = wi σ H fun J H1 => DcLoop J g tt tk tv vs σ H1 Q := rfl
theorem dcW {J : It} {n : Nat} {G : Hp → Prop} {Y : Nat → Hp → V → Hp → Prop} (w : Walk J n G Y) {g : TG} {tt : TT} {tk tv : TE} {vs : List Nat} {σ : L2.St} {H1 : Hp} {Q : VK} (Pv : Addr → Nat → Hp → Prop) (h0 : ∀ D H, Same H1 H → H1 D = none → H D = some (.dK []) → Pv D 0 H)
    (hG : ∀ D i H, H1 D = none → i ≤ n → Pv D i H → G H) (hs : ∀ D i x H H', i < n → H1 D = none → Pv D i H → Y i H x H' → g x (wipe σ vs) H' fun σ2 H2 => wipe σ2 vs = wipe σ vs ∧ tt σ2 H2 fun b H3 =>
      if b = true then tk σ2 H3 fun y H4 => tv σ2 H4 fun z H5 => ∃ kvs k, y = kV k ∧ H5 D = some (.dK kvs) ∧ kvs.length < sizeLine ∧ Pv D (i + 1) (upd H5 D (.dK (putK kvs k z))) else Pv D (i + 1) H3)
    (hd : ∀ D H, H1 D = none → Pv D n H → Q (.ref D) H) : DcLoop J g tt tk tv vs σ H1 Q := by
  intro D hD
  refine ⟨fun i m H => m = n - i ∧ i ≤ n ∧ Pv D i H, ⟨n, by simp, Nat.zero_le _, h0 D _ (same_upd hD) hD upd_same⟩, ?_⟩
  rintro i m H ⟨rfl, hi, p⟩
  have q := hG D i H hD hi p
  by_cases hlt : i < n
  · exact .inr ⟨w.goes i H hlt q, Pv D (i + 1), fun H' p' => ⟨n - (i + 1), by omega, rfl, hlt, p'⟩, fun x H' y => hs D i x H H' hlt hD p (w.yields i H x H' hlt q y)⟩
  · have e : i = n := by omega
    subst e
    exact .inl ⟨w.stops H q, hd D H hD p⟩

/-! ### data at any depth: what stands there, and == of it -/
structure Cod {α : Type} [DecidableEq α] (R : Hp → V → α → Prop) (f : α → PyData) (d : Nat) : Prop where
  dp : ∀ (K : PySem.W.Frag) H v a, R H v a → Dp K H v (f a)
  eq : ∀ a b, PyData.eqv (f a) (f b) = decide (a = b)
  lay : ∀ a, PyData.canLay0 (f a) = true
  dep : ∀ a, PyData.depth (f a) ≤ d
def IntV (_ : Hp) (v : V) (i : Int) : Prop := v = .int i
def LstV {α : Type} (R : Hp → V → α → Prop) (H : Hp) (v : V) (l : List α) : Prop := ∃ a vs, v = .ref a ∧ H a = some (.lst vs) ∧ All2 (R H) vs l
def TupV {α : Type} (R : Hp → V → α → Prop) (H : Hp) (v : V) (l : List α) : Prop := ∃ a vs, v = .ref a ∧ H a = some (.tup vs) ∧ All2 (R H) vs l
def Pr2V {α β : Type} (R : Hp → V → α → Prop) (S : Hp → V → β → Prop) (H : Hp) (v : V) (p : α × β) : Prop := ∃ a x y, v = .ref a ∧ H a = some (.tup [x, y]) ∧ R H x p.1 ∧ S H y p.2
def Pr3V {α β γ : Type} (R : Hp → V → α → Prop) (S : Hp → V → β → Prop) (T : Hp → V → γ → Prop) (H : Hp) (v : V) (p : α × β × γ) : Prop := ∃ a x y z, v = .ref a ∧ H a = some (.tup [x, y, z]) ∧ R H x p.1 ∧ S H y p.2.1 ∧ T H z p.2.2
theorem cod_int : Cod IntV PyData.int 0 := ⟨fun K H v a h => by rw [show v = .int a from h]; exact .int a, eqv_ii, fun _ => rfl, fun _ => Nat.le_refl _⟩
section
variable {α β γ : Type} [DecidableEq α] [DecidableEq β] [DecidableEq γ] {R : Hp → V → α → Prop} {S : Hp → V → β → Prop} {T : Hp → V → γ → Prop} {f : α → PyData} {g : β → PyData} {h : γ → PyData} {d e k : Nat}
theorem Cod.all (c : Cod R f d) {K : PySem.W.Frag} {H : Hp} {vs : List V} {l : List α} (a : All2 (R H) vs l) : DpAll K H vs (l.map f) := by
  induction a with
  | nil => exact .nil
  | cons r _ ih => exact .cons (c.dp _ _ _ _ r) ih
theorem Cod.eqAll (c : Cod R f d) : ∀ l m : List α, PyData.eqvAll (l.map f) (m.map f) = decide (l = m)
  | [], [] => by rw [List.map_nil, eqvAll_nil]; rfl
  | [], y :: s => by rw [List.map_nil, List.map_cons, PyData.eqvAll]; simp
  | x :: r, [] => by rw [List.map_nil, List.map_cons, PyData.eqvAll]; simp
  | x :: r, y :: s => by
    rw [List.map_cons, List.map_cons, eqvAll_cons, c.eq, Cod.eqAll c r s]
    simp only [List.cons.injEq, Bool.decide_and]
theorem Cod.layAll (c : Cod R f d) : ∀ l : List α, PyData.canLayAll0 (l.map f) = true
  | [] => rfl
  | x :: r => by rw [List.map_cons, PyData.canLayAll0, c.lay, Cod.layAll c r]; rfl
theorem Cod.depAll (c : Cod R f d) : ∀ l : List α, PyData.depthAll (l.map f) ≤ d
  | [] => by rw [List.map_nil, PyData.depthAll]; exact Nat.zero_le _
  | x :: r => by rw [List.map_cons, PyData.depthAll]; exact Nat.max_le.mpr ⟨c.dep x, Cod.depAll c r⟩
theorem cod_lst (c : Cod R f d) : Cod (LstV R) (fun l => .list (l.map f)) (d + 1) :=
  ⟨fun K H v l ⟨a, vs, e, ha, hv⟩ => by rw [e]; exact .lst (.inl (.inl ha)) (c.all hv), fun l m => by rw [PyData.eqv, c.eqAll], fun l => by rw [PyData.canLay0, c.layAll], fun l => by rw [PyData.depth]; exact Nat.succ_le_succ (c.depAll l)⟩
theorem cod_tup (c : Cod R f d) : Cod (TupV R) (fun l => .tuple (l.map f)) (d + 1) :=
  ⟨fun K H v l ⟨a, vs, e, ha, hv⟩ => by rw [e]; exact .tup (.inl (.inl ha)) (c.all hv), fun l m => by rw [PyData.eqv, c.eqAll], fun l => by rw [PyData.canLay0, c.layAll], fun l => by rw [PyData.depth]; exact Nat.succ_le_succ (c.depAll l)⟩
theorem cod_p2 (c : Cod R f d) (b : Cod S g e) : Cod (Pr2V R S) (fun p => .tuple [f p.1, g p.2]) (max d e + 1) :=
  ⟨fun K H v l ⟨a, x, y, e, ha, hx, hy⟩ => by rw [e]; exact .tup (.inl (.inl ha)) (.cons (c.dp _ _ _ _ hx) (.cons (b.dp _ _ _ _ hy) .nil)),
   fun l m => by
    rw [PyData.eqv, eqvAll_cons, eqvAll_cons, eqvAll_nil, c.eq, b.eq, Bool.and_true, ← Bool.decide_and]
    exact decide_eq_decide.mpr ⟨fun z => Prod.ext z.1 z.2, fun z => by rw [z]; exact ⟨rfl, rfl⟩⟩,
   fun l => by rw [PyData.canLay0, PyData.canLayAll0, PyData.canLayAll0, PyData.canLayAll0, c.lay, b.lay]; rfl,
   fun l => by
    rw [PyData.depth, PyData.depthAll, PyData.depthAll, PyData.depthAll]
    have h1 := c.dep l.1
    have h2 := b.dep l.2
    omega⟩
theorem cod_p3 (c : Cod R f d) (b : Cod S g e) (t : Cod T h k) : Cod (Pr3V R S T) (fun p => .tuple [f p.1, g p.2.1, h p.2.2]) (max d (max e k) + 1) :=
  ⟨fun K H v l ⟨a, x, y, z, e, ha, hx, hy, hz⟩ => by rw [e]; exact .tup (.inl (.inl ha)) (.cons (c.dp _ _ _ _ hx) (.cons (b.dp _ _ _ _ hy) (.cons (t.dp _ _ _ _ hz) .nil))),
   fun l m => by
    rw [PyData.eqv, eqvAll_cons, eqvAll_cons, eqvAll_cons, eqvAll_nil, c.eq, b.eq, t.eq, Bool.and_true, ← Bool.decide_and, ← Bool.decide_and]
    exact decide_eq_decide.mpr ⟨fun z => Prod.ext z.1 (Prod.ext z.2.1 z.2.2), fun z => by rw [z]; exact ⟨rfl, rfl, rfl⟩⟩,
   fun l => by rw [PyData.canLay0, PyData.canLayAll0, PyData.canLayAll0, PyData.canLayAll0, PyData.canLayAll0, c.lay, b.lay, t.lay]; rfl,
   fun l => by
    rw [PyData.depth, PyData.depthAll, PyData.depthAll, PyData.depthAll, PyData.depthAll]
    have h1 := c.dep l.1
    have h2 := b.dep l.2.1
    have h3 := t.dep l.2.2
    omega⟩
end
section
variable {X : Cx} {α : Type} [DecidableEq α] {R : Hp → V → α → Prop} {f : α → PyData} {d : Nat}
def rEqC (R : Hp → V → α → Prop) : R2 := fun x y H Q => ∃ a b, R H x a ∧ R H y b ∧ Q (.bl (decide (a = b))) H
def rNeC (R : Hp → V → α → Prop) : R2 := fun x y H Q => ∃ a b, R H x a ∧ R H y b ∧ Q (.bl (!decide (a = b))) H
theorem Cod.shaped (c : Cod R f d) (hd : d ≤ 64) (a : α) : SeqAt.shaped (f a) = true := by
  unfold SeqAt.shaped
  rw [c.lay, decide_eq_true (Nat.le_trans (c.dep a) hd)]
  rfl
theorem op_eqC (hu : X.A.units + 64 < cLine) (c : Cod R f d) (hd : d ≤ 64) : OpR X (compareOp .Eq) (rEqC R) := OpR.of (op_eqD hu) fun x y H Q ⟨a, b, ha, hb, q⟩ => ⟨f a, f b, c.dp _ _ _ _ ha, c.dp _ _ _ _ hb, c.shaped hd a, c.shaped hd b, by rw [c.eq]; exact q⟩
theorem op_neC (hu : X.A.units + 64 < cLine) (c : Cod R f d) (hd : d ≤ 64) : OpR X (compareOp .NotEq) (rNeC R) := OpR.of (op_neD hu) fun x y H Q ⟨a, b, ha, hb, q⟩ => ⟨f a, f b, c.dp _ _ _ _ ha, c.dp _ _ _ _ hb, c.shaped hd a, c.shaped hd b, by rw [c.eq]; exact q⟩
end
theorem ints_all {H : Hp} (ns : List Int) : All2 (IntV H) (List.map V.int ns) ns := by
  induction ns with
  | nil => exact .nil
  | cons n r ih => exact .cons rfl ih
theorem ints_of {H : Hp} {vs : List V} {ns : List Int} (h : All2 (IntV H) vs ns) : vs = List.map V.int ns := by
  induction h with
  | nil => rfl
  | cons r _ ih => rw [List.map_cons, ih, show _ = V.int _ from r]
theorem intL {H : Hp} {a : Addr} {ns : List Int} (g : H a = some (.lst (List.map V.int ns))) : LstV IntV H (.ref a) ns := ⟨a, _, rfl, g, ints_all ns⟩
theorem lsv_mono {H H' : Hp} (s : Same H H') (v : V) (n : List Int) (h : LstV IntV H v n) : LstV IntV H' v n := by
  obtain ⟨a, vs, e, g, k⟩ := h
  exact ⟨a, vs, e, s _ _ g, k.mono fun _ _ z => z⟩
/-- what stands however the heap goes on, but for one list that changes -/
structure Stab {α : Type} (R : Hp → V → α → Prop) : Prop where
  mono : ∀ {H H' : Hp}, Same H H' → ∀ v a, R H v a → R H' v a
  but : ∀ {H H' : Hp} {l : Addr} {ys : List V}, But l H H' → H l = some (.lst ys) → ∀ v a, R H v a → R H' v a
theorem stab_int : Stab IntV := ⟨fun _ _ _ h => h, fun _ _ _ _ h => h⟩
section
variable {α β γ : Type} {R : Hp → V → α → Prop} {S : Hp → V → β → Prop} {T : Hp → V → γ → Prop}
theorem stab_tup (c : Stab R) : Stab (TupV R) :=
  ⟨fun s v l ⟨a, vs, e, g, k⟩ => ⟨a, vs, e, s _ _ g, k.mono (c.mono s)⟩, fun bt gl v l ⟨a, vs, e, g, k⟩ => ⟨a, vs, e, tup_but bt g gl, k.mono (c.but bt gl)⟩⟩
theorem stab_p2 (c : Stab R) (b : Stab S) : Stab (Pr2V R S) :=
  ⟨fun s v l ⟨a, x, y, e, g, h1, h2⟩ => ⟨a, x, y, e, s _ _ g, c.mono s _ _ h1, b.mono s _ _ h2⟩, fun bt gl v l ⟨a, x, y, e, g, h1, h2⟩ => ⟨a, x, y, e, tup_but bt g gl, c.but bt gl _ _ h1, b.but bt gl _ _ h2⟩⟩
theorem stab_p3 (c : Stab R) (b : Stab S) (t : Stab T) : Stab (Pr3V R S T) :=
  ⟨fun s v l ⟨a, x, y, z, e, g, h1, h2, h3⟩ => ⟨a, x, y, z, e, s _ _ g, c.mono s _ _ h1, b.mono s _ _ h2, t.mono s _ _ h3⟩, fun bt gl v l ⟨a, x, y, z, e, g, h1, h2, h3⟩ => ⟨a, x, y, z, e, tup_but bt g gl, c.but bt gl _ _ h1, b.but bt gl _ _ h2, t.but bt gl _ _ h3⟩⟩
theorem lstV_mono (c : Stab R) {H H' : Hp} (s : Same H H') (v : V) (l : List α) (h : LstV R H v l) : LstV R H' v l := by
  obtain ⟨a, vs, e, g, k⟩ := h
  exact ⟨a, vs, e, s _ _ g, k.mono (c.mono s)⟩
theorem Stab.upd (c : Stab R) {H : Hp} {l : Addr} {ys : List V} {o : HO} (g : H l = some (.lst ys)) (v : V) (a : α) (h : R H v a) : R (upd H l o) v a := c.but ((But.refl l H).put) g v a h
end

/-! ### constants of the top, texts in lists, reversed lists, zip of tuples -/
theorem SqT.of {K : PySem.W.Frag} {H : Hp} {a : Addr} {xs : List V} (h : H a = some (.tup xs)) : SqT K H a xs := .inl (.inl h)
theorem SqL.of {K : PySem.W.Frag} {H : Hp} {a : Addr} {xs : List V} (h : H a = some (.lst xs)) : SqL K H a xs := .inl (.inl h)
section
variable {X : Cx}
theorem ints_tshaped (ns : List Int) : SeqAt.shaped (.tuple (ns.map PyData.int)) = true := (cod_tup cod_int).shaped (by decide) ns
/-- == of a tracked tuple of ints and any tuple of ints -/
def rEqTK (K : PySem.W.Frag) : R2 := fun x y H Q => ∃ a b ns ms, x = .ref a ∧ y = .ref b ∧ H a = some (.tup (List.map V.int ns)) ∧ SqT K H b (List.map V.int ms) ∧ Q (.bl (decide (ns = ms))) H
theorem op_eqTK (hu : X.A.units + 64 < cLine) : OpR X (compareOp .Eq) (rEqTK X.K) := OpR.of (op_eqD hu) (by
  rintro x y H Q ⟨a, b, ns, ms, rfl, rfl, ha, hb, q⟩
  refine ⟨_, _, .tup (.inl (.inl ha)) (ints_dp ns), .tup hb (ints_dp ms), ints_tshaped ns, ints_tshaped ms, ?_⟩
  rw [(cod_tup cod_int).eq ns ms]
  exact q)
abbrev OkS := {s : Str // PyData.strOk s = true}
def StrV (_ : Hp) (v : V) (s : OkS) : Prop := v = .str s.val
theorem eqv_ss (a b : Str) : PyData.eqv (.str a) (.str b) = decide (a = b) := by
  rw [PyData.eqv]
  by_cases h : a = b
  · rw [decide_eq_true h]; exact beq_iff_eq.mpr h
  · rw [decide_eq_false h]; exact beq_eq_false_iff_ne.mpr h
def vS (s : OkS) : V := .str s.val
def dStr (s : OkS) : PyData := .str s.val
theorem cod_str : Cod StrV dStr 0 := ⟨fun K H v a h => by rw [show v = .str a.val from h]; exact .str a.val, fun a b => by
  show PyData.eqv (.str a.val) (.str b.val) = _
  rw [eqv_ss]; exact decide_eq_decide.mpr Subtype.ext_iff.symm, fun a => by show PyData.canLay0 (.str a.val) = true; rw [PyData.canLay0]; exact a.property, fun a => by show PyData.depth (.str a.val) ≤ 0; rw [PyData.depth]; exact Nat.le_refl _⟩
theorem strs_all {H : Hp} : ∀ ns : List OkS, All2 (StrV H) (List.map vS ns) ns
  | [] => .nil
  | _ :: r => .cons rfl (strs_all r)
theorem strs_of {H : Hp} {vs : List V} {ns : List OkS} (h : All2 (StrV H) vs ns) : vs = List.map vS ns := by
  induction h with
  | nil => rfl
  | cons r _ ih => rw [List.map_cons, ih, show _ = _ from r]; rfl
theorem strL {H : Hp} {a : Addr} {ns : List OkS} (g : H a = some (.lst (List.map vS ns))) : LstV StrV H (.ref a) ns := ⟨a, _, rfl, g, strs_all ns⟩
theorem stab_str : Stab StrV := ⟨fun _ _ _ h => h, fun _ _ _ _ h => h⟩
theorem strs_dp {K : PySem.W.Frag} {H : Hp} (ss : List OkS) : DpAll K H (ss.map vS) (ss.map dStr) := cod_str.all (strs_all ss)
/-- != and == of a tuple of texts of the top and a new one -/
def rNeSK (K : PySem.W.Frag) : R2 := fun x y H Q => ∃ a b ss ts, x = .ref a ∧ y = .ref b ∧ SqT K H a (List.map vS ss) ∧ H b = some (.tup (List.map vS ts)) ∧ Q (.bl (!decide (ss = ts))) H
theorem op_neSK (hu : X.A.units + 64 < cLine) : OpR X (compareOp .NotEq) (rNeSK X.K) := OpR.of (op_neD hu) (by
  rintro x y H Q ⟨a, b, ss, ts, rfl, rfl, ha, hb, q⟩
  refine ⟨_, _, .tup ha (strs_dp ss), .tup (.inl (.inl hb)) (strs_dp ts), (cod_tup cod_str).shaped (by decide) ss, (cod_tup cod_str).shaped (by decide) ts, ?_⟩
  rw [(cod_tup cod_str).eq ss ts]
  exact q)
/-- isinstance of a tuple of the top -/
def rIsiTK (K : PySem.W.Frag) : List V → Hp → VK → Prop := fun vs H Q => ∃ p n xs b, vs = [.ref p, .ty n] ∧ SqT K H p xs ∧ kitB "tuple" n = some b ∧ Q (.bl b) H
theorem call_isiTK : CallR X (.builtin "isinstance") (rIsiTK X.K) := CallR.of call_isi (by
  rintro vs H Q ⟨p, n, xs, b, rfl, hp, hb, q⟩
  refine ⟨.ref p, .ty n, .type "tuple", .type n, b, rfl, .ty n, ?_, kit_ty hb, q⟩
  rcases hp with (h | ⟨o, h⟩) | ⟨o, its, k, h1, h2, _⟩
  · exact .base (.tup h)
  · exact .fTuple h
  · exact .kTuple h1 h2)
/-- reversed(list) -/
def iRevS (K : PySem.W.Frag) (ta : TA) : TI := fun σ H R => ta σ H fun vs H1 => ∃ a xs, vs = [.ref a] ∧ H1 a = some (.lst xs) ∧ R (Itv K a xs.length) H1
theorem pi_revS {tg e : Expr} {ta : TA} {p pos : Pos} (hg : Gl X "reversed") (hm : X.mg "reversed" = none) (ha : PA X [e] ta) (hs : starEach [e] X.env = [(false, eval e X.env)] := by rfl) :
    PI X tg (.Call (.Name "reversed" p) [e] [] pos) (iRevS X.K ta) := PI.of (pi_reversed hg hm (pa_mono ha) hs) fun σ H R q => ⟨_, q, fun vs H1 ⟨a, xs, e, g, r⟩ => ⟨a, xs, e, .inl (.inl g), r⟩⟩
/-- zip of two tuples -/
def iZipTS (K : PySem.W.Frag) (ta : TA) : TI := fun σ H R => ta σ H fun vs H1 => ∃ a b xs ys, vs = [.ref a, .ref b] ∧ SqT K H1 a xs ∧ SqT K H1 b ys ∧ R (RZ.ItzT K a b) H1
theorem pi_zipTS {e e2 : Expr} {ta : TA} {p pos tpos : Pos} {elts : List Expr} {kk : Nat} (hg : Gl X "zip") (hm : X.mg "zip" = none) (ha : PA X [e, e2] ta) (hs : starEach [e, e2] X.env = (false, eval e X.env) :: starEach [e2] X.env := by rfl) (hpl : (backTo pos (starEach [e2] X.env)).any (·.1) = false := by rfl) :
    PI X (.Tuple elts kk tpos) (.Call (.Name "zip" p) [e, e2] [] pos) (iZipTS X.K ta) := PI.of (RZ.pi_zipA hg hm (pa_mono ha) hs hpl) fun σ H R q => ⟨_, q, fun vs H1 ⟨a, b, xs, ys, e, g1, g2, r⟩ => ⟨a, b, xs, ys, e, .inr ⟨g1, g2, r⟩⟩⟩
end
theorem walkV {K : PySem.W.Frag} {a : Addr} {xs : List V} : Walk (Itv K a xs.length) xs.length (fun H => H a = some (.lst xs)) (fun i H x H' => H' = H ∧ xs[xs.length - 1 - i]? = some x) := (walk_rev (K := K) (a := a) (xs := xs)).mono (fun _ h => .inl (.inl h)) fun _ _ _ _ _ _ y => y
theorem walkVI {K : PySem.W.Frag} {a : Addr} {ns : List Int} : Walk (Itv K a ns.length) ns.length (fun H => H a = some (.lst (List.map V.int ns))) (YInt ns.reverse) := by
  have w := walkV (K := K) (a := a) (xs := List.map V.int ns)
  rw [List.length_map] at w
  refine w.mono (fun _ h => h) fun i H x H' hi _ y => ⟨y.1, ?_⟩
  have h := y.2
  rw [List.getElem?_map] at h
  obtain ⟨b, h1, rfl⟩ := Option.map_eq_some_iff.mp h
  exact ⟨b, by rw [List.getElem?_reverse hi]; exact h1, rfl⟩
theorem walkZT {K : PySem.W.Frag} {a b : Addr} {xs ys : List V} {n : Nat} (hn : n = min xs.length ys.length) : Walk (RZ.ItzT K a b) n (fun H => SqT K H a xs ∧ SqT K H b ys) (YPair (fun i => xs[i]?) (fun i => ys[i]?)) := by
  subst hn
  refine ⟨fun i _ hi q => ?_, fun _ q => ⟨xs, ys, q.1, q.2, by omega⟩, fun i H v H' _ q y => ?_⟩
  · have h1 : i < xs.length := by omega
    have h2 : i < ys.length := by omega
    exact ⟨xs, ys, xs[i], ys[i], q.1, q.2, by simp [h1], by simp [h2]⟩
  · obtain ⟨T, x, z, h1, h2, h3, h4, h5⟩ := y
    exact ⟨T, x, z, h1, h2, h3, h4 xs q.1, h5 ys q.2⟩
theorem _root_.L2.Same.seqT {K : PySem.W.Frag} {H H' : Hp} (s : Same H H') {a : Addr} {xs : List V} (h : SqT K H a xs) : SqT K H' a xs := by
  rcases h with (h | ⟨o, h⟩) | h
  · exact .inl (.inl (s _ _ h))
  · exact .inl (.inr ⟨o, s _ _ h⟩)
  · exact .inr h
/-- the codes of a text -/
def cds (z : Str) : List Int := z.cps.toList.map fun (c : Nat) => (c : Int)
theorem cds_at {z : Str} {i c : Nat} (h : z.cps[i]? = some c) : (cds z)[i]? = some (c : Int) := by
  unfold cds
  rw [List.getElem?_map, Array.getElem?_toList, h]
  rfl
theorem cds_len (z : Str) : (cds z).length = z.cps.size := by unfold cds; rw [List.length_map, Array.length_toList]
section
variable {X : Cx} {α : Type} [DecidableEq α] {R : Hp → V → α → Prop} {f : α → PyData} {d : Nat}
theorem Cod.anyEq (c : Cod R f d) (a : α) : ∀ l : List α, ((l.map f).any fun z => PyData.eqv z (f a)) = decide (a ∈ l)
  | [] => by simp
  | x :: r => by
    rw [List.map_cons, List.any_cons, c.eq, Cod.anyEq c a r]
    by_cases h : x = a
    · subst h; simp
    · rw [decide_eq_false h, Bool.false_or]
      exact decide_eq_decide.mpr ⟨fun z => List.mem_cons_of_mem _ z, fun z => (List.mem_cons.mp z).resolve_left fun e => h e.symm⟩
/-- x in a list, x not in a list or a tuple, at any depth -/
def rInLC (R : Hp → V → α → Prop) : R2 := fun x y H Q => ∃ a l, R H x a ∧ LstV R H y l ∧ Q (.bl (decide (a ∈ l))) H
def rNotInLC (R : Hp → V → α → Prop) : R2 := fun x y H Q => ∃ a l, R H x a ∧ LstV R H y l ∧ Q (.bl (!decide (a ∈ l))) H
def rNotInTC (R : Hp → V → α → Prop) : R2 := fun x y H Q => ∃ a l, R H x a ∧ TupV R H y l ∧ Q (.bl (!decide (a ∈ l))) H
theorem op_inLC (hu : X.A.units + 65 < cLine) (c : Cod R f d) (hd : d < 64) : OpR X (compareOp .In) (rInLC R) := OpR.of (op_inD hu) fun x y H Q ⟨a, l, ha, hl, q⟩ => ⟨f a, l.map f, c.dp _ _ _ _ ha, (cod_lst c).dp _ _ _ _ hl, c.shaped (Nat.le_of_lt hd) a, (cod_lst c).shaped hd l, by rw [c.anyEq]; exact q⟩
theorem op_notInLC (hu : X.A.units + 65 < cLine) (c : Cod R f d) (hd : d < 64) : OpR X (compareOp .NotIn) (rNotInLC R) := OpR.of (op_notInD hu) fun x y H Q ⟨a, l, ha, hl, q⟩ => ⟨f a, l.map f, c.dp _ _ _ _ ha, (cod_lst c).dp _ _ _ _ hl, c.shaped (Nat.le_of_lt hd) a, (cod_lst c).shaped hd l, by rw [c.anyEq]; exact q⟩
theorem op_notInTC (hu : X.A.units + 65 < cLine) (c : Cod R f d) (hd : d < 64) : OpR X (compareOp .NotIn) (rNotInTC R) := by
  intro pins s σ H x y v u Q I rx ry h
  obtain ⟨a, l, ha, hl, q⟩ := h
  have sd := c.shaped (Nat.le_of_lt hd) a
  have se := (cod_tup c).shaped hd l
  obtain ⟨as, r1⟩ := Dp.reads I (f a) x v (c.dp _ _ _ _ ha) rx
  obtain ⟨bs, r2⟩ := Dp.reads I (.tuple (l.map f)) y u ((cod_tup c).dp _ _ _ _ hl) ry
  exact SeqAt.notIn_tuple_reads r2 r1 (SeqAt.canLay_of_shaped se) (SeqAt.canLay_of_shaped sd) (room_in_shaped sd hu) ⟨.bl _, H, I, rfl, by rw [c.anyEq]; exact q⟩
theorem hu5 {A : Around} {k : Nat} (hr : Room k A) : A.units + 65 < cLine := by have := hr.un; omega
/-- ''.join of a list of single signs -/
def oneS (c : Nat) : Str := ⟨#[c]⟩
theorem joinL_one : ∀ cs : List Nat, TL.joinL [] (cs.map fun c => [c]) = cs
  | [] => rfl
  | [_] => rfl
  | x :: y :: r => by
    show [x] ++ ([] ++ TL.joinL [] ((y :: r).map fun c => [c])) = _
    rw [joinL_one (y :: r)]
    rfl
theorem join_one (cs : List Nat) : Txt.join (Str.ofString "") (cs.map oneS) = ⟨cs.toArray⟩ := by
  have h := SX.join_S [] (cs.map fun c => [c])
  rw [joinL_one, List.map_map] at h
  exact h
def tJoinC (to te : TE) : TE := fun σ H Q => to σ H fun x H1 => x = .str (Str.ofString "") ∧ te σ H1 fun y H2 => ∃ (p : Addr) (cs : List Nat), y = .ref p ∧ H2 p = some (.lst (cs.map fun c => V.str (oneS c))) ∧ cs.length ≤ 1000000 ∧ Q (.str ⟨cs.toArray⟩) H2
theorem one_sum : ∀ cs : List Nat, ((cs.map oneS).map (·.length)).sum = cs.length
  | [] => rfl
  | c :: r => by
    rw [List.map_cons, List.map_cons, List.sum_cons, one_sum r, List.length_cons, Nat.add_comm]
    rfl
theorem pe_joinC {o e : Expr} {to te : TE} {apos pos : Pos} (ho : PE X o to) (he : PE X e te) (hs : starEach [e] X.env = [(false, eval e X.env)] := by rfl) (hbase : attributeBase o "join" X.env (eval o X.env) = eval o X.env := by rfl) (hline : (apos.endLine == pos.line) = true := by rfl) :
    PE X (.Call (.Attribute o "join" apos) [e] [] pos) (tJoinC to te) := PE.of (pe_join (pe_mono ho) (pe_mono he) hs hbase hline) fun σ H Q q => ⟨_, q, fun x H1 z => ⟨⟨_, z.1⟩, _, z.2, fun y H2 ⟨p, cs, e, g, hl, w⟩ => ⟨Str.ofString "", p, cs.map oneS, z.1, by rw [e], .inl (.inl (.inl (by rw [List.map_map]; exact g))), by
    rw [one_sum, List.length_map, show (Str.ofString "").length = 0 from rfl]; omega, by rw [join_one]; exact w⟩⟩⟩
end
section
variable {X : Cx}
/-- xs * n -/
def rRepL : R2 := fun x y H Q => ∃ l k xs, x = .ref l ∧ y = .int k ∧ H l = some (.lst xs) ∧ k ≤ 2 ^ 62 - 1 ∧ -(2 ^ 62) ≤ k ∧ xs.length * k.toNat ≤ sizeLine ∧ NewH H (.lst (List.replicate k.toNat xs).flatten) fun p H' => Q (.ref p) H'
theorem op_repL : OpR X (binaryOp .Mult) rRepL := OpR.of op_rep fun x y H Q ⟨l, k, xs, e1, e2, h1, z1, z2, z3, q⟩ => ⟨l, k, xs, e1, e2, h1, by omega, by omega, z3, q.go⟩
end

theorem iteP {p : Prop} {i : Decidable p} {a b : Prop} (x : p → a) (y : ¬ p → b) : @ite _ p i a b := by
  by_cases h : p
  · rw [if_pos h]; exact x h
  · rw [if_neg h]; exact y h
section
variable {X : Cx}
/-- name = {k: v for ..} on one line, the name a local -/
theorem ps_setDc {i : Nat} {y : Str} {py : Pos} {kx vx tg iter : Expr} {ifs : List Expr} {scope : Scope} {own : List (Str × Nat)} {pos spos : Pos} {wi : TI} {g : TG} {tt : TT} {tk tv : TE} (hc : X.calm = true) (hN : X.N.Nodup) (hy : X.N[i]? = some y) (hyl : X.env.scope.names.lookup y = some .local)
    (hsw : swapsWith (.DictComp kx vx [⟨tg, iter, ifs, 0⟩] scope pos) (some (.Name y py)) spos.line X.env = pure true) (hi : PI X tg iter wi) (ok : BlkOk X.N X.env.scope scope own)
    (hg : ∀ (s : Shared) (H : Hp) (C : Addr) (cl : List (Str × Addr)) (fp : List Addr), PG (X.blk s H scope (compEnvC scope cl C X.env) fp) tg g) (ht : ∀ (s : Shared) (H : Hp) (C : Addr) (cl : List (Str × Addr)) (fp : List Addr), PTs (X.blk s H scope (compEnvC scope cl C X.env) fp) ifs tt)
    (hk : ∀ (s : Shared) (H : Hp) (C : Addr) (cl : List (Str × Addr)) (fp : List Addr), PE (X.blk s H scope (compEnvC scope cl C X.env) fp) kx tk)
    (he : ∀ (s : Shared) (H : Hp) (C : Addr) (cl : List (Str × Addr)) (fp : List Addr), PE (X.blk s H scope (compEnvC scope cl C X.env) fp) vx tv) (hs : ∀ x, foldedSetIterable iter X.env x = pure x := by intro _; rfl) :
    PS X (.Assign [.Name y py] (.DictComp kx vx [⟨tg, iter, ifs, 0⟩] scope pos) spos) (tAsg (tDc wi g tt tk tv (own.map (·.2))) (gName i)) := by
  refine ⟨fun pins s σ H D I h => ?_⟩
  rw [exec_Assign_Name_used _ _ _ _ hsw]
  refine wpAny_bind (wpAny_standAt (wpAny_bind ?_))
  show wpAny _ X.A (do let _ ← comprehension (.DictComp kx vx [⟨tg, iter, ifs, 0⟩] scope pos) scope X.env (firstIterPos [⟨tg, iter, ifs, 0⟩] pos) newDict false (eval iter X.env) (some (assign (.Name y py) X.env))) _ _ s
  have h : tDc wi g tt tk tv (own.map (·.2)) σ H (fun x H1 => gName i x σ H1 D.nx) := h
  refine wpAny_bind (thn (dc_core (Qf := fun _ s' => SP X pins D .next s') hc hN I hi ok hg ht hk he hs h fun L C s' m H' I' q hn f => ?_) fun _ s' hq => wpAny_pure (wpAny_pure hq))
  show wpAny _ _ (assign (.Name y py) X.env (.ref L)) _ _ _
  refine wpAny_assign_Name (store_ok2 (v := V.ref L) I' hN hy (.inl hyl) rfl (fun s2 I2 ⟨a, sb, ha⟩ => ?_) (.inr hyl))
  obtain ⟨f0, f1, f2, f3, f4, f5⟩ := f
  have haC : C ≠ a := by
    rcases ha with z | z
    · rw [z]; exact f1
    · exact fun e => f4 y a z e.symm
  refine ⟨m, hn.sameBut sb haC, fun h3 sb3 => ?_⟩
  exact ⟨_, H', I2.turned (t' := s2.toks) (fun b o hb e => (sb3.2 b hb).trans e) f0 f1 f3 f4 f5, q⟩
theorem sw_trueD {kx vx : Expr} {gs : List Comprehension} {scope : Scope} {pos py : Pos} {y : Str} {l : Nat} {env : Env} (hk : env.scope.kind = .function) (hy : env.scope.names.lookup y = some .local) (hl : (py.line == pos.line) = true)
    (ha : (scope.names.any fun (n, k) => n == y && (k == .local || k == .cell)) = false) : swapsWith (.DictComp kx vx gs scope pos) (some (.Name y py)) l env = pure true := by
  have ky : env.kindOf y = some .local := hy
  have hb : env.blockKind = .function := by unfold Env.blockKind; rw [hk]; rfl
  unfold swapsWith
  simp only [hb, ky, ha, Expr.pos, hl]
  rfl
end

/-- enumerate(text): each character in a new pair -/
def Ites (x : Str) : It :=
  ⟨fun i _ => i < x.cps.size, fun i H v H' => ∃ T c, v = .ref T ∧ H T = none ∧ H' = upd H T (.tup [.int (i : Nat), .str ⟨#[c]⟩]) ∧ x.cps[i]? = some c, fun i _ => x.cps.size ≤ i⟩
theorem turn_enumS {P : Program} {w : World} {K : PySem.W.Frag} {elts : List Expr} {kk : Nat} {tpos : Pos} (x : Str) (t : Tok) (e it : Addr) (ty : String) (hty : ty = "str_ascii_iterator" ∨ ty = "str_iterator") :
    Turn P w K (.Tuple elts kk tpos) (Ites x) [e, it] e (fun i h => (∃ old, IsEnum h e it ((i : Nat) : Int) old) ∧ h.IsStrIter it ty x t i ∧ e ≠ it ∧ i ≤ x.cps.size) where
  mem := by simp
  obj := fun i h st b hb => by
    obtain ⟨⟨old, he⟩, ⟨o, ho, hc, hd⟩, _⟩ := st
    have e' : b = e ∨ b = it := by simpa using hb
    rcases e' with z | z
    · rw [z]; exact ⟨_, he, fun v q => nomatch q⟩
    · rw [z]; exact ⟨o, ho, fun v q => by rw [hd] at q; cases q⟩
  keep := fun i h h' st k => by
    obtain ⟨⟨old, he⟩, ⟨o, ho, r⟩, hne⟩ := st
    exact ⟨⟨old, k e (by simp) _ he⟩, ⟨o, k it (by simp) o ho, r⟩, hne⟩
  item := by
    intro X hP hw hK hc i pins s σ H E I hf st hg
    subst hP hw hK
    obtain ⟨⟨old, he⟩, hit, hne, hle⟩ := st
    have hel : e < s.heap.objs.size := Heap.lt_size he
    have hil : it < s.heap.objs.size := by obtain ⟨_, q, _⟩ := hit; exact Heap.lt_size q
    have Dr : Draws X.prog X.w X.A.in1 it [it] x.cps.size (fun i v => ∃ c u, x.cps[i]? = some c ∧ v = .str ⟨#[c]⟩ u) (fun i h => h.IsStrIter it ty x t i) := by
      rcases hty with z | z
      · rw [z]; exact Draws.strAscii (A := X.A.in1) (I.ok.hd hc) it x t
      · rw [z]; exact Draws.strWide (A := X.A.in1) (I.ok.hd hc) it x t
    refine wpAny_pyNext_enum_itemD Dr he hit hg hne (by simpa using hne) fun v h' tk hv ho hit' hT hsz hk => ?_
    obtain ⟨c, u, hcx, rfl⟩ := hv
    refine ⟨_, rfl, wpAny_letOwnedTupleGo_enum (s := { s with heap := h', toks := tk + 1 }) ho fun h'' he' sb => ?_⟩
    have hT2 : h''.get? s.heap.objs.size = some { cls := .type "tuple", data := .seq #[.int i tk, .str ⟨#[c]⟩ u] } := (sb.2 _ (Nat.ne_of_gt hel)).trans hT
    have new : ObjOk X.prog X.w (upd H s.heap.objs.size (.tup [.int (i : Nat), .str ⟨#[c]⟩])) h'' s.heap.objs.size (.tup [.int (i : Nat), .str ⟨#[c]⟩]) :=
      ⟨by show 2 ≤ sizeLine; decide, [.int i tk, .str ⟨#[c]⟩ u], .cons ⟨_, rfl⟩ (.cons ⟨_, rfl⟩ .nil), ⟨_, hT2, rfl, _, rfl⟩⟩
    have I1 : Inv X pins σ (upd H s.heap.objs.size (.tup [.int (i : Nat), .str ⟨#[c]⟩])) { s with heap := h'', toks := tk + 1 } :=
      I.turnedNew (ch := [e, it]) (fun b ob hb q => (sb.2 b (fun z => hb (by simp [z]))).trans (hk b ob (fun z => hb (by simp [z])) (fun z => hb (by simp [z])) q)) hf (Nat.le_refl _) new
    refine ⟨.ref s.heap.objs.size, _, I1, rfl, ⟨_, c, rfl, I.hok.fresh (Nat.le_refl _), rfl, hcx⟩, ⟨⟨.str ⟨#[c]⟩ u, ?_⟩, ?_, hne, Nat.succ_le_of_lt hg⟩, fun b hb => ?_⟩
    · have e1 : ((i + 1 : Nat) : Int) = (i : Int) + 1 := by omega
      rw [e1]; exact he'
    · obtain ⟨o, q, r⟩ := hit'
      exact ⟨o, (sb.2 it (Ne.symm hne)).trans q, r⟩
    · have hb' : b < s.heap.objs.size := by
        have e' : b = e ∨ b = it := by simpa using hb
        rcases e' with z | z
        · rw [z]; exact hel
        · rw [z]; exact hil
      rw [upd_ne (Nat.ne_of_lt hb')]
      exact (hf b hb).1
  done := by
    intro X hP hw hK hc i pins s σ H E I hf st hg
    subst hP hw hK
    obtain ⟨⟨old, he⟩, hit, hne, hle⟩ := st
    obtain ⟨f0, f1, f2, f3, f4, f5⟩ := hf it (by simp)
    have Dr : Draws X.prog X.w X.A.in1 it [it] x.cps.size (fun i v => ∃ c u, x.cps[i]? = some c ∧ v = .str ⟨#[c]⟩ u) (fun i h => h.IsStrIter it ty x t i) := by
      rcases hty with z | z
      · rw [z]; exact Draws.strAscii (A := X.A.in1) (I.ok.hd hc) it x t
      · rw [z]; exact Draws.strWide (A := X.A.in1) (I.ok.hd hc) it x t
    have ei : i = x.cps.size := Nat.le_antisymm hle hg
    subst ei
    exact wpAny_pyNext_enum_endD Dr he hit fun h' eb => ⟨rfl, I.turned (t' := s.toks) (fun b o hb q => eb b o hb q) f0 f1 f3 f4 f5⟩
  self := fun A i s Q E st h => let ⟨⟨_, he⟩, _⟩ := st; wpAny_pyIter_enum he h
def iEnumS (ta : TA) : TI := fun σ H R => ta σ H fun vs H1 => ∃ x, vs = [.str x] ∧ R (Ites x) H1
theorem pi_enumS {X : Cx} {e : Expr} {ta : TA} {p pos tpos : Pos} {elts : List Expr} {kk : Nat} (hg : Gl X "enumerate") (hm : X.mg "enumerate" = none) (ha : PA X [e] ta) (hs : starEach [e] X.env = [(false, eval e X.env)] := by rfl) :
    PI X (.Tuple elts kk tpos) (.Call (.Name "enumerate" p) [e] [] pos) (iEnumS ta) := by
  refine ⟨fun pins s σ H R I h => ?_⟩
  refine Call_ (ld_blt I hg hm boot_enumerate (PyProof.Rows.callWith_type1 (thn (ha.run pos pins s σ H _ I h) fun us s1 ⟨vs, H1, I1, r1, q1⟩ => ?_) hs rfl))
  obtain ⟨x, ex, q⟩ := q1
  subst ex
  cases r1 with
  | cons r rr =>
    cases rr
    obtain ⟨t, rfl⟩ := r
    refine call_enumerate_str fun h' he hit hsz hk => wpAny_pyIter_enum he ?_
    have I2 : Inv X pins σ H1 { s1 with heap := h' } := I1.kept (t' := s1.toks) hk
    refine ⟨s1.heap.objs.size + 1, [s1.heap.objs.size + 1, s1.heap.objs.size], _, _, H1, rfl, I2, turn_enumS x t (s1.heap.objs.size + 1) s1.heap.objs.size (strIterType x) (by unfold strIterType; split <;> simp), ⟨⟨.none, he⟩, hit, Nat.succ_ne_self _, Nat.zero_le _⟩, fun b hb => ?_, q⟩
    have e' : b = s1.heap.objs.size + 1 ∨ b = s1.heap.objs.size := by simpa using hb
    have hle : s1.heap.objs.size ≤ b := by
      rcases e' with z | z
      · rw [z]; exact Nat.le_add_right _ _
      · rw [z]; exact Nat.le_refl _
    exact I1.fpOk hle (I1.hok.fresh hle)
theorem walk_enumS {z : Str} : Walk (Ites z) z.cps.size (fun _ => True) (fun i H v H' => ∃ T c, v = .ref T ∧ H T = none ∧ H' = upd H T (.tup [.int (i : Nat), .str ⟨#[c]⟩]) ∧ z.cps[i]? = some c) :=
  ⟨fun _ _ hi _ => hi, fun _ _ => Nat.le_refl _, fun _ _ _ _ _ _ y => y⟩

/-! ### setdefault of a dict with tuple keys -/
section
variable {X : Cx} {pins : List (Addr × Obj)} {σ : L2.St} {H : Hp} {s : Shared} {a b : Addr} {r : Value} {d : V} {k : List L2.Key} {A : Around} {E : Value → Shared → Prop}
theorem d_setdT {kvs : List (List L2.Key × V)} {Q : Value → Shared → Prop} (hu : A.units + 1 < cLine) (I : Inv X pins σ H s) (e : H a = some (.dT kvs)) (eb : H b = some (.tup (k.map kV))) (rd : RelV d r) (hl : kvs.length < sizeLine)
    (h1 : ∀ v, valV kvs k = some v → ∀ (w' : Value) (s' : Shared), Inv X pins σ H s' → RelV v w' → Q w' s') (h2 : valV kvs k = none → ∀ (w' : Value) (s' : Shared), Inv X pins σ (upd H a (.dT (putK kvs k d))) s' → RelV d w' → Q w' s') :
    wpAny (model X.prog X.w) A (call (.builtin "dict.setdefault") [.ref a, .ref b, r]) Q E s := by
  obtain ⟨z, hd, xs, rel, dd⟩ := dt_of I.hok e
  have hz : xs.length ≤ sizeLine := by rw [← Paired.length rel]; exact z
  have hl2 : (putK kvs k d).length ≤ sizeLine := by have := length_putK kvs k d; omega
  refine call_setdefault_heap (hsz := hz) (tupleKind_room_in1 hu) (key_of I.hok eb) hd dd (fun p hp => ?_) (fun hn h' dd' hs => ?_)
  · have q := rel.val k
    rw [hp] at q
    cases q0 : valV kvs k with
    | none => rw [q0] at q; exact (show False from q).elim
    | some v0 => rw [q0] at q; exact h1 v0 q0 _ _ (I.tok _) q
  · have q := rel.val k
    rw [hn] at q
    cases q0 : valV kvs k with
    | some v0 => rw [q0] at q; exact (show False from q).elim
    | none =>
      obtain ⟨o, es, ep, hq, h3, h4, h5, _, h6⟩ := dd'
      refine h2 q0 _ _ (d_write I (by rw [e]; exact True.intro) hs ⟨o, hq⟩ ⟨hl2, hd, _, (rel.put k eb rd).keeps fun c ys ec => ?_, o, es, ep, hq, h3, h4, h5, h6⟩) rd
      rw [upd_ne (ne_of ec e (fun z => nomatch z))]
      exact ec
end
def tDSetdT (td ty tx : TE) : TE := fun σ H Q => td σ H fun x H1 => ∃ a, x = .ref a ∧ IsD H1 a ∧ ty σ H1 fun y H2 => tx σ H2 fun z H3 => ∃ (kvs : List (List L2.Key × V)) (k : List L2.Key) (b : Addr), H3 a = some (.dT kvs) ∧ y = .ref b ∧ H3 b = some (.tup (k.map kV)) ∧ kvs.length < sizeLine ∧
  (∀ v, valV kvs k = some v → Q v H3) ∧ (valV kvs k = none → Q z (upd H3 a (.dT (putK kvs k z))))
section
variable {X : Cx} {o e f : Expr} {td ty tx : TE} {apos cpos : Pos}
theorem pe_dsetdT (hu : X.A.units + 1 < cLine) (ho : PE X o td) (he : PE X e ty) (hf : PE X f tx) (m : M2 X o "setdefault" apos e f cpos) : PE X (.Call (.Attribute o "setdefault" apos) [e, f] [] cpos) (tDSetdT td ty tx) := by
  refine ⟨fun pins s σ H Q I h => ?_⟩
  refine wpAny_Call_method m.base m.few m.line PySem.F.plainAttrs_dict PySem.F.slot_dict_setdefault PySem.F.type_dict_setdefault (thn (ho.run pins s σ H _ I h) fun u s1 ⟨x, H1, I1, rx, a, ex, d, q1⟩ => ?_)
  subst ex
  obtain rfl : u = Value.ref a := rx
  obtain ⟨t1, t2, _⟩ := isD_at I1 d
  refine ⟨t1, t2, ?_⟩
  rw [m.trees]
  refine Calls.callWith_builtin rfl (Calls.evalArgs_plain (Calls.spliced_cons (thn (he.run pins s1 σ H1 _ I1 q1) fun iv s2 ⟨y, H2, I2, ry, q2⟩ =>
    Calls.spliced_cons (thn (hf.run pins s2 σ H2 _ I2 q2) fun fv s3 ⟨z, H3, I3, rz, kvs, k, b, ea, ey, eb, hl, q3, q4⟩ => Calls.spliced_nil ?_))))
  subst ey
  obtain rfl : iv = Value.ref b := ry
  exact d_setdT hu I3 ea eb rz hl (fun v hv w' s4 I4 rw' => ⟨v, _, I4, rw', q3 v hv⟩) fun hn w' s4 I4 rw' => ⟨z, _, I4, rw', q4 hn⟩
end

def tDNewTS : TE := fun _ H Q => NewH H (.dT []) fun p H' => Q (.ref p) H'
theorem pe_dnewTS {X : Cx} {pos : Pos} : PE X (.Dict [] [] pos) tDNewTS := PE.of pe_dnewT fun σ H Q q => q.go

/-! ### errors -/
section
variable {X : Cx}
/-- isinstance(e, c) in a suite, whatever class the error has -/
def rIsE1 (K : PySem.W.Frag) (cls : Value) (d : Option Addr) (a : Addr) : List V → Hp → VK → Prop := fun xs H Q => ∃ D, cls = .ref D ∧ d = none ∧ ExcC K D ∧ ∃ (C : Addr) (b : Bool), xs = [.ref a, .ref C] ∧ PySem.W.kitOne K (.ref D) (.ref C) = some b ∧ Q (.bl b) H
theorem call_isE1 {a : Addr} {oe : Obj} {cls : Value} {d : Option Addr} {pn : List (Addr × Obj)} (hz : Zc cls d oe) (hf : ∃ vs, oe.data = .fields vs) : CallR (X.suite a ((a, oe) :: pn)) (.builtin "isinstance") (rIsE1 X.K cls d a) := by
  intro pins s σ H xs us Q I r ⟨D, e1, e2, C, c, b, e3, e4, q⟩
  subst e1 e2
  exact call_isE C hz hf pins s σ H xs us Q I r ⟨.ref c, .ref c, b, e3, fun u z => z, e4, q⟩
theorem ifB {c : Bool} {a b : Prop} (x : c = true → a) (y : c = false → b) : if c = true then a else b := by
  cases c
  · rw [if_neg Bool.false_ne_true]; exact y rfl
  · rw [if_pos rfl]; exact x rfl
end
section
variable {X : Cx}
/-- all and any of a tracked list of bools -/
def rAllS : List V → Hp → VK → Prop := fun vs H Q => ∃ (a : Addr) (bs : List Bool), vs = [.ref a] ∧ H a = some (.lst (bs.map V.bl)) ∧ Q (.bl (bs.all id)) H
theorem cr_allS (hc : X.calm = true) : CallR X (.builtin "all") rAllS := CallR.of (cr_all hc) fun vs H Q ⟨a, bs, e, g, q⟩ => ⟨a, bs, e, .inl (.inl g), q⟩
def rAnyS : List V → Hp → VK → Prop := fun vs H Q => ∃ (a : Addr) (bs : List Bool), vs = [.ref a] ∧ H a = some (.lst (bs.map V.bl)) ∧ Q (.bl (bs.any id)) H
theorem cr_anyS (hc : X.calm = true) : CallR X (.builtin "any") rAnyS := CallR.of (cr_any hc) fun vs H Q ⟨a, bs, e, g, q⟩ => ⟨a, bs, e, .inl (.inl g), q⟩
theorem all_id {α : Type} (f : α → Bool) (l : List α) : (l.map f).all id = l.all f := by rw [List.all_map]; rfl
theorem any_id {α : Type} (f : α → Bool) (l : List α) : (l.map f).any id = l.any f := by rw [List.any_map]; rfl
end
/-- a plain value -/
def Pl (v : V) : Prop := ∃ a, tnm v = some a
theorem Pl.int (i : Int) : Pl (.int i) := ⟨_, rfl⟩
theorem Pl.bl (i : Bool) : Pl (.bl i) := ⟨_, rfl⟩
theorem Pl.non : Pl .non := ⟨_, rfl⟩
theorem Pl.str (i : Str) : Pl (.str i) := ⟨_, rfl⟩
theorem Pl.cs {v : V} (h : Pl v) : v = .non ∨ (∃ b, v = .bl b) ∨ (∃ i, v = .int i) ∨ ∃ s, v = .str s := by
  obtain ⟨a, h⟩ := h
  cases v <;> first | exact .inl rfl | exact .inr (.inl ⟨_, rfl⟩) | exact .inr (.inr (.inl ⟨_, rfl⟩)) | exact .inr (.inr (.inr ⟨_, rfl⟩)) | cases h
theorem kb11 : kitB "NoneType" "tuple" = some false := by decide +kernel
theorem kb12 : kitB "bool" "tuple" = some false := by decide +kernel
theorem kb13 : kitB "int" "tuple" = some false := by decide +kernel
theorem kb14 : kitB "str" "tuple" = some false := by decide +kernel
theorem kb15 : kitB "list" "tuple" = some false := by decide +kernel
theorem kb16 : kitB "NoneType" "str" = some false := by decide +kernel
theorem kb17 : kitB "bool" "str" = some false := by decide +kernel
theorem kb18 : kitB "int" "str" = some false := by decide +kernel
theorem kb19 : kitB "list" "str" = some false := by decide +kernel
theorem kb20 : kitB "tuple" "str" = some false := by decide +kernel
theorem kb21 : kitB "bool" "list" = some false := by decide +kernel
theorem kb22 : kitB "int" "list" = some false := by decide +kernel
theorem kb23 : kitB "str" "list" = some false := by decide +kernel
theorem kb24 : kitB "tuple" "list" = some false := by decide +kernel
theorem kb25 : kitB "list" "int" = some false := by decide +kernel
theorem kb26 : kitB "tuple" "int" = some false := by decide +kernel
theorem kb27 : kitB "list" "bool" = some false := by decide +kernel
theorem kb28 : kitB "tuple" "bool" = some false := by decide +kernel
theorem kb29 : kitB "NoneType" "bool" = some false := by decide +kernel
theorem kb30 : kitB "str" "bool" = some false := by decide +kernel
theorem if_true_of {c : Bool} {A B : Prop} (hc : c = true) (h : A) : if c = true then A else B := by
  rw [if_pos hc]
  exact h
theorem if_false_of {c : Bool} {A B : Prop} (hc : c = false) (h : B) : if c = true then A else B := by
  rw [hc, if_neg Bool.false_ne_true]
  exact h
/-- cuts behind more statements -/
theorem seq_cut2 {s1 s2 R : TS} {D : Ends} {σ : L2.St} {H : Hp} (I : L2.St → Hp → Prop) (h2 : ∀ σ H, I σ H → R D σ H) (h1 : ∀ C : L2.St → Hp → Prop, (∀ σ H, I σ H → C σ H) → tSeq s1 s2 { D with nx := C } σ H) : tSeq s1 (tSeq s2 R) D σ H := h1 _ h2
theorem seq_cut3 {s1 s2 s3 R : TS} {D : Ends} {σ : L2.St} {H : Hp} (I : L2.St → Hp → Prop) (h2 : ∀ σ H, I σ H → R D σ H) (h1 : ∀ C : L2.St → Hp → Prop, (∀ σ H, I σ H → C σ H) → tSeq s1 (tSeq s2 s3) { D with nx := C } σ H) : tSeq s1 (tSeq s2 (tSeq s3 R)) D σ H := h1 _ h2
theorem seq_cut4 {s1 s2 s3 s4 R : TS} {D : Ends} {σ : L2.St} {H : Hp} (I : L2.St → Hp → Prop) (h2 : ∀ σ H, I σ H → R D σ H) (h1 : ∀ C : L2.St → Hp → Prop, (∀ σ H, I σ H → C σ H) → tSeq s1 (tSeq s2 (tSeq s3 s4)) { D with nx := C } σ H) : tSeq s1 (tSeq s2 (tSeq s3 (tSeq s4 R))) D σ H := h1 _ h2
theorem seq_cut5 {s1 s2 s3 s4 s5 R : TS} {D : Ends} {σ : L2.St} {H : Hp} (I : L2.St → Hp → Prop) (h2 : ∀ σ H, I σ H → R D σ H) (h1 : ∀ C : L2.St → Hp → Prop, (∀ σ H, I σ H → C σ H) → tSeq s1 (tSeq s2 (tSeq s3 (tSeq s4 s5))) { D with nx := C } σ H) : tSeq s1 (tSeq s2 (tSeq s3 (tSeq s4 (tSeq s5 R)))) D σ H := h1 _ h2


def topS (i : Nat) : Stmt := PySem.Challenge.pw_stillroom_k35_grids_and_boxes.main.body.getD i (.Pass ⟨0, 0, 0, 0⟩)
abbrev s_is_integer_from : Stmt := topS 1
abbrev s_is_tuple_of : Stmt := topS 2
abbrev s_bounded : Stmt := topS 8
abbrev s_is_side : Stmt := topS 13
abbrev s_is_cell : Stmt := topS 14
abbrev s_is_grid : Stmt := topS 15
abbrev s_new_grid : Stmt := topS 16
abbrev s_in_box : Stmt := topS 17
abbrev s__law_cell : Stmt := topS 19
abbrev s__law_is_integer : Stmt := topS 20
abbrev s__law_side : Stmt := topS 21
abbrev s__law_value : Stmt := topS 22
abbrev s__law_is_side : Stmt := topS 23
abbrev s__law_due : Stmt := topS 24
abbrev s__law_told : Stmt := topS 25
abbrev s__law_place : Stmt := topS 26
abbrev s__law_bounded : Stmt := topS 27
abbrev s_law : Stmt := topS 28
theorem sc_is_integer_from : FnScope ["value", "low", "high"] ["value", "low", "high"] (defScope s_is_integer_from) := ⟨rfl, rfl, rfl, by decide +kernel, rfl, by decide +kernel, by decide +kernel⟩
theorem sc_is_tuple_of : FnScope ["value", "length"] ["value", "length"] (defScope s_is_tuple_of) := ⟨rfl, rfl, rfl, by decide +kernel, rfl, by decide +kernel, by decide +kernel⟩
theorem sc_bounded : FnScope ["number"] ["number"] (defScope s_bounded) := ⟨rfl, rfl, rfl, by decide +kernel, rfl, by decide +kernel, by decide +kernel⟩
theorem sc_is_side : FnScope ["value"] ["value"] (defScope s_is_side) := ⟨rfl, rfl, rfl, by decide +kernel, rfl, by decide +kernel, by decide +kernel⟩
theorem sc_is_cell : FnScope ["value"] ["value"] (defScope s_is_cell) := ⟨rfl, rfl, rfl, by decide +kernel, rfl, by decide +kernel, by decide +kernel⟩
theorem sc_is_grid : FnScope ["value", "width", "height", "cells", "cell"] ["value"] (defScope s_is_grid) := ⟨rfl, rfl, rfl, by decide +kernel, rfl, by decide +kernel, by decide +kernel⟩
theorem sc_new_grid : FnScope ["width", "height", "colour"] ["width", "height", "colour"] (defScope s_new_grid) := ⟨rfl, rfl, rfl, by decide +kernel, rfl, by decide +kernel, by decide +kernel⟩
theorem sc_in_box : FnScope ["x", "y", "box", "x0", "y0", "x1", "y1", "number"] ["x", "y", "box"] (defScope s_in_box) := ⟨rfl, rfl, rfl, by decide +kernel, rfl, by decide +kernel, by decide +kernel⟩
theorem sc__law_cell : FnScope ["script", "k"] ["script", "k"] (defScope s__law_cell) := ⟨rfl, rfl, rfl, by decide +kernel, rfl, by decide +kernel, by decide +kernel⟩
theorem sc__law_is_integer : FnScope ["actual"] ["actual"] (defScope s__law_is_integer) := ⟨rfl, rfl, rfl, by decide +kernel, rfl, by decide +kernel, by decide +kernel⟩
theorem sc__law_side : FnScope ["cell"] ["cell"] (defScope s__law_side) := ⟨rfl, rfl, rfl, by decide +kernel, rfl, by decide +kernel, by decide +kernel⟩
theorem sc__law_value : FnScope ["script", "cell", "width", "height", "count", "cells", "k", "which", "at"] ["script"] (defScope s__law_value) := ⟨rfl, rfl, rfl, by decide +kernel, rfl, by decide +kernel, by decide +kernel⟩
theorem sc__law_is_side : FnScope ["value"] ["value"] (defScope s__law_is_side) := ⟨rfl, rfl, rfl, by decide +kernel, rfl, by decide +kernel, by decide +kernel⟩
theorem sc__law_due : FnScope ["value", "cell"] ["value"] (defScope s__law_due) := ⟨rfl, rfl, rfl, by decide +kernel, rfl, by decide +kernel, by decide +kernel⟩
theorem sc__law_told : FnScope ["width", "height", "colour", "e"] ["width", "height", "colour"] (defScope s__law_told) := ⟨rfl, rfl, rfl, by decide +kernel, rfl, by decide +kernel, by decide +kernel⟩
theorem sc__law_place : FnScope ["cell", "which", "left"] ["cell"] (defScope s__law_place) := ⟨rfl, rfl, rfl, by decide +kernel, rfl, by decide +kernel, by decide +kernel⟩
theorem sc__law_bounded : FnScope ["number"] ["number"] (defScope s__law_bounded) := ⟨rfl, rfl, rfl, by decide +kernel, rfl, by decide +kernel, by decide +kernel⟩
theorem sc_law : FnScope ["script", "value", "found", "cell", "width", "height", "colour", "grid", "numbers", "k", "near", "number", "due", "told"] ["script"] (defScope s_law) := ⟨rfl, rfl, rfl, by decide +kernel, rfl, by decide +kernel, by decide +kernel⟩
/-- what the top has left, as far as the walk asks of it -/
structure Txt (K : PySem.W.Frag) (mg : Str → Option Value) where
  f_is_integer_from : Addr
  fd_is_integer_from : FuncData
  F_is_integer_from : Fun K "is_integer_from" "is_integer_from" s_is_integer_from f_is_integer_from fd_is_integer_from
  b_is_integer_from : Binds K fd_is_integer_from ["value", "low", "high"] []
  g_is_integer_from : mg "is_integer_from" = some (.ref f_is_integer_from)
  f_is_tuple_of : Addr
  fd_is_tuple_of : FuncData
  F_is_tuple_of : Fun K "is_tuple_of" "is_tuple_of" s_is_tuple_of f_is_tuple_of fd_is_tuple_of
  b_is_tuple_of : Binds K fd_is_tuple_of ["value", "length"] []
  g_is_tuple_of : mg "is_tuple_of" = some (.ref f_is_tuple_of)
  f_bounded : Addr
  fd_bounded : FuncData
  F_bounded : Fun K "bounded" "bounded" s_bounded f_bounded fd_bounded
  b_bounded : Binds K fd_bounded ["number"] []
  g_bounded : mg "bounded" = some (.ref f_bounded)
  f_is_side : Addr
  fd_is_side : FuncData
  F_is_side : Fun K "is_side" "is_side" s_is_side f_is_side fd_is_side
  b_is_side : Binds K fd_is_side ["value"] []
  g_is_side : mg "is_side" = some (.ref f_is_side)
  f_is_cell : Addr
  fd_is_cell : FuncData
  F_is_cell : Fun K "is_cell" "is_cell" s_is_cell f_is_cell fd_is_cell
  b_is_cell : Binds K fd_is_cell ["value"] []
  g_is_cell : mg "is_cell" = some (.ref f_is_cell)
  f_is_grid : Addr
  fd_is_grid : FuncData
  F_is_grid : Fun K "is_grid" "is_grid" s_is_grid f_is_grid fd_is_grid
  b_is_grid : Binds K fd_is_grid ["value"] []
  g_is_grid : mg "is_grid" = some (.ref f_is_grid)
  f_new_grid : Addr
  fd_new_grid : FuncData
  F_new_grid : Fun K "new_grid" "new_grid" s_new_grid f_new_grid fd_new_grid
  b_new_grid : Binds K fd_new_grid ["width", "height", "colour"] []
  g_new_grid : mg "new_grid" = some (.ref f_new_grid)
  f_in_box : Addr
  fd_in_box : FuncData
  F_in_box : Fun K "in_box" "in_box" s_in_box f_in_box fd_in_box
  b_in_box : Binds K fd_in_box ["x", "y", "box"] []
  g_in_box : mg "in_box" = some (.ref f_in_box)
  f__law_cell : Addr
  fd__law_cell : FuncData
  F__law_cell : Fun K "_law_cell" "_law_cell" s__law_cell f__law_cell fd__law_cell
  b__law_cell : Binds K fd__law_cell ["script", "k"] []
  g__law_cell : mg "_law_cell" = some (.ref f__law_cell)
  f__law_is_integer : Addr
  fd__law_is_integer : FuncData
  F__law_is_integer : Fun K "_law_is_integer" "_law_is_integer" s__law_is_integer f__law_is_integer fd__law_is_integer
  b__law_is_integer : Binds K fd__law_is_integer ["actual"] []
  g__law_is_integer : mg "_law_is_integer" = some (.ref f__law_is_integer)
  f__law_side : Addr
  fd__law_side : FuncData
  F__law_side : Fun K "_law_side" "_law_side" s__law_side f__law_side fd__law_side
  b__law_side : Binds K fd__law_side ["cell"] []
  g__law_side : mg "_law_side" = some (.ref f__law_side)
  f__law_value : Addr
  fd__law_value : FuncData
  F__law_value : Fun K "_law_value" "_law_value" s__law_value f__law_value fd__law_value
  b__law_value : Binds K fd__law_value ["script"] []
  g__law_value : mg "_law_value" = some (.ref f__law_value)
  f__law_is_side : Addr
  fd__law_is_side : FuncData
  F__law_is_side : Fun K "_law_is_side" "_law_is_side" s__law_is_side f__law_is_side fd__law_is_side
  b__law_is_side : Binds K fd__law_is_side ["value"] []
  g__law_is_side : mg "_law_is_side" = some (.ref f__law_is_side)
  f__law_due : Addr
  fd__law_due : FuncData
  F__law_due : Fun K "_law_due" "_law_due" s__law_due f__law_due fd__law_due
  b__law_due : Binds K fd__law_due ["value"] []
  g__law_due : mg "_law_due" = some (.ref f__law_due)
  f__law_told : Addr
  fd__law_told : FuncData
  F__law_told : Fun K "_law_told" "_law_told" s__law_told f__law_told fd__law_told
  b__law_told : Binds K fd__law_told ["width", "height", "colour"] []
  g__law_told : mg "_law_told" = some (.ref f__law_told)
  f__law_place : Addr
  fd__law_place : FuncData
  F__law_place : Fun K "_law_place" "_law_place" s__law_place f__law_place fd__law_place
  b__law_place : Binds K fd__law_place ["cell"] []
  g__law_place : mg "_law_place" = some (.ref f__law_place)
  f__law_bounded : Addr
  fd__law_bounded : FuncData
  F__law_bounded : Fun K "_law_bounded" "_law_bounded" s__law_bounded f__law_bounded fd__law_bounded
  b__law_bounded : Binds K fd__law_bounded ["number"] []
  g__law_bounded : mg "_law_bounded" = some (.ref f__law_bounded)
  f_law : Addr
  fd_law : FuncData
  F_law : Fun K "law" "law" s_law f_law fd_law
  b_law : Binds K fd_law ["script"] []
  g_law : mg "law" = some (.ref f_law)
  C_StillroomError : Addr
  gx_StillroomError : mg "StillroomError" = some (.ref C_StillroomError)
  xx_StillroomError : PySem.W.excIn K C_StillroomError [.type "ValueError", .type "Exception", .type "BaseException", .type "object"] "ValueError.__new__" = true
  kx_StillroomError : PySem.W.keepIn K (.ref C_StillroomError) = true
  bx_StillroomError : PySem.W.subIn K (.ref C_StillroomError) (.type "BaseException") = some true
  tx_StillroomError : PySem.W.typeIn K (.ref C_StillroomError) = some (.type "type")
  C_OutOfRange : Addr
  gx_OutOfRange : mg "OutOfRange" = some (.ref C_OutOfRange)
  xx_OutOfRange : PySem.W.excIn K C_OutOfRange [.type "ValueError", .type "Exception", .type "BaseException", .type "object"] "ValueError.__new__" = true
  kx_OutOfRange : PySem.W.keepIn K (.ref C_OutOfRange) = true
  bx_OutOfRange : PySem.W.subIn K (.ref C_OutOfRange) (.type "BaseException") = some true
  tx_OutOfRange : PySem.W.typeIn K (.ref C_OutOfRange) = some (.type "type")
  em_OutOfRange_StillroomError : PySem.W.exmOne K (.ref C_OutOfRange) (.ref C_StillroomError) = some true
  ki_OutOfRange_OutOfRange : PySem.W.kitOne K (.ref C_OutOfRange) (.ref C_OutOfRange) = some true
  ec_OutOfRange : ExcC K C_OutOfRange
  t__FARTHEST : Tok
  c__FARTHEST : mg "_FARTHEST" = some (.int 1048576 t__FARTHEST)
  t_NO_COLOUR : Tok
  c_NO_COLOUR : mg "NO_COLOUR" = some (.int (-1) t_NO_COLOUR)
  t_GREATEST_COLOUR : Tok
  c_GREATEST_COLOUR : mg "GREATEST_COLOUR" = some (.int 16777215 t_GREATEST_COLOUR)
  t_GREATEST_SIDE : Tok
  c_GREATEST_SIDE : mg "GREATEST_SIDE" = some (.int 64 t_GREATEST_SIDE)
  z_abs : mg "abs" = none
  z_all : mg "all" = none
  z_bool : mg "bool" = none
  z_int : mg "int" = none
  z_isinstance : mg "isinstance" = none
  z_len : mg "len" = none
  z_list : mg "list" = none
  z_max : mg "max" = none
  z_min : mg "min" = none
  z_range : mg "range" = none
  z_tuple : mg "tuple" = none
open Lean in
local macro_rules
  | `(tactic| walk_at $s:str) => do
    let ws := (s.getString.splitOn " ").filter (· ≠ "")
    let ids (fs : List String) : Array (TSyntax `term) := (fs.map fun f => (⟨mkIdent f.toName⟩ : TSyntax `term)).toArray
    match ws with
    | "vc" :: fs => do
      let xs := ids fs
      `(tactic| simp (config := {maxSteps := 2000000}) only [tSeq, tAsg, tOp, rI, rI0, rU, tUn, tCB, tCons, tNil, tVar, tC, gName, gSub, rSetL, tRet, tRetN, tIfS, tNext, tTest, tB, tDrop, tIf, tNot, tAnd, tOr, tAndV, tOrV, tNotV, tAug, ipI, tCall, tCmp, t2I, tBreak, tCont, tLst, tTup, tBM, tBM0, rAppend, tyV_upd, rLenH, rLenT, rListH, rIxH, rIxTH, rIxS, rEqIL, rNeIL, rEqTS, rSlH, rRep, rCat, rExtend, tSl, tPart, tNoPart, rIxT, gTup, gCons, gNil, atI_c0, atI_c1, atI_c2, atI_c3, dS_int, dS_bl, isS_int, isS_bl, eqv_ii, eqv_bb, eqvAll_nil, eqvAll_cons, List.all_cons, List.all_nil, Bool.and_true, Bool.true_and, rIsiB, tnm_int, tnm_bl, tnm_str, tnm_non, tnm_ref, kb1, kb2, kb3, kb4, kb5, kb6, kb7, kb8, kb9, kb10, rEq, rNe, scal_ii, scal_ss, scal_bb, scal_nn, scal_in, scal_ni, tFor_eq, tLc_eq, iRng1, iRng2, iList, iTup, iZip, iStr, iRng3, tChain, tYes, wipe, tCallL, Int.sub_zero, Int.toNat_natCast, Int.natCast_add, cxOf, L2.start, List.map_cons, List.map_nil, List.length_cons, List.length_nil, List.reduceReplicate, List.cons_append, List.nil_append, List.append_nil, List.set_cons_zero, List.set_cons_succ, List.getElem?_cons_zero, List.getElem?_cons_succ, upd_same, upd_upd, HO.lst.injEq, HO.tup.injEq, nil_sz, Option.some.injEq, V.int.injEq, V.bl.injEq, V.ref.injEq, V.str.injEq, V.ty.injEq, exists_eq_left', exists_eq_left, exists_eq', exists_eq, Int.cast_ofNat_Int, Int.reduceEq, Int.reduceMul, Int.reduceAdd, Int.reduceSub, Int.natCast_zero, Int.mul_zero, Int.add_zero, exists_and_left, exists_and_right, List.cons.injEq, and_true, true_and, and_assoc, reduceCtorEq, false_and, and_false, exists_false, exists_const, or_false, false_or, Nat.reduceAdd, Nat.reduceSub, Int.reduceLT, Int.reduceLE, Int.reduceNeg, Int.reducePow, Int.reduceToNat, ite_true, ite_false, Bool.false_eq_true, Bool.not_true, Bool.not_false, decide_true, decide_false, if_true, if_false, tTupS, tLstS, rListS, rListT, rTupleL, rCatL, rRepS, rSlS, map_int_inj, sz1, sz2, sz3, sz4, sz5, sz6, sz8, CMul, Nat.reduceLT, Nat.reduceLeDiff, Nat.reducePow, or_true, true_or, List.length_map, List.length_append, List.length_replicate, decide_eq_true_eq, gt_iff_lt, ge_iff_le, Int.reduceGT, Int.reduceGE, ne_eq, not_true_eq_false, not_false_eq_true, Int.reduceToNat, gTupS, gLstS, iListS, iTupS, tML, tML0, rPop, mx_eq, mn_eq, Int.natCast_inj, bitAnd_m1, bitAnd_m2, bitAnd_m3, bitAnd_m4, bitAnd_m5, bitAnd_m6, bitAnd_m7, bitAnd_m8, bitAnd_m16, CDiv, toNat_mul, map_snoc, map_cat, map_setV, List.length_set, absI_eq, Bool.and_self, tAugS, rGetL, iZipS, cutV_take1, cutV_drop1, tPar, rLenSc, rIxSc, iRng2, rSumS, rSlTS, cutV_take3, rEqC, rNeC, tTrL, iEnumL, rInI, rIndexI, tDGet, tDIn, tDNotIn, sDPut, iEnumS, tDc_eq, eq_self, rEqTK, rNeSK, rIsiTK, iRevS, iZipTS, rInLC, rNotInLC, rNotInTC, rRepL, tJoinC, tDGet2, tDNewTS, tDSetdT, tCallS, rIsB, rNotB, rIsE1, rAllS, rAnyS, kb11, kb12, kb13, kb14, kb15, kb16, kb17, kb18, kb19, kb20, kb21, kb22, kb23, kb24, kb25, kb26, kb27, kb28, kb29, kb30, $[$xs:term],*])
    | "w" :: fs => do
      let xs := ids fs
      let ys := (fs.map fun f => (⟨mkIdent f.toName⟩ : TSyntax `term)).toArray
      `(tactic| simp (config := {maxSteps := 2000000}) only [tSeq, tAsg, tOp, rI, rI0, rU, tUn, tCB, tCons, tNil, tVar, tC, gName, gSub, rSetL, tRet, tRetN, tIfS, tNext, tTest, tB, tDrop, tIf, tNot, tAnd, tOr, tAndV, tOrV, tNotV, tAug, ipI, tCall, tCmp, t2I, tBreak, tCont, tLst, tTup, tBM, tBM0, rAppend, tyV_upd, rLenH, rLenT, rListH, rIxH, rIxTH, rIxS, rEqIL, rNeIL, rEqTS, rSlH, rRep, rCat, rExtend, tSl, tPart, tNoPart, rIxT, gTup, gCons, gNil, atI_c0, atI_c1, atI_c2, atI_c3, dS_int, dS_bl, isS_int, isS_bl, eqv_ii, eqv_bb, eqvAll_nil, eqvAll_cons, List.all_cons, List.all_nil, Bool.and_true, Bool.true_and, rIsiB, tnm_int, tnm_bl, tnm_str, tnm_non, tnm_ref, kb1, kb2, kb3, kb4, kb5, kb6, kb7, kb8, kb9, kb10, rEq, rNe, scal_ii, scal_ss, scal_bb, scal_nn, scal_in, scal_ni, tFor_eq, tLc_eq, iRng1, iRng2, iList, iTup, iZip, iStr, iRng3, tChain, tYes, wipe, tCallL, Int.sub_zero, Int.toNat_natCast, Int.natCast_add, cxOf, L2.start, List.map_cons, List.map_nil, List.length_cons, List.length_nil, List.reduceReplicate, List.cons_append, List.nil_append, List.append_nil, List.set_cons_zero, List.set_cons_succ, List.getElem?_cons_zero, List.getElem?_cons_succ, upd_same, upd_upd, HO.lst.injEq, HO.tup.injEq, nil_sz, Option.some.injEq, V.int.injEq, V.bl.injEq, V.ref.injEq, V.str.injEq, V.ty.injEq, exists_eq_left', exists_eq_left, exists_eq', exists_eq, Int.cast_ofNat_Int, Int.reduceEq, Int.reduceMul, Int.reduceAdd, Int.reduceSub, Int.natCast_zero, Int.mul_zero, Int.add_zero, exists_and_left, exists_and_right, List.cons.injEq, and_true, true_and, and_assoc, reduceCtorEq, false_and, and_false, exists_false, exists_const, or_false, false_or, Nat.reduceAdd, Nat.reduceSub, Int.reduceLT, Int.reduceLE, Int.reduceNeg, Int.reducePow, Int.reduceToNat, ite_true, ite_false, Bool.false_eq_true, Bool.not_true, Bool.not_false, decide_true, decide_false, if_true, if_false, tTupS, tLstS, rListS, rListT, rTupleL, rCatL, rRepS, rSlS, map_int_inj, sz1, sz2, sz3, sz4, sz5, sz6, sz8, CMul, Nat.reduceLT, Nat.reduceLeDiff, Nat.reducePow, or_true, true_or, List.length_map, List.length_append, List.length_replicate, decide_eq_true_eq, gt_iff_lt, ge_iff_le, Int.reduceGT, Int.reduceGE, ne_eq, not_true_eq_false, not_false_eq_true, Int.reduceToNat, gTupS, gLstS, iListS, iTupS, tML, tML0, rPop, mx_eq, mn_eq, Int.natCast_inj, bitAnd_m1, bitAnd_m2, bitAnd_m3, bitAnd_m4, bitAnd_m5, bitAnd_m6, bitAnd_m7, bitAnd_m8, bitAnd_m16, CDiv, toNat_mul, map_snoc, map_cat, map_setV, List.length_set, absI_eq, Bool.and_self, tAugS, rGetL, iZipS, cutV_take1, cutV_drop1, tPar, rLenSc, rIxSc, iRng2, rSumS, rSlTS, cutV_take3, rEqC, rNeC, tTrL, iEnumL, rInI, rIndexI, tDGet, tDIn, tDNotIn, sDPut, iEnumS, tDc_eq, eq_self, rEqTK, rNeSK, rIsiTK, iRevS, iZipTS, rInLC, rNotInLC, rNotInTC, rRepL, tJoinC, tDGet2, tDNewTS, tDSetdT, tCallS, rIsB, rNotB, rIsE1, rAllS, rAnyS, kb11, kb12, kb13, kb14, kb15, kb16, kb17, kb18, kb19, kb20, kb21, kb22, kb23, kb24, kb25, kb26, kb27, kb28, kb29, kb30, $[$xs:term],*, $[(tyL_eq $ys)],*, $[(sqL_eq $ys)],*])
    | "g" :: fs => do
      let xs := ids fs
      `(tactic| simp only [gTupS, gCons, gNil, gName, HO.tup.injEq, Option.some.injEq, exists_eq_left', exists_eq_left, exists_eq', exists_eq, V.ref.injEq, List.cons.injEq, and_assoc, exists_and_left, exists_and_right, true_and, and_true, List.length_cons, List.length_nil, Nat.reduceAdd, List.set_cons_zero, List.set_cons_succ, $[$xs:term],*])
    | "c" :: sn :: gs => do
      let s1 := mkIdent sn.toName
      let mut out ← `(tactic| skip)
      for g in gs do
        let i := mkIdent g.toName
        out ← `(tactic| ($out; replace $i := $s1 _ _ $i))
      return out
    | "n" :: sn :: suf :: gs => do
      let s1 := mkIdent sn.toName
      let mut out ← `(tactic| skip)
      for g in gs do
        let i := mkIdent g.toName
        let j := mkIdent (g ++ suf).toName
        out ← `(tactic| ($out; have $j := $s1 _ _ $i))
      return out
    | "b" :: bn :: suf :: gs => do
      let s1 := mkIdent bn.toName
      let mut out ← `(tactic| skip)
      for g in gs do
        let i := mkIdent g.toName
        let j := mkIdent (g ++ suf).toName
        let n := mkIdent ("ne_" ++ g).toName
        out ← `(tactic| ($out; have $j := $s1 _ _ $n $i))
      return out
    | _ => Macro.throwUnsupported

section
variable {P : Program} {w : World} {K : PySem.W.Frag} {mg : Str → Option Value} {base : Heap}

theorem foldl_take {α β : Type} (f : β → α → β) (s : β) {l : List α} {i : Nat} {x : α} (h : l[i]? = some x) : (l.take (i + 1)).foldl f s = f ((l.take i).foldl f s) x := by
  rw [List.take_add_one, h, List.foldl_append]
  simp only [Option.toList_some, List.foldl_cons, List.foldl_nil]
theorem take_succ {α : Type} {l : List α} {i : Nat} {x : α} (h : l[i]? = some x) : l.take (i + 1) = l.take i ++ [x] := by
  rw [List.take_add_one, h]
  rfl
theorem take_map_succ {α β : Type} (f : α → β) {l : List α} {i : Nat} {x : α} (h : l[i]? = some x) : (l.map f).take (i + 1) = (l.map f).take i ++ [f x] := take_succ (by rw [List.getElem?_map, h]; rfl)
theorem take_lt {α : Type} (l : List α) (i : Nat) {n : Nat} (h : l.length < n) : (l.take i).length < n := Nat.lt_of_le_of_lt (by rw [List.length_take]; exact Nat.min_le_right _ _) h
def YTup (ns : List Int) : Nat → Hp → V → Hp → Prop := fun i H v H' => H' = H ∧ ∃ b, ns[i]? = some b ∧ v = .int b
theorem walkTI {K : PySem.W.Frag} {a : Addr} {ns : List Int} : Walk (Itt K a) ns.length (fun H => H a = some (.tup (List.map V.int ns))) (YTup ns) := by
  have w := walkT (K := K) (a := a) (xs := List.map V.int ns)
  rw [List.length_map] at w
  refine w.mono (fun _ h => h) fun i H x H' _ _ y => ⟨y.1, ?_⟩
  have h := y.2
  rw [List.getElem?_map] at h
  obtain ⟨b, h1, rfl⟩ := Option.map_eq_some_iff.mp h
  exact ⟨b, h1, rfl⟩
theorem foldl_len {α : Type} {f : List Int → α → List Int} (h : ∀ p c, (f p c).length = p.length) : ∀ (l : List α) (p : List Int), (l.foldl f p).length = p.length
  | [], _ => rfl
  | c :: r, p => by rw [List.foldl_cons, foldl_len h r, h]
theorem ix_in {r c w h : Nat} (hr : r < h) (hc : c < w) : r * w + c < w * h := by
  have h1 : r * w + w ≤ h * w := by rw [← Nat.succ_mul]; exact Nat.mul_le_mul_right w hr
  rw [Nat.mul_comm w h]
  omega
theorem map_set (l : List Int) (i : Nat) (v : Int) : (List.map V.int l).set i (.int v) = List.map V.int (l.set i v) := by rw [List.map_set]
theorem div_in {a d : Int} {n : Nat} (h0 : 0 ≤ a) (h1 : a < d) (hn : 1 ≤ n) : 0 ≤ a * n / d ∧ a * n / d < n := by
  refine ⟨Int.ediv_nonneg (Int.mul_nonneg h0 (by omega)) (by omega), Int.ediv_lt_of_lt_mul (by omega) ?_⟩
  rw [Int.mul_comm (n : Int) d]
  exact Int.mul_lt_mul_of_pos_right h1 (by omega)
theorem foldl_ext' {α β : Type} {f g : α → β → α} {l : List β} : ∀ {a : α}, (∀ a, ∀ b ∈ l, f a b = g a b) → l.foldl f a = l.foldl g a := by
  induction l with
  | nil => exact fun _ => rfl
  | cons x r ih => exact fun {a} h => by rw [List.foldl_cons, List.foldl_cons, h a x List.mem_cons_self]; exact ih fun a b hb => h a b (List.mem_cons_of_mem _ hb)
theorem gN_ge {src : List Int} (h : ∀ v ∈ src, -1 ≤ v) (i : Nat) : -1 ≤ gN src i := by
  unfold gN
  rw [List.getD_eq_getElem?_getD]
  cases e : src[i]? with
  | none => decide
  | some b => exact h b (List.mem_of_getElem? e)
theorem cnt_lt {n : Nat} (h : n ≤ 2000000) : n < sizeLine := Nat.lt_of_le_of_lt h (by decide)
theorem cnt_le {n : Nat} (h : n ≤ 2000000) : n ≤ sizeLine := Nat.le_of_lt (cnt_lt h)
theorem cnt_leL {n : Nat} (h : n ≤ 10000000) : n ≤ sizeLine := Nat.le_trans h (by decide)

/-! ### checks of values of any kind -/
def fromB (lo hi : Int) : V → Bool
  | .int i => decide (lo ≤ i) && decide (i ≤ hi)
  | _ => false
theorem fromB_int (lo hi i : Int) : fromB lo hi (.int i) = (decide (lo ≤ i) && decide (i ≤ hi)) := rfl
theorem fromB_T {lo hi i : Int} (h : lo ≤ i ∧ i ≤ hi) : fromB lo hi (.int i) = true := by rw [fromB_int, decide_eq_true h.1, decide_eq_true h.2]; rfl
theorem fromB_F {lo hi i : Int} (h : ¬ (lo ≤ i ∧ i ≤ hi)) : fromB lo hi (.int i) = false := by
  rw [fromB_int]
  by_cases h1 : lo ≤ i
  · rw [decide_eq_false (show ¬ i ≤ hi from fun z => h ⟨h1, z⟩), Bool.and_false]
  · rw [decide_eq_false h1, Bool.false_and]
/-- a plain value, a list or a tuple -/
def Kn (H : Hp) (v : V) : Prop := Pl v ∨ (∃ p xs, v = .ref p ∧ H p = some (.lst xs)) ∨ ∃ p xs, v = .ref p ∧ H p = some (.tup xs)
def NoTup (H : Hp) (v : V) : Prop := Pl v ∨ ∃ p xs, v = .ref p ∧ H p = some (.lst xs)
def sp_is_integer_from (K : PySem.W.Frag) : Sp := fun vs H Q _ => ∃ (v : V) (lo hi : Int), vs = [v, .int lo, .int hi] ∧ (Kn H v) ∧ (Q (.bl (fromB lo hi v)) H)
theorem ok_is_integer_from (T : Txt K mg) : FnOk P w K mg base CX0 1 T.f_is_integer_from T.fd_is_integer_from ["value", "low", "high"] (sp_is_integer_from K) := by
  refine T.F_is_integer_from.ok sc_is_integer_from (fun vs H Q E h => ?_) (fun cdv A outer s H vs Q E hr h => ?_)
  · obtain ⟨v, lo, hi, rfl, _⟩ := h
    rfl
  · obtain ⟨v, lo, hi, rfl, hv, q⟩ := h
    refine ⟨_, (pss_one (ps_ret (pe_and (pe_callB call_isiB (by rfl) T.z_isinstance (by decide +kernel) (pa_cons (pv 0) (pa_cons (pe_bltn (v := .ty "int") (u := .type "int") (by rfl) T.z_int (by decide +kernel) rfl) pa_nil))) (pe_and (pe_not (pe_callB call_isiB (by rfl) T.z_isinstance (by decide +kernel) (pa_cons (pv 0) (pa_cons (pe_bltn (v := .ty "bool") (u := .type "bool") (by rfl) T.z_bool (by decide +kernel) rfl) pa_nil)))) (pe_one (pe_chain op_le op_le (pv 1) (pv 0) (pv 2))))))), ?_⟩
    rcases hv with hv | ⟨p, xs, rfl, g⟩ | ⟨p, xs, rfl, g⟩
    · rcases hv.cs with rfl | ⟨b, rfl⟩ | ⟨i, rfl⟩ | ⟨b, rfl⟩
      · walk_at "vc"
        exact q
      · walk_at "vc"
        exact q
      · rw [fromB_int] at q
        walk_at "vc"
        refine iteP (fun c => ?_) (fun c => ?_)
        · rw [decide_eq_true c, Bool.true_and] at q
          exact q
        · rw [decide_eq_false c, Bool.false_and] at q
          exact q
      · walk_at "vc"
        exact q
    · walk_at "vc g"
      exact q
    · walk_at "vc g"
      exact q

def sp_is_tuple_of (K : PySem.W.Frag) : Sp := fun vs H Q _ => ∃ (v : V) (n : Int), vs = [v, .int n] ∧ ((∃ p xs, v = .ref p ∧ H p = some (.tup xs) ∧ Q (.bl (decide ((xs.length : Int) = n))) H) ∨ (NoTup H v ∧ Q (.bl false) H))
theorem ok_is_tuple_of (T : Txt K mg) : FnOk P w K mg base CX0 1 T.f_is_tuple_of T.fd_is_tuple_of ["value", "length"] (sp_is_tuple_of K) := by
  refine T.F_is_tuple_of.ok sc_is_tuple_of (fun vs H Q E h => ?_) (fun cdv A outer s H vs Q E hr h => ?_)
  · obtain ⟨v, n, rfl, _⟩ := h
    rfl
  · obtain ⟨v, n, rfl, h⟩ := h
    refine ⟨_, (pss_one (ps_ret (pe_and (pe_callB call_isiB (by rfl) T.z_isinstance (by decide +kernel) (pa_cons (pv 0) (pa_cons (pe_bltn (v := .ty "tuple") (u := .type "tuple") (by rfl) T.z_tuple (by decide +kernel) rfl) pa_nil))) (pe_one (pe_cmpR op_eq (pe_callB call_lenT (by rfl) T.z_len PySem.boot_len (pa_cons (pv 0) pa_nil)) (pv 1) (nomark _)))))), ?_⟩
    rcases h with ⟨p, xs, rfl, g, q⟩ | ⟨hv | ⟨p, xs, rfl, g⟩, q⟩
    · walk_at "vc g"
      exact q
    · rcases hv.cs with rfl | ⟨b, rfl⟩ | ⟨i, rfl⟩ | ⟨b, rfl⟩
      · walk_at "vc"
        exact q
      · walk_at "vc"
        exact q
      · walk_at "vc"
        exact q
      · walk_at "vc"
        exact q
    · walk_at "vc g"
      exact q

inductive CD
  | s (v : V)
  | t
  | l (cells : List V)
inductive GD
  | s
  | l
  | t (items : List CD)
def CV (H : Hp) (x : V) : CD → Prop
  | .s v => x = v ∧ Pl v
  | .t => ∃ p ys, x = .ref p ∧ H p = some (.tup ys)
  | .l cs => ∃ p, x = .ref p ∧ H p = some (.lst cs) ∧ ∀ y ∈ cs, Pl y
def GV (H : Hp) (x : V) : GD → Prop
  | .s => Pl x
  | .l => ∃ p ys, x = .ref p ∧ H p = some (.lst ys)
  | .t items => ∃ p ys, x = .ref p ∧ H p = some (.tup ys) ∧ All2 (CV H) ys items
theorem CV.mono {H H' : Hp} (s : Same H H') (x : V) (c : CD) (h : CV H x c) : CV H' x c := by
  cases c with
  | s v => exact h
  | t => obtain ⟨p, ys, e, g⟩ := h; exact ⟨p, ys, e, s _ _ g⟩
  | l cs => obtain ⟨p, e, g, k⟩ := h; exact ⟨p, e, s _ _ g, k⟩
theorem GV.mono {H H' : Hp} (s : Same H H') {x : V} {g : GD} (h : GV H x g) : GV H' x g := by
  cases g with
  | s => exact h
  | l => obtain ⟨p, ys, e, g⟩ := h; exact ⟨p, ys, e, s _ _ g⟩
  | t items => obtain ⟨p, ys, e, g, k⟩ := h; exact ⟨p, ys, e, s _ _ g, k.mono (CV.mono s)⟩
theorem CV.kn {H : Hp} {x : V} {c : CD} (h : CV H x c) : Kn H x := by
  cases c with
  | s v => obtain ⟨rfl, h⟩ := h; exact .inl h
  | t => obtain ⟨p, ys, e, g⟩ := h; exact .inr (.inr ⟨p, ys, e, g⟩)
  | l cs => obtain ⟨p, e, g, k⟩ := h; exact .inr (.inl ⟨p, cs, e, g⟩)
def sideC : CD → Option Int
  | .s (.int i) => if 1 ≤ i ∧ i ≤ 64 then some i else none
  | _ => none
def gOk : GD → Bool
  | .t [w, h, c] => match sideC w, sideC h, c with
    | some w, some h, .l cs => decide ((cs.length : Int) = w * h) && cs.all (fromB (-1) 16777215)
    | _, _, _ => false
  | _ => false
theorem CV.side {H : Hp} {x : V} {c : CD} (h : CV H x c) : (fromB 1 64 x = true ∧ ∃ i, x = .int i ∧ sideC c = some i ∧ 1 ≤ i ∧ i ≤ 64) ∨ (fromB 1 64 x = false ∧ sideC c = none) := by
  cases c with
  | s v =>
    obtain ⟨rfl, h⟩ := h
    cases x <;> try exact .inr ⟨rfl, rfl⟩
    rename_i i
    by_cases k : 1 ≤ i ∧ i ≤ 64
    · refine .inl ⟨by simp [fromB, k], i, rfl, by simp [sideC, k], k⟩
    · refine .inr ⟨?_, by simp [sideC, k]⟩
      by_cases k1 : 1 ≤ i
      · simp [fromB, k1, show ¬ i ≤ 64 from fun z => k ⟨k1, z⟩]
      · simp [fromB, k1]
  | t => obtain ⟨p, ys, rfl, g⟩ := h; exact .inr ⟨rfl, rfl⟩
  | l cs => obtain ⟨p, rfl, g, k⟩ := h; exact .inr ⟨rfl, rfl⟩
theorem gOk_none {w h c : CD} (e : sideC w = none ∨ sideC h = none) : gOk (.t [w, h, c]) = false := by
  rcases e with e | e
  · simp [gOk, e]
  · cases k : sideC w <;> simp [gOk, e, k]
def cOk (n : Int) : CD → Bool
  | .l cs => decide ((cs.length : Int) = n) && cs.all (fromB (-1) 16777215)
  | _ => false
theorem gOk_some {w h c : CD} {i j : Int} (e1 : sideC w = some i) (e2 : sideC h = some j) : gOk (.t [w, h, c]) = cOk (i * j) c := by
  cases c <;> simp [gOk, cOk, e1, e2]
theorem gOk_len {items : List CD} (h : items.length ≠ 3) : gOk (.t items) = false := by
  match items, h with
  | [], _ => rfl
  | [_], _ => rfl
  | [_, _], _ => rfl
  | _ :: _ :: _ :: _ :: _, _ => rfl

def sp_is_side (K : PySem.W.Frag) : Sp := fun vs H Q _ => ∃ (v : V), vs = [v] ∧ (Kn H v) ∧ (Q (.bl (fromB 1 64 v)) H)
theorem ok_is_side (T : Txt K mg) : FnOk P w K mg base CX0 2 T.f_is_side T.fd_is_side ["value"] (sp_is_side K) := by
  refine T.F_is_side.ok sc_is_side (fun vs H Q E h => ?_) (fun cdv A outer s H vs Q E hr h => ?_)
  · obtain ⟨v, rfl, _⟩ := h
    rfl
  · obtain ⟨v, rfl, hv, q⟩ := h
    refine ⟨_, (pss_one (ps_ret (pe_call (ok_is_integer_from T) hr (by rfl) T.g_is_integer_from T.F_is_integer_from.kp T.b_is_integer_from .nil pass0 (pa_cons (pv 0) (pa_cons pe_int (pa_cons (pe_glob (v := .int 64) (by rfl) T.c_GREATEST_SIDE ⟨_, rfl⟩) pa_nil)))))), ?_⟩
    walk_at "vc sp_is_integer_from"
    exact ⟨hv, q⟩
def sp_is_cell (K : PySem.W.Frag) : Sp := fun vs H Q _ => ∃ (v : V), vs = [v] ∧ (Kn H v) ∧ (Q (.bl (fromB (-1) 16777215 v)) H)
theorem ok_is_cell (T : Txt K mg) : FnOk P w K mg base CX0 2 T.f_is_cell T.fd_is_cell ["value"] (sp_is_cell K) := by
  refine T.F_is_cell.ok sc_is_cell (fun vs H Q E h => ?_) (fun cdv A outer s H vs Q E hr h => ?_)
  · obtain ⟨v, rfl, _⟩ := h
    rfl
  · obtain ⟨v, rfl, hv, q⟩ := h
    refine ⟨_, (pss_one (ps_ret (pe_call (ok_is_integer_from T) hr (by rfl) T.g_is_integer_from T.F_is_integer_from.kp T.b_is_integer_from .nil pass0 (pa_cons (pv 0) (pa_cons (pe_glob (v := .int (-1)) (by rfl) T.c_NO_COLOUR ⟨_, rfl⟩) (pa_cons (pe_glob (v := .int 16777215) (by rfl) T.c_GREATEST_COLOUR ⟨_, rfl⟩) pa_nil)))))), ?_⟩
    walk_at "vc sp_is_integer_from"
    exact ⟨hv, q⟩
def sp_is_grid (K : PySem.W.Frag) : Sp := fun vs H Q _ => ∃ (v : V) (g : GD), vs = [v] ∧ (GV H v g) ∧ (∀ H', Same H H' → Q (.bl (gOk g)) H')
theorem ok_is_grid (T : Txt K mg) : FnOk P w K mg base CX0 3 T.f_is_grid T.fd_is_grid ["value"] (sp_is_grid K) := by
  refine T.F_is_grid.ok sc_is_grid (fun vs H Q E h => ?_) (fun cdv A outer s H vs Q E hr h => ?_)
  · obtain ⟨v, g, rfl, _⟩ := h
    rfl
  · obtain ⟨v, g, rfl, hg, q⟩ := h
    refine ⟨_, (pss_cons (ps_if (pt_not (pt_val (pe_call (ok_is_tuple_of T) (hr.mono (by decide)) (by rfl) T.g_is_tuple_of T.F_is_tuple_of.kp T.b_is_tuple_of .nil pass0 (pa_cons (pv 0) (pa_cons pe_int pa_nil))))) (pss_one (ps_ret pe_bl)) pss_nil)
      (pss_cons (ps_asg (pv 0) (pg_tupS (n := 3) (by rfl) (pgs_cons (pg_name (i := 1) sc_is_grid.nd rfl (Or.inl rfl)) (pgs_cons (pg_name (i := 2) sc_is_grid.nd rfl (Or.inl rfl)) (pgs_cons (pg_name (i := 3) sc_is_grid.nd rfl (Or.inl rfl)) pgs_nil)))))
      (pss_cons (ps_if (PW.pt (pw_or (pt_not (pt_val (pe_call (ok_is_side T) hr (by rfl) T.g_is_side T.F_is_side.kp T.b_is_side .nil pass0 (pa_cons (pv 1) pa_nil)))) (pw_or1 (pt_not (pt_val (pe_call (ok_is_side T) hr (by rfl) T.g_is_side T.F_is_side.kp T.b_is_side .nil pass0 (pa_cons (pv 2) pa_nil))))))) (pss_one (ps_ret pe_bl)) pss_nil)
      (pss_cons (ps_if (PW.pt (pw_or (pt_not (pt_val (pe_callB call_isiB (by rfl) T.z_isinstance (by decide +kernel) (pa_cons (pv 3) (pa_cons (pe_bltn (v := .ty "list") (u := .type "list") (by rfl) T.z_list (by decide +kernel) rfl) pa_nil))))) (pw_or1 (pt_cmpR op_ne (pe_callB call_lenH (by rfl) T.z_len PySem.boot_len (pa_cons (pv 3) pa_nil)) (pe_op op_mul (pv 1) (pv 2)) (nomark _))))) (pss_one (ps_ret pe_bl)) pss_nil)
      (pss_one (ps_ret (pe_callB (cr_allS rfl) (by rfl) T.z_all (by decide +kernel) (pa_cons (pe_lc (own := [("cell", 4)]) (g := (gName 4)) rfl sc_is_grid.nd (pi_listS (pv 3)) (blkOk_by (own := [("cell", 4)]) (N := ["value", "width", "height", "cells", "cell"]) (sc := defScope s_is_grid) (by decide +kernel)) (fun _ _ _ _ _ => (pg_name (i := 4) sc_is_grid.nd rfl (Or.inl rfl))) (fun _ _ _ _ _ => pts_nil) (fun _ _ _ _ _ => (pe_call (ok_is_cell T) hr (by rfl) T.g_is_cell T.F_is_cell.kp T.b_is_cell .nil pass0 (pa_cons (pv 4) pa_nil)))) pa_nil)))))))), ?_⟩
    walk_at "vc sp_is_tuple_of"
    cases g with
    | s =>
      refine .inr ⟨.inl hg, ?_⟩
      exact q _ (Same.refl _)
    | l =>
      refine .inr ⟨.inr hg, ?_⟩
      exact q _ (Same.refl _)
    | t items =>
      obtain ⟨p, ys, rfl, g, k⟩ := hg
      refine .inl ⟨p, rfl, ys, g, ?_⟩
      by_cases hl : ys.length = 3
      · obtain ⟨y0, y1, y2, rfl⟩ : ∃ a b c, ys = [a, b, c] := by
          match ys, hl with
          | [a, b, c], _ => exact ⟨a, b, c, rfl⟩
        cases k with
        | cons h0 k => cases k with
          | cons h1 k => cases k with
            | cons h2 k => cases k with
              | nil =>
                rename_i d0 d1 d2
                walk_at "vc g sp_is_side"
                refine ⟨h0.kn, ?_⟩
                rcases h0.side with ⟨e0, i0, rfl, f0, l0, u0⟩ | ⟨e0, f0⟩
                · rw [e0]
                  walk_at "vc"
                  refine ⟨h1.kn, ?_⟩
                  rcases h1.side with ⟨e1, i1, rfl, f1, l1, u1⟩ | ⟨e1, f1⟩
                  · rw [e1]
                    rw [gOk_some f0 f1] at q
                    cases d2 with
                    | s v =>
                      obtain ⟨rfl, hp⟩ := h2
                      rcases hp.cs with rfl | ⟨b, rfl⟩ | ⟨i, rfl⟩ | ⟨b, rfl⟩
                      · walk_at "vc"
                        exact q _ (Same.refl _)
                      · walk_at "vc"
                        exact q _ (Same.refl _)
                      · walk_at "vc"
                        exact q _ (Same.refl _)
                      · walk_at "vc"
                        exact q _ (Same.refl _)
                    | t =>
                      obtain ⟨pc, yc, rfl, gc⟩ := h2
                      walk_at "vc gc"
                      exact q _ (Same.refl _)
                    | l cs =>
                      obtain ⟨pc, rfl, gc, kc⟩ := h2
                      walk_at "vc gc"
                      refine ⟨.inl ⟨by omega, by omega⟩, ?_⟩
                      by_cases hn : (cs.length : Int) = i0 * i1
                      · rw [if_neg (by simp [hn])]
                        have hcs : cs.length < 5000 := by
                          have : i0 * i1 ≤ 64 * 64 := Int.mul_le_mul u0 u1 (by omega) (by omega)
                          omega
                        refine lcL (walkL (xs := cs)) (L := fun i => (cs.take i).map fun v => V.bl (fromB (-1) 16777215 v)) rfl (fun _ s => s _ _ gc) (fun D i x H1 H2 hi hD s1 g1 y => ?_) (fun D H1 s1 hD g1 => ?_)
                        · obtain ⟨rfl, hx⟩ := y
                          rw [take_succ hx, List.map_append]
                          walk_at "vc sp_is_cell g1"
                          exact ⟨.inl (kc _ (List.mem_of_getElem? hx)), cnt_lt (by rw [List.length_take]; omega), same_upd2 s1 hD⟩
                        · rw [List.take_length] at g1
                          refine ⟨D, rfl, cs.map (fromB (-1) 16777215), by rw [g1, List.map_map]; rfl, ?_⟩
                          rw [all_id]
                          rw [show cOk (i0 * i1) (.l cs) = cs.all (fromB (-1) 16777215) by simp [cOk, hn]] at q
                          exact q _ s1
                      · rw [if_pos (by simp [hn])]
                        rw [show cOk (i0 * i1) (.l cs) = false by simp [cOk, hn]] at q
                        exact q _ (Same.refl _)
                  · rw [e1]
                    rw [gOk_none (.inr f1)] at q
                    walk_at "vc"
                    exact q _ (Same.refl _)
                · rw [e0]
                  rw [gOk_none (.inl f0)] at q
                  walk_at "vc"
                  exact q _ (Same.refl _)
      · rw [gOk_len (by rw [← k.len]; exact hl)] at q
        rw [decide_eq_false (by omega)]
        walk_at "vc"
        exact q _ (Same.refl _)
def sp_new_grid (K : PySem.W.Frag) (C_OutOfRange : Addr) : Sp := fun vs H Q E => ∃ (w h c : Int), vs = [.int w, .int h, .int c] ∧ (∀ H' p pc, Same H H' → (1 ≤ w ∧ w ≤ 64) → (1 ≤ h ∧ h ≤ 64) → (-1 ≤ c ∧ c ≤ 16777215) → H' p = some (.tup [.int w, .int h, .ref pc]) → H' pc = some (.lst (List.map V.int (List.replicate (w * h).toNat c))) → Q (.ref p) H') ∧ (¬ ((1 ≤ w ∧ w ≤ 64) ∧ (1 ≤ h ∧ h ≤ 64) ∧ (-1 ≤ c ∧ c ≤ 16777215)) → E (.ref C_OutOfRange) none H)
theorem ok_new_grid (T : Txt K mg) : FnOk P w K mg base (L2.CX P w) 3 T.f_new_grid T.fd_new_grid ["width", "height", "colour"] (sp_new_grid K T.C_OutOfRange) := by
  refine T.F_new_grid.okX sc_new_grid (fun vs H Q E h => ?_) (fun cdv A outer s H vs Q E hr h => ?_)
  · obtain ⟨w, h, c, rfl, _⟩ := h
    rfl
  · obtain ⟨w, h, c, rfl, q, e⟩ := h
    refine ⟨_, (pss_cons (ps_if (PW.pt (pw_or (pt_not (pt_val (pe_call (ok_is_side T) hr (by rfl) T.g_is_side T.F_is_side.kp T.b_is_side .nil pass0 (pa_cons (pv 0) pa_nil)))) (pw_or1 (pt_not (pt_val (pe_call (ok_is_side T) hr (by rfl) T.g_is_side T.F_is_side.kp T.b_is_side .nil pass0 (pa_cons (pv 1) pa_nil))))))) (pss_one (ps_raise rfl (takes_of rfl rfl rfl rfl) (pmk_own PySem.F.excBase_ValueError T.xx_OutOfRange T.gx_OutOfRange T.kx_OutOfRange (raises_own T.bx_OutOfRange T.tx_OutOfRange) (by rfl)))) pss_nil)
      (pss_cons (ps_if (pt_not (pt_val (pe_call (ok_is_cell T) hr (by rfl) T.g_is_cell T.F_is_cell.kp T.b_is_cell .nil pass0 (pa_cons (pv 2) pa_nil)))) (pss_one (ps_raise rfl (takes_of rfl rfl rfl rfl) (pmk_own PySem.F.excBase_ValueError T.xx_OutOfRange T.gx_OutOfRange T.kx_OutOfRange (raises_own T.bx_OutOfRange T.tx_OutOfRange) (by rfl)))) pss_nil)
      (pss_one (ps_ret (pe_tupS (pa_cons (pv 0) (pa_cons (pv 1) (pa_cons (pe_op op_repS (pe_lstS (pa_cons (pv 2) pa_nil)) (pe_op op_mul (pv 0) (pv 1))) pa_nil)))))))), ?_⟩
    walk_at "vc sp_is_side sp_is_cell"
    refine ⟨.inl (.int _), ?_⟩
    by_cases hw : 1 ≤ w ∧ w ≤ 64
    · rw [fromB_T hw, if_neg (by decide)]
      refine ⟨.inl (.int _), ?_⟩
      by_cases hh : 1 ≤ h ∧ h ≤ 64
      · rw [fromB_T hh, if_neg (by decide)]
        refine ⟨.inl (.int _), ?_⟩
        by_cases hc : -1 ≤ c ∧ c ≤ 16777215
        · rw [fromB_T hc, if_neg (by decide)]
          intro p H1 s1 n1 g1
          have hm : w * h ≤ 64 * 64 := Int.mul_le_mul hw.2 hh.2 (by omega) (by omega)
          have hm0 : 0 ≤ w * h := Int.mul_nonneg (by omega) (by omega)
          refine ⟨.inl ⟨by omega, by omega⟩, _, g1, by omega, by omega, fun p2 H2 s2 n2 g2 p3 H3 s3 n3 g3 => ?_⟩
          exact q H3 p3 p2 (s1.trans (s2.trans s3)) hw hh hc g3 (by rw [s3 _ _ g2, List.map_replicate])
        · rw [fromB_F hc, if_pos (by decide)]
          exact e fun z => hc z.2.2
      · rw [fromB_F hh, if_pos (by decide)]
        exact e fun z => hh z.2.1
    · rw [fromB_F hw, if_pos (by decide)]
      exact e fun z => hw z.1
def bd (x : Int) : Int := mn (mx x (-1048576)) 1048576
def sp_bounded (K : PySem.W.Frag) : Sp := fun vs H Q _ => ∃ (x : Int), vs = [.int x] ∧ (Q (.int (bd x)) H)
theorem ok_bounded (T : Txt K mg) : FnOk P w K mg base CX0 1 T.f_bounded T.fd_bounded ["number"] (sp_bounded K) := by
  refine T.F_bounded.ok sc_bounded (fun vs H Q E h => ?_) (fun cdv A outer s H vs Q E hr h => ?_)
  · obtain ⟨x, rfl, _⟩ := h
    rfl
  · obtain ⟨x, rfl, q⟩ := h
    refine ⟨_, (pss_one (ps_ret (pe_callB (call_min2 rfl) (by rfl) T.z_min (by decide +kernel) (pa_cons (pe_callB (call_max2 rfl) (by rfl) T.z_max (by decide +kernel) (pa_cons (pv 0) (pa_cons (pe_un un_neg (pe_glob (v := .int 1048576) (by rfl) T.c__FARTHEST ⟨_, rfl⟩)) pa_nil))) (pa_cons (pe_glob (v := .int 1048576) (by rfl) T.c__FARTHEST ⟨_, rfl⟩) pa_nil))))), ?_⟩
    walk_at "vc"
    exact q
def sp_in_box (K : PySem.W.Frag) : Sp := fun vs H Q _ => ∃ (a : Addr) (x y b0 b1 b2 b3 : Int), vs = [.int x, .int y, .ref a] ∧ (H a = some (.tup (List.map V.int [b0, b1, b2, b3]))) ∧ (∀ H', Same H H' → Q (.bl (decide (bd b0 ≤ bd x ∧ bd x < bd b2 ∧ bd b1 ≤ bd y ∧ bd y < bd b3))) H')
theorem ok_in_box (T : Txt K mg) : FnOk P w K mg base CX0 2 T.f_in_box T.fd_in_box ["x", "y", "box"] (sp_in_box K) := by
  refine T.F_in_box.ok sc_in_box (fun vs H Q E h => ?_) (fun cdv A outer s H vs Q E hr h => ?_)
  · obtain ⟨a, x, y, b0, b1, b2, b3, rfl, _⟩ := h
    rfl
  · obtain ⟨a, x, y, b0, b1, b2, b3, rfl, ha, q⟩ := h
    refine ⟨_, (pss_cons (ps_asg (pe_lc (own := [("number", 7)]) (g := (gName 7)) rfl sc_in_box.nd (pi_tupS (pv 2)) (blkOk_by (own := [("number", 7)]) (N := ["x", "y", "box", "x0", "y0", "x1", "y1", "number"]) (sc := defScope s_in_box) (by decide +kernel)) (fun _ _ _ _ _ => (pg_name (i := 7) sc_in_box.nd rfl (Or.inl rfl))) (fun _ _ _ _ _ => pts_nil) (fun _ _ _ _ _ => (pe_call (ok_bounded T) hr (by rfl) T.g_bounded T.F_bounded.kp T.b_bounded .nil pass0 (pa_cons (pv 7) pa_nil)))) (pg_lstS (n := 4) (by rfl) (pgs_cons (pg_name (i := 3) sc_in_box.nd rfl (Or.inl rfl)) (pgs_cons (pg_name (i := 4) sc_in_box.nd rfl (Or.inl rfl)) (pgs_cons (pg_name (i := 5) sc_in_box.nd rfl (Or.inl rfl)) (pgs_cons (pg_name (i := 6) sc_in_box.nd rfl (Or.inl rfl)) pgs_nil))))))
      (pss_one (ps_ret (pe_and (pe_chain op_le op_lt (pv 3) (pe_call (ok_bounded T) hr (by rfl) T.g_bounded T.F_bounded.kp T.b_bounded .nil pass0 (pa_cons (pv 0) pa_nil)) (pv 5)) (pe_one (pe_chain op_le op_lt (pv 4) (pe_call (ok_bounded T) hr (by rfl) T.g_bounded T.F_bounded.kp T.b_bounded .nil pass0 (pa_cons (pv 1) pa_nil)) (pv 6))))))), ?_⟩
    walk_at "vc ha"
    refine lcL walkTI (L := fun i => List.map V.int (([b0, b1, b2, b3].map bd).take i)) rfl (fun _ s => s _ _ ha) (fun D i x H1 H2 hi hD s1 g1 y => ?_) (fun D H1 s1 hD g1 => ?_)
    · obtain ⟨rfl, b, hb, rfl⟩ := y
      rw [take_map_succ bd hb]
      walk_at "vc sp_bounded g1"
      exact ⟨take_lt _ _ (show 4 < sizeLine by decide), same_upd2 s1 hD⟩
    replace g1 : H1 D = some (.lst [.int (bd b0), .int (bd b1), .int (bd b2), .int (bd b3)]) := g1
    walk_at "vc g1 sp_bounded"
    refine iteP (fun c1 => iteP (fun c2 => iteP (fun c3 => ?_) (fun c3 => ?_)) (fun c2 => ?_)) (fun c1 => ?_)
    · rw [show decide (bd y < bd b3) = decide (bd b0 ≤ bd x ∧ bd x < bd b2 ∧ bd b1 ≤ bd y ∧ bd y < bd b3) from decide_eq_decide.mpr ⟨fun z => ⟨c1, c2, c3, z⟩, fun z => z.2.2.2⟩]
      exact q _ s1
    all_goals
      rw [show false = decide (bd b0 ≤ bd x ∧ bd x < bd b2 ∧ bd b1 ≤ bd y ∧ bd y < bd b3) from (decide_eq_false fun z => by first | exact c3 z.2.2.1 | exact c2 z.2.1 | exact c1 z.1).symm]
      exact q _ s1

def sp__law_cell (K : PySem.W.Frag) (a : Addr) (ns : List Int) : Sp := fun vs H Q _ => ∃ (k : Int), vs = [.ref a, .int k] ∧ (0 ≤ k) ∧ (SqL K H a (List.map V.int ns)) ∧ (Q (.int (cellA ns k.toNat)) H)
theorem ok__law_cell (T : Txt K mg) (a : Addr) (ns : List Int) : FnOk P w K mg base CX0 1 T.f__law_cell T.fd__law_cell ["script", "k"] (sp__law_cell K a ns) := by
  refine T.F__law_cell.ok sc__law_cell (fun vs H Q E h => ?_) (fun cdv A outer s H vs Q E hr h => ?_)
  · obtain ⟨k, rfl, _⟩ := h
    rfl
  · obtain ⟨k, rfl, hk0, hS, q⟩ := h
    refine ⟨_, (pss_cons (ps_if (pt_cmpR op_lt (pv 1) (pe_callB call_len_seq (by rfl) T.z_len PySem.boot_len (pa_cons (pv 0) pa_nil)) (nomark _)) (pss_one (ps_ret (pe_callTy call_int1 (by rfl) T.z_int (by decide +kernel) (pa_cons (pe_ix ix_list (pv 0) (pv 1) (fun _ _ => rfl)) pa_nil)))) pss_nil)
      (pss_one (ps_ret pe_int))), ?_⟩
    obtain ⟨k, rfl⟩ := natOf hk0
    rw [Int.toNat_natCast] at q
    refine ⟨_, rfl, _, rfl, a, _, rfl, .inl hS, _, _, rfl, rfl, _, rfl, ite2 (fun e => ?_) (fun e => ?_)⟩
    · have e1 := of_decide_eq_true e
      rw [List.length_map] at e1
      have hk : k < ns.length := by omega
      refine ⟨_, rfl, _, rfl, a, _, _, .int (cellA ns k), rfl, rfl, hS, ?_, .inl ⟨_, rfl, q⟩⟩
      refine atI_nat ?_
      rw [List.getElem?_map, List.getElem?_eq_getElem hk]
      simp [cellA, hk]
    · have e1 : ¬ ((k : Int) < ((ns.map V.int).length : Int)) := fun z => e (decide_eq_true z)
      rw [List.length_map] at e1
      have hk : ns.length ≤ k := by omega
      have e0 : cellA ns k = 0 := by simp [cellA, hk]
      rw [e0] at q
      exact q

def isI : V → Bool
  | .int _ => true
  | _ => false
def sp__law_is_integer (K : PySem.W.Frag) : Sp := fun vs H Q _ => ∃ (v : V), vs = [v] ∧ (Kn H v) ∧ (Q (.bl (isI v)) H)
theorem ok__law_is_integer (T : Txt K mg) : FnOk P w K mg base CX0 1 T.f__law_is_integer T.fd__law_is_integer ["actual"] (sp__law_is_integer K) := by
  refine T.F__law_is_integer.ok sc__law_is_integer (fun vs H Q E h => ?_) (fun cdv A outer s H vs Q E hr h => ?_)
  · obtain ⟨v, rfl, _⟩ := h
    rfl
  · obtain ⟨v, rfl, hv, q⟩ := h
    refine ⟨_, (pss_one (ps_ret (pe_and (pe_callB call_isiB (by rfl) T.z_isinstance (by decide +kernel) (pa_cons (pv 0) (pa_cons (pe_bltn (v := .ty "int") (u := .type "int") (by rfl) T.z_int (by decide +kernel) rfl) pa_nil))) (pe_one (pe_not (pe_callB call_isiB (by rfl) T.z_isinstance (by decide +kernel) (pa_cons (pv 0) (pa_cons (pe_bltn (v := .ty "bool") (u := .type "bool") (by rfl) T.z_bool (by decide +kernel) rfl) pa_nil)))))))), ?_⟩
    rcases hv with hv | ⟨p, xs, rfl, g⟩ | ⟨p, xs, rfl, g⟩
    · rcases hv.cs with rfl | ⟨b, rfl⟩ | ⟨i, rfl⟩ | ⟨b, rfl⟩
      · walk_at "vc"
        exact q
      · walk_at "vc"
        exact q
      · walk_at "vc"
        exact q
      · walk_at "vc"
        exact q
    · walk_at "vc g"
      exact q
    · walk_at "vc g"
      exact q
def sp__law_side (K : PySem.W.Frag) : Sp := fun vs H Q _ => ∃ (c : Int), vs = [.int c] ∧ (0 ≤ c) ∧ (∀ H' v, Same H H' → -1 ≤ v → v ≤ 66 → Q (.int v) H')
theorem ok__law_side (T : Txt K mg) : FnOk P w K mg base CX0 1 T.f__law_side T.fd__law_side ["cell"] (sp__law_side K) := by
  refine T.F__law_side.ok sc__law_side (fun vs H Q E h => ?_) (fun cdv A outer s H vs Q E hr h => ?_)
  · obtain ⟨c, rfl, _⟩ := h
    rfl
  · obtain ⟨c, rfl, hc, q⟩ := h
    refine ⟨_, (pss_one (ps_ret (pe_ix ix_listH (pe_lstS (pa_cons (pe_op op_mod (pe_callTy call_int1 (by rfl) T.z_int (by decide +kernel) (pa_cons (pv 0) pa_nil)) pe_int) (pa_cons (pe_op op_add pe_int (pe_op op_mod (pe_callTy call_int1 (by rfl) T.z_int (by decide +kernel) (pa_cons (pe_op op_fdiv (pv 0) pe_int) pa_nil)) pe_int)) (pa_cons (pe_op op_add pe_int (pe_op op_mod (pe_callTy call_int1 (by rfl) T.z_int (by decide +kernel) (pa_cons (pe_op op_fdiv (pv 0) pe_int) pa_nil)) pe_int)) (pa_cons (pe_un un_neg pe_int) pa_nil))))) (pe_op op_and (pe_callTy call_int1 (by rfl) T.z_int (by decide +kernel) (pa_cons (pe_op op_fdiv (pv 0) pe_int) pa_nil)) pe_int) (fun _ _ => rfl)))), ?_⟩
    walk_at "vc"
    intro p H1 s1 n1 g1
    refine ⟨_, g1, ?_⟩
    rcases (show c / 32 % 4 = 0 ∨ c / 32 % 4 = 1 ∨ c / 32 % 4 = 2 ∨ c / 32 % 4 = 3 by omega) with e | e | e | e <;> rw [e]
    · exact ⟨_, rfl, q H1 _ s1 (by omega) (by omega)⟩
    · exact ⟨_, rfl, q H1 _ s1 (by omega) (by omega)⟩
    · exact ⟨_, rfl, q H1 _ s1 (by omega) (by omega)⟩
    · exact ⟨_, rfl, q H1 _ s1 (by omega) (by omega)⟩
def sp__law_is_side (K : PySem.W.Frag) : Sp := fun vs H Q _ => ∃ (v : V), vs = [v] ∧ (Kn H v) ∧ (Q (.bl (fromB 1 64 v)) H)
theorem ok__law_is_side (T : Txt K mg) : FnOk P w K mg base CX0 2 T.f__law_is_side T.fd__law_is_side ["value"] (sp__law_is_side K) := by
  refine T.F__law_is_side.ok sc__law_is_side (fun vs H Q E h => ?_) (fun cdv A outer s H vs Q E hr h => ?_)
  · obtain ⟨v, rfl, _⟩ := h
    rfl
  · obtain ⟨v, rfl, hv, q⟩ := h
    refine ⟨_, (pss_one (ps_ret (pe_and (pe_call (ok__law_is_integer T) hr (by rfl) T.g__law_is_integer T.F__law_is_integer.kp T.b__law_is_integer .nil pass0 (pa_cons (pv 0) pa_nil)) (pe_one (pe_chain op_le op_le pe_int (pv 0) pe_int))))), ?_⟩
    walk_at "vc sp__law_is_integer"
    refine ⟨hv, ?_⟩
    cases v <;> try exact q
    rename_i i
    refine if_true_of rfl ⟨i, rfl, ?_⟩
    rw [fromB_int] at q
    refine iteP (fun c => ?_) (fun c => ?_)
    · rw [decide_eq_true c, Bool.true_and] at q
      exact ⟨i, rfl, q⟩
    · rw [decide_eq_false c, Bool.false_and] at q
      exact q
def sp__law_bounded (K : PySem.W.Frag) : Sp := fun vs H Q _ => ∃ (x : Int), vs = [.int x] ∧ (Q (.int (bd x)) H)
theorem ok__law_bounded (T : Txt K mg) : FnOk P w K mg base CX0 1 T.f__law_bounded T.fd__law_bounded ["number"] (sp__law_bounded K) := by
  refine T.F__law_bounded.ok sc__law_bounded (fun vs H Q E h => ?_) (fun cdv A outer s H vs Q E hr h => ?_)
  · obtain ⟨x, rfl, _⟩ := h
    rfl
  · obtain ⟨x, rfl, q⟩ := h
    refine ⟨_, (pss_cons (ps_if (pt_cmpR op_gt (pv 0) pe_int (nomark _)) (pss_one (ps_ret pe_int)) pss_nil)
      (pss_cons (ps_if (pt_cmpR op_lt (pv 0) (pe_un un_neg pe_int) (nomark _)) (pss_one (ps_ret (pe_un un_neg pe_int))) pss_nil)
      (pss_one (ps_ret (pv 0))))), ?_⟩
    walk_at "vc"
    refine iteP (fun c => ?_) (fun c => iteP (fun d => ?_) (fun d => ?_))
    · rw [show bd x = 1048576 by unfold bd mn mx; (repeat' split); all_goals omega] at q
      exact q
    · rw [show bd x = -1048576 by unfold bd mn mx; (repeat' split); all_goals omega] at q
      exact q
    · rw [show bd x = x by unfold bd mn mx; (repeat' split); all_goals omega] at q
      exact q
def sp__law_place (K : PySem.W.Frag) : Sp := fun vs H Q _ => ∃ (c : Int), vs = [.int c] ∧ (0 ≤ c) ∧ (∀ H' v, Same H H' → Q (.int v) H')
theorem ok__law_place (T : Txt K mg) : FnOk P w K mg base CX0 1 T.f__law_place T.fd__law_place ["cell"] (sp__law_place K) := by
  refine T.F__law_place.ok sc__law_place (fun vs H Q E h => ?_) (fun cdv A outer s H vs Q E hr h => ?_)
  · obtain ⟨c, rfl, _⟩ := h
    rfl
  · obtain ⟨c, rfl, hc, q⟩ := h
    refine ⟨_, (pss_cons (ps_set (i := 1) sc__law_place.nd rfl (Or.inl rfl) (pe_op op_mod (pe_callTy call_int1 (by rfl) T.z_int (by decide +kernel) (pa_cons (pv 0) pa_nil)) pe_int))
      (pss_cons (ps_set (i := 2) sc__law_place.nd rfl (Or.inl rfl) (pe_op op_fdiv (pv 0) pe_int))
      (pss_cons (ps_if (pt_cmpR op_lt (pv 1) pe_int (nomark _)) (pss_one (ps_ret (pe_op op_sub (pe_op op_mod (pe_callTy call_int1 (by rfl) T.z_int (by decide +kernel) (pa_cons (pv 2) pa_nil)) pe_int) pe_int))) pss_nil)
      (pss_cons (ps_if (pt_cmpR op_eq (pv 1) pe_int (nomark _)) (pss_one (ps_ret (pe_op op_add (pe_op op_sub pe_int pe_int) (pe_op op_mod (pe_callTy call_int1 (by rfl) T.z_int (by decide +kernel) (pa_cons (pv 2) pa_nil)) pe_int)))) pss_nil)
      (pss_cons (ps_if (pt_cmpR op_eq (pv 1) pe_int (nomark _)) (pss_one (ps_ret (pe_op op_add (pe_op op_sub (pe_un un_neg pe_int) pe_int) (pe_op op_mod (pe_callTy call_int1 (by rfl) T.z_int (by decide +kernel) (pa_cons (pv 2) pa_nil)) pe_int)))) pss_nil)
      (pss_one (ps_ret (pe_ix ix_listH (pe_lstS (pa_cons (pv 2) (pa_cons (pe_op op_sub pe_int (pv 2)) pa_nil))) (pe_op op_and (pe_callTy call_int1 (by rfl) T.z_int (by decide +kernel) (pa_cons (pv 2) pa_nil)) pe_int) (fun _ _ => rfl))))))))), ?_⟩
    walk_at "vc"
    refine iteP (fun _ => q H _ (Same.refl _)) fun _ => iteP (fun _ => q H _ (Same.refl _)) fun _ => iteP (fun _ => q H _ (Same.refl _)) fun _ => ?_
    intro p H1 s1 n1 g1
    refine ⟨_, g1, ?_⟩
    rcases (show c / 6 % 2 = 0 ∨ c / 6 % 2 = 1 by omega) with e | e <;> rw [e]
    · exact ⟨_, rfl, q H1 _ s1⟩
    · exact ⟨_, rfl, q H1 _ s1⟩
def sp__law_told (K : PySem.W.Frag) : Sp := fun vs H Q _ => ∃ (w h c : Int), vs = [.int w, .int h, .int c] ∧ (∀ H' p pc, Same H H' → (1 ≤ w ∧ w ≤ 64) → (1 ≤ h ∧ h ≤ 64) → (-1 ≤ c ∧ c ≤ 16777215) → H' p = some (.tup [.int w, .int h, .ref pc]) → H' pc = some (.lst (List.map V.int (List.replicate (w * h).toNat c))) → Q (.ref p) H') ∧ (¬ ((1 ≤ w ∧ w ≤ 64) ∧ (1 ≤ h ∧ h ≤ 64) ∧ (-1 ≤ c ∧ c ≤ 16777215)) → Q .non H)
theorem ok__law_told (T : Txt K mg) : FnOk P w K mg base CX0 4 T.f__law_told T.fd__law_told ["width", "height", "colour"] (sp__law_told K) := by
  refine T.F__law_told.ok sc__law_told (fun vs H Q E h => ?_) (fun cdv A outer s H vs Q E hr h => ?_)
  · obtain ⟨w, h, c, rfl, _⟩ := h
    rfl
  · obtain ⟨w, h, c, rfl, q, e⟩ := h
    refine ⟨_, (pss_cons (ps_try_as (i := 3) rfl rfl sc__law_told.nd rfl rfl ⟨rfl, by decide, .inl T.gx_StillroomError⟩ takes0 (fun W pn xe tk _ => (pss_one (ps_ret (pe_callS (ok_new_grid T) hr (by rfl) T.g_new_grid T.F_new_grid.kp T.b_new_grid (fun σ => passAt tk σ) (pa_cons (pv 0) (pa_cons (pv 1) (pa_cons (pv 2) pa_nil))))))) (fun a oe cls d pn hz hf => (pss_one (ps_if (pt_val (pe_callB (call_isE1 hz hf) (by rfl) T.z_isinstance (by decide +kernel) (pa_cons (pv 3) (pa_cons (pe_glob (v := .ref T.C_OutOfRange) (by rfl) T.gx_OutOfRange rfl) pa_nil)))) (pss_one (ps_ret pe_non)) pss_nil))))
      (pss_one (ps_ret pe_int))), ?_⟩
    walk_at "vc sp_new_grid"
    refine ⟨q, fun z => ⟨true, T.em_OutOfRange_StillroomError, fun _ a ha => ?_, fun z => nomatch z⟩⟩
    walk_at "vc"
    exact ⟨_, rfl, T.ec_OutOfRange, _, T.ki_OutOfRange_OutOfRange, if_true_of rfl (e fun k => z ⟨k.1.1, k.1.2, k.2.1.1, k.2.1.2, k.2.2.1, k.2.2.2⟩)⟩
def sp__law_due (K : PySem.W.Frag) : Sp := fun vs H Q _ => ∃ (v : V) (g : GD), vs = [v] ∧ (GV H v g) ∧ (Q (.bl (gOk g)) H)
theorem ok__law_due (T : Txt K mg) : FnOk P w K mg base CX0 3 T.f__law_due T.fd__law_due ["value"] (sp__law_due K) := by
  refine T.F__law_due.ok sc__law_due (fun vs H Q E h => ?_) (fun cdv A outer s H vs Q E hr h => ?_)
  · obtain ⟨v, g, rfl, _⟩ := h
    rfl
  · obtain ⟨v, g, rfl, hg, q⟩ := h
    refine ⟨_, (pss_cons (ps_if (PW.pt (pw_or (pt_not (pt_val (pe_callB call_isiB (by rfl) T.z_isinstance (by decide +kernel) (pa_cons (pv 0) (pa_cons (pe_bltn (v := .ty "tuple") (u := .type "tuple") (by rfl) T.z_tuple (by decide +kernel) rfl) pa_nil))))) (pw_or (pt_cmpR op_ne (pe_callB call_lenT (by rfl) T.z_len PySem.boot_len (pa_cons (pv 0) pa_nil)) pe_int (nomark _)) (pw_or (pt_not (pt_val (pe_call (ok__law_is_side T) hr (by rfl) T.g__law_is_side T.F__law_is_side.kp T.b__law_is_side .nil pass0 (pa_cons (pe_ix ix_tupH (pv 0) pe_int (fun _ _ => rfl)) pa_nil)))) (pw_or1 (pt_not (pt_val (pe_call (ok__law_is_side T) hr (by rfl) T.g__law_is_side T.F__law_is_side.kp T.b__law_is_side .nil pass0 (pa_cons (pe_ix ix_tupH (pv 0) pe_int (fun _ _ => rfl)) pa_nil))))))))) (pss_one (ps_ret pe_bl)) pss_nil)
      (pss_cons (ps_if (PW.pt (pw_or (pt_not (pt_val (pe_callB call_isiB (by rfl) T.z_isinstance (by decide +kernel) (pa_cons (pe_ix ix_tupH (pv 0) pe_int (fun _ _ => rfl)) (pa_cons (pe_bltn (v := .ty "list") (u := .type "list") (by rfl) T.z_list (by decide +kernel) rfl) pa_nil))))) (pw_or1 (pt_cmpR op_ne (pe_callB call_lenH (by rfl) T.z_len PySem.boot_len (pa_cons (pe_ix ix_tupH (pv 0) pe_int (fun _ _ => rfl)) pa_nil)) (pe_op op_mul (pe_ix ix_tupH (pv 0) pe_int (fun _ _ => rfl)) (pe_ix ix_tupH (pv 0) pe_int (fun _ _ => rfl))) (nomark _))))) (pss_one (ps_ret pe_bl)) pss_nil)
      (pss_cons (ps_for PassesOwn.never rfl (pi_listS (pe_ix ix_tupH (pv 0) pe_int (fun _ _ => rfl))) (pg_name (i := 1) sc__law_due.nd rfl (Or.inl rfl)) (pss_one (ps_if (PW.pt (pw_or (pt_not (pt_val (pe_call (ok__law_is_integer T) (hr.mono (by decide)) (by rfl) T.g__law_is_integer T.F__law_is_integer.kp T.b__law_is_integer .nil pass0 (pa_cons (pv 1) pa_nil)))) (pw_or (pt_cmpR op_lt (pv 1) (pe_un un_neg pe_int) (nomark _)) (pw_or1 (pt_cmpR op_gt (pv 1) pe_int (nomark _)))))) (pss_one (ps_ret pe_bl)) pss_nil)))
      (pss_one (ps_ret pe_bl))))), ?_⟩
    walk_at "vc sp__law_is_side"
    cases g with
    | s =>
      rcases hg.cs with rfl | ⟨b, rfl⟩ | ⟨i, rfl⟩ | ⟨b, rfl⟩
      · walk_at "vc"
        exact q
      · walk_at "vc"
        exact q
      · walk_at "vc"
        exact q
      · walk_at "vc"
        exact q
    | l =>
      obtain ⟨p, ys, rfl, g⟩ := hg
      walk_at "vc g"
      exact q
    | t items =>
      obtain ⟨p, ys, rfl, g, k⟩ := hg
      walk_at "vc g"
      by_cases hl : ys.length = 3
      · obtain ⟨y0, y1, y2, rfl⟩ : ∃ a b c, ys = [a, b, c] := by
          match ys, hl with
          | [a, b, c], _ => exact ⟨a, b, c, rfl⟩
        cases k with
        | cons h0 k => cases k with
          | cons h1 k => cases k with
            | cons h2 k => cases k with
              | nil =>
                rename_i d0 d1 d2
                walk_at "vc"
                refine ⟨h0.kn, ?_⟩
                rcases h0.side with ⟨e0, i0, rfl, f0, l0, u0⟩ | ⟨e0, f0⟩
                · rw [e0, if_neg (by decide)]
                  refine ⟨h1.kn, ?_⟩
                  rcases h1.side with ⟨e1, i1, rfl, f1, l1, u1⟩ | ⟨e1, f1⟩
                  · rw [e1, if_neg (by decide)]
                    rw [gOk_some f0 f1] at q
                    cases d2 with
                    | s v =>
                      obtain ⟨rfl, hp⟩ := h2
                      rcases hp.cs with rfl | ⟨b, rfl⟩ | ⟨i, rfl⟩ | ⟨b, rfl⟩
                      · walk_at "vc"
                        exact q
                      · walk_at "vc"
                        exact q
                      · walk_at "vc"
                        exact q
                      · walk_at "vc"
                        exact q
                    | t =>
                      obtain ⟨pc, yc, rfl, gc⟩ := h2
                      walk_at "vc gc"
                      exact q
                    | l cs =>
                      obtain ⟨pc, rfl, gc, kc⟩ := h2
                      walk_at "vc gc"
                      refine ⟨.inl ⟨by omega, by omega⟩, ?_⟩
                      by_cases hn : (cs.length : Int) = i0 * i1
                      · rw [if_neg (by simp [hn])]
                        rw [show cOk (i0 * i1) (.l cs) = cs.all (fromB (-1) 16777215) by simp [cOk, hn]] at q
                        refine lpW (walkL (xs := cs)) (fun i σ H' => ∃ v, σ = [some (.ref p), v] ∧ H' = H ∧ (cs.take i).all (fromB (-1) 16777215) = true) ⟨_, rfl, rfl, rfl⟩ ?_ ?_ ?_
                        · rintro i σ H' _ ⟨_, _, rfl, _⟩
                          exact gc
                        · rintro i x σ H1 H2 hi ⟨v, rfl, rfl, hall⟩ ⟨rfl, hx⟩
                          walk_at "vc sp__law_is_integer"
                          rw [take_succ hx, List.all_append, hall]
                          have hpx := kc _ (List.mem_of_getElem? hx)
                          have hmem := List.mem_of_getElem? hx
                          refine ⟨.inl hpx, ?_⟩
                          have bad : fromB (-1) 16777215 x = false → Q (.bl false) H2 := fun z => by
                            rw [show cs.all (fromB (-1) 16777215) = false from List.all_eq_false.mpr ⟨x, hmem, by rw [z]; decide⟩] at q
                            exact q
                          rcases hpx.cs with rfl | ⟨b, rfl⟩ | ⟨j, rfl⟩ | ⟨b, rfl⟩
                          · exact if_true_of rfl (bad rfl)
                          · exact if_true_of rfl (bad rfl)
                          · refine if_false_of rfl ⟨j, rfl, ?_⟩
                            refine iteP (fun c1 => bad (fromB_F (by omega))) fun c1 => ⟨j, rfl, iteP (fun c2 => bad (fromB_F (by omega))) fun c2 => ?_⟩
                            rw [List.all_cons, List.all_nil, fromB_T (by omega)]
                            rfl
                          · exact if_true_of rfl (bad rfl)
                        · rintro σ H1 ⟨v, rfl, rfl, hall⟩
                          rw [List.take_length] at hall
                          rw [hall] at q
                          walk_at "vc"
                          exact q
                      · rw [if_pos (by simp [hn])]
                        rw [show cOk (i0 * i1) (.l cs) = false by simp [cOk, hn]] at q
                        exact q
                  · rw [e1, if_pos (by decide)]
                    rw [gOk_none (.inr f1)] at q
                    exact q
                · rw [e0, if_pos (by decide)]
                  rw [gOk_none (.inl f0)] at q
                  exact q
      · rw [gOk_len (by rw [← k.len]; exact hl)] at q
        rw [decide_eq_false (by omega)]
        walk_at "vc"
        exact q
theorem vals7 (n : Nat) (c : Int) : ∀ y ∈ (List.range n).map (fun (i : Nat) => V.int ((c + (i : Int)) % 7 - 1)), Pl y := by
  intro y h
  obtain ⟨i, _, rfl⟩ := List.mem_map.mp h
  exact .int _
def sp__law_value (K : PySem.W.Frag) (a : Addr) (ns : List Int) : Sp := fun vs H Q _ => vs = [.ref a] ∧ (SqL K H a (List.map V.int ns)) ∧ (∀ H' v g, Same H H' → GV H' v g → Q v H')
theorem ok__law_value (T : Txt K mg) (a : Addr) (ns : List Int) : FnOk P w K mg base CX0 2 T.f__law_value T.fd__law_value ["script"] (sp__law_value K a ns) := by
  refine T.F__law_value.ok sc__law_value (fun vs H Q E h => ?_) (fun cdv A outer s H vs Q E hr h => ?_)
  · obtain ⟨rfl, _⟩ := h
    rfl
  · obtain ⟨rfl, hS, q⟩ := h
    refine ⟨_, (pss_cons (ps_set (i := 1) sc__law_value.nd rfl (Or.inr rfl) (pe_callB call_abs (by rfl) T.z_abs (by decide +kernel) (pa_cons (pe_call (ok__law_cell T a ns) hr (by rfl) T.g__law_cell T.F__law_cell.kp T.b__law_cell .nil pass0 (pa_cons (pv 0) (pa_cons pe_int pa_nil))) pa_nil)))
      (pss_cons (ps_set (i := 2) sc__law_value.nd rfl (Or.inl rfl) (pe_call (ok__law_side T) hr (by rfl) T.g__law_side T.F__law_side.kp T.b__law_side .nil pass0 (pa_cons (pv 1) pa_nil)))
      (pss_cons (ps_set (i := 3) sc__law_value.nd rfl (Or.inl rfl) (pe_call (ok__law_side T) hr (by rfl) T.g__law_side T.F__law_side.kp T.b__law_side .nil pass0 (pa_cons (pe_op op_fdiv (pv 1) pe_int) pa_nil)))
      (pss_cons (ps_set (i := 4) sc__law_value.nd rfl (Or.inl rfl) (pe_callB (call_max2 rfl) (by rfl) T.z_max (by decide +kernel) (pa_cons pe_int (pa_cons (pe_op op_add (pe_op op_mul (pv 2) (pv 3)) (pe_ix ix_listH (pe_lstS (pa_cons pe_int (pa_cons pe_int (pa_cons pe_int (pa_cons pe_int (pa_cons (pe_un un_neg pe_int) pa_nil)))))) (pe_op op_mod (pe_callTy call_int1 (by rfl) T.z_int (by decide +kernel) (pa_cons (pe_op op_fdiv (pv 1) pe_int) pa_nil)) pe_int) (fun _ _ => rfl))) pa_nil))))
      (pss_cons (ps_setLc (i := 5) (own := [("k", 6)]) (g := (gName 6)) rfl sc__law_value.nd rfl rfl (sw_true rfl rfl rfl (by decide +kernel)) (pi_range1 (by rfl) T.z_range (pa_cons (pv 4) pa_nil)) (blkOk_by (own := [("k", 6)]) (N := ["script", "cell", "width", "height", "count", "cells", "k", "which", "at"]) (sc := defScope s__law_value) (by decide +kernel)) (fun _ _ _ _ _ => (pg_name (i := 6) sc__law_value.nd rfl (Or.inl rfl))) (fun _ _ _ _ _ => pts_nil) (fun _ _ _ _ _ => (pe_op op_sub (pe_op op_mod (pe_callTy call_int1 (by rfl) T.z_int (by decide +kernel) (pa_cons (pe_op op_add (pe_op op_fdiv (pv 1) pe_int) (pv 6)) pa_nil)) pe_int) pe_int)))
      (pss_cons (ps_set (i := 7) sc__law_value.nd rfl (Or.inl rfl) (pe_op op_mod (pe_callTy call_int1 (by rfl) T.z_int (by decide +kernel) (pa_cons (pe_callB call_abs (by rfl) T.z_abs (by decide +kernel) (pa_cons (pe_call (ok__law_cell T a ns) hr (by rfl) T.g__law_cell T.F__law_cell.kp T.b__law_cell .nil pass0 (pa_cons (pv 0) (pa_cons pe_int pa_nil))) pa_nil)) pa_nil)) pe_int))
      (pss_cons (ps_if (PW.pt (pw_and (pt_cmpR op_gt (pv 4) pe_int (nomark _)) (pw_and1 (pt_cmpR op_lt (pv 7) pe_int (nomark _))))) (pss_cons (ps_set (i := 8) sc__law_value.nd rfl (Or.inl rfl) (pe_op op_mod (pe_callTy call_int1 (by rfl) T.z_int (by decide +kernel) (pa_cons (pe_op op_fdiv (pe_callB call_abs (by rfl) T.z_abs (by decide +kernel) (pa_cons (pe_call (ok__law_cell T a ns) hr (by rfl) T.g__law_cell T.F__law_cell.kp T.b__law_cell .nil pass0 (pa_cons (pv 0) (pa_cons pe_int pa_nil))) pa_nil)) pe_int) pa_nil)) (pv 4)))
      (pss_one (ps_asg (pe_ix ix_listH (pe_lstS (pa_cons pe_int (pa_cons pe_int (pa_cons (pe_un un_neg pe_int) (pa_cons (pe_un un_neg pe_int) (pa_cons pe_bl (pa_cons pe_str pa_nil))))))) (pv 7) (fun _ _ => rfl)) (pg_sub (pv 5) (pv 8) set_list)))) pss_nil)
      (pss_cons (ps_if (pt_cmpR op_eq (pv 7) pe_int (nomark _)) (pss_one (ps_ret (pe_tupS (pa_cons (pv 2) (pa_cons (pv 3) (pa_cons (pe_callTy call_tupleL (by rfl) T.z_tuple (by decide +kernel) (pa_cons (pv 5) pa_nil)) pa_nil)))))) pss_nil)
      (pss_cons (ps_if (pt_cmpR op_eq (pv 7) pe_int (nomark _)) (pss_one (ps_ret (pe_lstS (pa_cons (pv 2) (pa_cons (pv 3) (pa_cons (pv 5) pa_nil)))))) pss_nil)
      (pss_cons (ps_if (pt_cmpR op_eq (pv 7) pe_int (nomark _)) (pss_one (ps_ret (pe_tupS (pa_cons (pv 2) (pa_cons (pv 3) pa_nil))))) pss_nil)
      (pss_cons (ps_if (pt_cmpR op_eq (pv 7) pe_int (nomark _)) (pss_one (ps_ret (pe_tupS (pa_cons (pv 2) (pa_cons (pv 3) (pa_cons (pv 5) (pa_cons (pv 5) pa_nil))))))) pss_nil)
      (pss_cons (ps_if (pt_cmpR op_eq (pv 7) pe_int (nomark _)) (pss_one (ps_ret (pe_ix ix_listH (pe_lstS (pa_cons pe_non (pa_cons pe_int (pa_cons pe_str (pa_cons (pe_tupS pa_nil) (pa_cons (pe_tupS (pa_cons pe_bl (pa_cons pe_int (pa_cons (pe_lstS (pa_cons pe_int pa_nil)) pa_nil)))) (pa_cons (pe_tupS (pa_cons pe_int (pa_cons pe_str (pa_cons (pe_lstS (pa_cons pe_int pa_nil)) pa_nil)))) pa_nil))))))) (pe_op op_mod (pe_callTy call_int1 (by rfl) T.z_int (by decide +kernel) (pa_cons (pe_op op_fdiv (pe_callB call_abs (by rfl) T.z_abs (by decide +kernel) (pa_cons (pe_call (ok__law_cell T a ns) hr (by rfl) T.g__law_cell T.F__law_cell.kp T.b__law_cell .nil pass0 (pa_cons (pv 0) (pa_cons pe_int pa_nil))) pa_nil)) pe_int) pa_nil)) pe_int) (fun _ _ => rfl)))) pss_nil)
      (pss_one (ps_ret (pe_tupS (pa_cons (pv 2) (pa_cons (pv 3) (pa_cons (pv 5) pa_nil)))))))))))))))))), ?_⟩
    refine seq_cut4 (fun σ H1 => ∃ (c0 w h n : Int) (v6 : Option V), σ = [some (.ref a), some (.int c0), some (.int w), some (.int h), some (.int n), none, none, none, none] ∧ Same H H1 ∧ 0 ≤ c0 ∧ 0 ≤ n ∧ n ≤ 5000) ?_ (fun C hC => ?_)
    rotate_left
    · walk_at "vc hS sp__law_cell sp__law_side"
      refine ⟨absI_nn _, fun H1 v s1 l1 u1 => ⟨by have := absI_nn (cellA ns 0); omega, fun H2 v2 s2 l2 u2 => ⟨.inl ⟨by omega, by omega⟩, fun p3 H3 s3 n3 g3 => ⟨_, g3, ?_⟩⟩⟩⟩
      have hm : v * v2 ≤ 66 * 66 := by
        rcases (show v = -1 ∨ 0 ≤ v by omega) with rfl | h0
        · omega
        · rcases (show v2 = -1 ∨ 0 ≤ v2 by omega) with rfl | h2
          · omega
          · exact Int.mul_le_mul u1 u2 h2 (by omega)
      obtain ⟨z, hz, hz5⟩ : ∃ z, absI (cellA ns 0) / 16384 % 5 = z ∧ (z = 0 ∨ z = 1 ∨ z = 2 ∨ z = 3 ∨ z = 4) := ⟨_, rfl, by omega⟩
      rw [hz]
      have fin : ∀ k : Int, -1 ≤ k → k ≤ 1 → C [some (.ref a), some (.int (absI (cellA ns 0))), some (.int v), some (.int v2), some (.int (mx 0 (v * v2 + k))), none, none, none, none] H3 := fun k k0 k1 => hC _ _ ⟨_, _, _, _, none, rfl, s1.trans (s2.trans s3), absI_nn _, by unfold mx; split <;> omega, by unfold mx; split <;> omega⟩
      rcases hz5 with rfl | rfl | rfl | rfl | rfl
      · exact ⟨_, rfl, _, rfl, fin 0 (by omega) (by omega)⟩
      · exact ⟨_, rfl, _, rfl, fin 0 (by omega) (by omega)⟩
      · exact ⟨_, rfl, _, rfl, fin 0 (by omega) (by omega)⟩
      · exact ⟨_, rfl, _, rfl, fin 1 (by omega) (by omega)⟩
      · exact ⟨_, rfl, _, rfl, fin (-1) (by omega) (by omega)⟩
    rintro σ H1 ⟨c0, w, h, n, v6, rfl, s1, c0n, n0, n1⟩
    refine seq_cut3 (fun σ H2 => ∃ (wh : Int) (pc : Addr) (cs : List V) (v6 v8 : Option V), σ = [some (.ref a), some (.int c0), some (.int w), some (.int h), some (.int n), some (.ref pc), v6, some (.int wh), v8] ∧ Same H H2 ∧ H2 pc = some (.lst cs) ∧ (∀ y ∈ cs, Pl y)) ?_ (fun C hC => ?_)
    rotate_left
    · walk_at "vc"
      refine ⟨by omega, by omega, lcL walkR (L := fun i => (List.range i).map (fun (i : Nat) => V.int ((c0 / 81920 + (i : Int)) % 7 - 1))) rfl (fun _ _ => True.intro) (fun D i x H2 H3 hi hD s2 g2 y => ?_) (fun D H2 s2 hD g2 => ?_)⟩
      · obtain ⟨rfl, rfl⟩ := y
        walk_at "vc g2"
        refine ⟨cnt_lt (by rw [List.length_range]; omega), same_upd2 s2 hD, ?_⟩
        rw [List.range_succ, List.map_append]
        rfl
      · have hS2 := (s1.trans s2).seq hS
        walk_at "vc hS2 sp__law_cell"
        have hD0 := s1.free hD
        have s02 := s1.trans s2
        have w0 : 0 ≤ absI (cellA ns 1) := absI_nn _
        refine iteP (fun hn => iteP (fun hw => ⟨hn, fun pm H3 s3 n3 g3 => ?_⟩) (fun _ => hC _ _ ⟨_, _, _, _, _, rfl, s02, g2, vals7 _ _⟩)) (fun _ => hC _ _ ⟨_, _, _, _, _, rfl, s02, g2, vals7 _ _⟩)
        obtain ⟨x, hx, hm⟩ := atI_lit (xs := [V.int 16777215, V.int 16777216, V.int (-1), V.int (-2), V.bl true, V.str (Str.ofString "1")]) (k := absI (cellA ns 1) % 12) (by omega) (by simp only [List.length_cons, List.length_nil]; omega)
        have hpx : Pl x := by
          simp only [List.mem_cons, List.mem_nil_iff, or_false] at hm
          rcases hm with rfl | rfl | rfl | rfl | rfl | rfl
          · exact .int _
          · exact .int _
          · exact .int _
          · exact .int _
          · exact .bl _
          · exact .str _
        have hmod := mod_in (absI (cellA ns 1) / 12) hn
        refine ⟨_, g3, x, hx, _, s3 _ _ g2, (absI (cellA ns 1) / 12 % n).toNat, ixN_in hmod.1 (by rw [List.length_map, List.length_range]; omega), hC _ _ ⟨_, _, _, _, _, rfl, same_upd2 (s02.trans s3) hD0, upd_same, fun y hy => ?_⟩⟩
        rcases List.mem_or_eq_of_mem_set hy with hy | rfl
        · exact vals7 _ _ y hy
        · exact hpx
    · rintro σ H2 ⟨wh, pc, cs, v6, v8, rfl, s2, gc, kc⟩
      walk_at "vc gc"
      have cW : ∀ H', CV H' (.int w) (.s (.int w)) := fun _ => ⟨rfl, .int _⟩
      have cH : ∀ H', CV H' (.int h) (.s (.int h)) := fun _ => ⟨rfl, .int _⟩
      refine iteP (fun _ p H3 s3 n3 g3 p2 H4 s4 n4 g4 => ?_) (fun _ => ?_)
      · exact q _ _ (.t [_, _, .t]) (s2.trans (s3.trans s4)) ⟨_, _, rfl, g4, .cons (cW _) (.cons (cH _) (.cons ⟨p, _, rfl, s4 _ _ g3⟩ .nil))⟩
      refine iteP (fun _ p H3 s3 n3 g3 => q _ _ .l (s2.trans s3) ⟨_, _, rfl, g3⟩) (fun _ => ?_)
      refine iteP (fun _ p H3 s3 n3 g3 => q _ _ (.t [_, _]) (s2.trans s3) ⟨_, _, rfl, g3, .cons (cW _) (.cons (cH _) .nil)⟩) (fun _ => ?_)
      refine iteP (fun _ p H3 s3 n3 g3 => q _ _ (.t [_, _, .l cs, .l cs]) (s2.trans s3) ⟨_, _, rfl, g3, .cons (cW _) (.cons (cH _) (.cons ⟨pc, rfl, s3 _ _ gc, kc⟩ (.cons ⟨pc, rfl, s3 _ _ gc, kc⟩ .nil)))⟩) (fun _ => ?_)
      refine iteP (fun _ p1 H3 s3 n3 g3 p2 H4 s4 n4 g4 p3 H5 s5 n5 g5 p4 H6 s6 n6 g6 p5 H7 s7 n7 g7 p6 H8 s8 n8 g8 => ?_) (fun _ p H3 s3 n3 g3 => q _ _ (.t [_, _, .l cs]) (s2.trans s3) ⟨_, _, rfl, g3, .cons (cW _) (.cons (cH _) (.cons ⟨pc, rfl, s3 _ _ gc, kc⟩ .nil))⟩)
      have s28 := s2.trans (s3.trans (s4.trans (s5.trans (s6.trans (s7.trans s8)))))
      have hS8 := s28.seq hS
      walk_at "vc hS8 sp__law_cell"
      refine ⟨_, g8, ?_⟩
      have w0 : 0 ≤ absI (cellA ns 1) := absI_nn _
      rcases (show absI (cellA ns 1) / 12 % 6 = 0 ∨ absI (cellA ns 1) / 12 % 6 = 1 ∨ absI (cellA ns 1) / 12 % 6 = 2 ∨ absI (cellA ns 1) / 12 % 6 = 3 ∨ absI (cellA ns 1) / 12 % 6 = 4 ∨ absI (cellA ns 1) / 12 % 6 = 5 by omega) with e | e | e | e | e | e <;> rw [e]
      · exact ⟨_, rfl, q _ _ .s s28 .non⟩
      · exact ⟨_, rfl, q _ _ .s s28 (.int _)⟩
      · exact ⟨_, rfl, q _ _ .s s28 (.str _)⟩
      · exact ⟨_, rfl, q _ _ (.t []) s28 ⟨_, _, rfl, (s4.trans (s5.trans (s6.trans (s7.trans s8)))) _ _ g3, .nil⟩⟩
      · exact ⟨_, rfl, q _ _ (.t [.s _, .s _, .l _]) s28 ⟨_, _, rfl, (s6.trans (s7.trans s8)) _ _ g5, .cons ⟨rfl, .bl _⟩ (.cons ⟨rfl, .int _⟩ (.cons ⟨p2, rfl, (s5.trans (s6.trans (s7.trans s8))) _ _ g4, fun y hy => by rw [List.mem_singleton.mp hy]; exact .int _⟩ .nil))⟩⟩
      · exact ⟨_, rfl, q _ _ (.t [.s _, .s _, .l _]) s28 ⟨_, _, rfl, s8 _ _ g7, .cons ⟨rfl, .int _⟩ (.cons ⟨rfl, .str _⟩ (.cons ⟨p4, rfl, (s7.trans s8) _ _ g6, fun y hy => by rw [List.mem_singleton.mp hy]; exact .int _⟩ .nil))⟩⟩

def spLaw (K : PySem.W.Frag) : Sp := fun vs H Q _ => ∃ (a : Addr) (ns : List Int), vs = [.ref a] ∧ SqL K H a (ns.map V.int) ∧ ns.length ≤ 63 ∧ ∀ H', Q (.bl true) H'
theorem ok_law_of {f : Addr} {fd : FuncData} (F : Fun K "law" "law" s_law f fd) (T : Txt K mg) : FnOk P w K mg base CX0 5 f fd ["script"] (spLaw K) := by
  refine F.ok sc_law (fun vs H Q E h => ?_) (fun cdv A outer s H vs Q E hr h => ?_)
  · obtain ⟨a, ns, rfl, _⟩ := h
    rfl
  · obtain ⟨a, ns, rfl, hS, hlen, q⟩ := h
    refine ⟨_, (pss_cons (ps_set (i := 1) sc_law.nd rfl (Or.inl rfl) (pe_call (ok__law_value T a ns) (hr.mono (by decide)) (by rfl) T.g__law_value T.F__law_value.kp T.b__law_value .nil pass0 (pa_cons (pv 0) pa_nil)))
      (pss_cons (ps_set (i := 2) sc_law.nd rfl (Or.inl rfl) (pe_call (ok_is_grid T) (hr.mono (by decide)) (by rfl) T.g_is_grid T.F_is_grid.kp T.b_is_grid .nil pass0 (pa_cons (pv 1) pa_nil)))
      (pss_cons (ps_if (PW.pt (pw_or (PW.pt (pw_and (pt_cmpR op_notBl (pv 2) pe_bl (nomark _)) (pw_and1 (pt_cmpR op_notBl (pv 2) pe_bl (nomark _))))) (pw_or1 (pt_cmpR op_ne (pv 2) (pe_call (ok__law_due T) (hr.mono (by decide)) (by rfl) T.g__law_due T.F__law_due.kp T.b__law_due .nil pass0 (pa_cons (pv 1) pa_nil)) (nomark _))))) (pss_one (ps_ret pe_bl)) pss_nil)
      (pss_cons (ps_set (i := 3) sc_law.nd rfl (Or.inl rfl) (pe_callB call_abs (by rfl) T.z_abs (by decide +kernel) (pa_cons (pe_call (ok__law_cell T a ns) (hr.mono (by decide)) (by rfl) T.g__law_cell T.F__law_cell.kp T.b__law_cell .nil pass0 (pa_cons (pv 0) (pa_cons pe_int pa_nil))) pa_nil)))
      (pss_cons (ps_set (i := 4) sc_law.nd rfl (Or.inl rfl) (pe_call (ok__law_side T) (hr.mono (by decide)) (by rfl) T.g__law_side T.F__law_side.kp T.b__law_side .nil pass0 (pa_cons (pv 3) pa_nil)))
      (pss_cons (ps_set (i := 5) sc_law.nd rfl (Or.inl rfl) (pe_call (ok__law_side T) (hr.mono (by decide)) (by rfl) T.g__law_side T.F__law_side.kp T.b__law_side .nil pass0 (pa_cons (pe_op op_fdiv (pv 3) pe_int) pa_nil)))
      (pss_cons (ps_set (i := 6) sc_law.nd rfl (Or.inl rfl) (pe_ix ix_listH (pe_lstS (pa_cons (pe_op op_sub (pe_op op_mod (pe_callTy call_int1 (by rfl) T.z_int (by decide +kernel) (pa_cons (pe_op op_fdiv (pv 3) pe_int) pa_nil)) pe_int) pe_int) (pa_cons pe_int (pa_cons pe_int (pa_cons (pe_un un_neg pe_int) pa_nil))))) (pe_op op_and (pe_callTy call_int1 (by rfl) T.z_int (by decide +kernel) (pa_cons (pe_op op_fdiv (pv 3) pe_int) pa_nil)) pe_int) (fun _ _ => rfl)))
      (pss_cons (ps_set (i := 7) sc_law.nd rfl (Or.inl rfl) (pe_call (ok__law_told T) hr (by rfl) T.g__law_told T.F__law_told.kp T.b__law_told .nil pass0 (pa_cons (pv 4) (pa_cons (pv 5) (pa_cons (pv 6) pa_nil)))))
      (pss_cons (ps_if (PW.pt (pw_and (pt_val (pe_call (ok__law_is_side T) (hr.mono (by decide)) (by rfl) T.g__law_is_side T.F__law_is_side.kp T.b__law_is_side .nil pass0 (pa_cons (pv 4) pa_nil))) (pw_and (pt_val (pe_call (ok__law_is_side T) (hr.mono (by decide)) (by rfl) T.g__law_is_side T.F__law_is_side.kp T.b__law_is_side .nil pass0 (pa_cons (pv 5) pa_nil))) (pw_and1 (pt_chain op_le op_le (pe_un un_neg pe_int) (pv 6) pe_int))))) (pss_one (ps_if (PW.pt (pw_or (pt_cmpR (op_neC hr.units (cod_p3 cod_int cod_int (cod_lst cod_int)) (by decide)) (pv 7) (pe_tupS (pa_cons (pv 4) (pa_cons (pv 5) (pa_cons (pe_op op_repS (pe_lstS (pa_cons (pv 6) pa_nil)) (pe_op op_mul (pv 4) (pv 5))) pa_nil)))) (nomark _)) (pw_or1 (pt_not (pt_val (pe_callB call_isiB (by rfl) T.z_isinstance (by decide +kernel) (pa_cons (pv 7) (pa_cons (pe_bltn (v := .ty "tuple") (u := .type "tuple") (by rfl) T.z_tuple (by decide +kernel) rfl) pa_nil)))))))) (pss_one (ps_ret pe_bl)) pss_nil)) (pss_one (ps_if (pt_cmpR op_notN (pv 7) pe_non (nomark _)) (pss_one (ps_ret pe_bl)) pss_nil)))
      (pss_cons (ps_setLc (i := 8) (own := [("k", 9)]) (g := (gName 9)) rfl sc_law.nd rfl rfl (sw_true rfl rfl rfl (by decide +kernel)) (pi_range1 (by rfl) T.z_range (pa_cons pe_int pa_nil)) (blkOk_by (own := [("k", 9)]) (N := ["script", "value", "found", "cell", "width", "height", "colour", "grid", "numbers", "k", "near", "number", "due", "told"]) (sc := defScope s_law) (by decide +kernel)) (fun _ _ _ _ _ => (pg_name (i := 9) sc_law.nd rfl (Or.inl rfl))) (fun _ _ _ _ _ => pts_nil) (fun _ _ _ _ _ => (pe_call (ok__law_place T) (hr.mono (by decide)) (by rfl) T.g__law_place T.F__law_place.kp T.b__law_place .nil pass0 (pa_cons (pe_callB call_abs (by rfl) T.z_abs (by decide +kernel) (pa_cons (pe_call (ok__law_cell T a ns) (hr.mono (by decide)) (by rfl) T.g__law_cell T.F__law_cell.kp T.b__law_cell .nil pass0 (pa_cons (pv 0) (pa_cons (pe_op op_add pe_int (pv 9)) pa_nil))) pa_nil)) pa_nil))))
      (pss_cons (ps_setLc (i := 10) (own := [("number", 11)]) (g := (gName 11)) rfl sc_law.nd rfl rfl (sw_true rfl rfl rfl (by decide +kernel)) (pi_listS (pv 8)) (blkOk_by (own := [("number", 11)]) (N := ["script", "value", "found", "cell", "width", "height", "colour", "grid", "numbers", "k", "near", "number", "due", "told"]) (sc := defScope s_law) (by decide +kernel)) (fun _ _ _ _ _ => (pg_name (i := 11) sc_law.nd rfl (Or.inl rfl))) (fun _ _ _ _ _ => pts_nil) (fun _ _ _ _ _ => (pe_call (ok__law_bounded T) (hr.mono (by decide)) (by rfl) T.g__law_bounded T.F__law_bounded.kp T.b__law_bounded .nil pass0 (pa_cons (pv 11) pa_nil))))
      (pss_cons (ps_set (i := 12) sc_law.nd rfl (Or.inl rfl) (pe_and (pe_chain op_le op_lt (pe_ix ix_listH (pv 10) pe_int (fun _ _ => rfl)) (pe_ix ix_listH (pv 10) pe_int (fun _ _ => rfl)) (pe_ix ix_listH (pv 10) pe_int (fun _ _ => rfl))) (pe_one (pe_chain op_le op_lt (pe_ix ix_listH (pv 10) pe_int (fun _ _ => rfl)) (pe_ix ix_listH (pv 10) pe_int (fun _ _ => rfl)) (pe_ix ix_listH (pv 10) pe_int (fun _ _ => rfl))))))
      (pss_cons (ps_set (i := 13) sc_law.nd rfl (Or.inl rfl) (pe_call (ok_in_box T) (hr.mono (by decide)) (by rfl) T.g_in_box T.F_in_box.kp T.b_in_box .nil pass0 (pa_cons (pe_ix ix_listH (pv 8) pe_int (fun _ _ => rfl)) (pa_cons (pe_ix ix_listH (pv 8) pe_int (fun _ _ => rfl)) (pa_cons (pe_tupS (pa_cons (pe_ix ix_listH (pv 8) pe_int (fun _ _ => rfl)) (pa_cons (pe_ix ix_listH (pv 8) pe_int (fun _ _ => rfl)) (pa_cons (pe_ix ix_listH (pv 8) pe_int (fun _ _ => rfl)) (pa_cons (pe_ix ix_listH (pv 8) pe_int (fun _ _ => rfl)) pa_nil))))) pa_nil)))))
      (pss_one (ps_ret (pe_and (pe_or (pe_cmpR op_isBl (pv 13) pe_bl (nomark _)) (pe_one (pe_cmpR op_isBl (pv 13) pe_bl (nomark _)))) (pe_one (pe_cmpR op_eq (pv 13) (pv 12) (nomark _))))))))))))))))))), ?_⟩
    refine seq_cut3 (fun σ H1 => ∃ v2 : Option V, ∃ v1 : V, σ = [some (.ref a), some v1, v2, none, none, none, none, none, none, none, none, none, none, none] ∧ Same H H1) ?_ (fun C hC => ?_)
    rotate_left
    · walk_at "vc sp__law_value sp_is_grid"
      refine ⟨hS, fun H1 v g s1 hg => ⟨g, hg, fun H2 s2 => ?_⟩⟩
      have fin : sp__law_due K [v] H2 (fun y H2 => scal (V.bl (gOk g)) y = true ∧ if (!decide (V.bl (gOk g) = y)) = true then Q (V.bl false) H2 else C [some (V.ref a), some v, some (V.bl (gOk g)), none, none, none, none, none, none, none, none, none, none, none] H2) E0 := by
        refine ⟨v, g, rfl, hg.mono s2, rfl, ?_⟩
        rw [if_neg (by simp)]
        exact hC _ _ ⟨_, _, rfl, s1.trans s2⟩
      cases hk : gOk g
      · rw [hk] at fin
        exact if_true_of (by decide) (if_false_of (by decide) fin)
      · rw [hk] at fin
        exact if_false_of (by decide) fin
    · rintro σ H1 ⟨v2, v1, rfl, s1⟩
      have hS1 := s1.seq hS
      refine seq_cut4 (fun σ H2 => ∃ cell w h c : Int, σ = [some (.ref a), some v1, v2, some (.int cell), some (.int w), some (.int h), some (.int c), none, none, none, none, none, none, none] ∧ Same H H2 ∧ (-1 ≤ w ∧ w ≤ 66) ∧ (-1 ≤ h ∧ h ≤ 66)) ?_ (fun C hC => ?_)
      rotate_left
      · walk_at "vc sp__law_cell hS1 sp__law_side"
        have c0 : 0 ≤ absI (cellA ns 2) := absI_nn _
        refine ⟨c0, fun H2 w s2 l1 u1 => ⟨by omega, fun H3 h s3 l2 u2 p H4 s4 n4 g4 => ⟨_, g4, ?_⟩⟩⟩
        have s14 := s1.trans (s2.trans (s3.trans s4))
        rcases (show absI (cellA ns 2) / 147456 % 4 = 0 ∨ absI (cellA ns 2) / 147456 % 4 = 1 ∨ absI (cellA ns 2) / 147456 % 4 = 2 ∨ absI (cellA ns 2) / 147456 % 4 = 3 by omega) with e | e | e | e <;> rw [e]
        · exact ⟨_, rfl, hC _ _ ⟨_, _, _, _, rfl, s14, ⟨l1, u1⟩, l2, u2⟩⟩
        · exact ⟨_, rfl, hC _ _ ⟨_, _, _, _, rfl, s14, ⟨l1, u1⟩, l2, u2⟩⟩
        · exact ⟨_, rfl, hC _ _ ⟨_, _, _, _, rfl, s14, ⟨l1, u1⟩, l2, u2⟩⟩
        · exact ⟨_, rfl, hC _ _ ⟨_, _, _, _, rfl, s14, ⟨l1, u1⟩, l2, u2⟩⟩
      rintro σ H2 ⟨cell, w, h, c, rfl, s2, hw, hh⟩
      refine seq_cut2 (fun σ H3 => ∃ v7 : V, σ = [some (.ref a), some v1, v2, some (.int cell), some (.int w), some (.int h), some (.int c), some v7, none, none, none, none, none, none] ∧ Same H H3) ?_ (fun C hC => ?_)
      rotate_left
      · walk_at "vc sp__law_told sp__law_is_side"
        refine ⟨fun H3 p pc s3 kw kh kc g1 g2 => ?_, fun z => ?_⟩
        · refine ⟨.inl (.int _), if_true_of (fromB_T kw) ⟨.inl (.int _), if_true_of (fromB_T kh) ?_⟩⟩
          rw [if_pos kc.1, if_pos kc.2]
          intro p3 H4 s4 n4 g4
          have hm : w * h ≤ 64 * 64 := Int.mul_le_mul kw.2 kh.2 (by omega) (by omega)
          have hm0 : 0 ≤ w * h := Int.mul_nonneg (by omega) (by omega)
          refine ⟨.inl ⟨by omega, by omega⟩, _, g4, by omega, by omega, fun p5 H5 s5 n5 g5 p6 H6 s6 n6 g6 => ?_⟩
          have s36 := s4.trans (s5.trans s6)
          refine ⟨(w, h, List.replicate (w * h).toNat c), ⟨_, _, _, _, rfl, s36 _ _ g1, rfl, rfl, intL (s36 _ _ g2)⟩, (w, h, List.replicate (w * h).toNat c), ⟨_, _, _, _, rfl, g6, rfl, rfl, intL (by rw [s6 _ _ g5, List.map_replicate])⟩, ?_⟩
          rw [if_neg (by simp)]
          exact .inr ⟨⟨_, s36 _ _ g1⟩, hC _ _ ⟨_, rfl, (s2.trans s3).trans s36⟩⟩
        · have fin : C [some (.ref a), some v1, v2, some (.int cell), some (.int w), some (.int h), some (.int c), some .non, none, none, none, none, none, none] H2 := hC _ _ ⟨_, rfl, s2⟩
          refine ⟨.inl (.int _), ?_⟩
          by_cases kw : 1 ≤ w ∧ w ≤ 64
          · refine if_true_of (fromB_T kw) ⟨.inl (.int _), ?_⟩
            by_cases kh : 1 ≤ h ∧ h ≤ 64
            · refine if_true_of (fromB_T kh) ?_
              refine iteP (fun k1 => iteP (fun k2 => absurd ⟨kw.1, kw.2, kh.1, kh.2, k1, k2⟩ z) fun k2 => fin) fun k1 => fin
            · exact if_false_of (fromB_F kh) fin
          · exact if_false_of (fromB_F kw) fin
      rintro σ H3 ⟨v7, rfl, s3⟩
      refine seq_cut (fun σ H4 => ∃ (p : Addr) (x0 x1 x2 x3 x4 x5 : Int) (v9 : Option V), σ = [some (.ref a), some v1, v2, some (.int cell), some (.int w), some (.int h), some (.int c), some v7, some (.ref p), v9, none, none, none, none] ∧ H4 p = some (.lst (List.map V.int [x0, x1, x2, x3, x4, x5]))) ?_ (fun C hC => ?_)
      rotate_left
      · walk_at "vc"
        refine lcW walkR (fun D i H' => Same H3 H' ∧ ∃ vs : List Int, vs.length = i ∧ H' D = some (.lst (List.map V.int vs))) (fun D H' s _ g => ⟨s, [], rfl, g⟩) (fun _ _ _ _ _ _ => True.intro) (fun D i x H4 H5 hi hD p y => ?_) (fun D H4 hD p => ?_)
        · obtain ⟨s4, vs, hl, gD⟩ := p
          obtain ⟨rfl, rfl⟩ := y
          have hS4 := (s3.trans s4).seq hS
          walk_at "vc sp__law_cell hS4 sp__law_place"
          refine ⟨by omega, absI_nn _, fun H6 v s6 => ⟨_, s6 _ _ gD, by rw [List.length_map]; exact cnt_lt (by omega), same_upd2 (s4.trans s6) hD, vs ++ [v], by rw [List.length_append, hl]; rfl, by rw [List.map_append]; rfl⟩⟩
        · obtain ⟨s4, vs, hl, gD⟩ := p
          obtain ⟨x0, x1, x2, x3, x4, x5, rfl⟩ : ∃ a b c d e f, vs = [a, b, c, d, e, f] := by
            match vs, hl with
            | [a, b, c, d, e, f], _ => exact ⟨a, b, c, d, e, f, rfl⟩
          exact hC _ _ ⟨D, _, _, _, _, _, _, _, rfl, gD⟩
      rintro σ H4 ⟨p, x0, x1, x2, x3, x4, x5, v9, rfl, gp⟩
      refine seq_cut (fun σ H5 => ∃ (p2 : Addr) (v9 v11 : Option V), σ = [some (.ref a), some v1, v2, some (.int cell), some (.int w), some (.int h), some (.int c), some v7, some (.ref p), v9, some (.ref p2), v11, none, none] ∧ H5 p = some (.lst (List.map V.int [x0, x1, x2, x3, x4, x5])) ∧ H5 p2 = some (.lst (List.map V.int [bd x0, bd x1, bd x2, bd x3, bd x4, bd x5]))) ?_ (fun C hC => ?_)
      rotate_left
      · walk_at "vc gp"
        refine lcL (walkI (ns := [x0, x1, x2, x3, x4, x5])) (L := fun i => List.map V.int (([x0, x1, x2, x3, x4, x5].map bd).take i)) rfl (fun _ s => s _ _ gp) (fun D i x H5 H6 hi hD s5 g5 y => ?_) (fun D H5 s5 hD g5 => hC _ _ ⟨D, _, _, rfl, s5 _ _ gp, g5⟩)
        obtain ⟨rfl, b, hb, rfl⟩ := y
        rw [take_map_succ bd hb]
        walk_at "vc sp__law_bounded g5"
        exact ⟨take_lt _ _ (show 6 < sizeLine by decide), same_upd2 s5 hD⟩
      rintro σ H5 ⟨p2, v9, v11, rfl, gp, gp2⟩
      replace gp2 : H5 p2 = some (.lst [.int (bd x0), .int (bd x1), .int (bd x2), .int (bd x3), .int (bd x4), .int (bd x5)]) := gp2
      replace gp : H5 p = some (.lst [.int x0, .int x1, .int x2, .int x3, .int x4, .int x5]) := gp
      refine seq_cut (fun σ H6 => σ = [some (.ref a), some v1, v2, some (.int cell), some (.int w), some (.int h), some (.int c), some v7, some (.ref p), v9, some (.ref p2), v11, some (.bl (decide (bd x2 ≤ bd x0 ∧ bd x0 < bd x4 ∧ bd x3 ≤ bd x1 ∧ bd x1 < bd x5))), none] ∧ H6 = H5) ?_ (fun C hC => ?_)
      rotate_left
      · walk_at "vc gp2"
        have bad : ¬ (bd x2 ≤ bd x0 ∧ bd x0 < bd x4 ∧ bd x3 ≤ bd x1 ∧ bd x1 < bd x5) → C [some (.ref a), some v1, v2, some (.int cell), some (.int w), some (.int h), some (.int c), some v7, some (.ref p), v9, some (.ref p2), v11, some (.bl false), none] H5 := fun z => hC _ _ ⟨by rw [decide_eq_false z], rfl⟩
        refine iteP (fun c1 => ⟨_, rfl, _, rfl, iteP (fun c2 => iteP (fun c3 => ⟨_, rfl, _, rfl, ?_⟩) (fun c3 => bad fun z => c3 z.2.2.1)) (fun c2 => bad fun z => c2 z.2.1)⟩) (fun c1 => bad fun z => c1 z.1)
        exact hC _ _ ⟨by rw [show decide (bd x1 < bd x5) = decide (bd x2 ≤ bd x0 ∧ bd x0 < bd x4 ∧ bd x3 ≤ bd x1 ∧ bd x1 < bd x5) from decide_eq_decide.mpr ⟨fun z => ⟨c1, c2, c3, z⟩, fun z => z.2.2.2⟩], rfl⟩
      rintro σ H6 ⟨rfl, rfl⟩
      walk_at "vc gp sp_in_box"
      refine ⟨_, rfl, _, rfl, fun p7 H7 s7 n7 g7 => ⟨x2, x3, x4, x5, g7, fun H8 s8 => ?_⟩⟩
      refine iteP (fun z => ?_) (fun z => ?_)
      · rw [decide_eq_true rfl]
        exact q _
      · rw [if_pos (decide_eq_false z), decide_eq_true rfl]
        exact q _

end
theorem all_mk {l : PySem.W.OpenLaw} {w : World} {K : PySem.W.Frag} {h : Heap} {mg : Str → Option Value} {fa : Addr} (X : K.In h) (G : h.Ns mainGlobals mg) (hfa : mg "law" = some (.ref fa))
    {f1 : Addr} {od1 an1 : Option Addr} {sl1 : Array (Option Value)} {oc1 kV1 dc1 pm1 cd1 ct1 : Value}
    (a1 : PySem.W.nsIn K mainGlobals "is_integer_from" = some (some (.ref f1))) (l1 : K.lookup f1 = some ⟨oc1, od1, .func (PySem.W.fnOf "is_integer_from" "is_integer_from" (defArgs s_is_integer_from) (defBody s_is_integer_from) (defScope s_is_integer_from) .none kV1 dc1 pm1 an1 cd1 ct1), sl1⟩) (c1 : PySem.W.codeIn K cd1 "is_integer_from" = true) (k1 : PySem.W.keepIn K (.ref f1) = true)
    {f2 : Addr} {od2 an2 : Option Addr} {sl2 : Array (Option Value)} {oc2 kV2 dc2 pm2 cd2 ct2 : Value}
    (a2 : PySem.W.nsIn K mainGlobals "is_tuple_of" = some (some (.ref f2))) (l2 : K.lookup f2 = some ⟨oc2, od2, .func (PySem.W.fnOf "is_tuple_of" "is_tuple_of" (defArgs s_is_tuple_of) (defBody s_is_tuple_of) (defScope s_is_tuple_of) .none kV2 dc2 pm2 an2 cd2 ct2), sl2⟩) (c2 : PySem.W.codeIn K cd2 "is_tuple_of" = true) (k2 : PySem.W.keepIn K (.ref f2) = true)
    {f3 : Addr} {od3 an3 : Option Addr} {sl3 : Array (Option Value)} {oc3 kV3 dc3 pm3 cd3 ct3 : Value}
    (a3 : PySem.W.nsIn K mainGlobals "bounded" = some (some (.ref f3))) (l3 : K.lookup f3 = some ⟨oc3, od3, .func (PySem.W.fnOf "bounded" "bounded" (defArgs s_bounded) (defBody s_bounded) (defScope s_bounded) .none kV3 dc3 pm3 an3 cd3 ct3), sl3⟩) (c3 : PySem.W.codeIn K cd3 "bounded" = true) (k3 : PySem.W.keepIn K (.ref f3) = true)
    {f4 : Addr} {od4 an4 : Option Addr} {sl4 : Array (Option Value)} {oc4 kV4 dc4 pm4 cd4 ct4 : Value}
    (a4 : PySem.W.nsIn K mainGlobals "is_side" = some (some (.ref f4))) (l4 : K.lookup f4 = some ⟨oc4, od4, .func (PySem.W.fnOf "is_side" "is_side" (defArgs s_is_side) (defBody s_is_side) (defScope s_is_side) .none kV4 dc4 pm4 an4 cd4 ct4), sl4⟩) (c4 : PySem.W.codeIn K cd4 "is_side" = true) (k4 : PySem.W.keepIn K (.ref f4) = true)
    {f5 : Addr} {od5 an5 : Option Addr} {sl5 : Array (Option Value)} {oc5 kV5 dc5 pm5 cd5 ct5 : Value}
    (a5 : PySem.W.nsIn K mainGlobals "is_cell" = some (some (.ref f5))) (l5 : K.lookup f5 = some ⟨oc5, od5, .func (PySem.W.fnOf "is_cell" "is_cell" (defArgs s_is_cell) (defBody s_is_cell) (defScope s_is_cell) .none kV5 dc5 pm5 an5 cd5 ct5), sl5⟩) (c5 : PySem.W.codeIn K cd5 "is_cell" = true) (k5 : PySem.W.keepIn K (.ref f5) = true)
    {f6 : Addr} {od6 an6 : Option Addr} {sl6 : Array (Option Value)} {oc6 kV6 dc6 pm6 cd6 ct6 : Value}
    (a6 : PySem.W.nsIn K mainGlobals "is_grid" = some (some (.ref f6))) (l6 : K.lookup f6 = some ⟨oc6, od6, .func (PySem.W.fnOf "is_grid" "is_grid" (defArgs s_is_grid) (defBody s_is_grid) (defScope s_is_grid) .none kV6 dc6 pm6 an6 cd6 ct6), sl6⟩) (c6 : PySem.W.codeIn K cd6 "is_grid" = true) (k6 : PySem.W.keepIn K (.ref f6) = true)
    {f7 : Addr} {od7 an7 : Option Addr} {sl7 : Array (Option Value)} {oc7 kV7 dc7 pm7 cd7 ct7 : Value}
    (a7 : PySem.W.nsIn K mainGlobals "new_grid" = some (some (.ref f7))) (l7 : K.lookup f7 = some ⟨oc7, od7, .func (PySem.W.fnOf "new_grid" "new_grid" (defArgs s_new_grid) (defBody s_new_grid) (defScope s_new_grid) .none kV7 dc7 pm7 an7 cd7 ct7), sl7⟩) (c7 : PySem.W.codeIn K cd7 "new_grid" = true) (k7 : PySem.W.keepIn K (.ref f7) = true)
    {f8 : Addr} {od8 an8 : Option Addr} {sl8 : Array (Option Value)} {oc8 kV8 dc8 pm8 cd8 ct8 : Value}
    (a8 : PySem.W.nsIn K mainGlobals "in_box" = some (some (.ref f8))) (l8 : K.lookup f8 = some ⟨oc8, od8, .func (PySem.W.fnOf "in_box" "in_box" (defArgs s_in_box) (defBody s_in_box) (defScope s_in_box) .none kV8 dc8 pm8 an8 cd8 ct8), sl8⟩) (c8 : PySem.W.codeIn K cd8 "in_box" = true) (k8 : PySem.W.keepIn K (.ref f8) = true)
    {f9 : Addr} {od9 an9 : Option Addr} {sl9 : Array (Option Value)} {oc9 kV9 dc9 pm9 cd9 ct9 : Value}
    (a9 : PySem.W.nsIn K mainGlobals "_law_cell" = some (some (.ref f9))) (l9 : K.lookup f9 = some ⟨oc9, od9, .func (PySem.W.fnOf "_law_cell" "_law_cell" (defArgs s__law_cell) (defBody s__law_cell) (defScope s__law_cell) .none kV9 dc9 pm9 an9 cd9 ct9), sl9⟩) (c9 : PySem.W.codeIn K cd9 "_law_cell" = true) (k9 : PySem.W.keepIn K (.ref f9) = true)
    {f10 : Addr} {od10 an10 : Option Addr} {sl10 : Array (Option Value)} {oc10 kV10 dc10 pm10 cd10 ct10 : Value}
    (a10 : PySem.W.nsIn K mainGlobals "_law_is_integer" = some (some (.ref f10))) (l10 : K.lookup f10 = some ⟨oc10, od10, .func (PySem.W.fnOf "_law_is_integer" "_law_is_integer" (defArgs s__law_is_integer) (defBody s__law_is_integer) (defScope s__law_is_integer) .none kV10 dc10 pm10 an10 cd10 ct10), sl10⟩) (c10 : PySem.W.codeIn K cd10 "_law_is_integer" = true) (k10 : PySem.W.keepIn K (.ref f10) = true)
    {f11 : Addr} {od11 an11 : Option Addr} {sl11 : Array (Option Value)} {oc11 kV11 dc11 pm11 cd11 ct11 : Value}
    (a11 : PySem.W.nsIn K mainGlobals "_law_side" = some (some (.ref f11))) (l11 : K.lookup f11 = some ⟨oc11, od11, .func (PySem.W.fnOf "_law_side" "_law_side" (defArgs s__law_side) (defBody s__law_side) (defScope s__law_side) .none kV11 dc11 pm11 an11 cd11 ct11), sl11⟩) (c11 : PySem.W.codeIn K cd11 "_law_side" = true) (k11 : PySem.W.keepIn K (.ref f11) = true)
    {f12 : Addr} {od12 an12 : Option Addr} {sl12 : Array (Option Value)} {oc12 kV12 dc12 pm12 cd12 ct12 : Value}
    (a12 : PySem.W.nsIn K mainGlobals "_law_value" = some (some (.ref f12))) (l12 : K.lookup f12 = some ⟨oc12, od12, .func (PySem.W.fnOf "_law_value" "_law_value" (defArgs s__law_value) (defBody s__law_value) (defScope s__law_value) .none kV12 dc12 pm12 an12 cd12 ct12), sl12⟩) (c12 : PySem.W.codeIn K cd12 "_law_value" = true) (k12 : PySem.W.keepIn K (.ref f12) = true)
    {f13 : Addr} {od13 an13 : Option Addr} {sl13 : Array (Option Value)} {oc13 kV13 dc13 pm13 cd13 ct13 : Value}
    (a13 : PySem.W.nsIn K mainGlobals "_law_is_side" = some (some (.ref f13))) (l13 : K.lookup f13 = some ⟨oc13, od13, .func (PySem.W.fnOf "_law_is_side" "_law_is_side" (defArgs s__law_is_side) (defBody s__law_is_side) (defScope s__law_is_side) .none kV13 dc13 pm13 an13 cd13 ct13), sl13⟩) (c13 : PySem.W.codeIn K cd13 "_law_is_side" = true) (k13 : PySem.W.keepIn K (.ref f13) = true)
    {f14 : Addr} {od14 an14 : Option Addr} {sl14 : Array (Option Value)} {oc14 kV14 dc14 pm14 cd14 ct14 : Value}
    (a14 : PySem.W.nsIn K mainGlobals "_law_due" = some (some (.ref f14))) (l14 : K.lookup f14 = some ⟨oc14, od14, .func (PySem.W.fnOf "_law_due" "_law_due" (defArgs s__law_due) (defBody s__law_due) (defScope s__law_due) .none kV14 dc14 pm14 an14 cd14 ct14), sl14⟩) (c14 : PySem.W.codeIn K cd14 "_law_due" = true) (k14 : PySem.W.keepIn K (.ref f14) = true)
    {f15 : Addr} {od15 an15 : Option Addr} {sl15 : Array (Option Value)} {oc15 kV15 dc15 pm15 cd15 ct15 : Value}
    (a15 : PySem.W.nsIn K mainGlobals "_law_told" = some (some (.ref f15))) (l15 : K.lookup f15 = some ⟨oc15, od15, .func (PySem.W.fnOf "_law_told" "_law_told" (defArgs s__law_told) (defBody s__law_told) (defScope s__law_told) .none kV15 dc15 pm15 an15 cd15 ct15), sl15⟩) (c15 : PySem.W.codeIn K cd15 "_law_told" = true) (k15 : PySem.W.keepIn K (.ref f15) = true)
    {f16 : Addr} {od16 an16 : Option Addr} {sl16 : Array (Option Value)} {oc16 kV16 dc16 pm16 cd16 ct16 : Value}
    (a16 : PySem.W.nsIn K mainGlobals "_law_place" = some (some (.ref f16))) (l16 : K.lookup f16 = some ⟨oc16, od16, .func (PySem.W.fnOf "_law_place" "_law_place" (defArgs s__law_place) (defBody s__law_place) (defScope s__law_place) .none kV16 dc16 pm16 an16 cd16 ct16), sl16⟩) (c16 : PySem.W.codeIn K cd16 "_law_place" = true) (k16 : PySem.W.keepIn K (.ref f16) = true)
    {f17 : Addr} {od17 an17 : Option Addr} {sl17 : Array (Option Value)} {oc17 kV17 dc17 pm17 cd17 ct17 : Value}
    (a17 : PySem.W.nsIn K mainGlobals "_law_bounded" = some (some (.ref f17))) (l17 : K.lookup f17 = some ⟨oc17, od17, .func (PySem.W.fnOf "_law_bounded" "_law_bounded" (defArgs s__law_bounded) (defBody s__law_bounded) (defScope s__law_bounded) .none kV17 dc17 pm17 an17 cd17 ct17), sl17⟩) (c17 : PySem.W.codeIn K cd17 "_law_bounded" = true) (k17 : PySem.W.keepIn K (.ref f17) = true)
    {f18 : Addr} {od18 an18 : Option Addr} {sl18 : Array (Option Value)} {oc18 kV18 dc18 pm18 cd18 ct18 : Value}
    (a18 : PySem.W.nsIn K mainGlobals "law" = some (some (.ref f18))) (l18 : K.lookup f18 = some ⟨oc18, od18, .func (PySem.W.fnOf "law" "law" (defArgs s_law) (defBody s_law) (defScope s_law) .none kV18 dc18 pm18 an18 cd18 ct18), sl18⟩) (c18 : PySem.W.codeIn K cd18 "law" = true) (k18 : PySem.W.keepIn K (.ref f18) = true)
    {C19 : Addr} (a19 : PySem.W.nsIn K mainGlobals "StillroomError" = some (some (.ref C19))) (x19 : PySem.W.excIn K C19 [.type "ValueError", .type "Exception", .type "BaseException", .type "object"] "ValueError.__new__" = true) (k19 : PySem.W.keepIn K (.ref C19) = true) (i19 : PySem.W.subIn K (.ref C19) (.type "BaseException") = some true) (i19t : PySem.W.typeIn K (.ref C19) = some (.type "type")) (i19d : PySem.W.hasDictIn K C19 = true)
    {C20 : Addr} (a20 : PySem.W.nsIn K mainGlobals "OutOfRange" = some (some (.ref C20))) (x20 : PySem.W.excIn K C20 [.type "ValueError", .type "Exception", .type "BaseException", .type "object"] "ValueError.__new__" = true) (k20 : PySem.W.keepIn K (.ref C20) = true) (i20 : PySem.W.subIn K (.ref C20) (.type "BaseException") = some true) (i20t : PySem.W.typeIn K (.ref C20) = some (.type "type")) (i20d : PySem.W.hasDictIn K C20 = true)
    (s20_19 : PySem.W.subIn K (.ref C20) (.ref C19) = some true)
    (o20_20 : PySem.W.kitOne K (.ref C20) (.ref C20) = some true)
    (e20a : PySem.W.findIn K (.ref C20) "__getattribute__" = some (some (.builtin "BaseException.__getattribute__"))) (e20b : PySem.W.findIn K (.ref C20) "__getattr__" = some none) (e20c : PySem.W.findIn K (.ref C20) "__class__" = some (some (.builtin "object.__class__"))) (e20d : PySem.W.specialIn K (.builtin "object.__class__") "__get__" = some (some (.builtin "getset_descriptor.__get__"))) (e20e : PySem.W.takesIn K (.builtin "object.__class__") = some true) (e20f : PySem.W.mroIn K C20 (.type "object") = some true)
    {t21 : Tok} (a21 : PySem.W.nsIn K mainGlobals "_FARTHEST" = some (some (.int 1048576 t21)))
    {t22 : Tok} (a22 : PySem.W.nsIn K mainGlobals "NO_COLOUR" = some (some (.int (-1) t22)))
    {t23 : Tok} (a23 : PySem.W.nsIn K mainGlobals "GREATEST_COLOUR" = some (some (.int 16777215 t23)))
    {t24 : Tok} (a24 : PySem.W.nsIn K mainGlobals "GREATEST_SIDE" = some (some (.int 64 t24)))
    (a25 : PySem.W.nsIn K mainGlobals "abs" = some none)
    (a26 : PySem.W.nsIn K mainGlobals "all" = some none)
    (a27 : PySem.W.nsIn K mainGlobals "bool" = some none)
    (a28 : PySem.W.nsIn K mainGlobals "int" = some none)
    (a29 : PySem.W.nsIn K mainGlobals "isinstance" = some none)
    (a30 : PySem.W.nsIn K mainGlobals "len" = some none)
    (a31 : PySem.W.nsIn K mainGlobals "list" = some none)
    (a32 : PySem.W.nsIn K mainGlobals "max" = some none)
    (a33 : PySem.W.nsIn K mainGlobals "min" = some none)
    (a34 : PySem.W.nsIn K mainGlobals "range" = some none)
    (a35 : PySem.W.nsIn K mainGlobals "tuple" = some none)
    : ∃ fd : FuncData, (∀ (s : Shared) (v : Value), BindsTo s fd ⟨[v], []⟩ [("script", v)]) ∧ ∀ base : Heap, K.In base → base.Ns mainGlobals mg → FnOk l.prog w K mg base CX0 5 fa fd ["script"] (spLaw K) := by
  have e := hfa.symm.trans (PySem.W.mg_of X G a18)
  cases e
  have F1 := fun_mk (st := s_is_integer_from) l1 c1 k1
  have b1 := F1.binds (ps := ["value", "low", "high"]) fun _ _ _ _ _ _ us hl => match us, hl with | [_, _, _], _ => rfl
  have F2 := fun_mk (st := s_is_tuple_of) l2 c2 k2
  have b2 := F2.binds (ps := ["value", "length"]) fun _ _ _ _ _ _ us hl => match us, hl with | [_, _], _ => rfl
  have F3 := fun_mk (st := s_bounded) l3 c3 k3
  have b3 := F3.binds (ps := ["number"]) fun _ _ _ _ _ _ us hl => match us, hl with | [_], _ => rfl
  have F4 := fun_mk (st := s_is_side) l4 c4 k4
  have b4 := F4.binds (ps := ["value"]) fun _ _ _ _ _ _ us hl => match us, hl with | [_], _ => rfl
  have F5 := fun_mk (st := s_is_cell) l5 c5 k5
  have b5 := F5.binds (ps := ["value"]) fun _ _ _ _ _ _ us hl => match us, hl with | [_], _ => rfl
  have F6 := fun_mk (st := s_is_grid) l6 c6 k6
  have b6 := F6.binds (ps := ["value"]) fun _ _ _ _ _ _ us hl => match us, hl with | [_], _ => rfl
  have F7 := fun_mk (st := s_new_grid) l7 c7 k7
  have b7 := F7.binds (ps := ["width", "height", "colour"]) fun _ _ _ _ _ _ us hl => match us, hl with | [_, _, _], _ => rfl
  have F8 := fun_mk (st := s_in_box) l8 c8 k8
  have b8 := F8.binds (ps := ["x", "y", "box"]) fun _ _ _ _ _ _ us hl => match us, hl with | [_, _, _], _ => rfl
  have F9 := fun_mk (st := s__law_cell) l9 c9 k9
  have b9 := F9.binds (ps := ["script", "k"]) fun _ _ _ _ _ _ us hl => match us, hl with | [_, _], _ => rfl
  have F10 := fun_mk (st := s__law_is_integer) l10 c10 k10
  have b10 := F10.binds (ps := ["actual"]) fun _ _ _ _ _ _ us hl => match us, hl with | [_], _ => rfl
  have F11 := fun_mk (st := s__law_side) l11 c11 k11
  have b11 := F11.binds (ps := ["cell"]) fun _ _ _ _ _ _ us hl => match us, hl with | [_], _ => rfl
  have F12 := fun_mk (st := s__law_value) l12 c12 k12
  have b12 := F12.binds (ps := ["script"]) fun _ _ _ _ _ _ us hl => match us, hl with | [_], _ => rfl
  have F13 := fun_mk (st := s__law_is_side) l13 c13 k13
  have b13 := F13.binds (ps := ["value"]) fun _ _ _ _ _ _ us hl => match us, hl with | [_], _ => rfl
  have F14 := fun_mk (st := s__law_due) l14 c14 k14
  have b14 := F14.binds (ps := ["value"]) fun _ _ _ _ _ _ us hl => match us, hl with | [_], _ => rfl
  have F15 := fun_mk (st := s__law_told) l15 c15 k15
  have b15 := F15.binds (ps := ["width", "height", "colour"]) fun _ _ _ _ _ _ us hl => match us, hl with | [_, _, _], _ => rfl
  have F16 := fun_mk (st := s__law_place) l16 c16 k16
  have b16 := F16.binds (ps := ["cell"]) fun _ _ _ _ _ _ us hl => match us, hl with | [_], _ => rfl
  have F17 := fun_mk (st := s__law_bounded) l17 c17 k17
  have b17 := F17.binds (ps := ["number"]) fun _ _ _ _ _ _ us hl => match us, hl with | [_], _ => rfl
  have F18 := fun_mk (st := s_law) l18 c18 k18
  have b18 := F18.binds (ps := ["script"]) fun _ _ _ _ _ _ us hl => match us, hl with | [_], _ => rfl
  have T : Txt K mg := ⟨f1, _, F1, b1, PySem.W.mg_of X G a1,
    f2, _, F2, b2, PySem.W.mg_of X G a2,
    f3, _, F3, b3, PySem.W.mg_of X G a3,
    f4, _, F4, b4, PySem.W.mg_of X G a4,
    f5, _, F5, b5, PySem.W.mg_of X G a5,
    f6, _, F6, b6, PySem.W.mg_of X G a6,
    f7, _, F7, b7, PySem.W.mg_of X G a7,
    f8, _, F8, b8, PySem.W.mg_of X G a8,
    f9, _, F9, b9, PySem.W.mg_of X G a9,
    f10, _, F10, b10, PySem.W.mg_of X G a10,
    f11, _, F11, b11, PySem.W.mg_of X G a11,
    f12, _, F12, b12, PySem.W.mg_of X G a12,
    f13, _, F13, b13, PySem.W.mg_of X G a13,
    f14, _, F14, b14, PySem.W.mg_of X G a14,
    f15, _, F15, b15, PySem.W.mg_of X G a15,
    f16, _, F16, b16, PySem.W.mg_of X G a16,
    f17, _, F17, b17, PySem.W.mg_of X G a17,
    fa, _, F18, b18, PySem.W.mg_of X G a18,
    C19, PySem.W.mg_of X G a19, x19, k19, i19, i19t,
    C20, PySem.W.mg_of X G a20, x20, k20, i20, i20t,
    PySem.W.exm_ref i19 i19d i19t s20_19,
    o20_20,
    ⟨e20a, e20b, i20, i20d, e20c, e20d, e20e, e20f⟩,
    t21, PySem.W.mg_of X G a21,
    t22, PySem.W.mg_of X G a22,
    t23, PySem.W.mg_of X G a23,
    t24, PySem.W.mg_of X G a24,
    PySem.W.mg_none_of X G a25,
    PySem.W.mg_none_of X G a26,
    PySem.W.mg_none_of X G a27,
    PySem.W.mg_none_of X G a28,
    PySem.W.mg_none_of X G a29,
    PySem.W.mg_none_of X G a30,
    PySem.W.mg_none_of X G a31,
    PySem.W.mg_none_of X G a32,
    PySem.W.mg_none_of X G a33,
    PySem.W.mg_none_of X G a34,
    PySem.W.mg_none_of X G a35⟩
  refine ⟨PySem.W.fnOf "law" "law" (defArgs s_law) (defBody s_law) (defScope s_law) .none kV18 dc18 pm18 an18 cd18 ct18, fun s v => .of_eq rfl, fun base _ _ => ?_⟩
  exact ok_law_of F18 T
end K35
open PySem PySem.W PyProof.Rows
set_option maxRecDepth 100000 in
set_option maxHeartbeats 0 in
theorem PySem.Challenge.cw_stillroom_k35_grids_and_boxes_holds : PySem.Challenge.rw_stillroom_k35_grids_and_boxes.Holds := by
  w_on; o_law; k_head; (case hw => w_witness2)
  k_fill
  refine L2.walk_of (l := PySem.Challenge.rw_stillroom_k35_grids_and_boxes) (n := 63) (k := 5) (x := "script") (CX := fun _ => L2.CX0) (sp := fun w => K35.spLaw _) rfl (by decide) rfl ⟨rfl, by decide, by decide⟩ (fun w h Y => PySem.W.kIn_of Y) ?F (fun _ _ a ns hl _ hS => ⟨a, ns, rfl, hS, hl, fun _ => rfl⟩) (fun _ _ _ _ _ h => h)
  case F =>
    intro w mg fa h KX G hmg
    refine' K35.all_mk KX G hmg ?a1 ?l1 ?c1 ?k1 ?a2 ?l2 ?c2 ?k2 ?a3 ?l3 ?c3 ?k3 ?a4 ?l4 ?c4 ?k4 ?a5 ?l5 ?c5 ?k5 ?a6 ?l6 ?c6 ?k6 ?a7 ?l7 ?c7 ?k7 ?a8 ?l8 ?c8 ?k8 ?a9 ?l9 ?c9 ?k9 ?a10 ?l10 ?c10 ?k10 ?a11 ?l11 ?c11 ?k11 ?a12 ?l12 ?c12 ?k12 ?a13 ?l13 ?c13 ?k13 ?a14 ?l14 ?c14 ?k14 ?a15 ?l15 ?c15 ?k15 ?a16 ?l16 ?c16 ?k16 ?a17 ?l17 ?c17 ?k17 ?a18 ?l18 ?c18 ?k18 ?a19 ?x19 ?k19 ?i19 ?i19t ?i19d ?a20 ?x20 ?k20 ?i20 ?i20t ?i20d ?s20_19 ?o20_20 ?e20a ?e20b ?e20c ?e20d ?e20e ?e20f ?a21 ?a22 ?a23 ?a24 ?a25 ?a26 ?a27 ?a28 ?a29 ?a30 ?a31 ?a32 ?a33 ?a34 ?a35
    (case a1 => k_is)
    (case l1 => k_is)
    (case c1 => k_is)
    (case k1 => k_is)
    (case a2 => k_is)
    (case l2 => k_is)
    (case c2 => k_is)
    (case k2 => k_is)
    (case a3 => k_is)
    (case l3 => k_is)
    (case c3 => k_is)
    (case k3 => k_is)
    (case a4 => k_is)
    (case l4 => k_is)
    (case c4 => k_is)
    (case k4 => k_is)
    (case a5 => k_is)
    (case l5 => k_is)
    (case c5 => k_is)
    (case k5 => k_is)
    (case a6 => k_is)
    (case l6 => k_is)
    (case c6 => k_is)
    (case k6 => k_is)
    (case a7 => k_is)
    (case l7 => k_is)
    (case c7 => k_is)
    (case k7 => k_is)
    (case a8 => k_is)
    (case l8 => k_is)
    (case c8 => k_is)
    (case k8 => k_is)
    (case a9 => k_is)
    (case l9 => k_is)
    (case c9 => k_is)
    (case k9 => k_is)
    (case a10 => k_is)
    (case l10 => k_is)
    (case c10 => k_is)
    (case k10 => k_is)
    (case a11 => k_is)
    (case l11 => k_is)
    (case c11 => k_is)
    (case k11 => k_is)
    (case a12 => k_is)
    (case l12 => k_is)
    (case c12 => k_is)
    (case k12 => k_is)
    (case a13 => k_is)
    (case l13 => k_is)
    (case c13 => k_is)
    (case k13 => k_is)
    (case a14 => k_is)
    (case l14 => k_is)
    (case c14 => k_is)
    (case k14 => k_is)
    (case a15 => k_is)
    (case l15 => k_is)
    (case c15 => k_is)
    (case k15 => k_is)
    (case a16 => k_is)
    (case l16 => k_is)
    (case c16 => k_is)
    (case k16 => k_is)
    (case a17 => k_is)
    (case l17 => k_is)
    (case c17 => k_is)
    (case k17 => k_is)
    (case a18 => k_is)
    (case l18 => k_is)
    (case c18 => k_is)
    (case k18 => k_is)
    (case a19 => k_is)
    (case x19 => k_exc)
    (case k19 => k_is)
    (case i19 => first | k_is | rfl)
    (case i19t => first | k_is | rfl)
    (case i19d => first | k_is | rfl)
    (case a20 => k_is)
    (case x20 => k_exc)
    (case k20 => k_is)
    (case i20 => first | k_is | rfl)
    (case i20t => first | k_is | rfl)
    (case i20d => first | k_is | rfl)
    (case s20_19 => first | k_is | rfl)
    (case o20_20 => first | k_is | rfl)
    (case e20a => first | k_is | rfl)
    (case e20b => first | k_is | rfl)
    (case e20c => first | k_is | rfl)
    (case e20d => first | k_is | rfl)
    (case e20e => first | k_is | rfl)
    (case e20f => first | k_is | rfl)
    (case a21 => k_is)
    (case a22 => k_is)
    (case a23 => k_is)
    (case a24 => k_is)
    (case a25 => k_is)
    (case a26 => k_is)
    (case a27 => k_is)
    (case a28 => k_is)
    (case a29 => k_is)
    (case a30 => k_is)
    (case a31 => k_is)
    (case a32 => k_is)
    (case a33 => k_is)
    (case a34 => k_is)
    (case a35 => k_is)



import PyProof.Rows.All
import Wide.All
import OpenK.AllK
import Wide.FinOn
import HandS.ForMost
import HandS.Wide
import HandS.IsInst
import HandS.FStr
import HandS.Zip
import HandS.CallLocal
import HandS.Walk
import HandS.TryOnly
import HandS.TupAny
import HandS.DictComp
import HandS.Deep
import PyProof.DictMoreH
import HandS.Text
import HandS.Codes
import PySem.Challenge.RW_stillroom_k08_matches_written
set_option Elab.async false
set_option linter.all false
set_option maxRecDepth 100000
namespace K08
open PySem PySem.Spec PyProof.Rows L2

/-! ### rules with plainer readings -/
section
variable {X : Cx}
theorem CallR.of {f : Value} {r r' : List V → Hp → VK → Prop} (h : CallR X f r) (k : ∀ xs H Q, r' xs H Q → r xs H Q) : CallR X f r' := fun pins s σ H xs us Q I rv q => h pins s σ H xs us Q I rv (k xs H Q q)
theorem OpR.of {f : Value → Value → Sem Value} {r r' : R2} (h : OpR X f r) (k : ∀ x y H Q, r' x y H Q → r x y H Q) : OpR X f r' := fun pins s σ H x y v u Q I rx ry q => h pins s σ H x y v u Q I rx ry (k x y H Q q)
/-- the name of a plain value's type -/
def tnm : V → Option String
  | .non => some "NoneType"
  | .bl _ => some "bool"
  | .int _ => some "int"
  | .str _ => some "str"
  | _ => none
theorem tnm_int (i : Int) : tnm (.int i) = some "int" := rfl
theorem tnm_bl (b : Bool) : tnm (.bl b) = some "bool" := rfl
theorem tnm_str (x : Str) : tnm (.str x) = some "str" := rfl
theorem tnm_non : tnm .non = some "NoneType" := rfl
theorem tnm_ref (p : Addr) : tnm (.ref p) = none := rfl
theorem scal_ii (i j : Int) : scal (.int i) (.int j) = true := rfl
theorem scal_ss (i j : Str) : scal (.str i) (.str j) = true := rfl
theorem scal_bb (i j : Bool) : scal (.bl i) (.bl j) = true := rfl
theorem scal_nn : scal .non .non = true := rfl
theorem scal_in (i : Int) : scal (.int i) .non = true := rfl
theorem scal_ni (i : Int) : scal .non (.int i) = true := rfl
def rIsiB : List V → Hp → VK → Prop := fun vs H Q => (∃ x n a b, vs = [x, .ty n] ∧ tnm x = some a ∧ kitB a n = some b ∧ Q (.bl b) H) ∨
  (∃ p n xs b, vs = [.ref p, .ty n] ∧ H p = some (.lst xs) ∧ kitB "list" n = some b ∧ Q (.bl b) H) ∨ ∃ p n xs b, vs = [.ref p, .ty n] ∧ H p = some (.tup xs) ∧ kitB "tuple" n = some b ∧ Q (.bl b) H
theorem call_isiB : CallR X (.builtin "isinstance") rIsiB := CallR.of call_isi (by
  intro vs H Q h
  rcases h with ⟨x, n, a, b, rfl, ha, hb, q⟩ | ⟨p, n, xs, b, rfl, ha, hb, q⟩ | ⟨p, n, xs, b, rfl, ha, hb, q⟩
  · refine ⟨x, .ty n, .type a, .type n, b, rfl, .ty n, ?_, kit_ty hb, q⟩
    cases x <;> cases ha
    · exact .base .non
    · exact .base (.bl _)
    · exact .base (.int _)
    · exact .base (.str _)
  · exact ⟨.ref p, .ty n, .type "list", .type n, b, rfl, .ty n, .base (.lst ha), kit_ty hb, q⟩
  · exact ⟨.ref p, .ty n, .type "tuple", .type n, b, rfl, .ty n, .base (.tup ha), kit_ty hb, q⟩)
theorem kb1 : kitB "int" "int" = some true := by decide +kernel
theorem kb2 : kitB "int" "bool" = some false := by decide +kernel
theorem kb3 : kitB "bool" "bool" = some true := by decide +kernel
theorem kb4 : kitB "bool" "int" = some true := by decide +kernel
theorem kb5 : kitB "str" "str" = some true := by decide +kernel
theorem kb6 : kitB "str" "int" = some false := by decide +kernel
theorem kb7 : kitB "list" "list" = some true := by decide +kernel
theorem kb8 : kitB "tuple" "tuple" = some true := by decide +kernel
theorem kb9 : kitB "NoneType" "int" = some false := by decide +kernel
theorem kb10 : kitB "NoneType" "list" = some false := by decide +kernel
/-- len, a copy, an item of a tracked list -/
def rLenH : List V → Hp → VK → Prop := fun vs H Q => ∃ p xs, vs = [.ref p] ∧ H p = some (.lst xs) ∧ Q (.int xs.length) H
theorem call_lenH : CallR X (.builtin "len") rLenH := CallR.of call_len_seq (by
  rintro vs H Q ⟨p, xs, rfl, h, q⟩
  exact ⟨p, xs, rfl, .inl (.inl (.inl h)), q⟩)
def rLenT : List V → Hp → VK → Prop := fun vs H Q => ∃ p xs, vs = [.ref p] ∧ H p = some (.tup xs) ∧ Q (.int xs.length) H
theorem call_lenT : CallR X (.builtin "len") rLenT := CallR.of call_len_seq (by
  rintro vs H Q ⟨p, xs, rfl, h, q⟩
  exact ⟨p, xs, rfl, .inr (.inl (.inl h)), q⟩)
def rListH : List V → Hp → VK → Prop := fun vs H Q => ∃ p xs, vs = [.ref p] ∧ H p = some (.lst xs) ∧ ∀ l, H l = none → Q (.ref l) (upd H l (.lst xs))
theorem call_listH : CallR X (.type "list") rListH := CallR.of call_list_of (by
  rintro vs H Q ⟨p, xs, rfl, h, q⟩
  exact ⟨p, xs, rfl, .inl (.inl (.inl h)), q⟩)
theorem ints_dp {K : PySem.W.Frag} {H : Hp} : ∀ ns : List Int, DpAll K H (ns.map V.int) (ns.map PyData.int)
  | [] => .nil
  | n :: r => .cons (.int n) (ints_dp r)
theorem ints_eqv : ∀ ns ms : List Int, PyData.eqvAll (ns.map PyData.int) (ms.map PyData.int) = decide (ns = ms)
  | [], [] => by simp [PyData.eqvAll]
  | [], _ :: _ => by simp [PyData.eqvAll]
  | _ :: _, [] => by simp [PyData.eqvAll]
  | n :: r, m :: q => by
    rw [List.map_cons, List.map_cons, PyData.eqvAll, ints_eqv r q]
    simp only [PyData.eqv, List.cons.injEq, Bool.decide_and]
    by_cases h : n = m <;> simp [h]
theorem ints_lay : ∀ ns : List Int, PyData.canLayAll0 (ns.map PyData.int) = true
  | [] => rfl
  | _ :: r => by rw [List.map_cons, PyData.canLayAll0, ints_lay r]; rfl
theorem ints_depth : ∀ ns : List Int, PyData.depthAll (ns.map PyData.int) = 0
  | [] => rfl
  | _ :: r => by rw [List.map_cons, PyData.depthAll, ints_depth r]; rfl
theorem ints_shaped (ns : List Int) : SeqAt.shaped (.list (ns.map PyData.int)) = true := by
  unfold SeqAt.shaped
  rw [PyData.canLay0, ints_lay, PyData.depth, ints_depth]
  rfl
/-- == and != of two tracked lists of ints -/
def rEqIL : R2 := fun x y H Q => ∃ a b ns ms, x = .ref a ∧ y = .ref b ∧ H a = some (.lst (List.map V.int ns)) ∧ H b = some (.lst (List.map V.int ms)) ∧ Q (.bl (decide (ns = ms))) H
theorem op_eqIL (hu : X.A.units + 64 < cLine) : OpR X (compareOp .Eq) rEqIL := OpR.of (op_eqD hu) (by
  rintro x y H Q ⟨a, b, ns, ms, rfl, rfl, ha, hb, q⟩
  refine ⟨_, _, .lst (.inl (.inl ha)) (ints_dp ns), .lst (.inl (.inl hb)) (ints_dp ms), ints_shaped ns, ints_shaped ms, ?_⟩
  rw [PyData.eqv, ints_eqv]
  exact q)
def rNeIL : R2 := fun x y H Q => ∃ a b ns ms, x = .ref a ∧ y = .ref b ∧ H a = some (.lst (List.map V.int ns)) ∧ H b = some (.lst (List.map V.int ms)) ∧ Q (.bl (!decide (ns = ms))) H
theorem op_neIL (hu : X.A.units + 64 < cLine) : OpR X (compareOp .NotEq) rNeIL := OpR.of (op_neD hu) (by
  rintro x y H Q ⟨a, b, ns, ms, rfl, rfl, ha, hb, q⟩
  refine ⟨_, _, .lst (.inl (.inl ha)) (ints_dp ns), .lst (.inl (.inl hb)) (ints_dp ms), ints_shaped ns, ints_shaped ms, ?_⟩
  rw [PyData.eqv, ints_eqv]
  exact q)
/-- == of two tracked tuples of plain things -/
def dS : V → PyData
  | .int i => .int i
  | .bl b => .bool b
  | _ => .none
def isS : V → Bool
  | .int _ => true
  | .bl _ => true
  | .non => true
  | _ => false
theorem isS_dp {K : PySem.W.Frag} {H : Hp} : ∀ xs : List V, xs.all isS = true → DpAll K H xs (xs.map dS)
  | [], _ => .nil
  | x :: r, h => by
    rw [List.all_cons, Bool.and_eq_true] at h
    refine .cons ?_ (isS_dp r h.2)
    have h1 := h.1
    cases x <;> first | exact .int _ | exact .bl _ | exact .non | cases h1
theorem isS_lay : ∀ xs : List V, PyData.canLayAll0 (xs.map dS) = true
  | [] => rfl
  | x :: r => by rw [List.map_cons, PyData.canLayAll0, isS_lay r]; cases x <;> rfl
theorem isS_depth : ∀ xs : List V, PyData.depthAll (xs.map dS) = 0
  | [] => rfl
  | x :: r => by rw [List.map_cons, PyData.depthAll, isS_depth r]; cases x <;> rfl
theorem isS_shaped (xs : List V) : SeqAt.shaped (.tuple (xs.map dS)) = true := by
  unfold SeqAt.shaped
  rw [PyData.canLay0, isS_lay, PyData.depth, isS_depth]
  rfl
def rEqTS : R2 := fun x y H Q => ∃ a b xs ys, x = .ref a ∧ y = .ref b ∧ H a = some (.tup xs) ∧ H b = some (.tup ys) ∧ xs.all isS = true ∧ ys.all isS = true ∧ Q (.bl (PyData.eqvAll (xs.map dS) (ys.map dS))) H
theorem op_eqTS (hu : X.A.units + 64 < cLine) : OpR X (compareOp .Eq) rEqTS := OpR.of (op_eqD hu) (by
  rintro x y H Q ⟨a, b, xs, ys, rfl, rfl, ha, hb, h1, h2, q⟩
  refine ⟨_, _, .tup (.inl (.inl ha)) (isS_dp xs h1), .tup (.inl (.inl hb)) (isS_dp ys h2), isS_shaped xs, isS_shaped ys, ?_⟩
  rw [PyData.eqv]
  exact q)
theorem dS_int (i : Int) : dS (.int i) = .int i := rfl
theorem dS_bl (b : Bool) : dS (.bl b) = .bool b := rfl
theorem isS_int (i : Int) : isS (.int i) = true := rfl
theorem isS_bl (b : Bool) : isS (.bl b) = true := rfl
theorem eqv_ii (i j : Int) : PyData.eqv (.int i) (.int j) = decide (i = j) := by rw [PyData.eqv]; rfl
theorem eqv_bb (i j : Bool) : PyData.eqv (.bool i) (.bool j) = decide (i = j) := by rw [PyData.eqv]; cases i <;> cases j <;> rfl
theorem eqvAll_nil : PyData.eqvAll [] [] = true := by rw [PyData.eqvAll]
theorem eqvAll_cons (x y : PyData) (xs ys : List PyData) : PyData.eqvAll (x :: xs) (y :: ys) = (PyData.eqv x y && PyData.eqvAll xs ys) := by rw [PyData.eqvAll]
theorem ip_of {op : Operator} {r : R2} (h : OpR X (inplaceOp op) r) : PIp X op r := fun pins s σ H x y v u Q I r1 r2 q => h pins s σ H x y v u Q I r1 r2 q
theorem SlR.of {r r' : V → Option Int → Option Int → Hp → VK → Prop} (h : SlR X r) (k : ∀ x lo hi H Q, r' x lo hi H Q → r x lo hi H Q) : SlR X r' := fun pins s σ H x v vl vu lo hi sl Q I rx hs pl pu q => h pins s σ H x v vl vu lo hi sl Q I rx hs pl pu (k x lo hi H Q q)
/-- a slice of a tracked list -/
def rSlH : V → Option Int → Option Int → Hp → VK → Prop := fun x lo hi H Q => ∃ a xs, x = .ref a ∧ H a = some (.lst xs) ∧ ∀ p, H p = none → Q (.ref p) (upd H p (.lst (cutV xs lo hi)))
theorem sl_listH : SlR X rSlH := SlR.of sl_list (by
  rintro x lo hi H Q ⟨a, xs, rfl, h, q⟩
  exact ⟨a, xs, rfl, .inl (.inl h), q⟩)
/-- == and != of two tracked pairs of a list of ints and an int -/
theorem li_dp {K : PySem.W.Frag} {H : Hp} {q : Addr} {l : Int} {ns : List Int} (hq : H q = some (.lst (List.map V.int ns))) : DpAll K H [.ref q, .int l] [.list (ns.map PyData.int), .int l] := .cons (.lst (.inl (.inl hq)) (ints_dp ns)) (.cons (.int l) .nil)
theorem li_shaped (ns : List Int) (l : Int) : SeqAt.shaped (.tuple [.list (ns.map PyData.int), .int l]) = true := by
  unfold SeqAt.shaped
  rw [PyData.canLay0, PyData.canLayAll0, PyData.canLay0, ints_lay, PyData.canLayAll0, PyData.depth, PyData.depthAll, PyData.depth, ints_depth, PyData.depthAll]
  rfl
theorem li_eqv (ns ms : List Int) (l m : Int) : PyData.eqv (.tuple [.list (ns.map PyData.int), .int l]) (.tuple [.list (ms.map PyData.int), .int m]) = (decide (ns = ms) && decide (l = m)) := by
  rw [PyData.eqv, PyData.eqvAll, PyData.eqvAll, PyData.eqvAll, PyData.eqv, PyData.eqv, ints_eqv, Bool.and_true]
  rfl
def rEqLI : R2 := fun x y H Q => ∃ a b q r l m ns ms, x = .ref a ∧ y = .ref b ∧ H a = some (.tup [.ref q, .int l]) ∧ H b = some (.tup [.ref r, .int m]) ∧ H q = some (.lst (List.map V.int ns)) ∧ H r = some (.lst (List.map V.int ms)) ∧ Q (.bl (decide (ns = ms) && decide (l = m))) H
theorem op_eqLI (hu : X.A.units + 64 < cLine) : OpR X (compareOp .Eq) rEqLI := OpR.of (op_eqD hu) (by
  rintro x y H Q ⟨a, b, q, r, l, m, ns, ms, rfl, rfl, ha, hb, hq, hr, k⟩
  refine ⟨_, _, .tup (.inl (.inl ha)) (li_dp hq), .tup (.inl (.inl hb)) (li_dp hr), li_shaped ns l, li_shaped ms m, ?_⟩
  rw [li_eqv]
  exact k)
def rNeLI : R2 := fun x y H Q => ∃ a b q r l m ns ms, x = .ref a ∧ y = .ref b ∧ H a = some (.tup [.ref q, .int l]) ∧ H b = some (.tup [.ref r, .int m]) ∧ H q = some (.lst (List.map V.int ns)) ∧ H r = some (.lst (List.map V.int ms)) ∧ Q (.bl (!(decide (ns = ms) && decide (l = m)))) H
theorem op_neLI (hu : X.A.units + 64 < cLine) : OpR X (compareOp .NotEq) rNeLI := OpR.of (op_neD hu) (by
  rintro x y H Q ⟨a, b, q, r, l, m, ns, ms, rfl, rfl, ha, hb, hq, hr, k⟩
  refine ⟨_, _, .tup (.inl (.inl ha)) (li_dp hq), .tup (.inl (.inl hb)) (li_dp hr), li_shaped ns l, li_shaped ms m, ?_⟩
  rw [li_eqv]
  exact k)
def rIxH : R2 := fun x y H Q => ∃ p xs i v, x = .ref p ∧ y = .int i ∧ H p = some (.lst xs) ∧ atI xs i = some v ∧ Q v H
theorem IxR.of {r r' : R2} (h : IxR X r) (k : ∀ x y H Q, r' x y H Q → r x y H Q) : IxR X r' := fun va sl pins s σ H x y v u Q I rx ry q hs => h va sl pins s σ H x y v u Q I rx ry (k x y H Q q) hs
theorem ix_listH : IxR X rIxH := IxR.of ix_list (by
  rintro x y H Q ⟨p, xs, i, v, e1, e2, h, h2, q⟩
  exact ⟨p, xs, i, v, e1, e2, .inl (.inl h), h2, q⟩)
def rIxTH : R2 := fun x y H Q => ∃ p xs i v, x = .ref p ∧ y = .int i ∧ H p = some (.tup xs) ∧ atI xs i = some v ∧ Q v H
theorem ix_tupH : IxR X rIxTH := IxR.of ix_tup (by
  rintro x y H Q ⟨p, xs, i, v, e1, e2, h, h2, q⟩
  exact ⟨p, xs, i, v, e1, e2, .inl (.inl h), h2, q⟩)
end
/-- a place in bounds -/
theorem ixN_in {n : Nat} {k : Int} (h0 : 0 ≤ k) (h1 : k < n) : ixN n k = some k.toNat := by
  unfold ixN
  rw [if_pos h0, if_pos h1]
theorem atI_in {xs : List Int} {k : Int} (h0 : 0 ≤ k) (h1 : k < xs.length) : ∃ b, xs[k.toNat]? = some b ∧ atI (xs.map V.int) k = some (.int b) := by
  have h : k.toNat < xs.length := by omega
  refine ⟨xs[k.toNat], List.getElem?_eq_getElem h, ?_⟩
  unfold atI
  rw [List.length_map, ixN_in h0 h1]
  show (xs.map V.int)[k.toNat]? = _
  rw [List.getElem?_map, List.getElem?_eq_getElem h]
  rfl
theorem mod_in (x : Int) {m : Int} (h : 0 < m) : 0 ≤ x % m ∧ x % m < m := ⟨Int.emod_nonneg x (by omega), Int.emod_lt_of_pos x h⟩
theorem atI_c0 {α : Type} (x : α) (xs : List α) : atI (x :: xs) 0 = some x := atI_nat (j := 0) rfl
theorem atI_c1 {α : Type} (x y : α) (xs : List α) : atI (x :: y :: xs) 1 = some y := atI_nat (j := 1) rfl
theorem atI_c2 {α : Type} (x y z : α) (xs : List α) : atI (x :: y :: z :: xs) 2 = some z := atI_nat (j := 2) rfl
theorem atI_c3 {α : Type} (x y z u : α) (xs : List α) : atI (x :: y :: z :: u :: xs) 3 = some u := atI_nat (j := 3) rfl

theorem tyV_upd {K : PySem.W.Frag} {H : Hp} {p : Addr} {xs : List V} : tyV K "list" (.ref p) (upd H p (.lst xs)) = True := eq_true (.inl ⟨rfl, xs, .inl (.inl upd_same)⟩)
theorem nil_sz : (0 ≤ sizeLine) = True := eq_true (Nat.zero_le _)
/-- what a for asks once its walk stands -/
def Loop (J : It) (g : TG) (tb : TS) (D : Ends) (σ : L2.St) (H1 : Hp) : Prop := ∃ W : Nat → Nat → L2.St → Hp → Prop, (∃ m, W 0 m σ H1) ∧ ∀ i m σ H, W i m σ H →
  (J.stop i H ∧ D.nx σ H) ∨ (J.go i H ∧ ∃ N : L2.St → Hp → Prop, (∀ σ' H', N σ' H' → ∃ m', m' < m ∧ W (i + 1) m' σ' H') ∧ ∀ x H', J.yld i H x H' → g x σ H' fun σ2 H2 => tb { D with nx := N, ct := N, bk := D.nx } σ2 H2)
theorem tFor_eq {wi : TI} {g : TG} {tb : TS} {D : Ends} {σ : L2.St} {H : Hp} : tFor wi g tb D σ H = wi σ H fun J H1 => Loop J g tb D σ H1 := rfl
theorem lp_range {n : Nat} {g : TG} {tb : TS} {D : Ends} {σ : L2.St} {H : Hp} (Pv : Nat → L2.St → Hp → Prop) (h0 : Pv 0 σ H)
    (hs : ∀ i σ H, i < n → Pv i σ H → g (.int i) σ H fun σ2 H2 => tb { D with nx := Pv (i + 1), ct := Pv (i + 1), bk := D.nx } σ2 H2) (hd : ∀ σ H, Pv n σ H → D.nx σ H) : Loop (Itr 0 n) g tb D σ H :=
  for_range (lo := 0) Pv h0 (fun i σ H a b => by have := hs i σ H a b; rw [Int.zero_add]; exact this) hd
theorem lp_list {K : PySem.W.Frag} {a : Addr} {xs : List V} {g : TG} {tb : TS} {D : Ends} {σ : L2.St} {H : Hp} (Pv : Nat → L2.St → Hp → Prop) (h0 : Pv 0 σ H) (hl : ∀ i σ H, i ≤ xs.length → Pv i σ H → SqL K H a xs)
    (hs : ∀ i x σ H, xs[i]? = some x → Pv i σ H → g x σ H fun σ2 H2 => tb { D with nx := Pv (i + 1), ct := Pv (i + 1), bk := D.nx } σ2 H2) (hd : ∀ σ H, Pv xs.length σ H → D.nx σ H) : Loop (Itl K a) g tb D σ H := for_list Pv h0 hl hs hd
/-- the same for a comprehension -/
def LcLoop (J : It) (g : TG) (tt : TT) (te : TE) (vs : List Nat) (σ : L2.St) (H1 : Hp) (Q : VK) : Prop := ∀ D, H1 D = none → ∃ W : Nat → Nat → Hp → Prop, (∃ m, W 0 m (upd H1 D (.lst []))) ∧ ∀ i m H, W i m H →
  (J.stop i H ∧ Q (.ref D) H) ∨ (J.go i H ∧ ∃ Nx : Hp → Prop, (∀ H', Nx H' → ∃ m', m' < m ∧ W (i + 1) m' H') ∧ ∀ x H', J.yld i H x H' → g x (wipe σ vs) H' fun σ2 H2 => wipe σ2 vs = wipe σ vs ∧ tt σ2 H2 fun b H3 =>
    if b = true then te σ2 H3 fun y H4 => ∃ acc, H4 D = some (.lst acc) ∧ acc.length < sizeLine ∧ Nx (upd H4 D (.lst (acc ++ [y]))) else Nx H3)
theorem tLc_eq {wi : TI} {g : TG} {tt : TT} {te : TE} {vs : List Nat} {σ : L2.St} {H : Hp} {Q : VK} : tLc wi g tt te vs σ H Q = wi σ H fun J H1 => LcLoop J g tt te vs σ H1 Q := rfl
/-- a comprehension over a list, whose elements leave the heap as it is: L i is what i turns have made -/
theorem lc_pure {K : PySem.W.Frag} {a : Addr} {xs : List V} {g : TG} {tt : TT} {te : TE} {vs : List Nat} {σ : L2.St} {H1 : Hp} {Q : VK} (L : Nat → List V) (hS : SqL K H1 a xs) (h0 : L 0 = [])
    (hs : ∀ i x D, xs[i]? = some x → H1 D = none → g x (wipe σ vs) (upd H1 D (.lst (L i))) fun σ2 H2 => wipe σ2 vs = wipe σ vs ∧ tt σ2 H2 fun b H3 =>
      if b = true then te σ2 H3 fun y H4 => ∃ acc, H4 D = some (.lst acc) ∧ acc.length < sizeLine ∧ upd H4 D (.lst (acc ++ [y])) = upd H1 D (.lst (L (i + 1))) else H3 = upd H1 D (.lst (L (i + 1))))
    (hd : ∀ D, H1 D = none → Q (.ref D) (upd H1 D (.lst (L xs.length)))) : LcLoop (Itl K a) g tt te vs σ H1 Q := by
  intro D hD
  refine lc_list (K := K) (a := a) (xs := xs) (fun i H => H = upd H1 D (.lst (L i))) (by rw [h0]) (fun i H _ e => ?_) (fun i x H hx e => ?_) (fun H e => ?_)
  · subst e
    exact (show Same H1 _ from fun b o e => by rw [upd_ne (ne_of_none e hD)]; exact e).seq hS
  · subst e
    exact hs i x D hx hD
  · subst e
    exact hd D hD
theorem lc_pure_range {n : Nat} {g : TG} {tt : TT} {te : TE} {vs : List Nat} {σ : L2.St} {H1 : Hp} {Q : VK} (L : Nat → List V) (h0 : L 0 = [])
    (hs : ∀ i D, i < n → H1 D = none → g (.int i) (wipe σ vs) (upd H1 D (.lst (L i))) fun σ2 H2 => wipe σ2 vs = wipe σ vs ∧ tt σ2 H2 fun b H3 =>
      if b = true then te σ2 H3 fun y H4 => ∃ acc, H4 D = some (.lst acc) ∧ acc.length < sizeLine ∧ upd H4 D (.lst (acc ++ [y])) = upd H1 D (.lst (L (i + 1))) else H3 = upd H1 D (.lst (L (i + 1))))
    (hd : ∀ D, H1 D = none → Q (.ref D) (upd H1 D (.lst (L n)))) : LcLoop (Itr 0 n) g tt te vs σ H1 Q := by
  intro D hD
  refine lc_range (lo := 0) (n := n) (fun i H => H = upd H1 D (.lst (L i))) (by rw [h0]) (fun i H hi e => ?_) (fun H e => ?_)
  · subst e
    rw [Int.zero_add]
    exact hs i D hi hD
  · subst e
    exact hd D hD
theorem lp_zip {K : PySem.W.Frag} {a b : Addr} {xs ys : List V} {g : TG} {tb : TS} {D : Ends} {σ : L2.St} {H : Hp} (hl : xs.length = ys.length) (Pv : Nat → L2.St → Hp → Prop) (h0 : Pv 0 σ H) (hq : ∀ i σ H, Pv i σ H → SqL K H a xs ∧ SqL K H b ys)
    (hs : ∀ (i : Nat) (x y : V) (T : Addr) (σ : L2.St) (H : Hp), xs[i]? = some x → ys[i]? = some y → Pv i σ H → H T = none → g (.ref T) σ (upd H T (.tup [x, y])) fun σ2 H2 => tb { D with nx := Pv (i + 1), ct := Pv (i + 1), bk := D.nx } σ2 H2) (hd : ∀ σ H, Pv xs.length σ H → D.nx σ H) :
    Loop (Itz K a b) g tb D σ H := RZ.for_zipL hl Pv h0 hq hs hd
theorem lc_str {x : Str} {g : TG} {tt : TT} {te : TE} {vs : List Nat} {σ : L2.St} {H1 : Hp} {Q : VK} (L : Nat → List V) (h0 : L 0 = [])
    (hs : ∀ i c D, x.cps[i]? = some c → H1 D = none → g (.str ⟨#[c]⟩) (wipe σ vs) (upd H1 D (.lst (L i))) fun σ2 H2 => wipe σ2 vs = wipe σ vs ∧ tt σ2 H2 fun b H3 =>
      if b = true then te σ2 H3 fun y H4 => ∃ acc, H4 D = some (.lst acc) ∧ acc.length < sizeLine ∧ upd H4 D (.lst (acc ++ [y])) = upd H1 D (.lst (L (i + 1))) else H3 = upd H1 D (.lst (L (i + 1))))
    (hd : ∀ D, H1 D = none → Q (.ref D) (upd H1 D (.lst (L x.cps.size)))) : LcLoop (Its x) g tt te vs σ H1 Q := by
  intro D hD
  refine ⟨fun i m H => m = x.cps.size - i ∧ i ≤ x.cps.size ∧ H = upd H1 D (.lst (L i)), ⟨x.cps.size, by simp, Nat.zero_le _, by rw [h0]⟩, ?_⟩
  rintro i m H ⟨rfl, hi, rfl⟩
  by_cases hlt : i < x.cps.size
  · refine .inr ⟨hlt, fun H' => H' = upd H1 D (.lst (L (i + 1))), fun H' p' => ⟨x.cps.size - (i + 1), by omega, rfl, hlt, p'⟩, fun v H' y => ?_⟩
    obtain ⟨e, c, hc, ev⟩ := y
    subst e ev
    exact hs i c D hc hD
  · have e : i = x.cps.size := by omega
    subst e
    exact .inl ⟨Nat.le_refl _, hd D hD⟩
theorem lc_rangeC {lo c : Int} {n : Nat} {g : TG} {tt : TT} {te : TE} {vs : List Nat} {σ : L2.St} {H1 : Hp} {Q : VK} (L : Nat → List V) (h0 : L 0 = [])
    (hs : ∀ i D, i < n → H1 D = none → g (.int (lo + (i : Nat) * c)) (wipe σ vs) (upd H1 D (.lst (L i))) fun σ2 H2 => wipe σ2 vs = wipe σ vs ∧ tt σ2 H2 fun b H3 =>
      if b = true then te σ2 H3 fun y H4 => ∃ acc, H4 D = some (.lst acc) ∧ acc.length < sizeLine ∧ upd H4 D (.lst (acc ++ [y])) = upd H1 D (.lst (L (i + 1))) else H3 = upd H1 D (.lst (L (i + 1))))
    (hd : ∀ D, H1 D = none → Q (.ref D) (upd H1 D (.lst (L n)))) : LcLoop (Itc lo c n) g tt te vs σ H1 Q := by
  intro D hD
  refine ⟨fun i m H => m = n - i ∧ i ≤ n ∧ H = upd H1 D (.lst (L i)), ⟨n, by simp, Nat.zero_le _, by rw [h0]⟩, ?_⟩
  rintro i m H ⟨rfl, hi, rfl⟩
  by_cases hlt : i < n
  · refine .inr ⟨hlt, fun H' => H' = upd H1 D (.lst (L (i + 1))), fun H' p' => ⟨n - (i + 1), by omega, rfl, hlt, p'⟩, fun v H' y => ?_⟩
    obtain ⟨e, ev⟩ := y
    subst e ev
    exact hs i D hlt hD
  · have e : i = n := by omega
    subst e
    exact .inl ⟨Nat.le_refl _, hd D hD⟩
theorem small_two {a b : Int} (ha : -(2 ^ 62) ≤ a) (ha' : a < 2 ^ 62) (hb : -(2 ^ 62) ≤ b) (hb' : b < 2 ^ 62) : Builtin.Range.small a b 2 = true := by
  unfold Builtin.Range.small Builtin.Range.rangeSize
  simp only [Builtin.Range.rangeFitsLong, Bool.and_eq_true, Bool.or_eq_true, decide_eq_true_eq, beq_iff_eq, show ((2 : Int) > 0) by decide, if_true]
  split <;> omega
theorem rg_two {n : Nat} (h : n < 1000000) : RgC 0 ((n : Int) - 1) 2 (n / 2) := by
  refine ⟨by decide, by decide, small_two (by decide) (by decide) (by omega) (by omega), ?_⟩
  unfold Builtin.Range.rangeSize
  rw [if_pos (by decide)]
  split <;> omega
theorem wh_by {c : TT} {tb : TS} {D : Ends} {σ : L2.St} {H : Hp} (W : Nat → L2.St → Hp → Prop) (m : Nat) (h0 : W m σ H)
    (hs : ∀ m σ H, W m σ H → c σ H fun b H1 => if b = true then ∃ N : L2.St → Hp → Prop, (∀ σ' H', N σ' H' → ∃ m', m' < m ∧ W m' σ' H') ∧ tb { D with nx := N, ct := N, bk := D.nx } σ H1 else D.nx σ H1) : tWhile c tb D σ H := ⟨W, ⟨m, h0⟩, hs⟩
theorem lc_rng {n : Nat} {g : TG} {tt : TT} {te : TE} {vs : List Nat} {σ : L2.St} {H1 : Hp} {Q : VK} (Pv : Addr → Nat → Hp → Prop) (h0 : ∀ D, H1 D = none → Pv D 0 (upd H1 D (.lst [])))
    (hs : ∀ D i H, i < n → H1 D = none → Pv D i H → g (.int i) (wipe σ vs) H fun σ2 H2 => wipe σ2 vs = wipe σ vs ∧ tt σ2 H2 fun b H3 =>
      if b = true then te σ2 H3 fun y H4 => ∃ acc, H4 D = some (.lst acc) ∧ acc.length < sizeLine ∧ Pv D (i + 1) (upd H4 D (.lst (acc ++ [y]))) else Pv D (i + 1) H3)
    (hd : ∀ D H, H1 D = none → Pv D n H → Q (.ref D) H) : LcLoop (Itr 0 n) g tt te vs σ H1 Q := by
  intro D hD
  refine lc_range (lo := 0) (n := n) (Pv D) (h0 D hD) (fun i H hi p => ?_) (fun H p => hd D H hD p)
  rw [Int.zero_add]
  exact hs D i H hi hD p
theorem same_upd {H : Hp} {p : Addr} {o : HO} (h : H p = none) : Same H (upd H p o) := fun b x e => by
  rw [upd_ne (ne_of_none e h)]
  exact e
theorem same_upd2 {H H' : Hp} {q : Addr} {o : HO} (s : Same H H') (h : H q = none) : Same H (upd H' q o) := fun b x e => by
  rw [upd_ne (ne_of_none e h)]
  exact s b x e

/-! ### fresh objects: the heap behind one as a heap of its own -/
def NewH (H : Hp) (o : HO) (k : Addr → Hp → Prop) : Prop := ∀ p H', Same H H' → H p = none → H' p = some o → k p H'
theorem NewH.go {H : Hp} {o : HO} {k : Addr → Hp → Prop} (h : NewH H o k) : ∀ p, H p = none → k p (upd H p o) := fun p hp => h p _ (same_upd hp) hp upd_same
section
variable {X : Cx} {es : List Expr} {t : TA} {pos : Pos}
theorem pa_mono (h : PA X es t) : PA X es (fun σ H Q => ∃ Q', t σ H Q' ∧ ∀ xs H1, Q' xs H1 → Q xs H1) := ⟨fun pos pins s σ H Q I ⟨_, q, k⟩ => thn (h.run pos pins s σ H _ I q) fun _ _ ⟨vs, H', I', r, q'⟩ => ⟨vs, H', I', r, k _ _ q'⟩⟩
theorem PE.of {e : Expr} {t t' : TE} (h : PE X e t) (k : ∀ σ H Q, t' σ H Q → t σ H Q) : PE X e t' := ⟨fun pins s σ H Q I q => h.run pins s σ H Q I (k _ _ _ q)⟩
def tTupS (t : TA) : TE := fun σ H Q => t σ H fun xs H1 => xs.length ≤ sizeLine ∧ NewH H1 (.tup xs) fun p H' => Q (.ref p) H'
def tLstS (t : TA) : TE := fun σ H Q => t σ H fun xs H1 => xs.length ≤ sizeLine ∧ NewH H1 (.lst xs) fun p H' => Q (.ref p) H'
theorem pe_tupS {x1} (h : PA X es t) : PE X (.Tuple es x1 pos) (tTupS t) := PE.of (pe_tup (pa_mono h)) fun σ H Q q => ⟨_, q, fun _ _ z => ⟨z.1, z.2.go⟩⟩
theorem pe_lstS (h : PA X es t) : PE X (.List es pos) (tLstS t) := PE.of (pe_lst (pa_mono h)) fun σ H Q q => ⟨_, q, fun _ _ z => ⟨z.1, z.2.go⟩⟩
def rListS : List V → Hp → VK → Prop := fun vs H Q => ∃ p xs, vs = [.ref p] ∧ H p = some (.lst xs) ∧ NewH H (.lst xs) fun l H' => Q (.ref l) H'
theorem call_listS : CallR X (.type "list") rListS := CallR.of call_listH fun vs H Q ⟨p, xs, e, h, q⟩ => ⟨p, xs, e, h, q.go⟩
/-- list(t) of a tuple -/
def rListT : List V → Hp → VK → Prop := fun vs H Q => ∃ p xs, vs = [.ref p] ∧ H p = some (.tup xs) ∧ NewH H (.lst xs) fun l H' => Q (.ref l) H'
theorem call_listT : CallR X (.type "list") rListT := CallR.of call_list_of fun vs H Q ⟨p, xs, e, h, q⟩ => ⟨p, xs, e, .inr (.inl (.inl h)), q.go⟩
/-- tuple(xs) of a tracked list -/
def rTupleL : List V → Hp → VK → Prop := fun vs H Q => ∃ p xs, vs = [.ref p] ∧ H p = some (.lst xs) ∧ NewH H (.tup xs) fun l H' => Q (.ref l) H'
theorem call_tupleL : CallR X (.type "tuple") rTupleL := CallR.of call_tuple_of fun vs H Q ⟨p, xs, e, h, q⟩ => ⟨p, xs, e, .inl ⟨.inl (.inl h), q.go⟩⟩
def rCatL : R2 := fun x y H Q => ∃ l b xs zs, x = .ref l ∧ y = .ref b ∧ H l = some (.lst xs) ∧ H b = some (.lst zs) ∧ xs.length + zs.length ≤ sizeLine ∧ NewH H (.lst (xs ++ zs)) fun p H' => Q (.ref p) H'
theorem op_catS : OpR X (binaryOp .Add) rCatL := OpR.of op_cat fun x y H Q ⟨l, b, xs, zs, e1, e2, h1, h2, z, q⟩ => ⟨l, b, xs, zs, e1, e2, h1, h2, z, q.go⟩
/-- [x] * n -/
def rRepS : R2 := fun x y H Q => ∃ l k v, x = .ref l ∧ y = .int k ∧ H l = some (.lst [v]) ∧ k ≤ 16777216 ∧ -(2 ^ 62) ≤ k ∧ NewH H (.lst (List.replicate k.toNat v)) fun p H' => Q (.ref p) H'
theorem rep_flat {α : Type} (n : Nat) (y : α) : (List.replicate n [y]).flatten = List.replicate n y := by
  induction n with
  | zero => rfl
  | succ n ih => rw [List.replicate_succ, List.flatten_cons, ih, List.replicate_succ]; rfl
theorem op_repS : OpR X (binaryOp .Mult) rRepS := OpR.of op_rep fun x y H Q ⟨l, k, v, e1, e2, h1, z1, z2, q⟩ => ⟨l, k, [v], e1, e2, h1, by omega, by omega, by
    rw [List.length_singleton, show sizeLine = 16777216 from rfl]; omega, by rw [rep_flat]; exact q.go⟩
def rSlS : V → Option Int → Option Int → Hp → VK → Prop := fun x lo hi H Q => ∃ a xs, x = .ref a ∧ H a = some (.lst xs) ∧ NewH H (.lst (cutV xs lo hi)) fun p H' => Q (.ref p) H'
theorem sl_listS : SlR X rSlS := SlR.of sl_listH fun x lo hi H Q ⟨a, xs, e, h, q⟩ => ⟨a, xs, e, h, q.go⟩
theorem pe_mono {e : Expr} {t : TE} (h : PE X e t) : PE X e (fun σ H Q => ∃ Q', t σ H Q' ∧ ∀ v H1, Q' v H1 → Q v H1) := ⟨fun pins s σ H Q I ⟨_, q, k⟩ => thn (h.run pins s σ H _ I q) fun _ _ ⟨v, H', I', r, q'⟩ => ⟨v, H', I', r, k _ _ q'⟩⟩
theorem PG.of {e : Expr} {t t' : TG} (h : PG X e t) (k : ∀ v σ H Q, t' v σ H Q → t v σ H Q) : PG X e t' := ⟨fun pins s σ H v u Q I r q => h.run pins s σ H v u Q I r (k _ _ _ _ q)⟩
theorem PI.of {tg e : Expr} {t t' : TI} (h : PI X tg e t) (k : ∀ σ H R, t' σ H R → t σ H R) : PI X tg e t' := ⟨fun pins s σ H R I q => h.run pins s σ H R I (k _ _ _ q)⟩
def gTupS (n : Nat) (t : TGs) : TG := fun v σ H Q => ∃ a xs, v = .ref a ∧ H a = some (.tup xs) ∧ xs.length = n ∧ t xs σ H Q
theorem pg_tupS {k : Nat} {t : TGs} {n : Nat} (hc : X.calm = true) (h : PGs X es t) (hn : (assignEach es X.env).length = n := by rfl) (hst : (assignEach es X.env).findIdx? (·.1) = none := by rfl) : PG X (.Tuple es k pos) (gTupS n t) :=
  PG.of (pg_tup hc h hn hst) fun v σ H Q ⟨a, xs, e, g, l, q⟩ => ⟨a, xs, e, .inl (.inl g), l, q⟩
def gLstS (n : Nat) (t : TGs) : TG := fun v σ H Q => ∃ a xs, v = .ref a ∧ H a = some (.lst xs) ∧ xs.length = n ∧ t xs σ H Q
theorem pg_lstS {k : Nat} {t : TGs} {n : Nat} (hc : X.calm = true) (h : PGs X es t) (hn : (assignEach es X.env).length = n := by rfl) (hst : (assignEach es X.env).findIdx? (·.1) = none := by rfl) : PG X (.Tuple es k pos) (gLstS n t) :=
  PG.of (pg_lst hc h hn hst) fun v σ H Q ⟨a, xs, e, g, l, q⟩ => ⟨a, xs, e, .inl (.inl g), l, q⟩
def iListS (K : PySem.W.Frag) (tl : TE) : TI := fun σ H R => tl σ H fun x H1 => ∃ a xs, x = .ref a ∧ H1 a = some (.lst xs) ∧ R (Itl K a) H1
theorem pi_listS {tg l : Expr} {tl : TE} (hl : PE X l tl) : PI X tg l (iListS X.K tl) := PI.of (pi_list (pe_mono hl)) fun σ H R q => ⟨_, q, fun _ _ ⟨a, xs, e, g, r⟩ => ⟨a, e, ⟨xs, .inl (.inl g)⟩, r⟩⟩
def iTupS (K : PySem.W.Frag) (tl : TE) : TI := fun σ H R => tl σ H fun x H1 => ∃ a xs, x = .ref a ∧ H1 a = some (.tup xs) ∧ R (Itt K a) H1
theorem pi_tupS {tg l : Expr} {tl : TE} (hl : PE X l tl) : PI X tg l (iTupS X.K tl) := PI.of (pi_tup (pe_mono hl)) fun σ H R q => ⟨_, q, fun _ _ ⟨a, xs, e, g, r⟩ => ⟨a, e, ⟨xs, .inl (.inl g)⟩, r⟩⟩
def tML (r : V → List V → Hp → VK → Prop) (to : TE) (t : TA) : TE := fun σ H Q => to σ H fun x H1 => ∃ p xs, x = .ref p ∧ H1 p = some (.lst xs) ∧ t σ H1 fun ys H2 => r x ys H2 Q
theorem pe_ml {to : TE} {t : TA} {e : PySem.Expr} {K : PySem.W.Frag} {r : V → List V → Hp → VK → Prop} (h : PE X e (tBM K "list" r (fun σ H Q => ∃ Q', to σ H Q' ∧ ∀ v H1, Q' v H1 → Q v H1) t)) : PE X e (tML r to t) :=
  PE.of h fun σ H Q q => ⟨_, q, fun v H1 ⟨p, xs, e, g, z⟩ => ⟨by rw [e]; exact .inl ⟨rfl, xs, .inl (.inl g)⟩, z⟩⟩
def tML0 (r : V → List V → Hp → VK → Prop) (to : TE) : TE := fun σ H Q => to σ H fun x H1 => ∃ p xs, x = .ref p ∧ H1 p = some (.lst xs) ∧ r x [] H1 Q
theorem pe_ml0 {to : TE} {e : PySem.Expr} {K : PySem.W.Frag} {r : V → List V → Hp → VK → Prop} (h : PE X e (tBM0 K "list" r (fun σ H Q => ∃ Q', to σ H Q' ∧ ∀ v H1, Q' v H1 → Q v H1))) : PE X e (tML0 r to) :=
  PE.of h fun σ H Q q => ⟨_, q, fun v H1 ⟨p, xs, e, g, z⟩ => ⟨by rw [e]; exact .inl ⟨rfl, xs, .inl (.inl g)⟩, z⟩⟩
end
/-- loops and comprehensions over any walk -/
theorem lpW {J : It} {n : Nat} {G : Hp → Prop} {Y : Nat → Hp → V → Hp → Prop} (w : Walk J n G Y) {g : TG} {tb : TS} {D : Ends} {σ : L2.St} {H : Hp} (Pv : Nat → L2.St → Hp → Prop) (h0 : Pv 0 σ H) (hG : ∀ i σ H, i ≤ n → Pv i σ H → G H)
    (hs : ∀ i x σ H H', i < n → Pv i σ H → Y i H x H' → g x σ H' fun σ2 H2 => tb { D with nx := Pv (i + 1), ct := Pv (i + 1), bk := D.nx } σ2 H2) (hd : ∀ σ H, Pv n σ H → D.nx σ H) : Loop J g tb D σ H := for_it w Pv h0 hG hs hd
theorem lcW {J : It} {n : Nat} {G : Hp → Prop} {Y : Nat → Hp → V → Hp → Prop} (w : Walk J n G Y) {g : TG} {tt : TT} {te : TE} {vs : List Nat} {σ : L2.St} {H1 : Hp} {Q : VK} (Pv : Addr → Nat → Hp → Prop) (h0 : ∀ D H, Same H1 H → H1 D = none → H D = some (.lst []) → Pv D 0 H)
    (hG : ∀ D i H, H1 D = none → i ≤ n → Pv D i H → G H) (hs : ∀ D i x H H', i < n → H1 D = none → Pv D i H → Y i H x H' → g x (wipe σ vs) H' fun σ2 H2 => wipe σ2 vs = wipe σ vs ∧ tt σ2 H2 fun b H3 =>
      if b = true then te σ2 H3 fun y H4 => ∃ acc, H4 D = some (.lst acc) ∧ acc.length < sizeLine ∧ Pv D (i + 1) (upd H4 D (.lst (acc ++ [y]))) else Pv D (i + 1) H3)
    (hd : ∀ D H, H1 D = none → Pv D n H → Q (.ref D) H) : LcLoop J g tt te vs σ H1 Q :=
  fun D hD => lc_it w (Pv D) (h0 D _ (same_upd hD) hD upd_same) (fun i H hi p => hG D i H hD hi p) (fun i x H H' hi p y => hs D i x H H' hi hD p y) fun H p => hd D H hD p
theorem lcL {J : It} {n : Nat} {G : Hp → Prop} {Y : Nat → Hp → V → Hp → Prop} (w : Walk J n G Y) {g : TG} {tt : TT} {te : TE} {vs : List Nat} {σ : L2.St} {H1 : Hp} {Q : VK} (L : Nat → List V) (hz : L 0 = []) (hG : ∀ H, Same H1 H → G H)
    (hs : ∀ D i x H H', i < n → H1 D = none → Same H1 H → H D = some (.lst (L i)) → Y i H x H' → g x (wipe σ vs) H' fun σ2 H2 => wipe σ2 vs = wipe σ vs ∧ tt σ2 H2 fun b H3 =>
      if b = true then te σ2 H3 fun y H4 => ∃ acc, H4 D = some (.lst acc) ∧ acc.length < sizeLine ∧ Same H1 (upd H4 D (.lst (acc ++ [y]))) ∧ upd H4 D (.lst (acc ++ [y])) D = some (.lst (L (i + 1))) else Same H1 H3 ∧ H3 D = some (.lst (L (i + 1))))
    (hd : ∀ D H, Same H1 H → H1 D = none → H D = some (.lst (L n)) → Q (.ref D) H) : LcLoop J g tt te vs σ H1 Q :=
  lcW w (fun D i H => Same H1 H ∧ H D = some (.lst (L i))) (fun D H s _ g => ⟨s, by rw [g, hz]⟩) (fun _ _ H _ _ p => hG H p.1) (fun D i x H H' hi hD p y => hs D i x H H' hi hD p.1 p.2 y) fun D H hD p => hd D H p.1 hD p.2
theorem walkR {n : Nat} : Walk (Itr 0 n) n (fun _ => True) (YFn fun i => .int (i : Int)) := walk_range.mono (fun _ h => h) fun i H x H' _ _ y => ⟨y.1, by rw [y.2]; show V.int (0 + (i : Int)) = V.int (i : Int); rw [Int.zero_add]⟩
theorem walkL {K : PySem.W.Frag} {a : Addr} {xs : List V} : Walk (Itl K a) xs.length (fun H => H a = some (.lst xs)) (YAt xs) := (walk_list (K := K) (a := a) (xs := xs)).mono (fun _ h => .inl (.inl h)) fun _ _ _ _ _ _ y => y
theorem walkT {K : PySem.W.Frag} {a : Addr} {xs : List V} : Walk (Itt K a) xs.length (fun H => H a = some (.tup xs)) (YAt xs) := (walk_tup (K := K) (a := a) (xs := xs)).mono (fun _ h => .inl (.inl h)) fun _ _ _ _ _ _ y => y
/-- a list of ints is walked -/
def YInt (ns : List Int) : Nat → Hp → V → Hp → Prop := fun i H v H' => H' = H ∧ ∃ b, ns[i]? = some b ∧ v = .int b
theorem walkI {K : PySem.W.Frag} {a : Addr} {ns : List Int} : Walk (Itl K a) ns.length (fun H => H a = some (.lst (List.map V.int ns))) (YInt ns) := by
  have w := walkL (K := K) (a := a) (xs := List.map V.int ns)
  rw [List.length_map] at w
  refine w.mono (fun _ h => h) fun i H x H' _ _ y => ⟨y.1, ?_⟩
  have h := y.2
  rw [List.getElem?_map] at h
  obtain ⟨b, h1, rfl⟩ := Option.map_eq_some_iff.mp h
  exact ⟨b, h1, rfl⟩
theorem sqL_eq {K : PySem.W.Frag} {H : Hp} {a : Addr} {xs : List V} (h : H a = some (.lst xs)) : (∃ xs, SqL K H a xs) = True := eq_true ⟨_, .inl (.inl h)⟩
theorem sqT_eq {K : PySem.W.Frag} {H : Hp} {a : Addr} {xs : List V} (h : H a = some (.tup xs)) : (∃ xs, SqT K H a xs) = True := eq_true ⟨_, .inl (.inl h)⟩
theorem tyL_eq {K : PySem.W.Frag} {H : Hp} {p : Addr} {xs : List V} (h : H p = some (.lst xs)) : tyV K "list" (.ref p) H = True := eq_true (.inl ⟨rfl, xs, .inl (.inl h)⟩)
theorem Same.c2 {H H' : Hp} {a b : Addr} {x y : HO} (s : Same H H') (ga : H a = some x) (gb : H b = some y) : H' a = some x ∧ H' b = some y := ⟨s _ _ ga, s _ _ gb⟩
theorem map_int_inj {xs ys : List Int} : (List.map V.int xs = List.map V.int ys) = (xs = ys) := by
  refine propext ⟨fun h => ?_, fun h => by rw [h]⟩
  induction xs generalizing ys with
  | nil => cases ys with
    | nil => rfl
    | cons y q => cases h
  | cons x r ih => cases ys with
    | nil => cases h
    | cons y q =>
      rw [List.map_cons, List.map_cons, List.cons.injEq, V.int.injEq] at h
      rw [h.1, ih h.2]
theorem sz1 : (1 ≤ sizeLine) = True := eq_true (by decide)
theorem sz2 : (2 ≤ sizeLine) = True := eq_true (by decide)
theorem sz3 : (3 ≤ sizeLine) = True := eq_true (by decide)
theorem sz4 : (4 ≤ sizeLine) = True := eq_true (by decide)
theorem sz5 : (5 ≤ sizeLine) = True := eq_true (by decide)
theorem sz6 : (6 ≤ sizeLine) = True := eq_true (by decide)
theorem sz8 : (8 ≤ sizeLine) = True := eq_true (by decide)
/-- an item of a list of ints -/
def gN (ns : List Int) (i : Nat) : Int := ns.getD i 0
theorem at_g {ns : List Int} {i : Nat} (h : i < ns.length) : atI (ns.map V.int) (i : Int) = some (V.int (gN ns i)) := by
  refine atI_nat ?_
  rw [List.getElem?_map, List.getElem?_eq_getElem h]
  simp [gN, h]
theorem at_g' {ns : List Int} {k : Int} {i : Nat} (e : k = (i : Int)) (h : i < ns.length) : atI (ns.map V.int) k = some (V.int (gN ns i)) := by
  rw [e]
  exact at_g h
theorem iteT' {c : Bool} {a b : Prop} (h : c = true) (x : a) : if c = true then a else b := by rw [if_pos h]; exact x
theorem iteF' {c : Bool} {a b : Prop} (h : c = false) (x : b) : if c = true then a else b := by rw [if_neg (by rw [h]; decide)]; exact x
theorem iteB {c : Bool} {p : Prop} [Decidable p] {a b : Prop} (h : c = decide p) (x : p → a) (y : ¬ p → b) : if c = true then a else b := by
  subst h
  exact ite2 (fun e => x (of_decide_eq_true e)) fun e => y fun z => e (decide_eq_true z)
theorem iteD {p : Prop} [Decidable p] {a b : Prop} (x : p → a) (y : ¬ p → b) : if decide p = true then a else b := iteB rfl x y
def mx (x y : Int) : Int := if x < y then y else x
def mn (x y : Int) : Int := if y < x then y else x
theorem mx_eq (x y : Int) : (if x < y then y else x) = mx x y := rfl
theorem mn_eq (x y : Int) : (if y < x then y else x) = mn x y := rfl
theorem mx_le {x y z : Int} : mx x y ≤ z ↔ x ≤ z ∧ y ≤ z := by
  unfold mx
  split <;> omega
theorem lt_mn {x y z : Int} : z < mn x y ↔ z < x ∧ z < y := by
  unfold mn
  split <;> omega
theorem toNat_mul (m n : Nat) : ((m : Int) * (n : Int)).toNat = m * n := by rw [← Int.natCast_mul, Int.toNat_natCast]
theorem atI_lit {xs : List V} {k : Int} (h0 : 0 ≤ k) (h1 : k < xs.length) : ∃ v, atI xs k = some v ∧ v ∈ xs := by
  have h : k.toNat < xs.length := by omega
  refine ⟨xs[k.toNat], ?_, List.getElem_mem h⟩
  unfold atI
  rw [ixN_in h0 h1]
  exact List.getElem?_eq_getElem h
theorem atI_lits {xs : List Int} {k : Int} (h0 : 0 ≤ k) (h1 : k < xs.length) : ∃ v, atI (List.map V.int xs) k = some (.int v) ∧ v ∈ xs := by
  obtain ⟨v, h, hm⟩ := atI_lit (xs := List.map V.int xs) h0 (by rw [List.length_map]; exact h1)
  obtain ⟨i, hi, rfl⟩ := List.mem_map.mp hm
  exact ⟨i, h, hi⟩
theorem natOf {x : Int} (h : 0 ≤ x) : ∃ n : Nat, x = (n : Int) := ⟨x.toNat, by omega⟩
theorem map_cat (xs ys : List Int) : List.map V.int xs ++ List.map V.int ys = List.map V.int (xs ++ ys) := by rw [List.map_append]
theorem map_snoc (xs : List Int) (v : Int) : List.map V.int xs ++ [V.int v] = List.map V.int (xs ++ [v]) := by rw [List.map_append]; rfl
theorem map_setV (l : List Int) (i : Nat) (v : Int) : (List.map V.int l).set i (.int v) = List.map V.int (l.set i v) := by rw [List.map_set]
/-- all but one object stand as they stood -/
def But (a : Addr) (H H' : Hp) : Prop := ∀ b o, b ≠ a → H b = some o → H' b = some o
theorem But.refl (a : Addr) (H : Hp) : But a H H := fun _ _ _ h => h
theorem But.ofSame {a : Addr} {H H' : Hp} (s : Same H H') : But a H H' := fun b o _ h => s b o h
theorem But.trans {a : Addr} {H H1 H2 : Hp} (x : But a H H1) (y : But a H1 H2) : But a H H2 := fun b o n h => y b o n (x b o n h)
theorem But.put {a : Addr} {H H' : Hp} {o : HO} (x : But a H H') : But a H (upd H' a o) := fun b o' n h => by rw [upd_ne n]; exact x b o' n h
theorem But.same {a : Addr} {H H1 H' : Hp} (s : Same H H1) (x : But a H1 H') (h : H a = none) : Same H H' := fun b o e => x b o (ne_of_none e h) (s b o e)
/-- the cell k of the script -/
def cellA (ns : List Int) (k : Nat) : Int := ns.getD k 0
def absI (c : Int) : Int := if c < 0 then -c else c
theorem absI_eq (c : Int) : (if c < 0 then -c else c) = absI c := rfl
theorem absI_nn (c : Int) : 0 ≤ absI c := by
  unfold absI
  split <;> omega
section
variable {X : Cx}
/-- xs[i] op= e reads the item first -/
def rGetL : V → V → Hp → VK → Prop := fun x y H Q => ∃ p xs i v, x = .ref p ∧ y = .int i ∧ H p = some (.lst xs) ∧ 0 ≤ i ∧ i < 2 ^ 62 ∧ xs[i.toNat]? = some v ∧ Q v H
theorem pget_list : PGet X rGetL := by
  intro pins s σ H x y v u Q I rx ry h
  obtain ⟨p, xs, i, z, rfl, rfl, hp, h0, h1, he, q⟩ := h
  cases rx
  obtain ⟨t, rfl⟩ := ry
  obtain ⟨its, r, pl, _⟩ := I.list (.inl (.inl hp))
  obtain ⟨w, ew, rw'⟩ := r.get he
  exact getItem_listL pl.isList h0 (by omega) ew ⟨z, H, I, rw', q⟩
def iZipS (K : PySem.W.Frag) (ta : TA) : TI := fun σ H R => ta σ H fun vs H1 => ∃ a b xs ys, vs = [.ref a, .ref b] ∧ H1 a = some (.lst xs) ∧ H1 b = some (.lst ys) ∧ R (Itz K a b) H1
theorem pi_zipS {e e2 : Expr} {ta : TA} {p pos tpos : Pos} {elts : List Expr} {kk : Nat} (hg : Gl X "zip") (hm : X.mg "zip" = none) (ha : PA X [e, e2] ta) (hs : starEach [e, e2] X.env = (false, eval e X.env) :: starEach [e2] X.env := by rfl) (hpl : (backTo pos (starEach [e2] X.env)).any (·.1) = false := by rfl) :
    PI X (.Tuple elts kk tpos) (.Call (.Name "zip" p) [e, e2] [] pos) (iZipS X.K ta) := PI.of (pi_zip hg hm (pa_mono ha) hs hpl) fun σ H R q => ⟨_, q, fun vs H1 ⟨a, b, xs, ys, e, g1, g2, r⟩ => ⟨a, b, xs, ys, e, .inl (.inl g1), .inl (.inl g2), r⟩⟩
end
theorem walkZ {K : PySem.W.Frag} {a b : Addr} {xs ys : List V} {n : Nat} (hn : n = min xs.length ys.length) : Walk (Itz K a b) n (fun H => H a = some (.lst xs) ∧ H b = some (.lst ys)) (YPair (fun i => xs[i]?) (fun i => ys[i]?)) :=
  (walk_zip (K := K) (a := a) (b := b) hn).mono (fun _ h => ⟨.inl (.inl h.1), .inl (.inl h.2)⟩) fun _ _ _ _ _ _ y => y
theorem cutV_take {xs : List V} {n : Nat} : cutV xs none (some (n : Int)) = xs.take n := by
  unfold cutV
  rw [HT.sIx_nat, HT.sIx_none, List.drop_zero]
  by_cases h : n ≤ xs.length
  · rw [Nat.min_eq_left h, Nat.sub_zero]
  · rw [Nat.min_eq_right (by omega), Nat.sub_zero, List.take_of_length_le (Nat.le_refl _), List.take_of_length_le (by omega)]
theorem cutV_drop {xs : List V} {n : Nat} : cutV xs (some (n : Int)) none = xs.drop n := by
  unfold cutV
  rw [HT.sIx_nat, HT.sIx_none]
  by_cases h : n ≤ xs.length
  · rw [Nat.min_eq_left h, List.take_of_length_le (by rw [List.length_drop]; exact Nat.le_refl _)]
  · rw [Nat.min_eq_right (by omega), List.drop_of_length_le (Nat.le_refl _), List.drop_of_length_le (by omega), List.take_nil]
theorem cutI_take {xs : List Int} {n : Nat} : cutV (List.map V.int xs) none (some (n : Int)) = List.map V.int (xs.take n) := by rw [cutV_take, List.map_take]
theorem cutI_drop {xs : List Int} {n : Nat} : cutV (List.map V.int xs) (some (n : Int)) none = List.map V.int (xs.drop n) := by rw [cutV_drop, List.map_drop]
/-- two lists item by item -/
inductive All2 {α β : Type} (R : α → β → Prop) : List α → List β → Prop
  | nil : All2 R [] []
  | cons {x : α} {y : β} {xs : List α} {ys : List β} : R x y → All2 R xs ys → All2 R (x :: xs) (y :: ys)
section
variable {α β : Type} {R S : α → β → Prop}
theorem All2.len {xs : List α} {ys : List β} (h : All2 R xs ys) : xs.length = ys.length := by
  induction h with
  | nil => rfl
  | cons _ _ ih => rw [List.length_cons, List.length_cons, ih]
theorem All2.mono {xs : List α} {ys : List β} (h : All2 R xs ys) (k : ∀ x y, R x y → S x y) : All2 S xs ys := by
  induction h with
  | nil => exact .nil
  | cons r _ ih => exact .cons (k _ _ r) ih
theorem All2.app {xs xs' : List α} {ys ys' : List β} (h : All2 R xs ys) (k : All2 R xs' ys') : All2 R (xs ++ xs') (ys ++ ys') := by
  induction h with
  | nil => exact k
  | cons r _ ih => exact .cons r ih
theorem All2.snoc {xs : List α} {ys : List β} {x : α} {y : β} (h : All2 R xs ys) (r : R x y) : All2 R (xs ++ [x]) (ys ++ [y]) := h.app (.cons r .nil)
theorem All2.at {xs : List α} {ys : List β} (h : All2 R xs ys) {i : Nat} {x : α} (e : xs[i]? = some x) : ∃ y, ys[i]? = some y ∧ R x y := by
  induction h generalizing i with
  | nil => simp at e
  | cons r _ ih =>
    cases i with
    | zero => exact ⟨_, rfl, by simpa using (Option.some.inj e) ▸ r⟩
    | succ i => exact ih e
theorem All2.at' {xs : List α} {ys : List β} (h : All2 R xs ys) {i : Nat} {y : β} (e : ys[i]? = some y) : ∃ x, xs[i]? = some x ∧ R x y := by
  induction h generalizing i with
  | nil => simp at e
  | cons r _ ih =>
    cases i with
    | zero => exact ⟨_, rfl, by simpa using (Option.some.inj e) ▸ r⟩
    | succ i => exact ih e
theorem All2.take {xs : List α} {ys : List β} (h : All2 R xs ys) (n : Nat) : All2 R (xs.take n) (ys.take n) := by
  induction h generalizing n with
  | nil => rw [List.take_nil, List.take_nil]; exact .nil
  | cons r _ ih =>
    cases n with
    | zero => exact .nil
    | succ n => exact .cons r (ih n)
theorem All2.drop {xs : List α} {ys : List β} (h : All2 R xs ys) (n : Nat) : All2 R (xs.drop n) (ys.drop n) := by
  induction h generalizing n with
  | nil => rw [List.drop_nil, List.drop_nil]; exact .nil
  | cons r t ih =>
    cases n with
    | zero => exact .cons r t
    | succ n => exact ih n
end
theorem tup_upd {H : Hp} {a l : Addr} {xs ys : List V} {o : HO} (h : H a = some (.tup xs)) (g : H l = some (.lst ys)) : upd H l o a = some (.tup xs) := by
  rw [upd_ne (ne_of h g (by intro z; cases z))]
  exact h
theorem tup_but {H H' : Hp} {a l : Addr} {xs ys : List V} (bt : But l H H') (h : H a = some (.tup xs)) (g : H l = some (.lst ys)) : H' a = some (.tup xs) := bt _ _ (ne_of h g (by intro z; cases z)) h
theorem cutV_take1 {xs : List V} : cutV xs none (some 1) = xs.take 1 := cutV_take (n := 1)
theorem cutV_drop1 {xs : List V} : cutV xs (some 1) none = xs.drop 1 := cutV_drop (n := 1)
section
variable {X : Cx}
/-- the script: its length, an item -/
def rLenSc (K : PySem.W.Frag) (a : Addr) (ns : List Int) : List V → Hp → VK → Prop := fun vs H Q => vs = [.ref a] ∧ SqL K H a (List.map V.int ns) ∧ Q (.int ns.length) H
theorem call_lenSc (a : Addr) (ns : List Int) : CallR X (.builtin "len") (rLenSc X.K a ns) := CallR.of call_len_seq fun vs H Q ⟨e, h, q⟩ => ⟨a, List.map V.int ns, e, .inl h, by rw [List.length_map]; exact q⟩
def rIxSc (K : PySem.W.Frag) (a : Addr) (ns : List Int) : R2 := fun x y H Q => ∃ i, x = .ref a ∧ y = .int i ∧ SqL K H a (List.map V.int ns) ∧ 0 ≤ i ∧ i < ns.length ∧ Q (.int (gN ns i.toNat)) H
theorem ix_sc (a : Addr) (ns : List Int) : IxR X (rIxSc X.K a ns) := IxR.of ix_list fun x y H Q ⟨i, e1, e2, h, h0, h1, q⟩ => ⟨a, List.map V.int ns, i, _, e1, e2, h, at_g' (Int.toNat_of_nonneg h0).symm (by omega), q⟩
end
section
variable {X : Cx}
def rSumS : List V → Hp → VK → Prop := fun vs H Q => ∃ a ns, vs = [.ref a] ∧ H a = some (.lst (List.map V.int ns)) ∧ Q (.int ns.sum) H
theorem cr_sumS (hc : X.calm = true) : CallR X (.builtin "sum") rSumS := CallR.of (cr_sum hc) fun vs H Q ⟨a, ns, e, g, q⟩ => ⟨a, ns, e, .inl (.inl g), q⟩
end
section
variable {X : Cx}
/-- t[lo:hi]: t itself or a new tuple, in either case one of these items -/
def rSlTS : V → Option Int → Option Int → Hp → VK → Prop := fun x lo hi H Q => ∃ a xs, x = .ref a ∧ H a = some (.tup xs) ∧ ∀ p H', Same H H' → (p = a ∨ H p = none) → H' p = some (.tup (cutV xs lo hi)) → Q (.ref p) H'
theorem sl_tupS : SlR X rSlTS := SlR.of sl_tupA fun x lo hi H Q ⟨a, xs, e, g, q⟩ => ⟨a, xs, e, .inl (.inl g), fun z => q a H (Same.refl _) (.inl rfl) (by
    unfold cutV
    rw [z.1, z.2, List.drop_zero, Nat.sub_zero, List.take_length]
    exact g), fun _ p hp => q p _ (same_upd hp) (.inr hp) upd_same⟩
end
theorem cutV_take3 {xs : List V} : cutV xs none (some 3) = xs.take 3 := cutV_take (n := 3)
section
variable {X : Cx}
theorem PT.of {e : Expr} {t t' : TT} (h : PT X e t) (k : ∀ σ H Q, t' σ H Q → t σ H Q) : PT X e t' := ⟨fun pins s σ H Q I q => h.run pins s σ H Q I (k _ _ _ q)⟩
/-- a list's truth -/
def tTrL (ta : TE) : TT := fun σ H Q => ta σ H fun x H1 => ∃ p xs, x = .ref p ∧ H1 p = some (.lst xs) ∧ Q (decide (0 < xs.length)) H1
theorem pt_truthL {a : Expr} {ta : TE} (ha : PE X a ta) (he : ∀ whole, isTrue a X.env whole = (do let v ← whole; standAt a.pos; holding [v] (truthy v))) : PT X a (tTrL ta) :=
  PT.of (pt_truth (pe_mono ha) he) fun σ H Q q => ⟨_, q, fun x H1 ⟨p, xs, e, g, z⟩ => ⟨decide (0 < xs.length), by rw [e]; exact .inl ⟨xs, .inl (.inl g), by cases xs <;> simp⟩, z⟩⟩
def iEnumL (K : PySem.W.Frag) (ta : TA) : TI := fun σ H R => ta σ H fun vs H1 => ∃ a xs, vs = [.ref a] ∧ H1 a = some (.lst xs) ∧ R (Ite K a) H1
theorem pi_enumL {e : Expr} {ta : TA} {p pos tpos : Pos} {elts : List Expr} {kk : Nat} (hg : Gl X "enumerate") (hm : X.mg "enumerate" = none) (ha : PA X [e] ta) (hs : starEach [e] X.env = [(false, eval e X.env)] := by rfl) :
    PI X (.Tuple elts kk tpos) (.Call (.Name "enumerate" p) [e] [] pos) (iEnumL X.K ta) := PI.of (pi_enum hg hm (pa_mono ha) hs) fun σ H R q => ⟨_, q, fun vs H1 ⟨a, xs, e, g, r⟩ => ⟨a, xs, e, .inl (.inl g), r⟩⟩
end
theorem walkE {K : PySem.W.Frag} {a : Addr} {xs : List V} : Walk (Ite K a) xs.length (fun H => H a = some (.lst xs)) (YPair (fun i => some (.int (i : Nat))) (fun i => xs[i]?)) := (walk_enum (K := K) (a := a) (xs := xs)).mono (fun _ h => .inl (.inl h)) fun _ _ _ _ _ _ y => y
theorem seq_cut {s1 R : TS} {D : Ends} {σ : L2.St} {H : Hp} (I : L2.St → Hp → Prop) (h2 : ∀ σ H, I σ H → R D σ H) (h1 : ∀ C : L2.St → Hp → Prop, (∀ σ H, I σ H → C σ H) → s1 { D with nx := C } σ H) : tSeq s1 R D σ H := h1 _ h2
section
variable {X : Cx}
theorem inV_int (i : Int) : ∀ ns : List Int, inV (.int i) (List.map V.int ns) = decide (i ∈ ns)
  | [] => by simp [inV]
  | n :: r => by
    have ih := inV_int i r
    unfold inV at ih ⊢
    rw [List.map_cons, List.any_cons, ih]
    by_cases h : n = i
    · subst h; simp [eqV]
    · simp [eqV, h, Ne.symm h]
theorem flat_ints : ∀ ns : List Int, (List.map V.int ns).all flatV = true
  | [] => rfl
  | _ :: r => by rw [List.map_cons, List.all_cons, flat_ints r]; rfl
/-- an int in a list of ints -/
def rInI : R2 := fun x y H Q => ∃ i p ns, x = .int i ∧ y = .ref p ∧ H p = some (.lst (List.map V.int ns)) ∧ Q (.bl (decide (i ∈ ns))) H
theorem op_inI : OpR X (compareOp .In) rInI := OpR.of op_in_seq fun x y H Q ⟨i, p, ns, e1, e2, g, q⟩ => ⟨p, List.map V.int ns, e2, .inl (.inl (.inl g)), by rw [e1]; rfl, flat_ints ns, by rw [e1, inV_int]; exact q⟩
/-- xs.index(i): the first place -/
def rIndexI : V → List V → Hp → VK → Prop := fun x xs H Q => ∃ p ns i j, x = .ref p ∧ xs = [.int i] ∧ H p = some (.lst (List.map V.int ns)) ∧ ns[j]? = some i ∧ (∀ m, m < j → ns[m]? ≠ some i) ∧ Q (.int ((j : Nat) : Int)) H
theorem MtR.of {id : String} {r r' : V → List V → Hp → VK → Prop} (h : MtR X id r) (k : ∀ x xs H Q, r' x xs H Q → r x xs H Q) : MtR X id r' := fun pins s σ H x xs v us Q I rx rv q => h pins s σ H x xs v us Q I rx rv (k _ _ _ _ q)
theorem mt_indexI : MtR X "list.index" rIndexI := MtR.of mt_index fun x xs H Q ⟨p, ns, i, j, e1, e2, g, hj, hm, q⟩ =>
  ⟨p, List.map V.int ns, .int i, j, .int i, e1, e2, .inl (.inl g), rfl, flat_ints ns, by rw [List.getElem?_map, hj]; rfl, by simp [eqV], fun m z hmj hz => by
    rw [List.getElem?_map] at hz
    obtain ⟨b, h1, rfl⟩ := Option.map_eq_some_iff.mp hz
    have : b ≠ i := fun e => hm m hmj (e ▸ h1)
    simp [eqV, this], q⟩
end
def sl (ns : List Int) (i j : Nat) : List Int := (ns.drop i).take (j - i)
theorem cut_sl {ns : List Int} {i j : Nat} : cutV (List.map V.int ns) (some (i : Int)) (some (j : Int)) = List.map V.int (sl ns i j) := by
  unfold cutV sl
  rw [HT.sIx_nat, HT.sIx_nat, List.length_map, ← List.map_drop, ← List.map_take]
  congr 1
  by_cases h : i < ns.length
  · rw [Nat.min_eq_left (Nat.le_of_lt h)]
    by_cases h2 : j ≤ ns.length
    · rw [Nat.min_eq_left h2]
    · rw [Nat.min_eq_right (by omega), List.take_of_length_le (by rw [List.length_drop]; exact Nat.le_refl _), List.take_of_length_le (by rw [List.length_drop]; omega)]
  · rw [List.drop_eq_nil_of_le (by omega), List.drop_eq_nil_of_le (by omega), List.take_nil, List.take_nil]
theorem sl_len (ns : List Int) (i j : Nat) : (sl ns i j).length = min (j - i) (ns.length - i) := by
  unfold sl
  rw [List.length_take, List.length_drop]
/-- a dict comprehension -/
def DcLoop (J : It) (g : TG) (tt : TT) (tk tv : TE) (vs : List Nat) (σ : L2.St) (H1 : Hp) (Q : VK) : Prop := ∀ D, H1 D = none → ∃ W : Nat → Nat → Hp → Prop, (∃ m, W 0 m (upd H1 D (.dK []))) ∧ ∀ i m H, W i m H →
  (J.stop i H ∧ Q (.ref D) H) ∨ (J.go i H ∧ ∃ Nx : Hp → Prop, (∀ H', Nx H' → ∃ m', m' < m ∧ W (i + 1) m' H') ∧ ∀ x H', J.yld i H x H' → g x (wipe σ vs) H' fun σ2 H2 => wipe σ2 vs = wipe σ vs ∧ tt σ2 H2 fun b H3 =>
    if b = true then tk σ2 H3 fun y H4 => tv σ2 H4 fun z H5 => ∃ kvs k, y = kV k ∧ H5 D = some (.dK kvs) ∧ kvs.length < sizeLine ∧ Nx (upd H5 D (.dK (putK kvs k z))) else Nx H3)
theorem tDc_eq {wi : TI} {g : TG} {tt : TT} {tk tv : TE} {vs : List Nat} {σ : L2.St} {H : Hp} {Q : VK} : tDc wi g tt tk tv vs σ H Q = wi σ H fun J H1 => DcLoop J g tt tk tv vs σ H1 Q := rfl
theorem dcW {J : It} {n : Nat} {G : Hp → Prop} {Y : Nat → Hp → V → Hp → Prop} (w : Walk J n G Y) {g : TG} {tt : TT} {tk tv : TE} {vs : List Nat} {σ : L2.St} {H1 : Hp} {Q : VK} (Pv : Addr → Nat → Hp → Prop) (h0 : ∀ D H, Same H1 H → H1 D = none → H D = some (.dK []) → Pv D 0 H)
    (hG : ∀ D i H, H1 D = none → i ≤ n → Pv D i H → G H) (hs : ∀ D i x H H', i < n → H1 D = none → Pv D i H → Y i H x H' → g x (wipe σ vs) H' fun σ2 H2 => wipe σ2 vs = wipe σ vs ∧ tt σ2 H2 fun b H3 =>
      if b = true then tk σ2 H3 fun y H4 => tv σ2 H4 fun z H5 => ∃ kvs k, y = kV k ∧ H5 D = some (.dK kvs) ∧ kvs.length < sizeLine ∧ Pv D (i + 1) (upd H5 D (.dK (putK kvs k z))) else Pv D (i + 1) H3)
    (hd : ∀ D H, H1 D = none → Pv D n H → Q (.ref D) H) : DcLoop J g tt tk tv vs σ H1 Q := by
  intro D hD
  refine ⟨fun i m H => m = n - i ∧ i ≤ n ∧ Pv D i H, ⟨n, by simp, Nat.zero_le _, h0 D _ (same_upd hD) hD upd_same⟩, ?_⟩
  rintro i m H ⟨rfl, hi, p⟩
  have q := hG D i H hD hi p
  by_cases hlt : i < n
  · exact .inr ⟨w.goes i H hlt q, Pv D (i + 1), fun H' p' => ⟨n - (i + 1), by omega, rfl, hlt, p'⟩, fun x H' y => hs D i x H H' hlt hD p (w.yields i H x H' hlt q y)⟩
  · have e : i = n := by omega
    subst e
    exact .inl ⟨w.stops H q, hd D H hD p⟩

/-! ### data at any depth: what stands there, and == of it -/
structure Cod {α : Type} [DecidableEq α] (R : Hp → V → α → Prop) (f : α → PyData) (d : Nat) : Prop where
  dp : ∀ (K : PySem.W.Frag) H v a, R H v a → Dp K H v (f a)
  eq : ∀ a b, PyData.eqv (f a) (f b) = decide (a = b)
  lay : ∀ a, PyData.canLay0 (f a) = true
  dep : ∀ a, PyData.depth (f a) ≤ d
def IntV (_ : Hp) (v : V) (i : Int) : Prop := v = .int i
def LstV {α : Type} (R : Hp → V → α → Prop) (H : Hp) (v : V) (l : List α) : Prop := ∃ a vs, v = .ref a ∧ H a = some (.lst vs) ∧ All2 (R H) vs l
def TupV {α : Type} (R : Hp → V → α → Prop) (H : Hp) (v : V) (l : List α) : Prop := ∃ a vs, v = .ref a ∧ H a = some (.tup vs) ∧ All2 (R H) vs l
def Pr2V {α β : Type} (R : Hp → V → α → Prop) (S : Hp → V → β → Prop) (H : Hp) (v : V) (p : α × β) : Prop := ∃ a x y, v = .ref a ∧ H a = some (.tup [x, y]) ∧ R H x p.1 ∧ S H y p.2
def Pr3V {α β γ : Type} (R : Hp → V → α → Prop) (S : Hp → V → β → Prop) (T : Hp → V → γ → Prop) (H : Hp) (v : V) (p : α × β × γ) : Prop := ∃ a x y z, v = .ref a ∧ H a = some (.tup [x, y, z]) ∧ R H x p.1 ∧ S H y p.2.1 ∧ T H z p.2.2
theorem cod_int : Cod IntV PyData.int 0 := ⟨fun K H v a h => by rw [show v = .int a from h]; exact .int a, eqv_ii, fun _ => rfl, fun _ => Nat.le_refl _⟩
section
variable {α β γ : Type} [DecidableEq α] [DecidableEq β] [DecidableEq γ] {R : Hp → V → α → Prop} {S : Hp → V → β → Prop} {T : Hp → V → γ → Prop} {f : α → PyData} {g : β → PyData} {h : γ → PyData} {d e k : Nat}
theorem Cod.all (c : Cod R f d) {K : PySem.W.Frag} {H : Hp} {vs : List V} {l : List α} (a : All2 (R H) vs l) : DpAll K H vs (l.map f) := by
  induction a with
  | nil => exact .nil
  | cons r _ ih => exact .cons (c.dp _ _ _ _ r) ih
theorem Cod.eqAll (c : Cod R f d) : ∀ l m : List α, PyData.eqvAll (l.map f) (m.map f) = decide (l = m)
  | [], [] => by rw [List.map_nil, eqvAll_nil]; rfl
  | [], y :: s => by rw [List.map_nil, List.map_cons, PyData.eqvAll]; simp
  | x :: r, [] => by rw [List.map_nil, List.map_cons, PyData.eqvAll]; simp
  | x :: r, y :: s => by
    rw [List.map_cons, List.map_cons, eqvAll_cons, c.eq, Cod.eqAll c r s]
    simp only [List.cons.injEq, Bool.decide_and]
theorem Cod.layAll (c : Cod R f d) : ∀ l : List α, PyData.canLayAll0 (l.map f) = true
  | [] => rfl
  | x :: r => by rw [List.map_cons, PyData.canLayAll0, c.lay, Cod.layAll c r]; rfl
theorem Cod.depAll (c : Cod R f d) : ∀ l : List α, PyData.depthAll (l.map f) ≤ d
  | [] => by rw [List.map_nil, PyData.depthAll]; exact Nat.zero_le _
  | x :: r => by rw [List.map_cons, PyData.depthAll]; exact Nat.max_le.mpr ⟨c.dep x, Cod.depAll c r⟩
theorem cod_lst (c : Cod R f d) : Cod (LstV R) (fun l => .list (l.map f)) (d + 1) :=
  ⟨fun K H v l ⟨a, vs, e, ha, hv⟩ => by rw [e]; exact .lst (.inl (.inl ha)) (c.all hv), fun l m => by rw [PyData.eqv, c.eqAll], fun l => by rw [PyData.canLay0, c.layAll], fun l => by rw [PyData.depth]; exact Nat.succ_le_succ (c.depAll l)⟩
theorem cod_tup (c : Cod R f d) : Cod (TupV R) (fun l => .tuple (l.map f)) (d + 1) :=
  ⟨fun K H v l ⟨a, vs, e, ha, hv⟩ => by rw [e]; exact .tup (.inl (.inl ha)) (c.all hv), fun l m => by rw [PyData.eqv, c.eqAll], fun l => by rw [PyData.canLay0, c.layAll], fun l => by rw [PyData.depth]; exact Nat.succ_le_succ (c.depAll l)⟩
theorem cod_p2 (c : Cod R f d) (b : Cod S g e) : Cod (Pr2V R S) (fun p => .tuple [f p.1, g p.2]) (max d e + 1) :=
  ⟨fun K H v l ⟨a, x, y, e, ha, hx, hy⟩ => by rw [e]; exact .tup (.inl (.inl ha)) (.cons (c.dp _ _ _ _ hx) (.cons (b.dp _ _ _ _ hy) .nil)),
   fun l m => by
    rw [PyData.eqv, eqvAll_cons, eqvAll_cons, eqvAll_nil, c.eq, b.eq, Bool.and_true, ← Bool.decide_and]
    exact decide_eq_decide.mpr ⟨fun z => Prod.ext z.1 z.2, fun z => by rw [z]; exact ⟨rfl, rfl⟩⟩,
   fun l => by rw [PyData.canLay0, PyData.canLayAll0, PyData.canLayAll0, PyData.canLayAll0, c.lay, b.lay]; rfl,
   fun l => by
    rw [PyData.depth, PyData.depthAll, PyData.depthAll, PyData.depthAll]
    have h1 := c.dep l.1
    have h2 := b.dep l.2
    omega⟩
theorem cod_p3 (c : Cod R f d) (b : Cod S g e) (t : Cod T h k) : Cod (Pr3V R S T) (fun p => .tuple [f p.1, g p.2.1, h p.2.2]) (max d (max e k) + 1) :=
  ⟨fun K H v l ⟨a, x, y, z, e, ha, hx, hy, hz⟩ => by rw [e]; exact .tup (.inl (.inl ha)) (.cons (c.dp _ _ _ _ hx) (.cons (b.dp _ _ _ _ hy) (.cons (t.dp _ _ _ _ hz) .nil))),
   fun l m => by
    rw [PyData.eqv, eqvAll_cons, eqvAll_cons, eqvAll_cons, eqvAll_nil, c.eq, b.eq, t.eq, Bool.and_true, ← Bool.decide_and, ← Bool.decide_and]
    exact decide_eq_decide.mpr ⟨fun z => Prod.ext z.1 (Prod.ext z.2.1 z.2.2), fun z => by rw [z]; exact ⟨rfl, rfl, rfl⟩⟩,
   fun l => by rw [PyData.canLay0, PyData.canLayAll0, PyData.canLayAll0, PyData.canLayAll0, PyData.canLayAll0, c.lay, b.lay, t.lay]; rfl,
   fun l => by
    rw [PyData.depth, PyData.depthAll, PyData.depthAll, PyData.depthAll, PyData.depthAll]
    have h1 := c.dep l.1
    have h2 := b.dep l.2.1
    have h3 := t.dep l.2.2
    omega⟩
end
section
variable {X : Cx} {α : Type} [DecidableEq α] {R : Hp → V → α → Prop} {f : α → PyData} {d : Nat}
def rEqC (R : Hp → V → α → Prop) : R2 := fun x y H Q => ∃ a b, R H x a ∧ R H y b ∧ Q (.bl (decide (a = b))) H
def rNeC (R : Hp → V → α → Prop) : R2 := fun x y H Q => ∃ a b, R H x a ∧ R H y b ∧ Q (.bl (!decide (a = b))) H
theorem Cod.shaped (c : Cod R f d) (hd : d ≤ 64) (a : α) : SeqAt.shaped (f a) = true := by
  unfold SeqAt.shaped
  rw [c.lay, decide_eq_true (Nat.le_trans (c.dep a) hd)]
  rfl
theorem op_eqC (hu : X.A.units + 64 < cLine) (c : Cod R f d) (hd : d ≤ 64) : OpR X (compareOp .Eq) (rEqC R) := OpR.of (op_eqD hu) fun x y H Q ⟨a, b, ha, hb, q⟩ => ⟨f a, f b, c.dp _ _ _ _ ha, c.dp _ _ _ _ hb, c.shaped hd a, c.shaped hd b, by rw [c.eq]; exact q⟩
theorem op_neC (hu : X.A.units + 64 < cLine) (c : Cod R f d) (hd : d ≤ 64) : OpR X (compareOp .NotEq) (rNeC R) := OpR.of (op_neD hu) fun x y H Q ⟨a, b, ha, hb, q⟩ => ⟨f a, f b, c.dp _ _ _ _ ha, c.dp _ _ _ _ hb, c.shaped hd a, c.shaped hd b, by rw [c.eq]; exact q⟩
end
theorem ints_all {H : Hp} (ns : List Int) : All2 (IntV H) (List.map V.int ns) ns := by
  induction ns with
  | nil => exact .nil
  | cons n r ih => exact .cons rfl ih
theorem ints_of {H : Hp} {vs : List V} {ns : List Int} (h : All2 (IntV H) vs ns) : vs = List.map V.int ns := by
  induction h with
  | nil => rfl
  | cons r _ ih => rw [List.map_cons, ih, show _ = V.int _ from r]
theorem intL {H : Hp} {a : Addr} {ns : List Int} (g : H a = some (.lst (List.map V.int ns))) : LstV IntV H (.ref a) ns := ⟨a, _, rfl, g, ints_all ns⟩
theorem lsv_mono {H H' : Hp} (s : Same H H') (v : V) (n : List Int) (h : LstV IntV H v n) : LstV IntV H' v n := by
  obtain ⟨a, vs, e, g, k⟩ := h
  exact ⟨a, vs, e, s _ _ g, k.mono fun _ _ z => z⟩
/-- what stands however the heap goes on, but for one list that changes -/
structure Stab {α : Type} (R : Hp → V → α → Prop) : Prop where
  mono : ∀ {H H' : Hp}, Same H H' → ∀ v a, R H v a → R H' v a
  but : ∀ {H H' : Hp} {l : Addr} {ys : List V}, But l H H' → H l = some (.lst ys) → ∀ v a, R H v a → R H' v a
theorem stab_int : Stab IntV := ⟨fun _ _ _ h => h, fun _ _ _ _ h => h⟩
section
variable {α β γ : Type} {R : Hp → V → α → Prop} {S : Hp → V → β → Prop} {T : Hp → V → γ → Prop}
theorem stab_tup (c : Stab R) : Stab (TupV R) :=
  ⟨fun s v l ⟨a, vs, e, g, k⟩ => ⟨a, vs, e, s _ _ g, k.mono (c.mono s)⟩, fun bt gl v l ⟨a, vs, e, g, k⟩ => ⟨a, vs, e, tup_but bt g gl, k.mono (c.but bt gl)⟩⟩
theorem stab_p2 (c : Stab R) (b : Stab S) : Stab (Pr2V R S) :=
  ⟨fun s v l ⟨a, x, y, e, g, h1, h2⟩ => ⟨a, x, y, e, s _ _ g, c.mono s _ _ h1, b.mono s _ _ h2⟩, fun bt gl v l ⟨a, x, y, e, g, h1, h2⟩ => ⟨a, x, y, e, tup_but bt g gl, c.but bt gl _ _ h1, b.but bt gl _ _ h2⟩⟩
theorem stab_p3 (c : Stab R) (b : Stab S) (t : Stab T) : Stab (Pr3V R S T) :=
  ⟨fun s v l ⟨a, x, y, z, e, g, h1, h2, h3⟩ => ⟨a, x, y, z, e, s _ _ g, c.mono s _ _ h1, b.mono s _ _ h2, t.mono s _ _ h3⟩, fun bt gl v l ⟨a, x, y, z, e, g, h1, h2, h3⟩ => ⟨a, x, y, z, e, tup_but bt g gl, c.but bt gl _ _ h1, b.but bt gl _ _ h2, t.but bt gl _ _ h3⟩⟩
theorem lstV_mono (c : Stab R) {H H' : Hp} (s : Same H H') (v : V) (l : List α) (h : LstV R H v l) : LstV R H' v l := by
  obtain ⟨a, vs, e, g, k⟩ := h
  exact ⟨a, vs, e, s _ _ g, k.mono (c.mono s)⟩
theorem Stab.upd (c : Stab R) {H : Hp} {l : Addr} {ys : List V} {o : HO} (g : H l = some (.lst ys)) (v : V) (a : α) (h : R H v a) : R (upd H l o) v a := c.but ((But.refl l H).put) g v a h
end

/-! ### constants of the top, texts in lists, reversed lists, zip of tuples -/
theorem SqT.of {K : PySem.W.Frag} {H : Hp} {a : Addr} {xs : List V} (h : H a = some (.tup xs)) : SqT K H a xs := .inl (.inl h)
theorem SqL.of {K : PySem.W.Frag} {H : Hp} {a : Addr} {xs : List V} (h : H a = some (.lst xs)) : SqL K H a xs := .inl (.inl h)
section
variable {X : Cx}
theorem ints_tshaped (ns : List Int) : SeqAt.shaped (.tuple (ns.map PyData.int)) = true := (cod_tup cod_int).shaped (by decide) ns
/-- == of a tracked tuple of ints and any tuple of ints -/
def rEqTK (K : PySem.W.Frag) : R2 := fun x y H Q => ∃ a b ns ms, x = .ref a ∧ y = .ref b ∧ H a = some (.tup (List.map V.int ns)) ∧ SqT K H b (List.map V.int ms) ∧ Q (.bl (decide (ns = ms))) H
theorem op_eqTK (hu : X.A.units + 64 < cLine) : OpR X (compareOp .Eq) (rEqTK X.K) := OpR.of (op_eqD hu) (by
  rintro x y H Q ⟨a, b, ns, ms, rfl, rfl, ha, hb, q⟩
  refine ⟨_, _, .tup (.inl (.inl ha)) (ints_dp ns), .tup hb (ints_dp ms), ints_tshaped ns, ints_tshaped ms, ?_⟩
  rw [(cod_tup cod_int).eq ns ms]
  exact q)
abbrev OkS := {s : Str // PyData.strOk s = true}
def StrV (_ : Hp) (v : V) (s : OkS) : Prop := v = .str s.val
theorem eqv_ss (a b : Str) : PyData.eqv (.str a) (.str b) = decide (a = b) := by
  rw [PyData.eqv]
  by_cases h : a = b
  · rw [decide_eq_true h]; exact beq_iff_eq.mpr h
  · rw [decide_eq_false h]; exact beq_eq_false_iff_ne.mpr h
def vS (s : OkS) : V := .str s.val
def dStr (s : OkS) : PyData := .str s.val
theorem cod_str : Cod StrV dStr 0 := ⟨fun K H v a h => by rw [show v = .str a.val from h]; exact .str a.val, fun a b => by
  show PyData.eqv (.str a.val) (.str b.val) = _
  rw [eqv_ss]; exact decide_eq_decide.mpr Subtype.ext_iff.symm, fun a => by show PyData.canLay0 (.str a.val) = true; rw [PyData.canLay0]; exact a.property, fun a => by show PyData.depth (.str a.val) ≤ 0; rw [PyData.depth]; exact Nat.le_refl _⟩
theorem strs_all {H : Hp} : ∀ ns : List OkS, All2 (StrV H) (List.map vS ns) ns
  | [] => .nil
  | _ :: r => .cons rfl (strs_all r)
theorem strs_of {H : Hp} {vs : List V} {ns : List OkS} (h : All2 (StrV H) vs ns) : vs = List.map vS ns := by
  induction h with
  | nil => rfl
  | cons r _ ih => rw [List.map_cons, ih, show _ = _ from r]; rfl
theorem strL {H : Hp} {a : Addr} {ns : List OkS} (g : H a = some (.lst (List.map vS ns))) : LstV StrV H (.ref a) ns := ⟨a, _, rfl, g, strs_all ns⟩
theorem stab_str : Stab StrV := ⟨fun _ _ _ h => h, fun _ _ _ _ h => h⟩
theorem strs_dp {K : PySem.W.Frag} {H : Hp} (ss : List OkS) : DpAll K H (ss.map vS) (ss.map dStr) := cod_str.all (strs_all ss)
/-- != and == of a tuple of texts of the top and a new one -/
def rNeSK (K : PySem.W.Frag) : R2 := fun x y H Q => ∃ a b ss ts, x = .ref a ∧ y = .ref b ∧ SqT K H a (List.map vS ss) ∧ H b = some (.tup (List.map vS ts)) ∧ Q (.bl (!decide (ss = ts))) H
theorem op_neSK (hu : X.A.units + 64 < cLine) : OpR X (compareOp .NotEq) (rNeSK X.K) := OpR.of (op_neD hu) (by
  rintro x y H Q ⟨a, b, ss, ts, rfl, rfl, ha, hb, q⟩
  refine ⟨_, _, .tup ha (strs_dp ss), .tup (.inl (.inl hb)) (strs_dp ts), (cod_tup cod_str).shaped (by decide) ss, (cod_tup cod_str).shaped (by decide) ts, ?_⟩
  rw [(cod_tup cod_str).eq ss ts]
  exact q)
/-- isinstance of a tuple of the top -/
def rIsiTK (K : PySem.W.Frag) : List V → Hp → VK → Prop := fun vs H Q => ∃ p n xs b, vs = [.ref p, .ty n] ∧ SqT K H p xs ∧ kitB "tuple" n = some b ∧ Q (.bl b) H
theorem call_isiTK : CallR X (.builtin "isinstance") (rIsiTK X.K) := CallR.of call_isi (by
  rintro vs H Q ⟨p, n, xs, b, rfl, hp, hb, q⟩
  refine ⟨.ref p, .ty n, .type "tuple", .type n, b, rfl, .ty n, ?_, kit_ty hb, q⟩
  rcases hp with (h | ⟨o, h⟩) | ⟨o, its, k, h1, h2, _⟩
  · exact .base (.tup h)
  · exact .fTuple h
  · exact .kTuple h1 h2)
/-- reversed(list) -/
def iRevS (K : PySem.W.Frag) (ta : TA) : TI := fun σ H R => ta σ H fun vs H1 => ∃ a xs, vs = [.ref a] ∧ H1 a = some (.lst xs) ∧ R (Itv K a xs.length) H1
theorem pi_revS {tg e : Expr} {ta : TA} {p pos : Pos} (hg : Gl X "reversed") (hm : X.mg "reversed" = none) (ha : PA X [e] ta) (hs : starEach [e] X.env = [(false, eval e X.env)] := by rfl) :
    PI X tg (.Call (.Name "reversed" p) [e] [] pos) (iRevS X.K ta) := PI.of (pi_reversed hg hm (pa_mono ha) hs) fun σ H R q => ⟨_, q, fun vs H1 ⟨a, xs, e, g, r⟩ => ⟨a, xs, e, .inl (.inl g), r⟩⟩
/-- zip of two tuples -/
def iZipTS (K : PySem.W.Frag) (ta : TA) : TI := fun σ H R => ta σ H fun vs H1 => ∃ a b xs ys, vs = [.ref a, .ref b] ∧ SqT K H1 a xs ∧ SqT K H1 b ys ∧ R (RZ.ItzT K a b) H1
theorem pi_zipTS {e e2 : Expr} {ta : TA} {p pos tpos : Pos} {elts : List Expr} {kk : Nat} (hg : Gl X "zip") (hm : X.mg "zip" = none) (ha : PA X [e, e2] ta) (hs : starEach [e, e2] X.env = (false, eval e X.env) :: starEach [e2] X.env := by rfl) (hpl : (backTo pos (starEach [e2] X.env)).any (·.1) = false := by rfl) :
    PI X (.Tuple elts kk tpos) (.Call (.Name "zip" p) [e, e2] [] pos) (iZipTS X.K ta) := PI.of (RZ.pi_zipA hg hm (pa_mono ha) hs hpl) fun σ H R q => ⟨_, q, fun vs H1 ⟨a, b, xs, ys, e, g1, g2, r⟩ => ⟨a, b, xs, ys, e, .inr ⟨g1, g2, r⟩⟩⟩
end
theorem walkV {K : PySem.W.Frag} {a : Addr} {xs : List V} : Walk (Itv K a xs.length) xs.length (fun H => H a = some (.lst xs)) (fun i H x H' => H' = H ∧ xs[xs.length - 1 - i]? = some x) := (walk_rev (K := K) (a := a) (xs := xs)).mono (fun _ h => .inl (.inl h)) fun _ _ _ _ _ _ y => y
theorem walkVI {K : PySem.W.Frag} {a : Addr} {ns : List Int} : Walk (Itv K a ns.length) ns.length (fun H => H a = some (.lst (List.map V.int ns))) (YInt ns.reverse) := by
  have w := walkV (K := K) (a := a) (xs := List.map V.int ns)
  rw [List.length_map] at w
  refine w.mono (fun _ h => h) fun i H x H' hi _ y => ⟨y.1, ?_⟩
  have h := y.2
  rw [List.getElem?_map] at h
  obtain ⟨b, h1, rfl⟩ := Option.map_eq_some_iff.mp h
  exact ⟨b, by rw [List.getElem?_reverse hi]; exact h1, rfl⟩
theorem walkZT {K : PySem.W.Frag} {a b : Addr} {xs ys : List V} {n : Nat} (hn : n = min xs.length ys.length) : Walk (RZ.ItzT K a b) n (fun H => SqT K H a xs ∧ SqT K H b ys) (YPair (fun i => xs[i]?) (fun i => ys[i]?)) := by
  subst hn
  refine ⟨fun i _ hi q => ?_, fun _ q => ⟨xs, ys, q.1, q.2, by omega⟩, fun i H v H' _ q y => ?_⟩
  · have h1 : i < xs.length := by omega
    have h2 : i < ys.length := by omega
    exact ⟨xs, ys, xs[i], ys[i], q.1, q.2, by simp [h1], by simp [h2]⟩
  · obtain ⟨T, x, z, h1, h2, h3, h4, h5⟩ := y
    exact ⟨T, x, z, h1, h2, h3, h4 xs q.1, h5 ys q.2⟩
theorem _root_.L2.Same.seqT {K : PySem.W.Frag} {H H' : Hp} (s : Same H H') {a : Addr} {xs : List V} (h : SqT K H a xs) : SqT K H' a xs := by
  rcases h with (h | ⟨o, h⟩) | h
  · exact .inl (.inl (s _ _ h))
  · exact .inl (.inr ⟨o, s _ _ h⟩)
  · exact .inr h
/-- the codes of a text -/
def cds (z : Str) : List Int := z.cps.toList.map fun (c : Nat) => (c : Int)
theorem cds_at {z : Str} {i c : Nat} (h : z.cps[i]? = some c) : (cds z)[i]? = some (c : Int) := by
  unfold cds
  rw [List.getElem?_map, Array.getElem?_toList, h]
  rfl
theorem cds_len (z : Str) : (cds z).length = z.cps.size := by unfold cds; rw [List.length_map, Array.length_toList]
section
variable {X : Cx} {α : Type} [DecidableEq α] {R : Hp → V → α → Prop} {f : α → PyData} {d : Nat}
theorem Cod.anyEq (c : Cod R f d) (a : α) : ∀ l : List α, ((l.map f).any fun z => PyData.eqv z (f a)) = decide (a ∈ l)
  | [] => by simp
  | x :: r => by
    rw [List.map_cons, List.any_cons, c.eq, Cod.anyEq c a r]
    by_cases h : x = a
    · subst h; simp
    · rw [decide_eq_false h, Bool.false_or]
      exact decide_eq_decide.mpr ⟨fun z => List.mem_cons_of_mem _ z, fun z => (List.mem_cons.mp z).resolve_left fun e => h e.symm⟩
/-- x in a list, x not in a list or a tuple, at any depth -/
def rInLC (R : Hp → V → α → Prop) : R2 := fun x y H Q => ∃ a l, R H x a ∧ LstV R H y l ∧ Q (.bl (decide (a ∈ l))) H
def rNotInLC (R : Hp → V → α → Prop) : R2 := fun x y H Q => ∃ a l, R H x a ∧ LstV R H y l ∧ Q (.bl (!decide (a ∈ l))) H
def rNotInTC (R : Hp → V → α → Prop) : R2 := fun x y H Q => ∃ a l, R H x a ∧ TupV R H y l ∧ Q (.bl (!decide (a ∈ l))) H
theorem op_inLC (hu : X.A.units + 65 < cLine) (c : Cod R f d) (hd : d < 64) : OpR X (compareOp .In) (rInLC R) := OpR.of (op_inD hu) fun x y H Q ⟨a, l, ha, hl, q⟩ => ⟨f a, l.map f, c.dp _ _ _ _ ha, (cod_lst c).dp _ _ _ _ hl, c.shaped (Nat.le_of_lt hd) a, (cod_lst c).shaped hd l, by rw [c.anyEq]; exact q⟩
theorem op_notInLC (hu : X.A.units + 65 < cLine) (c : Cod R f d) (hd : d < 64) : OpR X (compareOp .NotIn) (rNotInLC R) := OpR.of (op_notInD hu) fun x y H Q ⟨a, l, ha, hl, q⟩ => ⟨f a, l.map f, c.dp _ _ _ _ ha, (cod_lst c).dp _ _ _ _ hl, c.shaped (Nat.le_of_lt hd) a, (cod_lst c).shaped hd l, by rw [c.anyEq]; exact q⟩
theorem op_notInTC (hu : X.A.units + 65 < cLine) (c : Cod R f d) (hd : d < 64) : OpR X (compareOp .NotIn) (rNotInTC R) := by
  intro pins s σ H x y v u Q I rx ry h
  obtain ⟨a, l, ha, hl, q⟩ := h
  have sd := c.shaped (Nat.le_of_lt hd) a
  have se := (cod_tup c).shaped hd l
  obtain ⟨as, r1⟩ := Dp.reads I (f a) x v (c.dp _ _ _ _ ha) rx
  obtain ⟨bs, r2⟩ := Dp.reads I (.tuple (l.map f)) y u ((cod_tup c).dp _ _ _ _ hl) ry
  exact SeqAt.notIn_tuple_reads r2 r1 (SeqAt.canLay_of_shaped se) (SeqAt.canLay_of_shaped sd) (room_in_shaped sd hu) ⟨.bl _, H, I, rfl, by rw [c.anyEq]; exact q⟩
theorem hu5 {A : Around} {k : Nat} (hr : Room k A) : A.units + 65 < cLine := by have := hr.un; omega
/-- ''.join of a list of single signs -/
def oneS (c : Nat) : Str := ⟨#[c]⟩
theorem joinL_one : ∀ cs : List Nat, TL.joinL [] (cs.map fun c => [c]) = cs
  | [] => rfl
  | [_] => rfl
  | x :: y :: r => by
    show [x] ++ ([] ++ TL.joinL [] ((y :: r).map fun c => [c])) = _
    rw [joinL_one (y :: r)]
    rfl
theorem join_one (cs : List Nat) : Txt.join (Str.ofString "") (cs.map oneS) = ⟨cs.toArray⟩ := by
  have h := SX.join_S [] (cs.map fun c => [c])
  rw [joinL_one, List.map_map] at h
  exact h
def tJoinC (to te : TE) : TE := fun σ H Q => to σ H fun x H1 => x = .str (Str.ofString "") ∧ te σ H1 fun y H2 => ∃ (p : Addr) (cs : List Nat), y = .ref p ∧ H2 p = some (.lst (cs.map fun c => V.str (oneS c))) ∧ cs.length ≤ 1000000 ∧ Q (.str ⟨cs.toArray⟩) H2
theorem one_sum : ∀ cs : List Nat, ((cs.map oneS).map (·.length)).sum = cs.length
  | [] => rfl
  | c :: r => by
    rw [List.map_cons, List.map_cons, List.sum_cons, one_sum r, List.length_cons, Nat.add_comm]
    rfl
theorem pe_joinC {o e : Expr} {to te : TE} {apos pos : Pos} (ho : PE X o to) (he : PE X e te) (hs : starEach [e] X.env = [(false, eval e X.env)] := by rfl) (hbase : attributeBase o "join" X.env (eval o X.env) = eval o X.env := by rfl) (hline : (apos.endLine == pos.line) = true := by rfl) :
    PE X (.Call (.Attribute o "join" apos) [e] [] pos) (tJoinC to te) := PE.of (pe_join (pe_mono ho) (pe_mono he) hs hbase hline) fun σ H Q q => ⟨_, q, fun x H1 z => ⟨⟨_, z.1⟩, _, z.2, fun y H2 ⟨p, cs, e, g, hl, w⟩ => ⟨Str.ofString "", p, cs.map oneS, z.1, by rw [e], .inl (.inl (.inl (by rw [List.map_map]; exact g))), by
    rw [one_sum, List.length_map, show (Str.ofString "").length = 0 from rfl]; omega, by rw [join_one]; exact w⟩⟩⟩
end
section
variable {X : Cx}
/-- xs * n -/
def rRepL : R2 := fun x y H Q => ∃ l k xs, x = .ref l ∧ y = .int k ∧ H l = some (.lst xs) ∧ k ≤ 2 ^ 62 - 1 ∧ -(2 ^ 62) ≤ k ∧ xs.length * k.toNat ≤ sizeLine ∧ NewH H (.lst (List.replicate k.toNat xs).flatten) fun p H' => Q (.ref p) H'
theorem op_repL : OpR X (binaryOp .Mult) rRepL := OpR.of op_rep fun x y H Q ⟨l, k, xs, e1, e2, h1, z1, z2, z3, q⟩ => ⟨l, k, xs, e1, e2, h1, by omega, by omega, z3, q.go⟩
end

theorem iteP {p : Prop} {i : Decidable p} {a b : Prop} (x : p → a) (y : ¬ p → b) : @ite _ p i a b := by
  by_cases h : p
  · rw [if_pos h]; exact x h
  · rw [if_neg h]; exact y h
section
variable {X : Cx}
/-- name = {k: v for ..} on one line, the name a local -/
theorem ps_setDc {i : Nat} {y : Str} {py : Pos} {kx vx tg iter : Expr} {ifs : List Expr} {scope : Scope} {own : List (Str × Nat)} {pos spos : Pos} {wi : TI} {g : TG} {tt : TT} {tk tv : TE} (hc : X.calm = true) (hN : X.N.Nodup) (hy : X.N[i]? = some y) (hyl : X.env.scope.names.lookup y = some .local)
    (hsw : swapsWith (.DictComp kx vx [⟨tg, iter, ifs, 0⟩] scope pos) (some (.Name y py)) spos.line X.env = pure true) (hi : PI X tg iter wi) (ok : BlkOk X.N X.env.scope scope own)
    (hg : ∀ (s : Shared) (H : Hp) (C : Addr) (cl : List (Str × Addr)) (fp : List Addr), PG (X.blk s H scope (compEnvC scope cl C X.env) fp) tg g) (ht : ∀ (s : Shared) (H : Hp) (C : Addr) (cl : List (Str × Addr)) (fp : List Addr), PTs (X.blk s H scope (compEnvC scope cl C X.env) fp) ifs tt)
    (hk : ∀ (s : Shared) (H : Hp) (C : Addr) (cl : List (Str × Addr)) (fp : List Addr), PE (X.blk s H scope (compEnvC scope cl C X.env) fp) kx tk)
    (he : ∀ (s : Shared) (H : Hp) (C : Addr) (cl : List (Str × Addr)) (fp : List Addr), PE (X.blk s H scope (compEnvC scope cl C X.env) fp) vx tv) (hs : ∀ x, foldedSetIterable iter X.env x = pure x := by intro _; rfl) :
    PS X (.Assign [.Name y py] (.DictComp kx vx [⟨tg, iter, ifs, 0⟩] scope pos) spos) (tAsg (tDc wi g tt tk tv (own.map (·.2))) (gName i)) := by
  refine ⟨fun pins s σ H D I h => ?_⟩
  rw [exec_Assign_Name_used _ _ _ _ hsw]
  refine wpAny_bind (wpAny_standAt (wpAny_bind ?_))
  show wpAny _ X.A (do let _ ← comprehension (.DictComp kx vx [⟨tg, iter, ifs, 0⟩] scope pos) scope X.env (firstIterPos [⟨tg, iter, ifs, 0⟩] pos) newDict false (eval iter X.env) (some (assign (.Name y py) X.env))) _ _ s
  have h : tDc wi g tt tk tv (own.map (·.2)) σ H (fun x H1 => gName i x σ H1 D.nx) := h
  refine wpAny_bind (thn (dc_core (Qf := fun _ s' => SP X pins D .next s') hc hN I hi ok hg ht hk he hs h fun L C s' m H' I' q hn f => ?_) fun _ s' hq => wpAny_pure (wpAny_pure hq))
  show wpAny _ _ (assign (.Name y py) X.env (.ref L)) _ _ _
  refine wpAny_assign_Name (store_ok2 (v := V.ref L) I' hN hy (.inl hyl) rfl (fun s2 I2 ⟨a, sb, ha⟩ => ?_) (.inr hyl))
  obtain ⟨f0, f1, f2, f3, f4, f5⟩ := f
  have haC : C ≠ a := by
    rcases ha with z | z
    · rw [z]; exact f1
    · exact fun e => f4 y a z e.symm
  refine ⟨m, hn.sameBut sb haC, fun h3 sb3 => ?_⟩
  exact ⟨_, H', I2.turned (t' := s2.toks) (fun b o hb e => (sb3.2 b hb).trans e) f0 f1 f3 f4 f5, q⟩
theorem sw_trueD {kx vx : Expr} {gs : List Comprehension} {scope : Scope} {pos py : Pos} {y : Str} {l : Nat} {env : Env} (hk : env.scope.kind = .function) (hy : env.scope.names.lookup y = some .local) (hl : (py.line == pos.line) = true)
    (ha : (scope.names.any fun (n, k) => n == y && (k == .local || k == .cell)) = false) : swapsWith (.DictComp kx vx gs scope pos) (some (.Name y py)) l env = pure true := by
  have ky : env.kindOf y = some .local := hy
  have hb : env.blockKind = .function := by unfold Env.blockKind; rw [hk]; rfl
  unfold swapsWith
  simp only [hb, ky, ha, Expr.pos, hl]
  rfl
end

/-- enumerate(text): each character in a new pair -/
def Ites (x : Str) : It :=
  ⟨fun i _ => i < x.cps.size, fun i H v H' => ∃ T c, v = .ref T ∧ H T = none ∧ H' = upd H T (.tup [.int (i : Nat), .str ⟨#[c]⟩]) ∧ x.cps[i]? = some c, fun i _ => x.cps.size ≤ i⟩
theorem turn_enumS {P : Program} {w : World} {K : PySem.W.Frag} {elts : List Expr} {kk : Nat} {tpos : Pos} (x : Str) (t : Tok) (e it : Addr) (ty : String) (hty : ty = "str_ascii_iterator" ∨ ty = "str_iterator") :
    Turn P w K (.Tuple elts kk tpos) (Ites x) [e, it] e (fun i h => (∃ old, IsEnum h e it ((i : Nat) : Int) old) ∧ h.IsStrIter it ty x t i ∧ e ≠ it ∧ i ≤ x.cps.size) where
  mem := by simp
  obj := fun i h st b hb => by
    obtain ⟨⟨old, he⟩, ⟨o, ho, hc, hd⟩, _⟩ := st
    have e' : b = e ∨ b = it := by simpa using hb
    rcases e' with z | z
    · rw [z]; exact ⟨_, he, fun v q => nomatch q⟩
    · rw [z]; exact ⟨o, ho, fun v q => by rw [hd] at q; cases q⟩
  keep := fun i h h' st k => by
    obtain ⟨⟨old, he⟩, ⟨o, ho, r⟩, hne⟩ := st
    exact ⟨⟨old, k e (by simp) _ he⟩, ⟨o, k it (by simp) o ho, r⟩, hne⟩
  item := by
    intro X hP hw hK hc i pins s σ H E I hf st hg
    subst hP hw hK
    obtain ⟨⟨old, he⟩, hit, hne, hle⟩ := st
    have hel : e < s.heap.objs.size := Heap.lt_size he
    have hil : it < s.heap.objs.size := by obtain ⟨_, q, _⟩ := hit; exact Heap.lt_size q
    have Dr : Draws X.prog X.w X.A.in1 it [it] x.cps.size (fun i v => ∃ c u, x.cps[i]? = some c ∧ v = .str ⟨#[c]⟩ u) (fun i h => h.IsStrIter it ty x t i) := by
      rcases hty with z | z
      · rw [z]; exact Draws.strAscii (A := X.A.in1) (I.ok.hd hc) it x t
      · rw [z]; exact Draws.strWide (A := X.A.in1) (I.ok.hd hc) it x t
    refine wpAny_pyNext_enum_itemD Dr he hit hg hne (by simpa using hne) fun v h' tk hv ho hit' hT hsz hk => ?_
    obtain ⟨c, u, hcx, rfl⟩ := hv
    refine ⟨_, rfl, wpAny_letOwnedTupleGo_enum (s := { s with heap := h', toks := tk + 1 }) ho fun h'' he' sb => ?_⟩
    have hT2 : h''.get? s.heap.objs.size = some { cls := .type "tuple", data := .seq #[.int i tk, .str ⟨#[c]⟩ u] } := (sb.2 _ (Nat.ne_of_gt hel)).trans hT
    have new : ObjOk X.prog X.w (upd H s.heap.objs.size (.tup [.int (i : Nat), .str ⟨#[c]⟩])) h'' s.heap.objs.size (.tup [.int (i : Nat), .str ⟨#[c]⟩]) :=
      ⟨by show 2 ≤ sizeLine; decide, [.int i tk, .str ⟨#[c]⟩ u], .cons ⟨_, rfl⟩ (.cons ⟨_, rfl⟩ .nil), ⟨_, hT2, rfl, _, rfl⟩⟩
    have I1 : Inv X pins σ (upd H s.heap.objs.size (.tup [.int (i : Nat), .str ⟨#[c]⟩])) { s with heap := h'', toks := tk + 1 } :=
      I.turnedNew (ch := [e, it]) (fun b ob hb q => (sb.2 b (fun z => hb (by simp [z]))).trans (hk b ob (fun z => hb (by simp [z])) (fun z => hb (by simp [z])) q)) hf (Nat.le_refl _) new
    refine ⟨.ref s.heap.objs.size, _, I1, rfl, ⟨_, c, rfl, I.hok.fresh (Nat.le_refl _), rfl, hcx⟩, ⟨⟨.str ⟨#[c]⟩ u, ?_⟩, ?_, hne, Nat.succ_le_of_lt hg⟩, fun b hb => ?_⟩
    · have e1 : ((i + 1 : Nat) : Int) = (i : Int) + 1 := by omega
      rw [e1]; exact he'
    · obtain ⟨o, q, r⟩ := hit'
      exact ⟨o, (sb.2 it (Ne.symm hne)).trans q, r⟩
    · have hb' : b < s.heap.objs.size := by
        have e' : b = e ∨ b = it := by simpa using hb
        rcases e' with z | z
        · rw [z]; exact hel
        · rw [z]; exact hil
      rw [upd_ne (Nat.ne_of_lt hb')]
      exact (hf b hb).1
  done := by
    intro X hP hw hK hc i pins s σ H E I hf st hg
    subst hP hw hK
    obtain ⟨⟨old, he⟩, hit, hne, hle⟩ := st
    obtain ⟨f0, f1, f2, f3, f4, f5⟩ := hf it (by simp)
    have Dr : Draws X.prog X.w X.A.in1 it [it] x.cps.size (fun i v => ∃ c u, x.cps[i]? = some c ∧ v = .str ⟨#[c]⟩ u) (fun i h => h.IsStrIter it ty x t i) := by
      rcases hty with z | z
      · rw [z]; exact Draws.strAscii (A := X.A.in1) (I.ok.hd hc) it x t
      · rw [z]; exact Draws.strWide (A := X.A.in1) (I.ok.hd hc) it x t
    have ei : i = x.cps.size := Nat.le_antisymm hle hg
    subst ei
    exact wpAny_pyNext_enum_endD Dr he hit fun h' eb => ⟨rfl, I.turned (t' := s.toks) (fun b o hb q => eb b o hb q) f0 f1 f3 f4 f5⟩
  self := fun A i s Q E st h => let ⟨⟨_, he⟩, _⟩ := st; wpAny_pyIter_enum he h
def iEnumS (ta : TA) : TI := fun σ H R => ta σ H fun vs H1 => ∃ x, vs = [.str x] ∧ R (Ites x) H1
theorem pi_enumS {X : Cx} {e : Expr} {ta : TA} {p pos tpos : Pos} {elts : List Expr} {kk : Nat} (hg : Gl X "enumerate") (hm : X.mg "enumerate" = none) (ha : PA X [e] ta) (hs : starEach [e] X.env = [(false, eval e X.env)] := by rfl) :
    PI X (.Tuple elts kk tpos) (.Call (.Name "enumerate" p) [e] [] pos) (iEnumS ta) := by
  refine ⟨fun pins s σ H R I h => ?_⟩
  refine Call_ (ld_blt I hg hm boot_enumerate (PyProof.Rows.callWith_type1 (thn (ha.run pos pins s σ H _ I h) fun us s1 ⟨vs, H1, I1, r1, q1⟩ => ?_) hs rfl))
  obtain ⟨x, ex, q⟩ := q1
  subst ex
  cases r1 with
  | cons r rr =>
    cases rr
    obtain ⟨t, rfl⟩ := r
    refine call_enumerate_str fun h' he hit hsz hk => wpAny_pyIter_enum he ?_
    have I2 : Inv X pins σ H1 { s1 with heap := h' } := I1.kept (t' := s1.toks) hk
    refine ⟨s1.heap.objs.size + 1, [s1.heap.objs.size + 1, s1.heap.objs.size], _, _, H1, rfl, I2, turn_enumS x t (s1.heap.objs.size + 1) s1.heap.objs.size (strIterType x) (by unfold strIterType; split <;> simp), ⟨⟨.none, he⟩, hit, Nat.succ_ne_self _, Nat.zero_le _⟩, fun b hb => ?_, q⟩
    have e' : b = s1.heap.objs.size + 1 ∨ b = s1.heap.objs.size := by simpa using hb
    have hle : s1.heap.objs.size ≤ b := by
      rcases e' with z | z
      · rw [z]; exact Nat.le_add_right _ _
      · rw [z]; exact Nat.le_refl _
    exact I1.fpOk hle (I1.hok.fresh hle)
theorem walk_enumS {z : Str} : Walk (Ites z) z.cps.size (fun _ => True) (fun i H v H' => ∃ T c, v = .ref T ∧ H T = none ∧ H' = upd H T (.tup [.int (i : Nat), .str ⟨#[c]⟩]) ∧ z.cps[i]? = some c) :=
  ⟨fun _ _ hi _ => hi, fun _ _ => Nat.le_refl _, fun _ _ _ _ _ _ y => y⟩

/-! ### setdefault of a dict with tuple keys -/
section
variable {X : Cx} {pins : List (Addr × Obj)} {σ : L2.St} {H : Hp} {s : Shared} {a b : Addr} {r : Value} {d : V} {k : List L2.Key} {A : Around} {E : Value → Shared → Prop}
theorem d_setdT {kvs : List (List L2.Key × V)} {Q : Value → Shared → Prop} (hu : A.units + 1 < cLine) (I : Inv X pins σ H s) (e : H a = some (.dT kvs)) (eb : H b = some (.tup (k.map kV))) (rd : RelV d r) (hl : kvs.length < sizeLine)
    (h1 : ∀ v, valV kvs k = some v → ∀ (w' : Value) (s' : Shared), Inv X pins σ H s' → RelV v w' → Q w' s') (h2 : valV kvs k = none → ∀ (w' : Value) (s' : Shared), Inv X pins σ (upd H a (.dT (putK kvs k d))) s' → RelV d w' → Q w' s') :
    wpAny (model X.prog X.w) A (call (.builtin "dict.setdefault") [.ref a, .ref b, r]) Q E s := by
  obtain ⟨z, hd, xs, rel, dd⟩ := dt_of I.hok e
  have hz : xs.length ≤ sizeLine := by rw [← Paired.length rel]; exact z
  have hl2 : (putK kvs k d).length ≤ sizeLine := by have := length_putK kvs k d; omega
  refine call_setdefault_heap (hsz := hz) (tupleKind_room_in1 hu) (key_of I.hok eb) hd dd (fun p hp => ?_) (fun hn h' dd' hs => ?_)
  · have q := rel.val k
    rw [hp] at q
    cases q0 : valV kvs k with
    | none => rw [q0] at q; exact (show False from q).elim
    | some v0 => rw [q0] at q; exact h1 v0 q0 _ _ (I.tok _) q
  · have q := rel.val k
    rw [hn] at q
    cases q0 : valV kvs k with
    | some v0 => rw [q0] at q; exact (show False from q).elim
    | none =>
      obtain ⟨o, es, ep, hq, h3, h4, h5, _, h6⟩ := dd'
      refine h2 q0 _ _ (d_write I (by rw [e]; exact True.intro) hs ⟨o, hq⟩ ⟨hl2, hd, _, (rel.put k eb rd).keeps fun c ys ec => ?_, o, es, ep, hq, h3, h4, h5, h6⟩) rd
      rw [upd_ne (ne_of ec e (fun z => nomatch z))]
      exact ec
end
def tDSetdT (td ty tx : TE) : TE := fun σ H Q => td σ H fun x H1 => ∃ a, x = .ref a ∧ IsD H1 a ∧ ty σ H1 fun y H2 => tx σ H2 fun z H3 => ∃ (kvs : List (List L2.Key × V)) (k : List L2.Key) (b : Addr), H3 a = some (.dT kvs) ∧ y = .ref b ∧ H3 b = some (.tup (k.map kV)) ∧ kvs.length < sizeLine ∧
  (∀ v, valV kvs k = some v → Q v H3) ∧ (valV kvs k = none → Q z (upd H3 a (.dT (putK kvs k z))))
section
variable {X : Cx} {o e f : Expr} {td ty tx : TE} {apos cpos : Pos}
theorem pe_dsetdT (hu : X.A.units + 1 < cLine) (ho : PE X o td) (he : PE X e ty) (hf : PE X f tx) (m : M2 X o "setdefault" apos e f cpos) : PE X (.Call (.Attribute o "setdefault" apos) [e, f] [] cpos) (tDSetdT td ty tx) := by
  refine ⟨fun pins s σ H Q I h => ?_⟩
  refine wpAny_Call_method m.base m.few m.line PySem.F.plainAttrs_dict PySem.F.slot_dict_setdefault PySem.F.type_dict_setdefault (thn (ho.run pins s σ H _ I h) fun u s1 ⟨x, H1, I1, rx, a, ex, d, q1⟩ => ?_)
  subst ex
  obtain rfl : u = Value.ref a := rx
  obtain ⟨t1, t2, _⟩ := isD_at I1 d
  refine ⟨t1, t2, ?_⟩
  rw [m.trees]
  refine Calls.callWith_builtin rfl (Calls.evalArgs_plain (Calls.spliced_cons (thn (he.run pins s1 σ H1 _ I1 q1) fun iv s2 ⟨y, H2, I2, ry, q2⟩ =>
    Calls.spliced_cons (thn (hf.run pins s2 σ H2 _ I2 q2) fun fv s3 ⟨z, H3, I3, rz, kvs, k, b, ea, ey, eb, hl, q3, q4⟩ => Calls.spliced_nil ?_))))
  subst ey
  obtain rfl : iv = Value.ref b := ry
  exact d_setdT hu I3 ea eb rz hl (fun v hv w' s4 I4 rw' => ⟨v, _, I4, rw', q3 v hv⟩) fun hn w' s4 I4 rw' => ⟨z, _, I4, rw', q4 hn⟩
end

def tDNewTS : TE := fun _ H Q => NewH H (.dT []) fun p H' => Q (.ref p) H'
theorem pe_dnewTS {X : Cx} {pos : Pos} : PE X (.Dict [] [] pos) tDNewTS := PE.of pe_dnewT fun σ H Q q => q.go


def topS (i : Nat) : Stmt := PySem.Challenge.pw_stillroom_k08_matches_written.main.body.getD i (.Pass ⟨0, 0, 0, 0⟩)
abbrev s_read_low_first : Stmt := topS 1
abbrev s_write_low_first : Stmt := topS 2
abbrev s_spend : Stmt := topS 4
abbrev s_read_pieces : Stmt := topS 6
abbrev s_plain_piece : Stmt := topS 7
abbrev s_read_plain_piece : Stmt := topS 8
abbrev s_unsqueeze : Stmt := topS 16
abbrev s__match_at : Stmt := topS 17
abbrev s__given_again : Stmt := topS 18
abbrev s_squeeze : Stmt := topS 19
abbrev s__three_bytes : Stmt := topS 20
abbrev s__best_match : Stmt := topS 21
abbrev s__count_equal : Stmt := topS 22
abbrev s__law_cell : Stmt := topS 24
abbrev s__law_is_integer : Stmt := topS 25
abbrev s__law_draw : Stmt := topS 26
abbrev s__law_state : Stmt := topS 27
abbrev s__law_is_bytes : Stmt := topS 28
abbrev s__law_data : Stmt := topS 29
abbrev s__law_equal : Stmt := topS 30
abbrev s__law_best : Stmt := topS 31
abbrev s__law_due : Stmt := topS 32
abbrev s_law : Stmt := topS 33
theorem sc_read_low_first : FnScope ["data", "number", "byte"] ["data"] (defScope s_read_low_first) := ⟨rfl, rfl, rfl, by decide +kernel, rfl, by decide +kernel, by decide +kernel⟩
theorem sc_write_low_first : FnScope ["number", "count", "at"] ["number", "count"] (defScope s_write_low_first) := ⟨rfl, rfl, rfl, by decide +kernel, rfl, by decide +kernel, by decide +kernel⟩
theorem sc_spend : FnScope ["left", "cost"] ["left", "cost"] (defScope s_spend) := ⟨rfl, rfl, rfl, by decide +kernel, rfl, by decide +kernel, by decide +kernel⟩
theorem sc_read_pieces : FnScope ["data", "left", "piece_at", "enough", "found", "at", "piece"] ["data", "left", "piece_at"] (defScope s_read_pieces) := ⟨rfl, rfl, rfl, by decide +kernel, rfl, by decide +kernel, by decide +kernel⟩
theorem sc_plain_piece : FnScope ["data"] ["data"] (defScope s_plain_piece) := ⟨rfl, rfl, rfl, by decide +kernel, rfl, by decide +kernel, by decide +kernel⟩
theorem sc_read_plain_piece : FnScope ["data", "at", "end"] ["data", "at"] (defScope s_read_plain_piece) := ⟨rfl, rfl, rfl, by decide +kernel, rfl, by decide +kernel, by decide +kernel⟩
theorem sc_unsqueeze : FnScope ["data", "left"] ["data", "left"] (defScope s_unsqueeze) := ⟨rfl, rfl, rfl, by decide +kernel, rfl, by decide +kernel, by decide +kernel⟩
theorem sc__match_at : FnScope ["data", "at", "given", "count"] ["data", "at", "given"] (defScope s__match_at) := ⟨rfl, rfl, rfl, by decide +kernel, rfl, by decide +kernel, by decide +kernel⟩
theorem sc__given_again : FnScope ["given", "distance_bytes", "many", "distance", "start", "stretch"] ["given", "distance_bytes", "many"] (defScope s__given_again) := ⟨rfl, rfl, rfl, by decide +kernel, rfl, by decide +kernel, by decide +kernel⟩
theorem sc_squeeze : FnScope ["data", "found", "kept", "places", "at", "distance", "many", "place"] ["data"] (defScope s_squeeze) := ⟨rfl, rfl, rfl, by decide +kernel, rfl, by decide +kernel, by decide +kernel⟩
theorem sc__three_bytes : FnScope ["data", "at"] ["data", "at"] (defScope s__three_bytes) := ⟨rfl, rfl, rfl, by decide +kernel, rfl, by decide +kernel, by decide +kernel⟩
theorem sc__best_match : FnScope ["data", "at", "places", "distance", "many", "nearest", "place", "equal"] ["data", "at", "places"] (defScope s__best_match) := ⟨rfl, rfl, rfl, by decide +kernel, rfl, by decide +kernel, by decide +kernel⟩
theorem sc__count_equal : FnScope ["data", "place", "at", "most", "many"] ["data", "place", "at"] (defScope s__count_equal) := ⟨rfl, rfl, rfl, by decide +kernel, rfl, by decide +kernel, by decide +kernel⟩
theorem sc__law_cell : FnScope ["script", "k"] ["script", "k"] (defScope s__law_cell) := ⟨rfl, rfl, rfl, by decide +kernel, rfl, by decide +kernel, by decide +kernel⟩
theorem sc__law_is_integer : FnScope ["actual"] ["actual"] (defScope s__law_is_integer) := ⟨rfl, rfl, rfl, by decide +kernel, rfl, by decide +kernel, by decide +kernel⟩
theorem sc__law_draw : FnScope ["state", "many", "rest"] ["state", "many"] (defScope s__law_draw) := ⟨rfl, rfl, rfl, by decide +kernel, rfl, by decide +kernel, by decide +kernel⟩
theorem sc__law_state : FnScope ["cell", "salt", "rest"] ["cell", "salt"] (defScope s__law_state) := ⟨rfl, rfl, rfl, by decide +kernel, rfl, by decide +kernel, by decide +kernel⟩
theorem sc__law_is_bytes : FnScope ["actual", "byte"] ["actual"] (defScope s__law_is_bytes) := ⟨rfl, rfl, rfl, by decide +kernel, rfl, by decide +kernel, by decide +kernel⟩
theorem sc__law_data : FnScope ["state", "most", "data", "kind", "turn", "how", "k", "at"] ["state", "most"] (defScope s__law_data) := ⟨rfl, rfl, rfl, by decide +kernel, rfl, by decide +kernel, by decide +kernel⟩
theorem sc__law_equal : FnScope ["data", "before", "at", "count", "k"] ["data", "before", "at"] (defScope s__law_equal) := ⟨rfl, rfl, rfl, by decide +kernel, rfl, by decide +kernel, by decide +kernel⟩
theorem sc__law_best : FnScope ["data", "at", "best", "seen", "distance", "count"] ["data", "at"] (defScope s__law_best) := ⟨rfl, rfl, rfl, by decide +kernel, rfl, by decide +kernel, by decide +kernel⟩
theorem sc__law_due : FnScope ["data", "found", "kept", "at", "turn", "count", "distance"] ["data"] (defScope s__law_due) := ⟨rfl, rfl, rfl, by decide +kernel, rfl, by decide +kernel, by decide +kernel⟩
theorem sc_law : FnScope ["script", "state", "data", "kind", "k", "handed", "found", "more", "back", "less"] ["script"] (defScope s_law) := ⟨rfl, rfl, rfl, by decide +kernel, rfl, by decide +kernel, by decide +kernel⟩
/-- what the top has left, as far as the walk asks of it -/
structure Txt (K : PySem.W.Frag) (mg : Str → Option Value) where
  f_read_low_first : Addr
  fd_read_low_first : FuncData
  F_read_low_first : Fun K "read_low_first" "read_low_first" s_read_low_first f_read_low_first fd_read_low_first
  b_read_low_first : Binds K fd_read_low_first ["data"] []
  g_read_low_first : mg "read_low_first" = some (.ref f_read_low_first)
  f_write_low_first : Addr
  fd_write_low_first : FuncData
  F_write_low_first : Fun K "write_low_first" "write_low_first" s_write_low_first f_write_low_first fd_write_low_first
  b_write_low_first : Binds K fd_write_low_first ["number", "count"] []
  g_write_low_first : mg "write_low_first" = some (.ref f_write_low_first)
  f_spend : Addr
  fd_spend : FuncData
  F_spend : Fun K "spend" "spend" s_spend f_spend fd_spend
  b_spend : Binds K fd_spend ["left", "cost"] []
  g_spend : mg "spend" = some (.ref f_spend)
  f_read_pieces : Addr
  fd_read_pieces : FuncData
  F_read_pieces : Fun K "read_pieces" "read_pieces" s_read_pieces f_read_pieces fd_read_pieces
  b_read_pieces : Binds K fd_read_pieces ["data", "left", "piece_at"] []
  g_read_pieces : mg "read_pieces" = some (.ref f_read_pieces)
  f_plain_piece : Addr
  fd_plain_piece : FuncData
  F_plain_piece : Fun K "plain_piece" "plain_piece" s_plain_piece f_plain_piece fd_plain_piece
  b_plain_piece : Binds K fd_plain_piece ["data"] []
  g_plain_piece : mg "plain_piece" = some (.ref f_plain_piece)
  f_read_plain_piece : Addr
  fd_read_plain_piece : FuncData
  F_read_plain_piece : Fun K "read_plain_piece" "read_plain_piece" s_read_plain_piece f_read_plain_piece fd_read_plain_piece
  b_read_plain_piece : Binds K fd_read_plain_piece ["data", "at"] []
  g_read_plain_piece : mg "read_plain_piece" = some (.ref f_read_plain_piece)
  f_unsqueeze : Addr
  fd_unsqueeze : FuncData
  F_unsqueeze : Fun K "unsqueeze" "unsqueeze" s_unsqueeze f_unsqueeze fd_unsqueeze
  b_unsqueeze : Binds K fd_unsqueeze ["data", "left"] []
  g_unsqueeze : mg "unsqueeze" = some (.ref f_unsqueeze)
  f__match_at : Addr
  fd__match_at : FuncData
  F__match_at : Fun K "_match_at" "_match_at" s__match_at f__match_at fd__match_at
  b__match_at : Binds K fd__match_at ["data", "at", "given"] []
  g__match_at : mg "_match_at" = some (.ref f__match_at)
  f__given_again : Addr
  fd__given_again : FuncData
  F__given_again : Fun K "_given_again" "_given_again" s__given_again f__given_again fd__given_again
  b__given_again : Binds K fd__given_again ["given", "distance_bytes", "many"] []
  g__given_again : mg "_given_again" = some (.ref f__given_again)
  f_squeeze : Addr
  fd_squeeze : FuncData
  F_squeeze : Fun K "squeeze" "squeeze" s_squeeze f_squeeze fd_squeeze
  b_squeeze : Binds K fd_squeeze ["data"] []
  g_squeeze : mg "squeeze" = some (.ref f_squeeze)
  f__three_bytes : Addr
  fd__three_bytes : FuncData
  F__three_bytes : Fun K "_three_bytes" "_three_bytes" s__three_bytes f__three_bytes fd__three_bytes
  b__three_bytes : Binds K fd__three_bytes ["data", "at"] []
  g__three_bytes : mg "_three_bytes" = some (.ref f__three_bytes)
  f__best_match : Addr
  fd__best_match : FuncData
  F__best_match : Fun K "_best_match" "_best_match" s__best_match f__best_match fd__best_match
  b__best_match : Binds K fd__best_match ["data", "at", "places"] []
  g__best_match : mg "_best_match" = some (.ref f__best_match)
  f__count_equal : Addr
  fd__count_equal : FuncData
  F__count_equal : Fun K "_count_equal" "_count_equal" s__count_equal f__count_equal fd__count_equal
  b__count_equal : Binds K fd__count_equal ["data", "place", "at"] []
  g__count_equal : mg "_count_equal" = some (.ref f__count_equal)
  f__law_cell : Addr
  fd__law_cell : FuncData
  F__law_cell : Fun K "_law_cell" "_law_cell" s__law_cell f__law_cell fd__law_cell
  b__law_cell : Binds K fd__law_cell ["script", "k"] []
  g__law_cell : mg "_law_cell" = some (.ref f__law_cell)
  f__law_is_integer : Addr
  fd__law_is_integer : FuncData
  F__law_is_integer : Fun K "_law_is_integer" "_law_is_integer" s__law_is_integer f__law_is_integer fd__law_is_integer
  b__law_is_integer : Binds K fd__law_is_integer ["actual"] []
  g__law_is_integer : mg "_law_is_integer" = some (.ref f__law_is_integer)
  f__law_draw : Addr
  fd__law_draw : FuncData
  F__law_draw : Fun K "_law_draw" "_law_draw" s__law_draw f__law_draw fd__law_draw
  b__law_draw : Binds K fd__law_draw ["state", "many"] []
  g__law_draw : mg "_law_draw" = some (.ref f__law_draw)
  f__law_state : Addr
  fd__law_state : FuncData
  F__law_state : Fun K "_law_state" "_law_state" s__law_state f__law_state fd__law_state
  b__law_state : Binds K fd__law_state ["cell", "salt"] []
  g__law_state : mg "_law_state" = some (.ref f__law_state)
  f__law_is_bytes : Addr
  fd__law_is_bytes : FuncData
  F__law_is_bytes : Fun K "_law_is_bytes" "_law_is_bytes" s__law_is_bytes f__law_is_bytes fd__law_is_bytes
  b__law_is_bytes : Binds K fd__law_is_bytes ["actual"] []
  g__law_is_bytes : mg "_law_is_bytes" = some (.ref f__law_is_bytes)
  f__law_data : Addr
  fd__law_data : FuncData
  F__law_data : Fun K "_law_data" "_law_data" s__law_data f__law_data fd__law_data
  b__law_data : Binds K fd__law_data ["state", "most"] []
  g__law_data : mg "_law_data" = some (.ref f__law_data)
  f__law_equal : Addr
  fd__law_equal : FuncData
  F__law_equal : Fun K "_law_equal" "_law_equal" s__law_equal f__law_equal fd__law_equal
  b__law_equal : Binds K fd__law_equal ["data", "before", "at"] []
  g__law_equal : mg "_law_equal" = some (.ref f__law_equal)
  f__law_best : Addr
  fd__law_best : FuncData
  F__law_best : Fun K "_law_best" "_law_best" s__law_best f__law_best fd__law_best
  b__law_best : Binds K fd__law_best ["data", "at"] []
  g__law_best : mg "_law_best" = some (.ref f__law_best)
  f__law_due : Addr
  fd__law_due : FuncData
  F__law_due : Fun K "_law_due" "_law_due" s__law_due f__law_due fd__law_due
  b__law_due : Binds K fd__law_due ["data"] []
  g__law_due : mg "_law_due" = some (.ref f__law_due)
  f_law : Addr
  fd_law : FuncData
  F_law : Fun K "law" "law" s_law f_law fd_law
  b_law : Binds K fd_law ["script"] []
  g_law : mg "law" = some (.ref f_law)
  t__FIRST_MATCH : Tok
  c__FIRST_MATCH : mg "_FIRST_MATCH" = some (.int 128 t__FIRST_MATCH)
  t__SHORTEST : Tok
  c__SHORTEST : mg "_SHORTEST" = some (.int 3 t__SHORTEST)
  t__LONGEST : Tok
  c__LONGEST : mg "_LONGEST" = some (.int 130 t__LONGEST)
  t__FARTHEST : Tok
  c__FARTHEST : mg "_FARTHEST" = some (.int 4096 t__FARTHEST)
  t__MOST_CANDIDATES : Tok
  c__MOST_CANDIDATES : mg "_MOST_CANDIDATES" = some (.int 16 t__MOST_CANDIDATES)
  t__MOST_KEPT : Tok
  c__MOST_KEPT : mg "_MOST_KEPT" = some (.int 128 t__MOST_KEPT)
  z_abs : mg "abs" = none
  z_bool : mg "bool" = none
  z_int : mg "int" = none
  z_isinstance : mg "isinstance" = none
  z_len : mg "len" = none
  z_list : mg "list" = none
  z_max : mg "max" = none
  z_min : mg "min" = none
  z_range : mg "range" = none
  z_reversed : mg "reversed" = none
  z_tuple : mg "tuple" = none
open Lean in
local macro_rules
  | `(tactic| walk_at $s:str) => do
    let ws := (s.getString.splitOn " ").filter (· ≠ "")
    let ids (fs : List String) : Array (TSyntax `term) := (fs.map fun f => (⟨mkIdent f.toName⟩ : TSyntax `term)).toArray
    match ws with
    | "vc" :: fs => do
      let xs := ids fs
      `(tactic| simp (config := {maxSteps := 2000000}) only [tSeq, tAsg, tOp, rI, rI0, rU, tUn, tCB, tCons, tNil, tVar, tC, gName, gSub, rSetL, tRet, tRetN, tIfS, tNext, tTest, tB, tDrop, tIf, tNot, tAnd, tOr, tAndV, tOrV, tNotV, tAug, ipI, tCall, tCmp, t2I, tBreak, tCont, tLst, tTup, tBM, tBM0, rAppend, tyV_upd, rLenH, rLenT, rListH, rIxH, rIxTH, rIxS, rEqIL, rNeIL, rEqTS, rSlH, rRep, rCat, rExtend, tSl, tPart, tNoPart, rIxT, gTup, gCons, gNil, atI_c0, atI_c1, atI_c2, atI_c3, dS_int, dS_bl, isS_int, isS_bl, eqv_ii, eqv_bb, eqvAll_nil, eqvAll_cons, List.all_cons, List.all_nil, Bool.and_true, Bool.true_and, rIsiB, tnm_int, tnm_bl, tnm_str, tnm_non, tnm_ref, kb1, kb2, kb3, kb4, kb5, kb6, kb7, kb8, kb9, kb10, rEq, rNe, scal_ii, scal_ss, scal_bb, scal_nn, scal_in, scal_ni, tFor_eq, tLc_eq, iRng1, iRng2, iList, iTup, iZip, iStr, iRng3, tChain, tYes, wipe, tCallL, Int.sub_zero, Int.toNat_natCast, Int.natCast_add, cxOf, L2.start, List.map_cons, List.map_nil, List.length_cons, List.length_nil, List.reduceReplicate, List.cons_append, List.nil_append, List.append_nil, List.set_cons_zero, List.set_cons_succ, List.getElem?_cons_zero, List.getElem?_cons_succ, upd_same, upd_upd, HO.lst.injEq, HO.tup.injEq, nil_sz, Option.some.injEq, V.int.injEq, V.bl.injEq, V.ref.injEq, V.str.injEq, V.ty.injEq, exists_eq_left', exists_eq_left, exists_eq', exists_eq, Int.cast_ofNat_Int, Int.reduceEq, Int.reduceMul, Int.reduceAdd, Int.reduceSub, Int.natCast_zero, Int.mul_zero, Int.add_zero, exists_and_left, exists_and_right, List.cons.injEq, and_true, true_and, and_assoc, reduceCtorEq, false_and, and_false, exists_false, exists_const, or_false, false_or, Nat.reduceAdd, Nat.reduceSub, Int.reduceLT, Int.reduceLE, Int.reduceNeg, Int.reducePow, Int.reduceToNat, ite_true, ite_false, Bool.false_eq_true, Bool.not_true, Bool.not_false, decide_true, decide_false, if_true, if_false, tTupS, tLstS, rListS, rListT, rTupleL, rCatL, rRepS, rSlS, map_int_inj, sz1, sz2, sz3, sz4, sz5, sz6, sz8, CMul, Nat.reduceLT, Nat.reduceLeDiff, Nat.reducePow, or_true, true_or, List.length_map, List.length_append, List.length_replicate, decide_eq_true_eq, gt_iff_lt, ge_iff_le, Int.reduceGT, Int.reduceGE, ne_eq, not_true_eq_false, not_false_eq_true, Int.reduceToNat, gTupS, gLstS, iListS, iTupS, tML, tML0, rPop, mx_eq, mn_eq, Int.natCast_inj, bitAnd_m1, bitAnd_m2, bitAnd_m3, bitAnd_m4, bitAnd_m5, bitAnd_m6, bitAnd_m7, bitAnd_m8, bitAnd_m16, CDiv, toNat_mul, map_snoc, map_cat, map_setV, List.length_set, absI_eq, Bool.and_self, tAugS, rGetL, iZipS, cutV_take1, cutV_drop1, tPar, rLenSc, rIxSc, iRng2, rSumS, rSlTS, cutV_take3, rEqC, rNeC, tTrL, iEnumL, rInI, rIndexI, tDGet, tDIn, tDNotIn, sDPut, iEnumS, tDc_eq, eq_self, rEqTK, rNeSK, rIsiTK, iRevS, iZipTS, rInLC, rNotInLC, rNotInTC, rRepL, tJoinC, tDGet2, tDNewTS, tDSetdT, $[$xs:term],*])
    | "w" :: fs => do
      let xs := ids fs
      let ys := (fs.map fun f => (⟨mkIdent f.toName⟩ : TSyntax `term)).toArray
      `(tactic| simp (config := {maxSteps := 2000000}) only [tSeq, tAsg, tOp, rI, rI0, rU, tUn, tCB, tCons, tNil, tVar, tC, gName, gSub, rSetL, tRet, tRetN, tIfS, tNext, tTest, tB, tDrop, tIf, tNot, tAnd, tOr, tAndV, tOrV, tNotV, tAug, ipI, tCall, tCmp, t2I, tBreak, tCont, tLst, tTup, tBM, tBM0, rAppend, tyV_upd, rLenH, rLenT, rListH, rIxH, rIxTH, rIxS, rEqIL, rNeIL, rEqTS, rSlH, rRep, rCat, rExtend, tSl, tPart, tNoPart, rIxT, gTup, gCons, gNil, atI_c0, atI_c1, atI_c2, atI_c3, dS_int, dS_bl, isS_int, isS_bl, eqv_ii, eqv_bb, eqvAll_nil, eqvAll_cons, List.all_cons, List.all_nil, Bool.and_true, Bool.true_and, rIsiB, tnm_int, tnm_bl, tnm_str, tnm_non, tnm_ref, kb1, kb2, kb3, kb4, kb5, kb6, kb7, kb8, kb9, kb10, rEq, rNe, scal_ii, scal_ss, scal_bb, scal_nn, scal_in, scal_ni, tFor_eq, tLc_eq, iRng1, iRng2, iList, iTup, iZip, iStr, iRng3, tChain, tYes, wipe, tCallL, Int.sub_zero, Int.toNat_natCast, Int.natCast_add, cxOf, L2.start, List.map_cons, List.map_nil, List.length_cons, List.length_nil, List.reduceReplicate, List.cons_append, List.nil_append, List.append_nil, List.set_cons_zero, List.set_cons_succ, List.getElem?_cons_zero, List.getElem?_cons_succ, upd_same, upd_upd, HO.lst.injEq, HO.tup.injEq, nil_sz, Option.some.injEq, V.int.injEq, V.bl.injEq, V.ref.injEq, V.str.injEq, V.ty.injEq, exists_eq_left', exists_eq_left, exists_eq', exists_eq, Int.cast_ofNat_Int, Int.reduceEq, Int.reduceMul, Int.reduceAdd, Int.reduceSub, Int.natCast_zero, Int.mul_zero, Int.add_zero, exists_and_left, exists_and_right, List.cons.injEq, and_true, true_and, and_assoc, reduceCtorEq, false_and, and_false, exists_false, exists_const, or_false, false_or, Nat.reduceAdd, Nat.reduceSub, Int.reduceLT, Int.reduceLE, Int.reduceNeg, Int.reducePow, Int.reduceToNat, ite_true, ite_false, Bool.false_eq_true, Bool.not_true, Bool.not_false, decide_true, decide_false, if_true, if_false, tTupS, tLstS, rListS, rListT, rTupleL, rCatL, rRepS, rSlS, map_int_inj, sz1, sz2, sz3, sz4, sz5, sz6, sz8, CMul, Nat.reduceLT, Nat.reduceLeDiff, Nat.reducePow, or_true, true_or, List.length_map, List.length_append, List.length_replicate, decide_eq_true_eq, gt_iff_lt, ge_iff_le, Int.reduceGT, Int.reduceGE, ne_eq, not_true_eq_false, not_false_eq_true, Int.reduceToNat, gTupS, gLstS, iListS, iTupS, tML, tML0, rPop, mx_eq, mn_eq, Int.natCast_inj, bitAnd_m1, bitAnd_m2, bitAnd_m3, bitAnd_m4, bitAnd_m5, bitAnd_m6, bitAnd_m7, bitAnd_m8, bitAnd_m16, CDiv, toNat_mul, map_snoc, map_cat, map_setV, List.length_set, absI_eq, Bool.and_self, tAugS, rGetL, iZipS, cutV_take1, cutV_drop1, tPar, rLenSc, rIxSc, iRng2, rSumS, rSlTS, cutV_take3, rEqC, rNeC, tTrL, iEnumL, rInI, rIndexI, tDGet, tDIn, tDNotIn, sDPut, iEnumS, tDc_eq, eq_self, rEqTK, rNeSK, rIsiTK, iRevS, iZipTS, rInLC, rNotInLC, rNotInTC, rRepL, tJoinC, tDGet2, tDNewTS, tDSetdT, $[$xs:term],*, $[(tyL_eq $ys)],*, $[(sqL_eq $ys)],*])
    | "g" :: fs => do
      let xs := ids fs
      `(tactic| simp only [gTupS, gCons, gNil, gName, HO.tup.injEq, Option.some.injEq, exists_eq_left', exists_eq_left, exists_eq', exists_eq, V.ref.injEq, List.cons.injEq, and_assoc, exists_and_left, exists_and_right, true_and, and_true, List.length_cons, List.length_nil, Nat.reduceAdd, List.set_cons_zero, List.set_cons_succ, $[$xs:term],*])
    | "c" :: sn :: gs => do
      let s1 := mkIdent sn.toName
      let mut out ← `(tactic| skip)
      for g in gs do
        let i := mkIdent g.toName
        out ← `(tactic| ($out; replace $i := $s1 _ _ $i))
      return out
    | "n" :: sn :: suf :: gs => do
      let s1 := mkIdent sn.toName
      let mut out ← `(tactic| skip)
      for g in gs do
        let i := mkIdent g.toName
        let j := mkIdent (g ++ suf).toName
        out ← `(tactic| ($out; have $j := $s1 _ _ $i))
      return out
    | "b" :: bn :: suf :: gs => do
      let s1 := mkIdent bn.toName
      let mut out ← `(tactic| skip)
      for g in gs do
        let i := mkIdent g.toName
        let j := mkIdent (g ++ suf).toName
        let n := mkIdent ("ne_" ++ g).toName
        out ← `(tactic| ($out; have $j := $s1 _ _ $n $i))
      return out
    | _ => Macro.throwUnsupported

section
variable {P : Program} {w : World} {K : PySem.W.Frag} {mg : Str → Option Value} {base : Heap}

theorem foldl_take {α β : Type} (f : β → α → β) (s : β) {l : List α} {i : Nat} {x : α} (h : l[i]? = some x) : (l.take (i + 1)).foldl f s = f ((l.take i).foldl f s) x := by
  rw [List.take_add_one, h, List.foldl_append]
  simp only [Option.toList_some, List.foldl_cons, List.foldl_nil]
theorem take_succ {α : Type} {l : List α} {i : Nat} {x : α} (h : l[i]? = some x) : l.take (i + 1) = l.take i ++ [x] := by
  rw [List.take_add_one, h]
  rfl
theorem take_map_succ {α β : Type} (f : α → β) {l : List α} {i : Nat} {x : α} (h : l[i]? = some x) : (l.map f).take (i + 1) = (l.map f).take i ++ [f x] := take_succ (by rw [List.getElem?_map, h]; rfl)
theorem take_lt {α : Type} (l : List α) (i : Nat) {n : Nat} (h : l.length < n) : (l.take i).length < n := Nat.lt_of_le_of_lt (by rw [List.length_take]; exact Nat.min_le_right _ _) h
def YTup (ns : List Int) : Nat → Hp → V → Hp → Prop := fun i H v H' => H' = H ∧ ∃ b, ns[i]? = some b ∧ v = .int b
theorem walkTI {K : PySem.W.Frag} {a : Addr} {ns : List Int} : Walk (Itt K a) ns.length (fun H => H a = some (.tup (List.map V.int ns))) (YTup ns) := by
  have w := walkT (K := K) (a := a) (xs := List.map V.int ns)
  rw [List.length_map] at w
  refine w.mono (fun _ h => h) fun i H x H' _ _ y => ⟨y.1, ?_⟩
  have h := y.2
  rw [List.getElem?_map] at h
  obtain ⟨b, h1, rfl⟩ := Option.map_eq_some_iff.mp h
  exact ⟨b, h1, rfl⟩
theorem foldl_len {α : Type} {f : List Int → α → List Int} (h : ∀ p c, (f p c).length = p.length) : ∀ (l : List α) (p : List Int), (l.foldl f p).length = p.length
  | [], _ => rfl
  | c :: r, p => by rw [List.foldl_cons, foldl_len h r, h]
theorem ix_in {r c w h : Nat} (hr : r < h) (hc : c < w) : r * w + c < w * h := by
  have h1 : r * w + w ≤ h * w := by rw [← Nat.succ_mul]; exact Nat.mul_le_mul_right w hr
  rw [Nat.mul_comm w h]
  omega
theorem map_set (l : List Int) (i : Nat) (v : Int) : (List.map V.int l).set i (.int v) = List.map V.int (l.set i v) := by rw [List.map_set]
theorem div_in {a d : Int} {n : Nat} (h0 : 0 ≤ a) (h1 : a < d) (hn : 1 ≤ n) : 0 ≤ a * n / d ∧ a * n / d < n := by
  refine ⟨Int.ediv_nonneg (Int.mul_nonneg h0 (by omega)) (by omega), Int.ediv_lt_of_lt_mul (by omega) ?_⟩
  rw [Int.mul_comm (n : Int) d]
  exact Int.mul_lt_mul_of_pos_right h1 (by omega)
theorem foldl_ext' {α β : Type} {f g : α → β → α} {l : List β} : ∀ {a : α}, (∀ a, ∀ b ∈ l, f a b = g a b) → l.foldl f a = l.foldl g a := by
  induction l with
  | nil => exact fun _ => rfl
  | cons x r ih => exact fun {a} h => by rw [List.foldl_cons, List.foldl_cons, h a x List.mem_cons_self]; exact ih fun a b hb => h a b (List.mem_cons_of_mem _ hb)
theorem gN_ge {src : List Int} (h : ∀ v ∈ src, -1 ≤ v) (i : Nat) : -1 ≤ gN src i := by
  unfold gN
  rw [List.getD_eq_getElem?_getD]
  cases e : src[i]? with
  | none => decide
  | some b => exact h b (List.mem_of_getElem? e)
theorem cnt_lt {n : Nat} (h : n ≤ 2000000) : n < sizeLine := Nat.lt_of_le_of_lt h (by decide)
theorem cnt_le {n : Nat} (h : n ≤ 2000000) : n ≤ sizeLine := Nat.le_of_lt (cnt_lt h)
theorem cnt_leL {n : Nat} (h : n ≤ 10000000) : n ≤ sizeLine := Nat.le_trans h (by decide)

/-! ### matches written -/
def key3 (ns : List Int) (p : Nat) : List Int := sl ns p (p + 3)
theorem key3_len (ns : List Int) (p : Nat) : (key3 ns p).length ≤ 3 := by unfold key3; rw [sl_len]; omega
theorem takeWhile_n {p : Nat → Bool} {n m : Nat} (hm : m ≤ n) (h1 : ∀ j, j < m → p j = true) (h2 : m = n ∨ p m = false) : ((List.range n).takeWhile p).length = m := by
  have hs : (List.range n) = List.range m ++ (List.range' m (n - m)) := by
    rw [List.range_eq_range', List.range_eq_range', show n = m + (n - m) by omega, ← List.range'_append]
    simp
  rw [hs, List.takeWhile_append_of_pos (fun a ha => h1 a (List.mem_range.mp ha)), List.length_append, List.length_range]
  rcases h2 with h2 | h2
  · rw [show n - m = 0 by omega]; rfl
  · cases hk : n - m with
    | zero => rfl
    | succ k => rw [List.range'_succ, List.takeWhile_cons, h2]; rfl
def eqAt (ns : List Int) (p q j : Nat) : Bool := decide (gN ns (p + j) = gN ns (q + j))
def cE (ns : List Int) (p q : Nat) : Nat := ((List.range (min 130 (ns.length - q))).takeWhile (eqAt ns p q)).length
theorem cE_le (ns : List Int) (p q : Nat) : cE ns p q ≤ min 130 (ns.length - q) := by
  have := (List.takeWhile_sublist (eqAt ns p q) (l := List.range (min 130 (ns.length - q)))).length_le
  rw [List.length_range] at this
  exact this
theorem cmulC {i j : Int} (h1 : -(2 ^ 64) < j) (h2 : j < 2 ^ 64) : CMul i j := .inr ⟨h1, h2⟩
def wl2 (d : Int) : List Int := [d % 256, d / 256 % 256]
def sp_write_low_first (K : PySem.W.Frag) : Sp := fun vs H Q _ => ∃ (d : Int), vs = [.int d, .int 2] ∧ (∀ H' p, Same H H' → H p = none → H' p = some (.lst (List.map V.int (wl2 d))) → Q (.ref p) H')
theorem ok_write_low_first (T : Txt K mg) : FnOk P w K mg base CX0 1 T.f_write_low_first T.fd_write_low_first ["number", "count"] (sp_write_low_first K) := by
  refine T.F_write_low_first.ok sc_write_low_first (fun vs H Q E h => ?_) (fun cdv A outer s H vs Q E hr h => ?_)
  · obtain ⟨d, rfl, _⟩ := h
    rfl
  · obtain ⟨d, rfl, q⟩ := h
    refine ⟨_, (pss_one (ps_ret (pe_lc (own := [("at", 2)]) (g := (gName 2)) rfl sc_write_low_first.nd (pi_range1 (by rfl) T.z_range (pa_cons (pv 1) pa_nil)) (blkOk_by (own := [("at", 2)]) (N := ["number", "count", "at"]) (sc := defScope s_write_low_first) (by decide +kernel)) (fun _ _ _ _ _ => (pg_name (i := 2) sc_write_low_first.nd rfl (Or.inl rfl))) (fun _ _ _ _ _ => pts_nil) (fun _ _ _ _ _ => (pe_op op_and (pe_op op_shr (pv 0) (pe_op op_mul pe_int (pv 2))) pe_int))))), ?_⟩
    walk_at "vc"
    refine lcL (walkR (n := 2)) (L := fun i => List.map V.int ((wl2 d).take i)) rfl (fun _ _ => True.intro) (fun D i x H1 H2 hi hD s1 g1 y => ?_) (fun pL H1 s1 n1 g1 => q H1 pL s1 n1 g1)
    obtain ⟨rfl, rfl⟩ := y
    have i2 : i = 0 ∨ i = 1 := by omega
    walk_at "vc g1"
    rcases i2 with rfl | rfl
    · refine ⟨by decide, cnt_lt (by simp), same_upd2 s1 hD, ?_⟩
      show [d / 1 % 256] = [d % 256]
      rw [Int.ediv_one]
    · exact ⟨by decide, cnt_lt (by simp [wl2]), same_upd2 s1 hD, rfl⟩
def sp_plain_piece (K : PySem.W.Frag) : Sp := fun vs H Q _ => ∃ (a : Addr) (ns : List Int), vs = [.ref a] ∧ (H a = some (.lst (List.map V.int ns))) ∧ (ns.length ≤ 1000) ∧ (∀ H' p, Same H H' → H p = none → H' p = some (.lst (List.map V.int (if ns = [] then [] else ((ns.length : Int) - 1) :: ns))) → Q (.ref p) H')
theorem ok_plain_piece (T : Txt K mg) : FnOk P w K mg base CX0 1 T.f_plain_piece T.fd_plain_piece ["data"] (sp_plain_piece K) := by
  refine T.F_plain_piece.ok sc_plain_piece (fun vs H Q E h => ?_) (fun cdv A outer s H vs Q E hr h => ?_)
  · obtain ⟨a, ns, rfl, _⟩ := h
    rfl
  · obtain ⟨a, ns, rfl, ha, hn, q⟩ := h
    refine ⟨_, (pss_cons (ps_if (pt_cmpR op_eq (pe_callB call_lenH (by rfl) T.z_len PySem.boot_len (pa_cons (pv 0) pa_nil)) pe_int (nomark _)) (pss_one (ps_ret (pe_lstS pa_nil))) pss_nil)
      (pss_one (ps_ret (pe_op op_catS (pe_lstS (pa_cons (pe_op op_sub (pe_callB call_lenH (by rfl) T.z_len PySem.boot_len (pa_cons (pv 0) pa_nil)) pe_int) pa_nil)) (pv 0))))), ?_⟩
    walk_at "vc ha"
    refine iteP (fun z => ?_) (fun z => ?_)
    · intro p1 H1 s1 n1 g1
      exact q H1 p1 s1 n1 (by rw [if_pos (List.eq_nil_of_length_eq_zero (by omega))]; exact g1)
    · intro p1 H1 s1 n1 g1
      refine ⟨_, g1, _, s1 _ _ ha, by rw [List.length_map]; exact cnt_le (show 1 + ns.length ≤ _ by omega), fun p2 H2 s2 n2 g2 => q H2 p2 (s1.trans s2) (s1.free n2) ?_⟩
      rw [if_neg (fun e => z (by rw [e]; rfl))]
      exact g2
def sp__three_bytes (K : PySem.W.Frag) : Sp := fun vs H Q _ => ∃ (a : Addr) (ns : List Int) (p : Nat), vs = [.ref a, .int (p : Int)] ∧ (H a = some (.lst (List.map V.int ns))) ∧ (∀ H' t, Same H H' → H t = none → H' t = some (.tup (List.map V.int (key3 ns p))) → Q (.ref t) H')
theorem ok__three_bytes (T : Txt K mg) : FnOk P w K mg base CX0 1 T.f__three_bytes T.fd__three_bytes ["data", "at"] (sp__three_bytes K) := by
  refine T.F__three_bytes.ok sc__three_bytes (fun vs H Q E h => ?_) (fun cdv A outer s H vs Q E hr h => ?_)
  · obtain ⟨a, ns, p, rfl, _⟩ := h
    rfl
  · obtain ⟨a, ns, p, rfl, ha, q⟩ := h
    refine ⟨_, (pss_one (ps_ret (pe_callTy call_tupleL (by rfl) T.z_tuple (by decide +kernel) (pa_cons (pe_slice sl_listS (pv 0) (po_some (pv 1)) (po_some (pe_op op_add (pv 1) (pe_glob (v := .int 3) (by rfl) T.c__SHORTEST ⟨_, rfl⟩)))) pa_nil)))), ?_⟩
    walk_at "vc ha"
    intro p1 H1 s1 n1 g1
    rw [show (p : Int) + 3 = ((p + 3 : Nat) : Int) by omega, cut_sl] at g1
    exact ⟨_, g1, fun p2 H2 s2 n2 g2 => q H2 p2 (s1.trans s2) (s1.free n2) g2⟩
def sp__count_equal (K : PySem.W.Frag) : Sp := fun vs H Q _ => ∃ (a : Addr) (ns : List Int) (p k : Nat), vs = [.ref a, .int (p : Int), .int (k : Int)] ∧ (H a = some (.lst (List.map V.int ns))) ∧ (p < k) ∧ (k ≤ ns.length) ∧ (Q (.int (cE ns p k : Nat)) H)
theorem ok__count_equal (T : Txt K mg) : FnOk P w K mg base CX0 1 T.f__count_equal T.fd__count_equal ["data", "place", "at"] (sp__count_equal K) := by
  refine T.F__count_equal.ok sc__count_equal (fun vs H Q E h => ?_) (fun cdv A outer s H vs Q E hr h => ?_)
  · obtain ⟨a, ns, p, k, rfl, _⟩ := h
    rfl
  · obtain ⟨a, ns, p, k, rfl, ha, hp, hk, q⟩ := h
    refine ⟨_, (pss_cons (ps_set (i := 3) sc__count_equal.nd rfl (Or.inl rfl) (pe_callB (call_min2 rfl) (by rfl) T.z_min (by decide +kernel) (pa_cons (pe_glob (v := .int 130) (by rfl) T.c__LONGEST ⟨_, rfl⟩) (pa_cons (pe_op op_sub (pe_callB call_lenH (by rfl) T.z_len PySem.boot_len (pa_cons (pv 0) pa_nil)) (pv 2)) pa_nil))))
      (pss_cons (ps_set (i := 4) sc__count_equal.nd rfl (Or.inl rfl) pe_int)
      (pss_cons (ps_while PassesOwn.never (PW.pt (pw_and (pt_cmpR op_lt (pv 4) (pv 3) (nomark _)) (pw_and1 (pt_cmpR op_eq (pe_ix ix_listH (pv 0) (pe_op op_add (pv 1) (pv 4)) (fun _ _ => rfl)) (pe_ix ix_listH (pv 0) (pe_op op_add (pv 2) (pv 4)) (fun _ _ => rfl)) (nomark _))))) (pss_one (ps_aug (i := 4) sc__count_equal.nd rfl (Or.inl rfl) pe_int ip_add)))
      (pss_one (ps_ret (pv 4)))))), ?_⟩
    walk_at "vc ha"
    have hmost : mn 130 ((ns.length : Int) - (k : Int)) = ((min 130 (ns.length - k) : Nat) : Int) := by unfold mn; split <;> omega
    rw [hmost]
    have hM : min 130 (ns.length - k) ≤ ns.length - k := Nat.min_le_right _ _
    have hcE : ∀ m, m ≤ min 130 (ns.length - k) → (∀ j, j < m → eqAt ns p k j = true) → (m = min 130 (ns.length - k) ∨ eqAt ns p k m = false) → Q (V.int (m : Int)) H := fun m h0 h1 h2 => by
      rw [show cE ns p k = m from takeWhile_n h0 h1 h2] at q
      exact q
    have hM1 : min 130 (ns.length - k) ≤ 130 := Nat.min_le_left _ _
    generalize min 130 (ns.length - k) = M at hM hcE hM1 ⊢
    refine wh_by (fun f σ H' => ∃ m : Nat, σ = [some (.ref a), some (.int (p : Int)), some (.int (k : Int)), some (.int (M : Int)), some (.int (m : Int))] ∧ H = H' ∧ m ≤ M ∧ (∀ j, j < m → eqAt ns p k j = true) ∧ f = M - m) M ⟨0, rfl, rfl, Nat.zero_le _, (fun j h => absurd h (Nat.not_lt_zero _)), rfl⟩ ?_
    rintro f σ _ ⟨m, rfl, rfl, hm, hj, rfl⟩
    walk_at "vc ha"
    refine iteP (fun z => ?_) (fun z => hcE m hm hj (.inl (by omega)))
    refine ⟨_, at_g' (i := p + m) (by omega) (by omega), _, at_g' (i := k + m) (by omega) (by omega), rfl, ?_⟩
    refine iteP (fun e => ?_) (fun e => hcE m hm hj (.inr (decide_eq_false fun h => e (by rw [h]))))
    refine ⟨fun σ' H' => ∃ m' : Nat, m' = m + 1 ∧ σ' = [some (.ref a), some (.int (p : Int)), some (.int (k : Int)), some (.int (M : Int)), some (.int (m' : Int))] ∧ H = H', ?_, ?_⟩
    · rintro σ' H' ⟨_, rfl, rfl, rfl⟩
      refine ⟨M - (m + 1), by omega, m + 1, rfl, rfl, by omega, fun j hj2 => ?_, rfl⟩
      by_cases c : j = m
      · rw [c]; exact decide_eq_true (V.int.inj e)
      · exact hj j (by omega)
    · exact ⟨m + 1, rfl, by rw [Int.natCast_add]; rfl, rfl⟩
/-- the places before with these three bytes -/
def pls (ns : List Int) (n : Nat) (k : List Int) : List Nat := (List.range n).filter fun p => decide (key3 ns p = k)
def kk (k : List Int) : List Key := k.map Sum.inl
theorem kk_map (k : List Int) : (kk k).map kV = List.map V.int k := by unfold kk; rw [List.map_map]; rfl
theorem kk_inj {k k' : List Int} (h : kk k = kk k') : k = k' := by
  unfold kk at h
  exact (List.map_inj_right (fun a b e => Sum.inl.inj e)).mp h
def vN (n : Nat) : V := .int (n : Int)
structure Plc (H : Hp) (pd : Addr) (own : Addr → Prop) (ns : List Int) (n : Nat) : Prop where
  ex : ∃ kvs, H pd = some (.dT kvs) ∧ kvs.length ≤ n ∧
    (∀ k, (pls ns n k = [] ∧ valV kvs (kk k) = none) ∨ ∃ r, pls ns n k ≠ [] ∧ valV kvs (kk k) = some (.ref r) ∧ H r = some (.lst ((pls ns n k).map vN)) ∧ own r) ∧
    (∀ k k' r, valV kvs (kk k) = some (.ref r) → valV kvs (kk k') = some (.ref r) → k = k')
theorem Plc.frame {H H' : Hp} {pd : Addr} {own own' : Addr → Prop} {ns : List Int} {n : Nat} (h : Plc H pd own ns n) (hd : ∀ o, H pd = some o → H' pd = some o) (ho : ∀ r o, own r → H r = some o → H' r = some o ∧ own' r) : Plc H' pd own' ns n := by
  obtain ⟨kvs, g, hl, h1, h2⟩ := h.ex
  refine ⟨⟨kvs, hd _ g, hl, fun k => ?_, h2⟩⟩
  rcases h1 k with h | ⟨r, a, b, c, d⟩
  · exact .inl h
  · exact .inr ⟨r, a, b, (ho r _ d c).1, (ho r _ d c).2⟩
theorem pls_succ (ns : List Int) (n : Nat) (k : List Int) : pls ns (n + 1) k = pls ns n k ++ if key3 ns n = k then [n] else [] := by
  unfold pls
  rw [List.range_succ, List.filter_append, List.filter_cons]
  by_cases h : key3 ns n = k <;> simp [h]
theorem Plc.there {H : Hp} {pd r : Addr} {own : Addr → Prop} {ns : List Int} {n : Nat} {kvs : List (List Key × V)} (gd : H pd = some (.dT kvs)) (hl : kvs.length ≤ n)
    (hE : ∀ k, (pls ns n k = [] ∧ valV kvs (kk k) = none) ∨ ∃ r, pls ns n k ≠ [] ∧ valV kvs (kk k) = some (.ref r) ∧ H r = some (.lst ((pls ns n k).map vN)) ∧ own r)
    (hI : ∀ k k' r, valV kvs (kk k) = some (.ref r) → valV kvs (kk k') = some (.ref r) → k = k') (hv : valV kvs (kk (key3 ns n)) = some (.ref r)) :
    ∃ l, H r = some (.lst l) ∧ l.length ≤ n ∧ own r ∧ Plc (upd H r (.lst (l ++ [.int (n : Int)]))) pd own ns (n + 1) := by
  rcases hE (key3 ns n) with ⟨_, h⟩ | ⟨r', h1, h2, h3, h4⟩
  · rw [hv] at h; cases h
  · rw [hv] at h2
    obtain rfl := V.ref.inj (Option.some.inj h2)
    have nrd : pd ≠ r := fun z => by rw [← z, gd] at h3; cases h3
    refine ⟨_, h3, ?_, h4, ⟨⟨kvs, by rw [upd_ne nrd]; exact gd, by omega, fun k => ?_, hI⟩⟩⟩
    · rw [List.length_map]
      unfold pls
      exact Nat.le_trans (List.length_filter_le _ _) (by rw [List.length_range]; exact Nat.le_refl _)
    · rw [pls_succ]
      by_cases c : key3 ns n = k
      · rw [if_pos c, ← c]
        exact .inr ⟨r, by simp, hv, by rw [upd_same, List.map_append]; rfl, h4⟩
      · rw [if_neg c, List.append_nil]
        rcases hE k with h | ⟨r', a1, a2, a3, a4⟩
        · exact .inl h
        · exact .inr ⟨r', a1, a2, by rw [upd_ne (fun z => c (hI _ _ _ hv (by rw [← z]; exact a2)))]; exact a3, a4⟩
theorem Plc.fresh {H : Hp} {pd z : Addr} {own : Addr → Prop} {ns : List Int} {n : Nat} {kvs : List (List Key × V)} (gd : H pd = some (.dT kvs)) (hl : kvs.length ≤ n)
    (hE : ∀ k, (pls ns n k = [] ∧ valV kvs (kk k) = none) ∨ ∃ r, pls ns n k ≠ [] ∧ valV kvs (kk k) = some (.ref r) ∧ H r = some (.lst ((pls ns n k).map vN)) ∧ own r)
    (hI : ∀ k k' r, valV kvs (kk k) = some (.ref r) → valV kvs (kk k') = some (.ref r) → k = k') (hv : valV kvs (kk (key3 ns n)) = none)
    (hz : ∀ k r, valV kvs (kk k) = some (.ref r) → r ≠ z) (oz : own z) (nz : pd ≠ z) :
    Plc (upd (upd H pd (.dT (putK kvs (kk (key3 ns n)) (.ref z)))) z (.lst [.int (n : Int)])) pd own ns (n + 1) := by
  rcases hE (key3 ns n) with ⟨h0, _⟩ | ⟨r', h1, h2, h3, h4⟩
  · refine ⟨⟨_, by rw [upd_ne nz, upd_same], by have := length_putK kvs (kk (key3 ns n)) (.ref z); omega, fun k => ?_, ?_⟩⟩
    · rw [pls_succ, valV_put]
      by_cases c : key3 ns n = k
      · rw [if_pos c, ← c, if_pos rfl]
        exact .inr ⟨z, by simp, rfl, by rw [upd_same, h0]; rfl, oz⟩
      · rw [if_neg c, List.append_nil, if_neg fun e => c (kk_inj e).symm]
        rcases hE k with h | ⟨r', a1, a2, a3, a4⟩
        · exact .inl h
        · refine .inr ⟨r', a1, a2, ?_, a4⟩
          rw [upd_ne (hz _ _ a2), upd_ne (fun e => by rw [e, gd] at a3; cases a3)]
          exact a3
    · intro k k' r e1 e2
      rw [valV_put] at e1 e2
      by_cases c1 : kk k = kk (key3 ns n)
      · by_cases c2 : kk k' = kk (key3 ns n)
        · exact kk_inj (c1.trans c2.symm)
        · rw [if_pos c1] at e1
          rw [if_neg c2] at e2
          obtain rfl := V.ref.inj (Option.some.inj e1)
          exact absurd rfl (hz _ _ e2)
      · rw [if_neg c1] at e1
        by_cases c2 : kk k' = kk (key3 ns n)
        · rw [if_pos c2] at e2
          obtain rfl := V.ref.inj (Option.some.inj e2)
          exact absurd rfl (hz _ _ e1)
        · rw [if_neg c2] at e2
          exact hI _ _ _ e1 e2
  · rw [hv] at h2; cases h2
def cmp (ns : List Int) (q : Nat) : List Nat → Nat × Nat → Nat × Nat
  | [], s => s
  | p :: ps, s => if 4096 < q - p then s else cmp ns q ps (if s.2 < cE ns p q then (q - p, cE ns p q) else s)
def last16 (l : List Nat) : List Nat := l.drop (l.length - 16)
def bm (ns : List Int) (q : Nat) : Nat × Nat := if ns.length < q + 3 then (0, 0) else cmp ns q (last16 (pls ns q (key3 ns q))).reverse (0, 0)
theorem cut_neg {xs : List V} : cutV xs (some (-16)) none = xs.drop (xs.length - 16) := by
  unfold cutV
  rw [HT.sIx_none, show HT.sIx xs.length 0 (some (-16)) = xs.length - 16 by
    show (if (-16 : Int) < 0 then ((-16 : Int) + (xs.length : Int)).toNat else min (-16 : Int).toNat xs.length) = _
    rw [if_pos (by decide)]; omega]
  rw [List.take_of_length_le (by rw [List.length_drop]; exact Nat.le_refl _)]
theorem pls_lt {ns : List Int} {n : Nat} {k : List Int} : ∀ p ∈ pls ns n k, p < n := fun p h => List.mem_range.mp (List.mem_filter.mp h).1
def sp__best_match (K : PySem.W.Frag) : Sp := fun vs H Q _ => ∃ (a d : Addr) (ns : List Int) (n : Nat) (own : Addr → Prop), vs = [.ref a, .int (n : Int), .ref d] ∧ (H a = some (.lst (List.map V.int ns))) ∧ (n ≤ ns.length) ∧ (Plc H d own ns n) ∧ (ns.length ≤ 100000) ∧ (∀ H' p, Same H H' → H p = none → H' p = some (.tup [.int ((bm ns n).1 : Nat), .int ((bm ns n).2 : Nat)]) → Q (.ref p) H')
theorem ok__best_match (T : Txt K mg) : FnOk P w K mg base CX0 2 T.f__best_match T.fd__best_match ["data", "at", "places"] (sp__best_match K) := by
  refine T.F__best_match.ok sc__best_match (fun vs H Q E h => ?_) (fun cdv A outer s H vs Q E hr h => ?_)
  · obtain ⟨a, d, ns, n, own, rfl, _⟩ := h
    rfl
  · obtain ⟨a, d, ns, n, own, rfl, ha, hn, hP, hb, q⟩ := h
    refine ⟨_, (pss_cons (ps_if (pt_cmpR op_gt (pe_op op_add (pv 1) (pe_glob (v := .int 3) (by rfl) T.c__SHORTEST ⟨_, rfl⟩)) (pe_callB call_lenH (by rfl) T.z_len PySem.boot_len (pa_cons (pv 0) pa_nil)) (nomark _)) (pss_one (ps_ret (pe_tupS (pa_cons pe_int (pa_cons pe_int pa_nil))))) pss_nil)
      (pss_cons (ps_set (i := 3) sc__best_match.nd rfl (Or.inl rfl) pe_int)
      (pss_cons (ps_set (i := 4) sc__best_match.nd rfl (Or.inl rfl) pe_int)
      (pss_cons (ps_set (i := 5) sc__best_match.nd rfl (Or.inl rfl) (pe_slice sl_listS (pe_dget2 (hu_of hr) (pv 2) (pe_call (ok__three_bytes T) hr (by rfl) T.g__three_bytes T.F__three_bytes.kp T.b__three_bytes .nil pass0 (pa_cons (pv 0) (pa_cons (pv 1) pa_nil))) (pe_lstS pa_nil) ⟨rfl, rfl, rfl, rfl⟩) (po_some (pe_un un_neg (pe_glob (v := .int 16) (by rfl) T.c__MOST_CANDIDATES ⟨_, rfl⟩))) po_none))
      (pss_cons (ps_for PassesOwn.never rfl (pi_revS (by rfl) T.z_reversed (pa_cons (pv 5) pa_nil)) (pg_name (i := 6) sc__best_match.nd rfl (Or.inl rfl)) (pss_cons (ps_if (pt_cmpR op_gt (pe_op op_sub (pv 1) (pv 6)) (pe_glob (v := .int 4096) (by rfl) T.c__FARTHEST ⟨_, rfl⟩) (nomark _)) (pss_one ps_break) pss_nil)
      (pss_cons (ps_set (i := 7) sc__best_match.nd rfl (Or.inl rfl) (pe_call (ok__count_equal T) hr (by rfl) T.g__count_equal T.F__count_equal.kp T.b__count_equal .nil pass0 (pa_cons (pv 0) (pa_cons (pv 6) (pa_cons (pv 1) pa_nil)))))
      (pss_one (ps_if (pt_cmpR op_gt (pv 7) (pv 4) (nomark _)) (pss_cons (ps_set (i := 3) sc__best_match.nd rfl (Or.inl rfl) (pe_op op_sub (pv 1) (pv 6)))
      (pss_one (ps_set (i := 4) sc__best_match.nd rfl (Or.inl rfl) (pv 7)))) pss_nil)))))
      (pss_one (ps_ret (pe_tupS (pa_cons (pv 3) (pa_cons (pv 4) pa_nil)))))))))), ?_⟩
    walk_at "vc ha"
    unfold bm at q
    refine iteP (fun z => ?_) (fun z => ?_)
    · intro p H1 s1 n1 g1
      rw [if_pos (by omega)] at q
      exact q H1 p s1 n1 g1
    rw [if_neg (by omega)] at q
    obtain ⟨kvs, gd, hkl, hE, _⟩ := hP.ex
    refine ⟨.inr ⟨kvs, .inl gd⟩, a, ns, n, rfl, ha, fun H1 t s1 n1 g1 p2 H2 s2 n2 g2 => ?_⟩
    have gd2 := (s1.trans s2) _ _ gd
    have gt2 := s2 _ _ g1
    refine ⟨_, DGet.t (k := kk (key3 ns n)) gd2 (by rw [kk_map]; exact gt2), ?_⟩
    have hl : ∃ r, (valV kvs (kk (key3 ns n))).getD (.ref p2) = .ref r ∧ H2 r = some (.lst ((pls ns n (key3 ns n)).map vN)) := by
      rcases hE (key3 ns n) with ⟨e1, e2⟩ | ⟨r, _, e2, g, _⟩
      · exact ⟨p2, by rw [e2]; rfl, by rw [e1]; exact g2⟩
      · exact ⟨r, by rw [e2]; rfl, (s1.trans s2) _ _ g⟩
    obtain ⟨r, er, gr⟩ := hl
    have hplt := pls_lt (ns := ns) (n := n) (k := key3 ns n)
    generalize pls ns n (key3 ns n) = L0 at gr q hplt
    refine ⟨r, er, _, gr, fun p3 H3 s3 n3 g3 => ⟨_, g3, ?_⟩⟩
    rw [cut_neg, List.length_map, ← List.map_drop] at g3
    rw [cut_neg, List.length_map, ← List.map_drop]
    rw [show L0.drop (L0.length - 16) = last16 L0 from rfl] at g3 ⊢
    have hLlt : ∀ p ∈ last16 L0, p < n := fun p hp => hplt p (List.mem_of_mem_drop hp)
    generalize last16 L0 = L at g3 q hLlt ⊢
    have s13 := s1.trans (s2.trans s3)
    have tl : ∀ (v6 v7 : Option V) (d0 m0 : Nat) (H' : Hp), Same H3 H' → cmp ns n L.reverse (0, 0) = (d0, m0) → NewH H' (HO.tup [V.int (d0 : Int), V.int (m0 : Int)]) fun p H'' => Q (V.ref p) H'' := fun v6 v7 d0 m0 H' s' e p H5 s5 n5 g5 => by
      rw [e] at q
      exact q H5 p (s13.trans (s'.trans s5)) ((s13.trans s').free n5) g5
    refine lpW (walkV (xs := L.map vN)) (fun i σ H' => ∃ (d0 m0 : Nat) (v6 v7 : Option V), σ = [some (.ref a), some (.int (n : Int)), some (.ref d), some (.int (d0 : Int)), some (.int (m0 : Int)), some (.ref p3), v6, v7] ∧ Same H3 H' ∧ cmp ns n L.reverse (0, 0) = cmp ns n (L.reverse.drop i) (d0, m0)) ⟨0, 0, _, _, rfl, Same.refl _, rfl⟩ (fun i σ H' _ ⟨_, _, _, _, _, sm, _⟩ => sm _ _ g3) ?_ ?_
    · rintro i x σ Hz H5 hi ⟨d0, m0, v6, v7, rfl, sm, hc⟩ ⟨rfl, hx⟩
      rw [List.length_map] at hi hx
      rw [List.getElem?_map] at hx
      obtain ⟨p, hp, rfl⟩ := Option.map_eq_some_iff.mp hx
      have hpn := hLlt p (List.mem_of_getElem? hp)
      have hr : L.reverse[i]? = some p := by rw [List.getElem?_reverse hi]; exact hp
      have hdr : L.reverse.drop i = p :: L.reverse.drop (i + 1) := by
        rw [List.drop_eq_getElem_cons (List.getElem?_eq_some_iff.mp hr).1, (List.getElem?_eq_some_iff.mp hr).2]
      rw [hdr, cmp] at hc
      have ha5 := (s13.trans sm) _ _ ha
      have ev : vN p = .int (p : Int) := rfl
      rw [ev]
      walk_at "vc"
      refine iteP (fun z => ?_) (fun z => ?_)
      · rw [if_pos (by omega)] at hc
        exact tl none none d0 m0 H5 sm hc
      · rw [if_neg (by omega)] at hc
        refine ⟨a, ns, p, n, rfl, ha5, hpn, hn, ⟨_, rfl, ?_⟩⟩
        refine iteP (fun y => ?_) (fun y => ?_)
        · rw [if_pos (show m0 < cE ns p n by omega)] at hc
          exact ⟨n - p, by rw [Int.ofNat_sub (Nat.le_of_lt hpn)], cE ns p n, rfl, sm, hc⟩
        · rw [if_neg (show ¬ m0 < cE ns p n by omega)] at hc
          exact ⟨sm, hc⟩
    · rintro σ H5 ⟨d0, m0, v6, v7, rfl, sm, hc⟩
      rw [List.length_map, show L.length = L.reverse.length by rw [List.length_reverse], List.drop_length] at hc
      walk_at "vc"
      exact tl none none d0 m0 H5 sm hc

def pp (l : List Int) : List Int := if l = [] then [] else ((l.length : Int) - 1) :: l
def sqS (ns : List Int) : Nat → Nat → List Int → List Int → List Int
  | 0, _, found, kept => found ++ pp kept
  | f + 1, n, found, kept =>
    if n < ns.length then
      if 0 < (bm ns n).2 then sqS ns f (n + (bm ns n).2) (found ++ pp kept ++ [((bm ns n).2 : Int) + 125] ++ wl2 (bm ns n).1) []
      else if (kept ++ [gN ns n]).length = 128 then sqS ns f (n + 1) (found ++ pp (kept ++ [gN ns n])) [] else sqS ns f (n + 1) found (kept ++ [gN ns n])
    else found ++ pp kept
def sqF (ns : List Int) : List Int := sqS ns ns.length 0 [] []
theorem cmp_le (ns : List Int) (q : Nat) : ∀ (l : List Nat) (s : Nat × Nat), s.2 ≤ ns.length - q → (∀ p ∈ l, p < q) → s.1 ≤ 4096 → (cmp ns q l s).2 ≤ ns.length - q ∧ (cmp ns q l s).1 ≤ 4096
  | [], s, h, _, h2 => ⟨h, h2⟩
  | p :: ps, s, h, hp, h2 => by
    rw [cmp]
    split
    · exact ⟨h, h2⟩
    · refine cmp_le ns q ps _ ?_ (fun x hx => hp x (List.mem_cons_of_mem _ hx)) ?_
      · split
        · have := cE_le ns p q; show cE ns p q ≤ _; omega
        · exact h
      · split
        · show q - p ≤ 4096; omega
        · exact h2
theorem bm_le (ns : List Int) (n : Nat) : (bm ns n).2 ≤ ns.length - n ∧ (bm ns n).1 ≤ 4096 := by
  unfold bm
  split
  · exact ⟨Nat.zero_le _, Nat.zero_le _⟩
  · refine cmp_le ns n _ _ (Nat.zero_le _) (fun p hp => ?_) (Nat.zero_le _)
    exact pls_lt p (List.mem_of_mem_drop (List.mem_reverse.mp hp))
def Own (H0 : Hp) (pf pk : Addr) (r : Addr) : Prop := H0 r = none ∧ r ≠ pf ∧ r ≠ pk
def sp_squeeze (K : PySem.W.Frag) : Sp := fun vs H Q _ => ∃ (a : Addr) (ns : List Int), vs = [.ref a] ∧ (H a = some (.lst (List.map V.int ns))) ∧ (ns.length ≤ 100000) ∧ (∀ H' p, Same H H' → H p = none → H' p = some (.lst (List.map V.int (sqF ns))) → Q (.ref p) H')
theorem ok_squeeze (T : Txt K mg) : FnOk P w K mg base CX0 3 T.f_squeeze T.fd_squeeze ["data"] (sp_squeeze K) := by
  refine T.F_squeeze.ok sc_squeeze (fun vs H Q E h => ?_) (fun cdv A outer s H vs Q E hr h => ?_)
  · obtain ⟨a, ns, rfl, _⟩ := h
    rfl
  · obtain ⟨a, ns, rfl, ha, hb, q⟩ := h
    refine ⟨_, (pss_cons (ps_set (i := 1) sc_squeeze.nd rfl (Or.inl rfl) (pe_lstS pa_nil))
      (pss_cons (ps_set (i := 2) sc_squeeze.nd rfl (Or.inl rfl) (pe_lstS pa_nil))
      (pss_cons (ps_set (i := 3) sc_squeeze.nd rfl (Or.inl rfl) pe_dnewTS)
      (pss_cons (ps_set (i := 4) sc_squeeze.nd rfl (Or.inl rfl) pe_int)
      (pss_cons (ps_while PassesOwn.never (pt_cmpR op_lt (pv 4) (pe_callB call_lenH (by rfl) T.z_len PySem.boot_len (pa_cons (pv 0) pa_nil)) (nomark _)) (pss_cons (ps_asg (pe_call (ok__best_match T) hr (by rfl) T.g__best_match T.F__best_match.kp T.b__best_match .nil pass0 (pa_cons (pv 0) (pa_cons (pv 4) (pa_cons (pv 3) pa_nil)))) (pg_tupS (n := 2) (by rfl) (pgs_cons (pg_name (i := 5) sc_squeeze.nd rfl (Or.inl rfl)) (pgs_cons (pg_name (i := 6) sc_squeeze.nd rfl (Or.inl rfl)) pgs_nil))))
      (pss_cons (ps_if (pt_cmpR op_gt (pv 6) pe_int (nomark _)) (pss_cons (ps_expr (pe_ml (pe_bm PySem.F.plainAttrs_list PySem.F.slot_list_extend PySem.F.type_list_extend mt_extend (pe_mono (pv 1)) (pa_cons (pe_call (ok_plain_piece T) (hr.mono (by decide)) (by rfl) T.g_plain_piece T.F_plain_piece.kp T.b_plain_piece .nil pass0 (pa_cons (pv 2) pa_nil)) pa_nil))))
      (pss_cons (ps_set (i := 2) sc_squeeze.nd rfl (Or.inl rfl) (pe_lstS pa_nil))
      (pss_cons (ps_expr (pe_ml (pe_bm PySem.F.plainAttrs_list PySem.F.slot_list_append PySem.F.type_list_append mt_append (pe_mono (pv 1)) (pa_cons (pe_op op_add (pe_op op_sub (pv 6) (pe_glob (v := .int 3) (by rfl) T.c__SHORTEST ⟨_, rfl⟩)) (pe_glob (v := .int 128) (by rfl) T.c__FIRST_MATCH ⟨_, rfl⟩)) pa_nil))))
      (pss_one (ps_expr (pe_ml (pe_bm PySem.F.plainAttrs_list PySem.F.slot_list_extend PySem.F.type_list_extend mt_extend (pe_mono (pv 1)) (pa_cons (pe_call (ok_write_low_first T) (hr.mono (by decide)) (by rfl) T.g_write_low_first T.F_write_low_first.kp T.b_write_low_first .nil pass0 (pa_cons (pv 5) (pa_cons pe_int pa_nil))) pa_nil)))))))) (pss_cons (ps_set (i := 6) sc_squeeze.nd rfl (Or.inl rfl) pe_int)
      (pss_cons (ps_expr (pe_ml (pe_bm PySem.F.plainAttrs_list PySem.F.slot_list_append PySem.F.type_list_append mt_append (pe_mono (pv 2)) (pa_cons (pe_ix ix_listH (pv 0) (pv 4) (fun _ _ => rfl)) pa_nil))))
      (pss_one (ps_if (pt_cmpR op_eq (pe_callB call_lenH (by rfl) T.z_len PySem.boot_len (pa_cons (pv 2) pa_nil)) (pe_glob (v := .int 128) (by rfl) T.c__MOST_KEPT ⟨_, rfl⟩) (nomark _)) (pss_cons (ps_expr (pe_ml (pe_bm PySem.F.plainAttrs_list PySem.F.slot_list_extend PySem.F.type_list_extend mt_extend (pe_mono (pv 1)) (pa_cons (pe_call (ok_plain_piece T) (hr.mono (by decide)) (by rfl) T.g_plain_piece T.F_plain_piece.kp T.b_plain_piece .nil pass0 (pa_cons (pv 2) pa_nil)) pa_nil))))
      (pss_one (ps_set (i := 2) sc_squeeze.nd rfl (Or.inl rfl) (pe_lstS pa_nil)))) pss_nil)))))
      (pss_cons (ps_for PassesOwn.never rfl (pi_range2 (by rfl) T.z_range (pa_cons (pv 4) (pa_cons (pe_op op_add (pv 4) (pv 6)) pa_nil))) (pg_name (i := 7) sc_squeeze.nd rfl (Or.inl rfl)) (pss_one (ps_expr (pe_ml (pe_bm PySem.F.plainAttrs_list PySem.F.slot_list_append PySem.F.type_list_append mt_append (pe_mono (pe_dsetdT (hu_of hr) (pv 3) (pe_call (ok__three_bytes T) (hr.mono (by decide)) (by rfl) T.g__three_bytes T.F__three_bytes.kp T.b__three_bytes .nil pass0 (pa_cons (pv 0) (pa_cons (pv 7) pa_nil))) (pe_lstS pa_nil) ⟨rfl, rfl, rfl, rfl⟩)) (pa_cons (pv 7) pa_nil))))))
      (pss_one (ps_aug (i := 4) sc_squeeze.nd rfl (Or.inl rfl) (pv 6) ip_add))))))
      (pss_one (ps_ret (pe_op op_catS (pv 1) (pe_call (ok_plain_piece T) (hr.mono (by decide)) (by rfl) T.g_plain_piece T.F_plain_piece.kp T.b_plain_piece .nil pass0 (pa_cons (pv 2) pa_nil)))))))))), ?_⟩
    refine seq_cut (fun σ H1 => ∃ pf, σ = [some (.ref a), some (.ref pf), none, none, none, none, none, none] ∧ Same H H1 ∧ H pf = none ∧ H1 pf = some (.lst [])) ?_ (fun C hC => ?_)
    rotate_left
    · walk_at "vc"
      exact fun p H1 s1 n1 g1 => hC _ _ ⟨p, rfl, s1, n1, g1⟩
    rintro σ H1 ⟨pf, rfl, s1, nf, g1⟩
    refine seq_cut (fun σ H2 => ∃ pk, σ = [some (.ref a), some (.ref pf), some (.ref pk), none, none, none, none, none] ∧ Same H1 H2 ∧ H1 pk = none ∧ H2 pk = some (.lst [])) ?_ (fun C hC => ?_)
    rotate_left
    · walk_at "vc"
      exact fun p H1 s1 n1 g1 => hC _ _ ⟨p, rfl, s1, n1, g1⟩
    rintro σ H2 ⟨pk, rfl, s2, nk, g2⟩
    refine seq_cut (fun σ H3 => ∃ pd, σ = [some (.ref a), some (.ref pf), some (.ref pk), some (.ref pd), none, none, none, none] ∧ Same H2 H3 ∧ H2 pd = none ∧ H3 pd = some (.dT [])) ?_ (fun C hC => ?_)
    rotate_left
    · walk_at "vc"
      exact fun p H1 s1 n1 g1 => hC _ _ ⟨p, rfl, s1, n1, g1⟩
    rintro σ H3 ⟨pd, rfl, s3, nd, g3⟩
    have nkH : H pk = none := s1.free nk
    have ndH : H pd = none := (s1.trans s2).free nd
    have nfk : pf ≠ pk := fun z => by rw [← z, g1] at nk; cases nk
    have nfd : pf ≠ pd := fun z => by rw [← z, s2 _ _ g1] at nd; cases nd
    have h0 : Plc H3 pd (Own H pf pk) ns 0 := ⟨⟨[], g3, Nat.zero_le _, fun k => .inl ⟨rfl, rfl⟩, fun k k' r h => by cases h⟩⟩
    refine seq_cut (fun σ H' => σ = [some (.ref a), some (.ref pf), some (.ref pk), some (.ref pd), some (.int ((0 : Nat) : Int)), none, none, none] ∧ H' = H3) ?_ (fun C hC => ?_)
    rotate_left
    · walk_at "vc"
      exact hC _ _ ⟨rfl, rfl⟩
    rintro σ _ ⟨rfl, rfl⟩
    refine seq_cut (fun σ H' => ∃ (v5 v6 v7 v4 : Option V) (pk' : Addr) (found kept : List Int), σ = [some (.ref a), some (.ref pf), some (.ref pk'), some (.ref pd), v4, v5, v6, v7] ∧ Same H H' ∧ H' pf = some (.lst (List.map V.int found)) ∧ H' pk' = some (.lst (List.map V.int kept)) ∧ found ++ pp kept = sqF ns ∧ found.length ≤ 400000 ∧ kept.length ≤ 128) ?_ (fun C hC => ?_)
    rotate_left
    · refine wh_by (fun m σ H' => ∃ (n f : Nat) (v5 v6 v7 : Option V) (pk' : Addr) (found kept : List Int), σ = [some (.ref a), some (.ref pf), some (.ref pk'), some (.ref pd), some (.int (n : Int)), v5, v6, v7] ∧ Same H H' ∧ H pk' = none ∧ pf ≠ pk' ∧ pk' ≠ pd ∧ H' pf = some (.lst (List.map V.int found)) ∧ H' pk' = some (.lst (List.map V.int kept)) ∧ sqS ns f n found kept = sqF ns ∧ found.length + kept.length ≤ 4 * n ∧ kept.length < 128 ∧ n ≤ ns.length ∧ ns.length ≤ n + f ∧ Plc H' pd (Own H pf pk') ns n ∧ m = ns.length - n) ns.length ⟨0, ns.length, _, _, _, pk, [], [], rfl, s1.trans (s2.trans s3), nkH, nfk, ?_, (s2.trans s3) _ _ g1, s3 _ _ g2, rfl, Nat.le_refl _, by decide, Nat.zero_le _, by omega, h0, rfl⟩ ?_
      · exact fun z => by rw [← z, g2] at nd; cases nd
      rintro m σ H' ⟨n, f, v5, v6, v7, pk', found, kept, rfl, sm, nk', nfk', nkd, gf, gk, hsq, hfl, hkl, hn, hnf, hP, rfl⟩
      have ha' := sm _ _ ha
      refine ⟨_, rfl, _, rfl, a, _, rfl, ha', _, _, rfl, rfl, _, rfl, ?_⟩
      rw [List.length_map]
      refine iteB rfl (fun z => ?_) (fun z => ?_)
      rotate_left
      · refine hC _ _ ⟨_, _, _, _, pk', found, kept, rfl, sm, gf, gk, ?_, by omega, by omega⟩
        rw [← hsq]
        cases f with
        | zero => rfl
        | succ f => rw [sqS, if_neg (by omega)]
      obtain ⟨f, rfl⟩ : ∃ f', f = f' + 1 := ⟨f - 1, by omega⟩
      rw [sqS, if_pos (show n < ns.length by omega)] at hsq
      refine ⟨fun σ' H'' => ∃ (n' f' : Nat) (v5 v6 v7 : Option V) (pk' : Addr) (found kept : List Int), n < n' ∧ σ' = [some (.ref a), some (.ref pf), some (.ref pk'), some (.ref pd), some (.int (n' : Int)), v5, v6, v7] ∧ Same H H'' ∧ H pk' = none ∧ pf ≠ pk' ∧ pk' ≠ pd ∧ H'' pf = some (.lst (List.map V.int found)) ∧ H'' pk' = some (.lst (List.map V.int kept)) ∧ sqS ns f' n' found kept = sqF ns ∧ found.length + kept.length ≤ 4 * n' ∧ kept.length < 128 ∧ n' ≤ ns.length ∧ ns.length ≤ n' + f' ∧ Plc H'' pd (Own H pf pk') ns n', ?_, ?_⟩
      · rintro σ' H'' ⟨n', f', v5, v6, v7, pk', found, kept, hnn, rfl, h1, h2, h3, h4, h5, h6, h7, h8, h9, h10, h11, h12⟩
        exact ⟨ns.length - n', by omega, n', f', v5, v6, v7, pk', found, kept, rfl, h1, h2, h3, h4, h5, h6, h7, h8, h9, h10, h11, h12, rfl⟩
      have hbl := bm_le ns n
      refine seq_cut (fun σ H1 => σ = [some (.ref a), some (.ref pf), some (.ref pk'), some (.ref pd), some (.int (n : Int)), some (.int ((bm ns n).1 : Nat)), some (.int ((bm ns n).2 : Nat)), v7] ∧ Same H' H1) ?_ (fun C hC => ?_)
      rotate_left
      · walk_at "vc"
        refine ⟨a, pd, ns, n, Own H pf pk', rfl, ha', hn, hP, hb, fun H1 p1 s1 n1 g1 => ?_⟩
        exact ⟨p1, rfl, _, g1, rfl, _, _, rfl, _, _, rfl, rfl, hC _ _ ⟨rfl, s1⟩⟩
      rintro σ H1 ⟨rfl, s1⟩
      have hP1 := hP.frame (H' := H1) (own' := Own H pf pk') (fun o g => s1 _ _ g) fun r o ow g => ⟨s1 _ _ g, ow⟩
      have gf1 := s1 _ _ gf
      have gk1 := s1 _ _ gk
      have ha1 := s1 _ _ ha'
      have sm1 := sm.trans s1
      generalize bm ns n = B at hsq hbl ⊢
      refine seq_cut (fun σ H2 => ∃ (pk2 : Addr) (found2 kept2 : List Int) (mm : Nat), 1 ≤ mm ∧ n + mm ≤ ns.length ∧ σ = [some (.ref a), some (.ref pf), some (.ref pk2), some (.ref pd), some (.int (n : Int)), some (.int (B.1 : Int)), some (.int (mm : Int)), v7] ∧ Same H H2 ∧ H pk2 = none ∧ pf ≠ pk2 ∧ pk2 ≠ pd ∧ H2 pf = some (.lst (List.map V.int found2)) ∧ H2 pk2 = some (.lst (List.map V.int kept2)) ∧ sqS ns f (n + mm) found2 kept2 = sqF ns ∧ found2.length + kept2.length ≤ 4 * (n + mm) ∧ kept2.length < 128 ∧ Plc H2 pd (Own H pf pk2) ns n) ?_ (fun C hC => ?_)
      rotate_left
      · walk_at "vc gf1 gk1 ha1"
        refine iteP (fun y => ?_) (fun y => ?_)
        · rw [if_pos (show 0 < B.2 by omega)] at hsq
          refine ⟨pk', kept, rfl, gk1, by omega, fun H2 p2 s2 n2 g2 => ⟨p2, rfl, _, s2 _ _ gf1, _, g2, ?_, fun p3 H3 s3 n3 g3 => ?_⟩⟩
          · rw [List.length_map, List.length_map]
            split
            · exact cnt_le (show found.length + 0 ≤ _ by omega)
            · exact cnt_le (show found.length + (kept.length + 1) ≤ _ by omega)
          rw [show (if kept = [] then [] else ((kept.length : Int) - 1) :: kept) = pp kept from rfl, map_cat] at s3 n3
          have hpl : (pp kept).length ≤ kept.length + 1 := by unfold pp; split <;> simp
          have gf3 := s3 _ _ upd_same
          have hfl3 : (found ++ pp kept).length ≤ 4 * n + 1 := by rw [List.length_append]; omega
          refine ⟨⟨_, gf3⟩, _, gf3, by rw [List.length_map]; exact cnt_lt (by omega), _, rfl, fun H4 p4 s4 n4 g4 => ?_⟩
          rw [show ((B.2 : Int) - 3 + 128) = (B.2 : Int) + 125 by omega, map_snoc] at s4
          have gf4 := s4 _ _ upd_same
          refine ⟨p4, rfl, _, gf4, _, g4, by rw [List.length_map, List.length_map, List.length_append]; exact cnt_le (show (found ++ pp kept).length + 1 + 2 ≤ _ by omega), ?_⟩
          have sE : Same H (upd H4 pf (.lst (List.map V.int (found ++ pp kept ++ [(B.2 : Int) + 125]) ++ List.map V.int (wl2 (B.1 : Int))))) := same_upd2 ((same_upd2 ((same_upd2 (sm1.trans s2) nf).trans s3) nf).trans s4) nf
          have keep : ∀ r o, r ≠ pf → H1 r = some o → upd H4 pf (.lst (List.map V.int (found ++ pp kept ++ [(B.2 : Int) + 125]) ++ List.map V.int (wl2 (B.1 : Int)))) r = some o := fun r o hr g => by
            rw [upd_ne hr]
            refine s4 _ _ ?_
            rw [upd_ne hr]
            refine s3 _ _ ?_
            rw [upd_ne hr]
            exact s2 _ _ g
          have n31 : H1 p3 = none := by
            cases e : H1 p3 with
            | none => rfl
            | some o =>
              by_cases c : p3 = pf
              · rw [c, upd_same] at n3; cases n3
              · rw [upd_ne c, s2 _ _ e] at n3; cases n3
          have np3f : pf ≠ p3 := fun e => by rw [← e, upd_same] at n3; cases n3
          obtain ⟨kvs, gd1, _⟩ := hP1.ex
          have np3d : p3 ≠ pd := fun e => by rw [e, gd1] at n31; cases n31
          have g3' : H3 p3 = some (.lst []) := g3
          refine hC _ _ ⟨p3, _, [], B.2, by omega, by omega, rfl, sE, ?_, np3f, np3d, by rw [upd_same, map_cat], ?_, hsq, ?_, by decide, ?_⟩
          · exact sm1.free n31
          · rw [upd_ne np3f.symm]
            exact s4 _ _ (by rw [upd_ne np3f.symm]; exact g3')
          · rw [List.length_append, List.length_append]
            show (found ++ pp kept).length + 1 + 2 + 0 ≤ _
            omega
          · exact hP1.frame (fun o g => keep _ _ nfd.symm g) fun r o ow g => ⟨keep _ _ ow.2.1 g, ow.1, ow.2.1, fun e => by rw [e, n31] at g; cases g⟩
        · rw [if_neg (show ¬ 0 < B.2 by omega)] at hsq
          have hx := at_g (ns := ns) (i := n) (show n < ns.length by omega)
          refine ⟨_, hx, cnt_lt (by omega), ?_⟩
          rw [map_snoc]
          have hkl1 : (kept ++ [gN ns n]).length = kept.length + 1 := by rw [List.length_append]; rfl
          have gk2 : upd H1 pk' (.lst (List.map V.int (kept ++ [gN ns n]))) pk' = some (.lst (List.map V.int (kept ++ [gN ns n]))) := upd_same
          have sk : Same H (upd H1 pk' (.lst (List.map V.int (kept ++ [gN ns n])))) := same_upd2 sm1 nk'
          have keep1 : ∀ r o, r ≠ pk' → H1 r = some o → upd H1 pk' (.lst (List.map V.int (kept ++ [gN ns n]))) r = some o := fun r o hr g => by rw [upd_ne hr]; exact g
          generalize kept ++ [gN ns n] = kept1 at gk2 sk keep1 hsq hkl1 ⊢
          generalize upd H1 pk' (.lst (List.map V.int kept1)) = Hk at gk2 sk keep1 ⊢
          have gfk := keep1 _ _ nfk' gf1
          refine iteP (fun x => ?_) (fun x => ?_)
          · rw [if_pos (by omega)] at hsq
            refine ⟨⟨_, gfk⟩, pk', kept1, rfl, gk2, by omega, fun H2 p2 s2 n2 g2 => ⟨p2, rfl, _, s2 _ _ gfk, _, g2, ?_, fun p3 H3 s3 n3 g3 => ?_⟩⟩
            · rw [List.length_map, List.length_map]
              split
              · exact cnt_le (show found.length + 0 ≤ _ by omega)
              · exact cnt_le (show found.length + (kept1.length + 1) ≤ _ by omega)
            rw [show (if kept1 = [] then [] else ((kept1.length : Int) - 1) :: kept1) = pp kept1 from rfl, map_cat] at s3 n3
            have hpl : (pp kept1).length ≤ kept1.length + 1 := by unfold pp; split <;> simp
            have gf3 := s3 _ _ upd_same
            have keep : ∀ r o, r ≠ pf → r ≠ pk' → H1 r = some o → H3 r = some o := fun r o hr hr2 g => s3 _ _ (by rw [upd_ne hr]; exact s2 _ _ (keep1 _ _ hr2 g))
            have n3k : Hk p3 = none := by
              cases e : Hk p3 with
              | none => rfl
              | some o =>
                by_cases c : p3 = pf
                · rw [c, upd_same] at n3; cases n3
                · rw [upd_ne c, s2 _ _ e] at n3; cases n3
            have np3f : pf ≠ p3 := fun e => by rw [← e, upd_same] at n3; cases n3
            have np3k : p3 ≠ pk' := fun e => by rw [e, gk2] at n3k; cases n3k
            obtain ⟨kvs, gd1, _⟩ := hP1.ex
            have np3d : p3 ≠ pd := fun e => by rw [e, keep1 _ _ nkd.symm gd1] at n3k; cases n3k
            refine hC _ _ ⟨p3, _, [], 1, Nat.le_refl _, by omega, rfl, (same_upd2 (sk.trans s2) nf).trans s3, sk.free n3k, np3f, np3d, gf3, g3, hsq, ?_, by decide, ?_⟩
            · rw [List.length_append]
              show found.length + (pp kept1).length + 0 ≤ _
              omega
            · exact hP1.frame (fun o g => keep _ _ nfd.symm nkd.symm g) fun r o ow g => ⟨keep _ _ ow.2.1 ow.2.2 g, ow.1, ow.2.1, fun e => by rw [e] at ow g; rw [keep1 _ _ np3k g] at n3k; cases n3k⟩
          · rw [if_neg (by omega)] at hsq
            exact hC _ _ ⟨pk', found, kept1, 1, Nat.le_refl _, by omega, rfl, sk, nk', nfk', nkd, gfk, gk2, hsq, by omega, by omega, hP1.frame (fun o g => keep1 _ _ nkd.symm g) fun r o ow g => ⟨keep1 _ _ ow.2.2 g, ow⟩⟩
      rintro σ H2 ⟨pk2, found2, kept2, mm, hm1, hmn, rfl, sm2, nk2, nfk2, nkd2, gf2, gk2, hsq2, hfl2, hkl2, hP2⟩
      refine seq_cut (fun σ H3 => ∃ v7, σ = [some (.ref a), some (.ref pf), some (.ref pk2), some (.ref pd), some (.int (n : Int)), some (.int (B.1 : Int)), some (.int (mm : Int)), v7] ∧ Same H H3 ∧ H3 pf = some (.lst (List.map V.int found2)) ∧ H3 pk2 = some (.lst (List.map V.int kept2)) ∧ Plc H3 pd (Own H pf pk2) ns (n + mm)) ?_ (fun C hC => ?_)
      rotate_left
      · walk_at "vc"
        refine ⟨by omega, by omega, by omega, by omega, ?_⟩
        rw [show ((n : Int) + (mm : Int) - (n : Int)).toNat = mm by omega]
        refine lpW (walk_range (lo := (n : Int)) (n := mm)) (fun i σ H3 => ∃ v7, σ = [some (.ref a), some (.ref pf), some (.ref pk2), some (.ref pd), some (.int (n : Int)), some (.int (B.1 : Int)), some (.int (mm : Int)), v7] ∧ Same H H3 ∧ H3 pf = some (.lst (List.map V.int found2)) ∧ H3 pk2 = some (.lst (List.map V.int kept2)) ∧ Plc H3 pd (Own H pf pk2) ns (n + i)) ⟨_, rfl, sm2, gf2, gk2, hP2⟩ (fun _ _ _ _ _ => True.intro) ?_ ?_
        · rintro i x σ Hz H4 hi ⟨v7, rfl, sm4, gf4, gk4, hP4⟩ ⟨rfl, rfl⟩
          obtain ⟨kvs, gd4, hkv, hE, hI⟩ := hP4.ex
          have hni : ((n : Int) + (i : Int)) = ((n + i : Nat) : Int) := by omega
          walk_at "vc"
          rw [hni]
          refine ⟨.inr ⟨kvs, .inl gd4⟩, a, ns, n + i, rfl, sm4 _ _ ha, fun H5 t s5 n5 g5 z H6 s6 n6 g6 => ?_⟩
          have s56 := s5.trans s6
          have gd6 := s56 _ _ gd4
          have hE6 : ∀ k, (pls ns (n + i) k = [] ∧ valV kvs (kk k) = none) ∨ ∃ r, pls ns (n + i) k ≠ [] ∧ valV kvs (kk k) = some (.ref r) ∧ H6 r = some (.lst ((pls ns (n + i) k).map vN)) ∧ Own H pf pk2 r := fun k => by
            rcases hE k with h | ⟨r, h1, h2, h3, h4⟩
            · exact .inl h
            · exact .inr ⟨r, h1, h2, s56 _ _ h3, h4⟩
          have hz : ∀ k r, valV kvs (kk k) = some (.ref r) → r ≠ z := fun k r h e => by
            rcases hE k with ⟨_, h'⟩ | ⟨r', _, h2, h3, _⟩
            · rw [h] at h'; cases h'
            · rw [h] at h2
              obtain rfl := V.ref.inj (Option.some.inj h2)
              rw [e] at h3
              rw [s5 _ _ h3] at n6
              cases n6
          have nzf : z ≠ pf := fun e => by rw [e, s5 _ _ gf4] at n6; cases n6
          have nzk : z ≠ pk2 := fun e => by rw [e, s5 _ _ gk4] at n6; cases n6
          have nzd : pd ≠ z := fun e => by rw [← e, s5 _ _ gd4] at n6; cases n6
          have nzH : H z = none := (sm4.trans s5).free n6
          refine ⟨kvs, gd6, kk (key3 ns (n + i)), t, rfl, by rw [kk_map]; exact s6 _ _ g5, cnt_lt (by omega), fun v hv => ?_, fun hv => ?_⟩
          · rcases hE6 (key3 ns (n + i)) with ⟨_, h⟩ | ⟨r, _, h2, _, _⟩
            · rw [hv] at h; cases h
            rw [hv] at h2
            obtain rfl := Option.some.inj h2
            obtain ⟨l, gl, hll, ow, hP5⟩ := Plc.there gd6 hkv hE6 hI hv
            exact ⟨r, rfl, ⟨_, gl⟩, r, rfl, _, gl, cnt_lt (by omega), same_upd2 (sm4.trans s56) ow.1, by rw [upd_ne ow.2.1.symm]; exact s56 _ _ gf4, by rw [upd_ne ow.2.2.symm]; exact s56 _ _ gk4, hP5⟩
          · have gz : upd H6 pd (.dT (putK kvs (kk (key3 ns (n + i))) (.ref z))) z = some (.lst []) := by rw [upd_ne nzd.symm]; exact g6
            refine ⟨⟨_, gz⟩, _, gz, by decide, same_upd2 (same_upd2 (sm4.trans s56) ndH) nzH, ?_, ?_, Plc.fresh gd6 hkv hE6 hI hv hz ⟨nzH, nzf, nzk⟩ nzd⟩
            · rw [upd_ne nzf.symm, upd_ne nfd]
              exact s56 _ _ gf4
            · rw [upd_ne nzk.symm, upd_ne nkd2]
              exact s56 _ _ gk4
        · rintro σ H4 ⟨v7, rfl, sm4, gf4, gk4, hP4⟩
          exact hC _ _ ⟨v7, rfl, sm4, gf4, gk4, hP4⟩
      rintro σ H3 ⟨v7, rfl, sm3, gf3, gk3, hP3⟩
      walk_at "vc"
      exact ⟨n + mm, by omega, by rw [Int.natCast_add], sm3, nk2, nfk2, nkd2, f, found2, gf3, kept2, gk3, hsq2, hfl2, hkl2, hmn, by omega, hP3⟩
    rintro σ H4 ⟨v5, v6, v7, v4, pk', found, kept, rfl, s4, gf, gk, hsq, hfl, hkl⟩
    walk_at "vc"
    refine ⟨pk', kept, rfl, gk, by omega, fun H5 p5 s5 n5 g5 => ⟨p5, rfl, _, s5 _ _ gf, _, g5, ?_, fun p6 H6 s6 n6 g6 => ?_⟩⟩
    · rw [List.length_map, List.length_map]
      split
      · exact cnt_le (show found.length + 0 ≤ _ by omega)
      · exact cnt_le (show found.length + (kept.length + 1) ≤ _ by omega)
    · rw [map_cat, show (if kept = [] then [] else ((kept.length : Int) - 1) :: kept) = pp kept from rfl, hsq] at g6
      exact q H6 p6 (s4.trans (s5.trans s6)) ((s4.trans s5).free n6) g6

/-! ### matches read -/
def lowF (ns : List Int) : Int := ns.reverse.foldl (fun n b => n * 256 + b) 0
def sp_read_low_first (K : PySem.W.Frag) : Sp := fun vs H Q _ => ∃ (a : Addr) (ns : List Int), vs = [.ref a] ∧ (H a = some (.lst (List.map V.int ns))) ∧ (Q (.int (lowF ns)) H)
theorem ok_read_low_first (T : Txt K mg) : FnOk P w K mg base CX0 1 T.f_read_low_first T.fd_read_low_first ["data"] (sp_read_low_first K) := by
  refine T.F_read_low_first.ok sc_read_low_first (fun vs H Q E h => ?_) (fun cdv A outer s H vs Q E hr h => ?_)
  · obtain ⟨a, ns, rfl, _⟩ := h
    rfl
  · obtain ⟨a, ns, rfl, ha, q⟩ := h
    refine ⟨_, (pss_cons (ps_set (i := 1) sc_read_low_first.nd rfl (Or.inl rfl) pe_int)
      (pss_cons (ps_for PassesOwn.never rfl (pi_revS (by rfl) T.z_reversed (pa_cons (pv 0) pa_nil)) (pg_name (i := 2) sc_read_low_first.nd rfl (Or.inl rfl)) (pss_one (ps_set (i := 1) sc_read_low_first.nd rfl (Or.inl rfl) (pe_op op_add (pe_op op_mul (pv 1) pe_int) (pv 2)))))
      (pss_one (ps_ret (pv 1))))), ?_⟩
    walk_at "vc ha"
    refine lpW (walkVI (ns := ns)) (fun i σ H' => ∃ v2 : Option V, σ = [some (.ref a), some (.int ((ns.reverse.take i).foldl (fun n b => n * 256 + b) 0)), v2] ∧ H' = H) ⟨_, rfl, rfl⟩ ?_ ?_ ?_
    · rintro i σ H' _ ⟨_, _, rfl⟩
      exact ha
    · rintro i x σ H' H2 hi ⟨v2, rfl, rfl⟩ ⟨rfl, b, hb, rfl⟩
      rw [foldl_take _ _ hb]
      walk_at "vc"
    · rintro σ H' ⟨v2, rfl, rfl⟩
      rw [show ns.length = ns.reverse.length by rw [List.length_reverse], List.take_length]
      walk_at "vc"
      exact q

/-! ### spending -/
def spdL (l c : Int) : Int := if l < mx c 0 then 0 else l - mx c 0
def spdB (l c : Int) : Bool := !decide (l < mx c 0)
theorem mx_nat (n : Nat) : mx (n : Int) 0 = n := by
  unfold mx
  rw [if_neg (by omega)]
theorem mx_nn {c : Int} (h : 0 ≤ c) : mx c 0 = c := by
  unfold mx
  rw [if_neg (by omega)]
def sp_spend (K : PySem.W.Frag) : Sp := fun vs H Q _ => ∃ (l c : Int), vs = [.int l, .int c] ∧ (NewH H (.tup [.int (spdL l c), .bl (spdB l c)]) fun p H' => Q (.ref p) H')
theorem ok_spend (T : Txt K mg) : FnOk P w K mg base CX0 1 T.f_spend T.fd_spend ["left", "cost"] (sp_spend K) := by
  refine T.F_spend.ok sc_spend (fun vs H Q E h => ?_) (fun cdv A outer s H vs Q E hr h => ?_)
  · obtain ⟨l, c, rfl, _⟩ := h
    rfl
  · obtain ⟨l, c, rfl, q⟩ := h
    refine ⟨_, (pss_cons (ps_set (i := 1) sc_spend.nd rfl (Or.inl rfl) (pe_callB (call_max2 rfl) (by rfl) T.z_max (by decide +kernel) (pa_cons (pv 1) (pa_cons pe_int pa_nil))))
      (pss_cons (ps_if (pt_cmpR op_gt (pv 1) (pv 0) (nomark _)) (pss_one (ps_ret (pe_tupS (pa_cons pe_int (pa_cons pe_bl pa_nil))))) pss_nil)
      (pss_one (ps_ret (pe_tupS (pa_cons (pe_op op_sub (pv 0) (pv 1)) (pa_cons pe_bl pa_nil))))))), ?_⟩
    walk_at "vc"
    unfold spdL spdB at q
    refine iteP (fun e => ?_) (fun e => ?_)
    · simp only [if_pos e, decide_eq_true e, Bool.not_true] at q
      exact q
    · simp only [if_neg e, decide_eq_false e, Bool.not_false] at q
      exact q

def Byt (ns : List Int) : Prop := ∀ b ∈ ns, 0 ≤ b ∧ b < 256

theorem gN_byt {ns : List Int} (hB : Byt ns) (i : Nat) : 0 ≤ gN ns i ∧ gN ns i < 256 := by
  unfold gN
  rw [List.getD_eq_getElem?_getD]
  cases h : ns[i]? with
  | none => decide
  | some b => exact hB b (List.mem_of_getElem? h)
theorem sl_byt {ns : List Int} (h : Byt ns) (i j : Nat) : Byt (sl ns i j) := fun b hb => h b (List.mem_of_mem_drop (List.mem_of_mem_take hb))
def again (fs db : List Int) (many : Nat) : List Int :=
  if db.length < 2 ∨ lowF db = 0 ∨ (fs.length : Int) < lowF db then [] else
    (List.replicate (many / (sl fs (fs.length - (lowF db).toNat) (fs.length - (lowF db).toNat + many)).length + 1) (sl fs (fs.length - (lowF db).toNat) (fs.length - (lowF db).toNat + many))).flatten.take many
def mB (ns fs : List Int) (i : Nat) : List Int := if gN ns i < 128 then sl ns (i + 1) (i + (gN ns i).toNat + 2) else again fs (sl ns (i + 1) (i + 3)) ((gN ns i).toNat - 125)
def mE (ns : List Int) (i : Nat) : Nat := if gN ns i < 128 then i + (gN ns i).toNat + 2 else i + 3
theorem lowF_nn {ns : List Int} (h : Byt ns) : 0 ≤ lowF ns := by
  unfold lowF
  have : ∀ (l : List Int) (s : Int), 0 ≤ s → (∀ b ∈ l, 0 ≤ b ∧ b < 256) → 0 ≤ l.foldl (fun n b => n * 256 + b) s := by
    intro l
    induction l with
    | nil => exact fun s hs _ => hs
    | cons b r ih =>
      intro s hs hl
      rw [List.foldl_cons]
      have := hl b List.mem_cons_self
      exact ih _ (by omega) fun c hc => hl c (List.mem_cons_of_mem _ hc)
  exact this _ 0 (Int.le_refl 0) fun b hb => h b (List.mem_reverse.mp hb)
def sp_read_plain_piece (K : PySem.W.Frag) : Sp := fun vs H Q _ => ∃ (a : Addr) (ns : List Int) (i : Nat), vs = [.ref a, .int (i : Int)] ∧ (H a = some (.lst (List.map V.int ns))) ∧ (i < ns.length) ∧ (0 ≤ gN ns i) ∧ (∀ H' p q, Same H H' → H p = none → H q = none → H' p = some (.tup [.ref q, .int ((i + (gN ns i).toNat + 2 : Nat) : Int)]) → H' q = some (.lst (List.map V.int (sl ns (i + 1) (i + (gN ns i).toNat + 2)))) → Q (.ref p) H')
theorem ok_read_plain_piece (T : Txt K mg) : FnOk P w K mg base CX0 1 T.f_read_plain_piece T.fd_read_plain_piece ["data", "at"] (sp_read_plain_piece K) := by
  refine T.F_read_plain_piece.ok sc_read_plain_piece (fun vs H Q E h => ?_) (fun cdv A outer s H vs Q E hr h => ?_)
  · obtain ⟨a, ns, i, rfl, _⟩ := h
    rfl
  · obtain ⟨a, ns, i, rfl, ha, hi, h0, q⟩ := h
    refine ⟨_, (pss_cons (ps_set (i := 2) sc_read_plain_piece.nd rfl (Or.inl rfl) (pe_op op_add (pe_op op_add (pv 1) (pe_ix ix_listH (pv 0) (pv 1) (fun _ _ => rfl))) pe_int))
      (pss_one (ps_ret (pe_tupS (pa_cons (pe_slice sl_listS (pv 0) (po_some (pe_op op_add (pv 1) pe_int)) (po_some (pv 2))) (pa_cons (pv 2) pa_nil)))))), ?_⟩
    walk_at "vc ha"
    refine ⟨_, at_g hi, _, rfl, ?_⟩
    obtain ⟨m, hm⟩ := natOf h0
    rw [hm, Int.toNat_natCast] at q
    rw [hm]
    intro p1 H1 s1 n1 g1
    rw [show (i : Int) + 1 = ((i + 1 : Nat) : Int) by omega, show (i : Int) + (m : Int) + 2 = ((i + m + 2 : Nat) : Int) by omega, cut_sl] at g1
    rw [show (i : Int) + (m : Int) + 2 = ((i + m + 2 : Nat) : Int) by omega]
    exact fun p2 H2 s2 n2 g2 => q H2 p2 p1 (s1.trans s2) (s1.free n2) n1 g2 (s2 _ _ g1)
def sp__given_again (K : PySem.W.Frag) : Sp := fun vs H Q _ => ∃ (g d : Addr) (fs db : List Int) (many : Nat), vs = [.ref g, .ref d, .int (many : Int)] ∧ (H g = some (.lst (List.map V.int fs))) ∧ (H d = some (.lst (List.map V.int db))) ∧ (Byt db) ∧ (1 ≤ many ∧ many ≤ 1000) ∧ (∀ H' p, Same H H' → H p = none → H' p = some (.lst (List.map V.int (again fs db many))) → Q (.ref p) H')
theorem ok__given_again (T : Txt K mg) : FnOk P w K mg base CX0 2 T.f__given_again T.fd__given_again ["given", "distance_bytes", "many"] (sp__given_again K) := by
  refine T.F__given_again.ok sc__given_again (fun vs H Q E h => ?_) (fun cdv A outer s H vs Q E hr h => ?_)
  · obtain ⟨g, d, fs, db, many, rfl, _⟩ := h
    rfl
  · obtain ⟨g, d, fs, db, many, rfl, hg, hd, hB, hm, q⟩ := h
    refine ⟨_, (pss_cons (ps_set (i := 3) sc__given_again.nd rfl (Or.inl rfl) (pe_call (ok_read_low_first T) hr (by rfl) T.g_read_low_first T.F_read_low_first.kp T.b_read_low_first .nil pass0 (pa_cons (pv 1) pa_nil)))
      (pss_cons (ps_if (PW.pt (pw_or (pt_cmpR op_lt (pe_callB call_lenH (by rfl) T.z_len PySem.boot_len (pa_cons (pv 1) pa_nil)) pe_int (nomark _)) (pw_or (pt_cmpR op_eq (pv 3) pe_int (nomark _)) (pw_or1 (pt_cmpR op_gt (pv 3) (pe_callB call_lenH (by rfl) T.z_len PySem.boot_len (pa_cons (pv 0) pa_nil)) (nomark _)))))) (pss_one (ps_ret (pe_lstS pa_nil))) pss_nil)
      (pss_cons (ps_set (i := 4) sc__given_again.nd rfl (Or.inl rfl) (pe_op op_sub (pe_callB call_lenH (by rfl) T.z_len PySem.boot_len (pa_cons (pv 0) pa_nil)) (pv 3)))
      (pss_cons (ps_set (i := 5) sc__given_again.nd rfl (Or.inl rfl) (pe_slice sl_listS (pv 0) (po_some (pv 4)) (po_some (pe_op op_add (pv 4) (pv 2)))))
      (pss_one (ps_ret (pe_slice sl_listS (pe_op op_repL (pv 5) (pe_op op_add (pe_op op_fdiv (pv 2) (pe_callB call_lenH (by rfl) T.z_len PySem.boot_len (pa_cons (pv 5) pa_nil))) pe_int)) po_none (po_some (pv 2))))))))), ?_⟩
    walk_at "vc hg hd"
    refine ⟨d, db, rfl, hd, ?_⟩
    walk_at "vc hg hd"
    unfold again at q
    have nil : (db.length < 2 ∨ lowF db = 0 ∨ (fs.length : Int) < lowF db) → NewH H (HO.lst []) fun p H' => Q (V.ref p) H' := fun h p1 H1 s1 n1 g1 => by
      rw [if_pos h] at q
      exact q H1 p1 s1 n1 g1
    refine iteP (fun z => nil (.inl (by omega))) fun z1 => iteP (fun z => nil (.inr (.inl z))) fun z2 => iteP (fun z => nil (.inr (.inr z))) fun z3 => ?_
    rw [if_neg (by rintro (h | h | h); omega; exact z2 h; exact z3 h)] at q
    have hnn := lowF_nn hB
    obtain ⟨dd, hdd⟩ := natOf hnn
    rw [hdd, Int.toNat_natCast] at q
    rw [hdd] at z2 z3 ⊢
    obtain ⟨st, hst⟩ : ∃ st : Nat, fs.length - dd = st := ⟨_, rfl⟩
    rw [hst] at q
    rw [show (fs.length : Int) - (dd : Int) = (st : Int) by omega]
    intro p1 H1 s1 n1 g1
    rw [show (st : Int) + (many : Int) = ((st + many : Nat) : Int) by omega, cut_sl] at g1
    have hl := sl_len fs st (st + many)
    generalize sl fs st (st + many) = xs at g1 q hl
    have hx1 : 1 ≤ xs.length := by omega
    have hx2 : xs.length ≤ many := by omega
    have hq : (many : Int) / (xs.length : Int) + 1 = ((many / xs.length + 1 : Nat) : Int) := by rw [Int.natCast_add, Int.natCast_ediv]; rfl
    have hdl : many / xs.length ≤ many := Nat.div_le_self _ _
    have hml : xs.length * (many / xs.length) ≤ many := Nat.mul_div_le _ _
    refine ⟨_, g1, by rw [List.length_map]; omega, by rw [List.length_map]; omega, _, g1, ?_⟩
    rw [List.length_map, hq, Int.toNat_natCast]
    have hmm := hm.2
    clear hq
    generalize many / xs.length = qd at hdl hml q ⊢
    refine ⟨by omega, by omega, cnt_le (by rw [Nat.mul_add]; omega), fun p2 H2 s2 n2 g2 => ⟨_, g2, fun p3 H3 s3 n3 g3 => ?_⟩⟩
    rw [show (List.replicate (qd + 1) (List.map V.int xs)).flatten = List.map V.int (List.replicate (qd + 1) xs).flatten by rw [List.map_flatten, List.map_replicate], cutI_take] at g3
    exact q H3 p3 (s1.trans (s2.trans s3)) ((s1.trans s2).free n3) g3
theorem again_len (fs db : List Int) (many : Nat) : (again fs db many).length ≤ many := by
  unfold again
  split
  · exact Nat.zero_le _
  · rw [List.length_take]; exact Nat.min_le_left _ _
theorem mB_len {ns : List Int} (hB : Byt ns) (fs : List Int) (i : Nat) : (mB ns fs i).length ≤ 131 := by
  have hb := gN_byt hB i
  unfold mB
  split
  · rw [sl_len]; omega
  · refine Nat.le_trans (again_len _ _ _) ?_
    omega
theorem mE_rng {ns : List Int} (hB : Byt ns) (i : Nat) : i < mE ns i ∧ mE ns i ≤ i + 130 := by
  have hb := gN_byt hB i
  unfold mE
  split <;> omega
def sp__match_at (K : PySem.W.Frag) : Sp := fun vs H Q _ => ∃ (a g : Addr) (ns fs : List Int) (i : Nat), vs = [.ref a, .int (i : Int), .ref g] ∧ (H a = some (.lst (List.map V.int ns))) ∧ (H g = some (.lst (List.map V.int fs))) ∧ (Byt ns) ∧ (i < ns.length) ∧ (∀ H' p q, Same H H' → H p = none → H q = none → H' p = some (.tup [.ref q, .int (mE ns i : Nat)]) → H' q = some (.lst (List.map V.int (mB ns fs i))) → Q (.ref p) H')
theorem ok__match_at (T : Txt K mg) : FnOk P w K mg base CX0 3 T.f__match_at T.fd__match_at ["data", "at", "given"] (sp__match_at K) := by
  refine T.F__match_at.ok sc__match_at (fun vs H Q E h => ?_) (fun cdv A outer s H vs Q E hr h => ?_)
  · obtain ⟨a, g, ns, fs, i, rfl, _⟩ := h
    rfl
  · obtain ⟨a, g, ns, fs, i, rfl, ha, hg, hB, hi, q⟩ := h
    refine ⟨_, (pss_cons (ps_set (i := 3) sc__match_at.nd rfl (Or.inl rfl) (pe_ix ix_listH (pv 0) (pv 1) (fun _ _ => rfl)))
      (pss_cons (ps_if (pt_cmpR op_lt (pv 3) (pe_glob (v := .int 128) (by rfl) T.c__FIRST_MATCH ⟨_, rfl⟩) (nomark _)) (pss_one (ps_ret (pe_call (ok_read_plain_piece T) (hr.mono (by decide)) (by rfl) T.g_read_plain_piece T.F_read_plain_piece.kp T.b_read_plain_piece .nil pass0 (pa_cons (pv 0) (pa_cons (pv 1) pa_nil))))) pss_nil)
      (pss_one (ps_ret (pe_tupS (pa_cons (pe_call (ok__given_again T) hr (by rfl) T.g__given_again T.F__given_again.kp T.b__given_again .nil pass0 (pa_cons (pv 2) (pa_cons (pe_slice sl_listS (pv 0) (po_some (pe_op op_add (pv 1) pe_int)) (po_some (pe_op op_add (pv 1) pe_int))) (pa_cons (pe_op op_add (pe_op op_sub (pv 3) (pe_glob (v := .int 128) (by rfl) T.c__FIRST_MATCH ⟨_, rfl⟩)) (pe_glob (v := .int 3) (by rfl) T.c__SHORTEST ⟨_, rfl⟩)) pa_nil)))) (pa_cons (pe_op op_add (pv 1) pe_int) pa_nil))))))), ?_⟩
    have hb := gN_byt hB i
    walk_at "vc ha"
    refine ⟨_, at_g hi, _, rfl, iteP (fun z => ?_) (fun z => ?_)⟩
    · refine ⟨a, ns, i, rfl, ha, hi, hb.1, fun H1 p q1 s1 n1 nq g1 gq => q H1 p q1 s1 n1 nq ?_ ?_⟩
      · rw [g1]; unfold mE; rw [if_pos z]
      · rw [gq]; unfold mB; rw [if_pos z]
    · intro p1 H1 s1 n1 g1
      rw [show (i : Int) + 1 = ((i + 1 : Nat) : Int) by omega, show (i : Int) + 3 = ((i + 3 : Nat) : Int) by omega, cut_sl] at g1
      refine ⟨_, rfl, g, p1, fs, _, (gN ns i).toNat - 125, ?_, s1 _ _ hg, g1, sl_byt hB _ _, by omega, fun H2 p2 s2 n2 g2 => ?_⟩
      · rw [show gN ns i - 128 + 3 = (((gN ns i).toNat - 125 : Nat) : Int) by omega]
      · intro p3 H3 s3 n3 g3
        refine q H3 p3 p2 (s1.trans (s2.trans s3)) ((s1.trans s2).free n3) (s1.free n2) ?_ ?_
        · rw [g3]; unfold mE; rw [if_neg z]; rfl
        · rw [s3 _ _ g2]; unfold mB; rw [if_neg z]
def rdM (ns : List Int) : Nat → Nat → Int → List Int → List Int × Int
  | 0, _, lf, fs => (fs, lf)
  | k + 1, i, lf, fs => if i < ns.length then (if lf < ((mB ns fs i).length : Int) then (fs, 0) else rdM ns k (mE ns i) (lf - (mB ns fs i).length) (fs ++ mB ns fs i)) else (fs, lf)
def usR (ns : List Int) (left : Int) : List Int × Int := if left < (ns.length : Int) then ([], 0) else rdM ns ns.length 0 (left - ns.length) []
def sp_read_pieces (K : PySem.W.Frag) (fr : Addr) : Sp := fun vs H Q _ => ∃ (a : Addr) (ns : List Int) (left : Int), vs = [.ref a, .int left, .ref fr] ∧ H a = some (.lst (List.map V.int ns)) ∧ Byt ns ∧ ns.length ≤ 20000 ∧
  ∀ H' p q, Same H H' → H p = none → H q = none → H' p = some (.tup [.ref q, .int (usR ns left).2]) → H' q = some (.lst (List.map V.int (usR ns left).1)) → Q (.ref p) H'
theorem ok_read_pieces (T : Txt K mg) : FnOk P w K mg base CX0 4 T.f_read_pieces T.fd_read_pieces ["data", "left", "piece_at"] (sp_read_pieces K T.f__match_at) := by
  refine T.F_read_pieces.ok sc_read_pieces (fun vs H Q E h => ?_) (fun cdv A outer s H vs Q E hr h => ?_)
  · obtain ⟨a, ns, left, rfl, _⟩ := h
    rfl
  · obtain ⟨a, ns, left, rfl, ha, hB, hn, q⟩ := h
    refine ⟨_, (pss_cons (ps_asg (pe_call (ok_spend T) (hr.mono (by decide)) (by rfl) T.g_spend T.F_spend.kp T.b_spend .nil pass0 (pa_cons (pv 1) (pa_cons (pe_callB call_lenH (by rfl) T.z_len PySem.boot_len (pa_cons (pv 0) pa_nil)) pa_nil))) (pg_tupS (n := 2) (by rfl) (pgs_cons (pg_name (i := 1) sc_read_pieces.nd rfl (Or.inl rfl)) (pgs_cons (pg_name (i := 3) sc_read_pieces.nd rfl (Or.inl rfl)) pgs_nil))))
      (pss_cons (ps_set (i := 4) sc_read_pieces.nd rfl (Or.inl rfl) (pe_lstS pa_nil))
      (pss_cons (ps_set (i := 5) sc_read_pieces.nd rfl (Or.inl rfl) pe_int)
      (pss_cons (ps_while PassesOwn.never (PW.pt (pw_and (pt_val (pv 3)) (pw_and1 (pt_cmpR op_lt (pv 5) (pe_callB call_lenH (by rfl) T.z_len PySem.boot_len (pa_cons (pv 0) pa_nil)) (nomark _))))) (pss_cons (ps_asg (pe_callL (i := 2) (ok__match_at T) hr rfl (Or.inl rfl) T.F__match_at.kp T.b__match_at .nil pass0 (pa_cons (pv 0) (pa_cons (pv 5) (pa_cons (pv 4) pa_nil)))) (pg_tupS (n := 2) (by rfl) (pgs_cons (pg_name (i := 6) sc_read_pieces.nd rfl (Or.inl rfl)) (pgs_cons (pg_name (i := 5) sc_read_pieces.nd rfl (Or.inl rfl)) pgs_nil))))
      (pss_cons (ps_asg (pe_call (ok_spend T) (hr.mono (by decide)) (by rfl) T.g_spend T.F_spend.kp T.b_spend .nil pass0 (pa_cons (pv 1) (pa_cons (pe_callB call_lenH (by rfl) T.z_len PySem.boot_len (pa_cons (pv 6) pa_nil)) pa_nil))) (pg_tupS (n := 2) (by rfl) (pgs_cons (pg_name (i := 1) sc_read_pieces.nd rfl (Or.inl rfl)) (pgs_cons (pg_name (i := 3) sc_read_pieces.nd rfl (Or.inl rfl)) pgs_nil))))
      (pss_one (ps_if (pt_val (pv 3)) (pss_one (ps_expr (pe_ml (pe_bm PySem.F.plainAttrs_list PySem.F.slot_list_extend PySem.F.type_list_extend mt_extend (pe_mono (pv 4)) (pa_cons (pv 6) pa_nil))))) pss_nil)))))
      (pss_one (ps_ret (pe_tupS (pa_cons (pv 4) (pa_cons (pv 1) pa_nil))))))))), ?_⟩
    refine seq_cut (fun σ H1 => σ = [some (.ref a), some (.int (spdL left (ns.length : Int))), some (.ref T.f__match_at), some (.bl (spdB left (ns.length : Int))), none, none, none] ∧ Same H H1) ?_ (fun C hC => ?_)
    rotate_left
    · walk_at "vc ha"
      refine ⟨left, _, rfl, fun p1 H1 s1 n1 g1 => ⟨p1, rfl, _, g1, rfl, _, _, rfl, _, _, rfl, rfl, hC _ _ ⟨rfl, s1⟩⟩⟩
    rintro σ H1 ⟨rfl, s1⟩
    refine seq_cut (fun σ H2 => ∃ pf, σ = [some (.ref a), some (.int (spdL left (ns.length : Int))), some (.ref T.f__match_at), some (.bl (spdB left (ns.length : Int))), some (.ref pf), none, none] ∧ Same H H2 ∧ H pf = none ∧ H2 pf = some (.lst [])) ?_ (fun C hC => ?_)
    rotate_left
    · walk_at "vc"
      exact fun p H2 s2 n2 g2 => hC _ _ ⟨p, rfl, s1.trans s2, s1.free n2, g2⟩
    rintro σ H2 ⟨pf, rfl, s2, nf, g2⟩
    refine seq_cut (fun σ H3 => σ = [some (.ref a), some (.int (spdL left (ns.length : Int))), some (.ref T.f__match_at), some (.bl (spdB left (ns.length : Int))), some (.ref pf), some (.int ((0 : Nat) : Int)), none] ∧ H2 = H3) ?_ (fun C hC => ?_)
    rotate_left
    · walk_at "vc"
      exact hC _ _ ⟨rfl, rfl⟩
    rintro σ _ ⟨rfl, rfl⟩
    refine seq_cut (fun σ H' => ∃ (lf : Int) (en : Bool) (v5 v6 : Option V), σ = [some (.ref a), some (.int lf), some (.ref T.f__match_at), some (.bl en), some (.ref pf), v5, v6] ∧ Same H H' ∧ lf = (usR ns left).2 ∧ H' pf = some (.lst (List.map V.int (usR ns left).1))) ?_ (fun C hC => ?_)
    rotate_left
    · refine wh_by (fun m σ H' => ∃ (lf : Int) (en : Bool) (fs : List Int) (i : Nat) (pv : Option V), σ = [some (.ref a), some (.int lf), some (.ref T.f__match_at), some (.bl en), some (.ref pf), some (.int (i : Int)), pv] ∧ Same H H' ∧ H' pf = some (.lst (List.map V.int fs)) ∧ fs.length ≤ 131 * i ∧ i ≤ ns.length + 200 ∧
        (en = true → ∃ k, ns.length ≤ i + k ∧ rdM ns k i lf fs = usR ns left) ∧ (en = false → (fs, (0 : Int)) = usR ns left ∧ lf = 0) ∧ m = (if en = true then ns.length + 1 - i else 0)) _ ⟨spdL left (ns.length : Int), spdB left (ns.length : Int), [], 0, none, rfl, s2, g2, Nat.le_refl _, by omega, ?_, ?_, rfl⟩ ?_
      · intro e
        have e1 : ¬ left < ns.length := by
          unfold spdB at e
          rw [mx_nat] at e
          simpa using e
        refine ⟨ns.length, by omega, ?_⟩
        unfold usR spdL
        rw [mx_nat, if_neg e1, if_neg e1]
      · intro e
        have e1 : left < ns.length := by
          unfold spdB at e
          rw [mx_nat] at e
          simpa using e
        unfold usR spdL
        rw [mx_nat, if_pos e1, if_pos e1]
        exact ⟨rfl, rfl⟩
      rintro m σ H' ⟨lf, en, fs, i, pv, rfl, sm, gf, hfl, hi, hT, hF, rfl⟩
      have ha' := sm _ _ ha
      cases en with
      | false =>
        obtain ⟨h1, h2⟩ := hF rfl
        walk_at "vc"
        exact hC _ _ ⟨lf, false, _, _, rfl, sm, by rw [h2, ← h1], by rw [← h1]; exact gf⟩
      | true =>
        obtain ⟨k, hk, hR⟩ := hT rfl
        walk_at "vc ha'"
        refine iteP (fun z => ?_) (fun z => ?_)
        rotate_left
        · have e : (fs, lf) = usR ns left := by
            rw [← hR]
            cases k with
            | zero => rfl
            | succ k => rw [rdM, if_neg (by omega)]
          exact hC _ _ ⟨lf, true, _, _, rfl, sm, by rw [← e], by rw [← e]; exact gf⟩
        have e1 : i < ns.length := by omega
        obtain ⟨k, rfl⟩ : ∃ k', k = k' + 1 := ⟨k - 1, by omega⟩
        rw [rdM, if_pos e1] at hR
        have hml := mB_len hB fs i
        have hme := mE_rng hB i
        refine ⟨fun σ' H'' => ∃ (lf' : Int) (en : Bool) (fs' : List Int) (pv : Option V), σ' = [some (.ref a), some (.int lf'), some (.ref T.f__match_at), some (.bl en), some (.ref pf), some (.int (mE ns i : Nat)), pv] ∧ Same H H'' ∧ H'' pf = some (.lst (List.map V.int fs')) ∧ fs'.length ≤ fs.length + 131 ∧ (en = true → rdM ns k (mE ns i) lf' fs' = usR ns left) ∧ (en = false → (fs', (0 : Int)) = usR ns left ∧ lf' = 0), ?_, ?_⟩
        · rintro σ' H'' ⟨lf', en, fs', pv, rfl, h1, h2, h3, h4, h5⟩
          refine ⟨_, ?_, lf', en, fs', mE ns i, ⟨_, rfl⟩, h1, h2, by omega, by omega, fun e => ⟨k, by omega, h4 e⟩, h5, rfl⟩
          split <;> omega
        refine ⟨a, pf, ns, fs, i, rfl, ha', gf, hB, e1, fun H1 p1 q1 s1 n1 nq g1 gq => ⟨p1, rfl, _, g1, rfl, _, _, rfl, _, _, rfl, rfl, q1, rfl, _, gq, ?_⟩⟩
        have gf1 := s1 _ _ gf
        refine ⟨lf, _, rfl, fun p2 H2 s2 n2 g2 => ⟨p2, rfl, _, g2, rfl, _, _, rfl, _, _, rfl, rfl, ?_⟩⟩
        rw [List.length_map]
        generalize mB ns fs i = B at gq hR hml
        have gf2 := s2 _ _ gf1
        have gq2 := s2 _ _ gq
        have sm2 := sm.trans (s1.trans s2)
        refine ⟨_, rfl, ?_⟩
        by_cases e3 : lf < (B.length : Int)
        · rw [if_pos e3] at hR
          rw [show spdB lf (B.length : Int) = false by unfold spdB; rw [mx_nat, decide_eq_true e3]; rfl, show spdL lf (B.length : Int) = 0 by unfold spdL; rw [mx_nat, if_pos e3]]
          refine iteF' rfl ⟨0, false, fs, _, rfl, sm2, gf2, by omega, (fun h => nomatch h), fun _ => ⟨hR, rfl⟩⟩
        · rw [if_neg e3] at hR
          rw [show spdB lf (B.length : Int) = true by unfold spdB; rw [mx_nat, decide_eq_false e3]; rfl, show spdL lf (B.length : Int) = lf - B.length by unfold spdL; rw [mx_nat, if_neg e3]]
          refine iteT' rfl ⟨⟨_, gf2⟩, q1, rfl, _, gf2, _, gq2, by rw [List.length_map, List.length_map]; exact cnt_leL (by omega), ?_⟩
          exact ⟨_, true, fs ++ B, _, rfl, same_upd2 sm2 nf, by rw [upd_same, map_cat], by rw [List.length_append]; omega, (fun _ => hR), fun h => nomatch h⟩
    rintro σ H3 ⟨lf, en, v5, v6, rfl, s3, rfl, g3⟩
    walk_at "vc"
    exact fun p H4 s4 n4 g4 => q H4 p pf (s3.trans s4) (s3.free n4) nf g4 (s4 _ _ g3)
def sp_unsqueeze (K : PySem.W.Frag) : Sp := fun vs H Q _ => ∃ (a : Addr) (ns : List Int) (left : Int), vs = [.ref a, .int left] ∧ (H a = some (.lst (List.map V.int ns))) ∧ (Byt ns) ∧ (ns.length ≤ 20000) ∧ (∀ H' p q, Same H H' → H p = none → H q = none → H' p = some (.tup [.ref q, .int (usR ns left).2]) → H' q = some (.lst (List.map V.int (usR ns left).1)) → Q (.ref p) H')
theorem ok_unsqueeze (T : Txt K mg) : FnOk P w K mg base CX0 5 T.f_unsqueeze T.fd_unsqueeze ["data", "left"] (sp_unsqueeze K) := by
  refine T.F_unsqueeze.ok sc_unsqueeze (fun vs H Q E h => ?_) (fun cdv A outer s H vs Q E hr h => ?_)
  · obtain ⟨a, ns, left, rfl, _⟩ := h
    rfl
  · obtain ⟨a, ns, left, rfl, ha, hB, hn, q⟩ := h
    refine ⟨_, (pss_one (ps_ret (pe_call (ok_read_pieces T) hr (by rfl) T.g_read_pieces T.F_read_pieces.kp T.b_read_pieces .nil pass0 (pa_cons (pv 0) (pa_cons (pv 1) (pa_cons (pe_glob (v := .ref T.f__match_at) (by rfl) T.g__match_at rfl) pa_nil)))))), ?_⟩
    walk_at "vc sp_read_pieces"
    exact ⟨ns, ha, hB, hn, q⟩

def sp__law_cell (K : PySem.W.Frag) (a : Addr) (ns : List Int) : Sp := fun vs H Q _ => ∃ (k : Int), vs = [.ref a, .int k] ∧ (0 ≤ k) ∧ (SqL K H a (List.map V.int ns)) ∧ (Q (.int (cellA ns k.toNat)) H)
theorem ok__law_cell (T : Txt K mg) (a : Addr) (ns : List Int) : FnOk P w K mg base CX0 1 T.f__law_cell T.fd__law_cell ["script", "k"] (sp__law_cell K a ns) := by
  refine T.F__law_cell.ok sc__law_cell (fun vs H Q E h => ?_) (fun cdv A outer s H vs Q E hr h => ?_)
  · obtain ⟨k, rfl, _⟩ := h
    rfl
  · obtain ⟨k, rfl, hk0, hS, q⟩ := h
    refine ⟨_, (pss_cons (ps_if (pt_cmpR op_lt (pv 1) (pe_callB call_len_seq (by rfl) T.z_len PySem.boot_len (pa_cons (pv 0) pa_nil)) (nomark _)) (pss_one (ps_ret (pe_callTy call_int1 (by rfl) T.z_int (by decide +kernel) (pa_cons (pe_ix ix_list (pv 0) (pv 1) (fun _ _ => rfl)) pa_nil)))) pss_nil)
      (pss_one (ps_ret pe_int))), ?_⟩
    obtain ⟨k, rfl⟩ := natOf hk0
    rw [Int.toNat_natCast] at q
    refine ⟨_, rfl, _, rfl, a, _, rfl, .inl hS, _, _, rfl, rfl, _, rfl, ite2 (fun e => ?_) (fun e => ?_)⟩
    · have e1 := of_decide_eq_true e
      rw [List.length_map] at e1
      have hk : k < ns.length := by omega
      refine ⟨_, rfl, _, rfl, a, _, _, .int (cellA ns k), rfl, rfl, hS, ?_, .inl ⟨_, rfl, q⟩⟩
      refine atI_nat ?_
      rw [List.getElem?_map, List.getElem?_eq_getElem hk]
      simp [cellA, hk]
    · have e1 : ¬ ((k : Int) < ((ns.map V.int).length : Int)) := fun z => e (decide_eq_true z)
      rw [List.length_map] at e1
      have hk : ns.length ≤ k := by omega
      have e0 : cellA ns k = 0 := by simp [cellA, hk]
      rw [e0] at q
      exact q

/-! ### the law's drawing state -/
def DrawSt (ps : Addr) (H : Hp) : Prop := ∃ x y : Int, H ps = some (.lst [.int x, .int y]) ∧ 0 ≤ x ∧ 0 ≤ y
/-- the state has gone on, all else that stood stands -/
structure Adv (ps : Addr) (H H' : Hp) : Prop where
  st : DrawSt ps H'
  same : ∀ b o, b ≠ ps → H b = some o → H' b = some o
theorem DrawSt.ne {ps q : Addr} {H : Hp} (h : DrawSt ps H) (hq : H q = none) : q ≠ ps := fun e => by
  obtain ⟨x, y, h1, _⟩ := h
  rw [e, h1] at hq
  cases hq
theorem DrawSt.mono {ps : Addr} {H H' : Hp} (h : DrawSt ps H) (s : Same H H') : DrawSt ps H' := by
  obtain ⟨x, y, h1, h2⟩ := h
  exact ⟨x, y, s _ _ h1, h2⟩
theorem Adv.refl {ps : Addr} {H : Hp} (h : DrawSt ps H) : Adv ps H H := ⟨h, fun _ _ _ e => e⟩
theorem Adv.of {ps : Addr} {H H' : Hp} (h : DrawSt ps H) (s : Same H H') : Adv ps H H' := ⟨h.mono s, fun b o _ e => s b o e⟩
theorem Adv.trans {ps : Addr} {H H1 H2 : Hp} (a : Adv ps H H1) (b : Adv ps H1 H2) : Adv ps H H2 := ⟨b.st, fun c o n e => b.same c o n (a.same c o n e)⟩
theorem Adv.sm {ps : Addr} {H H1 H2 : Hp} (a : Adv ps H H1) (s : Same H1 H2) : Adv ps H H2 := a.trans (.of a.st s)
theorem Adv.free {ps q : Addr} {H H' : Hp} (a : Adv ps H H') (hq : H' q = none) : H q = none := by
  have n := a.st.ne hq
  cases e : H q with
  | none => rfl
  | some o =>
    rw [a.same q o n e] at hq
    cases hq
theorem Adv.put {ps q : Addr} {H H' : Hp} {o : HO} (a : Adv ps H H') (hn : q ≠ ps) (hq : H q = none) : Adv ps H (upd H' q o) := by
  refine ⟨?_, fun b o' n e => ?_⟩
  · obtain ⟨x, y, h1, h2⟩ := a.st
    exact ⟨x, y, by rw [upd_ne hn.symm]; exact h1, h2⟩
  · rw [upd_ne (ne_of_none e hq)]
    exact a.same b o' n e
def sp__law_draw (K : PySem.W.Frag) : Sp := fun vs H Q _ => ∃ (ps : Addr) (many : Int), vs = [.ref ps, .int many] ∧ (DrawSt ps H) ∧ (0 < many ∧ many < 1073741824) ∧ (∀ H' v, Adv ps H H' → 0 ≤ v → v < many → Q (.int v) H')
theorem ok__law_draw (T : Txt K mg) : FnOk P w K mg base CX0 1 T.f__law_draw T.fd__law_draw ["state", "many"] (sp__law_draw K) := by
  refine T.F__law_draw.ok sc__law_draw (fun vs H Q E h => ?_) (fun cdv A outer s H vs Q E hr h => ?_)
  · obtain ⟨ps, many, rfl, _⟩ := h
    rfl
  · obtain ⟨ps, many, rfl, hd, hm, q⟩ := h
    refine ⟨_, (pss_cons (ps_set (i := 2) sc__law_draw.nd rfl (Or.inl rfl) (pe_ix ix_listH (pv 0) pe_int (fun _ _ => rfl)))
      (pss_cons (ps_if (pt_cmpR op_gt (pv 2) pe_int (nomark _)) (pss_cons (ps_asg (pe_op op_fdiv (pv 2) (pv 1)) (pg_sub (pv 0) pe_int set_list))
      (pss_one (ps_ret (pe_op op_mod (pv 2) (pv 1))))) pss_nil)
      (pss_cons (ps_asg (pe_op op_mod (pe_op op_add (pe_op op_mul (pe_ix ix_listH (pv 0) pe_int (fun _ _ => rfl)) pe_int) pe_int) pe_int) (pg_sub (pv 0) pe_int set_list))
      (pss_one (ps_ret (pe_op op_mod (pe_op op_fdiv (pe_ix ix_listH (pv 0) pe_int (fun _ _ => rfl)) pe_int) (pv 1))))))), ?_⟩
    obtain ⟨x, y, hst, hx, hy⟩ := hd
    have ad : ∀ x' y' : Int, 0 ≤ x' → 0 ≤ y' → Adv ps H (upd H ps (.lst [.int x', .int y'])) := fun x' y' h1 h2 => ⟨⟨x', y', upd_same, h1, h2⟩, fun b o n e => by rw [upd_ne n]; exact e⟩
    have m1 := mod_in y hm.1
    have m2 := mod_in (x * 48271 + 11) (show (0 : Int) < 2147483647 by decide)
    have m3 := mod_in ((x * 48271 + 11) % 2147483647 / 7) hm.1
    walk_at "vc hst"
    refine iteP (fun e => ?_) (fun e => ?_)
    · exact ⟨hm.1, hm.2, 1, ixN_in (n := 2) (k := 1) (by decide) (by decide), hm.1, q _ _ (ad _ _ hx (Int.ediv_nonneg hy (by omega))) m1.1 m1.2⟩
    · exact ⟨0, ixN_in (n := 2) (k := 0) (by decide) (by decide), _, atI_c0 _ _, _, rfl, hm.1, q _ _ (ad _ _ m2.1 hy) m3.1 m3.2⟩
def sp__law_state (K : PySem.W.Frag) : Sp := fun vs H Q _ => ∃ (c salt : Int), vs = [.int c, .int salt] ∧ (0 ≤ salt) ∧ (∀ H' p, Same H H' → H p = none → DrawSt p H' → Q (.ref p) H')
theorem ok__law_state (T : Txt K mg) : FnOk P w K mg base CX0 1 T.f__law_state T.fd__law_state ["cell", "salt"] (sp__law_state K) := by
  refine T.F__law_state.ok sc__law_state (fun vs H Q E h => ?_) (fun cdv A outer s H vs Q E hr h => ?_)
  · obtain ⟨c, salt, rfl, _⟩ := h
    rfl
  · obtain ⟨c, salt, rfl, hs, q⟩ := h
    refine ⟨_, (pss_cons (ps_set (i := 2) sc__law_state.nd rfl (Or.inl rfl) (pe_callB call_abs (by rfl) T.z_abs (by decide +kernel) (pa_cons (pv 0) pa_nil)))
      (pss_cons (ps_if (pt_cmpR op_ge (pv 2) (pe_op op_pow pe_int pe_int) (nomark _)) (pss_one (ps_ret (pe_lstS (pa_cons (pe_op op_add (pe_op op_mod (pv 2) pe_int) (pv 1)) (pa_cons (pe_op op_sub (pv 2) (pe_op op_pow pe_int pe_int)) pa_nil))))) pss_nil)
      (pss_one (ps_ret (pe_lstS (pa_cons (pe_op op_mod (pe_op op_add (pe_op op_add (pe_op op_mul (pv 2) pe_int) (pe_op op_mul (pv 1) pe_int)) pe_int) pe_int) (pa_cons pe_int pa_nil))))))), ?_⟩
    have hc := absI_nn c
    have m2 := mod_in (absI c) (show (0 : Int) < 2147483629 by decide)
    have m3 := mod_in (absI c * 48271 + salt * 69621 + 12345) (show (0 : Int) < 2147483647 by decide)
    walk_at "vc"
    refine ⟨⟨by decide, by decide, by decide⟩, iteP (fun e => ⟨⟨by decide, by decide, by decide⟩, fun p H1 s1 n1 g1 => ?_⟩) (fun e p H1 s1 n1 g1 => ?_)⟩
    · exact q H1 p s1 n1 ⟨_, _, g1, by omega, by omega⟩
    · exact q H1 p s1 n1 ⟨_, _, g1, m3.1, by decide⟩

/-- a list of bytes that is not the state's -/
def DB (ps : Addr) (H : Hp) (p : Addr) (n : Nat) : Prop := p ≠ ps ∧ ∃ xs, H p = some (.lst (List.map V.int xs)) ∧ Byt xs ∧ xs.length ≤ n
theorem DB.adv {ps : Addr} {H H' : Hp} {p : Addr} {n : Nat} (h : DB ps H p n) (a : Adv ps H H') : DB ps H' p n := by
  obtain ⟨h1, xs, g, h2, h3⟩ := h
  exact ⟨h1, xs, a.same _ _ h1 g, h2, h3⟩
theorem byt_app {x y : List Int} (hx : Byt x) (hy : Byt y) : Byt (x ++ y) := fun b hb => (List.mem_append.mp hb).elim (hx b) (hy b)
theorem byt_nil : Byt [] := fun _ h => by cases h
theorem byt_take {x : List Int} (h : Byt x) (n : Nat) : Byt (x.take n) := fun b hb => h b (List.mem_of_mem_take hb)
theorem byt_drop {x : List Int} (h : Byt x) (n : Nat) : Byt (x.drop n) := fun b hb => h b (List.mem_of_mem_drop hb)
def sp__law_data (K : PySem.W.Frag) : Sp := fun vs H Q _ => ∃ (ps : Addr) (most : Nat), vs = [.ref ps, .int (most : Int)] ∧ (DrawSt ps H) ∧ (∀ H' p xs, Adv ps H H' → H p = none → H' p = some (.lst (List.map V.int xs)) → Byt xs → xs.length ≤ most → Q (.ref p) H')
theorem ok__law_data (T : Txt K mg) : FnOk P w K mg base CX0 2 T.f__law_data T.fd__law_data ["state", "most"] (sp__law_data K) := by
  refine T.F__law_data.ok sc__law_data (fun vs H Q E h => ?_) (fun cdv A outer s H vs Q E hr h => ?_)
  · obtain ⟨ps, most, rfl, _⟩ := h
    rfl
  · obtain ⟨ps, most, rfl, hd, q⟩ := h
    refine ⟨_, (pss_cons (ps_set (i := 2) sc__law_data.nd rfl (Or.inl rfl) (pe_lstS pa_nil))
      (pss_cons (ps_set (i := 3) sc__law_data.nd rfl (Or.inl rfl) (pe_call (ok__law_draw T) hr (by rfl) T.g__law_draw T.F__law_draw.kp T.b__law_draw .nil pass0 (pa_cons (pv 0) (pa_cons pe_int pa_nil))))
      (pss_cons (ps_for PassesOwn.never rfl (pi_range1 (by rfl) T.z_range (pa_cons (pe_call (ok__law_draw T) hr (by rfl) T.g__law_draw T.F__law_draw.kp T.b__law_draw .nil pass0 (pa_cons (pv 0) (pa_cons pe_int pa_nil))) pa_nil)) (pg_name (i := 4) sc__law_data.nd rfl (Or.inl rfl)) (pss_cons (ps_set (i := 5) sc__law_data.nd rfl (Or.inl rfl) (pe_call (ok__law_draw T) hr (by rfl) T.g__law_draw T.F__law_draw.kp T.b__law_draw .nil pass0 (pa_cons (pv 0) (pa_cons pe_int pa_nil))))
      (pss_one (ps_if (pt_cmpR op_eq (pv 5) pe_int (nomark _)) (pss_one (ps_set (i := 2) sc__law_data.nd rfl (Or.inl rfl) (pe_op op_catS (pv 2) (pe_lc (own := [("k", 6)]) (g := (gName 6)) rfl sc__law_data.nd (pi_range1 (by rfl) T.z_range (pa_cons (pe_call (ok__law_draw T) hr (by rfl) T.g__law_draw T.F__law_draw.kp T.b__law_draw .nil pass0 (pa_cons (pv 0) (pa_cons pe_int pa_nil))) pa_nil)) (blkOk_by (own := [("k", 6)]) (N := ["state", "most", "data", "kind", "turn", "how", "k", "at"]) (sc := defScope s__law_data) (by decide +kernel)) (fun _ _ _ _ _ => (pg_name (i := 6) sc__law_data.nd rfl (Or.inl rfl))) (fun _ _ _ _ _ => pts_nil) (fun _ _ _ _ _ => (pe_call (ok__law_draw T) hr (by rfl) T.g__law_draw T.F__law_draw.kp T.b__law_draw .nil pass0 (pa_cons (pv 0) (pa_cons pe_int pa_nil)))))))) (pss_one (ps_if (pt_cmpR op_eq (pv 5) pe_int (nomark _)) (pss_one (ps_set (i := 2) sc__law_data.nd rfl (Or.inl rfl) (pe_op op_catS (pv 2) (pe_op op_repS (pe_lstS (pa_cons (pe_ix ix_listH (pe_lstS (pa_cons pe_int (pa_cons pe_int (pa_cons pe_int (pa_cons pe_int pa_nil))))) (pe_call (ok__law_draw T) hr (by rfl) T.g__law_draw T.F__law_draw.kp T.b__law_draw .nil pass0 (pa_cons (pv 0) (pa_cons pe_int pa_nil))) (fun _ _ => rfl)) pa_nil)) (pe_call (ok__law_draw T) hr (by rfl) T.g__law_draw T.F__law_draw.kp T.b__law_draw .nil pass0 (pa_cons (pv 0) (pa_cons pe_int pa_nil))))))) (pss_one (ps_if (PW.pt (pw_and (pt_cmpR op_eq (pv 5) pe_int (nomark _)) (pw_and1 (pt_cmpR op_gt (pe_callB call_lenH (by rfl) T.z_len PySem.boot_len (pa_cons (pv 2) pa_nil)) pe_int (nomark _))))) (pss_cons (ps_set (i := 7) sc__law_data.nd rfl (Or.inl rfl) (pe_call (ok__law_draw T) hr (by rfl) T.g__law_draw T.F__law_draw.kp T.b__law_draw .nil pass0 (pa_cons (pv 0) (pa_cons (pe_callB call_lenH (by rfl) T.z_len PySem.boot_len (pa_cons (pv 2) pa_nil)) pa_nil))))
      (pss_one (ps_set (i := 2) sc__law_data.nd rfl (Or.inl rfl) (pe_op op_catS (pv 2) (pe_slice sl_listS (pv 2) (po_some (pv 7)) (po_some (pe_op op_add (pv 7) (pe_call (ok__law_draw T) hr (by rfl) T.g__law_draw T.F__law_draw.kp T.b__law_draw .nil pass0 (pa_cons (pv 0) (pa_cons pe_int pa_nil)))))))))) (pss_one (ps_if (PW.pt (pw_and (pt_cmpR op_eq (pv 5) pe_int (nomark _)) (pw_and1 (pt_cmpR op_eq (pv 3) pe_int (nomark _))))) (pss_one (ps_set (i := 2) sc__law_data.nd rfl (Or.inl rfl) (pe_op op_catS (pv 2) (pe_op op_repS (pe_lstS (pa_cons (pe_call (ok__law_draw T) hr (by rfl) T.g__law_draw T.F__law_draw.kp T.b__law_draw .nil pass0 (pa_cons (pv 0) (pa_cons pe_int pa_nil))) pa_nil)) (pe_ix ix_listH (pe_lstS (pa_cons pe_int (pa_cons pe_int (pa_cons pe_int (pa_cons pe_int (pa_cons pe_int (pa_cons pe_int (pa_cons pe_int pa_nil)))))))) (pe_call (ok__law_draw T) hr (by rfl) T.g__law_draw T.F__law_draw.kp T.b__law_draw .nil pass0 (pa_cons (pv 0) (pa_cons pe_int pa_nil))) (fun _ _ => rfl)))))) (pss_one (ps_if (PW.pt (pw_and (pt_cmpR op_eq (pv 5) pe_int (nomark _)) (pw_and1 (pt_cmpR op_eq (pv 3) pe_int (nomark _))))) (pss_one (ps_set (i := 2) sc__law_data.nd rfl (Or.inl rfl) (pe_op op_catS (pv 2) (pe_lc (own := [("k", 6)]) (g := (gName 6)) rfl sc__law_data.nd (pi_range1 (by rfl) T.z_range (pa_cons (pe_ix ix_listH (pe_lstS (pa_cons pe_int (pa_cons pe_int (pa_cons pe_int (pa_cons pe_int (pa_cons pe_int (pa_cons pe_int pa_nil))))))) (pe_call (ok__law_draw T) hr (by rfl) T.g__law_draw T.F__law_draw.kp T.b__law_draw .nil pass0 (pa_cons (pv 0) (pa_cons pe_int pa_nil))) (fun _ _ => rfl)) pa_nil)) (blkOk_by (own := [("k", 6)]) (N := ["state", "most", "data", "kind", "turn", "how", "k", "at"]) (sc := defScope s__law_data) (by decide +kernel)) (fun _ _ _ _ _ => (pg_name (i := 6) sc__law_data.nd rfl (Or.inl rfl))) (fun _ _ _ _ _ => pts_nil) (fun _ _ _ _ _ => (pe_op op_mod (pe_op op_mul (pv 6) pe_int) pe_int)))))) (pss_one (ps_set (i := 2) sc__law_data.nd rfl (Or.inl rfl) (pe_op op_catS (pv 2) (pe_lstS (pa_cons (pe_call (ok__law_draw T) hr (by rfl) T.g__law_draw T.F__law_draw.kp T.b__law_draw .nil pass0 (pa_cons (pv 0) (pa_cons pe_int pa_nil))) (pa_cons (pe_call (ok__law_draw T) hr (by rfl) T.g__law_draw T.F__law_draw.kp T.b__law_draw .nil pass0 (pa_cons (pv 0) (pa_cons pe_int pa_nil))) pa_nil))))))))))))))))))
      (pss_one (ps_ret (pe_slice sl_listS (pv 2) po_none (po_some (pv 1)))))))), ?_⟩
    refine seq_cut (fun σ H1 => ∃ p, σ = [some (.ref ps), some (.int (most : Int)), some (.ref p), none, none, none, none, none] ∧ Adv ps H H1 ∧ H p = none ∧ H1 p = some (.lst [])) ?_ (fun C hC => ?_)
    rotate_left
    · walk_at "vc"
      exact fun p H1 s1 n1 g1 => hC _ _ ⟨p, rfl, .of hd s1, n1, g1⟩
    rintro σ H1 ⟨p1, rfl, a1, n1, g1⟩
    refine seq_cut (fun σ H2 => ∃ kind : Int, σ = [some (.ref ps), some (.int (most : Int)), some (.ref p1), some (.int kind), none, none, none, none] ∧ Adv ps H H2 ∧ H2 p1 = some (.lst [])) ?_ (fun C hC => ?_)
    rotate_left
    · walk_at "vc"
      exact ⟨ps, 6, rfl, a1.st, ⟨by decide, by decide⟩, fun H2 v a2 _ _ => hC _ _ ⟨v, rfl, a1.trans a2, a2.same _ _ (hd.ne n1) g1⟩⟩
    rintro σ H2 ⟨kind, rfl, a2, g2⟩
    walk_at "vc"
    refine ⟨ps, 9, rfl, a2.st, ⟨by decide, by decide⟩, fun H3 v3 a3 h30 h31 => ⟨v3, rfl, by omega, by omega, ?_⟩⟩
    obtain ⟨N, rfl⟩ := natOf h30
    rw [Int.toNat_natCast]
    refine lpW (walkR (n := N)) (fun i σ H' => ∃ p v4 v5 v6 v7, σ = [some (.ref ps), some (.int (most : Int)), some (.ref p), some (.int kind), v4, v5, v6, v7] ∧ Adv ps H H' ∧ H p = none ∧ DB ps H' p (400 * i)) ⟨p1, _, _, _, _, rfl, a2.trans a3, n1, hd.ne n1, [], a3.same _ _ (hd.ne n1) g2, byt_nil, Nat.le_refl _⟩ (fun _ _ _ _ _ => True.intro) ?_ ?_
    · rintro i x σ Hz H4 hi ⟨p, v4, v5, v6, v7, rfl, a4, np, hnp, xs, gp, hxB, hxl⟩ ⟨rfl, rfl⟩
      refine seq_cut (fun σ H5 => ∃ how : Int, σ = [some (.ref ps), some (.int (most : Int)), some (.ref p), some (.int kind), some (.int (i : Int)), some (.int how), v6, v7] ∧ Adv ps H4 H5) ?_ (fun C hC => ?_)
      rotate_left
      · walk_at "vc"
        exact ⟨ps, 5, rfl, a4.st, ⟨by decide, by decide⟩, fun H5 v a5 _ _ => hC _ _ ⟨v, rfl, a5⟩⟩
      rintro σ H5 ⟨how, rfl, a5⟩
      have gp5 := a5.same _ _ hnp gp
      have a05 := a4.trans a5
      have hi9 : i < 9 := by omega
      have hxl2 : xs.length ≤ 4000 := by omega
      have cat : ∀ (H6 : Hp) (r : Addr) (ys : List Int), Adv ps H5 H6 → H6 r = some (.lst (List.map V.int ys)) → Byt ys → ys.length ≤ 400 → ∃ x, H6 p = some (HO.lst x) ∧ ∃ x_2, H6 r = some (HO.lst x_2) ∧ x.length + x_2.length ≤ sizeLine ∧ NewH H6 (HO.lst (x ++ x_2)) fun p H' => Adv ps H H' ∧ H p = none ∧ DB ps H' p (400 * (i + 1)) := fun H6 r ys a6 gr hB hl => by
        refine ⟨_, a6.same _ _ hnp gp5, _, gr, by rw [List.length_map, List.length_map]; exact cnt_le (by omega), fun p7 H7 s7 n7 g7 => ?_⟩
        rw [map_cat] at g7
        have a06 := a05.trans a6
        exact ⟨a06.sm s7, a06.free n7, a06.st.ne n7, _, g7, byt_app hxB hB, by rw [List.length_append]; omega⟩
      have last : sp__law_draw K [V.ref ps, V.int 4] H5 (fun x H1 => sp__law_draw K [V.ref ps, V.int 2] H1 (fun x_1 H1 => NewH H1 (HO.lst [x, x_1]) fun p_1 H' => ∃ x, H' p = some (HO.lst x) ∧ ∃ x_2, H' p_1 = some (HO.lst x_2) ∧ x.length + x_2.length ≤ sizeLine ∧ NewH H' (HO.lst (x ++ x_2)) fun p H' => Adv ps H H' ∧ H p = none ∧ DB ps H' p (400 * (i + 1))) E0) E0 := by
        refine ⟨ps, 4, rfl, a5.st, ⟨by decide, by decide⟩, fun H6 v6 a6 h60 h61 => ⟨ps, 2, rfl, a6.st, ⟨by decide, by decide⟩, fun H7 v7 a7 h70 h71 p8 H8 s8 n8 g8 => ?_⟩⟩
        refine cat H8 p8 [v6, v7] ((a6.trans a7).sm s8) g8 (fun b hb => ?_) (show 2 ≤ 400 by decide)
        simp only [List.mem_cons, List.not_mem_nil, or_false] at hb
        rcases hb with rfl | rfl <;> omega
      walk_at "vc gp5"
      refine iteP (fun _ => ?_) fun _ => iteP (fun _ => ?_) fun _ => ?_
      · refine ⟨ps, 9, rfl, a5.st, ⟨by decide, by decide⟩, fun H6 v6 a6 h60 h61 => ⟨v6, rfl, by omega, by omega, ?_⟩⟩
        obtain ⟨M, rfl⟩ := natOf h60
        rw [Int.toNat_natCast]
        refine lcW (walkR (n := M)) (fun D j H' => Adv ps H6 H' ∧ ∃ us, H' D = some (.lst (List.map V.int us)) ∧ us.length ≤ j ∧ Byt us) (fun D H' s n g => ⟨.of a6.st s, [], g, Nat.le_refl _, byt_nil⟩) (fun _ _ _ _ _ _ => True.intro) (fun D j x H7 H8 hj hD p y => ?_) (fun pg H7 n7 p => ?_)
        · obtain ⟨rfl, rfl⟩ := y
          obtain ⟨a7, us, gD, hu, hB⟩ := p
          have hnD := a6.st.ne hD
          walk_at "vc"
          refine ⟨ps, 256, rfl, a7.st, ⟨by decide, by decide⟩, fun H9 v9 a9 h90 h91 => ⟨_, a9.same _ _ hnD gD, by rw [List.length_map]; exact cnt_lt (by omega), (a7.trans a9).put hnD hD, us ++ [v9], by rw [map_snoc], by rw [List.length_append]; show _ + 1 ≤ _; omega, byt_app hB fun b hb => ?_⟩⟩
          rw [List.mem_singleton.mp hb]
          exact ⟨h90, h91⟩
        · obtain ⟨a7, us, gD, hu, hB⟩ := p
          exact ⟨pg, rfl, cat H7 pg us (a6.trans a7) gD hB (by omega)⟩
      · intro p6 H6 s6 n6 g6
        have a6 := Adv.of a5.st s6
        have hn6 := a5.st.ne n6
        refine ⟨ps, 4, rfl, a6.st, ⟨by decide, by decide⟩, fun H7 v7 a7 h70 h71 => ?_⟩
        have hb7 : gN [0, 7, 255, 128] v7.toNat < 256 ∧ 0 ≤ gN [0, 7, 255, 128] v7.toNat := by
          have : ∀ d : _root_.Fin 4, gN [0, 7, 255, 128] d < 256 ∧ 0 ≤ gN [0, 7, 255, 128] d := by decide
          exact this ⟨v7.toNat, by omega⟩
        refine ⟨_, v7, rfl, a7.same _ _ hn6 g6, .int (gN [0, 7, 255, 128] v7.toNat), at_g' (ns := [0, 7, 255, 128]) (i := v7.toNat) (by omega) (by show _ < 4; omega), fun p8 H8 s8 n8 g8 => ?_⟩
        have a58 := (a6.trans a7).sm s8
        have hn8 := a7.st.ne n8
        refine ⟨ps, 7, rfl, a58.st, ⟨by decide, by decide⟩, fun H9 v9 a9 h90 h91 => ⟨v9, rfl, _, a9.same _ _ hn8 g8, by omega, by omega, fun p10 H10 s10 n10 g10 => ?_⟩⟩
        rw [show List.replicate v9.toNat (V.int (gN [0, 7, 255, 128] v7.toNat)) = List.map V.int (List.replicate v9.toNat (gN [0, 7, 255, 128] v7.toNat)) by rw [List.map_replicate]] at g10
        refine cat H10 p10 _ ((a58.trans a9).sm s10) g10 (fun b hb => ?_) (by rw [List.length_replicate]; omega)
        rw [List.eq_of_mem_replicate hb]
        exact ⟨hb7.2, hb7.1⟩
      refine iteP (fun _ => iteP (fun z2 => ?_) fun z2 => ?_) fun _ => ?_
      · refine ⟨ps, _, rfl, a5.st, ⟨by omega, by omega⟩, fun H6 v6 a6 h60 h61 => ⟨v6, rfl, ps, 20, rfl, a6.st, ⟨by decide, by decide⟩, fun H7 v7 a7 h70 h71 => ⟨v6, rfl, v7, rfl, _, (a6.trans a7).same _ _ hnp gp5, fun p8 H8 s8 n8 g8 => ?_⟩⟩⟩
        obtain ⟨b0, rfl⟩ := natOf h60
        obtain ⟨b1, rfl⟩ := natOf h70
        rw [show (b0 : Int) + (b1 : Int) = ((b0 + b1 : Nat) : Int) by omega, cut_sl] at g8
        exact cat H8 p8 _ ((a6.trans a7).sm s8) g8 (sl_byt hxB _ _) (by rw [sl_len]; omega)
      all_goals
        refine iteP (fun _ => iteP (fun _ => ?_) fun _ => ?_) fun _ => ?_
      all_goals first
        | exact last
        | refine iteP (fun _ => iteP (fun _ => ?_) fun _ => last) fun _ => last
        | skip
      all_goals first
        | (refine ⟨ps, 3, rfl, a5.st, ⟨by decide, by decide⟩, fun H6 v6 a6 h60 h61 p7 H7 s7 n7 g7 => ⟨by decide, fun p8 H8 s8 n8 g8 => ?_⟩⟩
           have hn7 := a6.st.ne n7
           have a7 := Adv.of (a6.sm s7).st s8
           have hn8 := (a6.sm s7).st.ne n8
           refine ⟨ps, 7, rfl, a7.st, ⟨by decide, by decide⟩, fun H9 v9 a9 h90 h91 => ?_⟩
           have hb9 : 0 ≤ gN [127, 128, 129, 130, 131, 256, 300] v9.toNat ∧ gN [127, 128, 129, 130, 131, 256, 300] v9.toNat ≤ 300 := by
             have : ∀ d : _root_.Fin 7, 0 ≤ gN [127, 128, 129, 130, 131, 256, 300] d ∧ gN [127, 128, 129, 130, 131, 256, 300] d ≤ 300 := by decide
             exact this ⟨v9.toNat, by omega⟩
           refine ⟨_, v9, rfl, a9.same _ _ hn8 g8, _, at_g' (ns := [127, 128, 129, 130, 131, 256, 300]) (i := v9.toNat) (by omega) (by show _ < 7; omega), _, rfl, _, (a7.trans a9).same _ _ hn7 g7, by omega, by omega, fun p10 H10 s10 n10 g10 => ?_⟩
           generalize gN [127, 128, 129, 130, 131, 256, 300] v9.toNat = w9 at hb9 g10
           rw [show List.replicate w9.toNat (V.int v6) = List.map V.int (List.replicate w9.toNat v6) by rw [List.map_replicate]] at g10
           refine cat H10 p10 _ (((a6.sm s7).trans (a7.trans a9)).sm s10) g10 (fun b hb => ?_) (by rw [List.length_replicate]; omega)
           rw [List.eq_of_mem_replicate hb]
           exact ⟨h60, by omega⟩)
        | (intro p6 H6 s6 n6 g6
           have a6 := Adv.of a5.st s6
           have hn6 := a5.st.ne n6
           refine ⟨ps, 6, rfl, a6.st, ⟨by decide, by decide⟩, fun H7 v7 a7 h70 h71 => ?_⟩
           have hb7 : 0 ≤ gN [126, 127, 128, 129, 130, 257] v7.toNat ∧ gN [126, 127, 128, 129, 130, 257] v7.toNat ≤ 300 := by
             have : ∀ d : _root_.Fin 6, 0 ≤ gN [126, 127, 128, 129, 130, 257] d ∧ gN [126, 127, 128, 129, 130, 257] d ≤ 300 := by decide
             exact this ⟨v7.toNat, by omega⟩
           refine ⟨_, v7, rfl, a7.same _ _ hn6 g6, _, at_g' (ns := [126, 127, 128, 129, 130, 257]) (i := v7.toNat) (by omega) (by show _ < 6; omega), _, rfl, by omega, by omega, ?_⟩
           generalize gN [126, 127, 128, 129, 130, 257] v7.toNat = w7 at hb7
           obtain ⟨M, rfl⟩ := natOf hb7.1
           rw [Int.toNat_natCast]
           have a67 := a6.trans a7
           refine lcW (walkR (n := M)) (fun D j H' => Adv ps H7 H' ∧ ∃ us, H' D = some (.lst (List.map V.int us)) ∧ us.length ≤ j ∧ Byt us) (fun D H' s n g => ⟨.of a67.st s, [], g, Nat.le_refl _, byt_nil⟩) (fun _ _ _ _ _ _ => True.intro) (fun D j x H8 H9 hj hD p y => ?_) (fun pg H8 n8 p => ?_)
           · obtain ⟨rfl, rfl⟩ := y
             obtain ⟨a8, us, gD, hu, hB⟩ := p
             have hnD := a67.st.ne hD
             walk_at "vc gD"
             refine ⟨cnt_lt (by omega), a8.put hnD hD, by omega, byt_app hB fun b hb => ?_⟩
             rw [List.mem_singleton.mp hb]
             omega
           · obtain ⟨a8, us, gD, hu, hB⟩ := p
             exact ⟨pg, rfl, cat H8 pg us (a67.trans a8) gD hB (by omega)⟩)
    · rintro σ H4 ⟨p, v4, v5, v6, v7, rfl, a4, np, hnp, xs, gp, hxB, hxl⟩
      walk_at "vc gp"
      intro p5 H5 s5 n5 g5
      rw [cutI_take] at g5
      exact q H5 p5 _ (a4.sm s5) (a4.free n5) g5 (byt_take hxB _) (by rw [List.length_take]; omega)

/-! ### bytes that are written, and bytes that are read -/
theorem cmp_130 (ns : List Int) (q : Nat) : ∀ (l : List Nat) (s : Nat × Nat), s.2 ≤ 130 → (cmp ns q l s).2 ≤ 130
  | [], _, h => h
  | p :: ps, s, h => by
    rw [cmp]
    split
    · exact h
    · refine cmp_130 ns q ps _ ?_
      split
      · have := cE_le ns p q; show cE ns p q ≤ 130; omega
      · exact h
theorem bm_130 (ns : List Int) (n : Nat) : (bm ns n).2 ≤ 130 := by
  unfold bm
  split
  · exact Nat.zero_le _
  · exact cmp_130 _ _ _ _ (Nat.zero_le _)
theorem byt_one {v : Int} (h0 : 0 ≤ v) (h1 : v < 256) : Byt [v] := fun b hb => by
  rw [List.mem_singleton.mp hb]
  exact ⟨h0, h1⟩
theorem wl2_byt (d : Int) : Byt (wl2 d) := fun b hb => by
  unfold wl2 at hb
  simp only [List.mem_cons, List.not_mem_nil, or_false] at hb
  rcases hb with rfl | rfl <;> omega
theorem pp_byt {l : List Int} (h : Byt l) (hl : l.length ≤ 256) : Byt (pp l) := by
  unfold pp
  split
  · exact byt_nil
  · intro b hb
    rcases List.mem_cons.mp hb with rfl | hb
    · cases l with
      | nil => rename_i h; exact absurd rfl h
      | cons a r => rw [List.length_cons] at hl ⊢; omega
    · exact h b hb
theorem pp_len (l : List Int) : (pp l).length ≤ l.length + 1 := by unfold pp; split <;> simp
theorem sqS_ok {ns : List Int} (hB : Byt ns) : ∀ (f n : Nat) (found kept : List Int), Byt found → Byt kept → kept.length ≤ 127 → found.length + kept.length ≤ 4 * n → n ≤ ns.length →
    Byt (sqS ns f n found kept) ∧ (sqS ns f n found kept).length ≤ 4 * ns.length + 1
  | 0, n, found, kept, h1, h2, h3, h4, h5 => by
    have := pp_len kept
    exact ⟨byt_app h1 (pp_byt h2 (by omega)), by show (found ++ pp kept).length ≤ _; rw [List.length_append]; omega⟩
  | f + 1, n, found, kept, h1, h2, h3, h4, h5 => by
    have hp := pp_len kept
    have hb := bm_130 ns n
    have hl := bm_le ns n
    have hg := gN_byt hB n
    rw [sqS]
    split
    · split
      · refine sqS_ok hB f _ _ _ (byt_app (byt_app (byt_app h1 (pp_byt h2 (by omega))) (byt_one (by omega) (by omega))) (wl2_byt _)) byt_nil (by decide) ?_ (by omega)
        rw [List.length_append, List.length_append, List.length_append]
        show found.length + (pp kept).length + 1 + 2 + 0 ≤ _
        omega
      · have hk : (kept ++ [gN ns n]).length = kept.length + 1 := by rw [List.length_append]; rfl
        have hkB : Byt (kept ++ [gN ns n]) := byt_app h2 (byt_one hg.1 hg.2)
        have hp2 := pp_len (kept ++ [gN ns n])
        split
        · refine sqS_ok hB f _ _ _ (byt_app h1 (pp_byt hkB (by omega))) byt_nil (by decide) ?_ (by omega)
          rw [List.length_append]
          show found.length + (pp (kept ++ [gN ns n])).length + 0 ≤ _
          omega
        · exact sqS_ok hB f _ _ _ h1 hkB (by omega) (by omega) (by omega)
    · exact ⟨byt_app h1 (pp_byt h2 (by omega)), by rw [List.length_append]; omega⟩
theorem sqF_ok {ns : List Int} (hB : Byt ns) : Byt (sqF ns) ∧ (sqF ns).length ≤ 4 * ns.length + 1 := sqS_ok hB _ _ _ _ byt_nil byt_nil (by decide) (Nat.le_refl _) (Nat.zero_le _)
theorem byt_rep {xs : List Int} (h : Byt xs) (n : Nat) : Byt (List.replicate n xs).flatten := fun b hb => by
  obtain ⟨l, hl, hb⟩ := List.mem_flatten.mp hb
  rw [List.eq_of_mem_replicate hl] at hb
  exact h b hb
theorem mB_byt {ns fs : List Int} (hB : Byt ns) (hF : Byt fs) (i : Nat) : Byt (mB ns fs i) := by
  unfold mB
  split
  · exact sl_byt hB _ _
  · unfold again
    split
    · exact byt_nil
    · exact byt_take (byt_rep (sl_byt hF _ _) _) _
theorem rdM_byt {ns : List Int} (hB : Byt ns) : ∀ (k i : Nat) (lf : Int) (fs : List Int), Byt fs → Byt (rdM ns k i lf fs).1
  | 0, _, _, _, h => h
  | k + 1, i, lf, fs, h => by
    rw [rdM]
    split
    · split
      · exact h
      · exact rdM_byt hB k _ _ _ (byt_app h (mB_byt hB h i))
    · exact h
theorem usR_byt {ns : List Int} (hB : Byt ns) (left : Int) : Byt (usR ns left).1 := by
  unfold usR
  split
  · exact byt_nil
  · exact rdM_byt hB _ _ _ _ byt_nil
/-! ### the law's reading -/
theorem rep_at {xs : List Int} : ∀ (n j : Nat), j < n * xs.length → (List.replicate n xs).flatten[j]? = xs[j % xs.length]?
  | 0, j, h => by rw [Nat.zero_mul] at h; omega
  | n + 1, j, h => by
    rw [List.replicate_succ, List.flatten_cons, List.getElem?_append]
    by_cases c : j < xs.length
    · rw [if_pos c, Nat.mod_eq_of_lt c]
    · rw [if_neg c, rep_at n (j - xs.length) (by rw [Nat.succ_mul] at h; omega), ← Nat.mod_eq_sub_mod (by omega)]
def cyc (fs : List Int) (d k : Nat) : List Int := (List.range k).map fun j => gN fs (fs.length - d + j % d)
theorem gN_at {xs : List Int} {i : Nat} (h : i < xs.length) : xs[i]? = some (gN xs i) := by
  unfold gN
  rw [List.getD_eq_getElem?_getD, List.getElem?_eq_getElem h]
  rfl
theorem again_cyc {fs : List Int} {d many : Nat} (hd : 1 ≤ d) (hdl : d ≤ fs.length) (hm : 1 ≤ many) :
    (List.replicate (many / (sl fs (fs.length - d) (fs.length - d + many)).length + 1) (sl fs (fs.length - d) (fs.length - d + many))).flatten.take many = cyc fs d many := by
  have hL := sl_len fs (fs.length - d) (fs.length - d + many)
  have hat : ∀ j, j < (sl fs (fs.length - d) (fs.length - d + many)).length → (sl fs (fs.length - d) (fs.length - d + many))[j]? = some (gN fs (fs.length - d + j)) := fun j hj => by
    unfold sl
    rw [List.getElem?_take, if_pos (by omega), List.getElem?_drop]
    exact gN_at (by omega)
  generalize sl fs (fs.length - d) (fs.length - d + many) = xs at hL hat
  have hLm : xs.length = min many d := by omega
  have hL1 : 1 ≤ xs.length := by omega
  have hmul : many < (many / xs.length + 1) * xs.length := by
    have := Nat.div_add_mod many xs.length
    have := Nat.mod_lt many (show 0 < xs.length by omega)
    rw [Nat.succ_mul, Nat.mul_comm]
    omega
  refine List.ext_getElem? fun j => ?_
  unfold cyc
  rw [List.getElem?_take, List.getElem?_map]
  by_cases c : j < many
  · rw [if_pos c, rep_at _ _ (by omega), List.getElem?_range c, Option.map_some, hat _ (Nat.mod_lt _ (by omega))]
    congr 3
    rw [hLm]
    by_cases c2 : many ≤ d
    · rw [Nat.min_eq_left c2, Nat.mod_eq_of_lt c, Nat.mod_eq_of_lt (by omega)]
    · rw [Nat.min_eq_right (by omega)]
  · rw [if_neg c, List.getElem?_eq_none_iff.mpr (by rw [List.length_range]; omega)]
    rfl
theorem cyc_succ {fs : List Int} {d k : Nat} (hd : 1 ≤ d) (hdl : d ≤ fs.length) : gN (fs ++ cyc fs d k) (fs.length + k - d) = gN fs (fs.length - d + k % d) ∧ cyc fs d (k + 1) = cyc fs d k ++ [gN fs (fs.length - d + k % d)] := by
  refine ⟨?_, by unfold cyc; rw [List.range_succ, List.map_append]; rfl⟩
  unfold gN
  rw [List.getD_eq_getElem?_getD, List.getD_eq_getElem?_getD, List.getElem?_append]
  by_cases c : k < d
  · rw [if_pos (by omega), Nat.mod_eq_of_lt c, show fs.length + k - d = fs.length - d + k by omega]
  · have hlt : fs.length - d + (k - d) % d < fs.length := by have := Nat.mod_lt (k - d) (show 0 < d by omega); omega
    rw [if_neg (by omega), show fs.length + k - d - fs.length = k - d by omega]
    unfold cyc
    have e : k % d = (k - d) % d := Nat.mod_eq_sub_mod (by omega)
    rw [List.getElem?_map, List.getElem?_range (by omega), Option.map_some, e, gN_at hlt]
def mL (ns : List Int) (i : Nat) : Nat := if gN ns i < 128 then i + 2 + (gN ns i).toNat else if ns.length ≤ i + 2 then ns.length else i + 3
theorem rdM_end {ns : List Int} : ∀ (k i : Nat) (lf : Int) (fs : List Int), ns.length ≤ i → rdM ns k i lf fs = (fs, lf)
  | 0, _, _, _, _ => rfl
  | k + 1, i, lf, fs, h => by rw [rdM, if_neg (by omega)]
theorem rdM_mL {ns : List Int} (k i : Nat) (lf : Int) (fs : List Int) : rdM ns k (mL ns i) lf fs = rdM ns k (mE ns i) lf fs := by
  unfold mL mE
  split
  · rw [show i + 2 + (gN ns i).toNat = i + (gN ns i).toNat + 2 by omega]
  · split
    · rw [rdM_end _ _ _ _ (Nat.le_refl _), rdM_end _ _ _ _ (by omega)]
    · rfl

/-! ### the law's best match -/
def lawS (ns : List Int) (q : Nat) : List Nat → Nat → Nat × Nat → Nat × Nat
  | [], _, s => s
  | p :: ps, seen, s => if 4096 < q - p then s else if seen = 16 then s else
      if 2 < cE ns p q then lawS ns q ps (seen + 1) (if s.2 < cE ns p q then (q - p, cE ns p q) else s) else lawS ns q ps seen s
/-- going down -/
def Down (q : Nat) : List Nat → Prop
  | [] => True
  | p :: ps => p < q ∧ (∀ r ∈ ps, r < p) ∧ Down q ps
theorem cmp_far {ns : List Int} {q : Nat} : ∀ {l : List Nat} {s : Nat × Nat}, (∀ p ∈ l, 4096 < q - p) → cmp ns q l s = s
  | [], _, _ => rfl
  | p :: ps, s, h => by rw [cmp, if_pos (h p List.mem_cons_self)]
theorem lawS_cmp {ns : List Int} {q : Nat} : ∀ (ps : List Nat) (seen : Nat) (s : Nat × Nat), Down q ps → seen ≤ 16 → lawS ns q ps seen s = cmp ns q ((ps.filter fun p => decide (2 < cE ns p q)).take (16 - seen)) s
  | [], seen, s, _, _ => by rw [List.filter_nil, List.take_nil]; rfl
  | p :: ps, seen, s, h, hs => by
    rw [lawS]
    by_cases c : 4096 < q - p
    · rw [if_pos c, cmp_far]
      intro r hr
      have := List.mem_filter.mp (List.mem_of_mem_take hr)
      rcases List.mem_cons.mp this.1 with rfl | hr
      · exact c
      · have := h.2.1 r hr; omega
    rw [if_neg c]
    by_cases c2 : seen = 16
    · rw [if_pos c2, c2]; rfl
    rw [if_neg c2]
    by_cases c3 : 2 < cE ns p q
    · rw [if_pos c3, lawS_cmp ps _ _ h.2.2 (by omega), List.filter_cons, if_pos (decide_eq_true c3), show 16 - seen = (16 - (seen + 1)) + 1 by omega, List.take_succ_cons, cmp, if_neg c]
    · rw [if_neg c3, lawS_cmp ps _ _ h.2.2 hs, List.filter_cons, if_neg (by rw [decide_eq_false c3]; decide)]
theorem down_range : ∀ n, Down n (List.range n).reverse
  | 0 => True.intro
  | n + 1 => by
    rw [List.range_succ, List.reverse_append]
    show Down (n + 1) (n :: (List.range n).reverse)
    have mono : ∀ (l : List Nat) (a b : Nat), a ≤ b → Down a l → Down b l := by
      intro l
      induction l with
      | nil => exact fun _ _ _ _ => True.intro
      | cons x r ih => exact fun a b h d => ⟨by have := d.1; omega, d.2.1, ih a b h d.2.2⟩
    exact ⟨Nat.lt_succ_self _, fun r hr => List.mem_range.mp (List.mem_reverse.mp hr), mono _ n (n + 1) (Nat.le_succ _) (down_range n)⟩
theorem last16_rev (l : List Nat) : (last16 l).reverse = l.reverse.take 16 := by
  unfold last16
  rw [List.reverse_drop]
  by_cases h : 16 ≤ l.length
  · rw [show l.length - (l.length - 16) = 16 by omega]
  · rw [show l.length - (l.length - 16) = l.length by omega, List.take_of_length_le (by rw [List.length_reverse]; exact Nat.le_refl _), List.take_of_length_le (by rw [List.length_reverse]; omega)]
theorem first_no (p : Nat → Bool) : ∀ n, ∃ m, m ≤ n ∧ (∀ j, j < m → p j = true) ∧ (m = n ∨ p m = false)
  | 0 => ⟨0, Nat.le_refl _, fun j h => absurd h (Nat.not_lt_zero _), .inl rfl⟩
  | n + 1 => by
    obtain ⟨m, h1, h2, h3⟩ := first_no p n
    rcases h3 with rfl | h3
    · cases h : p m with
      | true => exact ⟨m + 1, Nat.le_refl _, fun j hj => by by_cases c : j = m; (rw [c]; exact h); exact h2 j (by omega), .inl rfl⟩
      | false => exact ⟨m, by omega, h2, .inr h⟩
    · exact ⟨m, by omega, h2, .inr h3⟩
theorem cE_spec (ns : List Int) (p q : Nat) : (∀ j, j < cE ns p q → eqAt ns p q j = true) ∧ (cE ns p q = min 130 (ns.length - q) ∨ eqAt ns p q (cE ns p q) = false) := by
  obtain ⟨m, h1, h2, h3⟩ := first_no (eqAt ns p q) (min 130 (ns.length - q))
  have e : cE ns p q = m := takeWhile_n h1 h2 h3
  rw [e]
  exact ⟨h2, h3⟩
theorem key3_at {ns : List Int} {p j : Nat} (hj : j < 3) (hp : p + 3 ≤ ns.length) : (key3 ns p)[j]? = some (gN ns (p + j)) := by
  unfold key3 sl
  rw [List.getElem?_take, if_pos (by omega), List.getElem?_drop]
  exact gN_at (by omega)
theorem cE_key {ns : List Int} {p q : Nat} (hp : p < q) (hq : q + 3 ≤ ns.length) : 2 < cE ns p q ↔ key3 ns p = key3 ns q := by
  obtain ⟨h1, h2⟩ := cE_spec ns p q
  have hl : ∀ r, r + 3 ≤ ns.length → (key3 ns r).length = 3 := fun r hr => by unfold key3; rw [sl_len]; omega
  constructor
  · intro h
    refine List.ext_getElem? fun j => ?_
    by_cases c : j < 3
    · rw [key3_at c (by omega), key3_at c hq, of_decide_eq_true (h1 j (by omega))]
    · rw [List.getElem?_eq_none_iff.mpr (by rw [hl p (by omega)]; omega), List.getElem?_eq_none_iff.mpr (by rw [hl q hq]; omega)]
  · intro h
    refine Nat.lt_of_not_le fun c => ?_
    rcases h2 with h2 | h2
    · omega
    · have hj : cE ns p q < 3 := by omega
      have := key3_at (ns := ns) (p := p) hj (by omega)
      rw [h, key3_at hj hq] at this
      have := Option.some.inj this
      exact absurd h2 (by rw [eqAt, decide_eq_true this.symm]; decide)
theorem lawS_bm {ns : List Int} {q : Nat} : (if q + 2 < ns.length then lawS ns q (List.range q).reverse 0 (0, 0) else (0, 0)) = bm ns q := by
  unfold bm
  by_cases h : q + 2 < ns.length
  · rw [if_pos h, if_neg (by omega), lawS_cmp _ _ _ (down_range q) (Nat.zero_le _), last16_rev]
    unfold pls
    rw [← List.filter_reverse]
    congr 2
    refine List.filter_congr fun p hp => ?_
    have hpq := List.mem_range.mp (List.mem_reverse.mp hp)
    exact decide_eq_decide.mpr (cE_key hpq (by omega))
  · rw [if_neg h, if_pos (by omega)]
/-! ### reading what was written -/
def sqT (ns : List Int) : Nat → Nat → List Int → List Int
  | 0, _, kept => pp kept
  | f + 1, n, kept =>
    if n < ns.length then
      if 0 < (bm ns n).2 then pp kept ++ ([((bm ns n).2 : Int) + 125] ++ wl2 (bm ns n).1) ++ sqT ns f (n + (bm ns n).2) []
      else if (kept ++ [gN ns n]).length = 128 then pp (kept ++ [gN ns n]) ++ sqT ns f (n + 1) [] else sqT ns f (n + 1) (kept ++ [gN ns n])
    else pp kept
theorem sqS_T (ns : List Int) : ∀ (f n : Nat) (found kept : List Int), sqS ns f n found kept = found ++ sqT ns f n kept
  | 0, _, _, _ => rfl
  | f + 1, n, found, kept => by
    rw [sqS, sqT]
    split
    · split
      · rw [sqS_T ns f]; simp only [List.append_assoc]
      · split
        · rw [sqS_T ns f]; simp only [List.append_assoc]
        · rw [sqS_T ns f]
    · rfl
theorem sqF_T (ns : List Int) : sqF ns = sqT ns ns.length 0 [] := by unfold sqF; rw [sqS_T]; rfl
theorem cmp_spec {ns : List Int} {q : Nat} : ∀ (l : List Nat) (s : Nat × Nat), (∀ p ∈ l, p < q) → (s.2 = 0 ∨ ∃ p, p < q ∧ s = (q - p, cE ns p q)) → ((cmp ns q l s).2 = 0 ∨ ∃ p, p < q ∧ cmp ns q l s = (q - p, cE ns p q))
  | [], s, _, h => h
  | p :: ps, s, hp, h => by
    rw [cmp]
    split
    · exact h
    · refine cmp_spec ps _ (fun x hx => hp x (List.mem_cons_of_mem _ hx)) ?_
      split
      · exact .inr ⟨p, hp p List.mem_cons_self, rfl⟩
      · exact h
theorem bm_spec {ns : List Int} {q : Nat} (h : 0 < (bm ns q).2) : ∃ p, p < q ∧ bm ns q = (q - p, cE ns p q) := by
  unfold bm at h ⊢
  split
  · rename_i c; rw [if_pos c] at h; exact absurd h (by decide)
  · rename_i c
    rw [if_neg c] at h
    rcases cmp_spec (ns := ns) (q := q) (last16 (pls ns q (key3 ns q))).reverse (0, 0) (fun p hp => pls_lt p (List.mem_of_mem_drop (List.mem_reverse.mp hp))) (.inl rfl) with h2 | h2
    · omega
    · exact h2
theorem bm_3 {ns : List Int} {q : Nat} (h : 0 < (bm ns q).2) : 3 ≤ (bm ns q).2 ∧ q + (bm ns q).2 ≤ ns.length := by
  have hb := bm_le ns q
  refine ⟨?_, by omega⟩
  have e := lawS_bm (ns := ns) (q := q)
  have : ∀ (ps : List Nat) (seen : Nat) (s : Nat × Nat), (s.2 = 0 ∨ 3 ≤ s.2) → ((lawS ns q ps seen s).2 = 0 ∨ 3 ≤ (lawS ns q ps seen s).2) := by
    intro ps
    induction ps with
    | nil => exact fun _ _ h => h
    | cons p r ih =>
      intro seen s hs
      rw [lawS]
      split
      · exact hs
      · split
        · exact hs
        · split
          · refine ih _ _ ?_
            split
            · exact .inr (by assumption)
            · exact hs
          · exact ih _ _ hs
  rw [← e] at h ⊢
  split
  · rename_i c
    rw [if_pos c] at h
    rcases this (List.range q).reverse 0 (0, 0) (.inl rfl) with h2 | h2
    · omega
    · exact h2
  · rename_i c
    rw [if_neg c] at h
    exact absurd h (by decide)
theorem gN_app1 {X Y : List Int} {i : Nat} (h : i < X.length) : gN (X ++ Y) i = gN X i := by
  unfold gN
  rw [List.getD_eq_getElem?_getD, List.getD_eq_getElem?_getD, List.getElem?_append, if_pos h]
theorem gN_app2 {X Y : List Int} {i : Nat} : gN (X ++ Y) (X.length + i) = gN Y i := by
  unfold gN
  rw [List.getD_eq_getElem?_getD, List.getD_eq_getElem?_getD, List.getElem?_append, if_neg (by omega), Nat.add_sub_cancel_left]
theorem sl_app2 {X Y : List Int} {i j : Nat} : sl (X ++ Y) (X.length + i) (X.length + j) = sl Y i j := by
  unfold sl
  rw [List.drop_append, List.drop_eq_nil_of_le (by omega), List.nil_append, Nat.add_sub_cancel_left, show X.length + j - (X.length + i) = j - i by omega]
theorem sl_take (ns : List Int) (i j : Nat) (h : i ≤ j) : ns.take i ++ sl ns i j = ns.take j := by
  unfold sl
  rw [show j = i + (j - i) by omega, List.take_add, Nat.add_sub_cancel_left]
theorem sl_cons {a : Int} {Y : List Int} {j : Nat} : sl (a :: Y) 1 (j + 1) = Y.take j := by
  unfold sl
  rw [List.drop_succ_cons, List.drop_zero, Nat.add_sub_cancel]
/-- what a match gives is what stands there -/
theorem cyc_sl {ns : List Int} {p n m : Nat} (hp : p < n) (hn : n + m ≤ ns.length) (he : ∀ j, j < m → gN ns (p + j) = gN ns (n + j)) : cyc (ns.take n) (n - p) m = sl ns n (n + m) := by
  have key : ∀ k, k < m → gN ns (p + k % (n - p)) = gN ns (n + k) := by
    intro k
    induction k using Nat.strongRecOn with
    | _ k ih =>
      intro hk
      by_cases c : k < n - p
      · rw [Nat.mod_eq_of_lt c]; exact he k hk
      · rw [Nat.mod_eq_sub_mod (by omega), ih (k - (n - p)) (by omega) (by omega), ← he k hk]
        congr 1
        omega
  refine List.ext_getElem? fun k => ?_
  unfold cyc sl
  rw [List.getElem?_map, List.getElem?_take, List.getElem?_drop]
  by_cases c : k < m
  · have hm := Nat.mod_lt k (show 0 < n - p by omega)
    rw [List.getElem?_range c, Option.map_some, if_pos (by omega), gN_at (by omega), ← key k c]
    congr 1
    have hl : (ns.take n).length = n := by rw [List.length_take]; omega
    rw [hl, show n - (n - p) = p by omega]
    unfold gN
    rw [List.getD_eq_getElem?_getD, List.getD_eq_getElem?_getD, List.getElem?_take, if_pos (by omega)]
  · rw [List.getElem?_eq_none_iff.mpr (by rw [List.length_range]; omega), if_neg (by omega)]
    rfl
/-- reading at a place behind X -/
theorem mB_plain {X Y kept fs : List Int} (hk : kept ≠ []) (hl : kept.length ≤ 128) : mB (X ++ (pp kept ++ Y)) fs X.length = kept ∧ mE (X ++ (pp kept ++ Y)) X.length = X.length + (kept.length + 1) := by
  have hpp : pp kept = ((kept.length : Int) - 1) :: kept := by unfold pp; rw [if_neg hk]
  have hk1 : 1 ≤ kept.length := by
    cases kept with
    | nil => exact absurd rfl hk
    | cons a r => exact Nat.succ_pos _
  have hg : gN (X ++ (pp kept ++ Y)) X.length = (kept.length : Int) - 1 := by
    rw [show X.length = X.length + 0 from rfl, gN_app2, hpp]
    rfl
  have ht : ((kept.length : Int) - 1).toNat = kept.length - 1 := by omega
  unfold mB mE
  rw [hg, if_pos (by omega), if_pos (by omega), ht, show X.length + (kept.length - 1) + 2 = X.length + (kept.length + 1) by omega]
  refine ⟨?_, rfl⟩
  rw [sl_app2, hpp, List.cons_append, sl_cons, List.take_left]
theorem mB_match {X Y fs : List Int} {m d : Nat} (hm : 3 ≤ m ∧ m ≤ 130) (hd : 1 ≤ d ∧ d ≤ 4096) (hdl : d ≤ fs.length) :
    mB (X ++ ([(m : Int) + 125] ++ wl2 (d : Int) ++ Y)) fs X.length = cyc fs d m ∧ mE (X ++ ([(m : Int) + 125] ++ wl2 (d : Int) ++ Y)) X.length = X.length + 3 := by
  have hg : gN (X ++ ([(m : Int) + 125] ++ wl2 (d : Int) ++ Y)) X.length = (m : Int) + 125 := by
    rw [show X.length = X.length + 0 from rfl, gN_app2]
    rfl
  unfold mB mE
  rw [hg, if_neg (by omega), if_neg (by omega), show ((m : Int) + 125).toNat - 125 = m by omega]
  refine ⟨?_, rfl⟩
  have e : sl (X ++ ([(m : Int) + 125] ++ wl2 (d : Int) ++ Y)) (X.length + 1) (X.length + 3) = [(d : Int) % 256, (d : Int) / 256 % 256] := by
    rw [sl_app2]; rfl
  have eD : lowF [(d : Int) % 256, (d : Int) / 256 % 256] = (d : Int) := by
    show (0 * 256 + (d : Int) / 256 % 256) * 256 + (d : Int) % 256 = _
    omega
  unfold again
  rw [e, eD, if_neg (by rintro (h | h | h); exact absurd h (by show ¬ 2 < 2; decide); omega; omega), Int.toNat_natCast]
  exact again_cyc hd.1 hdl (by omega)
def Res (ns : List Int) (lf : Int) (b : Nat) (r : List Int × Int) : Prop := (((ns.length : Int) - b ≤ lf) → r = (ns, lf - ((ns.length : Int) - b))) ∧ ((lf < (ns.length : Int) - b) → ∃ m, m < ns.length ∧ r = (ns.take m, 0))
theorem Res.back {ns : List Int} {lf : Int} {b n : Nat} {r : List Int × Int} (h : Res ns (lf - ((n : Int) - b)) n r) : Res ns lf b r :=
  ⟨fun z => by rw [h.1 (by omega)]; congr 1; omega, fun z => h.2 (by omega)⟩
theorem pieceK {ns X Y kept : List Int} {b n : Nat} (hb : b + kept.length = n) (hn : n ≤ ns.length) (hk : ns.take b ++ kept = ns.take n) (hkl : kept.length ≤ 128)
    (h : ∀ (k : Nat) (lf : Int), Y.length ≤ k → 0 ≤ lf → Res ns lf n (rdM (X ++ (pp kept ++ Y)) k (X ++ pp kept).length lf (ns.take n))) :
    ∀ (k : Nat) (lf : Int), (pp kept ++ Y).length ≤ k → 0 ≤ lf → Res ns lf b (rdM (X ++ (pp kept ++ Y)) k X.length lf (ns.take b)) := by
  intro k lf hk2 hlf
  by_cases he : kept = []
  · subst he
    have hbn : b = n := hb
    subst hbn
    have := h k lf (by simpa [pp] using hk2) hlf
    rw [show (X ++ pp []).length = X.length by simp [pp]] at this
    exact this
  · obtain ⟨h1, h2⟩ := mB_plain (X := X) (Y := Y) (fs := ns.take b) he hkl
    have hpl : (pp kept).length = kept.length + 1 := by unfold pp; rw [if_neg he]; rfl
    have hkp : 1 ≤ kept.length := by
      cases kept with
      | nil => exact absurd rfl he
      | cons a r => exact Nat.succ_pos _
    rw [List.length_append, hpl] at hk2
    obtain ⟨k, rfl⟩ : ∃ k', k = k' + 1 := ⟨k - 1, by omega⟩
    rw [rdM, if_pos (by rw [List.length_append, List.length_append, hpl]; omega), h1, h2]
    by_cases c : lf < (kept.length : Int)
    · rw [if_pos c]
      exact ⟨fun z => absurd z (by omega), fun _ => ⟨b, by omega, rfl⟩⟩
    · rw [if_neg c, hk]
      have := h k (lf - (kept.length : Int)) (by omega) (by omega)
      rw [List.length_append, hpl] at this
      refine Res.back (n := n) ?_
      rw [show lf - ((n : Int) - (b : Int)) = lf - (kept.length : Int) by omega]
      exact this
theorem rt {ns : List Int} : ∀ (f n : Nat) (kept X : List Int) (b : Nat), b + kept.length = n → n ≤ ns.length → ns.take b ++ kept = ns.take n → kept.length ≤ 127 → ns.length ≤ n + f →
    ∀ (k : Nat) (lf : Int), (sqT ns f n kept).length ≤ k → 0 ≤ lf → Res ns lf b (rdM (X ++ sqT ns f n kept) k X.length lf (ns.take b)) := by
  intro f
  have fin : ∀ (n : Nat) (kept X : List Int) (b : Nat), b + kept.length = n → n = ns.length → ns.take b ++ kept = ns.take n → kept.length ≤ 127 → ∀ (k : Nat) (lf : Int), (pp kept).length ≤ k → 0 ≤ lf → Res ns lf b (rdM (X ++ pp kept) k X.length lf (ns.take b)) := by
    intro n kept X b hb hn hk hkl k lf hk2 hlf
    have := pieceK (X := X) (Y := []) hb (Nat.le_of_eq hn) hk (by omega) (fun k lf _ hlf => by
      rw [rdM_end _ _ _ _ (by rw [List.append_nil]; exact Nat.le_refl _)]
      exact ⟨fun _ => by rw [hn, List.take_length]; congr 1; omega, fun z => absurd z (by omega)⟩) k lf (by rw [List.append_nil]; exact hk2) hlf
    rw [List.append_nil] at this
    exact this
  induction f with
  | zero =>
    intro n kept X b hb hn hk hkl hnf
    exact fin n kept X b hb (by omega) hk hkl
  | succ f ih =>
    intro n kept X b hb hn hk hkl hnf
    by_cases c : n < ns.length
    · by_cases c2 : 0 < (bm ns n).2
      · have e : sqT ns (f + 1) n kept = pp kept ++ ([((bm ns n).2 : Int) + 125] ++ wl2 (bm ns n).1 ++ sqT ns f (n + (bm ns n).2) []) := by rw [sqT, if_pos c, if_pos c2]; simp only [List.append_assoc]
        obtain ⟨p, hp, eb⟩ := bm_spec c2
        obtain ⟨h3, hnm⟩ := bm_3 c2
        have h130 := bm_130 ns n
        have h4096 := (bm_le ns n).2
        obtain ⟨hs1, _⟩ := cE_spec ns p n
        rw [e]
        rw [eb] at h3 hnm h130 h4096 ⊢
        refine pieceK hb hn hk (by omega) fun k lf hk2 hlf => ?_
        have hlt : (ns.take n).length = n := by rw [List.length_take]; omega
        obtain ⟨m1, m2⟩ := mB_match (X := X ++ pp kept) (Y := sqT ns f (n + cE ns p n) []) (fs := ns.take n) (m := cE ns p n) (d := n - p) ⟨h3, h130⟩ ⟨by omega, h4096⟩ (by omega)
        rw [← List.append_assoc X]
        rw [List.length_append, List.length_append] at hk2
        have hk3 : 1 + 2 + (sqT ns f (n + cE ns p n) []).length ≤ k := hk2
        obtain ⟨k, rfl⟩ : ∃ k', k = k' + 1 := ⟨k - 1, by omega⟩
        rw [rdM, if_pos (by rw [List.length_append (as := X ++ pp kept), List.length_append, List.length_append]; show _ < _ + (1 + 2 + _); omega), m1, m2]
        have hcl : (cyc (ns.take n) (n - p) (cE ns p n)).length = cE ns p n := by unfold cyc; rw [List.length_map, List.length_range]
        rw [hcl]
        by_cases c3 : lf < (cE ns p n : Int)
        · rw [if_pos c3]
          exact ⟨fun z => absurd z (by omega), fun _ => ⟨n, c, rfl⟩⟩
        · rw [if_neg c3, cyc_sl hp hnm (fun j hj => of_decide_eq_true (hs1 j hj)), sl_take _ _ _ (Nat.le_add_right _ _)]
          have := ih (n + cE ns p n) [] (X ++ pp kept ++ ([(cE ns p n : Int) + 125] ++ wl2 ((n - p : Nat) : Int))) (n + cE ns p n) rfl hnm (List.append_nil _) (by decide) (by omega) k (lf - (cE ns p n : Int)) (by omega) (by omega)
          refine Res.back (n := n + cE ns p n) ?_
          rw [show lf - (((n + cE ns p n : Nat) : Int) - (n : Int)) = lf - (cE ns p n : Int) by omega]
          rw [List.append_assoc (X ++ pp kept)] at this
          have hXl : (X ++ pp kept ++ ([(cE ns p n : Int) + 125] ++ wl2 ((n - p : Nat) : Int))).length = (X ++ pp kept).length + 3 := by rw [List.length_append (as := X ++ pp kept)]; rfl
          rw [hXl] at this
          exact this
      · have hkx : ns.take b ++ (kept ++ [gN ns n]) = ns.take (n + 1) := by rw [← List.append_assoc, hk, take_succ (gN_at c)]
        have hkl1 : (kept ++ [gN ns n]).length = kept.length + 1 := by rw [List.length_append]; rfl
        by_cases c3 : (kept ++ [gN ns n]).length = 128
        · have e : sqT ns (f + 1) n kept = pp (kept ++ [gN ns n]) ++ sqT ns f (n + 1) [] := by rw [sqT, if_pos c, if_neg c2, if_pos c3]
          rw [e]
          refine pieceK (n := n + 1) (by omega) (by omega) hkx (by omega) fun k lf hk2 hlf => ?_
          have := ih (n + 1) [] (X ++ pp (kept ++ [gN ns n])) (n + 1) rfl (by omega) (List.append_nil _) (by decide) (by omega) k lf hk2 hlf
          rw [List.append_assoc] at this
          exact this
        · have e : sqT ns (f + 1) n kept = sqT ns f (n + 1) (kept ++ [gN ns n]) := by rw [sqT, if_pos c, if_neg c2, if_neg c3]
          rw [e]
          exact ih (n + 1) _ X b (by omega) (by omega) hkx (by omega) (by omega)
    · have e : sqT ns (f + 1) n kept = pp kept := by rw [sqT, if_neg c]
      rw [e]
      exact fin n kept X b hb (by omega) hk hkl
/-- there and back -/
theorem sq_back (ns : List Int) (lf : Int) (h : 0 ≤ lf) : Res ns lf 0 (usR (sqF ns) ((sqF ns).length + lf)) := by
  have := rt (ns := ns) ns.length 0 [] [] 0 rfl (Nat.zero_le _) rfl (by decide) (by omega) (sqF ns).length lf (by rw [← sqF_T]; exact Nat.le_refl _) h
  rw [List.nil_append, ← sqF_T] at this
  unfold usR
  rw [if_neg (by omega), show ((sqF ns).length : Int) + lf - ((sqF ns).length : Int) = lf by omega]
  exact this

def sp__law_is_integer (K : PySem.W.Frag) : Sp := fun vs H Q _ => ∃ (i : Int), vs = [.int i] ∧ (Q (.bl true) H)
theorem ok__law_is_integer (T : Txt K mg) : FnOk P w K mg base CX0 1 T.f__law_is_integer T.fd__law_is_integer ["actual"] (sp__law_is_integer K) := by
  refine T.F__law_is_integer.ok sc__law_is_integer (fun vs H Q E h => ?_) (fun cdv A outer s H vs Q E hr h => ?_)
  · obtain ⟨i, rfl, _⟩ := h
    rfl
  · obtain ⟨i, rfl, q⟩ := h
    refine ⟨_, (pss_one (ps_ret (pe_and (pe_callB call_isiB (by rfl) T.z_isinstance (by decide +kernel) (pa_cons (pv 0) (pa_cons (pe_bltn (v := .ty "int") (u := .type "int") (by rfl) T.z_int (by decide +kernel) rfl) pa_nil))) (pe_one (pe_not (pe_callB call_isiB (by rfl) T.z_isinstance (by decide +kernel) (pa_cons (pv 0) (pa_cons (pe_bltn (v := .ty "bool") (u := .type "bool") (by rfl) T.z_bool (by decide +kernel) rfl) pa_nil)))))))), ?_⟩
    walk_at "vc"
    exact q
def sp__law_is_bytes (K : PySem.W.Frag) : Sp := fun vs H Q _ => ∃ (a : Addr) (ns : List Int), vs = [.ref a] ∧ (H a = some (.lst (List.map V.int ns))) ∧ (Byt ns) ∧ (Q (.bl true) H)
theorem ok__law_is_bytes (T : Txt K mg) : FnOk P w K mg base CX0 2 T.f__law_is_bytes T.fd__law_is_bytes ["actual"] (sp__law_is_bytes K) := by
  refine T.F__law_is_bytes.ok sc__law_is_bytes (fun vs H Q E h => ?_) (fun cdv A outer s H vs Q E hr h => ?_)
  · obtain ⟨a, ns, rfl, _⟩ := h
    rfl
  · obtain ⟨a, ns, rfl, ha, hB, q⟩ := h
    refine ⟨_, (pss_cons (ps_if (pt_not (pt_val (pe_callB call_isiB (by rfl) T.z_isinstance (by decide +kernel) (pa_cons (pv 0) (pa_cons (pe_bltn (v := .ty "list") (u := .type "list") (by rfl) T.z_list (by decide +kernel) rfl) pa_nil))))) (pss_one (ps_ret pe_bl)) pss_nil)
      (pss_cons (ps_for PassesOwn.never rfl (pi_listS (pv 0)) (pg_name (i := 1) sc__law_is_bytes.nd rfl (Or.inl rfl)) (pss_one (ps_if (PW.pt (pw_or (pt_not (pt_val (pe_call (ok__law_is_integer T) hr (by rfl) T.g__law_is_integer T.F__law_is_integer.kp T.b__law_is_integer .nil pass0 (pa_cons (pv 1) pa_nil)))) (pw_or (pt_cmpR op_lt (pv 1) pe_int (nomark _)) (pw_or1 (pt_cmpR op_gt (pv 1) pe_int (nomark _)))))) (pss_one (ps_ret pe_bl)) pss_nil)))
      (pss_one (ps_ret pe_bl)))), ?_⟩
    walk_at "vc ha"
    refine lpW (walkI (ns := ns)) (fun i σ H' => ∃ v1 : Option V, σ = [some (.ref a), v1] ∧ H = H') ⟨_, rfl, rfl⟩ (fun i σ H' _ ⟨_, _, e⟩ => by rw [← e]; exact ha) ?_ ?_
    · rintro i x σ H' H2 hi ⟨v1, rfl, rfl⟩ ⟨rfl, b, hb, rfl⟩
      have := hB b (List.mem_of_getElem? hb)
      walk_at "vc sp__law_is_integer"
      exact iteP (fun z => absurd z (by omega)) fun _ => iteP (fun z => absurd z (by omega)) fun _ => True.intro
    · rintro σ H' ⟨v1, rfl, rfl⟩
      walk_at "vc"
      exact q

def sp__law_equal (K : PySem.W.Frag) : Sp := fun vs H Q _ => ∃ (a : Addr) (ns : List Int) (p n : Nat), vs = [.ref a, .int (p : Int), .int (n : Int)] ∧ (H a = some (.lst (List.map V.int ns))) ∧ (p < n) ∧ (Q (.int (cE ns p n : Nat)) H)
theorem ok__law_equal (T : Txt K mg) : FnOk P w K mg base CX0 1 T.f__law_equal T.fd__law_equal ["data", "before", "at"] (sp__law_equal K) := by
  refine T.F__law_equal.ok sc__law_equal (fun vs H Q E h => ?_) (fun cdv A outer s H vs Q E hr h => ?_)
  · obtain ⟨a, ns, p, n, rfl, _⟩ := h
    rfl
  · obtain ⟨a, ns, p, n, rfl, ha, hp, q⟩ := h
    refine ⟨_, (pss_cons (ps_set (i := 3) sc__law_equal.nd rfl (Or.inl rfl) pe_int)
      (pss_cons (ps_for PassesOwn.never rfl (pi_range1 (by rfl) T.z_range (pa_cons pe_int pa_nil)) (pg_name (i := 4) sc__law_equal.nd rfl (Or.inl rfl)) (pss_cons (ps_if (PW.pt (pw_or (pt_cmpR op_ge (pe_op op_add (pv 2) (pv 4)) (pe_callB call_lenH (by rfl) T.z_len PySem.boot_len (pa_cons (pv 0) pa_nil)) (nomark _)) (pw_or1 (pt_cmpR op_ne (pe_ix ix_listH (pv 0) (pe_op op_add (pv 1) (pv 4)) (fun _ _ => rfl)) (pe_ix ix_listH (pv 0) (pe_op op_add (pv 2) (pv 4)) (fun _ _ => rfl)) (nomark _))))) (pss_one ps_break) pss_nil)
      (pss_one (ps_set (i := 3) sc__law_equal.nd rfl (Or.inl rfl) (pe_op op_add (pv 3) pe_int)))))
      (pss_one (ps_ret (pv 3))))), ?_⟩
    walk_at "vc"
    have key : ∀ m, (∀ j, j < m → eqAt ns p n j = true) → m ≤ min 130 (ns.length - n) → (m = min 130 (ns.length - n) ∨ eqAt ns p n m = false) → Q (.int (m : Int)) H := fun m h1 h0 h2 => by
      rw [show cE ns p n = m from takeWhile_n h0 h1 h2] at q
      exact q
    refine lpW (walkR (n := 130)) (fun i σ H' => ∃ v4, σ = [some (.ref a), some (.int (p : Int)), some (.int (n : Int)), some (.int (i : Int)), v4] ∧ H = H' ∧ (∀ j, j < i → eqAt ns p n j = true) ∧ (i = 0 ∨ n + i ≤ ns.length)) ⟨_, rfl, rfl, (fun j h => absurd h (Nat.not_lt_zero _)), .inl rfl⟩ (fun _ _ _ _ _ => True.intro) ?_ ?_
    · rintro i x σ Hz H2 hi ⟨v4, rfl, rfl, hj, hb⟩ ⟨rfl, rfl⟩
      walk_at "vc ha"
      refine iteP (fun z => key i hj (by omega) (.inl (by omega))) fun z => ?_
      refine ⟨_, at_g' (i := p + i) (by omega) (by omega), _, at_g' (i := n + i) (by omega) (by omega), ?_⟩
      refine ⟨rfl, ?_⟩
      by_cases e : gN ns (p + i) = gN ns (n + i)
      · refine iteF' (by rw [e]; simp) ⟨fun j h => ?_, by omega⟩
        by_cases c : j = i
        · rw [c]; exact decide_eq_true e
        · exact hj j (by omega)
      · exact iteT' (by simp [e]) (key i hj (by omega) (.inr (decide_eq_false e)))
    · rintro σ H2 ⟨v4, rfl, rfl, hj, hb⟩
      walk_at "vc"
      exact key 130 hj (by omega) (.inl (by omega))
def sp__law_best (K : PySem.W.Frag) : Sp := fun vs H Q _ => ∃ (a : Addr) (ns : List Int) (n : Nat), vs = [.ref a, .int (n : Int)] ∧ (H a = some (.lst (List.map V.int ns))) ∧ (n < ns.length) ∧ (ns.length ≤ 100000) ∧ (∀ H' p, Same H H' → H p = none → H' p = some (.tup [.int ((bm ns n).2 : Nat), .int ((bm ns n).1 : Nat)]) → Q (.ref p) H')
theorem ok__law_best (T : Txt K mg) : FnOk P w K mg base CX0 2 T.f__law_best T.fd__law_best ["data", "at"] (sp__law_best K) := by
  refine T.F__law_best.ok sc__law_best (fun vs H Q E h => ?_) (fun cdv A outer s H vs Q E hr h => ?_)
  · obtain ⟨a, ns, n, rfl, _⟩ := h
    rfl
  · obtain ⟨a, ns, n, rfl, ha, hn, hl, q⟩ := h
    refine ⟨_, (pss_cons (ps_set (i := 2) sc__law_best.nd rfl (Or.inl rfl) (pe_tupS (pa_cons pe_int (pa_cons pe_int pa_nil))))
      (pss_cons (ps_set (i := 3) sc__law_best.nd rfl (Or.inl rfl) pe_int)
      (pss_cons (ps_for PassesOwn.never rfl (pi_range2 (by rfl) T.z_range (pa_cons pe_int (pa_cons (pe_op op_add (pe_callB (call_min2 rfl) (by rfl) T.z_min (by decide +kernel) (pa_cons (pv 1) (pa_cons pe_int pa_nil))) pe_int) pa_nil))) (pg_name (i := 4) sc__law_best.nd rfl (Or.inl rfl)) (pss_cons (ps_if (pt_cmpR op_eq (pv 3) pe_int (nomark _)) (pss_one ps_break) pss_nil)
      (pss_cons (ps_set (i := 5) sc__law_best.nd rfl (Or.inl rfl) pe_int)
      (pss_cons (ps_if (PW.pt (pw_and (pt_cmpR op_lt (pe_op op_add (pv 1) pe_int) (pe_callB call_lenH (by rfl) T.z_len PySem.boot_len (pa_cons (pv 0) pa_nil)) (nomark _)) (pw_and1 (pt_cmpR op_eq (pe_ix ix_listH (pv 0) (pe_op op_sub (pv 1) (pv 4)) (fun _ _ => rfl)) (pe_ix ix_listH (pv 0) (pv 1) (fun _ _ => rfl)) (nomark _))))) (pss_one (ps_set (i := 5) sc__law_best.nd rfl (Or.inl rfl) (pe_call (ok__law_equal T) hr (by rfl) T.g__law_equal T.F__law_equal.kp T.b__law_equal .nil pass0 (pa_cons (pv 0) (pa_cons (pe_op op_sub (pv 1) (pv 4)) (pa_cons (pv 1) pa_nil)))))) pss_nil)
      (pss_one (ps_if (pt_cmpR op_gt (pv 5) pe_int (nomark _)) (pss_cons (ps_set (i := 3) sc__law_best.nd rfl (Or.inl rfl) (pe_op op_add (pv 3) pe_int))
      (pss_one (ps_if (pt_cmpR op_gt (pv 5) (pe_ix ix_tupH (pv 2) pe_int (fun _ _ => rfl)) (nomark _)) (pss_one (ps_set (i := 2) sc__law_best.nd rfl (Or.inl rfl) (pe_tupS (pa_cons (pv 5) (pa_cons (pv 4) pa_nil))))) pss_nil))) pss_nil))))))
      (pss_one (ps_ret (pv 2)))))), ?_⟩
    walk_at "vc"
    intro p0 H1 s1 n1 g1
    rw [show mn (n : Int) 4096 + 1 = ((min n 4096 : Nat) : Int) + 1 by unfold mn; split <;> omega]
    obtain ⟨N, hN⟩ : ∃ N, min n 4096 = N := ⟨_, rfl⟩
    rw [hN]
    refine ⟨by omega, by omega, ?_⟩
    rw [show ((N : Int) + 1 - 1).toNat = N by omega]
    have hD : ∀ i, i < n → (List.range n).reverse.drop i = (n - 1 - i) :: (List.range n).reverse.drop (i + 1) := fun i hi => by
      have hlen : i < (List.range n).reverse.length := by rw [List.length_reverse, List.length_range]; exact hi
      rw [List.drop_eq_getElem_cons hlen, List.getElem_reverse, List.getElem_range, List.length_range]
    have fin : ∀ (H' : Hp) (p : Addr) (s : Nat × Nat), Same H H' → H p = none → H' p = some (.tup [.int (s.2 : Int), .int (s.1 : Int)]) → bm ns n = s → Q (.ref p) H' := fun H' p s sm np g e => q H' p sm np (by rw [e]; exact g)
    by_cases h2 : n + 2 < ns.length
    · have eb : lawS ns n (List.range n).reverse 0 (0, 0) = bm ns n := by have := lawS_bm (ns := ns) (q := n); rw [if_pos h2] at this; exact this
      refine lpW (walk_range (lo := 1) (n := N)) (fun i σ H' => ∃ (p : Addr) (seen : Nat) (s : Nat × Nat) (v4 v5 : Option V), σ = [some (.ref a), some (.int (n : Int)), some (.ref p), some (.int (seen : Int)), v4, v5] ∧ Same H H' ∧ H p = none ∧ H' p = some (.tup [.int (s.2 : Int), .int (s.1 : Int)]) ∧ seen ≤ 16 ∧ lawS ns n ((List.range n).reverse.drop i) seen s = bm ns n) ⟨p0, 0, (0, 0), _, _, rfl, s1, n1, g1, Nat.zero_le _, by rw [List.drop_zero]; exact eb⟩ (fun _ _ _ _ _ => True.intro) ?_ ?_
      · rintro i x σ Hz H2 hi ⟨p, seen, s, v4, v5, rfl, sm, np, g, hse, hS⟩ ⟨rfl, rfl⟩
        have ha2 := sm _ _ ha
        rw [hD i (by omega), lawS, if_neg (show ¬ 4096 < n - (n - 1 - i) by omega)] at hS
        walk_at "vc ha2"
        refine iteP (fun z => ?_) fun z => iteP (fun _ => ?_) fun z2 => absurd (show (n : Int) + 2 < ns.length by omega) z2
        · rw [if_pos (by omega)] at hS
          exact fin H2 p s sm np g hS.symm
        rw [if_neg (by omega)] at hS
        obtain ⟨pp', hpp⟩ : ∃ r, n - 1 - i = r := ⟨_, rfl⟩
        rw [hpp] at hS
        have hlt : pp' < n := by omega
        have ed : ((n : Int) - (1 + (i : Int))) = (pp' : Int) := by omega
        have edd : ((1 : Int) + (i : Int)) = ((n - pp' : Nat) : Int) := by omega
        rw [ed, edd]
        refine ⟨_, at_g (show pp' < ns.length by omega), _, at_g hn, rfl, iteP (fun e => ?_) fun e => ?_⟩
        · refine ⟨a, ns, pp', n, rfl, ha2, hlt, _, rfl, iteP (fun y => ?_) fun y => ?_⟩
          · rw [if_pos (show 2 < cE ns pp' n by omega)] at hS
            refine ⟨_, g, _, atI_c0 _ _, _, rfl, _, rfl, iteP (fun w => ?_) fun w => ?_⟩
            · rw [if_pos (show s.2 < cE ns pp' n by omega)] at hS
              intro p3 H3 s3 n3 g3
              exact ⟨seen + 1, by omega, sm.trans s3, sm.free n3, (n - pp', cE ns pp' n), g3, by omega, hS⟩
            · rw [if_neg (show ¬ s.2 < cE ns pp' n by omega)] at hS
              exact ⟨seen + 1, by omega, sm, np, s, g, by omega, hS⟩
          · rw [if_neg (show ¬ 2 < cE ns pp' n by omega)] at hS
            exact ⟨sm, np, s, g, hse, hS⟩
        · have hc0 : ¬ 2 < cE ns pp' n := fun h => by
            have := (cE_spec ns pp' n).1 0 (by omega)
            exact e (congrArg V.int (of_decide_eq_true this))
          rw [if_neg hc0] at hS
          exact ⟨sm, np, s, g, hse, hS⟩
      · rintro σ H2 ⟨p, seen, s, v4, v5, rfl, sm, np, g, hse, hS⟩
        walk_at "vc"
        refine fin H2 p s sm np g ?_
        rw [← hS]
        by_cases c : n ≤ 4096
        · rw [List.drop_of_length_le (by rw [List.length_reverse, List.length_range]; omega)]; rfl
        · rw [hD N (by omega), lawS, if_pos (by omega)]
    · have eb : bm ns n = (0, 0) := by have := lawS_bm (ns := ns) (q := n); rw [if_neg h2] at this; exact this.symm
      refine lpW (walk_range (lo := 1) (n := N)) (fun i σ H' => ∃ (v4 v5 : Option V), σ = [some (.ref a), some (.int (n : Int)), some (.ref p0), some (.int 0), v4, v5] ∧ H1 = H') ⟨_, _, rfl, rfl⟩ (fun _ _ _ _ _ => True.intro) ?_ ?_
      · rintro i x σ Hz H2 hi ⟨v4, v5, rfl, rfl⟩ ⟨rfl, rfl⟩
        have ha2 := s1 _ _ ha
        walk_at "vc ha2"
        exact iteP (fun z => absurd z (by omega)) fun _ => True.intro
      · rintro σ H2 ⟨v4, v5, rfl, rfl⟩
        walk_at "vc"
        exact fin _ p0 (0, 0) s1 n1 g1 eb

def sp__law_due (K : PySem.W.Frag) : Sp := fun vs H Q _ => ∃ (a : Addr) (ns : List Int), vs = [.ref a] ∧ (H a = some (.lst (List.map V.int ns))) ∧ (ns.length ≤ 100000) ∧ (∀ H' p, Same H H' → H p = none → H' p = some (.lst (List.map V.int (sqF ns))) → Q (.ref p) H')
theorem ok__law_due (T : Txt K mg) : FnOk P w K mg base CX0 3 T.f__law_due T.fd__law_due ["data"] (sp__law_due K) := by
  refine T.F__law_due.ok sc__law_due (fun vs H Q E h => ?_) (fun cdv A outer s H vs Q E hr h => ?_)
  · obtain ⟨a, ns, rfl, _⟩ := h
    rfl
  · obtain ⟨a, ns, rfl, ha, hl, q⟩ := h
    refine ⟨_, (pss_cons (ps_set (i := 1) sc__law_due.nd rfl (Or.inl rfl) (pe_lstS pa_nil))
      (pss_cons (ps_set (i := 2) sc__law_due.nd rfl (Or.inl rfl) (pe_lstS pa_nil))
      (pss_cons (ps_set (i := 3) sc__law_due.nd rfl (Or.inl rfl) pe_int)
      (pss_cons (ps_for PassesOwn.never rfl (pi_range1 (by rfl) T.z_range (pa_cons (pe_callB call_lenH (by rfl) T.z_len PySem.boot_len (pa_cons (pv 0) pa_nil)) pa_nil)) (pg_name (i := 4) sc__law_due.nd rfl (Or.inl rfl)) (pss_cons (ps_if (pt_cmpR op_ge (pv 3) (pe_callB call_lenH (by rfl) T.z_len PySem.boot_len (pa_cons (pv 0) pa_nil)) (nomark _)) (pss_one ps_break) pss_nil)
      (pss_cons (ps_asg (pe_call (ok__law_best T) hr (by rfl) T.g__law_best T.F__law_best.kp T.b__law_best .nil pass0 (pa_cons (pv 0) (pa_cons (pv 3) pa_nil))) (pg_tupS (n := 2) (by rfl) (pgs_cons (pg_name (i := 5) sc__law_due.nd rfl (Or.inl rfl)) (pgs_cons (pg_name (i := 6) sc__law_due.nd rfl (Or.inl rfl)) pgs_nil))))
      (pss_cons (ps_if (pt_cmpR op_eq (pv 5) pe_int (nomark _)) (pss_cons (ps_expr (pe_ml (pe_bm PySem.F.plainAttrs_list PySem.F.slot_list_append PySem.F.type_list_append mt_append (pe_mono (pv 2)) (pa_cons (pe_ix ix_listH (pv 0) (pv 3) (fun _ _ => rfl)) pa_nil))))
      (pss_one (ps_set (i := 3) sc__law_due.nd rfl (Or.inl rfl) (pe_op op_add (pv 3) pe_int)))) pss_nil)
      (pss_cons (ps_if (PW.pt (pw_and (pt_cmpR op_gt (pe_callB call_lenH (by rfl) T.z_len PySem.boot_len (pa_cons (pv 2) pa_nil)) pe_int (nomark _)) (pw_and1 (PW.pt (pw_or (pt_cmpR op_gt (pv 5) pe_int (nomark _)) (pw_or1 (pt_cmpR op_eq (pe_callB call_lenH (by rfl) T.z_len PySem.boot_len (pa_cons (pv 2) pa_nil)) pe_int (nomark _)))))))) (pss_cons (ps_set (i := 1) sc__law_due.nd rfl (Or.inl rfl) (pe_op op_catS (pe_op op_catS (pv 1) (pe_lstS (pa_cons (pe_op op_sub (pe_callB call_lenH (by rfl) T.z_len PySem.boot_len (pa_cons (pv 2) pa_nil)) pe_int) pa_nil))) (pv 2)))
      (pss_one (ps_set (i := 2) sc__law_due.nd rfl (Or.inl rfl) (pe_lstS pa_nil)))) pss_nil)
      (pss_one (ps_if (pt_cmpR op_gt (pv 5) pe_int (nomark _)) (pss_cons (ps_set (i := 1) sc__law_due.nd rfl (Or.inl rfl) (pe_op op_catS (pv 1) (pe_lstS (pa_cons (pe_op op_add (pv 5) pe_int) (pa_cons (pe_op op_mod (pv 6) pe_int) (pa_cons (pe_op op_fdiv (pv 6) pe_int) pa_nil))))))
      (pss_one (ps_set (i := 3) sc__law_due.nd rfl (Or.inl rfl) (pe_op op_add (pv 3) (pv 5))))) pss_nil)))))))
      (pss_cons (ps_if (pt_cmpR op_gt (pe_callB call_lenH (by rfl) T.z_len PySem.boot_len (pa_cons (pv 2) pa_nil)) pe_int (nomark _)) (pss_one (ps_set (i := 1) sc__law_due.nd rfl (Or.inl rfl) (pe_op op_catS (pe_op op_catS (pv 1) (pe_lstS (pa_cons (pe_op op_sub (pe_callB call_lenH (by rfl) T.z_len PySem.boot_len (pa_cons (pv 2) pa_nil)) pe_int) pa_nil))) (pv 2)))) pss_nil)
      (pss_one (ps_ret (pv 1)))))))), ?_⟩
    refine seq_cut (fun σ H1 => ∃ pf, σ = [some (.ref a), some (.ref pf), none, none, none, none, none] ∧ Same H H1 ∧ H pf = none ∧ H1 pf = some (.lst [])) ?_ (fun C hC => ?_)
    rotate_left
    · walk_at "vc"
      exact fun p H1 s1 n1 g1 => hC _ _ ⟨p, rfl, s1, n1, g1⟩
    rintro σ H1 ⟨pf0, rfl, s1, nf0, g1⟩
    refine seq_cut (fun σ H2 => ∃ pk, σ = [some (.ref a), some (.ref pf0), some (.ref pk), none, none, none, none] ∧ Same H1 H2 ∧ H1 pk = none ∧ H2 pk = some (.lst [])) ?_ (fun C hC => ?_)
    rotate_left
    · walk_at "vc"
      exact fun p H1 s1 n1 g1 => hC _ _ ⟨p, rfl, s1, n1, g1⟩
    rintro σ H2 ⟨pk0, rfl, s2, nk0, g2⟩
    have s12 := s1.trans s2
    have nfk0 : pf0 ≠ pk0 := fun z => by rw [← z, g1] at nk0; cases nk0
    refine seq_cut (fun σ H3 => σ = [some (.ref a), some (.ref pf0), some (.ref pk0), some (.int ((0 : Nat) : Int)), none, none, none] ∧ H2 = H3) ?_ (fun C hC => ?_)
    rotate_left
    · walk_at "vc"
      exact hC _ _ ⟨rfl, rfl⟩
    rintro σ _ ⟨rfl, rfl⟩
    refine seq_cut (fun σ H' => ∃ (pf pk : Addr) (found kept : List Int) (v3 v4 v5 v6 : Option V), σ = [some (.ref a), some (.ref pf), some (.ref pk), v3, v4, v5, v6] ∧ Same H H' ∧ H pf = none ∧ H' pf = some (.lst (List.map V.int found)) ∧ H' pk = some (.lst (List.map V.int kept)) ∧ found ++ pp kept = sqF ns ∧ found.length ≤ 400000 ∧ kept.length ≤ 128) ?_ (fun C hC => ?_)
    rotate_left
    · have ha2 := s12 _ _ ha
      walk_at "vc ha2"
      refine ⟨by omega, by omega, ?_⟩
      have out : ∀ (n f : Nat) (found kept : List Int) (pf pk : Addr) (v3 v4 v5 v6 : Option V) (H' : Hp), Same H H' → H pf = none → H' pf = some (.lst (List.map V.int found)) → H' pk = some (.lst (List.map V.int kept)) → sqS ns f n found kept = sqF ns → found.length + kept.length ≤ 4 * n → kept.length < 128 → n = ns.length → C [some (.ref a), some (.ref pf), some (.ref pk), v3, v4, v5, v6] H' := fun n f found kept pf pk v3 v4 v5 v6 H' h1 h2 h3 h4 h5 h6 h7 h8 => by
        refine hC _ _ ⟨pf, pk, found, kept, v3, v4, v5, v6, rfl, h1, h2, h3, h4, ?_, by omega, by omega⟩
        rw [← h5]
        cases f with
        | zero => rfl
        | succ f => rw [sqS, if_neg (by omega)]
      refine lpW (walkR (n := ns.length)) (fun t σ H' => ∃ (pf pk : Addr) (found kept : List Int) (n f : Nat) (v4 v5 v6 : Option V), σ = [some (.ref a), some (.ref pf), some (.ref pk), some (.int (n : Int)), v4, v5, v6] ∧ Same H H' ∧ H pf = none ∧ H pk = none ∧ pf ≠ pk ∧ H' pf = some (.lst (List.map V.int found)) ∧ H' pk = some (.lst (List.map V.int kept)) ∧ sqS ns f n found kept = sqF ns ∧ found.length + kept.length ≤ 4 * n ∧ kept.length < 128 ∧ n ≤ ns.length ∧ t ≤ n ∧ ns.length ≤ n + f) ⟨pf0, pk0, [], [], 0, ns.length, _, _, _, rfl, s12, nf0, s1.free nk0, nfk0, s2 _ _ g1, g2, rfl, Nat.le_refl _, by decide, Nat.zero_le _, Nat.le_refl _, by omega⟩ (fun _ _ _ _ _ => True.intro) ?_ ?_
      rotate_left
      · rintro σ H3 ⟨pf, pk, found, kept, n, f, v4, v5, v6, rfl, sm, nf, nk, nfk, gf, gk, hsq, hfl, hkl, hn, htn, hnf⟩
        exact out n f found kept pf pk _ _ _ _ H3 sm nf gf gk hsq hfl hkl (by omega)
      rintro t x σ Hz H3 ht ⟨pf, pk, found, kept, n, f, v4, v5, v6, rfl, sm, nf, nk, nfk, gf, gk, hsq, hfl, hkl, hn, htn, hnf⟩ ⟨rfl, rfl⟩
      have ha3 := sm _ _ ha
      refine seq_cut (fun σ H4 => n < ns.length ∧ σ = [some (.ref a), some (.ref pf), some (.ref pk), some (.int (n : Int)), some (.int (t : Int)), v5, v6] ∧ H3 = H4) ?_ (fun C hC => ?_)
      rotate_left
      · walk_at "vc ha3"
        exact iteP (fun z => out n f found kept pf pk _ _ _ _ H3 sm nf gf gk hsq hfl hkl (by omega)) fun z => hC _ _ ⟨by omega, rfl, rfl⟩
      rintro σ _ ⟨hlt, rfl, rfl⟩
      obtain ⟨f, rfl⟩ : ∃ f', f = f' + 1 := ⟨f - 1, by omega⟩
      rw [sqS, if_pos hlt] at hsq
      have hbl := bm_le ns n
      have h130 := bm_130 ns n
      refine seq_cut (fun σ H4 => σ = [some (.ref a), some (.ref pf), some (.ref pk), some (.int (n : Int)), some (.int (t : Int)), some (.int ((bm ns n).2 : Nat)), some (.int ((bm ns n).1 : Nat))] ∧ Same H3 H4) ?_ (fun C hC => ?_)
      rotate_left
      · walk_at "vc"
        exact ⟨a, ns, n, rfl, ha3, hlt, hl, fun H4 p4 s4 n4 g4 => ⟨p4, rfl, _, g4, rfl, _, _, rfl, _, _, rfl, rfl, hC _ _ ⟨rfl, s4⟩⟩⟩
      rintro σ H4 ⟨rfl, s34⟩
      have sm4 := sm.trans s34
      have ha4 := sm4 _ _ ha
      have gf4 := s34 _ _ gf
      have gk4 := s34 _ _ gk
      generalize bm ns n = B at hsq hbl h130 ⊢
      have hkl1 : (kept ++ [gN ns n]).length = kept.length + 1 := by rw [List.length_append]; rfl
      refine seq_cut (fun σ H5 => ∃ (kept2 : List Int) (n2 : Nat), ((B.2 = 0 ∧ kept2 = kept ++ [gN ns n] ∧ n2 = n + 1) ∨ (0 < B.2 ∧ kept2 = kept ∧ n2 = n)) ∧ σ = [some (.ref a), some (.ref pf), some (.ref pk), some (.int (n2 : Int)), some (.int (t : Int)), some (.int (B.2 : Nat)), some (.int (B.1 : Nat))] ∧ Same H H5 ∧ H5 pf = some (.lst (List.map V.int found)) ∧ H5 pk = some (.lst (List.map V.int kept2))) ?_ (fun C hC => ?_)
      rotate_left
      · walk_at "vc gk4 ha4"
        refine iteP (fun z => ?_) fun z => hC _ _ ⟨kept, n, .inr ⟨by omega, rfl, rfl⟩, rfl, sm4, gf4, gk4⟩
        refine ⟨_, at_g hlt, cnt_lt (by omega), ?_⟩
        rw [map_snoc, show (n : Int) + 1 = ((n + 1 : Nat) : Int) by omega]
        exact hC _ _ ⟨_, _, .inl ⟨by omega, rfl, rfl⟩, rfl, same_upd2 sm4 nk, by rw [upd_ne nfk]; exact gf4, upd_same⟩
      rintro σ H5 ⟨kept2, n2, hk2, rfl, sm5, gf5, gk5⟩
      have hk2l : kept2.length ≤ 128 := by rcases hk2 with ⟨_, rfl, _⟩ | ⟨_, rfl, _⟩ <;> omega
      refine seq_cut (fun σ H6 => ∃ (pf3 pk3 : Addr) (found3 kept3 : List Int), (B.2 = 0 → sqS ns f (n + 1) found3 kept3 = sqF ns ∧ kept3.length < 128) ∧ (0 < B.2 → found3 = found ++ pp kept ∧ kept3 = []) ∧ found3.length + kept3.length ≤ 4 * n + 2 ∧ σ = [some (.ref a), some (.ref pf3), some (.ref pk3), some (.int (n2 : Int)), some (.int (t : Int)), some (.int (B.2 : Nat)), some (.int (B.1 : Nat))] ∧ Same H H6 ∧ H pf3 = none ∧ H pk3 = none ∧ pf3 ≠ pk3 ∧ H6 pf3 = some (.lst (List.map V.int found3)) ∧ H6 pk3 = some (.lst (List.map V.int kept3))) ?_ (fun C hC => ?_)
      rotate_left
      · have flush : 0 < kept2.length → (B.2 = 0 → kept2.length = 128) → NewH H5 (HO.lst [V.int ((kept2.length : Int) - 1)]) fun p H' => ∃ x, H' pf = some (HO.lst x) ∧ ∃ x_1, H' p = some (HO.lst x_1) ∧ x.length + x_1.length ≤ sizeLine ∧ NewH H' (HO.lst (x ++ x_1)) fun p H' => ∃ x, H' p = some (HO.lst x) ∧ ∃ x_2, H' pk = some (HO.lst x_2) ∧ x.length + x_2.length ≤ sizeLine ∧ NewH H' (HO.lst (x ++ x_2)) fun p H' => NewH H' (HO.lst []) fun p_1 H' => C [some (.ref a), some (.ref p), some (.ref p_1), some (.int (n2 : Int)), some (.int (t : Int)), some (.int (B.2 : Nat)), some (.int (B.1 : Nat))] H' := by
          intro h0 h128 p6 H6 s6 n6 g6
          refine ⟨_, s6 _ _ gf5, _, g6, by rw [List.length_map]; exact cnt_le (show found.length + 1 ≤ _ by omega), fun p7 H7 s7 n7 g7 => ⟨_, g7, _, (s6.trans s7) _ _ gk5, by rw [List.length_append, List.length_map, List.length_map]; exact cnt_le (show found.length + 1 + kept2.length ≤ _ by omega), fun p8 H8 s8 n8 g8 p9 H9 s9 n9 g9 => ?_⟩⟩
          have hpp : pp kept2 = ((kept2.length : Int) - 1) :: kept2 := by unfold pp; rw [if_neg (fun e => by rw [e] at h0; exact absurd h0 (by decide))]
          rw [show List.map V.int found ++ [V.int ((kept2.length : Int) - 1)] ++ List.map V.int kept2 = List.map V.int (found ++ pp kept2) by rw [hpp, List.map_append, List.append_assoc]; rfl] at g8
          have s59 := s6.trans (s7.trans (s8.trans s9))
          have hpl : (pp kept2).length = kept2.length + 1 := by rw [hpp]; rfl
          refine hC _ _ ⟨p8, p9, found ++ pp kept2, [], fun e0 => ?_, fun e0 => ?_, ?_, rfl, sm5.trans s59, (sm5.trans (s6.trans s7)).free n8, (sm5.trans (s6.trans (s7.trans s8))).free n9, (fun z => by rw [← z, g8] at n9; cases n9), s9 _ _ g8, g9⟩
          · rcases hk2 with ⟨_, rfl, _⟩ | ⟨h, _⟩
            · rw [if_neg (by omega), if_pos (h128 e0)] at hsq
              exact ⟨hsq, by decide⟩
            · omega
          · rcases hk2 with ⟨h, _⟩ | ⟨_, rfl, _⟩
            · omega
            · exact ⟨rfl, rfl⟩
          · rw [List.length_append, hpl]
            show found.length + (kept2.length + 1) + 0 ≤ _
            rcases hk2 with ⟨_, rfl, _⟩ | ⟨_, rfl, _⟩ <;> omega
        have keep : (B.2 = 0 → kept2.length < 128) → (0 < B.2 → kept2 = []) → C [some (.ref a), some (.ref pf), some (.ref pk), some (.int (n2 : Int)), some (.int (t : Int)), some (.int (B.2 : Nat)), some (.int (B.1 : Nat))] H5 := fun e0 e1 => by
          refine hC _ _ ⟨pf, pk, found, kept2, fun z => ?_, fun z => ?_, ?_, rfl, sm5, nf, nk, nfk, gf5, gk5⟩
          · have hlt2 := e0 z
            rcases hk2 with ⟨_, rfl, _⟩ | ⟨h, _⟩
            · rw [if_neg (by omega), if_neg (by omega)] at hsq
              exact ⟨hsq, hlt2⟩
            · omega
          · have := e1 z
            rcases hk2 with ⟨h, _⟩ | ⟨_, rfl, _⟩
            · omega
            · rw [this]; exact ⟨by simp [pp], rfl⟩
          · rcases hk2 with ⟨_, rfl, _⟩ | ⟨_, rfl, _⟩ <;> omega
        walk_at "vc gk5 gf5"
        refine iteP (fun z1 => iteP (fun z2 => flush (by omega) fun e => absurd z2 (by omega)) fun z2 => iteP (fun z3 => flush (by omega) fun _ => by omega) fun z3 => keep (fun _ => by omega) fun e => absurd e (by omega)) fun z1 => ?_
        have e0 : kept2 = [] := List.eq_nil_of_length_eq_zero (by omega)
        exact keep (fun _ => by rw [e0]; decide) fun _ => e0
      rintro σ H6 ⟨pf3, pk3, found3, kept3, hz, hp, hfl3, rfl, sm6, nf3, nk3, nfk3, gf6, gk6⟩
      walk_at "vc gf6"
      refine iteP (fun z => ?_) fun z => ?_
      · obtain ⟨rfl, rfl⟩ := hp (by omega)
        rw [if_pos (show 0 < B.2 by omega)] at hsq
        have hn2 : n2 = n := by rcases hk2 with ⟨h, _⟩ | ⟨_, _, h⟩ <;> omega
        intro p7 H7 s7 n7 g7
        refine ⟨_, s7 _ _ gf6, _, g7, by rw [List.length_map]; exact cnt_le (show (found ++ pp kept).length + 3 ≤ _ by simp only [List.length_nil] at hfl3; omega), fun p8 H8 s8 n8 g8 => ?_⟩
        have ew : (B.1 : Int) / 256 = (B.1 : Int) / 256 % 256 := by omega
        rw [show List.map V.int (found ++ pp kept) ++ [V.int ((B.2 : Int) + 125), V.int ((B.1 : Int) % 256), V.int ((B.1 : Int) / 256)] = List.map V.int (found ++ pp kept ++ [(B.2 : Int) + 125] ++ wl2 (B.1 : Int)) by
          rw [List.append_assoc, List.map_append (l₁ := found ++ pp kept)]
          unfold wl2
          rw [← ew]
          rfl] at g8
        have gk8 := (s7.trans s8) _ _ gk6
        refine ⟨_, [], n2 + B.2, by omega, sm6.trans (s7.trans s8), (sm6.trans s7).free n8, nk3, (fun e => by rw [e, s7 _ _ gk6] at n8; cases n8), g8, gk8, f, by rw [hn2]; exact hsq, ?_, by decide, by omega, by omega, by omega⟩
        rw [List.length_append, List.length_append]
        show (found ++ pp kept).length + 1 + 2 + 0 ≤ _
        have hpk := pp_len kept
        rw [List.length_append]
        omega
      · obtain ⟨h1, h2⟩ := hz (by omega)
        have hn2 : n2 = n + 1 := by rcases hk2 with ⟨_, _, h⟩ | ⟨h, _⟩ <;> omega
        exact ⟨sm6, nf3, nk3, nfk3, kept3, gk6, f, by rw [hn2]; exact h1, by omega, h2, by omega, by omega, by omega⟩
    rintro σ H3 ⟨pf, pk, found, kept, v3, v4, v5, v6, rfl, sm, nf, gf, gk, e, hfl, hkl⟩
    walk_at "vc gk gf"
    refine iteP (fun z => ?_) fun z => ?_
    · intro p4 H4 s4 n4 g4
      refine ⟨_, s4 _ _ gf, _, g4, by rw [List.length_map]; exact cnt_le (show found.length + 1 ≤ _ by omega), fun p5 H5 s5 n5 g5 => ⟨_, g5, _, (s4.trans s5) _ _ gk, by rw [List.length_append, List.length_map, List.length_map]; exact cnt_le (show found.length + 1 + kept.length ≤ _ by omega), fun p6 H6 s6 n6 g6 => ?_⟩⟩
      have hpp : pp kept = ((kept.length : Int) - 1) :: kept := by unfold pp; rw [if_neg (fun e => by rw [e] at z; exact absurd z (by decide))]
      rw [show List.map V.int found ++ [V.int ((kept.length : Int) - 1)] ++ List.map V.int kept = List.map V.int (found ++ pp kept) by rw [hpp, List.map_append, List.append_assoc]; rfl, e] at g6
      exact q H6 p6 (sm.trans (s4.trans (s5.trans s6))) ((sm.trans (s4.trans s5)).free n6) g6
    · have hk0 : kept = [] := List.eq_nil_of_length_eq_zero (by omega)
      rw [hk0, show pp [] = [] from rfl, List.append_nil] at e
      rw [e] at gf
      exact q H3 pf sm nf gf

theorem Adv.toSame {ps : Addr} {H H3 H' : Hp} (s : Same H H3) (n : H ps = none) (a : Adv ps H3 H') : Same H H' := fun b o e => a.same b o (fun z => by rw [z, n] at e; cases e) (s b o e)
theorem byt_of {l : List Int} (h : l.all (fun b => decide (0 ≤ b ∧ b < 256)) = true) : Byt l := fun b hb => of_decide_eq_true (List.all_eq_true.mp h b hb)
theorem byt_repl {v : Int} (h0 : 0 ≤ v) (h1 : v < 256) (n : Nat) : Byt (List.replicate n v) := fun b hb => by rw [List.eq_of_mem_replicate hb]; exact ⟨h0, h1⟩
def spLaw (K : PySem.W.Frag) : Sp := fun vs H Q _ => ∃ (a : Addr) (ns : List Int), vs = [.ref a] ∧ SqL K H a (ns.map V.int) ∧ ns.length ≤ 63 ∧ ∀ H', Q (.bl true) H'
theorem ok_law_of {f : Addr} {fd : FuncData} (F : Fun K "law" "law" s_law f fd) (T : Txt K mg) : FnOk P w K mg base CX0 6 f fd ["script"] (spLaw K) := by
  refine F.ok sc_law (fun vs H Q E h => ?_) (fun cdv A outer s H vs Q E hr h => ?_)
  · obtain ⟨a, ns, rfl, _⟩ := h
    rfl
  · obtain ⟨a, ns, rfl, hS, hlen, q⟩ := h
    refine ⟨_, (pss_cons (ps_set (i := 1) sc_law.nd rfl (Or.inl rfl) (pe_call (ok__law_state T) (hr.mono (by decide)) (by rfl) T.g__law_state T.F__law_state.kp T.b__law_state .nil pass0 (pa_cons (pe_call (ok__law_cell T a ns) (hr.mono (by decide)) (by rfl) T.g__law_cell T.F__law_cell.kp T.b__law_cell .nil pass0 (pa_cons (pv 0) (pa_cons pe_int pa_nil))) (pa_cons pe_int pa_nil))))
      (pss_cons (ps_set (i := 2) sc_law.nd rfl (Or.inl rfl) (pe_call (ok__law_data T) (hr.mono (by decide)) (by rfl) T.g__law_data T.F__law_data.kp T.b__law_data .nil pass0 (pa_cons (pv 1) (pa_cons pe_int pa_nil))))
      (pss_cons (ps_set (i := 3) sc_law.nd rfl (Or.inl rfl) (pe_op op_mod (pe_callB call_abs (by rfl) T.z_abs (by decide +kernel) (pa_cons (pe_call (ok__law_cell T a ns) (hr.mono (by decide)) (by rfl) T.g__law_cell T.F__law_cell.kp T.b__law_cell .nil pass0 (pa_cons (pv 0) (pa_cons pe_int pa_nil))) pa_nil)) pe_int))
      (pss_cons (ps_if (PW.pt (pw_and (pt_cmpR op_eq (pv 3) pe_int (nomark _)) (pw_and1 (pt_cmpR op_gt (pe_callB call_lenH (by rfl) T.z_len PySem.boot_len (pa_cons (pv 2) pa_nil)) pe_int (nomark _))))) (pss_one (ps_set (i := 2) sc_law.nd rfl (Or.inl rfl) (pe_op op_catS (pe_op op_catS (pe_slice sl_listS (pv 2) po_none (po_some pe_int)) (pe_op op_repS (pe_lstS (pa_cons pe_int pa_nil)) (pe_op op_add pe_int (pe_call (ok__law_draw T) (hr.mono (by decide)) (by rfl) T.g__law_draw T.F__law_draw.kp T.b__law_draw .nil pass0 (pa_cons (pv 1) (pa_cons pe_int pa_nil)))))) (pe_slice sl_listS (pv 2) po_none (po_some pe_int))))) pss_nil)
      (pss_cons (ps_if (pt_cmpR op_eq (pv 3) pe_int (nomark _)) (pss_cons (ps_set (i := 2) sc_law.nd rfl (Or.inl rfl) (pe_slice sl_listS (pv 2) po_none (po_some pe_int)))
      (pss_one (ps_for PassesOwn.never rfl (pi_range1 (by rfl) T.z_range (pa_cons pe_int pa_nil)) (pg_name (i := 4) sc_law.nd rfl (Or.inl rfl)) (pss_one (ps_set (i := 2) sc_law.nd rfl (Or.inl rfl) (pe_op op_catS (pv 2) (pe_slice sl_listS (pe_lstS (pa_cons pe_int (pa_cons pe_int (pa_cons pe_int (pa_cons (pe_op op_add pe_int (pv 4)) (pa_cons pe_int pa_nil)))))) po_none (po_some (pe_op op_add pe_int (pe_call (ok__law_draw T) (hr.mono (by decide)) (by rfl) T.g__law_draw T.F__law_draw.kp T.b__law_draw .nil pass0 (pa_cons (pv 1) (pa_cons pe_int pa_nil)))))))))))) pss_nil)
      (pss_cons (ps_set (i := 5) sc_law.nd rfl (Or.inl rfl) (pe_callTy call_listS (by rfl) T.z_list (by decide +kernel) (pa_cons (pv 2) pa_nil)))
      (pss_cons (ps_set (i := 6) sc_law.nd rfl (Or.inl rfl) (pe_call (ok_squeeze T) (hr.mono (by decide)) (by rfl) T.g_squeeze T.F_squeeze.kp T.b_squeeze .nil pass0 (pa_cons (pv 5) pa_nil)))
      (pss_cons (ps_if (PW.pt (pw_or (pt_not (pt_val (pe_call (ok__law_is_bytes T) (hr.mono (by decide)) (by rfl) T.g__law_is_bytes T.F__law_is_bytes.kp T.b__law_is_bytes .nil pass0 (pa_cons (pv 6) pa_nil)))) (pw_or (pt_cmpR (op_neIL hr.units) (pv 6) (pe_call (ok__law_due T) (hr.mono (by decide)) (by rfl) T.g__law_due T.F__law_due.kp T.b__law_due .nil pass0 (pa_cons (pv 2) pa_nil)) (nomark _)) (pw_or1 (pt_cmpR (op_neIL hr.units) (pv 5) (pv 2) (nomark _)))))) (pss_one (ps_ret pe_bl)) pss_nil)
      (pss_cons (ps_set (i := 7) sc_law.nd rfl (Or.inl rfl) (pe_call (ok__law_draw T) (hr.mono (by decide)) (by rfl) T.g__law_draw T.F__law_draw.kp T.b__law_draw .nil pass0 (pa_cons (pv 1) (pa_cons pe_int pa_nil))))
      (pss_cons (ps_set (i := 8) sc_law.nd rfl (Or.inl rfl) (pe_call (ok_unsqueeze T) hr (by rfl) T.g_unsqueeze T.F_unsqueeze.kp T.b_unsqueeze .nil pass0 (pa_cons (pv 6) (pa_cons (pe_op op_add (pe_op op_add (pe_callB call_lenH (by rfl) T.z_len PySem.boot_len (pa_cons (pv 6) pa_nil)) (pe_callB call_lenH (by rfl) T.z_len PySem.boot_len (pa_cons (pv 2) pa_nil))) (pv 7)) pa_nil))))
      (pss_cons (ps_if (PW.pt (pw_or (pt_not (pt_val (pe_callB call_isiB (by rfl) T.z_isinstance (by decide +kernel) (pa_cons (pv 8) (pa_cons (pe_bltn (v := .ty "tuple") (u := .type "tuple") (by rfl) T.z_tuple (by decide +kernel) rfl) pa_nil))))) (pw_or (pt_cmpR (op_neLI hr.units) (pv 8) (pe_tupS (pa_cons (pv 2) (pa_cons (pv 7) pa_nil))) (nomark _)) (pw_or1 (pt_not (pt_val (pe_call (ok__law_is_bytes T) (hr.mono (by decide)) (by rfl) T.g__law_is_bytes T.F__law_is_bytes.kp T.b__law_is_bytes .nil pass0 (pa_cons (pe_ix ix_tupH (pv 8) pe_int (fun _ _ => rfl)) pa_nil)))))))) (pss_one (ps_ret pe_bl)) pss_nil)
      (pss_cons (ps_if (pt_cmpR op_eq (pe_callB call_lenH (by rfl) T.z_len PySem.boot_len (pa_cons (pv 2) pa_nil)) pe_int (nomark _)) (pss_one (ps_ret (pe_cmpR (op_eqIL hr.units) (pv 6) (pe_lstS pa_nil) (nomark _)))) pss_nil)
      (pss_cons (ps_set (i := 9) sc_law.nd rfl (Or.inl rfl) (pe_call (ok_unsqueeze T) hr (by rfl) T.g_unsqueeze T.F_unsqueeze.kp T.b_unsqueeze .nil pass0 (pa_cons (pv 6) (pa_cons (pe_op op_sub (pe_op op_add (pe_callB call_lenH (by rfl) T.z_len PySem.boot_len (pa_cons (pv 6) pa_nil)) (pe_callB call_lenH (by rfl) T.z_len PySem.boot_len (pa_cons (pv 2) pa_nil))) pe_int) pa_nil))))
      (pss_one (ps_ret (pe_and (pe_cmpR op_eq (pe_ix ix_tupH (pv 9) pe_int (fun _ _ => rfl)) pe_int (nomark _)) (pe_and (pe_cmpR op_lt (pe_callB call_lenH (by rfl) T.z_len PySem.boot_len (pa_cons (pe_ix ix_tupH (pv 9) pe_int (fun _ _ => rfl)) pa_nil)) (pe_callB call_lenH (by rfl) T.z_len PySem.boot_len (pa_cons (pv 2) pa_nil)) (nomark _)) (pe_one (pe_cmpR (op_eqIL hr.units) (pe_ix ix_tupH (pv 9) pe_int (fun _ _ => rfl)) (pe_slice sl_listS (pv 2) po_none (po_some (pe_callB call_lenH (by rfl) T.z_len PySem.boot_len (pa_cons (pe_ix ix_tupH (pv 9) pe_int (fun _ _ => rfl)) pa_nil)))) (nomark _)))))))))))))))))))), ?_⟩
    refine seq_cut (fun σ H1 => ∃ ps, σ = [some (.ref a), some (.ref ps), none, none, none, none, none, none, none, none] ∧ Same H H1 ∧ H ps = none ∧ DrawSt ps H1) ?_ (fun C hC => ?_)
    rotate_left
    · walk_at "vc sp__law_cell"
      exact ⟨hS, _, _, rfl, by decide, fun H1 p1 s1 n1 d1 => hC _ _ ⟨p1, rfl, s1, n1, d1⟩⟩
    rintro σ H1 ⟨ps, rfl, s1, nps, hd⟩
    refine seq_cut (fun σ H2 => ∃ p xs, σ = [some (.ref a), some (.ref ps), some (.ref p), none, none, none, none, none, none, none] ∧ Adv ps H1 H2 ∧ H1 p = none ∧ H2 p = some (.lst (List.map V.int xs)) ∧ Byt xs ∧ xs.length ≤ 300) ?_ (fun C hC => ?_)
    rotate_left
    · walk_at "vc"
      exact ⟨ps, 300, rfl, hd, fun H4 p xs a4 np gp hB hl => hC _ _ ⟨p, xs, rfl, a4, np, gp, hB, hl⟩⟩
    rintro σ H2 ⟨p, xs, rfl, a2, np, gp, hB, hl⟩
    have toS : ∀ {H'}, Adv ps H1 H' → SqL K H' a (List.map V.int ns) := fun ad => (Adv.toSame s1 nps ad).seq hS
    refine seq_cut (fun σ H3 => ∃ kind : Int, σ = [some (.ref a), some (.ref ps), some (.ref p), some (.int kind), none, none, none, none, none, none] ∧ H2 = H3) ?_ (fun C hC => ?_)
    rotate_left
    · walk_at "vc sp__law_cell"
      exact ⟨toS a2, hC _ _ ⟨_, rfl, rfl⟩⟩
    rintro σ _ ⟨kind, rfl, rfl⟩
    refine seq_cut (fun σ H3 => ∃ p xs, σ = [some (.ref a), some (.ref ps), some (.ref p), some (.int kind), none, none, none, none, none, none] ∧ Adv ps H1 H3 ∧ H1 p = none ∧ H3 p = some (.lst (List.map V.int xs)) ∧ Byt xs ∧ xs.length ≤ 4190) ?_ (fun C hC => ?_)
    rotate_left
    · walk_at "vc gp"
      refine iteP (fun _ => iteP (fun _ => ?_) fun _ => hC _ _ ⟨p, xs, rfl, a2, np, gp, hB, by omega⟩) fun _ => hC _ _ ⟨p, xs, rfl, a2, np, gp, hB, by omega⟩
      have hnp := hd.ne np
      have e40 : cutV (List.map V.int xs) none (some 40) = List.map V.int (xs.take 40) := cutI_take (n := 40)
      rw [e40]
      intro p1 J1 t1 m1 k1 p2 J2 t2 m2 k2
      have aa1 := a2.sm t1
      have hn1 := a2.st.ne m1
      have aa2 := aa1.sm t2
      have hn2 := aa1.st.ne m2
      refine ⟨ps, 12, rfl, aa2.st, ⟨by decide, by decide⟩, fun J3 v3 b3 h30 h31 => ⟨v3, rfl, _, b3.same _ _ hn2 k2, by omega, by omega, fun p4 J4 t4 m4 k4 => ?_⟩⟩
      obtain ⟨M, hM⟩ := natOf (show 0 ≤ 4090 + v3 by omega)
      rw [hM, Int.toNat_natCast, show List.replicate M (V.int 9) = List.map V.int (List.replicate M 9) by rw [List.map_replicate]] at k4
      have g13 := b3.same _ _ hn1 (t2 _ _ k1)
      refine ⟨_, t4 _ _ g13, _, k4, by rw [List.length_map, List.length_map, List.length_take, List.length_replicate]; exact cnt_le (by omega), fun p5 J5 t5 m5 k5 => ?_⟩
      rw [map_cat] at k5
      have gp5 := (t4.trans t5) _ _ (b3.same _ _ hnp ((t1.trans t2) _ _ gp))
      refine ⟨_, gp5, fun p6 J6 t6 m6 k6 => ⟨_, t6 _ _ k5, _, k6, by rw [e40, List.length_map, List.length_map, List.length_append, List.length_take, List.length_replicate]; exact cnt_le (by omega), fun p7 J7 t7 m7 k7 => ?_⟩⟩
      rw [e40, map_cat] at k7
      have aE := (aa2.trans b3).sm (t4.trans (t5.trans t6))
      exact hC _ _ ⟨p7, _, rfl, aE.sm t7, aE.free m7, k7, byt_app (byt_app (byt_take hB _) (byt_repl (by decide) (by decide) _)) (byt_take hB _), by rw [List.length_append, List.length_append, List.length_take, List.length_replicate]; omega⟩
    rintro σ H3 ⟨p3, xs3, rfl, a3, np3, gp3, hB3, hl3⟩
    refine seq_cut (fun σ H4 => ∃ p xs v4, σ = [some (.ref a), some (.ref ps), some (.ref p), some (.int kind), v4, none, none, none, none, none] ∧ Adv ps H1 H4 ∧ H1 p = none ∧ H4 p = some (.lst (List.map V.int xs)) ∧ Byt xs ∧ xs.length ≤ 4190) ?_ (fun C hC => ?_)
    rotate_left
    · walk_at "vc gp3"
      refine iteP (fun _ => ?_) fun _ => hC _ _ ⟨p3, xs3, _, rfl, a3, np3, gp3, hB3, hl3⟩
      rw [show cutV (List.map V.int xs3) none (some 12) = List.map V.int (xs3.take 12) from cutI_take (n := 12)]
      intro p5 H5 s5 n5 g5
      refine lpW (walkR (n := 18)) (fun i σ H' => ∃ p xs v4, σ = [some (.ref a), some (.ref ps), some (.ref p), some (.int kind), v4, none, none, none, none, none] ∧ Adv ps H1 H' ∧ H1 p = none ∧ H' p = some (.lst (List.map V.int xs)) ∧ Byt xs ∧ xs.length ≤ 12 + 5 * i) ⟨p5, _, _, rfl, a3.sm s5, a3.free n5, g5, byt_take hB3 _, by rw [List.length_take]; omega⟩ (fun _ _ _ _ _ => True.intro) ?_ ?_
      · rintro i x σ Hz H6 hi ⟨p, xs, v4, rfl, a6, np, gp, hB, hl⟩ ⟨rfl, rfl⟩
        have hnp := hd.ne np
        walk_at "vc"
        intro p7 H7 s7 n7 g7
        have a7 := a6.sm s7
        have hn7 := a6.st.ne n7
        refine ⟨ps, 3, rfl, a7.st, ⟨by decide, by decide⟩, fun H8 v8 a8 h80 h81 => ?_⟩
        have g78 : H8 p7 = some (.lst (List.map V.int [1, 2, 3, 4 + (i : Int), 5])) := a8.same _ _ hn7 g7
        have gp8 := a8.same _ _ hnp (s7 _ _ gp)
        obtain ⟨M, rfl⟩ := natOf h80
        have hrB : Byt [1, 2, 3, 4 + (i : Int), 5] := fun b hb => by
          simp only [List.mem_cons, List.not_mem_nil, or_false] at hb
          rcases hb with rfl | rfl | rfl | rfl | rfl <;> omega
        have hr5 : [1, 2, 3, 4 + (i : Int), 5].length = 5 := rfl
        generalize [1, 2, 3, 4 + (i : Int), 5] = row at g78 hrB hr5
        refine ⟨_, rfl, _, g78, fun p9 H9 s9 n9 g9 => ⟨_, s9 _ _ gp8, _, g9, ?_, fun p10 H10 s10 n10 g10 => ?_⟩⟩
        · rw [show (3 : Int) + (M : Int) = ((3 + M : Nat) : Int) by omega, cutI_take, List.length_map, List.length_map, List.length_take]
          exact cnt_le (by omega)
        rw [show (3 : Int) + (M : Int) = ((3 + M : Nat) : Int) by omega, cutI_take, map_cat] at g10
        have aE := (a7.trans a8).sm s9
        exact ⟨aE.sm s10, aE.free n10, _, g10, byt_app hB (byt_take hrB _), by rw [List.length_append, List.length_take]; omega⟩
      · rintro σ H6 ⟨p, xs, v4, rfl, a6, np, gp, hB, hl⟩
        exact hC _ _ ⟨p, xs, v4, rfl, a6, np, gp, hB, by omega⟩
    rintro σ H4 ⟨p4, xs4, v4, rfl, a4, np4, gp4, hB4, hl4⟩
    have hnp := hd.ne np4
    walk_at "vc gp4"
    intro p5 H5 s5 n5 g5
    refine ⟨p5, xs4, rfl, g5, by omega, fun H6 p6 s6 n6 g6 => ?_⟩
    obtain ⟨hsB, hsl⟩ := sqF_ok hB4
    refine ⟨p6, _, rfl, g6, hsB, ⟨true, rfl, iteF' rfl ?_⟩⟩
    have gp6 := (s5.trans s6) _ _ gp4
    refine ⟨p4, xs4, rfl, gp6, by omega, fun H7 p7 s7 n7 g7 => ⟨p6, rfl, p7, rfl, _, s7 _ _ g6, _, g7, iteF' (by simp) ?_⟩⟩
    have s57 := s6.trans s7
    refine ⟨_, s57 _ _ g5, _, s7 _ _ gp6, iteF' (by simp) ?_⟩
    have a7 := a4.sm (s5.trans s57)
    have hn6 : p6 ≠ ps := (a4.sm s5).st.ne n6
    refine ⟨ps, 50, rfl, a7.st, ⟨by decide, by decide⟩, fun H8 v8 a8 h80 h81 => ?_⟩
    have g68 := a8.same _ _ hn6 (s7 _ _ g6)
    have gp8 := a8.same _ _ hnp (s7 _ _ gp6)
    obtain ⟨f1, _⟩ := sq_back xs4 ((xs4.length : Int) + v8) (by omega)
    have e1 : usR (sqF xs4) (((sqF xs4).length : Int) + (xs4.length : Int) + v8) = (xs4, v8) := by
      have := f1 (by omega)
      rw [show ((sqF xs4).length : Int) + ((xs4.length : Int) + v8) = ((sqF xs4).length : Int) + (xs4.length : Int) + v8 by omega] at this
      rw [this]
      congr 1
      omega
    refine ⟨p6, rfl, _, g68, _, gp8, v8, rfl, p6, sqF xs4, _, rfl, g68, hsB, by omega, fun H9 p9 q9 s9 n9 nq9 g9 gq9 => ?_⟩
    rw [List.length_map, List.length_map, e1] at g9 gq9
    have g9 : H9 p9 = some (.tup [.ref q9, .int v8]) := g9
    have gq9 : H9 q9 = some (.lst (List.map V.int xs4)) := gq9
    refine .inr (.inr ⟨p9, rfl, ⟨_, g9⟩, fun p10 H10 s10 n10 g10 => ?_⟩)
    have gp9 := s9 _ _ gp8
    refine ⟨p9, p10, q9, p4, _, _, _, _, rfl, rfl, s10 _ _ g9, g10, s10 _ _ gq9, s10 _ _ gp9, _, rfl, iteF' (by simp) ?_⟩
    refine ⟨p9, rfl, _, s10 _ _ g9, _, atI_c0 _ _, q9, xs4, rfl, s10 _ _ gq9, hB4, ⟨true, rfl, iteF' rfl ?_⟩⟩
    have s810 := s9.trans s10
    refine ⟨_, s10 _ _ gp9, iteP (fun z => ?_) (fun z => ?_)⟩
    · have hx0 : xs4 = [] := List.eq_nil_of_length_eq_zero (by rw [List.length_map] at z; omega)
      subst hx0
      intro p11 H11 s11 n11 g11
      have g11' : H11 p11 = some (.lst (List.map V.int [])) := g11
      refine ⟨p6, rfl, _, (s810.trans s11) _ _ g68, _, g11', ?_⟩
      rw [decide_eq_true (show sqF [] = [] by decide +kernel)]
      exact q _
    · rw [List.length_map] at z
      obtain ⟨_, f2⟩ := sq_back xs4 ((xs4.length : Int) - 1) (by omega)
      obtain ⟨m, hm, e2⟩ := f2 (by omega)
      rw [show ((sqF xs4).length : Int) + ((xs4.length : Int) - 1) = ((sqF xs4).length : Int) + (xs4.length : Int) - 1 by omega] at e2
      refine ⟨p6, rfl, _, s810 _ _ g68, _, s10 _ _ gp9, p6, sqF xs4, _, rfl, s810 _ _ g68, hsB, by omega, fun H11 p11 q11 s11 n11 nq11 g11 gq11 => ?_⟩
      rw [List.length_map, List.length_map, e2] at g11 gq11
      have g11 : H11 p11 = some (.tup [.ref q11, .int 0]) := g11
      have gq11 : H11 q11 = some (.lst (List.map V.int (xs4.take m))) := gq11
      have gp11 := (s10.trans s11) _ _ gp9
      refine ⟨p11, rfl, _, g11, _, atI_c1 _ _ _, rfl, iteP (fun _ => ?_) (fun z => absurd rfl z)⟩
      refine ⟨p11, rfl, _, g11, _, atI_c0 _ _, q11, rfl, _, gq11, _, gp11, iteP (fun _ => ?_) (fun z => absurd (by rw [List.length_map, List.length_map, List.length_take]; omega) z)⟩
      refine ⟨p11, rfl, _, g11, _, atI_c0 _ _, p11, rfl, _, g11, _, atI_c0 _ _, ?_⟩
      refine ⟨q11, rfl, _, gq11, _, gp11, fun p12 H12 s12 n12 g12 => ?_⟩
      have hml : (xs4.take m).length = m := by rw [List.length_take]; omega
      rw [List.length_map, hml, cutI_take] at g12
      refine ⟨q11, rfl, _, s12 _ _ gq11, _, g12, ?_⟩
      rw [decide_eq_true rfl]
      exact q _

end
theorem all_mk {l : PySem.W.OpenLaw} {w : World} {K : PySem.W.Frag} {h : Heap} {mg : Str → Option Value} {fa : Addr} (X : K.In h) (G : h.Ns mainGlobals mg) (hfa : mg "law" = some (.ref fa))
    {f1 : Addr} {od1 an1 : Option Addr} {sl1 : Array (Option Value)} {oc1 kV1 dc1 pm1 cd1 ct1 : Value}
    (a1 : PySem.W.nsIn K mainGlobals "read_low_first" = some (some (.ref f1))) (l1 : K.lookup f1 = some ⟨oc1, od1, .func (PySem.W.fnOf "read_low_first" "read_low_first" (defArgs s_read_low_first) (defBody s_read_low_first) (defScope s_read_low_first) .none kV1 dc1 pm1 an1 cd1 ct1), sl1⟩) (c1 : PySem.W.codeIn K cd1 "read_low_first" = true) (k1 : PySem.W.keepIn K (.ref f1) = true)
    {f2 : Addr} {od2 an2 : Option Addr} {sl2 : Array (Option Value)} {oc2 kV2 dc2 pm2 cd2 ct2 : Value}
    (a2 : PySem.W.nsIn K mainGlobals "write_low_first" = some (some (.ref f2))) (l2 : K.lookup f2 = some ⟨oc2, od2, .func (PySem.W.fnOf "write_low_first" "write_low_first" (defArgs s_write_low_first) (defBody s_write_low_first) (defScope s_write_low_first) .none kV2 dc2 pm2 an2 cd2 ct2), sl2⟩) (c2 : PySem.W.codeIn K cd2 "write_low_first" = true) (k2 : PySem.W.keepIn K (.ref f2) = true)
    {f3 : Addr} {od3 an3 : Option Addr} {sl3 : Array (Option Value)} {oc3 kV3 dc3 pm3 cd3 ct3 : Value}
    (a3 : PySem.W.nsIn K mainGlobals "spend" = some (some (.ref f3))) (l3 : K.lookup f3 = some ⟨oc3, od3, .func (PySem.W.fnOf "spend" "spend" (defArgs s_spend) (defBody s_spend) (defScope s_spend) .none kV3 dc3 pm3 an3 cd3 ct3), sl3⟩) (c3 : PySem.W.codeIn K cd3 "spend" = true) (k3 : PySem.W.keepIn K (.ref f3) = true)
    {f4 : Addr} {od4 an4 : Option Addr} {sl4 : Array (Option Value)} {oc4 kV4 dc4 pm4 cd4 ct4 : Value}
    (a4 : PySem.W.nsIn K mainGlobals "read_pieces" = some (some (.ref f4))) (l4 : K.lookup f4 = some ⟨oc4, od4, .func (PySem.W.fnOf "read_pieces" "read_pieces" (defArgs s_read_pieces) (defBody s_read_pieces) (defScope s_read_pieces) .none kV4 dc4 pm4 an4 cd4 ct4), sl4⟩) (c4 : PySem.W.codeIn K cd4 "read_pieces" = true) (k4 : PySem.W.keepIn K (.ref f4) = true)
    {f5 : Addr} {od5 an5 : Option Addr} {sl5 : Array (Option Value)} {oc5 kV5 dc5 pm5 cd5 ct5 : Value}
    (a5 : PySem.W.nsIn K mainGlobals "plain_piece" = some (some (.ref f5))) (l5 : K.lookup f5 = some ⟨oc5, od5, .func (PySem.W.fnOf "plain_piece" "plain_piece" (defArgs s_plain_piece) (defBody s_plain_piece) (defScope s_plain_piece) .none kV5 dc5 pm5 an5 cd5 ct5), sl5⟩) (c5 : PySem.W.codeIn K cd5 "plain_piece" = true) (k5 : PySem.W.keepIn K (.ref f5) = true)
    {f6 : Addr} {od6 an6 : Option Addr} {sl6 : Array (Option Value)} {oc6 kV6 dc6 pm6 cd6 ct6 : Value}
    (a6 : PySem.W.nsIn K mainGlobals "read_plain_piece" = some (some (.ref f6))) (l6 : K.lookup f6 = some ⟨oc6, od6, .func (PySem.W.fnOf "read_plain_piece" "read_plain_piece" (defArgs s_read_plain_piece) (defBody s_read_plain_piece) (defScope s_read_plain_piece) .none kV6 dc6 pm6 an6 cd6 ct6), sl6⟩) (c6 : PySem.W.codeIn K cd6 "read_plain_piece" = true) (k6 : PySem.W.keepIn K (.ref f6) = true)
    {f7 : Addr} {od7 an7 : Option Addr} {sl7 : Array (Option Value)} {oc7 kV7 dc7 pm7 cd7 ct7 : Value}
    (a7 : PySem.W.nsIn K mainGlobals "unsqueeze" = some (some (.ref f7))) (l7 : K.lookup f7 = some ⟨oc7, od7, .func (PySem.W.fnOf "unsqueeze" "unsqueeze" (defArgs s_unsqueeze) (defBody s_unsqueeze) (defScope s_unsqueeze) .none kV7 dc7 pm7 an7 cd7 ct7), sl7⟩) (c7 : PySem.W.codeIn K cd7 "unsqueeze" = true) (k7 : PySem.W.keepIn K (.ref f7) = true)
    {f8 : Addr} {od8 an8 : Option Addr} {sl8 : Array (Option Value)} {oc8 kV8 dc8 pm8 cd8 ct8 : Value}
    (a8 : PySem.W.nsIn K mainGlobals "_match_at" = some (some (.ref f8))) (l8 : K.lookup f8 = some ⟨oc8, od8, .func (PySem.W.fnOf "_match_at" "_match_at" (defArgs s__match_at) (defBody s__match_at) (defScope s__match_at) .none kV8 dc8 pm8 an8 cd8 ct8), sl8⟩) (c8 : PySem.W.codeIn K cd8 "_match_at" = true) (k8 : PySem.W.keepIn K (.ref f8) = true)
    {f9 : Addr} {od9 an9 : Option Addr} {sl9 : Array (Option Value)} {oc9 kV9 dc9 pm9 cd9 ct9 : Value}
    (a9 : PySem.W.nsIn K mainGlobals "_given_again" = some (some (.ref f9))) (l9 : K.lookup f9 = some ⟨oc9, od9, .func (PySem.W.fnOf "_given_again" "_given_again" (defArgs s__given_again) (defBody s__given_again) (defScope s__given_again) .none kV9 dc9 pm9 an9 cd9 ct9), sl9⟩) (c9 : PySem.W.codeIn K cd9 "_given_again" = true) (k9 : PySem.W.keepIn K (.ref f9) = true)
    {f10 : Addr} {od10 an10 : Option Addr} {sl10 : Array (Option Value)} {oc10 kV10 dc10 pm10 cd10 ct10 : Value}
    (a10 : PySem.W.nsIn K mainGlobals "squeeze" = some (some (.ref f10))) (l10 : K.lookup f10 = some ⟨oc10, od10, .func (PySem.W.fnOf "squeeze" "squeeze" (defArgs s_squeeze) (defBody s_squeeze) (defScope s_squeeze) .none kV10 dc10 pm10 an10 cd10 ct10), sl10⟩) (c10 : PySem.W.codeIn K cd10 "squeeze" = true) (k10 : PySem.W.keepIn K (.ref f10) = true)
    {f11 : Addr} {od11 an11 : Option Addr} {sl11 : Array (Option Value)} {oc11 kV11 dc11 pm11 cd11 ct11 : Value}
    (a11 : PySem.W.nsIn K mainGlobals "_three_bytes" = some (some (.ref f11))) (l11 : K.lookup f11 = some ⟨oc11, od11, .func (PySem.W.fnOf "_three_bytes" "_three_bytes" (defArgs s__three_bytes) (defBody s__three_bytes) (defScope s__three_bytes) .none kV11 dc11 pm11 an11 cd11 ct11), sl11⟩) (c11 : PySem.W.codeIn K cd11 "_three_bytes" = true) (k11 : PySem.W.keepIn K (.ref f11) = true)
    {f12 : Addr} {od12 an12 : Option Addr} {sl12 : Array (Option Value)} {oc12 kV12 dc12 pm12 cd12 ct12 : Value}
    (a12 : PySem.W.nsIn K mainGlobals "_best_match" = some (some (.ref f12))) (l12 : K.lookup f12 = some ⟨oc12, od12, .func (PySem.W.fnOf "_best_match" "_best_match" (defArgs s__best_match) (defBody s__best_match) (defScope s__best_match) .none kV12 dc12 pm12 an12 cd12 ct12), sl12⟩) (c12 : PySem.W.codeIn K cd12 "_best_match" = true) (k12 : PySem.W.keepIn K (.ref f12) = true)
    {f13 : Addr} {od13 an13 : Option Addr} {sl13 : Array (Option Value)} {oc13 kV13 dc13 pm13 cd13 ct13 : Value}
    (a13 : PySem.W.nsIn K mainGlobals "_count_equal" = some (some (.ref f13))) (l13 : K.lookup f13 = some ⟨oc13, od13, .func (PySem.W.fnOf "_count_equal" "_count_equal" (defArgs s__count_equal) (defBody s__count_equal) (defScope s__count_equal) .none kV13 dc13 pm13 an13 cd13 ct13), sl13⟩) (c13 : PySem.W.codeIn K cd13 "_count_equal" = true) (k13 : PySem.W.keepIn K (.ref f13) = true)
    {f14 : Addr} {od14 an14 : Option Addr} {sl14 : Array (Option Value)} {oc14 kV14 dc14 pm14 cd14 ct14 : Value}
    (a14 : PySem.W.nsIn K mainGlobals "_law_cell" = some (some (.ref f14))) (l14 : K.lookup f14 = some ⟨oc14, od14, .func (PySem.W.fnOf "_law_cell" "_law_cell" (defArgs s__law_cell) (defBody s__law_cell) (defScope s__law_cell) .none kV14 dc14 pm14 an14 cd14 ct14), sl14⟩) (c14 : PySem.W.codeIn K cd14 "_law_cell" = true) (k14 : PySem.W.keepIn K (.ref f14) = true)
    {f15 : Addr} {od15 an15 : Option Addr} {sl15 : Array (Option Value)} {oc15 kV15 dc15 pm15 cd15 ct15 : Value}
    (a15 : PySem.W.nsIn K mainGlobals "_law_is_integer" = some (some (.ref f15))) (l15 : K.lookup f15 = some ⟨oc15, od15, .func (PySem.W.fnOf "_law_is_integer" "_law_is_integer" (defArgs s__law_is_integer) (defBody s__law_is_integer) (defScope s__law_is_integer) .none kV15 dc15 pm15 an15 cd15 ct15), sl15⟩) (c15 : PySem.W.codeIn K cd15 "_law_is_integer" = true) (k15 : PySem.W.keepIn K (.ref f15) = true)
    {f16 : Addr} {od16 an16 : Option Addr} {sl16 : Array (Option Value)} {oc16 kV16 dc16 pm16 cd16 ct16 : Value}
    (a16 : PySem.W.nsIn K mainGlobals "_law_draw" = some (some (.ref f16))) (l16 : K.lookup f16 = some ⟨oc16, od16, .func (PySem.W.fnOf "_law_draw" "_law_draw" (defArgs s__law_draw) (defBody s__law_draw) (defScope s__law_draw) .none kV16 dc16 pm16 an16 cd16 ct16), sl16⟩) (c16 : PySem.W.codeIn K cd16 "_law_draw" = true) (k16 : PySem.W.keepIn K (.ref f16) = true)
    {f17 : Addr} {od17 an17 : Option Addr} {sl17 : Array (Option Value)} {oc17 kV17 dc17 pm17 cd17 ct17 : Value}
    (a17 : PySem.W.nsIn K mainGlobals "_law_state" = some (some (.ref f17))) (l17 : K.lookup f17 = some ⟨oc17, od17, .func (PySem.W.fnOf "_law_state" "_law_state" (defArgs s__law_state) (defBody s__law_state) (defScope s__law_state) .none kV17 dc17 pm17 an17 cd17 ct17), sl17⟩) (c17 : PySem.W.codeIn K cd17 "_law_state" = true) (k17 : PySem.W.keepIn K (.ref f17) = true)
    {f18 : Addr} {od18 an18 : Option Addr} {sl18 : Array (Option Value)} {oc18 kV18 dc18 pm18 cd18 ct18 : Value}
    (a18 : PySem.W.nsIn K mainGlobals "_law_is_bytes" = some (some (.ref f18))) (l18 : K.lookup f18 = some ⟨oc18, od18, .func (PySem.W.fnOf "_law_is_bytes" "_law_is_bytes" (defArgs s__law_is_bytes) (defBody s__law_is_bytes) (defScope s__law_is_bytes) .none kV18 dc18 pm18 an18 cd18 ct18), sl18⟩) (c18 : PySem.W.codeIn K cd18 "_law_is_bytes" = true) (k18 : PySem.W.keepIn K (.ref f18) = true)
    {f19 : Addr} {od19 an19 : Option Addr} {sl19 : Array (Option Value)} {oc19 kV19 dc19 pm19 cd19 ct19 : Value}
    (a19 : PySem.W.nsIn K mainGlobals "_law_data" = some (some (.ref f19))) (l19 : K.lookup f19 = some ⟨oc19, od19, .func (PySem.W.fnOf "_law_data" "_law_data" (defArgs s__law_data) (defBody s__law_data) (defScope s__law_data) .none kV19 dc19 pm19 an19 cd19 ct19), sl19⟩) (c19 : PySem.W.codeIn K cd19 "_law_data" = true) (k19 : PySem.W.keepIn K (.ref f19) = true)
    {f20 : Addr} {od20 an20 : Option Addr} {sl20 : Array (Option Value)} {oc20 kV20 dc20 pm20 cd20 ct20 : Value}
    (a20 : PySem.W.nsIn K mainGlobals "_law_equal" = some (some (.ref f20))) (l20 : K.lookup f20 = some ⟨oc20, od20, .func (PySem.W.fnOf "_law_equal" "_law_equal" (defArgs s__law_equal) (defBody s__law_equal) (defScope s__law_equal) .none kV20 dc20 pm20 an20 cd20 ct20), sl20⟩) (c20 : PySem.W.codeIn K cd20 "_law_equal" = true) (k20 : PySem.W.keepIn K (.ref f20) = true)
    {f21 : Addr} {od21 an21 : Option Addr} {sl21 : Array (Option Value)} {oc21 kV21 dc21 pm21 cd21 ct21 : Value}
    (a21 : PySem.W.nsIn K mainGlobals "_law_best" = some (some (.ref f21))) (l21 : K.lookup f21 = some ⟨oc21, od21, .func (PySem.W.fnOf "_law_best" "_law_best" (defArgs s__law_best) (defBody s__law_best) (defScope s__law_best) .none kV21 dc21 pm21 an21 cd21 ct21), sl21⟩) (c21 : PySem.W.codeIn K cd21 "_law_best" = true) (k21 : PySem.W.keepIn K (.ref f21) = true)
    {f22 : Addr} {od22 an22 : Option Addr} {sl22 : Array (Option Value)} {oc22 kV22 dc22 pm22 cd22 ct22 : Value}
    (a22 : PySem.W.nsIn K mainGlobals "_law_due" = some (some (.ref f22))) (l22 : K.lookup f22 = some ⟨oc22, od22, .func (PySem.W.fnOf "_law_due" "_law_due" (defArgs s__law_due) (defBody s__law_due) (defScope s__law_due) .none kV22 dc22 pm22 an22 cd22 ct22), sl22⟩) (c22 : PySem.W.codeIn K cd22 "_law_due" = true) (k22 : PySem.W.keepIn K (.ref f22) = true)
    {f23 : Addr} {od23 an23 : Option Addr} {sl23 : Array (Option Value)} {oc23 kV23 dc23 pm23 cd23 ct23 : Value}
    (a23 : PySem.W.nsIn K mainGlobals "law" = some (some (.ref f23))) (l23 : K.lookup f23 = some ⟨oc23, od23, .func (PySem.W.fnOf "law" "law" (defArgs s_law) (defBody s_law) (defScope s_law) .none kV23 dc23 pm23 an23 cd23 ct23), sl23⟩) (c23 : PySem.W.codeIn K cd23 "law" = true) (k23 : PySem.W.keepIn K (.ref f23) = true)
    {t24 : Tok} (a24 : PySem.W.nsIn K mainGlobals "_FIRST_MATCH" = some (some (.int 128 t24)))
    {t25 : Tok} (a25 : PySem.W.nsIn K mainGlobals "_SHORTEST" = some (some (.int 3 t25)))
    {t26 : Tok} (a26 : PySem.W.nsIn K mainGlobals "_LONGEST" = some (some (.int 130 t26)))
    {t27 : Tok} (a27 : PySem.W.nsIn K mainGlobals "_FARTHEST" = some (some (.int 4096 t27)))
    {t28 : Tok} (a28 : PySem.W.nsIn K mainGlobals "_MOST_CANDIDATES" = some (some (.int 16 t28)))
    {t29 : Tok} (a29 : PySem.W.nsIn K mainGlobals "_MOST_KEPT" = some (some (.int 128 t29)))
    (a30 : PySem.W.nsIn K mainGlobals "abs" = some none)
    (a31 : PySem.W.nsIn K mainGlobals "bool" = some none)
    (a32 : PySem.W.nsIn K mainGlobals "int" = some none)
    (a33 : PySem.W.nsIn K mainGlobals "isinstance" = some none)
    (a34 : PySem.W.nsIn K mainGlobals "len" = some none)
    (a35 : PySem.W.nsIn K mainGlobals "list" = some none)
    (a36 : PySem.W.nsIn K mainGlobals "max" = some none)
    (a37 : PySem.W.nsIn K mainGlobals "min" = some none)
    (a38 : PySem.W.nsIn K mainGlobals "range" = some none)
    (a39 : PySem.W.nsIn K mainGlobals "reversed" = some none)
    (a40 : PySem.W.nsIn K mainGlobals "tuple" = some none)
    : ∃ fd : FuncData, (∀ (s : Shared) (v : Value), BindsTo s fd ⟨[v], []⟩ [("script", v)]) ∧ ∀ base : Heap, K.In base → base.Ns mainGlobals mg → FnOk l.prog w K mg base CX0 6 fa fd ["script"] (spLaw K) := by
  have e := hfa.symm.trans (PySem.W.mg_of X G a23)
  cases e
  have F1 := fun_mk (st := s_read_low_first) l1 c1 k1
  have b1 := F1.binds (ps := ["data"]) fun _ _ _ _ _ _ us hl => match us, hl with | [_], _ => rfl
  have F2 := fun_mk (st := s_write_low_first) l2 c2 k2
  have b2 := F2.binds (ps := ["number", "count"]) fun _ _ _ _ _ _ us hl => match us, hl with | [_, _], _ => rfl
  have F3 := fun_mk (st := s_spend) l3 c3 k3
  have b3 := F3.binds (ps := ["left", "cost"]) fun _ _ _ _ _ _ us hl => match us, hl with | [_, _], _ => rfl
  have F4 := fun_mk (st := s_read_pieces) l4 c4 k4
  have b4 := F4.binds (ps := ["data", "left", "piece_at"]) fun _ _ _ _ _ _ us hl => match us, hl with | [_, _, _], _ => rfl
  have F5 := fun_mk (st := s_plain_piece) l5 c5 k5
  have b5 := F5.binds (ps := ["data"]) fun _ _ _ _ _ _ us hl => match us, hl with | [_], _ => rfl
  have F6 := fun_mk (st := s_read_plain_piece) l6 c6 k6
  have b6 := F6.binds (ps := ["data", "at"]) fun _ _ _ _ _ _ us hl => match us, hl with | [_, _], _ => rfl
  have F7 := fun_mk (st := s_unsqueeze) l7 c7 k7
  have b7 := F7.binds (ps := ["data", "left"]) fun _ _ _ _ _ _ us hl => match us, hl with | [_, _], _ => rfl
  have F8 := fun_mk (st := s__match_at) l8 c8 k8
  have b8 := F8.binds (ps := ["data", "at", "given"]) fun _ _ _ _ _ _ us hl => match us, hl with | [_, _, _], _ => rfl
  have F9 := fun_mk (st := s__given_again) l9 c9 k9
  have b9 := F9.binds (ps := ["given", "distance_bytes", "many"]) fun _ _ _ _ _ _ us hl => match us, hl with | [_, _, _], _ => rfl
  have F10 := fun_mk (st := s_squeeze) l10 c10 k10
  have b10 := F10.binds (ps := ["data"]) fun _ _ _ _ _ _ us hl => match us, hl with | [_], _ => rfl
  have F11 := fun_mk (st := s__three_bytes) l11 c11 k11
  have b11 := F11.binds (ps := ["data", "at"]) fun _ _ _ _ _ _ us hl => match us, hl with | [_, _], _ => rfl
  have F12 := fun_mk (st := s__best_match) l12 c12 k12
  have b12 := F12.binds (ps := ["data", "at", "places"]) fun _ _ _ _ _ _ us hl => match us, hl with | [_, _, _], _ => rfl
  have F13 := fun_mk (st := s__count_equal) l13 c13 k13
  have b13 := F13.binds (ps := ["data", "place", "at"]) fun _ _ _ _ _ _ us hl => match us, hl with | [_, _, _], _ => rfl
  have F14 := fun_mk (st := s__law_cell) l14 c14 k14
  have b14 := F14.binds (ps := ["script", "k"]) fun _ _ _ _ _ _ us hl => match us, hl with | [_, _], _ => rfl
  have F15 := fun_mk (st := s__law_is_integer) l15 c15 k15
  have b15 := F15.binds (ps := ["actual"]) fun _ _ _ _ _ _ us hl => match us, hl with | [_], _ => rfl
  have F16 := fun_mk (st := s__law_draw) l16 c16 k16
  have b16 := F16.binds (ps := ["state", "many"]) fun _ _ _ _ _ _ us hl => match us, hl with | [_, _], _ => rfl
  have F17 := fun_mk (st := s__law_state) l17 c17 k17
  have b17 := F17.binds (ps := ["cell", "salt"]) fun _ _ _ _ _ _ us hl => match us, hl with | [_, _], _ => rfl
  have F18 := fun_mk (st := s__law_is_bytes) l18 c18 k18
  have b18 := F18.binds (ps := ["actual"]) fun _ _ _ _ _ _ us hl => match us, hl with | [_], _ => rfl
  have F19 := fun_mk (st := s__law_data) l19 c19 k19
  have b19 := F19.binds (ps := ["state", "most"]) fun _ _ _ _ _ _ us hl => match us, hl with | [_, _], _ => rfl
  have F20 := fun_mk (st := s__law_equal) l20 c20 k20
  have b20 := F20.binds (ps := ["data", "before", "at"]) fun _ _ _ _ _ _ us hl => match us, hl with | [_, _, _], _ => rfl
  have F21 := fun_mk (st := s__law_best) l21 c21 k21
  have b21 := F21.binds (ps := ["data", "at"]) fun _ _ _ _ _ _ us hl => match us, hl with | [_, _], _ => rfl
  have F22 := fun_mk (st := s__law_due) l22 c22 k22
  have b22 := F22.binds (ps := ["data"]) fun _ _ _ _ _ _ us hl => match us, hl with | [_], _ => rfl
  have F23 := fun_mk (st := s_law) l23 c23 k23
  have b23 := F23.binds (ps := ["script"]) fun _ _ _ _ _ _ us hl => match us, hl with | [_], _ => rfl
  have T : Txt K mg := ⟨f1, _, F1, b1, PySem.W.mg_of X G a1,
    f2, _, F2, b2, PySem.W.mg_of X G a2,
    f3, _, F3, b3, PySem.W.mg_of X G a3,
    f4, _, F4, b4, PySem.W.mg_of X G a4,
    f5, _, F5, b5, PySem.W.mg_of X G a5,
    f6, _, F6, b6, PySem.W.mg_of X G a6,
    f7, _, F7, b7, PySem.W.mg_of X G a7,
    f8, _, F8, b8, PySem.W.mg_of X G a8,
    f9, _, F9, b9, PySem.W.mg_of X G a9,
    f10, _, F10, b10, PySem.W.mg_of X G a10,
    f11, _, F11, b11, PySem.W.mg_of X G a11,
    f12, _, F12, b12, PySem.W.mg_of X G a12,
    f13, _, F13, b13, PySem.W.mg_of X G a13,
    f14, _, F14, b14, PySem.W.mg_of X G a14,
    f15, _, F15, b15, PySem.W.mg_of X G a15,
    f16, _, F16, b16, PySem.W.mg_of X G a16,
    f17, _, F17, b17, PySem.W.mg_of X G a17,
    f18, _, F18, b18, PySem.W.mg_of X G a18,
    f19, _, F19, b19, PySem.W.mg_of X G a19,
    f20, _, F20, b20, PySem.W.mg_of X G a20,
    f21, _, F21, b21, PySem.W.mg_of X G a21,
    f22, _, F22, b22, PySem.W.mg_of X G a22,
    fa, _, F23, b23, PySem.W.mg_of X G a23,
    t24, PySem.W.mg_of X G a24,
    t25, PySem.W.mg_of X G a25,
    t26, PySem.W.mg_of X G a26,
    t27, PySem.W.mg_of X G a27,
    t28, PySem.W.mg_of X G a28,
    t29, PySem.W.mg_of X G a29,
    PySem.W.mg_none_of X G a30,
    PySem.W.mg_none_of X G a31,
    PySem.W.mg_none_of X G a32,
    PySem.W.mg_none_of X G a33,
    PySem.W.mg_none_of X G a34,
    PySem.W.mg_none_of X G a35,
    PySem.W.mg_none_of X G a36,
    PySem.W.mg_none_of X G a37,
    PySem.W.mg_none_of X G a38,
    PySem.W.mg_none_of X G a39,
    PySem.W.mg_none_of X G a40⟩
  refine ⟨PySem.W.fnOf "law" "law" (defArgs s_law) (defBody s_law) (defScope s_law) .none kV23 dc23 pm23 an23 cd23 ct23, fun s v => .of_eq rfl, fun base _ _ => ?_⟩
  exact ok_law_of F23 T
end K08
open PySem PySem.W PyProof.Rows
set_option maxRecDepth 100000 in
set_option maxHeartbeats 0 in
theorem PySem.Challenge.cw_stillroom_k08_matches_written_holds : PySem.Challenge.rw_stillroom_k08_matches_written.Holds := by
  w_on; o_law; k_head; (case hw => w_witness2)
  k_fill
  refine L2.walk_of (l := PySem.Challenge.rw_stillroom_k08_matches_written) (n := 63) (k := 6) (x := "script") (CX := fun _ => L2.CX0) (sp := fun w => K08.spLaw _) rfl (by decide) rfl ⟨rfl, by decide, by decide⟩ (fun w h Y => PySem.W.kIn_of Y) ?F (fun _ _ a ns hl _ hS => ⟨a, ns, rfl, hS, hl, fun _ => rfl⟩) (fun _ _ _ _ _ h => h)
  case F =>
    intro w mg fa h KX G hmg
    refine' K08.all_mk KX G hmg ?a1 ?l1 ?c1 ?k1 ?a2 ?l2 ?c2 ?k2 ?a3 ?l3 ?c3 ?k3 ?a4 ?l4 ?c4 ?k4 ?a5 ?l5 ?c5 ?k5 ?a6 ?l6 ?c6 ?k6 ?a7 ?l7 ?c7 ?k7 ?a8 ?l8 ?c8 ?k8 ?a9 ?l9 ?c9 ?k9 ?a10 ?l10 ?c10 ?k10 ?a11 ?l11 ?c11 ?k11 ?a12 ?l12 ?c12 ?k12 ?a13 ?l13 ?c13 ?k13 ?a14 ?l14 ?c14 ?k14 ?a15 ?l15 ?c15 ?k15 ?a16 ?l16 ?c16 ?k16 ?a17 ?l17 ?c17 ?k17 ?a18 ?l18 ?c18 ?k18 ?a19 ?l19 ?c19 ?k19 ?a20 ?l20 ?c20 ?k20 ?a21 ?l21 ?c21 ?k21 ?a22 ?l22 ?c22 ?k22 ?a23 ?l23 ?c23 ?k23 ?a24 ?a25 ?a26 ?a27 ?a28 ?a29 ?a30 ?a31 ?a32 ?a33 ?a34 ?a35 ?a36 ?a37 ?a38 ?a39 ?a40
    (case a1 => k_is)
    (case l1 => k_is)
    (case c1 => k_is)
    (case k1 => k_is)
    (case a2 => k_is)
    (case l2 => k_is)
    (case c2 => k_is)
    (case k2 => k_is)
    (case a3 => k_is)
    (case l3 => k_is)
    (case c3 => k_is)
    (case k3 => k_is)
    (case a4 => k_is)
    (case l4 => k_is)
    (case c4 => k_is)
    (case k4 => k_is)
    (case a5 => k_is)
    (case l5 => k_is)
    (case c5 => k_is)
    (case k5 => k_is)
    (case a6 => k_is)
    (case l6 => k_is)
    (case c6 => k_is)
    (case k6 => k_is)
    (case a7 => k_is)
    (case l7 => k_is)
    (case c7 => k_is)
    (case k7 => k_is)
    (case a8 => k_is)
    (case l8 => k_is)
    (case c8 => k_is)
    (case k8 => k_is)
    (case a9 => k_is)
    (case l9 => k_is)
    (case c9 => k_is)
    (case k9 => k_is)
    (case a10 => k_is)
    (case l10 => k_is)
    (case c10 => k_is)
    (case k10 => k_is)
    (case a11 => k_is)
    (case l11 => k_is)
    (case c11 => k_is)
    (case k11 => k_is)
    (case a12 => k_is)
    (case l12 => k_is)
    (case c12 => k_is)
    (case k12 => k_is)
    (case a13 => k_is)
    (case l13 => k_is)
    (case c13 => k_is)
    (case k13 => k_is)
    (case a14 => k_is)
    (case l14 => k_is)
    (case c14 => k_is)
    (case k14 => k_is)
    (case a15 => k_is)
    (case l15 => k_is)
    (case c15 => k_is)
    (case k15 => k_is)
    (case a16 => k_is)
    (case l16 => k_is)
    (case c16 => k_is)
    (case k16 => k_is)
    (case a17 => k_is)
    (case l17 => k_is)
    (case c17 => k_is)
    (case k17 => k_is)
    (case a18 => k_is)
    (case l18 => k_is)
    (case c18 => k_is)
    (case k18 => k_is)
    (case a19 => k_is)
    (case l19 => k_is)
    (case c19 => k_is)
    (case k19 => k_is)
    (case a20 => k_is)
    (case l20 => k_is)
    (case c20 => k_is)
    (case k20 => k_is)
    (case a21 => k_is)
    (case l21 => k_is)
    (case c21 => k_is)
    (case k21 => k_is)
    (case a22 => k_is)
    (case l22 => k_is)
    (case c22 => k_is)
    (case k22 => k_is)
    (case a23 => k_is)
    (case l23 => k_is)
    (case c23 => k_is)
    (case k23 => k_is)
    (case a24 => k_is)
    (case a25 => k_is)
    (case a26 => k_is)
    (case a27 => k_is)
    (case a28 => k_is)
    (case a29 => k_is)
    (case a30 => k_is)
    (case a31 => k_is)
    (case a32 => k_is)
    (case a33 => k_is)
    (case a34 => k_is)
    (case a35 => k_is)
    (case a36 => k_is)
    (case a37 => k_is)
    (case a38 => k_is)
    (case a39 => k_is)
    (case a40 => k_is)

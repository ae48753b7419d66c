

import PyProof.Rows.All
import Wide.All
import OpenK.AllK
import Wide.FinOn
import HandS.ForMost
import HandS.Wide
import HandS.IsInst
import HandS.FStr
import HandS.Zip
import HandS.CallLocal
import HandS.Walk
import HandS.TryOnly
import PySem.Challenge.RW_stillroom_k38_pictures_at_places
set_option Elab.async false
set_option linter.all false
set_option maxRecDepth 100000
namespace K38
open PySem PySem.Spec PyProof.Rows L2

/-! ### rules with plainer readings -/
section
variable {X : Cx}
theorem CallR.of {f : Value} {r r' : List V → Hp → VK → Prop} (h : CallR X f r) (k : ∀ xs H Q, r' xs H Q → r xs H Q) : CallR X f r' := fun pins s σ H xs us Q I rv q => h pins s σ H xs us Q I rv (k xs H Q q)
theorem OpR.of {f : Value → Value → Sem Value} {r r' : R2} (h : OpR X f r) (k : ∀ x y H Q, r' x y H Q → r x y H Q) : OpR X f r' := fun pins s σ H x y v u Q I rx ry q => h pins s σ H x y v u Q I rx ry (k x y H Q q)
/-- the name of a plain value's type -/
def tnm : V → Option String
  | .non => some "NoneType"
  | .bl _ => some "bool"
  | .int _ => some "int"
  | .str _ => some "str"
  | _ => none
theorem tnm_int (i : Int) : tnm (.int i) = some "int" := rfl
theorem tnm_bl (b : Bool) : tnm (.bl b) = some "bool" := rfl
theorem tnm_str (x : Str) : tnm (.str x) = some "str" := rfl
theorem tnm_non : tnm .non = some "NoneType" := rfl
theorem tnm_ref (p : Addr) : tnm (.ref p) = none := rfl
theorem scal_ii (i j : Int) : scal (.int i) (.int j) = true := rfl
theorem scal_ss (i j : Str) : scal (.str i) (.str j) = true := rfl
theorem scal_bb (i j : Bool) : scal (.bl i) (.bl j) = true := rfl
theorem scal_nn : scal .non .non = true := rfl
theorem scal_in (i : Int) : scal (.int i) .non = true := rfl
theorem scal_ni (i : Int) : scal .non (.int i) = true := rfl
def rIsiB : List V → Hp → VK → Prop := fun vs H Q => (∃ x n a b, vs = [x, .ty n] ∧ tnm x = some a ∧ kitB a n = some b ∧ Q (.bl b) H) ∨
  (∃ p n xs b, vs = [.ref p, .ty n] ∧ H p = some (.lst xs) ∧ kitB "list" n = some b ∧ Q (.bl b) H) ∨ ∃ p n xs b, vs = [.ref p, .ty n] ∧ H p = some (.tup xs) ∧ kitB "tuple" n = some b ∧ Q (.bl b) H
theorem call_isiB : CallR X (.builtin "isinstance") rIsiB := CallR.of call_isi (by
  intro vs H Q h
  rcases h with ⟨x, n, a, b, rfl, ha, hb, q⟩ | ⟨p, n, xs, b, rfl, ha, hb, q⟩ | ⟨p, n, xs, b, rfl, ha, hb, q⟩
  · refine ⟨x, .ty n, .type a, .type n, b, rfl, .ty n, ?_, kit_ty hb, q⟩
    cases x <;> cases ha
    · exact .base .non
    · exact .base (.bl _)
    · exact .base (.int _)
    · exact .base (.str _)
  · exact ⟨.ref p, .ty n, .type "list", .type n, b, rfl, .ty n, .base (.lst ha), kit_ty hb, q⟩
  · exact ⟨.ref p, .ty n, .type "tuple", .type n, b, rfl, .ty n, .base (.tup ha), kit_ty hb, q⟩)
theorem kb1 : kitB "int" "int" = some true := by decide +kernel
theorem kb2 : kitB "int" "bool" = some false := by decide +kernel
theorem kb3 : kitB "bool" "bool" = some true := by decide +kernel
theorem kb4 : kitB "bool" "int" = some true := by decide +kernel
theorem kb5 : kitB "str" "str" = some true := by decide +kernel
theorem kb6 : kitB "str" "int" = some false := by decide +kernel
theorem kb7 : kitB "list" "list" = some true := by decide +kernel
theorem kb8 : kitB "tuple" "tuple" = some true := by decide +kernel
theorem kb9 : kitB "NoneType" "int" = some false := by decide +kernel
theorem kb10 : kitB "NoneType" "list" = some false := by decide +kernel
/-- len, a copy, an item of a tracked list -/
def rLenH : List V → Hp → VK → Prop := fun vs H Q => ∃ p xs, vs = [.ref p] ∧ H p = some (.lst xs) ∧ Q (.int xs.length) H
theorem call_lenH : CallR X (.builtin "len") rLenH := CallR.of call_len_seq (by
  rintro vs H Q ⟨p, xs, rfl, h, q⟩
  exact ⟨p, xs, rfl, .inl (.inl (.inl h)), q⟩)
def rLenT : List V → Hp → VK → Prop := fun vs H Q => ∃ p xs, vs = [.ref p] ∧ H p = some (.tup xs) ∧ Q (.int xs.length) H
theorem call_lenT : CallR X (.builtin "len") rLenT := CallR.of call_len_seq (by
  rintro vs H Q ⟨p, xs, rfl, h, q⟩
  exact ⟨p, xs, rfl, .inr (.inl (.inl h)), q⟩)
def rListH : List V → Hp → VK → Prop := fun vs H Q => ∃ p xs, vs = [.ref p] ∧ H p = some (.lst xs) ∧ ∀ l, H l = none → Q (.ref l) (upd H l (.lst xs))
theorem call_listH : CallR X (.type "list") rListH := CallR.of call_list_of (by
  rintro vs H Q ⟨p, xs, rfl, h, q⟩
  exact ⟨p, xs, rfl, .inl (.inl (.inl h)), q⟩)
theorem ints_dp {K : PySem.W.Frag} {H : Hp} : ∀ ns : List Int, DpAll K H (ns.map V.int) (ns.map PyData.int)
  | [] => .nil
  | n :: r => .cons (.int n) (ints_dp r)
theorem ints_eqv : ∀ ns ms : List Int, PyData.eqvAll (ns.map PyData.int) (ms.map PyData.int) = decide (ns = ms)
  | [], [] => by simp [PyData.eqvAll]
  | [], _ :: _ => by simp [PyData.eqvAll]
  | _ :: _, [] => by simp [PyData.eqvAll]
  | n :: r, m :: q => by
    rw [List.map_cons, List.map_cons, PyData.eqvAll, ints_eqv r q]
    simp only [PyData.eqv, List.cons.injEq, Bool.decide_and]
    by_cases h : n = m <;> simp [h]
theorem ints_lay : ∀ ns : List Int, PyData.canLayAll0 (ns.map PyData.int) = true
  | [] => rfl
  | _ :: r => by rw [List.map_cons, PyData.canLayAll0, ints_lay r]; rfl
theorem ints_depth : ∀ ns : List Int, PyData.depthAll (ns.map PyData.int) = 0
  | [] => rfl
  | _ :: r => by rw [List.map_cons, PyData.depthAll, ints_depth r]; rfl
theorem ints_shaped (ns : List Int) : SeqAt.shaped (.list (ns.map PyData.int)) = true := by
  unfold SeqAt.shaped
  rw [PyData.canLay0, ints_lay, PyData.depth, ints_depth]
  rfl
/-- == and != of two tracked lists of ints -/
def rEqIL : R2 := fun x y H Q => ∃ a b ns ms, x = .ref a ∧ y = .ref b ∧ H a = some (.lst (List.map V.int ns)) ∧ H b = some (.lst (List.map V.int ms)) ∧ Q (.bl (decide (ns = ms))) H
theorem op_eqIL (hu : X.A.units + 64 < cLine) : OpR X (compareOp .Eq) rEqIL := OpR.of (op_eqD hu) (by
  rintro x y H Q ⟨a, b, ns, ms, rfl, rfl, ha, hb, q⟩
  refine ⟨_, _, .lst (.inl (.inl ha)) (ints_dp ns), .lst (.inl (.inl hb)) (ints_dp ms), ints_shaped ns, ints_shaped ms, ?_⟩
  rw [PyData.eqv, ints_eqv]
  exact q)
def rNeIL : R2 := fun x y H Q => ∃ a b ns ms, x = .ref a ∧ y = .ref b ∧ H a = some (.lst (List.map V.int ns)) ∧ H b = some (.lst (List.map V.int ms)) ∧ Q (.bl (!decide (ns = ms))) H
theorem op_neIL (hu : X.A.units + 64 < cLine) : OpR X (compareOp .NotEq) rNeIL := OpR.of (op_neD hu) (by
  rintro x y H Q ⟨a, b, ns, ms, rfl, rfl, ha, hb, q⟩
  refine ⟨_, _, .lst (.inl (.inl ha)) (ints_dp ns), .lst (.inl (.inl hb)) (ints_dp ms), ints_shaped ns, ints_shaped ms, ?_⟩
  rw [PyData.eqv, ints_eqv]
  exact q)
/-- == of two tracked tuples of plain things -/
def dS : V → PyData
  | .int i => .int i
  | .bl b => .bool b
  | _ => .none
def isS : V → Bool
  | .int _ => true
  | .bl _ => true
  | .non => true
  | _ => false
theorem isS_dp {K : PySem.W.Frag} {H : Hp} : ∀ xs : List V, xs.all isS = true → DpAll K H xs (xs.map dS)
  | [], _ => .nil
  | x :: r, h => by
    rw [List.all_cons, Bool.and_eq_true] at h
    refine .cons ?_ (isS_dp r h.2)
    have h1 := h.1
    cases x <;> first | exact .int _ | exact .bl _ | exact .non | cases h1
theorem isS_lay : ∀ xs : List V, PyData.canLayAll0 (xs.map dS) = true
  | [] => rfl
  | x :: r => by rw [List.map_cons, PyData.canLayAll0, isS_lay r]; cases x <;> rfl
theorem isS_depth : ∀ xs : List V, PyData.depthAll (xs.map dS) = 0
  | [] => rfl
  | x :: r => by rw [List.map_cons, PyData.depthAll, isS_depth r]; cases x <;> rfl
theorem isS_shaped (xs : List V) : SeqAt.shaped (.tuple (xs.map dS)) = true := by
  unfold SeqAt.shaped
  rw [PyData.canLay0, isS_lay, PyData.depth, isS_depth]
  rfl
def rEqTS : R2 := fun x y H Q => ∃ a b xs ys, x = .ref a ∧ y = .ref b ∧ H a = some (.tup xs) ∧ H b = some (.tup ys) ∧ xs.all isS = true ∧ ys.all isS = true ∧ Q (.bl (PyData.eqvAll (xs.map dS) (ys.map dS))) H
theorem op_eqTS (hu : X.A.units + 64 < cLine) : OpR X (compareOp .Eq) rEqTS := OpR.of (op_eqD hu) (by
  rintro x y H Q ⟨a, b, xs, ys, rfl, rfl, ha, hb, h1, h2, q⟩
  refine ⟨_, _, .tup (.inl (.inl ha)) (isS_dp xs h1), .tup (.inl (.inl hb)) (isS_dp ys h2), isS_shaped xs, isS_shaped ys, ?_⟩
  rw [PyData.eqv]
  exact q)
theorem dS_int (i : Int) : dS (.int i) = .int i := rfl
theorem dS_bl (b : Bool) : dS (.bl b) = .bool b := rfl
theorem isS_int (i : Int) : isS (.int i) = true := rfl
theorem isS_bl (b : Bool) : isS (.bl b) = true := rfl
theorem eqv_ii (i j : Int) : PyData.eqv (.int i) (.int j) = decide (i = j) := by rw [PyData.eqv]; rfl
theorem eqv_bb (i j : Bool) : PyData.eqv (.bool i) (.bool j) = decide (i = j) := by rw [PyData.eqv]; cases i <;> cases j <;> rfl
theorem eqvAll_nil : PyData.eqvAll [] [] = true := by rw [PyData.eqvAll]
theorem eqvAll_cons (x y : PyData) (xs ys : List PyData) : PyData.eqvAll (x :: xs) (y :: ys) = (PyData.eqv x y && PyData.eqvAll xs ys) := by rw [PyData.eqvAll]
theorem ip_of {op : Operator} {r : R2} (h : OpR X (inplaceOp op) r) : PIp X op r := fun pins s σ H x y v u Q I r1 r2 q => h pins s σ H x y v u Q I r1 r2 q
theorem SlR.of {r r' : V → Option Int → Option Int → Hp → VK → Prop} (h : SlR X r) (k : ∀ x lo hi H Q, r' x lo hi H Q → r x lo hi H Q) : SlR X r' := fun pins s σ H x v vl vu lo hi sl Q I rx hs pl pu q => h pins s σ H x v vl vu lo hi sl Q I rx hs pl pu (k x lo hi H Q q)
/-- a slice of a tracked list -/
def rSlH : V → Option Int → Option Int → Hp → VK → Prop := fun x lo hi H Q => ∃ a xs, x = .ref a ∧ H a = some (.lst xs) ∧ ∀ p, H p = none → Q (.ref p) (upd H p (.lst (cutV xs lo hi)))
theorem sl_listH : SlR X rSlH := SlR.of sl_list (by
  rintro x lo hi H Q ⟨a, xs, rfl, h, q⟩
  exact ⟨a, xs, rfl, .inl (.inl h), q⟩)
/-- == and != of two tracked pairs of a list of ints and an int -/
theorem li_dp {K : PySem.W.Frag} {H : Hp} {q : Addr} {l : Int} {ns : List Int} (hq : H q = some (.lst (List.map V.int ns))) : DpAll K H [.ref q, .int l] [.list (ns.map PyData.int), .int l] := .cons (.lst (.inl (.inl hq)) (ints_dp ns)) (.cons (.int l) .nil)
theorem li_shaped (ns : List Int) (l : Int) : SeqAt.shaped (.tuple [.list (ns.map PyData.int), .int l]) = true := by
  unfold SeqAt.shaped
  rw [PyData.canLay0, PyData.canLayAll0, PyData.canLay0, ints_lay, PyData.canLayAll0, PyData.depth, PyData.depthAll, PyData.depth, ints_depth, PyData.depthAll]
  rfl
theorem li_eqv (ns ms : List Int) (l m : Int) : PyData.eqv (.tuple [.list (ns.map PyData.int), .int l]) (.tuple [.list (ms.map PyData.int), .int m]) = (decide (ns = ms) && decide (l = m)) := by
  rw [PyData.eqv, PyData.eqvAll, PyData.eqvAll, PyData.eqvAll, PyData.eqv, PyData.eqv, ints_eqv, Bool.and_true]
  rfl
def rEqLI : R2 := fun x y H Q => ∃ a b q r l m ns ms, x = .ref a ∧ y = .ref b ∧ H a = some (.tup [.ref q, .int l]) ∧ H b = some (.tup [.ref r, .int m]) ∧ H q = some (.lst (List.map V.int ns)) ∧ H r = some (.lst (List.map V.int ms)) ∧ Q (.bl (decide (ns = ms) && decide (l = m))) H
theorem op_eqLI (hu : X.A.units + 64 < cLine) : OpR X (compareOp .Eq) rEqLI := OpR.of (op_eqD hu) (by
  rintro x y H Q ⟨a, b, q, r, l, m, ns, ms, rfl, rfl, ha, hb, hq, hr, k⟩
  refine ⟨_, _, .tup (.inl (.inl ha)) (li_dp hq), .tup (.inl (.inl hb)) (li_dp hr), li_shaped ns l, li_shaped ms m, ?_⟩
  rw [li_eqv]
  exact k)
def rNeLI : R2 := fun x y H Q => ∃ a b q r l m ns ms, x = .ref a ∧ y = .ref b ∧ H a = some (.tup [.ref q, .int l]) ∧ H b = some (.tup [.ref r, .int m]) ∧ H q = some (.lst (List.map V.int ns)) ∧ H r = some (.lst (List.map V.int ms)) ∧ Q (.bl (!(decide (ns = ms) && decide (l = m)))) H
theorem op_neLI (hu : X.A.units + 64 < cLine) : OpR X (compareOp .NotEq) rNeLI := OpR.of (op_neD hu) (by
  rintro x y H Q ⟨a, b, q, r, l, m, ns, ms, rfl, rfl, ha, hb, hq, hr, k⟩
  refine ⟨_, _, .tup (.inl (.inl ha)) (li_dp hq), .tup (.inl (.inl hb)) (li_dp hr), li_shaped ns l, li_shaped ms m, ?_⟩
  rw [li_eqv]
  exact k)
def rIxH : R2 := fun x y H Q => ∃ p xs i v, x = .ref p ∧ y = .int i ∧ H p = some (.lst xs) ∧ atI xs i = some v ∧ Q v H
theorem IxR.of {r r' : R2} (h : IxR X r) (k : ∀ x y H Q, r' x y H Q → r x y H Q) : IxR X r' := fun va sl pins s σ H x y v u Q I rx ry q hs => h va sl pins s σ H x y v u Q I rx ry (k x y H Q q) hs
theorem ix_listH : IxR X rIxH := IxR.of ix_list (by
  rintro x y H Q ⟨p, xs, i, v, e1, e2, h, h2, q⟩
  exact ⟨p, xs, i, v, e1, e2, .inl (.inl h), h2, q⟩)
def rIxTH : R2 := fun x y H Q => ∃ p xs i v, x = .ref p ∧ y = .int i ∧ H p = some (.tup xs) ∧ atI xs i = some v ∧ Q v H
theorem ix_tupH : IxR X rIxTH := IxR.of ix_tup (by
  rintro x y H Q ⟨p, xs, i, v, e1, e2, h, h2, q⟩
  exact ⟨p, xs, i, v, e1, e2, .inl (.inl h), h2, q⟩)
end
/-- a place in bounds -/
theorem ixN_in {n : Nat} {k : Int} (h0 : 0 ≤ k) (h1 : k < n) : ixN n k = some k.toNat := by
  unfold ixN
  rw [if_pos h0, if_pos h1]
theorem atI_in {xs : List Int} {k : Int} (h0 : 0 ≤ k) (h1 : k < xs.length) : ∃ b, xs[k.toNat]? = some b ∧ atI (xs.map V.int) k = some (.int b) := by
  have h : k.toNat < xs.length := by omega
  refine ⟨xs[k.toNat], List.getElem?_eq_getElem h, ?_⟩
  unfold atI
  rw [List.length_map, ixN_in h0 h1]
  show (xs.map V.int)[k.toNat]? = _
  rw [List.getElem?_map, List.getElem?_eq_getElem h]
  rfl
theorem mod_in (x : Int) {m : Int} (h : 0 < m) : 0 ≤ x % m ∧ x % m < m := ⟨Int.emod_nonneg x (by omega), Int.emod_lt_of_pos x h⟩
theorem atI_c0 {α : Type} (x : α) (xs : List α) : atI (x :: xs) 0 = some x := atI_nat (j := 0) rfl
theorem atI_c1 {α : Type} (x y : α) (xs : List α) : atI (x :: y :: xs) 1 = some y := atI_nat (j := 1) rfl
theorem atI_c2 {α : Type} (x y z : α) (xs : List α) : atI (x :: y :: z :: xs) 2 = some z := atI_nat (j := 2) rfl
theorem atI_c3 {α : Type} (x y z u : α) (xs : List α) : atI (x :: y :: z :: u :: xs) 3 = some u := atI_nat (j := 3) rfl

theorem tyV_upd {K : PySem.W.Frag} {H : Hp} {p : Addr} {xs : List V} : tyV K "list" (.ref p) (upd H p (.lst xs)) = True := eq_true (.inl ⟨rfl, xs, .inl (.inl upd_same)⟩)
theorem nil_sz : (0 ≤ sizeLine) = True := eq_true (Nat.zero_le _)
/-- what a for asks once its walk stands -/
def Loop (J : It) (g : TG) (tb : TS) (D : Ends) (σ : L2.St) (H1 : Hp) : Prop := ∃ W : Nat → Nat → L2.St → Hp → Prop, (∃ m, W 0 m σ H1) ∧ ∀ i m σ H, W i m σ H →
  (J.stop i H ∧ D.nx σ H) ∨ (J.go i H ∧ ∃ N : L2.St → Hp → Prop, (∀ σ' H', N σ' H' → ∃ m', m' < m ∧ W (i + 1) m' σ' H') ∧ ∀ x H', J.yld i H x H' → g x σ H' fun σ2 H2 => tb { D with nx := N, ct := N, bk := D.nx } σ2 H2)
theorem tFor_eq {wi : TI} {g : TG} {tb : TS} {D : Ends} {σ : L2.St} {H : Hp} : tFor wi g tb D σ H = wi σ H fun J H1 => Loop J g tb D σ H1 := rfl
theorem lp_range {n : Nat} {g : TG} {tb : TS} {D : Ends} {σ : L2.St} {H : Hp} (Pv : Nat → L2.St → Hp → Prop) (h0 : Pv 0 σ H)
    (hs : ∀ i σ H, i < n → Pv i σ H → g (.int i) σ H fun σ2 H2 => tb { D with nx := Pv (i + 1), ct := Pv (i + 1), bk := D.nx } σ2 H2) (hd : ∀ σ H, Pv n σ H → D.nx σ H) : Loop (Itr 0 n) g tb D σ H :=
  for_range (lo := 0) Pv h0 (fun i σ H a b => by have := hs i σ H a b; rw [Int.zero_add]; exact this) hd
theorem lp_list {K : PySem.W.Frag} {a : Addr} {xs : List V} {g : TG} {tb : TS} {D : Ends} {σ : L2.St} {H : Hp} (Pv : Nat → L2.St → Hp → Prop) (h0 : Pv 0 σ H) (hl : ∀ i σ H, i ≤ xs.length → Pv i σ H → SqL K H a xs)
    (hs : ∀ i x σ H, xs[i]? = some x → Pv i σ H → g x σ H fun σ2 H2 => tb { D with nx := Pv (i + 1), ct := Pv (i + 1), bk := D.nx } σ2 H2) (hd : ∀ σ H, Pv xs.length σ H → D.nx σ H) : Loop (Itl K a) g tb D σ H := for_list Pv h0 hl hs hd
/-- the same for a comprehension -/
def LcLoop (J : It) (g : TG) (tt : TT) (te : TE) (vs : List Nat) (σ : L2.St) (H1 : Hp) (Q : VK) : Prop := ∀ D, H1 D = none → ∃ W : Nat → Nat → Hp → Prop, (∃ m, W 0 m (upd H1 D (.lst []))) ∧ ∀ i m H, W i m H →
  (J.stop i H ∧ Q (.ref D) H) ∨ (J.go i H ∧ ∃ Nx : Hp → Prop, (∀ H', Nx H' → ∃ m', m' < m ∧ W (i + 1) m' H') ∧ ∀ x H', J.yld i H x H' → g x (wipe σ vs) H' fun σ2 H2 => wipe σ2 vs = wipe σ vs ∧ tt σ2 H2 fun b H3 =>
    if b = true then te σ2 H3 fun y H4 => ∃ acc, H4 D = some (.lst acc) ∧ acc.length < sizeLine ∧ Nx (upd H4 D (.lst (acc ++ [y]))) else Nx H3)
theorem tLc_eq {wi : TI} {g : TG} {tt : TT} {te : TE} {vs : List Nat} {σ : L2.St} {H : Hp} {Q : VK} : tLc wi g tt te vs σ H Q = wi σ H fun J H1 => LcLoop J g tt te vs σ H1 Q := rfl
/-- a comprehension over a list, whose elements leave the heap as it is: L i is what i turns have made -/
theorem lc_pure {K : PySem.W.Frag} {a : Addr} {xs : List V} {g : TG} {tt : TT} {te : TE} {vs : List Nat} {σ : L2.St} {H1 : Hp} {Q : VK} (L : Nat → List V) (hS : SqL K H1 a xs) (h0 : L 0 = [])
    (hs : ∀ i x D, xs[i]? = some x → H1 D = none → g x (wipe σ vs) (upd H1 D (.lst (L i))) fun σ2 H2 => wipe σ2 vs = wipe σ vs ∧ tt σ2 H2 fun b H3 =>
      if b = true then te σ2 H3 fun y H4 => ∃ acc, H4 D = some (.lst acc) ∧ acc.length < sizeLine ∧ upd H4 D (.lst (acc ++ [y])) = upd H1 D (.lst (L (i + 1))) else H3 = upd H1 D (.lst (L (i + 1))))
    (hd : ∀ D, H1 D = none → Q (.ref D) (upd H1 D (.lst (L xs.length)))) : LcLoop (Itl K a) g tt te vs σ H1 Q := by
  intro D hD
  refine lc_list (K := K) (a := a) (xs := xs) (fun i H => H = upd H1 D (.lst (L i))) (by rw [h0]) (fun i H _ e => ?_) (fun i x H hx e => ?_) (fun H e => ?_)
  · subst e
    exact (show Same H1 _ from fun b o e => by rw [upd_ne (ne_of_none e hD)]; exact e).seq hS
  · subst e
    exact hs i x D hx hD
  · subst e
    exact hd D hD
theorem lc_pure_range {n : Nat} {g : TG} {tt : TT} {te : TE} {vs : List Nat} {σ : L2.St} {H1 : Hp} {Q : VK} (L : Nat → List V) (h0 : L 0 = [])
    (hs : ∀ i D, i < n → H1 D = none → g (.int i) (wipe σ vs) (upd H1 D (.lst (L i))) fun σ2 H2 => wipe σ2 vs = wipe σ vs ∧ tt σ2 H2 fun b H3 =>
      if b = true then te σ2 H3 fun y H4 => ∃ acc, H4 D = some (.lst acc) ∧ acc.length < sizeLine ∧ upd H4 D (.lst (acc ++ [y])) = upd H1 D (.lst (L (i + 1))) else H3 = upd H1 D (.lst (L (i + 1))))
    (hd : ∀ D, H1 D = none → Q (.ref D) (upd H1 D (.lst (L n)))) : LcLoop (Itr 0 n) g tt te vs σ H1 Q := by
  intro D hD
  refine lc_range (lo := 0) (n := n) (fun i H => H = upd H1 D (.lst (L i))) (by rw [h0]) (fun i H hi e => ?_) (fun H e => ?_)
  · subst e
    rw [Int.zero_add]
    exact hs i D hi hD
  · subst e
    exact hd D hD
theorem lp_zip {K : PySem.W.Frag} {a b : Addr} {xs ys : List V} {g : TG} {tb : TS} {D : Ends} {σ : L2.St} {H : Hp} (hl : xs.length = ys.length) (Pv : Nat → L2.St → Hp → Prop) (h0 : Pv 0 σ H) (hq : ∀ i σ H, Pv i σ H → SqL K H a xs ∧ SqL K H b ys)
    (hs : ∀ (i : Nat) (x y : V) (T : Addr) (σ : L2.St) (H : Hp), xs[i]? = some x → ys[i]? = some y → Pv i σ H → H T = none → g (.ref T) σ (upd H T (.tup [x, y])) fun σ2 H2 => tb { D with nx := Pv (i + 1), ct := Pv (i + 1), bk := D.nx } σ2 H2) (hd : ∀ σ H, Pv xs.length σ H → D.nx σ H) :
    Loop (Itz K a b) g tb D σ H := RZ.for_zipL hl Pv h0 hq hs hd
theorem lc_str {x : Str} {g : TG} {tt : TT} {te : TE} {vs : List Nat} {σ : L2.St} {H1 : Hp} {Q : VK} (L : Nat → List V) (h0 : L 0 = [])
    (hs : ∀ i c D, x.cps[i]? = some c → H1 D = none → g (.str ⟨#[c]⟩) (wipe σ vs) (upd H1 D (.lst (L i))) fun σ2 H2 => wipe σ2 vs = wipe σ vs ∧ tt σ2 H2 fun b H3 =>
      if b = true then te σ2 H3 fun y H4 => ∃ acc, H4 D = some (.lst acc) ∧ acc.length < sizeLine ∧ upd H4 D (.lst (acc ++ [y])) = upd H1 D (.lst (L (i + 1))) else H3 = upd H1 D (.lst (L (i + 1))))
    (hd : ∀ D, H1 D = none → Q (.ref D) (upd H1 D (.lst (L x.cps.size)))) : LcLoop (Its x) g tt te vs σ H1 Q := by
  intro D hD
  refine ⟨fun i m H => m = x.cps.size - i ∧ i ≤ x.cps.size ∧ H = upd H1 D (.lst (L i)), ⟨x.cps.size, by simp, Nat.zero_le _, by rw [h0]⟩, ?_⟩
  rintro i m H ⟨rfl, hi, rfl⟩
  by_cases hlt : i < x.cps.size
  · refine .inr ⟨hlt, fun H' => H' = upd H1 D (.lst (L (i + 1))), fun H' p' => ⟨x.cps.size - (i + 1), by omega, rfl, hlt, p'⟩, fun v H' y => ?_⟩
    obtain ⟨e, c, hc, ev⟩ := y
    subst e ev
    exact hs i c D hc hD
  · have e : i = x.cps.size := by omega
    subst e
    exact .inl ⟨Nat.le_refl _, hd D hD⟩
theorem lc_rangeC {lo c : Int} {n : Nat} {g : TG} {tt : TT} {te : TE} {vs : List Nat} {σ : L2.St} {H1 : Hp} {Q : VK} (L : Nat → List V) (h0 : L 0 = [])
    (hs : ∀ i D, i < n → H1 D = none → g (.int (lo + (i : Nat) * c)) (wipe σ vs) (upd H1 D (.lst (L i))) fun σ2 H2 => wipe σ2 vs = wipe σ vs ∧ tt σ2 H2 fun b H3 =>
      if b = true then te σ2 H3 fun y H4 => ∃ acc, H4 D = some (.lst acc) ∧ acc.length < sizeLine ∧ upd H4 D (.lst (acc ++ [y])) = upd H1 D (.lst (L (i + 1))) else H3 = upd H1 D (.lst (L (i + 1))))
    (hd : ∀ D, H1 D = none → Q (.ref D) (upd H1 D (.lst (L n)))) : LcLoop (Itc lo c n) g tt te vs σ H1 Q := by
  intro D hD
  refine ⟨fun i m H => m = n - i ∧ i ≤ n ∧ H = upd H1 D (.lst (L i)), ⟨n, by simp, Nat.zero_le _, by rw [h0]⟩, ?_⟩
  rintro i m H ⟨rfl, hi, rfl⟩
  by_cases hlt : i < n
  · refine .inr ⟨hlt, fun H' => H' = upd H1 D (.lst (L (i + 1))), fun H' p' => ⟨n - (i + 1), by omega, rfl, hlt, p'⟩, fun v H' y => ?_⟩
    obtain ⟨e, ev⟩ := y
    subst e ev
    exact hs i D hlt hD
  · have e : i = n := by omega
    subst e
    exact .inl ⟨Nat.le_refl _, hd D hD⟩
theorem small_two {a b : Int} (ha : -(2 ^ 62) ≤ a) (ha' : a < 2 ^ 62) (hb : -(2 ^ 62) ≤ b) (hb' : b < 2 ^ 62) : Builtin.Range.small a b 2 = true := by
  unfold Builtin.Range.small Builtin.Range.rangeSize
  simp only [Builtin.Range.rangeFitsLong, Bool.and_eq_true, Bool.or_eq_true, decide_eq_true_eq, beq_iff_eq, show ((2 : Int) > 0) by decide, if_true]
  split <;> omega
theorem rg_two {n : Nat} (h : n < 1000000) : RgC 0 ((n : Int) - 1) 2 (n / 2) := by
  refine ⟨by decide, by decide, small_two (by decide) (by decide) (by omega) (by omega), ?_⟩
  unfold Builtin.Range.rangeSize
  rw [if_pos (by decide)]
  split <;> omega
theorem wh_by {c : TT} {tb : TS} {D : Ends} {σ : L2.St} {H : Hp} (W : Nat → L2.St → Hp → Prop) (m : Nat) (h0 : W m σ H)
    (hs : ∀ m σ H, W m σ H → c σ H fun b H1 => if b = true then ∃ N : L2.St → Hp → Prop, (∀ σ' H', N σ' H' → ∃ m', m' < m ∧ W m' σ' H') ∧ tb { D with nx := N, ct := N, bk := D.nx } σ H1 else D.nx σ H1) : tWhile c tb D σ H := ⟨W, ⟨m, h0⟩, hs⟩
theorem lc_rng {n : Nat} {g : TG} {tt : TT} {te : TE} {vs : List Nat} {σ : L2.St} {H1 : Hp} {Q : VK} (Pv : Addr → Nat → Hp → Prop) (h0 : ∀ D, H1 D = none → Pv D 0 (upd H1 D (.lst [])))
    (hs : ∀ D i H, i < n → H1 D = none → Pv D i H → g (.int i) (wipe σ vs) H fun σ2 H2 => wipe σ2 vs = wipe σ vs ∧ tt σ2 H2 fun b H3 =>
      if b = true then te σ2 H3 fun y H4 => ∃ acc, H4 D = some (.lst acc) ∧ acc.length < sizeLine ∧ Pv D (i + 1) (upd H4 D (.lst (acc ++ [y]))) else Pv D (i + 1) H3)
    (hd : ∀ D H, H1 D = none → Pv D n H → Q (.ref D) H) : LcLoop (Itr 0 n) g tt te vs σ H1 Q := by
  intro D hD
  refine lc_range (lo := 0) (n := n) (Pv D) (h0 D hD) (fun i H hi p => ?_) (fun H p => hd D H hD p)
  rw [Int.zero_add]
  exact hs D i H hi hD p
theorem same_upd {H : Hp} {p : Addr} {o : HO} (h : H p = none) : Same H (upd H p o) := fun b x e => by
  rw [upd_ne (ne_of_none e h)]
  exact e
theorem same_upd2 {H H' : Hp} {q : Addr} {o : HO} (s : Same H H') (h : H q = none) : Same H (upd H' q o) := fun b x e => by
  rw [upd_ne (ne_of_none e h)]
  exact s b x e

/-! ### fresh objects: the heap behind one as a heap of its own -/
def NewH (H : Hp) (o : HO) (k : Addr → Hp → Prop) : Prop := ∀ p H', Same H H' → H p = none → H' p = some o → k p H'
theorem NewH.go {H : Hp} {o : HO} {k : Addr → Hp → Prop} (h : NewH H o k) : ∀ p, H p = none → k p (upd H p o) := fun p hp => h p _ (same_upd hp) hp upd_same
section
variable {X : Cx} {es : List Expr} {t : TA} {pos : Pos}
theorem pa_mono (h : PA X es t) : PA X es (fun σ H Q => ∃ Q', t σ H Q' ∧ ∀ xs H1, Q' xs H1 → Q xs H1) := ⟨fun pos pins s σ H Q I ⟨_, q, k⟩ => thn (h.run pos pins s σ H _ I q) fun _ _ ⟨vs, H', I', r, q'⟩ => ⟨vs, H', I', r, k _ _ q'⟩⟩
theorem PE.of {e : Expr} {t t' : TE} (h : PE X e t) (k : ∀ σ H Q, t' σ H Q → t σ H Q) : PE X e t' := ⟨fun pins s σ H Q I q => h.run pins s σ H Q I (k _ _ _ q)⟩
def tTupS (t : TA) : TE := fun σ H Q => t σ H fun xs H1 => xs.length ≤ sizeLine ∧ NewH H1 (.tup xs) fun p H' => Q (.ref p) H'
def tLstS (t : TA) : TE := fun σ H Q => t σ H fun xs H1 => xs.length ≤ sizeLine ∧ NewH H1 (.lst xs) fun p H' => Q (.ref p) H'
theorem pe_tupS {x1} (h : PA X es t) : PE X (.Tuple es x1 pos) (tTupS t) := PE.of (pe_tup (pa_mono h)) fun σ H Q q => ⟨_, q, fun _ _ z => ⟨z.1, z.2.go⟩⟩
theorem pe_lstS (h : PA X es t) : PE X (.List es pos) (tLstS t) := PE.of (pe_lst (pa_mono h)) fun σ H Q q => ⟨_, q, fun _ _ z => ⟨z.1, z.2.go⟩⟩
def rListS : List V → Hp → VK → Prop := fun vs H Q => ∃ p xs, vs = [.ref p] ∧ H p = some (.lst xs) ∧ NewH H (.lst xs) fun l H' => Q (.ref l) H'
theorem call_listS : CallR X (.type "list") rListS := CallR.of call_listH fun vs H Q ⟨p, xs, e, h, q⟩ => ⟨p, xs, e, h, q.go⟩
/-- list(t) of a tuple -/
def rListT : List V → Hp → VK → Prop := fun vs H Q => ∃ p xs, vs = [.ref p] ∧ H p = some (.tup xs) ∧ NewH H (.lst xs) fun l H' => Q (.ref l) H'
theorem call_listT : CallR X (.type "list") rListT := CallR.of call_list_of fun vs H Q ⟨p, xs, e, h, q⟩ => ⟨p, xs, e, .inr (.inl (.inl h)), q.go⟩
/-- tuple(xs) of a tracked list -/
def rTupleL : List V → Hp → VK → Prop := fun vs H Q => ∃ p xs, vs = [.ref p] ∧ H p = some (.lst xs) ∧ NewH H (.tup xs) fun l H' => Q (.ref l) H'
theorem call_tupleL : CallR X (.type "tuple") rTupleL := CallR.of call_tuple_of fun vs H Q ⟨p, xs, e, h, q⟩ => ⟨p, xs, e, .inl ⟨.inl (.inl h), q.go⟩⟩
def rCatL : R2 := fun x y H Q => ∃ l b xs zs, x = .ref l ∧ y = .ref b ∧ H l = some (.lst xs) ∧ H b = some (.lst zs) ∧ xs.length + zs.length ≤ sizeLine ∧ NewH H (.lst (xs ++ zs)) fun p H' => Q (.ref p) H'
theorem op_catS : OpR X (binaryOp .Add) rCatL := OpR.of op_cat fun x y H Q ⟨l, b, xs, zs, e1, e2, h1, h2, z, q⟩ => ⟨l, b, xs, zs, e1, e2, h1, h2, z, q.go⟩
/-- [x] * n -/
def rRepS : R2 := fun x y H Q => ∃ l k v, x = .ref l ∧ y = .int k ∧ H l = some (.lst [v]) ∧ k ≤ 16777216 ∧ -(2 ^ 62) ≤ k ∧ NewH H (.lst (List.replicate k.toNat v)) fun p H' => Q (.ref p) H'
theorem rep_flat {α : Type} (n : Nat) (y : α) : (List.replicate n [y]).flatten = List.replicate n y := by
  induction n with
  | zero => rfl
  | succ n ih => rw [List.replicate_succ, List.flatten_cons, ih, List.replicate_succ]; rfl
theorem op_repS : OpR X (binaryOp .Mult) rRepS := OpR.of op_rep fun x y H Q ⟨l, k, v, e1, e2, h1, z1, z2, q⟩ => ⟨l, k, [v], e1, e2, h1, by omega, by omega, by
    rw [List.length_singleton, show sizeLine = 16777216 from rfl]; omega, by rw [rep_flat]; exact q.go⟩
def rSlS : V → Option Int → Option Int → Hp → VK → Prop := fun x lo hi H Q => ∃ a xs, x = .ref a ∧ H a = some (.lst xs) ∧ NewH H (.lst (cutV xs lo hi)) fun p H' => Q (.ref p) H'
theorem sl_listS : SlR X rSlS := SlR.of sl_listH fun x lo hi H Q ⟨a, xs, e, h, q⟩ => ⟨a, xs, e, h, q.go⟩
theorem pe_mono {e : Expr} {t : TE} (h : PE X e t) : PE X e (fun σ H Q => ∃ Q', t σ H Q' ∧ ∀ v H1, Q' v H1 → Q v H1) := ⟨fun pins s σ H Q I ⟨_, q, k⟩ => thn (h.run pins s σ H _ I q) fun _ _ ⟨v, H', I', r, q'⟩ => ⟨v, H', I', r, k _ _ q'⟩⟩
theorem PG.of {e : Expr} {t t' : TG} (h : PG X e t) (k : ∀ v σ H Q, t' v σ H Q → t v σ H Q) : PG X e t' := ⟨fun pins s σ H v u Q I r q => h.run pins s σ H v u Q I r (k _ _ _ _ q)⟩
theorem PI.of {tg e : Expr} {t t' : TI} (h : PI X tg e t) (k : ∀ σ H R, t' σ H R → t σ H R) : PI X tg e t' := ⟨fun pins s σ H R I q => h.run pins s σ H R I (k _ _ _ q)⟩
def gTupS (n : Nat) (t : TGs) : TG := fun v σ H Q => ∃ a xs, v = .ref a ∧ H a = some (.tup xs) ∧ xs.length = n ∧ t xs σ H Q
theorem pg_tupS {k : Nat} {t : TGs} {n : Nat} (hc : X.calm = true) (h : PGs X es t) (hn : (assignEach es X.env).length = n := by rfl) (hst : (assignEach es X.env).findIdx? (·.1) = none := by rfl) : PG X (.Tuple es k pos) (gTupS n t) :=
  PG.of (pg_tup hc h hn hst) fun v σ H Q ⟨a, xs, e, g, l, q⟩ => ⟨a, xs, e, .inl (.inl g), l, q⟩
def gLstS (n : Nat) (t : TGs) : TG := fun v σ H Q => ∃ a xs, v = .ref a ∧ H a = some (.lst xs) ∧ xs.length = n ∧ t xs σ H Q
theorem pg_lstS {k : Nat} {t : TGs} {n : Nat} (hc : X.calm = true) (h : PGs X es t) (hn : (assignEach es X.env).length = n := by rfl) (hst : (assignEach es X.env).findIdx? (·.1) = none := by rfl) : PG X (.Tuple es k pos) (gLstS n t) :=
  PG.of (pg_lst hc h hn hst) fun v σ H Q ⟨a, xs, e, g, l, q⟩ => ⟨a, xs, e, .inl (.inl g), l, q⟩
def iListS (K : PySem.W.Frag) (tl : TE) : TI := fun σ H R => tl σ H fun x H1 => ∃ a xs, x = .ref a ∧ H1 a = some (.lst xs) ∧ R (Itl K a) H1
theorem pi_listS {tg l : Expr} {tl : TE} (hl : PE X l tl) : PI X tg l (iListS X.K tl) := PI.of (pi_list (pe_mono hl)) fun σ H R q => ⟨_, q, fun _ _ ⟨a, xs, e, g, r⟩ => ⟨a, e, ⟨xs, .inl (.inl g)⟩, r⟩⟩
def iTupS (K : PySem.W.Frag) (tl : TE) : TI := fun σ H R => tl σ H fun x H1 => ∃ a xs, x = .ref a ∧ H1 a = some (.tup xs) ∧ R (Itt K a) H1
theorem pi_tupS {tg l : Expr} {tl : TE} (hl : PE X l tl) : PI X tg l (iTupS X.K tl) := PI.of (pi_tup (pe_mono hl)) fun σ H R q => ⟨_, q, fun _ _ ⟨a, xs, e, g, r⟩ => ⟨a, e, ⟨xs, .inl (.inl g)⟩, r⟩⟩
def tML (r : V → List V → Hp → VK → Prop) (to : TE) (t : TA) : TE := fun σ H Q => to σ H fun x H1 => ∃ p xs, x = .ref p ∧ H1 p = some (.lst xs) ∧ t σ H1 fun ys H2 => r x ys H2 Q
theorem pe_ml {to : TE} {t : TA} {e : PySem.Expr} {K : PySem.W.Frag} {r : V → List V → Hp → VK → Prop} (h : PE X e (tBM K "list" r (fun σ H Q => ∃ Q', to σ H Q' ∧ ∀ v H1, Q' v H1 → Q v H1) t)) : PE X e (tML r to t) :=
  PE.of h fun σ H Q q => ⟨_, q, fun v H1 ⟨p, xs, e, g, z⟩ => ⟨by rw [e]; exact .inl ⟨rfl, xs, .inl (.inl g)⟩, z⟩⟩
def tML0 (r : V → List V → Hp → VK → Prop) (to : TE) : TE := fun σ H Q => to σ H fun x H1 => ∃ p xs, x = .ref p ∧ H1 p = some (.lst xs) ∧ r x [] H1 Q
theorem pe_ml0 {to : TE} {e : PySem.Expr} {K : PySem.W.Frag} {r : V → List V → Hp → VK → Prop} (h : PE X e (tBM0 K "list" r (fun σ H Q => ∃ Q', to σ H Q' ∧ ∀ v H1, Q' v H1 → Q v H1))) : PE X e (tML0 r to) :=
  PE.of h fun σ H Q q => ⟨_, q, fun v H1 ⟨p, xs, e, g, z⟩ => ⟨by rw [e]; exact .inl ⟨rfl, xs, .inl (.inl g)⟩, z⟩⟩
end
/-- loops and comprehensions over any walk -/
theorem lpW {J : It} {n : Nat} {G : Hp → Prop} {Y : Nat → Hp → V → Hp → Prop} (w : Walk J n G Y) {g : TG} {tb : TS} {D : Ends} {σ : L2.St} {H : Hp} (Pv : Nat → L2.St → Hp → Prop) (h0 : Pv 0 σ H) (hG : ∀ i σ H, i ≤ n → Pv i σ H → G H)
    (hs : ∀ i x σ H H', i < n → Pv i σ H → Y i H x H' → g x σ H' fun σ2 H2 => tb { D with nx := Pv (i + 1), ct := Pv (i + 1), bk := D.nx } σ2 H2) (hd : ∀ σ H, Pv n σ H → D.nx σ H) : Loop J g tb D σ H := for_it w Pv h0 hG hs hd
theorem lcW {J : It} {n : Nat} {G : Hp → Prop} {Y : Nat → Hp → V → Hp → Prop} (w : Walk J n G Y) {g : TG} {tt : TT} {te : TE} {vs : List Nat} {σ : L2.St} {H1 : Hp} {Q : VK} (Pv : Addr → Nat → Hp → Prop) (h0 : ∀ D H, Same H1 H → H1 D = none → H D = some (.lst []) → Pv D 0 H)
    (hG : ∀ D i H, H1 D = none → i ≤ n → Pv D i H → G H) (hs : ∀ D i x H H', i < n → H1 D = none → Pv D i H → Y i H x H' → g x (wipe σ vs) H' fun σ2 H2 => wipe σ2 vs = wipe σ vs ∧ tt σ2 H2 fun b H3 =>
      if b = true then te σ2 H3 fun y H4 => ∃ acc, H4 D = some (.lst acc) ∧ acc.length < sizeLine ∧ Pv D (i + 1) (upd H4 D (.lst (acc ++ [y]))) else Pv D (i + 1) H3)
    (hd : ∀ D H, H1 D = none → Pv D n H → Q (.ref D) H) : LcLoop J g tt te vs σ H1 Q :=
  fun D hD => lc_it w (Pv D) (h0 D _ (same_upd hD) hD upd_same) (fun i H hi p => hG D i H hD hi p) (fun i x H H' hi p y => hs D i x H H' hi hD p y) fun H p => hd D H hD p
theorem lcL {J : It} {n : Nat} {G : Hp → Prop} {Y : Nat → Hp → V → Hp → Prop} (w : Walk J n G Y) {g : TG} {tt : TT} {te : TE} {vs : List Nat} {σ : L2.St} {H1 : Hp} {Q : VK} (L : Nat → List V) (hz : L 0 = []) (hG : ∀ H, Same H1 H → G H)
    (hs : ∀ D i x H H', i < n → H1 D = none → Same H1 H → H D = some (.lst (L i)) → Y i H x H' → g x (wipe σ vs) H' fun σ2 H2 => wipe σ2 vs = wipe σ vs ∧ tt σ2 H2 fun b H3 =>
      if b = true then te σ2 H3 fun y H4 => ∃ acc, H4 D = some (.lst acc) ∧ acc.length < sizeLine ∧ Same H1 (upd H4 D (.lst (acc ++ [y]))) ∧ upd H4 D (.lst (acc ++ [y])) D = some (.lst (L (i + 1))) else Same H1 H3 ∧ H3 D = some (.lst (L (i + 1))))
    (hd : ∀ D H, Same H1 H → H1 D = none → H D = some (.lst (L n)) → Q (.ref D) H) : LcLoop J g tt te vs σ H1 Q :=
  lcW w (fun D i H => Same H1 H ∧ H D = some (.lst (L i))) (fun D H s _ g => ⟨s, by rw [g, hz]⟩) (fun _ _ H _ _ p => hG H p.1) (fun D i x H H' hi hD p y => hs D i x H H' hi hD p.1 p.2 y) fun D H hD p => hd D H p.1 hD p.2
theorem walkR {n : Nat} : Walk (Itr 0 n) n (fun _ => True) (YFn fun i => .int (i : Int)) := walk_range.mono (fun _ h => h) fun i H x H' _ _ y => ⟨y.1, by rw [y.2]; show V.int (0 + (i : Int)) = V.int (i : Int); rw [Int.zero_add]⟩
theorem walkL {K : PySem.W.Frag} {a : Addr} {xs : List V} : Walk (Itl K a) xs.length (fun H => H a = some (.lst xs)) (YAt xs) := (walk_list (K := K) (a := a) (xs := xs)).mono (fun _ h => .inl (.inl h)) fun _ _ _ _ _ _ y => y
theorem walkT {K : PySem.W.Frag} {a : Addr} {xs : List V} : Walk (Itt K a) xs.length (fun H => H a = some (.tup xs)) (YAt xs) := (walk_tup (K := K) (a := a) (xs := xs)).mono (fun _ h => .inl (.inl h)) fun _ _ _ _ _ _ y => y
/-- a list of ints is walked -/
def YInt (ns : List Int) : Nat → Hp → V → Hp → Prop := fun i H v H' => H' = H ∧ ∃ b, ns[i]? = some b ∧ v = .int b
theorem walkI {K : PySem.W.Frag} {a : Addr} {ns : List Int} : Walk (Itl K a) ns.length (fun H => H a = some (.lst (List.map V.int ns))) (YInt ns) := by
  have w := walkL (K := K) (a := a) (xs := List.map V.int ns)
  rw [List.length_map] at w
  refine w.mono (fun _ h => h) fun i H x H' _ _ y => ⟨y.1, ?_⟩
  have h := y.2
  rw [List.getElem?_map] at h
  obtain ⟨b, h1, rfl⟩ := Option.map_eq_some_iff.mp h
  exact ⟨b, h1, rfl⟩
theorem sqL_eq {K : PySem.W.Frag} {H : Hp} {a : Addr} {xs : List V} (h : H a = some (.lst xs)) : (∃ xs, SqL K H a xs) = True := eq_true ⟨_, .inl (.inl h)⟩
theorem sqT_eq {K : PySem.W.Frag} {H : Hp} {a : Addr} {xs : List V} (h : H a = some (.tup xs)) : (∃ xs, SqT K H a xs) = True := eq_true ⟨_, .inl (.inl h)⟩
theorem tyL_eq {K : PySem.W.Frag} {H : Hp} {p : Addr} {xs : List V} (h : H p = some (.lst xs)) : tyV K "list" (.ref p) H = True := eq_true (.inl ⟨rfl, xs, .inl (.inl h)⟩)
theorem Same.c2 {H H' : Hp} {a b : Addr} {x y : HO} (s : Same H H') (ga : H a = some x) (gb : H b = some y) : H' a = some x ∧ H' b = some y := ⟨s _ _ ga, s _ _ gb⟩
theorem map_int_inj {xs ys : List Int} : (List.map V.int xs = List.map V.int ys) = (xs = ys) := by
  refine propext ⟨fun h => ?_, fun h => by rw [h]⟩
  induction xs generalizing ys with
  | nil => cases ys with
    | nil => rfl
    | cons y q => cases h
  | cons x r ih => cases ys with
    | nil => cases h
    | cons y q =>
      rw [List.map_cons, List.map_cons, List.cons.injEq, V.int.injEq] at h
      rw [h.1, ih h.2]
theorem sz1 : (1 ≤ sizeLine) = True := eq_true (by decide)
theorem sz2 : (2 ≤ sizeLine) = True := eq_true (by decide)
theorem sz3 : (3 ≤ sizeLine) = True := eq_true (by decide)
theorem sz4 : (4 ≤ sizeLine) = True := eq_true (by decide)
theorem sz5 : (5 ≤ sizeLine) = True := eq_true (by decide)
theorem sz6 : (6 ≤ sizeLine) = True := eq_true (by decide)
theorem sz8 : (8 ≤ sizeLine) = True := eq_true (by decide)
/-- an item of a list of ints -/
def gN (ns : List Int) (i : Nat) : Int := ns.getD i 0
theorem at_g {ns : List Int} {i : Nat} (h : i < ns.length) : atI (ns.map V.int) (i : Int) = some (V.int (gN ns i)) := by
  refine atI_nat ?_
  rw [List.getElem?_map, List.getElem?_eq_getElem h]
  simp [gN, h]
theorem at_g' {ns : List Int} {k : Int} {i : Nat} (e : k = (i : Int)) (h : i < ns.length) : atI (ns.map V.int) k = some (V.int (gN ns i)) := by
  rw [e]
  exact at_g h
theorem iteT' {c : Bool} {a b : Prop} (h : c = true) (x : a) : if c = true then a else b := by rw [if_pos h]; exact x
theorem iteF' {c : Bool} {a b : Prop} (h : c = false) (x : b) : if c = true then a else b := by rw [if_neg (by rw [h]; decide)]; exact x
theorem iteB {c : Bool} {p : Prop} [Decidable p] {a b : Prop} (h : c = decide p) (x : p → a) (y : ¬ p → b) : if c = true then a else b := by
  subst h
  exact ite2 (fun e => x (of_decide_eq_true e)) fun e => y fun z => e (decide_eq_true z)
theorem iteD {p : Prop} [Decidable p] {a b : Prop} (x : p → a) (y : ¬ p → b) : if decide p = true then a else b := iteB rfl x y
def mx (x y : Int) : Int := if x < y then y else x
def mn (x y : Int) : Int := if y < x then y else x
theorem mx_eq (x y : Int) : (if x < y then y else x) = mx x y := rfl
theorem mn_eq (x y : Int) : (if y < x then y else x) = mn x y := rfl
theorem mx_le {x y z : Int} : mx x y ≤ z ↔ x ≤ z ∧ y ≤ z := by
  unfold mx
  split <;> omega
theorem lt_mn {x y z : Int} : z < mn x y ↔ z < x ∧ z < y := by
  unfold mn
  split <;> omega
theorem toNat_mul (m n : Nat) : ((m : Int) * (n : Int)).toNat = m * n := by rw [← Int.natCast_mul, Int.toNat_natCast]
theorem atI_lit {xs : List V} {k : Int} (h0 : 0 ≤ k) (h1 : k < xs.length) : ∃ v, atI xs k = some v ∧ v ∈ xs := by
  have h : k.toNat < xs.length := by omega
  refine ⟨xs[k.toNat], ?_, List.getElem_mem h⟩
  unfold atI
  rw [ixN_in h0 h1]
  exact List.getElem?_eq_getElem h
theorem atI_lits {xs : List Int} {k : Int} (h0 : 0 ≤ k) (h1 : k < xs.length) : ∃ v, atI (List.map V.int xs) k = some (.int v) ∧ v ∈ xs := by
  obtain ⟨v, h, hm⟩ := atI_lit (xs := List.map V.int xs) h0 (by rw [List.length_map]; exact h1)
  obtain ⟨i, hi, rfl⟩ := List.mem_map.mp hm
  exact ⟨i, h, hi⟩
theorem natOf {x : Int} (h : 0 ≤ x) : ∃ n : Nat, x = (n : Int) := ⟨x.toNat, by omega⟩
theorem map_cat (xs ys : List Int) : List.map V.int xs ++ List.map V.int ys = List.map V.int (xs ++ ys) := by rw [List.map_append]
theorem map_snoc (xs : List Int) (v : Int) : List.map V.int xs ++ [V.int v] = List.map V.int (xs ++ [v]) := by rw [List.map_append]; rfl
theorem map_setV (l : List Int) (i : Nat) (v : Int) : (List.map V.int l).set i (.int v) = List.map V.int (l.set i v) := by rw [List.map_set]
/-- all but one object stand as they stood -/
def But (a : Addr) (H H' : Hp) : Prop := ∀ b o, b ≠ a → H b = some o → H' b = some o
theorem But.refl (a : Addr) (H : Hp) : But a H H := fun _ _ _ h => h
theorem But.ofSame {a : Addr} {H H' : Hp} (s : Same H H') : But a H H' := fun b o _ h => s b o h
theorem But.trans {a : Addr} {H H1 H2 : Hp} (x : But a H H1) (y : But a H1 H2) : But a H H2 := fun b o n h => y b o n (x b o n h)
theorem But.put {a : Addr} {H H' : Hp} {o : HO} (x : But a H H') : But a H (upd H' a o) := fun b o' n h => by rw [upd_ne n]; exact x b o' n h
theorem But.same {a : Addr} {H H1 H' : Hp} (s : Same H H1) (x : But a H1 H') (h : H a = none) : Same H H' := fun b o e => x b o (ne_of_none e h) (s b o e)
/-- the cell k of the script -/
def cellA (ns : List Int) (k : Nat) : Int := ns.getD k 0
def absI (c : Int) : Int := if c < 0 then -c else c
theorem absI_eq (c : Int) : (if c < 0 then -c else c) = absI c := rfl
theorem absI_nn (c : Int) : 0 ≤ absI c := by
  unfold absI
  split <;> omega

theorem iteP {p : Prop} {i : Decidable p} {a b : Prop} (x : p → a) (y : ¬ p → b) : @ite _ p i a b := by
  by_cases h : p
  · rw [if_pos h]; exact x h
  · rw [if_neg h]; exact y h

section
variable {X : Cx}
/-- == of two grids: a tuple of two ints and a list of ints -/
theorem gr_dp {K : PySem.W.Frag} {H : Hp} {q : Addr} {i j : Int} {ns : List Int} (hq : H q = some (.lst (List.map V.int ns))) : DpAll K H [.int i, .int j, .ref q] [.int i, .int j, .list (ns.map PyData.int)] := .cons (.int i) (.cons (.int j) (.cons (.lst (.inl (.inl hq)) (ints_dp ns)) .nil))
theorem gr_shaped (i j : Int) (ns : List Int) : SeqAt.shaped (.tuple [.int i, .int j, .list (ns.map PyData.int)]) = true := by
  unfold SeqAt.shaped
  simp only [PyData.canLay0, PyData.canLayAll0, ints_lay, PyData.depth, PyData.depthAll, ints_depth]
  rfl
theorem gr_eqv (i j k l : Int) (ns ms : List Int) : PyData.eqv (.tuple [.int i, .int j, .list (ns.map PyData.int)]) (.tuple [.int k, .int l, .list (ms.map PyData.int)]) = (decide (i = k) && (decide (j = l) && decide (ns = ms))) := by
  rw [PyData.eqv, eqvAll_cons, eqvAll_cons, eqvAll_cons, eqvAll_nil, eqv_ii, eqv_ii, PyData.eqv, ints_eqv, Bool.and_true]
def rEqG : R2 := fun x y H Q => ∃ a b q r i j k l ns ms, x = .ref a ∧ y = .ref b ∧ H a = some (.tup [.int i, .int j, .ref q]) ∧ H b = some (.tup [.int k, .int l, .ref r]) ∧ H q = some (.lst (List.map V.int ns)) ∧ H r = some (.lst (List.map V.int ms)) ∧ Q (.bl (decide (i = k) && (decide (j = l) && decide (ns = ms)))) H
theorem op_eqG (hu : X.A.units + 64 < cLine) : OpR X (compareOp .Eq) rEqG := OpR.of (op_eqD hu) (by
  rintro x y H Q ⟨a, b, q, r, i, j, k, l, ns, ms, rfl, rfl, ha, hb, hq, hr, z⟩
  refine ⟨_, _, .tup (.inl (.inl ha)) (gr_dp hq), .tup (.inl (.inl hb)) (gr_dp hr), gr_shaped i j ns, gr_shaped k l ms, ?_⟩
  rw [gr_eqv]
  exact z)
def rNeG : R2 := fun x y H Q => ∃ a b q r i j k l ns ms, x = .ref a ∧ y = .ref b ∧ H a = some (.tup [.int i, .int j, .ref q]) ∧ H b = some (.tup [.int k, .int l, .ref r]) ∧ H q = some (.lst (List.map V.int ns)) ∧ H r = some (.lst (List.map V.int ms)) ∧ Q (.bl (!(decide (i = k) && (decide (j = l) && decide (ns = ms))))) H
theorem op_neG (hu : X.A.units + 64 < cLine) : OpR X (compareOp .NotEq) rNeG := OpR.of (op_neD hu) (by
  rintro x y H Q ⟨a, b, q, r, i, j, k, l, ns, ms, rfl, rfl, ha, hb, hq, hr, z⟩
  refine ⟨_, _, .tup (.inl (.inl ha)) (gr_dp hq), .tup (.inl (.inl hb)) (gr_dp hr), gr_shaped i j ns, gr_shaped k l ms, ?_⟩
  rw [gr_eqv]
  exact z)
end

def topS (i : Nat) : Stmt := PySem.Challenge.pw_stillroom_k38_pictures_at_places.main.body.getD i (.Pass ⟨0, 0, 0, 0⟩)
abbrev s_bounded : Stmt := topS 2
abbrev s_middle : Stmt := topS 5
abbrev s__within : Stmt := topS 7
abbrev s_place : Stmt := topS 8
abbrev s__law_cell : Stmt := topS 10
abbrev s__law_is_integer : Stmt := topS 11
abbrev s__law_colour : Stmt := topS 12
abbrev s__law_grid : Stmt := topS 13
abbrev s__law_is_grid : Stmt := topS 14
abbrev s__law_bounded : Stmt := topS 15
abbrev s__law_box : Stmt := topS 16
abbrev s__law_due : Stmt := topS 17
abbrev s_law : Stmt := topS 18
theorem sc_bounded : FnScope ["number"] ["number"] (defScope s_bounded) := ⟨rfl, rfl, rfl, by decide +kernel, rfl, by decide +kernel, by decide +kernel⟩
theorem sc_middle : FnScope ["at"] ["at"] (defScope s_middle) := ⟨rfl, rfl, rfl, by decide +kernel, rfl, by decide +kernel, by decide +kernel⟩
theorem sc__within : FnScope ["begin", "end", "count", "at"] ["begin", "end", "count"] (defScope s__within) := ⟨rfl, rfl, rfl, by decide +kernel, rfl, by decide +kernel, by decide +kernel⟩
theorem sc_place : FnScope ["grid", "clip", "picture", "box", "width", "height", "cells", "across", "down", "source", "x0", "y0", "x1", "y1", "number", "columns", "painted", "row", "begin", "column", "cell"] ["grid", "clip", "picture", "box"] (defScope s_place) := ⟨rfl, rfl, rfl, by decide +kernel, rfl, by decide +kernel, by decide +kernel⟩
theorem sc__law_cell : FnScope ["script", "k"] ["script", "k"] (defScope s__law_cell) := ⟨rfl, rfl, rfl, by decide +kernel, rfl, by decide +kernel, by decide +kernel⟩
theorem sc__law_is_integer : FnScope ["actual"] ["actual"] (defScope s__law_is_integer) := ⟨rfl, rfl, rfl, by decide +kernel, rfl, by decide +kernel, by decide +kernel⟩
theorem sc__law_colour : FnScope ["cell"] ["cell"] (defScope s__law_colour) := ⟨rfl, rfl, rfl, by decide +kernel, rfl, by decide +kernel, by decide +kernel⟩
theorem sc__law_grid : FnScope ["cell", "nones", "width", "height", "cells", "k", "number"] ["cell", "nones"] (defScope s__law_grid) := ⟨rfl, rfl, rfl, by decide +kernel, rfl, by decide +kernel, by decide +kernel⟩
theorem sc__law_is_grid : FnScope ["actual", "width", "height", "cells", "cell"] ["actual", "width", "height", "cells"] (defScope s__law_is_grid) := ⟨rfl, rfl, rfl, by decide +kernel, rfl, by decide +kernel, by decide +kernel⟩
theorem sc__law_bounded : FnScope ["number"] ["number"] (defScope s__law_bounded) := ⟨rfl, rfl, rfl, by decide +kernel, rfl, by decide +kernel, by decide +kernel⟩
theorem sc__law_box : FnScope ["cell", "width", "height", "which", "left", "x0", "y0"] ["cell", "width", "height"] (defScope s__law_box) := ⟨rfl, rfl, rfl, by decide +kernel, rfl, by decide +kernel, by decide +kernel⟩
theorem sc__law_due : FnScope ["grid", "clip", "picture", "box", "width", "height", "cells", "near", "number", "shown", "y", "x", "across", "down", "inside", "column", "row"] ["grid", "clip", "picture", "box"] (defScope s__law_due) := ⟨rfl, rfl, rfl, by decide +kernel, rfl, by decide +kernel, by decide +kernel⟩
theorem sc_law : FnScope ["script", "grid", "picture", "width", "height", "cells", "clip", "box", "given", "shown", "found"] ["script"] (defScope s_law) := ⟨rfl, rfl, rfl, by decide +kernel, rfl, by decide +kernel, by decide +kernel⟩
/-- what the top has left, as far as the walk asks of it -/
structure Txt (K : PySem.W.Frag) (mg : Str → Option Value) where
  f_bounded : Addr
  fd_bounded : FuncData
  F_bounded : Fun K "bounded" "bounded" s_bounded f_bounded fd_bounded
  b_bounded : Binds K fd_bounded ["number"] []
  g_bounded : mg "bounded" = some (.ref f_bounded)
  f_middle : Addr
  fd_middle : FuncData
  F_middle : Fun K "middle" "middle" s_middle f_middle fd_middle
  b_middle : Binds K fd_middle ["at"] []
  g_middle : mg "middle" = some (.ref f_middle)
  f__within : Addr
  fd__within : FuncData
  F__within : Fun K "_within" "_within" s__within f__within fd__within
  b__within : Binds K fd__within ["begin", "end", "count"] []
  g__within : mg "_within" = some (.ref f__within)
  f_place : Addr
  fd_place : FuncData
  F_place : Fun K "place" "place" s_place f_place fd_place
  b_place : Binds K fd_place ["grid", "clip", "picture", "box"] []
  g_place : mg "place" = some (.ref f_place)
  f__law_cell : Addr
  fd__law_cell : FuncData
  F__law_cell : Fun K "_law_cell" "_law_cell" s__law_cell f__law_cell fd__law_cell
  b__law_cell : Binds K fd__law_cell ["script", "k"] []
  g__law_cell : mg "_law_cell" = some (.ref f__law_cell)
  f__law_is_integer : Addr
  fd__law_is_integer : FuncData
  F__law_is_integer : Fun K "_law_is_integer" "_law_is_integer" s__law_is_integer f__law_is_integer fd__law_is_integer
  b__law_is_integer : Binds K fd__law_is_integer ["actual"] []
  g__law_is_integer : mg "_law_is_integer" = some (.ref f__law_is_integer)
  f__law_colour : Addr
  fd__law_colour : FuncData
  F__law_colour : Fun K "_law_colour" "_law_colour" s__law_colour f__law_colour fd__law_colour
  b__law_colour : Binds K fd__law_colour ["cell"] []
  g__law_colour : mg "_law_colour" = some (.ref f__law_colour)
  f__law_grid : Addr
  fd__law_grid : FuncData
  F__law_grid : Fun K "_law_grid" "_law_grid" s__law_grid f__law_grid fd__law_grid
  b__law_grid : Binds K fd__law_grid ["cell", "nones"] []
  g__law_grid : mg "_law_grid" = some (.ref f__law_grid)
  f__law_is_grid : Addr
  fd__law_is_grid : FuncData
  F__law_is_grid : Fun K "_law_is_grid" "_law_is_grid" s__law_is_grid f__law_is_grid fd__law_is_grid
  b__law_is_grid : Binds K fd__law_is_grid ["actual", "width", "height", "cells"] []
  g__law_is_grid : mg "_law_is_grid" = some (.ref f__law_is_grid)
  f__law_bounded : Addr
  fd__law_bounded : FuncData
  F__law_bounded : Fun K "_law_bounded" "_law_bounded" s__law_bounded f__law_bounded fd__law_bounded
  b__law_bounded : Binds K fd__law_bounded ["number"] []
  g__law_bounded : mg "_law_bounded" = some (.ref f__law_bounded)
  f__law_box : Addr
  fd__law_box : FuncData
  F__law_box : Fun K "_law_box" "_law_box" s__law_box f__law_box fd__law_box
  b__law_box : Binds K fd__law_box ["cell", "width", "height"] []
  g__law_box : mg "_law_box" = some (.ref f__law_box)
  f__law_due : Addr
  fd__law_due : FuncData
  F__law_due : Fun K "_law_due" "_law_due" s__law_due f__law_due fd__law_due
  b__law_due : Binds K fd__law_due ["grid", "clip", "picture", "box"] []
  g__law_due : mg "_law_due" = some (.ref f__law_due)
  f_law : Addr
  fd_law : FuncData
  F_law : Fun K "law" "law" s_law f_law fd_law
  b_law : Binds K fd_law ["script"] []
  g_law : mg "law" = some (.ref f_law)
  t__FARTHEST : Tok
  c__FARTHEST : mg "_FARTHEST" = some (.int 1048576 t__FARTHEST)
  t_NO_COLOUR : Tok
  c_NO_COLOUR : mg "NO_COLOUR" = some (.int (-1) t_NO_COLOUR)
  z_abs : mg "abs" = none
  z_bool : mg "bool" = none
  z_int : mg "int" = none
  z_isinstance : mg "isinstance" = none
  z_len : mg "len" = none
  z_list : mg "list" = none
  z_max : mg "max" = none
  z_min : mg "min" = none
  z_range : mg "range" = none
  z_tuple : mg "tuple" = none
open Lean in
local macro_rules
  | `(tactic| walk_at $s:str) => do
    let ws := (s.getString.splitOn " ").filter (· ≠ "")
    let ids (fs : List String) : Array (TSyntax `term) := (fs.map fun f => (⟨mkIdent f.toName⟩ : TSyntax `term)).toArray
    match ws with
    | "vc" :: fs => do
      let xs := ids fs
      `(tactic| simp (config := {maxSteps := 2000000}) only [tSeq, tAsg, tOp, rI, rI0, rU, tUn, tCB, tCons, tNil, tVar, tC, gName, gSub, rSetL, tRet, tRetN, tIfS, tNext, tTest, tB, tDrop, tIf, tNot, tAnd, tOr, tAndV, tOrV, tNotV, tAug, ipI, tCall, tCmp, t2I, tBreak, tCont, tLst, tTup, tBM, tBM0, rAppend, tyV_upd, rLenH, rLenT, rListH, rIxH, rIxTH, rIxS, rEqIL, rNeIL, rEqTS, rSlH, rRep, rCat, rExtend, tSl, tPart, tNoPart, rIxT, gTup, gCons, gNil, atI_c0, atI_c1, atI_c2, atI_c3, dS_int, dS_bl, isS_int, isS_bl, eqv_ii, eqv_bb, eqvAll_nil, eqvAll_cons, List.all_cons, List.all_nil, Bool.and_true, Bool.true_and, rIsiB, tnm_int, tnm_bl, tnm_str, tnm_non, tnm_ref, kb1, kb2, kb3, kb4, kb5, kb6, kb7, kb8, kb9, kb10, rEq, rNe, scal_ii, scal_ss, scal_bb, scal_nn, scal_in, scal_ni, tFor_eq, tLc_eq, iRng1, iRng2, iList, iTup, iZip, iStr, iRng3, tChain, tYes, wipe, tCallL, Int.sub_zero, Int.toNat_natCast, Int.natCast_add, cxOf, L2.start, List.map_cons, List.map_nil, List.length_cons, List.length_nil, List.reduceReplicate, List.cons_append, List.nil_append, List.append_nil, List.set_cons_zero, List.set_cons_succ, List.getElem?_cons_zero, List.getElem?_cons_succ, upd_same, upd_upd, HO.lst.injEq, HO.tup.injEq, nil_sz, Option.some.injEq, V.int.injEq, V.bl.injEq, V.ref.injEq, V.str.injEq, V.ty.injEq, exists_eq_left', exists_eq_left, exists_eq', exists_eq, Int.cast_ofNat_Int, Int.reduceEq, Int.reduceMul, Int.reduceAdd, Int.reduceSub, Int.natCast_zero, Int.mul_zero, Int.add_zero, exists_and_left, exists_and_right, List.cons.injEq, and_true, true_and, and_assoc, reduceCtorEq, false_and, and_false, exists_false, exists_const, or_false, false_or, Nat.reduceAdd, Nat.reduceSub, Int.reduceLT, Int.reduceLE, Int.reduceNeg, Int.reducePow, Int.reduceToNat, ite_true, ite_false, Bool.false_eq_true, Bool.not_true, Bool.not_false, decide_true, decide_false, if_true, if_false, tTupS, tLstS, rListS, rListT, rTupleL, rCatL, rRepS, rSlS, map_int_inj, sz1, sz2, sz3, sz4, sz5, sz6, sz8, CMul, Nat.reduceLT, Nat.reduceLeDiff, Nat.reducePow, or_true, true_or, List.length_map, List.length_append, List.length_replicate, decide_eq_true_eq, gt_iff_lt, ge_iff_le, Int.reduceGT, Int.reduceGE, ne_eq, not_true_eq_false, not_false_eq_true, Int.reduceToNat, gTupS, gLstS, iListS, iTupS, tML, tML0, rPop, mx_eq, mn_eq, Int.natCast_inj, bitAnd_m1, bitAnd_m2, bitAnd_m3, bitAnd_m4, bitAnd_m5, bitAnd_m6, bitAnd_m7, bitAnd_m8, bitAnd_m16, CDiv, toNat_mul, map_snoc, map_cat, map_setV, List.length_set, absI_eq, Bool.and_self, eq_self, $[$xs:term],*])
    | "w" :: fs => do
      let xs := ids fs
      let ys := (fs.map fun f => (⟨mkIdent f.toName⟩ : TSyntax `term)).toArray
      `(tactic| simp (config := {maxSteps := 2000000}) only [tSeq, tAsg, tOp, rI, rI0, rU, tUn, tCB, tCons, tNil, tVar, tC, gName, gSub, rSetL, tRet, tRetN, tIfS, tNext, tTest, tB, tDrop, tIf, tNot, tAnd, tOr, tAndV, tOrV, tNotV, tAug, ipI, tCall, tCmp, t2I, tBreak, tCont, tLst, tTup, tBM, tBM0, rAppend, tyV_upd, rLenH, rLenT, rListH, rIxH, rIxTH, rIxS, rEqIL, rNeIL, rEqTS, rSlH, rRep, rCat, rExtend, tSl, tPart, tNoPart, rIxT, gTup, gCons, gNil, atI_c0, atI_c1, atI_c2, atI_c3, dS_int, dS_bl, isS_int, isS_bl, eqv_ii, eqv_bb, eqvAll_nil, eqvAll_cons, List.all_cons, List.all_nil, Bool.and_true, Bool.true_and, rIsiB, tnm_int, tnm_bl, tnm_str, tnm_non, tnm_ref, kb1, kb2, kb3, kb4, kb5, kb6, kb7, kb8, kb9, kb10, rEq, rNe, scal_ii, scal_ss, scal_bb, scal_nn, scal_in, scal_ni, tFor_eq, tLc_eq, iRng1, iRng2, iList, iTup, iZip, iStr, iRng3, tChain, tYes, wipe, tCallL, Int.sub_zero, Int.toNat_natCast, Int.natCast_add, cxOf, L2.start, List.map_cons, List.map_nil, List.length_cons, List.length_nil, List.reduceReplicate, List.cons_append, List.nil_append, List.append_nil, List.set_cons_zero, List.set_cons_succ, List.getElem?_cons_zero, List.getElem?_cons_succ, upd_same, upd_upd, HO.lst.injEq, HO.tup.injEq, nil_sz, Option.some.injEq, V.int.injEq, V.bl.injEq, V.ref.injEq, V.str.injEq, V.ty.injEq, exists_eq_left', exists_eq_left, exists_eq', exists_eq, Int.cast_ofNat_Int, Int.reduceEq, Int.reduceMul, Int.reduceAdd, Int.reduceSub, Int.natCast_zero, Int.mul_zero, Int.add_zero, exists_and_left, exists_and_right, List.cons.injEq, and_true, true_and, and_assoc, reduceCtorEq, false_and, and_false, exists_false, exists_const, or_false, false_or, Nat.reduceAdd, Nat.reduceSub, Int.reduceLT, Int.reduceLE, Int.reduceNeg, Int.reducePow, Int.reduceToNat, ite_true, ite_false, Bool.false_eq_true, Bool.not_true, Bool.not_false, decide_true, decide_false, if_true, if_false, tTupS, tLstS, rListS, rListT, rTupleL, rCatL, rRepS, rSlS, map_int_inj, sz1, sz2, sz3, sz4, sz5, sz6, sz8, CMul, Nat.reduceLT, Nat.reduceLeDiff, Nat.reducePow, or_true, true_or, List.length_map, List.length_append, List.length_replicate, decide_eq_true_eq, gt_iff_lt, ge_iff_le, Int.reduceGT, Int.reduceGE, ne_eq, not_true_eq_false, not_false_eq_true, Int.reduceToNat, gTupS, gLstS, iListS, iTupS, tML, tML0, rPop, mx_eq, mn_eq, Int.natCast_inj, bitAnd_m1, bitAnd_m2, bitAnd_m3, bitAnd_m4, bitAnd_m5, bitAnd_m6, bitAnd_m7, bitAnd_m8, bitAnd_m16, CDiv, toNat_mul, map_snoc, map_cat, map_setV, List.length_set, absI_eq, Bool.and_self, eq_self, $[$xs:term],*, $[(tyL_eq $ys)],*, $[(sqL_eq $ys)],*])
    | "c" :: sn :: gs => do
      let s1 := mkIdent sn.toName
      let mut out ← `(tactic| skip)
      for g in gs do
        let i := mkIdent g.toName
        out ← `(tactic| ($out; replace $i := $s1 _ _ $i))
      return out
    | "n" :: sn :: suf :: gs => do
      let s1 := mkIdent sn.toName
      let mut out ← `(tactic| skip)
      for g in gs do
        let i := mkIdent g.toName
        let j := mkIdent (g ++ suf).toName
        out ← `(tactic| ($out; have $j := $s1 _ _ $i))
      return out
    | "b" :: bn :: suf :: gs => do
      let s1 := mkIdent bn.toName
      let mut out ← `(tactic| skip)
      for g in gs do
        let i := mkIdent g.toName
        let j := mkIdent (g ++ suf).toName
        let n := mkIdent ("ne_" ++ g).toName
        out ← `(tactic| ($out; have $j := $s1 _ _ $n $i))
      return out
    | _ => Macro.throwUnsupported

section
variable {P : Program} {w : World} {K : PySem.W.Frag} {mg : Str → Option Value} {base : Heap}

theorem foldl_take {α β : Type} (f : β → α → β) (s : β) {l : List α} {i : Nat} {x : α} (h : l[i]? = some x) : (l.take (i + 1)).foldl f s = f ((l.take i).foldl f s) x := by
  rw [List.take_add_one, h, List.foldl_append]
  simp only [Option.toList_some, List.foldl_cons, List.foldl_nil]
theorem take_succ {α : Type} {l : List α} {i : Nat} {x : α} (h : l[i]? = some x) : l.take (i + 1) = l.take i ++ [x] := by
  rw [List.take_add_one, h]
  rfl
theorem take_map_succ {α β : Type} (f : α → β) {l : List α} {i : Nat} {x : α} (h : l[i]? = some x) : (l.map f).take (i + 1) = (l.map f).take i ++ [f x] := take_succ (by rw [List.getElem?_map, h]; rfl)
theorem take_lt {α : Type} (l : List α) (i : Nat) {n : Nat} (h : l.length < n) : (l.take i).length < n := Nat.lt_of_le_of_lt (by rw [List.length_take]; exact Nat.min_le_right _ _) h
def YTup (ns : List Int) : Nat → Hp → V → Hp → Prop := fun i H v H' => H' = H ∧ ∃ b, ns[i]? = some b ∧ v = .int b
theorem walkTI {K : PySem.W.Frag} {a : Addr} {ns : List Int} : Walk (Itt K a) ns.length (fun H => H a = some (.tup (List.map V.int ns))) (YTup ns) := by
  have w := walkT (K := K) (a := a) (xs := List.map V.int ns)
  rw [List.length_map] at w
  refine w.mono (fun _ h => h) fun i H x H' _ _ y => ⟨y.1, ?_⟩
  have h := y.2
  rw [List.getElem?_map] at h
  obtain ⟨b, h1, rfl⟩ := Option.map_eq_some_iff.mp h
  exact ⟨b, h1, rfl⟩
theorem foldl_len {α : Type} {f : List Int → α → List Int} (h : ∀ p c, (f p c).length = p.length) : ∀ (l : List α) (p : List Int), (l.foldl f p).length = p.length
  | [], _ => rfl
  | c :: r, p => by rw [List.foldl_cons, foldl_len h r, h]
theorem ix_in {r c w h : Nat} (hr : r < h) (hc : c < w) : r * w + c < w * h := by
  have h1 : r * w + w ≤ h * w := by rw [← Nat.succ_mul]; exact Nat.mul_le_mul_right w hr
  rw [Nat.mul_comm w h]
  omega
theorem map_set (l : List Int) (i : Nat) (v : Int) : (List.map V.int l).set i (.int v) = List.map V.int (l.set i v) := by rw [List.map_set]
theorem div_in {a d : Int} {n : Nat} (h0 : 0 ≤ a) (h1 : a < d) (hn : 1 ≤ n) : 0 ≤ a * n / d ∧ a * n / d < n := by
  refine ⟨Int.ediv_nonneg (Int.mul_nonneg h0 (by omega)) (by omega), Int.ediv_lt_of_lt_mul (by omega) ?_⟩
  rw [Int.mul_comm (n : Int) d]
  exact Int.mul_lt_mul_of_pos_right h1 (by omega)
theorem foldl_ext' {α β : Type} {f g : α → β → α} {l : List β} : ∀ {a : α}, (∀ a, ∀ b ∈ l, f a b = g a b) → l.foldl f a = l.foldl g a := by
  induction l with
  | nil => exact fun _ => rfl
  | cons x r ih => exact fun {a} h => by rw [List.foldl_cons, List.foldl_cons, h a x List.mem_cons_self]; exact ih fun a b hb => h a b (List.mem_cons_of_mem _ hb)

/-! ### bounds, middles, the middles within -/
theorem Qi {Q : VK} {H : Hp} {a b : Int} (e : a = b) (q : Q (.int a) H) : Q (.int b) H := e ▸ q
def bd (x : Int) : Int := if x < -1048576 then -1048576 else if 1048576 < x then 1048576 else x
theorem bd_in (x : Int) : -1048576 ≤ bd x ∧ bd x ≤ 1048576 := by
  unfold bd
  repeat' split
  all_goals omega
def sp_bounded (K : PySem.W.Frag) : Sp := fun vs H Q _ => ∃ (x : Int), vs = [.int x] ∧ (Q (.int (bd x)) H)
theorem ok_bounded (T : Txt K mg) : FnOk P w K mg base CX0 1 T.f_bounded T.fd_bounded ["number"] (sp_bounded K) := by
  refine T.F_bounded.ok sc_bounded (fun vs H Q E h => ?_) (fun cdv A outer s H vs Q E hr h => ?_)
  · obtain ⟨x, rfl, _⟩ := h
    rfl
  · obtain ⟨x, rfl, q⟩ := h
    refine ⟨_, (pss_one (ps_ret (pe_callB (call_min2 rfl) (by rfl) T.z_min (by decide +kernel) (pa_cons (pe_callB (call_max2 rfl) (by rfl) T.z_max (by decide +kernel) (pa_cons (pv 0) (pa_cons (pe_un un_neg (pe_glob (v := .int 1048576) (by rfl) T.c__FARTHEST ⟨_, rfl⟩)) pa_nil))) (pa_cons (pe_glob (v := .int 1048576) (by rfl) T.c__FARTHEST ⟨_, rfl⟩) pa_nil))))), ?_⟩
    walk_at "vc"
    refine Qi ?_ q
    unfold bd mn mx
    repeat' split
    all_goals omega
def sp_middle (K : PySem.W.Frag) : Sp := fun vs H Q _ => ∃ (x : Int), vs = [.int x] ∧ (Q (.int (4 * x + 2)) H)
theorem ok_middle (T : Txt K mg) : FnOk P w K mg base CX0 1 T.f_middle T.fd_middle ["at"] (sp_middle K) := by
  refine T.F_middle.ok sc_middle (fun vs H Q E h => ?_) (fun cdv A outer s H vs Q E hr h => ?_)
  · obtain ⟨x, rfl, _⟩ := h
    rfl
  · obtain ⟨x, rfl, q⟩ := h
    refine ⟨_, (pss_one (ps_ret (pe_op op_add (pe_op op_mul pe_int (pv 0)) pe_int))), ?_⟩
    walk_at "vc"
    exact q
def natV (l : List Nat) : List V := l.map fun (n : Nat) => V.int (n : Int)
def YNat (l : List Nat) : Nat → Hp → V → Hp → Prop := fun i H v H' => H' = H ∧ ∃ b, l[i]? = some b ∧ v = .int (b : Int)
theorem walkN {K : PySem.W.Frag} {a : Addr} {l : List Nat} : Walk (Itl K a) l.length (fun H => H a = some (.lst (natV l))) (YNat l) := by
  have w := walkL (K := K) (a := a) (xs := natV l)
  unfold natV at w ⊢
  rw [List.length_map] at w
  refine w.mono (fun _ h => h) fun i H x H' _ _ y => ⟨y.1, ?_⟩
  have h := y.2
  rw [List.getElem?_map] at h
  obtain ⟨b, h1, rfl⟩ := Option.map_eq_some_iff.mp h
  exact ⟨b, h1, rfl⟩
def inW (b e : Int) (i : Nat) : Prop := b ≤ 4 * (i : Int) + 2 ∧ 4 * (i : Int) + 2 < e
instance (b e : Int) (i : Nat) : Decidable (inW b e i) := inferInstanceAs (Decidable (_ ∧ _))
def wi (b e : Int) (n : Nat) : List Nat := (List.range n).filter fun i => decide (inW b e i)
theorem wi_succ (b e : Int) (i : Nat) : wi b e (i + 1) = wi b e i ++ if inW b e i then [i] else [] := by
  unfold wi
  rw [List.range_succ, List.filter_append]
  congr 1
  by_cases h : inW b e i <;> simp [h]
theorem wi_len (b e : Int) (n : Nat) : (wi b e n).length ≤ n := Nat.le_trans (List.length_filter_le _ _) (by rw [List.length_range]; exact Nat.le_refl _)
theorem wi_at {b e : Int} {n i k : Nat} (h : (wi b e n)[i]? = some k) : k < n ∧ inW b e k := by
  have := List.mem_filter.mp (List.mem_of_getElem? h)
  exact ⟨List.mem_range.mp this.1, of_decide_eq_true this.2⟩
def sp__within (K : PySem.W.Frag) : Sp := fun vs H Q _ => ∃ (b e : Int) (n : Nat), vs = [.int b, .int e, .int (n : Int)] ∧ (n ≤ 1000) ∧ (∀ H' p, Same H H' → H p = none → H' p = some (.lst (natV (wi b e n))) → Q (.ref p) H')
theorem ok__within (T : Txt K mg) : FnOk P w K mg base CX0 2 T.f__within T.fd__within ["begin", "end", "count"] (sp__within K) := by
  refine T.F__within.ok sc__within (fun vs H Q E h => ?_) (fun cdv A outer s H vs Q E hr h => ?_)
  · obtain ⟨b, e, n, rfl, _⟩ := h
    rfl
  · obtain ⟨b, e, n, rfl, hn, q⟩ := h
    refine ⟨_, (pss_one (ps_ret (pe_lc (own := [("at", 3)]) (g := (gName 3)) rfl sc__within.nd (pi_range1 (by rfl) T.z_range (pa_cons (pv 2) pa_nil)) (blkOk_by (own := [("at", 3)]) (N := ["begin", "end", "count", "at"]) (sc := defScope s__within) (by decide +kernel)) (fun _ _ _ _ _ => (pg_name (i := 3) sc__within.nd rfl (Or.inl rfl))) (fun _ _ _ _ _ => (pts_one (pt_chain op_le op_lt (pv 0) (pe_call (ok_middle T) hr (by rfl) T.g_middle T.F_middle.kp T.b_middle .nil pass0 (pa_cons (pv 3) pa_nil)) (pv 1)))) (fun _ _ _ _ _ => (pv 3))))), ?_⟩
    walk_at "vc"
    refine ⟨by omega, by omega, lcL walkR (L := fun i => natV (wi b e i)) rfl (fun _ _ => True.intro) (fun D i x H1 H2 hi hD s1 g1 y => ?_) (fun D H1 s1 hD g1 => q _ D s1 hD g1)⟩
    obtain ⟨rfl, rfl⟩ := y
    have hsz : (wi b e i).length < sizeLine := Nat.lt_of_le_of_lt (wi_len b e i) (Nat.lt_of_lt_of_le (show i < 1000 by omega) (by decide))
    have e1 : natV (wi b e (i + 1)) = natV (wi b e i) ++ if inW b e i then [V.int (i : Int)] else [] := by
      rw [wi_succ]
      unfold natV
      rw [List.map_append]
      congr 1
      split <;> rfl
    have hlen : (natV (wi b e i)).length < sizeLine := by unfold natV; rw [List.length_map]; exact hsz
    rw [e1]
    walk_at "vc sp_middle g1"
    refine iteP (fun h1 => iteP (fun h2 => ?_) (fun h2 => ?_)) (fun h1 => ?_)
    · rw [if_pos (show inW b e i from ⟨h1, h2⟩)]
      exact ⟨hlen, same_upd2 s1 hD, rfl⟩
    · rw [if_neg (fun z : inW b e i => h2 z.2), List.append_nil]
      exact ⟨s1, rfl⟩
    · rw [if_neg (fun z : inW b e i => h1 z.1), List.append_nil]
      exact ⟨s1, rfl⟩

/-! ### a picture at a place -/
def sidx (x0 y0 x1 y1 : Int) (aw ah r c : Nat) : Int := (4 * (r : Int) + 2 - y0) * ah / (y1 - y0) * aw + (4 * (c : Int) + 2 - x0) * aw / (x1 - x0)
def pcell (x0 y0 x1 y1 : Int) (aw ah : Nat) (src : List Int) (w r : Nat) (p : List Int) (c : Nat) : List Int :=
  if gN src (sidx x0 y0 x1 y1 aw ah r c).toNat = -1 then p else p.set (r * w + c) (gN src (sidx x0 y0 x1 y1 aw ah r c).toNat)
def prow (x0 y0 x1 y1 : Int) (aw ah : Nat) (src : List Int) (w : Nat) (cols : List Nat) (p : List Int) (r : Nat) : List Int := cols.foldl (pcell x0 y0 x1 y1 aw ah src w r) p
def plc (x0 y0 x1 y1 c0 c1 c2 c3 : Int) (aw ah : Nat) (src : List Int) (w h : Nat) (cs : List Int) : List Int :=
  (wi (mx y0 c1) (mn y1 c3) h).foldl (prow x0 y0 x1 y1 aw ah src w (wi (mx x0 c0) (mn x1 c2) w)) cs
def Grid (H : Hp) (a c : Addr) (w h : Nat) (cs : List Int) : Prop := H a = some (.tup [.int (w : Int), .int (h : Int), .ref c]) ∧ H c = some (.lst (List.map V.int cs))
theorem sidx_in {x0 y0 x1 y1 : Int} {aw ah r c : Nat} (hy : y0 ≤ 4 * (r : Int) + 2 ∧ 4 * (r : Int) + 2 < y1) (hx : x0 ≤ 4 * (c : Int) + 2 ∧ 4 * (c : Int) + 2 < x1) (h1 : 1 ≤ aw) (h2 : 1 ≤ ah) :
    0 ≤ sidx x0 y0 x1 y1 aw ah r c ∧ sidx x0 y0 x1 y1 aw ah r c < ((aw * ah : Nat) : Int) := by
  have a := div_in (a := 4 * (r : Int) + 2 - y0) (d := y1 - y0) (n := ah) (by omega) (by omega) h2
  have b := div_in (a := 4 * (c : Int) + 2 - x0) (d := x1 - x0) (n := aw) (by omega) (by omega) h1
  unfold sidx
  generalize (4 * (r : Int) + 2 - y0) * ah / (y1 - y0) = R at a
  generalize (4 * (c : Int) + 2 - x0) * aw / (x1 - x0) = C at b
  obtain ⟨R', rfl⟩ := Int.eq_ofNat_of_zero_le a.1
  obtain ⟨C', rfl⟩ := Int.eq_ofNat_of_zero_le b.1
  have := ix_in (r := R') (c := C') (w := aw) (h := ah) (by omega) (by omega)
  refine ⟨by have := Int.mul_nonneg a.1 (show (0 : Int) ≤ aw by omega); omega, ?_⟩
  exact_mod_cast this
theorem pcell_len {x0 y0 x1 y1 : Int} {aw ah : Nat} {src : List Int} {w r : Nat} (p : List Int) (c : Nat) : (pcell x0 y0 x1 y1 aw ah src w r p c).length = p.length := by
  unfold pcell
  split
  · rfl
  · rw [List.length_set]
theorem prow_len {x0 y0 x1 y1 : Int} {aw ah : Nat} {src : List Int} {w : Nat} {cols : List Nat} (p : List Int) (r : Nat) : (prow x0 y0 x1 y1 aw ah src w cols p r).length = p.length := foldl_len pcell_len cols p
def sp_place (K : PySem.W.Frag) : Sp := fun vs H Q _ => ∃ (aG aC aK aP aS aB : Addr) (w h aw ah : Nat) (cs src : List Int) (c0 c1 c2 c3 b0 b1 b2 b3 : Int), vs = [.ref aG, .ref aK, .ref aP, .ref aB] ∧ (H aG = some (.tup [.int (w : Int), .int (h : Int), .ref aC])) ∧ (H aC = some (.lst (List.map V.int cs))) ∧ (H aK = some (.tup [.int c0, .int c1, .int c2, .int c3])) ∧ (H aP = some (.tup [.int (aw : Int), .int (ah : Int), .ref aS])) ∧ (H aS = some (.lst (List.map V.int src))) ∧ (H aB = some (.tup (List.map V.int [b0, b1, b2, b3]))) ∧ (cs.length = w * h) ∧ (src.length = aw * ah) ∧ (w ≤ 100) ∧ (h ≤ 100) ∧ (1 ≤ aw ∧ aw ≤ 100) ∧ (1 ≤ ah ∧ ah ≤ 100) ∧ (∀ H' p c, Same H H' → H p = none → H c = none → H' p = some (.tup [.int (w : Int), .int (h : Int), .ref c]) → H' c = some (.lst (List.map V.int (plc (bd b0) (bd b1) (bd b2) (bd b3) c0 c1 c2 c3 aw ah src w h cs))) → Q (.ref p) H')
theorem ok_place (T : Txt K mg) : FnOk P w K mg base CX0 3 T.f_place T.fd_place ["grid", "clip", "picture", "box"] (sp_place K) := by
  refine T.F_place.ok sc_place (fun vs H Q E h => ?_) (fun cdv A outer s H vs Q E hr h => ?_)
  · obtain ⟨aG, aC, aK, aP, aS, aB, w, h, aw, ah, cs, src, c0, c1, c2, c3, b0, b1, b2, b3, rfl, _⟩ := h
    rfl
  · obtain ⟨aG, aC, aK, aP, aS, aB, w, h, aw, ah, cs, src, c0, c1, c2, c3, b0, b1, b2, b3, rfl, hG, hC, hK, hP, hS, hB, hl, hsl, hw, hh, haw, hah, q⟩ := h
    refine ⟨_, (pss_cons (ps_asg (pv 0) (pg_tupS (n := 3) (by rfl) (pgs_cons (pg_name (i := 4) sc_place.nd rfl (Or.inl rfl)) (pgs_cons (pg_name (i := 5) sc_place.nd rfl (Or.inl rfl)) (pgs_cons (pg_name (i := 6) sc_place.nd rfl (Or.inl rfl)) pgs_nil)))))
      (pss_cons (ps_asg (pv 2) (pg_tupS (n := 3) (by rfl) (pgs_cons (pg_name (i := 7) sc_place.nd rfl (Or.inl rfl)) (pgs_cons (pg_name (i := 8) sc_place.nd rfl (Or.inl rfl)) (pgs_cons (pg_name (i := 9) sc_place.nd rfl (Or.inl rfl)) pgs_nil)))))
      (pss_cons (ps_asg (pe_lc (own := [("number", 14)]) (g := (gName 14)) rfl sc_place.nd (pi_tupS (pv 3)) (blkOk_by (own := [("number", 14)]) (N := ["grid", "clip", "picture", "box", "width", "height", "cells", "across", "down", "source", "x0", "y0", "x1", "y1", "number", "columns", "painted", "row", "begin", "column", "cell"]) (sc := defScope s_place) (by decide +kernel)) (fun _ _ _ _ _ => (pg_name (i := 14) sc_place.nd rfl (Or.inl rfl))) (fun _ _ _ _ _ => pts_nil) (fun _ _ _ _ _ => (pe_call (ok_bounded T) (hr.mono (by decide)) (by rfl) T.g_bounded T.F_bounded.kp T.b_bounded .nil pass0 (pa_cons (pv 14) pa_nil)))) (pg_lstS (n := 4) (by rfl) (pgs_cons (pg_name (i := 10) sc_place.nd rfl (Or.inl rfl)) (pgs_cons (pg_name (i := 11) sc_place.nd rfl (Or.inl rfl)) (pgs_cons (pg_name (i := 12) sc_place.nd rfl (Or.inl rfl)) (pgs_cons (pg_name (i := 13) sc_place.nd rfl (Or.inl rfl)) pgs_nil))))))
      (pss_cons (ps_set (i := 15) sc_place.nd rfl (Or.inl rfl) (pe_call (ok__within T) hr (by rfl) T.g__within T.F__within.kp T.b__within .nil pass0 (pa_cons (pe_callB (call_max2 rfl) (by rfl) T.z_max (by decide +kernel) (pa_cons (pv 10) (pa_cons (pe_ix ix_tupH (pv 1) pe_int (fun _ _ => rfl)) pa_nil))) (pa_cons (pe_callB (call_min2 rfl) (by rfl) T.z_min (by decide +kernel) (pa_cons (pv 12) (pa_cons (pe_ix ix_tupH (pv 1) pe_int (fun _ _ => rfl)) pa_nil))) (pa_cons (pv 4) pa_nil)))))
      (pss_cons (ps_set (i := 16) sc_place.nd rfl (Or.inl rfl) (pe_callTy call_listS (by rfl) T.z_list (by decide +kernel) (pa_cons (pv 6) pa_nil)))
      (pss_cons (ps_for PassesOwn.never rfl (pi_listS (pe_call (ok__within T) hr (by rfl) T.g__within T.F__within.kp T.b__within .nil pass0 (pa_cons (pe_callB (call_max2 rfl) (by rfl) T.z_max (by decide +kernel) (pa_cons (pv 11) (pa_cons (pe_ix ix_tupH (pv 1) pe_int (fun _ _ => rfl)) pa_nil))) (pa_cons (pe_callB (call_min2 rfl) (by rfl) T.z_min (by decide +kernel) (pa_cons (pv 13) (pa_cons (pe_ix ix_tupH (pv 1) pe_int (fun _ _ => rfl)) pa_nil))) (pa_cons (pv 5) pa_nil))))) (pg_name (i := 17) sc_place.nd rfl (Or.inl rfl)) (pss_cons (ps_set (i := 18) sc_place.nd rfl (Or.inl rfl) (pe_op op_mul (pe_op op_fdiv (pe_op op_mul (pe_op op_sub (pe_call (ok_middle T) (hr.mono (by decide)) (by rfl) T.g_middle T.F_middle.kp T.b_middle .nil pass0 (pa_cons (pv 17) pa_nil)) (pv 11)) (pv 8)) (pe_op op_sub (pv 13) (pv 11))) (pv 7)))
      (pss_one (ps_for PassesOwn.never rfl (pi_listS (pv 15)) (pg_name (i := 19) sc_place.nd rfl (Or.inl rfl)) (pss_cons (ps_set (i := 20) sc_place.nd rfl (Or.inl rfl) (pe_ix ix_listH (pv 9) (pe_op op_add (pv 18) (pe_op op_fdiv (pe_op op_mul (pe_op op_sub (pe_call (ok_middle T) (hr.mono (by decide)) (by rfl) T.g_middle T.F_middle.kp T.b_middle .nil pass0 (pa_cons (pv 19) pa_nil)) (pv 10)) (pv 7)) (pe_op op_sub (pv 12) (pv 10)))) (fun _ _ => rfl)))
      (pss_one (ps_if (pt_cmpR op_ne (pv 20) (pe_glob (v := .int (-1)) (by rfl) T.c_NO_COLOUR ⟨_, rfl⟩) (nomark _)) (pss_one (ps_asg (pv 20) (pg_sub (pv 16) (pe_op op_add (pe_op op_mul (pv 17) (pv 4)) (pv 19)) set_list))) pss_nil)))))))
      (pss_one (ps_ret (pe_tupS (pa_cons (pv 4) (pa_cons (pv 5) (pa_cons (pv 16) pa_nil)))))))))))), ?_⟩
    walk_at "vc hG hP hB"
    refine lcL walkTI (L := fun i => List.map V.int (([b0, b1, b2, b3].map bd).take i)) rfl (fun _ s => s _ _ hB) (fun D i x H1 H2 hi hD s1 g1 y => ?_) (fun D H1 s1 hD g1 => ?_)
    · obtain ⟨rfl, b, hb, rfl⟩ := y
      rw [take_map_succ bd hb]
      walk_at "vc sp_bounded g1"
      exact ⟨take_lt _ _ (show 4 < sizeLine by decide), same_upd2 s1 hD⟩
    walk_at "c s1 hG hC hK hP hS hB"
    replace g1 : H1 D = some (.lst [.int (bd b0), .int (bd b1), .int (bd b2), .int (bd b3)]) := g1
    walk_at "vc g1 hK hC sp__within"
    refine ⟨by omega, fun H2 p2 s2 n2 g2 => ?_⟩
    walk_at "c s2 hG hC hK hP hS hB g1"
    walk_at "vc hC"
    intro p3 H3 s3 n3 g3
    walk_at "n s3 3 g1 hK"
    walk_at "vc g13 hK3 sp__within"
    refine ⟨by omega, fun H4 p4 s4 n4 g4 => ?_⟩
    have ne34 : p3 ≠ p4 := ne_of_none g3 n4
    have s24 := s3.trans s4
    walk_at "vc g4"
    refine lpW (walkN (l := wi (mx (bd b1) c1) (mn (bd b3) c3) h)) (fun i σ H' => ∃ rv bv cv ev : Option V, σ = [some (V.ref aG), some (V.ref aK), some (V.ref aP), some (V.ref aB), some (V.int ↑w), some (V.int ↑h), some (V.ref aC), some (V.int ↑aw), some (V.int ↑ah), some (V.ref aS), some (V.int (bd b0)), some (V.int (bd b1)), some (V.int (bd b2)), some (V.int (bd b3)), none, some (V.ref p2), some (V.ref p3), rv, bv, cv, ev] ∧
      Same H2 H' ∧ H' p4 = some (.lst (natV (wi (mx (bd b1) c1) (mn (bd b3) c3) h))) ∧
      H' p3 = some (.lst (List.map V.int (((wi (mx (bd b1) c1) (mn (bd b3) c3) h).take i).foldl (prow (bd b0) (bd b1) (bd b2) (bd b3) aw ah src w (wi (mx (bd b0) c0) (mn (bd b2) c2) w)) cs)))) ⟨none, none, none, none, rfl, s24, g4, s4 _ _ g3⟩ ?_ ?_ ?_
    · rintro i σ H' _ ⟨_, _, _, _, rfl, _, g, _⟩
      exact g
    · rintro i x σ H' H5 hi ⟨rv, bv, cv, ev, rfl, sm, gp, gq⟩ ⟨rfl, r, hr, rfl⟩
      obtain ⟨hrh, hry⟩ := wi_at hr
      have hy : bd b1 ≤ 4 * (r : Int) + 2 ∧ 4 * (r : Int) + 2 < bd b3 := ⟨(mx_le.mp hry.1).1, (lt_mn.mp hry.2).1⟩
      rw [foldl_take _ _ hr]
      have h1 := bd_in b0
      have h2 := bd_in b1
      have h3 := bd_in b2
      have h4 := bd_in b3
      walk_at "n sm ' g2 hS"
      walk_at "vc sp_middle g2'"
      have hpl : (List.foldl (prow (bd b0) (bd b1) (bd b2) (bd b3) aw ah src w (wi (mx (bd b0) c0) (mn (bd b2) c2) w)) cs (List.take i (wi (mx (bd b1) c1) (mn (bd b3) c3) h))).length = w * h := by rw [foldl_len prow_len, hl]
      generalize List.foldl (prow (bd b0) (bd b1) (bd b2) (bd b3) aw ah src w (wi (mx (bd b0) c0) (mn (bd b2) c2) w)) cs (List.take i (wi (mx (bd b1) c1) (mn (bd b3) c3) h)) = p0 at hpl gq ⊢
      refine ⟨.inr ⟨by omega, by omega⟩, by omega, by omega, .inr ⟨by omega, by omega⟩, ?_⟩
      refine lpW (walkN (l := wi (mx (bd b0) c0) (mn (bd b2) c2) w)) (fun j σ H' => ∃ cv ev : Option V, σ = [some (V.ref aG), some (V.ref aK), some (V.ref aP), some (V.ref aB), some (V.int ↑w), some (V.int ↑h), some (V.ref aC), some (V.int ↑aw), some (V.int ↑ah), some (V.ref aS), some (V.int (bd b0)), some (V.int (bd b1)), some (V.int (bd b2)), some (V.int (bd b3)), none, some (V.ref p2), some (V.ref p3), some (.int (r : Int)), some (.int ((4 * (r : Int) + 2 - bd b1) * ah / (bd b3 - bd b1) * aw)), cv, ev] ∧
        Same H2 H' ∧ H' p4 = some (.lst (natV (wi (mx (bd b1) c1) (mn (bd b3) c3) h))) ∧
        H' p3 = some (.lst (List.map V.int (((wi (mx (bd b0) c0) (mn (bd b2) c2) w).take j).foldl (pcell (bd b0) (bd b1) (bd b2) (bd b3) aw ah src w r) p0)))) ⟨_, _, rfl, sm, gp, gq⟩ ?_ ?_ ?_
      · rintro j σ H' _ ⟨_, _, rfl, s, _, _⟩
        exact s _ _ g2
      · rintro j x σ H' H5 hj ⟨cv, ev, rfl, sm, gp, gq⟩ ⟨rfl, c, hc, rfl⟩
        obtain ⟨hcw, hcx⟩ := wi_at hc
        have hx : bd b0 ≤ 4 * (c : Int) + 2 ∧ 4 * (c : Int) + 2 < bd b2 := ⟨(mx_le.mp hcx.1).1, (lt_mn.mp hcx.2).1⟩
        rw [foldl_take _ _ hc]
        have hpl2 : (((wi (mx (bd b0) c0) (mn (bd b2) c2) w).take j).foldl (pcell (bd b0) (bd b1) (bd b2) (bd b3) aw ah src w r) p0).length = w * h := by rw [foldl_len pcell_len, hpl]
        generalize ((wi (mx (bd b0) c0) (mn (bd b2) c2) w).take j).foldl (pcell (bd b0) (bd b1) (bd b2) (bd b3) aw ah src w r) p0 = p1 at hpl2 gq ⊢
        have hS' := sm _ _ hS
        have hin := sidx_in hy hx haw.1 hah.1
        walk_at "vc sp_middle hS' gq"
        have hsx : (sidx (bd b0) (bd b1) (bd b2) (bd b3) aw ah r c).toNat < src.length := by rw [hsl]; omega
        refine ⟨.inr ⟨by omega, by omega⟩, by omega, by omega, _, at_g' (i := (sidx (bd b0) (bd b1) (bd b2) (bd b3) aw ah r c).toNat) (by rw [Int.toNat_of_nonneg hin.1]; rfl) hsx, scal_ii _ _, ?_⟩
        unfold pcell
        generalize gN src (sidx (bd b0) (bd b1) (bd b2) (bd b3) aw ah r c).toNat = v
        have hix := ix_in hrh hcw
        by_cases e : v = -1
        · rw [if_pos e]
          exact iteF' (by rw [e]; rfl) ⟨sm, gp, rfl⟩
        · rw [if_neg e]
          refine iteT' (by rw [decide_eq_false (fun z : V.int v = V.int (-1) => e (V.int.inj z))]; rfl) ⟨.inr ⟨by omega, by omega⟩, r * w + c, ?_, same_upd2 sm n3, by rw [upd_ne ne34.symm]; exact gp, by rw [List.map_set]⟩
          rw [ixN_in (by omega) (by rw [hpl2]; omega)]
          congr 1
      · rintro σ H' ⟨cv, ev, rfl, sm, gp, gq⟩
        rw [List.take_length] at gq
        exact ⟨⟨_, _, _, _, rfl⟩, sm, gp, gq⟩
    · rintro σ H' ⟨rv, bv, cv, ev, rfl, sm, gp, gq⟩
      rw [List.take_length] at gq
      walk_at "vc"
      intro p5 H6 s6 n6 g6
      have s06 := (s1.trans s2).trans sm
      exact q _ p5 p3 (s06.trans s6) (s06.free n6) ((s1.trans s2).free n3) g6 (s6 _ _ gq)

/-! ### the law's cells and grids -/
def sp__law_cell (K : PySem.W.Frag) (a : Addr) (ns : List Int) : Sp := fun vs H Q _ => ∃ (k : Int), vs = [.ref a, .int k] ∧ (0 ≤ k) ∧ (SqL K H a (List.map V.int ns)) ∧ (Q (.int (cellA ns k.toNat)) H)
theorem ok__law_cell (T : Txt K mg) (a : Addr) (ns : List Int) : FnOk P w K mg base CX0 1 T.f__law_cell T.fd__law_cell ["script", "k"] (sp__law_cell K a ns) := by
  refine T.F__law_cell.ok sc__law_cell (fun vs H Q E h => ?_) (fun cdv A outer s H vs Q E hr h => ?_)
  · obtain ⟨k, rfl, _⟩ := h
    rfl
  · obtain ⟨k, rfl, hk0, hS, q⟩ := h
    refine ⟨_, (pss_cons (ps_if (pt_cmpR op_lt (pv 1) (pe_callB call_len_seq (by rfl) T.z_len PySem.boot_len (pa_cons (pv 0) pa_nil)) (nomark _)) (pss_one (ps_ret (pe_callTy call_int1 (by rfl) T.z_int (by decide +kernel) (pa_cons (pe_ix ix_list (pv 0) (pv 1) (fun _ _ => rfl)) pa_nil)))) pss_nil)
      (pss_one (ps_ret pe_int))), ?_⟩
    obtain ⟨k, rfl⟩ := natOf hk0
    rw [Int.toNat_natCast] at q
    refine ⟨_, rfl, _, rfl, a, _, rfl, .inl hS, _, _, rfl, rfl, _, rfl, ite2 (fun e => ?_) (fun e => ?_)⟩
    · have e1 := of_decide_eq_true e
      rw [List.length_map] at e1
      have hk : k < ns.length := by omega
      refine ⟨_, rfl, _, rfl, a, _, _, .int (cellA ns k), rfl, rfl, hS, ?_, .inl ⟨_, rfl, q⟩⟩
      refine atI_nat ?_
      rw [List.getElem?_map, List.getElem?_eq_getElem hk]
      simp [cellA, hk]
    · have e1 : ¬ ((k : Int) < ((ns.map V.int).length : Int)) := fun z => e (decide_eq_true z)
      rw [List.length_map] at e1
      have hk : ns.length ≤ k := by omega
      have e0 : cellA ns k = 0 := by simp [cellA, hk]
      rw [e0] at q
      exact q

def sp__law_is_integer (K : PySem.W.Frag) : Sp := fun vs H Q _ => ∃ (i : Int), vs = [.int i] ∧ (Q (.bl true) H)
theorem ok__law_is_integer (T : Txt K mg) : FnOk P w K mg base CX0 1 T.f__law_is_integer T.fd__law_is_integer ["actual"] (sp__law_is_integer K) := by
  refine T.F__law_is_integer.ok sc__law_is_integer (fun vs H Q E h => ?_) (fun cdv A outer s H vs Q E hr h => ?_)
  · obtain ⟨i, rfl, _⟩ := h
    rfl
  · obtain ⟨i, rfl, q⟩ := h
    refine ⟨_, (pss_one (ps_ret (pe_and (pe_callB call_isiB (by rfl) T.z_isinstance (by decide +kernel) (pa_cons (pv 0) (pa_cons (pe_bltn (v := .ty "int") (u := .type "int") (by rfl) T.z_int (by decide +kernel) rfl) pa_nil))) (pe_one (pe_not (pe_callB call_isiB (by rfl) T.z_isinstance (by decide +kernel) (pa_cons (pv 0) (pa_cons (pe_bltn (v := .ty "bool") (u := .type "bool") (by rfl) T.z_bool (by decide +kernel) rfl) pa_nil)))))))), ?_⟩
    walk_at "vc"
    exact q
def sp__law_colour (K : PySem.W.Frag) : Sp := fun vs H Q _ => ∃ (c : Int), vs = [.int c] ∧ (0 ≤ c) ∧ (∀ H' v, Same H H' → 0 ≤ v → v < 16777216 → Q (.int v) H')
theorem ok__law_colour (T : Txt K mg) : FnOk P w K mg base CX0 1 T.f__law_colour T.fd__law_colour ["cell"] (sp__law_colour K) := by
  refine T.F__law_colour.ok sc__law_colour (fun vs H Q E h => ?_) (fun cdv A outer s H vs Q E hr h => ?_)
  · obtain ⟨c, rfl, _⟩ := h
    rfl
  · obtain ⟨c, rfl, hc, q⟩ := h
    refine ⟨_, (pss_one (ps_ret (pe_ix ix_listH (pe_lstS (pa_cons pe_int (pa_cons pe_int (pa_cons pe_int (pa_cons pe_int (pa_cons pe_int (pa_cons pe_int (pa_cons (pe_op op_mod (pe_callTy call_int1 (by rfl) T.z_int (by decide +kernel) (pa_cons (pe_op op_fdiv (pv 0) pe_int) pa_nil)) pe_int) (pa_cons pe_int pa_nil))))))))) (pe_op op_and (pe_callTy call_int1 (by rfl) T.z_int (by decide +kernel) (pa_cons (pv 0) pa_nil)) pe_int) (fun _ _ => rfl)))), ?_⟩
    walk_at "vc"
    intro p H1 s1 n1 g1
    walk_at "vc g1"
    obtain ⟨v, h1, h2⟩ := atI_lits (xs := [0, 16777215, 255, 65280, 16711680, 1, c / 8 % 16777216, 8421504]) (k := c % 8) (by omega) (by show c % 8 < 8; omega)
    refine ⟨_, h1, ?_⟩
    have h3 : 0 ≤ v ∧ v < 16777216 := by
      simp only [List.mem_cons, List.not_mem_nil, or_false] at h2
      omega
    exact q _ v s1 h3.1 h3.2
def sp__law_grid (K : PySem.W.Frag) : Sp := fun vs H Q _ => ∃ (c : Int) (b : Bool), vs = [.int c, .bl b] ∧ (0 ≤ c) ∧ (∀ (H' : Hp) (p cp : Addr) (w h : Nat) (cs : List Int), Same H H' → H p = none → H cp = none → H' p = some (.tup [.int (w : Int), .int (h : Int), .ref cp]) → H' cp = some (.lst (List.map V.int cs)) → 1 ≤ w → w ≤ 12 → 1 ≤ h → h ≤ 9 → cs.length = w * h → (∀ v ∈ cs, -1 ≤ v ∧ v < 16777216) → Q (.ref p) H')
theorem ok__law_grid (T : Txt K mg) : FnOk P w K mg base CX0 2 T.f__law_grid T.fd__law_grid ["cell", "nones"] (sp__law_grid K) := by
  refine T.F__law_grid.ok sc__law_grid (fun vs H Q E h => ?_) (fun cdv A outer s H vs Q E hr h => ?_)
  · obtain ⟨c, b, rfl, _⟩ := h
    rfl
  · obtain ⟨c, b, rfl, hc, q⟩ := h
    refine ⟨_, (pss_cons (ps_set (i := 2) sc__law_grid.nd rfl (Or.inl rfl) (pe_op op_add pe_int (pe_op op_mod (pe_callTy call_int1 (by rfl) T.z_int (by decide +kernel) (pa_cons (pv 0) pa_nil)) pe_int)))
      (pss_cons (ps_set (i := 3) sc__law_grid.nd rfl (Or.inl rfl) (pe_op op_add pe_int (pe_op op_mod (pe_callTy call_int1 (by rfl) T.z_int (by decide +kernel) (pa_cons (pe_op op_fdiv (pv 0) pe_int) pa_nil)) pe_int)))
      (pss_cons (ps_set (i := 4) sc__law_grid.nd rfl (Or.inl rfl) (pe_lstS pa_nil))
      (pss_cons (ps_for PassesOwn.never rfl (pi_range1 (by rfl) T.z_range (pa_cons (pe_op op_mul (pv 2) (pv 3)) pa_nil)) (pg_name (i := 5) sc__law_grid.nd rfl (Or.inl rfl)) (pss_cons (ps_set (i := 6) sc__law_grid.nd rfl (Or.inl rfl) (pe_op op_mod (pe_callTy call_int1 (by rfl) T.z_int (by decide +kernel) (pa_cons (pe_op op_add (pe_op op_fdiv (pv 0) pe_int) (pe_op op_mul (pv 5) (pe_op op_add pe_int (pe_op op_mod (pe_callTy call_int1 (by rfl) T.z_int (by decide +kernel) (pa_cons (pe_op op_fdiv (pv 0) pe_int) pa_nil)) pe_int)))) pa_nil)) pe_int))
      (pss_cons (ps_expr (pe_ml (pe_bm PySem.F.plainAttrs_list PySem.F.slot_list_append PySem.F.type_list_append mt_append (pe_mono (pv 4)) (pa_cons (pe_call (ok__law_colour T) hr (by rfl) T.g__law_colour T.F__law_colour.kp T.b__law_colour .nil pass0 (pa_cons (pv 6) pa_nil)) pa_nil))))
      (pss_one (ps_if (PW.pt (pw_and (pt_val (pv 1)) (pw_and1 (pt_cmpR op_eq (pv 6) pe_int (nomark _))))) (pss_one (ps_asg (pe_un un_neg pe_int) (pg_sub (pv 4) (pv 5) set_list))) pss_nil)))))
      (pss_one (ps_ret (pe_tupS (pa_cons (pv 2) (pa_cons (pv 3) (pa_cons (pv 4) pa_nil)))))))))), ?_⟩
    walk_at "vc"
    intro p H1 s1 n1 g1
    obtain ⟨w, hw⟩ := natOf (show 0 ≤ 1 + c % 12 by omega)
    obtain ⟨h, hh⟩ := natOf (show 0 ≤ 1 + c / 12 % 9 by omega)
    rw [hw, hh]
    have hw1 : 1 ≤ w ∧ w ≤ 12 := by omega
    have hh1 : 1 ≤ h ∧ h ≤ 9 := by omega
    have hwh : w * h ≤ 108 := Nat.mul_le_mul hw1.2 hh1.2
    walk_at "vc"
    refine ⟨.inr ⟨by omega, by omega⟩, by rw [← Int.natCast_mul]; omega, by rw [← Int.natCast_mul]; omega, ?_⟩
    refine lpW (walkR (n := w * h)) (fun i σ H' => ∃ (kv nv : Option V) (cs : List Int), σ = [some (.int c), some (.bl b), some (.int (w : Int)), some (.int (h : Int)), some (.ref p), kv, nv] ∧ Same H H' ∧ H' p = some (.lst (List.map V.int cs)) ∧ cs.length = i ∧ (∀ v ∈ cs, -1 ≤ v ∧ v < 16777216)) ⟨_, _, [], rfl, s1, g1, rfl, fun _ z => nomatch z⟩ (fun _ _ _ _ _ => True.intro) ?_ ?_
    · rintro i x σ H' H2 hi ⟨kv, nv, cs, rfl, sm, gp, hl, hB⟩ ⟨rfl, rfl⟩
      walk_at "vc sp__law_colour gp"
      refine ⟨.inr ⟨by omega, by omega⟩, by omega, fun H3 v s3 h0 h1 => ?_⟩
      walk_at "n s3 3 gp"
      walk_at "vc gp3"
      have hz : cs.length < sizeLine := Nat.lt_trans (show cs.length < 1000 by omega) (by decide)
      have hB2 : ∀ u ∈ cs ++ [v], -1 ≤ u ∧ u < 16777216 := fun u hu => by
        rcases List.mem_append.mp hu with z | z
        · exact hB u z
        · rw [List.mem_singleton.mp z]; omega
      have hl2 : (cs ++ [v]).length = i + 1 := by rw [List.length_append, hl]; rfl
      have fin : Same H (upd H3 p (.lst (List.map V.int (cs ++ [v])))) ∧ (cs ++ [v]).length = i + 1 ∧ ∀ u ∈ cs ++ [v], -1 ≤ u ∧ u < 16777216 := ⟨same_upd2 (sm.trans s3) n1, hl2, hB2⟩
      rw [List.length_append] at hl2
      refine ⟨hz, iteP (fun _ => iteP (fun _ => ⟨i, ixN_in (by omega) (by omega), same_upd2 (sm.trans s3) n1, by omega, fun u hu => ?_⟩) fun _ => ?_) fun _ => ?_⟩
      · rcases List.mem_or_eq_of_mem_set hu with z | z
        · exact hB2 u z
        · rw [z]; exact ⟨by decide, by decide⟩
      · exact ⟨fin.1, hl2, fin.2.2⟩
      · exact ⟨fin.1, hl2, fin.2.2⟩
    · rintro σ H' ⟨kv, nv, cs, rfl, sm, gp, hl, hB⟩
      walk_at "vc"
      intro p2 H2 s2 n2 g2
      exact q _ p2 p w h cs (sm.trans s2) (sm.free n2) n1 g2 (s2 _ _ gp) hw1.1 hw1.2 hh1.1 hh1.2 hl hB
def sp__law_is_grid (K : PySem.W.Frag) : Sp := fun vs H Q _ => ∃ (p cp cq : Addr) (w h : Int) (cs : List Int), vs = [.ref p, .int w, .int h, .ref cq] ∧ (H p = some (.tup [.int w, .int h, .ref cp])) ∧ (H cp = some (.lst (List.map V.int cs))) ∧ (H cq = some (.lst (List.map V.int cs))) ∧ (Q (.bl true) H)
theorem ok__law_is_grid (T : Txt K mg) : FnOk P w K mg base CX0 2 T.f__law_is_grid T.fd__law_is_grid ["actual", "width", "height", "cells"] (sp__law_is_grid K) := by
  refine T.F__law_is_grid.ok sc__law_is_grid (fun vs H Q E h => ?_) (fun cdv A outer s H vs Q E hr h => ?_)
  · obtain ⟨p, cp, cq, w, h, cs, rfl, _⟩ := h
    rfl
  · obtain ⟨p, cp, cq, w, h, cs, rfl, hp, hc, hq, q⟩ := h
    refine ⟨_, (pss_cons (ps_if (PW.pt (pw_or (pt_not (pt_val (pe_callB call_isiB (by rfl) T.z_isinstance (by decide +kernel) (pa_cons (pv 0) (pa_cons (pe_bltn (v := .ty "tuple") (u := .type "tuple") (by rfl) T.z_tuple (by decide +kernel) rfl) pa_nil))))) (pw_or (pt_cmpR op_ne (pe_callB call_lenT (by rfl) T.z_len PySem.boot_len (pa_cons (pv 0) pa_nil)) pe_int (nomark _)) (pw_or (pt_cmpR op_ne (pe_ix ix_tupH (pv 0) pe_int (fun _ _ => rfl)) (pv 1) (nomark _)) (pw_or1 (pt_cmpR op_ne (pe_ix ix_tupH (pv 0) pe_int (fun _ _ => rfl)) (pv 2) (nomark _))))))) (pss_one (ps_ret pe_bl)) pss_nil)
      (pss_cons (ps_if (PW.pt (pw_or (pt_not (pt_val (pe_callB call_isiB (by rfl) T.z_isinstance (by decide +kernel) (pa_cons (pe_ix ix_tupH (pv 0) pe_int (fun _ _ => rfl)) (pa_cons (pe_bltn (v := .ty "list") (u := .type "list") (by rfl) T.z_list (by decide +kernel) rfl) pa_nil))))) (pw_or1 (pt_cmpR op_ne (pe_callB call_lenH (by rfl) T.z_len PySem.boot_len (pa_cons (pe_ix ix_tupH (pv 0) pe_int (fun _ _ => rfl)) pa_nil)) (pe_callB call_lenH (by rfl) T.z_len PySem.boot_len (pa_cons (pv 3) pa_nil)) (nomark _))))) (pss_one (ps_ret pe_bl)) pss_nil)
      (pss_cons (ps_for PassesOwn.never rfl (pi_listS (pe_ix ix_tupH (pv 0) pe_int (fun _ _ => rfl))) (pg_name (i := 4) sc__law_is_grid.nd rfl (Or.inl rfl)) (pss_one (ps_if (pt_not (pt_val (pe_call (ok__law_is_integer T) hr (by rfl) T.g__law_is_integer T.F__law_is_integer.kp T.b__law_is_integer .nil pass0 (pa_cons (pv 4) pa_nil)))) (pss_one (ps_ret pe_bl)) pss_nil)))
      (pss_one (ps_ret (pe_cmpR (op_eqIL hr.units) (pe_ix ix_tupH (pv 0) pe_int (fun _ _ => rfl)) (pv 3) (nomark _))))))), ?_⟩
    walk_at "vc hp hc hq"
    refine lpW (walkI (ns := cs)) (fun i σ H' => ∃ cv : Option V, σ = [some (.ref p), some (.int w), some (.int h), some (.ref cq), cv] ∧ H' = H) ⟨_, rfl, rfl⟩ ?_ ?_ ?_
    · rintro i σ H' _ ⟨_, _, rfl⟩
      exact hc
    · rintro i x σ H' H2 hi ⟨cv, rfl, rfl⟩ ⟨rfl, b, hb, rfl⟩
      walk_at "vc sp__law_is_integer"
    · rintro σ H' ⟨cv, rfl, rfl⟩
      walk_at "vc hp hc hq"
      exact q
theorem bdl_eq (x : Int) : mx (-1048576) (mn 1048576 x) = bd x := by
  unfold bd mx mn
  repeat' split
  all_goals omega
def sp__law_bounded (K : PySem.W.Frag) : Sp := fun vs H Q _ => ∃ (x : Int), vs = [.int x] ∧ (Q (.int (bd x)) H)
theorem ok__law_bounded (T : Txt K mg) : FnOk P w K mg base CX0 1 T.f__law_bounded T.fd__law_bounded ["number"] (sp__law_bounded K) := by
  refine T.F__law_bounded.ok sc__law_bounded (fun vs H Q E h => ?_) (fun cdv A outer s H vs Q E hr h => ?_)
  · obtain ⟨x, rfl, _⟩ := h
    rfl
  · obtain ⟨x, rfl, q⟩ := h
    refine ⟨_, (pss_one (ps_ret (pe_callB (call_max2 rfl) (by rfl) T.z_max (by decide +kernel) (pa_cons (pe_un un_neg pe_int) (pa_cons (pe_callB (call_min2 rfl) (by rfl) T.z_min (by decide +kernel) (pa_cons pe_int (pa_cons (pv 0) pa_nil))) pa_nil))))), ?_⟩
    walk_at "vc bdl_eq"
    exact q

def sp__law_box (K : PySem.W.Frag) : Sp := fun vs H Q _ => ∃ (c : Int) (w h : Nat), vs = [.int c, .int (w : Int), .int (h : Int)] ∧ (0 ≤ c) ∧ (1 ≤ w ∧ w ≤ 12) ∧ (1 ≤ h ∧ h ≤ 9) ∧ (∀ (H' : Hp) (p : Addr) (x0 y0 x1 y1 : Int), Same H H' → H p = none → H' p = some (.tup (List.map V.int [x0, y0, x1, y1])) → Q (.ref p) H')
theorem ok__law_box (T : Txt K mg) : FnOk P w K mg base CX0 1 T.f__law_box T.fd__law_box ["cell", "width", "height"] (sp__law_box K) := by
  refine T.F__law_box.ok sc__law_box (fun vs H Q E h => ?_) (fun cdv A outer s H vs Q E hr h => ?_)
  · obtain ⟨c, w, h, rfl, _⟩ := h
    rfl
  · obtain ⟨c, w, h, rfl, hc, hw, hh, q⟩ := h
    refine ⟨_, (pss_cons (ps_set (i := 3) sc__law_box.nd rfl (Or.inl rfl) (pe_op op_and (pe_callTy call_int1 (by rfl) T.z_int (by decide +kernel) (pa_cons (pv 0) pa_nil)) pe_int))
      (pss_cons (ps_set (i := 4) sc__law_box.nd rfl (Or.inl rfl) (pe_op op_fdiv (pv 0) pe_int))
      (pss_cons (ps_if (pt_cmpR op_eq (pv 3) pe_int (nomark _)) (pss_cons (ps_set (i := 5) sc__law_box.nd rfl (Or.inl rfl) (pe_op op_sub (pe_op op_mul pe_int (pe_op op_mod (pe_callTy call_int1 (by rfl) T.z_int (by decide +kernel) (pa_cons (pv 4) pa_nil)) (pe_op op_add (pv 1) pe_int))) pe_int))
      (pss_cons (ps_set (i := 6) sc__law_box.nd rfl (Or.inl rfl) (pe_op op_sub (pe_op op_mul pe_int (pe_op op_mod (pe_callTy call_int1 (by rfl) T.z_int (by decide +kernel) (pa_cons (pe_op op_fdiv (pv 4) pe_int) pa_nil)) (pe_op op_add (pv 2) pe_int))) pe_int))
      (pss_one (ps_ret (pe_tupS (pa_cons (pv 5) (pa_cons (pv 6) (pa_cons (pe_op op_add (pv 5) (pe_op op_mul pe_int (pe_op op_mod (pe_callTy call_int1 (by rfl) T.z_int (by decide +kernel) (pa_cons (pe_op op_fdiv (pv 4) pe_int) pa_nil)) pe_int))) (pa_cons (pe_op op_add (pv 6) (pe_op op_mul pe_int (pe_op op_mod (pe_callTy call_int1 (by rfl) T.z_int (by decide +kernel) (pa_cons (pe_op op_fdiv (pv 4) pe_int) pa_nil)) pe_int))) pa_nil))))))))) pss_nil)
      (pss_cons (ps_set (i := 5) sc__law_box.nd rfl (Or.inl rfl) (pe_op op_sub (pe_op op_mod (pe_callTy call_int1 (by rfl) T.z_int (by decide +kernel) (pa_cons (pv 4) pa_nil)) (pe_op op_add (pe_op op_mul pe_int (pv 1)) pe_int)) pe_int))
      (pss_cons (ps_set (i := 6) sc__law_box.nd rfl (Or.inl rfl) (pe_op op_sub (pe_op op_mod (pe_callTy call_int1 (by rfl) T.z_int (by decide +kernel) (pa_cons (pe_op op_fdiv (pv 4) pe_int) pa_nil)) (pe_op op_add (pe_op op_mul pe_int (pv 2)) pe_int)) pe_int))
      (pss_cons (ps_if (pt_cmpR op_eq (pv 3) pe_int (nomark _)) (pss_one (ps_ret (pe_tupS (pa_cons (pv 5) (pa_cons (pv 6) (pa_cons (pe_op op_sub (pe_op op_add (pv 5) (pe_op op_mod (pe_callTy call_int1 (by rfl) T.z_int (by decide +kernel) (pa_cons (pe_op op_fdiv (pv 4) pe_int) pa_nil)) pe_int)) pe_int) (pa_cons (pe_op op_sub (pe_op op_add (pv 6) (pe_op op_mod (pe_callTy call_int1 (by rfl) T.z_int (by decide +kernel) (pa_cons (pe_op op_fdiv (pv 4) pe_int) pa_nil)) pe_int)) pe_int) pa_nil))))))) pss_nil)
      (pss_cons (ps_if (pt_cmpR op_eq (pv 3) pe_int (nomark _)) (pss_one (ps_ret (pe_tupS (pa_cons pe_int (pa_cons pe_int (pa_cons (pe_op op_mul pe_int (pv 1)) (pa_cons (pe_op op_mul pe_int (pv 2)) pa_nil))))))) pss_nil)
      (pss_one (ps_ret (pe_tupS (pa_cons (pe_op op_sub (pv 5) (pe_callTy call_int1 (by rfl) T.z_int (by decide +kernel) (pa_cons (pv 4) pa_nil))) (pa_cons (pe_un un_neg pe_int) (pa_cons pe_int (pa_cons (pe_op op_add (pe_op op_add (pv 6) (pe_op op_mul pe_int (pe_callTy call_int1 (by rfl) T.z_int (by decide +kernel) (pa_cons (pe_op op_and (pv 4) pe_int) pa_nil)))) pe_int) pa_nil)))))))))))))), ?_⟩
    walk_at "vc"
    have fin : ∀ x0 y0 x1 y1 : Int, NewH H (.tup [.int x0, .int y0, .int x1, .int y1]) fun p H' => Q (.ref p) H' := fun x0 y0 x1 y1 p H' s n g => q H' p x0 y0 x1 y1 s n g
    refine iteP (fun _ => ⟨by omega, by omega, fin _ _ _ _⟩) fun _ => ⟨by omega, by omega, iteP (fun _ => fin _ _ _ _) fun _ => iteP (fun _ => fin _ _ _ _) fun _ => fin _ _ _ _⟩
/-! ### what is due -/
def dCell (x0 y0 x1 y1 c0 c1 c2 c3 : Int) (aw ah : Nat) (src : List Int) (w r : Nat) (p : List Int) (c : Nat) : List Int :=
  if (x0 ≤ 4 * (c : Int) + 2 ∧ 4 * (c : Int) + 2 < x1) ∧ (y0 ≤ 4 * (r : Int) + 2 ∧ 4 * (r : Int) + 2 < y1) ∧ (c0 ≤ 4 * (c : Int) + 2 ∧ 4 * (c : Int) + 2 < c2) ∧ (c1 ≤ 4 * (r : Int) + 2 ∧ 4 * (r : Int) + 2 < c3) then
    (if 0 ≤ gN src (sidx x0 y0 x1 y1 aw ah r c).toNat then p.set (r * w + c) (gN src (sidx x0 y0 x1 y1 aw ah r c).toNat) else p) else p
def dRow (x0 y0 x1 y1 c0 c1 c2 c3 : Int) (aw ah : Nat) (src : List Int) (w : Nat) (p : List Int) (r : Nat) : List Int := (List.range w).foldl (dCell x0 y0 x1 y1 c0 c1 c2 c3 aw ah src w r) p
def dAll (x0 y0 x1 y1 c0 c1 c2 c3 : Int) (aw ah : Nat) (src : List Int) (w h : Nat) (cs : List Int) : List Int := (List.range h).foldl (dRow x0 y0 x1 y1 c0 c1 c2 c3 aw ah src w) cs
theorem dCell_len {x0 y0 x1 y1 c0 c1 c2 c3 : Int} {aw ah : Nat} {src : List Int} {w r : Nat} (p : List Int) (c : Nat) : (dCell x0 y0 x1 y1 c0 c1 c2 c3 aw ah src w r p c).length = p.length := by
  unfold dCell
  repeat' split
  all_goals first | rfl | rw [List.length_set]
theorem dRow_len {x0 y0 x1 y1 c0 c1 c2 c3 : Int} {aw ah : Nat} {src : List Int} {w : Nat} (p : List Int) (r : Nat) : (dRow x0 y0 x1 y1 c0 c1 c2 c3 aw ah src w p r).length = p.length := foldl_len dCell_len _ p
theorem range_take {α : Type} (f : α → Nat → α) (s : α) {n i : Nat} (_h : i < n) : (List.range (i + 1)).foldl f s = f ((List.range i).foldl f s) i := by
  rw [List.range_succ, List.foldl_append]
  rfl
def sp__law_due (K : PySem.W.Frag) : Sp := fun vs H Q _ => ∃ (aG aC aK aP aS aB : Addr) (w h aw ah : Nat) (cs src : List Int) (c0 c1 c2 c3 b0 b1 b2 b3 : Int), vs = [.ref aG, .ref aK, .ref aP, .ref aB] ∧ (H aG = some (.tup [.int (w : Int), .int (h : Int), .ref aC])) ∧ (H aC = some (.lst (List.map V.int cs))) ∧ (H aK = some (.tup (List.map V.int [c0, c1, c2, c3]))) ∧ (H aP = some (.tup [.int (aw : Int), .int (ah : Int), .ref aS])) ∧ (H aS = some (.lst (List.map V.int src))) ∧ (H aB = some (.tup (List.map V.int [b0, b1, b2, b3]))) ∧ (cs.length = w * h) ∧ (src.length = aw * ah) ∧ (w ≤ 100) ∧ (h ≤ 100) ∧ (1 ≤ aw ∧ aw ≤ 100) ∧ (1 ≤ ah ∧ ah ≤ 100) ∧ (∀ H' c, Same H H' → H c = none → H' c = some (.lst (List.map V.int (dAll (bd b0) (bd b1) (bd b2) (bd b3) (bd c0) (bd c1) (bd c2) (bd c3) aw ah src w h cs))) → Q (.ref c) H')
theorem ok__law_due (T : Txt K mg) : FnOk P w K mg base CX0 2 T.f__law_due T.fd__law_due ["grid", "clip", "picture", "box"] (sp__law_due K) := by
  refine T.F__law_due.ok sc__law_due (fun vs H Q E h => ?_) (fun cdv A outer s H vs Q E hr h => ?_)
  · obtain ⟨aG, aC, aK, aP, aS, aB, w, h, aw, ah, cs, src, c0, c1, c2, c3, b0, b1, b2, b3, rfl, _⟩ := h
    rfl
  · obtain ⟨aG, aC, aK, aP, aS, aB, w, h, aw, ah, cs, src, c0, c1, c2, c3, b0, b1, b2, b3, rfl, hG, hC, hK, hP, hS, hB, hl, hsl, hw, hh, haw, hah, q⟩ := h
    refine ⟨_, (pss_cons (ps_asg (pv 0) (pg_tupS (n := 3) (by rfl) (pgs_cons (pg_name (i := 4) sc__law_due.nd rfl (Or.inl rfl)) (pgs_cons (pg_name (i := 5) sc__law_due.nd rfl (Or.inl rfl)) (pgs_cons (pg_name (i := 6) sc__law_due.nd rfl (Or.inl rfl)) pgs_nil)))))
      (pss_cons (ps_set (i := 6) sc__law_due.nd rfl (Or.inl rfl) (pe_callTy call_listS (by rfl) T.z_list (by decide +kernel) (pa_cons (pv 6) pa_nil)))
      (pss_cons (ps_setLc (i := 7) (own := [("number", 8)]) (g := (gName 8)) rfl sc__law_due.nd rfl rfl (sw_true rfl rfl rfl (by decide +kernel)) (pi_tupS (pv 3)) (blkOk_by (own := [("number", 8)]) (N := ["grid", "clip", "picture", "box", "width", "height", "cells", "near", "number", "shown", "y", "x", "across", "down", "inside", "column", "row"]) (sc := defScope s__law_due) (by decide +kernel)) (fun _ _ _ _ _ => (pg_name (i := 8) sc__law_due.nd rfl (Or.inl rfl))) (fun _ _ _ _ _ => pts_nil) (fun _ _ _ _ _ => (pe_call (ok__law_bounded T) hr (by rfl) T.g__law_bounded T.F__law_bounded.kp T.b__law_bounded .nil pass0 (pa_cons (pv 8) pa_nil))))
      (pss_cons (ps_setLc (i := 9) (own := [("number", 8)]) (g := (gName 8)) rfl sc__law_due.nd rfl rfl (sw_true rfl rfl rfl (by decide +kernel)) (pi_tupS (pv 1)) (blkOk_by (own := [("number", 8)]) (N := ["grid", "clip", "picture", "box", "width", "height", "cells", "near", "number", "shown", "y", "x", "across", "down", "inside", "column", "row"]) (sc := defScope s__law_due) (by decide +kernel)) (fun _ _ _ _ _ => (pg_name (i := 8) sc__law_due.nd rfl (Or.inl rfl))) (fun _ _ _ _ _ => pts_nil) (fun _ _ _ _ _ => (pe_call (ok__law_bounded T) hr (by rfl) T.g__law_bounded T.F__law_bounded.kp T.b__law_bounded .nil pass0 (pa_cons (pv 8) pa_nil))))
      (pss_cons (ps_for PassesOwn.never rfl (pi_range1 (by rfl) T.z_range (pa_cons (pv 5) pa_nil)) (pg_name (i := 10) sc__law_due.nd rfl (Or.inl rfl)) (pss_one (ps_for PassesOwn.never rfl (pi_range1 (by rfl) T.z_range (pa_cons (pv 4) pa_nil)) (pg_name (i := 11) sc__law_due.nd rfl (Or.inl rfl)) (pss_cons (ps_set (i := 12) sc__law_due.nd rfl (Or.inl rfl) (pe_op op_add (pe_op op_mul pe_int (pv 11)) pe_int))
      (pss_cons (ps_set (i := 13) sc__law_due.nd rfl (Or.inl rfl) (pe_op op_add (pe_op op_mul pe_int (pv 10)) pe_int))
      (pss_cons (ps_set (i := 14) sc__law_due.nd rfl (Or.inl rfl) (pe_and (pe_chain op_le op_lt (pe_ix ix_listH (pv 7) pe_int (fun _ _ => rfl)) (pv 12) (pe_ix ix_listH (pv 7) pe_int (fun _ _ => rfl))) (pe_one (pe_chain op_le op_lt (pe_ix ix_listH (pv 7) pe_int (fun _ _ => rfl)) (pv 13) (pe_ix ix_listH (pv 7) pe_int (fun _ _ => rfl))))))
      (pss_one (ps_if (PW.pt (pw_and (pt_val (pv 14)) (pw_and (pt_chain op_le op_lt (pe_ix ix_listH (pv 9) pe_int (fun _ _ => rfl)) (pv 12) (pe_ix ix_listH (pv 9) pe_int (fun _ _ => rfl))) (pw_and1 (pt_chain op_le op_lt (pe_ix ix_listH (pv 9) pe_int (fun _ _ => rfl)) (pv 13) (pe_ix ix_listH (pv 9) pe_int (fun _ _ => rfl))))))) (pss_cons (ps_set (i := 15) sc__law_due.nd rfl (Or.inl rfl) (pe_op op_fdiv (pe_op op_mul (pe_op op_sub (pv 12) (pe_ix ix_listH (pv 7) pe_int (fun _ _ => rfl))) (pe_ix ix_tupH (pv 2) pe_int (fun _ _ => rfl))) (pe_op op_sub (pe_ix ix_listH (pv 7) pe_int (fun _ _ => rfl)) (pe_ix ix_listH (pv 7) pe_int (fun _ _ => rfl)))))
      (pss_cons (ps_set (i := 16) sc__law_due.nd rfl (Or.inl rfl) (pe_op op_fdiv (pe_op op_mul (pe_op op_sub (pv 13) (pe_ix ix_listH (pv 7) pe_int (fun _ _ => rfl))) (pe_ix ix_tupH (pv 2) pe_int (fun _ _ => rfl))) (pe_op op_sub (pe_ix ix_listH (pv 7) pe_int (fun _ _ => rfl)) (pe_ix ix_listH (pv 7) pe_int (fun _ _ => rfl)))))
      (pss_one (ps_if (pt_cmpR op_ge (pe_ix ix_listH (pe_ix ix_tupH (pv 2) pe_int (fun _ _ => rfl)) (pe_op op_add (pe_op op_mul (pv 16) (pe_ix ix_tupH (pv 2) pe_int (fun _ _ => rfl))) (pv 15)) (fun _ _ => rfl)) pe_int (nomark _)) (pss_one (ps_asg (pe_ix ix_listH (pe_ix ix_tupH (pv 2) pe_int (fun _ _ => rfl)) (pe_op op_add (pe_op op_mul (pv 16) (pe_ix ix_tupH (pv 2) pe_int (fun _ _ => rfl))) (pv 15)) (fun _ _ => rfl)) (pg_sub (pv 6) (pe_op op_add (pe_op op_mul (pv 10) (pv 4)) (pv 11)) set_list))) pss_nil)))) pss_nil))))))))
      (pss_one (ps_ret (pv 6)))))))), ?_⟩
    walk_at "vc hG hC"
    intro pc H1 s1 n1 gc
    have ne_hP0 := ne_of_none hP n1
    have ne_hS0 := ne_of_none hS n1
    walk_at "c s1 hG hC hK hP hS hB"
    walk_at "vc hB"
    refine lcL walkTI (L := fun i => List.map V.int (([b0, b1, b2, b3].map bd).take i)) rfl (fun _ s => s _ _ hB) (fun D i x H1 H2 hi hD s1 g1 y => ?_) (fun pn H2 s2 n2 gn => ?_)
    · obtain ⟨rfl, b, hb, rfl⟩ := y
      rw [take_map_succ bd hb]
      walk_at "vc sp__law_bounded g1"
      exact ⟨take_lt _ _ (show 4 < sizeLine by decide), same_upd2 s1 hD⟩
    walk_at "c s2 hG hC hK hP hS"
    walk_at "vc hK"
    refine lcL walkTI (L := fun i => List.map V.int (([c0, c1, c2, c3].map bd).take i)) rfl (fun _ s => s _ _ hK) (fun D i x H1 H2 hi hD s1 g1 y => ?_) (fun ps H3 s3 n3 gs => ?_)
    · obtain ⟨rfl, b, hb, rfl⟩ := y
      rw [take_map_succ bd hb]
      walk_at "vc sp__law_bounded g1"
      exact ⟨take_lt _ _ (show 4 < sizeLine by decide), same_upd2 s1 hD⟩
    replace gn : H2 pn = some (.lst (List.map V.int [bd b0, bd b1, bd b2, bd b3])) := gn
    replace gs : H3 ps = some (.lst (List.map V.int [bd c0, bd c1, bd c2, bd c3])) := gs
    have s23 := s2.trans s3
    have ne_gn : pn ≠ pc := (ne_of_none gc n2).symm
    have ne_gs : ps ≠ pc := (ne_of_none (s2 _ _ gc) n3).symm
    have gc3 := s23 _ _ gc
    have ne_hP : aP ≠ pc := ne_hP0
    have ne_hS : aS ≠ pc := ne_hS0
    walk_at "c s3 gn hG hC hP hS"
    refine ⟨by omega, by omega, lpW (walkR (n := h)) (fun i σ H' => ∃ (xv av dv iv cv rv yv : Option V), σ = [some (.ref aG), some (.ref aK), some (.ref aP), some (.ref aB), some (.int (w : Int)), some (.int (h : Int)), some (.ref pc), some (.ref pn), none, some (.ref ps), yv, xv, av, dv, iv, cv, rv] ∧ But pc H3 H' ∧
      H' pc = some (.lst (List.map V.int ((List.range i).foldl (dRow (bd b0) (bd b1) (bd b2) (bd b3) (bd c0) (bd c1) (bd c2) (bd c3) aw ah src w) cs)))) ⟨_, _, _, _, _, _, _, rfl, But.refl _ _, gc3⟩ (fun _ _ _ _ _ => True.intro) ?_ ?_⟩
    · rintro i x σ H' H5 hi ⟨xv, av, dv, iv, cv, rv, yv, rfl, bt, gp⟩ ⟨rfl, rfl⟩
      have hpl : ((List.range i).foldl (dRow (bd b0) (bd b1) (bd b2) (bd b3) (bd c0) (bd c1) (bd c2) (bd c3) aw ah src w) cs).length = w * h := by rw [foldl_len dRow_len, hl]
      rw [range_take _ _ hi]
      generalize (List.range i).foldl (dRow (bd b0) (bd b1) (bd b2) (bd b3) (bd c0) (bd c1) (bd c2) (bd c3) aw ah src w) cs = p0 at gp hpl ⊢
      walk_at "vc"
      refine ⟨by omega, by omega, lpW (walkR (n := w)) (fun j σ H' => ∃ (xv av dv iv cv rv : Option V), σ = [some (.ref aG), some (.ref aK), some (.ref aP), some (.ref aB), some (.int (w : Int)), some (.int (h : Int)), some (.ref pc), some (.ref pn), none, some (.ref ps), some (.int (i : Int)), xv, av, dv, iv, cv, rv] ∧ But pc H3 H' ∧
        H' pc = some (.lst (List.map V.int ((List.range j).foldl (dCell (bd b0) (bd b1) (bd b2) (bd b3) (bd c0) (bd c1) (bd c2) (bd c3) aw ah src w i) p0)))) ⟨_, _, _, _, _, _, rfl, bt, gp⟩ (fun _ _ _ _ _ => True.intro) ?_ ?_⟩
      · rintro j x σ H' H5 hj ⟨xv, av, dv, iv, cv, rv, rfl, bt, gp⟩ ⟨rfl, rfl⟩
        have hpl2 : ((List.range j).foldl (dCell (bd b0) (bd b1) (bd b2) (bd b3) (bd c0) (bd c1) (bd c2) (bd c3) aw ah src w i) p0).length = w * h := by rw [foldl_len dCell_len, hpl]
        rw [range_take _ _ hj]
        generalize (List.range j).foldl (dCell (bd b0) (bd b1) (bd b2) (bd b3) (bd c0) (bd c1) (bd c2) (bd c3) aw ah src w i) p0 = p1 at gp hpl2 ⊢
        walk_at "b bt ' gn gs hP hS"
        have h1 := bd_in b0
        have h2 := bd_in b1
        have h3 := bd_in b2
        have h4 := bd_in b3
        walk_at "vc gn' gs' hP' hS' gp"
        have no : ¬ ((bd b0 ≤ 4 * (j : Int) + 2 ∧ 4 * (j : Int) + 2 < bd b2) ∧ (bd b1 ≤ 4 * (i : Int) + 2 ∧ 4 * (i : Int) + 2 < bd b3) ∧ (bd c0 ≤ 4 * (j : Int) + 2 ∧ 4 * (j : Int) + 2 < bd c2) ∧ (bd c1 ≤ 4 * (i : Int) + 2 ∧ 4 * (i : Int) + 2 < bd c3)) →
            But pc H3 H5 ∧ p1 = dCell (bd b0) (bd b1) (bd b2) (bd b3) (bd c0) (bd c1) (bd c2) (bd c3) aw ah src w i p1 j := fun z => ⟨bt, by unfold dCell; rw [if_neg z]⟩
        refine iteP (fun a1 => iteP (fun a2 => iteP (fun a3 => iteP (fun a4 => iteP (fun a5 => iteP (fun a6 => iteP (fun a7 => iteP (fun a8 => ?_) fun z => no fun c => z c.2.2.2.2) fun z => no fun c => z c.2.2.2.1) fun z => no fun c => z c.2.2.1.2) fun z => no fun c => z c.2.2.1.1) fun z => no fun c => z c.2.1.2) fun z => no fun c => z c.2.1.1) fun z => no fun c => z c.1.2) fun z => no fun c => z c.1.1
        have hin := sidx_in (r := i) (c := j) ⟨a3, a4⟩ ⟨a1, a2⟩ haw.1 hah.1
        have hsx : (sidx (bd b0) (bd b1) (bd b2) (bd b3) aw ah i j).toNat < src.length := by rw [hsl]; omega
        have hat := at_g' (k := (4 * (i : Int) + 2 - bd b1) * ah / (bd b3 - bd b1) * aw + (4 * (j : Int) + 2 - bd b0) * aw / (bd b2 - bd b0)) (i := (sidx (bd b0) (bd b1) (bd b2) (bd b3) aw ah i j).toNat) (by rw [Int.toNat_of_nonneg hin.1]; rfl) hsx
        refine ⟨.inr ⟨by omega, by omega⟩, by omega, by omega, .inr ⟨by omega, by omega⟩, by omega, by omega, .inr ⟨by omega, by omega⟩, _, hat, _, rfl, ?_⟩
        unfold dCell
        have yes : (bd b0 ≤ 4 * (j : Int) + 2 ∧ 4 * (j : Int) + 2 < bd b2) ∧ (bd b1 ≤ 4 * (i : Int) + 2 ∧ 4 * (i : Int) + 2 < bd b3) ∧ (bd c0 ≤ 4 * (j : Int) + 2 ∧ 4 * (j : Int) + 2 < bd c2) ∧ (bd c1 ≤ 4 * (i : Int) + 2 ∧ 4 * (i : Int) + 2 < bd c3) := ⟨⟨a1, a2⟩, ⟨a3, a4⟩, ⟨a5, a6⟩, a7, a8⟩
        rw [if_pos yes]
        have hix := ix_in hi hj
        refine iteP (fun e => ?_) (fun e => ?_)
        · rw [if_pos e]
          refine ⟨.inr ⟨by omega, by omega⟩, _, hat, .inr ⟨by omega, by omega⟩, i * w + j, ?_, bt.put, by rw [List.map_set]⟩
          rw [ixN_in (by omega) (by rw [hpl2]; omega)]
          congr 1
        · rw [if_neg e]
          exact ⟨bt, rfl⟩
      · rintro σ H' ⟨xv, av, dv, iv, cv, rv, rfl, bt, gp⟩
        exact ⟨⟨_, _, _, _, _, _, _, rfl⟩, bt, gp⟩
    · rintro σ H' ⟨xv, av, dv, iv, cv, rv, yv, rfl, bt, gp⟩
      walk_at "vc"
      exact q _ pc (bt.same (s1.trans s23) n1) n1 gp
theorem gN_ge {src : List Int} (h : ∀ v ∈ src, -1 ≤ v) (i : Nat) : -1 ≤ gN src i := by
  unfold gN
  rw [List.getD_eq_getElem?_getD]
  cases e : src[i]? with
  | none => decide
  | some b => exact h b (List.mem_of_getElem? e)
theorem bd_le {c m : Int} (h0 : 0 ≤ m) (h1 : m < 1048576) : bd c ≤ m ↔ c ≤ m := by
  unfold bd
  repeat' split
  all_goals omega
theorem lt_bd {c m : Int} (h0 : 0 ≤ m) (h1 : m < 1048576) : m < bd c ↔ m < c := by
  unfold bd
  repeat' split
  all_goals omega
theorem foldl_same {α β : Type} {f : α → β → α} {l : List β} (h : ∀ a, ∀ b ∈ l, f a b = a) : ∀ a, l.foldl f a = a := by
  induction l with
  | nil => exact fun _ => rfl
  | cons x r ih => exact fun a => by rw [List.foldl_cons, h a x List.mem_cons_self]; exact ih (fun a b hb => h a b (List.mem_cons_of_mem _ hb)) a
theorem plc_due {x0 y0 x1 y1 c0 c1 c2 c3 : Int} {aw ah : Nat} {src : List Int} {w h : Nat} {cs : List Int} (hsrc : ∀ v ∈ src, -1 ≤ v) (hw : w ≤ 100) (hh : h ≤ 100) :
    dAll x0 y0 x1 y1 (bd c0) (bd c1) (bd c2) (bd c3) aw ah src w h cs = plc x0 y0 x1 y1 c0 c1 c2 c3 aw ah src w h cs := by
  unfold dAll plc wi
  rw [List.foldl_filter]
  refine foldl_ext' fun p r hr => ?_
  have hr := List.mem_range.mp hr
  unfold dRow prow
  by_cases hrow : inW (mx y0 c1) (mn y1 c3) r
  · rw [if_pos (decide_eq_true hrow), List.foldl_filter]
    refine foldl_ext' fun p c hc => ?_
    have hc := List.mem_range.mp hc
    have h1 := mx_le.mp hrow.1
    have h2 := lt_mn.mp hrow.2
    unfold dCell pcell
    by_cases hcol : inW (mx x0 c0) (mn x1 c2) c
    · have h3 := mx_le.mp hcol.1
      have h4 := lt_mn.mp hcol.2
      rw [if_pos (decide_eq_true hcol), if_pos ⟨⟨h3.1, h4.1⟩, ⟨h1.1, h2.1⟩, ⟨(bd_le (by omega) (by omega)).mpr h3.2, (lt_bd (by omega) (by omega)).mpr h4.2⟩, (bd_le (by omega) (by omega)).mpr h1.2, (lt_bd (by omega) (by omega)).mpr h2.2⟩]
      have := gN_ge hsrc (sidx x0 y0 x1 y1 aw ah r c).toNat
      by_cases e : gN src (sidx x0 y0 x1 y1 aw ah r c).toNat = -1
      · rw [if_pos e, if_neg (by omega)]
      · rw [if_neg e, if_pos (by omega)]
    · rw [if_neg (fun z => hcol (of_decide_eq_true z)), if_neg ?_]
      rintro ⟨⟨a1, a2⟩, _, ⟨a3, a4⟩, _⟩
      exact hcol ⟨mx_le.mpr ⟨a1, (bd_le (by omega) (by omega)).mp a3⟩, lt_mn.mpr ⟨a2, (lt_bd (by omega) (by omega)).mp a4⟩⟩
  · rw [if_neg (fun z => hrow (of_decide_eq_true z))]
    refine foldl_same (fun p c _ => ?_) p
    unfold dCell
    rw [if_neg]
    rintro ⟨_, ⟨a1, a2⟩, _, a3, a4⟩
    exact hrow ⟨mx_le.mpr ⟨a1, (bd_le (by omega) (by omega)).mp a3⟩, lt_mn.mpr ⟨a2, (lt_bd (by omega) (by omega)).mp a4⟩⟩

def spLaw (K : PySem.W.Frag) : Sp := fun vs H Q _ => ∃ (a : Addr) (ns : List Int), vs = [.ref a] ∧ SqL K H a (ns.map V.int) ∧ ns.length ≤ 63 ∧ ∀ H', Q (.bl true) H'
theorem ok_law_of {f : Addr} {fd : FuncData} (F : Fun K "law" "law" s_law f fd) (T : Txt K mg) : FnOk P w K mg base CX0 4 f fd ["script"] (spLaw K) := by
  refine F.ok sc_law (fun vs H Q E h => ?_) (fun cdv A outer s H vs Q E hr h => ?_)
  · obtain ⟨a, ns, rfl, _⟩ := h
    rfl
  · obtain ⟨a, ns, rfl, hS, hlen, q⟩ := h
    refine ⟨_, (pss_cons (ps_set (i := 1) sc_law.nd rfl (Or.inl rfl) (pe_call (ok__law_grid T) (hr.mono (by decide)) (by rfl) T.g__law_grid T.F__law_grid.kp T.b__law_grid .nil pass0 (pa_cons (pe_callB call_abs (by rfl) T.z_abs (by decide +kernel) (pa_cons (pe_call (ok__law_cell T a ns) (hr.mono (by decide)) (by rfl) T.g__law_cell T.F__law_cell.kp T.b__law_cell .nil pass0 (pa_cons (pv 0) (pa_cons pe_int pa_nil))) pa_nil)) (pa_cons (pe_cmpR op_eq (pe_op op_mod (pe_callTy call_int1 (by rfl) T.z_int (by decide +kernel) (pa_cons (pe_callB call_abs (by rfl) T.z_abs (by decide +kernel) (pa_cons (pe_call (ok__law_cell T a ns) (hr.mono (by decide)) (by rfl) T.g__law_cell T.F__law_cell.kp T.b__law_cell .nil pass0 (pa_cons (pv 0) (pa_cons pe_int pa_nil))) pa_nil)) pa_nil)) pe_int) pe_int (nomark _)) pa_nil))))
      (pss_cons (ps_set (i := 2) sc_law.nd rfl (Or.inl rfl) (pe_call (ok__law_grid T) (hr.mono (by decide)) (by rfl) T.g__law_grid T.F__law_grid.kp T.b__law_grid .nil pass0 (pa_cons (pe_callB call_abs (by rfl) T.z_abs (by decide +kernel) (pa_cons (pe_call (ok__law_cell T a ns) (hr.mono (by decide)) (by rfl) T.g__law_cell T.F__law_cell.kp T.b__law_cell .nil pass0 (pa_cons (pv 0) (pa_cons pe_int pa_nil))) pa_nil)) (pa_cons pe_bl pa_nil))))
      (pss_cons (ps_asg (pv 1) (pg_tupS (n := 3) (by rfl) (pgs_cons (pg_name (i := 3) sc_law.nd rfl (Or.inl rfl)) (pgs_cons (pg_name (i := 4) sc_law.nd rfl (Or.inl rfl)) (pgs_cons (pg_name (i := 5) sc_law.nd rfl (Or.inl rfl)) pgs_nil)))))
      (pss_cons (ps_set (i := 6) sc_law.nd rfl (Or.inl rfl) (pe_call (ok__law_box T) (hr.mono (by decide)) (by rfl) T.g__law_box T.F__law_box.kp T.b__law_box .nil pass0 (pa_cons (pe_callB call_abs (by rfl) T.z_abs (by decide +kernel) (pa_cons (pe_call (ok__law_cell T a ns) (hr.mono (by decide)) (by rfl) T.g__law_cell T.F__law_cell.kp T.b__law_cell .nil pass0 (pa_cons (pv 0) (pa_cons pe_int pa_nil))) pa_nil)) (pa_cons (pv 3) (pa_cons (pv 4) pa_nil)))))
      (pss_cons (ps_set (i := 7) sc_law.nd rfl (Or.inl rfl) (pe_call (ok__law_box T) (hr.mono (by decide)) (by rfl) T.g__law_box T.F__law_box.kp T.b__law_box .nil pass0 (pa_cons (pe_callB call_abs (by rfl) T.z_abs (by decide +kernel) (pa_cons (pe_call (ok__law_cell T a ns) (hr.mono (by decide)) (by rfl) T.g__law_cell T.F__law_cell.kp T.b__law_cell .nil pass0 (pa_cons (pv 0) (pa_cons pe_int pa_nil))) pa_nil)) (pa_cons (pv 3) (pa_cons (pv 4) pa_nil)))))
      (pss_cons (ps_set (i := 8) sc_law.nd rfl (Or.inl rfl) (pe_tupS (pa_cons (pv 3) (pa_cons (pv 4) (pa_cons (pe_callTy call_listS (by rfl) T.z_list (by decide +kernel) (pa_cons (pv 5) pa_nil)) pa_nil)))))
      (pss_cons (ps_set (i := 9) sc_law.nd rfl (Or.inl rfl) (pe_tupS (pa_cons (pe_ix ix_tupH (pv 2) pe_int (fun _ _ => rfl)) (pa_cons (pe_ix ix_tupH (pv 2) pe_int (fun _ _ => rfl)) (pa_cons (pe_callTy call_listS (by rfl) T.z_list (by decide +kernel) (pa_cons (pe_ix ix_tupH (pv 2) pe_int (fun _ _ => rfl)) pa_nil)) pa_nil)))))
      (pss_cons (ps_set (i := 10) sc_law.nd rfl (Or.inl rfl) (pe_call (ok_place T) hr (by rfl) T.g_place T.F_place.kp T.b_place .nil pass0 (pa_cons (pv 8) (pa_cons (pv 6) (pa_cons (pv 9) (pa_cons (pv 7) pa_nil))))))
      (pss_cons (ps_if (pt_not (pt_val (pe_call (ok__law_is_grid T) (hr.mono (by decide)) (by rfl) T.g__law_is_grid T.F__law_is_grid.kp T.b__law_is_grid .nil pass0 (pa_cons (pv 10) (pa_cons (pv 3) (pa_cons (pv 4) (pa_cons (pe_call (ok__law_due T) (hr.mono (by decide)) (by rfl) T.g__law_due T.F__law_due.kp T.b__law_due .nil pass0 (pa_cons (pv 1) (pa_cons (pv 6) (pa_cons (pv 2) (pa_cons (pv 7) pa_nil))))) pa_nil))))))) (pss_one (ps_ret pe_bl)) pss_nil)
      (pss_cons (ps_asg pe_int (pg_sub (pe_ix ix_tupH (pv 10) pe_int (fun _ _ => rfl)) pe_int set_list))
      (pss_one (ps_ret (pe_and (pe_cmpR (op_eqIL hr.units) (pe_ix ix_tupH (pv 8) pe_int (fun _ _ => rfl)) (pv 5) (nomark _)) (pe_one (pe_cmpR (op_eqG hr.units) (pv 9) (pv 2) (nomark _)))))))))))))))), ?_⟩
    walk_at "vc sp__law_cell hS sp__law_grid"
    refine ⟨absI_nn _, fun H1 pg pc w h cs s1 n1 m1 g1 c1 w1 w2 h1 h2 hl hB => ?_⟩
    have hS1 := s1.seq hS
    walk_at "vc hS1"
    refine ⟨absI_nn _, fun H2 pp ps aw ah src s2 n2 m2 g2 c2 aw1 aw2 ah1 ah2 hsl hsB => ?_⟩
    have hS2 := s2.seq hS1
    walk_at "c s2 g1 c1"
    walk_at "vc hS2 g1 sp__law_box"
    refine ⟨absI_nn _, w1, w2, h1, h2, fun H3 p3 x0 y0 x1 y1 s3 n3 g3 => ?_⟩
    have hS3 := s3.seq hS2
    walk_at "c s3 g1 c1 g2 c2"
    walk_at "vc hS3"
    refine ⟨absI_nn _, w1, w2, h1, h2, fun H4 p4 b0 b1 b2 b3 s4 n4 g4 => ?_⟩
    walk_at "c s4 g1 c1 g2 c2 g3"
    walk_at "vc c1"
    intro q5 H5 s5 n5 g5 q6 H6 s6 n6 g6
    walk_at "c s5 g1 c1 g2 c2 g3 g4"
    walk_at "c s6 g1 c1 g2 c2 g3 g4 g5"
    walk_at "vc g2 c2"
    intro q7 H7 s7 n7 g7 q8 H8 s8 n8 g8
    walk_at "c s7 g1 c1 g2 c2 g3 g4 g5 g6"
    walk_at "c s8 g1 c1 g2 c2 g3 g4 g5 g6 g7"
    refine ⟨q6, q5, p3, q8, q7, p4, w, h, aw, ah, cs, src, x0, y0, x1, y1, b0, b1, b2, b3, rfl, g6, g5, g3, g8, g7, g4, hl, hsl, by omega, by omega, by omega, by omega, fun H9 p9 c9 s9 n9 m9 g9 k9 => ?_⟩
    have ne_g6 : q6 ≠ c9 := ne_of_none g6 m9
    have ne_g5 : q5 ≠ c9 := ne_of_none g5 m9
    have ne_c1 : pc ≠ c9 := ne_of_none c1 m9
    have ne_g8 : q8 ≠ c9 := ne_of_none g8 m9
    have ne_g7 : q7 ≠ c9 := ne_of_none g7 m9
    have ne_g2 : pp ≠ c9 := ne_of_none g2 m9
    have ne_c2 : ps ≠ c9 := ne_of_none c2 m9
    walk_at "c s9 g1 c1 g2 c2 g3 g4 g5 g6 g7 g8"
    walk_at "vc"
    refine ⟨pg, pc, p3, pp, ps, p4, w, h, aw, ah, cs, src, x0, y0, x1, y1, b0, b1, b2, b3, rfl, g1, c1, g3, g2, c2, g4, hl, hsl, by omega, by omega, by omega, by omega, fun H10 c10 s10 m10 k10 => ?_⟩
    rw [plc_due (fun v hv => (hsB v hv).1) (by omega) (by omega)] at k10
    walk_at "c s10 g1 c1 g2 c2 g3 g4 g5 g6 g7 g8 g9 k9"
    have hpl : (plc (bd b0) (bd b1) (bd b2) (bd b3) x0 y0 x1 y1 aw ah src w h cs).length = w * h := by unfold plc; rw [foldl_len prow_len, hl]
    have hwh : 1 ≤ w * h := Nat.mul_pos w1 h1
    walk_at "vc sp__law_is_grid g9 k9 k10"
    refine ⟨0, ixN_in (by omega) (by omega), ?_⟩
    have bt : But c9 H10 (upd H10 c9 (.lst (List.map V.int ((plc (bd b0) (bd b1) (bd b2) (bd b3) x0 y0 x1 y1 aw ah src w h cs).set 0 9)))) := (But.refl _ _).put
    generalize upd H10 c9 (.lst (List.map V.int ((plc (bd b0) (bd b1) (bd b2) (bd b3) x0 y0 x1 y1 aw ah src w h cs).set 0 9))) = H11 at bt ⊢
    walk_at "b bt ' g6 g5 c1 g8 g7 g2 c2"
    walk_at "vc g6' g5' c1' g8' g7' g2' c2' rEqG"
    exact q _

end
theorem all_mk {l : PySem.W.OpenLaw} {w : World} {K : PySem.W.Frag} {h : Heap} {mg : Str → Option Value} {fa : Addr} (X : K.In h) (G : h.Ns mainGlobals mg) (hfa : mg "law" = some (.ref fa))
    {f1 : Addr} {od1 an1 : Option Addr} {sl1 : Array (Option Value)} {oc1 kV1 dc1 pm1 cd1 ct1 : Value}
    (a1 : PySem.W.nsIn K mainGlobals "bounded" = some (some (.ref f1))) (l1 : K.lookup f1 = some ⟨oc1, od1, .func (PySem.W.fnOf "bounded" "bounded" (defArgs s_bounded) (defBody s_bounded) (defScope s_bounded) .none kV1 dc1 pm1 an1 cd1 ct1), sl1⟩) (c1 : PySem.W.codeIn K cd1 "bounded" = true) (k1 : PySem.W.keepIn K (.ref f1) = true)
    {f2 : Addr} {od2 an2 : Option Addr} {sl2 : Array (Option Value)} {oc2 kV2 dc2 pm2 cd2 ct2 : Value}
    (a2 : PySem.W.nsIn K mainGlobals "middle" = some (some (.ref f2))) (l2 : K.lookup f2 = some ⟨oc2, od2, .func (PySem.W.fnOf "middle" "middle" (defArgs s_middle) (defBody s_middle) (defScope s_middle) .none kV2 dc2 pm2 an2 cd2 ct2), sl2⟩) (c2 : PySem.W.codeIn K cd2 "middle" = true) (k2 : PySem.W.keepIn K (.ref f2) = true)
    {f3 : Addr} {od3 an3 : Option Addr} {sl3 : Array (Option Value)} {oc3 kV3 dc3 pm3 cd3 ct3 : Value}
    (a3 : PySem.W.nsIn K mainGlobals "_within" = some (some (.ref f3))) (l3 : K.lookup f3 = some ⟨oc3, od3, .func (PySem.W.fnOf "_within" "_within" (defArgs s__within) (defBody s__within) (defScope s__within) .none kV3 dc3 pm3 an3 cd3 ct3), sl3⟩) (c3 : PySem.W.codeIn K cd3 "_within" = true) (k3 : PySem.W.keepIn K (.ref f3) = true)
    {f4 : Addr} {od4 an4 : Option Addr} {sl4 : Array (Option Value)} {oc4 kV4 dc4 pm4 cd4 ct4 : Value}
    (a4 : PySem.W.nsIn K mainGlobals "place" = some (some (.ref f4))) (l4 : K.lookup f4 = some ⟨oc4, od4, .func (PySem.W.fnOf "place" "place" (defArgs s_place) (defBody s_place) (defScope s_place) .none kV4 dc4 pm4 an4 cd4 ct4), sl4⟩) (c4 : PySem.W.codeIn K cd4 "place" = true) (k4 : PySem.W.keepIn K (.ref f4) = true)
    {f5 : Addr} {od5 an5 : Option Addr} {sl5 : Array (Option Value)} {oc5 kV5 dc5 pm5 cd5 ct5 : Value}
    (a5 : PySem.W.nsIn K mainGlobals "_law_cell" = some (some (.ref f5))) (l5 : K.lookup f5 = some ⟨oc5, od5, .func (PySem.W.fnOf "_law_cell" "_law_cell" (defArgs s__law_cell) (defBody s__law_cell) (defScope s__law_cell) .none kV5 dc5 pm5 an5 cd5 ct5), sl5⟩) (c5 : PySem.W.codeIn K cd5 "_law_cell" = true) (k5 : PySem.W.keepIn K (.ref f5) = true)
    {f6 : Addr} {od6 an6 : Option Addr} {sl6 : Array (Option Value)} {oc6 kV6 dc6 pm6 cd6 ct6 : Value}
    (a6 : PySem.W.nsIn K mainGlobals "_law_is_integer" = some (some (.ref f6))) (l6 : K.lookup f6 = some ⟨oc6, od6, .func (PySem.W.fnOf "_law_is_integer" "_law_is_integer" (defArgs s__law_is_integer) (defBody s__law_is_integer) (defScope s__law_is_integer) .none kV6 dc6 pm6 an6 cd6 ct6), sl6⟩) (c6 : PySem.W.codeIn K cd6 "_law_is_integer" = true) (k6 : PySem.W.keepIn K (.ref f6) = true)
    {f7 : Addr} {od7 an7 : Option Addr} {sl7 : Array (Option Value)} {oc7 kV7 dc7 pm7 cd7 ct7 : Value}
    (a7 : PySem.W.nsIn K mainGlobals "_law_colour" = some (some (.ref f7))) (l7 : K.lookup f7 = some ⟨oc7, od7, .func (PySem.W.fnOf "_law_colour" "_law_colour" (defArgs s__law_colour) (defBody s__law_colour) (defScope s__law_colour) .none kV7 dc7 pm7 an7 cd7 ct7), sl7⟩) (c7 : PySem.W.codeIn K cd7 "_law_colour" = true) (k7 : PySem.W.keepIn K (.ref f7) = true)
    {f8 : Addr} {od8 an8 : Option Addr} {sl8 : Array (Option Value)} {oc8 kV8 dc8 pm8 cd8 ct8 : Value}
    (a8 : PySem.W.nsIn K mainGlobals "_law_grid" = some (some (.ref f8))) (l8 : K.lookup f8 = some ⟨oc8, od8, .func (PySem.W.fnOf "_law_grid" "_law_grid" (defArgs s__law_grid) (defBody s__law_grid) (defScope s__law_grid) .none kV8 dc8 pm8 an8 cd8 ct8), sl8⟩) (c8 : PySem.W.codeIn K cd8 "_law_grid" = true) (k8 : PySem.W.keepIn K (.ref f8) = true)
    {f9 : Addr} {od9 an9 : Option Addr} {sl9 : Array (Option Value)} {oc9 kV9 dc9 pm9 cd9 ct9 : Value}
    (a9 : PySem.W.nsIn K mainGlobals "_law_is_grid" = some (some (.ref f9))) (l9 : K.lookup f9 = some ⟨oc9, od9, .func (PySem.W.fnOf "_law_is_grid" "_law_is_grid" (defArgs s__law_is_grid) (defBody s__law_is_grid) (defScope s__law_is_grid) .none kV9 dc9 pm9 an9 cd9 ct9), sl9⟩) (c9 : PySem.W.codeIn K cd9 "_law_is_grid" = true) (k9 : PySem.W.keepIn K (.ref f9) = true)
    {f10 : Addr} {od10 an10 : Option Addr} {sl10 : Array (Option Value)} {oc10 kV10 dc10 pm10 cd10 ct10 : Value}
    (a10 : PySem.W.nsIn K mainGlobals "_law_bounded" = some (some (.ref f10))) (l10 : K.lookup f10 = some ⟨oc10, od10, .func (PySem.W.fnOf "_law_bounded" "_law_bounded" (defArgs s__law_bounded) (defBody s__law_bounded) (defScope s__law_bounded) .none kV10 dc10 pm10 an10 cd10 ct10), sl10⟩) (c10 : PySem.W.codeIn K cd10 "_law_bounded" = true) (k10 : PySem.W.keepIn K (.ref f10) = true)
    {f11 : Addr} {od11 an11 : Option Addr} {sl11 : Array (Option Value)} {oc11 kV11 dc11 pm11 cd11 ct11 : Value}
    (a11 : PySem.W.nsIn K mainGlobals "_law_box" = some (some (.ref f11))) (l11 : K.lookup f11 = some ⟨oc11, od11, .func (PySem.W.fnOf "_law_box" "_law_box" (defArgs s__law_box) (defBody s__law_box) (defScope s__law_box) .none kV11 dc11 pm11 an11 cd11 ct11), sl11⟩) (c11 : PySem.W.codeIn K cd11 "_law_box" = true) (k11 : PySem.W.keepIn K (.ref f11) = true)
    {f12 : Addr} {od12 an12 : Option Addr} {sl12 : Array (Option Value)} {oc12 kV12 dc12 pm12 cd12 ct12 : Value}
    (a12 : PySem.W.nsIn K mainGlobals "_law_due" = some (some (.ref f12))) (l12 : K.lookup f12 = some ⟨oc12, od12, .func (PySem.W.fnOf "_law_due" "_law_due" (defArgs s__law_due) (defBody s__law_due) (defScope s__law_due) .none kV12 dc12 pm12 an12 cd12 ct12), sl12⟩) (c12 : PySem.W.codeIn K cd12 "_law_due" = true) (k12 : PySem.W.keepIn K (.ref f12) = true)
    {f13 : Addr} {od13 an13 : Option Addr} {sl13 : Array (Option Value)} {oc13 kV13 dc13 pm13 cd13 ct13 : Value}
    (a13 : PySem.W.nsIn K mainGlobals "law" = some (some (.ref f13))) (l13 : K.lookup f13 = some ⟨oc13, od13, .func (PySem.W.fnOf "law" "law" (defArgs s_law) (defBody s_law) (defScope s_law) .none kV13 dc13 pm13 an13 cd13 ct13), sl13⟩) (c13 : PySem.W.codeIn K cd13 "law" = true) (k13 : PySem.W.keepIn K (.ref f13) = true)
    {t14 : Tok} (a14 : PySem.W.nsIn K mainGlobals "_FARTHEST" = some (some (.int 1048576 t14)))
    {t15 : Tok} (a15 : PySem.W.nsIn K mainGlobals "NO_COLOUR" = some (some (.int (-1) t15)))
    (a16 : PySem.W.nsIn K mainGlobals "abs" = some none)
    (a17 : PySem.W.nsIn K mainGlobals "bool" = some none)
    (a18 : PySem.W.nsIn K mainGlobals "int" = some none)
    (a19 : PySem.W.nsIn K mainGlobals "isinstance" = some none)
    (a20 : PySem.W.nsIn K mainGlobals "len" = some none)
    (a21 : PySem.W.nsIn K mainGlobals "list" = some none)
    (a22 : PySem.W.nsIn K mainGlobals "max" = some none)
    (a23 : PySem.W.nsIn K mainGlobals "min" = some none)
    (a24 : PySem.W.nsIn K mainGlobals "range" = some none)
    (a25 : PySem.W.nsIn K mainGlobals "tuple" = some none)
    : ∃ fd : FuncData, (∀ (s : Shared) (v : Value), BindsTo s fd ⟨[v], []⟩ [("script", v)]) ∧ ∀ base : Heap, K.In base → base.Ns mainGlobals mg → FnOk l.prog w K mg base CX0 4 fa fd ["script"] (spLaw K) := by
  have e := hfa.symm.trans (PySem.W.mg_of X G a13)
  cases e
  have F1 := fun_mk (st := s_bounded) l1 c1 k1
  have b1 := F1.binds (ps := ["number"]) fun _ _ _ _ _ _ us hl => match us, hl with | [_], _ => rfl
  have F2 := fun_mk (st := s_middle) l2 c2 k2
  have b2 := F2.binds (ps := ["at"]) fun _ _ _ _ _ _ us hl => match us, hl with | [_], _ => rfl
  have F3 := fun_mk (st := s__within) l3 c3 k3
  have b3 := F3.binds (ps := ["begin", "end", "count"]) fun _ _ _ _ _ _ us hl => match us, hl with | [_, _, _], _ => rfl
  have F4 := fun_mk (st := s_place) l4 c4 k4
  have b4 := F4.binds (ps := ["grid", "clip", "picture", "box"]) fun _ _ _ _ _ _ us hl => match us, hl with | [_, _, _, _], _ => rfl
  have F5 := fun_mk (st := s__law_cell) l5 c5 k5
  have b5 := F5.binds (ps := ["script", "k"]) fun _ _ _ _ _ _ us hl => match us, hl with | [_, _], _ => rfl
  have F6 := fun_mk (st := s__law_is_integer) l6 c6 k6
  have b6 := F6.binds (ps := ["actual"]) fun _ _ _ _ _ _ us hl => match us, hl with | [_], _ => rfl
  have F7 := fun_mk (st := s__law_colour) l7 c7 k7
  have b7 := F7.binds (ps := ["cell"]) fun _ _ _ _ _ _ us hl => match us, hl with | [_], _ => rfl
  have F8 := fun_mk (st := s__law_grid) l8 c8 k8
  have b8 := F8.binds (ps := ["cell", "nones"]) fun _ _ _ _ _ _ us hl => match us, hl with | [_, _], _ => rfl
  have F9 := fun_mk (st := s__law_is_grid) l9 c9 k9
  have b9 := F9.binds (ps := ["actual", "width", "height", "cells"]) fun _ _ _ _ _ _ us hl => match us, hl with | [_, _, _, _], _ => rfl
  have F10 := fun_mk (st := s__law_bounded) l10 c10 k10
  have b10 := F10.binds (ps := ["number"]) fun _ _ _ _ _ _ us hl => match us, hl with | [_], _ => rfl
  have F11 := fun_mk (st := s__law_box) l11 c11 k11
  have b11 := F11.binds (ps := ["cell", "width", "height"]) fun _ _ _ _ _ _ us hl => match us, hl with | [_, _, _], _ => rfl
  have F12 := fun_mk (st := s__law_due) l12 c12 k12
  have b12 := F12.binds (ps := ["grid", "clip", "picture", "box"]) fun _ _ _ _ _ _ us hl => match us, hl with | [_, _, _, _], _ => rfl
  have F13 := fun_mk (st := s_law) l13 c13 k13
  have b13 := F13.binds (ps := ["script"]) fun _ _ _ _ _ _ us hl => match us, hl with | [_], _ => rfl
  have T : Txt K mg := ⟨f1, _, F1, b1, PySem.W.mg_of X G a1,
    f2, _, F2, b2, PySem.W.mg_of X G a2,
    f3, _, F3, b3, PySem.W.mg_of X G a3,
    f4, _, F4, b4, PySem.W.mg_of X G a4,
    f5, _, F5, b5, PySem.W.mg_of X G a5,
    f6, _, F6, b6, PySem.W.mg_of X G a6,
    f7, _, F7, b7, PySem.W.mg_of X G a7,
    f8, _, F8, b8, PySem.W.mg_of X G a8,
    f9, _, F9, b9, PySem.W.mg_of X G a9,
    f10, _, F10, b10, PySem.W.mg_of X G a10,
    f11, _, F11, b11, PySem.W.mg_of X G a11,
    f12, _, F12, b12, PySem.W.mg_of X G a12,
    fa, _, F13, b13, PySem.W.mg_of X G a13,
    t14, PySem.W.mg_of X G a14,
    t15, PySem.W.mg_of X G a15,
    PySem.W.mg_none_of X G a16,
    PySem.W.mg_none_of X G a17,
    PySem.W.mg_none_of X G a18,
    PySem.W.mg_none_of X G a19,
    PySem.W.mg_none_of X G a20,
    PySem.W.mg_none_of X G a21,
    PySem.W.mg_none_of X G a22,
    PySem.W.mg_none_of X G a23,
    PySem.W.mg_none_of X G a24,
    PySem.W.mg_none_of X G a25⟩
  refine ⟨PySem.W.fnOf "law" "law" (defArgs s_law) (defBody s_law) (defScope s_law) .none kV13 dc13 pm13 an13 cd13 ct13, fun s v => .of_eq rfl, fun base _ _ => ?_⟩
  exact ok_law_of F13 T
end K38
open PySem PySem.W PyProof.Rows
set_option maxRecDepth 100000 in
set_option maxHeartbeats 0 in
theorem PySem.Challenge.cw_stillroom_k38_pictures_at_places_holds : PySem.Challenge.rw_stillroom_k38_pictures_at_places.Holds := by
  w_on; o_law; k_head; (case hw => w_witness2)
  k_fill
  refine L2.walk_of (l := PySem.Challenge.rw_stillroom_k38_pictures_at_places) (n := 63) (k := 4) (x := "script") (CX := fun _ => L2.CX0) (sp := fun w => K38.spLaw _) rfl (by decide) rfl ⟨rfl, by decide, by decide⟩ (fun w h Y => PySem.W.kIn_of Y) ?F (fun _ _ a ns hl _ hS => ⟨a, ns, rfl, hS, hl, fun _ => rfl⟩) (fun _ _ _ _ _ h => h)
  case F =>
    intro w mg fa h KX G hmg
    refine' K38.all_mk KX G hmg ?a1 ?l1 ?c1 ?k1 ?a2 ?l2 ?c2 ?k2 ?a3 ?l3 ?c3 ?k3 ?a4 ?l4 ?c4 ?k4 ?a5 ?l5 ?c5 ?k5 ?a6 ?l6 ?c6 ?k6 ?a7 ?l7 ?c7 ?k7 ?a8 ?l8 ?c8 ?k8 ?a9 ?l9 ?c9 ?k9 ?a10 ?l10 ?c10 ?k10 ?a11 ?l11 ?c11 ?k11 ?a12 ?l12 ?c12 ?k12 ?a13 ?l13 ?c13 ?k13 ?a14 ?a15 ?a16 ?a17 ?a18 ?a19 ?a20 ?a21 ?a22 ?a23 ?a24 ?a25
    (case a1 => k_is)
    (case l1 => k_is)
    (case c1 => k_is)
    (case k1 => k_is)
    (case a2 => k_is)
    (case l2 => k_is)
    (case c2 => k_is)
    (case k2 => k_is)
    (case a3 => k_is)
    (case l3 => k_is)
    (case c3 => k_is)
    (case k3 => k_is)
    (case a4 => k_is)
    (case l4 => k_is)
    (case c4 => k_is)
    (case k4 => k_is)
    (case a5 => k_is)
    (case l5 => k_is)
    (case c5 => k_is)
    (case k5 => k_is)
    (case a6 => k_is)
    (case l6 => k_is)
    (case c6 => k_is)
    (case k6 => k_is)
    (case a7 => k_is)
    (case l7 => k_is)
    (case c7 => k_is)
    (case k7 => k_is)
    (case a8 => k_is)
    (case l8 => k_is)
    (case c8 => k_is)
    (case k8 => k_is)
    (case a9 => k_is)
    (case l9 => k_is)
    (case c9 => k_is)
    (case k9 => k_is)
    (case a10 => k_is)
    (case l10 => k_is)
    (case c10 => k_is)
    (case k10 => k_is)
    (case a11 => k_is)
    (case l11 => k_is)
    (case c11 => k_is)
    (case k11 => k_is)
    (case a12 => k_is)
    (case l12 => k_is)
    (case c12 => k_is)
    (case k12 => k_is)
    (case a13 => k_is)
    (case l13 => k_is)
    (case c13 => k_is)
    (case k13 => k_is)
    (case a14 => k_is)
    (case a15 => k_is)
    (case a16 => k_is)
    (case a17 => k_is)
    (case a18 => k_is)
    (case a19 => k_is)
    (case a20 => k_is)
    (case a21 => k_is)
    (case a22 => k_is)
    (case a23 => k_is)
    (case a24 => k_is)
    (case a25 => k_is)

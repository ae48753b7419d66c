

import PyProof.Rows.All
import Wide.All
import OpenK.AllK
import Wide.FinOn
import HandS.ForMost
import HandS.Wide
import HandS.IsInst
import HandS.FStr
import HandS.Zip
import HandS.CallLocal
import HandS.Walk
import HandS.TryOnly
import HandS.TupAny
import HandS.DictComp
import HandS.Deep
import PyProof.DictMoreH
import HandS.Text
import HandS.Codes
import KE.GoesMore
import HandS.Style
import HandS.Rev
import HandS.ExcOwn
import HandS.WordsExc
import HandS.ExcIs
import HandS.TryMany
import PySem.Challenge.RW_stillroom_k28_runes_of_bytes
set_option Elab.async false
set_option linter.all false
set_option maxRecDepth 100000
namespace K28
open PySem PySem.Spec PyProof.Rows L2

/-! ### rules with plainer readings -/
section
variable {X : Cx}
theorem CallR.of {f : Value} {r r' : List V → Hp → VK → Prop} (h : CallR X f r) (k : ∀ xs H Q, r' xs H Q → r xs H Q) : CallR X f r' := fun pins s σ H xs us Q I rv q => h pins s σ H xs us Q I rv (k xs H Q q)
theorem OpR.of {f : Value → Value → Sem Value} {r r' : R2} (h : OpR X f r) (k : ∀ x y H Q, r' x y H Q → r x y H Q) : OpR X f r' := fun pins s σ H x y v u Q I rx ry q => h pins s σ H x y v u Q I rx ry (k x y H Q q)
/-- the name of a plain value's type -/
def tnm : V → Option String
  | .non => some "NoneType"
  | .bl _ => some "bool"
  | .int _ => some "int"
  | .str _ => some "str"
  | _ => none
theorem tnm_int (i : Int) : tnm (.int i) = some "int" := rfl
theorem tnm_bl (b : Bool) : tnm (.bl b) = some "bool" := rfl
theorem tnm_str (x : Str) : tnm (.str x) = some "str" := rfl
theorem tnm_non : tnm .non = some "NoneType" := rfl
theorem tnm_ref (p : Addr) : tnm (.ref p) = none := rfl
theorem scal_ii (i j : Int) : scal (.int i) (.int j) = true := rfl
theorem scal_ss (i j : Str) : scal (.str i) (.str j) = true := rfl
theorem scal_bb (i j : Bool) : scal (.bl i) (.bl j) = true := rfl
theorem scal_nn : scal .non .non = true := rfl
theorem scal_in (i : Int) : scal (.int i) .non = true := rfl
theorem scal_ni (i : Int) : scal .non (.int i) = true := rfl
def rIsiB : List V → Hp → VK → Prop := fun vs H Q => (∃ x n a b, vs = [x, .ty n] ∧ tnm x = some a ∧ kitB a n = some b ∧ Q (.bl b) H) ∨
  (∃ p n xs b, vs = [.ref p, .ty n] ∧ H p = some (.lst xs) ∧ kitB "list" n = some b ∧ Q (.bl b) H) ∨ ∃ p n xs b, vs = [.ref p, .ty n] ∧ H p = some (.tup xs) ∧ kitB "tuple" n = some b ∧ Q (.bl b) H
theorem call_isiB : CallR X (.builtin "isinstance") rIsiB := CallR.of call_isi (by
  intro vs H Q h
  rcases h with ⟨x, n, a, b, rfl, ha, hb, q⟩ | ⟨p, n, xs, b, rfl, ha, hb, q⟩ | ⟨p, n, xs, b, rfl, ha, hb, q⟩
  · refine ⟨x, .ty n, .type a, .type n, b, rfl, .ty n, ?_, kit_ty hb, q⟩
    cases x <;> cases ha
    · exact .base .non
    · exact .base (.bl _)
    · exact .base (.int _)
    · exact .base (.str _)
  · exact ⟨.ref p, .ty n, .type "list", .type n, b, rfl, .ty n, .base (.lst ha), kit_ty hb, q⟩
  · exact ⟨.ref p, .ty n, .type "tuple", .type n, b, rfl, .ty n, .base (.tup ha), kit_ty hb, q⟩)
theorem kb1 : kitB "int" "int" = some true := by decide +kernel
theorem kb2 : kitB "int" "bool" = some false := by decide +kernel
theorem kb3 : kitB "bool" "bool" = some true := by decide +kernel
theorem kb4 : kitB "bool" "int" = some true := by decide +kernel
theorem kb5 : kitB "str" "str" = some true := by decide +kernel
theorem kb6 : kitB "str" "int" = some false := by decide +kernel
theorem kb7 : kitB "list" "list" = some true := by decide +kernel
theorem kb8 : kitB "tuple" "tuple" = some true := by decide +kernel
theorem kb9 : kitB "NoneType" "int" = some false := by decide +kernel
theorem kb10 : kitB "NoneType" "list" = some false := by decide +kernel
/-- len, a copy, an item of a tracked list -/
def rLenH : List V → Hp → VK → Prop := fun vs H Q => ∃ p xs, vs = [.ref p] ∧ H p = some (.lst xs) ∧ Q (.int xs.length) H
theorem call_lenH : CallR X (.builtin "len") rLenH := CallR.of call_len_seq (by
  rintro vs H Q ⟨p, xs, rfl, h, q⟩
  exact ⟨p, xs, rfl, .inl (.inl (.inl h)), q⟩)
def rLenT : List V → Hp → VK → Prop := fun vs H Q => ∃ p xs, vs = [.ref p] ∧ H p = some (.tup xs) ∧ Q (.int xs.length) H
theorem call_lenT : CallR X (.builtin "len") rLenT := CallR.of call_len_seq (by
  rintro vs H Q ⟨p, xs, rfl, h, q⟩
  exact ⟨p, xs, rfl, .inr (.inl (.inl h)), q⟩)
def rListH : List V → Hp → VK → Prop := fun vs H Q => ∃ p xs, vs = [.ref p] ∧ H p = some (.lst xs) ∧ ∀ l, H l = none → Q (.ref l) (upd H l (.lst xs))
theorem call_listH : CallR X (.type "list") rListH := CallR.of call_list_of (by
  rintro vs H Q ⟨p, xs, rfl, h, q⟩
  exact ⟨p, xs, rfl, .inl (.inl (.inl h)), q⟩)
theorem ints_dp {K : PySem.W.Frag} {H : Hp} : ∀ ns : List Int, DpAll K H (ns.map V.int) (ns.map PyData.int)
  | [] => .nil
  | n :: r => .cons (.int n) (ints_dp r)
theorem ints_eqv : ∀ ns ms : List Int, PyData.eqvAll (ns.map PyData.int) (ms.map PyData.int) = decide (ns = ms)
  | [], [] => by simp [PyData.eqvAll]
  | [], _ :: _ => by simp [PyData.eqvAll]
  | _ :: _, [] => by simp [PyData.eqvAll]
  | n :: r, m :: q => by
    rw [List.map_cons, List.map_cons, PyData.eqvAll, ints_eqv r q]
    simp only [PyData.eqv, List.cons.injEq, Bool.decide_and]
    by_cases h : n = m <;> simp [h]
theorem ints_lay : ∀ ns : List Int, PyData.canLayAll0 (ns.map PyData.int) = true
  | [] => rfl
  | _ :: r => by rw [List.map_cons, PyData.canLayAll0, ints_lay r]; rfl
theorem ints_depth : ∀ ns : List Int, PyData.depthAll (ns.map PyData.int) = 0
  | [] => rfl
  | _ :: r => by rw [List.map_cons, PyData.depthAll, ints_depth r]; rfl
theorem ints_shaped (ns : List Int) : SeqAt.shaped (.list (ns.map PyData.int)) = true := by
  unfold SeqAt.shaped
  rw [PyData.canLay0, ints_lay, PyData.depth, ints_depth]
  rfl
/-- == and != of two tracked lists of ints -/
def rEqIL : R2 := fun x y H Q => ∃ a b ns ms, x = .ref a ∧ y = .ref b ∧ H a = some (.lst (List.map V.int ns)) ∧ H b = some (.lst (List.map V.int ms)) ∧ Q (.bl (decide (ns = ms))) H
theorem op_eqIL (hu : X.A.units + 64 < cLine) : OpR X (compareOp .Eq) rEqIL := OpR.of (op_eqD hu) (by
  rintro x y H Q ⟨a, b, ns, ms, rfl, rfl, ha, hb, q⟩
  refine ⟨_, _, .lst (.inl (.inl ha)) (ints_dp ns), .lst (.inl (.inl hb)) (ints_dp ms), ints_shaped ns, ints_shaped ms, ?_⟩
  rw [PyData.eqv, ints_eqv]
  exact q)
def rNeIL : R2 := fun x y H Q => ∃ a b ns ms, x = .ref a ∧ y = .ref b ∧ H a = some (.lst (List.map V.int ns)) ∧ H b = some (.lst (List.map V.int ms)) ∧ Q (.bl (!decide (ns = ms))) H
theorem op_neIL (hu : X.A.units + 64 < cLine) : OpR X (compareOp .NotEq) rNeIL := OpR.of (op_neD hu) (by
  rintro x y H Q ⟨a, b, ns, ms, rfl, rfl, ha, hb, q⟩
  refine ⟨_, _, .lst (.inl (.inl ha)) (ints_dp ns), .lst (.inl (.inl hb)) (ints_dp ms), ints_shaped ns, ints_shaped ms, ?_⟩
  rw [PyData.eqv, ints_eqv]
  exact q)
/-- == of two tracked tuples of plain things -/
def dS : V → PyData
  | .int i => .int i
  | .bl b => .bool b
  | _ => .none
def isS : V → Bool
  | .int _ => true
  | .bl _ => true
  | .non => true
  | _ => false
theorem isS_dp {K : PySem.W.Frag} {H : Hp} : ∀ xs : List V, xs.all isS = true → DpAll K H xs (xs.map dS)
  | [], _ => .nil
  | x :: r, h => by
    rw [List.all_cons, Bool.and_eq_true] at h
    refine .cons ?_ (isS_dp r h.2)
    have h1 := h.1
    cases x <;> first | exact .int _ | exact .bl _ | exact .non | cases h1
theorem isS_lay : ∀ xs : List V, PyData.canLayAll0 (xs.map dS) = true
  | [] => rfl
  | x :: r => by rw [List.map_cons, PyData.canLayAll0, isS_lay r]; cases x <;> rfl
theorem isS_depth : ∀ xs : List V, PyData.depthAll (xs.map dS) = 0
  | [] => rfl
  | x :: r => by rw [List.map_cons, PyData.depthAll, isS_depth r]; cases x <;> rfl
theorem isS_shaped (xs : List V) : SeqAt.shaped (.tuple (xs.map dS)) = true := by
  unfold SeqAt.shaped
  rw [PyData.canLay0, isS_lay, PyData.depth, isS_depth]
  rfl
def rEqTS : R2 := fun x y H Q => ∃ a b xs ys, x = .ref a ∧ y = .ref b ∧ H a = some (.tup xs) ∧ H b = some (.tup ys) ∧ xs.all isS = true ∧ ys.all isS = true ∧ Q (.bl (PyData.eqvAll (xs.map dS) (ys.map dS))) H
theorem op_eqTS (hu : X.A.units + 64 < cLine) : OpR X (compareOp .Eq) rEqTS := OpR.of (op_eqD hu) (by
  rintro x y H Q ⟨a, b, xs, ys, rfl, rfl, ha, hb, h1, h2, q⟩
  refine ⟨_, _, .tup (.inl (.inl ha)) (isS_dp xs h1), .tup (.inl (.inl hb)) (isS_dp ys h2), isS_shaped xs, isS_shaped ys, ?_⟩
  rw [PyData.eqv]
  exact q)
theorem dS_int (i : Int) : dS (.int i) = .int i := rfl
theorem dS_bl (b : Bool) : dS (.bl b) = .bool b := rfl
theorem isS_int (i : Int) : isS (.int i) = true := rfl
theorem isS_bl (b : Bool) : isS (.bl b) = true := rfl
theorem eqv_ii (i j : Int) : PyData.eqv (.int i) (.int j) = decide (i = j) := by rw [PyData.eqv]; rfl
theorem eqv_bb (i j : Bool) : PyData.eqv (.bool i) (.bool j) = decide (i = j) := by rw [PyData.eqv]; cases i <;> cases j <;> rfl
theorem eqvAll_nil : PyData.eqvAll [] [] = true := by rw [PyData.eqvAll]
theorem eqvAll_cons (x y : PyData) (xs ys : List PyData) : PyData.eqvAll (x :: xs) (y :: ys) = (PyData.eqv x y && PyData.eqvAll xs ys) := by rw [PyData.eqvAll]
theorem ip_of {op : Operator} {r : R2} (h : OpR X (inplaceOp op) r) : PIp X op r := fun pins s σ H x y v u Q I r1 r2 q => h pins s σ H x y v u Q I r1 r2 q
theorem SlR.of {r r' : V → Option Int → Option Int → Hp → VK → Prop} (h : SlR X r) (k : ∀ x lo hi H Q, r' x lo hi H Q → r x lo hi H Q) : SlR X r' := fun pins s σ H x v vl vu lo hi sl Q I rx hs pl pu q => h pins s σ H x v vl vu lo hi sl Q I rx hs pl pu (k x lo hi H Q q)
/-- a slice of a tracked list -/
def rSlH : V → Option Int → Option Int → Hp → VK → Prop := fun x lo hi H Q => ∃ a xs, x = .ref a ∧ H a = some (.lst xs) ∧ ∀ p, H p = none → Q (.ref p) (upd H p (.lst (cutV xs lo hi)))
theorem sl_listH : SlR X rSlH := SlR.of sl_list (by
  rintro x lo hi H Q ⟨a, xs, rfl, h, q⟩
  exact ⟨a, xs, rfl, .inl (.inl h), q⟩)
/-- == and != of two tracked pairs of a list of ints and an int -/
theorem li_dp {K : PySem.W.Frag} {H : Hp} {q : Addr} {l : Int} {ns : List Int} (hq : H q = some (.lst (List.map V.int ns))) : DpAll K H [.ref q, .int l] [.list (ns.map PyData.int), .int l] := .cons (.lst (.inl (.inl hq)) (ints_dp ns)) (.cons (.int l) .nil)
theorem li_shaped (ns : List Int) (l : Int) : SeqAt.shaped (.tuple [.list (ns.map PyData.int), .int l]) = true := by
  unfold SeqAt.shaped
  rw [PyData.canLay0, PyData.canLayAll0, PyData.canLay0, ints_lay, PyData.canLayAll0, PyData.depth, PyData.depthAll, PyData.depth, ints_depth, PyData.depthAll]
  rfl
theorem li_eqv (ns ms : List Int) (l m : Int) : PyData.eqv (.tuple [.list (ns.map PyData.int), .int l]) (.tuple [.list (ms.map PyData.int), .int m]) = (decide (ns = ms) && decide (l = m)) := by
  rw [PyData.eqv, PyData.eqvAll, PyData.eqvAll, PyData.eqvAll, PyData.eqv, PyData.eqv, ints_eqv, Bool.and_true]
  rfl
def rEqLI : R2 := fun x y H Q => ∃ a b q r l m ns ms, x = .ref a ∧ y = .ref b ∧ H a = some (.tup [.ref q, .int l]) ∧ H b = some (.tup [.ref r, .int m]) ∧ H q = some (.lst (List.map V.int ns)) ∧ H r = some (.lst (List.map V.int ms)) ∧ Q (.bl (decide (ns = ms) && decide (l = m))) H
theorem op_eqLI (hu : X.A.units + 64 < cLine) : OpR X (compareOp .Eq) rEqLI := OpR.of (op_eqD hu) (by
  rintro x y H Q ⟨a, b, q, r, l, m, ns, ms, rfl, rfl, ha, hb, hq, hr, k⟩
  refine ⟨_, _, .tup (.inl (.inl ha)) (li_dp hq), .tup (.inl (.inl hb)) (li_dp hr), li_shaped ns l, li_shaped ms m, ?_⟩
  rw [li_eqv]
  exact k)
def rNeLI : R2 := fun x y H Q => ∃ a b q r l m ns ms, x = .ref a ∧ y = .ref b ∧ H a = some (.tup [.ref q, .int l]) ∧ H b = some (.tup [.ref r, .int m]) ∧ H q = some (.lst (List.map V.int ns)) ∧ H r = some (.lst (List.map V.int ms)) ∧ Q (.bl (!(decide (ns = ms) && decide (l = m)))) H
theorem op_neLI (hu : X.A.units + 64 < cLine) : OpR X (compareOp .NotEq) rNeLI := OpR.of (op_neD hu) (by
  rintro x y H Q ⟨a, b, q, r, l, m, ns, ms, rfl, rfl, ha, hb, hq, hr, k⟩
  refine ⟨_, _, .tup (.inl (.inl ha)) (li_dp hq), .tup (.inl (.inl hb)) (li_dp hr), li_shaped ns l, li_shaped ms m, ?_⟩
  rw [li_eqv]
  exact k)
def rIxH : R2 := fun x y H Q => ∃ p xs i v, x = .ref p ∧ y = .int i ∧ H p = some (.lst xs) ∧ atI xs i = some v ∧ Q v H
theorem IxR.of {r r' : R2} (h : IxR X r) (k : ∀ x y H Q, r' x y H Q → r x y H Q) : IxR X r' := fun va sl pins s σ H x y v u Q I rx ry q hs => h va sl pins s σ H x y v u Q I rx ry (k x y H Q q) hs
theorem ix_listH : IxR X rIxH := IxR.of ix_list (by
  rintro x y H Q ⟨p, xs, i, v, e1, e2, h, h2, q⟩
  exact ⟨p, xs, i, v, e1, e2, .inl (.inl h), h2, q⟩)
def rIxTH : R2 := fun x y H Q => ∃ p xs i v, x = .ref p ∧ y = .int i ∧ H p = some (.tup xs) ∧ atI xs i = some v ∧ Q v H
theorem ix_tupH : IxR X rIxTH := IxR.of ix_tup (by
  rintro x y H Q ⟨p, xs, i, v, e1, e2, h, h2, q⟩
  exact ⟨p, xs, i, v, e1, e2, .inl (.inl h), h2, q⟩)
end
/-- a place in bounds -/
theorem ixN_in {n : Nat} {k : Int} (h0 : 0 ≤ k) (h1 : k < n) : ixN n k = some k.toNat := by
  unfold ixN
  rw [if_pos h0, if_pos h1]
theorem atI_in {xs : List Int} {k : Int} (h0 : 0 ≤ k) (h1 : k < xs.length) : ∃ b, xs[k.toNat]? = some b ∧ atI (xs.map V.int) k = some (.int b) := by
  have h : k.toNat < xs.length := by omega
  refine ⟨xs[k.toNat], List.getElem?_eq_getElem h, ?_⟩
  unfold atI
  rw [List.length_map, ixN_in h0 h1]
  show (xs.map V.int)[k.toNat]? = _
  rw [List.getElem?_map, List.getElem?_eq_getElem h]
  rfl
theorem mod_in (x : Int) {m : Int} (h : 0 < m) : 0 ≤ x % m ∧ x % m < m := ⟨Int.emod_nonneg x (by omega), Int.emod_lt_of_pos x h⟩
theorem atI_c0 {α : Type} (x : α) (xs : List α) : atI (x :: xs) 0 = some x := atI_nat (j := 0) rfl
theorem atI_c1 {α : Type} (x y : α) (xs : List α) : atI (x :: y :: xs) 1 = some y := atI_nat (j := 1) rfl
theorem atI_c2 {α : Type} (x y z : α) (xs : List α) : atI (x :: y :: z :: xs) 2 = some z := atI_nat (j := 2) rfl
theorem atI_c3 {α : Type} (x y z u : α) (xs : List α) : atI (x :: y :: z :: u :: xs) 3 = some u := atI_nat (j := 3) rfl

theorem tyV_upd {K : PySem.W.Frag} {H : Hp} {p : Addr} {xs : List V} : tyV K "list" (.ref p) (upd H p (.lst xs)) = True := eq_true (.inl ⟨rfl, xs, .inl (.inl upd_same)⟩)
theorem nil_sz : (0 ≤ sizeLine) = True := eq_true (Nat.zero_le _)
/-- what a for asks once its walk stands -/
def Loop (J : It) (g : TG) (tb : TS) (D : Ends) (σ : L2.St) (H1 : Hp) : Prop := ∃ W : Nat → Nat → L2.St → Hp → Prop, (∃ m, W 0 m σ H1) ∧ ∀ i m σ H, W i m σ H →
  (J.stop i H ∧ D.nx σ H) ∨ (J.go i H ∧ ∃ N : L2.St → Hp → Prop, (∀ σ' H', N σ' H' → ∃ m', m' < m ∧ W (i + 1) m' σ' H') ∧ ∀ x H', J.yld i H x H' → g x σ H' fun σ2 H2 => tb { D with nx := N, ct := N, bk := D.nx } σ2 H2)
theorem tFor_eq {wi : TI} {g : TG} {tb : TS} {D : Ends} {σ : L2.St} {H : Hp} : tFor wi g tb D σ H = wi σ H fun J H1 => Loop J g tb D σ H1 := rfl
theorem lp_range {n : Nat} {g : TG} {tb : TS} {D : Ends} {σ : L2.St} {H : Hp} (Pv : Nat → L2.St → Hp → Prop) (h0 : Pv 0 σ H)
    (hs : ∀ i σ H, i < n → Pv i σ H → g (.int i) σ H fun σ2 H2 => tb { D with nx := Pv (i + 1), ct := Pv (i + 1), bk := D.nx } σ2 H2) (hd : ∀ σ H, Pv n σ H → D.nx σ H) : Loop (Itr 0 n) g tb D σ H :=
  for_range (lo := 0) Pv h0 (fun i σ H a b => by have := hs i σ H a b; rw [Int.zero_add]; exact this) hd
theorem lp_list {K : PySem.W.Frag} {a : Addr} {xs : List V} {g : TG} {tb : TS} {D : Ends} {σ : L2.St} {H : Hp} (Pv : Nat → L2.St → Hp → Prop) (h0 : Pv 0 σ H) (hl : ∀ i σ H, i ≤ xs.length → Pv i σ H → SqL K H a xs)
    (hs : ∀ i x σ H, xs[i]? = some x → Pv i σ H → g x σ H fun σ2 H2 => tb { D with nx := Pv (i + 1), ct := Pv (i + 1), bk := D.nx } σ2 H2) (hd : ∀ σ H, Pv xs.length σ H → D.nx σ H) : Loop (Itl K a) g tb D σ H := for_list Pv h0 hl hs hd
/-- the same for a comprehension -/
def LcLoop (J : It) (g : TG) (tt : TT) (te : TE) (vs : List Nat) (σ : L2.St) (H1 : Hp) (Q : VK) : Prop := ∀ D, H1 D = none → ∃ W : Nat → Nat → Hp → Prop, (∃ m, W 0 m (upd H1 D (.lst []))) ∧ ∀ i m H, W i m H →
  (J.stop i H ∧ Q (.ref D) H) ∨ (J.go i H ∧ ∃ Nx : Hp → Prop, (∀ H', Nx H' → ∃ m', m' < m ∧ W (i + 1) m' H') ∧ ∀ x H', J.yld i H x H' → g x (wipe σ vs) H' fun σ2 H2 => wipe σ2 vs = wipe σ vs ∧ tt σ2 H2 fun b H3 =>
    if b = true then te σ2 H3 fun y H4 => ∃ acc, H4 D = some (.lst acc) ∧ acc.length < sizeLine ∧ Nx (upd H4 D (.lst (acc ++ [y]))) else Nx H3)
theorem tLc_eq {wi : TI} {g : TG} {tt : TT} {te : TE} {vs : List Nat} {σ : L2.St} {H : Hp} {Q : VK} : tLc wi g tt te vs σ H Q = wi σ H fun J H1 => LcLoop J g tt te vs σ H1 Q := rfl
/-- a comprehension over a list, whose elements leave the heap as it is: L i is what i turns have made -/
theorem lc_pure {K : PySem.W.Frag} {a : Addr} {xs : List V} {g : TG} {tt : TT} {te : TE} {vs : List Nat} {σ : L2.St} {H1 : Hp} {Q : VK} (L : Nat → List V) (hS : SqL K H1 a xs) (h0 : L 0 = [])
    (hs : ∀ i x D, xs[i]? = some x → H1 D = none → g x (wipe σ vs) (upd H1 D (.lst (L i))) fun σ2 H2 => wipe σ2 vs = wipe σ vs ∧ tt σ2 H2 fun b H3 =>
      if b = true then te σ2 H3 fun y H4 => ∃ acc, H4 D = some (.lst acc) ∧ acc.length < sizeLine ∧ upd H4 D (.lst (acc ++ [y])) = upd H1 D (.lst (L (i + 1))) else H3 = upd H1 D (.lst (L (i + 1))))
    (hd : ∀ D, H1 D = none → Q (.ref D) (upd H1 D (.lst (L xs.length)))) : LcLoop (Itl K a) g tt te vs σ H1 Q := by
  intro D hD
  refine lc_list (K := K) (a := a) (xs := xs) (fun i H => H = upd H1 D (.lst (L i))) (by rw [h0]) (fun i H _ e => ?_) (fun i x H hx e => ?_) (fun H e => ?_)
  · subst e
    exact (show Same H1 _ from fun b o e => by rw [upd_ne (ne_of_none e hD)]; exact e).seq hS
  · subst e
    exact hs i x D hx hD
  · subst e
    exact hd D hD
theorem lc_pure_range {n : Nat} {g : TG} {tt : TT} {te : TE} {vs : List Nat} {σ : L2.St} {H1 : Hp} {Q : VK} (L : Nat → List V) (h0 : L 0 = [])
    (hs : ∀ i D, i < n → H1 D = none → g (.int i) (wipe σ vs) (upd H1 D (.lst (L i))) fun σ2 H2 => wipe σ2 vs = wipe σ vs ∧ tt σ2 H2 fun b H3 =>
      if b = true then te σ2 H3 fun y H4 => ∃ acc, H4 D = some (.lst acc) ∧ acc.length < sizeLine ∧ upd H4 D (.lst (acc ++ [y])) = upd H1 D (.lst (L (i + 1))) else H3 = upd H1 D (.lst (L (i + 1))))
    (hd : ∀ D, H1 D = none → Q (.ref D) (upd H1 D (.lst (L n)))) : LcLoop (Itr 0 n) g tt te vs σ H1 Q := by
  intro D hD
  refine lc_range (lo := 0) (n := n) (fun i H => H = upd H1 D (.lst (L i))) (by rw [h0]) (fun i H hi e => ?_) (fun H e => ?_)
  · subst e
    rw [Int.zero_add]
    exact hs i D hi hD
  · subst e
    exact hd D hD
theorem lp_zip {K : PySem.W.Frag} {a b : Addr} {xs ys : List V} {g : TG} {tb : TS} {D : Ends} {σ : L2.St} {H : Hp} (hl : xs.length = ys.length) (Pv : Nat → L2.St → Hp → Prop) (h0 : Pv 0 σ H) (hq : ∀ i σ H, Pv i σ H → SqL K H a xs ∧ SqL K H b ys)
    (hs : ∀ (i : Nat) (x y : V) (T : Addr) (σ : L2.St) (H : Hp), xs[i]? = some x → ys[i]? = some y → Pv i σ H → H T = none → g (.ref T) σ (upd H T (.tup [x, y])) fun σ2 H2 => tb { D with nx := Pv (i + 1), ct := Pv (i + 1), bk := D.nx } σ2 H2) (hd : ∀ σ H, Pv xs.length σ H → D.nx σ H) :
    Loop (Itz K a b) g tb D σ H := RZ.for_zipL hl Pv h0 hq hs hd
theorem lc_str {x : Str} {g : TG} {tt : TT} {te : TE} {vs : List Nat} {σ : L2.St} {H1 : Hp} {Q : VK} (L : Nat → List V) (h0 : L 0 = [])
    (hs : ∀ i c D, x.cps[i]? = some c → H1 D = none → g (.str ⟨#[c]⟩) (wipe σ vs) (upd H1 D (.lst (L i))) fun σ2 H2 => wipe σ2 vs = wipe σ vs ∧ tt σ2 H2 fun b H3 =>
      if b = true then te σ2 H3 fun y H4 => ∃ acc, H4 D = some (.lst acc) ∧ acc.length < sizeLine ∧ upd H4 D (.lst (acc ++ [y])) = upd H1 D (.lst (L (i + 1))) else H3 = upd H1 D (.lst (L (i + 1))))
    (hd : ∀ D, H1 D = none → Q (.ref D) (upd H1 D (.lst (L x.cps.size)))) : LcLoop (Its x) g tt te vs σ H1 Q := by
  intro D hD
  refine ⟨fun i m H => m = x.cps.size - i ∧ i ≤ x.cps.size ∧ H = upd H1 D (.lst (L i)), ⟨x.cps.size, by simp, Nat.zero_le _, by rw [h0]⟩, ?_⟩
  rintro i m H ⟨rfl, hi, rfl⟩
  by_cases hlt : i < x.cps.size
  · refine .inr ⟨hlt, fun H' => H' = upd H1 D (.lst (L (i + 1))), fun H' p' => ⟨x.cps.size - (i + 1), by omega, rfl, hlt, p'⟩, fun v H' y => ?_⟩
    obtain ⟨e, c, hc, ev⟩ := y
    subst e ev
    exact hs i c D hc hD
  · have e : i = x.cps.size := by omega
    subst e
    exact .inl ⟨Nat.le_refl _, hd D hD⟩
theorem lc_rangeC {lo c : Int} {n : Nat} {g : TG} {tt : TT} {te : TE} {vs : List Nat} {σ : L2.St} {H1 : Hp} {Q : VK} (L : Nat → List V) (h0 : L 0 = [])
    (hs : ∀ i D, i < n → H1 D = none → g (.int (lo + (i : Nat) * c)) (wipe σ vs) (upd H1 D (.lst (L i))) fun σ2 H2 => wipe σ2 vs = wipe σ vs ∧ tt σ2 H2 fun b H3 =>
      if b = true then te σ2 H3 fun y H4 => ∃ acc, H4 D = some (.lst acc) ∧ acc.length < sizeLine ∧ upd H4 D (.lst (acc ++ [y])) = upd H1 D (.lst (L (i + 1))) else H3 = upd H1 D (.lst (L (i + 1))))
    (hd : ∀ D, H1 D = none → Q (.ref D) (upd H1 D (.lst (L n)))) : LcLoop (Itc lo c n) g tt te vs σ H1 Q := by
  intro D hD
  refine ⟨fun i m H => m = n - i ∧ i ≤ n ∧ H = upd H1 D (.lst (L i)), ⟨n, by simp, Nat.zero_le _, by rw [h0]⟩, ?_⟩
  rintro i m H ⟨rfl, hi, rfl⟩
  by_cases hlt : i < n
  · refine .inr ⟨hlt, fun H' => H' = upd H1 D (.lst (L (i + 1))), fun H' p' => ⟨n - (i + 1), by omega, rfl, hlt, p'⟩, fun v H' y => ?_⟩
    obtain ⟨e, ev⟩ := y
    subst e ev
    exact hs i D hlt hD
  · have e : i = n := by omega
    subst e
    exact .inl ⟨Nat.le_refl _, hd D hD⟩
theorem small_two {a b : Int} (ha : -(2 ^ 62) ≤ a) (ha' : a < 2 ^ 62) (hb : -(2 ^ 62) ≤ b) (hb' : b < 2 ^ 62) : Builtin.Range.small a b 2 = true := by
  unfold Builtin.Range.small Builtin.Range.rangeSize
  simp only [Builtin.Range.rangeFitsLong, Bool.and_eq_true, Bool.or_eq_true, decide_eq_true_eq, beq_iff_eq, show ((2 : Int) > 0) by decide, if_true]
  split <;> omega
theorem rg_two {n : Nat} (h : n < 1000000) : RgC 0 ((n : Int) - 1) 2 (n / 2) := by
  refine ⟨by decide, by decide, small_two (by decide) (by decide) (by omega) (by omega), ?_⟩
  unfold Builtin.Range.rangeSize
  rw [if_pos (by decide)]
  split <;> omega
theorem wh_by {c : TT} {tb : TS} {D : Ends} {σ : L2.St} {H : Hp} (W : Nat → L2.St → Hp → Prop) (m : Nat) (h0 : W m σ H)
    (hs : ∀ m σ H, W m σ H → c σ H fun b H1 => if b = true then ∃ N : L2.St → Hp → Prop, (∀ σ' H', N σ' H' → ∃ m', m' < m ∧ W m' σ' H') ∧ tb { D with nx := N, ct := N, bk := D.nx } σ H1 else D.nx σ H1) : tWhile c tb D σ H := ⟨W, ⟨m, h0⟩, hs⟩
theorem lc_rng {n : Nat} {g : TG} {tt : TT} {te : TE} {vs : List Nat} {σ : L2.St} {H1 : Hp} {Q : VK} (Pv : Addr → Nat → Hp → Prop) (h0 : ∀ D, H1 D = none → Pv D 0 (upd H1 D (.lst [])))
    (hs : ∀ D i H, i < n → H1 D = none → Pv D i H → g (.int i) (wipe σ vs) H fun σ2 H2 => wipe σ2 vs = wipe σ vs ∧ tt σ2 H2 fun b H3 =>
      if b = true then te σ2 H3 fun y H4 => ∃ acc, H4 D = some (.lst acc) ∧ acc.length < sizeLine ∧ Pv D (i + 1) (upd H4 D (.lst (acc ++ [y]))) else Pv D (i + 1) H3)
    (hd : ∀ D H, H1 D = none → Pv D n H → Q (.ref D) H) : LcLoop (Itr 0 n) g tt te vs σ H1 Q := by
  intro D hD
  refine lc_range (lo := 0) (n := n) (Pv D) (h0 D hD) (fun i H hi p => ?_) (fun H p => hd D H hD p)
  rw [Int.zero_add]
  exact hs D i H hi hD p
theorem same_upd {H : Hp} {p : Addr} {o : HO} (h : H p = none) : Same H (upd H p o) := fun b x e => by
  rw [upd_ne (ne_of_none e h)]
  exact e
theorem same_upd2 {H H' : Hp} {q : Addr} {o : HO} (s : Same H H') (h : H q = none) : Same H (upd H' q o) := fun b x e => by
  rw [upd_ne (ne_of_none e h)]
  exact s b x e

/-! ### fresh objects: the heap behind one as a heap of its own -/
def NewH (H : Hp) (o : HO) (k : Addr → Hp → Prop) : Prop := ∀ p H', Same H H' → H p = none → H' p = some o → k p H'
theorem NewH.go {H : Hp} {o : HO} {k : Addr → Hp → Prop} (h : NewH H o k) : ∀ p, H p = none → k p (upd H p o) := fun p hp => h p _ (same_upd hp) hp upd_same
section
variable {X : Cx} {es : List Expr} {t : TA} {pos : Pos}
theorem pa_mono (h : PA X es t) : PA X es (fun σ H Q => ∃ Q', t σ H Q' ∧ ∀ xs H1, Q' xs H1 → Q xs H1) := ⟨fun pos pins s σ H Q I ⟨_, q, k⟩ => thn (h.run pos pins s σ H _ I q) fun _ _ ⟨vs, H', I', r, q'⟩ => ⟨vs, H', I', r, k _ _ q'⟩⟩
theorem PE.of {e : Expr} {t t' : TE} (h : PE X e t) (k : ∀ σ H Q, t' σ H Q → t σ H Q) : PE X e t' := ⟨fun pins s σ H Q I q => h.run pins s σ H Q I (k _ _ _ q)⟩
def tTupS (t : TA) : TE := fun σ H Q => t σ H fun xs H1 => xs.length ≤ sizeLine ∧ NewH H1 (.tup xs) fun p H' => Q (.ref p) H'
def tLstS (t : TA) : TE := fun σ H Q => t σ H fun xs H1 => xs.length ≤ sizeLine ∧ NewH H1 (.lst xs) fun p H' => Q (.ref p) H'
theorem pe_tupS {x1} (h : PA X es t) : PE X (.Tuple es x1 pos) (tTupS t) := PE.of (pe_tup (pa_mono h)) fun σ H Q q => ⟨_, q, fun _ _ z => ⟨z.1, z.2.go⟩⟩
theorem pe_lstS (h : PA X es t) : PE X (.List es pos) (tLstS t) := PE.of (pe_lst (pa_mono h)) fun σ H Q q => ⟨_, q, fun _ _ z => ⟨z.1, z.2.go⟩⟩
def rListS : List V → Hp → VK → Prop := fun vs H Q => ∃ p xs, vs = [.ref p] ∧ H p = some (.lst xs) ∧ NewH H (.lst xs) fun l H' => Q (.ref l) H'
theorem call_listS : CallR X (.type "list") rListS := CallR.of call_listH fun vs H Q ⟨p, xs, e, h, q⟩ => ⟨p, xs, e, h, q.go⟩
/-- list(t) of a tuple -/
def rListT : List V → Hp → VK → Prop := fun vs H Q => ∃ p xs, vs = [.ref p] ∧ H p = some (.tup xs) ∧ NewH H (.lst xs) fun l H' => Q (.ref l) H'
theorem call_listT : CallR X (.type "list") rListT := CallR.of call_list_of fun vs H Q ⟨p, xs, e, h, q⟩ => ⟨p, xs, e, .inr (.inl (.inl h)), q.go⟩
/-- tuple(xs) of a tracked list -/
def rTupleL : List V → Hp → VK → Prop := fun vs H Q => ∃ p xs, vs = [.ref p] ∧ H p = some (.lst xs) ∧ NewH H (.tup xs) fun l H' => Q (.ref l) H'
theorem call_tupleL : CallR X (.type "tuple") rTupleL := CallR.of call_tuple_of fun vs H Q ⟨p, xs, e, h, q⟩ => ⟨p, xs, e, .inl ⟨.inl (.inl h), q.go⟩⟩
def rCatL : R2 := fun x y H Q => ∃ l b xs zs, x = .ref l ∧ y = .ref b ∧ H l = some (.lst xs) ∧ H b = some (.lst zs) ∧ xs.length + zs.length ≤ sizeLine ∧ NewH H (.lst (xs ++ zs)) fun p H' => Q (.ref p) H'
theorem op_catS : OpR X (binaryOp .Add) rCatL := OpR.of op_cat fun x y H Q ⟨l, b, xs, zs, e1, e2, h1, h2, z, q⟩ => ⟨l, b, xs, zs, e1, e2, h1, h2, z, q.go⟩
/-- [x] * n -/
def rRepS : R2 := fun x y H Q => ∃ l k v, x = .ref l ∧ y = .int k ∧ H l = some (.lst [v]) ∧ k ≤ 16777216 ∧ -(2 ^ 62) ≤ k ∧ NewH H (.lst (List.replicate k.toNat v)) fun p H' => Q (.ref p) H'
theorem rep_flat {α : Type} (n : Nat) (y : α) : (List.replicate n [y]).flatten = List.replicate n y := by
  induction n with
  | zero => rfl
  | succ n ih => rw [List.replicate_succ, List.flatten_cons, ih, List.replicate_succ]; rfl
theorem op_repS : OpR X (binaryOp .Mult) rRepS := OpR.of op_rep fun x y H Q ⟨l, k, v, e1, e2, h1, z1, z2, q⟩ => ⟨l, k, [v], e1, e2, h1, by omega, by omega, by
    rw [List.length_singleton, show sizeLine = 16777216 from rfl]; omega, by rw [rep_flat]; exact q.go⟩
def rSlS : V → Option Int → Option Int → Hp → VK → Prop := fun x lo hi H Q => ∃ a xs, x = .ref a ∧ H a = some (.lst xs) ∧ NewH H (.lst (cutV xs lo hi)) fun p H' => Q (.ref p) H'
theorem sl_listS : SlR X rSlS := SlR.of sl_listH fun x lo hi H Q ⟨a, xs, e, h, q⟩ => ⟨a, xs, e, h, q.go⟩
theorem pe_mono {e : Expr} {t : TE} (h : PE X e t) : PE X e (fun σ H Q => ∃ Q', t σ H Q' ∧ ∀ v H1, Q' v H1 → Q v H1) := ⟨fun pins s σ H Q I ⟨_, q, k⟩ => thn (h.run pins s σ H _ I q) fun _ _ ⟨v, H', I', r, q'⟩ => ⟨v, H', I', r, k _ _ q'⟩⟩
theorem PG.of {e : Expr} {t t' : TG} (h : PG X e t) (k : ∀ v σ H Q, t' v σ H Q → t v σ H Q) : PG X e t' := ⟨fun pins s σ H v u Q I r q => h.run pins s σ H v u Q I r (k _ _ _ _ q)⟩
theorem PI.of {tg e : Expr} {t t' : TI} (h : PI X tg e t) (k : ∀ σ H R, t' σ H R → t σ H R) : PI X tg e t' := ⟨fun pins s σ H R I q => h.run pins s σ H R I (k _ _ _ q)⟩
def gTupS (n : Nat) (t : TGs) : TG := fun v σ H Q => ∃ a xs, v = .ref a ∧ H a = some (.tup xs) ∧ xs.length = n ∧ t xs σ H Q
theorem pg_tupS {k : Nat} {t : TGs} {n : Nat} (hc : X.calm = true) (h : PGs X es t) (hn : (assignEach es X.env).length = n := by rfl) (hst : (assignEach es X.env).findIdx? (·.1) = none := by rfl) : PG X (.Tuple es k pos) (gTupS n t) :=
  PG.of (pg_tup hc h hn hst) fun v σ H Q ⟨a, xs, e, g, l, q⟩ => ⟨a, xs, e, .inl (.inl g), l, q⟩
def gLstS (n : Nat) (t : TGs) : TG := fun v σ H Q => ∃ a xs, v = .ref a ∧ H a = some (.lst xs) ∧ xs.length = n ∧ t xs σ H Q
theorem pg_lstS {k : Nat} {t : TGs} {n : Nat} (hc : X.calm = true) (h : PGs X es t) (hn : (assignEach es X.env).length = n := by rfl) (hst : (assignEach es X.env).findIdx? (·.1) = none := by rfl) : PG X (.Tuple es k pos) (gLstS n t) :=
  PG.of (pg_lst hc h hn hst) fun v σ H Q ⟨a, xs, e, g, l, q⟩ => ⟨a, xs, e, .inl (.inl g), l, q⟩
def iListS (K : PySem.W.Frag) (tl : TE) : TI := fun σ H R => tl σ H fun x H1 => ∃ a xs, x = .ref a ∧ H1 a = some (.lst xs) ∧ R (Itl K a) H1
theorem pi_listS {tg l : Expr} {tl : TE} (hl : PE X l tl) : PI X tg l (iListS X.K tl) := PI.of (pi_list (pe_mono hl)) fun σ H R q => ⟨_, q, fun _ _ ⟨a, xs, e, g, r⟩ => ⟨a, e, ⟨xs, .inl (.inl g)⟩, r⟩⟩
def iTupS (K : PySem.W.Frag) (tl : TE) : TI := fun σ H R => tl σ H fun x H1 => ∃ a xs, x = .ref a ∧ H1 a = some (.tup xs) ∧ R (Itt K a) H1
theorem pi_tupS {tg l : Expr} {tl : TE} (hl : PE X l tl) : PI X tg l (iTupS X.K tl) := PI.of (pi_tup (pe_mono hl)) fun σ H R q => ⟨_, q, fun _ _ ⟨a, xs, e, g, r⟩ => ⟨a, e, ⟨xs, .inl (.inl g)⟩, r⟩⟩
def tML (r : V → List V → Hp → VK → Prop) (to : TE) (t : TA) : TE := fun σ H Q => to σ H fun x H1 => ∃ p xs, x = .ref p ∧ H1 p = some (.lst xs) ∧ t σ H1 fun ys H2 => r x ys H2 Q
theorem pe_ml {to : TE} {t : TA} {e : PySem.Expr} {K : PySem.W.Frag} {r : V → List V → Hp → VK → Prop} (h : PE X e (tBM K "list" r (fun σ H Q => ∃ Q', to σ H Q' ∧ ∀ v H1, Q' v H1 → Q v H1) t)) : PE X e (tML r to t) :=
  PE.of h fun σ H Q q => ⟨_, q, fun v H1 ⟨p, xs, e, g, z⟩ => ⟨by rw [e]; exact .inl ⟨rfl, xs, .inl (.inl g)⟩, z⟩⟩
def tML0 (r : V → List V → Hp → VK → Prop) (to : TE) : TE := fun σ H Q => to σ H fun x H1 => ∃ p xs, x = .ref p ∧ H1 p = some (.lst xs) ∧ r x [] H1 Q
theorem pe_ml0 {to : TE} {e : PySem.Expr} {K : PySem.W.Frag} {r : V → List V → Hp → VK → Prop} (h : PE X e (tBM0 K "list" r (fun σ H Q => ∃ Q', to σ H Q' ∧ ∀ v H1, Q' v H1 → Q v H1))) : PE X e (tML0 r to) :=
  PE.of h fun σ H Q q => ⟨_, q, fun v H1 ⟨p, xs, e, g, z⟩ => ⟨by rw [e]; exact .inl ⟨rfl, xs, .inl (.inl g)⟩, z⟩⟩
end
/-- loops and comprehensions over any walk -/
theorem lpW {J : It} {n : Nat} {G : Hp → Prop} {Y : Nat → Hp → V → Hp → Prop} (w : Walk J n G Y) {g : TG} {tb : TS} {D : Ends} {σ : L2.St} {H : Hp} (Pv : Nat → L2.St → Hp → Prop) (h0 : Pv 0 σ H) (hG : ∀ i σ H, i ≤ n → Pv i σ H → G H)
    (hs : ∀ i x σ H H', i < n → Pv i σ H → Y i H x H' → g x σ H' fun σ2 H2 => tb { D with nx := Pv (i + 1), ct := Pv (i + 1), bk := D.nx } σ2 H2) (hd : ∀ σ H, Pv n σ H → D.nx σ H) : Loop J g tb D σ H := for_it w Pv h0 hG hs hd
theorem lcW {J : It} {n : Nat} {G : Hp → Prop} {Y : Nat → Hp → V → Hp → Prop} (w : Walk J n G Y) {g : TG} {tt : TT} {te : TE} {vs : List Nat} {σ : L2.St} {H1 : Hp} {Q : VK} (Pv : Addr → Nat → Hp → Prop) (h0 : ∀ D H, Same H1 H → H1 D = none → H D = some (.lst []) → Pv D 0 H)
    (hG : ∀ D i H, H1 D = none → i ≤ n → Pv D i H → G H) (hs : ∀ D i x H H', i < n → H1 D = none → Pv D i H → Y i H x H' → g x (wipe σ vs) H' fun σ2 H2 => wipe σ2 vs = wipe σ vs ∧ tt σ2 H2 fun b H3 =>
      if b = true then te σ2 H3 fun y H4 => ∃ acc, H4 D = some (.lst acc) ∧ acc.length < sizeLine ∧ Pv D (i + 1) (upd H4 D (.lst (acc ++ [y]))) else Pv D (i + 1) H3)
    (hd : ∀ D H, H1 D = none → Pv D n H → Q (.ref D) H) : LcLoop J g tt te vs σ H1 Q :=
  fun D hD => lc_it w (Pv D) (h0 D _ (same_upd hD) hD upd_same) (fun i H hi p => hG D i H hD hi p) (fun i x H H' hi p y => hs D i x H H' hi hD p y) fun H p => hd D H hD p
theorem lcL {J : It} {n : Nat} {G : Hp → Prop} {Y : Nat → Hp → V → Hp → Prop} (w : Walk J n G Y) {g : TG} {tt : TT} {te : TE} {vs : List Nat} {σ : L2.St} {H1 : Hp} {Q : VK} (L : Nat → List V) (hz : L 0 = []) (hG : ∀ H, Same H1 H → G H)
    (hs : ∀ D i x H H', i < n → H1 D = none → Same H1 H → H D = some (.lst (L i)) → Y i H x H' → g x (wipe σ vs) H' fun σ2 H2 => wipe σ2 vs = wipe σ vs ∧ tt σ2 H2 fun b H3 =>
      if b = true then te σ2 H3 fun y H4 => ∃ acc, H4 D = some (.lst acc) ∧ acc.length < sizeLine ∧ Same H1 (upd H4 D (.lst (acc ++ [y]))) ∧ upd H4 D (.lst (acc ++ [y])) D = some (.lst (L (i + 1))) else Same H1 H3 ∧ H3 D = some (.lst (L (i + 1))))
    (hd : ∀ D H, Same H1 H → H1 D = none → H D = some (.lst (L n)) → Q (.ref D) H) : LcLoop J g tt te vs σ H1 Q :=
  lcW w (fun D i H => Same H1 H ∧ H D = some (.lst (L i))) (fun D H s _ g => ⟨s, by rw [g, hz]⟩) (fun _ _ H _ _ p => hG H p.1) (fun D i x H H' hi hD p y => hs D i x H H' hi hD p.1 p.2 y) fun D H hD p => hd D H p.1 hD p.2
theorem walkR {n : Nat} : Walk (Itr 0 n) n (fun _ => True) (YFn fun i => .int (i : Int)) := walk_range.mono (fun _ h => h) fun i H x H' _ _ y => ⟨y.1, by rw [y.2]; show V.int (0 + (i : Int)) = V.int (i : Int); rw [Int.zero_add]⟩
theorem walkL {K : PySem.W.Frag} {a : Addr} {xs : List V} : Walk (Itl K a) xs.length (fun H => H a = some (.lst xs)) (YAt xs) := (walk_list (K := K) (a := a) (xs := xs)).mono (fun _ h => .inl (.inl h)) fun _ _ _ _ _ _ y => y
theorem walkT {K : PySem.W.Frag} {a : Addr} {xs : List V} : Walk (Itt K a) xs.length (fun H => H a = some (.tup xs)) (YAt xs) := (walk_tup (K := K) (a := a) (xs := xs)).mono (fun _ h => .inl (.inl h)) fun _ _ _ _ _ _ y => y
/-- a list of ints is walked -/
def YInt (ns : List Int) : Nat → Hp → V → Hp → Prop := fun i H v H' => H' = H ∧ ∃ b, ns[i]? = some b ∧ v = .int b
theorem walkI {K : PySem.W.Frag} {a : Addr} {ns : List Int} : Walk (Itl K a) ns.length (fun H => H a = some (.lst (List.map V.int ns))) (YInt ns) := by
  have w := walkL (K := K) (a := a) (xs := List.map V.int ns)
  rw [List.length_map] at w
  refine w.mono (fun _ h => h) fun i H x H' _ _ y => ⟨y.1, ?_⟩
  have h := y.2
  rw [List.getElem?_map] at h
  obtain ⟨b, h1, rfl⟩ := Option.map_eq_some_iff.mp h
  exact ⟨b, h1, rfl⟩
theorem sqL_eq {K : PySem.W.Frag} {H : Hp} {a : Addr} {xs : List V} (h : H a = some (.lst xs)) : (∃ xs, SqL K H a xs) = True := eq_true ⟨_, .inl (.inl h)⟩
theorem sqT_eq {K : PySem.W.Frag} {H : Hp} {a : Addr} {xs : List V} (h : H a = some (.tup xs)) : (∃ xs, SqT K H a xs) = True := eq_true ⟨_, .inl (.inl h)⟩
theorem tyL_eq {K : PySem.W.Frag} {H : Hp} {p : Addr} {xs : List V} (h : H p = some (.lst xs)) : tyV K "list" (.ref p) H = True := eq_true (.inl ⟨rfl, xs, .inl (.inl h)⟩)
theorem Same.c2 {H H' : Hp} {a b : Addr} {x y : HO} (s : Same H H') (ga : H a = some x) (gb : H b = some y) : H' a = some x ∧ H' b = some y := ⟨s _ _ ga, s _ _ gb⟩
theorem map_int_inj {xs ys : List Int} : (List.map V.int xs = List.map V.int ys) = (xs = ys) := by
  refine propext ⟨fun h => ?_, fun h => by rw [h]⟩
  induction xs generalizing ys with
  | nil => cases ys with
    | nil => rfl
    | cons y q => cases h
  | cons x r ih => cases ys with
    | nil => cases h
    | cons y q =>
      rw [List.map_cons, List.map_cons, List.cons.injEq, V.int.injEq] at h
      rw [h.1, ih h.2]
theorem sz1 : (1 ≤ sizeLine) = True := eq_true (by decide)
theorem sz2 : (2 ≤ sizeLine) = True := eq_true (by decide)
theorem sz3 : (3 ≤ sizeLine) = True := eq_true (by decide)
theorem sz4 : (4 ≤ sizeLine) = True := eq_true (by decide)
theorem sz5 : (5 ≤ sizeLine) = True := eq_true (by decide)
theorem sz6 : (6 ≤ sizeLine) = True := eq_true (by decide)
theorem sz8 : (8 ≤ sizeLine) = True := eq_true (by decide)
/-- an item of a list of ints -/
def gN (ns : List Int) (i : Nat) : Int := ns.getD i 0
theorem at_g {ns : List Int} {i : Nat} (h : i < ns.length) : atI (ns.map V.int) (i : Int) = some (V.int (gN ns i)) := by
  refine atI_nat ?_
  rw [List.getElem?_map, List.getElem?_eq_getElem h]
  simp [gN, h]
theorem at_g' {ns : List Int} {k : Int} {i : Nat} (e : k = (i : Int)) (h : i < ns.length) : atI (ns.map V.int) k = some (V.int (gN ns i)) := by
  rw [e]
  exact at_g h
theorem iteT' {c : Bool} {a b : Prop} (h : c = true) (x : a) : if c = true then a else b := by rw [if_pos h]; exact x
theorem iteF' {c : Bool} {a b : Prop} (h : c = false) (x : b) : if c = true then a else b := by rw [if_neg (by rw [h]; decide)]; exact x
theorem iteB {c : Bool} {p : Prop} [Decidable p] {a b : Prop} (h : c = decide p) (x : p → a) (y : ¬ p → b) : if c = true then a else b := by
  subst h
  exact ite2 (fun e => x (of_decide_eq_true e)) fun e => y fun z => e (decide_eq_true z)
theorem iteD {p : Prop} [Decidable p] {a b : Prop} (x : p → a) (y : ¬ p → b) : if decide p = true then a else b := iteB rfl x y
def mx (x y : Int) : Int := if x < y then y else x
def mn (x y : Int) : Int := if y < x then y else x
theorem mx_eq (x y : Int) : (if x < y then y else x) = mx x y := rfl
theorem mn_eq (x y : Int) : (if y < x then y else x) = mn x y := rfl
theorem mx_le {x y z : Int} : mx x y ≤ z ↔ x ≤ z ∧ y ≤ z := by
  unfold mx
  split <;> omega
theorem lt_mn {x y z : Int} : z < mn x y ↔ z < x ∧ z < y := by
  unfold mn
  split <;> omega
theorem toNat_mul (m n : Nat) : ((m : Int) * (n : Int)).toNat = m * n := by rw [← Int.natCast_mul, Int.toNat_natCast]
theorem atI_lit {xs : List V} {k : Int} (h0 : 0 ≤ k) (h1 : k < xs.length) : ∃ v, atI xs k = some v ∧ v ∈ xs := by
  have h : k.toNat < xs.length := by omega
  refine ⟨xs[k.toNat], ?_, List.getElem_mem h⟩
  unfold atI
  rw [ixN_in h0 h1]
  exact List.getElem?_eq_getElem h
theorem atI_lits {xs : List Int} {k : Int} (h0 : 0 ≤ k) (h1 : k < xs.length) : ∃ v, atI (List.map V.int xs) k = some (.int v) ∧ v ∈ xs := by
  obtain ⟨v, h, hm⟩ := atI_lit (xs := List.map V.int xs) h0 (by rw [List.length_map]; exact h1)
  obtain ⟨i, hi, rfl⟩ := List.mem_map.mp hm
  exact ⟨i, h, hi⟩
theorem natOf {x : Int} (h : 0 ≤ x) : ∃ n : Nat, x = (n : Int) := ⟨x.toNat, by omega⟩
theorem map_cat (xs ys : List Int) : List.map V.int xs ++ List.map V.int ys = List.map V.int (xs ++ ys) := by rw [List.map_append]
theorem map_snoc (xs : List Int) (v : Int) : List.map V.int xs ++ [V.int v] = List.map V.int (xs ++ [v]) := by rw [List.map_append]; rfl
theorem map_setV (l : List Int) (i : Nat) (v : Int) : (List.map V.int l).set i (.int v) = List.map V.int (l.set i v) := by rw [List.map_set]
/-- all but one object stand as they stood -/
def But (a : Addr) (H H' : Hp) : Prop := ∀ b o, b ≠ a → H b = some o → H' b = some o
theorem But.refl (a : Addr) (H : Hp) : But a H H := fun _ _ _ h => h
theorem But.ofSame {a : Addr} {H H' : Hp} (s : Same H H') : But a H H' := fun b o _ h => s b o h
theorem But.trans {a : Addr} {H H1 H2 : Hp} (x : But a H H1) (y : But a H1 H2) : But a H H2 := fun b o n h => y b o n (x b o n h)
theorem But.put {a : Addr} {H H' : Hp} {o : HO} (x : But a H H') : But a H (upd H' a o) := fun b o' n h => by rw [upd_ne n]; exact x b o' n h
theorem But.same {a : Addr} {H H1 H' : Hp} (s : Same H H1) (x : But a H1 H') (h : H a = none) : Same H H' := fun b o e => x b o (ne_of_none e h) (s b o e)
/-- the cell k of the script -/
def cellA (ns : List Int) (k : Nat) : Int := ns.getD k 0
def absI (c : Int) : Int := if c < 0 then -c else c
theorem absI_eq (c : Int) : (if c < 0 then -c else c) = absI c := rfl
theorem absI_nn (c : Int) : 0 ≤ absI c := by
  unfold absI
  split <;> omega
section
variable {X : Cx}
/-- xs[i] op= e reads the item first -/
def rGetL : V → V → Hp → VK → Prop := fun x y H Q => ∃ p xs i v, x = .ref p ∧ y = .int i ∧ H p = some (.lst xs) ∧ 0 ≤ i ∧ i < 2 ^ 62 ∧ xs[i.toNat]? = some v ∧ Q v H
theorem pget_list : PGet X rGetL := by
  intro pins s σ H x y v u Q I rx ry h
  obtain ⟨p, xs, i, z, rfl, rfl, hp, h0, h1, he, q⟩ := h
  cases rx
  obtain ⟨t, rfl⟩ := ry
  obtain ⟨its, r, pl, _⟩ := I.list (.inl (.inl hp))
  obtain ⟨w, ew, rw'⟩ := r.get he
  exact getItem_listL pl.isList h0 (by omega) ew ⟨z, H, I, rw', q⟩
def iZipS (K : PySem.W.Frag) (ta : TA) : TI := fun σ H R => ta σ H fun vs H1 => ∃ a b xs ys, vs = [.ref a, .ref b] ∧ H1 a = some (.lst xs) ∧ H1 b = some (.lst ys) ∧ R (Itz K a b) H1
theorem pi_zipS {e e2 : Expr} {ta : TA} {p pos tpos : Pos} {elts : List Expr} {kk : Nat} (hg : Gl X "zip") (hm : X.mg "zip" = none) (ha : PA X [e, e2] ta) (hs : starEach [e, e2] X.env = (false, eval e X.env) :: starEach [e2] X.env := by rfl) (hpl : (backTo pos (starEach [e2] X.env)).any (·.1) = false := by rfl) :
    PI X (.Tuple elts kk tpos) (.Call (.Name "zip" p) [e, e2] [] pos) (iZipS X.K ta) := PI.of (pi_zip hg hm (pa_mono ha) hs hpl) fun σ H R q => ⟨_, q, fun vs H1 ⟨a, b, xs, ys, e, g1, g2, r⟩ => ⟨a, b, xs, ys, e, .inl (.inl g1), .inl (.inl g2), r⟩⟩
end
theorem walkZ {K : PySem.W.Frag} {a b : Addr} {xs ys : List V} {n : Nat} (hn : n = min xs.length ys.length) : Walk (Itz K a b) n (fun H => H a = some (.lst xs) ∧ H b = some (.lst ys)) (YPair (fun i => xs[i]?) (fun i => ys[i]?)) :=
  (walk_zip (K := K) (a := a) (b := b) hn).mono (fun _ h => ⟨.inl (.inl h.1), .inl (.inl h.2)⟩) fun _ _ _ _ _ _ y => y
theorem cutV_take {xs : List V} {n : Nat} : cutV xs none (some (n : Int)) = xs.take n := by
  unfold cutV
  rw [HT.sIx_nat, HT.sIx_none, List.drop_zero]
  by_cases h : n ≤ xs.length
  · rw [Nat.min_eq_left h, Nat.sub_zero]
  · rw [Nat.min_eq_right (by omega), Nat.sub_zero, List.take_of_length_le (Nat.le_refl _), List.take_of_length_le (by omega)]
theorem cutV_drop {xs : List V} {n : Nat} : cutV xs (some (n : Int)) none = xs.drop n := by
  unfold cutV
  rw [HT.sIx_nat, HT.sIx_none]
  by_cases h : n ≤ xs.length
  · rw [Nat.min_eq_left h, List.take_of_length_le (by rw [List.length_drop]; exact Nat.le_refl _)]
  · rw [Nat.min_eq_right (by omega), List.drop_of_length_le (Nat.le_refl _), List.drop_of_length_le (by omega), List.take_nil]
theorem cutI_take {xs : List Int} {n : Nat} : cutV (List.map V.int xs) none (some (n : Int)) = List.map V.int (xs.take n) := by rw [cutV_take, List.map_take]
theorem cutI_drop {xs : List Int} {n : Nat} : cutV (List.map V.int xs) (some (n : Int)) none = List.map V.int (xs.drop n) := by rw [cutV_drop, List.map_drop]
/-- two lists item by item -/
inductive All2 {α β : Type} (R : α → β → Prop) : List α → List β → Prop
  | nil : All2 R [] []
  | cons {x : α} {y : β} {xs : List α} {ys : List β} : R x y → All2 R xs ys → All2 R (x :: xs) (y :: ys)
section
variable {α β : Type} {R S : α → β → Prop}
theorem All2.len {xs : List α} {ys : List β} (h : All2 R xs ys) : xs.length = ys.length := by
  induction h with
  | nil => rfl
  | cons _ _ ih => rw [List.length_cons, List.length_cons, ih]
theorem All2.mono {xs : List α} {ys : List β} (h : All2 R xs ys) (k : ∀ x y, R x y → S x y) : All2 S xs ys := by
  induction h with
  | nil => exact .nil
  | cons r _ ih => exact .cons (k _ _ r) ih
theorem All2.app {xs xs' : List α} {ys ys' : List β} (h : All2 R xs ys) (k : All2 R xs' ys') : All2 R (xs ++ xs') (ys ++ ys') := by
  induction h with
  | nil => exact k
  | cons r _ ih => exact .cons r ih
theorem All2.snoc {xs : List α} {ys : List β} {x : α} {y : β} (h : All2 R xs ys) (r : R x y) : All2 R (xs ++ [x]) (ys ++ [y]) := h.app (.cons r .nil)
theorem All2.at {xs : List α} {ys : List β} (h : All2 R xs ys) {i : Nat} {x : α} (e : xs[i]? = some x) : ∃ y, ys[i]? = some y ∧ R x y := by
  induction h generalizing i with
  | nil => simp at e
  | cons r _ ih =>
    cases i with
    | zero => exact ⟨_, rfl, by simpa using (Option.some.inj e) ▸ r⟩
    | succ i => exact ih e
theorem All2.at' {xs : List α} {ys : List β} (h : All2 R xs ys) {i : Nat} {y : β} (e : ys[i]? = some y) : ∃ x, xs[i]? = some x ∧ R x y := by
  induction h generalizing i with
  | nil => simp at e
  | cons r _ ih =>
    cases i with
    | zero => exact ⟨_, rfl, by simpa using (Option.some.inj e) ▸ r⟩
    | succ i => exact ih e
theorem All2.take {xs : List α} {ys : List β} (h : All2 R xs ys) (n : Nat) : All2 R (xs.take n) (ys.take n) := by
  induction h generalizing n with
  | nil => rw [List.take_nil, List.take_nil]; exact .nil
  | cons r _ ih =>
    cases n with
    | zero => exact .nil
    | succ n => exact .cons r (ih n)
theorem All2.drop {xs : List α} {ys : List β} (h : All2 R xs ys) (n : Nat) : All2 R (xs.drop n) (ys.drop n) := by
  induction h generalizing n with
  | nil => rw [List.drop_nil, List.drop_nil]; exact .nil
  | cons r t ih =>
    cases n with
    | zero => exact .cons r t
    | succ n => exact ih n
end
theorem tup_upd {H : Hp} {a l : Addr} {xs ys : List V} {o : HO} (h : H a = some (.tup xs)) (g : H l = some (.lst ys)) : upd H l o a = some (.tup xs) := by
  rw [upd_ne (ne_of h g (by intro z; cases z))]
  exact h
theorem tup_but {H H' : Hp} {a l : Addr} {xs ys : List V} (bt : But l H H') (h : H a = some (.tup xs)) (g : H l = some (.lst ys)) : H' a = some (.tup xs) := bt _ _ (ne_of h g (by intro z; cases z)) h
theorem cutV_take1 {xs : List V} : cutV xs none (some 1) = xs.take 1 := cutV_take (n := 1)
theorem cutV_drop1 {xs : List V} : cutV xs (some 1) none = xs.drop 1 := cutV_drop (n := 1)
section
variable {X : Cx}
/-- the script: its length, an item -/
def rLenSc (K : PySem.W.Frag) (a : Addr) (ns : List Int) : List V → Hp → VK → Prop := fun vs H Q => vs = [.ref a] ∧ SqL K H a (List.map V.int ns) ∧ Q (.int ns.length) H
theorem call_lenSc (a : Addr) (ns : List Int) : CallR X (.builtin "len") (rLenSc X.K a ns) := CallR.of call_len_seq fun vs H Q ⟨e, h, q⟩ => ⟨a, List.map V.int ns, e, .inl h, by rw [List.length_map]; exact q⟩
def rIxSc (K : PySem.W.Frag) (a : Addr) (ns : List Int) : R2 := fun x y H Q => ∃ i, x = .ref a ∧ y = .int i ∧ SqL K H a (List.map V.int ns) ∧ 0 ≤ i ∧ i < ns.length ∧ Q (.int (gN ns i.toNat)) H
theorem ix_sc (a : Addr) (ns : List Int) : IxR X (rIxSc X.K a ns) := IxR.of ix_list fun x y H Q ⟨i, e1, e2, h, h0, h1, q⟩ => ⟨a, List.map V.int ns, i, _, e1, e2, h, at_g' (Int.toNat_of_nonneg h0).symm (by omega), q⟩
end
section
variable {X : Cx}
def rSumS : List V → Hp → VK → Prop := fun vs H Q => ∃ a ns, vs = [.ref a] ∧ H a = some (.lst (List.map V.int ns)) ∧ Q (.int ns.sum) H
theorem cr_sumS (hc : X.calm = true) : CallR X (.builtin "sum") rSumS := CallR.of (cr_sum hc) fun vs H Q ⟨a, ns, e, g, q⟩ => ⟨a, ns, e, .inl (.inl g), q⟩
end
section
variable {X : Cx}
/-- t[lo:hi]: t itself or a new tuple, in either case one of these items -/
def rSlTS : V → Option Int → Option Int → Hp → VK → Prop := fun x lo hi H Q => ∃ a xs, x = .ref a ∧ H a = some (.tup xs) ∧ ∀ p H', Same H H' → (p = a ∨ H p = none) → H' p = some (.tup (cutV xs lo hi)) → Q (.ref p) H'
theorem sl_tupS : SlR X rSlTS := SlR.of sl_tupA fun x lo hi H Q ⟨a, xs, e, g, q⟩ => ⟨a, xs, e, .inl (.inl g), fun z => q a H (Same.refl _) (.inl rfl) (by
    unfold cutV
    rw [z.1, z.2, List.drop_zero, Nat.sub_zero, List.take_length]
    exact g), fun _ p hp => q p _ (same_upd hp) (.inr hp) upd_same⟩
end
theorem cutV_take3 {xs : List V} : cutV xs none (some 3) = xs.take 3 := cutV_take (n := 3)
section
variable {X : Cx}
theorem PT.of {e : Expr} {t t' : TT} (h : PT X e t) (k : ∀ σ H Q, t' σ H Q → t σ H Q) : PT X e t' := ⟨fun pins s σ H Q I q => h.run pins s σ H Q I (k _ _ _ q)⟩
/-- a list's truth -/
def tTrL (ta : TE) : TT := fun σ H Q => ta σ H fun x H1 => ∃ p xs, x = .ref p ∧ H1 p = some (.lst xs) ∧ Q (decide (0 < xs.length)) H1
theorem pt_truthL {a : Expr} {ta : TE} (ha : PE X a ta) (he : ∀ whole, isTrue a X.env whole = (do let v ← whole; standAt a.pos; holding [v] (truthy v))) : PT X a (tTrL ta) :=
  PT.of (pt_truth (pe_mono ha) he) fun σ H Q q => ⟨_, q, fun x H1 ⟨p, xs, e, g, z⟩ => ⟨decide (0 < xs.length), by rw [e]; exact .inl ⟨xs, .inl (.inl g), by cases xs <;> simp⟩, z⟩⟩
def iEnumL (K : PySem.W.Frag) (ta : TA) : TI := fun σ H R => ta σ H fun vs H1 => ∃ a xs, vs = [.ref a] ∧ H1 a = some (.lst xs) ∧ R (Ite K a) H1
theorem pi_enumL {e : Expr} {ta : TA} {p pos tpos : Pos} {elts : List Expr} {kk : Nat} (hg : Gl X "enumerate") (hm : X.mg "enumerate" = none) (ha : PA X [e] ta) (hs : starEach [e] X.env = [(false, eval e X.env)] := by rfl) :
    PI X (.Tuple elts kk tpos) (.Call (.Name "enumerate" p) [e] [] pos) (iEnumL X.K ta) := PI.of (pi_enum hg hm (pa_mono ha) hs) fun σ H R q => ⟨_, q, fun vs H1 ⟨a, xs, e, g, r⟩ => ⟨a, xs, e, .inl (.inl g), r⟩⟩
end
theorem walkE {K : PySem.W.Frag} {a : Addr} {xs : List V} : Walk (Ite K a) xs.length (fun H => H a = some (.lst xs)) (YPair (fun i => some (.int (i : Nat))) (fun i => xs[i]?)) := (walk_enum (K := K) (a := a) (xs := xs)).mono (fun _ h => .inl (.inl h)) fun _ _ _ _ _ _ y => y
theorem seq_cut {s1 R : TS} {D : Ends} {σ : L2.St} {H : Hp} (I : L2.St → Hp → Prop) (h2 : ∀ σ H, I σ H → R D σ H) (h1 : ∀ C : L2.St → Hp → Prop, (∀ σ H, I σ H → C σ H) → s1 { D with nx := C } σ H) : tSeq s1 R D σ H := h1 _ h2
section
variable {X : Cx}
theorem inV_int (i : Int) : ∀ ns : List Int, inV (.int i) (List.map V.int ns) = decide (i ∈ ns)
  | [] => by simp [inV]
  | n :: r => by
    have ih := inV_int i r
    unfold inV at ih ⊢
    rw [List.map_cons, List.any_cons, ih]
    by_cases h : n = i
    · subst h; simp [eqV]
    · simp [eqV, h, Ne.symm h]
theorem flat_ints : ∀ ns : List Int, (List.map V.int ns).all flatV = true
  | [] => rfl
  | _ :: r => by rw [List.map_cons, List.all_cons, flat_ints r]; rfl
/-- an int in a list of ints -/
def rInI : R2 := fun x y H Q => ∃ i p ns, x = .int i ∧ y = .ref p ∧ H p = some (.lst (List.map V.int ns)) ∧ Q (.bl (decide (i ∈ ns))) H
theorem op_inI : OpR X (compareOp .In) rInI := OpR.of op_in_seq fun x y H Q ⟨i, p, ns, e1, e2, g, q⟩ => ⟨p, List.map V.int ns, e2, .inl (.inl (.inl g)), by rw [e1]; rfl, flat_ints ns, by rw [e1, inV_int]; exact q⟩
/-- xs.index(i): the first place -/
def rIndexI : V → List V → Hp → VK → Prop := fun x xs H Q => ∃ p ns i j, x = .ref p ∧ xs = [.int i] ∧ H p = some (.lst (List.map V.int ns)) ∧ ns[j]? = some i ∧ (∀ m, m < j → ns[m]? ≠ some i) ∧ Q (.int ((j : Nat) : Int)) H
theorem MtR.of {id : String} {r r' : V → List V → Hp → VK → Prop} (h : MtR X id r) (k : ∀ x xs H Q, r' x xs H Q → r x xs H Q) : MtR X id r' := fun pins s σ H x xs v us Q I rx rv q => h pins s σ H x xs v us Q I rx rv (k _ _ _ _ q)
theorem mt_indexI : MtR X "list.index" rIndexI := MtR.of mt_index fun x xs H Q ⟨p, ns, i, j, e1, e2, g, hj, hm, q⟩ =>
  ⟨p, List.map V.int ns, .int i, j, .int i, e1, e2, .inl (.inl g), rfl, flat_ints ns, by rw [List.getElem?_map, hj]; rfl, by simp [eqV], fun m z hmj hz => by
    rw [List.getElem?_map] at hz
    obtain ⟨b, h1, rfl⟩ := Option.map_eq_some_iff.mp hz
    have : b ≠ i := fun e => hm m hmj (e ▸ h1)
    simp [eqV, this], q⟩
end
def sl (ns : List Int) (i j : Nat) : List Int := (ns.drop i).take (j - i)
theorem cut_sl {ns : List Int} {i j : Nat} : cutV (List.map V.int ns) (some (i : Int)) (some (j : Int)) = List.map V.int (sl ns i j) := by
  unfold cutV sl
  rw [HT.sIx_nat, HT.sIx_nat, List.length_map, ← List.map_drop, ← List.map_take]
  congr 1
  by_cases h : i < ns.length
  · rw [Nat.min_eq_left (Nat.le_of_lt h)]
    by_cases h2 : j ≤ ns.length
    · rw [Nat.min_eq_left h2]
    · rw [Nat.min_eq_right (by omega), List.take_of_length_le (by rw [List.length_drop]; exact Nat.le_refl _), List.take_of_length_le (by rw [List.length_drop]; omega)]
  · rw [List.drop_eq_nil_of_le (by omega), List.drop_eq_nil_of_le (by omega), List.take_nil, List.take_nil]
theorem sl_len (ns : List Int) (i j : Nat) : (sl ns i j).length = min (j - i) (ns.length - i) := by
  unfold sl
  rw [List.length_take, List.length_drop]
/-- a dict comprehension -/
def DcLoop (J : It) (g : TG) (tt : TT) (tk tv : TE) (vs : List Nat) (σ : L2.St) (H1 : Hp) (Q : VK) : Prop := ∀ D, H1 D = none → ∃ W : Nat → Nat → Hp → Prop, (∃ m, W 0 m (upd H1 D (.dK []))) ∧ ∀ i m H, W i m H →
  (J.stop i H ∧ Q (.ref D) H) ∨ (J.go i H ∧ ∃ Nx : Hp → Prop, (∀ H', Nx H' → ∃ m', m' < m ∧ W (i + 1) m' H') ∧ ∀ x H', J.yld i H x H' → g x (wipe σ vs) H' fun σ2 H2 => wipe σ2 vs = wipe σ vs ∧ tt σ2 H2 fun b H3 =>
    if b = true then tk σ2 H3 fun y H4 => tv σ2 H4 fun z H5 => ∃ kvs k, y = kV k ∧ H5 D = some (.dK kvs) ∧ kvs.length < sizeLine ∧ Nx (upd H5 D (.dK (putK kvs k z))) else Nx H3)
theorem tDc_eq {wi : TI} {g : TG} {tt : TT} {tk tv : TE} {vs : List Nat} {σ : L2.St} {H : Hp} {Q : VK} : tDc wi g tt tk tv vs σ H Q = wi σ H fun J H1 => DcLoop J g tt tk tv vs σ H1 Q := rfl
theorem dcW {J : It} {n : Nat} {G : Hp → Prop} {Y : Nat → Hp → V → Hp → Prop} (w : Walk J n G Y) {g : TG} {tt : TT} {tk tv : TE} {vs : List Nat} {σ : L2.St} {H1 : Hp} {Q : VK} (Pv : Addr → Nat → Hp → Prop) (h0 : ∀ D H, Same H1 H → H1 D = none → H D = some (.dK []) → Pv D 0 H)
    (hG : ∀ D i H, H1 D = none → i ≤ n → Pv D i H → G H) (hs : ∀ D i x H H', i < n → H1 D = none → Pv D i H → Y i H x H' → g x (wipe σ vs) H' fun σ2 H2 => wipe σ2 vs = wipe σ vs ∧ tt σ2 H2 fun b H3 =>
      if b = true then tk σ2 H3 fun y H4 => tv σ2 H4 fun z H5 => ∃ kvs k, y = kV k ∧ H5 D = some (.dK kvs) ∧ kvs.length < sizeLine ∧ Pv D (i + 1) (upd H5 D (.dK (putK kvs k z))) else Pv D (i + 1) H3)
    (hd : ∀ D H, H1 D = none → Pv D n H → Q (.ref D) H) : DcLoop J g tt tk tv vs σ H1 Q := by
  intro D hD
  refine ⟨fun i m H => m = n - i ∧ i ≤ n ∧ Pv D i H, ⟨n, by simp, Nat.zero_le _, h0 D _ (same_upd hD) hD upd_same⟩, ?_⟩
  rintro i m H ⟨rfl, hi, p⟩
  have q := hG D i H hD hi p
  by_cases hlt : i < n
  · exact .inr ⟨w.goes i H hlt q, Pv D (i + 1), fun H' p' => ⟨n - (i + 1), by omega, rfl, hlt, p'⟩, fun x H' y => hs D i x H H' hlt hD p (w.yields i H x H' hlt q y)⟩
  · have e : i = n := by omega
    subst e
    exact .inl ⟨w.stops H q, hd D H hD p⟩

/-! ### data at any depth: what stands there, and == of it -/
structure Cod {α : Type} [DecidableEq α] (R : Hp → V → α → Prop) (f : α → PyData) (d : Nat) : Prop where
  dp : ∀ (K : PySem.W.Frag) H v a, R H v a → Dp K H v (f a)
  eq : ∀ a b, PyData.eqv (f a) (f b) = decide (a = b)
  lay : ∀ a, PyData.canLay0 (f a) = true
  dep : ∀ a, PyData.depth (f a) ≤ d
def IntV (_ : Hp) (v : V) (i : Int) : Prop := v = .int i
def LstV {α : Type} (R : Hp → V → α → Prop) (H : Hp) (v : V) (l : List α) : Prop := ∃ a vs, v = .ref a ∧ H a = some (.lst vs) ∧ All2 (R H) vs l
def TupV {α : Type} (R : Hp → V → α → Prop) (H : Hp) (v : V) (l : List α) : Prop := ∃ a vs, v = .ref a ∧ H a = some (.tup vs) ∧ All2 (R H) vs l
def Pr2V {α β : Type} (R : Hp → V → α → Prop) (S : Hp → V → β → Prop) (H : Hp) (v : V) (p : α × β) : Prop := ∃ a x y, v = .ref a ∧ H a = some (.tup [x, y]) ∧ R H x p.1 ∧ S H y p.2
def Pr3V {α β γ : Type} (R : Hp → V → α → Prop) (S : Hp → V → β → Prop) (T : Hp → V → γ → Prop) (H : Hp) (v : V) (p : α × β × γ) : Prop := ∃ a x y z, v = .ref a ∧ H a = some (.tup [x, y, z]) ∧ R H x p.1 ∧ S H y p.2.1 ∧ T H z p.2.2
theorem cod_int : Cod IntV PyData.int 0 := ⟨fun K H v a h => by rw [show v = .int a from h]; exact .int a, eqv_ii, fun _ => rfl, fun _ => Nat.le_refl _⟩
section
variable {α β γ : Type} [DecidableEq α] [DecidableEq β] [DecidableEq γ] {R : Hp → V → α → Prop} {S : Hp → V → β → Prop} {T : Hp → V → γ → Prop} {f : α → PyData} {g : β → PyData} {h : γ → PyData} {d e k : Nat}
theorem Cod.all (c : Cod R f d) {K : PySem.W.Frag} {H : Hp} {vs : List V} {l : List α} (a : All2 (R H) vs l) : DpAll K H vs (l.map f) := by
  induction a with
  | nil => exact .nil
  | cons r _ ih => exact .cons (c.dp _ _ _ _ r) ih
theorem Cod.eqAll (c : Cod R f d) : ∀ l m : List α, PyData.eqvAll (l.map f) (m.map f) = decide (l = m)
  | [], [] => by rw [List.map_nil, eqvAll_nil]; rfl
  | [], y :: s => by rw [List.map_nil, List.map_cons, PyData.eqvAll]; simp
  | x :: r, [] => by rw [List.map_nil, List.map_cons, PyData.eqvAll]; simp
  | x :: r, y :: s => by
    rw [List.map_cons, List.map_cons, eqvAll_cons, c.eq, Cod.eqAll c r s]
    simp only [List.cons.injEq, Bool.decide_and]
theorem Cod.layAll (c : Cod R f d) : ∀ l : List α, PyData.canLayAll0 (l.map f) = true
  | [] => rfl
  | x :: r => by rw [List.map_cons, PyData.canLayAll0, c.lay, Cod.layAll c r]; rfl
theorem Cod.depAll (c : Cod R f d) : ∀ l : List α, PyData.depthAll (l.map f) ≤ d
  | [] => by rw [List.map_nil, PyData.depthAll]; exact Nat.zero_le _
  | x :: r => by rw [List.map_cons, PyData.depthAll]; exact Nat.max_le.mpr ⟨c.dep x, Cod.depAll c r⟩
theorem cod_lst (c : Cod R f d) : Cod (LstV R) (fun l => .list (l.map f)) (d + 1) :=
  ⟨fun K H v l ⟨a, vs, e, ha, hv⟩ => by rw [e]; exact .lst (.inl (.inl ha)) (c.all hv), fun l m => by rw [PyData.eqv, c.eqAll], fun l => by rw [PyData.canLay0, c.layAll], fun l => by rw [PyData.depth]; exact Nat.succ_le_succ (c.depAll l)⟩
theorem cod_tup (c : Cod R f d) : Cod (TupV R) (fun l => .tuple (l.map f)) (d + 1) :=
  ⟨fun K H v l ⟨a, vs, e, ha, hv⟩ => by rw [e]; exact .tup (.inl (.inl ha)) (c.all hv), fun l m => by rw [PyData.eqv, c.eqAll], fun l => by rw [PyData.canLay0, c.layAll], fun l => by rw [PyData.depth]; exact Nat.succ_le_succ (c.depAll l)⟩
theorem cod_p2 (c : Cod R f d) (b : Cod S g e) : Cod (Pr2V R S) (fun p => .tuple [f p.1, g p.2]) (max d e + 1) :=
  ⟨fun K H v l ⟨a, x, y, e, ha, hx, hy⟩ => by rw [e]; exact .tup (.inl (.inl ha)) (.cons (c.dp _ _ _ _ hx) (.cons (b.dp _ _ _ _ hy) .nil)),
   fun l m => by
    rw [PyData.eqv, eqvAll_cons, eqvAll_cons, eqvAll_nil, c.eq, b.eq, Bool.and_true, ← Bool.decide_and]
    exact decide_eq_decide.mpr ⟨fun z => Prod.ext z.1 z.2, fun z => by rw [z]; exact ⟨rfl, rfl⟩⟩,
   fun l => by rw [PyData.canLay0, PyData.canLayAll0, PyData.canLayAll0, PyData.canLayAll0, c.lay, b.lay]; rfl,
   fun l => by
    rw [PyData.depth, PyData.depthAll, PyData.depthAll, PyData.depthAll]
    have h1 := c.dep l.1
    have h2 := b.dep l.2
    omega⟩
theorem cod_p3 (c : Cod R f d) (b : Cod S g e) (t : Cod T h k) : Cod (Pr3V R S T) (fun p => .tuple [f p.1, g p.2.1, h p.2.2]) (max d (max e k) + 1) :=
  ⟨fun K H v l ⟨a, x, y, z, e, ha, hx, hy, hz⟩ => by rw [e]; exact .tup (.inl (.inl ha)) (.cons (c.dp _ _ _ _ hx) (.cons (b.dp _ _ _ _ hy) (.cons (t.dp _ _ _ _ hz) .nil))),
   fun l m => by
    rw [PyData.eqv, eqvAll_cons, eqvAll_cons, eqvAll_cons, eqvAll_nil, c.eq, b.eq, t.eq, Bool.and_true, ← Bool.decide_and, ← Bool.decide_and]
    exact decide_eq_decide.mpr ⟨fun z => Prod.ext z.1 (Prod.ext z.2.1 z.2.2), fun z => by rw [z]; exact ⟨rfl, rfl, rfl⟩⟩,
   fun l => by rw [PyData.canLay0, PyData.canLayAll0, PyData.canLayAll0, PyData.canLayAll0, PyData.canLayAll0, c.lay, b.lay, t.lay]; rfl,
   fun l => by
    rw [PyData.depth, PyData.depthAll, PyData.depthAll, PyData.depthAll, PyData.depthAll]
    have h1 := c.dep l.1
    have h2 := b.dep l.2.1
    have h3 := t.dep l.2.2
    omega⟩
end
section
variable {X : Cx} {α : Type} [DecidableEq α] {R : Hp → V → α → Prop} {f : α → PyData} {d : Nat}
def rEqC (R : Hp → V → α → Prop) : R2 := fun x y H Q => ∃ a b, R H x a ∧ R H y b ∧ Q (.bl (decide (a = b))) H
def rNeC (R : Hp → V → α → Prop) : R2 := fun x y H Q => ∃ a b, R H x a ∧ R H y b ∧ Q (.bl (!decide (a = b))) H
theorem Cod.shaped (c : Cod R f d) (hd : d ≤ 64) (a : α) : SeqAt.shaped (f a) = true := by
  unfold SeqAt.shaped
  rw [c.lay, decide_eq_true (Nat.le_trans (c.dep a) hd)]
  rfl
theorem op_eqC (hu : X.A.units + 64 < cLine) (c : Cod R f d) (hd : d ≤ 64) : OpR X (compareOp .Eq) (rEqC R) := OpR.of (op_eqD hu) fun x y H Q ⟨a, b, ha, hb, q⟩ => ⟨f a, f b, c.dp _ _ _ _ ha, c.dp _ _ _ _ hb, c.shaped hd a, c.shaped hd b, by rw [c.eq]; exact q⟩
theorem op_neC (hu : X.A.units + 64 < cLine) (c : Cod R f d) (hd : d ≤ 64) : OpR X (compareOp .NotEq) (rNeC R) := OpR.of (op_neD hu) fun x y H Q ⟨a, b, ha, hb, q⟩ => ⟨f a, f b, c.dp _ _ _ _ ha, c.dp _ _ _ _ hb, c.shaped hd a, c.shaped hd b, by rw [c.eq]; exact q⟩
end
theorem ints_all {H : Hp} (ns : List Int) : All2 (IntV H) (List.map V.int ns) ns := by
  induction ns with
  | nil => exact .nil
  | cons n r ih => exact .cons rfl ih
theorem ints_of {H : Hp} {vs : List V} {ns : List Int} (h : All2 (IntV H) vs ns) : vs = List.map V.int ns := by
  induction h with
  | nil => rfl
  | cons r _ ih => rw [List.map_cons, ih, show _ = V.int _ from r]
theorem intL {H : Hp} {a : Addr} {ns : List Int} (g : H a = some (.lst (List.map V.int ns))) : LstV IntV H (.ref a) ns := ⟨a, _, rfl, g, ints_all ns⟩
theorem lsv_mono {H H' : Hp} (s : Same H H') (v : V) (n : List Int) (h : LstV IntV H v n) : LstV IntV H' v n := by
  obtain ⟨a, vs, e, g, k⟩ := h
  exact ⟨a, vs, e, s _ _ g, k.mono fun _ _ z => z⟩
/-- what stands however the heap goes on, but for one list that changes -/
structure Stab {α : Type} (R : Hp → V → α → Prop) : Prop where
  mono : ∀ {H H' : Hp}, Same H H' → ∀ v a, R H v a → R H' v a
  but : ∀ {H H' : Hp} {l : Addr} {ys : List V}, But l H H' → H l = some (.lst ys) → ∀ v a, R H v a → R H' v a
theorem stab_int : Stab IntV := ⟨fun _ _ _ h => h, fun _ _ _ _ h => h⟩
section
variable {α β γ : Type} {R : Hp → V → α → Prop} {S : Hp → V → β → Prop} {T : Hp → V → γ → Prop}
theorem stab_tup (c : Stab R) : Stab (TupV R) :=
  ⟨fun s v l ⟨a, vs, e, g, k⟩ => ⟨a, vs, e, s _ _ g, k.mono (c.mono s)⟩, fun bt gl v l ⟨a, vs, e, g, k⟩ => ⟨a, vs, e, tup_but bt g gl, k.mono (c.but bt gl)⟩⟩
theorem stab_p2 (c : Stab R) (b : Stab S) : Stab (Pr2V R S) :=
  ⟨fun s v l ⟨a, x, y, e, g, h1, h2⟩ => ⟨a, x, y, e, s _ _ g, c.mono s _ _ h1, b.mono s _ _ h2⟩, fun bt gl v l ⟨a, x, y, e, g, h1, h2⟩ => ⟨a, x, y, e, tup_but bt g gl, c.but bt gl _ _ h1, b.but bt gl _ _ h2⟩⟩
theorem stab_p3 (c : Stab R) (b : Stab S) (t : Stab T) : Stab (Pr3V R S T) :=
  ⟨fun s v l ⟨a, x, y, z, e, g, h1, h2, h3⟩ => ⟨a, x, y, z, e, s _ _ g, c.mono s _ _ h1, b.mono s _ _ h2, t.mono s _ _ h3⟩, fun bt gl v l ⟨a, x, y, z, e, g, h1, h2, h3⟩ => ⟨a, x, y, z, e, tup_but bt g gl, c.but bt gl _ _ h1, b.but bt gl _ _ h2, t.but bt gl _ _ h3⟩⟩
theorem lstV_mono (c : Stab R) {H H' : Hp} (s : Same H H') (v : V) (l : List α) (h : LstV R H v l) : LstV R H' v l := by
  obtain ⟨a, vs, e, g, k⟩ := h
  exact ⟨a, vs, e, s _ _ g, k.mono (c.mono s)⟩
theorem Stab.upd (c : Stab R) {H : Hp} {l : Addr} {ys : List V} {o : HO} (g : H l = some (.lst ys)) (v : V) (a : α) (h : R H v a) : R (upd H l o) v a := c.but ((But.refl l H).put) g v a h
end

/-! ### constants of the top, texts in lists, reversed lists, zip of tuples -/
theorem SqT.of {K : PySem.W.Frag} {H : Hp} {a : Addr} {xs : List V} (h : H a = some (.tup xs)) : SqT K H a xs := .inl (.inl h)
theorem SqL.of {K : PySem.W.Frag} {H : Hp} {a : Addr} {xs : List V} (h : H a = some (.lst xs)) : SqL K H a xs := .inl (.inl h)
section
variable {X : Cx}
theorem ints_tshaped (ns : List Int) : SeqAt.shaped (.tuple (ns.map PyData.int)) = true := (cod_tup cod_int).shaped (by decide) ns
/-- == of a tracked tuple of ints and any tuple of ints -/
def rEqTK (K : PySem.W.Frag) : R2 := fun x y H Q => ∃ a b ns ms, x = .ref a ∧ y = .ref b ∧ H a = some (.tup (List.map V.int ns)) ∧ SqT K H b (List.map V.int ms) ∧ Q (.bl (decide (ns = ms))) H
theorem op_eqTK (hu : X.A.units + 64 < cLine) : OpR X (compareOp .Eq) (rEqTK X.K) := OpR.of (op_eqD hu) (by
  rintro x y H Q ⟨a, b, ns, ms, rfl, rfl, ha, hb, q⟩
  refine ⟨_, _, .tup (.inl (.inl ha)) (ints_dp ns), .tup hb (ints_dp ms), ints_tshaped ns, ints_tshaped ms, ?_⟩
  rw [(cod_tup cod_int).eq ns ms]
  exact q)
abbrev OkS := {s : Str // PyData.strOk s = true}
def StrV (_ : Hp) (v : V) (s : OkS) : Prop := v = .str s.val
theorem eqv_ss (a b : Str) : PyData.eqv (.str a) (.str b) = decide (a = b) := by
  rw [PyData.eqv]
  by_cases h : a = b
  · rw [decide_eq_true h]; exact beq_iff_eq.mpr h
  · rw [decide_eq_false h]; exact beq_eq_false_iff_ne.mpr h
def vS (s : OkS) : V := .str s.val
def dStr (s : OkS) : PyData := .str s.val
theorem cod_str : Cod StrV dStr 0 := ⟨fun K H v a h => by rw [show v = .str a.val from h]; exact .str a.val, fun a b => by
  show PyData.eqv (.str a.val) (.str b.val) = _
  rw [eqv_ss]; exact decide_eq_decide.mpr Subtype.ext_iff.symm, fun a => by show PyData.canLay0 (.str a.val) = true; rw [PyData.canLay0]; exact a.property, fun a => by show PyData.depth (.str a.val) ≤ 0; rw [PyData.depth]; exact Nat.le_refl _⟩
theorem strs_all {H : Hp} : ∀ ns : List OkS, All2 (StrV H) (List.map vS ns) ns
  | [] => .nil
  | _ :: r => .cons rfl (strs_all r)
theorem strs_of {H : Hp} {vs : List V} {ns : List OkS} (h : All2 (StrV H) vs ns) : vs = List.map vS ns := by
  induction h with
  | nil => rfl
  | cons r _ ih => rw [List.map_cons, ih, show _ = _ from r]; rfl
theorem strL {H : Hp} {a : Addr} {ns : List OkS} (g : H a = some (.lst (List.map vS ns))) : LstV StrV H (.ref a) ns := ⟨a, _, rfl, g, strs_all ns⟩
theorem stab_str : Stab StrV := ⟨fun _ _ _ h => h, fun _ _ _ _ h => h⟩
theorem strs_dp {K : PySem.W.Frag} {H : Hp} (ss : List OkS) : DpAll K H (ss.map vS) (ss.map dStr) := cod_str.all (strs_all ss)
/-- != and == of a tuple of texts of the top and a new one -/
def rNeSK (K : PySem.W.Frag) : R2 := fun x y H Q => ∃ a b ss ts, x = .ref a ∧ y = .ref b ∧ SqT K H a (List.map vS ss) ∧ H b = some (.tup (List.map vS ts)) ∧ Q (.bl (!decide (ss = ts))) H
theorem op_neSK (hu : X.A.units + 64 < cLine) : OpR X (compareOp .NotEq) (rNeSK X.K) := OpR.of (op_neD hu) (by
  rintro x y H Q ⟨a, b, ss, ts, rfl, rfl, ha, hb, q⟩
  refine ⟨_, _, .tup ha (strs_dp ss), .tup (.inl (.inl hb)) (strs_dp ts), (cod_tup cod_str).shaped (by decide) ss, (cod_tup cod_str).shaped (by decide) ts, ?_⟩
  rw [(cod_tup cod_str).eq ss ts]
  exact q)
/-- isinstance of a tuple of the top -/
def rIsiTK (K : PySem.W.Frag) : List V → Hp → VK → Prop := fun vs H Q => ∃ p n xs b, vs = [.ref p, .ty n] ∧ SqT K H p xs ∧ kitB "tuple" n = some b ∧ Q (.bl b) H
theorem call_isiTK : CallR X (.builtin "isinstance") (rIsiTK X.K) := CallR.of call_isi (by
  rintro vs H Q ⟨p, n, xs, b, rfl, hp, hb, q⟩
  refine ⟨.ref p, .ty n, .type "tuple", .type n, b, rfl, .ty n, ?_, kit_ty hb, q⟩
  rcases hp with (h | ⟨o, h⟩) | ⟨o, its, k, h1, h2, _⟩
  · exact .base (.tup h)
  · exact .fTuple h
  · exact .kTuple h1 h2)
/-- reversed(list) -/
def iRevS (K : PySem.W.Frag) (ta : TA) : TI := fun σ H R => ta σ H fun vs H1 => ∃ a xs, vs = [.ref a] ∧ H1 a = some (.lst xs) ∧ R (Itv K a xs.length) H1
theorem pi_revS {tg e : Expr} {ta : TA} {p pos : Pos} (hg : Gl X "reversed") (hm : X.mg "reversed" = none) (ha : PA X [e] ta) (hs : starEach [e] X.env = [(false, eval e X.env)] := by rfl) :
    PI X tg (.Call (.Name "reversed" p) [e] [] pos) (iRevS X.K ta) := PI.of (pi_reversed hg hm (pa_mono ha) hs) fun σ H R q => ⟨_, q, fun vs H1 ⟨a, xs, e, g, r⟩ => ⟨a, xs, e, .inl (.inl g), r⟩⟩
/-- zip of two tuples -/
def iZipTS (K : PySem.W.Frag) (ta : TA) : TI := fun σ H R => ta σ H fun vs H1 => ∃ a b xs ys, vs = [.ref a, .ref b] ∧ SqT K H1 a xs ∧ SqT K H1 b ys ∧ R (RZ.ItzT K a b) H1
theorem pi_zipTS {e e2 : Expr} {ta : TA} {p pos tpos : Pos} {elts : List Expr} {kk : Nat} (hg : Gl X "zip") (hm : X.mg "zip" = none) (ha : PA X [e, e2] ta) (hs : starEach [e, e2] X.env = (false, eval e X.env) :: starEach [e2] X.env := by rfl) (hpl : (backTo pos (starEach [e2] X.env)).any (·.1) = false := by rfl) :
    PI X (.Tuple elts kk tpos) (.Call (.Name "zip" p) [e, e2] [] pos) (iZipTS X.K ta) := PI.of (RZ.pi_zipA hg hm (pa_mono ha) hs hpl) fun σ H R q => ⟨_, q, fun vs H1 ⟨a, b, xs, ys, e, g1, g2, r⟩ => ⟨a, b, xs, ys, e, .inr ⟨g1, g2, r⟩⟩⟩
end
theorem walkV {K : PySem.W.Frag} {a : Addr} {xs : List V} : Walk (Itv K a xs.length) xs.length (fun H => H a = some (.lst xs)) (fun i H x H' => H' = H ∧ xs[xs.length - 1 - i]? = some x) := (walk_rev (K := K) (a := a) (xs := xs)).mono (fun _ h => .inl (.inl h)) fun _ _ _ _ _ _ y => y
theorem walkVI {K : PySem.W.Frag} {a : Addr} {ns : List Int} : Walk (Itv K a ns.length) ns.length (fun H => H a = some (.lst (List.map V.int ns))) (YInt ns.reverse) := by
  have w := walkV (K := K) (a := a) (xs := List.map V.int ns)
  rw [List.length_map] at w
  refine w.mono (fun _ h => h) fun i H x H' hi _ y => ⟨y.1, ?_⟩
  have h := y.2
  rw [List.getElem?_map] at h
  obtain ⟨b, h1, rfl⟩ := Option.map_eq_some_iff.mp h
  exact ⟨b, by rw [List.getElem?_reverse hi]; exact h1, rfl⟩
theorem walkZT {K : PySem.W.Frag} {a b : Addr} {xs ys : List V} {n : Nat} (hn : n = min xs.length ys.length) : Walk (RZ.ItzT K a b) n (fun H => SqT K H a xs ∧ SqT K H b ys) (YPair (fun i => xs[i]?) (fun i => ys[i]?)) := by
  subst hn
  refine ⟨fun i _ hi q => ?_, fun _ q => ⟨xs, ys, q.1, q.2, by omega⟩, fun i H v H' _ q y => ?_⟩
  · have h1 : i < xs.length := by omega
    have h2 : i < ys.length := by omega
    exact ⟨xs, ys, xs[i], ys[i], q.1, q.2, by simp [h1], by simp [h2]⟩
  · obtain ⟨T, x, z, h1, h2, h3, h4, h5⟩ := y
    exact ⟨T, x, z, h1, h2, h3, h4 xs q.1, h5 ys q.2⟩
theorem _root_.L2.Same.seqT {K : PySem.W.Frag} {H H' : Hp} (s : Same H H') {a : Addr} {xs : List V} (h : SqT K H a xs) : SqT K H' a xs := by
  rcases h with (h | ⟨o, h⟩) | h
  · exact .inl (.inl (s _ _ h))
  · exact .inl (.inr ⟨o, s _ _ h⟩)
  · exact .inr h
/-- the codes of a text -/
def cds (z : Str) : List Int := z.cps.toList.map fun (c : Nat) => (c : Int)
theorem cds_at {z : Str} {i c : Nat} (h : z.cps[i]? = some c) : (cds z)[i]? = some (c : Int) := by
  unfold cds
  rw [List.getElem?_map, Array.getElem?_toList, h]
  rfl
theorem cds_len (z : Str) : (cds z).length = z.cps.size := by unfold cds; rw [List.length_map, Array.length_toList]
section
variable {X : Cx} {α : Type} [DecidableEq α] {R : Hp → V → α → Prop} {f : α → PyData} {d : Nat}
theorem Cod.anyEq (c : Cod R f d) (a : α) : ∀ l : List α, ((l.map f).any fun z => PyData.eqv z (f a)) = decide (a ∈ l)
  | [] => by simp
  | x :: r => by
    rw [List.map_cons, List.any_cons, c.eq, Cod.anyEq c a r]
    by_cases h : x = a
    · subst h; simp
    · rw [decide_eq_false h, Bool.false_or]
      exact decide_eq_decide.mpr ⟨fun z => List.mem_cons_of_mem _ z, fun z => (List.mem_cons.mp z).resolve_left fun e => h e.symm⟩
/-- x in a list, x not in a list or a tuple, at any depth -/
def rInLC (R : Hp → V → α → Prop) : R2 := fun x y H Q => ∃ a l, R H x a ∧ LstV R H y l ∧ Q (.bl (decide (a ∈ l))) H
def rNotInLC (R : Hp → V → α → Prop) : R2 := fun x y H Q => ∃ a l, R H x a ∧ LstV R H y l ∧ Q (.bl (!decide (a ∈ l))) H
def rNotInTC (R : Hp → V → α → Prop) : R2 := fun x y H Q => ∃ a l, R H x a ∧ TupV R H y l ∧ Q (.bl (!decide (a ∈ l))) H
theorem op_inLC (hu : X.A.units + 65 < cLine) (c : Cod R f d) (hd : d < 64) : OpR X (compareOp .In) (rInLC R) := OpR.of (op_inD hu) fun x y H Q ⟨a, l, ha, hl, q⟩ => ⟨f a, l.map f, c.dp _ _ _ _ ha, (cod_lst c).dp _ _ _ _ hl, c.shaped (Nat.le_of_lt hd) a, (cod_lst c).shaped hd l, by rw [c.anyEq]; exact q⟩
theorem op_notInLC (hu : X.A.units + 65 < cLine) (c : Cod R f d) (hd : d < 64) : OpR X (compareOp .NotIn) (rNotInLC R) := OpR.of (op_notInD hu) fun x y H Q ⟨a, l, ha, hl, q⟩ => ⟨f a, l.map f, c.dp _ _ _ _ ha, (cod_lst c).dp _ _ _ _ hl, c.shaped (Nat.le_of_lt hd) a, (cod_lst c).shaped hd l, by rw [c.anyEq]; exact q⟩
theorem op_notInTC (hu : X.A.units + 65 < cLine) (c : Cod R f d) (hd : d < 64) : OpR X (compareOp .NotIn) (rNotInTC R) := by
  intro pins s σ H x y v u Q I rx ry h
  obtain ⟨a, l, ha, hl, q⟩ := h
  have sd := c.shaped (Nat.le_of_lt hd) a
  have se := (cod_tup c).shaped hd l
  obtain ⟨as, r1⟩ := Dp.reads I (f a) x v (c.dp _ _ _ _ ha) rx
  obtain ⟨bs, r2⟩ := Dp.reads I (.tuple (l.map f)) y u ((cod_tup c).dp _ _ _ _ hl) ry
  exact SeqAt.notIn_tuple_reads r2 r1 (SeqAt.canLay_of_shaped se) (SeqAt.canLay_of_shaped sd) (room_in_shaped sd hu) ⟨.bl _, H, I, rfl, by rw [c.anyEq]; exact q⟩
theorem hu5 {A : Around} {k : Nat} (hr : Room k A) : A.units + 65 < cLine := by have := hr.un; omega
/-- ''.join of a list of single signs -/
def oneS (c : Nat) : Str := ⟨#[c]⟩
theorem joinL_one : ∀ cs : List Nat, TL.joinL [] (cs.map fun c => [c]) = cs
  | [] => rfl
  | [_] => rfl
  | x :: y :: r => by
    show [x] ++ ([] ++ TL.joinL [] ((y :: r).map fun c => [c])) = _
    rw [joinL_one (y :: r)]
    rfl
theorem join_one (cs : List Nat) : Txt.join (Str.ofString "") (cs.map oneS) = ⟨cs.toArray⟩ := by
  have h := SX.join_S [] (cs.map fun c => [c])
  rw [joinL_one, List.map_map] at h
  exact h
def tJoinC (to te : TE) : TE := fun σ H Q => to σ H fun x H1 => x = .str (Str.ofString "") ∧ te σ H1 fun y H2 => ∃ (p : Addr) (cs : List Nat), y = .ref p ∧ H2 p = some (.lst (cs.map fun c => V.str (oneS c))) ∧ cs.length ≤ 1000000 ∧ Q (.str ⟨cs.toArray⟩) H2
theorem one_sum : ∀ cs : List Nat, ((cs.map oneS).map (·.length)).sum = cs.length
  | [] => rfl
  | c :: r => by
    rw [List.map_cons, List.map_cons, List.sum_cons, one_sum r, List.length_cons, Nat.add_comm]
    rfl
theorem pe_joinC {o e : Expr} {to te : TE} {apos pos : Pos} (ho : PE X o to) (he : PE X e te) (hs : starEach [e] X.env = [(false, eval e X.env)] := by rfl) (hbase : attributeBase o "join" X.env (eval o X.env) = eval o X.env := by rfl) (hline : (apos.endLine == pos.line) = true := by rfl) :
    PE X (.Call (.Attribute o "join" apos) [e] [] pos) (tJoinC to te) := PE.of (pe_join (pe_mono ho) (pe_mono he) hs hbase hline) fun σ H Q q => ⟨_, q, fun x H1 z => ⟨⟨_, z.1⟩, _, z.2, fun y H2 ⟨p, cs, e, g, hl, w⟩ => ⟨Str.ofString "", p, cs.map oneS, z.1, by rw [e], .inl (.inl (.inl (by rw [List.map_map]; exact g))), by
    rw [one_sum, List.length_map, show (Str.ofString "").length = 0 from rfl]; omega, by rw [join_one]; exact w⟩⟩⟩
end
section
variable {X : Cx}
/-- xs * n -/
def rRepL : R2 := fun x y H Q => ∃ l k xs, x = .ref l ∧ y = .int k ∧ H l = some (.lst xs) ∧ k ≤ 2 ^ 62 - 1 ∧ -(2 ^ 62) ≤ k ∧ xs.length * k.toNat ≤ sizeLine ∧ NewH H (.lst (List.replicate k.toNat xs).flatten) fun p H' => Q (.ref p) H'
theorem op_repL : OpR X (binaryOp .Mult) rRepL := OpR.of op_rep fun x y H Q ⟨l, k, xs, e1, e2, h1, z1, z2, z3, q⟩ => ⟨l, k, xs, e1, e2, h1, by omega, by omega, z3, q.go⟩
end

theorem iteP {p : Prop} {i : Decidable p} {a b : Prop} (x : p → a) (y : ¬ p → b) : @ite _ p i a b := by
  by_cases h : p
  · rw [if_pos h]; exact x h
  · rw [if_neg h]; exact y h
section
variable {X : Cx}
/-- name = {k: v for ..} on one line, the name a local -/
theorem ps_setDc {i : Nat} {y : Str} {py : Pos} {kx vx tg iter : Expr} {ifs : List Expr} {scope : Scope} {own : List (Str × Nat)} {pos spos : Pos} {wi : TI} {g : TG} {tt : TT} {tk tv : TE} (hc : X.calm = true) (hN : X.N.Nodup) (hy : X.N[i]? = some y) (hyl : X.env.scope.names.lookup y = some .local)
    (hsw : swapsWith (.DictComp kx vx [⟨tg, iter, ifs, 0⟩] scope pos) (some (.Name y py)) spos.line X.env = pure true) (hi : PI X tg iter wi) (ok : BlkOk X.N X.env.scope scope own)
    (hg : ∀ (s : Shared) (H : Hp) (C : Addr) (cl : List (Str × Addr)) (fp : List Addr), PG (X.blk s H scope (compEnvC scope cl C X.env) fp) tg g) (ht : ∀ (s : Shared) (H : Hp) (C : Addr) (cl : List (Str × Addr)) (fp : List Addr), PTs (X.blk s H scope (compEnvC scope cl C X.env) fp) ifs tt)
    (hk : ∀ (s : Shared) (H : Hp) (C : Addr) (cl : List (Str × Addr)) (fp : List Addr), PE (X.blk s H scope (compEnvC scope cl C X.env) fp) kx tk)
    (he : ∀ (s : Shared) (H : Hp) (C : Addr) (cl : List (Str × Addr)) (fp : List Addr), PE (X.blk s H scope (compEnvC scope cl C X.env) fp) vx tv) (hs : ∀ x, foldedSetIterable iter X.env x = pure x := by intro _; rfl) :
    PS X (.Assign [.Name y py] (.DictComp kx vx [⟨tg, iter, ifs, 0⟩] scope pos) spos) (tAsg (tDc wi g tt tk tv (own.map (·.2))) (gName i)) := by
  refine ⟨fun pins s σ H D I h => ?_⟩
  rw [exec_Assign_Name_used _ _ _ _ hsw]
  refine wpAny_bind (wpAny_standAt (wpAny_bind ?_))
  show wpAny _ X.A (do let _ ← comprehension (.DictComp kx vx [⟨tg, iter, ifs, 0⟩] scope pos) scope X.env (firstIterPos [⟨tg, iter, ifs, 0⟩] pos) newDict false (eval iter X.env) (some (assign (.Name y py) X.env))) _ _ s
  have h : tDc wi g tt tk tv (own.map (·.2)) σ H (fun x H1 => gName i x σ H1 D.nx) := h
  refine wpAny_bind (thn (dc_core (Qf := fun _ s' => SP X pins D .next s') hc hN I hi ok hg ht hk he hs h fun L C s' m H' I' q hn f => ?_) fun _ s' hq => wpAny_pure (wpAny_pure hq))
  show wpAny _ _ (assign (.Name y py) X.env (.ref L)) _ _ _
  refine wpAny_assign_Name (store_ok2 (v := V.ref L) I' hN hy (.inl hyl) rfl (fun s2 I2 ⟨a, sb, ha⟩ => ?_) (.inr hyl))
  obtain ⟨f0, f1, f2, f3, f4, f5⟩ := f
  have haC : C ≠ a := by
    rcases ha with z | z
    · rw [z]; exact f1
    · exact fun e => f4 y a z e.symm
  refine ⟨m, hn.sameBut sb haC, fun h3 sb3 => ?_⟩
  exact ⟨_, H', I2.turned (t' := s2.toks) (fun b o hb e => (sb3.2 b hb).trans e) f0 f1 f3 f4 f5, q⟩
theorem sw_trueD {kx vx : Expr} {gs : List Comprehension} {scope : Scope} {pos py : Pos} {y : Str} {l : Nat} {env : Env} (hk : env.scope.kind = .function) (hy : env.scope.names.lookup y = some .local) (hl : (py.line == pos.line) = true)
    (ha : (scope.names.any fun (n, k) => n == y && (k == .local || k == .cell)) = false) : swapsWith (.DictComp kx vx gs scope pos) (some (.Name y py)) l env = pure true := by
  have ky : env.kindOf y = some .local := hy
  have hb : env.blockKind = .function := by unfold Env.blockKind; rw [hk]; rfl
  unfold swapsWith
  simp only [hb, ky, ha, Expr.pos, hl]
  rfl
end

/-- enumerate(text): each character in a new pair -/
def Ites (x : Str) : It :=
  ⟨fun i _ => i < x.cps.size, fun i H v H' => ∃ T c, v = .ref T ∧ H T = none ∧ H' = upd H T (.tup [.int (i : Nat), .str ⟨#[c]⟩]) ∧ x.cps[i]? = some c, fun i _ => x.cps.size ≤ i⟩
theorem turn_enumS {P : Program} {w : World} {K : PySem.W.Frag} {elts : List Expr} {kk : Nat} {tpos : Pos} (x : Str) (t : Tok) (e it : Addr) (ty : String) (hty : ty = "str_ascii_iterator" ∨ ty = "str_iterator") :
    Turn P w K (.Tuple elts kk tpos) (Ites x) [e, it] e (fun i h => (∃ old, IsEnum h e it ((i : Nat) : Int) old) ∧ h.IsStrIter it ty x t i ∧ e ≠ it ∧ i ≤ x.cps.size) where
  mem := by simp
  obj := fun i h st b hb => by
    obtain ⟨⟨old, he⟩, ⟨o, ho, hc, hd⟩, _⟩ := st
    have e' : b = e ∨ b = it := by simpa using hb
    rcases e' with z | z
    · rw [z]; exact ⟨_, he, fun v q => nomatch q⟩
    · rw [z]; exact ⟨o, ho, fun v q => by rw [hd] at q; cases q⟩
  keep := fun i h h' st k => by
    obtain ⟨⟨old, he⟩, ⟨o, ho, r⟩, hne⟩ := st
    exact ⟨⟨old, k e (by simp) _ he⟩, ⟨o, k it (by simp) o ho, r⟩, hne⟩
  item := by
    intro X hP hw hK hc i pins s σ H E I hf st hg
    subst hP hw hK
    obtain ⟨⟨old, he⟩, hit, hne, hle⟩ := st
    have hel : e < s.heap.objs.size := Heap.lt_size he
    have hil : it < s.heap.objs.size := by obtain ⟨_, q, _⟩ := hit; exact Heap.lt_size q
    have Dr : Draws X.prog X.w X.A.in1 it [it] x.cps.size (fun i v => ∃ c u, x.cps[i]? = some c ∧ v = .str ⟨#[c]⟩ u) (fun i h => h.IsStrIter it ty x t i) := by
      rcases hty with z | z
      · rw [z]; exact Draws.strAscii (A := X.A.in1) (I.ok.hd hc) it x t
      · rw [z]; exact Draws.strWide (A := X.A.in1) (I.ok.hd hc) it x t
    refine wpAny_pyNext_enum_itemD Dr he hit hg hne (by simpa using hne) fun v h' tk hv ho hit' hT hsz hk => ?_
    obtain ⟨c, u, hcx, rfl⟩ := hv
    refine ⟨_, rfl, wpAny_letOwnedTupleGo_enum (s := { s with heap := h', toks := tk + 1 }) ho fun h'' he' sb => ?_⟩
    have hT2 : h''.get? s.heap.objs.size = some { cls := .type "tuple", data := .seq #[.int i tk, .str ⟨#[c]⟩ u] } := (sb.2 _ (Nat.ne_of_gt hel)).trans hT
    have new : ObjOk X.prog X.w (upd H s.heap.objs.size (.tup [.int (i : Nat), .str ⟨#[c]⟩])) h'' s.heap.objs.size (.tup [.int (i : Nat), .str ⟨#[c]⟩]) :=
      ⟨by show 2 ≤ sizeLine; decide, [.int i tk, .str ⟨#[c]⟩ u], .cons ⟨_, rfl⟩ (.cons ⟨_, rfl⟩ .nil), ⟨_, hT2, rfl, _, rfl⟩⟩
    have I1 : Inv X pins σ (upd H s.heap.objs.size (.tup [.int (i : Nat), .str ⟨#[c]⟩])) { s with heap := h'', toks := tk + 1 } :=
      I.turnedNew (ch := [e, it]) (fun b ob hb q => (sb.2 b (fun z => hb (by simp [z]))).trans (hk b ob (fun z => hb (by simp [z])) (fun z => hb (by simp [z])) q)) hf (Nat.le_refl _) new
    refine ⟨.ref s.heap.objs.size, _, I1, rfl, ⟨_, c, rfl, I.hok.fresh (Nat.le_refl _), rfl, hcx⟩, ⟨⟨.str ⟨#[c]⟩ u, ?_⟩, ?_, hne, Nat.succ_le_of_lt hg⟩, fun b hb => ?_⟩
    · have e1 : ((i + 1 : Nat) : Int) = (i : Int) + 1 := by omega
      rw [e1]; exact he'
    · obtain ⟨o, q, r⟩ := hit'
      exact ⟨o, (sb.2 it (Ne.symm hne)).trans q, r⟩
    · have hb' : b < s.heap.objs.size := by
        have e' : b = e ∨ b = it := by simpa using hb
        rcases e' with z | z
        · rw [z]; exact hel
        · rw [z]; exact hil
      rw [upd_ne (Nat.ne_of_lt hb')]
      exact (hf b hb).1
  done := by
    intro X hP hw hK hc i pins s σ H E I hf st hg
    subst hP hw hK
    obtain ⟨⟨old, he⟩, hit, hne, hle⟩ := st
    obtain ⟨f0, f1, f2, f3, f4, f5⟩ := hf it (by simp)
    have Dr : Draws X.prog X.w X.A.in1 it [it] x.cps.size (fun i v => ∃ c u, x.cps[i]? = some c ∧ v = .str ⟨#[c]⟩ u) (fun i h => h.IsStrIter it ty x t i) := by
      rcases hty with z | z
      · rw [z]; exact Draws.strAscii (A := X.A.in1) (I.ok.hd hc) it x t
      · rw [z]; exact Draws.strWide (A := X.A.in1) (I.ok.hd hc) it x t
    have ei : i = x.cps.size := Nat.le_antisymm hle hg
    subst ei
    exact wpAny_pyNext_enum_endD Dr he hit fun h' eb => ⟨rfl, I.turned (t' := s.toks) (fun b o hb q => eb b o hb q) f0 f1 f3 f4 f5⟩
  self := fun A i s Q E st h => let ⟨⟨_, he⟩, _⟩ := st; wpAny_pyIter_enum he h
def iEnumS (ta : TA) : TI := fun σ H R => ta σ H fun vs H1 => ∃ x, vs = [.str x] ∧ R (Ites x) H1
theorem pi_enumS {X : Cx} {e : Expr} {ta : TA} {p pos tpos : Pos} {elts : List Expr} {kk : Nat} (hg : Gl X "enumerate") (hm : X.mg "enumerate" = none) (ha : PA X [e] ta) (hs : starEach [e] X.env = [(false, eval e X.env)] := by rfl) :
    PI X (.Tuple elts kk tpos) (.Call (.Name "enumerate" p) [e] [] pos) (iEnumS ta) := by
  refine ⟨fun pins s σ H R I h => ?_⟩
  refine Call_ (ld_blt I hg hm boot_enumerate (PyProof.Rows.callWith_type1 (thn (ha.run pos pins s σ H _ I h) fun us s1 ⟨vs, H1, I1, r1, q1⟩ => ?_) hs rfl))
  obtain ⟨x, ex, q⟩ := q1
  subst ex
  cases r1 with
  | cons r rr =>
    cases rr
    obtain ⟨t, rfl⟩ := r
    refine call_enumerate_str fun h' he hit hsz hk => wpAny_pyIter_enum he ?_
    have I2 : Inv X pins σ H1 { s1 with heap := h' } := I1.kept (t' := s1.toks) hk
    refine ⟨s1.heap.objs.size + 1, [s1.heap.objs.size + 1, s1.heap.objs.size], _, _, H1, rfl, I2, turn_enumS x t (s1.heap.objs.size + 1) s1.heap.objs.size (strIterType x) (by unfold strIterType; split <;> simp), ⟨⟨.none, he⟩, hit, Nat.succ_ne_self _, Nat.zero_le _⟩, fun b hb => ?_, q⟩
    have e' : b = s1.heap.objs.size + 1 ∨ b = s1.heap.objs.size := by simpa using hb
    have hle : s1.heap.objs.size ≤ b := by
      rcases e' with z | z
      · rw [z]; exact Nat.le_add_right _ _
      · rw [z]; exact Nat.le_refl _
    exact I1.fpOk hle (I1.hok.fresh hle)
theorem walk_enumS {z : Str} : Walk (Ites z) z.cps.size (fun _ => True) (fun i H v H' => ∃ T c, v = .ref T ∧ H T = none ∧ H' = upd H T (.tup [.int (i : Nat), .str ⟨#[c]⟩]) ∧ z.cps[i]? = some c) :=
  ⟨fun _ _ hi _ => hi, fun _ _ => Nat.le_refl _, fun _ _ _ _ _ _ y => y⟩

/-! ### setdefault of a dict with tuple keys -/
section
variable {X : Cx} {pins : List (Addr × Obj)} {σ : L2.St} {H : Hp} {s : Shared} {a b : Addr} {r : Value} {d : V} {k : List L2.Key} {A : Around} {E : Value → Shared → Prop}
theorem d_setdT {kvs : List (List L2.Key × V)} {Q : Value → Shared → Prop} (hu : A.units + 1 < cLine) (I : Inv X pins σ H s) (e : H a = some (.dT kvs)) (eb : H b = some (.tup (k.map kV))) (rd : RelV d r) (hl : kvs.length < sizeLine)
    (h1 : ∀ v, valV kvs k = some v → ∀ (w' : Value) (s' : Shared), Inv X pins σ H s' → RelV v w' → Q w' s') (h2 : valV kvs k = none → ∀ (w' : Value) (s' : Shared), Inv X pins σ (upd H a (.dT (putK kvs k d))) s' → RelV d w' → Q w' s') :
    wpAny (model X.prog X.w) A (call (.builtin "dict.setdefault") [.ref a, .ref b, r]) Q E s := by
  obtain ⟨z, hd, xs, rel, dd⟩ := dt_of I.hok e
  have hz : xs.length ≤ sizeLine := by rw [← Paired.length rel]; exact z
  have hl2 : (putK kvs k d).length ≤ sizeLine := by have := length_putK kvs k d; omega
  refine call_setdefault_heap (hsz := hz) (tupleKind_room_in1 hu) (key_of I.hok eb) hd dd (fun p hp => ?_) (fun hn h' dd' hs => ?_)
  · have q := rel.val k
    rw [hp] at q
    cases q0 : valV kvs k with
    | none => rw [q0] at q; exact (show False from q).elim
    | some v0 => rw [q0] at q; exact h1 v0 q0 _ _ (I.tok _) q
  · have q := rel.val k
    rw [hn] at q
    cases q0 : valV kvs k with
    | some v0 => rw [q0] at q; exact (show False from q).elim
    | none =>
      obtain ⟨o, es, ep, hq, h3, h4, h5, _, h6⟩ := dd'
      refine h2 q0 _ _ (d_write I (by rw [e]; exact True.intro) hs ⟨o, hq⟩ ⟨hl2, hd, _, (rel.put k eb rd).keeps fun c ys ec => ?_, o, es, ep, hq, h3, h4, h5, h6⟩) rd
      rw [upd_ne (ne_of ec e (fun z => nomatch z))]
      exact ec
end
def tDSetdT (td ty tx : TE) : TE := fun σ H Q => td σ H fun x H1 => ∃ a, x = .ref a ∧ IsD H1 a ∧ ty σ H1 fun y H2 => tx σ H2 fun z H3 => ∃ (kvs : List (List L2.Key × V)) (k : List L2.Key) (b : Addr), H3 a = some (.dT kvs) ∧ y = .ref b ∧ H3 b = some (.tup (k.map kV)) ∧ kvs.length < sizeLine ∧
  (∀ v, valV kvs k = some v → Q v H3) ∧ (valV kvs k = none → Q z (upd H3 a (.dT (putK kvs k z))))
section
variable {X : Cx} {o e f : Expr} {td ty tx : TE} {apos cpos : Pos}
theorem pe_dsetdT (hu : X.A.units + 1 < cLine) (ho : PE X o td) (he : PE X e ty) (hf : PE X f tx) (m : M2 X o "setdefault" apos e f cpos) : PE X (.Call (.Attribute o "setdefault" apos) [e, f] [] cpos) (tDSetdT td ty tx) := by
  refine ⟨fun pins s σ H Q I h => ?_⟩
  refine wpAny_Call_method m.base m.few m.line PySem.F.plainAttrs_dict PySem.F.slot_dict_setdefault PySem.F.type_dict_setdefault (thn (ho.run pins s σ H _ I h) fun u s1 ⟨x, H1, I1, rx, a, ex, d, q1⟩ => ?_)
  subst ex
  obtain rfl : u = Value.ref a := rx
  obtain ⟨t1, t2, _⟩ := isD_at I1 d
  refine ⟨t1, t2, ?_⟩
  rw [m.trees]
  refine Calls.callWith_builtin rfl (Calls.evalArgs_plain (Calls.spliced_cons (thn (he.run pins s1 σ H1 _ I1 q1) fun iv s2 ⟨y, H2, I2, ry, q2⟩ =>
    Calls.spliced_cons (thn (hf.run pins s2 σ H2 _ I2 q2) fun fv s3 ⟨z, H3, I3, rz, kvs, k, b, ea, ey, eb, hl, q3, q4⟩ => Calls.spliced_nil ?_))))
  subst ey
  obtain rfl : iv = Value.ref b := ry
  exact d_setdT hu I3 ea eb rz hl (fun v hv w' s4 I4 rw' => ⟨v, _, I4, rw', q3 v hv⟩) fun hn w' s4 I4 rw' => ⟨z, _, I4, rw', q4 hn⟩
end

def tDNewTS : TE := fun _ H Q => NewH H (.dT []) fun p H' => Q (.ref p) H'
theorem pe_dnewTS {X : Cx} {pos : Pos} : PE X (.Dict [] [] pos) tDNewTS := PE.of pe_dnewT fun σ H Q q => q.go

/-! ### errors -/
section
variable {X : Cx}
/-- isinstance(e, c) in a suite, whatever class the error has -/
def rIsE1 (K : PySem.W.Frag) (cls : Value) (d : Option Addr) (a : Addr) : List V → Hp → VK → Prop := fun xs H Q => ∃ D, cls = .ref D ∧ d = none ∧ ExcC K D ∧ ∃ (C : Addr) (b : Bool), xs = [.ref a, .ref C] ∧ PySem.W.kitOne K (.ref D) (.ref C) = some b ∧ Q (.bl b) H
theorem call_isE1 {a : Addr} {oe : Obj} {cls : Value} {d : Option Addr} {pn : List (Addr × Obj)} (hz : Zc cls d oe) (hf : ∃ vs, oe.data = .fields vs) : CallR (X.suite a ((a, oe) :: pn)) (.builtin "isinstance") (rIsE1 X.K cls d a) := by
  intro pins s σ H xs us Q I r ⟨D, e1, e2, C, c, b, e3, e4, q⟩
  subst e1 e2
  exact call_isE C hz hf pins s σ H xs us Q I r ⟨.ref c, .ref c, b, e3, fun u z => z, e4, q⟩
theorem ifB {c : Bool} {a b : Prop} (x : c = true → a) (y : c = false → b) : if c = true then a else b := by
  cases c
  · rw [if_neg Bool.false_ne_true]; exact y rfl
  · rw [if_pos rfl]; exact x rfl
end
section
variable {X : Cx}
/-- all and any of a tracked list of bools -/
def rAllS : List V → Hp → VK → Prop := fun vs H Q => ∃ (a : Addr) (bs : List Bool), vs = [.ref a] ∧ H a = some (.lst (bs.map V.bl)) ∧ Q (.bl (bs.all id)) H
theorem cr_allS (hc : X.calm = true) : CallR X (.builtin "all") rAllS := CallR.of (cr_all hc) fun vs H Q ⟨a, bs, e, g, q⟩ => ⟨a, bs, e, .inl (.inl g), q⟩
def rAnyS : List V → Hp → VK → Prop := fun vs H Q => ∃ (a : Addr) (bs : List Bool), vs = [.ref a] ∧ H a = some (.lst (bs.map V.bl)) ∧ Q (.bl (bs.any id)) H
theorem cr_anyS (hc : X.calm = true) : CallR X (.builtin "any") rAnyS := CallR.of (cr_any hc) fun vs H Q ⟨a, bs, e, g, q⟩ => ⟨a, bs, e, .inl (.inl g), q⟩
theorem all_id {α : Type} (f : α → Bool) (l : List α) : (l.map f).all id = l.all f := by rw [List.all_map]; rfl
theorem any_id {α : Type} (f : α → Bool) (l : List α) : (l.map f).any id = l.any f := by rw [List.any_map]; rfl
end
/-- a plain value -/
def Pl (v : V) : Prop := ∃ a, tnm v = some a
theorem Pl.int (i : Int) : Pl (.int i) := ⟨_, rfl⟩
theorem Pl.bl (i : Bool) : Pl (.bl i) := ⟨_, rfl⟩
theorem Pl.non : Pl .non := ⟨_, rfl⟩
theorem Pl.str (i : Str) : Pl (.str i) := ⟨_, rfl⟩
theorem Pl.cs {v : V} (h : Pl v) : v = .non ∨ (∃ b, v = .bl b) ∨ (∃ i, v = .int i) ∨ ∃ s, v = .str s := by
  obtain ⟨a, h⟩ := h
  cases v <;> first | exact .inl rfl | exact .inr (.inl ⟨_, rfl⟩) | exact .inr (.inr (.inl ⟨_, rfl⟩)) | exact .inr (.inr (.inr ⟨_, rfl⟩)) | cases h
theorem kb11 : kitB "NoneType" "tuple" = some false := by decide +kernel
theorem kb12 : kitB "bool" "tuple" = some false := by decide +kernel
theorem kb13 : kitB "int" "tuple" = some false := by decide +kernel
theorem kb14 : kitB "str" "tuple" = some false := by decide +kernel
theorem kb15 : kitB "list" "tuple" = some false := by decide +kernel
theorem kb16 : kitB "NoneType" "str" = some false := by decide +kernel
theorem kb17 : kitB "bool" "str" = some false := by decide +kernel
theorem kb18 : kitB "int" "str" = some false := by decide +kernel
theorem kb19 : kitB "list" "str" = some false := by decide +kernel
theorem kb20 : kitB "tuple" "str" = some false := by decide +kernel
theorem kb21 : kitB "bool" "list" = some false := by decide +kernel
theorem kb22 : kitB "int" "list" = some false := by decide +kernel
theorem kb23 : kitB "str" "list" = some false := by decide +kernel
theorem kb24 : kitB "tuple" "list" = some false := by decide +kernel
theorem kb25 : kitB "list" "int" = some false := by decide +kernel
theorem kb26 : kitB "tuple" "int" = some false := by decide +kernel
theorem kb27 : kitB "list" "bool" = some false := by decide +kernel
theorem kb28 : kitB "tuple" "bool" = some false := by decide +kernel
theorem kb29 : kitB "NoneType" "bool" = some false := by decide +kernel
theorem kb30 : kitB "str" "bool" = some false := by decide +kernel
theorem if_true_of {c : Bool} {A B : Prop} (hc : c = true) (h : A) : if c = true then A else B := by
  rw [if_pos hc]
  exact h
theorem if_false_of {c : Bool} {A B : Prop} (hc : c = false) (h : B) : if c = true then A else B := by
  rw [hc, if_neg Bool.false_ne_true]
  exact h
/-- cuts behind more statements -/
theorem seq_cut2 {s1 s2 R : TS} {D : Ends} {σ : L2.St} {H : Hp} (I : L2.St → Hp → Prop) (h2 : ∀ σ H, I σ H → R D σ H) (h1 : ∀ C : L2.St → Hp → Prop, (∀ σ H, I σ H → C σ H) → tSeq s1 s2 { D with nx := C } σ H) : tSeq s1 (tSeq s2 R) D σ H := h1 _ h2
theorem seq_cut3 {s1 s2 s3 R : TS} {D : Ends} {σ : L2.St} {H : Hp} (I : L2.St → Hp → Prop) (h2 : ∀ σ H, I σ H → R D σ H) (h1 : ∀ C : L2.St → Hp → Prop, (∀ σ H, I σ H → C σ H) → tSeq s1 (tSeq s2 s3) { D with nx := C } σ H) : tSeq s1 (tSeq s2 (tSeq s3 R)) D σ H := h1 _ h2
theorem seq_cut4 {s1 s2 s3 s4 R : TS} {D : Ends} {σ : L2.St} {H : Hp} (I : L2.St → Hp → Prop) (h2 : ∀ σ H, I σ H → R D σ H) (h1 : ∀ C : L2.St → Hp → Prop, (∀ σ H, I σ H → C σ H) → tSeq s1 (tSeq s2 (tSeq s3 s4)) { D with nx := C } σ H) : tSeq s1 (tSeq s2 (tSeq s3 (tSeq s4 R))) D σ H := h1 _ h2
theorem seq_cut5 {s1 s2 s3 s4 s5 R : TS} {D : Ends} {σ : L2.St} {H : Hp} (I : L2.St → Hp → Prop) (h2 : ∀ σ H, I σ H → R D σ H) (h1 : ∀ C : L2.St → Hp → Prop, (∀ σ H, I σ H → C σ H) → tSeq s1 (tSeq s2 (tSeq s3 (tSeq s4 s5))) { D with nx := C } σ H) : tSeq s1 (tSeq s2 (tSeq s3 (tSeq s4 (tSeq s5 R)))) D σ H := h1 _ h2
section
variable {X : Cx}
/-- the walks within a comprehension, with the written part told apart from the context -/
theorem pi_tupK {K : PySem.W.Frag} {tg l : Expr} {tl : TE} (hl : PE X l tl) (e : X.K = K := by rfl) : PI X tg l (iTupS K tl) := by subst e; exact pi_tupS hl
theorem pi_listK {K : PySem.W.Frag} {tg l : Expr} {tl : TE} (hl : PE X l tl) (e : X.K = K := by rfl) : PI X tg l (iListS K tl) := by subst e; exact pi_listS hl
theorem pi_enumK {K : PySem.W.Frag} {e : Expr} {ta : TA} {p pos tpos : Pos} {elts : List Expr} {kk : Nat} (hg : Gl X "enumerate") (hm : X.mg "enumerate" = none) (ha : PA X [e] ta) (hK : X.K = K := by rfl) (hs : starEach [e] X.env = [(false, eval e X.env)] := by rfl) :
    PI X (.Tuple elts kk tpos) (.Call (.Name "enumerate" p) [e] [] pos) (iEnumL K ta) := by subst hK; exact pi_enumL hg hm ha hs
theorem pi_zipK {K : PySem.W.Frag} {e e2 : Expr} {ta : TA} {p pos tpos : Pos} {elts : List Expr} {kk : Nat} (hg : Gl X "zip") (hm : X.mg "zip" = none) (ha : PA X [e, e2] ta) (hK : X.K = K := by rfl) (hs : starEach [e, e2] X.env = (false, eval e X.env) :: starEach [e2] X.env := by rfl) (hpl : (backTo pos (starEach [e2] X.env)).any (·.1) = false := by rfl) :
    PI X (.Tuple elts kk tpos) (.Call (.Name "zip" p) [e, e2] [] pos) (iZipS K ta) := by subst hK; exact pi_zipS hg hm ha hs hpl
end
theorem All2.rev {α β : Type} {R : α → β → Prop} {xs : List α} {ys : List β} (h : All2 R xs ys) : All2 R xs.reverse ys.reverse := by
  induction h with
  | nil => exact .nil
  | cons r _ ih => rw [List.reverse_cons, List.reverse_cons]; exact ih.app (.cons r .nil)
section
variable {X : Cx}
theorem ix_tupK {K : PySem.W.Frag} (e : X.K = K := by rfl) : IxR X (rIxT K) := by subst e; exact ix_tup
theorem ix_listK {K : PySem.W.Frag} (a : Addr) (ns : List Int) (e : X.K = K := by rfl) : IxR X (rIxSc K a ns) := by subst e; exact ix_sc a ns
end

/-! ### list(reversed(list)) -/
section
variable {prog : Program} {w : World} {A : Around} {E : Value → Shared → Prop} {s : Shared}
theorem list_init_rev {R : Result → Shared → Prop} {it l : Addr} {items : Array Value} (hh : A.handled = none) (hit : s.heap.IsRevIter it l ((items.size : Int) - 1)) (hl : s.heap.IsList l items) (hne : l ≠ it) (hn : items.size ≤ sizeLine) (S : Addr) (hS : s.heap.get? S = some { cls := .type "list", data := .seq #[] })
    (hSi : S ≠ it) (hSl : S ≠ l)
    (hR : ∀ h' tk acc' c', (∀ b o, b ≠ S → b ≠ it → s.heap.get? b = some o → h'.get? b = some o) → h'.get? S = some { cls := .type "list", dict := none, data := .seq acc' c', slots := #[] } →
      ItemsOf (fun i v => items[items.size - 1 - i]? = some v) acc' items.size → R (.ok (.ret .none)) { s with heap := h', toks := tk }) :
    wpAny (model prog w) A.in1 (Builtin.«list.__init__» ⟨[.ref S, .ref it], []⟩)
      (fun fin s' => match fin with | .done f => R (.ok f) s' | .again c' => c'.quiet = true ∧ codeAny (model prog w) A c' R s') (fun e s' => R (.error e) s') s := by
  have W := (Walks.listRev (prog := prog) (w := w) (A := A.in1) hh it l hne items).toS
  have hSf : S ∉ [it, l] := by simp only [List.mem_cons, List.not_mem_nil, or_false, not_or]; exact ⟨hSi, hSl⟩
  show wpAny _ A.in1 (do let old ← Builtin.List.listItems (.ref S); Builtin.List.listUpdate (.ref S) (fun _ => #[]); letGo old.toList.reverse; Builtin.List.listExtendWith (.ref S) (.ref it) .none) _ _ s
  refine wpAny_bind ?_
  unfold Builtin.List.listItems
  refine wpAny_bind (wpAny_seqItems hS rfl (wpAny_pure ?_))
  show wpAny _ A.in1 (updateSeq S (fun _ => #[]) >>= fun _ => letGo (#[] : Array Value).toList.reverse >>= fun _ => Builtin.List.listExtendWith (.ref S) (.ref it) .none) _ _ s
  refine wpAny_bind (wpAny_updateSeq hS rfl ?_)
  have hS₂ := Heap.get?_update_self (Obj.mapSeq (fun _ => (#[] : Array Value))) hS rfl
  have oth : ∀ b o, b ≠ S → s.heap.get? b = some o → (s.heap.update S (Obj.mapSeq (fun _ => (#[] : Array Value)))).get? b = some o :=
    fun b o hb e => (Heap.get?_update_other _ _ (Ne.symm hb)).trans e
  refine wpAny_bind (wpAny_letGo ?_)
  have hit1 : (s.heap.update S (Obj.mapSeq (fun _ => (#[] : Array Value)))).IsRevIter it l ((items.size : Int) - 1) := hit.at fun o e => oth it o hSi.symm e
  have hl1 : (s.heap.update S (Obj.mapSeq (fun _ => (#[] : Array Value)))).IsList l items := hl.at fun o e => oth l o hSl.symm e
  have hT := Heap.IsRevIter.typeIs (s := { s with heap := s.heap.update S (Obj.mapSeq (fun _ => (#[] : Array Value))) }) hit1
  have h1 : Builtin.List.listSameRef (.ref S) (.ref it) = false := by simp [Builtin.List.listSameRef, hSi]
  unfold Builtin.List.listExtendWith
  refine wpAny_bind (wpAny_typeOf hT ?_)
  rw [if_neg (by rw [h1]; decide)]
  refine wpAny_bind (wpAny_pyIter_revIter (s := { s with heap := s.heap.update S (Obj.mapSeq (fun _ => (#[] : Array Value))) }) hit1 ?_)
  refine wpAny_bind (wpAny_holding ?_)
  unfold Builtin.List.listLengthHint
  refine wpAny_bind (wpAny_specialOf hT RT.nolen_lri ?_)
  show wpAny _ A.in1 (specialOf (Value.ref it) (Str.ofString "__length_hint__") >>= _) _ _ _
  refine wpAny_bind (wpAny_specialOf hT RT.hint_lri ?_)
  generalize hid : ("list_reverseiterator.__length_hint__" : String) = id0
  wp_delta
  rw [show splitId id0 = some ("list_reverseiterator", "__length_hint__") from by subst hid; decide +kernel]
  subst hid
  refine wpAny_bind (wpAny_isInstance (b := true) hT (by rw [isSubtype_type]; kernel_rfl) ?_)
  refine wpAny_pure ?_
  rw [if_neg (by decide)]
  have e0 : ((items.size : Nat) : Int) - 1 - ((0 : Nat) : Int) = (items.size : Int) - 1 := by omega
  refine wpAny_pure ⟨plainId_quiet F.plain_extend_loop _, codeAny_extend_loopS W hn _ hSf _ items.size 0 _ _ _ rfl (Nat.zero_le _) ⟨Nat.zero_le _, by rw [e0]; exact hit1, hl1⟩ hS₂ (ItemsOf.nil _) fun s' acc' c' hm hS' hacc => ?_⟩
  rw [Moved.eq_with hm]
  refine hR s'.heap s'.toks acc' c' (fun b o hb hb2 e => hm.heap b o (fun hmem => ?_) (oth b o hb e)) hS' hacc
  rcases List.mem_cons.mp hmem with e' | hmem
  · exact hb e'
  · exact hb2 (List.mem_singleton.mp hmem)
theorem call_list_rev {Q : Value → Shared → Prop} {it l : Addr} {items : Array Value} (hh : A.handled = none) (hit : s.heap.IsRevIter it l ((items.size : Int) - 1)) (hl : s.heap.IsList l items) (hne : l ≠ it) (hn : items.size ≤ sizeLine)
    (hQ : ∀ h' tk acc' c', (∀ b o, b ≠ it → s.heap.get? b = some o → h'.get? b = some o) →
      h'.get? s.heap.objs.size = some { cls := .type "list", dict := none, data := .seq acc' c', slots := #[] } → ItemsOf (fun i v => items[items.size - 1 - i]? = some v) acc' items.size → Q (.ref s.heap.objs.size) { s with heap := h', toks := tk }) :
    wpAny (model prog w) A (call (.type "list") [.ref it]) Q E s := by
  obtain ⟨oi, hoi, _⟩ := id hit
  obtain ⟨ol, hol, _⟩ := id hl
  have hSi : s.heap.objs.size ≠ it := Nat.ne_of_gt (Heap.lt_size hoi)
  have hSl : s.heap.objs.size ≠ l := Nat.ne_of_gt (Heap.lt_size hol)
  refine callType_codes (Q₁ := fun obj s₁ => obj = .ref s.heap.objs.size ∧ s₁ = { s with heap := s.heap.push { cls := .type "list", data := .seq #[] } }) F.called_list (F.typeCall_list_1 _) F.entry_list_init
    (code_list_new _ ⟨rfl, rfl⟩) fun obj s₁ h₁ => ?_
  obtain ⟨rfl, rfl⟩ := h₁
  have hS : (s.heap.push { cls := .type "list", data := .seq #[] }).get? s.heap.objs.size = some { cls := .type "list", data := .seq #[] } := Heap.get?_push_size _ rfl
  refine ⟨⟨_, hS, rfl⟩, F.args_list_init_2 _ _, list_init_rev (s := { s with heap := s.heap.push { cls := .type "list", data := .seq #[] } }) (A := A.in1) hh (hit.at fun o e => Heap.get?_push_of_some _ e) (hl.push _) hne hn _ hS hSi hSl fun h' tk acc' c' hk hS' hacc => ?_⟩
  exact ⟨rfl, hQ h' tk acc' c' (fun b o hb e => hk b o (Nat.ne_of_lt (Heap.lt_size e)) hb (Heap.get?_push_of_some _ e)) hS' hacc⟩
end
section
variable {X : Cx}
/-- list(reversed(x)), x a list: a new list -/
def tLstRev (te : TE) : TE := fun σ H Q => te σ H fun v H1 => ∃ (a : Addr) (xs : List V), v = .ref a ∧ H1 a = some (.lst xs) ∧ NewH H1 (.lst xs.reverse) fun q H' => Q (.ref q) H'
theorem pe_lstRev {e : Expr} {te : TE} {p p2 pos pos2 : Pos} (hc : X.calm = true) (hg : Gl X "list") (hm : X.mg "list" = none) (hg2 : Gl X "reversed") (hm2 : X.mg "reversed" = none) (he : PE X e te)
    (hs : starEach [e] X.env = (false, eval e X.env) :: starEach [] X.env := by rfl)
    (hs2 : starEach [.Call (.Name "reversed" p2) [e] [] pos2] X.env = (false, eval (.Call (.Name "reversed" p2) [e] [] pos2) X.env) :: starEach [] X.env := by rfl) :
    PE X (.Call (.Name "list" p) [.Call (.Name "reversed" p2) [e] [] pos2] [] pos) (tLstRev te) := by
  refine ⟨fun pins s σ H Q I h => ?_⟩
  refine Call_ (ld_blt I hg hm boot_list (PyProof.Rows.callWith_type1 (args_cons (Call_ (ld_blt I hg2 hm2 PyProof.Rows.boot_reversed (PyProof.Rows.callWith_type1 (args_cons (thn (he.run pins s σ H _ I h) fun u s1 ⟨v, H1, I1, r1, q1⟩ => args_nil ?_) hs) hs rfl))) hs2) hs2 rfl))
  obtain ⟨a, xs, ev, hq0, q0⟩ := q1
  have hq : SqL X.K H1 a xs := .inl (.inl hq0)
  have q := q0.go
  subst ev
  obtain rfl : u = Value.ref a := r1
  obtain ⟨its, rv, p', hz⟩ := I1.list hq
  refine call_reversed_list p'.isList (args_nil ?_)
  have k0 : ∀ b o, s1.heap.get? b = some o → (s1.heap.push (revObj a ((its.toArray.size : Int) - 1))).get? b = some o := fun b o e => Heap.get?_push_of_some _ e
  have I2 : Inv X pins σ H1 { s1 with heap := s1.heap.push (revObj a ((its.toArray.size : Int) - 1)) } := I1.kept (t' := s1.toks) k0
  have hfp := I1.fpOk (H' := H1) (b := s1.heap.objs.size) (Nat.le_refl _) (I1.hok.fresh (Nat.le_refl _))
  have hl := p'.isList
  obtain ⟨ol, hol, _⟩ := id hl
  have hne : a ≠ s1.heap.objs.size := Nat.ne_of_lt (Heap.lt_size hol)
  have hn : its.toArray.size ≤ sizeLine := by rw [List.size_toArray, ← rv.length]; exact hz
  refine call_list_rev (s := { s1 with heap := s1.heap.push (revObj a ((its.toArray.size : Int) - 1)) }) (I1.ok.hd hc) ⟨_, Heap.get?_push_size _ rfl, rfl, rfl⟩ (hl.push _) hne hn fun h' tk acc c' hk hS hi => ?_
  have I3 : Inv X pins σ (upd H1 (s1.heap.push (revObj a ((its.toArray.size : Int) - 1))).objs.size (.lst xs.reverse)) { s1 with heap := h', toks := tk } := I2.turnedNew (ch := [s1.heap.objs.size]) (fun b o hb e => hk b o (fun z => hb (by rw [z]; exact List.mem_singleton_self _)) e) (fun b hb => by rw [List.mem_singleton.mp hb]; exact hfp) (Nat.le_refl _)
    (show ObjOk X.prog X.w _ h' _ (.lst xs.reverse) from ⟨by rw [List.length_reverse]; exact hz, acc.toList, c', RT.vals_rev rv hi, by rw [Array.toArray_toList]; exact hS⟩)
  exact ⟨.ref _, _, I3, rfl, q _ (I2.hok.fresh (Nat.le_refl _))⟩
/-- tuple(reversed(x)), x a list: a new tuple -/
def tTupRevS (te : TE) : TE := fun σ H Q => te σ H fun v H1 => ∃ (a : Addr) (xs : List V), v = .ref a ∧ H1 a = some (.lst xs) ∧ NewH H1 (.tup xs.reverse) fun q H' => Q (.ref q) H'
theorem pe_tupRevS {e : Expr} {te : TE} {p p2 pos pos2 : Pos} (hc : X.calm = true) (hg : Gl X "tuple") (hm : X.mg "tuple" = none) (hg2 : Gl X "reversed") (hm2 : X.mg "reversed" = none) (he : PE X e te)
    (hs : starEach [e] X.env = (false, eval e X.env) :: starEach [] X.env := by rfl)
    (hs2 : starEach [.Call (.Name "reversed" p2) [e] [] pos2] X.env = (false, eval (.Call (.Name "reversed" p2) [e] [] pos2) X.env) :: starEach [] X.env := by rfl) :
    PE X (.Call (.Name "tuple" p) [.Call (.Name "reversed" p2) [e] [] pos2] [] pos) (tTupRevS te) := PE.of (RT.pe_tupRev hc hg hm hg2 hm2 (pe_mono he) hs hs2) fun σ H Q q => ⟨_, q, fun v H1 ⟨a, xs, e, g, n⟩ => ⟨a, xs, e, .inl (.inl g), n.go⟩⟩
end

section
variable {X : Cx}
/-- t + u of tracked tuples: one of them or a new one, in either case these items -/
def rCatTS : R2 := fun x y H Q => ∃ a b xs ys, x = .ref a ∧ y = .ref b ∧ H a = some (.tup xs) ∧ H b = some (.tup ys) ∧ xs.length + ys.length ≤ sizeLine ∧ ∀ p H', Same H H' → H' p = some (.tup (xs ++ ys)) → Q (.ref p) H'
theorem op_catTS : OpR X (binaryOp .Add) rCatTS := OpR.of op_catA fun x y H Q ⟨a, b, xs, ys, e1, e2, g1, g2, hz, q⟩ => ⟨a, b, xs, ys, e1, e2, .inl (.inl g1), .inl (.inl g2), hz, fun z => q b H (Same.refl _) (by rw [z]; exact g2), fun _ z => q a H (Same.refl _) (by rw [z, List.append_nil]; exact g1), fun _ _ p hp => q p _ (same_upd hp) upd_same⟩
/-- xs.insert(i, y) -/
def rInsert : V → List V → Hp → VK → Prop := fun x vs H Q => ∃ (l : Addr) (xs : List V) (i : Int) (y : V), x = .ref l ∧ vs = [.int i, y] ∧ H l = some (.lst xs) ∧ xs.length < sizeLine ∧ 0 ≤ i ∧ i < 2 ^ 63 ∧ Q .non (upd H l (.lst (xs.take i.toNat ++ [y] ++ xs.drop i.toNat)))
theorem mt_insertS : MtR X "list.insert" rInsert := mt_insert
end


def topS (i : Nat) : Stmt := PySem.Challenge.pw_stillroom_k28_runes_of_bytes.main.body.getD i (.Pass ⟨0, 0, 0, 0⟩)
abbrev s_runes : Stmt := topS 13
abbrev s__rune_at : Stmt := topS 14
abbrev s__joined : Stmt := topS 15
abbrev s__has_sequence : Stmt := topS 16
abbrev s_rune_bytes : Stmt := topS 17
abbrev s__law_cell : Stmt := topS 19
abbrev s__law_is_integer : Stmt := topS 20
abbrev s__law_draw : Stmt := topS 21
abbrev s__law_state : Stmt := topS 22
abbrev s__law_is_bytes : Stmt := topS 23
abbrev s__law_is_rune : Stmt := topS 24
abbrev s__law_bytes_of : Stmt := topS 25
abbrev s__law_near : Stmt := topS 26
abbrev s__law_due : Stmt := topS 27
abbrev s__law_value : Stmt := topS 28
abbrev s__law_told : Stmt := topS 29
abbrev s_law : Stmt := topS 30
theorem sc_runes : FnScope ["data", "found", "at", "rune", "count"] ["data"] (defScope s_runes) := ⟨rfl, rfl, rfl, by decide +kernel, rfl, by decide +kernel, by decide +kernel⟩
theorem sc__rune_at : FnScope ["data", "at", "first", "count", "low", "high", "least", "rune"] ["data", "at"] (defScope s__rune_at) := ⟨rfl, rfl, rfl, by decide +kernel, rfl, by decide +kernel, by decide +kernel⟩
theorem sc__joined : FnScope ["number", "behind", "byte"] ["number", "behind"] (defScope s__joined) := ⟨rfl, rfl, rfl, by decide +kernel, rfl, by decide +kernel, by decide +kernel⟩
theorem sc__has_sequence : FnScope ["rune"] ["rune"] (defScope s__has_sequence) := ⟨rfl, rfl, rfl, by decide +kernel, rfl, by decide +kernel, by decide +kernel⟩
theorem sc_rune_bytes : FnScope ["rune", "count", "low", "_", "form", "behind", "at"] ["rune"] (defScope s_rune_bytes) := ⟨rfl, rfl, rfl, by decide +kernel, rfl, by decide +kernel, by decide +kernel⟩
theorem sc__law_cell : FnScope ["script", "k"] ["script", "k"] (defScope s__law_cell) := ⟨rfl, rfl, rfl, by decide +kernel, rfl, by decide +kernel, by decide +kernel⟩
theorem sc__law_is_integer : FnScope ["actual"] ["actual"] (defScope s__law_is_integer) := ⟨rfl, rfl, rfl, by decide +kernel, rfl, by decide +kernel, by decide +kernel⟩
theorem sc__law_draw : FnScope ["state", "many", "rest"] ["state", "many"] (defScope s__law_draw) := ⟨rfl, rfl, rfl, by decide +kernel, rfl, by decide +kernel, by decide +kernel⟩
theorem sc__law_state : FnScope ["cell", "salt", "rest"] ["cell", "salt"] (defScope s__law_state) := ⟨rfl, rfl, rfl, by decide +kernel, rfl, by decide +kernel, by decide +kernel⟩
theorem sc__law_is_bytes : FnScope ["actual", "byte"] ["actual"] (defScope s__law_is_bytes) := ⟨rfl, rfl, rfl, by decide +kernel, rfl, by decide +kernel, by decide +kernel⟩
theorem sc__law_is_rune : FnScope ["rune"] ["rune"] (defScope s__law_is_rune) := ⟨rfl, rfl, rfl, by decide +kernel, rfl, by decide +kernel, by decide +kernel⟩
theorem sc__law_bytes_of : FnScope ["rune"] ["rune"] (defScope s__law_bytes_of) := ⟨rfl, rfl, rfl, by decide +kernel, rfl, by decide +kernel, by decide +kernel⟩
theorem sc__law_near : FnScope ["state", "bounds"] ["state"] (defScope s__law_near) := ⟨rfl, rfl, rfl, by decide +kernel, rfl, by decide +kernel, by decide +kernel⟩
theorem sc__law_due : FnScope ["data", "found", "at", "turn", "rune", "size", "part", "value"] ["data"] (defScope s__law_due) := ⟨rfl, rfl, rfl, by decide +kernel, rfl, by decide +kernel, by decide +kernel⟩
theorem sc__law_value : FnScope ["part", "value", "byte"] ["part"] (defScope s__law_value) := ⟨rfl, rfl, rfl, by decide +kernel, rfl, by decide +kernel, by decide +kernel⟩
theorem sc__law_told : FnScope ["rune", "e"] ["rune"] (defScope s__law_told) := ⟨rfl, rfl, rfl, by decide +kernel, rfl, by decide +kernel, by decide +kernel⟩
theorem sc_law : FnScope ["script", "k", "state", "data", "turn", "rune", "how", "at", "j", "handed", "found", "told"] ["script"] (defScope s_law) := ⟨rfl, rfl, rfl, by decide +kernel, rfl, by decide +kernel, by decide +kernel⟩
/-- what the top has left, as far as the walk asks of it -/
structure Txt (K : PySem.W.Frag) (mg : Str → Option Value) where
  f_runes : Addr
  fd_runes : FuncData
  F_runes : Fun K "runes" "runes" s_runes f_runes fd_runes
  b_runes : Binds K fd_runes ["data"] []
  g_runes : mg "runes" = some (.ref f_runes)
  f__rune_at : Addr
  fd__rune_at : FuncData
  F__rune_at : Fun K "_rune_at" "_rune_at" s__rune_at f__rune_at fd__rune_at
  b__rune_at : Binds K fd__rune_at ["data", "at"] []
  g__rune_at : mg "_rune_at" = some (.ref f__rune_at)
  f__joined : Addr
  fd__joined : FuncData
  F__joined : Fun K "_joined" "_joined" s__joined f__joined fd__joined
  b__joined : Binds K fd__joined ["number", "behind"] []
  g__joined : mg "_joined" = some (.ref f__joined)
  f__has_sequence : Addr
  fd__has_sequence : FuncData
  F__has_sequence : Fun K "_has_sequence" "_has_sequence" s__has_sequence f__has_sequence fd__has_sequence
  b__has_sequence : Binds K fd__has_sequence ["rune"] []
  g__has_sequence : mg "_has_sequence" = some (.ref f__has_sequence)
  f_rune_bytes : Addr
  fd_rune_bytes : FuncData
  F_rune_bytes : Fun K "rune_bytes" "rune_bytes" s_rune_bytes f_rune_bytes fd_rune_bytes
  b_rune_bytes : Binds K fd_rune_bytes ["rune"] []
  g_rune_bytes : mg "rune_bytes" = some (.ref f_rune_bytes)
  f__law_cell : Addr
  fd__law_cell : FuncData
  F__law_cell : Fun K "_law_cell" "_law_cell" s__law_cell f__law_cell fd__law_cell
  b__law_cell : Binds K fd__law_cell ["script", "k"] []
  g__law_cell : mg "_law_cell" = some (.ref f__law_cell)
  f__law_is_integer : Addr
  fd__law_is_integer : FuncData
  F__law_is_integer : Fun K "_law_is_integer" "_law_is_integer" s__law_is_integer f__law_is_integer fd__law_is_integer
  b__law_is_integer : Binds K fd__law_is_integer ["actual"] []
  g__law_is_integer : mg "_law_is_integer" = some (.ref f__law_is_integer)
  f__law_draw : Addr
  fd__law_draw : FuncData
  F__law_draw : Fun K "_law_draw" "_law_draw" s__law_draw f__law_draw fd__law_draw
  b__law_draw : Binds K fd__law_draw ["state", "many"] []
  g__law_draw : mg "_law_draw" = some (.ref f__law_draw)
  f__law_state : Addr
  fd__law_state : FuncData
  F__law_state : Fun K "_law_state" "_law_state" s__law_state f__law_state fd__law_state
  b__law_state : Binds K fd__law_state ["cell", "salt"] []
  g__law_state : mg "_law_state" = some (.ref f__law_state)
  f__law_is_bytes : Addr
  fd__law_is_bytes : FuncData
  F__law_is_bytes : Fun K "_law_is_bytes" "_law_is_bytes" s__law_is_bytes f__law_is_bytes fd__law_is_bytes
  b__law_is_bytes : Binds K fd__law_is_bytes ["actual"] []
  g__law_is_bytes : mg "_law_is_bytes" = some (.ref f__law_is_bytes)
  f__law_is_rune : Addr
  fd__law_is_rune : FuncData
  F__law_is_rune : Fun K "_law_is_rune" "_law_is_rune" s__law_is_rune f__law_is_rune fd__law_is_rune
  b__law_is_rune : Binds K fd__law_is_rune ["rune"] []
  g__law_is_rune : mg "_law_is_rune" = some (.ref f__law_is_rune)
  f__law_bytes_of : Addr
  fd__law_bytes_of : FuncData
  F__law_bytes_of : Fun K "_law_bytes_of" "_law_bytes_of" s__law_bytes_of f__law_bytes_of fd__law_bytes_of
  b__law_bytes_of : Binds K fd__law_bytes_of ["rune"] []
  g__law_bytes_of : mg "_law_bytes_of" = some (.ref f__law_bytes_of)
  f__law_near : Addr
  fd__law_near : FuncData
  F__law_near : Fun K "_law_near" "_law_near" s__law_near f__law_near fd__law_near
  b__law_near : Binds K fd__law_near ["state"] []
  g__law_near : mg "_law_near" = some (.ref f__law_near)
  f__law_due : Addr
  fd__law_due : FuncData
  F__law_due : Fun K "_law_due" "_law_due" s__law_due f__law_due fd__law_due
  b__law_due : Binds K fd__law_due ["data"] []
  g__law_due : mg "_law_due" = some (.ref f__law_due)
  f__law_value : Addr
  fd__law_value : FuncData
  F__law_value : Fun K "_law_value" "_law_value" s__law_value f__law_value fd__law_value
  b__law_value : Binds K fd__law_value ["part"] []
  g__law_value : mg "_law_value" = some (.ref f__law_value)
  f__law_told : Addr
  fd__law_told : FuncData
  F__law_told : Fun K "_law_told" "_law_told" s__law_told f__law_told fd__law_told
  b__law_told : Binds K fd__law_told ["rune"] []
  g__law_told : mg "_law_told" = some (.ref f__law_told)
  f_law : Addr
  fd_law : FuncData
  F_law : Fun K "law" "law" s_law f_law fd_law
  b_law : Binds K fd_law ["script"] []
  g_law : mg "law" = some (.ref f_law)
  C_StillroomError : Addr
  gx_StillroomError : mg "StillroomError" = some (.ref C_StillroomError)
  xx_StillroomError : PySem.W.excIn K C_StillroomError [.type "ValueError", .type "Exception", .type "BaseException", .type "object"] "ValueError.__new__" = true
  kx_StillroomError : PySem.W.keepIn K (.ref C_StillroomError) = true
  bx_StillroomError : PySem.W.subIn K (.ref C_StillroomError) (.type "BaseException") = some true
  tx_StillroomError : PySem.W.typeIn K (.ref C_StillroomError) = some (.type "type")
  C_OutOfRange : Addr
  gx_OutOfRange : mg "OutOfRange" = some (.ref C_OutOfRange)
  xx_OutOfRange : PySem.W.excIn K C_OutOfRange [.type "ValueError", .type "Exception", .type "BaseException", .type "object"] "ValueError.__new__" = true
  kx_OutOfRange : PySem.W.keepIn K (.ref C_OutOfRange) = true
  bx_OutOfRange : PySem.W.subIn K (.ref C_OutOfRange) (.type "BaseException") = some true
  tx_OutOfRange : PySem.W.typeIn K (.ref C_OutOfRange) = some (.type "type")
  C_Malformed : Addr
  gx_Malformed : mg "Malformed" = some (.ref C_Malformed)
  xx_Malformed : PySem.W.excIn K C_Malformed [.type "ValueError", .type "Exception", .type "BaseException", .type "object"] "ValueError.__new__" = true
  kx_Malformed : PySem.W.keepIn K (.ref C_Malformed) = true
  bx_Malformed : PySem.W.subIn K (.ref C_Malformed) (.type "BaseException") = some true
  tx_Malformed : PySem.W.typeIn K (.ref C_Malformed) = some (.type "type")
  em_OutOfRange_StillroomError : PySem.W.exmOne K (.ref C_OutOfRange) (.ref C_StillroomError) = some true
  ki_OutOfRange_OutOfRange : PySem.W.kitOne K (.ref C_OutOfRange) (.ref C_OutOfRange) = some true
  ki_OutOfRange_Malformed : PySem.W.kitOne K (.ref C_OutOfRange) (.ref C_Malformed) = some false
  ec_OutOfRange : ExcC K C_OutOfRange
  t_GREATEST_RUNE : Tok
  c_GREATEST_RUNE : mg "GREATEST_RUNE" = some (.int 1114111 t_GREATEST_RUNE)
  t__UNREADABLE : Tok
  c__UNREADABLE : mg "_UNREADABLE" = some (.int 65533 t__UNREADABLE)
  t__FIRST_BARRED : Tok
  c__FIRST_BARRED : mg "_FIRST_BARRED" = some (.int 55296 t__FIRST_BARRED)
  t__LAST_BARRED : Tok
  c__LAST_BARRED : mg "_LAST_BARRED" = some (.int 57343 t__LAST_BARRED)
  t__GREATEST_SINGLE : Tok
  c__GREATEST_SINGLE : mg "_GREATEST_SINGLE" = some (.int 127 t__GREATEST_SINGLE)
  t__FIRST_NEXT : Tok
  c__FIRST_NEXT : mg "_FIRST_NEXT" = some (.int 128 t__FIRST_NEXT)
  t__LAST_NEXT : Tok
  c__LAST_NEXT : mg "_LAST_NEXT" = some (.int 191 t__LAST_NEXT)
  a__LONGER : Addr
  c__LONGER : mg "_LONGER" = some (.ref a__LONGER)
  b0__LONGER : Addr
  b1__LONGER : Addr
  b2__LONGER : Addr
  q__LONGER : ∀ H, SqT K H a__LONGER [V.ref b0__LONGER, V.ref b1__LONGER, V.ref b2__LONGER]
  q0__LONGER : ∀ H, SqT K H b0__LONGER [V.int 2, V.int 192, V.int 223, V.int 128]
  q1__LONGER : ∀ H, SqT K H b1__LONGER [V.int 3, V.int 224, V.int 239, V.int 2048]
  q2__LONGER : ∀ H, SqT K H b2__LONGER [V.int 4, V.int 240, V.int 247, V.int 65536]
  z_abs : mg "abs" = none
  z_bool : mg "bool" = none
  z_int : mg "int" = none
  z_isinstance : mg "isinstance" = none
  z_len : mg "len" = none
  z_list : mg "list" = none
  z_max : mg "max" = none
  z_range : mg "range" = none
open Lean in
local macro_rules
  | `(tactic| walk_at $s:str) => do
    let ws := (s.getString.splitOn " ").filter (· ≠ "")
    let ids (fs : List String) : Array (TSyntax `term) := (fs.map fun f => (⟨mkIdent f.toName⟩ : TSyntax `term)).toArray
    match ws with
    | "vc" :: fs => do
      let xs := ids fs
      `(tactic| simp (config := {maxSteps := 2000000}) only [tSeq, tAsg, tOp, rI, rI0, rU, tUn, tCB, tCons, tNil, tVar, tC, gName, gSub, rSetL, tRet, tRetN, tIfS, tNext, tTest, tB, tDrop, tIf, tNot, tAnd, tOr, tAndV, tOrV, tNotV, tAug, ipI, tCall, tCmp, t2I, tBreak, tCont, tLst, tTup, tBM, tBM0, rAppend, tyV_upd, rLenH, rLenT, rListH, rIxH, rIxTH, rIxS, rEqIL, rNeIL, rEqTS, rSlH, rRep, rCat, rExtend, tSl, tPart, tNoPart, rIxT, gTup, gCons, gNil, atI_c0, atI_c1, atI_c2, atI_c3, dS_int, dS_bl, isS_int, isS_bl, eqv_ii, eqv_bb, eqvAll_nil, eqvAll_cons, List.all_cons, List.all_nil, Bool.and_true, Bool.true_and, rIsiB, tnm_int, tnm_bl, tnm_str, tnm_non, tnm_ref, kb1, kb2, kb3, kb4, kb5, kb6, kb7, kb8, kb9, kb10, rEq, rNe, scal_ii, scal_ss, scal_bb, scal_nn, scal_in, scal_ni, tFor_eq, tLc_eq, iRng1, iRng2, iList, iTup, iZip, iStr, iRng3, tChain, tYes, wipe, tCallL, Int.sub_zero, Int.toNat_natCast, Int.natCast_add, cxOf, L2.start, List.map_cons, List.map_nil, List.length_cons, List.length_nil, List.reduceReplicate, List.cons_append, List.nil_append, List.append_nil, List.set_cons_zero, List.set_cons_succ, List.getElem?_cons_zero, List.getElem?_cons_succ, upd_same, upd_upd, HO.lst.injEq, HO.tup.injEq, nil_sz, Option.some.injEq, V.int.injEq, V.bl.injEq, V.ref.injEq, V.str.injEq, V.ty.injEq, exists_eq_left', exists_eq_left, exists_eq', exists_eq, Int.cast_ofNat_Int, Int.reduceEq, Int.reduceMul, Int.reduceAdd, Int.reduceSub, Int.natCast_zero, Int.mul_zero, Int.add_zero, exists_and_left, exists_and_right, List.cons.injEq, and_true, true_and, and_assoc, reduceCtorEq, false_and, and_false, exists_false, exists_const, or_false, false_or, Nat.reduceAdd, Nat.reduceSub, Int.reduceLT, Int.reduceLE, Int.reduceNeg, Int.reducePow, Int.reduceToNat, ite_true, ite_false, Bool.false_eq_true, Bool.not_true, Bool.not_false, decide_true, decide_false, if_true, if_false, tTupS, tLstS, rListS, rListT, rTupleL, rCatL, rRepS, rSlS, map_int_inj, sz1, sz2, sz3, sz4, sz5, sz6, sz8, CMul, Nat.reduceLT, Nat.reduceLeDiff, Nat.reducePow, or_true, true_or, List.length_map, List.length_append, List.length_replicate, decide_eq_true_eq, gt_iff_lt, ge_iff_le, Int.reduceGT, Int.reduceGE, ne_eq, not_true_eq_false, not_false_eq_true, Int.reduceToNat, gTupS, gLstS, iListS, iTupS, tML, tML0, rPop, mx_eq, mn_eq, Int.natCast_inj, bitAnd_m1, bitAnd_m2, bitAnd_m3, bitAnd_m4, bitAnd_m5, bitAnd_m6, bitAnd_m7, bitAnd_m8, bitAnd_m16, CDiv, toNat_mul, map_snoc, map_cat, map_setV, List.length_set, absI_eq, Bool.and_self, tAugS, rGetL, iZipS, cutV_take1, cutV_drop1, tPar, rLenSc, rIxSc, iRng2, rSumS, rSlTS, cutV_take3, rEqC, rNeC, tTrL, iEnumL, rInI, rIndexI, tDGet, tDIn, tDNotIn, sDPut, iEnumS, tDc_eq, eq_self, rEqTK, rNeSK, rIsiTK, iRevS, iZipTS, rInLC, rNotInLC, rNotInTC, rRepL, tJoinC, tDGet2, tDNewTS, tDSetdT, tCallS, rIsB, rNotB, rIsE1, rAllS, rAnyS, tLstRev, tTupRevS, rCatTS, rInsert, kb11, kb12, kb13, kb14, kb15, kb16, kb17, kb18, kb19, kb20, kb21, kb22, kb23, kb24, kb25, kb26, kb27, kb28, kb29, kb30, $[$xs:term],*])
    | "w" :: fs => do
      let xs := ids fs
      let ys := (fs.map fun f => (⟨mkIdent f.toName⟩ : TSyntax `term)).toArray
      `(tactic| simp (config := {maxSteps := 2000000}) only [tSeq, tAsg, tOp, rI, rI0, rU, tUn, tCB, tCons, tNil, tVar, tC, gName, gSub, rSetL, tRet, tRetN, tIfS, tNext, tTest, tB, tDrop, tIf, tNot, tAnd, tOr, tAndV, tOrV, tNotV, tAug, ipI, tCall, tCmp, t2I, tBreak, tCont, tLst, tTup, tBM, tBM0, rAppend, tyV_upd, rLenH, rLenT, rListH, rIxH, rIxTH, rIxS, rEqIL, rNeIL, rEqTS, rSlH, rRep, rCat, rExtend, tSl, tPart, tNoPart, rIxT, gTup, gCons, gNil, atI_c0, atI_c1, atI_c2, atI_c3, dS_int, dS_bl, isS_int, isS_bl, eqv_ii, eqv_bb, eqvAll_nil, eqvAll_cons, List.all_cons, List.all_nil, Bool.and_true, Bool.true_and, rIsiB, tnm_int, tnm_bl, tnm_str, tnm_non, tnm_ref, kb1, kb2, kb3, kb4, kb5, kb6, kb7, kb8, kb9, kb10, rEq, rNe, scal_ii, scal_ss, scal_bb, scal_nn, scal_in, scal_ni, tFor_eq, tLc_eq, iRng1, iRng2, iList, iTup, iZip, iStr, iRng3, tChain, tYes, wipe, tCallL, Int.sub_zero, Int.toNat_natCast, Int.natCast_add, cxOf, L2.start, List.map_cons, List.map_nil, List.length_cons, List.length_nil, List.reduceReplicate, List.cons_append, List.nil_append, List.append_nil, List.set_cons_zero, List.set_cons_succ, List.getElem?_cons_zero, List.getElem?_cons_succ, upd_same, upd_upd, HO.lst.injEq, HO.tup.injEq, nil_sz, Option.some.injEq, V.int.injEq, V.bl.injEq, V.ref.injEq, V.str.injEq, V.ty.injEq, exists_eq_left', exists_eq_left, exists_eq', exists_eq, Int.cast_ofNat_Int, Int.reduceEq, Int.reduceMul, Int.reduceAdd, Int.reduceSub, Int.natCast_zero, Int.mul_zero, Int.add_zero, exists_and_left, exists_and_right, List.cons.injEq, and_true, true_and, and_assoc, reduceCtorEq, false_and, and_false, exists_false, exists_const, or_false, false_or, Nat.reduceAdd, Nat.reduceSub, Int.reduceLT, Int.reduceLE, Int.reduceNeg, Int.reducePow, Int.reduceToNat, ite_true, ite_false, Bool.false_eq_true, Bool.not_true, Bool.not_false, decide_true, decide_false, if_true, if_false, tTupS, tLstS, rListS, rListT, rTupleL, rCatL, rRepS, rSlS, map_int_inj, sz1, sz2, sz3, sz4, sz5, sz6, sz8, CMul, Nat.reduceLT, Nat.reduceLeDiff, Nat.reducePow, or_true, true_or, List.length_map, List.length_append, List.length_replicate, decide_eq_true_eq, gt_iff_lt, ge_iff_le, Int.reduceGT, Int.reduceGE, ne_eq, not_true_eq_false, not_false_eq_true, Int.reduceToNat, gTupS, gLstS, iListS, iTupS, tML, tML0, rPop, mx_eq, mn_eq, Int.natCast_inj, bitAnd_m1, bitAnd_m2, bitAnd_m3, bitAnd_m4, bitAnd_m5, bitAnd_m6, bitAnd_m7, bitAnd_m8, bitAnd_m16, CDiv, toNat_mul, map_snoc, map_cat, map_setV, List.length_set, absI_eq, Bool.and_self, tAugS, rGetL, iZipS, cutV_take1, cutV_drop1, tPar, rLenSc, rIxSc, iRng2, rSumS, rSlTS, cutV_take3, rEqC, rNeC, tTrL, iEnumL, rInI, rIndexI, tDGet, tDIn, tDNotIn, sDPut, iEnumS, tDc_eq, eq_self, rEqTK, rNeSK, rIsiTK, iRevS, iZipTS, rInLC, rNotInLC, rNotInTC, rRepL, tJoinC, tDGet2, tDNewTS, tDSetdT, tCallS, rIsB, rNotB, rIsE1, rAllS, rAnyS, tLstRev, tTupRevS, rCatTS, rInsert, kb11, kb12, kb13, kb14, kb15, kb16, kb17, kb18, kb19, kb20, kb21, kb22, kb23, kb24, kb25, kb26, kb27, kb28, kb29, kb30, $[$xs:term],*, $[(tyL_eq $ys)],*, $[(sqL_eq $ys)],*])
    | "g" :: fs => do
      let xs := ids fs
      `(tactic| simp only [gTupS, gCons, gNil, gName, HO.tup.injEq, Option.some.injEq, exists_eq_left', exists_eq_left, exists_eq', exists_eq, V.ref.injEq, List.cons.injEq, and_assoc, exists_and_left, exists_and_right, true_and, and_true, List.length_cons, List.length_nil, Nat.reduceAdd, List.set_cons_zero, List.set_cons_succ, $[$xs:term],*])
    | "c" :: sn :: gs => do
      let s1 := mkIdent sn.toName
      let mut out ← `(tactic| skip)
      for g in gs do
        let i := mkIdent g.toName
        out ← `(tactic| ($out; replace $i := $s1 _ _ $i))
      return out
    | "n" :: sn :: suf :: gs => do
      let s1 := mkIdent sn.toName
      let mut out ← `(tactic| skip)
      for g in gs do
        let i := mkIdent g.toName
        let j := mkIdent (g ++ suf).toName
        out ← `(tactic| ($out; have $j := $s1 _ _ $i))
      return out
    | "b" :: bn :: suf :: gs => do
      let s1 := mkIdent bn.toName
      let mut out ← `(tactic| skip)
      for g in gs do
        let i := mkIdent g.toName
        let j := mkIdent (g ++ suf).toName
        let n := mkIdent ("ne_" ++ g).toName
        out ← `(tactic| ($out; have $j := $s1 _ _ $n $i))
      return out
    | _ => Macro.throwUnsupported

section
variable {P : Program} {w : World} {K : PySem.W.Frag} {mg : Str → Option Value} {base : Heap}

theorem foldl_take {α β : Type} (f : β → α → β) (s : β) {l : List α} {i : Nat} {x : α} (h : l[i]? = some x) : (l.take (i + 1)).foldl f s = f ((l.take i).foldl f s) x := by
  rw [List.take_add_one, h, List.foldl_append]
  simp only [Option.toList_some, List.foldl_cons, List.foldl_nil]
theorem take_succ {α : Type} {l : List α} {i : Nat} {x : α} (h : l[i]? = some x) : l.take (i + 1) = l.take i ++ [x] := by
  rw [List.take_add_one, h]
  rfl
theorem take_map_succ {α β : Type} (f : α → β) {l : List α} {i : Nat} {x : α} (h : l[i]? = some x) : (l.map f).take (i + 1) = (l.map f).take i ++ [f x] := take_succ (by rw [List.getElem?_map, h]; rfl)
theorem take_lt {α : Type} (l : List α) (i : Nat) {n : Nat} (h : l.length < n) : (l.take i).length < n := Nat.lt_of_le_of_lt (by rw [List.length_take]; exact Nat.min_le_right _ _) h
def YTup (ns : List Int) : Nat → Hp → V → Hp → Prop := fun i H v H' => H' = H ∧ ∃ b, ns[i]? = some b ∧ v = .int b
theorem walkTI {K : PySem.W.Frag} {a : Addr} {ns : List Int} : Walk (Itt K a) ns.length (fun H => H a = some (.tup (List.map V.int ns))) (YTup ns) := by
  have w := walkT (K := K) (a := a) (xs := List.map V.int ns)
  rw [List.length_map] at w
  refine w.mono (fun _ h => h) fun i H x H' _ _ y => ⟨y.1, ?_⟩
  have h := y.2
  rw [List.getElem?_map] at h
  obtain ⟨b, h1, rfl⟩ := Option.map_eq_some_iff.mp h
  exact ⟨b, h1, rfl⟩
theorem foldl_len {α : Type} {f : List Int → α → List Int} (h : ∀ p c, (f p c).length = p.length) : ∀ (l : List α) (p : List Int), (l.foldl f p).length = p.length
  | [], _ => rfl
  | c :: r, p => by rw [List.foldl_cons, foldl_len h r, h]
theorem ix_in {r c w h : Nat} (hr : r < h) (hc : c < w) : r * w + c < w * h := by
  have h1 : r * w + w ≤ h * w := by rw [← Nat.succ_mul]; exact Nat.mul_le_mul_right w hr
  rw [Nat.mul_comm w h]
  omega
theorem map_set (l : List Int) (i : Nat) (v : Int) : (List.map V.int l).set i (.int v) = List.map V.int (l.set i v) := by rw [List.map_set]
theorem div_in {a d : Int} {n : Nat} (h0 : 0 ≤ a) (h1 : a < d) (hn : 1 ≤ n) : 0 ≤ a * n / d ∧ a * n / d < n := by
  refine ⟨Int.ediv_nonneg (Int.mul_nonneg h0 (by omega)) (by omega), Int.ediv_lt_of_lt_mul (by omega) ?_⟩
  rw [Int.mul_comm (n : Int) d]
  exact Int.mul_lt_mul_of_pos_right h1 (by omega)
theorem foldl_ext' {α β : Type} {f g : α → β → α} {l : List β} : ∀ {a : α}, (∀ a, ∀ b ∈ l, f a b = g a b) → l.foldl f a = l.foldl g a := by
  induction l with
  | nil => exact fun _ => rfl
  | cons x r ih => exact fun {a} h => by rw [List.foldl_cons, List.foldl_cons, h a x List.mem_cons_self]; exact ih fun a b hb => h a b (List.mem_cons_of_mem _ hb)
theorem gN_ge {src : List Int} (h : ∀ v ∈ src, -1 ≤ v) (i : Nat) : -1 ≤ gN src i := by
  unfold gN
  rw [List.getD_eq_getElem?_getD]
  cases e : src[i]? with
  | none => decide
  | some b => exact h b (List.mem_of_getElem? e)
theorem cnt_lt {n : Nat} (h : n ≤ 2000000) : n < sizeLine := Nat.lt_of_le_of_lt h (by decide)
theorem cnt_le {n : Nat} (h : n ≤ 2000000) : n ≤ sizeLine := Nat.le_of_lt (cnt_lt h)
theorem cnt_leL {n : Nat} (h : n ≤ 10000000) : n ≤ sizeLine := Nat.le_trans h (by decide)

/-! ### runes and their sequences -/
theorem Byt.dropB {x : List Int} (h : ∀ b ∈ x, 0 ≤ b ∧ b < 256) (n : Nat) : ∀ b ∈ x.drop n, 0 ≤ b ∧ b < 256 := fun b hb => h b (List.mem_of_mem_drop hb)
def isR (r : Int) : Prop := (0 ≤ r ∧ r ≤ 1114111) ∧ ¬ (55296 ≤ r ∧ r ≤ 57343)
instance (r : Int) : Decidable (isR r) := inferInstanceAs (Decidable (_ ∧ _))
/-- a number and what is behind it, -1 if a byte is none that goes on -/
def joinF (n : Int) : List Int → Int
  | [] => n
  | b :: r => if 128 ≤ b ∧ b ≤ 191 then joinF (n * 64 + b - 128) r else -1
def bytesOf (r : Int) : List Int :=
  if r < 128 then [r] else if r < 2048 then [192 + r / 64, 128 + r % 64] else if r < 65536 then [224 + r / 4096, 128 + r / 64 % 64, 128 + r % 64] else [240 + r / 262144, 128 + r / 4096 % 64, 128 + r / 64 % 64, 128 + r % 64]
def tryF (l : List Int) (c : Nat) (lo hi least : Int) : Option (Int × Nat) :=
  if lo ≤ l.headD 0 ∧ l.headD 0 ≤ hi then
    (if c ≤ l.length ∧ least ≤ joinF (l.headD 0 - lo) ((l.drop 1).take (c - 1)) ∧ isR (joinF (l.headD 0 - lo) ((l.drop 1).take (c - 1))) then some (joinF (l.headD 0 - lo) ((l.drop 1).take (c - 1)), c) else none)
  else none
def orO (a b : Option (Int × Nat)) : Option (Int × Nat) := match a with | some x => some x | none => b
def runeL (l : List Int) : Int × Nat :=
  if l.headD 0 ≤ 127 then (l.headD 0, 1) else (orO (tryF l 2 192 223 128) (orO (tryF l 3 224 239 2048) (tryF l 4 240 247 65536))).getD (65533, 1)
def lvM (n : Nat) : Int := [1, 1, 32, 16, 8].getD n 1
def lawV : List Int → Int
  | [b] => b
  | l => (l.drop 1).foldl (fun v x => 64 * v + x % 64) (l.headD 0 % lvM l.length)
def stepL (l : List Int) (k : Nat) (acc : Option (Int × Nat)) : Option (Int × Nat) :=
  if (l.take k).length = k ∧ isR (lawV (l.take k)) ∧ bytesOf (lawV (l.take k)) = l.take k then some (lawV (l.take k), k) else acc
def lawL (l : List Int) : Int × Nat := (stepL l 4 (stepL l 3 (stepL l 2 (stepL l 1 none)))).getD (65533, 1)
theorem by_len1 {r b : Int} (h : bytesOf r = [b]) : r < 128 ∧ r = b := by
  unfold bytesOf at h
  split at h
  · exact ⟨by omega, by simpa using h⟩
  · repeat' split at h
    all_goals simp at h
theorem by_len2 {r a b : Int} : bytesOf r = [a, b] ↔ ¬ r < 128 ∧ r < 2048 ∧ 192 + r / 64 = a ∧ 128 + r % 64 = b := by
  unfold bytesOf
  by_cases h1 : r < 128
  · simp [h1]
  · by_cases h2 : r < 2048
    · simp [h1, h2]
    · by_cases h3 : r < 65536 <;> simp [h1, h2, h3]
theorem by_len3 {r a b c : Int} : bytesOf r = [a, b, c] ↔ ¬ r < 2048 ∧ r < 65536 ∧ 224 + r / 4096 = a ∧ 128 + r / 64 % 64 = b ∧ 128 + r % 64 = c := by
  unfold bytesOf
  by_cases h1 : r < 128
  · simp [h1]; omega
  · by_cases h2 : r < 2048
    · simp [h1, h2]
    · by_cases h3 : r < 65536 <;> simp [h1, h2, h3]
theorem by_len4 {r a b c d : Int} : bytesOf r = [a, b, c, d] ↔ ¬ r < 65536 ∧ 240 + r / 262144 = a ∧ 128 + r / 4096 % 64 = b ∧ 128 + r / 64 % 64 = c ∧ 128 + r % 64 = d := by
  unfold bytesOf
  by_cases h1 : r < 128
  · simp [h1]; omega
  · by_cases h2 : r < 2048
    · simp [h1, h2]; omega
    · by_cases h3 : r < 65536 <;> simp [h1, h2, h3]
theorem st1 (b : Int) (t : List Int) (hb : 0 ≤ b ∧ b < 256) : stepL (b :: t) 1 none = if b ≤ 127 then some (b, 1) else none := by
  unfold stepL
  show (if [b].length = 1 ∧ isR b ∧ bytesOf b = [b] then some (b, 1) else none) = _
  by_cases h : b ≤ 127
  · rw [if_pos h, if_pos]
    refine ⟨rfl, ⟨⟨by omega, by omega⟩, by omega⟩, ?_⟩
    unfold bytesOf
    rw [if_pos (by omega)]
  · rw [if_neg h, if_neg]
    rintro ⟨_, _, z⟩
    have := (by_len1 z).1
    omega
theorem st2 (b c : Int) (t : List Int) (acc : Option (Int × Nat)) (hb : 0 ≤ b ∧ b < 256) (hc : 0 ≤ c ∧ c < 256) : stepL (b :: c :: t) 2 acc = if (192 ≤ b ∧ b ≤ 223) ∧ (128 ≤ c ∧ c ≤ 191) ∧ 128 ≤ (b - 192) * 64 + c - 128 then some ((b - 192) * 64 + c - 128, 2) else acc := by
  unfold stepL
  show (if [b, c].length = 2 ∧ isR (64 * (b % 32) + c % 64) ∧ bytesOf (64 * (b % 32) + c % 64) = [b, c] then some (64 * (b % 32) + c % 64, 2) else acc) = _
  by_cases h : (192 ≤ b ∧ b ≤ 223) ∧ (128 ≤ c ∧ c ≤ 191) ∧ 128 ≤ (b - 192) * 64 + c - 128
  · have e : 64 * (b % 32) + c % 64 = (b - 192) * 64 + c - 128 := by omega
    rw [if_pos h, e, if_pos]
    exact ⟨rfl, ⟨⟨by omega, by omega⟩, by omega⟩, by_len2.mpr ⟨by omega, by omega, by omega, by omega⟩⟩
  · rw [if_neg h, if_neg]
    rintro ⟨_, _, z⟩
    have z := by_len2.mp z
    omega
theorem st3 (b c d : Int) (t : List Int) (acc : Option (Int × Nat)) (hb : 0 ≤ b ∧ b < 256) (hc : 0 ≤ c ∧ c < 256) (hd : 0 ≤ d ∧ d < 256) : stepL (b :: c :: d :: t) 3 acc =
    if (224 ≤ b ∧ b ≤ 239) ∧ (128 ≤ c ∧ c ≤ 191) ∧ (128 ≤ d ∧ d ≤ 191) ∧ 2048 ≤ ((b - 224) * 64 + c - 128) * 64 + d - 128 ∧ isR (((b - 224) * 64 + c - 128) * 64 + d - 128) then some (((b - 224) * 64 + c - 128) * 64 + d - 128, 3) else acc := by
  unfold stepL
  show (if [b, c, d].length = 3 ∧ isR (64 * (64 * (b % 16) + c % 64) + d % 64) ∧ bytesOf (64 * (64 * (b % 16) + c % 64) + d % 64) = [b, c, d] then some (64 * (64 * (b % 16) + c % 64) + d % 64, 3) else acc) = _
  by_cases h : (224 ≤ b ∧ b ≤ 239) ∧ (128 ≤ c ∧ c ≤ 191) ∧ (128 ≤ d ∧ d ≤ 191) ∧ 2048 ≤ ((b - 224) * 64 + c - 128) * 64 + d - 128
  · have e : 64 * (64 * (b % 16) + c % 64) + d % 64 = ((b - 224) * 64 + c - 128) * 64 + d - 128 := by omega
    rw [e]
    by_cases h5 : isR (((b - 224) * 64 + c - 128) * 64 + d - 128)
    · have hp : (224 ≤ b ∧ b ≤ 239) ∧ (128 ≤ c ∧ c ≤ 191) ∧ (128 ≤ d ∧ d ≤ 191) ∧ 2048 ≤ ((b - 224) * 64 + c - 128) * 64 + d - 128 ∧ isR (((b - 224) * 64 + c - 128) * 64 + d - 128) := ⟨h.1, h.2.1, h.2.2.1, h.2.2.2, h5⟩
      rw [if_pos hp, if_pos]
      exact ⟨rfl, h5, by_len3.mpr ⟨by omega, by omega, by omega, by omega, by omega⟩⟩
    · have hp : ¬ ((224 ≤ b ∧ b ≤ 239) ∧ (128 ≤ c ∧ c ≤ 191) ∧ (128 ≤ d ∧ d ≤ 191) ∧ 2048 ≤ ((b - 224) * 64 + c - 128) * 64 + d - 128 ∧ isR (((b - 224) * 64 + c - 128) * 64 + d - 128)) := fun z => h5 z.2.2.2.2
      rw [if_neg hp, if_neg (fun z => h5 z.2.1)]
  · have hp : ¬ ((224 ≤ b ∧ b ≤ 239) ∧ (128 ≤ c ∧ c ≤ 191) ∧ (128 ≤ d ∧ d ≤ 191) ∧ 2048 ≤ ((b - 224) * 64 + c - 128) * 64 + d - 128 ∧ isR (((b - 224) * 64 + c - 128) * 64 + d - 128)) := fun z => h ⟨z.1, z.2.1, z.2.2.1, z.2.2.2.1⟩
    rw [if_neg hp, if_neg]
    rintro ⟨_, _, z⟩
    have z := by_len3.mp z
    omega
theorem st4 (b c d e : Int) (t : List Int) (acc : Option (Int × Nat)) (hb : 0 ≤ b ∧ b < 256) (hc : 0 ≤ c ∧ c < 256) (hd : 0 ≤ d ∧ d < 256) (he : 0 ≤ e ∧ e < 256) : stepL (b :: c :: d :: e :: t) 4 acc =
    if (240 ≤ b ∧ b ≤ 247) ∧ (128 ≤ c ∧ c ≤ 191) ∧ (128 ≤ d ∧ d ≤ 191) ∧ (128 ≤ e ∧ e ≤ 191) ∧ 65536 ≤ (((b - 240) * 64 + c - 128) * 64 + d - 128) * 64 + e - 128 ∧ isR ((((b - 240) * 64 + c - 128) * 64 + d - 128) * 64 + e - 128) then some ((((b - 240) * 64 + c - 128) * 64 + d - 128) * 64 + e - 128, 4) else acc := by
  unfold stepL
  show (if [b, c, d, e].length = 4 ∧ isR (64 * (64 * (64 * (b % 8) + c % 64) + d % 64) + e % 64) ∧ bytesOf (64 * (64 * (64 * (b % 8) + c % 64) + d % 64) + e % 64) = [b, c, d, e] then some (64 * (64 * (64 * (b % 8) + c % 64) + d % 64) + e % 64, 4) else acc) = _
  by_cases h : (240 ≤ b ∧ b ≤ 247) ∧ (128 ≤ c ∧ c ≤ 191) ∧ (128 ≤ d ∧ d ≤ 191) ∧ (128 ≤ e ∧ e ≤ 191) ∧ 65536 ≤ (((b - 240) * 64 + c - 128) * 64 + d - 128) * 64 + e - 128
  · have q : 64 * (64 * (64 * (b % 8) + c % 64) + d % 64) + e % 64 = (((b - 240) * 64 + c - 128) * 64 + d - 128) * 64 + e - 128 := by omega
    rw [q]
    by_cases h5 : isR ((((b - 240) * 64 + c - 128) * 64 + d - 128) * 64 + e - 128)
    · have hp : (240 ≤ b ∧ b ≤ 247) ∧ (128 ≤ c ∧ c ≤ 191) ∧ (128 ≤ d ∧ d ≤ 191) ∧ (128 ≤ e ∧ e ≤ 191) ∧ 65536 ≤ (((b - 240) * 64 + c - 128) * 64 + d - 128) * 64 + e - 128 ∧ isR ((((b - 240) * 64 + c - 128) * 64 + d - 128) * 64 + e - 128) := ⟨h.1, h.2.1, h.2.2.1, h.2.2.2.1, h.2.2.2.2, h5⟩
      rw [if_pos hp, if_pos]
      exact ⟨rfl, h5, by_len4.mpr ⟨by omega, by omega, by omega, by omega, by omega⟩⟩
    · have hp : ¬ ((240 ≤ b ∧ b ≤ 247) ∧ (128 ≤ c ∧ c ≤ 191) ∧ (128 ≤ d ∧ d ≤ 191) ∧ (128 ≤ e ∧ e ≤ 191) ∧ 65536 ≤ (((b - 240) * 64 + c - 128) * 64 + d - 128) * 64 + e - 128 ∧ isR ((((b - 240) * 64 + c - 128) * 64 + d - 128) * 64 + e - 128)) := fun z => h5 z.2.2.2.2.2
      rw [if_neg hp, if_neg (fun z => h5 z.2.1)]
  · have hp : ¬ ((240 ≤ b ∧ b ≤ 247) ∧ (128 ≤ c ∧ c ≤ 191) ∧ (128 ≤ d ∧ d ≤ 191) ∧ (128 ≤ e ∧ e ≤ 191) ∧ 65536 ≤ (((b - 240) * 64 + c - 128) * 64 + d - 128) * 64 + e - 128 ∧ isR ((((b - 240) * 64 + c - 128) * 64 + d - 128) * 64 + e - 128)) := fun z => h ⟨z.1, z.2.1, z.2.2.1, z.2.2.2.1, z.2.2.2.2.1⟩
    rw [if_neg hp, if_neg]
    rintro ⟨_, y, z⟩
    have z := by_len4.mp z
    have y1 := y.1.2
    omega
theorem st_short {l : List Int} {k : Nat} (h : l.length < k) (acc : Option (Int × Nat)) : stepL l k acc = acc := by
  unfold stepL
  rw [if_neg]
  rintro ⟨z, _⟩
  rw [List.length_take] at z
  omega
theorem isR_neg : ¬ isR (-1) := by decide
theorem tr_short {l : List Int} {c : Nat} (h : l.length < c) (lo hi least : Int) : tryF l c lo hi least = none := by
  unfold tryF
  split
  · rw [if_neg (fun z => by omega)]
  · rfl
theorem tr2 (b c : Int) (t : List Int) : tryF (b :: c :: t) 2 192 223 128 = if (192 ≤ b ∧ b ≤ 223) ∧ (128 ≤ c ∧ c ≤ 191) ∧ 128 ≤ (b - 192) * 64 + c - 128 then some ((b - 192) * 64 + c - 128, 2) else none := by
  unfold tryF
  show (if 192 ≤ b ∧ b ≤ 223 then (if 2 ≤ (b :: c :: t).length ∧ 128 ≤ joinF (b - 192) [c] ∧ isR (joinF (b - 192) [c]) then some (joinF (b - 192) [c], 2) else none) else none) = _
  by_cases h : 192 ≤ b ∧ b ≤ 223
  · rw [if_pos h]
    by_cases k : 128 ≤ c ∧ c ≤ 191
    · rw [show joinF (b - 192) [c] = (b - 192) * 64 + c - 128 by unfold joinF; rw [if_pos k]; rfl]
      by_cases m : 128 ≤ (b - 192) * 64 + c - 128
      · rw [if_pos ⟨by simp, m, ⟨⟨by omega, by omega⟩, by omega⟩⟩, if_pos ⟨h, k, m⟩]
      · rw [if_neg (fun z => m z.2.1), if_neg (fun z => m z.2.2)]
    · rw [show joinF (b - 192) [c] = -1 by unfold joinF; rw [if_neg k], if_neg (fun z => isR_neg z.2.2), if_neg (fun z => k z.2.1)]
  · rw [if_neg h, if_neg (fun z => h z.1)]
theorem tr3 (b c d : Int) (t : List Int) : tryF (b :: c :: d :: t) 3 224 239 2048 =
    if (224 ≤ b ∧ b ≤ 239) ∧ (128 ≤ c ∧ c ≤ 191) ∧ (128 ≤ d ∧ d ≤ 191) ∧ 2048 ≤ ((b - 224) * 64 + c - 128) * 64 + d - 128 ∧ isR (((b - 224) * 64 + c - 128) * 64 + d - 128) then some (((b - 224) * 64 + c - 128) * 64 + d - 128, 3) else none := by
  unfold tryF
  show (if 224 ≤ b ∧ b ≤ 239 then (if 3 ≤ (b :: c :: d :: t).length ∧ 2048 ≤ joinF (b - 224) [c, d] ∧ isR (joinF (b - 224) [c, d]) then some (joinF (b - 224) [c, d], 3) else none) else none) = _
  by_cases h : 224 ≤ b ∧ b ≤ 239
  · rw [if_pos h]
    by_cases k : (128 ≤ c ∧ c ≤ 191) ∧ (128 ≤ d ∧ d ≤ 191)
    · rw [show joinF (b - 224) [c, d] = ((b - 224) * 64 + c - 128) * 64 + d - 128 by unfold joinF; rw [if_pos k.1]; unfold joinF; rw [if_pos k.2]; rfl]
      by_cases m : 2048 ≤ ((b - 224) * 64 + c - 128) * 64 + d - 128 ∧ isR (((b - 224) * 64 + c - 128) * 64 + d - 128)
      · rw [if_pos ⟨by simp, m⟩, if_pos ⟨h, k.1, k.2, m⟩]
      · rw [if_neg (fun z => m z.2), if_neg (fun z => m z.2.2.2)]
    · rw [show joinF (b - 224) [c, d] = -1 by
        unfold joinF
        split
        · unfold joinF
          rw [if_neg (fun z => k ⟨by assumption, z⟩)]
        · rfl, if_neg (fun z => isR_neg z.2.2), if_neg (fun z => k ⟨z.2.1, z.2.2.1⟩)]
  · rw [if_neg h, if_neg (fun z => h z.1)]
theorem tr4 (b c d e : Int) (t : List Int) : tryF (b :: c :: d :: e :: t) 4 240 247 65536 =
    if (240 ≤ b ∧ b ≤ 247) ∧ (128 ≤ c ∧ c ≤ 191) ∧ (128 ≤ d ∧ d ≤ 191) ∧ (128 ≤ e ∧ e ≤ 191) ∧ 65536 ≤ (((b - 240) * 64 + c - 128) * 64 + d - 128) * 64 + e - 128 ∧ isR ((((b - 240) * 64 + c - 128) * 64 + d - 128) * 64 + e - 128) then some ((((b - 240) * 64 + c - 128) * 64 + d - 128) * 64 + e - 128, 4) else none := by
  unfold tryF
  show (if 240 ≤ b ∧ b ≤ 247 then (if 4 ≤ (b :: c :: d :: e :: t).length ∧ 65536 ≤ joinF (b - 240) [c, d, e] ∧ isR (joinF (b - 240) [c, d, e]) then some (joinF (b - 240) [c, d, e], 4) else none) else none) = _
  by_cases h : 240 ≤ b ∧ b ≤ 247
  · rw [if_pos h]
    by_cases k : (128 ≤ c ∧ c ≤ 191) ∧ (128 ≤ d ∧ d ≤ 191) ∧ (128 ≤ e ∧ e ≤ 191)
    · rw [show joinF (b - 240) [c, d, e] = (((b - 240) * 64 + c - 128) * 64 + d - 128) * 64 + e - 128 by unfold joinF; rw [if_pos k.1]; unfold joinF; rw [if_pos k.2.1]; unfold joinF; rw [if_pos k.2.2]; rfl]
      by_cases m : 65536 ≤ (((b - 240) * 64 + c - 128) * 64 + d - 128) * 64 + e - 128 ∧ isR ((((b - 240) * 64 + c - 128) * 64 + d - 128) * 64 + e - 128)
      · rw [if_pos ⟨by simp, m⟩, if_pos ⟨h, k.1, k.2.1, k.2.2, m⟩]
      · rw [if_neg (fun z => m z.2), if_neg (fun z => m z.2.2.2.2)]
    · rw [show joinF (b - 240) [c, d, e] = -1 by
        unfold joinF
        split
        · unfold joinF
          split
          · unfold joinF
            rw [if_neg (fun z => k ⟨by assumption, by assumption, z⟩)]
          · rfl
        · rfl, if_neg (fun z => isR_neg z.2.2), if_neg (fun z => k ⟨z.2.1, z.2.2.1, z.2.2.2.1⟩)]
  · rw [if_neg h, if_neg (fun z => h z.1)]
theorem tr_far {l : List Int} {c : Nat} {lo hi least : Int} (h : ¬ (lo ≤ l.headD 0 ∧ l.headD 0 ≤ hi)) : tryF l c lo hi least = none := by
  unfold tryF
  rw [if_neg h]
theorem law_rune {l : List Int} (hl : l ≠ []) (hB : ∀ b ∈ l, 0 ≤ b ∧ b < 256) : runeL l = lawL l := by
  unfold runeL lawL
  match l, hl, hB with
  | [b], _, hB =>
    have hb := hB b List.mem_cons_self
    rw [st_short (k := 4) (by simp), st_short (k := 3) (by simp), st_short (k := 2) (by simp), st1 b [] hb, tr_short (by simp), tr_short (by simp), tr_short (by simp)]
    show (if b ≤ 127 then (b, 1) else _) = _
    split <;> rfl
  | [b, c], _, hB =>
    have hb := hB b List.mem_cons_self
    have hc := hB c (by simp)
    rw [st_short (k := 4) (by simp), st_short (k := 3) (by simp), st2 b c [] _ hb hc, st1 b _ hb, tr_short (c := 3) (by simp), tr_short (c := 4) (by simp), tr2]
    show (if b ≤ 127 then (b, 1) else _) = _
    by_cases h : b ≤ 127
    · simp only [if_pos h, if_neg (show ¬ ((192 ≤ b ∧ b ≤ 223) ∧ (128 ≤ c ∧ c ≤ 191) ∧ 128 ≤ (b - 192) * 64 + c - 128) from fun z => by omega)]; rfl
    · rw [if_neg h, if_neg h]
      split <;> rfl
  | [b, c, d], _, hB =>
    have hb := hB b List.mem_cons_self
    have hc := hB c (by simp)
    have hd := hB d (by simp)
    rw [st_short (k := 4) (by simp), st3 b c d [] _ hb hc hd, st2 b c _ _ hb hc, st1 b _ hb, tr_short (c := 4) (by simp), tr2, tr3]
    show (if b ≤ 127 then (b, 1) else _) = _
    by_cases h : b ≤ 127
    · simp only [if_pos h, if_neg (show ¬ ((192 ≤ b ∧ b ≤ 223) ∧ (128 ≤ c ∧ c ≤ 191) ∧ 128 ≤ (b - 192) * 64 + c - 128) from fun z => by omega), if_neg (show ¬ ((224 ≤ b ∧ b ≤ 239) ∧ (128 ≤ c ∧ c ≤ 191) ∧ (128 ≤ d ∧ d ≤ 191) ∧ 2048 ≤ ((b - 224) * 64 + c - 128) * 64 + d - 128 ∧ isR (((b - 224) * 64 + c - 128) * 64 + d - 128)) from fun z => by have := z.1; omega)]; rfl
    · rw [if_neg h, if_neg h]
      by_cases h3 : 224 ≤ b
      · simp only [if_neg (show ¬ ((192 ≤ b ∧ b ≤ 223) ∧ (128 ≤ c ∧ c ≤ 191) ∧ 128 ≤ (b - 192) * 64 + c - 128) from fun z => by omega)]
        split <;> rfl
      · simp only [if_neg (show ¬ ((224 ≤ b ∧ b ≤ 239) ∧ (128 ≤ c ∧ c ≤ 191) ∧ (128 ≤ d ∧ d ≤ 191) ∧ 2048 ≤ ((b - 224) * 64 + c - 128) * 64 + d - 128 ∧ isR (((b - 224) * 64 + c - 128) * 64 + d - 128)) from fun z => h3 z.1.1)]
        split <;> rfl
  | b :: c :: d :: e :: t, _, hB =>
    have hb := hB b List.mem_cons_self
    have hc := hB c (by simp)
    have hd := hB d (by simp)
    have he := hB e (by simp)
    rw [st4 b c d e t _ hb hc hd he, st3 b c d _ _ hb hc hd, st2 b c _ _ hb hc, st1 b _ hb, tr2, tr3, tr4]
    show (if b ≤ 127 then (b, 1) else _) = _
    by_cases h : b ≤ 127
    · simp only [if_pos h, if_neg (show ¬ ((192 ≤ b ∧ b ≤ 223) ∧ (128 ≤ c ∧ c ≤ 191) ∧ 128 ≤ (b - 192) * 64 + c - 128) from fun z => by omega), if_neg (show ¬ ((224 ≤ b ∧ b ≤ 239) ∧ (128 ≤ c ∧ c ≤ 191) ∧ (128 ≤ d ∧ d ≤ 191) ∧ 2048 ≤ ((b - 224) * 64 + c - 128) * 64 + d - 128 ∧ isR (((b - 224) * 64 + c - 128) * 64 + d - 128)) from fun z => by have := z.1; omega), if_neg (show ¬ ((240 ≤ b ∧ b ≤ 247) ∧ (128 ≤ c ∧ c ≤ 191) ∧ (128 ≤ d ∧ d ≤ 191) ∧ (128 ≤ e ∧ e ≤ 191) ∧ 65536 ≤ (((b - 240) * 64 + c - 128) * 64 + d - 128) * 64 + e - 128 ∧ isR ((((b - 240) * 64 + c - 128) * 64 + d - 128) * 64 + e - 128)) from fun z => by have := z.1; omega)]; rfl
    · rw [if_neg h, if_neg h]
      by_cases h3 : 224 ≤ b
      · simp only [if_neg (show ¬ ((192 ≤ b ∧ b ≤ 223) ∧ (128 ≤ c ∧ c ≤ 191) ∧ 128 ≤ (b - 192) * 64 + c - 128) from fun z => by have := z.1.2; omega)]
        by_cases h4 : 240 ≤ b
        · simp only [if_neg (show ¬ ((224 ≤ b ∧ b ≤ 239) ∧ (128 ≤ c ∧ c ≤ 191) ∧ (128 ≤ d ∧ d ≤ 191) ∧ 2048 ≤ ((b - 224) * 64 + c - 128) * 64 + d - 128 ∧ isR (((b - 224) * 64 + c - 128) * 64 + d - 128)) from fun z => by have := z.1.2; omega)]
          split <;> rfl
        · simp only [if_neg (show ¬ ((240 ≤ b ∧ b ≤ 247) ∧ (128 ≤ c ∧ c ≤ 191) ∧ (128 ≤ d ∧ d ≤ 191) ∧ (128 ≤ e ∧ e ≤ 191) ∧ 65536 ≤ (((b - 240) * 64 + c - 128) * 64 + d - 128) * 64 + e - 128 ∧ isR ((((b - 240) * 64 + c - 128) * 64 + d - 128) * 64 + e - 128)) from fun z => h4 z.1.1)]
          split <;> rfl
      · simp only [if_neg (show ¬ ((224 ≤ b ∧ b ≤ 239) ∧ (128 ≤ c ∧ c ≤ 191) ∧ (128 ≤ d ∧ d ≤ 191) ∧ 2048 ≤ ((b - 224) * 64 + c - 128) * 64 + d - 128 ∧ isR (((b - 224) * 64 + c - 128) * 64 + d - 128)) from fun z => h3 z.1.1), if_neg (show ¬ ((240 ≤ b ∧ b ≤ 247) ∧ (128 ≤ c ∧ c ≤ 191) ∧ (128 ≤ d ∧ d ≤ 191) ∧ (128 ≤ e ∧ e ≤ 191) ∧ 65536 ≤ (((b - 240) * 64 + c - 128) * 64 + d - 128) * 64 + e - 128 ∧ isR ((((b - 240) * 64 + c - 128) * 64 + d - 128) * 64 + e - 128)) from fun z => by have := z.1.1; omega)]
        split <;> rfl
def runesF (l : List Int) : Nat → Nat → List Int
  | 0, _ => []
  | f + 1, a => if a < l.length then (runeL (l.drop a)).1 :: runesF l f (a + (runeL (l.drop a)).2) else []
theorem runesF_end (l : List Int) (f a : Nat) (h : ¬ a < l.length) : runesF l f a = [] := by
  cases f with
  | zero => rfl
  | succ f => unfold runesF; rw [if_neg h]
theorem runeL_pos (l : List Int) : 1 ≤ (runeL l).2 ∧ (runeL l).2 ≤ 4 := by
  unfold runeL
  split
  · exact ⟨Nat.le_refl _, by show (1 : Nat) ≤ 4; decide⟩
  · have tr : ∀ c lo hi least, 1 ≤ c → c ≤ 4 → tryF l c lo hi least = none ∨ ∃ r, tryF l c lo hi least = some (r, c) := fun c lo hi least h1 h2 => by
      unfold tryF
      split
      · split
        · exact .inr ⟨_, rfl⟩
        · exact .inl rfl
      · exact .inl rfl
    rcases tr 2 192 223 128 (by decide) (by decide) with e2 | ⟨r2, e2⟩ <;> rcases tr 3 224 239 2048 (by decide) (by decide) with e3 | ⟨r3, e3⟩ <;> rcases tr 4 240 247 65536 (by decide) (by decide) with e4 | ⟨r4, e4⟩ <;>
      rw [e2, e3, e4] <;> simp [orO]
theorem bytes_len (r : Int) : 1 ≤ (bytesOf r).length ∧ (bytesOf r).length ≤ 4 := by
  unfold bytesOf
  repeat' split
  all_goals simp
theorem bytes_byt {r : Int} (h : 0 ≤ r ∧ r < 2097152) : ∀ b ∈ bytesOf r, 0 ≤ b ∧ b < 256 := by
  unfold bytesOf
  intro b hb
  repeat' split at hb
  all_goals simp only [List.mem_cons, List.not_mem_nil, or_false] at hb
  all_goals omega
theorem rune_back {r : Int} (h : isR r) : runeL (bytesOf r) = (r, (bytesOf r).length) := by
  have hr := h.1
  rw [law_rune (fun z => by have := (bytes_len r).1; rw [z] at this; cases this) (bytes_byt (by omega))]
  unfold lawL
  have key : ∀ k, (bytesOf r).length = k → lawV (bytesOf r) = r → ∀ acc, stepL (bytesOf r) k acc = some (r, k) := fun k hk hv acc => by
    unfold stepL
    rw [← hk, List.take_length, hv, if_pos ⟨rfl, h, rfl⟩]
  have hv : lawV (bytesOf r) = r := by
    unfold bytesOf
    by_cases h1 : r < 128
    · rw [if_pos h1]; rfl
    · rw [if_neg h1]
      by_cases h2 : r < 2048
      · rw [if_pos h2]
        show 64 * ((192 + r / 64) % 32) + (128 + r % 64) % 64 = r
        omega
      · rw [if_neg h2]
        by_cases h3 : r < 65536
        · rw [if_pos h3]
          show 64 * (64 * ((224 + r / 4096) % 16) + (128 + r / 64 % 64) % 64) + (128 + r % 64) % 64 = r
          omega
        · rw [if_neg h3]
          show 64 * (64 * (64 * ((240 + r / 262144) % 8) + (128 + r / 4096 % 64) % 64) + (128 + r / 64 % 64) % 64) + (128 + r % 64) % 64 = r
          omega
  have hl := bytes_len r
  rcases (show (bytesOf r).length = 1 ∨ (bytesOf r).length = 2 ∨ (bytesOf r).length = 3 ∨ (bytesOf r).length = 4 by omega) with e | e | e | e
  · rw [st_short (k := 4) (by omega), st_short (k := 3) (by omega), st_short (k := 2) (by omega), key 1 e hv, e]; rfl
  · rw [st_short (k := 4) (by omega), st_short (k := 3) (by omega), key 2 e hv, e]; rfl
  · rw [st_short (k := 4) (by omega), key 3 e hv, e]; rfl
  · rw [key 4 e hv, e]; rfl
theorem runes_back {r : Int} (h : isR r) : runesF (bytesOf r) (bytesOf r).length 0 = [r] := by
  have hl := (bytes_len r).1
  obtain ⟨n, hn⟩ : ∃ n, (bytesOf r).length = n + 1 := ⟨(bytesOf r).length - 1, by omega⟩
  rw [hn]
  unfold runesF
  rw [if_pos (by omega), List.drop_zero, rune_back h]
  show r :: runesF (bytesOf r) n (0 + (bytesOf r).length) = [r]
  rw [runesF_end _ _ _ (by omega)]
abbrev Fm := Nat × Int × Int × Int
def fms : List Fm := [(2, 192, 223, 128), (3, 224, 239, 2048), (4, 240, 247, 65536)]
def tryM (l : List Int) (f : Fm) : Option (Int × Nat) := tryF l f.1 f.2.1 f.2.2.1 f.2.2.2
theorem runeL_none {l : List Int} (h0 : ¬ l.headD 0 ≤ 127) (h : ∀ f ∈ fms, tryM l f = none) : runeL l = (65533, 1) := by
  unfold runeL
  have e2 : tryF l 2 192 223 128 = none := h (2, 192, 223, 128) (by simp [fms])
  have e3 : tryF l 3 224 239 2048 = none := h (3, 224, 239, 2048) (by simp [fms])
  have e4 : tryF l 4 240 247 65536 = none := h (4, 240, 247, 65536) (by simp [fms])
  rw [if_neg h0, e2, e3, e4]
  rfl
theorem runeL_some {l : List Int} (h0 : ¬ l.headD 0 ≤ 127) {i : Nat} {f : Fm} {x : Int × Nat} (hi : fms[i]? = some f) (h : ∀ f ∈ fms.take i, tryM l f = none) (hx : tryM l f = some x) : runeL l = x := by
  unfold runeL
  rw [if_neg h0]
  match i, hi, h with
  | 0, hi, h =>
    obtain rfl := Option.some.inj hi
    rw [show tryF l 2 192 223 128 = some x from hx]
    rfl
  | 1, hi, h =>
    obtain rfl := Option.some.inj hi
    have e2 : tryF l 2 192 223 128 = none := h (2, 192, 223, 128) (by simp [fms])
    rw [e2, show tryF l 3 224 239 2048 = some x from hx]
    rfl
  | 2, hi, h =>
    obtain rfl := Option.some.inj hi
    have e2 : tryF l 2 192 223 128 = none := h (2, 192, 223, 128) (by simp [fms])
    have e3 : tryF l 3 224 239 2048 = none := h (3, 224, 239, 2048) (by simp [fms])
    rw [e2, e3, show tryF l 4 240 247 65536 = some x from hx]
    rfl
theorem fms_ok {f : Fm} (h : f ∈ fms) : 2 ≤ f.1 ∧ f.1 ≤ 4 := by
  simp only [fms, List.mem_cons, List.not_mem_nil, or_false] at h
  rcases h with rfl | rfl | rfl <;> decide
def lstF (r : Int) (k : Nat) : List Int := (List.range k).map fun i => 128 + r / 2 ^ (6 * (k - 1 - i)) % 64
/-- how many forms serve a rune, and what its form gives -/
theorem forms_of {r : Int} (h : isR r) (h0 : ¬ r ≤ 127) : ∃ k, 1 ≤ k ∧ k ≤ 3 ∧ (∀ i f, fms[i]? = some f → (f.2.2.2 ≤ r ↔ i < k)) ∧ ∀ f, fms[k - 1]? = some f → f.1 = k + 1 ∧ [f.2.1 + r / 2 ^ (6 * k)] ++ lstF r k = bytesOf r := by
  have hr := h.1
  have fi : ∀ i f, fms[i]? = some f → (i = 0 ∧ f = (2, 192, 223, 128)) ∨ (i = 1 ∧ f = (3, 224, 239, 2048)) ∨ (i = 2 ∧ f = (4, 240, 247, 65536)) := by
    intro i f hf
    match i, hf with
    | 0, hf => exact .inl ⟨rfl, (Option.some.inj hf).symm⟩
    | 1, hf => exact .inr (.inl ⟨rfl, (Option.some.inj hf).symm⟩)
    | 2, hf => exact .inr (.inr ⟨rfl, (Option.some.inj hf).symm⟩)
  unfold bytesOf
  rw [if_neg (by omega)]
  by_cases h2 : r < 2048
  · refine ⟨1, by decide, by decide, fun i f hf => ?_, fun f hf => ?_⟩
    · rcases fi i f hf with ⟨rfl, rfl⟩ | ⟨rfl, rfl⟩ | ⟨rfl, rfl⟩ <;> simp only [] <;> omega
    · obtain rfl := Option.some.inj hf
      rw [if_pos h2]
      refine ⟨rfl, ?_⟩
      show [192 + r / 64, 128 + r / 1 % 64] = _
      rw [Int.ediv_one]
  · rw [if_neg h2]
    by_cases h3 : r < 65536
    · refine ⟨2, by decide, by decide, fun i f hf => ?_, fun f hf => ?_⟩
      · rcases fi i f hf with ⟨rfl, rfl⟩ | ⟨rfl, rfl⟩ | ⟨rfl, rfl⟩ <;> simp only [] <;> omega
      · obtain rfl := Option.some.inj hf
        rw [if_pos h3]
        refine ⟨rfl, ?_⟩
        show [224 + r / 4096, 128 + r / 64 % 64, 128 + r / 1 % 64] = _
        rw [Int.ediv_one]
    · refine ⟨3, by decide, by decide, fun i f hf => ?_, fun f hf => ?_⟩
      · rcases fi i f hf with ⟨rfl, rfl⟩ | ⟨rfl, rfl⟩ | ⟨rfl, rfl⟩ <;> simp only [] <;> omega
      · obtain rfl := Option.some.inj hf
        rw [if_neg h3]
        refine ⟨rfl, ?_⟩
        show [240 + r / 262144, 128 + r / 4096 % 64, 128 + r / 64 % 64, 128 + r / 1 % 64] = _
        rw [Int.ediv_one]
def accF (l : List Int) : Nat → Option (Int × Nat)
  | 0 => none
  | k + 1 => stepL l (k + 1) (accF l k)
theorem lawL_acc (l : List Int) : lawL l = (accF l 4).getD (65533, 1) := rfl
def AccV (H : Hp) (v : V) : Option (Int × Nat) → Prop
  | none => v = .non
  | some x => ∃ p, v = .ref p ∧ H p = some (.tup [.int x.1, .int (x.2 : Nat)])
theorem AccV.mono {H H' : Hp} (s : Same H H') {v : V} {o : Option (Int × Nat)} (h : AccV H v o) : AccV H' v o := by
  cases o with
  | none => exact h
  | some x => obtain ⟨p, e, g⟩ := h; exact ⟨p, e, s _ _ g⟩

def sp__has_sequence (K : PySem.W.Frag) : Sp := fun vs H Q _ => ∃ (r : Int), vs = [.int r] ∧ (Q (.bl (decide (isR r))) H)
theorem ok__has_sequence (T : Txt K mg) : FnOk P w K mg base CX0 1 T.f__has_sequence T.fd__has_sequence ["rune"] (sp__has_sequence K) := by
  refine T.F__has_sequence.ok sc__has_sequence (fun vs H Q E h => ?_) (fun cdv A outer s H vs Q E hr h => ?_)
  · obtain ⟨r, rfl, _⟩ := h
    rfl
  · obtain ⟨r, rfl, q⟩ := h
    refine ⟨_, (pss_one (ps_ret (pe_and (pe_chain op_le op_le pe_int (pv 0) (pe_glob (v := .int 1114111) (by rfl) T.c_GREATEST_RUNE ⟨_, rfl⟩)) (pe_one (pe_not (pe_chain op_le op_le (pe_glob (v := .int 55296) (by rfl) T.c__FIRST_BARRED ⟨_, rfl⟩) (pv 0) (pe_glob (v := .int 57343) (by rfl) T.c__LAST_BARRED ⟨_, rfl⟩))))))), ?_⟩
    walk_at "vc"
    have no : ¬ isR r → Q (.bl false) H := fun z => by rw [decide_eq_false z] at q; exact q
    refine iteP (fun h0 => iteP (fun h1 => iteP (fun h2 => ?_) (fun h2 => ?_)) (fun h1 => no fun z => h1 z.1.2)) (fun h0 => no fun z => h0 z.1.1)
    · rw [show (!decide (r ≤ 57343)) = decide (isR r) by
        by_cases h3 : r ≤ 57343
        · rw [decide_eq_true h3, decide_eq_false (fun z => z.2 ⟨h2, h3⟩)]; rfl
        · rw [decide_eq_false h3, decide_eq_true (show isR r from ⟨⟨h0, h1⟩, fun z => h3 z.2⟩)]; rfl]
      exact q
    · rw [decide_eq_true (show isR r from ⟨⟨h0, h1⟩, fun z => h2 z.1⟩)] at q
      exact q
def sp__joined (K : PySem.W.Frag) : Sp := fun vs H Q _ => ∃ (n : Int) (a : Addr) (ns : List Int), vs = [.int n, .ref a] ∧ (H a = some (.lst (List.map V.int ns))) ∧ (Q (.int (joinF n ns)) H)
theorem ok__joined (T : Txt K mg) : FnOk P w K mg base CX0 1 T.f__joined T.fd__joined ["number", "behind"] (sp__joined K) := by
  refine T.F__joined.ok sc__joined (fun vs H Q E h => ?_) (fun cdv A outer s H vs Q E hr h => ?_)
  · obtain ⟨n, a, ns, rfl, _⟩ := h
    rfl
  · obtain ⟨n, a, ns, rfl, ha, q⟩ := h
    refine ⟨_, (pss_cons (ps_for PassesOwn.never rfl (pi_listS (pv 1)) (pg_name (i := 2) sc__joined.nd rfl (Or.inl rfl)) (pss_cons (ps_if (pt_not (pt_chain op_le op_le (pe_glob (v := .int 128) (by rfl) T.c__FIRST_NEXT ⟨_, rfl⟩) (pv 2) (pe_glob (v := .int 191) (by rfl) T.c__LAST_NEXT ⟨_, rfl⟩))) (pss_one (ps_ret (pe_un un_neg pe_int))) pss_nil)
      (pss_one (ps_set (i := 0) sc__joined.nd rfl (Or.inl rfl) (pe_op op_sub (pe_op op_add (pe_op op_mul (pv 0) pe_int) (pv 2)) (pe_glob (v := .int 128) (by rfl) T.c__FIRST_NEXT ⟨_, rfl⟩))))))
      (pss_one (ps_ret (pv 0)))), ?_⟩
    walk_at "vc ha"
    refine lpW (walkI (ns := ns)) (fun i σ H' => ∃ (m : Int) (v : Option V), σ = [some (.int m), some (.ref a), v] ∧ H' = H ∧ joinF n ns = joinF m (ns.drop i)) ⟨n, none, rfl, rfl, rfl⟩ ?_ ?_ ?_
    · rintro i σ H' _ ⟨_, _, _, rfl, _⟩
      exact ha
    · rintro i x σ H1 H2 hi ⟨m, v, rfl, rfl, hj⟩ ⟨rfl, b, hb, rfl⟩
      have hd : ns.drop i = b :: ns.drop (i + 1) := List.drop_eq_getElem_cons hi |>.trans (by rw [List.getElem?_eq_getElem hi] at hb; rw [Option.some.inj hb])
      rw [hd] at hj
      walk_at "vc"
      have bad : ¬ (128 ≤ b ∧ b ≤ 191) → Q (.int (-1)) H2 := fun z => by
        rw [hj, show joinF m (b :: ns.drop (i + 1)) = -1 by unfold joinF; rw [if_neg z]] at q
        exact q
      refine iteP (fun h1 => ?_) (fun h1 => bad fun z => h1 z.1)
      by_cases h2 : b ≤ 191
      · rw [decide_eq_true h2, if_neg (by decide), hj]
        show joinF m (b :: ns.drop (i + 1)) = _
        rw [joinF, if_pos ⟨h1, h2⟩]
      · rw [decide_eq_false h2, if_pos (by decide)]
        exact bad fun z => h2 z.2
    · rintro σ H1 ⟨m, v, rfl, rfl, hj⟩
      rw [List.drop_length] at hj
      rw [hj] at q
      walk_at "vc"
      exact q
def sp__rune_at (K : PySem.W.Frag) : Sp := fun vs H Q _ => ∃ (a : Addr) (ns : List Int) (at_ : Nat), vs = [.ref a, .int (at_ : Int)] ∧ (H a = some (.lst (List.map V.int ns))) ∧ (at_ < ns.length) ∧ (∀ H' p, Same H H' → H p = none → H' p = some (.tup [.int (runeL (ns.drop at_)).1, .int ((runeL (ns.drop at_)).2 : Nat)]) → Q (.ref p) H')
theorem ok__rune_at (T : Txt K mg) : FnOk P w K mg base CX0 2 T.f__rune_at T.fd__rune_at ["data", "at"] (sp__rune_at K) := by
  refine T.F__rune_at.ok sc__rune_at (fun vs H Q E h => ?_) (fun cdv A outer s H vs Q E hr h => ?_)
  · obtain ⟨a, ns, at_, rfl, _⟩ := h
    rfl
  · obtain ⟨a, ns, at_, rfl, ha, hat, q⟩ := h
    refine ⟨_, (pss_cons (ps_set (i := 2) sc__rune_at.nd rfl (Or.inl rfl) (pe_ix ix_listH (pv 0) (pv 1) (fun _ _ => rfl)))
      (pss_cons (ps_if (pt_cmpR op_le (pv 2) (pe_glob (v := .int 127) (by rfl) T.c__GREATEST_SINGLE ⟨_, rfl⟩) (nomark _)) (pss_one (ps_ret (pe_tupS (pa_cons (pv 2) (pa_cons pe_int pa_nil))))) pss_nil)
      (pss_cons (ps_for PassesOwn.never rfl (pi_tup (pe_glob (v := .ref T.a__LONGER) (by rfl) T.c__LONGER rfl)) (pg_tup (n := 4) (by rfl) (pgs_cons (pg_name (i := 3) sc__rune_at.nd rfl (Or.inl rfl)) (pgs_cons (pg_name (i := 4) sc__rune_at.nd rfl (Or.inl rfl)) (pgs_cons (pg_name (i := 5) sc__rune_at.nd rfl (Or.inl rfl)) (pgs_cons (pg_name (i := 6) sc__rune_at.nd rfl (Or.inl rfl)) pgs_nil))))) (pss_one (ps_if (pt_chain op_le op_le (pv 4) (pv 2) (pv 5)) (pss_cons (ps_set (i := 7) sc__rune_at.nd rfl (Or.inl rfl) (pe_call (ok__joined T) hr (by rfl) T.g__joined T.F__joined.kp T.b__joined .nil pass0 (pa_cons (pe_op op_sub (pv 2) (pv 4)) (pa_cons (pe_slice sl_listS (pv 0) (po_some (pe_op op_add (pv 1) pe_int)) (po_some (pe_op op_add (pv 1) (pv 3)))) pa_nil))))
      (pss_one (ps_if (PW.pt (pw_and (pt_cmpR op_le (pe_op op_add (pv 1) (pv 3)) (pe_callB call_lenH (by rfl) T.z_len PySem.boot_len (pa_cons (pv 0) pa_nil)) (nomark _)) (pw_and (pt_cmpR op_ge (pv 7) (pv 6) (nomark _)) (pw_and1 (pt_val (pe_call (ok__has_sequence T) hr (by rfl) T.g__has_sequence T.F__has_sequence.kp T.b__has_sequence .nil pass0 (pa_cons (pv 7) pa_nil))))))) (pss_one (ps_ret (pe_tupS (pa_cons (pv 7) (pa_cons (pv 3) pa_nil))))) pss_nil))) pss_nil)))
      (pss_one (ps_ret (pe_tupS (pa_cons (pe_glob (v := .int 65533) (by rfl) T.c__UNREADABLE ⟨_, rfl⟩) (pa_cons pe_int pa_nil)))))))), ?_⟩
    walk_at "vc ha"
    refine ⟨_, at_g hat, gN ns at_, rfl, ?_⟩
    have hh : (ns.drop at_).headD 0 = gN ns at_ := by
      rw [List.drop_eq_getElem_cons hat]
      simp [gN, hat]
    refine iteP (fun h0 p H1 s1 n1 g1 => ?_) (fun h0 => ?_)
    · refine q H1 p s1 n1 ?_
      unfold runeL
      rw [hh, if_pos h0]
      exact g1
    have h0' : ¬ (ns.drop at_).headD 0 ≤ 127 := by rw [hh]; exact h0
    have hf : ∀ (i : Nat) (x : V), [V.ref T.b0__LONGER, V.ref T.b1__LONGER, V.ref T.b2__LONGER][i]? = some x → ∃ (b : Addr) (f : Fm), x = .ref b ∧ fms[i]? = some f ∧ ∀ H, SqT K H b [.int (f.1 : Int), .int f.2.1, .int f.2.2.1, .int f.2.2.2] := by
      intro i x hx
      match i, hx with
      | 0, hx => exact ⟨_, _, (Option.some.inj hx).symm, rfl, T.q0__LONGER⟩
      | 1, hx => exact ⟨_, _, (Option.some.inj hx).symm, rfl, T.q1__LONGER⟩
      | 2, hx => exact ⟨_, _, (Option.some.inj hx).symm, rfl, T.q2__LONGER⟩
    refine ⟨⟨_, T.q__LONGER H⟩, lpW (walk_tup (K := K) (a := T.a__LONGER) (xs := [V.ref T.b0__LONGER, V.ref T.b1__LONGER, V.ref T.b2__LONGER])) (fun i σ H' => ∃ (v3 v4 v5 v6 v7 : Option V), σ = [some (.ref a), some (.int (at_ : Int)), some (.int (gN ns at_)), v3, v4, v5, v6, v7] ∧ Same H H' ∧ ∀ f ∈ fms.take i, tryM (ns.drop at_) f = none) ⟨_, _, _, _, _, rfl, Same.refl _, fun _ z => (nomatch z)⟩ (fun _ _ H' _ _ => T.q__LONGER H') ?_ ?_⟩
    · rintro i x σ H1 H2 hi ⟨v3, v4, v5, v6, v7, rfl, s1, hn⟩ ⟨rfl, hx⟩
      obtain ⟨b, f, rfl, hfi, hq⟩ := hf i x hx
      obtain ⟨fc, flo, fhi, fle⟩ := f
      have ha2 := s1 _ _ ha
      have hc := fms_ok (List.mem_of_getElem? hfi)
      walk_at "vc ha2"
      refine ⟨_, hq H2, rfl, ?_⟩
      walk_at "vc ha2 sp__joined sp__has_sequence"
      have skip : tryM (ns.drop at_) (fc, flo, fhi, fle) = none → ∀ f ∈ fms.take (i + 1), tryM (ns.drop at_) f = none := fun z f hf => by
        rw [take_succ hfi] at hf
        rcases List.mem_append.mp hf with e | e
        · exact hn f e
        · rw [List.mem_singleton.mp e]; exact z
      have far : ¬ (flo ≤ gN ns at_ ∧ gN ns at_ ≤ fhi) → tryM (ns.drop at_) (fc, flo, fhi, fle) = none := fun z => tr_far (by rw [hh]; exact z)
      refine iteP (fun k1 => iteP (fun k2 => ?_) (fun k2 => ⟨s1, skip (far fun z => k2 z.2)⟩)) (fun k1 => ⟨s1, skip (far fun z => k1 z.1)⟩)
      intro p H3 s3 n3 g3
      rw [show ((at_ : Int) + 1) = ((at_ + 1 : Nat) : Int) from rfl, show ((at_ : Int) + (fc : Int)) = ((at_ + fc : Nat) : Int) from rfl, cut_sl] at g3
      have hsl : sl ns (at_ + 1) (at_ + fc) = ((ns.drop at_).drop 1).take (fc - 1) := by
        unfold sl
        rw [List.drop_drop, show at_ + fc - (at_ + 1) = fc - 1 by omega]
      rw [hsl] at g3
      refine ⟨_, g3, _, s3 _ _ ha2, ?_⟩
      rw [List.length_map]
      have s13 := s1.trans s3
      have tm : tryM (ns.drop at_) (fc, flo, fhi, fle) = if fc ≤ (ns.drop at_).length ∧ fle ≤ joinF (gN ns at_ - flo) (((ns.drop at_).drop 1).take (fc - 1)) ∧ isR (joinF (gN ns at_ - flo) (((ns.drop at_).drop 1).take (fc - 1))) then some (joinF (gN ns at_ - flo) (((ns.drop at_).drop 1).take (fc - 1)), fc) else none := by
        unfold tryM tryF
        rw [hh, if_pos ⟨k1, k2⟩]
      have hlen : (ns.drop at_).length = ns.length - at_ := List.length_drop
      rw [hlen] at tm
      generalize joinF (gN ns at_ - flo) (((ns.drop at_).drop 1).take (fc - 1)) = r at tm ⊢
      refine iteP (fun m1 => iteP (fun m2 => iteP (fun m3 => ?_) (fun m3 => ⟨s13, skip ?_⟩)) (fun m2 => ⟨s13, skip ?_⟩)) (fun m1 => ⟨s13, skip ?_⟩)
      · intro p4 H4 s4 n4 g4
        refine q H4 p4 (s13.trans s4) (s13.free n4) ?_
        rw [runeL_some h0' hfi hn (tm.trans (if_pos ⟨by omega, m2, m3⟩))]
        exact g4
      · rw [tm, if_neg (fun z => m3 z.2.2)]
      · rw [tm, if_neg (fun z => m2 z.2.1)]
      · rw [tm, if_neg (fun z => m1 (by omega))]
    · rintro σ H1 ⟨v3, v4, v5, v6, v7, rfl, s1, hn⟩
      walk_at "vc"
      intro p H2 s2 n2 g2
      refine q H2 p (s1.trans s2) (s1.free n2) ?_
      rw [runeL_none h0' hn]
      exact g2
def sp_runes (K : PySem.W.Frag) : Sp := fun vs H Q _ => ∃ (a : Addr) (ns : List Int), vs = [.ref a] ∧ (H a = some (.lst (List.map V.int ns))) ∧ (ns.length ≤ 1000) ∧ (∀ H' p, Same H H' → H p = none → H' p = some (.lst (List.map V.int (runesF ns ns.length 0))) → Q (.ref p) H')
theorem ok_runes (T : Txt K mg) : FnOk P w K mg base CX0 3 T.f_runes T.fd_runes ["data"] (sp_runes K) := by
  refine T.F_runes.ok sc_runes (fun vs H Q E h => ?_) (fun cdv A outer s H vs Q E hr h => ?_)
  · obtain ⟨a, ns, rfl, _⟩ := h
    rfl
  · obtain ⟨a, ns, rfl, ha, hl, q⟩ := h
    refine ⟨_, (pss_cons (ps_set (i := 1) sc_runes.nd rfl (Or.inl rfl) (pe_lstS pa_nil))
      (pss_cons (ps_set (i := 2) sc_runes.nd rfl (Or.inl rfl) pe_int)
      (pss_cons (ps_while PassesOwn.never (pt_cmpR op_lt (pv 2) (pe_callB call_lenH (by rfl) T.z_len PySem.boot_len (pa_cons (pv 0) pa_nil)) (nomark _)) (pss_cons (ps_asg (pe_call (ok__rune_at T) hr (by rfl) T.g__rune_at T.F__rune_at.kp T.b__rune_at .nil pass0 (pa_cons (pv 0) (pa_cons (pv 2) pa_nil))) (pg_tupS (n := 2) (by rfl) (pgs_cons (pg_name (i := 3) sc_runes.nd rfl (Or.inl rfl)) (pgs_cons (pg_name (i := 4) sc_runes.nd rfl (Or.inl rfl)) pgs_nil))))
      (pss_cons (ps_expr (pe_ml (pe_bm PySem.F.plainAttrs_list PySem.F.slot_list_append PySem.F.type_list_append mt_append (pe_mono (pv 1)) (pa_cons (pv 3) pa_nil))))
      (pss_one (ps_aug (i := 2) sc_runes.nd rfl (Or.inl rfl) (pv 4) ip_add)))))
      (pss_one (ps_ret (pv 1)))))), ?_⟩
    walk_at "vc"
    intro p1 H1 s1 n1 g1
    refine wh_by (fun m σ H' => ∃ (at_ : Nat) (fd : List Int) (v3 v4 : Option V), σ = [some (.ref a), some (.ref p1), some (.int (at_ : Int)), v3, v4] ∧ Same H H' ∧ H' p1 = some (.lst (List.map V.int fd)) ∧ ns.length - at_ ≤ m ∧ fd ++ runesF ns m at_ = runesF ns ns.length 0 ∧ fd.length + m ≤ ns.length) ns.length ⟨0, [], _, _, rfl, s1, g1, by omega, rfl, by simp⟩ ?_
    rintro m σ H2 ⟨at_, fd, v3, v4, rfl, s2, g2, hm, he, hf⟩
    have ha2 := s2 _ _ ha
    walk_at "vc ha2"
    refine iteP (fun hlt => ?_) (fun hge => ?_)
    · have hat : at_ < ns.length := by omega
      obtain ⟨m', rfl⟩ : ∃ m', m = m' + 1 := ⟨m - 1, by omega⟩
      have hp := runeL_pos (ns.drop at_)
      refine ⟨fun σ' H' => σ' = [some (.ref a), some (.ref p1), some (.int ((at_ + (runeL (ns.drop at_)).2 : Nat) : Int)), some (.int (runeL (ns.drop at_)).1), some (.int ((runeL (ns.drop at_)).2 : Nat))] ∧ Same H H' ∧ H' p1 = some (.lst (List.map V.int (fd ++ [(runeL (ns.drop at_)).1]))), ?_, ?_⟩
      · rintro σ' H' ⟨rfl, s', g'⟩
        refine ⟨m', Nat.lt_succ_self _, at_ + (runeL (ns.drop at_)).2, ⟨_, _, rfl⟩, s', fd ++ [(runeL (ns.drop at_)).1], g', by omega, ?_, by rw [List.length_append]; show fd.length + 1 + m' ≤ _; omega⟩
        rw [← he, List.append_assoc]
        congr 1
        rw [runesF, if_pos hat]
        rfl
      · refine ⟨a, ns, at_, rfl, ha2, hat, fun H3 p3 s3 n3 g3 => ?_⟩
        have g23 := s3 _ _ g2
        refine ⟨p3, rfl, _, g3, rfl, _, _, rfl, _, _, rfl, rfl, ⟨_, g23⟩, _, g23, cnt_lt (by rw [List.length_map]; omega), _, rfl, rfl, same_upd2 (s2.trans s3) n1, ?_⟩
        rw [upd_same, List.map_append]
        rfl
    · rw [runesF_end _ _ _ (by omega), List.append_nil] at he
      rw [he] at g2
      exact q _ p1 s2 n1 g2
def sp_rune_bytes (K : PySem.W.Frag) (C_OutOfRange : Addr) : Sp := fun vs H Q E => ∃ (r : Int), vs = [.int r] ∧ (∀ H' p, Same H H' → H p = none → isR r → H' p = some (.lst (List.map V.int (bytesOf r))) → Q (.ref p) H') ∧ (¬ isR r → E (.ref C_OutOfRange) none H)
theorem ok_rune_bytes (T : Txt K mg) : FnOk P w K mg base (L2.CX P w) 2 T.f_rune_bytes T.fd_rune_bytes ["rune"] (sp_rune_bytes K T.C_OutOfRange) := by
  refine T.F_rune_bytes.okX sc_rune_bytes (fun vs H Q E h => ?_) (fun cdv A outer s H vs Q E hr h => ?_)
  · obtain ⟨r, rfl, _⟩ := h
    rfl
  · obtain ⟨r, rfl, q, e⟩ := h
    refine ⟨_, (pss_cons (ps_if (pt_not (pt_val (pe_call (ok__has_sequence T) hr (by rfl) T.g__has_sequence T.F__has_sequence.kp T.b__has_sequence .nil pass0 (pa_cons (pv 0) pa_nil)))) (pss_one (ps_raise rfl (takes_of rfl rfl rfl rfl) (pmk_own PySem.F.excBase_ValueError T.xx_OutOfRange T.gx_OutOfRange T.kx_OutOfRange (raises_own T.bx_OutOfRange T.tx_OutOfRange) (by rfl)))) pss_nil)
      (pss_cons (ps_if (pt_cmpR op_le (pv 0) (pe_glob (v := .int 127) (by rfl) T.c__GREATEST_SINGLE ⟨_, rfl⟩) (nomark _)) (pss_one (ps_ret (pe_lstS (pa_cons (pv 0) pa_nil)))) pss_nil)
      (pss_cons (ps_asg (pe_ix ix_listH (pe_lc (own := [("form", 4)]) (g := (gName 4)) rfl sc_rune_bytes.nd (pi_tup (pe_glob (v := .ref T.a__LONGER) (by rfl) T.c__LONGER rfl)) (blkOk_by (own := [("form", 4)]) (N := ["rune", "count", "low", "_", "form", "behind", "at"]) (sc := defScope s_rune_bytes) (by decide +kernel)) (fun _ _ _ _ _ => (pg_name (i := 4) sc_rune_bytes.nd rfl (Or.inl rfl))) (fun _ _ _ _ _ => (pts_one (pt_cmpR op_ge (pv 0) (pe_ix (ix_tupK (K := K)) (pv 4) pe_int (fun _ _ => rfl)) (nomark _)))) (fun _ _ _ _ _ => (pv 4))) (pe_un un_neg pe_int) (fun _ _ => rfl)) (pg_tup (n := 4) (by rfl) (pgs_cons (pg_name (i := 1) sc_rune_bytes.nd rfl (Or.inl rfl)) (pgs_cons (pg_name (i := 2) sc_rune_bytes.nd rfl (Or.inl rfl)) (pgs_cons (pg_name (i := 3) sc_rune_bytes.nd rfl (Or.inl rfl)) (pgs_cons (pg_name (i := 3) sc_rune_bytes.nd rfl (Or.inl rfl)) pgs_nil))))))
      (pss_cons (ps_setLc (i := 5) (own := [("at", 6)]) (g := (gName 6)) rfl sc_rune_bytes.nd rfl rfl (sw_true rfl rfl rfl (by decide +kernel)) (pi_range3 (by rfl) T.z_range (pa_cons (pe_op op_sub (pv 1) pe_int) (pa_cons (pe_un un_neg pe_int) (pa_cons (pe_un un_neg pe_int) pa_nil)))) (blkOk_by (own := [("at", 6)]) (N := ["rune", "count", "low", "_", "form", "behind", "at"]) (sc := defScope s_rune_bytes) (by decide +kernel)) (fun _ _ _ _ _ => (pg_name (i := 6) sc_rune_bytes.nd rfl (Or.inl rfl))) (fun _ _ _ _ _ => pts_nil) (fun _ _ _ _ _ => (pe_op op_add (pe_glob (v := .int 128) (by rfl) T.c__FIRST_NEXT ⟨_, rfl⟩) (pe_op op_and (pe_op op_shr (pv 0) (pe_op op_mul pe_int (pv 6))) pe_int))))
      (pss_one (ps_ret (pe_op op_catS (pe_lstS (pa_cons (pe_op op_add (pv 2) (pe_op op_shr (pv 0) (pe_op op_sub (pe_op op_mul pe_int (pv 1)) pe_int))) pa_nil)) (pv 5)))))))), ?_⟩
    walk_at "vc sp__has_sequence"
    by_cases hR : isR r
    · rw [decide_eq_true hR, if_neg (by decide)]
      refine iteP (fun h0 p H1 s1 n1 g1 => ?_) (fun h0 => ?_)
      · refine q H1 p s1 n1 hR ?_
        rw [g1]
        unfold bytesOf
        rw [if_pos (by omega)]
        rfl
      have hf : ∀ (i : Nat) (x : V), [V.ref T.b0__LONGER, V.ref T.b1__LONGER, V.ref T.b2__LONGER][i]? = some x → ∃ (b : Addr) (f : Fm), x = .ref b ∧ fms[i]? = some f ∧ ∀ H, SqT K H b [.int (f.1 : Int), .int f.2.1, .int f.2.2.1, .int f.2.2.2] := by
        intro i x hx
        match i, hx with
        | 0, hx => exact ⟨_, _, (Option.some.inj hx).symm, rfl, T.q0__LONGER⟩
        | 1, hx => exact ⟨_, _, (Option.some.inj hx).symm, rfl, T.q1__LONGER⟩
        | 2, hx => exact ⟨_, _, (Option.some.inj hx).symm, rfl, T.q2__LONGER⟩
      obtain ⟨k, k1, k3, hk, hb⟩ := forms_of hR h0
      generalize hrs : [V.ref T.b0__LONGER, V.ref T.b1__LONGER, V.ref T.b2__LONGER] = rs at hf
      have hrl : rs.length = 3 := by rw [← hrs]; rfl
      refine ⟨⟨_, T.q__LONGER H⟩, lcL (walk_tup (K := K) (a := T.a__LONGER) (xs := rs)) (L := fun i => rs.take (min i k)) (by rw [Nat.zero_min]; rfl) (fun H' _ => by rw [← hrs]; exact T.q__LONGER H') (fun D i x H1 H2 hi hD s1 g1 y => ?_) (fun D H1 s1 hD g1 => ?_)⟩
      · obtain ⟨rfl, hx⟩ := y
        obtain ⟨b, f, rfl, hfi, hq⟩ := hf i x hx
        walk_at "vc g1"
        refine ⟨_, hq H2, _, rfl, _, rfl, ?_⟩
        have hki := hk i f hfi
        refine iteP (fun c => ?_) (fun c => ?_)
        · have hik := hki.mp c
          refine ⟨cnt_lt (by rw [List.length_take]; omega), same_upd2 s1 hD, ?_⟩
          rw [Nat.min_eq_left (by omega), Nat.min_eq_left (by omega), take_succ hx]
        · have hik : ¬ i < k := fun z => c (hki.mpr z)
          refine ⟨s1, ?_⟩
          rw [Nat.min_eq_right (by omega), Nat.min_eq_right (by omega)]
      · rw [hrl, Nat.min_eq_right k3] at g1
        have hlast : k - 1 < rs.length := by omega
        obtain ⟨b, f, hbx, hfi, hq⟩ := hf (k - 1) rs[k - 1] (List.getElem?_eq_getElem hlast)
        obtain ⟨hc, hbb⟩ := hb f hfi
        refine ⟨D, rfl, _, g1, .ref b, ?_, b, rfl, _, hq H1, rfl, _, _, rfl, _, _, rfl, _, _, rfl, _, _, rfl, rfl, ?_⟩
        · have hl : (rs.take k).length = k := by rw [List.length_take]; omega
          unfold atI
          rw [hl, show ixN k (-1) = some (k - 1) by unfold ixN; rw [if_neg (by decide)]; simp; omega]
          show (rs.take k)[k - 1]? = _
          rw [List.getElem?_take, if_pos (by omega), List.getElem?_eq_getElem hlast, hbx]
        walk_at "vc"
        rw [hc]
        refine ⟨k, ?_, lc_rangeC (L := fun i => List.map V.int ((lstF r k).take i)) rfl (fun i D2 hi hD2 => ?_) (fun D2 hD2 => ?_)⟩
        · have := RgC.neg (i := ((k + 1 : Nat) : Int) - 2) (j := -1) (by omega) (by omega) (by omega) (by omega)
          rw [show (((k + 1 : Nat) : Int) - 2 - -1).toNat = k by omega] at this
          exact this
        · have hat : ((k + 1 : Nat) : Int) - 2 + (i : Int) * -1 = ((k - 1 - i : Nat) : Int) := by omega
          rw [hat]
          walk_at "vc"
          have hx : (lstF r k)[i]? = some (128 + r / 2 ^ (6 * (k - 1 - i)) % 64) := by
            unfold lstF
            rw [List.getElem?_map, List.getElem?_range hi]
            rfl
          have hll : (lstF r k).length = k := by unfold lstF; rw [List.length_map, List.length_range]
          refine ⟨by omega, cnt_lt (by rw [List.length_take]; omega), ?_⟩
          rw [take_succ hx, show (6 * ((k - 1 - i : Nat) : Int)).toNat = 6 * (k - 1 - i) by omega]
        · have g2 : upd H1 D2 (.lst (List.map V.int ((lstF r k).take k))) D2 = some (.lst (List.map V.int (lstF r k))) := by
            rw [upd_same, List.take_of_length_le (by unfold lstF; rw [List.length_map, List.length_range]; exact Nat.le_refl _)]
          have s2 : Same H1 (upd H1 D2 (.lst (List.map V.int ((lstF r k).take k)))) := same_upd hD2
          generalize upd H1 D2 (.lst (List.map V.int ((lstF r k).take k))) = H2 at g2 s2 ⊢
          refine ⟨by omega, fun p3 H3 s3 n3 g3 => ⟨D2, rfl, _, g3, _, s3 _ _ g2, ?_, fun p4 H4 s4 n4 g4 => ?_⟩⟩
          · rw [List.length_map]
            unfold lstF
            rw [List.length_map, List.length_range]
            exact Nat.le_trans (show 1 + k ≤ 4 by omega) (by decide)
          · have s14 := s1.trans (s2.trans (s3.trans s4))
            refine q H4 p4 s14 (((s1.trans (s2.trans s3))).free n4) hR ?_
            rw [g4, ← hbb, show (6 * ((k + 1 : Nat) : Int) - 6).toNat = 6 * k by omega]
            rfl
    · rw [decide_eq_false hR, if_pos (by decide)]
      exact e hR

def Byt (ns : List Int) : Prop := ∀ b ∈ ns, 0 ≤ b ∧ b < 256

def sp__law_cell (K : PySem.W.Frag) (a : Addr) (ns : List Int) : Sp := fun vs H Q _ => ∃ (k : Int), vs = [.ref a, .int k] ∧ (0 ≤ k) ∧ (SqL K H a (List.map V.int ns)) ∧ (Q (.int (cellA ns k.toNat)) H)
theorem ok__law_cell (T : Txt K mg) (a : Addr) (ns : List Int) : FnOk P w K mg base CX0 1 T.f__law_cell T.fd__law_cell ["script", "k"] (sp__law_cell K a ns) := by
  refine T.F__law_cell.ok sc__law_cell (fun vs H Q E h => ?_) (fun cdv A outer s H vs Q E hr h => ?_)
  · obtain ⟨k, rfl, _⟩ := h
    rfl
  · obtain ⟨k, rfl, hk0, hS, q⟩ := h
    refine ⟨_, (pss_cons (ps_if (pt_cmpR op_lt (pv 1) (pe_callB call_len_seq (by rfl) T.z_len PySem.boot_len (pa_cons (pv 0) pa_nil)) (nomark _)) (pss_one (ps_ret (pe_callTy call_int1 (by rfl) T.z_int (by decide +kernel) (pa_cons (pe_ix ix_list (pv 0) (pv 1) (fun _ _ => rfl)) pa_nil)))) pss_nil)
      (pss_one (ps_ret pe_int))), ?_⟩
    obtain ⟨k, rfl⟩ := natOf hk0
    rw [Int.toNat_natCast] at q
    refine ⟨_, rfl, _, rfl, a, _, rfl, .inl hS, _, _, rfl, rfl, _, rfl, ite2 (fun e => ?_) (fun e => ?_)⟩
    · have e1 := of_decide_eq_true e
      rw [List.length_map] at e1
      have hk : k < ns.length := by omega
      refine ⟨_, rfl, _, rfl, a, _, _, .int (cellA ns k), rfl, rfl, hS, ?_, .inl ⟨_, rfl, q⟩⟩
      refine atI_nat ?_
      rw [List.getElem?_map, List.getElem?_eq_getElem hk]
      simp [cellA, hk]
    · have e1 : ¬ ((k : Int) < ((ns.map V.int).length : Int)) := fun z => e (decide_eq_true z)
      rw [List.length_map] at e1
      have hk : ns.length ≤ k := by omega
      have e0 : cellA ns k = 0 := by simp [cellA, hk]
      rw [e0] at q
      exact q

/-! ### the law's drawing state -/
def DrawSt (ps : Addr) (H : Hp) : Prop := ∃ x y : Int, H ps = some (.lst [.int x, .int y]) ∧ 0 ≤ x ∧ 0 ≤ y
/-- the state has gone on, all else that stood stands -/
structure Adv (ps : Addr) (H H' : Hp) : Prop where
  st : DrawSt ps H'
  same : ∀ b o, b ≠ ps → H b = some o → H' b = some o
theorem DrawSt.ne {ps q : Addr} {H : Hp} (h : DrawSt ps H) (hq : H q = none) : q ≠ ps := fun e => by
  obtain ⟨x, y, h1, _⟩ := h
  rw [e, h1] at hq
  cases hq
theorem DrawSt.mono {ps : Addr} {H H' : Hp} (h : DrawSt ps H) (s : Same H H') : DrawSt ps H' := by
  obtain ⟨x, y, h1, h2⟩ := h
  exact ⟨x, y, s _ _ h1, h2⟩
theorem Adv.refl {ps : Addr} {H : Hp} (h : DrawSt ps H) : Adv ps H H := ⟨h, fun _ _ _ e => e⟩
theorem Adv.of {ps : Addr} {H H' : Hp} (h : DrawSt ps H) (s : Same H H') : Adv ps H H' := ⟨h.mono s, fun b o _ e => s b o e⟩
theorem Adv.trans {ps : Addr} {H H1 H2 : Hp} (a : Adv ps H H1) (b : Adv ps H1 H2) : Adv ps H H2 := ⟨b.st, fun c o n e => b.same c o n (a.same c o n e)⟩
theorem Adv.sm {ps : Addr} {H H1 H2 : Hp} (a : Adv ps H H1) (s : Same H1 H2) : Adv ps H H2 := a.trans (.of a.st s)
theorem Adv.free {ps q : Addr} {H H' : Hp} (a : Adv ps H H') (hq : H' q = none) : H q = none := by
  have n := a.st.ne hq
  cases e : H q with
  | none => rfl
  | some o =>
    rw [a.same q o n e] at hq
    cases hq
theorem Adv.put {ps q : Addr} {H H' : Hp} {o : HO} (a : Adv ps H H') (hn : q ≠ ps) (hq : H q = none) : Adv ps H (upd H' q o) := by
  refine ⟨?_, fun b o' n e => ?_⟩
  · obtain ⟨x, y, h1, h2⟩ := a.st
    exact ⟨x, y, by rw [upd_ne hn.symm]; exact h1, h2⟩
  · rw [upd_ne (ne_of_none e hq)]
    exact a.same b o' n e
def sp__law_draw (K : PySem.W.Frag) : Sp := fun vs H Q _ => ∃ (ps : Addr) (many : Int), vs = [.ref ps, .int many] ∧ (DrawSt ps H) ∧ (0 < many ∧ many < 1073741824) ∧ (∀ H' v, Adv ps H H' → 0 ≤ v → v < many → Q (.int v) H')
theorem ok__law_draw (T : Txt K mg) : FnOk P w K mg base CX0 1 T.f__law_draw T.fd__law_draw ["state", "many"] (sp__law_draw K) := by
  refine T.F__law_draw.ok sc__law_draw (fun vs H Q E h => ?_) (fun cdv A outer s H vs Q E hr h => ?_)
  · obtain ⟨ps, many, rfl, _⟩ := h
    rfl
  · obtain ⟨ps, many, rfl, hd, hm, q⟩ := h
    refine ⟨_, (pss_cons (ps_set (i := 2) sc__law_draw.nd rfl (Or.inl rfl) (pe_ix ix_listH (pv 0) pe_int (fun _ _ => rfl)))
      (pss_cons (ps_if (pt_cmpR op_gt (pv 2) pe_int (nomark _)) (pss_cons (ps_asg (pe_op op_fdiv (pv 2) (pv 1)) (pg_sub (pv 0) pe_int set_list))
      (pss_one (ps_ret (pe_op op_mod (pv 2) (pv 1))))) pss_nil)
      (pss_cons (ps_asg (pe_op op_mod (pe_op op_add (pe_op op_mul (pe_ix ix_listH (pv 0) pe_int (fun _ _ => rfl)) pe_int) pe_int) pe_int) (pg_sub (pv 0) pe_int set_list))
      (pss_one (ps_ret (pe_op op_mod (pe_op op_fdiv (pe_ix ix_listH (pv 0) pe_int (fun _ _ => rfl)) pe_int) (pv 1))))))), ?_⟩
    obtain ⟨x, y, hst, hx, hy⟩ := hd
    have ad : ∀ x' y' : Int, 0 ≤ x' → 0 ≤ y' → Adv ps H (upd H ps (.lst [.int x', .int y'])) := fun x' y' h1 h2 => ⟨⟨x', y', upd_same, h1, h2⟩, fun b o n e => by rw [upd_ne n]; exact e⟩
    have m1 := mod_in y hm.1
    have m2 := mod_in (x * 48271 + 11) (show (0 : Int) < 2147483647 by decide)
    have m3 := mod_in ((x * 48271 + 11) % 2147483647 / 7) hm.1
    walk_at "vc hst"
    refine iteP (fun e => ?_) (fun e => ?_)
    · exact ⟨hm.1, hm.2, 1, ixN_in (n := 2) (k := 1) (by decide) (by decide), hm.1, q _ _ (ad _ _ hx (Int.ediv_nonneg hy (by omega))) m1.1 m1.2⟩
    · exact ⟨0, ixN_in (n := 2) (k := 0) (by decide) (by decide), _, atI_c0 _ _, _, rfl, hm.1, q _ _ (ad _ _ m2.1 hy) m3.1 m3.2⟩
def sp__law_state (K : PySem.W.Frag) : Sp := fun vs H Q _ => ∃ (c salt : Int), vs = [.int c, .int salt] ∧ (0 ≤ salt) ∧ (∀ H' p, Same H H' → H p = none → DrawSt p H' → Q (.ref p) H')
theorem ok__law_state (T : Txt K mg) : FnOk P w K mg base CX0 1 T.f__law_state T.fd__law_state ["cell", "salt"] (sp__law_state K) := by
  refine T.F__law_state.ok sc__law_state (fun vs H Q E h => ?_) (fun cdv A outer s H vs Q E hr h => ?_)
  · obtain ⟨c, salt, rfl, _⟩ := h
    rfl
  · obtain ⟨c, salt, rfl, hs, q⟩ := h
    refine ⟨_, (pss_cons (ps_set (i := 2) sc__law_state.nd rfl (Or.inl rfl) (pe_callB call_abs (by rfl) T.z_abs (by decide +kernel) (pa_cons (pv 0) pa_nil)))
      (pss_cons (ps_if (pt_cmpR op_ge (pv 2) (pe_op op_pow pe_int pe_int) (nomark _)) (pss_one (ps_ret (pe_lstS (pa_cons (pe_op op_add (pe_op op_mod (pv 2) pe_int) (pv 1)) (pa_cons (pe_op op_sub (pv 2) (pe_op op_pow pe_int pe_int)) pa_nil))))) pss_nil)
      (pss_one (ps_ret (pe_lstS (pa_cons (pe_op op_mod (pe_op op_add (pe_op op_add (pe_op op_mul (pv 2) pe_int) (pe_op op_mul (pv 1) pe_int)) pe_int) pe_int) (pa_cons pe_int pa_nil))))))), ?_⟩
    have hc := absI_nn c
    have m2 := mod_in (absI c) (show (0 : Int) < 2147483629 by decide)
    have m3 := mod_in (absI c * 48271 + salt * 69621 + 12345) (show (0 : Int) < 2147483647 by decide)
    walk_at "vc"
    refine ⟨⟨by decide, by decide, by decide⟩, iteP (fun e => ⟨⟨by decide, by decide, by decide⟩, fun p H1 s1 n1 g1 => ?_⟩) (fun e p H1 s1 n1 g1 => ?_)⟩
    · exact q H1 p s1 n1 ⟨_, _, g1, by omega, by omega⟩
    · exact q H1 p s1 n1 ⟨_, _, g1, m3.1, by decide⟩

/-- a list of bytes that is not the state's -/
def DB (ps : Addr) (H : Hp) (p : Addr) (n : Nat) : Prop := p ≠ ps ∧ ∃ xs, H p = some (.lst (List.map V.int xs)) ∧ Byt xs ∧ xs.length ≤ n
theorem DB.adv {ps : Addr} {H H' : Hp} {p : Addr} {n : Nat} (h : DB ps H p n) (a : Adv ps H H') : DB ps H' p n := by
  obtain ⟨h1, xs, g, h2, h3⟩ := h
  exact ⟨h1, xs, a.same _ _ h1 g, h2, h3⟩
theorem byt_app {x y : List Int} (hx : Byt x) (hy : Byt y) : Byt (x ++ y) := fun b hb => (List.mem_append.mp hb).elim (hx b) (hy b)
theorem byt_nil : Byt [] := fun _ h => by cases h
theorem byt_take {x : List Int} (h : Byt x) (n : Nat) : Byt (x.take n) := fun b hb => h b (List.mem_of_mem_take hb)
theorem byt_drop {x : List Int} (h : Byt x) (n : Nat) : Byt (x.drop n) := fun b hb => h b (List.mem_of_mem_drop hb)

def sp__law_is_integer (K : PySem.W.Frag) : Sp := fun vs H Q _ => ∃ (i : Int), vs = [.int i] ∧ (Q (.bl true) H)
theorem ok__law_is_integer (T : Txt K mg) : FnOk P w K mg base CX0 1 T.f__law_is_integer T.fd__law_is_integer ["actual"] (sp__law_is_integer K) := by
  refine T.F__law_is_integer.ok sc__law_is_integer (fun vs H Q E h => ?_) (fun cdv A outer s H vs Q E hr h => ?_)
  · obtain ⟨i, rfl, _⟩ := h
    rfl
  · obtain ⟨i, rfl, q⟩ := h
    refine ⟨_, (pss_one (ps_ret (pe_and (pe_callB call_isiB (by rfl) T.z_isinstance (by decide +kernel) (pa_cons (pv 0) (pa_cons (pe_bltn (v := .ty "int") (u := .type "int") (by rfl) T.z_int (by decide +kernel) rfl) pa_nil))) (pe_one (pe_not (pe_callB call_isiB (by rfl) T.z_isinstance (by decide +kernel) (pa_cons (pv 0) (pa_cons (pe_bltn (v := .ty "bool") (u := .type "bool") (by rfl) T.z_bool (by decide +kernel) rfl) pa_nil)))))))), ?_⟩
    walk_at "vc"
    exact q
def sp__law_is_bytes (K : PySem.W.Frag) : Sp := fun vs H Q _ => ∃ (a : Addr) (ns : List Int), vs = [.ref a] ∧ (H a = some (.lst (List.map V.int ns))) ∧ (Byt ns) ∧ (Q (.bl true) H)
theorem ok__law_is_bytes (T : Txt K mg) : FnOk P w K mg base CX0 2 T.f__law_is_bytes T.fd__law_is_bytes ["actual"] (sp__law_is_bytes K) := by
  refine T.F__law_is_bytes.ok sc__law_is_bytes (fun vs H Q E h => ?_) (fun cdv A outer s H vs Q E hr h => ?_)
  · obtain ⟨a, ns, rfl, _⟩ := h
    rfl
  · obtain ⟨a, ns, rfl, ha, hB, q⟩ := h
    refine ⟨_, (pss_cons (ps_if (pt_not (pt_val (pe_callB call_isiB (by rfl) T.z_isinstance (by decide +kernel) (pa_cons (pv 0) (pa_cons (pe_bltn (v := .ty "list") (u := .type "list") (by rfl) T.z_list (by decide +kernel) rfl) pa_nil))))) (pss_one (ps_ret pe_bl)) pss_nil)
      (pss_cons (ps_for PassesOwn.never rfl (pi_listS (pv 0)) (pg_name (i := 1) sc__law_is_bytes.nd rfl (Or.inl rfl)) (pss_one (ps_if (PW.pt (pw_or (pt_not (pt_val (pe_call (ok__law_is_integer T) hr (by rfl) T.g__law_is_integer T.F__law_is_integer.kp T.b__law_is_integer .nil pass0 (pa_cons (pv 1) pa_nil)))) (pw_or (pt_cmpR op_lt (pv 1) pe_int (nomark _)) (pw_or1 (pt_cmpR op_gt (pv 1) pe_int (nomark _)))))) (pss_one (ps_ret pe_bl)) pss_nil)))
      (pss_one (ps_ret pe_bl)))), ?_⟩
    walk_at "vc ha"
    refine lpW (walkI (ns := ns)) (fun i σ H' => ∃ v1 : Option V, σ = [some (.ref a), v1] ∧ H = H') ⟨_, rfl, rfl⟩ (fun i σ H' _ ⟨_, _, e⟩ => by rw [← e]; exact ha) ?_ ?_
    · rintro i x σ H' H2 hi ⟨v1, rfl, rfl⟩ ⟨rfl, b, hb, rfl⟩
      have := hB b (List.mem_of_getElem? hb)
      walk_at "vc sp__law_is_integer"
      exact iteP (fun z => absurd z (by omega)) fun _ => iteP (fun z => absurd z (by omega)) fun _ => True.intro
    · rintro σ H' ⟨v1, rfl, rfl⟩
      walk_at "vc"
      exact q

def sp__law_is_rune (K : PySem.W.Frag) : Sp := fun vs H Q _ => ∃ (r : Int), vs = [.int r] ∧ (Q (.bl (decide (isR r))) H)
theorem ok__law_is_rune (T : Txt K mg) : FnOk P w K mg base CX0 1 T.f__law_is_rune T.fd__law_is_rune ["rune"] (sp__law_is_rune K) := by
  refine T.F__law_is_rune.ok sc__law_is_rune (fun vs H Q E h => ?_) (fun cdv A outer s H vs Q E hr h => ?_)
  · obtain ⟨r, rfl, _⟩ := h
    rfl
  · obtain ⟨r, rfl, q⟩ := h
    refine ⟨_, (pss_one (ps_ret (pe_and (pe_chain op_le op_le pe_int (pv 0) pe_int) (pe_one (pe_not (pe_chain op_le op_le pe_int (pv 0) pe_int)))))), ?_⟩
    walk_at "vc"
    have no : ¬ isR r → Q (.bl false) H := fun z => by rw [decide_eq_false z] at q; exact q
    refine iteP (fun h0 => iteP (fun h1 => iteP (fun h2 => ?_) (fun h2 => ?_)) (fun h1 => no fun z => h1 z.1.2)) (fun h0 => no fun z => h0 z.1.1)
    · rw [show (!decide (r ≤ 57343)) = decide (isR r) by
        by_cases h3 : r ≤ 57343
        · rw [decide_eq_true h3, decide_eq_false (fun z => z.2 ⟨h2, h3⟩)]; rfl
        · rw [decide_eq_false h3, decide_eq_true (show isR r from ⟨⟨h0, h1⟩, fun z => h3 z.2⟩)]; rfl]
      exact q
    · rw [decide_eq_true (show isR r from ⟨⟨h0, h1⟩, fun z => h2 z.1⟩)] at q
      exact q
def sp__law_bytes_of (K : PySem.W.Frag) : Sp := fun vs H Q _ => ∃ (r : Int), vs = [.int r] ∧ (∀ H' p, Same H H' → H p = none → H' p = some (.lst (List.map V.int (bytesOf r))) → Q (.ref p) H')
theorem ok__law_bytes_of (T : Txt K mg) : FnOk P w K mg base CX0 1 T.f__law_bytes_of T.fd__law_bytes_of ["rune"] (sp__law_bytes_of K) := by
  refine T.F__law_bytes_of.ok sc__law_bytes_of (fun vs H Q E h => ?_) (fun cdv A outer s H vs Q E hr h => ?_)
  · obtain ⟨r, rfl, _⟩ := h
    rfl
  · obtain ⟨r, rfl, q⟩ := h
    refine ⟨_, (pss_cons (ps_if (pt_cmpR op_lt (pv 0) pe_int (nomark _)) (pss_one (ps_ret (pe_lstS (pa_cons (pv 0) pa_nil)))) pss_nil)
      (pss_cons (ps_if (pt_cmpR op_lt (pv 0) pe_int (nomark _)) (pss_one (ps_ret (pe_lstS (pa_cons (pe_op op_add pe_int (pe_op op_fdiv (pv 0) pe_int)) (pa_cons (pe_op op_add pe_int (pe_op op_mod (pv 0) pe_int)) pa_nil))))) pss_nil)
      (pss_cons (ps_if (pt_cmpR op_lt (pv 0) pe_int (nomark _)) (pss_one (ps_ret (pe_lstS (pa_cons (pe_op op_add pe_int (pe_op op_fdiv (pv 0) pe_int)) (pa_cons (pe_op op_add pe_int (pe_op op_mod (pe_op op_fdiv (pv 0) pe_int) pe_int)) (pa_cons (pe_op op_add pe_int (pe_op op_mod (pv 0) pe_int)) pa_nil)))))) pss_nil)
      (pss_one (ps_ret (pe_lstS (pa_cons (pe_op op_add pe_int (pe_op op_fdiv (pv 0) pe_int)) (pa_cons (pe_op op_add pe_int (pe_op op_mod (pe_op op_fdiv (pv 0) pe_int) pe_int)) (pa_cons (pe_op op_add pe_int (pe_op op_mod (pe_op op_fdiv (pv 0) pe_int) pe_int)) (pa_cons (pe_op op_add pe_int (pe_op op_mod (pv 0) pe_int)) pa_nil)))))))))), ?_⟩
    unfold bytesOf at q
    walk_at "vc"
    refine iteP (fun h p H1 s1 n1 g1 => q H1 p s1 n1 (by rw [if_pos h]; exact g1)) fun h => iteP (fun h2 p H1 s1 n1 g1 => q H1 p s1 n1 (by rw [if_neg h, if_pos h2]; exact g1)) fun h2 => iteP (fun h3 p H1 s1 n1 g1 => q H1 p s1 n1 (by rw [if_neg h, if_neg h2, if_pos h3]; exact g1)) fun h3 p H1 s1 n1 g1 => q H1 p s1 n1 (by rw [if_neg h, if_neg h2, if_neg h3]; exact g1)
def sp__law_near (K : PySem.W.Frag) : Sp := fun vs H Q _ => ∃ (ps : Addr), vs = [.ref ps] ∧ (DrawSt ps H) ∧ (∀ H' v, Adv ps H H' → 0 ≤ v → v ≤ 2097152 → Q (.int v) H')
theorem ok__law_near (T : Txt K mg) : FnOk P w K mg base CX0 2 T.f__law_near T.fd__law_near ["state"] (sp__law_near K) := by
  refine T.F__law_near.ok sc__law_near (fun vs H Q E h => ?_) (fun cdv A outer s H vs Q E hr h => ?_)
  · obtain ⟨ps, rfl, _⟩ := h
    rfl
  · obtain ⟨ps, rfl, hd, q⟩ := h
    refine ⟨_, (pss_cons (ps_set (i := 1) sc__law_near.nd rfl (Or.inl rfl) (pe_lstS (pa_cons pe_int (pa_cons pe_int (pa_cons pe_int (pa_cons pe_int (pa_cons pe_int (pa_cons pe_int (pa_cons pe_int (pa_cons pe_int (pa_cons pe_int (pa_cons pe_int (pa_cons pe_int (pa_cons pe_int (pa_cons pe_int (pa_cons pe_int (pa_cons pe_int pa_nil)))))))))))))))))
      (pss_cons (ps_if (pt_cmpR op_eq (pe_call (ok__law_draw T) hr (by rfl) T.g__law_draw T.F__law_draw.kp T.b__law_draw .nil pass0 (pa_cons (pv 0) (pa_cons pe_int pa_nil))) pe_int (nomark _)) (pss_one (ps_ret (pe_call (ok__law_draw T) hr (by rfl) T.g__law_draw T.F__law_draw.kp T.b__law_draw .nil pass0 (pa_cons (pv 0) (pa_cons pe_int pa_nil))))) pss_nil)
      (pss_one (ps_ret (pe_callB (call_max2 rfl) (by rfl) T.z_max (by decide +kernel) (pa_cons pe_int (pa_cons (pe_op op_sub (pe_op op_add (pe_ix ix_listH (pv 1) (pe_call (ok__law_draw T) hr (by rfl) T.g__law_draw T.F__law_draw.kp T.b__law_draw .nil pass0 (pa_cons (pv 0) (pa_cons pe_int pa_nil))) (fun _ _ => rfl)) (pe_call (ok__law_draw T) hr (by rfl) T.g__law_draw T.F__law_draw.kp T.b__law_draw .nil pass0 (pa_cons (pv 0) (pa_cons pe_int pa_nil)))) pe_int) pa_nil))))))), ?_⟩
    walk_at "vc sp__law_draw"
    refine ⟨by decide, fun p H1 s1 n1 g1 => ⟨hd.mono s1, fun H2 v a2 l2 u2 => iteP (fun _ => ⟨a2.st, fun H3 v3 a3 l3 u3 => q H3 v3 ((Adv.of hd s1).trans (a2.trans a3)) l3 (by omega)⟩) (fun _ => ⟨a2.st, fun H3 v3 a3 l3 u3 => ?_⟩)⟩⟩
    obtain ⟨x, hx, hm⟩ := atI_lits (xs := [0, 127, 128, 2047, 2048, 55295, 55296, 57343, 57344, 65533, 65535, 65536, 1114111, 1114112, 2097151]) (k := v3) l3 u3
    have hb : 0 ≤ x ∧ x ≤ 2097151 := by
      simp only [List.mem_cons, List.not_mem_nil, or_false] at hm
      omega
    refine ⟨_, (a2.trans a3).same _ _ (hd.ne n1) g1, _, hx, a3.st, fun H4 v4 a4 l4 u4 => ⟨x, rfl, q H4 _ ((Adv.of hd s1).trans (a2.trans (a3.trans a4))) ?_ ?_⟩⟩
    · unfold mx; split <;> omega
    · unfold mx; split <;> omega
def sp__law_value (K : PySem.W.Frag) : Sp := fun vs H Q _ => ∃ (a : Addr) (ns : List Int), vs = [.ref a] ∧ (H a = some (.lst (List.map V.int ns))) ∧ (1 ≤ ns.length ∧ ns.length ≤ 4) ∧ (∀ H', Same H H' → Q (.int (lawV ns)) H')
theorem ok__law_value (T : Txt K mg) : FnOk P w K mg base CX0 1 T.f__law_value T.fd__law_value ["part"] (sp__law_value K) := by
  refine T.F__law_value.ok sc__law_value (fun vs H Q E h => ?_) (fun cdv A outer s H vs Q E hr h => ?_)
  · obtain ⟨a, ns, rfl, _⟩ := h
    rfl
  · obtain ⟨a, ns, rfl, ha, hn, q⟩ := h
    refine ⟨_, (pss_cons (ps_if (pt_cmpR op_eq (pe_callB call_lenH (by rfl) T.z_len PySem.boot_len (pa_cons (pv 0) pa_nil)) pe_int (nomark _)) (pss_one (ps_ret (pe_ix ix_listH (pv 0) pe_int (fun _ _ => rfl)))) pss_nil)
      (pss_cons (ps_set (i := 1) sc__law_value.nd rfl (Or.inl rfl) (pe_op op_mod (pe_ix ix_listH (pv 0) pe_int (fun _ _ => rfl)) (pe_ix ix_listH (pe_lstS (pa_cons pe_int (pa_cons pe_int (pa_cons pe_int (pa_cons pe_int (pa_cons pe_int pa_nil)))))) (pe_callB call_lenH (by rfl) T.z_len PySem.boot_len (pa_cons (pv 0) pa_nil)) (fun _ _ => rfl))))
      (pss_cons (ps_for PassesOwn.never rfl (pi_listS (pe_slice sl_listS (pv 0) (po_some pe_int) po_none)) (pg_name (i := 2) sc__law_value.nd rfl (Or.inl rfl)) (pss_one (ps_set (i := 1) sc__law_value.nd rfl (Or.inl rfl) (pe_op op_add (pe_op op_mul pe_int (pv 1)) (pe_op op_mod (pv 2) pe_int)))))
      (pss_one (ps_ret (pv 1)))))), ?_⟩
    walk_at "vc ha"
    match ns, hn, ha, q with
    | [b], _, ha, q => exact iteP (fun _ => ⟨_, atI_c0 _ _, q H (Same.refl _)⟩) fun z => absurd rfl z
    | b :: c :: r, hn, ha, q =>
      refine iteP (fun z => absurd z (by simp only [List.length_cons]; omega)) fun _ => ⟨_, atI_c0 _ _, fun p H1 s1 n1 g1 => ?_⟩
      have hl : (b :: c :: r).length = 2 ∨ (b :: c :: r).length = 3 ∨ (b :: c :: r).length = 4 := by
        have := hn.2
        simp only [List.length_cons] at this ⊢
        omega
      obtain ⟨m, hm0, hm1, hm2⟩ : ∃ m : Int, atI [V.int 1, V.int 1, V.int 32, V.int 16, V.int 8] (((b :: c :: r).length : Nat) : Int) = some (.int m) ∧ 0 < m ∧ lvM (b :: c :: r).length = m := by
        rcases hl with e | e | e <;> rw [e]
        · exact ⟨32, rfl, by decide, rfl⟩
        · exact ⟨16, rfl, by decide, rfl⟩
        · exact ⟨8, rfl, by decide, rfl⟩
      have ha1 := s1 _ _ ha
      refine ⟨_, ha1, _, g1, _, by rw [List.length_map]; exact hm0, b, rfl, m, rfl, hm1, _, ha1, fun p2 H2 s2 n2 g2 => ?_⟩
      replace g2 : H2 p2 = some (.lst (List.map V.int (c :: r))) := g2
      refine ⟨⟨_, g2⟩, lpW (walkI (ns := c :: r)) (fun i σ H' => ∃ v : Option V, σ = [some (.ref a), some (.int (((c :: r).take i).foldl (fun v x => 64 * v + x % 64) (b % m))), v] ∧ H' = H2) ⟨none, rfl, rfl⟩ ?_ ?_ ?_⟩
      · rintro i σ H' _ ⟨_, _, rfl⟩
        exact g2
      · rintro i x σ H3 H4 hi ⟨v, rfl, rfl⟩ ⟨rfl, y, hy, rfl⟩
        rw [foldl_take _ _ hy]
        walk_at "vc"
        done
      · rintro σ H3 ⟨v, rfl, rfl⟩
        rw [List.take_length]
        walk_at "vc"
        have := q _ (s1.trans s2)
        unfold lawV at this
        rw [← hm2]
        exact this
def sp__law_told (K : PySem.W.Frag) : Sp := fun vs H Q _ => ∃ (r : Int), vs = [.int r] ∧ (∀ H' p, Same H H' → H p = none → isR r → H' p = some (.lst (List.map V.int (bytesOf r))) → Q (.ref p) H') ∧ (¬ isR r → ∀ H' p, Same H H' → H p = none → H' p = some (.tup [.str (Str.ofString "refused"), .str (Str.ofString "range")]) → Q (.ref p) H')
theorem ok__law_told (T : Txt K mg) : FnOk P w K mg base CX0 3 T.f__law_told T.fd__law_told ["rune"] (sp__law_told K) := by
  refine T.F__law_told.ok sc__law_told (fun vs H Q E h => ?_) (fun cdv A outer s H vs Q E hr h => ?_)
  · obtain ⟨r, rfl, _⟩ := h
    rfl
  · obtain ⟨r, rfl, q, e⟩ := h
    refine ⟨_, (pss_cons (ps_try_as (i := 1) rfl rfl sc__law_told.nd rfl rfl ⟨rfl, by decide, .inl T.gx_StillroomError⟩ takes0 (fun W pn xe tk _ => (pss_one (ps_ret (pe_callS (ok_rune_bytes T) hr (by rfl) T.g_rune_bytes T.F_rune_bytes.kp T.b_rune_bytes (fun σ => passAt tk σ) (pa_cons (pv 0) pa_nil))))) (fun a oe cls d pn hz hf => (pss_one (ps_if (PW.pt (pw_and (pt_val (pe_callB (call_isE1 hz hf) (by rfl) T.z_isinstance (by decide +kernel) (pa_cons (pv 1) (pa_cons (pe_glob (v := .ref T.C_OutOfRange) (by rfl) T.gx_OutOfRange rfl) pa_nil)))) (pw_and1 (pt_not (pt_val (pe_callB (call_isE1 hz hf) (by rfl) T.z_isinstance (by decide +kernel) (pa_cons (pv 1) (pa_cons (pe_glob (v := .ref T.C_Malformed) (by rfl) T.gx_Malformed rfl) pa_nil)))))))) (pss_one (ps_ret (pe_tupS (pa_cons pe_str (pa_cons pe_str pa_nil))))) pss_nil))))
      (pss_one (ps_ret (pe_tupS (pa_cons pe_str (pa_cons pe_str pa_nil)))))), ?_⟩
    walk_at "vc sp_rune_bytes"
    refine ⟨q, fun z => ⟨true, T.em_OutOfRange_StillroomError, fun _ a ha => ?_, fun z => nomatch z⟩⟩
    walk_at "vc"
    refine ⟨_, rfl, T.ec_OutOfRange, _, T.ki_OutOfRange_OutOfRange, if_true_of rfl ⟨_, rfl, T.ec_OutOfRange, _, T.ki_OutOfRange_Malformed, if_true_of rfl fun p H1 s1 n1 g1 => e z H1 p s1 n1 g1⟩⟩
def sp__law_due (K : PySem.W.Frag) : Sp := fun vs H Q _ => ∃ (a : Addr) (ns : List Int), vs = [.ref a] ∧ (H a = some (.lst (List.map V.int ns))) ∧ (ns.length ≤ 1000) ∧ (∀ b ∈ ns, 0 ≤ b ∧ b < 256) ∧ (∀ H' p, Same H H' → H p = none → H' p = some (.lst (List.map V.int (runesF ns ns.length 0))) → Q (.ref p) H')
theorem ok__law_due (T : Txt K mg) : FnOk P w K mg base CX0 2 T.f__law_due T.fd__law_due ["data"] (sp__law_due K) := by
  refine T.F__law_due.ok sc__law_due (fun vs H Q E h => ?_) (fun cdv A outer s H vs Q E hr h => ?_)
  · obtain ⟨a, ns, rfl, _⟩ := h
    rfl
  · obtain ⟨a, ns, rfl, ha, hl, hB, q⟩ := h
    refine ⟨_, (pss_cons (ps_set (i := 1) sc__law_due.nd rfl (Or.inl rfl) (pe_lstS pa_nil))
      (pss_cons (ps_set (i := 2) sc__law_due.nd rfl (Or.inl rfl) pe_int)
      (pss_cons (ps_for PassesOwn.never rfl (pi_range1 (by rfl) T.z_range (pa_cons (pe_callB call_lenH (by rfl) T.z_len PySem.boot_len (pa_cons (pv 0) pa_nil)) pa_nil)) (pg_name (i := 3) sc__law_due.nd rfl (Or.inl rfl)) (pss_cons (ps_if (pt_cmpR op_ge (pv 2) (pe_callB call_lenH (by rfl) T.z_len PySem.boot_len (pa_cons (pv 0) pa_nil)) (nomark _)) (pss_one ps_break) pss_nil)
      (pss_cons (ps_set (i := 4) sc__law_due.nd rfl (Or.inl rfl) pe_non)
      (pss_cons (ps_for PassesOwn.never rfl (pi_range2 (by rfl) T.z_range (pa_cons pe_int (pa_cons pe_int pa_nil))) (pg_name (i := 5) sc__law_due.nd rfl (Or.inl rfl)) (pss_cons (ps_set (i := 6) sc__law_due.nd rfl (Or.inl rfl) (pe_slice sl_listS (pv 0) (po_some (pv 2)) (po_some (pe_op op_add (pv 2) (pv 5)))))
      (pss_cons (ps_set (i := 7) sc__law_due.nd rfl (Or.inl rfl) (pe_call (ok__law_value T) hr (by rfl) T.g__law_value T.F__law_value.kp T.b__law_value .nil pass0 (pa_cons (pv 6) pa_nil)))
      (pss_one (ps_if (PW.pt (pw_and (pt_cmpR op_eq (pe_callB call_lenH (by rfl) T.z_len PySem.boot_len (pa_cons (pv 6) pa_nil)) (pv 5) (nomark _)) (pw_and (pt_val (pe_call (ok__law_is_rune T) hr (by rfl) T.g__law_is_rune T.F__law_is_rune.kp T.b__law_is_rune .nil pass0 (pa_cons (pv 7) pa_nil))) (pw_and1 (pt_cmpR (op_eqIL hr.units) (pe_call (ok__law_bytes_of T) hr (by rfl) T.g__law_bytes_of T.F__law_bytes_of.kp T.b__law_bytes_of .nil pass0 (pa_cons (pv 7) pa_nil)) (pv 6) (nomark _)))))) (pss_one (ps_set (i := 4) sc__law_due.nd rfl (Or.inl rfl) (pe_tupS (pa_cons (pv 7) (pa_cons (pv 5) pa_nil))))) pss_nil)))))
      (pss_cons (ps_if (pt_cmpR op_isN (pv 4) pe_non (nomark _)) (pss_one (ps_set (i := 4) sc__law_due.nd rfl (Or.inl rfl) (pe_tupS (pa_cons pe_int (pa_cons pe_int pa_nil))))) pss_nil)
      (pss_cons (ps_expr (pe_ml (pe_bm PySem.F.plainAttrs_list PySem.F.slot_list_append PySem.F.type_list_append mt_append (pe_mono (pv 1)) (pa_cons (pe_ix ix_tupH (pv 4) pe_int (fun _ _ => rfl)) pa_nil))))
      (pss_one (ps_set (i := 2) sc__law_due.nd rfl (Or.inl rfl) (pe_op op_add (pv 2) (pe_ix ix_tupH (pv 4) pe_int (fun _ _ => rfl)))))))))))
      (pss_one (ps_ret (pv 1)))))), ?_⟩
    walk_at "vc ha"
    intro p1 H1 s1 n1 g1
    refine ⟨_, s1 _ _ ha, ?_⟩
    rw [List.length_map]
    refine ⟨by omega, by omega, lpW walkR (fun i σ H' => ∃ (at_ : Nat) (fd : List Int) (v3 v4 v5 v6 v7 : Option V), σ = [some (.ref a), some (.ref p1), some (.int (at_ : Int)), v3, v4, v5, v6, v7] ∧ Same H H' ∧ H' p1 = some (.lst (List.map V.int fd)) ∧ fd ++ runesF ns (ns.length - i) at_ = runesF ns ns.length 0 ∧ fd.length ≤ i) ⟨0, [], _, _, _, _, _, rfl, s1, g1, rfl, Nat.le_refl _⟩ (fun _ _ _ _ _ => True.intro) ?_ ?_⟩
    · rintro i x σ H2 H3 hi ⟨at_, fd, v3, v4, v5, v6, v7, rfl, s2, g2, he, hf⟩ ⟨rfl, rfl⟩
      have ha2 := s2 _ _ ha
      refine seq_cut (fun σ H4 => at_ < ns.length ∧ σ = [some (.ref a), some (.ref p1), some (.int (at_ : Int)), some (.int (i : Int)), v4, v5, v6, v7] ∧ H4 = H3) ?_ (fun C hC => ?_)
      rotate_left
      · walk_at "vc ha2"
        refine iteP (fun z => ?_) (fun z => hC _ _ ⟨by omega, rfl, rfl⟩)
        rw [runesF_end _ _ _ (by omega), List.append_nil] at he
        rw [he] at g2
        exact q _ p1 s2 n1 g2
      rintro σ H4 ⟨hat, rfl, rfl⟩
      have hll : (ns.drop at_).length = ns.length - at_ := List.length_drop
      have hBd : ∀ b ∈ ns.drop at_, 0 ≤ b ∧ b < 256 := Byt.dropB hB at_
      have hne : ns.drop at_ ≠ [] := fun z => by rw [z] at hll; simp at hll; omega
      refine seq_cut3 (fun σ H5 => ∃ (pr : Addr) (v5 v6 v7 : Option V), σ = [some (.ref a), some (.ref p1), some (.int (at_ : Int)), some (.int (i : Int)), some (.ref pr), v5, v6, v7] ∧ Same H4 H5 ∧ H5 pr = some (.tup [.int (runeL (ns.drop at_)).1, .int ((runeL (ns.drop at_)).2 : Nat)])) ?_ (fun C hC => ?_)
      rotate_left
      · walk_at "vc"
        refine lpW (walk_range (lo := 1) (n := 4)) (fun j σ H' => ∃ (v4 : V) (v5 v6 v7 : Option V), σ = [some (.ref a), some (.ref p1), some (.int (at_ : Int)), some (.int (i : Int)), some v4, v5, v6, v7] ∧ Same H4 H' ∧ AccV H' v4 (accF (ns.drop at_) j)) ⟨_, _, _, _, rfl, Same.refl _, rfl⟩ (fun _ _ _ _ _ => True.intro) ?_ ?_
        · rintro j x σ H5 H6 hj ⟨v4, v5, v6, v7, rfl, s5, hv⟩ ⟨rfl, rfl⟩
          have ha5 := s5 _ _ ha2
          walk_at "vc ha5"
          intro p6 H7 s7 n7 g7
          rw [show ((at_ : Int) + (1 + (j : Int))) = ((at_ + (j + 1) : Nat) : Int) by omega, cut_sl] at g7
          have hsl : sl ns at_ (at_ + (j + 1)) = (ns.drop at_).take (j + 1) := by
            unfold sl
            rw [show at_ + (j + 1) - at_ = j + 1 by omega]
          rw [hsl] at g7
          have htl : ((ns.drop at_).take (j + 1)).length = min (j + 1) (ns.length - at_) := by rw [List.length_take, hll]
          walk_at "vc sp__law_value"
          refine ⟨_, g7, by omega, by omega, fun H8 s8 => ?_⟩
          have g8 := s8 _ _ g7
          have s58 := s5.trans (s7.trans s8)
          have hv8 := hv.mono (s7.trans s8)
          walk_at "vc g8 sp__law_is_rune sp__law_bytes_of"
          generalize hw : (ns.drop at_).take (j + 1) = w at g8 ⊢
          have st : accF (ns.drop at_) (j + 1) = if w.length = j + 1 ∧ isR (lawV w) ∧ bytesOf (lawV w) = w then some (lawV w, j + 1) else accF (ns.drop at_) j := by
            show stepL _ _ _ = _
            unfold stepL
            rw [hw]
          have stay : ∀ H', Same H8 H' → ¬ (w.length = j + 1 ∧ isR (lawV w) ∧ bytesOf (lawV w) = w) → Same H4 H' ∧ AccV H' v4 (accF (ns.drop at_) (j + 1)) := fun H' s' z => ⟨s58.trans s', by rw [st, if_neg z]; exact hv8.mono s'⟩
          refine iteP (fun m1 => iteP (fun m2 H9 p9 s9 n9 g9 => ⟨_, g9, _, s9 _ _ g8, iteP (fun m3 p10 H10 s10 n10 g10 => ?_) (fun m3 => stay _ s9 fun z => m3 z.2.2)⟩) (fun m2 => stay _ (Same.refl _) fun z => m2 z.2.1)) (fun m1 => stay _ (Same.refl _) fun z => m1 (by omega))
          refine ⟨s58.trans (s9.trans s10), ?_⟩
          rw [st, if_pos ⟨by omega, m2, m3⟩]
          exact ⟨p10, rfl, by rw [g10, show (1 : Int) + (j : Int) = ((j + 1 : Nat) : Int) by omega]⟩
        · rintro σ H5 ⟨v4, v5, v6, v7, rfl, s5, hv⟩
          have hL := law_rune hne hBd
          rw [lawL_acc] at hL
          walk_at "vc"
          generalize accF (ns.drop at_) 4 = o at hv hL
          cases o with
          | none =>
            refine iteP (fun _ p6 H6 s6 n6 g6 => hC _ _ ⟨p6, _, _, _, rfl, s5.trans s6, by rw [hL]; exact g6⟩) (fun z => absurd hv z)
          | some x =>
            obtain ⟨p, rfl, gp⟩ := hv
            exact iteP (fun z => nomatch z) fun _ => hC _ _ ⟨p, _, _, _, rfl, s5, by rw [hL]; exact gp⟩
      rintro σ H5 ⟨pr, v5, v6, v7, rfl, s5, gr⟩
      have g5 := s5 _ _ g2
      walk_at "vc gr g5"
      have npr : pr ≠ p1 := ne_of gr g5 (by intro z; cases z)
      refine ⟨cnt_lt (by omega), _, by rw [upd_ne npr]; exact gr, _, rfl, _, rfl, at_ + (runeL (ns.drop at_)).2, rfl, same_upd2 (s2.trans s5) n1, ?_, by omega⟩
      rw [← he, List.append_assoc]
      congr 1
      rw [show ns.length - i = ns.length - (i + 1) + 1 by omega, runesF, if_pos hat]
      rfl
    · rintro σ H2 ⟨at_, fd, v3, v4, v5, v6, v7, rfl, s2, g2, he, hf⟩
      rw [Nat.sub_self, runesF, List.append_nil] at he
      rw [he] at g2
      walk_at "vc"
      exact q _ p1 s2 n1 g2

theorem same_adv {ps : Addr} {H H1 H2 : Hp} (s : Same H H1) (n : H ps = none) (a : Adv ps H1 H2) : Same H H2 := fun b o e => a.same b o (ne_of_none e n) (s b o e)
theorem byt_near {r : Int} (h0 : 0 ≤ r) (h1 : r < 2097152) : Byt (bytesOf r) := bytes_byt ⟨h0, h1⟩
/-- the state of the law's turn: the drawing state, the data -/
structure D28 (H1 H' : Hp) (ps pd : Addr) (xs : List Int) (n : Nat) : Prop where
  same : Same H1 H'
  new : H1 ps = none
  st : DrawSt ps H'
  dat : H' pd = some (.lst (List.map V.int xs))
  ne : pd ≠ ps
  byt : Byt xs
  len : xs.length ≤ n
theorem D28.adv {H1 H' H'' : Hp} {ps pd : Addr} {xs : List Int} {n : Nat} (d : D28 H1 H' ps pd xs n) (a : Adv ps H' H'') : D28 H1 H'' ps pd xs n := ⟨same_adv d.same d.new a, d.new, a.st, a.same _ _ d.ne d.dat, d.ne, d.byt, d.len⟩
theorem D28.sm {H1 H' H'' : Hp} {ps pd : Addr} {xs : List Int} {n : Nat} (d : D28 H1 H' ps pd xs n) (s : Same H' H'') : D28 H1 H'' ps pd xs n := d.adv (.of d.st s)
theorem D28.put {H1 H' H'' : Hp} {ps pd p2 : Addr} {xs ys : List Int} {n m : Nat} (d : D28 H1 H' ps pd xs n) (s : Same H' H'') (f : H' p2 = none) (g : H'' p2 = some (.lst (List.map V.int ys))) (hb : Byt ys) (hl : ys.length ≤ m) : D28 H1 H'' ps p2 ys m := ⟨d.same.trans s, d.new, d.st.mono s, g, d.st.ne f, hb, hl⟩
theorem D28.mono {H1 H' : Hp} {ps pd : Addr} {xs : List Int} {n m : Nat} (d : D28 H1 H' ps pd xs n) (h : n ≤ m) : D28 H1 H' ps pd xs m := ⟨d.same, d.new, d.st, d.dat, d.ne, d.byt, Nat.le_trans d.len h⟩
def okRef : OkS := ⟨Str.ofString "refused", by decide +kernel⟩
def okRan : OkS := ⟨Str.ofString "range", by decide +kernel⟩
set_option maxHeartbeats 4000000
def spLaw (K : PySem.W.Frag) : Sp := fun vs H Q _ => ∃ (a : Addr) (ns : List Int), vs = [.ref a] ∧ SqL K H a (ns.map V.int) ∧ ns.length ≤ 63 ∧ ∀ H', Q (.bl true) H'
theorem ok_law_of {f : Addr} {fd : FuncData} (F : Fun K "law" "law" s_law f fd) (T : Txt K mg) : FnOk P w K mg base CX0 4 f fd ["script"] (spLaw K) := by
  refine F.ok sc_law (fun vs H Q E h => ?_) (fun cdv A outer s H vs Q E hr h => ?_)
  · obtain ⟨a, ns, rfl, _⟩ := h
    rfl
  · obtain ⟨a, ns, rfl, hS, hlen, q⟩ := h
    refine ⟨_, (pss_cons (ps_for PassesOwn.never rfl (pi_range1 (by rfl) T.z_range (pa_cons pe_int pa_nil)) (pg_name (i := 1) sc_law.nd rfl (Or.inl rfl)) (pss_cons (ps_set (i := 2) sc_law.nd rfl (Or.inr rfl) (pe_call (ok__law_state T) (hr.mono (by decide)) (by rfl) T.g__law_state T.F__law_state.kp T.b__law_state .nil pass0 (pa_cons (pe_call (ok__law_cell T a ns) (hr.mono (by decide)) (by rfl) T.g__law_cell T.F__law_cell.kp T.b__law_cell .nil pass0 (pa_cons (pv 0) (pa_cons (pv 1) pa_nil))) (pa_cons (pv 1) pa_nil))))
      (pss_cons (ps_set (i := 3) sc_law.nd rfl (Or.inl rfl) (pe_lstS pa_nil))
      (pss_cons (ps_for PassesOwn.never rfl (pi_range1 (by rfl) T.z_range (pa_cons (pe_call (ok__law_draw T) (hr.mono (by decide)) (by rfl) T.g__law_draw T.F__law_draw.kp T.b__law_draw .nil pass0 (pa_cons (pv 2) (pa_cons pe_int pa_nil))) pa_nil)) (pg_name (i := 4) sc_law.nd rfl (Or.inl rfl)) (pss_cons (ps_set (i := 5) sc_law.nd rfl (Or.inl rfl) (pe_call (ok__law_near T) (hr.mono (by decide)) (by rfl) T.g__law_near T.F__law_near.kp T.b__law_near .nil pass0 (pa_cons (pv 2) pa_nil)))
      (pss_cons (ps_if (pt_cmpR op_lt (pv 5) pe_int (nomark _)) (pss_one (ps_set (i := 3) sc_law.nd rfl (Or.inl rfl) (pe_op op_catS (pv 3) (pe_call (ok__law_bytes_of T) (hr.mono (by decide)) (by rfl) T.g__law_bytes_of T.F__law_bytes_of.kp T.b__law_bytes_of .nil pass0 (pa_cons (pv 5) pa_nil))))) pss_nil)
      (pss_one (ps_if (pt_cmpR op_eq (pe_call (ok__law_draw T) (hr.mono (by decide)) (by rfl) T.g__law_draw T.F__law_draw.kp T.b__law_draw .nil pass0 (pa_cons (pv 2) (pa_cons pe_int pa_nil))) pe_int (nomark _)) (pss_one (ps_set (i := 3) sc_law.nd rfl (Or.inl rfl) (pe_op op_catS (pv 3) (pe_lstS (pa_cons (pe_ix ix_listH (pe_lstS (pa_cons pe_int (pa_cons pe_int (pa_cons pe_int (pa_cons pe_int (pa_cons pe_int (pa_cons pe_int (pa_cons pe_int (pa_cons pe_int (pa_cons pe_int (pa_cons pe_int (pa_cons pe_int (pa_cons pe_int pa_nil))))))))))))) (pe_call (ok__law_draw T) (hr.mono (by decide)) (by rfl) T.g__law_draw T.F__law_draw.kp T.b__law_draw .nil pass0 (pa_cons (pv 2) (pa_cons pe_int pa_nil))) (fun _ _ => rfl)) pa_nil))))) pss_nil)))))
      (pss_cons (ps_set (i := 6) sc_law.nd rfl (Or.inl rfl) (pe_call (ok__law_draw T) (hr.mono (by decide)) (by rfl) T.g__law_draw T.F__law_draw.kp T.b__law_draw .nil pass0 (pa_cons (pv 2) (pa_cons pe_int pa_nil))))
      (pss_cons (ps_set (i := 7) sc_law.nd rfl (Or.inl rfl) (pe_call (ok__law_draw T) (hr.mono (by decide)) (by rfl) T.g__law_draw T.F__law_draw.kp T.b__law_draw .nil pass0 (pa_cons (pv 2) (pa_cons (pe_op op_add (pe_callB call_lenH (by rfl) T.z_len PySem.boot_len (pa_cons (pv 3) pa_nil)) pe_int) pa_nil))))
      (pss_cons (ps_if (pt_cmpR op_eq (pv 6) pe_int (nomark _)) (pss_one (ps_set (i := 3) sc_law.nd rfl (Or.inl rfl) (pe_op op_catS (pe_slice sl_listS (pv 3) po_none (po_some (pv 7))) (pe_slice sl_listS (pv 3) (po_some (pe_op op_add (pv 7) pe_int)) po_none)))) pss_nil)
      (pss_cons (ps_if (pt_cmpR op_eq (pv 6) pe_int (nomark _)) (pss_one (ps_set (i := 3) sc_law.nd rfl (Or.inl rfl) (pe_op op_catS (pe_op op_catS (pe_slice sl_listS (pv 3) po_none (po_some (pv 7))) (pe_lstS (pa_cons (pe_call (ok__law_draw T) (hr.mono (by decide)) (by rfl) T.g__law_draw T.F__law_draw.kp T.b__law_draw .nil pass0 (pa_cons (pv 2) (pa_cons pe_int pa_nil))) pa_nil))) (pe_slice sl_listS (pv 3) (po_some (pe_op op_add (pv 7) pe_int)) po_none)))) pss_nil)
      (pss_cons (ps_if (pt_cmpR op_eq (pv 6) pe_int (nomark _)) (pss_one (ps_setLc (i := 3) (own := [("j", 8)]) (g := (gName 8)) rfl sc_law.nd rfl rfl (sw_true rfl rfl rfl (by decide +kernel)) (pi_range1 (by rfl) T.z_range (pa_cons (pe_call (ok__law_draw T) (hr.mono (by decide)) (by rfl) T.g__law_draw T.F__law_draw.kp T.b__law_draw .nil pass0 (pa_cons (pv 2) (pa_cons pe_int pa_nil))) pa_nil)) (blkOk_by (own := [("j", 8)]) (N := ["script", "k", "state", "data", "turn", "rune", "how", "at", "j", "handed", "found", "told"]) (sc := defScope s_law) (by decide +kernel)) (fun _ _ _ _ _ => (pg_name (i := 8) sc_law.nd rfl (Or.inl rfl))) (fun _ _ _ _ _ => pts_nil) (fun _ _ _ _ _ => (pe_call (ok__law_draw T) (hr.mono (by decide)) (by rfl) T.g__law_draw T.F__law_draw.kp T.b__law_draw .nil pass0 (pa_cons (pv 2) (pa_cons pe_int pa_nil)))))) pss_nil)
      (pss_cons (ps_set (i := 9) sc_law.nd rfl (Or.inl rfl) (pe_callTy call_listS (by rfl) T.z_list (by decide +kernel) (pa_cons (pv 3) pa_nil)))
      (pss_cons (ps_set (i := 10) sc_law.nd rfl (Or.inl rfl) (pe_call (ok_runes T) hr (by rfl) T.g_runes T.F_runes.kp T.b_runes .nil pass0 (pa_cons (pv 9) pa_nil)))
      (pss_cons (ps_if (PW.pt (pw_or (pt_not (pt_val (pe_callB call_isiB (by rfl) T.z_isinstance (by decide +kernel) (pa_cons (pv 10) (pa_cons (pe_bltn (v := .ty "list") (u := .type "list") (by rfl) T.z_list (by decide +kernel) rfl) pa_nil))))) (pw_or (pt_cmpR (op_neIL hr.units) (pv 10) (pe_call (ok__law_due T) (hr.mono (by decide)) (by rfl) T.g__law_due T.F__law_due.kp T.b__law_due .nil pass0 (pa_cons (pv 3) pa_nil)) (nomark _)) (pw_or1 (pt_cmpR (op_neIL hr.units) (pv 9) (pv 3) (nomark _)))))) (pss_one (ps_ret pe_bl)) pss_nil)
      (pss_cons (ps_set (i := 5) sc_law.nd rfl (Or.inl rfl) (pe_ix ix_listH (pe_lstS (pa_cons (pe_call (ok__law_near T) (hr.mono (by decide)) (by rfl) T.g__law_near T.F__law_near.kp T.b__law_near .nil pass0 (pa_cons (pv 2) pa_nil)) (pa_cons (pe_call (ok__law_cell T a ns) (hr.mono (by decide)) (by rfl) T.g__law_cell T.F__law_cell.kp T.b__law_cell .nil pass0 (pa_cons (pv 0) (pa_cons (pe_op op_add pe_int (pv 1)) pa_nil))) pa_nil))) (pe_call (ok__law_draw T) (hr.mono (by decide)) (by rfl) T.g__law_draw T.F__law_draw.kp T.b__law_draw .nil pass0 (pa_cons (pv 2) (pa_cons pe_int pa_nil))) (fun _ _ => rfl)))
      (pss_cons (ps_set (i := 11) sc_law.nd rfl (Or.inl rfl) (pe_call (ok__law_told T) hr (by rfl) T.g__law_told T.F__law_told.kp T.b__law_told .nil pass0 (pa_cons (pv 5) pa_nil)))
      (pss_one (ps_if (pt_not (pt_val (pe_call (ok__law_is_rune T) (hr.mono (by decide)) (by rfl) T.g__law_is_rune T.F__law_is_rune.kp T.b__law_is_rune .nil pass0 (pa_cons (pv 5) pa_nil)))) (pss_one (ps_if (pt_cmpR (op_neC hr.units (cod_p2 cod_str cod_str) (by decide)) (pv 11) (pe_tupS (pa_cons pe_str (pa_cons pe_str pa_nil))) (nomark _)) (pss_one (ps_ret pe_bl)) pss_nil)) (pss_one (ps_if (PW.pt (pw_or (pt_not (pt_val (pe_call (ok__law_is_bytes T) (hr.mono (by decide)) (by rfl) T.g__law_is_bytes T.F__law_is_bytes.kp T.b__law_is_bytes .nil pass0 (pa_cons (pv 11) pa_nil)))) (pw_or (pt_cmpR (op_neIL hr.units) (pv 11) (pe_call (ok__law_bytes_of T) (hr.mono (by decide)) (by rfl) T.g__law_bytes_of T.F__law_bytes_of.kp T.b__law_bytes_of .nil pass0 (pa_cons (pv 5) pa_nil)) (nomark _)) (pw_or1 (pt_cmpR (op_neIL hr.units) (pe_call (ok_runes T) hr (by rfl) T.g_runes T.F_runes.kp T.b_runes .nil pass0 (pa_cons (pv 11) pa_nil)) (pe_lstS (pa_cons (pv 5) pa_nil)) (nomark _)))))) (pss_one (ps_ret pe_bl)) pss_nil))))))))))))))))))
      (pss_one (ps_ret pe_bl))), ?_⟩
    walk_at "vc"
    refine lpW (walkR (n := 4)) (fun i σ H' => ∃ v1 v2 v3 v4 v5 v6 v7 v8 v9 v10 v11 : Option V, σ = [some (.ref a), v1, v2, v3, v4, v5, v6, v7, v8, v9, v10, v11] ∧ Same H H') ⟨_, _, _, _, _, _, _, _, _, _, _, rfl, Same.refl _⟩ (fun _ _ _ _ _ => True.intro) ?_ ?_
    · rintro k x σ H0 H1 hk ⟨v1, v2, v3, v4, v5, v6, v7, v8, v9, v10, v11, rfl, s1⟩ ⟨rfl, rfl⟩
      have hS1 := s1.seq hS
      refine seq_cut2 (fun σ H2 => ∃ ps pd, σ = [some (.ref a), some (.int (k : Int)), some (.ref ps), some (.ref pd), v4, v5, v6, v7, v8, v9, v10, v11] ∧ D28 H1 H2 ps pd [] 0) ?_ (fun C hC => ?_)
      rotate_left
      · walk_at "vc sp__law_cell hS1 sp__law_state"
        refine ⟨by omega, by omega, fun H2 ps s2 n2 d2 pd H3 s3 n3 g3 => hC _ _ ⟨ps, pd, rfl, D28.mk (s2.trans s3) n2 (d2.mono s3) g3 (d2.ne n3) (fun _ z => nomatch z) (Nat.le_refl _)⟩⟩
      rintro σ H2 ⟨ps, pd, rfl, d2⟩
      refine seq_cut (fun σ H3 => ∃ pd xs v4 v5, σ = [some (.ref a), some (.int (k : Int)), some (.ref ps), some (.ref pd), v4, v5, v6, v7, v8, v9, v10, v11] ∧ D28 H1 H3 ps pd xs 50) ?_ (fun C hC => ?_)
      rotate_left
      · walk_at "vc sp__law_draw"
        refine ⟨d2.st, fun H3 v a3 l3 u3 => ?_⟩
        obtain ⟨N, hN⟩ := natOf l3
        rw [hN, Int.toNat_natCast]
        refine ⟨by omega, by omega, lpW (walkR (n := N)) (fun i σ H' => ∃ pd xs v4 v5, σ = [some (.ref a), some (.int (k : Int)), some (.ref ps), some (.ref pd), v4, v5, v6, v7, v8, v9, v10, v11] ∧ D28 H1 H' ps pd xs (5 * i)) ⟨pd, [], _, _, rfl, d2.adv a3⟩ (fun _ _ _ _ _ => True.intro) ?_ ?_⟩
        · rintro i x σ H4 H5 hi ⟨pd, xs, v4, v5, rfl, d5⟩ ⟨rfl, rfl⟩
          refine seq_cut2 (fun σ H6 => ∃ pd xs v5, σ = [some (.ref a), some (.int (k : Int)), some (.ref ps), some (.ref pd), some (.int (i : Int)), v5, v6, v7, v8, v9, v10, v11] ∧ D28 H1 H6 ps pd xs (5 * i + 4)) ?_ (fun C hC => ?_)
          rotate_left
          · walk_at "vc sp__law_near"
            refine ⟨d5.st, fun H6 r a6 l6 u6 => ?_⟩
            have d6 := d5.adv a6
            have g6 := d6.dat
            have hl := d6.len
            walk_at "vc sp__law_bytes_of g6"
            refine iteP (fun hr H7 p7 s7 n7 g7 => ⟨_, s7 _ _ g6, _, g7, ?_, fun p8 H8 s8 n8 g8 => ?_⟩) (fun _ => hC _ _ ⟨pd, xs, _, rfl, d6.mono (by omega)⟩)
            · have := (bytes_len r).2
              simp only [List.length_map]
              exact Nat.le_trans (show xs.length + (bytesOf r).length ≤ 100 by omega) (by decide)
            · have := (bytes_len r).2
              exact hC _ _ ⟨p8, xs ++ bytesOf r, _, rfl, d6.put (s7.trans s8) (s7.free n8) (by rw [g8, List.map_append]) (byt_app d6.byt (byt_near l6 hr)) (by rw [List.length_append]; omega)⟩
          rintro σ H6 ⟨pd, xs, v5, rfl, d6⟩
          walk_at "vc sp__law_draw"
          refine ⟨d6.st, fun H7 v7' a7 l7 u7 => ?_⟩
          have d7 := d6.adv a7
          refine iteP (fun _ => ?_) (fun _ => ?_)
          · refine ⟨by decide, fun p8 H8 s8 n8 g8 => ⟨d7.st.mono s8, fun H9 j a9 l9 u9 => ?_⟩⟩
            have d8 := d7.sm s8
            have d9 := d8.adv a9
            obtain ⟨b, hb, hm⟩ := atI_lits (xs := [128, 191, 192, 193, 224, 237, 240, 244, 247, 248, 255, 160]) (k := j) l9 u9
            have hbb : 0 ≤ b ∧ b < 256 := by
              simp only [List.mem_cons, List.not_mem_nil, or_false] at hm
              omega
            refine ⟨_, a9.same _ _ (d7.st.ne n8) g8, _, hb, fun p10 H10 s10 n10 g10 => ⟨_, s10 _ _ d9.dat, _, g10, ?_, fun p11 H11 s11 n11 g11 => ?_⟩⟩
            · have := d9.len
              simp only [List.length_map, List.length_cons, List.length_nil]
              exact Nat.le_trans (show xs.length + 1 ≤ 100 by omega) (by decide)
            · have hl := d9.len
              exact ⟨xs ++ [b], d9.put (s10.trans s11) (s10.free n11) (by rw [g11, List.map_append]; rfl) (byt_app d9.byt (fun c hc => by rw [List.mem_singleton.mp hc]; exact hbb)) (by rw [List.length_append]; simp only [List.length_cons, List.length_nil]; omega)⟩
          · exact ⟨_, d7.mono (by omega)⟩
        · rintro σ H4 ⟨pd, xs, v4, v5, rfl, d4⟩
          exact hC _ _ ⟨pd, xs, _, _, rfl, d4.mono (by omega)⟩
      rintro σ H3 ⟨pd, xs, v4, v5, rfl, d3⟩
      refine seq_cut2 (fun σ H4 => ∃ how at_ : Int, σ = [some (.ref a), some (.int (k : Int)), some (.ref ps), some (.ref pd), v4, v5, some (.int how), some (.int at_), v8, v9, v10, v11] ∧ D28 H1 H4 ps pd xs 50 ∧ 0 ≤ at_) ?_ (fun C hC => ?_)
      rotate_left
      · walk_at "vc sp__law_draw"
        refine ⟨d3.st, fun H4 v a4 l4 u4 => ?_⟩
        have d4 := d3.adv a4
        have hl := d4.len
        refine ⟨_, d4.dat, d4.st, by omega, by rw [List.length_map]; omega, fun H5 v5' a5 l5 u5 => hC _ _ ⟨_, _, rfl, d4.adv a5, l5⟩⟩
      rintro σ H4 ⟨how, at_, rfl, d4, hat⟩
      refine seq_cut (fun σ H5 => ∃ pd xs, σ = [some (.ref a), some (.int (k : Int)), some (.ref ps), some (.ref pd), v4, v5, some (.int how), some (.int at_), v8, v9, v10, v11] ∧ D28 H1 H5 ps pd xs 50) ?_ (fun C hC => ?_)
      rotate_left
      · have gd := d4.dat
        have hl := d4.len
        walk_at "vc gd"
        obtain ⟨at', rfl⟩ := natOf hat
        refine iteP (fun _ p5 H5 s5 n5 g5 => ?_) (fun _ => hC _ _ ⟨pd, xs, rfl, d4⟩)
        rw [cutI_take] at g5
        refine ⟨_, s5 _ _ gd, fun p6 H6 s6 n6 g6 => ?_⟩
        rw [show ((at' : Int) + 1) = ((at' + 1 : Nat) : Int) from rfl, cutI_drop] at g6
        refine ⟨_, s6 _ _ g5, _, g6, ?_, fun p7 H7 s7 n7 g7 => ?_⟩
        · simp only [List.length_map, List.length_take, List.length_drop]
          exact Nat.le_trans (show _ ≤ 100 by omega) (by decide)
        · exact hC _ _ ⟨p7, xs.take at' ++ xs.drop (at' + 1), rfl, d4.put (s5.trans (s6.trans s7)) ((s5.trans s6).free n7) (by rw [g7, List.map_append]) (byt_app (byt_take d4.byt _) (byt_drop d4.byt _)) (by rw [List.length_append, List.length_take, List.length_drop]; omega)⟩
      rintro σ H5 ⟨pd, xs, rfl, d5⟩
      refine seq_cut (fun σ H6 => ∃ pd xs, σ = [some (.ref a), some (.int (k : Int)), some (.ref ps), some (.ref pd), v4, v5, some (.int how), some (.int at_), v8, v9, v10, v11] ∧ D28 H1 H6 ps pd xs 60) ?_ (fun C hC => ?_)
      rotate_left
      · have gd := d5.dat
        have hl := d5.len
        walk_at "vc gd"
        obtain ⟨at', rfl⟩ := natOf hat
        refine iteP (fun _ p6 H6 s6 n6 g6 => ?_) (fun _ => hC _ _ ⟨pd, xs, rfl, d5.mono (by omega)⟩)
        rw [cutI_take] at g6
        walk_at "vc sp__law_draw"
        have d6 := d5.sm s6
        refine ⟨d6.st, fun H7 b a7 l7 u7 p8 H8 s8 n8 g8 => ?_⟩
        have d7 := d6.adv a7
        have g67 := a7.same _ _ (d5.st.ne n6) g6
        refine ⟨_, s8 _ _ g67, _, g8, ?_, fun p9 H9 s9 n9 g9 => ⟨_, (s8.trans s9) _ _ d7.dat, fun p10 H10 s10 n10 g10 => ?_⟩⟩
        · simp only [List.length_map, List.length_take, List.length_cons, List.length_nil]
          exact Nat.le_trans (show _ ≤ 100 by omega) (by decide)
        rw [show ((at' : Int) + 1) = ((at' + 1 : Nat) : Int) from rfl, cutI_drop] at g10
        refine ⟨_, s10 _ _ g9, _, g10, ?_, fun p11 H11 s11 n11 g11 => ?_⟩
        · simp only [List.length_map, List.length_take, List.length_drop, List.length_append, List.length_cons, List.length_nil]
          exact Nat.le_trans (show _ ≤ 100 by omega) (by decide)
        · have s711 := s8.trans (s9.trans (s10.trans s11))
          refine hC _ _ ⟨p11, xs.take at' ++ [b] ++ xs.drop (at' + 1), rfl, d7.put s711 ((s8.trans (s9.trans s10)).free n11) (by rw [g11, List.map_append, List.map_append]; rfl) (byt_app (byt_app (byt_take d7.byt _) (fun c hc => by rw [List.mem_singleton.mp hc]; omega)) (byt_drop d7.byt _)) (by rw [List.length_append, List.length_append, List.length_take, List.length_drop]; simp only [List.length_cons, List.length_nil]; omega)⟩
      rintro σ H6 ⟨pd, xs, rfl, d6⟩
      refine seq_cut (fun σ H7 => ∃ pd xs v8, σ = [some (.ref a), some (.int (k : Int)), some (.ref ps), some (.ref pd), v4, v5, some (.int how), some (.int at_), v8, v9, v10, v11] ∧ D28 H1 H7 ps pd xs 60) ?_ (fun C hC => ?_)
      rotate_left
      · walk_at "vc sp__law_draw"
        refine iteP (fun _ => ⟨d6.st, fun H7 v a7 l7 u7 => ?_⟩) (fun _ => hC _ _ ⟨pd, xs, _, rfl, d6⟩)
        have d7 := d6.adv a7
        obtain ⟨N, hN⟩ := natOf l7
        rw [hN, Int.toNat_natCast]
        refine ⟨by omega, by omega, lcW (walkR (n := N)) (fun D i H' => D28 H1 H' ps pd xs 60 ∧ D ≠ ps ∧ ∃ ys, H' D = some (.lst (List.map V.int ys)) ∧ Byt ys ∧ ys.length = i) (fun D H' s n g => ⟨d7.sm s, d7.st.ne n, [], g, byt_nil, rfl⟩) (fun _ _ _ _ _ _ => True.intro) (fun D i x H8 H9 hi hD p y => ?_) (fun D H8 hD p => ?_)⟩
        · obtain ⟨d8, nD, ys, gD, hb, hl⟩ := p
          obtain ⟨rfl, rfl⟩ := y
          walk_at "vc sp__law_draw"
          refine ⟨d8.st, fun H9 b a9 l9 u9 => ⟨_, a9.same _ _ nD gD, cnt_lt (by rw [List.length_map]; omega), ?_, nD, ys ++ [b], by rw [List.map_append]; rfl, byt_app hb (fun c hc => by rw [List.mem_singleton.mp hc]; omega), by rw [List.length_append, hl]; rfl⟩⟩
          have d9 := d8.adv a9
          have npd : pd ≠ D := ne_of_none d7.dat hD
          refine ⟨fun c o e => ?_, d9.new, ?_, ?_, d9.ne, d9.byt, d9.len⟩
          · rw [upd_ne (ne_of_none (d7.same _ _ e) hD)]; exact d9.same _ _ e
          · obtain ⟨x', y', h1, h2⟩ := d9.st
            exact ⟨x', y', by rw [upd_ne nD.symm]; exact h1, h2⟩
          · rw [upd_ne npd]; exact d9.dat
        · obtain ⟨d8, nD, ys, gD, hb, hl⟩ := p
          exact hC _ _ ⟨D, ys, _, rfl, d8.same, d8.new, d8.st, gD, nD, hb, by omega⟩
      rintro σ H7 ⟨pd, xs, v8, rfl, d7⟩
      refine seq_cut3 (fun σ H8 => ∃ v9 v10, σ = [some (.ref a), some (.int (k : Int)), some (.ref ps), some (.ref pd), v4, v5, some (.int how), some (.int at_), v8, v9, v10, v11] ∧ D28 H1 H8 ps pd xs 60) ?_ (fun C hC => ?_)
      rotate_left
      · have gd := d7.dat
        have hl := d7.len
        walk_at "vc gd sp_runes sp__law_due"
        intro p8 H8 s8 n8 g8
        refine ⟨xs, g8, by omega, fun H9 p9 s9 n9 g9 => .inl ⟨⟨_, g9⟩, xs, (s8.trans s9) _ _ gd, by omega, d7.byt, fun H10 p10 s10 n10 g10 => ⟨_, s10 _ _ g9, _, g10, if_false_of (by simp) ⟨_, (s9.trans s10) _ _ g8, _, (s8.trans (s9.trans s10)) _ _ gd, if_false_of (by simp) (hC _ _ ⟨_, _, rfl, d7.sm (s8.trans (s9.trans s10))⟩)⟩⟩⟩⟩
      rintro σ H8 ⟨v9, v10, rfl, d8⟩
      refine seq_cut (fun σ H9 => ∃ r : Int, σ = [some (.ref a), some (.int (k : Int)), some (.ref ps), some (.ref pd), v4, some (.int r), some (.int how), some (.int at_), v8, v9, v10, v11] ∧ D28 H1 H9 ps pd xs 60) ?_ (fun C hC => ?_)
      rotate_left
      · have hS8 := d8.same.seq hS1
        have d8s := d8.st
        walk_at "vc sp__law_near sp__law_cell hS8"
        refine ⟨d8s, fun H9 v a9 l9 u9 => ⟨by omega, (same_adv d8.same d8.new a9).seq hS1, fun p10 H10 s10 n10 g10 => ?_⟩⟩
        have d9 := d8.adv a9
        have d10 := d9.sm s10
        walk_at "vc sp__law_draw"
        refine ⟨d10.st, fun H11 j a11 l11 u11 => ⟨_, a11.same _ _ (d9.st.ne n10) g10, ?_⟩⟩
        rcases (show j = 0 ∨ j = 1 by omega) with rfl | rfl
        · exact ⟨_, rfl, hC _ _ ⟨_, rfl, d10.adv a11⟩⟩
        · exact ⟨_, rfl, hC _ _ ⟨_, rfl, d10.adv a11⟩⟩
      rintro σ H9 ⟨r, rfl, d9⟩
      walk_at "vc sp__law_told sp__law_is_rune"
      refine ⟨fun H10 p10 s10 n10 hr g10 => ?_, fun hr H10 p10 s10 n10 g10 => ?_⟩
      · rw [decide_eq_true hr, if_neg (by decide)]
        walk_at "vc sp__law_is_bytes sp__law_bytes_of sp_runes"
        have hbl := (bytes_len r).2
        refine ⟨_, g10, bytes_byt (by have := hr.1; omega), fun H11 p11 s11 n11 g11 => ⟨_, s11 _ _ g10, _, g11, if_false_of (by simp) ⟨_, s11 _ _ g10, by omega, fun H12 p12 s12 n12 g12 p13 H13 s13 n13 g13 => ⟨_, s13 _ _ g12, [r], g13, ?_⟩⟩⟩⟩
        rw [runes_back hr]
        exact if_false_of (by simp) (s1.trans (d9.same.trans (s10.trans (s11.trans (s12.trans s13)))))
      · rw [decide_eq_false hr, if_pos (by decide)]
        intro p11 H11 s11 n11 g11
        refine ⟨(okRef, okRan), ⟨p10, _, _, rfl, s11 _ _ g10, rfl, rfl⟩, (okRef, okRan), ⟨p11, _, _, rfl, g11, rfl, rfl⟩, if_false_of (by simp) (s1.trans (d9.same.trans (s10.trans s11)))⟩
    · rintro σ H1 ⟨v1, v2, v3, v4, v5, v6, v7, v8, v9, v10, v11, rfl, s1⟩
      walk_at "vc"
      exact q _

end
theorem all_mk {l : PySem.W.OpenLaw} {w : World} {K : PySem.W.Frag} {h : Heap} {mg : Str → Option Value} {fa : Addr} (X : K.In h) (G : h.Ns mainGlobals mg) (hfa : mg "law" = some (.ref fa))
    {f1 : Addr} {od1 an1 : Option Addr} {sl1 : Array (Option Value)} {oc1 kV1 dc1 pm1 cd1 ct1 : Value}
    (a1 : PySem.W.nsIn K mainGlobals "runes" = some (some (.ref f1))) (l1 : K.lookup f1 = some ⟨oc1, od1, .func (PySem.W.fnOf "runes" "runes" (defArgs s_runes) (defBody s_runes) (defScope s_runes) .none kV1 dc1 pm1 an1 cd1 ct1), sl1⟩) (c1 : PySem.W.codeIn K cd1 "runes" = true) (k1 : PySem.W.keepIn K (.ref f1) = true)
    {f2 : Addr} {od2 an2 : Option Addr} {sl2 : Array (Option Value)} {oc2 kV2 dc2 pm2 cd2 ct2 : Value}
    (a2 : PySem.W.nsIn K mainGlobals "_rune_at" = some (some (.ref f2))) (l2 : K.lookup f2 = some ⟨oc2, od2, .func (PySem.W.fnOf "_rune_at" "_rune_at" (defArgs s__rune_at) (defBody s__rune_at) (defScope s__rune_at) .none kV2 dc2 pm2 an2 cd2 ct2), sl2⟩) (c2 : PySem.W.codeIn K cd2 "_rune_at" = true) (k2 : PySem.W.keepIn K (.ref f2) = true)
    {f3 : Addr} {od3 an3 : Option Addr} {sl3 : Array (Option Value)} {oc3 kV3 dc3 pm3 cd3 ct3 : Value}
    (a3 : PySem.W.nsIn K mainGlobals "_joined" = some (some (.ref f3))) (l3 : K.lookup f3 = some ⟨oc3, od3, .func (PySem.W.fnOf "_joined" "_joined" (defArgs s__joined) (defBody s__joined) (defScope s__joined) .none kV3 dc3 pm3 an3 cd3 ct3), sl3⟩) (c3 : PySem.W.codeIn K cd3 "_joined" = true) (k3 : PySem.W.keepIn K (.ref f3) = true)
    {f4 : Addr} {od4 an4 : Option Addr} {sl4 : Array (Option Value)} {oc4 kV4 dc4 pm4 cd4 ct4 : Value}
    (a4 : PySem.W.nsIn K mainGlobals "_has_sequence" = some (some (.ref f4))) (l4 : K.lookup f4 = some ⟨oc4, od4, .func (PySem.W.fnOf "_has_sequence" "_has_sequence" (defArgs s__has_sequence) (defBody s__has_sequence) (defScope s__has_sequence) .none kV4 dc4 pm4 an4 cd4 ct4), sl4⟩) (c4 : PySem.W.codeIn K cd4 "_has_sequence" = true) (k4 : PySem.W.keepIn K (.ref f4) = true)
    {f5 : Addr} {od5 an5 : Option Addr} {sl5 : Array (Option Value)} {oc5 kV5 dc5 pm5 cd5 ct5 : Value}
    (a5 : PySem.W.nsIn K mainGlobals "rune_bytes" = some (some (.ref f5))) (l5 : K.lookup f5 = some ⟨oc5, od5, .func (PySem.W.fnOf "rune_bytes" "rune_bytes" (defArgs s_rune_bytes) (defBody s_rune_bytes) (defScope s_rune_bytes) .none kV5 dc5 pm5 an5 cd5 ct5), sl5⟩) (c5 : PySem.W.codeIn K cd5 "rune_bytes" = true) (k5 : PySem.W.keepIn K (.ref f5) = true)
    {f6 : Addr} {od6 an6 : Option Addr} {sl6 : Array (Option Value)} {oc6 kV6 dc6 pm6 cd6 ct6 : Value}
    (a6 : PySem.W.nsIn K mainGlobals "_law_cell" = some (some (.ref f6))) (l6 : K.lookup f6 = some ⟨oc6, od6, .func (PySem.W.fnOf "_law_cell" "_law_cell" (defArgs s__law_cell) (defBody s__law_cell) (defScope s__law_cell) .none kV6 dc6 pm6 an6 cd6 ct6), sl6⟩) (c6 : PySem.W.codeIn K cd6 "_law_cell" = true) (k6 : PySem.W.keepIn K (.ref f6) = true)
    {f7 : Addr} {od7 an7 : Option Addr} {sl7 : Array (Option Value)} {oc7 kV7 dc7 pm7 cd7 ct7 : Value}
    (a7 : PySem.W.nsIn K mainGlobals "_law_is_integer" = some (some (.ref f7))) (l7 : K.lookup f7 = some ⟨oc7, od7, .func (PySem.W.fnOf "_law_is_integer" "_law_is_integer" (defArgs s__law_is_integer) (defBody s__law_is_integer) (defScope s__law_is_integer) .none kV7 dc7 pm7 an7 cd7 ct7), sl7⟩) (c7 : PySem.W.codeIn K cd7 "_law_is_integer" = true) (k7 : PySem.W.keepIn K (.ref f7) = true)
    {f8 : Addr} {od8 an8 : Option Addr} {sl8 : Array (Option Value)} {oc8 kV8 dc8 pm8 cd8 ct8 : Value}
    (a8 : PySem.W.nsIn K mainGlobals "_law_draw" = some (some (.ref f8))) (l8 : K.lookup f8 = some ⟨oc8, od8, .func (PySem.W.fnOf "_law_draw" "_law_draw" (defArgs s__law_draw) (defBody s__law_draw) (defScope s__law_draw) .none kV8 dc8 pm8 an8 cd8 ct8), sl8⟩) (c8 : PySem.W.codeIn K cd8 "_law_draw" = true) (k8 : PySem.W.keepIn K (.ref f8) = true)
    {f9 : Addr} {od9 an9 : Option Addr} {sl9 : Array (Option Value)} {oc9 kV9 dc9 pm9 cd9 ct9 : Value}
    (a9 : PySem.W.nsIn K mainGlobals "_law_state" = some (some (.ref f9))) (l9 : K.lookup f9 = some ⟨oc9, od9, .func (PySem.W.fnOf "_law_state" "_law_state" (defArgs s__law_state) (defBody s__law_state) (defScope s__law_state) .none kV9 dc9 pm9 an9 cd9 ct9), sl9⟩) (c9 : PySem.W.codeIn K cd9 "_law_state" = true) (k9 : PySem.W.keepIn K (.ref f9) = true)
    {f10 : Addr} {od10 an10 : Option Addr} {sl10 : Array (Option Value)} {oc10 kV10 dc10 pm10 cd10 ct10 : Value}
    (a10 : PySem.W.nsIn K mainGlobals "_law_is_bytes" = some (some (.ref f10))) (l10 : K.lookup f10 = some ⟨oc10, od10, .func (PySem.W.fnOf "_law_is_bytes" "_law_is_bytes" (defArgs s__law_is_bytes) (defBody s__law_is_bytes) (defScope s__law_is_bytes) .none kV10 dc10 pm10 an10 cd10 ct10), sl10⟩) (c10 : PySem.W.codeIn K cd10 "_law_is_bytes" = true) (k10 : PySem.W.keepIn K (.ref f10) = true)
    {f11 : Addr} {od11 an11 : Option Addr} {sl11 : Array (Option Value)} {oc11 kV11 dc11 pm11 cd11 ct11 : Value}
    (a11 : PySem.W.nsIn K mainGlobals "_law_is_rune" = some (some (.ref f11))) (l11 : K.lookup f11 = some ⟨oc11, od11, .func (PySem.W.fnOf "_law_is_rune" "_law_is_rune" (defArgs s__law_is_rune) (defBody s__law_is_rune) (defScope s__law_is_rune) .none kV11 dc11 pm11 an11 cd11 ct11), sl11⟩) (c11 : PySem.W.codeIn K cd11 "_law_is_rune" = true) (k11 : PySem.W.keepIn K (.ref f11) = true)
    {f12 : Addr} {od12 an12 : Option Addr} {sl12 : Array (Option Value)} {oc12 kV12 dc12 pm12 cd12 ct12 : Value}
    (a12 : PySem.W.nsIn K mainGlobals "_law_bytes_of" = some (some (.ref f12))) (l12 : K.lookup f12 = some ⟨oc12, od12, .func (PySem.W.fnOf "_law_bytes_of" "_law_bytes_of" (defArgs s__law_bytes_of) (defBody s__law_bytes_of) (defScope s__law_bytes_of) .none kV12 dc12 pm12 an12 cd12 ct12), sl12⟩) (c12 : PySem.W.codeIn K cd12 "_law_bytes_of" = true) (k12 : PySem.W.keepIn K (.ref f12) = true)
    {f13 : Addr} {od13 an13 : Option Addr} {sl13 : Array (Option Value)} {oc13 kV13 dc13 pm13 cd13 ct13 : Value}
    (a13 : PySem.W.nsIn K mainGlobals "_law_near" = some (some (.ref f13))) (l13 : K.lookup f13 = some ⟨oc13, od13, .func (PySem.W.fnOf "_law_near" "_law_near" (defArgs s__law_near) (defBody s__law_near) (defScope s__law_near) .none kV13 dc13 pm13 an13 cd13 ct13), sl13⟩) (c13 : PySem.W.codeIn K cd13 "_law_near" = true) (k13 : PySem.W.keepIn K (.ref f13) = true)
    {f14 : Addr} {od14 an14 : Option Addr} {sl14 : Array (Option Value)} {oc14 kV14 dc14 pm14 cd14 ct14 : Value}
    (a14 : PySem.W.nsIn K mainGlobals "_law_due" = some (some (.ref f14))) (l14 : K.lookup f14 = some ⟨oc14, od14, .func (PySem.W.fnOf "_law_due" "_law_due" (defArgs s__law_due) (defBody s__law_due) (defScope s__law_due) .none kV14 dc14 pm14 an14 cd14 ct14), sl14⟩) (c14 : PySem.W.codeIn K cd14 "_law_due" = true) (k14 : PySem.W.keepIn K (.ref f14) = true)
    {f15 : Addr} {od15 an15 : Option Addr} {sl15 : Array (Option Value)} {oc15 kV15 dc15 pm15 cd15 ct15 : Value}
    (a15 : PySem.W.nsIn K mainGlobals "_law_value" = some (some (.ref f15))) (l15 : K.lookup f15 = some ⟨oc15, od15, .func (PySem.W.fnOf "_law_value" "_law_value" (defArgs s__law_value) (defBody s__law_value) (defScope s__law_value) .none kV15 dc15 pm15 an15 cd15 ct15), sl15⟩) (c15 : PySem.W.codeIn K cd15 "_law_value" = true) (k15 : PySem.W.keepIn K (.ref f15) = true)
    {f16 : Addr} {od16 an16 : Option Addr} {sl16 : Array (Option Value)} {oc16 kV16 dc16 pm16 cd16 ct16 : Value}
    (a16 : PySem.W.nsIn K mainGlobals "_law_told" = some (some (.ref f16))) (l16 : K.lookup f16 = some ⟨oc16, od16, .func (PySem.W.fnOf "_law_told" "_law_told" (defArgs s__law_told) (defBody s__law_told) (defScope s__law_told) .none kV16 dc16 pm16 an16 cd16 ct16), sl16⟩) (c16 : PySem.W.codeIn K cd16 "_law_told" = true) (k16 : PySem.W.keepIn K (.ref f16) = true)
    {f17 : Addr} {od17 an17 : Option Addr} {sl17 : Array (Option Value)} {oc17 kV17 dc17 pm17 cd17 ct17 : Value}
    (a17 : PySem.W.nsIn K mainGlobals "law" = some (some (.ref f17))) (l17 : K.lookup f17 = some ⟨oc17, od17, .func (PySem.W.fnOf "law" "law" (defArgs s_law) (defBody s_law) (defScope s_law) .none kV17 dc17 pm17 an17 cd17 ct17), sl17⟩) (c17 : PySem.W.codeIn K cd17 "law" = true) (k17 : PySem.W.keepIn K (.ref f17) = true)
    {C18 : Addr} (a18 : PySem.W.nsIn K mainGlobals "StillroomError" = some (some (.ref C18))) (x18 : PySem.W.excIn K C18 [.type "ValueError", .type "Exception", .type "BaseException", .type "object"] "ValueError.__new__" = true) (k18 : PySem.W.keepIn K (.ref C18) = true) (i18 : PySem.W.subIn K (.ref C18) (.type "BaseException") = some true) (i18t : PySem.W.typeIn K (.ref C18) = some (.type "type")) (i18d : PySem.W.hasDictIn K C18 = true)
    {C19 : Addr} (a19 : PySem.W.nsIn K mainGlobals "OutOfRange" = some (some (.ref C19))) (x19 : PySem.W.excIn K C19 [.type "ValueError", .type "Exception", .type "BaseException", .type "object"] "ValueError.__new__" = true) (k19 : PySem.W.keepIn K (.ref C19) = true) (i19 : PySem.W.subIn K (.ref C19) (.type "BaseException") = some true) (i19t : PySem.W.typeIn K (.ref C19) = some (.type "type")) (i19d : PySem.W.hasDictIn K C19 = true)
    {C20 : Addr} (a20 : PySem.W.nsIn K mainGlobals "Malformed" = some (some (.ref C20))) (x20 : PySem.W.excIn K C20 [.type "ValueError", .type "Exception", .type "BaseException", .type "object"] "ValueError.__new__" = true) (k20 : PySem.W.keepIn K (.ref C20) = true) (i20 : PySem.W.subIn K (.ref C20) (.type "BaseException") = some true) (i20t : PySem.W.typeIn K (.ref C20) = some (.type "type")) (i20d : PySem.W.hasDictIn K C20 = true)
    (s19_18 : PySem.W.subIn K (.ref C19) (.ref C18) = some true)
    (o19_19 : PySem.W.kitOne K (.ref C19) (.ref C19) = some true)
    (o19_20 : PySem.W.kitOne K (.ref C19) (.ref C20) = some false)
    (e19a : PySem.W.findIn K (.ref C19) "__getattribute__" = some (some (.builtin "BaseException.__getattribute__"))) (e19b : PySem.W.findIn K (.ref C19) "__getattr__" = some none) (e19c : PySem.W.findIn K (.ref C19) "__class__" = some (some (.builtin "object.__class__"))) (e19d : PySem.W.specialIn K (.builtin "object.__class__") "__get__" = some (some (.builtin "getset_descriptor.__get__"))) (e19e : PySem.W.takesIn K (.builtin "object.__class__") = some true) (e19f : PySem.W.mroIn K C19 (.type "object") = some true)
    {t21 : Tok} (a21 : PySem.W.nsIn K mainGlobals "GREATEST_RUNE" = some (some (.int 1114111 t21)))
    {t22 : Tok} (a22 : PySem.W.nsIn K mainGlobals "_UNREADABLE" = some (some (.int 65533 t22)))
    {t23 : Tok} (a23 : PySem.W.nsIn K mainGlobals "_FIRST_BARRED" = some (some (.int 55296 t23)))
    {t24 : Tok} (a24 : PySem.W.nsIn K mainGlobals "_LAST_BARRED" = some (some (.int 57343 t24)))
    {t25 : Tok} (a25 : PySem.W.nsIn K mainGlobals "_GREATEST_SINGLE" = some (some (.int 127 t25)))
    {t26 : Tok} (a26 : PySem.W.nsIn K mainGlobals "_FIRST_NEXT" = some (some (.int 128 t26)))
    {t27 : Tok} (a27 : PySem.W.nsIn K mainGlobals "_LAST_NEXT" = some (some (.int 191 t27)))
    {g28_0 : Addr} {g28_1 : Addr} {g28_2 : Addr} {f28 : Addr} {it28 : Array Value} {n28 : Nat} (a28 : PySem.W.nsIn K mainGlobals "_LONGER" = some (some (.ref f28))) (l28 : K.lookup f28 = some ⟨.type "tuple", none, .seq it28 n28, #[]⟩) (v28 : Vals [V.ref g28_0, V.ref g28_1, V.ref g28_2] it28.toList)
    {it28_0 : Array Value} {n28_0 : Nat} (l28_0 : K.lookup g28_0 = some ⟨.type "tuple", none, .seq it28_0 n28_0, #[]⟩) (v28_0 : Vals [V.int 2, V.int 192, V.int 223, V.int 128] it28_0.toList)
    {it28_1 : Array Value} {n28_1 : Nat} (l28_1 : K.lookup g28_1 = some ⟨.type "tuple", none, .seq it28_1 n28_1, #[]⟩) (v28_1 : Vals [V.int 3, V.int 224, V.int 239, V.int 2048] it28_1.toList)
    {it28_2 : Array Value} {n28_2 : Nat} (l28_2 : K.lookup g28_2 = some ⟨.type "tuple", none, .seq it28_2 n28_2, #[]⟩) (v28_2 : Vals [V.int 4, V.int 240, V.int 247, V.int 65536] it28_2.toList)
    (a29 : PySem.W.nsIn K mainGlobals "abs" = some none)
    (a30 : PySem.W.nsIn K mainGlobals "bool" = some none)
    (a31 : PySem.W.nsIn K mainGlobals "int" = some none)
    (a32 : PySem.W.nsIn K mainGlobals "isinstance" = some none)
    (a33 : PySem.W.nsIn K mainGlobals "len" = some none)
    (a34 : PySem.W.nsIn K mainGlobals "list" = some none)
    (a35 : PySem.W.nsIn K mainGlobals "max" = some none)
    (a36 : PySem.W.nsIn K mainGlobals "range" = some none)
    : ∃ fd : FuncData, (∀ (s : Shared) (v : Value), BindsTo s fd ⟨[v], []⟩ [("script", v)]) ∧ ∀ base : Heap, K.In base → base.Ns mainGlobals mg → FnOk l.prog w K mg base CX0 4 fa fd ["script"] (spLaw K) := by
  have e := hfa.symm.trans (PySem.W.mg_of X G a17)
  cases e
  have F1 := fun_mk (st := s_runes) l1 c1 k1
  have b1 := F1.binds (ps := ["data"]) fun _ _ _ _ _ _ us hl => match us, hl with | [_], _ => rfl
  have F2 := fun_mk (st := s__rune_at) l2 c2 k2
  have b2 := F2.binds (ps := ["data", "at"]) fun _ _ _ _ _ _ us hl => match us, hl with | [_, _], _ => rfl
  have F3 := fun_mk (st := s__joined) l3 c3 k3
  have b3 := F3.binds (ps := ["number", "behind"]) fun _ _ _ _ _ _ us hl => match us, hl with | [_, _], _ => rfl
  have F4 := fun_mk (st := s__has_sequence) l4 c4 k4
  have b4 := F4.binds (ps := ["rune"]) fun _ _ _ _ _ _ us hl => match us, hl with | [_], _ => rfl
  have F5 := fun_mk (st := s_rune_bytes) l5 c5 k5
  have b5 := F5.binds (ps := ["rune"]) fun _ _ _ _ _ _ us hl => match us, hl with | [_], _ => rfl
  have F6 := fun_mk (st := s__law_cell) l6 c6 k6
  have b6 := F6.binds (ps := ["script", "k"]) fun _ _ _ _ _ _ us hl => match us, hl with | [_, _], _ => rfl
  have F7 := fun_mk (st := s__law_is_integer) l7 c7 k7
  have b7 := F7.binds (ps := ["actual"]) fun _ _ _ _ _ _ us hl => match us, hl with | [_], _ => rfl
  have F8 := fun_mk (st := s__law_draw) l8 c8 k8
  have b8 := F8.binds (ps := ["state", "many"]) fun _ _ _ _ _ _ us hl => match us, hl with | [_, _], _ => rfl
  have F9 := fun_mk (st := s__law_state) l9 c9 k9
  have b9 := F9.binds (ps := ["cell", "salt"]) fun _ _ _ _ _ _ us hl => match us, hl with | [_, _], _ => rfl
  have F10 := fun_mk (st := s__law_is_bytes) l10 c10 k10
  have b10 := F10.binds (ps := ["actual"]) fun _ _ _ _ _ _ us hl => match us, hl with | [_], _ => rfl
  have F11 := fun_mk (st := s__law_is_rune) l11 c11 k11
  have b11 := F11.binds (ps := ["rune"]) fun _ _ _ _ _ _ us hl => match us, hl with | [_], _ => rfl
  have F12 := fun_mk (st := s__law_bytes_of) l12 c12 k12
  have b12 := F12.binds (ps := ["rune"]) fun _ _ _ _ _ _ us hl => match us, hl with | [_], _ => rfl
  have F13 := fun_mk (st := s__law_near) l13 c13 k13
  have b13 := F13.binds (ps := ["state"]) fun _ _ _ _ _ _ us hl => match us, hl with | [_], _ => rfl
  have F14 := fun_mk (st := s__law_due) l14 c14 k14
  have b14 := F14.binds (ps := ["data"]) fun _ _ _ _ _ _ us hl => match us, hl with | [_], _ => rfl
  have F15 := fun_mk (st := s__law_value) l15 c15 k15
  have b15 := F15.binds (ps := ["part"]) fun _ _ _ _ _ _ us hl => match us, hl with | [_], _ => rfl
  have F16 := fun_mk (st := s__law_told) l16 c16 k16
  have b16 := F16.binds (ps := ["rune"]) fun _ _ _ _ _ _ us hl => match us, hl with | [_], _ => rfl
  have F17 := fun_mk (st := s_law) l17 c17 k17
  have b17 := F17.binds (ps := ["script"]) fun _ _ _ _ _ _ us hl => match us, hl with | [_], _ => rfl
  have T : Txt K mg := ⟨f1, _, F1, b1, PySem.W.mg_of X G a1,
    f2, _, F2, b2, PySem.W.mg_of X G a2,
    f3, _, F3, b3, PySem.W.mg_of X G a3,
    f4, _, F4, b4, PySem.W.mg_of X G a4,
    f5, _, F5, b5, PySem.W.mg_of X G a5,
    f6, _, F6, b6, PySem.W.mg_of X G a6,
    f7, _, F7, b7, PySem.W.mg_of X G a7,
    f8, _, F8, b8, PySem.W.mg_of X G a8,
    f9, _, F9, b9, PySem.W.mg_of X G a9,
    f10, _, F10, b10, PySem.W.mg_of X G a10,
    f11, _, F11, b11, PySem.W.mg_of X G a11,
    f12, _, F12, b12, PySem.W.mg_of X G a12,
    f13, _, F13, b13, PySem.W.mg_of X G a13,
    f14, _, F14, b14, PySem.W.mg_of X G a14,
    f15, _, F15, b15, PySem.W.mg_of X G a15,
    f16, _, F16, b16, PySem.W.mg_of X G a16,
    fa, _, F17, b17, PySem.W.mg_of X G a17,
    C18, PySem.W.mg_of X G a18, x18, k18, i18, i18t,
    C19, PySem.W.mg_of X G a19, x19, k19, i19, i19t,
    C20, PySem.W.mg_of X G a20, x20, k20, i20, i20t,
    PySem.W.exm_ref i18 i18d i18t s19_18,
    o19_19,
    o19_20,
    ⟨e19a, e19b, i19, i19d, e19c, e19d, e19e, e19f⟩,
    t21, PySem.W.mg_of X G a21,
    t22, PySem.W.mg_of X G a22,
    t23, PySem.W.mg_of X G a23,
    t24, PySem.W.mg_of X G a24,
    t25, PySem.W.mg_of X G a25,
    t26, PySem.W.mg_of X G a26,
    t27, PySem.W.mg_of X G a27,
    f28, PySem.W.mg_of X G a28, g28_0, g28_1, g28_2, fun H => Or.inr ⟨_, it28, n28, l28, rfl, rfl, by have := v28.length; simp at this; rw [← this]; decide, v28⟩,
    fun H => Or.inr ⟨_, it28_0, n28_0, l28_0, rfl, rfl, by have := v28_0.length; simp at this; rw [← this]; decide, v28_0⟩,
    fun H => Or.inr ⟨_, it28_1, n28_1, l28_1, rfl, rfl, by have := v28_1.length; simp at this; rw [← this]; decide, v28_1⟩,
    fun H => Or.inr ⟨_, it28_2, n28_2, l28_2, rfl, rfl, by have := v28_2.length; simp at this; rw [← this]; decide, v28_2⟩,
    PySem.W.mg_none_of X G a29,
    PySem.W.mg_none_of X G a30,
    PySem.W.mg_none_of X G a31,
    PySem.W.mg_none_of X G a32,
    PySem.W.mg_none_of X G a33,
    PySem.W.mg_none_of X G a34,
    PySem.W.mg_none_of X G a35,
    PySem.W.mg_none_of X G a36⟩
  refine ⟨PySem.W.fnOf "law" "law" (defArgs s_law) (defBody s_law) (defScope s_law) .none kV17 dc17 pm17 an17 cd17 ct17, fun s v => .of_eq rfl, fun base _ _ => ?_⟩
  exact ok_law_of F17 T
end K28
open PySem PySem.W PyProof.Rows
set_option maxRecDepth 100000 in
set_option maxHeartbeats 0 in
theorem PySem.Challenge.cw_stillroom_k28_runes_of_bytes_holds : PySem.Challenge.rw_stillroom_k28_runes_of_bytes.Holds := by
  w_on; o_law; k_head; (case hw => w_witness2)
  k_fill
  refine L2.walk_of (l := PySem.Challenge.rw_stillroom_k28_runes_of_bytes) (n := 63) (k := 4) (x := "script") (CX := fun _ => L2.CX0) (sp := fun w => K28.spLaw _) rfl (by decide) rfl ⟨rfl, by decide, by decide⟩ (fun w h Y => PySem.W.kIn_of Y) ?F (fun _ _ a ns hl _ hS => ⟨a, ns, rfl, hS, hl, fun _ => rfl⟩) (fun _ _ _ _ _ h => h)
  case F =>
    intro w mg fa h KX G hmg
    refine' K28.all_mk KX G hmg ?a1 ?l1 ?c1 ?k1 ?a2 ?l2 ?c2 ?k2 ?a3 ?l3 ?c3 ?k3 ?a4 ?l4 ?c4 ?k4 ?a5 ?l5 ?c5 ?k5 ?a6 ?l6 ?c6 ?k6 ?a7 ?l7 ?c7 ?k7 ?a8 ?l8 ?c8 ?k8 ?a9 ?l9 ?c9 ?k9 ?a10 ?l10 ?c10 ?k10 ?a11 ?l11 ?c11 ?k11 ?a12 ?l12 ?c12 ?k12 ?a13 ?l13 ?c13 ?k13 ?a14 ?l14 ?c14 ?k14 ?a15 ?l15 ?c15 ?k15 ?a16 ?l16 ?c16 ?k16 ?a17 ?l17 ?c17 ?k17 ?a18 ?x18 ?k18 ?i18 ?i18t ?i18d ?a19 ?x19 ?k19 ?i19 ?i19t ?i19d ?a20 ?x20 ?k20 ?i20 ?i20t ?i20d ?s19_18 ?o19_19 ?o19_20 ?e19a ?e19b ?e19c ?e19d ?e19e ?e19f ?a21 ?a22 ?a23 ?a24 ?a25 ?a26 ?a27 ?a28 ?l28 ?v28 ?l28_0 ?v28_0 ?l28_1 ?v28_1 ?l28_2 ?v28_2 ?a29 ?a30 ?a31 ?a32 ?a33 ?a34 ?a35 ?a36
    (case a1 => k_is)
    (case l1 => k_is)
    (case c1 => k_is)
    (case k1 => k_is)
    (case a2 => k_is)
    (case l2 => k_is)
    (case c2 => k_is)
    (case k2 => k_is)
    (case a3 => k_is)
    (case l3 => k_is)
    (case c3 => k_is)
    (case k3 => k_is)
    (case a4 => k_is)
    (case l4 => k_is)
    (case c4 => k_is)
    (case k4 => k_is)
    (case a5 => k_is)
    (case l5 => k_is)
    (case c5 => k_is)
    (case k5 => k_is)
    (case a6 => k_is)
    (case l6 => k_is)
    (case c6 => k_is)
    (case k6 => k_is)
    (case a7 => k_is)
    (case l7 => k_is)
    (case c7 => k_is)
    (case k7 => k_is)
    (case a8 => k_is)
    (case l8 => k_is)
    (case c8 => k_is)
    (case k8 => k_is)
    (case a9 => k_is)
    (case l9 => k_is)
    (case c9 => k_is)
    (case k9 => k_is)
    (case a10 => k_is)
    (case l10 => k_is)
    (case c10 => k_is)
    (case k10 => k_is)
    (case a11 => k_is)
    (case l11 => k_is)
    (case c11 => k_is)
    (case k11 => k_is)
    (case a12 => k_is)
    (case l12 => k_is)
    (case c12 => k_is)
    (case k12 => k_is)
    (case a13 => k_is)
    (case l13 => k_is)
    (case c13 => k_is)
    (case k13 => k_is)
    (case a14 => k_is)
    (case l14 => k_is)
    (case c14 => k_is)
    (case k14 => k_is)
    (case a15 => k_is)
    (case l15 => k_is)
    (case c15 => k_is)
    (case k15 => k_is)
    (case a16 => k_is)
    (case l16 => k_is)
    (case c16 => k_is)
    (case k16 => k_is)
    (case a17 => k_is)
    (case l17 => k_is)
    (case c17 => k_is)
    (case k17 => k_is)
    (case a18 => k_is)
    (case x18 => k_exc)
    (case k18 => k_is)
    (case i18 => first | k_is | rfl)
    (case i18t => first | k_is | rfl)
    (case i18d => first | k_is | rfl)
    (case a19 => k_is)
    (case x19 => k_exc)
    (case k19 => k_is)
    (case i19 => first | k_is | rfl)
    (case i19t => first | k_is | rfl)
    (case i19d => first | k_is | rfl)
    (case a20 => k_is)
    (case x20 => k_exc)
    (case k20 => k_is)
    (case i20 => first | k_is | rfl)
    (case i20t => first | k_is | rfl)
    (case i20d => first | k_is | rfl)
    (case s19_18 => first | k_is | rfl)
    (case o19_19 => first | k_is | rfl)
    (case o19_20 => first | k_is | rfl)
    (case e19a => first | k_is | rfl)
    (case e19b => first | k_is | rfl)
    (case e19c => first | k_is | rfl)
    (case e19d => first | k_is | rfl)
    (case e19e => first | k_is | rfl)
    (case e19f => first | k_is | rfl)
    (case a21 => k_is)
    (case a22 => k_is)
    (case a23 => k_is)
    (case a24 => k_is)
    (case a25 => k_is)
    (case a26 => k_is)
    (case a27 => k_is)
    (case a28 => k_is)
    (case l28 => k_is)
    (case v28 => repeat' first | exact Paired.nil | refine Paired.cons ⟨_, rfl⟩ ?_ | refine Paired.cons rfl ?_)
    (case l28_0 => k_is)
    (case v28_0 => repeat' first | exact Paired.nil | refine Paired.cons ⟨_, rfl⟩ ?_ | refine Paired.cons rfl ?_)
    (case l28_1 => k_is)
    (case v28_1 => repeat' first | exact Paired.nil | refine Paired.cons ⟨_, rfl⟩ ?_ | refine Paired.cons rfl ?_)
    (case l28_2 => k_is)
    (case v28_2 => repeat' first | exact Paired.nil | refine Paired.cons ⟨_, rfl⟩ ?_ | refine Paired.cons rfl ?_)
    (case a29 => k_is)
    (case a30 => k_is)
    (case a31 => k_is)
    (case a32 => k_is)
    (case a33 => k_is)
    (case a34 => k_is)
    (case a35 => k_is)
    (case a36 => k_is)

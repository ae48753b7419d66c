
import PyProof.Rows.All
import Wide.All
import OpenK.AllK
import Wide.FinOn
import HandS.ForMost
import HandS.Wide
import HandS.IsInst
import HandS.FStr
import HandS.Zip
import PySem.Challenge.RW_stillroom_k03_hexadecimal_digits
set_option Elab.async false
set_option linter.all false
set_option maxRecDepth 100000
namespace K03
open PySem PySem.Spec PyProof.Rows L2

/-! ### rules with plainer readings -/
section
variable {X : Cx}
theorem CallR.of {f : Value} {r r' : List V → Hp → VK → Prop} (h : CallR X f r) (k : ∀ xs H Q, r' xs H Q → r xs H Q) : CallR X f r' := fun pins s σ H xs us Q I rv q => h pins s σ H xs us Q I rv (k xs H Q q)
theorem OpR.of {f : Value → Value → Sem Value} {r r' : R2} (h : OpR X f r) (k : ∀ x y H Q, r' x y H Q → r x y H Q) : OpR X f r' := fun pins s σ H x y v u Q I rx ry q => h pins s σ H x y v u Q I rx ry (k x y H Q q)
/-- the name of a plain value's type -/
def tnm : V → Option String
  | .non => some "NoneType"
  | .bl _ => some "bool"
  | .int _ => some "int"
  | .str _ => some "str"
  | _ => none
theorem tnm_int (i : Int) : tnm (.int i) = some "int" := rfl
theorem tnm_bl (b : Bool) : tnm (.bl b) = some "bool" := rfl
theorem tnm_str (x : Str) : tnm (.str x) = some "str" := rfl
theorem tnm_non : tnm .non = some "NoneType" := rfl
theorem tnm_ref (p : Addr) : tnm (.ref p) = none := rfl
theorem scal_ii (i j : Int) : scal (.int i) (.int j) = true := rfl
theorem scal_ss (i j : Str) : scal (.str i) (.str j) = true := rfl
theorem scal_bb (i j : Bool) : scal (.bl i) (.bl j) = true := rfl
theorem scal_nn : scal .non .non = true := rfl
theorem scal_in (i : Int) : scal (.int i) .non = true := rfl
theorem scal_ni (i : Int) : scal .non (.int i) = true := rfl
def rIsiB : List V → Hp → VK → Prop := fun vs H Q => (∃ x n a b, vs = [x, .ty n] ∧ tnm x = some a ∧ kitB a n = some b ∧ Q (.bl b) H) ∨
  (∃ p n xs b, vs = [.ref p, .ty n] ∧ H p = some (.lst xs) ∧ kitB "list" n = some b ∧ Q (.bl b) H) ∨ ∃ p n xs b, vs = [.ref p, .ty n] ∧ H p = some (.tup xs) ∧ kitB "tuple" n = some b ∧ Q (.bl b) H
theorem call_isiB : CallR X (.builtin "isinstance") rIsiB := CallR.of call_isi (by
  intro vs H Q h
  rcases h with ⟨x, n, a, b, rfl, ha, hb, q⟩ | ⟨p, n, xs, b, rfl, ha, hb, q⟩ | ⟨p, n, xs, b, rfl, ha, hb, q⟩
  · refine ⟨x, .ty n, .type a, .type n, b, rfl, .ty n, ?_, kit_ty hb, q⟩
    cases x <;> cases ha
    · exact .base .non
    · exact .base (.bl _)
    · exact .base (.int _)
    · exact .base (.str _)
  · exact ⟨.ref p, .ty n, .type "list", .type n, b, rfl, .ty n, .base (.lst ha), kit_ty hb, q⟩
  · exact ⟨.ref p, .ty n, .type "tuple", .type n, b, rfl, .ty n, .base (.tup ha), kit_ty hb, q⟩)
theorem kb1 : kitB "int" "int" = some true := by decide +kernel
theorem kb2 : kitB "int" "bool" = some false := by decide +kernel
theorem kb3 : kitB "bool" "bool" = some true := by decide +kernel
theorem kb4 : kitB "bool" "int" = some true := by decide +kernel
theorem kb5 : kitB "str" "str" = some true := by decide +kernel
theorem kb6 : kitB "str" "int" = some false := by decide +kernel
theorem kb7 : kitB "list" "list" = some true := by decide +kernel
theorem kb8 : kitB "tuple" "tuple" = some true := by decide +kernel
theorem kb9 : kitB "NoneType" "int" = some false := by decide +kernel
theorem kb10 : kitB "NoneType" "list" = some false := by decide +kernel
/-- len, a copy, an item of a tracked list -/
def rLenH : List V → Hp → VK → Prop := fun vs H Q => ∃ p xs, vs = [.ref p] ∧ H p = some (.lst xs) ∧ Q (.int xs.length) H
theorem call_lenH : CallR X (.builtin "len") rLenH := CallR.of call_len_seq (by
  rintro vs H Q ⟨p, xs, rfl, h, q⟩
  exact ⟨p, xs, rfl, .inl (.inl (.inl h)), q⟩)
def rLenT : List V → Hp → VK → Prop := fun vs H Q => ∃ p xs, vs = [.ref p] ∧ H p = some (.tup xs) ∧ Q (.int xs.length) H
theorem call_lenT : CallR X (.builtin "len") rLenT := CallR.of call_len_seq (by
  rintro vs H Q ⟨p, xs, rfl, h, q⟩
  exact ⟨p, xs, rfl, .inr (.inl (.inl h)), q⟩)
def rListH : List V → Hp → VK → Prop := fun vs H Q => ∃ p xs, vs = [.ref p] ∧ H p = some (.lst xs) ∧ ∀ l, H l = none → Q (.ref l) (upd H l (.lst xs))
theorem call_listH : CallR X (.type "list") rListH := CallR.of call_list_of (by
  rintro vs H Q ⟨p, xs, rfl, h, q⟩
  exact ⟨p, xs, rfl, .inl (.inl (.inl h)), q⟩)
theorem ints_dp {K : PySem.W.Frag} {H : Hp} : ∀ ns : List Int, DpAll K H (ns.map V.int) (ns.map PyData.int)
  | [] => .nil
  | n :: r => .cons (.int n) (ints_dp r)
theorem ints_eqv : ∀ ns ms : List Int, PyData.eqvAll (ns.map PyData.int) (ms.map PyData.int) = decide (ns = ms)
  | [], [] => by simp [PyData.eqvAll]
  | [], _ :: _ => by simp [PyData.eqvAll]
  | _ :: _, [] => by simp [PyData.eqvAll]
  | n :: r, m :: q => by
    rw [List.map_cons, List.map_cons, PyData.eqvAll, ints_eqv r q]
    simp only [PyData.eqv, List.cons.injEq, Bool.decide_and]
    by_cases h : n = m <;> simp [h]
theorem ints_lay : ∀ ns : List Int, PyData.canLayAll0 (ns.map PyData.int) = true
  | [] => rfl
  | _ :: r => by rw [List.map_cons, PyData.canLayAll0, ints_lay r]; rfl
theorem ints_depth : ∀ ns : List Int, PyData.depthAll (ns.map PyData.int) = 0
  | [] => rfl
  | _ :: r => by rw [List.map_cons, PyData.depthAll, ints_depth r]; rfl
theorem ints_shaped (ns : List Int) : SeqAt.shaped (.list (ns.map PyData.int)) = true := by
  unfold SeqAt.shaped
  rw [PyData.canLay0, ints_lay, PyData.depth, ints_depth]
  rfl
/-- == and != of two tracked lists of ints -/
def rEqIL : R2 := fun x y H Q => ∃ a b ns ms, x = .ref a ∧ y = .ref b ∧ H a = some (.lst (List.map V.int ns)) ∧ H b = some (.lst (List.map V.int ms)) ∧ Q (.bl (decide (ns = ms))) H
theorem op_eqIL (hu : X.A.units + 64 < cLine) : OpR X (compareOp .Eq) rEqIL := OpR.of (op_eqD hu) (by
  rintro x y H Q ⟨a, b, ns, ms, rfl, rfl, ha, hb, q⟩
  refine ⟨_, _, .lst (.inl (.inl ha)) (ints_dp ns), .lst (.inl (.inl hb)) (ints_dp ms), ints_shaped ns, ints_shaped ms, ?_⟩
  rw [PyData.eqv, ints_eqv]
  exact q)
def rNeIL : R2 := fun x y H Q => ∃ a b ns ms, x = .ref a ∧ y = .ref b ∧ H a = some (.lst (List.map V.int ns)) ∧ H b = some (.lst (List.map V.int ms)) ∧ Q (.bl (!decide (ns = ms))) H
theorem op_neIL (hu : X.A.units + 64 < cLine) : OpR X (compareOp .NotEq) rNeIL := OpR.of (op_neD hu) (by
  rintro x y H Q ⟨a, b, ns, ms, rfl, rfl, ha, hb, q⟩
  refine ⟨_, _, .lst (.inl (.inl ha)) (ints_dp ns), .lst (.inl (.inl hb)) (ints_dp ms), ints_shaped ns, ints_shaped ms, ?_⟩
  rw [PyData.eqv, ints_eqv]
  exact q)
/-- == of two tracked tuples of plain things -/
def dS : V → PyData
  | .int i => .int i
  | .bl b => .bool b
  | _ => .none
def isS : V → Bool
  | .int _ => true
  | .bl _ => true
  | .non => true
  | _ => false
theorem isS_dp {K : PySem.W.Frag} {H : Hp} : ∀ xs : List V, xs.all isS = true → DpAll K H xs (xs.map dS)
  | [], _ => .nil
  | x :: r, h => by
    rw [List.all_cons, Bool.and_eq_true] at h
    refine .cons ?_ (isS_dp r h.2)
    have h1 := h.1
    cases x <;> first | exact .int _ | exact .bl _ | exact .non | cases h1
theorem isS_lay : ∀ xs : List V, PyData.canLayAll0 (xs.map dS) = true
  | [] => rfl
  | x :: r => by rw [List.map_cons, PyData.canLayAll0, isS_lay r]; cases x <;> rfl
theorem isS_depth : ∀ xs : List V, PyData.depthAll (xs.map dS) = 0
  | [] => rfl
  | x :: r => by rw [List.map_cons, PyData.depthAll, isS_depth r]; cases x <;> rfl
theorem isS_shaped (xs : List V) : SeqAt.shaped (.tuple (xs.map dS)) = true := by
  unfold SeqAt.shaped
  rw [PyData.canLay0, isS_lay, PyData.depth, isS_depth]
  rfl
def rEqTS : R2 := fun x y H Q => ∃ a b xs ys, x = .ref a ∧ y = .ref b ∧ H a = some (.tup xs) ∧ H b = some (.tup ys) ∧ xs.all isS = true ∧ ys.all isS = true ∧ Q (.bl (PyData.eqvAll (xs.map dS) (ys.map dS))) H
theorem op_eqTS (hu : X.A.units + 64 < cLine) : OpR X (compareOp .Eq) rEqTS := OpR.of (op_eqD hu) (by
  rintro x y H Q ⟨a, b, xs, ys, rfl, rfl, ha, hb, h1, h2, q⟩
  refine ⟨_, _, .tup (.inl (.inl ha)) (isS_dp xs h1), .tup (.inl (.inl hb)) (isS_dp ys h2), isS_shaped xs, isS_shaped ys, ?_⟩
  rw [PyData.eqv]
  exact q)
theorem dS_int (i : Int) : dS (.int i) = .int i := rfl
theorem dS_bl (b : Bool) : dS (.bl b) = .bool b := rfl
theorem isS_int (i : Int) : isS (.int i) = true := rfl
theorem isS_bl (b : Bool) : isS (.bl b) = true := rfl
theorem eqv_ii (i j : Int) : PyData.eqv (.int i) (.int j) = decide (i = j) := by rw [PyData.eqv]; rfl
theorem eqv_bb (i j : Bool) : PyData.eqv (.bool i) (.bool j) = decide (i = j) := by rw [PyData.eqv]; cases i <;> cases j <;> rfl
theorem eqvAll_nil : PyData.eqvAll [] [] = true := by rw [PyData.eqvAll]
theorem eqvAll_cons (x y : PyData) (xs ys : List PyData) : PyData.eqvAll (x :: xs) (y :: ys) = (PyData.eqv x y && PyData.eqvAll xs ys) := by rw [PyData.eqvAll]
theorem ip_of {op : Operator} {r : R2} (h : OpR X (inplaceOp op) r) : PIp X op r := fun pins s σ H x y v u Q I r1 r2 q => h pins s σ H x y v u Q I r1 r2 q
theorem SlR.of {r r' : V → Option Int → Option Int → Hp → VK → Prop} (h : SlR X r) (k : ∀ x lo hi H Q, r' x lo hi H Q → r x lo hi H Q) : SlR X r' := fun pins s σ H x v vl vu lo hi sl Q I rx hs pl pu q => h pins s σ H x v vl vu lo hi sl Q I rx hs pl pu (k x lo hi H Q q)
/-- a slice of a tracked list -/
def rSlH : V → Option Int → Option Int → Hp → VK → Prop := fun x lo hi H Q => ∃ a xs, x = .ref a ∧ H a = some (.lst xs) ∧ ∀ p, H p = none → Q (.ref p) (upd H p (.lst (cutV xs lo hi)))
theorem sl_listH : SlR X rSlH := SlR.of sl_list (by
  rintro x lo hi H Q ⟨a, xs, rfl, h, q⟩
  exact ⟨a, xs, rfl, .inl (.inl h), q⟩)
/-- == and != of two tracked pairs of a list of ints and an int -/
theorem li_dp {K : PySem.W.Frag} {H : Hp} {q : Addr} {l : Int} {ns : List Int} (hq : H q = some (.lst (List.map V.int ns))) : DpAll K H [.ref q, .int l] [.list (ns.map PyData.int), .int l] := .cons (.lst (.inl (.inl hq)) (ints_dp ns)) (.cons (.int l) .nil)
theorem li_shaped (ns : List Int) (l : Int) : SeqAt.shaped (.tuple [.list (ns.map PyData.int), .int l]) = true := by
  unfold SeqAt.shaped
  rw [PyData.canLay0, PyData.canLayAll0, PyData.canLay0, ints_lay, PyData.canLayAll0, PyData.depth, PyData.depthAll, PyData.depth, ints_depth, PyData.depthAll]
  rfl
theorem li_eqv (ns ms : List Int) (l m : Int) : PyData.eqv (.tuple [.list (ns.map PyData.int), .int l]) (.tuple [.list (ms.map PyData.int), .int m]) = (decide (ns = ms) && decide (l = m)) := by
  rw [PyData.eqv, PyData.eqvAll, PyData.eqvAll, PyData.eqvAll, PyData.eqv, PyData.eqv, ints_eqv, Bool.and_true]
  rfl
def rEqLI : R2 := fun x y H Q => ∃ a b q r l m ns ms, x = .ref a ∧ y = .ref b ∧ H a = some (.tup [.ref q, .int l]) ∧ H b = some (.tup [.ref r, .int m]) ∧ H q = some (.lst (List.map V.int ns)) ∧ H r = some (.lst (List.map V.int ms)) ∧ Q (.bl (decide (ns = ms) && decide (l = m))) H
theorem op_eqLI (hu : X.A.units + 64 < cLine) : OpR X (compareOp .Eq) rEqLI := OpR.of (op_eqD hu) (by
  rintro x y H Q ⟨a, b, q, r, l, m, ns, ms, rfl, rfl, ha, hb, hq, hr, k⟩
  refine ⟨_, _, .tup (.inl (.inl ha)) (li_dp hq), .tup (.inl (.inl hb)) (li_dp hr), li_shaped ns l, li_shaped ms m, ?_⟩
  rw [li_eqv]
  exact k)
def rNeLI : R2 := fun x y H Q => ∃ a b q r l m ns ms, x = .ref a ∧ y = .ref b ∧ H a = some (.tup [.ref q, .int l]) ∧ H b = some (.tup [.ref r, .int m]) ∧ H q = some (.lst (List.map V.int ns)) ∧ H r = some (.lst (List.map V.int ms)) ∧ Q (.bl (!(decide (ns = ms) && decide (l = m)))) H
theorem op_neLI (hu : X.A.units + 64 < cLine) : OpR X (compareOp .NotEq) rNeLI := OpR.of (op_neD hu) (by
  rintro x y H Q ⟨a, b, q, r, l, m, ns, ms, rfl, rfl, ha, hb, hq, hr, k⟩
  refine ⟨_, _, .tup (.inl (.inl ha)) (li_dp hq), .tup (.inl (.inl hb)) (li_dp hr), li_shaped ns l, li_shaped ms m, ?_⟩
  rw [li_eqv]
  exact k)
def rIxH : R2 := fun x y H Q => ∃ p xs i v, x = .ref p ∧ y = .int i ∧ H p = some (.lst xs) ∧ atI xs i = some v ∧ Q v H
theorem IxR.of {r r' : R2} (h : IxR X r) (k : ∀ x y H Q, r' x y H Q → r x y H Q) : IxR X r' := fun va sl pins s σ H x y v u Q I rx ry q hs => h va sl pins s σ H x y v u Q I rx ry (k x y H Q q) hs
theorem ix_listH : IxR X rIxH := IxR.of ix_list (by
  rintro x y H Q ⟨p, xs, i, v, e1, e2, h, h2, q⟩
  exact ⟨p, xs, i, v, e1, e2, .inl (.inl h), h2, q⟩)
def rIxTH : R2 := fun x y H Q => ∃ p xs i v, x = .ref p ∧ y = .int i ∧ H p = some (.tup xs) ∧ atI xs i = some v ∧ Q v H
theorem ix_tupH : IxR X rIxTH := IxR.of ix_tup (by
  rintro x y H Q ⟨p, xs, i, v, e1, e2, h, h2, q⟩
  exact ⟨p, xs, i, v, e1, e2, .inl (.inl h), h2, q⟩)
end
/-- a place in bounds -/
theorem ixN_in {n : Nat} {k : Int} (h0 : 0 ≤ k) (h1 : k < n) : ixN n k = some k.toNat := by
  unfold ixN
  rw [if_pos h0, if_pos h1]
theorem atI_in {xs : List Int} {k : Int} (h0 : 0 ≤ k) (h1 : k < xs.length) : ∃ b, xs[k.toNat]? = some b ∧ atI (xs.map V.int) k = some (.int b) := by
  have h : k.toNat < xs.length := by omega
  refine ⟨xs[k.toNat], List.getElem?_eq_getElem h, ?_⟩
  unfold atI
  rw [List.length_map, ixN_in h0 h1]
  show (xs.map V.int)[k.toNat]? = _
  rw [List.getElem?_map, List.getElem?_eq_getElem h]
  rfl
theorem mod_in (x : Int) {m : Int} (h : 0 < m) : 0 ≤ x % m ∧ x % m < m := ⟨Int.emod_nonneg x (by omega), Int.emod_lt_of_pos x h⟩
theorem atI_c0 {α : Type} (x : α) (xs : List α) : atI (x :: xs) 0 = some x := atI_nat (j := 0) rfl
theorem atI_c1 {α : Type} (x y : α) (xs : List α) : atI (x :: y :: xs) 1 = some y := atI_nat (j := 1) rfl
theorem atI_c2 {α : Type} (x y z : α) (xs : List α) : atI (x :: y :: z :: xs) 2 = some z := atI_nat (j := 2) rfl
theorem atI_c3 {α : Type} (x y z u : α) (xs : List α) : atI (x :: y :: z :: u :: xs) 3 = some u := atI_nat (j := 3) rfl

theorem tyV_upd {K : PySem.W.Frag} {H : Hp} {p : Addr} {xs : List V} : tyV K "list" (.ref p) (upd H p (.lst xs)) = True := eq_true (.inl ⟨rfl, xs, .inl (.inl upd_same)⟩)
theorem nil_sz : (0 ≤ sizeLine) = True := eq_true (Nat.zero_le _)
/-- what a for asks once its walk stands -/
def Loop (J : It) (g : TG) (tb : TS) (D : Ends) (σ : L2.St) (H1 : Hp) : Prop := ∃ W : Nat → Nat → L2.St → Hp → Prop, (∃ m, W 0 m σ H1) ∧ ∀ i m σ H, W i m σ H →
  (J.stop i H ∧ D.nx σ H) ∨ (J.go i H ∧ ∃ N : L2.St → Hp → Prop, (∀ σ' H', N σ' H' → ∃ m', m' < m ∧ W (i + 1) m' σ' H') ∧ ∀ x H', J.yld i H x H' → g x σ H' fun σ2 H2 => tb { D with nx := N, ct := N, bk := D.nx } σ2 H2)
theorem tFor_eq {wi : TI} {g : TG} {tb : TS} {D : Ends} {σ : L2.St} {H : Hp} : tFor wi g tb D σ H = wi σ H fun J H1 => Loop J g tb D σ H1 := rfl
theorem lp_range {n : Nat} {g : TG} {tb : TS} {D : Ends} {σ : L2.St} {H : Hp} (Pv : Nat → L2.St → Hp → Prop) (h0 : Pv 0 σ H)
    (hs : ∀ i σ H, i < n → Pv i σ H → g (.int i) σ H fun σ2 H2 => tb { D with nx := Pv (i + 1), ct := Pv (i + 1), bk := D.nx } σ2 H2) (hd : ∀ σ H, Pv n σ H → D.nx σ H) : Loop (Itr 0 n) g tb D σ H :=
  for_range (lo := 0) Pv h0 (fun i σ H a b => by have := hs i σ H a b; rw [Int.zero_add]; exact this) hd
theorem lp_list {K : PySem.W.Frag} {a : Addr} {xs : List V} {g : TG} {tb : TS} {D : Ends} {σ : L2.St} {H : Hp} (Pv : Nat → L2.St → Hp → Prop) (h0 : Pv 0 σ H) (hl : ∀ i σ H, i ≤ xs.length → Pv i σ H → SqL K H a xs)
    (hs : ∀ i x σ H, xs[i]? = some x → Pv i σ H → g x σ H fun σ2 H2 => tb { D with nx := Pv (i + 1), ct := Pv (i + 1), bk := D.nx } σ2 H2) (hd : ∀ σ H, Pv xs.length σ H → D.nx σ H) : Loop (Itl K a) g tb D σ H := for_list Pv h0 hl hs hd
/-- the same for a comprehension -/
def LcLoop (J : It) (g : TG) (tt : TT) (te : TE) (vs : List Nat) (σ : L2.St) (H1 : Hp) (Q : VK) : Prop := ∀ D, H1 D = none → ∃ W : Nat → Nat → Hp → Prop, (∃ m, W 0 m (upd H1 D (.lst []))) ∧ ∀ i m H, W i m H →
  (J.stop i H ∧ Q (.ref D) H) ∨ (J.go i H ∧ ∃ Nx : Hp → Prop, (∀ H', Nx H' → ∃ m', m' < m ∧ W (i + 1) m' H') ∧ ∀ x H', J.yld i H x H' → g x (wipe σ vs) H' fun σ2 H2 => wipe σ2 vs = wipe σ vs ∧ tt σ2 H2 fun b H3 =>
    if b = true then te σ2 H3 fun y H4 => ∃ acc, H4 D = some (.lst acc) ∧ acc.length < sizeLine ∧ Nx (upd H4 D (.lst (acc ++ [y]))) else Nx H3)
theorem tLc_eq {wi : TI} {g : TG} {tt : TT} {te : TE} {vs : List Nat} {σ : L2.St} {H : Hp} {Q : VK} : tLc wi g tt te vs σ H Q = wi σ H fun J H1 => LcLoop J g tt te vs σ H1 Q := rfl
/-- a comprehension over a list, whose elements leave the heap as it is: L i is what i turns have made -/
theorem lc_pure {K : PySem.W.Frag} {a : Addr} {xs : List V} {g : TG} {tt : TT} {te : TE} {vs : List Nat} {σ : L2.St} {H1 : Hp} {Q : VK} (L : Nat → List V) (hS : SqL K H1 a xs) (h0 : L 0 = [])
    (hs : ∀ i x D, xs[i]? = some x → H1 D = none → g x (wipe σ vs) (upd H1 D (.lst (L i))) fun σ2 H2 => wipe σ2 vs = wipe σ vs ∧ tt σ2 H2 fun b H3 =>
      if b = true then te σ2 H3 fun y H4 => ∃ acc, H4 D = some (.lst acc) ∧ acc.length < sizeLine ∧ upd H4 D (.lst (acc ++ [y])) = upd H1 D (.lst (L (i + 1))) else H3 = upd H1 D (.lst (L (i + 1))))
    (hd : ∀ D, H1 D = none → Q (.ref D) (upd H1 D (.lst (L xs.length)))) : LcLoop (Itl K a) g tt te vs σ H1 Q := by
  intro D hD
  refine lc_list (K := K) (a := a) (xs := xs) (fun i H => H = upd H1 D (.lst (L i))) (by rw [h0]) (fun i H _ e => ?_) (fun i x H hx e => ?_) (fun H e => ?_)
  · subst e
    exact (show Same H1 _ from fun b o e => by rw [upd_ne (ne_of_none e hD)]; exact e).seq hS
  · subst e
    exact hs i x D hx hD
  · subst e
    exact hd D hD
theorem lc_pure_range {n : Nat} {g : TG} {tt : TT} {te : TE} {vs : List Nat} {σ : L2.St} {H1 : Hp} {Q : VK} (L : Nat → List V) (h0 : L 0 = [])
    (hs : ∀ i D, i < n → H1 D = none → g (.int i) (wipe σ vs) (upd H1 D (.lst (L i))) fun σ2 H2 => wipe σ2 vs = wipe σ vs ∧ tt σ2 H2 fun b H3 =>
      if b = true then te σ2 H3 fun y H4 => ∃ acc, H4 D = some (.lst acc) ∧ acc.length < sizeLine ∧ upd H4 D (.lst (acc ++ [y])) = upd H1 D (.lst (L (i + 1))) else H3 = upd H1 D (.lst (L (i + 1))))
    (hd : ∀ D, H1 D = none → Q (.ref D) (upd H1 D (.lst (L n)))) : LcLoop (Itr 0 n) g tt te vs σ H1 Q := by
  intro D hD
  refine lc_range (lo := 0) (n := n) (fun i H => H = upd H1 D (.lst (L i))) (by rw [h0]) (fun i H hi e => ?_) (fun H e => ?_)
  · subst e
    rw [Int.zero_add]
    exact hs i D hi hD
  · subst e
    exact hd D hD
theorem lp_zip {K : PySem.W.Frag} {a b : Addr} {xs ys : List V} {g : TG} {tb : TS} {D : Ends} {σ : L2.St} {H : Hp} (hl : xs.length = ys.length) (Pv : Nat → L2.St → Hp → Prop) (h0 : Pv 0 σ H) (hq : ∀ i σ H, Pv i σ H → SqL K H a xs ∧ SqL K H b ys)
    (hs : ∀ (i : Nat) (x y : V) (T : Addr) (σ : L2.St) (H : Hp), xs[i]? = some x → ys[i]? = some y → Pv i σ H → H T = none → g (.ref T) σ (upd H T (.tup [x, y])) fun σ2 H2 => tb { D with nx := Pv (i + 1), ct := Pv (i + 1), bk := D.nx } σ2 H2) (hd : ∀ σ H, Pv xs.length σ H → D.nx σ H) :
    Loop (Itz K a b) g tb D σ H := RZ.for_zipL hl Pv h0 hq hs hd
theorem lc_str {x : Str} {g : TG} {tt : TT} {te : TE} {vs : List Nat} {σ : L2.St} {H1 : Hp} {Q : VK} (L : Nat → List V) (h0 : L 0 = [])
    (hs : ∀ i c D, x.cps[i]? = some c → H1 D = none → g (.str ⟨#[c]⟩) (wipe σ vs) (upd H1 D (.lst (L i))) fun σ2 H2 => wipe σ2 vs = wipe σ vs ∧ tt σ2 H2 fun b H3 =>
      if b = true then te σ2 H3 fun y H4 => ∃ acc, H4 D = some (.lst acc) ∧ acc.length < sizeLine ∧ upd H4 D (.lst (acc ++ [y])) = upd H1 D (.lst (L (i + 1))) else H3 = upd H1 D (.lst (L (i + 1))))
    (hd : ∀ D, H1 D = none → Q (.ref D) (upd H1 D (.lst (L x.cps.size)))) : LcLoop (Its x) g tt te vs σ H1 Q := by
  intro D hD
  refine ⟨fun i m H => m = x.cps.size - i ∧ i ≤ x.cps.size ∧ H = upd H1 D (.lst (L i)), ⟨x.cps.size, by simp, Nat.zero_le _, by rw [h0]⟩, ?_⟩
  rintro i m H ⟨rfl, hi, rfl⟩
  by_cases hlt : i < x.cps.size
  · refine .inr ⟨hlt, fun H' => H' = upd H1 D (.lst (L (i + 1))), fun H' p' => ⟨x.cps.size - (i + 1), by omega, rfl, hlt, p'⟩, fun v H' y => ?_⟩
    obtain ⟨e, c, hc, ev⟩ := y
    subst e ev
    exact hs i c D hc hD
  · have e : i = x.cps.size := by omega
    subst e
    exact .inl ⟨Nat.le_refl _, hd D hD⟩
theorem lc_rangeC {lo c : Int} {n : Nat} {g : TG} {tt : TT} {te : TE} {vs : List Nat} {σ : L2.St} {H1 : Hp} {Q : VK} (L : Nat → List V) (h0 : L 0 = [])
    (hs : ∀ i D, i < n → H1 D = none → g (.int (lo + (i : Nat) * c)) (wipe σ vs) (upd H1 D (.lst (L i))) fun σ2 H2 => wipe σ2 vs = wipe σ vs ∧ tt σ2 H2 fun b H3 =>
      if b = true then te σ2 H3 fun y H4 => ∃ acc, H4 D = some (.lst acc) ∧ acc.length < sizeLine ∧ upd H4 D (.lst (acc ++ [y])) = upd H1 D (.lst (L (i + 1))) else H3 = upd H1 D (.lst (L (i + 1))))
    (hd : ∀ D, H1 D = none → Q (.ref D) (upd H1 D (.lst (L n)))) : LcLoop (Itc lo c n) g tt te vs σ H1 Q := by
  intro D hD
  refine ⟨fun i m H => m = n - i ∧ i ≤ n ∧ H = upd H1 D (.lst (L i)), ⟨n, by simp, Nat.zero_le _, by rw [h0]⟩, ?_⟩
  rintro i m H ⟨rfl, hi, rfl⟩
  by_cases hlt : i < n
  · refine .inr ⟨hlt, fun H' => H' = upd H1 D (.lst (L (i + 1))), fun H' p' => ⟨n - (i + 1), by omega, rfl, hlt, p'⟩, fun v H' y => ?_⟩
    obtain ⟨e, ev⟩ := y
    subst e ev
    exact hs i D hlt hD
  · have e : i = n := by omega
    subst e
    exact .inl ⟨Nat.le_refl _, hd D hD⟩
theorem small_two {a b : Int} (ha : -(2 ^ 62) ≤ a) (ha' : a < 2 ^ 62) (hb : -(2 ^ 62) ≤ b) (hb' : b < 2 ^ 62) : Builtin.Range.small a b 2 = true := by
  unfold Builtin.Range.small Builtin.Range.rangeSize
  simp only [Builtin.Range.rangeFitsLong, Bool.and_eq_true, Bool.or_eq_true, decide_eq_true_eq, beq_iff_eq, show ((2 : Int) > 0) by decide, if_true]
  split <;> omega
theorem rg_two {n : Nat} (h : n < 1000000) : RgC 0 ((n : Int) - 1) 2 (n / 2) := by
  refine ⟨by decide, by decide, small_two (by decide) (by decide) (by omega) (by omega), ?_⟩
  unfold Builtin.Range.rangeSize
  rw [if_pos (by decide)]
  split <;> omega
theorem same_upd {H : Hp} {p : Addr} {o : HO} (h : H p = none) : Same H (upd H p o) := fun b x e => by
  rw [upd_ne (ne_of_none e h)]
  exact e
theorem same_upd2 {H H' : Hp} {q : Addr} {o : HO} (s : Same H H') (h : H q = none) : Same H (upd H' q o) := fun b x e => by
  rw [upd_ne (ne_of_none e h)]
  exact s b x e
local macro_rules | `(tactic| walk_at "vc") => `(tactic| simp only [tSeq, tAsg, tOp, rI, rI0, rU, tUn, tCB, tCons, tNil, tVar, tC, gName, gSub, rSetL, tRet, tRetN, tIfS, tNext, tTest, tB, tDrop, tIf, tNot, tAnd, tOr, tAndV, tOrV, tNotV, tAug, ipI, tCall, tCmp, t2I, tBreak, tCont, tLst, tTup, tBM, tBM0, rAppend, tyV_upd, rLenH, rLenT, rListH, rIxH, rIxTH, rIxS, rEqIL, rNeIL, rEqTS, rSlH, rRep, rCat, rExtend, tSl, tPart, tNoPart, rIxT, gTup, gCons, gNil, atI_c0, atI_c1, atI_c2, atI_c3, dS_int, dS_bl, isS_int, isS_bl, eqv_ii, eqv_bb, eqvAll_nil, eqvAll_cons, List.all_cons, List.all_nil, Bool.and_true, Bool.true_and, rIsiB, tnm_int, tnm_bl, tnm_str, tnm_non, tnm_ref, kb1, kb2, kb3, kb4, kb5, kb6, kb7, kb8, kb9, kb10, rEq, rNe, scal_ii, scal_ss, scal_bb, scal_nn, scal_in, scal_ni,
  tFor_eq, tLc_eq, iRng1, iRng2, iList, iTup, iZip, iStr, iRng3, tChain, tYes, wipe, Int.sub_zero, Int.toNat_natCast, Int.natCast_add,
  cxOf, L2.start, List.map_cons, List.map_nil, List.length_cons, List.length_nil, List.reduceReplicate, List.cons_append, List.nil_append, List.append_nil, List.set_cons_zero, List.set_cons_succ, List.getElem?_cons_zero, List.getElem?_cons_succ,
  upd_same, upd_upd, HO.lst.injEq, HO.tup.injEq, nil_sz,
  Option.some.injEq, V.int.injEq, V.bl.injEq, V.ref.injEq, V.str.injEq, V.ty.injEq, exists_eq_left', exists_eq_left, exists_eq', exists_eq, Int.cast_ofNat_Int, Int.reduceEq, Int.reduceMul, Int.reduceAdd, Int.reduceSub, Int.natCast_zero, Int.mul_zero, Int.add_zero, exists_and_left, exists_and_right, List.cons.injEq, and_true, true_and, and_assoc, reduceCtorEq, false_and, and_false, exists_false, exists_const, or_false, false_or, Nat.reduceAdd, Nat.reduceSub, Int.reduceLT, Int.reduceLE, Int.reduceNeg, Int.reducePow, Int.reduceToNat, ite_true, ite_false, Bool.false_eq_true, Bool.not_true, Bool.not_false, decide_true, if_true, if_false])

/-! ### hexadecimal fields of an f-string -/
section
open Builtin Builtin.Float
def hexFmt (W : Nat) : FormatSpec := { fill := 48, align := 61, width := some W, type := some 120 }
def hexDig (n : Nat) : List Nat := (Nat.toDigits 16 n).map fun c => c.toNat
def hexF (W : Nat) (a : Int) : Str := intField' (hexFmt W) (decide (a < 0)) [] (hexDig a.natAbs) [] 4
theorem hexF_nn (W n : Nat) : hexF W (n : Int) = ⟨(List.replicate (W - (hexDig n).length) 48 ++ hexDig n).toArray⟩ := by
  have h0 : decide ((n : Int) < 0) = false := decide_eq_false (by omega)
  have h1 : (n : Int).natAbs = n := by omega
  have h2 : (hexDig n).isEmpty = false := by
    unfold hexDig
    rw [List.isEmpty_map]
    have := tDigits_len_ge 16 n
    cases e : Nat.toDigits 16 n with
    | nil => rw [e] at this; simp at this
    | cons x r => rfl
  unfold hexF intField'
  rw [h0, h1]
  simp [hexFmt, h2]
  omega
structure HexOk (spec : Str) (W : Nat) : Prop where
  hp : parseFormatSpec spec.cps.toList "int" 62 = .ok (hexFmt W)
  hne : (spec.length == 0) = false
  hasc : ((spec.cps.toList.drop 1).any (· ≥ 128) || (spec.cps.getD 0 0 ≥ 128 && !([60, 62, 61, 94] : List Nat).contains (spec.cps.getD 1 0))) = false
  hw : W ≤ 100000
  hsz : spec.length ≤ sizeLine
section
variable {prog : Program} {w : World} {A : Around} {E : Value → Shared → Prop} {s : Shared}
theorem formatField_hex {a : Int} {t : Tok} {spec : Str} {W : Nat} {Q : Value → Shared → Prop} (ok : HexOk spec W) (hlen : (hexF W a).length ≤ sizeLine)
    (h : Q (.str (hexF W a) (s.toks + 1)) { s with toks := s.toks + 1 + 1 }) : wpAny (model prog w) A (formatField (.int a t) spec) Q E s := by
  obtain ⟨hp, hne, hasc, hw, hsz⟩ := ok
  show wpAny _ _ (holding [.int a t] (pyFormat (.int a t) spec)) Q E s
  refine wpAny_holding ?_
  unfold pyFormat
  refine wpAny_bind (wpAny_mkStr ?_ hsz)
  refine wpAny_bind (m := callSpecial? (.int a t) (Str.ofString "__format__") [.str spec s.toks]) (wpAny_callSpecial?_slot (name := Str.ofString "__format__") (typeIs_int _ a t) slot_int_format ?_)
  refine wpAny_call (codeAny_call_builtin slot_int_format.plain entry_int_format (slot_int_format.check _ _ _ _ _ _ _ _ (typeIs_int _ a t) (args_int_format _ _) ?_))
  unfold Builtin.«int.__format__»
  simp only [selfAndOne, noKeywords, Int.intOfSelf, asInt?, asStr?, List.isEmpty_nil, if_true, pure_bind, bind_pure, bind_assoc, hne, hasc, Bool.false_eq_true, if_false,
    show (Value.str spec s.toks == Value.none) = false from rfl]
  refine wpAny_bind (wpAny_typeNameOf (T := "str") (typeIs_str _ _ _) (by decide) fun _ => ?_)
  first | refine wpAny_bind (wpAny_typeNameOfCut_int ?_) | refine wpAny_bind (wpAny_typeNameOf_int ?_)
  simp only [hp, show (hexFmt W).type = some 120 from rfl, Option.getD_some]
  rw [if_pos (by decide)]
  show wpAny _ _ (if _ then _ else _) _ _ _
  rw [if_neg (by simp [hexFmt]; omega)]
  simp only [Nat.reduceBEq, Bool.false_eq_true, if_false, if_true, show (hexFmt W).alt = false from rfl]
  show wpAny _ _ (retStr _) _ _ _
  unfold retStr
  refine wpAny_bind (wpAny_mkStr (wpAny_pure ?_) ?hs2)
  case hs2 => exact hlen
  refine wpAny_bind (wpAny_isInstance (typeIs_str _ _ _) isSubtype_str_str (wpAny_pure ?_))
  exact h
end
/-- {x:0Wx} of a number that is not negative -/
def tFmtX (W : Nat) (te : TE) : TE := fun σ H Q => te σ H fun x H1 => ∃ n : Nat, x = .int (n : Int) ∧ (hexF W (n : Int)).length ≤ sizeLine ∧ Q (.str (hexF W (n : Int))) H1
theorem pe_fmtX {X : Cx} {W : Nat} {e : Expr} {te : TE} {pos p1 p2 : Pos} {k : Nat} {sp : String} (ok : HexOk (Str.ofString sp) W) (he : PE X e te) :
    PE X (.FormattedValue e (-1) (some (.JoinedStr [.Constant (.str (Str.ofString sp)) k p1] p2)) pos) (tFmtX W te) := by
  refine ⟨fun pins s σ H Q I h => ?_⟩
  refine wpAny_FormattedValue_spec (thn (he.run pins s σ H _ I h) fun v s1 hv => ?_)
  obtain ⟨x, H1, I1, r1, n, rfl, hz, q⟩ := hv
  obtain ⟨t, rfl⟩ := r1
  refine (pe_joined1 (pe_str (X := X))).run pins s1 σ H1 (fun v H' => v = .str (Str.ofString sp) ∧ H' = H1) I1 ⟨rfl, rfl⟩ |> fun hh => thn hh fun v2 s2 hv2 => ?_
  obtain ⟨x2, H2, I2, r2, rfl, rfl⟩ := hv2
  obtain ⟨t2, rfl⟩ := r2
  exact ⟨_, t2, rfl, formatField_hex ok hz ⟨.str (hexF W (n : Int)), H2, (I2.tok _), ⟨_, rfl⟩, q⟩⟩
end

theorem ok02 : HexOk (Str.ofString "02x") 2 := ⟨by rfl, by decide +kernel, by decide +kernel, by decide, by decide +kernel⟩
def topS (i : Nat) : Stmt := PySem.Challenge.pw_stillroom_k03_hexadecimal_digits.main.body.getD i (.Pass ⟨0, 0, 0, 0⟩)
abbrev s_codes : Stmt := topS 1
abbrev s_spend : Stmt := topS 3
abbrev s_hex_digit : Stmt := topS 5
abbrev s_to_hex : Stmt := topS 6
abbrev s_from_hex : Stmt := topS 7
abbrev s__law_cell : Stmt := topS 9
abbrev s__law_twice : Stmt := topS 10
abbrev s__law_bytes : Stmt := topS 11
abbrev s__law_integer : Stmt := topS 12
abbrev s__law_is_list : Stmt := topS 13
abbrev s__law_digit : Stmt := topS 14
abbrev s__law_due : Stmt := topS 15
abbrev s__law_right : Stmt := topS 16
abbrev s__law_mixed : Stmt := topS 17
abbrev s_law : Stmt := topS 18
theorem sc_codes : FnScope ["text", "character"] ["text"] (defScope s_codes) := ⟨rfl, rfl, rfl, by decide +kernel, rfl, by decide +kernel, by decide +kernel⟩
theorem sc_spend : FnScope ["left", "cost"] ["left", "cost"] (defScope s_spend) := ⟨rfl, rfl, rfl, by decide +kernel, rfl, by decide +kernel, by decide +kernel⟩
theorem sc_hex_digit : FnScope ["code"] ["code"] (defScope s_hex_digit) := ⟨rfl, rfl, rfl, by decide +kernel, rfl, by decide +kernel, by decide +kernel⟩
theorem sc_to_hex : FnScope ["data", "found", "byte"] ["data"] (defScope s_to_hex) := ⟨rfl, rfl, rfl, by decide +kernel, rfl, by decide +kernel, by decide +kernel⟩
theorem sc_from_hex : FnScope ["data", "left", "enough", "values", "code", "value", "at"] ["data", "left"] (defScope s_from_hex) := ⟨rfl, rfl, rfl, by decide +kernel, rfl, by decide +kernel, by decide +kernel⟩
theorem sc__law_cell : FnScope ["script", "k"] ["script", "k"] (defScope s__law_cell) := ⟨rfl, rfl, rfl, by decide +kernel, rfl, by decide +kernel, by decide +kernel⟩
theorem sc__law_twice : FnScope ["cell", "k", "x"] ["cell", "k"] (defScope s__law_twice) := ⟨rfl, rfl, rfl, by decide +kernel, rfl, by decide +kernel, by decide +kernel⟩
theorem sc__law_bytes : FnScope ["cell", "size", "left", "great", "data", "k"] ["cell", "size"] (defScope s__law_bytes) := ⟨rfl, rfl, rfl, by decide +kernel, rfl, by decide +kernel, by decide +kernel⟩
theorem sc__law_integer : FnScope ["value"] ["value"] (defScope s__law_integer) := ⟨rfl, rfl, rfl, by decide +kernel, rfl, by decide +kernel, by decide +kernel⟩
theorem sc__law_is_list : FnScope ["found", "due", "one", "other"] ["found", "due"] (defScope s__law_is_list) := ⟨rfl, rfl, rfl, by decide +kernel, rfl, by decide +kernel, by decide +kernel⟩
theorem sc__law_digit : FnScope ["code", "row", "large", "value"] ["code"] (defScope s__law_digit) := ⟨rfl, rfl, rfl, by decide +kernel, rfl, by decide +kernel, by decide +kernel⟩
theorem sc__law_due : FnScope ["data", "left", "values", "code", "found", "k"] ["data", "left"] (defScope s__law_due) := ⟨rfl, rfl, rfl, by decide +kernel, rfl, by decide +kernel, by decide +kernel⟩
theorem sc__law_right : FnScope ["data", "left", "given", "found", "due"] ["data", "left"] (defScope s__law_right) := ⟨rfl, rfl, rfl, by decide +kernel, rfl, by decide +kernel, by decide +kernel⟩
theorem sc__law_mixed : FnScope ["codes_v", "cell", "out", "k", "draw", "code"] ["codes_v", "cell"] (defScope s__law_mixed) := ⟨rfl, rfl, rfl, by decide +kernel, rfl, by decide +kernel, by decide +kernel⟩
theorem sc_law : FnScope ["script", "data", "given", "codes_v", "byte", "mixed", "cell", "rows", "row", "left"] ["script"] (defScope s_law) := ⟨rfl, rfl, rfl, by decide +kernel, rfl, by decide +kernel, by decide +kernel⟩
/-- what the top has left, as far as the walk asks of it -/
structure Txt (K : PySem.W.Frag) (mg : Str → Option Value) where
  f_codes : Addr
  fd_codes : FuncData
  F_codes : Fun K "codes" "codes" s_codes f_codes fd_codes
  b_codes : Binds K fd_codes ["text"] []
  g_codes : mg "codes" = some (.ref f_codes)
  f_spend : Addr
  fd_spend : FuncData
  F_spend : Fun K "spend" "spend" s_spend f_spend fd_spend
  b_spend : Binds K fd_spend ["left", "cost"] []
  g_spend : mg "spend" = some (.ref f_spend)
  f_hex_digit : Addr
  fd_hex_digit : FuncData
  F_hex_digit : Fun K "hex_digit" "hex_digit" s_hex_digit f_hex_digit fd_hex_digit
  b_hex_digit : Binds K fd_hex_digit ["code"] []
  g_hex_digit : mg "hex_digit" = some (.ref f_hex_digit)
  f_to_hex : Addr
  fd_to_hex : FuncData
  F_to_hex : Fun K "to_hex" "to_hex" s_to_hex f_to_hex fd_to_hex
  b_to_hex : Binds K fd_to_hex ["data"] []
  g_to_hex : mg "to_hex" = some (.ref f_to_hex)
  f_from_hex : Addr
  fd_from_hex : FuncData
  F_from_hex : Fun K "from_hex" "from_hex" s_from_hex f_from_hex fd_from_hex
  b_from_hex : Binds K fd_from_hex ["data", "left"] []
  g_from_hex : mg "from_hex" = some (.ref f_from_hex)
  f__law_cell : Addr
  fd__law_cell : FuncData
  F__law_cell : Fun K "_law_cell" "_law_cell" s__law_cell f__law_cell fd__law_cell
  b__law_cell : Binds K fd__law_cell ["script", "k"] []
  g__law_cell : mg "_law_cell" = some (.ref f__law_cell)
  f__law_twice : Addr
  fd__law_twice : FuncData
  F__law_twice : Fun K "_law_twice" "_law_twice" s__law_twice f__law_twice fd__law_twice
  b__law_twice : Binds K fd__law_twice ["cell", "k"] []
  g__law_twice : mg "_law_twice" = some (.ref f__law_twice)
  f__law_bytes : Addr
  fd__law_bytes : FuncData
  F__law_bytes : Fun K "_law_bytes" "_law_bytes" s__law_bytes f__law_bytes fd__law_bytes
  b__law_bytes : Binds K fd__law_bytes ["cell", "size"] []
  g__law_bytes : mg "_law_bytes" = some (.ref f__law_bytes)
  f__law_integer : Addr
  fd__law_integer : FuncData
  F__law_integer : Fun K "_law_integer" "_law_integer" s__law_integer f__law_integer fd__law_integer
  b__law_integer : Binds K fd__law_integer ["value"] []
  g__law_integer : mg "_law_integer" = some (.ref f__law_integer)
  f__law_is_list : Addr
  fd__law_is_list : FuncData
  F__law_is_list : Fun K "_law_is_list" "_law_is_list" s__law_is_list f__law_is_list fd__law_is_list
  b__law_is_list : Binds K fd__law_is_list ["found", "due"] []
  g__law_is_list : mg "_law_is_list" = some (.ref f__law_is_list)
  f__law_digit : Addr
  fd__law_digit : FuncData
  F__law_digit : Fun K "_law_digit" "_law_digit" s__law_digit f__law_digit fd__law_digit
  b__law_digit : Binds K fd__law_digit ["code"] []
  g__law_digit : mg "_law_digit" = some (.ref f__law_digit)
  f__law_due : Addr
  fd__law_due : FuncData
  F__law_due : Fun K "_law_due" "_law_due" s__law_due f__law_due fd__law_due
  b__law_due : Binds K fd__law_due ["data", "left"] []
  g__law_due : mg "_law_due" = some (.ref f__law_due)
  f__law_right : Addr
  fd__law_right : FuncData
  F__law_right : Fun K "_law_right" "_law_right" s__law_right f__law_right fd__law_right
  b__law_right : Binds K fd__law_right ["data", "left"] []
  g__law_right : mg "_law_right" = some (.ref f__law_right)
  f__law_mixed : Addr
  fd__law_mixed : FuncData
  F__law_mixed : Fun K "_law_mixed" "_law_mixed" s__law_mixed f__law_mixed fd__law_mixed
  b__law_mixed : Binds K fd__law_mixed ["codes_v", "cell"] []
  g__law_mixed : mg "_law_mixed" = some (.ref f__law_mixed)
  f_law : Addr
  fd_law : FuncData
  F_law : Fun K "law" "law" s_law f_law fd_law
  b_law : Binds K fd_law ["script"] []
  g_law : mg "law" = some (.ref f_law)
  z_abs : mg "abs" = none
  z_bool : mg "bool" = none
  z_int : mg "int" = none
  z_isinstance : mg "isinstance" = none
  z_len : mg "len" = none
  z_list : mg "list" = none
  z_max : mg "max" = none
  z_ord : mg "ord" = none
  z_range : mg "range" = none
  z_tuple : mg "tuple" = none
  z_zip : mg "zip" = none
/-! ### the law's own helpers -/
/-- the cell k of the script -/
def cellA (ns : List Int) (k : Nat) : Int := ns.getD k 0
def spCell (K : PySem.W.Frag) : Sp := fun vs H Q _ => ∃ (a : Addr) (ns : List Int) (k : Nat), vs = [.ref a, .int (k : Int)] ∧ SqL K H a (ns.map V.int) ∧ Q (.int (cellA ns k)) H
def tw (c k : Int) : Int :=
  let x := (c * 48271 + k * 69621 + 7) % 2147483647
  let y := (x * x + k * 40692 + 3) % 2147483629
  let z := (y * y + k * 30269 + 5) % 2147483587
  z / 64
def spTwice : Sp := fun vs H Q _ => ∃ (c k : Int), vs = [.int c, .int k] ∧ Q (.int (tw c k)) H
def absI (c : Int) : Int := if c < 0 then -c else c
/-- the law's drawn bytes, turn by turn: what is left of the cell, the bytes so far -/
def byR (c : Int) : Nat → Int × List Int
  | 0 => (absI c, [])
  | i + 1 => if 1000000000000000000 ≤ absI c ∧ 0 < (byR c i).1 then ((byR c i).1 / 256, (byR c i).2 ++ [(byR c i).1 % 256])
      else ((byR c i).1, (byR c i).2 ++ [tw c i % 256])
def byL (c : Int) (n : Nat) : List Int := (byR c n).2
theorem byL_len (c : Int) : ∀ n, (byL c n).length = n
  | 0 => rfl
  | n + 1 => by
    have ih := byL_len c n
    unfold byL at ih ⊢
    unfold byR
    split <;> simp [ih]
theorem byL_mem (c : Int) : ∀ n, ∀ b ∈ byL c n, 0 ≤ b ∧ b < 256
  | 0 => by intro b h; cases h
  | n + 1 => by
    have ih := byL_mem c n
    intro b h
    unfold byL at ih h
    unfold byR at h
    split at h
    all_goals
      rcases List.mem_append.mp h with h | h
      · exact ih b h
      · simp at h; omega
theorem absI_eq (c : Int) : (if c < 0 then -c else c) = absI c := rfl
theorem absI_nn (c : Int) : 0 ≤ absI c := by
  unfold absI
  split <;> omega
def spBytes : Sp := fun vs H Q _ => ∃ (c : Int) (n : Nat), vs = [.int c, .int (n : Int)] ∧ n ≤ 100000 ∧ ∀ p, H p = none → Q (.ref p) (upd H p (.lst ((byL c n).map V.int)))
/-- the answer of a call of the drawn bytes, with a size that is a remainder -/
theorem bytes_mod {c x m : Int} {H : Hp} {Q : VK} {E : XK} (hm : 0 < m) (hm2 : m ≤ 100000) (h : ∀ p, H p = none → Q (.ref p) (upd H p (.lst ((byL c (x % m).toNat).map V.int)))) :
    spBytes [V.int c, V.int (x % m)] H Q E := by
  have h0 := Int.emod_nonneg x (show m ≠ 0 by omega)
  have h1 := Int.emod_lt_of_pos x hm
  exact ⟨c, (x % m).toNat, by rw [Int.toNat_of_nonneg h0], by omega, h⟩
theorem cmul_c {i j : Int} (h1 : -(2 ^ 64) < j) (h2 : j < 2 ^ 64) : CMul i j := .inr ⟨h1, h2⟩
theorem cmul_m {x m y : Int} (h1 : 0 < m) (h2 : m ≤ 2 ^ 64) : CMul (x % m) y := by
  have a := Int.emod_nonneg x (show m ≠ 0 by omega)
  have b := Int.emod_lt_of_pos x h1
  exact .inl ⟨by omega, by omega⟩

section
variable {P : Program} {w : World} {K : PySem.W.Frag} {mg : Str → Option Value} {base : Heap}
theorem ok__law_cell (T : Txt K mg) : FnOk P w K mg base CX0 1 T.f__law_cell T.fd__law_cell ["script", "k"] (spCell K) := by
  refine T.F__law_cell.ok sc__law_cell (fun vs H Q E h => ?_) (fun cdv A outer s H vs Q E hr h => ?_)
  · obtain ⟨a, ns, k, rfl, _⟩ := h
    rfl
  · obtain ⟨a, ns, k, rfl, hS, q⟩ := h
    refine ⟨_, (pss_cons (ps_if (pt_cmpR op_lt (pv 1) (pe_callB call_len_seq (by rfl) T.z_len PySem.boot_len (pa_cons (pv 0) pa_nil)) (nomark _)) (pss_one (ps_ret (pe_callTy call_int1 (by rfl) T.z_int (by decide +kernel) (pa_cons (pe_ix ix_list (pv 0) (pv 1) (fun _ _ => rfl)) pa_nil)))) pss_nil)
      (pss_one (ps_ret pe_int))), ?_⟩
    refine ⟨_, rfl, _, rfl, a, _, rfl, .inl hS, _, _, rfl, rfl, _, rfl, ite2 (fun e => ?_) (fun e => ?_)⟩
    · have e1 := of_decide_eq_true e
      rw [List.length_map] at e1
      have hk : k < ns.length := by omega
      refine ⟨_, rfl, _, rfl, a, _, _, .int (cellA ns k), rfl, rfl, hS, ?_, .inl ⟨_, rfl, q⟩⟩
      refine atI_nat ?_
      rw [List.getElem?_map, List.getElem?_eq_getElem hk]
      simp [cellA, hk]
    · have e1 : ¬ ((k : Int) < ((ns.map V.int).length : Int)) := fun z => e (decide_eq_true z)
      rw [List.length_map] at e1
      have hk : ns.length ≤ k := by omega
      have e0 : cellA ns k = 0 := by simp [cellA, hk]
      rw [e0] at q
      exact q
end

section
variable {P : Program} {w : World} {K : PySem.W.Frag} {mg : Str → Option Value} {base : Heap}
theorem ok__law_twice (T : Txt K mg) : FnOk P w K mg base CX0 1 T.f__law_twice T.fd__law_twice ["cell", "k"] spTwice := by
  refine T.F__law_twice.ok sc__law_twice (fun vs H Q E h => ?_) (fun cdv A outer s H vs Q E hr h => ?_)
  · obtain ⟨c, k, rfl, _⟩ := h
    rfl
  · obtain ⟨c, k, rfl, q⟩ := h
    refine ⟨_, (pss_cons (ps_set (i := 2) sc__law_twice.nd rfl (Or.inl rfl) (pe_op op_mod (pe_callTy call_int1 (by rfl) T.z_int (by decide +kernel) (pa_cons (pe_op op_add (pe_op op_add (pe_op op_mul (pv 0) pe_int) (pe_op op_mul (pv 1) pe_int)) pe_int) pa_nil)) pe_int))
      (pss_cons (ps_set (i := 2) sc__law_twice.nd rfl (Or.inl rfl) (pe_op op_mod (pe_callTy call_int1 (by rfl) T.z_int (by decide +kernel) (pa_cons (pe_op op_add (pe_op op_add (pe_op op_mul (pv 2) (pv 2)) (pe_op op_mul (pv 1) pe_int)) pe_int) pa_nil)) pe_int))
      (pss_cons (ps_set (i := 2) sc__law_twice.nd rfl (Or.inl rfl) (pe_op op_mod (pe_callTy call_int1 (by rfl) T.z_int (by decide +kernel) (pa_cons (pe_op op_add (pe_op op_add (pe_op op_mul (pv 2) (pv 2)) (pe_op op_mul (pv 1) pe_int)) pe_int) pa_nil)) pe_int))
      (pss_one (ps_ret (pe_op op_fdiv (pv 2) pe_int)))))), ?_⟩
    walk_at "vc"
    refine ⟨cmul_c (by decide) (by decide), cmul_c (by decide) (by decide), cmul_m (by decide) (by decide), cmul_c (by decide) (by decide), cmul_m (by decide) (by decide), cmul_c (by decide) (by decide), ⟨by decide, by decide⟩, ?_⟩
    exact q
theorem ok__law_bytes (T : Txt K mg) : FnOk P w K mg base CX0 2 T.f__law_bytes T.fd__law_bytes ["cell", "size"] spBytes := by
  refine T.F__law_bytes.ok sc__law_bytes (fun vs H Q E h => ?_) (fun cdv A outer s H vs Q E hr h => ?_)
  · obtain ⟨c, n, rfl, _⟩ := h
    rfl
  · obtain ⟨c, n, rfl, hn, q⟩ := h
    refine ⟨_, (pss_cons (ps_set (i := 2) sc__law_bytes.nd rfl (Or.inl rfl) (pe_callB call_abs (by rfl) T.z_abs (by decide +kernel) (pa_cons (pe_callTy call_int1 (by rfl) T.z_int (by decide +kernel) (pa_cons (pv 0) pa_nil)) pa_nil)))
      (pss_cons (ps_set (i := 3) sc__law_bytes.nd rfl (Or.inl rfl) (pe_cmpR op_ge (pv 2) (pe_op op_pow pe_int pe_int) (nomark _)))
      (pss_cons (ps_set (i := 4) sc__law_bytes.nd rfl (Or.inl rfl) (pe_lst pa_nil))
      (pss_cons (ps_for PassesOwn.never rfl (pi_range1 (by rfl) T.z_range (pa_cons (pv 1) pa_nil)) (pg_name (i := 5) sc__law_bytes.nd rfl (Or.inl rfl)) (pss_one (ps_if (PW.pt (pw_and (pt_val (pv 3)) (pw_and1 (pt_cmpR op_gt (pv 2) pe_int (nomark _))))) (pss_cons (ps_expr (pe_bm PySem.F.plainAttrs_list PySem.F.slot_list_append PySem.F.type_list_append mt_append (pv 4) (pa_cons (pe_op op_mod (pe_callTy call_int1 (by rfl) T.z_int (by decide +kernel) (pa_cons (pv 2) pa_nil)) pe_int) pa_nil)))
      (pss_one (ps_set (i := 2) sc__law_bytes.nd rfl (Or.inl rfl) (pe_op op_fdiv (pv 2) pe_int)))) (pss_one (ps_expr (pe_bm PySem.F.plainAttrs_list PySem.F.slot_list_append PySem.F.type_list_append mt_append (pv 4) (pa_cons (pe_op op_mod (pe_callTy call_int1 (by rfl) T.z_int (by decide +kernel) (pa_cons (pe_call (ok__law_twice T) hr (by rfl) T.g__law_twice T.F__law_twice.kp T.b__law_twice .nil pass0 (pa_cons (pv 0) (pa_cons (pv 5) pa_nil))) pa_nil)) pe_int) pa_nil)))))))
      (pss_one (ps_ret (pv 4))))))), ?_⟩
    walk_at "vc"
    refine ⟨⟨by decide, by decide, by decide⟩, fun p hp => ?_⟩
    refine ⟨by omega, by omega, lp_range (fun i σ H' => ∃ kv, σ = [some (.int c), some (.int n), some (.int (byR c i).1), some (.bl (decide (1000000000000000000 ≤ absI c))), some (.ref p), kv] ∧ H' = upd H p (.lst ((byR c i).2.map V.int))) ⟨_, rfl, rfl⟩ ?_ ?_⟩
    · rintro i σ H' hi ⟨kv, rfl, rfl⟩
      have hl : (byR c i).2.length = i := byL_len c i
      have hz : i < sizeLine := Nat.lt_of_lt_of_le (show i < 1000000 by omega) (by decide)
      simp only [byR]
      walk_at "vc"
      simp only [spTwice]
      walk_at "vc"
      simp only [decide_eq_true_eq, List.length_map, hl, hz, true_and, exists_eq', and_true, Int.reduceLT]
      by_cases h1 : 1000000000000000000 ≤ absI c
      · by_cases h2 : 0 < (byR c i).1
        · simp only [h1, h2, and_self, if_true, List.map_append, List.map_cons, List.map_nil, and_true]
          exact ⟨by decide, by decide⟩
        · simp only [h1, h2, and_false, if_true, if_false, List.map_append, List.map_cons, List.map_nil, and_true]
      · simp only [h1, false_and, if_false, List.map_append, List.map_cons, List.map_nil, and_true]
    · rintro σ H' ⟨kv, rfl, rfl⟩
      walk_at "vc"
      exact q p hp
end


section
variable {P : Program} {w : World} {K : PySem.W.Frag} {mg : Str → Option Value} {base : Heap}
/-- an int is one -/
def spInteger : Sp := fun vs H Q _ => ∃ i : Int, vs = [.int i] ∧ Q (.bl true) H
theorem ok__law_integer (T : Txt K mg) : FnOk P w K mg base CX0 1 T.f__law_integer T.fd__law_integer ["value"] spInteger := by
  refine T.F__law_integer.ok sc__law_integer (fun vs H Q E h => ?_) (fun cdv A outer s H vs Q E hr h => ?_)
  · obtain ⟨i, rfl, _⟩ := h
    rfl
  · obtain ⟨i, rfl, q⟩ := h
    refine ⟨_, (pss_one (ps_ret (pe_and (pe_callB call_isiB (by rfl) T.z_isinstance (by decide +kernel) (pa_cons (pv 0) (pa_cons (pe_bltn (v := .ty "int") (u := .type "int") (by rfl) T.z_int (by decide +kernel) rfl) pa_nil))) (pe_one (pe_not (pe_callB call_isiB (by rfl) T.z_isinstance (by decide +kernel) (pa_cons (pv 0) (pa_cons (pe_bltn (v := .ty "bool") (u := .type "bool") (by rfl) T.z_bool (by decide +kernel) rfl) pa_nil)))))))), ?_⟩
    walk_at "vc"
    exact q
end

section
variable {P : Program} {w : World} {K : PySem.W.Frag} {mg : Str → Option Value} {base : Heap}
/-- two lists of ints that are the same -/
def spIsList : Sp := fun vs H Q _ => ∃ (p q : Addr) (ns : List Int), vs = [.ref p, .ref q] ∧ H p = some (.lst (ns.map V.int)) ∧ H q = some (.lst (ns.map V.int)) ∧ ∀ H', Same H H' → Q (.bl true) H'
theorem ok__law_is_list (T : Txt K mg) : FnOk P w K mg base CX0 2 T.f__law_is_list T.fd__law_is_list ["found", "due"] spIsList := by
  refine T.F__law_is_list.ok sc__law_is_list (fun vs H Q E h => ?_) (fun cdv A outer s H vs Q E hr h => ?_)
  · obtain ⟨p, q, ns, rfl, _⟩ := h
    rfl
  · obtain ⟨p, q, ns, rfl, hp, hq, k⟩ := h
    refine ⟨_, (pss_cons (ps_if (PW.pt (pw_or (pt_not (pt_val (pe_callB call_isiB (by rfl) T.z_isinstance (by decide +kernel) (pa_cons (pv 0) (pa_cons (pe_bltn (v := .ty "list") (u := .type "list") (by rfl) T.z_list (by decide +kernel) rfl) pa_nil))))) (pw_or1 (pt_cmpR op_ne (pe_callB call_lenH (by rfl) T.z_len PySem.boot_len (pa_cons (pv 0) pa_nil)) (pe_callB call_lenH (by rfl) T.z_len PySem.boot_len (pa_cons (pv 1) pa_nil)) (nomark _))))) (pss_one (ps_ret pe_bl)) pss_nil)
      (pss_cons (ps_for PassesOwn.never rfl (pi_zip (by rfl) T.z_zip (pa_cons (pv 0) (pa_cons (pv 1) pa_nil))) (pg_tup (by rfl) (pgs_cons (pg_name (i := 2) sc__law_is_list.nd rfl (Or.inl rfl)) (pgs_cons (pg_name (i := 3) sc__law_is_list.nd rfl (Or.inl rfl)) pgs_nil))) (pss_one (ps_if (PW.pt (pw_or (pt_not (pt_val (pe_call (ok__law_integer T) hr (by rfl) T.g__law_integer T.F__law_integer.kp T.b__law_integer .nil pass0 (pa_cons (pv 2) pa_nil)))) (pw_or1 (pt_cmpR op_ne (pv 2) (pv 3) (nomark _))))) (pss_one (ps_ret pe_bl)) pss_nil)))
      (pss_one (ps_ret pe_bl)))), ?_⟩
    walk_at "vc"
    simp only [hp, hq]
    walk_at "vc"
    refine ⟨⟨_, .inl (.inl hp)⟩, ⟨_, .inl (.inl hq)⟩, lp_zip (xs := ns.map V.int) (ys := ns.map V.int) rfl (fun i σ H' => ∃ ov uv, σ = [some (.ref p), some (.ref q), ov, uv] ∧ Same H H') ⟨none, none, rfl, Same.refl H⟩ ?_ ?_ ?_⟩
    · rintro i σ H' ⟨ov, uv, rfl, sm⟩
      exact ⟨.inl (.inl (sm _ _ hp)), .inl (.inl (sm _ _ hq))⟩
    · rintro i x y t σ H' hx hy ⟨ov, uv, rfl, sm⟩ ht
      rw [List.getElem?_map] at hx hy
      obtain ⟨b, hb1, rfl⟩ := Option.map_eq_some_iff.mp hx
      obtain ⟨c, hc1, rfl⟩ := Option.map_eq_some_iff.mp hy
      have e : b = c := Option.some.inj (hb1.symm.trans hc1)
      subst e
      refine ⟨t, [.int b, .int b], rfl, .inl (.inl upd_same), rfl, ?_⟩
      walk_at "vc"
      simp only [spInteger]
      walk_at "vc"
      exact sm.trans (same_upd ht)
    · rintro σ H' ⟨ov, uv, rfl, sm⟩
      walk_at "vc"
      exact k H' sm
end

/-! ### spending -/
def cl (c : Int) : Int := if 0 > c then 0 else c
theorem cl_eq (c : Int) : (if 0 > c then 0 else c) = cl c := rfl
theorem cl_nat (n : Nat) : cl (n : Int) = n := by
  unfold cl
  rw [if_neg (by omega)]
def spdL (l c : Int) : Int := if l < cl c then 0 else l - cl c
def spdB (l c : Int) : Bool := !decide (l < cl c)
def spdV (l c : Int) : List V := [.int (spdL l c), .bl (spdB l c)]
def spSpend : Sp := fun vs H Q _ => ∃ l c : Int, vs = [.int l, .int c] ∧ ∀ p, H p = none → Q (.ref p) (upd H p (.tup (spdV l c)))
section
variable {P : Program} {w : World} {K : PySem.W.Frag} {mg : Str → Option Value} {base : Heap}
theorem ok_spend (T : Txt K mg) : FnOk P w K mg base CX0 1 T.f_spend T.fd_spend ["left", "cost"] spSpend := by
  refine T.F_spend.ok sc_spend (fun vs H Q E h => ?_) (fun cdv A outer s H vs Q E hr h => ?_)
  · obtain ⟨l, c, rfl, _⟩ := h
    rfl
  · obtain ⟨l, c, rfl, q⟩ := h
    refine ⟨_, (pss_cons (ps_set (i := 1) sc_spend.nd rfl (Or.inl rfl) (pe_callB (call_max2 rfl) (by rfl) T.z_max (by decide +kernel) (pa_cons (pv 1) (pa_cons pe_int pa_nil))))
      (pss_cons (ps_if (pt_cmpR op_gt (pv 1) (pv 0) (nomark _)) (pss_one (ps_ret (pe_tup (pa_cons pe_int (pa_cons pe_bl pa_nil))))) pss_nil)
      (pss_one (ps_ret (pe_tup (pa_cons (pe_op op_sub (pv 0) (pv 1)) (pa_cons pe_bl pa_nil))))))), ?_⟩
    walk_at "vc"
    rw [cl_eq]
    unfold spdV spdL spdB at q
    refine ite2 (fun e => ?_) (fun e => ?_)
    · have e1 := of_decide_eq_true e
      simp only [if_pos e1, decide_eq_true e1, Bool.not_true] at q
      exact ⟨by decide, q⟩
    · have e1 : ¬ l < cl c := fun z => e (decide_eq_true z)
      simp only [if_neg e1, decide_eq_false e1, Bool.not_false] at q
      exact ⟨by decide, q⟩
end

/-! ### digits -/
def hexv (c : Int) : Int := if 48 ≤ c ∧ c ≤ 57 then c - 48 else if 65 ≤ c ∧ c ≤ 70 then c - 55 else if 97 ≤ c ∧ c ≤ 102 then c - 87 else -1
def fhV (ns : List Int) : List Int := (ns.map hexv).filter fun v => decide (0 ≤ v)
def fh (vs : List Int) : List Int := (List.range (vs.length / 2)).map fun k => vs.getD (2 * k) 0 * 16 + vs.getD (2 * k + 1) 0
def fhR (ns : List Int) (left : Int) : List Int := if left < ns.length then [] else fh (fhV ns)
def fhL (ns : List Int) (left : Int) : Int := if left < ns.length then 0 else left - ns.length
theorem fhV_take {ns : List Int} {i : Nat} {c : Int} (h : ns[i]? = some c) : fhV (ns.take (i + 1)) = fhV (ns.take i) ++ (if 0 ≤ hexv c then [hexv c] else []) := by
  unfold fhV
  rw [List.take_add_one, h, List.map_append, List.filter_append]
  congr 1
  by_cases e : 0 ≤ hexv c <;> simp [e]
theorem fhV_len (ns : List Int) : (fhV ns).length ≤ ns.length := by
  unfold fhV
  exact Nat.le_trans (List.length_filter_le _ _) (Nat.le_of_eq (List.length_map _))
theorem fh_len (vs : List Int) : (fh vs).length = vs.length / 2 := by
  unfold fh
  rw [List.length_map, List.length_range]
theorem fh_take {vs : List Int} {i : Nat} {b c : Int} (hb : vs[2 * i]? = some b) (hc : vs[2 * i + 1]? = some c) (hi : i < vs.length / 2) : (fh vs).take (i + 1) = (fh vs).take i ++ [b * 16 + c] := by
  rw [List.take_add_one]
  congr 1
  unfold fh
  rw [List.getElem?_map, List.getElem?_range hi]
  show [vs.getD (2 * i) 0 * 16 + vs.getD (2 * i + 1) 0] = _
  rw [List.getD_eq_getElem?_getD, List.getD_eq_getElem?_getD, hb, hc]
  rfl
section
variable {P : Program} {w : World} {K : PySem.W.Frag} {mg : Str → Option Value} {base : Heap}
def spHexDigit : Sp := fun vs H Q _ => ∃ c : Int, vs = [.int c] ∧ Q (.int (hexv c)) H
theorem ok_hex_digit (T : Txt K mg) : FnOk P w K mg base CX0 1 T.f_hex_digit T.fd_hex_digit ["code"] spHexDigit := by
  refine T.F_hex_digit.ok sc_hex_digit (fun vs H Q E h => ?_) (fun cdv A outer s H vs Q E hr h => ?_)
  · obtain ⟨c, rfl, _⟩ := h
    rfl
  · obtain ⟨c, rfl, q⟩ := h
    refine ⟨_, (pss_cons (ps_if (pt_chain op_le op_le pe_int (pv 0) pe_int) (pss_one (ps_ret (pe_op op_sub (pv 0) pe_int))) pss_nil)
      (pss_cons (ps_if (pt_chain op_le op_le pe_int (pv 0) pe_int) (pss_one (ps_ret (pe_op op_sub (pv 0) pe_int))) pss_nil)
      (pss_cons (ps_if (pt_chain op_le op_le pe_int (pv 0) pe_int) (pss_one (ps_ret (pe_op op_sub (pv 0) pe_int))) pss_nil)
      (pss_one (ps_ret (pe_un un_neg pe_int)))))), ?_⟩
    walk_at "vc"
    have e : ∀ v, v = hexv c → Q (V.int v) H := fun v e => e ▸ q
    simp only [decide_eq_true_eq]
    repeat' (refine ite2 (fun _ => ?_) (fun _ => ?_))
    all_goals
      refine e _ ?_
      unfold hexv
      repeat' split
      all_goals omega
def spCodes : Sp := fun vs H Q _ => ∃ z : Str, vs = [.str z] ∧ z.length ≤ 100000 ∧ ∀ p, H p = none → Q (.ref p) (upd H p (.lst (z.cps.toList.map fun (n : Nat) => V.int (n : Int))))
theorem ok_codes (T : Txt K mg) : FnOk P w K mg base CX0 1 T.f_codes T.fd_codes ["text"] spCodes := by
  refine T.F_codes.ok sc_codes (fun vs H Q E h => ?_) (fun cdv A outer s H vs Q E hr h => ?_)
  · obtain ⟨z, rfl, _⟩ := h
    rfl
  · obtain ⟨z, rfl, hz, q⟩ := h
    refine ⟨_, (pss_one (ps_ret (pe_lc (own := [("character", 1)]) (g := (gName 1)) rfl sc_codes.nd (pi_str (pv 0)) (blkOk_by (own := [("character", 1)]) (N := ["text", "character"]) (sc := defScope s_codes) (by decide +kernel)) (fun _ _ _ _ _ => (pg_name (i := 1) sc_codes.nd rfl (Or.inl rfl))) (fun _ _ _ _ _ => pts_nil) (fun _ _ _ _ _ => (pe_callB call_ord (by rfl) T.z_ord (by decide +kernel) (pa_cons (pv 1) pa_nil)))))), ?_⟩
    walk_at "vc"
    refine lc_str (L := fun i => ((z.cps.toList.take i).map fun (n : Nat) => V.int (n : Int))) rfl (fun i c D hc hD => ?_) (fun D hD => ?_)
    · walk_at "vc"
      have hc2 : z.cps.toList[i]? = some c := by simpa using hc
      refine ⟨rfl, ?_, ?_⟩
      · rw [List.length_map, List.length_take]
        refine Nat.lt_of_le_of_lt (Nat.min_le_right _ _) (Nat.lt_of_le_of_lt (show z.cps.toList.length ≤ 100000 from ?_) (by decide))
        simpa [Str.length] using hz
      · rw [List.take_add_one, hc2, List.map_append]
        rfl
    · rw [List.take_of_length_le (by simp)]
      exact q D hD
def spFromHex : Sp := fun vs H Q _ => ∃ (a : Addr) (ns : List Int) (left : Int), vs = [.ref a, .int left] ∧ H a = some (.lst (ns.map V.int)) ∧ ns.length ≤ 100000 ∧ 0 ≤ left ∧
  ∀ H' p q, Same H H' → H p = none → H q = none → H' p = some (.tup [.ref q, .int (fhL ns left)]) → H' q = some (.lst ((fhR ns left).map V.int)) → Q (.ref p) H'
theorem ok_from_hex (T : Txt K mg) : FnOk P w K mg base CX0 2 T.f_from_hex T.fd_from_hex ["data", "left"] spFromHex := by
  refine T.F_from_hex.ok sc_from_hex (fun vs H Q E h => ?_) (fun cdv A outer s H vs Q E hr h => ?_)
  · obtain ⟨a, ns, left, rfl, _⟩ := h
    rfl
  · obtain ⟨a, ns, left, rfl, ha, hn, hl, q⟩ := h
    refine ⟨_, (pss_cons (ps_asg (pe_call (ok_spend T) hr (by rfl) T.g_spend T.F_spend.kp T.b_spend .nil pass0 (pa_cons (pv 1) (pa_cons (pe_callB call_lenH (by rfl) T.z_len PySem.boot_len (pa_cons (pv 0) pa_nil)) pa_nil))) (pg_tup (by rfl) (pgs_cons (pg_name (i := 1) sc_from_hex.nd rfl (Or.inl rfl)) (pgs_cons (pg_name (i := 2) sc_from_hex.nd rfl (Or.inl rfl)) pgs_nil))))
      (pss_cons (ps_if (pt_not (pt_val (pv 2))) (pss_one (ps_ret (pe_tup (pa_cons (pe_lst pa_nil) (pa_cons (pv 1) pa_nil))))) pss_nil)
      (pss_cons (ps_set (i := 3) sc_from_hex.nd rfl (Or.inr rfl) (pe_lc (own := [("code", 4)]) (g := (gName 4)) rfl sc_from_hex.nd (pi_list (pv 0)) (blkOk_by (own := [("code", 4)]) (N := ["data", "left", "enough", "values", "code", "value", "at"]) (sc := defScope s_from_hex) (by decide +kernel)) (fun _ _ _ _ _ => (pg_name (i := 4) sc_from_hex.nd rfl (Or.inl rfl))) (fun _ _ _ _ _ => pts_nil) (fun _ _ _ _ _ => (pe_call (ok_hex_digit T) hr (by rfl) T.g_hex_digit T.F_hex_digit.kp T.b_hex_digit .nil pass0 (pa_cons (pv 4) pa_nil)))))
      (pss_cons (ps_set (i := 3) sc_from_hex.nd rfl (Or.inr rfl) (pe_lc (own := [("value", 5)]) (g := (gName 5)) rfl sc_from_hex.nd (pi_list (pv 3)) (blkOk_by (own := [("value", 5)]) (N := ["data", "left", "enough", "values", "code", "value", "at"]) (sc := defScope s_from_hex) (by decide +kernel)) (fun _ _ _ _ _ => (pg_name (i := 5) sc_from_hex.nd rfl (Or.inl rfl))) (fun _ _ _ _ _ => (pts_one (pt_cmpR op_ge (pv 5) pe_int (nomark _)))) (fun _ _ _ _ _ => (pv 5))))
      (pss_one (ps_ret (pe_tup (pa_cons (pe_lc (own := [("at", 6)]) (g := (gName 6)) rfl sc_from_hex.nd (pi_range3 (by rfl) T.z_range (pa_cons pe_int (pa_cons (pe_op op_sub (pe_callB call_lenH (by rfl) T.z_len PySem.boot_len (pa_cons (pv 3) pa_nil)) pe_int) (pa_cons pe_int pa_nil)))) (blkOk_by (own := [("at", 6)]) (N := ["data", "left", "enough", "values", "code", "value", "at"]) (sc := defScope s_from_hex) (by decide +kernel)) (fun _ _ _ _ _ => (pg_name (i := 6) sc_from_hex.nd rfl (Or.inl rfl))) (fun _ _ _ _ _ => pts_nil) (fun _ _ _ _ _ => (pe_op op_add (pe_op op_mul (pe_ix ix_listH (pv 3) (pv 6) (fun _ _ => rfl)) pe_int) (pe_ix ix_listH (pv 3) (pe_op op_add (pv 6) pe_int) (fun _ _ => rfl))))) (pa_cons (pv 1) pa_nil))))))))), ?_⟩
    walk_at "vc"
    refine ⟨_, ha, left, _, rfl, fun p hp => ?_⟩
    rw [List.length_map]
    refine ⟨p, rfl, _, .inl (.inl upd_same), rfl, _, _, rfl, _, _, rfl, rfl, _, rfl, ?_⟩
    have s1 : Same H (upd H p (.tup (spdV left (ns.length : Int)))) := same_upd hp
    refine ite2 (fun e => ?_) (fun e => ?_)
    · have e1 : left < ns.length := by
        unfold spdB at e
        rw [cl_nat] at e
        simpa using e
      intro q1 hq1
      refine ⟨by decide, fun r hr' => ?_⟩
      have s2 := s1.trans (same_upd (o := .lst []) hq1)
      have hqr : q1 ≠ r := ne_of_none upd_same hr'
      refine q _ r q1 (s2.trans (same_upd hr')) (s2.free hr') (s1.free hq1) ?_ ?_
      · rw [upd_same]
        unfold fhL spdL
        rw [cl_nat, if_pos e1]
        try rw [if_pos e1]
      · rw [upd_ne hqr, upd_same]
        unfold fhR
        rw [if_pos e1]
        rfl
    have e1 : ¬ left < ns.length := by
      unfold spdB at e
      rw [cl_nat] at e
      simpa using e
    have ha1 := s1 _ _ ha
    refine ⟨⟨_, .inl (.inl ha1)⟩, lc_pure (xs := ns.map V.int) (L := fun i => ((ns.take i).map fun c => V.int (hexv c))) (.inl (.inl ha1)) rfl (fun i x D hx hD => ?_) (fun D hD => ?_)⟩
    · rw [List.getElem?_map] at hx
      obtain ⟨c, hc, rfl⟩ := Option.map_eq_some_iff.mp hx
      walk_at "vc"
      simp only [spHexDigit]
      walk_at "vc"
      refine ⟨?_, ?_⟩
      · rw [List.length_map, List.length_take]
        exact Nat.lt_of_le_of_lt (show min i ns.length ≤ 100000 by omega) (by decide)
      · rw [List.take_add_one, hc, List.map_append]
        rfl
    rw [List.length_map, List.take_length]
    walk_at "vc"
    have s2 := s1.trans (same_upd (o := .lst (ns.map fun c => V.int (hexv c))) hD)
    have hD1 : (upd (upd H p (.tup (spdV left (ns.length : Int)))) D (.lst (ns.map fun c => V.int (hexv c)))) D = some (.lst (ns.map fun c => V.int (hexv c))) := upd_same
    generalize upd (upd H p (.tup (spdV left (ns.length : Int)))) D (.lst (ns.map fun c => V.int (hexv c))) = H1 at s2 hD1 ⊢
    refine ⟨⟨_, .inl (.inl hD1)⟩, lc_pure (xs := ns.map fun c => V.int (hexv c)) (L := fun i => (fhV (ns.take i)).map V.int) (.inl (.inl hD1)) rfl (fun i x D2 hx hD2 => ?_) (fun D2 hD2 => ?_)⟩
    · rw [List.getElem?_map] at hx
      obtain ⟨c, hc, rfl⟩ := Option.map_eq_some_iff.mp hx
      walk_at "vc"
      rw [fhV_take hc]
      refine ite2 (fun e2 => ?_) (fun e2 => ?_)
      · have e3 := of_decide_eq_true e2
        rw [if_pos e3, List.map_append]
        refine ⟨?_, rfl⟩
        rw [List.length_map]
        exact Nat.lt_of_le_of_lt (fhV_len _) (by rw [List.length_take]; exact Nat.lt_of_le_of_lt (show min i ns.length ≤ 100000 by omega) (by decide))
      · have e3 : ¬ 0 ≤ hexv c := fun z => e2 (decide_eq_true z)
        rw [if_neg e3, List.append_nil]
    rw [List.length_map, List.take_length]
    walk_at "vc"
    have s3 := s2.trans (same_upd (o := .lst ((fhV ns).map V.int)) hD2)
    have hD3 : (upd H1 D2 (.lst ((fhV ns).map V.int))) D2 = some (.lst ((fhV ns).map V.int)) := upd_same
    generalize upd H1 D2 (.lst ((fhV ns).map V.int)) = H2 at s3 hD3 ⊢
    have hvl := fhV_len ns
    refine ⟨(fhV ns).length / 2, by rw [List.length_map]; exact rg_two (by omega), lc_rangeC (L := fun i => ((fh (fhV ns)).take i).map V.int) rfl (fun i D4 hi hD4 => ?_) (fun D4 hD4 => ?_)⟩
    · have n1 : D2 ≠ D4 := ne_of_none hD3 hD4
      walk_at "vc"
      simp only [upd_ne n1, hD3]
      walk_at "vc"
      obtain ⟨b, hb1, hb2⟩ := atI_in (xs := fhV ns) (k := 0 + (i : Int) * 2) (by omega) (by omega)
      obtain ⟨c, hc1, hc2⟩ := atI_in (xs := fhV ns) (k := 0 + (i : Int) * 2 + 1) (by omega) (by omega)
      rw [show (0 + (i : Int) * 2).toNat = 2 * i by omega] at hb1
      rw [show (0 + (i : Int) * 2 + 1).toNat = 2 * i + 1 by omega] at hc1
      refine ⟨_, hb2, b, rfl, cmul_c (by decide) (by decide), _, hc2, c, rfl, ?_, ?_⟩
      · rw [List.length_map, List.length_take]
        exact Nat.lt_of_le_of_lt (show min i (fh (fhV ns)).length ≤ 100000 by omega) (by decide)
      · rw [fh_take hb1 hc1 hi, List.map_append]
        rfl
    · rw [List.take_of_length_le (by rw [fh_len]; exact Nat.le_refl _)]
      refine ⟨by decide, fun r hr' => ?_⟩
      have n1 : D4 ≠ r := ne_of_none upd_same hr'
      have s4 := s3.trans (same_upd (o := .lst ((fh (fhV ns)).map V.int)) hD4)
      refine q _ r D4 (s4.trans (same_upd hr')) (s4.free hr') (s3.free hD4) ?_ ?_
      · rw [upd_same]
        unfold fhL spdL
        rw [cl_nat, if_neg e1]
        try rw [if_neg e1]
      · rw [upd_ne n1, upd_same]
        unfold fhR
        rw [if_neg e1]
/-! ### written digits -/
def hd (d : Nat) : Nat := (Nat.digitChar d).toNat
def hx (ns : List Int) : List Int := ns.flatMap fun b => [((hd (b.toNat / 16) : Nat) : Int), ((hd (b.toNat % 16) : Nat) : Int)]
theorem hx_take {ns : List Int} {i : Nat} {b : Int} (h : ns[i]? = some b) : hx (ns.take (i + 1)) = hx (ns.take i) ++ [((hd (b.toNat / 16) : Nat) : Int), ((hd (b.toNat % 16) : Nat) : Int)] := by
  unfold hx
  rw [List.take_add_one, h, List.flatMap_append]
  simp
theorem hx_len (ns : List Int) : (hx ns).length = 2 * ns.length := by
  induction ns with
  | nil => rfl
  | cons b r ih =>
    show (_ :: _ :: hx r).length = _
    rw [List.length_cons, List.length_cons, ih, List.length_cons]
    omega
theorem hexF2 : ∀ b : _root_.Fin 256, (hexF 2 ((b : Nat) : Int)).cps.toList = [hd ((b : Nat) / 16), hd ((b : Nat) % 16)] := by decide +kernel
theorem hexF2' {b : Int} (h : 0 ≤ b ∧ b < 256) : ∃ n : Nat, b = (n : Int) ∧ (hexF 2 (n : Int)).cps.toList = [hd (b.toNat / 16), hd (b.toNat % 16)] := by
  obtain ⟨n, rfl⟩ := Int.eq_ofNat_of_zero_le h.1
  exact ⟨n, rfl, hexF2 ⟨n, by omega⟩⟩
def Byt (ns : List Int) : Prop := ∀ b ∈ ns, 0 ≤ b ∧ b < 256
def spToHex : Sp := fun vs H Q _ => ∃ (a : Addr) (ns : List Int), vs = [.ref a] ∧ H a = some (.lst (ns.map V.int)) ∧ ns.length ≤ 10000 ∧ Byt ns ∧
  ∀ H' p, Same H H' → H p = none → H' p = some (.lst ((hx ns).map V.int)) → Q (.ref p) H'
theorem ok_to_hex (T : Txt K mg) : FnOk P w K mg base CX0 2 T.f_to_hex T.fd_to_hex ["data"] spToHex := by
  refine T.F_to_hex.ok sc_to_hex (fun vs H Q E h => ?_) (fun cdv A outer s H vs Q E hr h => ?_)
  · obtain ⟨a, ns, rfl, _⟩ := h
    rfl
  · obtain ⟨a, ns, rfl, ha, hn, hB, q⟩ := h
    refine ⟨_, (pss_cons (ps_set (i := 1) sc_to_hex.nd rfl (Or.inl rfl) (pe_lst pa_nil))
      (pss_cons (ps_for PassesOwn.never rfl (pi_list (pv 0)) (pg_name (i := 2) sc_to_hex.nd rfl (Or.inl rfl)) (pss_one (ps_expr (pe_bm PySem.F.plainAttrs_list PySem.F.slot_list_extend PySem.F.type_list_extend mt_extend (pv 1) (pa_cons (pe_call (ok_codes T) hr (by rfl) T.g_codes T.F_codes.kp T.b_codes .nil pass0 (pa_cons (pe_joined1 (pe_fmtX ok02 (pv 2))) pa_nil)) pa_nil)))))
      (pss_one (ps_ret (pv 1))))), ?_⟩
    walk_at "vc"
    intro p hp
    have s1 : Same H (upd H p (.lst [])) := same_upd hp
    refine ⟨⟨_, .inl (.inl (s1 _ _ ha))⟩, lp_list (xs := ns.map V.int) (fun i σ H' => ∃ bv, σ = [some (.ref a), some (.ref p), bv] ∧ Same H H' ∧ H' p = some (.lst ((hx (ns.take i)).map V.int))) ⟨none, rfl, s1, upd_same⟩ ?_ ?_ ?_⟩
    · rintro i σ H' _ ⟨bv, rfl, sm, hp2⟩
      exact .inl (.inl (sm _ _ ha))
    · rintro i x σ H' hx1 ⟨bv, rfl, sm, hp2⟩
      rw [List.getElem?_map] at hx1
      obtain ⟨b, hb1, rfl⟩ := Option.map_eq_some_iff.mp hx1
      obtain ⟨n, rfl, hn2⟩ := hexF2' (hB b (List.mem_of_getElem? hb1))
      walk_at "vc"
      simp only [tFmtX, tVar]
      walk_at "vc"
      have hl2 : (hexF 2 (n : Int)).length = 2 := by
        have := congrArg List.length hn2
        simpa [Str.length] using this
      refine ⟨.inl ⟨rfl, _, .inl (.inl hp2)⟩, n, rfl, by rw [hl2]; decide, _, rfl, by rw [hl2]; decide, fun r hr' => ?_⟩
      have n1 : p ≠ r := ne_of_none hp2 hr'
      rw [hn2]
      refine ⟨r, rfl, _, by rw [upd_ne n1]; exact hp2, _, upd_same, ?_, ?_, ?_⟩
      · rw [List.length_map, hx_len, List.length_take]
        exact Nat.le_trans (show 2 * min i ns.length + 2 ≤ 30000 by omega) (by decide)
      · exact same_upd2 (sm.trans (same_upd hr')) hp
      · rw [hx_take hb1, List.map_append]
        rfl
    · rintro σ H' ⟨bv, rfl, sm, hp2⟩
      rw [List.length_map, List.take_length] at hp2
      walk_at "vc"
      exact q H' p sm hp hp2
theorem hexv_hd : ∀ d : _root_.Fin 16, hexv ((hd (d : Nat) : Nat) : Int) = ((d : Nat) : Int) ∧ ((48 ≤ ((hd (d : Nat) : Nat) : Int) ∧ ((hd (d : Nat) : Nat) : Int) ≤ 57) ∨ (97 ≤ ((hd (d : Nat) : Nat) : Int) ∧ ((hd (d : Nat) : Nat) : Int) ≤ 102)) := by decide +kernel
theorem row_at : ∀ d : _root_.Fin 16, atI (Str.ofString "0123456789abcdef").cps.toList ((d : Nat) : Int) = some (hd (d : Nat)) := by decide +kernel
def hdU (d : Nat) : Nat := if d < 10 then 48 + d else 55 + d
theorem large_at : ∀ d : _root_.Fin 16, atI (Str.ofString "0123456789ABCDEF").cps.toList ((d : Nat) : Int) = some (hdU (d : Nat)) := by decide +kernel
theorem hd_low : ∀ d : _root_.Fin 16, hd (d : Nat) = if (d : Nat) < 10 then 48 + (d : Nat) else 87 + (d : Nat) := by decide +kernel
theorem hexv_hdU : ∀ d : _root_.Fin 16, hexv ((hdU (d : Nat) : Nat) : Int) = ((d : Nat) : Int) := by decide +kernel
theorem hexv_range (c : Int) : -1 ≤ hexv c ∧ hexv c ≤ 15 := by
  unfold hexv
  repeat' split
  all_goals omega
theorem hexv_back {c : Int} {i : Nat} (hi : i < 16) (h : hexv c = (i : Int)) : c = ((hd i : Nat) : Int) ∨ c = ((hdU i : Nat) : Int) := by
  have e := hd_low ⟨i, hi⟩
  have e : hd i = if i < 10 then 48 + i else 87 + i := e
  rw [e]
  unfold hdU
  unfold hexv at h
  repeat' split at h
  all_goals (repeat' split) <;> omega
theorem ok__law_digit (T : Txt K mg) : FnOk P w K mg base CX0 1 T.f__law_digit T.fd__law_digit ["code"] spHexDigit := by
  refine T.F__law_digit.ok sc__law_digit (fun vs H Q E h => ?_) (fun cdv A outer s H vs Q E hr h => ?_)
  · obtain ⟨c, rfl, _⟩ := h
    rfl
  · obtain ⟨c, rfl, q⟩ := h
    refine ⟨_, (pss_cons (ps_set (i := 1) sc__law_digit.nd rfl (Or.inl rfl) pe_str)
      (pss_cons (ps_set (i := 2) sc__law_digit.nd rfl (Or.inl rfl) pe_str)
      (pss_cons (ps_for PassesOwn.never rfl (pi_range1 (by rfl) T.z_range (pa_cons pe_int pa_nil)) (pg_name (i := 3) sc__law_digit.nd rfl (Or.inl rfl)) (pss_one (ps_if (PW.pt (pw_or (pt_cmpR op_eq (pv 0) (pe_callB call_ord (by rfl) T.z_ord (by decide +kernel) (pa_cons (pe_ix ix_str (pv 1) (pv 3) (fun _ _ => rfl)) pa_nil)) (nomark _)) (pw_or1 (pt_cmpR op_eq (pv 0) (pe_callB call_ord (by rfl) T.z_ord (by decide +kernel) (pa_cons (pe_ix ix_str (pv 2) (pv 3) (fun _ _ => rfl)) pa_nil)) (nomark _))))) (pss_one (ps_ret (pv 3))) pss_nil)))
      (pss_one (ps_ret (pe_un un_neg pe_int)))))), ?_⟩
    walk_at "vc"
    refine lp_range (n := 16) (fun i σ H' => ∃ vv, σ = [some (.int c), some (.str (Str.ofString "0123456789abcdef")), some (.str (Str.ofString "0123456789ABCDEF")), vv] ∧ H' = H ∧ (0 ≤ hexv c → (i : Int) ≤ hexv c)) ⟨none, rfl, rfl, fun h => h⟩ ?_ ?_
    · rintro i σ H' hi ⟨vv, rfl, rfl, hlo⟩
      walk_at "vc"
      refine ⟨by decide +kernel, hd i, row_at ⟨i, hi⟩, rfl, ite2 (fun e => ?_) (fun e => ⟨by decide +kernel, hdU i, large_at ⟨i, hi⟩, rfl, ite2 (fun e2 => ?_) (fun e2 => ?_)⟩)⟩
      · have e1 : c = ((hd i : Nat) : Int) := of_decide_eq_true e
        rw [e1, (hexv_hd ⟨i, hi⟩).1] at q
        exact q
      · have e1 : c = ((hdU i : Nat) : Int) := of_decide_eq_true e2
        rw [e1, hexv_hdU ⟨i, hi⟩] at q
        exact q
      · intro h0
        have e3 : ¬ c = ((hd i : Nat) : Int) := fun z => e (decide_eq_true z)
        have e4 : ¬ c = ((hdU i : Nat) : Int) := fun z => e2 (decide_eq_true z)
        have h1 := hlo h0
        have h2 : hexv c ≠ (i : Int) := fun z => (hexv_back hi z).elim e3 e4
        omega
    · rintro σ H' ⟨vv, rfl, rfl, hlo⟩
      walk_at "vc"
      have h1 := hexv_range c
      have h2 : hexv c = -1 := by
        by_cases z : 0 ≤ hexv c
        · have := hlo z
          omega
        · omega
      rw [h2] at q
      exact q
theorem ok__law_due (T : Txt K mg) : FnOk P w K mg base CX0 2 T.f__law_due T.fd__law_due ["data", "left"] spFromHex := by
  refine T.F__law_due.ok sc__law_due (fun vs H Q E h => ?_) (fun cdv A outer s H vs Q E hr h => ?_)
  · obtain ⟨a, ns, left, rfl, _⟩ := h
    rfl
  · obtain ⟨a, ns, left, rfl, ha, hn, hl, q⟩ := h
    refine ⟨_, (pss_cons (ps_if (pt_cmpR op_gt (pe_callB call_lenH (by rfl) T.z_len PySem.boot_len (pa_cons (pv 0) pa_nil)) (pv 1) (nomark _)) (pss_one (ps_ret (pe_tup (pa_cons (pe_lst pa_nil) (pa_cons pe_int pa_nil))))) pss_nil)
      (pss_cons (ps_setLc (i := 2) (own := [("code", 3)]) (g := (gName 3)) rfl sc__law_due.nd rfl rfl (sw_true rfl rfl rfl (by decide +kernel)) (pi_list (pv 0)) (blkOk_by (own := [("code", 3)]) (N := ["data", "left", "values", "code", "found", "k"]) (sc := defScope s__law_due) (by decide +kernel)) (fun _ _ _ _ _ => (pg_name (i := 3) sc__law_due.nd rfl (Or.inl rfl))) (fun _ _ _ _ _ => (pts_one (pt_cmpR op_ge (pe_call (ok__law_digit T) hr (by rfl) T.g__law_digit T.F__law_digit.kp T.b__law_digit .nil pass0 (pa_cons (pv 3) pa_nil)) pe_int (nomark _)))) (fun _ _ _ _ _ => (pe_call (ok__law_digit T) hr (by rfl) T.g__law_digit T.F__law_digit.kp T.b__law_digit .nil pass0 (pa_cons (pv 3) pa_nil))))
      (pss_cons (ps_set (i := 4) sc__law_due.nd rfl (Or.inl rfl) (pe_lst pa_nil))
      (pss_cons (ps_for PassesOwn.never rfl (pi_range1 (by rfl) T.z_range (pa_cons (pe_op op_fdiv (pe_callB call_lenH (by rfl) T.z_len PySem.boot_len (pa_cons (pv 2) pa_nil)) pe_int) pa_nil)) (pg_name (i := 5) sc__law_due.nd rfl (Or.inl rfl)) (pss_one (ps_expr (pe_bm PySem.F.plainAttrs_list PySem.F.slot_list_append PySem.F.type_list_append mt_append (pv 4) (pa_cons (pe_op op_add (pe_op op_mul pe_int (pe_ix ix_listH (pv 2) (pe_op op_mul pe_int (pv 5)) (fun _ _ => rfl))) (pe_ix ix_listH (pv 2) (pe_op op_add (pe_op op_mul pe_int (pv 5)) pe_int) (fun _ _ => rfl))) pa_nil)))))
      (pss_one (ps_ret (pe_tup (pa_cons (pv 4) (pa_cons (pe_op op_sub (pv 1) (pe_callB call_lenH (by rfl) T.z_len PySem.boot_len (pa_cons (pv 0) pa_nil))) pa_nil))))))))), ?_⟩
    walk_at "vc"
    refine ⟨_, ha, ?_⟩
    rw [List.length_map]
    refine ite2 (fun e => ?_) (fun e => ?_)
    · have e1 := of_decide_eq_true e
      intro q1 hq1
      refine ⟨by decide, fun r hr' => ?_⟩
      have s2 := same_upd (o := .lst []) hq1
      have hqr : q1 ≠ r := ne_of_none upd_same hr'
      refine q _ r q1 (s2.trans (same_upd hr')) (s2.free hr') hq1 ?_ ?_
      · rw [upd_same]
        unfold fhL
        rw [if_pos e1]
      · rw [upd_ne hqr, upd_same]
        unfold fhR
        rw [if_pos e1]
        rfl
    have e1 : ¬ left < ns.length := fun z => e (decide_eq_true z)
    refine ⟨⟨_, .inl (.inl ha)⟩, lc_pure (xs := ns.map V.int) (L := fun i => (fhV (ns.take i)).map V.int) (.inl (.inl ha)) rfl (fun i x D2 hx hD2 => ?_) (fun D2 hD2 => ?_)⟩
    · rw [List.getElem?_map] at hx
      obtain ⟨c, hc, rfl⟩ := Option.map_eq_some_iff.mp hx
      walk_at "vc"
      simp only [spHexDigit]
      walk_at "vc"
      rw [fhV_take hc]
      refine ite2 (fun e2 => ?_) (fun e2 => ?_)
      · have e3 := of_decide_eq_true e2
        rw [if_pos e3, List.map_append]
        refine ⟨?_, rfl⟩
        rw [List.length_map]
        exact Nat.lt_of_le_of_lt (fhV_len _) (by rw [List.length_take]; exact Nat.lt_of_le_of_lt (show min i ns.length ≤ 100000 by omega) (by decide))
      · have e3 : ¬ 0 ≤ hexv c := fun z => e2 (decide_eq_true z)
        rw [if_neg e3, List.append_nil]
    rw [List.length_map, List.take_length]
    have s3 := same_upd (o := .lst ((fhV ns).map V.int)) hD2
    have hD3 : (upd H D2 (.lst ((fhV ns).map V.int))) D2 = some (.lst ((fhV ns).map V.int)) := upd_same
    generalize upd H D2 (.lst ((fhV ns).map V.int)) = H2 at s3 hD3 ⊢
    have hvl := fhV_len ns
    intro p hp
    have n1 : D2 ≠ p := ne_of_none hD3 hp
    refine ⟨D2, rfl, _, by rw [upd_ne n1]; exact hD3, ⟨by decide, by decide⟩, ?_, ?_, ?_⟩
    · omega
    · rw [List.length_map]; omega
    rw [List.length_map, show ((((fhV ns).length : Nat) : Int) / 2).toNat = (fhV ns).length / 2 by omega]
    refine lp_range (fun i σ H' => ∃ kv, σ = [some (.ref a), some (.int left), some (.ref D2), none, some (.ref p), kv] ∧ H' = upd H2 p (.lst (((fh (fhV ns)).take i).map V.int))) ⟨none, rfl, rfl⟩ ?_ ?_
    · rintro i σ H' hi ⟨kv, rfl, rfl⟩
      walk_at "vc"
      simp only [upd_ne n1, hD3]
      walk_at "vc"
      obtain ⟨b, hb1, hb2⟩ := atI_in (xs := fhV ns) (k := 2 * (i : Int)) (by omega) (by omega)
      obtain ⟨c, hc1, hc2⟩ := atI_in (xs := fhV ns) (k := 2 * (i : Int) + 1) (by omega) (by omega)
      rw [show (2 * (i : Int)).toNat = 2 * i by omega] at hb1
      rw [show (2 * (i : Int) + 1).toNat = 2 * i + 1 by omega] at hc1
      refine ⟨Or.inl ⟨by decide, by decide⟩, _, hb2, b, rfl, Or.inl ⟨by decide, by decide⟩, Or.inl ⟨by decide, by decide⟩, _, hc2, c, rfl, ?_, ?_⟩
      · rw [List.length_map, List.length_take]
        exact Nat.lt_of_le_of_lt (show min i (fh (fhV ns)).length ≤ 100000 by omega) (by decide)
      · rw [fh_take hb1 hc1 hi, List.map_append, Int.mul_comm 16 b]
        rfl
    · rintro σ H' ⟨kv, rfl, rfl⟩
      rw [List.take_of_length_le (by rw [fh_len]; exact Nat.le_refl _)]
      walk_at "vc"
      have s4 := s3.trans (same_upd (o := .lst ((fh (fhV ns)).map V.int)) hp)
      refine ⟨_, s4 _ _ ha, by decide, fun r hr' => ?_⟩
      have n2 : p ≠ r := ne_of_none upd_same hr'
      refine q _ r p (s4.trans (same_upd hr')) (s4.free hr') (s3.free hp) ?_ ?_
      · rw [upd_same, List.length_map]
        unfold fhL
        rw [if_neg e1]
      · rw [upd_ne n2, upd_same]
        unfold fhR
        rw [if_neg e1]
def spRight : Sp := fun vs H Q _ => ∃ (a : Addr) (ns : List Int) (left : Int), vs = [.ref a, .int left] ∧ H a = some (.lst (ns.map V.int)) ∧ ns.length ≤ 100000 ∧ 0 ≤ left ∧ ∀ H', Same H H' → Q (.bl true) H'
theorem ok__law_right (T : Txt K mg) : FnOk P w K mg base CX0 3 T.f__law_right T.fd__law_right ["data", "left"] spRight := by
  refine T.F__law_right.ok sc__law_right (fun vs H Q E h => ?_) (fun cdv A outer s H vs Q E hr h => ?_)
  · obtain ⟨a, ns, left, rfl, _⟩ := h
    rfl
  · obtain ⟨a, ns, left, rfl, ha, hn, hl, q⟩ := h
    refine ⟨_, (pss_cons (ps_set (i := 2) sc__law_right.nd rfl (Or.inl rfl) (pe_callTy call_listH (by rfl) T.z_list (by decide +kernel) (pa_cons (pv 0) pa_nil)))
      (pss_cons (ps_set (i := 3) sc__law_right.nd rfl (Or.inl rfl) (pe_call (ok_from_hex T) hr (by rfl) T.g_from_hex T.F_from_hex.kp T.b_from_hex .nil pass0 (pa_cons (pv 2) (pa_cons (pv 1) pa_nil))))
      (pss_cons (ps_set (i := 4) sc__law_right.nd rfl (Or.inl rfl) (pe_call (ok__law_due T) hr (by rfl) T.g__law_due T.F__law_due.kp T.b__law_due .nil pass0 (pa_cons (pv 0) (pa_cons (pv 1) pa_nil))))
      (pss_cons (ps_if (PW.pt (pw_or (pt_not (pt_val (pe_callB call_isiB (by rfl) T.z_isinstance (by decide +kernel) (pa_cons (pv 3) (pa_cons (pe_bltn (v := .ty "tuple") (u := .type "tuple") (by rfl) T.z_tuple (by decide +kernel) rfl) pa_nil))))) (pw_or (pt_cmpR op_ne (pe_callB call_lenT (by rfl) T.z_len PySem.boot_len (pa_cons (pv 3) pa_nil)) pe_int (nomark _)) (pw_or1 (pt_cmpR (op_neIL hr.units) (pv 2) (pv 0) (nomark _)))))) (pss_one (ps_ret pe_bl)) pss_nil)
      (pss_one (ps_ret (pe_and (pe_call (ok__law_is_list T) hr (by rfl) T.g__law_is_list T.F__law_is_list.kp T.b__law_is_list .nil pass0 (pa_cons (pe_ix ix_tupH (pv 3) pe_int (fun _ _ => rfl)) (pa_cons (pe_ix ix_tupH (pv 4) pe_int (fun _ _ => rfl)) pa_nil))) (pe_and (pe_call (ok__law_integer T) (hr.mono (by decide)) (by rfl) T.g__law_integer T.F__law_integer.kp T.b__law_integer .nil pass0 (pa_cons (pe_ix ix_tupH (pv 3) pe_int (fun _ _ => rfl)) pa_nil)) (pe_one (pe_cmpR op_eq (pe_ix ix_tupH (pv 3) pe_int (fun _ _ => rfl)) (pe_ix ix_tupH (pv 4) pe_int (fun _ _ => rfl)) (nomark _))))))))))), ?_⟩
    walk_at "vc"
    refine ⟨_, ha, fun l hl2 => ?_⟩
    have s1 := same_upd (o := .lst (ns.map V.int)) hl2
    refine ⟨l, ns, left, rfl, upd_same, hn, hl, fun H1 p1 q1 sm1 hp1 hq1 g1 g2 => ?_⟩
    have s2 := s1.trans sm1
    have hal : H1 l = some (.lst (ns.map V.int)) := sm1 _ _ upd_same
    refine ⟨a, ns, left, rfl, s2 _ _ ha, hn, hl, fun H2 p2 q2 sm2 hp2 hq2 g3 g4 => ?_⟩
    have s3 := s2.trans sm2
    have k1 := sm2 _ _ g1
    have k2 := sm2 _ _ g2
    have kl := sm2 _ _ hal
    have ka := s3 _ _ ha
    walk_at "vc"
    simp only [k1, k2, kl, ka, g3, g4]
    walk_at "vc"
    refine ⟨ns, rfl, ns, rfl, ?_⟩
    rw [decide_eq_true (show ns = ns from rfl)]
    walk_at "vc"
    refine ⟨q1, q2, fhR ns left, rfl, k2, g4, fun H3 sm3 => ?_⟩
    have g1' := sm3 _ _ k1
    have g3' := sm3 _ _ g3
    walk_at "vc"
    simp only [g1', g3', spInteger]
    walk_at "vc"
    exact q _ (s3.trans sm3)
theorem at_nat {l : List Int} {i : Nat} {b : Int} (h : l[i]? = some b) : atI (l.map V.int) (i : Int) = some (V.int b) := atI_nat (by rw [List.getElem?_map, h]; rfl)
theorem junk8 : ∀ k : _root_.Fin 8, ∃ y, ([32, 10, 103, 255, 71, 47, 58, 0] : List Int)[(k : Nat)]? = some y ∧ hexv y = -1 := by
  intro k
  refine ⟨([32, 10, 103, 255, 71, 47, 58, 0] : List Int)[(k : Nat)]'(by simp), by simp, ?_⟩
  revert k
  decide +kernel
theorem junk_at (x : Int) : ∃ y, atI [V.int 32, V.int 10, V.int 103, V.int 255, V.int 71, V.int 47, V.int 58, V.int 0] (x % 8) = some (V.int y) ∧ hexv y = -1 := by
  obtain ⟨m0, m1⟩ := mod_in x (show (0 : Int) < 8 by decide)
  obtain ⟨b, hb1, hb2⟩ := atI_in (xs := [32, 10, 103, 255, 71, 47, 58, 0]) (k := x % 8) m0 m1
  obtain ⟨y, hy1, hy2⟩ := junk8 ⟨(x % 8).toNat, by omega⟩
  have e : b = y := Option.some.inj (hb1.symm.trans hy1)
  exact ⟨b, hb2, by rw [e]; exact hy2⟩
def spMixed : Sp := fun vs H Q _ => ∃ (a : Addr) (cs : List Int) (c : Int), vs = [.ref a, .int c] ∧ H a = some (.lst (cs.map V.int)) ∧ cs.length ≤ 1000 ∧ (∀ x ∈ cs, (48 ≤ x ∧ x ≤ 57) ∨ (97 ≤ x ∧ x ≤ 102)) ∧
  ∀ H' p ms, Same H H' → H p = none → H' p = some (.lst (List.map V.int ms)) → ms.length ≤ 2 * cs.length → fhV ms = cs.map hexv → Q (.ref p) H'
theorem ok__law_mixed (T : Txt K mg) : FnOk P w K mg base CX0 2 T.f__law_mixed T.fd__law_mixed ["codes_v", "cell"] spMixed := by
  refine T.F__law_mixed.ok sc__law_mixed (fun vs H Q E h => ?_) (fun cdv A outer s H vs Q E hr h => ?_)
  · obtain ⟨a, cs, c, rfl, _⟩ := h
    rfl
  · obtain ⟨a, cs, c, rfl, ha, hn, hcs, q⟩ := h
    refine ⟨_, (pss_cons (ps_set (i := 2) sc__law_mixed.nd rfl (Or.inl rfl) (pe_lst pa_nil))
      (pss_cons (ps_for PassesOwn.never rfl (pi_range1 (by rfl) T.z_range (pa_cons (pe_callB call_lenH (by rfl) T.z_len PySem.boot_len (pa_cons (pv 0) pa_nil)) pa_nil)) (pg_name (i := 3) sc__law_mixed.nd rfl (Or.inl rfl)) (pss_cons (ps_set (i := 4) sc__law_mixed.nd rfl (Or.inl rfl) (pe_call (ok__law_twice T) hr (by rfl) T.g__law_twice T.F__law_twice.kp T.b__law_twice .nil pass0 (pa_cons (pv 1) (pa_cons (pv 3) pa_nil))))
      (pss_cons (ps_set (i := 5) sc__law_mixed.nd rfl (Or.inl rfl) (pe_ix ix_listH (pv 0) (pv 3) (fun _ _ => rfl)))
      (pss_cons (ps_if (pt_cmpR op_eq (pe_op op_mod (pv 4) pe_int) pe_int (nomark _)) (pss_one (ps_expr (pe_bm PySem.F.plainAttrs_list PySem.F.slot_list_append PySem.F.type_list_append mt_append (pv 2) (pa_cons (pe_ix ix_listH (pe_lst (pa_cons pe_int (pa_cons pe_int (pa_cons pe_int (pa_cons pe_int (pa_cons pe_int (pa_cons pe_int (pa_cons pe_int (pa_cons pe_int pa_nil))))))))) (pe_op op_mod (pe_op op_fdiv (pv 4) pe_int) pe_int) (fun _ _ => rfl)) pa_nil)))) pss_nil)
      (pss_cons (ps_if (PW.pt (pw_and (pt_cmpR op_eq (pe_op op_mod (pv 4) pe_int) pe_int (nomark _)) (pw_and1 (pt_cmpR op_ge (pv 5) pe_int (nomark _))))) (pss_one (ps_set (i := 5) sc__law_mixed.nd rfl (Or.inl rfl) (pe_op op_sub (pv 5) pe_int))) pss_nil)
      (pss_one (ps_expr (pe_bm PySem.F.plainAttrs_list PySem.F.slot_list_append PySem.F.type_list_append mt_append (pv 2) (pa_cons (pv 5) pa_nil)))))))))
      (pss_one (ps_ret (pv 2))))), ?_⟩
    walk_at "vc"
    intro p hp
    have n1 : a ≠ p := ne_of_none ha hp
    refine ⟨_, by rw [upd_ne n1]; exact ha, by omega, by rw [List.length_map]; omega, ?_⟩
    rw [List.length_map]
    refine lp_range (fun i σ H' => ∃ kv dv cv ms, σ = [some (.ref a), some (.int c), some (.ref p), kv, dv, cv] ∧ Same H H' ∧ H' p = some (.lst (List.map V.int ms)) ∧ ms.length ≤ 2 * i ∧ fhV ms = (cs.take i).map hexv) ⟨none, none, none, [], rfl, same_upd hp, upd_same, Nat.le_refl _, rfl⟩ ?_ ?_
    · rintro i σ H' hi ⟨kv, dv, cv, ms, rfl, sm, hp2, hml, hms⟩
      have ha2 := sm _ _ ha
      obtain ⟨x, hx⟩ : ∃ x, cs[i]? = some x := ⟨_, List.getElem?_eq_getElem hi⟩
      walk_at "vc"
      simp only [spTwice]
      walk_at "vc"
      simp only [ha2]
      walk_at "vc"
      refine ⟨_, at_nat hx, ?_⟩
      have hxr := hcs x (List.mem_of_getElem? hx)
      have fin : ∀ (zs : List Int) (y : Int), fhV zs = (cs.take i).map hexv → zs.length ≤ 2 * i + 1 → hexv y = hexv x →
          ∃ u, List.map V.int zs ++ [V.int y] = List.map V.int u ∧ u.length ≤ 2 * (i + 1) ∧ fhV u = List.map hexv (List.take (i + 1) cs) := fun zs y h1 h2 h3 => by
        refine ⟨zs ++ [y], by rw [List.map_append]; rfl, by rw [List.length_append, List.length_singleton]; omega, ?_⟩
        have h0 : 0 ≤ hexv x := by
          unfold hexv
          repeat' split
          all_goals omega
        unfold fhV at h1 ⊢
        rw [List.map_append, List.filter_append, h1, List.take_add_one, hx, List.map_append]
        simp [h3, h0]
      have hup : (97 : Int) ≤ x → hexv (x - 32) = hexv x := fun h => by
        unfold hexv
        repeat' split
        all_goals omega
      have szs : ∀ zs : List Int, zs.length ≤ 2 * i + 1 → (List.map V.int zs).length < sizeLine := fun zs h => by
        rw [List.length_map]
        exact Nat.lt_of_le_of_lt (show zs.length ≤ 3000 by omega) (by decide)
      have tyP : tyV K "list" (V.ref p) H' := .inl ⟨rfl, _, .inl (.inl hp2)⟩
      refine ite2 (fun e => ?_) (fun e => ?_)
      · refine ⟨tyP, by decide, fun r hr' => ⟨⟨by decide, by decide⟩, ?_⟩⟩
        have n2 : p ≠ r := ne_of_none hp2 hr'
        obtain ⟨y, hy, hy2⟩ := junk_at (tw c (i : Int) / 5)
        refine ⟨_, hy, _, by rw [upd_ne n2]; exact hp2, szs _ (by omega), ?_⟩
        have s4 : ∀ o, Same H (upd (upd H' r (HO.lst [V.int 32, V.int 10, V.int 103, V.int 255, V.int 71, V.int 47, V.int 58, V.int 0])) p o) := fun o => same_upd2 (sm.trans (same_upd hr')) hp
        have em : List.map V.int ms ++ [V.int y] = List.map V.int (ms ++ [y]) := by rw [List.map_append]; rfl
        have hm2 : fhV (ms ++ [y]) = (cs.take i).map hexv := by
          unfold fhV at hms ⊢
          rw [List.map_append, List.filter_append, hms]
          simp [hy2]
        have hl2 : (ms ++ [y]).length ≤ 2 * i + 1 := by rw [List.length_append, List.length_singleton]; omega
        rw [em]
        refine ite2 (fun e2 => ⟨x, rfl, ite2 (fun e3 => ?_) (fun e3 => ?_)⟩) (fun e2 => ?_)
        · exact ⟨x, rfl, szs _ hl2, s4 _, fin _ _ hm2 hl2 (hup (of_decide_eq_true e3))⟩
        · exact ⟨szs _ hl2, s4 _, fin _ _ hm2 hl2 rfl⟩
        · exact ⟨szs _ hl2, s4 _, fin _ _ hm2 hl2 rfl⟩
      · refine ite2 (fun e2 => ⟨x, rfl, ite2 (fun e3 => ?_) (fun e3 => ?_)⟩) (fun e2 => ?_)
        · exact ⟨x, rfl, tyP, _, hp2, szs _ (by omega), same_upd2 sm hp, fin _ _ hms (by omega) (hup (of_decide_eq_true e3))⟩
        · exact ⟨tyP, _, hp2, szs _ (by omega), same_upd2 sm hp, fin _ _ hms (by omega) rfl⟩
        · exact ⟨tyP, _, hp2, szs _ (by omega), same_upd2 sm hp, fin _ _ hms (by omega) rfl⟩
    · rintro σ H' ⟨kv, dv, cv, ms, rfl, sm, hp2, hml, hms⟩
      walk_at "vc"
      rw [List.take_length] at hms
      exact q H' p ms sm hp hp2 hml hms
theorem hx_range {ns : List Int} (hB : Byt ns) : ∀ x ∈ hx ns, (48 ≤ x ∧ x ≤ 57) ∨ (97 ≤ x ∧ x ≤ 102) := by
  intro x hx1
  unfold hx at hx1
  obtain ⟨b, hb, h2⟩ := List.mem_flatMap.mp hx1
  have hbb := hB b hb
  simp only [List.mem_cons, List.not_mem_nil, or_false] at h2
  rcases h2 with rfl | rfl
  · exact (hexv_hd ⟨b.toNat / 16, by omega⟩).2
  · exact (hexv_hd ⟨b.toNat % 16, by omega⟩).2
theorem hx_vals {ns : List Int} (hB : Byt ns) : (hx ns).map hexv = ns.flatMap fun b => [((b.toNat / 16 : Nat) : Int), ((b.toNat % 16 : Nat) : Int)] := by
  induction ns with
  | nil => rfl
  | cons b r ih =>
    have hbb := hB b List.mem_cons_self
    have e1 := (hexv_hd ⟨b.toNat / 16, by omega⟩).1
    have e2 := (hexv_hd ⟨b.toNat % 16, by omega⟩).1
    show hexv _ :: hexv _ :: (hx r).map hexv = _ :: _ :: _
    rw [ih fun c hc => hB c (List.mem_cons_of_mem _ hc)]
    congr 1
    congr 1
theorem fh_back {ns : List Int} (hB : Byt ns) : fh ((hx ns).map hexv) = ns := by
  have hl : ((hx ns).map hexv).length / 2 = ns.length := by rw [List.length_map, hx_len]; omega
  have get : ∀ (l : List Int) (i : Nat) (b : Int), l[i]? = some b → (l.flatMap fun b => [((b.toNat / 16 : Nat) : Int), ((b.toNat % 16 : Nat) : Int)])[2 * i]? = some ((b.toNat / 16 : Nat) : Int) ∧ (l.flatMap fun b => [((b.toNat / 16 : Nat) : Int), ((b.toNat % 16 : Nat) : Int)])[2 * i + 1]? = some ((b.toNat % 16 : Nat) : Int) := by
    intro l
    induction l with
    | nil => intro i b h; simp at h
    | cons x r ih =>
      intro i b h
      cases i with
      | zero =>
        have e : x = b := by simpa using h
        subst e
        exact ⟨rfl, rfl⟩
      | succ i =>
        have := ih i b (by simpa using h)
        rw [show 2 * (i + 1) = 2 * i + 1 + 1 by omega]
        exact this
  apply List.ext_getElem?
  intro i
  unfold fh
  rw [hl]
  by_cases hi : i < ns.length
  · obtain ⟨b, hb⟩ : ∃ b, ns[i]? = some b := ⟨_, List.getElem?_eq_getElem hi⟩
    have hbb := hB b (List.mem_of_getElem? hb)
    obtain ⟨g1, g2⟩ := get ns i b hb
    rw [List.getElem?_map, List.getElem?_range hi, hb, hx_vals hB]
    show some (List.getD _ (2 * i) 0 * 16 + List.getD _ (2 * i + 1) 0) = _
    rw [List.getD_eq_getElem?_getD, List.getD_eq_getElem?_getD, g1, g2]
    simp only [Option.getD_some]
    congr 1
    omega
  · rw [List.getElem?_eq_none (by simp; omega), List.getElem?_eq_none (by omega)]
def spLaw (K : PySem.W.Frag) : Sp := fun vs H Q _ => ∃ (a : Addr) (ns : List Int), vs = [.ref a] ∧ SqL K H a (ns.map V.int) ∧ ns.length ≤ 63 ∧ ∀ H', Q (.bl true) H'
theorem ok_law_of {f : Addr} {fd : FuncData} (F : Fun K "law" "law" s_law f fd) (T : Txt K mg) : FnOk P w K mg base CX0 4 f fd ["script"] (spLaw K) := by
  refine F.ok sc_law (fun vs H Q E h => ?_) (fun cdv A outer s H vs Q E hr h => ?_)
  · obtain ⟨a, ns, rfl, _⟩ := h
    rfl
  · obtain ⟨a, ns, rfl, hS, hlen, q⟩ := h
    refine ⟨_, (pss_cons (ps_set (i := 1) sc_law.nd rfl (Or.inl rfl) (pe_call (ok__law_bytes T) (hr.mono (by decide)) (by rfl) T.g__law_bytes T.F__law_bytes.kp T.b__law_bytes .nil pass0 (pa_cons (pe_call (ok__law_cell T) (hr.mono (by decide)) (by rfl) T.g__law_cell T.F__law_cell.kp T.b__law_cell .nil pass0 (pa_cons (pv 0) (pa_cons pe_int pa_nil))) (pa_cons (pe_op op_mod (pe_callB call_abs (by rfl) T.z_abs (by decide +kernel) (pa_cons (pe_call (ok__law_cell T) (hr.mono (by decide)) (by rfl) T.g__law_cell T.F__law_cell.kp T.b__law_cell .nil pass0 (pa_cons (pv 0) (pa_cons pe_int pa_nil))) pa_nil)) pe_int) pa_nil))))
      (pss_cons (ps_set (i := 2) sc_law.nd rfl (Or.inl rfl) (pe_callTy call_listH (by rfl) T.z_list (by decide +kernel) (pa_cons (pv 1) pa_nil)))
      (pss_cons (ps_set (i := 3) sc_law.nd rfl (Or.inl rfl) (pe_lst pa_nil))
      (pss_cons (ps_for PassesOwn.never rfl (pi_list (pv 1)) (pg_name (i := 4) sc_law.nd rfl (Or.inl rfl)) (pss_one (ps_set (i := 3) sc_law.nd rfl (Or.inl rfl) (pe_op op_cat (pv 3) (pe_lst (pa_cons (pe_callB call_ord (by rfl) T.z_ord (by decide +kernel) (pa_cons (pe_ix ix_str pe_str (pe_op op_fdiv (pv 4) pe_int) (fun _ _ => rfl)) pa_nil)) (pa_cons (pe_callB call_ord (by rfl) T.z_ord (by decide +kernel) (pa_cons (pe_ix ix_str pe_str (pe_op op_mod (pv 4) pe_int) (fun _ _ => rfl)) pa_nil)) pa_nil)))))))
      (pss_cons (ps_if (PW.pt (pw_or (pt_not (pt_val (pe_call (ok__law_is_list T) (hr.mono (by decide)) (by rfl) T.g__law_is_list T.F__law_is_list.kp T.b__law_is_list .nil pass0 (pa_cons (pe_call (ok_to_hex T) (hr.mono (by decide)) (by rfl) T.g_to_hex T.F_to_hex.kp T.b_to_hex .nil pass0 (pa_cons (pv 2) pa_nil)) (pa_cons (pv 3) pa_nil))))) (pw_or1 (pt_cmpR (op_neIL hr.units) (pv 2) (pv 1) (nomark _))))) (pss_one (ps_ret pe_bl)) pss_nil)
      (pss_cons (ps_set (i := 5) sc_law.nd rfl (Or.inl rfl) (pe_call (ok__law_mixed T) (hr.mono (by decide)) (by rfl) T.g__law_mixed T.F__law_mixed.kp T.b__law_mixed .nil pass0 (pa_cons (pv 3) (pa_cons (pe_callB call_abs (by rfl) T.z_abs (by decide +kernel) (pa_cons (pe_call (ok__law_cell T) (hr.mono (by decide)) (by rfl) T.g__law_cell T.F__law_cell.kp T.b__law_cell .nil pass0 (pa_cons (pv 0) (pa_cons pe_int pa_nil))) pa_nil)) pa_nil))))
      (pss_cons (ps_if (pt_cmpR (op_neLI hr.units) (pe_call (ok_from_hex T) (hr.mono (by decide)) (by rfl) T.g_from_hex T.F_from_hex.kp T.b_from_hex .nil pass0 (pa_cons (pe_callTy call_listH (by rfl) T.z_list (by decide +kernel) (pa_cons (pv 5) pa_nil)) (pa_cons (pe_op op_add (pe_callB call_lenH (by rfl) T.z_len PySem.boot_len (pa_cons (pv 5) pa_nil)) pe_int) pa_nil))) (pe_tup (pa_cons (pv 1) (pa_cons pe_int pa_nil))) (nomark _)) (pss_one (ps_ret pe_bl)) pss_nil)
      (pss_cons (ps_set (i := 6) sc_law.nd rfl (Or.inl rfl) (pe_callB call_abs (by rfl) T.z_abs (by decide +kernel) (pa_cons (pe_call (ok__law_cell T) (hr.mono (by decide)) (by rfl) T.g__law_cell T.F__law_cell.kp T.b__law_cell .nil pass0 (pa_cons (pv 0) (pa_cons pe_int pa_nil))) pa_nil)))
      (pss_cons (ps_set (i := 7) sc_law.nd rfl (Or.inl rfl) (pe_lst (pa_cons (pv 5) (pa_cons (pe_op op_cat (pv 5) (pe_lst (pa_cons (pe_op op_add pe_int (pe_op op_mod (pv 6) pe_int)) pa_nil))) (pa_cons (pe_call (ok__law_bytes T) (hr.mono (by decide)) (by rfl) T.g__law_bytes T.F__law_bytes.kp T.b__law_bytes .nil pass0 (pa_cons (pe_call (ok__law_cell T) (hr.mono (by decide)) (by rfl) T.g__law_cell T.F__law_cell.kp T.b__law_cell .nil pass0 (pa_cons (pv 0) (pa_cons pe_int pa_nil))) (pa_cons (pe_op op_mod (pv 6) pe_int) pa_nil))) (pa_cons (pe_lst pa_nil) pa_nil))))))
      (pss_cons (ps_for PassesOwn.never rfl (pi_list (pv 7)) (pg_name (i := 8) sc_law.nd rfl (Or.inl rfl)) (pss_one (ps_for PassesOwn.never rfl (pi_list (pe_lst (pa_cons (pe_callB call_lenH (by rfl) T.z_len PySem.boot_len (pa_cons (pv 8) pa_nil)) (pa_cons (pe_op op_add (pe_callB call_lenH (by rfl) T.z_len PySem.boot_len (pa_cons (pv 8) pa_nil)) (pe_op op_mod (pe_op op_fdiv (pv 6) pe_int) pe_int)) (pa_cons (pe_callB (call_max2 rfl) (by rfl) T.z_max (by decide +kernel) (pa_cons pe_int (pa_cons (pe_op op_sub (pe_op op_sub (pe_callB call_lenH (by rfl) T.z_len PySem.boot_len (pa_cons (pv 8) pa_nil)) pe_int) (pe_op op_mod (pe_op op_fdiv (pv 6) pe_int) pe_int)) pa_nil))) pa_nil))))) (pg_name (i := 9) sc_law.nd rfl (Or.inl rfl)) (pss_one (ps_if (pt_not (pt_val (pe_call (ok__law_right T) hr (by rfl) T.g__law_right T.F__law_right.kp T.b__law_right .nil pass0 (pa_cons (pv 8) (pa_cons (pv 9) pa_nil))))) (pss_one (ps_ret pe_bl)) pss_nil)))))
      (pss_one (ps_ret pe_bl)))))))))))), ?_⟩
    walk_at "vc"
    refine ⟨a, ns, 1, rfl, hS, ?_⟩
    walk_at "vc"
    refine ⟨a, ns, 0, rfl, hS, ?_⟩
    walk_at "vc"
    rw [absI_eq]
    refine bytes_mod (by decide) (by decide) fun p hp => ?_
    walk_at "vc"
    have hD := byL_mem (cellA ns 1) ((absI (cellA ns 0) % 41).toNat)
    have hDl := byL_len (cellA ns 1) ((absI (cellA ns 0) % 41).toNat)
    have hDm := mod_in (absI (cellA ns 0)) (show (0 : Int) < 41 by decide)
    generalize byL (cellA ns 1) ((absI (cellA ns 0) % 41).toNat) = D at hD hDl ⊢
    have hDn : D.length ≤ 40 := by omega
    have hB : Byt D := hD
    intro l hl
    have hpl : p ≠ l := ne_of_none upd_same hl
    have s1 := (same_upd (o := .lst (D.map V.int)) hp)
    have s2 := s1.trans (same_upd (o := .lst (D.map V.int)) hl)
    have gp : upd (upd H p (.lst (D.map V.int))) l (.lst (D.map V.int)) p = some (.lst (D.map V.int)) := by rw [upd_ne hpl, upd_same]
    have gl : upd (upd H p (.lst (D.map V.int))) l (.lst (D.map V.int)) l = some (.lst (D.map V.int)) := upd_same
    generalize upd (upd H p (.lst (D.map V.int))) l (.lst (D.map V.int)) = H1 at s2 gp gl ⊢
    intro c0 hc0
    have s3 := same_upd (o := .lst []) hc0
    refine ⟨⟨_, .inl (.inl (s3 _ _ gp))⟩, lp_list (xs := D.map V.int) (fun i σ H' => ∃ bv c, σ = [some (.ref a), some (.ref p), some (.ref l), some (.ref c), bv, none, none, none, none, none] ∧ Same H1 H' ∧ H1 c = none ∧ H' c = some (.lst ((hx (D.take i)).map V.int))) ⟨none, c0, rfl, s3, hc0, upd_same⟩ ?_ ?_ ?_⟩
    · rintro i σ H' _ ⟨bv, c, rfl, sm, hc, gc⟩
      exact .inl (.inl (sm _ _ gp))
    · rintro i x σ H' hx1 ⟨bv, c, rfl, sm, hc, gc⟩
      rw [List.getElem?_map] at hx1
      obtain ⟨b, hb1, rfl⟩ := Option.map_eq_some_iff.mp hx1
      have hb := hB b (List.mem_of_getElem? hb1)
      walk_at "vc"
      have a1 := row_at ⟨b.toNat / 16, by omega⟩
      have a2 := row_at ⟨b.toNat % 16, by omega⟩
      rw [show ((((⟨b.toNat / 16, by omega⟩ : _root_.Fin 16) : Nat)) : Int) = b / 16 by show ((b.toNat / 16 : Nat) : Int) = b / 16; omega] at a1
      rw [show ((((⟨b.toNat % 16, by omega⟩ : _root_.Fin 16) : Nat)) : Int) = b % 16 by show ((b.toNat % 16 : Nat) : Int) = b % 16; omega] at a2
      refine ⟨⟨by decide, by decide⟩, by decide +kernel, _, a1, rfl, by decide +kernel, _, a2, rfl, by decide, fun r hr' => ?_⟩
      have n1 : c ≠ r := ne_of_none gc hr'
      refine ⟨_, by rw [upd_ne n1]; exact gc, ?_, fun r2 hr2 => ⟨?_, ?_, ?_⟩⟩
      · rw [List.length_map, hx_len, List.length_take]
        exact Nat.le_trans (show 2 * min i D.length + 2 ≤ 1000 by omega) (by decide)
      · exact (sm.trans (same_upd hr')).trans (same_upd hr2)
      · exact (sm.trans (same_upd hr')).free hr2
      · rw [hx_take hb1, List.map_append]
        rfl
    · rintro σ H' ⟨bv, c, rfl, sm, hc, gc⟩
      rw [List.length_map, List.take_length] at gc
      walk_at "vc"
      refine ⟨l, D, rfl, sm _ _ gl, by omega, hB, fun H2 r sm2 hr2 gr => ?_⟩
      refine ⟨r, c, hx D, rfl, gr, sm2 _ _ gc, fun H3 sm3 => ?_⟩
      have t3 := (sm.trans sm2).trans sm3
      walk_at "vc"
      refine ⟨D, t3 _ _ gl, D, t3 _ _ gp, ?_⟩
      rw [decide_eq_true (show D = D from rfl)]
      walk_at "vc"
      have gc3 := sm3 _ _ (sm2 _ _ gc)
      refine ⟨a, ns, 2, rfl, (s2.trans t3).seq hS, ?_⟩
      walk_at "vc"
      refine ⟨c, hx D, _, rfl, gc3, by rw [hx_len]; omega, hx_range hB, fun H4 pm ms sm4 hpm gm hml hmv => ?_⟩
      walk_at "vc"
      refine ⟨_, gm, fun l2 hl2 => ?_⟩
      have n1 : pm ≠ l2 := ne_of_none gm hl2
      refine ⟨_, by rw [upd_ne n1]; exact gm, ?_⟩
      have hml2 : ms.length ≤ 160 := by rw [hx_len] at hml; omega
      rw [List.length_map]
      refine ⟨l2, ms, (ms.length : Int) + 3, rfl, upd_same, by omega, by omega, fun H5 x5 q5 sm5 _ _ g5 g5q => ⟨by decide, fun r5 hr5 => ?_⟩⟩
      have t4 := t3.trans sm4
      have t5 := (t4.trans (same_upd (o := .lst (ms.map V.int)) hl2)).trans sm5
      have e5 : fhL ms ((ms.length : Int) + 3) = 3 := by
        unfold fhL
        rw [if_neg (by omega)]
        omega
      have e6 : fhR ms ((ms.length : Int) + 3) = D := by
        unfold fhR
        rw [if_neg (by omega), hmv, fh_back hB]
      rw [e5] at g5
      rw [e6] at g5q
      have s5 := same_upd (o := .tup [V.ref p, V.int 3]) hr5
      refine ⟨x5, r5, q5, p, 3, 3, D, D, rfl, rfl, s5 _ _ g5, upd_same, s5 _ _ g5q, s5 _ _ (t5 _ _ gp), _, rfl, ?_⟩
      rw [decide_eq_true (show D = D from rfl), decide_eq_true (show (3 : Int) = 3 from rfl)]
      refine iteF ?_
      have t6 := t5.trans s5
      have gm6 : upd H5 r5 (.tup [V.ref p, V.int 3]) pm = some (.lst (ms.map V.int)) := s5 _ _ (sm5 _ _ (same_upd hl2 _ _ gm))
      generalize upd H5 r5 (.tup [V.ref p, V.int 3]) = H6 at t6 gm6 ⊢
      refine ⟨a, ns, 3, rfl, (s2.trans t6).seq hS, ?_⟩
      walk_at "vc"
      rw [absI_eq]
      have hcell := absI_nn (cellA ns 3)
      generalize absI (cellA ns 3) = cell at hcell ⊢
      refine ⟨by decide, fun r6 hr6 => ?_⟩
      have u1 := same_upd (o := .lst [V.int (48 + cell % 10)]) hr6
      refine ⟨_, u1 _ _ gm6, by rw [List.length_map]; exact Nat.le_trans (show ms.length + 1 ≤ 1000 by omega) (by decide), fun r7 hr7 => ?_⟩
      have em : List.map V.int ms ++ [V.int (48 + cell % 10)] = List.map V.int (ms ++ [48 + cell % 10]) := by rw [List.map_append]; rfl
      rw [em]
      have u2 := u1.trans (same_upd (o := .lst (List.map V.int (ms ++ [48 + cell % 10]))) hr7)
      have gr7 : upd (upd H6 r6 (.lst [V.int (48 + cell % 10)])) r7 (.lst (List.map V.int (ms ++ [48 + cell % 10]))) r7 = some (.lst (List.map V.int (ms ++ [48 + cell % 10]))) := upd_same
      generalize upd (upd H6 r6 (.lst [V.int (48 + cell % 10)])) r7 (.lst (List.map V.int (ms ++ [48 + cell % 10]))) = H7 at u2 gr7 ⊢
      refine ⟨a, ns, 4, rfl, ((s2.trans t6).trans u2).seq hS, ?_⟩
      refine bytes_mod (by decide) (by decide) fun r8 hr8 => ?_
      have hzl := byL_len (cellA ns 4) ((cell % 50).toNat)
      have hzm := mod_in cell (show (0 : Int) < 50 by decide)
      generalize byL (cellA ns 4) ((cell % 50).toNat) = Z at hzl ⊢
      have u3 := same_upd (o := .lst (Z.map V.int)) hr8
      have gr8 : upd H7 r8 (.lst (Z.map V.int)) r8 = some (.lst (Z.map V.int)) := upd_same
      generalize upd H7 r8 (.lst (Z.map V.int)) = H8 at u3 gr8 ⊢
      intro r9 hr9
      have u4 := same_upd (o := .lst []) hr9
      have gr9 : upd H8 r9 (.lst []) r9 = some (.lst (List.map V.int [])) := upd_same
      generalize upd H8 r9 (.lst []) = H9 at u4 gr9 ⊢
      refine ⟨by decide, fun r10 hr10 => ?_⟩
      have u5 := same_upd (o := .lst [V.ref pm, V.ref r7, V.ref r8, V.ref r9]) hr10
      have gr10 : upd H9 r10 (.lst [V.ref pm, V.ref r7, V.ref r8, V.ref r9]) r10 = some (.lst [V.ref pm, V.ref r7, V.ref r8, V.ref r9]) := upd_same
      have gpm := u5 _ _ (u4 _ _ (u3 _ _ (u2 _ _ gm6)))
      have gp7 := u5 _ _ (u4 _ _ (u3 _ _ gr7))
      have gp8 := u5 _ _ (u4 _ _ gr8)
      have gp9 := u5 _ _ gr9
      generalize upd H9 r10 (.lst [V.ref pm, V.ref r7, V.ref r8, V.ref r9]) = H10 at gr10 gpm gp7 gp8 gp9 ⊢
      have rows : ∀ x ∈ [V.ref pm, V.ref r7, V.ref r8, V.ref r9], ∃ (r : Addr) (L : List Int), x = V.ref r ∧ H10 r = some (.lst (List.map V.int L)) ∧ L.length ≤ 1000 := by
        intro x hx
        simp only [List.mem_cons, List.not_mem_nil, or_false] at hx
        rcases hx with rfl | rfl | rfl | rfl
        · exact ⟨_, _, rfl, gpm, by omega⟩
        · exact ⟨_, _, rfl, gp7, by rw [List.length_append, List.length_singleton]; omega⟩
        · exact ⟨_, _, rfl, gp8, by omega⟩
        · exact ⟨_, _, rfl, gp9, by decide⟩
      refine ⟨⟨_, .inl (.inl gr10)⟩, lp_list (xs := [V.ref pm, V.ref r7, V.ref r8, V.ref r9]) (fun i σ H' => ∃ rv lv, σ = [some (.ref a), some (.ref p), some (.ref l), some (.ref c), bv, some (.ref pm), some (.int cell), some (.ref r10), rv, lv] ∧ Same H10 H') ⟨none, none, rfl, Same.refl _⟩ ?_ ?_ ?_⟩
      · rintro i σ H' _ ⟨rv, lv, rfl, sm⟩
        exact .inl (.inl (sm _ _ gr10))
      · rintro i x σ H' hx1 ⟨rv, lv, rfl, sm⟩
        obtain ⟨r, L, rfl, gL, hL⟩ := rows x (List.mem_of_getElem? hx1)
        have gL2 := sm _ _ gL
        walk_at "vc"
        simp only [gL2]
        walk_at "vc"
        rw [List.length_map]
        refine ⟨⟨by decide, by decide⟩, ⟨by decide, by decide⟩, by decide, fun r11 hr11 => ?_⟩
        have hm9 := mod_in (cell / 50) (show (0 : Int) < 9 by decide)
        have lefts : ∀ x ∈ [V.int (L.length : Int), V.int ((L.length : Int) + cell / 50 % 9), V.int (if (L.length : Int) - 1 - cell / 450 % 3 > 0 then (L.length : Int) - 1 - cell / 450 % 3 else 0)], ∃ n : Int, x = V.int n ∧ 0 ≤ n := by
          intro x hx
          simp only [List.mem_cons, List.not_mem_nil, or_false] at hx
          rcases hx with rfl | rfl | rfl
          · exact ⟨_, rfl, by omega⟩
          · exact ⟨_, rfl, by omega⟩
          · exact ⟨_, rfl, by split <;> omega⟩
        generalize [V.int (L.length : Int), V.int ((L.length : Int) + cell / 50 % 9), V.int (if (L.length : Int) - 1 - cell / 450 % 3 > 0 then (L.length : Int) - 1 - cell / 450 % 3 else 0)] = lf at lefts ⊢
        have u6 := same_upd (o := .lst lf) hr11
        have gr11 : upd H' r11 (.lst lf) r11 = some (.lst lf) := upd_same
        have sm6 := sm.trans u6
        have gL6 := u6 _ _ gL2
        generalize upd H' r11 (.lst lf) = H11 at u6 gr11 sm6 gL6 ⊢
        refine ⟨⟨_, .inl (.inl gr11)⟩, lp_list (xs := lf) (fun i σ H' => ∃ lv, σ = [some (.ref a), some (.ref p), some (.ref l), some (.ref c), bv, some (.ref pm), some (.int cell), some (.ref r10), some (.ref r), lv] ∧ Same H11 H') ⟨lv, rfl, Same.refl _⟩ ?_ ?_ ?_⟩
        · rintro i2 σ H12 _ ⟨lv2, rfl, sm7⟩
          exact .inl (.inl (sm7 _ _ gr11))
        · rintro i2 x σ H12 hx2 ⟨lv2, rfl, sm7⟩
          obtain ⟨n, rfl, hn0⟩ := lefts x (List.mem_of_getElem? hx2)
          walk_at "vc"
          refine ⟨r, L, n, rfl, sm7 _ _ gL6, by omega, hn0, fun H13 sm8 => ?_⟩
          walk_at "vc"
          exact sm7.trans sm8
        · rintro σ H12 ⟨lv2, rfl, sm7⟩
          walk_at "vc"
          exact sm6.trans sm7
      · rintro σ H' ⟨rv, lv, rfl, sm⟩
        walk_at "vc"
        exact q _
end
theorem all_mk {l : PySem.W.OpenLaw} {w : World} {K : PySem.W.Frag} {h : Heap} {mg : Str → Option Value} {fa : Addr} (X : K.In h) (G : h.Ns mainGlobals mg) (hfa : mg "law" = some (.ref fa))
    {f1 : Addr} {od1 an1 : Option Addr} {sl1 : Array (Option Value)} {oc1 kV1 dc1 pm1 cd1 ct1 : Value}
    (a1 : PySem.W.nsIn K mainGlobals "codes" = some (some (.ref f1))) (l1 : K.lookup f1 = some ⟨oc1, od1, .func (PySem.W.fnOf "codes" "codes" (defArgs s_codes) (defBody s_codes) (defScope s_codes) .none kV1 dc1 pm1 an1 cd1 ct1), sl1⟩) (c1 : PySem.W.codeIn K cd1 "codes" = true) (k1 : PySem.W.keepIn K (.ref f1) = true)
    {f2 : Addr} {od2 an2 : Option Addr} {sl2 : Array (Option Value)} {oc2 kV2 dc2 pm2 cd2 ct2 : Value}
    (a2 : PySem.W.nsIn K mainGlobals "spend" = some (some (.ref f2))) (l2 : K.lookup f2 = some ⟨oc2, od2, .func (PySem.W.fnOf "spend" "spend" (defArgs s_spend) (defBody s_spend) (defScope s_spend) .none kV2 dc2 pm2 an2 cd2 ct2), sl2⟩) (c2 : PySem.W.codeIn K cd2 "spend" = true) (k2 : PySem.W.keepIn K (.ref f2) = true)
    {f3 : Addr} {od3 an3 : Option Addr} {sl3 : Array (Option Value)} {oc3 kV3 dc3 pm3 cd3 ct3 : Value}
    (a3 : PySem.W.nsIn K mainGlobals "hex_digit" = some (some (.ref f3))) (l3 : K.lookup f3 = some ⟨oc3, od3, .func (PySem.W.fnOf "hex_digit" "hex_digit" (defArgs s_hex_digit) (defBody s_hex_digit) (defScope s_hex_digit) .none kV3 dc3 pm3 an3 cd3 ct3), sl3⟩) (c3 : PySem.W.codeIn K cd3 "hex_digit" = true) (k3 : PySem.W.keepIn K (.ref f3) = true)
    {f4 : Addr} {od4 an4 : Option Addr} {sl4 : Array (Option Value)} {oc4 kV4 dc4 pm4 cd4 ct4 : Value}
    (a4 : PySem.W.nsIn K mainGlobals "to_hex" = some (some (.ref f4))) (l4 : K.lookup f4 = some ⟨oc4, od4, .func (PySem.W.fnOf "to_hex" "to_hex" (defArgs s_to_hex) (defBody s_to_hex) (defScope s_to_hex) .none kV4 dc4 pm4 an4 cd4 ct4), sl4⟩) (c4 : PySem.W.codeIn K cd4 "to_hex" = true) (k4 : PySem.W.keepIn K (.ref f4) = true)
    {f5 : Addr} {od5 an5 : Option Addr} {sl5 : Array (Option Value)} {oc5 kV5 dc5 pm5 cd5 ct5 : Value}
    (a5 : PySem.W.nsIn K mainGlobals "from_hex" = some (some (.ref f5))) (l5 : K.lookup f5 = some ⟨oc5, od5, .func (PySem.W.fnOf "from_hex" "from_hex" (defArgs s_from_hex) (defBody s_from_hex) (defScope s_from_hex) .none kV5 dc5 pm5 an5 cd5 ct5), sl5⟩) (c5 : PySem.W.codeIn K cd5 "from_hex" = true) (k5 : PySem.W.keepIn K (.ref f5) = true)
    {f6 : Addr} {od6 an6 : Option Addr} {sl6 : Array (Option Value)} {oc6 kV6 dc6 pm6 cd6 ct6 : Value}
    (a6 : PySem.W.nsIn K mainGlobals "_law_cell" = some (some (.ref f6))) (l6 : K.lookup f6 = some ⟨oc6, od6, .func (PySem.W.fnOf "_law_cell" "_law_cell" (defArgs s__law_cell) (defBody s__law_cell) (defScope s__law_cell) .none kV6 dc6 pm6 an6 cd6 ct6), sl6⟩) (c6 : PySem.W.codeIn K cd6 "_law_cell" = true) (k6 : PySem.W.keepIn K (.ref f6) = true)
    {f7 : Addr} {od7 an7 : Option Addr} {sl7 : Array (Option Value)} {oc7 kV7 dc7 pm7 cd7 ct7 : Value}
    (a7 : PySem.W.nsIn K mainGlobals "_law_twice" = some (some (.ref f7))) (l7 : K.lookup f7 = some ⟨oc7, od7, .func (PySem.W.fnOf "_law_twice" "_law_twice" (defArgs s__law_twice) (defBody s__law_twice) (defScope s__law_twice) .none kV7 dc7 pm7 an7 cd7 ct7), sl7⟩) (c7 : PySem.W.codeIn K cd7 "_law_twice" = true) (k7 : PySem.W.keepIn K (.ref f7) = true)
    {f8 : Addr} {od8 an8 : Option Addr} {sl8 : Array (Option Value)} {oc8 kV8 dc8 pm8 cd8 ct8 : Value}
    (a8 : PySem.W.nsIn K mainGlobals "_law_bytes" = some (some (.ref f8))) (l8 : K.lookup f8 = some ⟨oc8, od8, .func (PySem.W.fnOf "_law_bytes" "_law_bytes" (defArgs s__law_bytes) (defBody s__law_bytes) (defScope s__law_bytes) .none kV8 dc8 pm8 an8 cd8 ct8), sl8⟩) (c8 : PySem.W.codeIn K cd8 "_law_bytes" = true) (k8 : PySem.W.keepIn K (.ref f8) = true)
    {f9 : Addr} {od9 an9 : Option Addr} {sl9 : Array (Option Value)} {oc9 kV9 dc9 pm9 cd9 ct9 : Value}
    (a9 : PySem.W.nsIn K mainGlobals "_law_integer" = some (some (.ref f9))) (l9 : K.lookup f9 = some ⟨oc9, od9, .func (PySem.W.fnOf "_law_integer" "_law_integer" (defArgs s__law_integer) (defBody s__law_integer) (defScope s__law_integer) .none kV9 dc9 pm9 an9 cd9 ct9), sl9⟩) (c9 : PySem.W.codeIn K cd9 "_law_integer" = true) (k9 : PySem.W.keepIn K (.ref f9) = true)
    {f10 : Addr} {od10 an10 : Option Addr} {sl10 : Array (Option Value)} {oc10 kV10 dc10 pm10 cd10 ct10 : Value}
    (a10 : PySem.W.nsIn K mainGlobals "_law_is_list" = some (some (.ref f10))) (l10 : K.lookup f10 = some ⟨oc10, od10, .func (PySem.W.fnOf "_law_is_list" "_law_is_list" (defArgs s__law_is_list) (defBody s__law_is_list) (defScope s__law_is_list) .none kV10 dc10 pm10 an10 cd10 ct10), sl10⟩) (c10 : PySem.W.codeIn K cd10 "_law_is_list" = true) (k10 : PySem.W.keepIn K (.ref f10) = true)
    {f11 : Addr} {od11 an11 : Option Addr} {sl11 : Array (Option Value)} {oc11 kV11 dc11 pm11 cd11 ct11 : Value}
    (a11 : PySem.W.nsIn K mainGlobals "_law_digit" = some (some (.ref f11))) (l11 : K.lookup f11 = some ⟨oc11, od11, .func (PySem.W.fnOf "_law_digit" "_law_digit" (defArgs s__law_digit) (defBody s__law_digit) (defScope s__law_digit) .none kV11 dc11 pm11 an11 cd11 ct11), sl11⟩) (c11 : PySem.W.codeIn K cd11 "_law_digit" = true) (k11 : PySem.W.keepIn K (.ref f11) = true)
    {f12 : Addr} {od12 an12 : Option Addr} {sl12 : Array (Option Value)} {oc12 kV12 dc12 pm12 cd12 ct12 : Value}
    (a12 : PySem.W.nsIn K mainGlobals "_law_due" = some (some (.ref f12))) (l12 : K.lookup f12 = some ⟨oc12, od12, .func (PySem.W.fnOf "_law_due" "_law_due" (defArgs s__law_due) (defBody s__law_due) (defScope s__law_due) .none kV12 dc12 pm12 an12 cd12 ct12), sl12⟩) (c12 : PySem.W.codeIn K cd12 "_law_due" = true) (k12 : PySem.W.keepIn K (.ref f12) = true)
    {f13 : Addr} {od13 an13 : Option Addr} {sl13 : Array (Option Value)} {oc13 kV13 dc13 pm13 cd13 ct13 : Value}
    (a13 : PySem.W.nsIn K mainGlobals "_law_right" = some (some (.ref f13))) (l13 : K.lookup f13 = some ⟨oc13, od13, .func (PySem.W.fnOf "_law_right" "_law_right" (defArgs s__law_right) (defBody s__law_right) (defScope s__law_right) .none kV13 dc13 pm13 an13 cd13 ct13), sl13⟩) (c13 : PySem.W.codeIn K cd13 "_law_right" = true) (k13 : PySem.W.keepIn K (.ref f13) = true)
    {f14 : Addr} {od14 an14 : Option Addr} {sl14 : Array (Option Value)} {oc14 kV14 dc14 pm14 cd14 ct14 : Value}
    (a14 : PySem.W.nsIn K mainGlobals "_law_mixed" = some (some (.ref f14))) (l14 : K.lookup f14 = some ⟨oc14, od14, .func (PySem.W.fnOf "_law_mixed" "_law_mixed" (defArgs s__law_mixed) (defBody s__law_mixed) (defScope s__law_mixed) .none kV14 dc14 pm14 an14 cd14 ct14), sl14⟩) (c14 : PySem.W.codeIn K cd14 "_law_mixed" = true) (k14 : PySem.W.keepIn K (.ref f14) = true)
    {f15 : Addr} {od15 an15 : Option Addr} {sl15 : Array (Option Value)} {oc15 kV15 dc15 pm15 cd15 ct15 : Value}
    (a15 : PySem.W.nsIn K mainGlobals "law" = some (some (.ref f15))) (l15 : K.lookup f15 = some ⟨oc15, od15, .func (PySem.W.fnOf "law" "law" (defArgs s_law) (defBody s_law) (defScope s_law) .none kV15 dc15 pm15 an15 cd15 ct15), sl15⟩) (c15 : PySem.W.codeIn K cd15 "law" = true) (k15 : PySem.W.keepIn K (.ref f15) = true)
    (a16 : PySem.W.nsIn K mainGlobals "abs" = some none)
    (a17 : PySem.W.nsIn K mainGlobals "bool" = some none)
    (a18 : PySem.W.nsIn K mainGlobals "int" = some none)
    (a19 : PySem.W.nsIn K mainGlobals "isinstance" = some none)
    (a20 : PySem.W.nsIn K mainGlobals "len" = some none)
    (a21 : PySem.W.nsIn K mainGlobals "list" = some none)
    (a22 : PySem.W.nsIn K mainGlobals "max" = some none)
    (a23 : PySem.W.nsIn K mainGlobals "ord" = some none)
    (a24 : PySem.W.nsIn K mainGlobals "range" = some none)
    (a25 : PySem.W.nsIn K mainGlobals "tuple" = some none)
    (a26 : PySem.W.nsIn K mainGlobals "zip" = some none)
    : ∃ fd : FuncData, (∀ (s : Shared) (v : Value), BindsTo s fd ⟨[v], []⟩ [("script", v)]) ∧ ∀ base : Heap, K.In base → base.Ns mainGlobals mg → FnOk l.prog w K mg base CX0 4 fa fd ["script"] (spLaw K) := by
  have e := hfa.symm.trans (PySem.W.mg_of X G a15)
  cases e
  have F1 := fun_mk (st := s_codes) l1 c1 k1
  have b1 := F1.binds (ps := ["text"]) fun _ _ _ _ _ _ us hl => match us, hl with | [_], _ => rfl
  have F2 := fun_mk (st := s_spend) l2 c2 k2
  have b2 := F2.binds (ps := ["left", "cost"]) fun _ _ _ _ _ _ us hl => match us, hl with | [_, _], _ => rfl
  have F3 := fun_mk (st := s_hex_digit) l3 c3 k3
  have b3 := F3.binds (ps := ["code"]) fun _ _ _ _ _ _ us hl => match us, hl with | [_], _ => rfl
  have F4 := fun_mk (st := s_to_hex) l4 c4 k4
  have b4 := F4.binds (ps := ["data"]) fun _ _ _ _ _ _ us hl => match us, hl with | [_], _ => rfl
  have F5 := fun_mk (st := s_from_hex) l5 c5 k5
  have b5 := F5.binds (ps := ["data", "left"]) fun _ _ _ _ _ _ us hl => match us, hl with | [_, _], _ => rfl
  have F6 := fun_mk (st := s__law_cell) l6 c6 k6
  have b6 := F6.binds (ps := ["script", "k"]) fun _ _ _ _ _ _ us hl => match us, hl with | [_, _], _ => rfl
  have F7 := fun_mk (st := s__law_twice) l7 c7 k7
  have b7 := F7.binds (ps := ["cell", "k"]) fun _ _ _ _ _ _ us hl => match us, hl with | [_, _], _ => rfl
  have F8 := fun_mk (st := s__law_bytes) l8 c8 k8
  have b8 := F8.binds (ps := ["cell", "size"]) fun _ _ _ _ _ _ us hl => match us, hl with | [_, _], _ => rfl
  have F9 := fun_mk (st := s__law_integer) l9 c9 k9
  have b9 := F9.binds (ps := ["value"]) fun _ _ _ _ _ _ us hl => match us, hl with | [_], _ => rfl
  have F10 := fun_mk (st := s__law_is_list) l10 c10 k10
  have b10 := F10.binds (ps := ["found", "due"]) fun _ _ _ _ _ _ us hl => match us, hl with | [_, _], _ => rfl
  have F11 := fun_mk (st := s__law_digit) l11 c11 k11
  have b11 := F11.binds (ps := ["code"]) fun _ _ _ _ _ _ us hl => match us, hl with | [_], _ => rfl
  have F12 := fun_mk (st := s__law_due) l12 c12 k12
  have b12 := F12.binds (ps := ["data", "left"]) fun _ _ _ _ _ _ us hl => match us, hl with | [_, _], _ => rfl
  have F13 := fun_mk (st := s__law_right) l13 c13 k13
  have b13 := F13.binds (ps := ["data", "left"]) fun _ _ _ _ _ _ us hl => match us, hl with | [_, _], _ => rfl
  have F14 := fun_mk (st := s__law_mixed) l14 c14 k14
  have b14 := F14.binds (ps := ["codes_v", "cell"]) fun _ _ _ _ _ _ us hl => match us, hl with | [_, _], _ => rfl
  have F15 := fun_mk (st := s_law) l15 c15 k15
  have b15 := F15.binds (ps := ["script"]) fun _ _ _ _ _ _ us hl => match us, hl with | [_], _ => rfl
  have T : Txt K mg := ⟨f1, _, F1, b1, PySem.W.mg_of X G a1,
    f2, _, F2, b2, PySem.W.mg_of X G a2,
    f3, _, F3, b3, PySem.W.mg_of X G a3,
    f4, _, F4, b4, PySem.W.mg_of X G a4,
    f5, _, F5, b5, PySem.W.mg_of X G a5,
    f6, _, F6, b6, PySem.W.mg_of X G a6,
    f7, _, F7, b7, PySem.W.mg_of X G a7,
    f8, _, F8, b8, PySem.W.mg_of X G a8,
    f9, _, F9, b9, PySem.W.mg_of X G a9,
    f10, _, F10, b10, PySem.W.mg_of X G a10,
    f11, _, F11, b11, PySem.W.mg_of X G a11,
    f12, _, F12, b12, PySem.W.mg_of X G a12,
    f13, _, F13, b13, PySem.W.mg_of X G a13,
    f14, _, F14, b14, PySem.W.mg_of X G a14,
    fa, _, F15, b15, PySem.W.mg_of X G a15,
    PySem.W.mg_none_of X G a16,
    PySem.W.mg_none_of X G a17,
    PySem.W.mg_none_of X G a18,
    PySem.W.mg_none_of X G a19,
    PySem.W.mg_none_of X G a20,
    PySem.W.mg_none_of X G a21,
    PySem.W.mg_none_of X G a22,
    PySem.W.mg_none_of X G a23,
    PySem.W.mg_none_of X G a24,
    PySem.W.mg_none_of X G a25,
    PySem.W.mg_none_of X G a26⟩
  refine ⟨PySem.W.fnOf "law" "law" (defArgs s_law) (defBody s_law) (defScope s_law) .none kV15 dc15 pm15 an15 cd15 ct15, fun s v => .of_eq rfl, fun base _ _ => ?_⟩
  exact ok_law_of F15 T
end K03
open PySem PySem.W PyProof.Rows
set_option maxRecDepth 100000 in
set_option maxHeartbeats 0 in
theorem PySem.Challenge.cw_stillroom_k03_hexadecimal_digits_holds : PySem.Challenge.rw_stillroom_k03_hexadecimal_digits.Holds := by
  w_on; o_law; k_head; (case hw => w_witness2)
  k_fill
  refine L2.walk_of (l := PySem.Challenge.rw_stillroom_k03_hexadecimal_digits) (n := 63) (k := 4) (x := "script") (CX := fun _ => L2.CX0) (sp := fun w => K03.spLaw _) rfl (by decide) rfl ⟨rfl, by decide, by decide⟩ (fun w h Y => PySem.W.kIn_of Y) ?F (fun _ _ a ns hl _ hS => ⟨a, ns, rfl, hS, hl, fun _ => rfl⟩) (fun _ _ _ _ _ h => h)
  case F =>
    intro w mg fa h KX G hmg
    refine' K03.all_mk KX G hmg ?a1 ?l1 ?c1 ?k1 ?a2 ?l2 ?c2 ?k2 ?a3 ?l3 ?c3 ?k3 ?a4 ?l4 ?c4 ?k4 ?a5 ?l5 ?c5 ?k5 ?a6 ?l6 ?c6 ?k6 ?a7 ?l7 ?c7 ?k7 ?a8 ?l8 ?c8 ?k8 ?a9 ?l9 ?c9 ?k9 ?a10 ?l10 ?c10 ?k10 ?a11 ?l11 ?c11 ?k11 ?a12 ?l12 ?c12 ?k12 ?a13 ?l13 ?c13 ?k13 ?a14 ?l14 ?c14 ?k14 ?a15 ?l15 ?c15 ?k15 ?a16 ?a17 ?a18 ?a19 ?a20 ?a21 ?a22 ?a23 ?a24 ?a25 ?a26
    (case a1 => k_is)
    (case l1 => k_is)
    (case c1 => k_is)
    (case k1 => k_is)
    (case a2 => k_is)
    (case l2 => k_is)
    (case c2 => k_is)
    (case k2 => k_is)
    (case a3 => k_is)
    (case l3 => k_is)
    (case c3 => k_is)
    (case k3 => k_is)
    (case a4 => k_is)
    (case l4 => k_is)
    (case c4 => k_is)
    (case k4 => k_is)
    (case a5 => k_is)
    (case l5 => k_is)
    (case c5 => k_is)
    (case k5 => k_is)
    (case a6 => k_is)
    (case l6 => k_is)
    (case c6 => k_is)
    (case k6 => k_is)
    (case a7 => k_is)
    (case l7 => k_is)
    (case c7 => k_is)
    (case k7 => k_is)
    (case a8 => k_is)
    (case l8 => k_is)
    (case c8 => k_is)
    (case k8 => k_is)
    (case a9 => k_is)
    (case l9 => k_is)
    (case c9 => k_is)
    (case k9 => k_is)
    (case a10 => k_is)
    (case l10 => k_is)
    (case c10 => k_is)
    (case k10 => k_is)
    (case a11 => k_is)
    (case l11 => k_is)
    (case c11 => k_is)
    (case k11 => k_is)
    (case a12 => k_is)
    (case l12 => k_is)
    (case c12 => k_is)
    (case k12 => k_is)
    (case a13 => k_is)
    (case l13 => k_is)
    (case c13 => k_is)
    (case k13 => k_is)
    (case a14 => k_is)
    (case l14 => k_is)
    (case c14 => k_is)
    (case k14 => k_is)
    (case a15 => k_is)
    (case l15 => k_is)
    (case c15 => k_is)
    (case k15 => k_is)
    (case a16 => k_is)
    (case a17 => k_is)
    (case a18 => k_is)
    (case a19 => k_is)
    (case a20 => k_is)
    (case a21 => k_is)
    (case a22 => k_is)
    (case a23 => k_is)
    (case a24 => k_is)
    (case a25 => k_is)
    (case a26 => k_is)

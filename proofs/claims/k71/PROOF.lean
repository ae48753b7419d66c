import PyProof.Rows.All
import Wide.All
import OpenK.AllK
import Wide.FinOn
import HandS.ForMost
import HandS.Wide
import HandS.IsInst
import HandS.FStr
import HandS.Zip
import HandS.CallLocal
import HandS.Walk
import HandS.TryOnly
import HandS.TupAny
import HandS.DictComp
import HandS.Deep
import PyProof.DictMoreH
import HandS.Text
import HandS.Codes
import KE.GoesMore
import HandS.Style
import HandS.Rev
import HandS.ExcOwn
import HandS.WordsExc
import HandS.ExcIs
import HandS.TryMany
import HandS.Strs
import HandS.SortInts
import PySem.Challenge.RW_stillroom_k71_sound_facts
set_option Elab.async false
set_option linter.all false
set_option maxRecDepth 100000
namespace K71
open PySem PySem.Spec PyProof.Rows L2

/-! ### rules with plainer readings -/
section
variable {X : Cx}
theorem CallR.of {f : Value} {r r' : List V → Hp → VK → Prop} (h : CallR X f r) (k : ∀ xs H Q, r' xs H Q → r xs H Q) : CallR X f r' := fun pins s σ H xs us Q I rv q => h pins s σ H xs us Q I rv (k xs H Q q)
theorem OpR.of {f : Value → Value → Sem Value} {r r' : R2} (h : OpR X f r) (k : ∀ x y H Q, r' x y H Q → r x y H Q) : OpR X f r' := fun pins s σ H x y v u Q I rx ry q => h pins s σ H x y v u Q I rx ry (k x y H Q q)
/-- the name of a plain value's type -/
def tnm : V → Option String
  | .non => some "NoneType"
  | .bl _ => some "bool"
  | .int _ => some "int"
  | .str _ => some "str"
  | _ => none
theorem tnm_int (i : Int) : tnm (.int i) = some "int" := rfl
theorem tnm_bl (b : Bool) : tnm (.bl b) = some "bool" := rfl
theorem tnm_str (x : Str) : tnm (.str x) = some "str" := rfl
theorem tnm_non : tnm .non = some "NoneType" := rfl
theorem tnm_ref (p : Addr) : tnm (.ref p) = none := rfl
theorem scal_ii (i j : Int) : scal (.int i) (.int j) = true := rfl
theorem scal_ss (i j : Str) : scal (.str i) (.str j) = true := rfl
theorem scal_bb (i j : Bool) : scal (.bl i) (.bl j) = true := rfl
theorem scal_nn : scal .non .non = true := rfl
theorem scal_in (i : Int) : scal (.int i) .non = true := rfl
theorem scal_ni (i : Int) : scal .non (.int i) = true := rfl
def rIsiB : List V → Hp → VK → Prop := fun vs H Q => (∃ x n a b, vs = [x, .ty n] ∧ tnm x = some a ∧ kitB a n = some b ∧ Q (.bl b) H) ∨
  (∃ p n xs b, vs = [.ref p, .ty n] ∧ H p = some (.lst xs) ∧ kitB "list" n = some b ∧ Q (.bl b) H) ∨ ∃ p n xs b, vs = [.ref p, .ty n] ∧ H p = some (.tup xs) ∧ kitB "tuple" n = some b ∧ Q (.bl b) H
theorem call_isiB : CallR X (.builtin "isinstance") rIsiB := CallR.of call_isi (by
  intro vs H Q h
  rcases h with ⟨x, n, a, b, rfl, ha, hb, q⟩ | ⟨p, n, xs, b, rfl, ha, hb, q⟩ | ⟨p, n, xs, b, rfl, ha, hb, q⟩
  · refine ⟨x, .ty n, .type a, .type n, b, rfl, .ty n, ?_, kit_ty hb, q⟩
    cases x <;> cases ha
    · exact .base .non
    · exact .base (.bl _)
    · exact .base (.int _)
    · exact .base (.str _)
  · exact ⟨.ref p, .ty n, .type "list", .type n, b, rfl, .ty n, .base (.lst ha), kit_ty hb, q⟩
  · exact ⟨.ref p, .ty n, .type "tuple", .type n, b, rfl, .ty n, .base (.tup ha), kit_ty hb, q⟩)
theorem kb1 : kitB "int" "int" = some true := by decide +kernel
theorem kb2 : kitB "int" "bool" = some false := by decide +kernel
theorem kb3 : kitB "bool" "bool" = some true := by decide +kernel
theorem kb4 : kitB "bool" "int" = some true := by decide +kernel
theorem kb5 : kitB "str" "str" = some true := by decide +kernel
theorem kb6 : kitB "str" "int" = some false := by decide +kernel
theorem kb7 : kitB "list" "list" = some true := by decide +kernel
theorem kb8 : kitB "tuple" "tuple" = some true := by decide +kernel
theorem kb9 : kitB "NoneType" "int" = some false := by decide +kernel
theorem kb10 : kitB "NoneType" "list" = some false := by decide +kernel
/-- len, a copy, an item of a tracked list -/
def rLenH : List V → Hp → VK → Prop := fun vs H Q => ∃ p xs, vs = [.ref p] ∧ H p = some (.lst xs) ∧ Q (.int xs.length) H
theorem call_lenH : CallR X (.builtin "len") rLenH := CallR.of call_len_seq (by
  rintro vs H Q ⟨p, xs, rfl, h, q⟩
  exact ⟨p, xs, rfl, .inl (.inl (.inl h)), q⟩)
def rLenT : List V → Hp → VK → Prop := fun vs H Q => ∃ p xs, vs = [.ref p] ∧ H p = some (.tup xs) ∧ Q (.int xs.length) H
theorem call_lenT : CallR X (.builtin "len") rLenT := CallR.of call_len_seq (by
  rintro vs H Q ⟨p, xs, rfl, h, q⟩
  exact ⟨p, xs, rfl, .inr (.inl (.inl h)), q⟩)
def rListH : List V → Hp → VK → Prop := fun vs H Q => ∃ p xs, vs = [.ref p] ∧ H p = some (.lst xs) ∧ ∀ l, H l = none → Q (.ref l) (upd H l (.lst xs))
theorem call_listH : CallR X (.type "list") rListH := CallR.of call_list_of (by
  rintro vs H Q ⟨p, xs, rfl, h, q⟩
  exact ⟨p, xs, rfl, .inl (.inl (.inl h)), q⟩)
theorem ints_dp {K : PySem.W.Frag} {H : Hp} : ∀ ns : List Int, DpAll K H (ns.map V.int) (ns.map PyData.int)
  | [] => .nil
  | n :: r => .cons (.int n) (ints_dp r)
theorem ints_eqv : ∀ ns ms : List Int, PyData.eqvAll (ns.map PyData.int) (ms.map PyData.int) = decide (ns = ms)
  | [], [] => by simp [PyData.eqvAll]
  | [], _ :: _ => by simp [PyData.eqvAll]
  | _ :: _, [] => by simp [PyData.eqvAll]
  | n :: r, m :: q => by
    rw [List.map_cons, List.map_cons, PyData.eqvAll, ints_eqv r q]
    simp only [PyData.eqv, List.cons.injEq, Bool.decide_and]
    by_cases h : n = m <;> simp [h]
theorem ints_lay : ∀ ns : List Int, PyData.canLayAll0 (ns.map PyData.int) = true
  | [] => rfl
  | _ :: r => by rw [List.map_cons, PyData.canLayAll0, ints_lay r]; rfl
theorem ints_depth : ∀ ns : List Int, PyData.depthAll (ns.map PyData.int) = 0
  | [] => rfl
  | _ :: r => by rw [List.map_cons, PyData.depthAll, ints_depth r]; rfl
theorem ints_shaped (ns : List Int) : SeqAt.shaped (.list (ns.map PyData.int)) = true := by
  unfold SeqAt.shaped
  rw [PyData.canLay0, ints_lay, PyData.depth, ints_depth]
  rfl
/-- == and != of two tracked lists of ints -/
def rEqIL : R2 := fun x y H Q => ∃ a b ns ms, x = .ref a ∧ y = .ref b ∧ H a = some (.lst (List.map V.int ns)) ∧ H b = some (.lst (List.map V.int ms)) ∧ Q (.bl (decide (ns = ms))) H
theorem op_eqIL (hu : X.A.units + 64 < cLine) : OpR X (compareOp .Eq) rEqIL := OpR.of (op_eqD hu) (by
  rintro x y H Q ⟨a, b, ns, ms, rfl, rfl, ha, hb, q⟩
  refine ⟨_, _, .lst (.inl (.inl ha)) (ints_dp ns), .lst (.inl (.inl hb)) (ints_dp ms), ints_shaped ns, ints_shaped ms, ?_⟩
  rw [PyData.eqv, ints_eqv]
  exact q)
def rNeIL : R2 := fun x y H Q => ∃ a b ns ms, x = .ref a ∧ y = .ref b ∧ H a = some (.lst (List.map V.int ns)) ∧ H b = some (.lst (List.map V.int ms)) ∧ Q (.bl (!decide (ns = ms))) H
theorem op_neIL (hu : X.A.units + 64 < cLine) : OpR X (compareOp .NotEq) rNeIL := OpR.of (op_neD hu) (by
  rintro x y H Q ⟨a, b, ns, ms, rfl, rfl, ha, hb, q⟩
  refine ⟨_, _, .lst (.inl (.inl ha)) (ints_dp ns), .lst (.inl (.inl hb)) (ints_dp ms), ints_shaped ns, ints_shaped ms, ?_⟩
  rw [PyData.eqv, ints_eqv]
  exact q)
/-- == of two tracked tuples of plain things -/
def dS : V → PyData
  | .int i => .int i
  | .bl b => .bool b
  | _ => .none
def isS : V → Bool
  | .int _ => true
  | .bl _ => true
  | .non => true
  | _ => false
theorem isS_dp {K : PySem.W.Frag} {H : Hp} : ∀ xs : List V, xs.all isS = true → DpAll K H xs (xs.map dS)
  | [], _ => .nil
  | x :: r, h => by
    rw [List.all_cons, Bool.and_eq_true] at h
    refine .cons ?_ (isS_dp r h.2)
    have h1 := h.1
    cases x <;> first | exact .int _ | exact .bl _ | exact .non | cases h1
theorem isS_lay : ∀ xs : List V, PyData.canLayAll0 (xs.map dS) = true
  | [] => rfl
  | x :: r => by rw [List.map_cons, PyData.canLayAll0, isS_lay r]; cases x <;> rfl
theorem isS_depth : ∀ xs : List V, PyData.depthAll (xs.map dS) = 0
  | [] => rfl
  | x :: r => by rw [List.map_cons, PyData.depthAll, isS_depth r]; cases x <;> rfl
theorem isS_shaped (xs : List V) : SeqAt.shaped (.tuple (xs.map dS)) = true := by
  unfold SeqAt.shaped
  rw [PyData.canLay0, isS_lay, PyData.depth, isS_depth]
  rfl
def rEqTS : R2 := fun x y H Q => ∃ a b xs ys, x = .ref a ∧ y = .ref b ∧ H a = some (.tup xs) ∧ H b = some (.tup ys) ∧ xs.all isS = true ∧ ys.all isS = true ∧ Q (.bl (PyData.eqvAll (xs.map dS) (ys.map dS))) H
theorem op_eqTS (hu : X.A.units + 64 < cLine) : OpR X (compareOp .Eq) rEqTS := OpR.of (op_eqD hu) (by
  rintro x y H Q ⟨a, b, xs, ys, rfl, rfl, ha, hb, h1, h2, q⟩
  refine ⟨_, _, .tup (.inl (.inl ha)) (isS_dp xs h1), .tup (.inl (.inl hb)) (isS_dp ys h2), isS_shaped xs, isS_shaped ys, ?_⟩
  rw [PyData.eqv]
  exact q)
theorem dS_int (i : Int) : dS (.int i) = .int i := rfl
theorem dS_bl (b : Bool) : dS (.bl b) = .bool b := rfl
theorem isS_int (i : Int) : isS (.int i) = true := rfl
theorem isS_bl (b : Bool) : isS (.bl b) = true := rfl
theorem eqv_ii (i j : Int) : PyData.eqv (.int i) (.int j) = decide (i = j) := by rw [PyData.eqv]; rfl
theorem eqv_bb (i j : Bool) : PyData.eqv (.bool i) (.bool j) = decide (i = j) := by rw [PyData.eqv]; cases i <;> cases j <;> rfl
theorem eqvAll_nil : PyData.eqvAll [] [] = true := by rw [PyData.eqvAll]
theorem eqvAll_cons (x y : PyData) (xs ys : List PyData) : PyData.eqvAll (x :: xs) (y :: ys) = (PyData.eqv x y && PyData.eqvAll xs ys) := by rw [PyData.eqvAll]
theorem ip_of {op : Operator} {r : R2} (h : OpR X (inplaceOp op) r) : PIp X op r := fun pins s σ H x y v u Q I r1 r2 q => h pins s σ H x y v u Q I r1 r2 q
theorem SlR.of {r r' : V → Option Int → Option Int → Hp → VK → Prop} (h : SlR X r) (k : ∀ x lo hi H Q, r' x lo hi H Q → r x lo hi H Q) : SlR X r' := fun pins s σ H x v vl vu lo hi sl Q I rx hs pl pu q => h pins s σ H x v vl vu lo hi sl Q I rx hs pl pu (k x lo hi H Q q)
/-- a slice of a tracked list -/
def rSlH : V → Option Int → Option Int → Hp → VK → Prop := fun x lo hi H Q => ∃ a xs, x = .ref a ∧ H a = some (.lst xs) ∧ ∀ p, H p = none → Q (.ref p) (upd H p (.lst (cutV xs lo hi)))
theorem sl_listH : SlR X rSlH := SlR.of sl_list (by
  rintro x lo hi H Q ⟨a, xs, rfl, h, q⟩
  exact ⟨a, xs, rfl, .inl (.inl h), q⟩)
/-- == and != of two tracked pairs of a list of ints and an int -/
theorem li_dp {K : PySem.W.Frag} {H : Hp} {q : Addr} {l : Int} {ns : List Int} (hq : H q = some (.lst (List.map V.int ns))) : DpAll K H [.ref q, .int l] [.list (ns.map PyData.int), .int l] := .cons (.lst (.inl (.inl hq)) (ints_dp ns)) (.cons (.int l) .nil)
theorem li_shaped (ns : List Int) (l : Int) : SeqAt.shaped (.tuple [.list (ns.map PyData.int), .int l]) = true := by
  unfold SeqAt.shaped
  rw [PyData.canLay0, PyData.canLayAll0, PyData.canLay0, ints_lay, PyData.canLayAll0, PyData.depth, PyData.depthAll, PyData.depth, ints_depth, PyData.depthAll]
  rfl
theorem li_eqv (ns ms : List Int) (l m : Int) : PyData.eqv (.tuple [.list (ns.map PyData.int), .int l]) (.tuple [.list (ms.map PyData.int), .int m]) = (decide (ns = ms) && decide (l = m)) := by
  rw [PyData.eqv, PyData.eqvAll, PyData.eqvAll, PyData.eqvAll, PyData.eqv, PyData.eqv, ints_eqv, Bool.and_true]
  rfl
def rEqLI : R2 := fun x y H Q => ∃ a b q r l m ns ms, x = .ref a ∧ y = .ref b ∧ H a = some (.tup [.ref q, .int l]) ∧ H b = some (.tup [.ref r, .int m]) ∧ H q = some (.lst (List.map V.int ns)) ∧ H r = some (.lst (List.map V.int ms)) ∧ Q (.bl (decide (ns = ms) && decide (l = m))) H
theorem op_eqLI (hu : X.A.units + 64 < cLine) : OpR X (compareOp .Eq) rEqLI := OpR.of (op_eqD hu) (by
  rintro x y H Q ⟨a, b, q, r, l, m, ns, ms, rfl, rfl, ha, hb, hq, hr, k⟩
  refine ⟨_, _, .tup (.inl (.inl ha)) (li_dp hq), .tup (.inl (.inl hb)) (li_dp hr), li_shaped ns l, li_shaped ms m, ?_⟩
  rw [li_eqv]
  exact k)
def rNeLI : R2 := fun x y H Q => ∃ a b q r l m ns ms, x = .ref a ∧ y = .ref b ∧ H a = some (.tup [.ref q, .int l]) ∧ H b = some (.tup [.ref r, .int m]) ∧ H q = some (.lst (List.map V.int ns)) ∧ H r = some (.lst (List.map V.int ms)) ∧ Q (.bl (!(decide (ns = ms) && decide (l = m)))) H
theorem op_neLI (hu : X.A.units + 64 < cLine) : OpR X (compareOp .NotEq) rNeLI := OpR.of (op_neD hu) (by
  rintro x y H Q ⟨a, b, q, r, l, m, ns, ms, rfl, rfl, ha, hb, hq, hr, k⟩
  refine ⟨_, _, .tup (.inl (.inl ha)) (li_dp hq), .tup (.inl (.inl hb)) (li_dp hr), li_shaped ns l, li_shaped ms m, ?_⟩
  rw [li_eqv]
  exact k)
def rIxH : R2 := fun x y H Q => ∃ p xs i v, x = .ref p ∧ y = .int i ∧ H p = some (.lst xs) ∧ atI xs i = some v ∧ Q v H
theorem IxR.of {r r' : R2} (h : IxR X r) (k : ∀ x y H Q, r' x y H Q → r x y H Q) : IxR X r' := fun va sl pins s σ H x y v u Q I rx ry q hs => h va sl pins s σ H x y v u Q I rx ry (k x y H Q q) hs
theorem ix_listH : IxR X rIxH := IxR.of ix_list (by
  rintro x y H Q ⟨p, xs, i, v, e1, e2, h, h2, q⟩
  exact ⟨p, xs, i, v, e1, e2, .inl (.inl h), h2, q⟩)
def rIxTH : R2 := fun x y H Q => ∃ p xs i v, x = .ref p ∧ y = .int i ∧ H p = some (.tup xs) ∧ atI xs i = some v ∧ Q v H
theorem ix_tupH : IxR X rIxTH := IxR.of ix_tup (by
  rintro x y H Q ⟨p, xs, i, v, e1, e2, h, h2, q⟩
  exact ⟨p, xs, i, v, e1, e2, .inl (.inl h), h2, q⟩)
end
/-- a place in bounds -/
theorem ixN_in {n : Nat} {k : Int} (h0 : 0 ≤ k) (h1 : k < n) : ixN n k = some k.toNat := by
  unfold ixN
  rw [if_pos h0, if_pos h1]
theorem atI_in {xs : List Int} {k : Int} (h0 : 0 ≤ k) (h1 : k < xs.length) : ∃ b, xs[k.toNat]? = some b ∧ atI (xs.map V.int) k = some (.int b) := by
  have h : k.toNat < xs.length := by omega
  refine ⟨xs[k.toNat], List.getElem?_eq_getElem h, ?_⟩
  unfold atI
  rw [List.length_map, ixN_in h0 h1]
  show (xs.map V.int)[k.toNat]? = _
  rw [List.getElem?_map, List.getElem?_eq_getElem h]
  rfl
theorem mod_in (x : Int) {m : Int} (h : 0 < m) : 0 ≤ x % m ∧ x % m < m := ⟨Int.emod_nonneg x (by omega), Int.emod_lt_of_pos x h⟩
theorem atI_c0 {α : Type} (x : α) (xs : List α) : atI (x :: xs) 0 = some x := atI_nat (j := 0) rfl
theorem atI_c1 {α : Type} (x y : α) (xs : List α) : atI (x :: y :: xs) 1 = some y := atI_nat (j := 1) rfl
theorem atI_c2 {α : Type} (x y z : α) (xs : List α) : atI (x :: y :: z :: xs) 2 = some z := atI_nat (j := 2) rfl
theorem atI_c3 {α : Type} (x y z u : α) (xs : List α) : atI (x :: y :: z :: u :: xs) 3 = some u := atI_nat (j := 3) rfl

theorem tyV_upd {K : PySem.W.Frag} {H : Hp} {p : Addr} {xs : List V} : tyV K "list" (.ref p) (upd H p (.lst xs)) = True := eq_true (.inl ⟨rfl, xs, .inl (.inl upd_same)⟩)
theorem nil_sz : (0 ≤ sizeLine) = True := eq_true (Nat.zero_le _)
/-- what a for asks once its walk stands -/
def Loop (J : It) (g : TG) (tb : TS) (D : Ends) (σ : L2.St) (H1 : Hp) : Prop := ∃ W : Nat → Nat → L2.St → Hp → Prop, (∃ m, W 0 m σ H1) ∧ ∀ i m σ H, W i m σ H →
  (J.stop i H ∧ D.nx σ H) ∨ (J.go i H ∧ ∃ N : L2.St → Hp → Prop, (∀ σ' H', N σ' H' → ∃ m', m' < m ∧ W (i + 1) m' σ' H') ∧ ∀ x H', J.yld i H x H' → g x σ H' fun σ2 H2 => tb { D with nx := N, ct := N, bk := D.nx } σ2 H2)
theorem tFor_eq {wi : TI} {g : TG} {tb : TS} {D : Ends} {σ : L2.St} {H : Hp} : tFor wi g tb D σ H = wi σ H fun J H1 => Loop J g tb D σ H1 := rfl
theorem lp_range {n : Nat} {g : TG} {tb : TS} {D : Ends} {σ : L2.St} {H : Hp} (Pv : Nat → L2.St → Hp → Prop) (h0 : Pv 0 σ H)
    (hs : ∀ i σ H, i < n → Pv i σ H → g (.int i) σ H fun σ2 H2 => tb { D with nx := Pv (i + 1), ct := Pv (i + 1), bk := D.nx } σ2 H2) (hd : ∀ σ H, Pv n σ H → D.nx σ H) : Loop (Itr 0 n) g tb D σ H :=
  for_range (lo := 0) Pv h0 (fun i σ H a b => by have := hs i σ H a b; rw [Int.zero_add]; exact this) hd
theorem lp_list {K : PySem.W.Frag} {a : Addr} {xs : List V} {g : TG} {tb : TS} {D : Ends} {σ : L2.St} {H : Hp} (Pv : Nat → L2.St → Hp → Prop) (h0 : Pv 0 σ H) (hl : ∀ i σ H, i ≤ xs.length → Pv i σ H → SqL K H a xs)
    (hs : ∀ i x σ H, xs[i]? = some x → Pv i σ H → g x σ H fun σ2 H2 => tb { D with nx := Pv (i + 1), ct := Pv (i + 1), bk := D.nx } σ2 H2) (hd : ∀ σ H, Pv xs.length σ H → D.nx σ H) : Loop (Itl K a) g tb D σ H := for_list Pv h0 hl hs hd
/-- the same for a comprehension -/
def LcLoop (J : It) (g : TG) (tt : TT) (te : TE) (vs : List Nat) (σ : L2.St) (H1 : Hp) (Q : VK) : Prop := ∀ D, H1 D = none → ∃ W : Nat → Nat → Hp → Prop, (∃ m, W 0 m (upd H1 D (.lst []))) ∧ ∀ i m H, W i m H →
  (J.stop i H ∧ Q (.ref D) H) ∨ (J.go i H ∧ ∃ Nx : Hp → Prop, (∀ H', Nx H' → ∃ m', m' < m ∧ W (i + 1) m' H') ∧ ∀ x H', J.yld i H x H' → g x (wipe σ vs) H' fun σ2 H2 => wipe σ2 vs = wipe σ vs ∧ tt σ2 H2 fun b H3 =>
    if b = true then te σ2 H3 fun y H4 => ∃ acc, H4 D = some (.lst acc) ∧ acc.length < sizeLine ∧ Nx (upd H4 D (.lst (acc ++ [y]))) else Nx H3)
theorem tLc_eq {wi : TI} {g : TG} {tt : TT} {te : TE} {vs : List Nat} {σ : L2.St} {H : Hp} {Q : VK} : tLc wi g tt te vs σ H Q = wi σ H fun J H1 => LcLoop J g tt te vs σ H1 Q := rfl
/-- a comprehension over a list, whose elements leave the heap as it is: L i is what i turns have made -/
theorem lc_pure {K : PySem.W.Frag} {a : Addr} {xs : List V} {g : TG} {tt : TT} {te : TE} {vs : List Nat} {σ : L2.St} {H1 : Hp} {Q : VK} (L : Nat → List V) (hS : SqL K H1 a xs) (h0 : L 0 = [])
    (hs : ∀ i x D, xs[i]? = some x → H1 D = none → g x (wipe σ vs) (upd H1 D (.lst (L i))) fun σ2 H2 => wipe σ2 vs = wipe σ vs ∧ tt σ2 H2 fun b H3 =>
      if b = true then te σ2 H3 fun y H4 => ∃ acc, H4 D = some (.lst acc) ∧ acc.length < sizeLine ∧ upd H4 D (.lst (acc ++ [y])) = upd H1 D (.lst (L (i + 1))) else H3 = upd H1 D (.lst (L (i + 1))))
    (hd : ∀ D, H1 D = none → Q (.ref D) (upd H1 D (.lst (L xs.length)))) : LcLoop (Itl K a) g tt te vs σ H1 Q := by
  intro D hD
  refine lc_list (K := K) (a := a) (xs := xs) (fun i H => H = upd H1 D (.lst (L i))) (by rw [h0]) (fun i H _ e => ?_) (fun i x H hx e => ?_) (fun H e => ?_)
  · subst e
    exact (show Same H1 _ from fun b o e => by rw [upd_ne (ne_of_none e hD)]; exact e).seq hS
  · subst e
    exact hs i x D hx hD
  · subst e
    exact hd D hD
theorem lc_pure_range {n : Nat} {g : TG} {tt : TT} {te : TE} {vs : List Nat} {σ : L2.St} {H1 : Hp} {Q : VK} (L : Nat → List V) (h0 : L 0 = [])
    (hs : ∀ i D, i < n → H1 D = none → g (.int i) (wipe σ vs) (upd H1 D (.lst (L i))) fun σ2 H2 => wipe σ2 vs = wipe σ vs ∧ tt σ2 H2 fun b H3 =>
      if b = true then te σ2 H3 fun y H4 => ∃ acc, H4 D = some (.lst acc) ∧ acc.length < sizeLine ∧ upd H4 D (.lst (acc ++ [y])) = upd H1 D (.lst (L (i + 1))) else H3 = upd H1 D (.lst (L (i + 1))))
    (hd : ∀ D, H1 D = none → Q (.ref D) (upd H1 D (.lst (L n)))) : LcLoop (Itr 0 n) g tt te vs σ H1 Q := by
  intro D hD
  refine lc_range (lo := 0) (n := n) (fun i H => H = upd H1 D (.lst (L i))) (by rw [h0]) (fun i H hi e => ?_) (fun H e => ?_)
  · subst e
    rw [Int.zero_add]
    exact hs i D hi hD
  · subst e
    exact hd D hD
theorem lp_zip {K : PySem.W.Frag} {a b : Addr} {xs ys : List V} {g : TG} {tb : TS} {D : Ends} {σ : L2.St} {H : Hp} (hl : xs.length = ys.length) (Pv : Nat → L2.St → Hp → Prop) (h0 : Pv 0 σ H) (hq : ∀ i σ H, Pv i σ H → SqL K H a xs ∧ SqL K H b ys)
    (hs : ∀ (i : Nat) (x y : V) (T : Addr) (σ : L2.St) (H : Hp), xs[i]? = some x → ys[i]? = some y → Pv i σ H → H T = none → g (.ref T) σ (upd H T (.tup [x, y])) fun σ2 H2 => tb { D with nx := Pv (i + 1), ct := Pv (i + 1), bk := D.nx } σ2 H2) (hd : ∀ σ H, Pv xs.length σ H → D.nx σ H) :
    Loop (Itz K a b) g tb D σ H := RZ.for_zipL hl Pv h0 hq hs hd
theorem lc_str {x : Str} {g : TG} {tt : TT} {te : TE} {vs : List Nat} {σ : L2.St} {H1 : Hp} {Q : VK} (L : Nat → List V) (h0 : L 0 = [])
    (hs : ∀ i c D, x.cps[i]? = some c → H1 D = none → g (.str ⟨#[c]⟩) (wipe σ vs) (upd H1 D (.lst (L i))) fun σ2 H2 => wipe σ2 vs = wipe σ vs ∧ tt σ2 H2 fun b H3 =>
      if b = true then te σ2 H3 fun y H4 => ∃ acc, H4 D = some (.lst acc) ∧ acc.length < sizeLine ∧ upd H4 D (.lst (acc ++ [y])) = upd H1 D (.lst (L (i + 1))) else H3 = upd H1 D (.lst (L (i + 1))))
    (hd : ∀ D, H1 D = none → Q (.ref D) (upd H1 D (.lst (L x.cps.size)))) : LcLoop (Its x) g tt te vs σ H1 Q := by
  intro D hD
  refine ⟨fun i m H => m = x.cps.size - i ∧ i ≤ x.cps.size ∧ H = upd H1 D (.lst (L i)), ⟨x.cps.size, by simp, Nat.zero_le _, by rw [h0]⟩, ?_⟩
  rintro i m H ⟨rfl, hi, rfl⟩
  by_cases hlt : i < x.cps.size
  · refine .inr ⟨hlt, fun H' => H' = upd H1 D (.lst (L (i + 1))), fun H' p' => ⟨x.cps.size - (i + 1), by omega, rfl, hlt, p'⟩, fun v H' y => ?_⟩
    obtain ⟨e, c, hc, ev⟩ := y
    subst e ev
    exact hs i c D hc hD
  · have e : i = x.cps.size := by omega
    subst e
    exact .inl ⟨Nat.le_refl _, hd D hD⟩
theorem lc_rangeC {lo c : Int} {n : Nat} {g : TG} {tt : TT} {te : TE} {vs : List Nat} {σ : L2.St} {H1 : Hp} {Q : VK} (L : Nat → List V) (h0 : L 0 = [])
    (hs : ∀ i D, i < n → H1 D = none → g (.int (lo + (i : Nat) * c)) (wipe σ vs) (upd H1 D (.lst (L i))) fun σ2 H2 => wipe σ2 vs = wipe σ vs ∧ tt σ2 H2 fun b H3 =>
      if b = true then te σ2 H3 fun y H4 => ∃ acc, H4 D = some (.lst acc) ∧ acc.length < sizeLine ∧ upd H4 D (.lst (acc ++ [y])) = upd H1 D (.lst (L (i + 1))) else H3 = upd H1 D (.lst (L (i + 1))))
    (hd : ∀ D, H1 D = none → Q (.ref D) (upd H1 D (.lst (L n)))) : LcLoop (Itc lo c n) g tt te vs σ H1 Q := by
  intro D hD
  refine ⟨fun i m H => m = n - i ∧ i ≤ n ∧ H = upd H1 D (.lst (L i)), ⟨n, by simp, Nat.zero_le _, by rw [h0]⟩, ?_⟩
  rintro i m H ⟨rfl, hi, rfl⟩
  by_cases hlt : i < n
  · refine .inr ⟨hlt, fun H' => H' = upd H1 D (.lst (L (i + 1))), fun H' p' => ⟨n - (i + 1), by omega, rfl, hlt, p'⟩, fun v H' y => ?_⟩
    obtain ⟨e, ev⟩ := y
    subst e ev
    exact hs i D hlt hD
  · have e : i = n := by omega
    subst e
    exact .inl ⟨Nat.le_refl _, hd D hD⟩
theorem small_two {a b : Int} (ha : -(2 ^ 62) ≤ a) (ha' : a < 2 ^ 62) (hb : -(2 ^ 62) ≤ b) (hb' : b < 2 ^ 62) : Builtin.Range.small a b 2 = true := by
  unfold Builtin.Range.small Builtin.Range.rangeSize
  simp only [Builtin.Range.rangeFitsLong, Bool.and_eq_true, Bool.or_eq_true, decide_eq_true_eq, beq_iff_eq, show ((2 : Int) > 0) by decide, if_true]
  split <;> omega
theorem rg_two {n : Nat} (h : n < 1000000) : RgC 0 ((n : Int) - 1) 2 (n / 2) := by
  refine ⟨by decide, by decide, small_two (by decide) (by decide) (by omega) (by omega), ?_⟩
  unfold Builtin.Range.rangeSize
  rw [if_pos (by decide)]
  split <;> omega
theorem wh_by {c : TT} {tb : TS} {D : Ends} {σ : L2.St} {H : Hp} (W : Nat → L2.St → Hp → Prop) (m : Nat) (h0 : W m σ H)
    (hs : ∀ m σ H, W m σ H → c σ H fun b H1 => if b = true then ∃ N : L2.St → Hp → Prop, (∀ σ' H', N σ' H' → ∃ m', m' < m ∧ W m' σ' H') ∧ tb { D with nx := N, ct := N, bk := D.nx } σ H1 else D.nx σ H1) : tWhile c tb D σ H := ⟨W, ⟨m, h0⟩, hs⟩
theorem lc_rng {n : Nat} {g : TG} {tt : TT} {te : TE} {vs : List Nat} {σ : L2.St} {H1 : Hp} {Q : VK} (Pv : Addr → Nat → Hp → Prop) (h0 : ∀ D, H1 D = none → Pv D 0 (upd H1 D (.lst [])))
    (hs : ∀ D i H, i < n → H1 D = none → Pv D i H → g (.int i) (wipe σ vs) H fun σ2 H2 => wipe σ2 vs = wipe σ vs ∧ tt σ2 H2 fun b H3 =>
      if b = true then te σ2 H3 fun y H4 => ∃ acc, H4 D = some (.lst acc) ∧ acc.length < sizeLine ∧ Pv D (i + 1) (upd H4 D (.lst (acc ++ [y]))) else Pv D (i + 1) H3)
    (hd : ∀ D H, H1 D = none → Pv D n H → Q (.ref D) H) : LcLoop (Itr 0 n) g tt te vs σ H1 Q := by
  intro D hD
  refine lc_range (lo := 0) (n := n) (Pv D) (h0 D hD) (fun i H hi p => ?_) (fun H p => hd D H hD p)
  rw [Int.zero_add]
  exact hs D i H hi hD p
theorem same_upd {H : Hp} {p : Addr} {o : HO} (h : H p = none) : Same H (upd H p o) := fun b x e => by
  rw [upd_ne (ne_of_none e h)]
  exact e
theorem same_upd2 {H H' : Hp} {q : Addr} {o : HO} (s : Same H H') (h : H q = none) : Same H (upd H' q o) := fun b x e => by
  rw [upd_ne (ne_of_none e h)]
  exact s b x e

/-! ### fresh objects: the heap behind one as a heap of its own -/
def NewH (H : Hp) (o : HO) (k : Addr → Hp → Prop) : Prop := ∀ p H', Same H H' → H p = none → H' p = some o → k p H'
theorem NewH.go {H : Hp} {o : HO} {k : Addr → Hp → Prop} (h : NewH H o k) : ∀ p, H p = none → k p (upd H p o) := fun p hp => h p _ (same_upd hp) hp upd_same
section
variable {X : Cx} {es : List Expr} {t : TA} {pos : Pos}
theorem pa_mono (h : PA X es t) : PA X es (fun σ H Q => ∃ Q', t σ H Q' ∧ ∀ xs H1, Q' xs H1 → Q xs H1) := ⟨fun pos pins s σ H Q I ⟨_, q, k⟩ => thn (h.run pos pins s σ H _ I q) fun _ _ ⟨vs, H', I', r, q'⟩ => ⟨vs, H', I', r, k _ _ q'⟩⟩
theorem PE.of {e : Expr} {t t' : TE} (h : PE X e t) (k : ∀ σ H Q, t' σ H Q → t σ H Q) : PE X e t' := ⟨fun pins s σ H Q I q => h.run pins s σ H Q I (k _ _ _ q)⟩
def tTupS (t : TA) : TE := fun σ H Q => t σ H fun xs H1 => xs.length ≤ sizeLine ∧ NewH H1 (.tup xs) fun p H' => Q (.ref p) H'
def tLstS (t : TA) : TE := fun σ H Q => t σ H fun xs H1 => xs.length ≤ sizeLine ∧ NewH H1 (.lst xs) fun p H' => Q (.ref p) H'
theorem pe_tupS {x1} (h : PA X es t) : PE X (.Tuple es x1 pos) (tTupS t) := PE.of (pe_tup (pa_mono h)) fun σ H Q q => ⟨_, q, fun _ _ z => ⟨z.1, z.2.go⟩⟩
theorem pe_lstS (h : PA X es t) : PE X (.List es pos) (tLstS t) := PE.of (pe_lst (pa_mono h)) fun σ H Q q => ⟨_, q, fun _ _ z => ⟨z.1, z.2.go⟩⟩
def rListS : List V → Hp → VK → Prop := fun vs H Q => ∃ p xs, vs = [.ref p] ∧ H p = some (.lst xs) ∧ NewH H (.lst xs) fun l H' => Q (.ref l) H'
theorem call_listS : CallR X (.type "list") rListS := CallR.of call_listH fun vs H Q ⟨p, xs, e, h, q⟩ => ⟨p, xs, e, h, q.go⟩
/-- list(t) of a tuple -/
def rListT : List V → Hp → VK → Prop := fun vs H Q => ∃ p xs, vs = [.ref p] ∧ H p = some (.tup xs) ∧ NewH H (.lst xs) fun l H' => Q (.ref l) H'
theorem call_listT : CallR X (.type "list") rListT := CallR.of call_list_of fun vs H Q ⟨p, xs, e, h, q⟩ => ⟨p, xs, e, .inr (.inl (.inl h)), q.go⟩
/-- tuple(xs) of a tracked list -/
def rTupleL : List V → Hp → VK → Prop := fun vs H Q => ∃ p xs, vs = [.ref p] ∧ H p = some (.lst xs) ∧ NewH H (.tup xs) fun l H' => Q (.ref l) H'
theorem call_tupleL : CallR X (.type "tuple") rTupleL := CallR.of call_tuple_of fun vs H Q ⟨p, xs, e, h, q⟩ => ⟨p, xs, e, .inl ⟨.inl (.inl h), q.go⟩⟩
def rCatL : R2 := fun x y H Q => ∃ l b xs zs, x = .ref l ∧ y = .ref b ∧ H l = some (.lst xs) ∧ H b = some (.lst zs) ∧ xs.length + zs.length ≤ sizeLine ∧ NewH H (.lst (xs ++ zs)) fun p H' => Q (.ref p) H'
theorem op_catS : OpR X (binaryOp .Add) rCatL := OpR.of op_cat fun x y H Q ⟨l, b, xs, zs, e1, e2, h1, h2, z, q⟩ => ⟨l, b, xs, zs, e1, e2, h1, h2, z, q.go⟩
/-- [x] * n -/
def rRepS : R2 := fun x y H Q => ∃ l k v, x = .ref l ∧ y = .int k ∧ H l = some (.lst [v]) ∧ k ≤ 16777216 ∧ -(2 ^ 62) ≤ k ∧ NewH H (.lst (List.replicate k.toNat v)) fun p H' => Q (.ref p) H'
theorem rep_flat {α : Type} (n : Nat) (y : α) : (List.replicate n [y]).flatten = List.replicate n y := by
  induction n with
  | zero => rfl
  | succ n ih => rw [List.replicate_succ, List.flatten_cons, ih, List.replicate_succ]; rfl
theorem op_repS : OpR X (binaryOp .Mult) rRepS := OpR.of op_rep fun x y H Q ⟨l, k, v, e1, e2, h1, z1, z2, q⟩ => ⟨l, k, [v], e1, e2, h1, by omega, by omega, by
    rw [List.length_singleton, show sizeLine = 16777216 from rfl]; omega, by rw [rep_flat]; exact q.go⟩
def rSlS : V → Option Int → Option Int → Hp → VK → Prop := fun x lo hi H Q => ∃ a xs, x = .ref a ∧ H a = some (.lst xs) ∧ NewH H (.lst (cutV xs lo hi)) fun p H' => Q (.ref p) H'
theorem sl_listS : SlR X rSlS := SlR.of sl_listH fun x lo hi H Q ⟨a, xs, e, h, q⟩ => ⟨a, xs, e, h, q.go⟩
theorem pe_mono {e : Expr} {t : TE} (h : PE X e t) : PE X e (fun σ H Q => ∃ Q', t σ H Q' ∧ ∀ v H1, Q' v H1 → Q v H1) := ⟨fun pins s σ H Q I ⟨_, q, k⟩ => thn (h.run pins s σ H _ I q) fun _ _ ⟨v, H', I', r, q'⟩ => ⟨v, H', I', r, k _ _ q'⟩⟩
theorem PG.of {e : Expr} {t t' : TG} (h : PG X e t) (k : ∀ v σ H Q, t' v σ H Q → t v σ H Q) : PG X e t' := ⟨fun pins s σ H v u Q I r q => h.run pins s σ H v u Q I r (k _ _ _ _ q)⟩
theorem PI.of {tg e : Expr} {t t' : TI} (h : PI X tg e t) (k : ∀ σ H R, t' σ H R → t σ H R) : PI X tg e t' := ⟨fun pins s σ H R I q => h.run pins s σ H R I (k _ _ _ q)⟩
def gTupS (n : Nat) (t : TGs) : TG := fun v σ H Q => ∃ a xs, v = .ref a ∧ H a = some (.tup xs) ∧ xs.length = n ∧ t xs σ H Q
theorem pg_tupS {k : Nat} {t : TGs} {n : Nat} (hc : X.calm = true) (h : PGs X es t) (hn : (assignEach es X.env).length = n := by rfl) (hst : (assignEach es X.env).findIdx? (·.1) = none := by rfl) : PG X (.Tuple es k pos) (gTupS n t) :=
  PG.of (pg_tup hc h hn hst) fun v σ H Q ⟨a, xs, e, g, l, q⟩ => ⟨a, xs, e, .inl (.inl g), l, q⟩
def gLstS (n : Nat) (t : TGs) : TG := fun v σ H Q => ∃ a xs, v = .ref a ∧ H a = some (.lst xs) ∧ xs.length = n ∧ t xs σ H Q
theorem pg_lstS {k : Nat} {t : TGs} {n : Nat} (hc : X.calm = true) (h : PGs X es t) (hn : (assignEach es X.env).length = n := by rfl) (hst : (assignEach es X.env).findIdx? (·.1) = none := by rfl) : PG X (.Tuple es k pos) (gLstS n t) :=
  PG.of (pg_lst hc h hn hst) fun v σ H Q ⟨a, xs, e, g, l, q⟩ => ⟨a, xs, e, .inl (.inl g), l, q⟩
def iListS (K : PySem.W.Frag) (tl : TE) : TI := fun σ H R => tl σ H fun x H1 => ∃ a xs, x = .ref a ∧ H1 a = some (.lst xs) ∧ R (Itl K a) H1
theorem pi_listS {tg l : Expr} {tl : TE} (hl : PE X l tl) : PI X tg l (iListS X.K tl) := PI.of (pi_list (pe_mono hl)) fun σ H R q => ⟨_, q, fun _ _ ⟨a, xs, e, g, r⟩ => ⟨a, e, ⟨xs, .inl (.inl g)⟩, r⟩⟩
def iTupS (K : PySem.W.Frag) (tl : TE) : TI := fun σ H R => tl σ H fun x H1 => ∃ a xs, x = .ref a ∧ H1 a = some (.tup xs) ∧ R (Itt K a) H1
theorem pi_tupS {tg l : Expr} {tl : TE} (hl : PE X l tl) : PI X tg l (iTupS X.K tl) := PI.of (pi_tup (pe_mono hl)) fun σ H R q => ⟨_, q, fun _ _ ⟨a, xs, e, g, r⟩ => ⟨a, e, ⟨xs, .inl (.inl g)⟩, r⟩⟩
def tML (r : V → List V → Hp → VK → Prop) (to : TE) (t : TA) : TE := fun σ H Q => to σ H fun x H1 => ∃ p xs, x = .ref p ∧ H1 p = some (.lst xs) ∧ t σ H1 fun ys H2 => r x ys H2 Q
theorem pe_ml {to : TE} {t : TA} {e : PySem.Expr} {K : PySem.W.Frag} {r : V → List V → Hp → VK → Prop} (h : PE X e (tBM K "list" r (fun σ H Q => ∃ Q', to σ H Q' ∧ ∀ v H1, Q' v H1 → Q v H1) t)) : PE X e (tML r to t) :=
  PE.of h fun σ H Q q => ⟨_, q, fun v H1 ⟨p, xs, e, g, z⟩ => ⟨by rw [e]; exact .inl ⟨rfl, xs, .inl (.inl g)⟩, z⟩⟩
def tML0 (r : V → List V → Hp → VK → Prop) (to : TE) : TE := fun σ H Q => to σ H fun x H1 => ∃ p xs, x = .ref p ∧ H1 p = some (.lst xs) ∧ r x [] H1 Q
theorem pe_ml0 {to : TE} {e : PySem.Expr} {K : PySem.W.Frag} {r : V → List V → Hp → VK → Prop} (h : PE X e (tBM0 K "list" r (fun σ H Q => ∃ Q', to σ H Q' ∧ ∀ v H1, Q' v H1 → Q v H1))) : PE X e (tML0 r to) :=
  PE.of h fun σ H Q q => ⟨_, q, fun v H1 ⟨p, xs, e, g, z⟩ => ⟨by rw [e]; exact .inl ⟨rfl, xs, .inl (.inl g)⟩, z⟩⟩
end
/-- loops and comprehensions over any walk -/
theorem lpW {J : It} {n : Nat} {G : Hp → Prop} {Y : Nat → Hp → V → Hp → Prop} (w : Walk J n G Y) {g : TG} {tb : TS} {D : Ends} {σ : L2.St} {H : Hp} (Pv : Nat → L2.St → Hp → Prop) (h0 : Pv 0 σ H) (hG : ∀ i σ H, i ≤ n → Pv i σ H → G H)
    (hs : ∀ i x σ H H', i < n → Pv i σ H → Y i H x H' → g x σ H' fun σ2 H2 => tb { D with nx := Pv (i + 1), ct := Pv (i + 1), bk := D.nx } σ2 H2) (hd : ∀ σ H, Pv n σ H → D.nx σ H) : Loop J g tb D σ H := for_it w Pv h0 hG hs hd
theorem lcW {J : It} {n : Nat} {G : Hp → Prop} {Y : Nat → Hp → V → Hp → Prop} (w : Walk J n G Y) {g : TG} {tt : TT} {te : TE} {vs : List Nat} {σ : L2.St} {H1 : Hp} {Q : VK} (Pv : Addr → Nat → Hp → Prop) (h0 : ∀ D H, Same H1 H → H1 D = none → H D = some (.lst []) → Pv D 0 H)
    (hG : ∀ D i H, H1 D = none → i ≤ n → Pv D i H → G H) (hs : ∀ D i x H H', i < n → H1 D = none → Pv D i H → Y i H x H' → g x (wipe σ vs) H' fun σ2 H2 => wipe σ2 vs = wipe σ vs ∧ tt σ2 H2 fun b H3 =>
      if b = true then te σ2 H3 fun y H4 => ∃ acc, H4 D = some (.lst acc) ∧ acc.length < sizeLine ∧ Pv D (i + 1) (upd H4 D (.lst (acc ++ [y]))) else Pv D (i + 1) H3)
    (hd : ∀ D H, H1 D = none → Pv D n H → Q (.ref D) H) : LcLoop J g tt te vs σ H1 Q :=
  fun D hD => lc_it w (Pv D) (h0 D _ (same_upd hD) hD upd_same) (fun i H hi p => hG D i H hD hi p) (fun i x H H' hi p y => hs D i x H H' hi hD p y) fun H p => hd D H hD p
theorem lcL {J : It} {n : Nat} {G : Hp → Prop} {Y : Nat → Hp → V → Hp → Prop} (w : Walk J n G Y) {g : TG} {tt : TT} {te : TE} {vs : List Nat} {σ : L2.St} {H1 : Hp} {Q : VK} (L : Nat → List V) (hz : L 0 = []) (hG : ∀ H, Same H1 H → G H)
    (hs : ∀ D i x H H', i < n → H1 D = none → Same H1 H → H D = some (.lst (L i)) → Y i H x H' → g x (wipe σ vs) H' fun σ2 H2 => wipe σ2 vs = wipe σ vs ∧ tt σ2 H2 fun b H3 =>
      if b = true then te σ2 H3 fun y H4 => ∃ acc, H4 D = some (.lst acc) ∧ acc.length < sizeLine ∧ Same H1 (upd H4 D (.lst (acc ++ [y]))) ∧ upd H4 D (.lst (acc ++ [y])) D = some (.lst (L (i + 1))) else Same H1 H3 ∧ H3 D = some (.lst (L (i + 1))))
    (hd : ∀ D H, Same H1 H → H1 D = none → H D = some (.lst (L n)) → Q (.ref D) H) : LcLoop J g tt te vs σ H1 Q :=
  lcW w (fun D i H => Same H1 H ∧ H D = some (.lst (L i))) (fun D H s _ g => ⟨s, by rw [g, hz]⟩) (fun _ _ H _ _ p => hG H p.1) (fun D i x H H' hi hD p y => hs D i x H H' hi hD p.1 p.2 y) fun D H hD p => hd D H p.1 hD p.2
theorem walkR {n : Nat} : Walk (Itr 0 n) n (fun _ => True) (YFn fun i => .int (i : Int)) := walk_range.mono (fun _ h => h) fun i H x H' _ _ y => ⟨y.1, by rw [y.2]; show V.int (0 + (i : Int)) = V.int (i : Int); rw [Int.zero_add]⟩
theorem walkL {K : PySem.W.Frag} {a : Addr} {xs : List V} : Walk (Itl K a) xs.length (fun H => H a = some (.lst xs)) (YAt xs) := (walk_list (K := K) (a := a) (xs := xs)).mono (fun _ h => .inl (.inl h)) fun _ _ _ _ _ _ y => y
theorem walkT {K : PySem.W.Frag} {a : Addr} {xs : List V} : Walk (Itt K a) xs.length (fun H => H a = some (.tup xs)) (YAt xs) := (walk_tup (K := K) (a := a) (xs := xs)).mono (fun _ h => .inl (.inl h)) fun _ _ _ _ _ _ y => y
/-- a list of ints is walked -/
def YInt (ns : List Int) : Nat → Hp → V → Hp → Prop := fun i H v H' => H' = H ∧ ∃ b, ns[i]? = some b ∧ v = .int b
theorem walkI {K : PySem.W.Frag} {a : Addr} {ns : List Int} : Walk (Itl K a) ns.length (fun H => H a = some (.lst (List.map V.int ns))) (YInt ns) := by
  have w := walkL (K := K) (a := a) (xs := List.map V.int ns)
  rw [List.length_map] at w
  refine w.mono (fun _ h => h) fun i H x H' _ _ y => ⟨y.1, ?_⟩
  have h := y.2
  rw [List.getElem?_map] at h
  obtain ⟨b, h1, rfl⟩ := Option.map_eq_some_iff.mp h
  exact ⟨b, h1, rfl⟩
theorem sqL_eq {K : PySem.W.Frag} {H : Hp} {a : Addr} {xs : List V} (h : H a = some (.lst xs)) : (∃ xs, SqL K H a xs) = True := eq_true ⟨_, .inl (.inl h)⟩
theorem sqT_eq {K : PySem.W.Frag} {H : Hp} {a : Addr} {xs : List V} (h : H a = some (.tup xs)) : (∃ xs, SqT K H a xs) = True := eq_true ⟨_, .inl (.inl h)⟩
theorem tyL_eq {K : PySem.W.Frag} {H : Hp} {p : Addr} {xs : List V} (h : H p = some (.lst xs)) : tyV K "list" (.ref p) H = True := eq_true (.inl ⟨rfl, xs, .inl (.inl h)⟩)
theorem Same.c2 {H H' : Hp} {a b : Addr} {x y : HO} (s : Same H H') (ga : H a = some x) (gb : H b = some y) : H' a = some x ∧ H' b = some y := ⟨s _ _ ga, s _ _ gb⟩
theorem map_int_inj {xs ys : List Int} : (List.map V.int xs = List.map V.int ys) = (xs = ys) := by
  refine propext ⟨fun h => ?_, fun h => by rw [h]⟩
  induction xs generalizing ys with
  | nil => cases ys with
    | nil => rfl
    | cons y q => cases h
  | cons x r ih => cases ys with
    | nil => cases h
    | cons y q =>
      rw [List.map_cons, List.map_cons, List.cons.injEq, V.int.injEq] at h
      rw [h.1, ih h.2]
theorem sz1 : (1 ≤ sizeLine) = True := eq_true (by decide)
theorem sz2 : (2 ≤ sizeLine) = True := eq_true (by decide)
theorem sz3 : (3 ≤ sizeLine) = True := eq_true (by decide)
theorem sz4 : (4 ≤ sizeLine) = True := eq_true (by decide)
theorem sz5 : (5 ≤ sizeLine) = True := eq_true (by decide)
theorem sz6 : (6 ≤ sizeLine) = True := eq_true (by decide)
theorem sz8 : (8 ≤ sizeLine) = True := eq_true (by decide)
/-- an item of a list of ints -/
def gN (ns : List Int) (i : Nat) : Int := ns.getD i 0
theorem at_g {ns : List Int} {i : Nat} (h : i < ns.length) : atI (ns.map V.int) (i : Int) = some (V.int (gN ns i)) := by
  refine atI_nat ?_
  rw [List.getElem?_map, List.getElem?_eq_getElem h]
  simp [gN, h]
theorem at_g' {ns : List Int} {k : Int} {i : Nat} (e : k = (i : Int)) (h : i < ns.length) : atI (ns.map V.int) k = some (V.int (gN ns i)) := by
  rw [e]
  exact at_g h
theorem iteT' {c : Bool} {a b : Prop} (h : c = true) (x : a) : if c = true then a else b := by rw [if_pos h]; exact x
theorem iteF' {c : Bool} {a b : Prop} (h : c = false) (x : b) : if c = true then a else b := by rw [if_neg (by rw [h]; decide)]; exact x
theorem iteB {c : Bool} {p : Prop} [Decidable p] {a b : Prop} (h : c = decide p) (x : p → a) (y : ¬ p → b) : if c = true then a else b := by
  subst h
  exact ite2 (fun e => x (of_decide_eq_true e)) fun e => y fun z => e (decide_eq_true z)
theorem iteD {p : Prop} [Decidable p] {a b : Prop} (x : p → a) (y : ¬ p → b) : if decide p = true then a else b := iteB rfl x y
def mx (x y : Int) : Int := if x < y then y else x
def mn (x y : Int) : Int := if y < x then y else x
theorem mx_eq (x y : Int) : (if x < y then y else x) = mx x y := rfl
theorem mn_eq (x y : Int) : (if y < x then y else x) = mn x y := rfl
theorem mx_le {x y z : Int} : mx x y ≤ z ↔ x ≤ z ∧ y ≤ z := by
  unfold mx
  split <;> omega
theorem lt_mn {x y z : Int} : z < mn x y ↔ z < x ∧ z < y := by
  unfold mn
  split <;> omega
theorem toNat_mul (m n : Nat) : ((m : Int) * (n : Int)).toNat = m * n := by rw [← Int.natCast_mul, Int.toNat_natCast]
theorem atI_lit {xs : List V} {k : Int} (h0 : 0 ≤ k) (h1 : k < xs.length) : ∃ v, atI xs k = some v ∧ v ∈ xs := by
  have h : k.toNat < xs.length := by omega
  refine ⟨xs[k.toNat], ?_, List.getElem_mem h⟩
  unfold atI
  rw [ixN_in h0 h1]
  exact List.getElem?_eq_getElem h
theorem atI_lits {xs : List Int} {k : Int} (h0 : 0 ≤ k) (h1 : k < xs.length) : ∃ v, atI (List.map V.int xs) k = some (.int v) ∧ v ∈ xs := by
  obtain ⟨v, h, hm⟩ := atI_lit (xs := List.map V.int xs) h0 (by rw [List.length_map]; exact h1)
  obtain ⟨i, hi, rfl⟩ := List.mem_map.mp hm
  exact ⟨i, h, hi⟩
theorem natOf {x : Int} (h : 0 ≤ x) : ∃ n : Nat, x = (n : Int) := ⟨x.toNat, by omega⟩
theorem map_cat (xs ys : List Int) : List.map V.int xs ++ List.map V.int ys = List.map V.int (xs ++ ys) := by rw [List.map_append]
theorem map_snoc (xs : List Int) (v : Int) : List.map V.int xs ++ [V.int v] = List.map V.int (xs ++ [v]) := by rw [List.map_append]; rfl
theorem map_setV (l : List Int) (i : Nat) (v : Int) : (List.map V.int l).set i (.int v) = List.map V.int (l.set i v) := by rw [List.map_set]
/-- all but one object stand as they stood -/
def But (a : Addr) (H H' : Hp) : Prop := ∀ b o, b ≠ a → H b = some o → H' b = some o
theorem But.refl (a : Addr) (H : Hp) : But a H H := fun _ _ _ h => h
theorem But.ofSame {a : Addr} {H H' : Hp} (s : Same H H') : But a H H' := fun b o _ h => s b o h
theorem But.trans {a : Addr} {H H1 H2 : Hp} (x : But a H H1) (y : But a H1 H2) : But a H H2 := fun b o n h => y b o n (x b o n h)
theorem But.put {a : Addr} {H H' : Hp} {o : HO} (x : But a H H') : But a H (upd H' a o) := fun b o' n h => by rw [upd_ne n]; exact x b o' n h
theorem But.same {a : Addr} {H H1 H' : Hp} (s : Same H H1) (x : But a H1 H') (h : H a = none) : Same H H' := fun b o e => x b o (ne_of_none e h) (s b o e)
/-- the cell k of the script -/
def cellA (ns : List Int) (k : Nat) : Int := ns.getD k 0
def absI (c : Int) : Int := if c < 0 then -c else c
theorem absI_eq (c : Int) : (if c < 0 then -c else c) = absI c := rfl
theorem absI_nn (c : Int) : 0 ≤ absI c := by
  unfold absI
  split <;> omega
section
variable {X : Cx}
/-- xs[i] op= e reads the item first -/
def rGetL : V → V → Hp → VK → Prop := fun x y H Q => ∃ p xs i v, x = .ref p ∧ y = .int i ∧ H p = some (.lst xs) ∧ 0 ≤ i ∧ i < 2 ^ 62 ∧ xs[i.toNat]? = some v ∧ Q v H
theorem pget_list : PGet X rGetL := by
  intro pins s σ H x y v u Q I rx ry h
  obtain ⟨p, xs, i, z, rfl, rfl, hp, h0, h1, he, q⟩ := h
  cases rx
  obtain ⟨t, rfl⟩ := ry
  obtain ⟨its, r, pl, _⟩ := I.list (.inl (.inl hp))
  obtain ⟨w, ew, rw'⟩ := r.get he
  exact getItem_listL pl.isList h0 (by omega) ew ⟨z, H, I, rw', q⟩
def iZipS (K : PySem.W.Frag) (ta : TA) : TI := fun σ H R => ta σ H fun vs H1 => ∃ a b xs ys, vs = [.ref a, .ref b] ∧ H1 a = some (.lst xs) ∧ H1 b = some (.lst ys) ∧ R (Itz K a b) H1
theorem pi_zipS {e e2 : Expr} {ta : TA} {p pos tpos : Pos} {elts : List Expr} {kk : Nat} (hg : Gl X "zip") (hm : X.mg "zip" = none) (ha : PA X [e, e2] ta) (hs : starEach [e, e2] X.env = (false, eval e X.env) :: starEach [e2] X.env := by rfl) (hpl : (backTo pos (starEach [e2] X.env)).any (·.1) = false := by rfl) :
    PI X (.Tuple elts kk tpos) (.Call (.Name "zip" p) [e, e2] [] pos) (iZipS X.K ta) := PI.of (pi_zip hg hm (pa_mono ha) hs hpl) fun σ H R q => ⟨_, q, fun vs H1 ⟨a, b, xs, ys, e, g1, g2, r⟩ => ⟨a, b, xs, ys, e, .inl (.inl g1), .inl (.inl g2), r⟩⟩
end
theorem walkZ {K : PySem.W.Frag} {a b : Addr} {xs ys : List V} {n : Nat} (hn : n = min xs.length ys.length) : Walk (Itz K a b) n (fun H => H a = some (.lst xs) ∧ H b = some (.lst ys)) (YPair (fun i => xs[i]?) (fun i => ys[i]?)) :=
  (walk_zip (K := K) (a := a) (b := b) hn).mono (fun _ h => ⟨.inl (.inl h.1), .inl (.inl h.2)⟩) fun _ _ _ _ _ _ y => y
theorem cutV_take {xs : List V} {n : Nat} : cutV xs none (some (n : Int)) = xs.take n := by
  unfold cutV
  rw [HT.sIx_nat, HT.sIx_none, List.drop_zero]
  by_cases h : n ≤ xs.length
  · rw [Nat.min_eq_left h, Nat.sub_zero]
  · rw [Nat.min_eq_right (by omega), Nat.sub_zero, List.take_of_length_le (Nat.le_refl _), List.take_of_length_le (by omega)]
theorem cutV_drop {xs : List V} {n : Nat} : cutV xs (some (n : Int)) none = xs.drop n := by
  unfold cutV
  rw [HT.sIx_nat, HT.sIx_none]
  by_cases h : n ≤ xs.length
  · rw [Nat.min_eq_left h, List.take_of_length_le (by rw [List.length_drop]; exact Nat.le_refl _)]
  · rw [Nat.min_eq_right (by omega), List.drop_of_length_le (Nat.le_refl _), List.drop_of_length_le (by omega), List.take_nil]
theorem cutI_take {xs : List Int} {n : Nat} : cutV (List.map V.int xs) none (some (n : Int)) = List.map V.int (xs.take n) := by rw [cutV_take, List.map_take]
theorem cutI_drop {xs : List Int} {n : Nat} : cutV (List.map V.int xs) (some (n : Int)) none = List.map V.int (xs.drop n) := by rw [cutV_drop, List.map_drop]
/-- two lists item by item -/
inductive All2 {α β : Type} (R : α → β → Prop) : List α → List β → Prop
  | nil : All2 R [] []
  | cons {x : α} {y : β} {xs : List α} {ys : List β} : R x y → All2 R xs ys → All2 R (x :: xs) (y :: ys)
section
variable {α β : Type} {R S : α → β → Prop}
theorem All2.len {xs : List α} {ys : List β} (h : All2 R xs ys) : xs.length = ys.length := by
  induction h with
  | nil => rfl
  | cons _ _ ih => rw [List.length_cons, List.length_cons, ih]
theorem All2.mono {xs : List α} {ys : List β} (h : All2 R xs ys) (k : ∀ x y, R x y → S x y) : All2 S xs ys := by
  induction h with
  | nil => exact .nil
  | cons r _ ih => exact .cons (k _ _ r) ih
theorem All2.app {xs xs' : List α} {ys ys' : List β} (h : All2 R xs ys) (k : All2 R xs' ys') : All2 R (xs ++ xs') (ys ++ ys') := by
  induction h with
  | nil => exact k
  | cons r _ ih => exact .cons r ih
theorem All2.snoc {xs : List α} {ys : List β} {x : α} {y : β} (h : All2 R xs ys) (r : R x y) : All2 R (xs ++ [x]) (ys ++ [y]) := h.app (.cons r .nil)
theorem All2.at {xs : List α} {ys : List β} (h : All2 R xs ys) {i : Nat} {x : α} (e : xs[i]? = some x) : ∃ y, ys[i]? = some y ∧ R x y := by
  induction h generalizing i with
  | nil => simp at e
  | cons r _ ih =>
    cases i with
    | zero => exact ⟨_, rfl, by simpa using (Option.some.inj e) ▸ r⟩
    | succ i => exact ih e
theorem All2.at' {xs : List α} {ys : List β} (h : All2 R xs ys) {i : Nat} {y : β} (e : ys[i]? = some y) : ∃ x, xs[i]? = some x ∧ R x y := by
  induction h generalizing i with
  | nil => simp at e
  | cons r _ ih =>
    cases i with
    | zero => exact ⟨_, rfl, by simpa using (Option.some.inj e) ▸ r⟩
    | succ i => exact ih e
theorem All2.take {xs : List α} {ys : List β} (h : All2 R xs ys) (n : Nat) : All2 R (xs.take n) (ys.take n) := by
  induction h generalizing n with
  | nil => rw [List.take_nil, List.take_nil]; exact .nil
  | cons r _ ih =>
    cases n with
    | zero => exact .nil
    | succ n => exact .cons r (ih n)
theorem All2.drop {xs : List α} {ys : List β} (h : All2 R xs ys) (n : Nat) : All2 R (xs.drop n) (ys.drop n) := by
  induction h generalizing n with
  | nil => rw [List.drop_nil, List.drop_nil]; exact .nil
  | cons r t ih =>
    cases n with
    | zero => exact .cons r t
    | succ n => exact ih n
end
theorem tup_upd {H : Hp} {a l : Addr} {xs ys : List V} {o : HO} (h : H a = some (.tup xs)) (g : H l = some (.lst ys)) : upd H l o a = some (.tup xs) := by
  rw [upd_ne (ne_of h g (by intro z; cases z))]
  exact h
theorem tup_but {H H' : Hp} {a l : Addr} {xs ys : List V} (bt : But l H H') (h : H a = some (.tup xs)) (g : H l = some (.lst ys)) : H' a = some (.tup xs) := bt _ _ (ne_of h g (by intro z; cases z)) h
theorem cutV_take1 {xs : List V} : cutV xs none (some 1) = xs.take 1 := cutV_take (n := 1)
theorem cutV_drop1 {xs : List V} : cutV xs (some 1) none = xs.drop 1 := cutV_drop (n := 1)
section
variable {X : Cx}
/-- the script: its length, an item -/
def rLenSc (K : PySem.W.Frag) (a : Addr) (ns : List Int) : List V → Hp → VK → Prop := fun vs H Q => vs = [.ref a] ∧ SqL K H a (List.map V.int ns) ∧ Q (.int ns.length) H
theorem call_lenSc (a : Addr) (ns : List Int) : CallR X (.builtin "len") (rLenSc X.K a ns) := CallR.of call_len_seq fun vs H Q ⟨e, h, q⟩ => ⟨a, List.map V.int ns, e, .inl h, by rw [List.length_map]; exact q⟩
def rIxSc (K : PySem.W.Frag) (a : Addr) (ns : List Int) : R2 := fun x y H Q => ∃ i, x = .ref a ∧ y = .int i ∧ SqL K H a (List.map V.int ns) ∧ 0 ≤ i ∧ i < ns.length ∧ Q (.int (gN ns i.toNat)) H
theorem ix_sc (a : Addr) (ns : List Int) : IxR X (rIxSc X.K a ns) := IxR.of ix_list fun x y H Q ⟨i, e1, e2, h, h0, h1, q⟩ => ⟨a, List.map V.int ns, i, _, e1, e2, h, at_g' (Int.toNat_of_nonneg h0).symm (by omega), q⟩
end
section
variable {X : Cx}
def rSumS : List V → Hp → VK → Prop := fun vs H Q => ∃ a ns, vs = [.ref a] ∧ H a = some (.lst (List.map V.int ns)) ∧ Q (.int ns.sum) H
theorem cr_sumS (hc : X.calm = true) : CallR X (.builtin "sum") rSumS := CallR.of (cr_sum hc) fun vs H Q ⟨a, ns, e, g, q⟩ => ⟨a, ns, e, .inl (.inl g), q⟩
end
section
variable {X : Cx}
/-- t[lo:hi]: t itself or a new tuple, in either case one of these items -/
def rSlTS : V → Option Int → Option Int → Hp → VK → Prop := fun x lo hi H Q => ∃ a xs, x = .ref a ∧ H a = some (.tup xs) ∧ ∀ p H', Same H H' → (p = a ∨ H p = none) → H' p = some (.tup (cutV xs lo hi)) → Q (.ref p) H'
theorem sl_tupS : SlR X rSlTS := SlR.of sl_tupA fun x lo hi H Q ⟨a, xs, e, g, q⟩ => ⟨a, xs, e, .inl (.inl g), fun z => q a H (Same.refl _) (.inl rfl) (by
    unfold cutV
    rw [z.1, z.2, List.drop_zero, Nat.sub_zero, List.take_length]
    exact g), fun _ p hp => q p _ (same_upd hp) (.inr hp) upd_same⟩
end
theorem cutV_take3 {xs : List V} : cutV xs none (some 3) = xs.take 3 := cutV_take (n := 3)
section
variable {X : Cx}
theorem PT.of {e : Expr} {t t' : TT} (h : PT X e t) (k : ∀ σ H Q, t' σ H Q → t σ H Q) : PT X e t' := ⟨fun pins s σ H Q I q => h.run pins s σ H Q I (k _ _ _ q)⟩
/-- a list's truth -/
def tTrL (ta : TE) : TT := fun σ H Q => ta σ H fun x H1 => ∃ p xs, x = .ref p ∧ H1 p = some (.lst xs) ∧ Q (decide (0 < xs.length)) H1
theorem pt_truthL {a : Expr} {ta : TE} (ha : PE X a ta) (he : ∀ whole, isTrue a X.env whole = (do let v ← whole; standAt a.pos; holding [v] (truthy v))) : PT X a (tTrL ta) :=
  PT.of (pt_truth (pe_mono ha) he) fun σ H Q q => ⟨_, q, fun x H1 ⟨p, xs, e, g, z⟩ => ⟨decide (0 < xs.length), by rw [e]; exact .inl ⟨xs, .inl (.inl g), by cases xs <;> simp⟩, z⟩⟩
def iEnumL (K : PySem.W.Frag) (ta : TA) : TI := fun σ H R => ta σ H fun vs H1 => ∃ a xs, vs = [.ref a] ∧ H1 a = some (.lst xs) ∧ R (Ite K a) H1
theorem pi_enumL {e : Expr} {ta : TA} {p pos tpos : Pos} {elts : List Expr} {kk : Nat} (hg : Gl X "enumerate") (hm : X.mg "enumerate" = none) (ha : PA X [e] ta) (hs : starEach [e] X.env = [(false, eval e X.env)] := by rfl) :
    PI X (.Tuple elts kk tpos) (.Call (.Name "enumerate" p) [e] [] pos) (iEnumL X.K ta) := PI.of (pi_enum hg hm (pa_mono ha) hs) fun σ H R q => ⟨_, q, fun vs H1 ⟨a, xs, e, g, r⟩ => ⟨a, xs, e, .inl (.inl g), r⟩⟩
end
theorem walkE {K : PySem.W.Frag} {a : Addr} {xs : List V} : Walk (Ite K a) xs.length (fun H => H a = some (.lst xs)) (YPair (fun i => some (.int (i : Nat))) (fun i => xs[i]?)) := (walk_enum (K := K) (a := a) (xs := xs)).mono (fun _ h => .inl (.inl h)) fun _ _ _ _ _ _ y => y
theorem seq_cut {s1 R : TS} {D : Ends} {σ : L2.St} {H : Hp} (I : L2.St → Hp → Prop) (h2 : ∀ σ H, I σ H → R D σ H) (h1 : ∀ C : L2.St → Hp → Prop, (∀ σ H, I σ H → C σ H) → s1 { D with nx := C } σ H) : tSeq s1 R D σ H := h1 _ h2
section
variable {X : Cx}
theorem inV_int (i : Int) : ∀ ns : List Int, inV (.int i) (List.map V.int ns) = decide (i ∈ ns)
  | [] => by simp [inV]
  | n :: r => by
    have ih := inV_int i r
    unfold inV at ih ⊢
    rw [List.map_cons, List.any_cons, ih]
    by_cases h : n = i
    · subst h; simp [eqV]
    · simp [eqV, h, Ne.symm h]
theorem flat_ints : ∀ ns : List Int, (List.map V.int ns).all flatV = true
  | [] => rfl
  | _ :: r => by rw [List.map_cons, List.all_cons, flat_ints r]; rfl
/-- an int in a list of ints -/
def rInI : R2 := fun x y H Q => ∃ i p ns, x = .int i ∧ y = .ref p ∧ H p = some (.lst (List.map V.int ns)) ∧ Q (.bl (decide (i ∈ ns))) H
theorem op_inI : OpR X (compareOp .In) rInI := OpR.of op_in_seq fun x y H Q ⟨i, p, ns, e1, e2, g, q⟩ => ⟨p, List.map V.int ns, e2, .inl (.inl (.inl g)), by rw [e1]; rfl, flat_ints ns, by rw [e1, inV_int]; exact q⟩
/-- xs.index(i): the first place -/
def rIndexI : V → List V → Hp → VK → Prop := fun x xs H Q => ∃ p ns i j, x = .ref p ∧ xs = [.int i] ∧ H p = some (.lst (List.map V.int ns)) ∧ ns[j]? = some i ∧ (∀ m, m < j → ns[m]? ≠ some i) ∧ Q (.int ((j : Nat) : Int)) H
theorem MtR.of {id : String} {r r' : V → List V → Hp → VK → Prop} (h : MtR X id r) (k : ∀ x xs H Q, r' x xs H Q → r x xs H Q) : MtR X id r' := fun pins s σ H x xs v us Q I rx rv q => h pins s σ H x xs v us Q I rx rv (k _ _ _ _ q)
theorem mt_indexI : MtR X "list.index" rIndexI := MtR.of mt_index fun x xs H Q ⟨p, ns, i, j, e1, e2, g, hj, hm, q⟩ =>
  ⟨p, List.map V.int ns, .int i, j, .int i, e1, e2, .inl (.inl g), rfl, flat_ints ns, by rw [List.getElem?_map, hj]; rfl, by simp [eqV], fun m z hmj hz => by
    rw [List.getElem?_map] at hz
    obtain ⟨b, h1, rfl⟩ := Option.map_eq_some_iff.mp hz
    have : b ≠ i := fun e => hm m hmj (e ▸ h1)
    simp [eqV, this], q⟩
end
def sl (ns : List Int) (i j : Nat) : List Int := (ns.drop i).take (j - i)
theorem cut_sl {ns : List Int} {i j : Nat} : cutV (List.map V.int ns) (some (i : Int)) (some (j : Int)) = List.map V.int (sl ns i j) := by
  unfold cutV sl
  rw [HT.sIx_nat, HT.sIx_nat, List.length_map, ← List.map_drop, ← List.map_take]
  congr 1
  by_cases h : i < ns.length
  · rw [Nat.min_eq_left (Nat.le_of_lt h)]
    by_cases h2 : j ≤ ns.length
    · rw [Nat.min_eq_left h2]
    · rw [Nat.min_eq_right (by omega), List.take_of_length_le (by rw [List.length_drop]; exact Nat.le_refl _), List.take_of_length_le (by rw [List.length_drop]; omega)]
  · rw [List.drop_eq_nil_of_le (by omega), List.drop_eq_nil_of_le (by omega), List.take_nil, List.take_nil]
theorem sl_len (ns : List Int) (i j : Nat) : (sl ns i j).length = min (j - i) (ns.length - i) := by
  unfold sl
  rw [List.length_take, List.length_drop]
/-- a dict comprehension -/
def DcLoop (J : It) (g : TG) (tt : TT) (tk tv : TE) (vs : List Nat) (σ : L2.St) (H1 : Hp) (Q : VK) : Prop := ∀ D, H1 D = none → ∃ W : Nat → Nat → Hp → Prop, (∃ m, W 0 m (upd H1 D (.dK []))) ∧ ∀ i m H, W i m H →
  (J.stop i H ∧ Q (.ref D) H) ∨ (J.go i H ∧ ∃ Nx : Hp → Prop, (∀ H', Nx H' → ∃ m', m' < m ∧ W (i + 1) m' H') ∧ ∀ x H', J.yld i H x H' → g x (wipe σ vs) H' fun σ2 H2 => wipe σ2 vs = wipe σ vs ∧ tt σ2 H2 fun b H3 =>
    if b = true then tk σ2 H3 fun y H4 => tv σ2 H4 fun z H5 => ∃ kvs k, y = kV k ∧ H5 D = some (.dK kvs) ∧ kvs.length < sizeLine ∧ Nx (upd H5 D (.dK (putK kvs k z))) else Nx H3)
theorem tDc_eq {wi : TI} {g : TG} {tt : TT} {tk tv : TE} {vs : List Nat} {σ : L2.St} {H : Hp} {Q : VK} : tDc wi g tt tk tv vs σ H Q = wi σ H fun J H1 => DcLoop J g tt tk tv vs σ H1 Q := rfl
theorem dcW {J : It} {n : Nat} {G : Hp → Prop} {Y : Nat → Hp → V → Hp → Prop} (w : Walk J n G Y) {g : TG} {tt : TT} {tk tv : TE} {vs : List Nat} {σ : L2.St} {H1 : Hp} {Q : VK} (Pv : Addr → Nat → Hp → Prop) (h0 : ∀ D H, Same H1 H → H1 D = none → H D = some (.dK []) → Pv D 0 H)
    (hG : ∀ D i H, H1 D = none → i ≤ n → Pv D i H → G H) (hs : ∀ D i x H H', i < n → H1 D = none → Pv D i H → Y i H x H' → g x (wipe σ vs) H' fun σ2 H2 => wipe σ2 vs = wipe σ vs ∧ tt σ2 H2 fun b H3 =>
      if b = true then tk σ2 H3 fun y H4 => tv σ2 H4 fun z H5 => ∃ kvs k, y = kV k ∧ H5 D = some (.dK kvs) ∧ kvs.length < sizeLine ∧ Pv D (i + 1) (upd H5 D (.dK (putK kvs k z))) else Pv D (i + 1) H3)
    (hd : ∀ D H, H1 D = none → Pv D n H → Q (.ref D) H) : DcLoop J g tt tk tv vs σ H1 Q := by
  intro D hD
  refine ⟨fun i m H => m = n - i ∧ i ≤ n ∧ Pv D i H, ⟨n, by simp, Nat.zero_le _, h0 D _ (same_upd hD) hD upd_same⟩, ?_⟩
  rintro i m H ⟨rfl, hi, p⟩
  have q := hG D i H hD hi p
  by_cases hlt : i < n
  · exact .inr ⟨w.goes i H hlt q, Pv D (i + 1), fun H' p' => ⟨n - (i + 1), by omega, rfl, hlt, p'⟩, fun x H' y => hs D i x H H' hlt hD p (w.yields i H x H' hlt q y)⟩
  · have e : i = n := by omega
    subst e
    exact .inl ⟨w.stops H q, hd D H hD p⟩

/-! ### data at any depth: what stands there, and == of it -/
structure Cod {α : Type} [DecidableEq α] (R : Hp → V → α → Prop) (f : α → PyData) (d : Nat) : Prop where
  dp : ∀ (K : PySem.W.Frag) H v a, R H v a → Dp K H v (f a)
  eq : ∀ a b, PyData.eqv (f a) (f b) = decide (a = b)
  lay : ∀ a, PyData.canLay0 (f a) = true
  dep : ∀ a, PyData.depth (f a) ≤ d
def IntV (_ : Hp) (v : V) (i : Int) : Prop := v = .int i
def LstV {α : Type} (R : Hp → V → α → Prop) (H : Hp) (v : V) (l : List α) : Prop := ∃ a vs, v = .ref a ∧ H a = some (.lst vs) ∧ All2 (R H) vs l
def TupV {α : Type} (R : Hp → V → α → Prop) (H : Hp) (v : V) (l : List α) : Prop := ∃ a vs, v = .ref a ∧ H a = some (.tup vs) ∧ All2 (R H) vs l
def Pr2V {α β : Type} (R : Hp → V → α → Prop) (S : Hp → V → β → Prop) (H : Hp) (v : V) (p : α × β) : Prop := ∃ a x y, v = .ref a ∧ H a = some (.tup [x, y]) ∧ R H x p.1 ∧ S H y p.2
def Pr3V {α β γ : Type} (R : Hp → V → α → Prop) (S : Hp → V → β → Prop) (T : Hp → V → γ → Prop) (H : Hp) (v : V) (p : α × β × γ) : Prop := ∃ a x y z, v = .ref a ∧ H a = some (.tup [x, y, z]) ∧ R H x p.1 ∧ S H y p.2.1 ∧ T H z p.2.2
theorem cod_int : Cod IntV PyData.int 0 := ⟨fun K H v a h => by rw [show v = .int a from h]; exact .int a, eqv_ii, fun _ => rfl, fun _ => Nat.le_refl _⟩
section
variable {α β γ : Type} [DecidableEq α] [DecidableEq β] [DecidableEq γ] {R : Hp → V → α → Prop} {S : Hp → V → β → Prop} {T : Hp → V → γ → Prop} {f : α → PyData} {g : β → PyData} {h : γ → PyData} {d e k : Nat}
theorem Cod.all (c : Cod R f d) {K : PySem.W.Frag} {H : Hp} {vs : List V} {l : List α} (a : All2 (R H) vs l) : DpAll K H vs (l.map f) := by
  induction a with
  | nil => exact .nil
  | cons r _ ih => exact .cons (c.dp _ _ _ _ r) ih
theorem Cod.eqAll (c : Cod R f d) : ∀ l m : List α, PyData.eqvAll (l.map f) (m.map f) = decide (l = m)
  | [], [] => by rw [List.map_nil, eqvAll_nil]; rfl
  | [], y :: s => by rw [List.map_nil, List.map_cons, PyData.eqvAll]; simp
  | x :: r, [] => by rw [List.map_nil, List.map_cons, PyData.eqvAll]; simp
  | x :: r, y :: s => by
    rw [List.map_cons, List.map_cons, eqvAll_cons, c.eq, Cod.eqAll c r s]
    simp only [List.cons.injEq, Bool.decide_and]
theorem Cod.layAll (c : Cod R f d) : ∀ l : List α, PyData.canLayAll0 (l.map f) = true
  | [] => rfl
  | x :: r => by rw [List.map_cons, PyData.canLayAll0, c.lay, Cod.layAll c r]; rfl
theorem Cod.depAll (c : Cod R f d) : ∀ l : List α, PyData.depthAll (l.map f) ≤ d
  | [] => by rw [List.map_nil, PyData.depthAll]; exact Nat.zero_le _
  | x :: r => by rw [List.map_cons, PyData.depthAll]; exact Nat.max_le.mpr ⟨c.dep x, Cod.depAll c r⟩
theorem cod_lst (c : Cod R f d) : Cod (LstV R) (fun l => .list (l.map f)) (d + 1) :=
  ⟨fun K H v l ⟨a, vs, e, ha, hv⟩ => by rw [e]; exact .lst (.inl (.inl ha)) (c.all hv), fun l m => by rw [PyData.eqv, c.eqAll], fun l => by rw [PyData.canLay0, c.layAll], fun l => by rw [PyData.depth]; exact Nat.succ_le_succ (c.depAll l)⟩
theorem cod_tup (c : Cod R f d) : Cod (TupV R) (fun l => .tuple (l.map f)) (d + 1) :=
  ⟨fun K H v l ⟨a, vs, e, ha, hv⟩ => by rw [e]; exact .tup (.inl (.inl ha)) (c.all hv), fun l m => by rw [PyData.eqv, c.eqAll], fun l => by rw [PyData.canLay0, c.layAll], fun l => by rw [PyData.depth]; exact Nat.succ_le_succ (c.depAll l)⟩
theorem cod_p2 (c : Cod R f d) (b : Cod S g e) : Cod (Pr2V R S) (fun p => .tuple [f p.1, g p.2]) (max d e + 1) :=
  ⟨fun K H v l ⟨a, x, y, e, ha, hx, hy⟩ => by rw [e]; exact .tup (.inl (.inl ha)) (.cons (c.dp _ _ _ _ hx) (.cons (b.dp _ _ _ _ hy) .nil)),
   fun l m => by
    rw [PyData.eqv, eqvAll_cons, eqvAll_cons, eqvAll_nil, c.eq, b.eq, Bool.and_true, ← Bool.decide_and]
    exact decide_eq_decide.mpr ⟨fun z => Prod.ext z.1 z.2, fun z => by rw [z]; exact ⟨rfl, rfl⟩⟩,
   fun l => by rw [PyData.canLay0, PyData.canLayAll0, PyData.canLayAll0, PyData.canLayAll0, c.lay, b.lay]; rfl,
   fun l => by
    rw [PyData.depth, PyData.depthAll, PyData.depthAll, PyData.depthAll]
    have h1 := c.dep l.1
    have h2 := b.dep l.2
    omega⟩
theorem cod_p3 (c : Cod R f d) (b : Cod S g e) (t : Cod T h k) : Cod (Pr3V R S T) (fun p => .tuple [f p.1, g p.2.1, h p.2.2]) (max d (max e k) + 1) :=
  ⟨fun K H v l ⟨a, x, y, z, e, ha, hx, hy, hz⟩ => by rw [e]; exact .tup (.inl (.inl ha)) (.cons (c.dp _ _ _ _ hx) (.cons (b.dp _ _ _ _ hy) (.cons (t.dp _ _ _ _ hz) .nil))),
   fun l m => by
    rw [PyData.eqv, eqvAll_cons, eqvAll_cons, eqvAll_cons, eqvAll_nil, c.eq, b.eq, t.eq, Bool.and_true, ← Bool.decide_and, ← Bool.decide_and]
    exact decide_eq_decide.mpr ⟨fun z => Prod.ext z.1 (Prod.ext z.2.1 z.2.2), fun z => by rw [z]; exact ⟨rfl, rfl, rfl⟩⟩,
   fun l => by rw [PyData.canLay0, PyData.canLayAll0, PyData.canLayAll0, PyData.canLayAll0, PyData.canLayAll0, c.lay, b.lay, t.lay]; rfl,
   fun l => by
    rw [PyData.depth, PyData.depthAll, PyData.depthAll, PyData.depthAll, PyData.depthAll]
    have h1 := c.dep l.1
    have h2 := b.dep l.2.1
    have h3 := t.dep l.2.2
    omega⟩
end
section
variable {X : Cx} {α : Type} [DecidableEq α] {R : Hp → V → α → Prop} {f : α → PyData} {d : Nat}
def rEqC (R : Hp → V → α → Prop) : R2 := fun x y H Q => ∃ a b, R H x a ∧ R H y b ∧ Q (.bl (decide (a = b))) H
def rNeC (R : Hp → V → α → Prop) : R2 := fun x y H Q => ∃ a b, R H x a ∧ R H y b ∧ Q (.bl (!decide (a = b))) H
theorem Cod.shaped (c : Cod R f d) (hd : d ≤ 64) (a : α) : SeqAt.shaped (f a) = true := by
  unfold SeqAt.shaped
  rw [c.lay, decide_eq_true (Nat.le_trans (c.dep a) hd)]
  rfl
theorem op_eqC (hu : X.A.units + 64 < cLine) (c : Cod R f d) (hd : d ≤ 64) : OpR X (compareOp .Eq) (rEqC R) := OpR.of (op_eqD hu) fun x y H Q ⟨a, b, ha, hb, q⟩ => ⟨f a, f b, c.dp _ _ _ _ ha, c.dp _ _ _ _ hb, c.shaped hd a, c.shaped hd b, by rw [c.eq]; exact q⟩
theorem op_neC (hu : X.A.units + 64 < cLine) (c : Cod R f d) (hd : d ≤ 64) : OpR X (compareOp .NotEq) (rNeC R) := OpR.of (op_neD hu) fun x y H Q ⟨a, b, ha, hb, q⟩ => ⟨f a, f b, c.dp _ _ _ _ ha, c.dp _ _ _ _ hb, c.shaped hd a, c.shaped hd b, by rw [c.eq]; exact q⟩
end
theorem ints_all {H : Hp} (ns : List Int) : All2 (IntV H) (List.map V.int ns) ns := by
  induction ns with
  | nil => exact .nil
  | cons n r ih => exact .cons rfl ih
theorem ints_of {H : Hp} {vs : List V} {ns : List Int} (h : All2 (IntV H) vs ns) : vs = List.map V.int ns := by
  induction h with
  | nil => rfl
  | cons r _ ih => rw [List.map_cons, ih, show _ = V.int _ from r]
theorem intL {H : Hp} {a : Addr} {ns : List Int} (g : H a = some (.lst (List.map V.int ns))) : LstV IntV H (.ref a) ns := ⟨a, _, rfl, g, ints_all ns⟩
theorem lsv_mono {H H' : Hp} (s : Same H H') (v : V) (n : List Int) (h : LstV IntV H v n) : LstV IntV H' v n := by
  obtain ⟨a, vs, e, g, k⟩ := h
  exact ⟨a, vs, e, s _ _ g, k.mono fun _ _ z => z⟩
/-- what stands however the heap goes on, but for one list that changes -/
structure Stab {α : Type} (R : Hp → V → α → Prop) : Prop where
  mono : ∀ {H H' : Hp}, Same H H' → ∀ v a, R H v a → R H' v a
  but : ∀ {H H' : Hp} {l : Addr} {ys : List V}, But l H H' → H l = some (.lst ys) → ∀ v a, R H v a → R H' v a
theorem stab_int : Stab IntV := ⟨fun _ _ _ h => h, fun _ _ _ _ h => h⟩
section
variable {α β γ : Type} {R : Hp → V → α → Prop} {S : Hp → V → β → Prop} {T : Hp → V → γ → Prop}
theorem stab_tup (c : Stab R) : Stab (TupV R) :=
  ⟨fun s v l ⟨a, vs, e, g, k⟩ => ⟨a, vs, e, s _ _ g, k.mono (c.mono s)⟩, fun bt gl v l ⟨a, vs, e, g, k⟩ => ⟨a, vs, e, tup_but bt g gl, k.mono (c.but bt gl)⟩⟩
theorem stab_p2 (c : Stab R) (b : Stab S) : Stab (Pr2V R S) :=
  ⟨fun s v l ⟨a, x, y, e, g, h1, h2⟩ => ⟨a, x, y, e, s _ _ g, c.mono s _ _ h1, b.mono s _ _ h2⟩, fun bt gl v l ⟨a, x, y, e, g, h1, h2⟩ => ⟨a, x, y, e, tup_but bt g gl, c.but bt gl _ _ h1, b.but bt gl _ _ h2⟩⟩
theorem stab_p3 (c : Stab R) (b : Stab S) (t : Stab T) : Stab (Pr3V R S T) :=
  ⟨fun s v l ⟨a, x, y, z, e, g, h1, h2, h3⟩ => ⟨a, x, y, z, e, s _ _ g, c.mono s _ _ h1, b.mono s _ _ h2, t.mono s _ _ h3⟩, fun bt gl v l ⟨a, x, y, z, e, g, h1, h2, h3⟩ => ⟨a, x, y, z, e, tup_but bt g gl, c.but bt gl _ _ h1, b.but bt gl _ _ h2, t.but bt gl _ _ h3⟩⟩
theorem lstV_mono (c : Stab R) {H H' : Hp} (s : Same H H') (v : V) (l : List α) (h : LstV R H v l) : LstV R H' v l := by
  obtain ⟨a, vs, e, g, k⟩ := h
  exact ⟨a, vs, e, s _ _ g, k.mono (c.mono s)⟩
theorem Stab.upd (c : Stab R) {H : Hp} {l : Addr} {ys : List V} {o : HO} (g : H l = some (.lst ys)) (v : V) (a : α) (h : R H v a) : R (upd H l o) v a := c.but ((But.refl l H).put) g v a h
end

/-! ### constants of the top, texts in lists, reversed lists, zip of tuples -/
theorem SqT.of {K : PySem.W.Frag} {H : Hp} {a : Addr} {xs : List V} (h : H a = some (.tup xs)) : SqT K H a xs := .inl (.inl h)
theorem SqL.of {K : PySem.W.Frag} {H : Hp} {a : Addr} {xs : List V} (h : H a = some (.lst xs)) : SqL K H a xs := .inl (.inl h)
section
variable {X : Cx}
theorem ints_tshaped (ns : List Int) : SeqAt.shaped (.tuple (ns.map PyData.int)) = true := (cod_tup cod_int).shaped (by decide) ns
/-- == of a tracked tuple of ints and any tuple of ints -/
def rEqTK (K : PySem.W.Frag) : R2 := fun x y H Q => ∃ a b ns ms, x = .ref a ∧ y = .ref b ∧ H a = some (.tup (List.map V.int ns)) ∧ SqT K H b (List.map V.int ms) ∧ Q (.bl (decide (ns = ms))) H
theorem op_eqTK (hu : X.A.units + 64 < cLine) : OpR X (compareOp .Eq) (rEqTK X.K) := OpR.of (op_eqD hu) (by
  rintro x y H Q ⟨a, b, ns, ms, rfl, rfl, ha, hb, q⟩
  refine ⟨_, _, .tup (.inl (.inl ha)) (ints_dp ns), .tup hb (ints_dp ms), ints_tshaped ns, ints_tshaped ms, ?_⟩
  rw [(cod_tup cod_int).eq ns ms]
  exact q)
abbrev OkS := {s : Str // PyData.strOk s = true}
def StrV (_ : Hp) (v : V) (s : OkS) : Prop := v = .str s.val
theorem eqv_ss (a b : Str) : PyData.eqv (.str a) (.str b) = decide (a = b) := by
  rw [PyData.eqv]
  by_cases h : a = b
  · rw [decide_eq_true h]; exact beq_iff_eq.mpr h
  · rw [decide_eq_false h]; exact beq_eq_false_iff_ne.mpr h
def vS (s : OkS) : V := .str s.val
def dStr (s : OkS) : PyData := .str s.val
theorem cod_str : Cod StrV dStr 0 := ⟨fun K H v a h => by rw [show v = .str a.val from h]; exact .str a.val, fun a b => by
  show PyData.eqv (.str a.val) (.str b.val) = _
  rw [eqv_ss]; exact decide_eq_decide.mpr Subtype.ext_iff.symm, fun a => by show PyData.canLay0 (.str a.val) = true; rw [PyData.canLay0]; exact a.property, fun a => by show PyData.depth (.str a.val) ≤ 0; rw [PyData.depth]; exact Nat.le_refl _⟩
theorem strs_all {H : Hp} : ∀ ns : List OkS, All2 (StrV H) (List.map vS ns) ns
  | [] => .nil
  | _ :: r => .cons rfl (strs_all r)
theorem strs_of {H : Hp} {vs : List V} {ns : List OkS} (h : All2 (StrV H) vs ns) : vs = List.map vS ns := by
  induction h with
  | nil => rfl
  | cons r _ ih => rw [List.map_cons, ih, show _ = _ from r]; rfl
theorem strL {H : Hp} {a : Addr} {ns : List OkS} (g : H a = some (.lst (List.map vS ns))) : LstV StrV H (.ref a) ns := ⟨a, _, rfl, g, strs_all ns⟩
theorem stab_str : Stab StrV := ⟨fun _ _ _ h => h, fun _ _ _ _ h => h⟩
theorem strs_dp {K : PySem.W.Frag} {H : Hp} (ss : List OkS) : DpAll K H (ss.map vS) (ss.map dStr) := cod_str.all (strs_all ss)
/-- != and == of a tuple of texts of the top and a new one -/
def rNeSK (K : PySem.W.Frag) : R2 := fun x y H Q => ∃ a b ss ts, x = .ref a ∧ y = .ref b ∧ SqT K H a (List.map vS ss) ∧ H b = some (.tup (List.map vS ts)) ∧ Q (.bl (!decide (ss = ts))) H
theorem op_neSK (hu : X.A.units + 64 < cLine) : OpR X (compareOp .NotEq) (rNeSK X.K) := OpR.of (op_neD hu) (by
  rintro x y H Q ⟨a, b, ss, ts, rfl, rfl, ha, hb, q⟩
  refine ⟨_, _, .tup ha (strs_dp ss), .tup (.inl (.inl hb)) (strs_dp ts), (cod_tup cod_str).shaped (by decide) ss, (cod_tup cod_str).shaped (by decide) ts, ?_⟩
  rw [(cod_tup cod_str).eq ss ts]
  exact q)
/-- isinstance of a tuple of the top -/
def rIsiTK (K : PySem.W.Frag) : List V → Hp → VK → Prop := fun vs H Q => ∃ p n xs b, vs = [.ref p, .ty n] ∧ SqT K H p xs ∧ kitB "tuple" n = some b ∧ Q (.bl b) H
theorem call_isiTK : CallR X (.builtin "isinstance") (rIsiTK X.K) := CallR.of call_isi (by
  rintro vs H Q ⟨p, n, xs, b, rfl, hp, hb, q⟩
  refine ⟨.ref p, .ty n, .type "tuple", .type n, b, rfl, .ty n, ?_, kit_ty hb, q⟩
  rcases hp with (h | ⟨o, h⟩) | ⟨o, its, k, h1, h2, _⟩
  · exact .base (.tup h)
  · exact .fTuple h
  · exact .kTuple h1 h2)
/-- reversed(list) -/
def iRevS (K : PySem.W.Frag) (ta : TA) : TI := fun σ H R => ta σ H fun vs H1 => ∃ a xs, vs = [.ref a] ∧ H1 a = some (.lst xs) ∧ R (Itv K a xs.length) H1
theorem pi_revS {tg e : Expr} {ta : TA} {p pos : Pos} (hg : Gl X "reversed") (hm : X.mg "reversed" = none) (ha : PA X [e] ta) (hs : starEach [e] X.env = [(false, eval e X.env)] := by rfl) :
    PI X tg (.Call (.Name "reversed" p) [e] [] pos) (iRevS X.K ta) := PI.of (pi_reversed hg hm (pa_mono ha) hs) fun σ H R q => ⟨_, q, fun vs H1 ⟨a, xs, e, g, r⟩ => ⟨a, xs, e, .inl (.inl g), r⟩⟩
/-- zip of two tuples -/
def iZipTS (K : PySem.W.Frag) (ta : TA) : TI := fun σ H R => ta σ H fun vs H1 => ∃ a b xs ys, vs = [.ref a, .ref b] ∧ SqT K H1 a xs ∧ SqT K H1 b ys ∧ R (RZ.ItzT K a b) H1
theorem pi_zipTS {e e2 : Expr} {ta : TA} {p pos tpos : Pos} {elts : List Expr} {kk : Nat} (hg : Gl X "zip") (hm : X.mg "zip" = none) (ha : PA X [e, e2] ta) (hs : starEach [e, e2] X.env = (false, eval e X.env) :: starEach [e2] X.env := by rfl) (hpl : (backTo pos (starEach [e2] X.env)).any (·.1) = false := by rfl) :
    PI X (.Tuple elts kk tpos) (.Call (.Name "zip" p) [e, e2] [] pos) (iZipTS X.K ta) := PI.of (RZ.pi_zipA hg hm (pa_mono ha) hs hpl) fun σ H R q => ⟨_, q, fun vs H1 ⟨a, b, xs, ys, e, g1, g2, r⟩ => ⟨a, b, xs, ys, e, .inr ⟨g1, g2, r⟩⟩⟩
end
theorem walkV {K : PySem.W.Frag} {a : Addr} {xs : List V} : Walk (Itv K a xs.length) xs.length (fun H => H a = some (.lst xs)) (fun i H x H' => H' = H ∧ xs[xs.length - 1 - i]? = some x) := (walk_rev (K := K) (a := a) (xs := xs)).mono (fun _ h => .inl (.inl h)) fun _ _ _ _ _ _ y => y
theorem walkVI {K : PySem.W.Frag} {a : Addr} {ns : List Int} : Walk (Itv K a ns.length) ns.length (fun H => H a = some (.lst (List.map V.int ns))) (YInt ns.reverse) := by
  have w := walkV (K := K) (a := a) (xs := List.map V.int ns)
  rw [List.length_map] at w
  refine w.mono (fun _ h => h) fun i H x H' hi _ y => ⟨y.1, ?_⟩
  have h := y.2
  rw [List.getElem?_map] at h
  obtain ⟨b, h1, rfl⟩ := Option.map_eq_some_iff.mp h
  exact ⟨b, by rw [List.getElem?_reverse hi]; exact h1, rfl⟩
theorem walkZT {K : PySem.W.Frag} {a b : Addr} {xs ys : List V} {n : Nat} (hn : n = min xs.length ys.length) : Walk (RZ.ItzT K a b) n (fun H => SqT K H a xs ∧ SqT K H b ys) (YPair (fun i => xs[i]?) (fun i => ys[i]?)) := by
  subst hn
  refine ⟨fun i _ hi q => ?_, fun _ q => ⟨xs, ys, q.1, q.2, by omega⟩, fun i H v H' _ q y => ?_⟩
  · have h1 : i < xs.length := by omega
    have h2 : i < ys.length := by omega
    exact ⟨xs, ys, xs[i], ys[i], q.1, q.2, by simp [h1], by simp [h2]⟩
  · obtain ⟨T, x, z, h1, h2, h3, h4, h5⟩ := y
    exact ⟨T, x, z, h1, h2, h3, h4 xs q.1, h5 ys q.2⟩
theorem _root_.L2.Same.seqT {K : PySem.W.Frag} {H H' : Hp} (s : Same H H') {a : Addr} {xs : List V} (h : SqT K H a xs) : SqT K H' a xs := by
  rcases h with (h | ⟨o, h⟩) | h
  · exact .inl (.inl (s _ _ h))
  · exact .inl (.inr ⟨o, s _ _ h⟩)
  · exact .inr h
/-- the codes of a text -/
def cds (z : Str) : List Int := z.cps.toList.map fun (c : Nat) => (c : Int)
theorem cds_at {z : Str} {i c : Nat} (h : z.cps[i]? = some c) : (cds z)[i]? = some (c : Int) := by
  unfold cds
  rw [List.getElem?_map, Array.getElem?_toList, h]
  rfl
theorem cds_len (z : Str) : (cds z).length = z.cps.size := by unfold cds; rw [List.length_map, Array.length_toList]
section
variable {X : Cx} {α : Type} [DecidableEq α] {R : Hp → V → α → Prop} {f : α → PyData} {d : Nat}
theorem Cod.anyEq (c : Cod R f d) (a : α) : ∀ l : List α, ((l.map f).any fun z => PyData.eqv z (f a)) = decide (a ∈ l)
  | [] => by simp
  | x :: r => by
    rw [List.map_cons, List.any_cons, c.eq, Cod.anyEq c a r]
    by_cases h : x = a
    · subst h; simp
    · rw [decide_eq_false h, Bool.false_or]
      exact decide_eq_decide.mpr ⟨fun z => List.mem_cons_of_mem _ z, fun z => (List.mem_cons.mp z).resolve_left fun e => h e.symm⟩
/-- x in a list, x not in a list or a tuple, at any depth -/
def rInLC (R : Hp → V → α → Prop) : R2 := fun x y H Q => ∃ a l, R H x a ∧ LstV R H y l ∧ Q (.bl (decide (a ∈ l))) H
def rNotInLC (R : Hp → V → α → Prop) : R2 := fun x y H Q => ∃ a l, R H x a ∧ LstV R H y l ∧ Q (.bl (!decide (a ∈ l))) H
def rNotInTC (R : Hp → V → α → Prop) : R2 := fun x y H Q => ∃ a l, R H x a ∧ TupV R H y l ∧ Q (.bl (!decide (a ∈ l))) H
theorem op_inLC (hu : X.A.units + 65 < cLine) (c : Cod R f d) (hd : d < 64) : OpR X (compareOp .In) (rInLC R) := OpR.of (op_inD hu) fun x y H Q ⟨a, l, ha, hl, q⟩ => ⟨f a, l.map f, c.dp _ _ _ _ ha, (cod_lst c).dp _ _ _ _ hl, c.shaped (Nat.le_of_lt hd) a, (cod_lst c).shaped hd l, by rw [c.anyEq]; exact q⟩
theorem op_notInLC (hu : X.A.units + 65 < cLine) (c : Cod R f d) (hd : d < 64) : OpR X (compareOp .NotIn) (rNotInLC R) := OpR.of (op_notInD hu) fun x y H Q ⟨a, l, ha, hl, q⟩ => ⟨f a, l.map f, c.dp _ _ _ _ ha, (cod_lst c).dp _ _ _ _ hl, c.shaped (Nat.le_of_lt hd) a, (cod_lst c).shaped hd l, by rw [c.anyEq]; exact q⟩
theorem op_notInTC (hu : X.A.units + 65 < cLine) (c : Cod R f d) (hd : d < 64) : OpR X (compareOp .NotIn) (rNotInTC R) := by
  intro pins s σ H x y v u Q I rx ry h
  obtain ⟨a, l, ha, hl, q⟩ := h
  have sd := c.shaped (Nat.le_of_lt hd) a
  have se := (cod_tup c).shaped hd l
  obtain ⟨as, r1⟩ := Dp.reads I (f a) x v (c.dp _ _ _ _ ha) rx
  obtain ⟨bs, r2⟩ := Dp.reads I (.tuple (l.map f)) y u ((cod_tup c).dp _ _ _ _ hl) ry
  exact SeqAt.notIn_tuple_reads r2 r1 (SeqAt.canLay_of_shaped se) (SeqAt.canLay_of_shaped sd) (room_in_shaped sd hu) ⟨.bl _, H, I, rfl, by rw [c.anyEq]; exact q⟩
theorem hu5 {A : Around} {k : Nat} (hr : Room k A) : A.units + 65 < cLine := by have := hr.un; omega
/-- ''.join of a list of single signs -/
def oneS (c : Nat) : Str := ⟨#[c]⟩
theorem joinL_one : ∀ cs : List Nat, TL.joinL [] (cs.map fun c => [c]) = cs
  | [] => rfl
  | [_] => rfl
  | x :: y :: r => by
    show [x] ++ ([] ++ TL.joinL [] ((y :: r).map fun c => [c])) = _
    rw [joinL_one (y :: r)]
    rfl
theorem join_one (cs : List Nat) : Txt.join (Str.ofString "") (cs.map oneS) = ⟨cs.toArray⟩ := by
  have h := SX.join_S [] (cs.map fun c => [c])
  rw [joinL_one, List.map_map] at h
  exact h
def tJoinC (to te : TE) : TE := fun σ H Q => to σ H fun x H1 => x = .str (Str.ofString "") ∧ te σ H1 fun y H2 => ∃ (p : Addr) (cs : List Nat), y = .ref p ∧ H2 p = some (.lst (cs.map fun c => V.str (oneS c))) ∧ cs.length ≤ 1000000 ∧ Q (.str ⟨cs.toArray⟩) H2
theorem one_sum : ∀ cs : List Nat, ((cs.map oneS).map (·.length)).sum = cs.length
  | [] => rfl
  | c :: r => by
    rw [List.map_cons, List.map_cons, List.sum_cons, one_sum r, List.length_cons, Nat.add_comm]
    rfl
theorem pe_joinC {o e : Expr} {to te : TE} {apos pos : Pos} (ho : PE X o to) (he : PE X e te) (hs : starEach [e] X.env = [(false, eval e X.env)] := by rfl) (hbase : attributeBase o "join" X.env (eval o X.env) = eval o X.env := by rfl) (hline : (apos.endLine == pos.line) = true := by rfl) :
    PE X (.Call (.Attribute o "join" apos) [e] [] pos) (tJoinC to te) := PE.of (pe_join (pe_mono ho) (pe_mono he) hs hbase hline) fun σ H Q q => ⟨_, q, fun x H1 z => ⟨⟨_, z.1⟩, _, z.2, fun y H2 ⟨p, cs, e, g, hl, w⟩ => ⟨Str.ofString "", p, cs.map oneS, z.1, by rw [e], .inl (.inl (.inl (by rw [List.map_map]; exact g))), by
    rw [one_sum, List.length_map, show (Str.ofString "").length = 0 from rfl]; omega, by rw [join_one]; exact w⟩⟩⟩
end
section
variable {X : Cx}
/-- xs * n -/
def rRepL : R2 := fun x y H Q => ∃ l k xs, x = .ref l ∧ y = .int k ∧ H l = some (.lst xs) ∧ k ≤ 2 ^ 62 - 1 ∧ -(2 ^ 62) ≤ k ∧ xs.length * k.toNat ≤ sizeLine ∧ NewH H (.lst (List.replicate k.toNat xs).flatten) fun p H' => Q (.ref p) H'
theorem op_repL : OpR X (binaryOp .Mult) rRepL := OpR.of op_rep fun x y H Q ⟨l, k, xs, e1, e2, h1, z1, z2, z3, q⟩ => ⟨l, k, xs, e1, e2, h1, by omega, by omega, z3, q.go⟩
end

theorem iteP {p : Prop} {i : Decidable p} {a b : Prop} (x : p → a) (y : ¬ p → b) : @ite _ p i a b := by
  by_cases h : p
  · rw [if_pos h]; exact x h
  · rw [if_neg h]; exact y h
section
variable {X : Cx}
/-- name = {k: v for ..} on one line, the name a local -/
theorem ps_setDc {i : Nat} {y : Str} {py : Pos} {kx vx tg iter : Expr} {ifs : List Expr} {scope : Scope} {own : List (Str × Nat)} {pos spos : Pos} {wi : TI} {g : TG} {tt : TT} {tk tv : TE} (hc : X.calm = true) (hN : X.N.Nodup) (hy : X.N[i]? = some y) (hyl : X.env.scope.names.lookup y = some .local)
    (hsw : swapsWith (.DictComp kx vx [⟨tg, iter, ifs, 0⟩] scope pos) (some (.Name y py)) spos.line X.env = pure true) (hi : PI X tg iter wi) (ok : BlkOk X.N X.env.scope scope own)
    (hg : ∀ (s : Shared) (H : Hp) (C : Addr) (cl : List (Str × Addr)) (fp : List Addr), PG (X.blk s H scope (compEnvC scope cl C X.env) fp) tg g) (ht : ∀ (s : Shared) (H : Hp) (C : Addr) (cl : List (Str × Addr)) (fp : List Addr), PTs (X.blk s H scope (compEnvC scope cl C X.env) fp) ifs tt)
    (hk : ∀ (s : Shared) (H : Hp) (C : Addr) (cl : List (Str × Addr)) (fp : List Addr), PE (X.blk s H scope (compEnvC scope cl C X.env) fp) kx tk)
    (he : ∀ (s : Shared) (H : Hp) (C : Addr) (cl : List (Str × Addr)) (fp : List Addr), PE (X.blk s H scope (compEnvC scope cl C X.env) fp) vx tv) (hs : ∀ x, foldedSetIterable iter X.env x = pure x := by intro _; rfl) :
    PS X (.Assign [.Name y py] (.DictComp kx vx [⟨tg, iter, ifs, 0⟩] scope pos) spos) (tAsg (tDc wi g tt tk tv (own.map (·.2))) (gName i)) := by
  refine ⟨fun pins s σ H D I h => ?_⟩
  rw [exec_Assign_Name_used _ _ _ _ hsw]
  refine wpAny_bind (wpAny_standAt (wpAny_bind ?_))
  show wpAny _ X.A (do let _ ← comprehension (.DictComp kx vx [⟨tg, iter, ifs, 0⟩] scope pos) scope X.env (firstIterPos [⟨tg, iter, ifs, 0⟩] pos) newDict false (eval iter X.env) (some (assign (.Name y py) X.env))) _ _ s
  have h : tDc wi g tt tk tv (own.map (·.2)) σ H (fun x H1 => gName i x σ H1 D.nx) := h
  refine wpAny_bind (thn (dc_core (Qf := fun _ s' => SP X pins D .next s') hc hN I hi ok hg ht hk he hs h fun L C s' m H' I' q hn f => ?_) fun _ s' hq => wpAny_pure (wpAny_pure hq))
  show wpAny _ _ (assign (.Name y py) X.env (.ref L)) _ _ _
  refine wpAny_assign_Name (store_ok2 (v := V.ref L) I' hN hy (.inl hyl) rfl (fun s2 I2 ⟨a, sb, ha⟩ => ?_) (.inr hyl))
  obtain ⟨f0, f1, f2, f3, f4, f5⟩ := f
  have haC : C ≠ a := by
    rcases ha with z | z
    · rw [z]; exact f1
    · exact fun e => f4 y a z e.symm
  refine ⟨m, hn.sameBut sb haC, fun h3 sb3 => ?_⟩
  exact ⟨_, H', I2.turned (t' := s2.toks) (fun b o hb e => (sb3.2 b hb).trans e) f0 f1 f3 f4 f5, q⟩
theorem sw_trueD {kx vx : Expr} {gs : List Comprehension} {scope : Scope} {pos py : Pos} {y : Str} {l : Nat} {env : Env} (hk : env.scope.kind = .function) (hy : env.scope.names.lookup y = some .local) (hl : (py.line == pos.line) = true)
    (ha : (scope.names.any fun (n, k) => n == y && (k == .local || k == .cell)) = false) : swapsWith (.DictComp kx vx gs scope pos) (some (.Name y py)) l env = pure true := by
  have ky : env.kindOf y = some .local := hy
  have hb : env.blockKind = .function := by unfold Env.blockKind; rw [hk]; rfl
  unfold swapsWith
  simp only [hb, ky, ha, Expr.pos, hl]
  rfl
end

/-- enumerate(text): each character in a new pair -/
def Ites (x : Str) : It :=
  ⟨fun i _ => i < x.cps.size, fun i H v H' => ∃ T c, v = .ref T ∧ H T = none ∧ H' = upd H T (.tup [.int (i : Nat), .str ⟨#[c]⟩]) ∧ x.cps[i]? = some c, fun i _ => x.cps.size ≤ i⟩
theorem turn_enumS {P : Program} {w : World} {K : PySem.W.Frag} {elts : List Expr} {kk : Nat} {tpos : Pos} (x : Str) (t : Tok) (e it : Addr) (ty : String) (hty : ty = "str_ascii_iterator" ∨ ty = "str_iterator") :
    Turn P w K (.Tuple elts kk tpos) (Ites x) [e, it] e (fun i h => (∃ old, IsEnum h e it ((i : Nat) : Int) old) ∧ h.IsStrIter it ty x t i ∧ e ≠ it ∧ i ≤ x.cps.size) where
  mem := by simp
  obj := fun i h st b hb => by
    obtain ⟨⟨old, he⟩, ⟨o, ho, hc, hd⟩, _⟩ := st
    have e' : b = e ∨ b = it := by simpa using hb
    rcases e' with z | z
    · rw [z]; exact ⟨_, he, fun v q => nomatch q⟩
    · rw [z]; exact ⟨o, ho, fun v q => by rw [hd] at q; cases q⟩
  keep := fun i h h' st k => by
    obtain ⟨⟨old, he⟩, ⟨o, ho, r⟩, hne⟩ := st
    exact ⟨⟨old, k e (by simp) _ he⟩, ⟨o, k it (by simp) o ho, r⟩, hne⟩
  item := by
    intro X hP hw hK hc i pins s σ H E I hf st hg
    subst hP hw hK
    obtain ⟨⟨old, he⟩, hit, hne, hle⟩ := st
    have hel : e < s.heap.objs.size := Heap.lt_size he
    have hil : it < s.heap.objs.size := by obtain ⟨_, q, _⟩ := hit; exact Heap.lt_size q
    have Dr : Draws X.prog X.w X.A.in1 it [it] x.cps.size (fun i v => ∃ c u, x.cps[i]? = some c ∧ v = .str ⟨#[c]⟩ u) (fun i h => h.IsStrIter it ty x t i) := by
      rcases hty with z | z
      · rw [z]; exact Draws.strAscii (A := X.A.in1) (I.ok.hd hc) it x t
      · rw [z]; exact Draws.strWide (A := X.A.in1) (I.ok.hd hc) it x t
    refine wpAny_pyNext_enum_itemD Dr he hit hg hne (by simpa using hne) fun v h' tk hv ho hit' hT hsz hk => ?_
    obtain ⟨c, u, hcx, rfl⟩ := hv
    refine ⟨_, rfl, wpAny_letOwnedTupleGo_enum (s := { s with heap := h', toks := tk + 1 }) ho fun h'' he' sb => ?_⟩
    have hT2 : h''.get? s.heap.objs.size = some { cls := .type "tuple", data := .seq #[.int i tk, .str ⟨#[c]⟩ u] } := (sb.2 _ (Nat.ne_of_gt hel)).trans hT
    have new : ObjOk X.prog X.w (upd H s.heap.objs.size (.tup [.int (i : Nat), .str ⟨#[c]⟩])) h'' s.heap.objs.size (.tup [.int (i : Nat), .str ⟨#[c]⟩]) :=
      ⟨by show 2 ≤ sizeLine; decide, [.int i tk, .str ⟨#[c]⟩ u], .cons ⟨_, rfl⟩ (.cons ⟨_, rfl⟩ .nil), ⟨_, hT2, rfl, _, rfl⟩⟩
    have I1 : Inv X pins σ (upd H s.heap.objs.size (.tup [.int (i : Nat), .str ⟨#[c]⟩])) { s with heap := h'', toks := tk + 1 } :=
      I.turnedNew (ch := [e, it]) (fun b ob hb q => (sb.2 b (fun z => hb (by simp [z]))).trans (hk b ob (fun z => hb (by simp [z])) (fun z => hb (by simp [z])) q)) hf (Nat.le_refl _) new
    refine ⟨.ref s.heap.objs.size, _, I1, rfl, ⟨_, c, rfl, I.hok.fresh (Nat.le_refl _), rfl, hcx⟩, ⟨⟨.str ⟨#[c]⟩ u, ?_⟩, ?_, hne, Nat.succ_le_of_lt hg⟩, fun b hb => ?_⟩
    · have e1 : ((i + 1 : Nat) : Int) = (i : Int) + 1 := by omega
      rw [e1]; exact he'
    · obtain ⟨o, q, r⟩ := hit'
      exact ⟨o, (sb.2 it (Ne.symm hne)).trans q, r⟩
    · have hb' : b < s.heap.objs.size := by
        have e' : b = e ∨ b = it := by simpa using hb
        rcases e' with z | z
        · rw [z]; exact hel
        · rw [z]; exact hil
      rw [upd_ne (Nat.ne_of_lt hb')]
      exact (hf b hb).1
  done := by
    intro X hP hw hK hc i pins s σ H E I hf st hg
    subst hP hw hK
    obtain ⟨⟨old, he⟩, hit, hne, hle⟩ := st
    obtain ⟨f0, f1, f2, f3, f4, f5⟩ := hf it (by simp)
    have Dr : Draws X.prog X.w X.A.in1 it [it] x.cps.size (fun i v => ∃ c u, x.cps[i]? = some c ∧ v = .str ⟨#[c]⟩ u) (fun i h => h.IsStrIter it ty x t i) := by
      rcases hty with z | z
      · rw [z]; exact Draws.strAscii (A := X.A.in1) (I.ok.hd hc) it x t
      · rw [z]; exact Draws.strWide (A := X.A.in1) (I.ok.hd hc) it x t
    have ei : i = x.cps.size := Nat.le_antisymm hle hg
    subst ei
    exact wpAny_pyNext_enum_endD Dr he hit fun h' eb => ⟨rfl, I.turned (t' := s.toks) (fun b o hb q => eb b o hb q) f0 f1 f3 f4 f5⟩
  self := fun A i s Q E st h => let ⟨⟨_, he⟩, _⟩ := st; wpAny_pyIter_enum he h
def iEnumS (ta : TA) : TI := fun σ H R => ta σ H fun vs H1 => ∃ x, vs = [.str x] ∧ R (Ites x) H1
theorem pi_enumS {X : Cx} {e : Expr} {ta : TA} {p pos tpos : Pos} {elts : List Expr} {kk : Nat} (hg : Gl X "enumerate") (hm : X.mg "enumerate" = none) (ha : PA X [e] ta) (hs : starEach [e] X.env = [(false, eval e X.env)] := by rfl) :
    PI X (.Tuple elts kk tpos) (.Call (.Name "enumerate" p) [e] [] pos) (iEnumS ta) := by
  refine ⟨fun pins s σ H R I h => ?_⟩
  refine Call_ (ld_blt I hg hm boot_enumerate (PyProof.Rows.callWith_type1 (thn (ha.run pos pins s σ H _ I h) fun us s1 ⟨vs, H1, I1, r1, q1⟩ => ?_) hs rfl))
  obtain ⟨x, ex, q⟩ := q1
  subst ex
  cases r1 with
  | cons r rr =>
    cases rr
    obtain ⟨t, rfl⟩ := r
    refine call_enumerate_str fun h' he hit hsz hk => wpAny_pyIter_enum he ?_
    have I2 : Inv X pins σ H1 { s1 with heap := h' } := I1.kept (t' := s1.toks) hk
    refine ⟨s1.heap.objs.size + 1, [s1.heap.objs.size + 1, s1.heap.objs.size], _, _, H1, rfl, I2, turn_enumS x t (s1.heap.objs.size + 1) s1.heap.objs.size (strIterType x) (by unfold strIterType; split <;> simp), ⟨⟨.none, he⟩, hit, Nat.succ_ne_self _, Nat.zero_le _⟩, fun b hb => ?_, q⟩
    have e' : b = s1.heap.objs.size + 1 ∨ b = s1.heap.objs.size := by simpa using hb
    have hle : s1.heap.objs.size ≤ b := by
      rcases e' with z | z
      · rw [z]; exact Nat.le_add_right _ _
      · rw [z]; exact Nat.le_refl _
    exact I1.fpOk hle (I1.hok.fresh hle)
theorem walk_enumS {z : Str} : Walk (Ites z) z.cps.size (fun _ => True) (fun i H v H' => ∃ T c, v = .ref T ∧ H T = none ∧ H' = upd H T (.tup [.int (i : Nat), .str ⟨#[c]⟩]) ∧ z.cps[i]? = some c) :=
  ⟨fun _ _ hi _ => hi, fun _ _ => Nat.le_refl _, fun _ _ _ _ _ _ y => y⟩

/-! ### setdefault of a dict with tuple keys -/
section
variable {X : Cx} {pins : List (Addr × Obj)} {σ : L2.St} {H : Hp} {s : Shared} {a b : Addr} {r : Value} {d : V} {k : List L2.Key} {A : Around} {E : Value → Shared → Prop}
theorem d_setdT {kvs : List (List L2.Key × V)} {Q : Value → Shared → Prop} (hu : A.units + 1 < cLine) (I : Inv X pins σ H s) (e : H a = some (.dT kvs)) (eb : H b = some (.tup (k.map kV))) (rd : RelV d r) (hl : kvs.length < sizeLine)
    (h1 : ∀ v, valV kvs k = some v → ∀ (w' : Value) (s' : Shared), Inv X pins σ H s' → RelV v w' → Q w' s') (h2 : valV kvs k = none → ∀ (w' : Value) (s' : Shared), Inv X pins σ (upd H a (.dT (putK kvs k d))) s' → RelV d w' → Q w' s') :
    wpAny (model X.prog X.w) A (call (.builtin "dict.setdefault") [.ref a, .ref b, r]) Q E s := by
  obtain ⟨z, hd, xs, rel, dd⟩ := dt_of I.hok e
  have hz : xs.length ≤ sizeLine := by rw [← Paired.length rel]; exact z
  have hl2 : (putK kvs k d).length ≤ sizeLine := by have := length_putK kvs k d; omega
  refine call_setdefault_heap (hsz := hz) (tupleKind_room_in1 hu) (key_of I.hok eb) hd dd (fun p hp => ?_) (fun hn h' dd' hs => ?_)
  · have q := rel.val k
    rw [hp] at q
    cases q0 : valV kvs k with
    | none => rw [q0] at q; exact (show False from q).elim
    | some v0 => rw [q0] at q; exact h1 v0 q0 _ _ (I.tok _) q
  · have q := rel.val k
    rw [hn] at q
    cases q0 : valV kvs k with
    | some v0 => rw [q0] at q; exact (show False from q).elim
    | none =>
      obtain ⟨o, es, ep, hq, h3, h4, h5, _, h6⟩ := dd'
      refine h2 q0 _ _ (d_write I (by rw [e]; exact True.intro) hs ⟨o, hq⟩ ⟨hl2, hd, _, (rel.put k eb rd).keeps fun c ys ec => ?_, o, es, ep, hq, h3, h4, h5, h6⟩) rd
      rw [upd_ne (ne_of ec e (fun z => nomatch z))]
      exact ec
end
def tDSetdT (td ty tx : TE) : TE := fun σ H Q => td σ H fun x H1 => ∃ a, x = .ref a ∧ IsD H1 a ∧ ty σ H1 fun y H2 => tx σ H2 fun z H3 => ∃ (kvs : List (List L2.Key × V)) (k : List L2.Key) (b : Addr), H3 a = some (.dT kvs) ∧ y = .ref b ∧ H3 b = some (.tup (k.map kV)) ∧ kvs.length < sizeLine ∧
  (∀ v, valV kvs k = some v → Q v H3) ∧ (valV kvs k = none → Q z (upd H3 a (.dT (putK kvs k z))))
section
variable {X : Cx} {o e f : Expr} {td ty tx : TE} {apos cpos : Pos}
theorem pe_dsetdT (hu : X.A.units + 1 < cLine) (ho : PE X o td) (he : PE X e ty) (hf : PE X f tx) (m : M2 X o "setdefault" apos e f cpos) : PE X (.Call (.Attribute o "setdefault" apos) [e, f] [] cpos) (tDSetdT td ty tx) := by
  refine ⟨fun pins s σ H Q I h => ?_⟩
  refine wpAny_Call_method m.base m.few m.line PySem.F.plainAttrs_dict PySem.F.slot_dict_setdefault PySem.F.type_dict_setdefault (thn (ho.run pins s σ H _ I h) fun u s1 ⟨x, H1, I1, rx, a, ex, d, q1⟩ => ?_)
  subst ex
  obtain rfl : u = Value.ref a := rx
  obtain ⟨t1, t2, _⟩ := isD_at I1 d
  refine ⟨t1, t2, ?_⟩
  rw [m.trees]
  refine Calls.callWith_builtin rfl (Calls.evalArgs_plain (Calls.spliced_cons (thn (he.run pins s1 σ H1 _ I1 q1) fun iv s2 ⟨y, H2, I2, ry, q2⟩ =>
    Calls.spliced_cons (thn (hf.run pins s2 σ H2 _ I2 q2) fun fv s3 ⟨z, H3, I3, rz, kvs, k, b, ea, ey, eb, hl, q3, q4⟩ => Calls.spliced_nil ?_))))
  subst ey
  obtain rfl : iv = Value.ref b := ry
  exact d_setdT hu I3 ea eb rz hl (fun v hv w' s4 I4 rw' => ⟨v, _, I4, rw', q3 v hv⟩) fun hn w' s4 I4 rw' => ⟨z, _, I4, rw', q4 hn⟩
end

def tDNewTS : TE := fun _ H Q => NewH H (.dT []) fun p H' => Q (.ref p) H'
theorem pe_dnewTS {X : Cx} {pos : Pos} : PE X (.Dict [] [] pos) tDNewTS := PE.of pe_dnewT fun σ H Q q => q.go

/-! ### errors -/
section
variable {X : Cx}
/-- isinstance(e, c) in a suite, whatever class the error has -/
def rIsE1 (K : PySem.W.Frag) (cls : Value) (d : Option Addr) (a : Addr) : List V → Hp → VK → Prop := fun xs H Q => ∃ D, cls = .ref D ∧ d = none ∧ ExcC K D ∧ ∃ (C : Addr) (b : Bool), xs = [.ref a, .ref C] ∧ PySem.W.kitOne K (.ref D) (.ref C) = some b ∧ Q (.bl b) H
theorem call_isE1 {a : Addr} {oe : Obj} {cls : Value} {d : Option Addr} {pn : List (Addr × Obj)} (hz : Zc cls d oe) (hf : ∃ vs, oe.data = .fields vs) : CallR (X.suite a ((a, oe) :: pn)) (.builtin "isinstance") (rIsE1 X.K cls d a) := by
  intro pins s σ H xs us Q I r ⟨D, e1, e2, C, c, b, e3, e4, q⟩
  subst e1 e2
  exact call_isE C hz hf pins s σ H xs us Q I r ⟨.ref c, .ref c, b, e3, fun u z => z, e4, q⟩
theorem ifB {c : Bool} {a b : Prop} (x : c = true → a) (y : c = false → b) : if c = true then a else b := by
  cases c
  · rw [if_neg Bool.false_ne_true]; exact y rfl
  · rw [if_pos rfl]; exact x rfl
end
section
variable {X : Cx}
/-- all and any of a tracked list of bools -/
def rAllS : List V → Hp → VK → Prop := fun vs H Q => ∃ (a : Addr) (bs : List Bool), vs = [.ref a] ∧ H a = some (.lst (bs.map V.bl)) ∧ Q (.bl (bs.all id)) H
theorem cr_allS (hc : X.calm = true) : CallR X (.builtin "all") rAllS := CallR.of (cr_all hc) fun vs H Q ⟨a, bs, e, g, q⟩ => ⟨a, bs, e, .inl (.inl g), q⟩
def rAnyS : List V → Hp → VK → Prop := fun vs H Q => ∃ (a : Addr) (bs : List Bool), vs = [.ref a] ∧ H a = some (.lst (bs.map V.bl)) ∧ Q (.bl (bs.any id)) H
theorem cr_anyS (hc : X.calm = true) : CallR X (.builtin "any") rAnyS := CallR.of (cr_any hc) fun vs H Q ⟨a, bs, e, g, q⟩ => ⟨a, bs, e, .inl (.inl g), q⟩
theorem all_id {α : Type} (f : α → Bool) (l : List α) : (l.map f).all id = l.all f := by rw [List.all_map]; rfl
theorem any_id {α : Type} (f : α → Bool) (l : List α) : (l.map f).any id = l.any f := by rw [List.any_map]; rfl
end
/-- a plain value -/
def Pl (v : V) : Prop := ∃ a, tnm v = some a
theorem Pl.int (i : Int) : Pl (.int i) := ⟨_, rfl⟩
theorem Pl.bl (i : Bool) : Pl (.bl i) := ⟨_, rfl⟩
theorem Pl.non : Pl .non := ⟨_, rfl⟩
theorem Pl.str (i : Str) : Pl (.str i) := ⟨_, rfl⟩
theorem Pl.cs {v : V} (h : Pl v) : v = .non ∨ (∃ b, v = .bl b) ∨ (∃ i, v = .int i) ∨ ∃ s, v = .str s := by
  obtain ⟨a, h⟩ := h
  cases v <;> first | exact .inl rfl | exact .inr (.inl ⟨_, rfl⟩) | exact .inr (.inr (.inl ⟨_, rfl⟩)) | exact .inr (.inr (.inr ⟨_, rfl⟩)) | cases h
theorem kb11 : kitB "NoneType" "tuple" = some false := by decide +kernel
theorem kb12 : kitB "bool" "tuple" = some false := by decide +kernel
theorem kb13 : kitB "int" "tuple" = some false := by decide +kernel
theorem kb14 : kitB "str" "tuple" = some false := by decide +kernel
theorem kb15 : kitB "list" "tuple" = some false := by decide +kernel
theorem kb16 : kitB "NoneType" "str" = some false := by decide +kernel
theorem kb17 : kitB "bool" "str" = some false := by decide +kernel
theorem kb18 : kitB "int" "str" = some false := by decide +kernel
theorem kb19 : kitB "list" "str" = some false := by decide +kernel
theorem kb20 : kitB "tuple" "str" = some false := by decide +kernel
theorem kb21 : kitB "bool" "list" = some false := by decide +kernel
theorem kb22 : kitB "int" "list" = some false := by decide +kernel
theorem kb23 : kitB "str" "list" = some false := by decide +kernel
theorem kb24 : kitB "tuple" "list" = some false := by decide +kernel
theorem kb25 : kitB "list" "int" = some false := by decide +kernel
theorem kb26 : kitB "tuple" "int" = some false := by decide +kernel
theorem kb27 : kitB "list" "bool" = some false := by decide +kernel
theorem kb28 : kitB "tuple" "bool" = some false := by decide +kernel
theorem kb29 : kitB "NoneType" "bool" = some false := by decide +kernel
theorem kb30 : kitB "str" "bool" = some false := by decide +kernel
theorem if_true_of {c : Bool} {A B : Prop} (hc : c = true) (h : A) : if c = true then A else B := by
  rw [if_pos hc]
  exact h
theorem if_false_of {c : Bool} {A B : Prop} (hc : c = false) (h : B) : if c = true then A else B := by
  rw [hc, if_neg Bool.false_ne_true]
  exact h
/-- cuts behind more statements -/
theorem seq_cut2 {s1 s2 R : TS} {D : Ends} {σ : L2.St} {H : Hp} (I : L2.St → Hp → Prop) (h2 : ∀ σ H, I σ H → R D σ H) (h1 : ∀ C : L2.St → Hp → Prop, (∀ σ H, I σ H → C σ H) → tSeq s1 s2 { D with nx := C } σ H) : tSeq s1 (tSeq s2 R) D σ H := h1 _ h2
theorem seq_cut3 {s1 s2 s3 R : TS} {D : Ends} {σ : L2.St} {H : Hp} (I : L2.St → Hp → Prop) (h2 : ∀ σ H, I σ H → R D σ H) (h1 : ∀ C : L2.St → Hp → Prop, (∀ σ H, I σ H → C σ H) → tSeq s1 (tSeq s2 s3) { D with nx := C } σ H) : tSeq s1 (tSeq s2 (tSeq s3 R)) D σ H := h1 _ h2
theorem seq_cut4 {s1 s2 s3 s4 R : TS} {D : Ends} {σ : L2.St} {H : Hp} (I : L2.St → Hp → Prop) (h2 : ∀ σ H, I σ H → R D σ H) (h1 : ∀ C : L2.St → Hp → Prop, (∀ σ H, I σ H → C σ H) → tSeq s1 (tSeq s2 (tSeq s3 s4)) { D with nx := C } σ H) : tSeq s1 (tSeq s2 (tSeq s3 (tSeq s4 R))) D σ H := h1 _ h2
theorem seq_cut5 {s1 s2 s3 s4 s5 R : TS} {D : Ends} {σ : L2.St} {H : Hp} (I : L2.St → Hp → Prop) (h2 : ∀ σ H, I σ H → R D σ H) (h1 : ∀ C : L2.St → Hp → Prop, (∀ σ H, I σ H → C σ H) → tSeq s1 (tSeq s2 (tSeq s3 (tSeq s4 s5))) { D with nx := C } σ H) : tSeq s1 (tSeq s2 (tSeq s3 (tSeq s4 (tSeq s5 R)))) D σ H := h1 _ h2
section
variable {X : Cx}
/-- the walks within a comprehension, with the written part told apart from the context -/
theorem pi_tupK {K : PySem.W.Frag} {tg l : Expr} {tl : TE} (hl : PE X l tl) (e : X.K = K := by rfl) : PI X tg l (iTupS K tl) := by subst e; exact pi_tupS hl
theorem pi_listK {K : PySem.W.Frag} {tg l : Expr} {tl : TE} (hl : PE X l tl) (e : X.K = K := by rfl) : PI X tg l (iListS K tl) := by subst e; exact pi_listS hl
theorem pi_enumK {K : PySem.W.Frag} {e : Expr} {ta : TA} {p pos tpos : Pos} {elts : List Expr} {kk : Nat} (hg : Gl X "enumerate") (hm : X.mg "enumerate" = none) (ha : PA X [e] ta) (hK : X.K = K := by rfl) (hs : starEach [e] X.env = [(false, eval e X.env)] := by rfl) :
    PI X (.Tuple elts kk tpos) (.Call (.Name "enumerate" p) [e] [] pos) (iEnumL K ta) := by subst hK; exact pi_enumL hg hm ha hs
theorem pi_zipK {K : PySem.W.Frag} {e e2 : Expr} {ta : TA} {p pos tpos : Pos} {elts : List Expr} {kk : Nat} (hg : Gl X "zip") (hm : X.mg "zip" = none) (ha : PA X [e, e2] ta) (hK : X.K = K := by rfl) (hs : starEach [e, e2] X.env = (false, eval e X.env) :: starEach [e2] X.env := by rfl) (hpl : (backTo pos (starEach [e2] X.env)).any (·.1) = false := by rfl) :
    PI X (.Tuple elts kk tpos) (.Call (.Name "zip" p) [e, e2] [] pos) (iZipS K ta) := by subst hK; exact pi_zipS hg hm ha hs hpl
end
theorem All2.rev {α β : Type} {R : α → β → Prop} {xs : List α} {ys : List β} (h : All2 R xs ys) : All2 R xs.reverse ys.reverse := by
  induction h with
  | nil => exact .nil
  | cons r _ ih => rw [List.reverse_cons, List.reverse_cons]; exact ih.app (.cons r .nil)
section
variable {X : Cx}
theorem ix_tupK {K : PySem.W.Frag} (e : X.K = K := by rfl) : IxR X (rIxT K) := by subst e; exact ix_tup
theorem ix_listK {K : PySem.W.Frag} (a : Addr) (ns : List Int) (e : X.K = K := by rfl) : IxR X (rIxSc K a ns) := by subst e; exact ix_sc a ns
end
theorem ifN_T {p : Prop} {i : Decidable p} {a b : Prop} (h : p) (x : b) : if (!(@decide p i)) = true then a else b := by
  rw [decide_eq_true h]
  exact x
theorem ifN_F {p : Prop} {i : Decidable p} {a b : Prop} (h : ¬ p) (x : a) : if (!(@decide p i)) = true then a else b := by
  rw [decide_eq_false h]
  exact x

/-! ### list(reversed(list)) -/
section
variable {prog : Program} {w : World} {A : Around} {E : Value → Shared → Prop} {s : Shared}
theorem list_init_rev {R : Result → Shared → Prop} {it l : Addr} {items : Array Value} (hh : A.handled = none) (hit : s.heap.IsRevIter it l ((items.size : Int) - 1)) (hl : s.heap.IsList l items) (hne : l ≠ it) (hn : items.size ≤ sizeLine) (S : Addr) (hS : s.heap.get? S = some { cls := .type "list", data := .seq #[] })
    (hSi : S ≠ it) (hSl : S ≠ l)
    (hR : ∀ h' tk acc' c', (∀ b o, b ≠ S → b ≠ it → s.heap.get? b = some o → h'.get? b = some o) → h'.get? S = some { cls := .type "list", dict := none, data := .seq acc' c', slots := #[] } →
      ItemsOf (fun i v => items[items.size - 1 - i]? = some v) acc' items.size → R (.ok (.ret .none)) { s with heap := h', toks := tk }) :
    wpAny (model prog w) A.in1 (Builtin.«list.__init__» ⟨[.ref S, .ref it], []⟩)
      (fun fin s' => match fin with | .done f => R (.ok f) s' | .again c' => c'.quiet = true ∧ codeAny (model prog w) A c' R s') (fun e s' => R (.error e) s') s := by
  have W := (Walks.listRev (prog := prog) (w := w) (A := A.in1) hh it l hne items).toS
  have hSf : S ∉ [it, l] := by simp only [List.mem_cons, List.not_mem_nil, or_false, not_or]; exact ⟨hSi, hSl⟩
  show wpAny _ A.in1 (do let old ← Builtin.List.listItems (.ref S); Builtin.List.listUpdate (.ref S) (fun _ => #[]); letGo old.toList.reverse; Builtin.List.listExtendWith (.ref S) (.ref it) .none) _ _ s
  refine wpAny_bind ?_
  unfold Builtin.List.listItems
  refine wpAny_bind (wpAny_seqItems hS rfl (wpAny_pure ?_))
  show wpAny _ A.in1 (updateSeq S (fun _ => #[]) >>= fun _ => letGo (#[] : Array Value).toList.reverse >>= fun _ => Builtin.List.listExtendWith (.ref S) (.ref it) .none) _ _ s
  refine wpAny_bind (wpAny_updateSeq hS rfl ?_)
  have hS₂ := Heap.get?_update_self (Obj.mapSeq (fun _ => (#[] : Array Value))) hS rfl
  have oth : ∀ b o, b ≠ S → s.heap.get? b = some o → (s.heap.update S (Obj.mapSeq (fun _ => (#[] : Array Value)))).get? b = some o :=
    fun b o hb e => (Heap.get?_update_other _ _ (Ne.symm hb)).trans e
  refine wpAny_bind (wpAny_letGo ?_)
  have hit1 : (s.heap.update S (Obj.mapSeq (fun _ => (#[] : Array Value)))).IsRevIter it l ((items.size : Int) - 1) := hit.at fun o e => oth it o hSi.symm e
  have hl1 : (s.heap.update S (Obj.mapSeq (fun _ => (#[] : Array Value)))).IsList l items := hl.at fun o e => oth l o hSl.symm e
  have hT := Heap.IsRevIter.typeIs (s := { s with heap := s.heap.update S (Obj.mapSeq (fun _ => (#[] : Array Value))) }) hit1
  have h1 : Builtin.List.listSameRef (.ref S) (.ref it) = false := by simp [Builtin.List.listSameRef, hSi]
  unfold Builtin.List.listExtendWith
  refine wpAny_bind (wpAny_typeOf hT ?_)
  rw [if_neg (by rw [h1]; decide)]
  refine wpAny_bind (wpAny_pyIter_revIter (s := { s with heap := s.heap.update S (Obj.mapSeq (fun _ => (#[] : Array Value))) }) hit1 ?_)
  refine wpAny_bind (wpAny_holding ?_)
  unfold Builtin.List.listLengthHint
  refine wpAny_bind (wpAny_specialOf hT RT.nolen_lri ?_)
  show wpAny _ A.in1 (specialOf (Value.ref it) (Str.ofString "__length_hint__") >>= _) _ _ _
  refine wpAny_bind (wpAny_specialOf hT RT.hint_lri ?_)
  generalize hid : ("list_reverseiterator.__length_hint__" : String) = id0
  wp_delta
  rw [show splitId id0 = some ("list_reverseiterator", "__length_hint__") from by subst hid; decide +kernel]
  subst hid
  refine wpAny_bind (wpAny_isInstance (b := true) hT (by rw [isSubtype_type]; kernel_rfl) ?_)
  refine wpAny_pure ?_
  rw [if_neg (by decide)]
  have e0 : ((items.size : Nat) : Int) - 1 - ((0 : Nat) : Int) = (items.size : Int) - 1 := by omega
  refine wpAny_pure ⟨plainId_quiet F.plain_extend_loop _, codeAny_extend_loopS W hn _ hSf _ items.size 0 _ _ _ rfl (Nat.zero_le _) ⟨Nat.zero_le _, by rw [e0]; exact hit1, hl1⟩ hS₂ (ItemsOf.nil _) fun s' acc' c' hm hS' hacc => ?_⟩
  rw [Moved.eq_with hm]
  refine hR s'.heap s'.toks acc' c' (fun b o hb hb2 e => hm.heap b o (fun hmem => ?_) (oth b o hb e)) hS' hacc
  rcases List.mem_cons.mp hmem with e' | hmem
  · exact hb e'
  · exact hb2 (List.mem_singleton.mp hmem)
theorem call_list_rev {Q : Value → Shared → Prop} {it l : Addr} {items : Array Value} (hh : A.handled = none) (hit : s.heap.IsRevIter it l ((items.size : Int) - 1)) (hl : s.heap.IsList l items) (hne : l ≠ it) (hn : items.size ≤ sizeLine)
    (hQ : ∀ h' tk acc' c', (∀ b o, b ≠ it → s.heap.get? b = some o → h'.get? b = some o) →
      h'.get? s.heap.objs.size = some { cls := .type "list", dict := none, data := .seq acc' c', slots := #[] } → ItemsOf (fun i v => items[items.size - 1 - i]? = some v) acc' items.size → Q (.ref s.heap.objs.size) { s with heap := h', toks := tk }) :
    wpAny (model prog w) A (call (.type "list") [.ref it]) Q E s := by
  obtain ⟨oi, hoi, _⟩ := id hit
  obtain ⟨ol, hol, _⟩ := id hl
  have hSi : s.heap.objs.size ≠ it := Nat.ne_of_gt (Heap.lt_size hoi)
  have hSl : s.heap.objs.size ≠ l := Nat.ne_of_gt (Heap.lt_size hol)
  refine callType_codes (Q₁ := fun obj s₁ => obj = .ref s.heap.objs.size ∧ s₁ = { s with heap := s.heap.push { cls := .type "list", data := .seq #[] } }) F.called_list (F.typeCall_list_1 _) F.entry_list_init
    (code_list_new _ ⟨rfl, rfl⟩) fun obj s₁ h₁ => ?_
  obtain ⟨rfl, rfl⟩ := h₁
  have hS : (s.heap.push { cls := .type "list", data := .seq #[] }).get? s.heap.objs.size = some { cls := .type "list", data := .seq #[] } := Heap.get?_push_size _ rfl
  refine ⟨⟨_, hS, rfl⟩, F.args_list_init_2 _ _, list_init_rev (s := { s with heap := s.heap.push { cls := .type "list", data := .seq #[] } }) (A := A.in1) hh (hit.at fun o e => Heap.get?_push_of_some _ e) (hl.push _) hne hn _ hS hSi hSl fun h' tk acc' c' hk hS' hacc => ?_⟩
  exact ⟨rfl, hQ h' tk acc' c' (fun b o hb e => hk b o (Nat.ne_of_lt (Heap.lt_size e)) hb (Heap.get?_push_of_some _ e)) hS' hacc⟩
end
section
variable {X : Cx}
/-- list(reversed(x)), x a list: a new list -/
def tLstRev (te : TE) : TE := fun σ H Q => te σ H fun v H1 => ∃ (a : Addr) (xs : List V), v = .ref a ∧ H1 a = some (.lst xs) ∧ NewH H1 (.lst xs.reverse) fun q H' => Q (.ref q) H'
theorem pe_lstRev {e : Expr} {te : TE} {p p2 pos pos2 : Pos} (hc : X.calm = true) (hg : Gl X "list") (hm : X.mg "list" = none) (hg2 : Gl X "reversed") (hm2 : X.mg "reversed" = none) (he : PE X e te)
    (hs : starEach [e] X.env = (false, eval e X.env) :: starEach [] X.env := by rfl)
    (hs2 : starEach [.Call (.Name "reversed" p2) [e] [] pos2] X.env = (false, eval (.Call (.Name "reversed" p2) [e] [] pos2) X.env) :: starEach [] X.env := by rfl) :
    PE X (.Call (.Name "list" p) [.Call (.Name "reversed" p2) [e] [] pos2] [] pos) (tLstRev te) := by
  refine ⟨fun pins s σ H Q I h => ?_⟩
  refine Call_ (ld_blt I hg hm boot_list (PyProof.Rows.callWith_type1 (args_cons (Call_ (ld_blt I hg2 hm2 PyProof.Rows.boot_reversed (PyProof.Rows.callWith_type1 (args_cons (thn (he.run pins s σ H _ I h) fun u s1 ⟨v, H1, I1, r1, q1⟩ => args_nil ?_) hs) hs rfl))) hs2) hs2 rfl))
  obtain ⟨a, xs, ev, hq0, q0⟩ := q1
  have hq : SqL X.K H1 a xs := .inl (.inl hq0)
  have q := q0.go
  subst ev
  obtain rfl : u = Value.ref a := r1
  obtain ⟨its, rv, p', hz⟩ := I1.list hq
  refine call_reversed_list p'.isList (args_nil ?_)
  have k0 : ∀ b o, s1.heap.get? b = some o → (s1.heap.push (revObj a ((its.toArray.size : Int) - 1))).get? b = some o := fun b o e => Heap.get?_push_of_some _ e
  have I2 : Inv X pins σ H1 { s1 with heap := s1.heap.push (revObj a ((its.toArray.size : Int) - 1)) } := I1.kept (t' := s1.toks) k0
  have hfp := I1.fpOk (H' := H1) (b := s1.heap.objs.size) (Nat.le_refl _) (I1.hok.fresh (Nat.le_refl _))
  have hl := p'.isList
  obtain ⟨ol, hol, _⟩ := id hl
  have hne : a ≠ s1.heap.objs.size := Nat.ne_of_lt (Heap.lt_size hol)
  have hn : its.toArray.size ≤ sizeLine := by rw [List.size_toArray, ← rv.length]; exact hz
  refine call_list_rev (s := { s1 with heap := s1.heap.push (revObj a ((its.toArray.size : Int) - 1)) }) (I1.ok.hd hc) ⟨_, Heap.get?_push_size _ rfl, rfl, rfl⟩ (hl.push _) hne hn fun h' tk acc c' hk hS hi => ?_
  have I3 : Inv X pins σ (upd H1 (s1.heap.push (revObj a ((its.toArray.size : Int) - 1))).objs.size (.lst xs.reverse)) { s1 with heap := h', toks := tk } := I2.turnedNew (ch := [s1.heap.objs.size]) (fun b o hb e => hk b o (fun z => hb (by rw [z]; exact List.mem_singleton_self _)) e) (fun b hb => by rw [List.mem_singleton.mp hb]; exact hfp) (Nat.le_refl _)
    (show ObjOk X.prog X.w _ h' _ (.lst xs.reverse) from ⟨by rw [List.length_reverse]; exact hz, acc.toList, c', RT.vals_rev rv hi, by rw [Array.toArray_toList]; exact hS⟩)
  exact ⟨.ref _, _, I3, rfl, q _ (I2.hok.fresh (Nat.le_refl _))⟩
/-- tuple(reversed(x)), x a list: a new tuple -/
def tTupRevS (te : TE) : TE := fun σ H Q => te σ H fun v H1 => ∃ (a : Addr) (xs : List V), v = .ref a ∧ H1 a = some (.lst xs) ∧ NewH H1 (.tup xs.reverse) fun q H' => Q (.ref q) H'
theorem pe_tupRevS {e : Expr} {te : TE} {p p2 pos pos2 : Pos} (hc : X.calm = true) (hg : Gl X "tuple") (hm : X.mg "tuple" = none) (hg2 : Gl X "reversed") (hm2 : X.mg "reversed" = none) (he : PE X e te)
    (hs : starEach [e] X.env = (false, eval e X.env) :: starEach [] X.env := by rfl)
    (hs2 : starEach [.Call (.Name "reversed" p2) [e] [] pos2] X.env = (false, eval (.Call (.Name "reversed" p2) [e] [] pos2) X.env) :: starEach [] X.env := by rfl) :
    PE X (.Call (.Name "tuple" p) [.Call (.Name "reversed" p2) [e] [] pos2] [] pos) (tTupRevS te) := PE.of (RT.pe_tupRev hc hg hm hg2 hm2 (pe_mono he) hs hs2) fun σ H Q q => ⟨_, q, fun v H1 ⟨a, xs, e, g, n⟩ => ⟨a, xs, e, .inl (.inl g), n.go⟩⟩
end

section
variable {X : Cx}
/-- t + u of tracked tuples: one of them or a new one, in either case these items -/
def rCatTS : R2 := fun x y H Q => ∃ a b xs ys, x = .ref a ∧ y = .ref b ∧ H a = some (.tup xs) ∧ H b = some (.tup ys) ∧ xs.length + ys.length ≤ sizeLine ∧ ∀ p H', Same H H' → H' p = some (.tup (xs ++ ys)) → Q (.ref p) H'
theorem op_catTS : OpR X (binaryOp .Add) rCatTS := OpR.of op_catA fun x y H Q ⟨a, b, xs, ys, e1, e2, g1, g2, hz, q⟩ => ⟨a, b, xs, ys, e1, e2, .inl (.inl g1), .inl (.inl g2), hz, fun z => q b H (Same.refl _) (by rw [z]; exact g2), fun _ z => q a H (Same.refl _) (by rw [z, List.append_nil]; exact g1), fun _ _ p hp => q p _ (same_upd hp) upd_same⟩
/-- xs.insert(i, y) -/
def rInsert : V → List V → Hp → VK → Prop := fun x vs H Q => ∃ (l : Addr) (xs : List V) (i : Int) (y : V), x = .ref l ∧ vs = [.int i, y] ∧ H l = some (.lst xs) ∧ xs.length < sizeLine ∧ 0 ≤ i ∧ i < 2 ^ 63 ∧ Q .non (upd H l (.lst (xs.take i.toNat ++ [y] ++ xs.drop i.toNat)))
theorem mt_insertS : MtR X "list.insert" rInsert := mt_insert
/-- x in a tuple, at any depth -/
def rInTC {α : Type} [DecidableEq α] (R : Hp → V → α → Prop) : R2 := fun x y H Q => ∃ a l, R H x a ∧ TupV R H y l ∧ Q (.bl (decide (a ∈ l))) H
theorem op_inTC {α : Type} [DecidableEq α] {R : Hp → V → α → Prop} {f : α → PyData} {d : Nat} (hu : X.A.units + 65 < cLine) (c : Cod R f d) (hd : d < 64) : OpR X (compareOp .In) (rInTC R) := by
  intro pins s σ H x y v u Q I rx ry h
  obtain ⟨a, l, ha, hl, q⟩ := h
  have sd := c.shaped (Nat.le_of_lt hd) a
  have se := (cod_tup c).shaped hd l
  obtain ⟨as, r1⟩ := Dp.reads I (f a) x v (c.dp _ _ _ _ ha) rx
  obtain ⟨bs, r2⟩ := Dp.reads I (.tuple (l.map f)) y u ((cod_tup c).dp _ _ _ _ hl) ry
  exact SeqAt.in_tuple_reads r2 r1 (SeqAt.canLay_of_shaped se) (SeqAt.canLay_of_shaped sd) (room_in_shaped sd hu) ⟨.bl _, H, I, rfl, by rw [c.anyEq]; exact q⟩
end


/-- a data value that is laid out and not too deep -/
def Sh (n : Nat) (d : PyData) : Prop := PyData.canLay0 d = true ∧ PyData.depth d ≤ n
theorem Sh.shaped {n : Nat} {d : PyData} (h : Sh n d) (hn : n ≤ 64) : SeqAt.shaped d = true := by
  unfold SeqAt.shaped
  rw [h.1, decide_eq_true (Nat.le_trans h.2 hn)]
  rfl
theorem Sh.mono {n m : Nat} {d : PyData} (h : Sh n d) (hm : n ≤ m) : Sh m d := ⟨h.1, Nat.le_trans h.2 hm⟩
theorem Sh.refl {n : Nat} {d : PyData} (h : Sh n d) : PyData.eqv d d = true := PySem.SeqAt.eqv_refl d h.1
theorem sh_non (n : Nat) : Sh n .none := ⟨rfl, Nat.zero_le _⟩
theorem sh_int (n : Nat) (i : Int) : Sh n (.int i) := ⟨rfl, by rw [PyData.depth]; exact Nat.zero_le _⟩
theorem sh_str (n : Nat) {x : Str} (h : PyData.strOk x = true) : Sh n (.str x) := ⟨by rw [PyData.canLay0]; exact h, by rw [PyData.depth]; exact Nat.zero_le _⟩
theorem layAll_iff : ∀ ds : List PyData, PyData.canLayAll0 ds = true ↔ ∀ d ∈ ds, PyData.canLay0 d = true
  | [] => by simp [PyData.canLayAll0]
  | d :: r => by
    rw [PyData.canLayAll0, Bool.and_eq_true, layAll_iff r]
    simp
theorem depAll_iff (n : Nat) : ∀ ds : List PyData, PyData.depthAll ds ≤ n ↔ ∀ d ∈ ds, PyData.depth d ≤ n
  | [] => by simp [PyData.depthAll]
  | d :: r => by
    rw [PyData.depthAll, Nat.max_le, depAll_iff n r]
    simp
theorem sh_tup {n : Nat} {ds : List PyData} : Sh (n + 1) (.tuple ds) ↔ ∀ d ∈ ds, Sh n d := by
  unfold Sh
  rw [PyData.canLay0, PyData.depth, layAll_iff, show (PyData.depthAll ds + 1 ≤ n + 1) = (PyData.depthAll ds ≤ n) from propext (Nat.add_le_add_iff_right), depAll_iff]
  exact ⟨fun h d hd => ⟨h.1 d hd, h.2 d hd⟩, fun h => ⟨fun d hd => (h d hd).1, fun d hd => (h d hd).2⟩⟩
theorem sh_sub {n : Nat} {ds : List PyData} (h : Sh n (.tuple ds)) : ∀ d ∈ ds, Sh n d := by
  cases n with
  | zero =>
    have := h.2
    rw [PyData.depth] at this
    omega
  | succ n => exact fun d hd => (sh_tup.mp h d hd).mono (Nat.le_succ n)

/-! # A layer by values: what a def computes, as a function over data -/
/-! ## values and data -/
def keyD : L2.Key → PyData
  | .inl i => .int i
  | .inr x => .str x
def keysD (k : List L2.Key) : PyData := .tuple (k.map keyD)
mutual
inductive TV (K : PySem.W.Frag) (F : Hp) : V → PyData → Prop
  | non : TV K F .non .none
  | bl (b : Bool) : TV K F (.bl b) (.bool b)
  | int (i : Int) : TV K F (.int i) (.int i)
  | str (x : Str) : TV K F (.str x) (.str x)
  | lst {a : Addr} {xs : List V} {ds : List PyData} : F a = some (.lst xs) → TVs K F xs ds → TV K F (.ref a) (.list ds)
  | tup {a : Addr} {xs : List V} {ds : List PyData} : SqT K F a xs → TVs K F xs ds → TV K F (.ref a) (.tuple ds)
  | dic {a : Addr} {kvs : List (L2.Key × V)} {es : List (PyData × PyData)} : F a = some (.dK kvs) → TVk K F kvs es → TV K F (.ref a) (.dict es)
  /-- the script -/
  | scr {a : Addr} {xs : List V} {ds : List PyData} : SqL K F a xs → TVs K F xs ds → TV K F (.ref a) (.dict [(.none, .list ds)])
  | diT {a : Addr} {kvs : List (List L2.Key × V)} {es : List (PyData × PyData)} : F a = some (.dT kvs) → TVt K F kvs es → TV K F (.ref a) (.dict es)
inductive TVs (K : PySem.W.Frag) (F : Hp) : List V → List PyData → Prop
  | nil : TVs K F [] []
  | cons {v : V} {vs : List V} {d : PyData} {ds : List PyData} : TV K F v d → TVs K F vs ds → TVs K F (v :: vs) (d :: ds)
inductive TVk (K : PySem.W.Frag) (F : Hp) : List (L2.Key × V) → List (PyData × PyData) → Prop
  | nil : TVk K F [] []
  | cons {k : L2.Key} {v : V} {vs : List (L2.Key × V)} {d : PyData} {ds : List (PyData × PyData)} : TV K F v d → TVk K F vs ds → TVk K F ((k, v) :: vs) ((keyD k, d) :: ds)
inductive TVt (K : PySem.W.Frag) (F : Hp) : List (List L2.Key × V) → List (PyData × PyData) → Prop
  | nil : TVt K F [] []
  | cons {k : List L2.Key} {v : V} {vs : List (List L2.Key × V)} {d : PyData} {ds : List (PyData × PyData)} : TV K F v d → TVt K F vs ds → TVt K F ((k, v) :: vs) ((keysD k, d) :: ds)
end
theorem rd_mono {F F' : Hp} (s : Same F F') {a : Addr} {u : HO} (h : Rd F a u) : Rd F' a u := by
  rcases h with h | ⟨o, h⟩
  · exact .inl (s _ _ h)
  · exact .inr ⟨o, s _ _ h⟩
mutual
theorem TV.mono {K : PySem.W.Frag} {F F' : Hp} (s : Same F F') {v : V} {d : PyData} : TV K F v d → TV K F' v d
  | .non => .non
  | .bl b => .bl b
  | .int i => .int i
  | .str x => .str x
  | .lst g h => .lst (s _ _ g) (TVs.mono s h)
  | .scr g h => .scr (s.seq g) (TVs.mono s h)
  | .tup g h => .tup (s.seqT g) (TVs.mono s h)
  | .dic g h => .dic (s _ _ g) (TVk.mono s h)
  | .diT g h => .diT (s _ _ g) (TVt.mono s h)
theorem TVs.mono {K : PySem.W.Frag} {F F' : Hp} (s : Same F F') {vs : List V} {ds : List PyData} : TVs K F vs ds → TVs K F' vs ds
  | .nil => .nil
  | .cons h t => .cons (TV.mono s h) (TVs.mono s t)
theorem TVk.mono {K : PySem.W.Frag} {F F' : Hp} (s : Same F F') {vs : List (L2.Key × V)} {ds : List (PyData × PyData)} : TVk K F vs ds → TVk K F' vs ds
  | .nil => .nil
  | .cons h t => .cons (TV.mono s h) (TVk.mono s t)
theorem TVt.mono {K : PySem.W.Frag} {F F' : Hp} (s : Same F F') {vs : List (List L2.Key × V)} {ds : List (PyData × PyData)} : TVt K F vs ds → TVt K F' vs ds
  | .nil => .nil
  | .cons h t => .cons (TV.mono s h) (TVt.mono s t)
end
mutual
theorem TV.dp {K : PySem.W.Frag} {F : Hp} {v : V} {d : PyData} : TV K F v d → PyData.canLay0 d = true → Dp K F v d
  | .non, _ => .non
  | .bl b, _ => .bl b
  | .int i, _ => .int i
  | .str x, _ => .str x
  | .scr _ _, e => by rw [PyData.canLay0] at e; cases e
  | .lst g h, e => .lst (.inl (.inl g)) (TVs.dp h (by rw [PyData.canLay0] at e; exact e))
  | .tup g h, e => .tup g (TVs.dp h (by rw [PyData.canLay0] at e; exact e))
  | .dic _ _, e => by rw [PyData.canLay0] at e; cases e
  | .diT _ _, e => by rw [PyData.canLay0] at e; cases e
theorem TVs.dp {K : PySem.W.Frag} {F : Hp} {vs : List V} {ds : List PyData} : TVs K F vs ds → PyData.canLayAll0 ds = true → DpAll K F vs ds
  | .nil, _ => .nil
  | .cons h t, e => by
    rw [PyData.canLayAll0, Bool.and_eq_true] at e
    exact .cons (TV.dp h e.1) (TVs.dp t e.2)
end
section
variable {K : PySem.W.Frag} {F H F' H' : Hp}
theorem TVs.all {vs : List V} {ds : List PyData} : TVs K F vs ds → All2 (TV K F) vs ds
  | .nil => .nil
  | .cons h t => .cons h (TVs.all t)
theorem TVs.of {vs : List V} {ds : List PyData} (h : All2 (TV K F) vs ds) : TVs K F vs ds := by
  induction h with
  | nil => exact .nil
  | cons r _ ih => exact .cons r ih
theorem TVs.len {vs : List V} {ds : List PyData} (h : TVs K F vs ds) : vs.length = ds.length := h.all.len
theorem TVs.app {vs ws : List V} {ds es : List PyData} (h : TVs K F vs ds) (k : TVs K F ws es) : TVs K F (vs ++ ws) (ds ++ es) := .of (h.all.app k.all)
theorem TVs.one {v : V} {d : PyData} (h : TV K F v d) : TVs K F [v] [d] := .cons h .nil
theorem TVs.take {vs : List V} {ds : List PyData} (h : TVs K F vs ds) (n : Nat) : TVs K F (vs.take n) (ds.take n) := .of (h.all.take n)
theorem TVs.drop {vs : List V} {ds : List PyData} (h : TVs K F vs ds) (n : Nat) : TVs K F (vs.drop n) (ds.drop n) := .of (h.all.drop n)
theorem TVs.at {vs : List V} {ds : List PyData} (h : TVs K F vs ds) {i : Nat} {d : PyData} (e : ds[i]? = some d) : ∃ v, vs[i]? = some v ∧ TV K F v d := h.all.at' e
theorem TVs.at' {vs : List V} {ds : List PyData} (h : TVs K F vs ds) {i : Nat} {v : V} (e : vs[i]? = some v) : ∃ d, ds[i]? = some d ∧ TV K F v d := h.all.at e
theorem TVs.rev {vs : List V} {ds : List PyData} (h : TVs K F vs ds) : TVs K F vs.reverse ds.reverse := .of h.all.rev
theorem TVs.set {vs : List V} {ds : List PyData} {v : V} {d : PyData} (h : TVs K F vs ds) (t : TV K F v d) : ∀ i : Nat, TVs K F (vs.set i v) (ds.set i d) := by
  induction vs generalizing ds with
  | nil => intro i; cases h; exact .nil
  | cons x r ih =>
    intro i
    cases h with
    | cons a b =>
      cases i with
      | zero => exact .cons t b
      | succ i => exact .cons a (ih b i)
theorem TVs.rep {v : V} {d : PyData} (t : TV K F v d) : ∀ n : Nat, TVs K F (List.replicate n v) (List.replicate n d)
  | 0 => .nil
  | n + 1 => by rw [List.replicate_succ, List.replicate_succ]; exact .cons t (TVs.rep t n)
theorem TVs.ints : ∀ ns : List Int, TVs K F (ns.map V.int) (ns.map PyData.int)
  | [] => .nil
  | n :: r => .cons (.int n) (TVs.ints r)
theorem TVs.of_ints : ∀ {vs : List V} {ns : List Int}, TVs K F vs (ns.map PyData.int) → vs = ns.map V.int
  | _, [], h => by cases h; rfl
  | _, n :: r, h => by
    rw [List.map_cons] at h
    cases h with
    | cons a b =>
      cases a
      rw [TVs.of_ints b]
      rfl
end
/-! ## heaps that grow: F is what stays for good, H all that is tracked -/
structure Grow (F H F' H' : Hp) : Prop where
  fz : Same F F'
  hp : Same H H'
  sub : Same F' H'
  new : ∀ p, F p = none → H p ≠ none → F' p = none
section
variable {K : PySem.W.Frag} {F H F' H' F1 H1 F2 H2 F0 H0 : Hp}
theorem Grow.refl (s : Same F H) : Grow F H F H := ⟨Same.refl _, Same.refl _, s, fun _ h _ => h⟩
theorem Same.ne {H H' : Hp} (s : Same H H') {p : Addr} (h : H p ≠ none) : H' p ≠ none := by
  cases e : H p with
  | none => exact absurd e h
  | some o => rw [s p o e]; exact fun z => nomatch z
theorem Same.none {H H' : Hp} (s : Same H H') {p : Addr} (h : H' p = none) : H p = none := by
  cases e : H p with
  | none => rfl
  | some o => rw [s p o e] at h; cases h
theorem Grow.trans (a : Grow F H F1 H1) (b : Grow F1 H1 F2 H2) : Grow F H F2 H2 :=
  ⟨a.fz.trans b.fz, a.hp.trans b.hp, b.sub, fun p h k => b.new p (a.new p h k) (Same.ne a.hp k)⟩
theorem same_both {F H : Hp} (s : Same F H) {p : Addr} {o : HO} : Same (upd F p o) (upd H p o) := fun b x e => by
  by_cases h : b = p
  · subst h; rw [upd_same] at e ⊢; exact e
  · rw [upd_ne h] at e ⊢; exact s b x e
/-- a new object that stays -/
theorem Grow.put (s : Same F H) {p : Addr} {o : HO} (hp : H p = .none) : Grow F H (upd F p o) (upd H p o) :=
  ⟨same_upd (Same.none s hp), same_upd hp, same_both s, fun q h k => by rw [upd_ne (fun e => k (by rw [e]; exact hp))]; exact h⟩
/-- a new object that may still change -/
theorem Grow.own (s : Same F H) {p : Addr} {o : HO} (hp : H p = .none) : Grow F H F (upd H p o) :=
  ⟨Same.refl _, same_upd hp, fun b x e => by rw [upd_ne (ne_of_none (s b x e) hp)]; exact s b x e, fun _ h _ => h⟩
/-- a fresh object from now on stays -/
theorem Grow.freeze (s : Same F H) (g : Grow F H F' H') {p : Addr} {o : HO} (hp : H p = .none) (h' : H' p = some o) : Grow F H (upd F' p o) H' :=
  ⟨fun b x e => by rw [upd_ne (ne_of_none (s b x e) hp)]; exact g.fz b x e, g.hp, fun b x e => by
    by_cases z : b = p
    · subst z; rw [upd_same] at e; rw [h']; exact e
    · rw [upd_ne z] at e; exact g.sub b x e, fun q h k => by rw [upd_ne (fun e => k (by rw [e]; exact hp))]; exact g.new q h k⟩
end
/-- a value as it is read: for good, or a list or a dict that may still change -/
inductive RV (K : PySem.W.Frag) (F H : Hp) : V → PyData → Prop
  | fz {v : V} {d : PyData} : TV K F v d → RV K F H v d
  | ow {p : Addr} {vs : List V} {ds : List PyData} : H p = some (.lst vs) → TVs K F vs ds → RV K F H (.ref p) (.list ds)
  | od {p : Addr} {kvs : List (L2.Key × V)} {es : List (PyData × PyData)} : H p = some (.dK kvs) → TVk K F kvs es → RV K F H (.ref p) (.dict es)
  | ot {p : Addr} {kvs : List (List L2.Key × V)} {es : List (PyData × PyData)} : H p = some (.dT kvs) → TVt K F kvs es → RV K F H (.ref p) (.dict es)
section
variable {K : PySem.W.Frag} {F H F' H' F0 H0 : Hp}
theorem no_noneK {kvs : List (L2.Key × V)} {d : PyData} {r : List (PyData × PyData)} (h : TVk K F kvs ((.none, d) :: r)) : False := by
  generalize e : (PyData.none, d) :: r = l at h
  cases h with
  | nil => cases e
  | @cons k v vs d' ds _ _ => cases k <;> cases e
theorem no_noneT {kvs : List (List L2.Key × V)} {d : PyData} {r : List (PyData × PyData)} (h : TVt K F kvs ((.none, d) :: r)) : False := by
  generalize e : (PyData.none, d) :: r = l at h
  cases h with
  | nil => cases e
  | cons _ _ => cases e
theorem RV.grow (g : Grow F H F' H') {v : V} {d : PyData} (h : RV K F H v d) : RV K F' H' v d := by
  cases h with
  | fz t => exact .fz (t.mono g.fz)
  | ow e t => exact .ow (g.hp _ _ e) (t.mono g.fz)
  | od e t => exact .od (g.hp _ _ e) (t.mono g.fz)
  | ot e t => exact .ot (g.hp _ _ e) (t.mono g.fz)
theorem RV.tv (s : Same F H) {v : V} {d : PyData} (h : RV K F H v d) : TV K H v d := by
  cases h with
  | fz t => exact t.mono s
  | ow e t => exact .lst e (t.mono s)
  | od e t => exact .dic e (t.mono s)
  | ot e t => exact .diT e (t.mono s)
theorem RV.int {v : V} {i : Int} (h : RV K F H v (.int i)) : v = .int i := by cases h with | fz t => cases t; rfl
theorem RV.bl {v : V} {i : Bool} (h : RV K F H v (.bool i)) : v = .bl i := by cases h with | fz t => cases t; rfl
theorem RV.str {v : V} {i : Str} (h : RV K F H v (.str i)) : v = .str i := by cases h with | fz t => cases t; rfl
theorem RV.non {v : V} (h : RV K F H v .none) : v = .non := by cases h with | fz t => cases t; rfl
theorem RV.lst (s : Same F H) {v : V} {ds : List PyData} (h : RV K F H v (.list ds)) : ∃ p vs, v = .ref p ∧ H p = some (.lst vs) ∧ TVs K F vs ds := by
  cases h with
  | fz t => cases t with | lst g k => exact ⟨_, _, rfl, s _ _ g, k⟩
  | ow e t => exact ⟨_, _, rfl, e, t⟩
theorem RV.tup (s : Same F H) {v : V} {ds : List PyData} (h : RV K F H v (.tuple ds)) : ∃ p vs, v = .ref p ∧ SqT K H p vs ∧ TVs K F vs ds := by
  cases h with
  | fz t => cases t with | tup g k => exact ⟨_, _, rfl, s.seqT g, k⟩
theorem RV.scr (s : Same F H) {v : V} {ds : List PyData} (h : RV K F H v (.dict [(.none, .list ds)])) : ∃ p vs, v = .ref p ∧ SqL K H p vs ∧ TVs K F vs ds := by
  generalize e : PyData.dict [(.none, .list ds)] = d at h
  cases h with
  | fz t =>
    cases t with
    | scr g k => cases e; exact ⟨_, _, rfl, s.seq g, k⟩
    | dic g k => cases e; exact (no_noneK k).elim
    | diT g k => cases e; exact (no_noneT k).elim
    | _ => cases e
  | ow _ _ => cases e
  | od g k => cases e; exact (no_noneK k).elim
  | ot g k => cases e; exact (no_noneT k).elim
theorem RV.tupT {v : V} {ds : List PyData} (h : RV K F H v (.tuple ds)) : TV K F v (.tuple ds) := by cases h with | fz t => exact t
theorem RV.dp (s : Same F H) {v : V} {d : PyData} (h : RV K F H v d) (e : PyData.canLay0 d = true) : Dp K H v d := (h.tv s).dp e
end
/-! ## slots -/
inductive SV
  | un
  | fz (d : PyData)
  | ow (ds : List PyData)
  | od (es : List (PyData × PyData))
  | ot (es : List (PyData × PyData))
abbrev FSt := List SV
def RS (K : PySem.W.Frag) (F H : Hp) (s : SV) (x : Option V) (o : Addr → Prop) : Prop := match s with
  | .un => True
  | .fz d => ∃ v, x = some v ∧ TV K F v d
  | .ow ds => ∃ p vs, x = some (.ref p) ∧ o p ∧ H p = some (.lst vs) ∧ TVs K F vs ds
  | .od es => ∃ p kvs, x = some (.ref p) ∧ o p ∧ H p = some (.dK kvs) ∧ TVk K F kvs es
  | .ot es => ∃ p kvs, x = some (.ref p) ∧ o p ∧ H p = some (.dT kvs) ∧ TVt K F kvs es
structure RpO (K : PySem.W.Frag) (F0 H0 F H : Hp) (st : FSt) (σ : L2.St) (o : Nat → Addr → Prop) : Prop where
  gr : Grow F0 H0 F H
  len : st.length = σ.length
  sl : ∀ i s, st[i]? = some s → ∃ x, σ[i]? = some x ∧ RS K F H s x (o i)
  fr : ∀ i p, o i p → F p = none ∧ H p ≠ none ∧ H0 p = none
  ap : ∀ i j p, o i p → o j p → i = j
def Rp (K : PySem.W.Frag) (F0 H0 F H : Hp) (st : FSt) (σ : L2.St) : Prop := ∃ o, RpO K F0 H0 F H st σ o
section
variable {K : PySem.W.Frag} {F H F' H' F0 H0 : Hp} {st : FSt} {σ : L2.St}
theorem RS.mono {s : SV} {x : Option V} {o : Addr → Prop} (f : Same F F') (k : ∀ p, o p → H' p = H p) (h : RS K F H s x o) : RS K F' H' s x o := by
  cases s with
  | un => exact True.intro
  | fz d => obtain ⟨v, e, t⟩ := h; exact ⟨v, e, t.mono f⟩
  | ow ds => obtain ⟨p, vs, e, op, g, t⟩ := h; exact ⟨p, vs, e, op, by rw [k p op]; exact g, t.mono f⟩
  | od ds => obtain ⟨p, vs, e, op, g, t⟩ := h; exact ⟨p, vs, e, op, by rw [k p op]; exact g, t.mono f⟩
  | ot ds => obtain ⟨p, vs, e, op, g, t⟩ := h; exact ⟨p, vs, e, op, by rw [k p op]; exact g, t.mono f⟩
theorem RS.sub {s : SV} {x : Option V} {o o' : Addr → Prop} (k : ∀ p, o p → o' p) (h : RS K F H s x o) : RS K F H s x o' := by
  cases s with
  | un => exact True.intro
  | fz d => exact h
  | ow ds => obtain ⟨p, vs, e, op, g, t⟩ := h; exact ⟨p, vs, e, k p op, g, t⟩
  | od ds => obtain ⟨p, vs, e, op, g, t⟩ := h; exact ⟨p, vs, e, k p op, g, t⟩
  | ot ds => obtain ⟨p, vs, e, op, g, t⟩ := h; exact ⟨p, vs, e, k p op, g, t⟩
theorem Same.eqOf {H H' : Hp} (s : Same H H') {p : Addr} (h : H p ≠ .none) : H' p = H p := by
  cases e : H p with
  | none => exact absurd e h
  | some o => exact s p o e
theorem Rp.gr (r : Rp K F0 H0 F H st σ) : Grow F0 H0 F H := let ⟨_, k⟩ := r; k.gr
theorem Rp.sub (r : Rp K F0 H0 F H st σ) : Same F H := r.gr.sub
theorem Rp.len (r : Rp K F0 H0 F H st σ) : st.length = σ.length := let ⟨_, k⟩ := r; k.len
theorem Rp.grow (r : Rp K F0 H0 F H st σ) (g : Grow F H F' H') : Rp K F0 H0 F' H' st σ := by
  obtain ⟨o, k⟩ := r
  refine ⟨o, k.gr.trans g, k.len, fun i s e => ?_, fun i p h => ?_, k.ap⟩
  · obtain ⟨x, ex, q⟩ := k.sl i s e
    exact ⟨x, ex, q.mono g.fz fun p op => Same.eqOf g.hp (k.fr i p op).2.1⟩
  · obtain ⟨a, b, c⟩ := k.fr i p h
    exact ⟨g.new p a b, Same.ne g.hp b, c⟩
/-- a slot takes a value that stays -/
theorem Rp.set (r : Rp K F0 H0 F H st σ) {v : V} {d : PyData} (t : TV K F v d) (i : Nat) : Rp K F0 H0 F H (st.set i (.fz d)) (σ.set i (some v)) := by
  obtain ⟨o, k⟩ := r
  refine ⟨fun j p => j ≠ i ∧ o j p, k.gr, by simpa using k.len, fun j s e => ?_, fun j p h => k.fr j p h.2, fun a b p h1 h2 => k.ap a b p h1.2 h2.2⟩
  by_cases h : j = i
  · subst h
    have hl : j < st.length := by have := (List.getElem?_eq_some_iff.mp e).1; simpa using this
    rw [List.getElem?_set_self hl] at e
    cases e
    exact ⟨_, List.getElem?_set_self (by rw [← k.len]; exact hl), v, rfl, t⟩
  · rw [List.getElem?_set_ne (Ne.symm h)] at e
    obtain ⟨x, ex, q⟩ := k.sl j s e
    exact ⟨x, by rw [List.getElem?_set_ne (Ne.symm h)]; exact ex, q.sub fun p op => ⟨h, op⟩⟩
/-- a slot is forgotten, whatever it takes -/
theorem Rp.drop (r : Rp K F0 H0 F H st σ) (i : Nat) (x : Option V) : Rp K F0 H0 F H (st.set i .un) (σ.set i x) := by
  obtain ⟨o, k⟩ := r
  refine ⟨fun j p => j ≠ i ∧ o j p, k.gr, by simpa using k.len, fun j s e => ?_, fun j p h => k.fr j p h.2, fun a b p h1 h2 => k.ap a b p h1.2 h2.2⟩
  by_cases h : j = i
  · subst h
    have hl : j < st.length := by have := (List.getElem?_eq_some_iff.mp e).1; simpa using this
    rw [List.getElem?_set_self hl] at e
    cases e
    exact ⟨_, List.getElem?_set_self (by rw [← k.len]; exact hl), True.intro⟩
  · rw [List.getElem?_set_ne (Ne.symm h)] at e
    obtain ⟨y, ex, q⟩ := k.sl j s e
    exact ⟨y, by rw [List.getElem?_set_ne (Ne.symm h)]; exact ex, q.sub fun p op => ⟨h, op⟩⟩
theorem Rp.forget (r : Rp K F0 H0 F H st σ) (i : Nat) : Rp K F0 H0 F H (st.set i .un) σ := by
  obtain ⟨o, k⟩ := r
  refine ⟨o, k.gr, by simpa using k.len, fun j s e => ?_, k.fr, k.ap⟩
  by_cases h : j = i
  · subst h
    have hl : j < st.length := by have := (List.getElem?_eq_some_iff.mp e).1; simpa using this
    rw [List.getElem?_set_self hl] at e
    cases e
    exact ⟨σ[j]'(by rw [← k.len]; exact hl), List.getElem?_eq_getElem _, True.intro⟩
  · rw [List.getElem?_set_ne (Ne.symm h)] at e
    exact k.sl j s e
/-- a slot takes a fresh object of its own -/
theorem Rp.setO (r : Rp K F0 H0 F H st σ) (g : Grow F H F' H') {s : SV} {p : Addr} (hp : H p = .none) (hF : F' p = .none) (hH : H' p ≠ .none) (t : RS K F' H' s (some (.ref p)) (fun q => q = p)) (i : Nat) : Rp K F0 H0 F' H' (st.set i s) (σ.set i (some (.ref p))) := by
  obtain ⟨o, k⟩ := id r
  obtain ⟨o', k'⟩ : ∃ o', o' = o ∧ RpO K F0 H0 F' H' st σ o' := by
    refine ⟨o, rfl, k.gr.trans g, k.len, fun i s e => ?_, fun i p h => ?_, k.ap⟩
    · obtain ⟨x, ex, q⟩ := k.sl i s e
      exact ⟨x, ex, q.mono g.fz fun p op => Same.eqOf g.hp (k.fr i p op).2.1⟩
    · obtain ⟨a, b, c⟩ := k.fr i p h
      exact ⟨g.new p a b, Same.ne g.hp b, c⟩
  obtain ⟨rfl, k'⟩ := k'
  have np : ∀ j, ¬ o' j p := fun j h => (k.fr j p h).2.1 hp
  refine ⟨fun j q => (j ≠ i ∧ o' j q) ∨ (j = i ∧ q = p), k'.gr, by simpa using k.len, fun j s' e => ?_, fun j q h => ?_, fun a b q h1 h2 => ?_⟩
  · by_cases h : j = i
    · subst h
      have hl : j < st.length := by have := (List.getElem?_eq_some_iff.mp e).1; simpa using this
      rw [List.getElem?_set_self hl] at e
      cases e
      exact ⟨_, List.getElem?_set_self (by rw [← k.len]; exact hl), t.sub fun q e => .inr ⟨rfl, e⟩⟩
    · rw [List.getElem?_set_ne (Ne.symm h)] at e
      obtain ⟨x, ex, q⟩ := k'.sl j s' e
      exact ⟨x, by rw [List.getElem?_set_ne (Ne.symm h)]; exact ex, q.sub fun p op => .inl ⟨h, op⟩⟩
  · rcases h with h | ⟨_, rfl⟩
    · exact k'.fr j q h.2
    · exact ⟨hF, hH, Same.none k.gr.hp hp⟩
  · rcases h1 with h1 | ⟨h1, e1⟩
    · rcases h2 with h2 | ⟨h2, e2⟩
      · exact k'.ap a b q h1.2 h2.2
      · subst e2; exact absurd h1.2 (np a)
    · rcases h2 with h2 | ⟨h2, e2⟩
      · subst e1; exact absurd h2.2 (np b)
      · rw [h1, h2]
/-- the object of a slot changes -/
theorem Rp.upd (r : Rp K F0 H0 F H st σ) {i : Nat} {p : Addr} (o : HO) {s s' : SV} (hs : st[i]? = some s) (t : ∀ q, q p → RS K F (upd H p o) s' (some (.ref p)) q) (hx : σ[i]? = some (some (.ref p))) (hown : ∀ q, RS K F H s (some (.ref p)) q → q p) :
    Rp K F0 H0 F (L2.upd H p o) (st.set i s') σ := by
  obtain ⟨w, k⟩ := r
  obtain ⟨x, ex, q⟩ := k.sl i s hs
  rw [hx] at ex
  cases ex
  have wp := hown _ q
  obtain ⟨f1, f2, f3⟩ := k.fr i p wp
  refine ⟨w, ⟨k.gr.fz, fun b o' e => ?_, fun b o' e => ?_, k.gr.new⟩, by simpa using k.len, fun j s2 e => ?_, fun j q h => ?_, k.ap⟩
  · rw [upd_ne (ne_of_none e f3)]; exact k.gr.hp b o' e
  · rw [upd_ne (ne_of_none e f1)]; exact k.gr.sub b o' e
  · by_cases h : j = i
    · subst h
      have hl : j < st.length := by have := (List.getElem?_eq_some_iff.mp e).1; simpa using this
      rw [List.getElem?_set_self hl] at e
      cases e
      exact ⟨_, hx, t _ wp⟩
    · rw [List.getElem?_set_ne (Ne.symm h)] at e
      obtain ⟨x, ex, q⟩ := k.sl j s2 e
      exact ⟨x, ex, q.mono (Same.refl _) fun b wb => upd_ne fun z => h (k.ap j i p (by rw [← z]; exact wb) wp)⟩
  · obtain ⟨a, b, c⟩ := k.fr j q h
    refine ⟨a, ?_, c⟩
    by_cases z : q = p
    · rw [z, upd_same]; exact fun y => nomatch y
    · rw [upd_ne z]; exact b
/-- the object of a slot changes no more -/
theorem Rp.frz (r : Rp K F0 H0 F H st σ) {i : Nat} {p : Addr} {o : HO} {d : PyData} {s : SV} (hs : st[i]? = some s) (hx : σ[i]? = some (some (.ref p))) (ho : H p = some o) (hown : ∀ q, RS K F H s (some (.ref p)) q → q p) (t : TV K (L2.upd F p o) (.ref p) d) :
    ∃ F', Grow F0 H0 F' H ∧ Same F F' ∧ Rp K F0 H0 F' H (st.set i (.fz d)) σ := by
  obtain ⟨w, k⟩ := r
  obtain ⟨x, ex, q⟩ := k.sl i s hs
  rw [hx] at ex
  cases ex
  have wp := hown _ q
  obtain ⟨f1, f2, f3⟩ := k.fr i p wp
  have sF : Same F (L2.upd F p o) := same_upd f1
  have gr : Grow F0 H0 (L2.upd F p o) H := ⟨k.gr.fz.trans sF, k.gr.hp, fun b o' e => by
    by_cases z : b = p
    · subst z; rw [upd_same] at e; rw [ho]; exact e
    · rw [upd_ne z] at e; exact k.gr.sub b o' e, fun b h1 h2 => by rw [upd_ne (fun z => h2 (by rw [z]; exact f3))]; exact k.gr.new b h1 h2⟩
  refine ⟨_, gr, sF, fun j q => j ≠ i ∧ w j q, gr, by simpa using k.len, fun j s2 e => ?_, fun j q h => ?_, fun a b q h1 h2 => k.ap a b q h1.2 h2.2⟩
  · by_cases h : j = i
    · subst h
      have hl : j < st.length := by have := (List.getElem?_eq_some_iff.mp e).1; simpa using this
      rw [List.getElem?_set_self hl] at e
      cases e
      exact ⟨_, hx, _, rfl, t⟩
    · rw [List.getElem?_set_ne (Ne.symm h)] at e
      obtain ⟨x, ex, q⟩ := k.sl j s2 e
      exact ⟨x, ex, (q.mono sF fun _ _ => rfl).sub fun p op => ⟨h, op⟩⟩
  · obtain ⟨a, b, c⟩ := k.fr j q h.2
    exact ⟨by rw [upd_ne (fun z => h.1 (k.ap j i p (by rw [← z]; exact h.2) wp))]; exact a, b, c⟩
end

/-! ## readings of expressions by data -/
def tF (K : PySem.W.Frag) (f : FSt → Option PyData) : TE := fun σ H Q => ∃ F0 H0 F st d, Rp K F0 H0 F H st σ ∧ f st = some d ∧ ∀ v F' H', Grow F H F' H' → TV K F' v d → Q v H'
def tR (K : PySem.W.Frag) (f : FSt → Option PyData) : TE := fun σ H Q => ∃ F0 H0 F st d, Rp K F0 H0 F H st σ ∧ f st = some d ∧ ∀ v F' H', Grow F H F' H' → RV K F' H' v d → Q v H'
/-- a fresh list -/
def tN (K : PySem.W.Frag) (f : FSt → Option (List PyData)) : TE := fun σ H Q => ∃ F0 H0 F st ds, Rp K F0 H0 F H st σ ∧ f st = some ds ∧ ∀ p vs F' H', Grow F H F' H' → H p = none → F' p = none → H' p = some (.lst vs) → TVs K F' vs ds → Q (.ref p) H'
def tA (K : PySem.W.Frag) (f : FSt → Option (List PyData)) : TA := fun σ H Q => ∃ F0 H0 F st ds, Rp K F0 H0 F H st σ ∧ f st = some ds ∧ ∀ vs F' H', Grow F H F' H' → TVs K F' vs ds → Q vs H'
/-- arguments that are read, at once, behind the last -/
def tAR (K : PySem.W.Frag) (f : FSt → Option (List PyData)) : TA := fun σ H Q => ∃ F0 H0 F st ds, Rp K F0 H0 F H st σ ∧ f st = some ds ∧ ∀ vs F' H', Grow F H F' H' → All2 (RV K F' H') vs ds → Q vs H'
def tT (K : PySem.W.Frag) (f : FSt → Option Bool) : TT := fun σ H Q => ∃ F0 H0 F st b, Rp K F0 H0 F H st σ ∧ f st = some b ∧ ∀ F' H', Grow F H F' H' → Q b H'
def tO (K : PySem.W.Frag) (f : FSt → Option (Option Int)) : TO := fun σ H Q => ∃ F0 H0 F st b, Rp K F0 H0 F H st σ ∧ f st = some b ∧ ∀ F' H', Grow F H F' H' → Q b H'
abbrev FP (K : PySem.W.Frag) (X : Cx) (e : Expr) (f : FSt → Option PyData) := PE X e (tF K f)
abbrev FR (K : PySem.W.Frag) (X : Cx) (e : Expr) (f : FSt → Option PyData) := PE X e (tR K f)
abbrev FN (K : PySem.W.Frag) (X : Cx) (e : Expr) (f : FSt → Option (List PyData)) := PE X e (tN K f)
abbrev FA (K : PySem.W.Frag) (X : Cx) (e : List Expr) (f : FSt → Option (List PyData)) := PA X e (tA K f)
abbrev FAR (K : PySem.W.Frag) (X : Cx) (e : List Expr) (f : FSt → Option (List PyData)) := PA X e (tAR K f)
abbrev FT (K : PySem.W.Frag) (X : Cx) (e : Expr) (f : FSt → Option Bool) := PT X e (tT K f)
abbrev FO (K : PySem.W.Frag) (X : Cx) (e : Option Expr) (f : FSt → Option (Option Int)) := PO X e (tO K f)
/-! ### the functions -/
def fC (d : PyData) : FSt → Option PyData := fun _ => some d
def rdf : Option SV → Option PyData
  | some (.fz d) => some d
  | _ => none
def rdr : Option SV → Option PyData
  | some (.fz d) => some d
  | some (.ow ds) => some (.list ds)
  | some (.od es) => some (.dict es)
  | some (.ot es) => some (.dict es)
  | _ => none
def fV (i : Nat) : FSt → Option PyData := fun st => rdf st[i]?
def fW (i : Nat) : FSt → Option PyData := fun st => rdr st[i]?
def fB (g : PyData → PyData → Option PyData) (a b : FSt → Option PyData) : FSt → Option PyData := fun st => (a st).bind fun x => (b st).bind fun y => g x y
def fU (g : PyData → Option PyData) (a : FSt → Option PyData) : FSt → Option PyData := fun st => (a st).bind g
def fNil : FSt → Option (List PyData) := fun _ => some []
def fCons (a : FSt → Option PyData) (b : FSt → Option (List PyData)) : FSt → Option (List PyData) := fun st => (a st).bind fun x => (b st).bind fun y => some (x :: y)
def fG (g : List PyData → Option PyData) (a : FSt → Option (List PyData)) : FSt → Option PyData := fun st => (a st).bind g
def fGL (g : List PyData → Option (List PyData)) (a : FSt → Option (List PyData)) : FSt → Option (List PyData) := fun st => (a st).bind g
def fL (a : FSt → Option (List PyData)) : FSt → Option PyData := fun st => (a st).bind fun xs => some (.list xs)
def dTup (xs : List PyData) : Option PyData := if xs.length ≤ sizeLine then some (.tuple xs) else none
def dLst (xs : List PyData) : Option (List PyData) := if xs.length ≤ sizeLine then some xs else none
def andK : PyData → Option PyData → Option PyData
  | .bool b, r => if b = true then r else some (.bool false)
  | _, _ => none
def orK : PyData → Option PyData → Option PyData
  | .bool b, r => if b = true then some (.bool true) else r
  | _, _ => none
def fAnd (a b : FSt → Option PyData) : FSt → Option PyData := fun st => (a st).bind fun x => andK x (b st)
def fOr (a b : FSt → Option PyData) : FSt → Option PyData := fun st => (a st).bind fun x => orK x (b st)
def dNot : PyData → Option PyData
  | .bool b => some (.bool (!b))
  | _ => none
def fIf (c : FSt → Option Bool) (a b : FSt → Option PyData) : FSt → Option PyData := fun st => (c st).bind fun x => if x = true then a st else b st
/-- truth -/
def dTru : PyData → Option Bool
  | .bool b => some b
  | _ => none
def dTruA : PyData → Option Bool
  | .none => some false
  | .bool b => some b
  | .int i => some (decide (i ≠ 0))
  | .str x => some (decide (x.cps.size ≠ 0))
  | .list xs => some (decide (xs.length ≠ 0))
  | .tuple xs => some (decide (xs.length ≠ 0))
  | .dict _ => none
def fTb (a : FSt → Option PyData) : FSt → Option Bool := fun st => (a st).bind dTru
def fTa (a : FSt → Option PyData) : FSt → Option Bool := fun st => (a st).bind dTruA
def fTand (a b : FSt → Option Bool) : FSt → Option Bool := fun st => (a st).bind fun x => if x = true then b st else some false
def fTor (a b : FSt → Option Bool) : FSt → Option Bool := fun st => (a st).bind fun x => if x = true then some true else b st
def fTnot (a : FSt → Option Bool) : FSt → Option Bool := fun st => (a st).bind fun x => some (!x)
def fChain (g h : PyData → PyData → Option PyData) (a b c : FSt → Option PyData) : FSt → Option PyData := fun st => (a st).bind fun x => (b st).bind fun y => (g x y).bind fun z => andK z ((c st).bind fun w => h y w)
def fNoPart : FSt → Option (Option Int) := fun _ => some none
def dPart : PyData → Option (Option Int)
  | .int i => some (some i)
  | _ => none
def fPart (a : FSt → Option PyData) : FSt → Option (Option Int) := fun st => (a st).bind dPart
def fSl (g : PyData → Option Int → Option Int → Option PyData) (a : FSt → Option PyData) (b c : FSt → Option (Option Int)) : FSt → Option PyData := fun st => (a st).bind fun x => (b st).bind fun l => (c st).bind fun h => g x l h
def fSlL (g : PyData → Option Int → Option Int → Option (List PyData)) (a : FSt → Option PyData) (b c : FSt → Option (Option Int)) : FSt → Option (List PyData) := fun st => (a st).bind fun x => (b st).bind fun l => (c st).bind fun h => g x l h
theorem bind_some {α β : Type} {a : Option α} {f : α → Option β} {y : β} (h : a.bind f = some y) : ∃ x, a = some x ∧ f x = some y := Option.bind_eq_some_iff.mp h
section
variable {K : PySem.W.Frag} {X : Cx} {e a b c : Expr} {es : List Expr} {fa fb fc : FSt → Option PyData} {fs : FSt → Option (List PyData)} {pos : Pos}
theorem FP.r (h : FP K X e fa) : FR K X e fa := PE.of h fun _ _ _ ⟨F0, H0, F, st, d, r, e, q⟩ => ⟨F0, H0, F, st, d, r, e, fun v F' H' g t => q v F' H' g (.fz t)⟩
theorem FN.p (h : FN K X e fs) : FP K X e (fL fs) := PE.of h fun _ H _ ⟨F0, H0, F, st, d, r, e, q⟩ => by
  obtain ⟨ds, e1, e2⟩ := bind_some e
  cases e2
  exact ⟨F0, H0, F, st, ds, r, e1, fun p vs F' H' g hp hF hH t => q _ _ _ (g.freeze r.sub hp hH) (.lst upd_same (t.mono (same_upd hF)))⟩
theorem FN.r (h : FN K X e fs) : FR K X e (fL fs) := FP.r (FN.p h)
/-- a slot -/
theorem fr_var {i : Nat} (h : PE X e (tVar i)) : FR K X e (fW i) := PE.of h fun σ H Q ⟨F0, H0, F, st, d, r, e, q⟩ => by
  obtain ⟨o, k⟩ := id r
  unfold fW at e
  cases es : st[i]? with
  | none => rw [es] at e; cases e
  | some s =>
    rw [es] at e
    obtain ⟨x, ex, rs⟩ := k.sl i s es
    cases s with
    | un => cases e
    | fz d' =>
      cases e
      obtain ⟨v, rfl, t⟩ := rs
      exact ⟨v, ex, q v F H (.refl r.sub) (.fz t)⟩
    | ow ds =>
      cases e
      obtain ⟨p, vs, rfl, op, g, t⟩ := rs
      exact ⟨_, ex, q _ F H (.refl r.sub) (.ow g t)⟩
    | od ds =>
      cases e
      obtain ⟨p, vs, rfl, op, g, t⟩ := rs
      exact ⟨_, ex, q _ F H (.refl r.sub) (.od g t)⟩
    | ot ds =>
      cases e
      obtain ⟨p, vs, rfl, op, g, t⟩ := rs
      exact ⟨_, ex, q _ F H (.refl r.sub) (.ot g t)⟩
theorem fp_var {i : Nat} (h : PE X e (tVar i)) : FP K X e (fV i) := PE.of h fun σ H Q ⟨F0, H0, F, st, d, r, e, q⟩ => by
  obtain ⟨o, k⟩ := id r
  unfold fV at e
  cases es : st[i]? with
  | none => rw [es] at e; cases e
  | some s =>
    rw [es] at e
    obtain ⟨x, ex, rs⟩ := k.sl i s es
    cases s with
    | fz d' =>
      cases e
      obtain ⟨v, rfl, t⟩ := rs
      exact ⟨v, ex, q v F H (.refl r.sub) t⟩
    | un => cases e
    | ow ds => cases e
    | od ds => cases e
    | ot ds => cases e
/-- a constant: of the text, of the top -/
theorem fp_c {v : V} {d : PyData} (h : PE X e (tC v)) (t : ∀ F, TV K F v d) : FP K X e (fC d) := PE.of h fun σ H Q ⟨F0, H0, F, st, d, r, e, q⟩ => by
  cases e
  exact q v F H (.refl r.sub) (t F)
theorem fp_int {i : Int} {j : Nat} : FP K X (.Constant (.int i) j pos) (fC (.int i)) := fp_c pe_int fun _ => .int i
theorem fp_bl {i : Bool} {j : Nat} : FP K X (.Constant (.bool i) j pos) (fC (.bool i)) := fp_c pe_bl fun _ => .bl i
theorem fp_non {j : Nat} : FP K X (.Constant .none j pos) (fC .none) := fp_c pe_non fun _ => .non
theorem fp_str {i : Str} {j : Nat} : FP K X (.Constant (.str i) j pos) (fC (.str i)) := fp_c pe_str fun _ => .str i
/-! ### operators -/
/-- a two-place operation over data -/
def Op2 (K : PySem.W.Frag) (r : R2) (f : PyData → PyData → Option PyData) : Prop := ∀ F H x y a b d Q, Same F H → RV K F H x a → RV K F H y b → f a b = some d → (∀ v F' H', Grow F H F' H' → TV K F' v d → Q v H') → r x y H Q
def Op1 (K : PySem.W.Frag) (r : V → Hp → VK → Prop) (f : PyData → Option PyData) : Prop := ∀ F H x a d Q, Same F H → RV K F H x a → f a = some d → (∀ v F' H', Grow F H F' H' → TV K F' v d → Q v H') → r x H Q
def Op1L (K : PySem.W.Frag) (r : V → Hp → VK → Prop) (f : PyData → Option (List PyData)) : Prop := ∀ F H x a ds Q, Same F H → RV K F H x a → f a = some ds → (∀ p vs F' H', Grow F H F' H' → H p = none → F' p = none → H' p = some (.lst vs) → TVs K F' vs ds → Q (.ref p) H') → r x H Q
def Op2L (K : PySem.W.Frag) (r : R2) (f : PyData → PyData → Option (List PyData)) : Prop := ∀ F H x y a b ds Q, Same F H → RV K F H x a → RV K F H y b → f a b = some ds → (∀ p vs F' H', Grow F H F' H' → H p = none → F' p = none → H' p = some (.lst vs) → TVs K F' vs ds → Q (.ref p) H') → r x y H Q
theorem tOp_of {r : R2} {f : PyData → PyData → Option PyData} (ho : Op2 K r f) : ∀ σ H Q, tF K (fB f fa fb) σ H Q → tOp r (tR K fa) (tR K fb) σ H Q := fun σ H Q ⟨F0, H0, F, st, d, rp, e, q⟩ => by
  obtain ⟨x, ex, e⟩ := bind_some e
  obtain ⟨y, ey, e⟩ := bind_some e
  refine ⟨F0, H0, F, st, x, rp, ex, fun v F1 H1 g1 t1 => ⟨F0, H0, F1, st, y, rp.grow g1, ey, fun w F2 H2 g2 t2 => ?_⟩⟩
  exact ho F2 H2 v w x y d Q g2.sub (t1.grow g2) t2 e fun u F3 H3 g3 t3 => q u F3 H3 ((g1.trans g2).trans g3) t3
def fBL (g : PyData → PyData → Option (List PyData)) (a b : FSt → Option PyData) : FSt → Option (List PyData) := fun st => (a st).bind fun x => (b st).bind fun y => g x y
def fUL (g : PyData → Option (List PyData)) (a : FSt → Option PyData) : FSt → Option (List PyData) := fun st => (a st).bind g
theorem tOpL_of {r : R2} {f : PyData → PyData → Option (List PyData)} (ho : Op2L K r f) : ∀ σ H Q, tN K (fBL f fa fb) σ H Q → tOp r (tR K fa) (tR K fb) σ H Q := fun σ H Q ⟨F0, H0, F, st, d, rp, e, q⟩ => by
  obtain ⟨x, ex, e⟩ := bind_some e
  obtain ⟨y, ey, e⟩ := bind_some e
  refine ⟨F0, H0, F, st, x, rp, ex, fun v F1 H1 g1 t1 => ⟨F0, H0, F1, st, y, rp.grow g1, ey, fun w F2 H2 g2 t2 => ?_⟩⟩
  exact ho F2 H2 v w x y d Q g2.sub (t1.grow g2) t2 e fun p vs F3 H3 g3 h1 h2 h3 t3 => q p vs F3 H3 ((g1.trans g2).trans g3) (Same.none (g1.trans g2).hp h1) h2 h3 t3
theorem fp_op {op : Operator} {r : R2} {f : PyData → PyData → Option PyData} (ho : OpR X (binaryOp op) r) (hs : Op2 K r f) (ha : FR K X a fa) (hb : FR K X b fb) : FP K X (.BinOp a op b pos) (fB f fa fb) := PE.of (pe_op ho ha hb) (tOp_of hs)
theorem fn_op {op : Operator} {r : R2} {f : PyData → PyData → Option (List PyData)} (ho : OpR X (binaryOp op) r) (hs : Op2L K r f) (ha : FR K X a fa) (hb : FR K X b fb) : FN K X (.BinOp a op b pos) (fBL f fa fb) := PE.of (pe_op ho ha hb) (tOpL_of hs)
theorem fp_cmp {op : CmpOp} {r : R2} {f : PyData → PyData → Option PyData} (ho : OpR X (compareOp op) r) (hs : Op2 K r f) (ha : FR K X a fa) (hb : FR K X b fb) (hm : behindInMarks op b = false) : FP K X (.Compare a [op] [b] pos) (fB f fa fb) := PE.of (pe_cmpR ho ha hb hm) (tOp_of hs)
theorem fp_un {op : UnaryOp} {r : V → Hp → VK → Prop} {f : PyData → Option PyData} (ho : UnR X (unaryOp op) r) (hs : Op1 K r f) (ha : FR K X a fa) : FP K X (.UnaryOp op a pos) (fU f fa) := PE.of (pe_un ho ha) fun σ H Q ⟨F0, H0, F, st, d, rp, e, q⟩ => by
  obtain ⟨x, ex, e⟩ := bind_some e
  exact ⟨F0, H0, F, st, x, rp, ex, fun v F1 H1 g1 t1 => hs F1 H1 v x d Q g1.sub t1 e fun u F2 H2 g2 t2 => q u F2 H2 (g1.trans g2) t2⟩
theorem fp_ix {r : R2} {f : PyData → PyData → Option PyData} (hr : IxR X r) (hs : Op2 K r f) (ha : FR K X a fa) (hb : FR K X b fb) (hp : PlainIx b) : FP K X (.Subscript a b pos) (fB f fa fb) := PE.of (pe_ix hr ha hb hp) (tOp_of hs)
theorem fp_chain {op op' : CmpOp} {r r' : R2} {f f' : PyData → PyData → Option PyData} (ho : OpR X (compareOp op) r) (hs : Op2 K r f) (ho' : OpR X (compareOp op') r') (hs' : Op2 K r' f') (ha : FR K X a fa) (hb : FR K X b fb) (hc : FR K X c fc)
    (hm : lastMarks [op, op'] [b, c] = false := by with_unfolding_all rfl) : FP K X (.Compare a [op, op'] [b, c] pos) (fChain f f' fa fb fc) := PE.of (pe_chain ho ho' ha hb hc hm) fun σ H Q ⟨F0, H0, F, st, d, rp, e, q⟩ => by
  obtain ⟨x, ex, e⟩ := bind_some e
  obtain ⟨y, ey, e⟩ := bind_some e
  obtain ⟨z, ez, e⟩ := bind_some e
  refine ⟨F0, H0, F, st, x, rp, ex, fun v F1 H1 g1 t1 => ⟨F0, H0, F1, st, y, rp.grow g1, ey, fun w F2 H2 g2 t2 => ?_⟩⟩
  refine hs F2 H2 v w x y z _ g2.sub (t1.grow g2) t2 ez fun u F3 H3 g3 t3 => ?_
  cases z with
  | bool k =>
    cases t3
    refine ⟨k, rfl, ?_⟩
    cases k with
    | false =>
      cases e
      rw [if_neg Bool.false_ne_true]
      exact q _ F3 H3 ((g1.trans g2).trans g3) (.bl false)
    | true =>
      rw [if_pos rfl]
      obtain ⟨c', ec, e⟩ := bind_some e
      exact ⟨F0, H0, F3, st, c', ((rp.grow g1).grow g2).grow g3, ec, fun w4 F4 H4 g4 t4 => hs' F4 H4 w w4 y c' d Q g4.sub ((t2.grow g3).grow g4) t4 e fun u5 F5 H5 g5 t5 => q u5 F5 H5 (((g1.trans g2).trans g3).trans (g4.trans g5)) t5⟩
  | _ => cases e
/-! ### arguments, displays -/
theorem fa_nil : FA K X [] fNil := ⟨fun pos pins s σ H Q I ⟨F0, H0, F, st, d, rp, e, q⟩ => pa_nil.run pos pins s σ H Q I (by cases e; exact q [] F H (.refl rp.sub) .nil)⟩
theorem PA.of {t t' : TA} (h : PA X es t) (k : ∀ σ H Q, t' σ H Q → t σ H Q) : PA X es t' := ⟨fun pos pins s σ H Q I q => h.run pos pins s σ H Q I (k _ _ _ q)⟩
theorem fa_cons (ha : FP K X e fa) (hb : FA K X es fs) (hs : starEach (e :: es) X.env = (false, eval e X.env) :: starEach es X.env := by rfl) : FA K X (e :: es) (fCons fa fs) := PA.of (pa_cons ha hb hs) fun σ H Q ⟨F0, H0, F, st, d, rp, e, q⟩ => by
  obtain ⟨x, ex, e⟩ := bind_some e
  obtain ⟨y, ey, e⟩ := bind_some e
  cases e
  exact ⟨F0, H0, F, st, x, rp, ex, fun v F1 H1 g1 t1 => ⟨F0, H0, F1, st, y, rp.grow g1, ey, fun w F2 H2 g2 t2 => q _ F2 H2 (g1.trans g2) (.cons (t1.mono g2.fz) t2)⟩⟩
theorem far_nil : FAR K X [] fNil := PA.of pa_nil fun σ H Q ⟨F0, H0, F, st, d, rp, e, q⟩ => by cases e; exact q [] F H (.refl rp.sub) .nil
theorem far_cons (ha : FR K X e fa) (hb : FAR K X es fs) (hs : starEach (e :: es) X.env = (false, eval e X.env) :: starEach es X.env := by rfl) : FAR K X (e :: es) (fCons fa fs) := PA.of (pa_cons ha hb hs) fun σ H Q ⟨F0, H0, F, st, d, rp, e, q⟩ => by
  obtain ⟨x, ex, e⟩ := bind_some e
  obtain ⟨y, ey, e⟩ := bind_some e
  cases e
  exact ⟨F0, H0, F, st, x, rp, ex, fun v F1 H1 g1 t1 => ⟨F0, H0, F1, st, y, rp.grow g1, ey, fun w F2 H2 g2 t2 => q _ F2 H2 (g1.trans g2) (.cons (t1.grow g2) t2)⟩⟩
theorem fp_tup {x1} (h : FA K X es fs) : FP K X (.Tuple es x1 pos) (fG dTup fs) := PE.of (pe_tup h) fun σ H Q ⟨F0, H0, F, st, d, rp, e, q⟩ => by
  obtain ⟨xs, ex, e⟩ := bind_some e
  unfold dTup at e
  split at e
  · cases e
    exact ⟨F0, H0, F, st, xs, rp, ex, fun vs F1 H1 g1 t1 => ⟨by rw [t1.len]; assumption, fun p hp => q _ _ _ (g1.trans (Grow.put g1.sub hp)) (.tup (.of upd_same) (t1.mono (same_upd (Same.none g1.sub hp))))⟩⟩
  · cases e
theorem fn_lst (h : FA K X es fs) : FN K X (.List es pos) (fGL dLst fs) := PE.of (pe_lst h) fun σ H Q ⟨F0, H0, F, st, d, rp, e, q⟩ => by
  obtain ⟨xs, ex, e⟩ := bind_some e
  unfold dLst at e
  split at e
  · cases e
    exact ⟨F0, H0, F, st, d, rp, ex, fun vs F1 H1 g1 t1 => ⟨by rw [t1.len]; assumption, fun p hp => q p vs F1 _ (g1.trans (Grow.own g1.sub hp)) (Same.none g1.hp hp) (Same.none g1.sub hp) upd_same t1⟩⟩
  · cases e
/-! ### and, or, not, if -/
theorem fp_one {op} (h : FP K X a fa) : FP K X (.BoolOp op [a] pos) fa := pe_one h
theorem fp_and {rest : List Expr} (ha : FP K X a fa) (hb : FP K X (.BoolOp .And (b :: rest) pos) fb) : FP K X (.BoolOp .And (a :: b :: rest) pos) (fAnd fa fb) := PE.of (pe_and ha hb) fun σ H Q ⟨F0, H0, F, st, d, rp, e, q⟩ => by
  obtain ⟨x, ex, e⟩ := bind_some e
  refine ⟨F0, H0, F, st, x, rp, ex, fun v F1 H1 g1 t1 => ?_⟩
  cases x with
  | bool k =>
    cases t1
    refine ⟨k, rfl, ?_⟩
    cases k with
    | true => rw [if_pos rfl]; exact ⟨F0, H0, F1, st, d, rp.grow g1, e, fun w F2 H2 g2 t2 => q w F2 H2 (g1.trans g2) t2⟩
    | false => cases e; rw [if_neg Bool.false_ne_true]; exact q _ F1 H1 g1 (.bl false)
  | _ => cases e
theorem fp_or {rest : List Expr} (ha : FP K X a fa) (hb : FP K X (.BoolOp .Or (b :: rest) pos) fb) : FP K X (.BoolOp .Or (a :: b :: rest) pos) (fOr fa fb) := PE.of (pe_or ha hb) fun σ H Q ⟨F0, H0, F, st, d, rp, e, q⟩ => by
  obtain ⟨x, ex, e⟩ := bind_some e
  refine ⟨F0, H0, F, st, x, rp, ex, fun v F1 H1 g1 t1 => ?_⟩
  cases x with
  | bool k =>
    cases t1
    refine ⟨k, rfl, ?_⟩
    cases k with
    | false => rw [if_neg Bool.false_ne_true]; exact ⟨F0, H0, F1, st, d, rp.grow g1, e, fun w F2 H2 g2 t2 => q w F2 H2 (g1.trans g2) t2⟩
    | true => cases e; rw [if_pos rfl]; exact q _ F1 H1 g1 (.bl true)
  | _ => cases e
theorem fp_not (ha : FP K X a fa) : FP K X (.UnaryOp .Not a pos) (fU dNot fa) := PE.of (pe_not ha) fun σ H Q ⟨F0, H0, F, st, d, rp, e, q⟩ => by
  obtain ⟨x, ex, e⟩ := bind_some e
  refine ⟨F0, H0, F, st, x, rp, ex, fun v F1 H1 g1 t1 => ?_⟩
  cases x with
  | bool k => cases t1; cases e; exact ⟨k, rfl, q _ F1 H1 g1 (.bl _)⟩
  | _ => cases e
variable {ta tb : FSt → Option Bool}
theorem fp_if (hc : FT K X c ta) (ha : FP K X a fa) (hb : FP K X b fb) : FP K X (.IfExp c a b pos) (fIf ta fa fb) := PE.of (pe_ifExp hc ha hb) fun σ H Q ⟨F0, H0, F, st, d, rp, e, q⟩ => by
  obtain ⟨x, ex, e⟩ := bind_some e
  refine ⟨F0, H0, F, st, x, rp, ex, fun F1 H1 g1 => ?_⟩
  cases x with
  | true => rw [if_pos rfl] at e ⊢; exact ⟨F0, H0, F1, st, d, rp.grow g1, e, fun w F2 H2 g2 t2 => q w F2 H2 (g1.trans g2) t2⟩
  | false => rw [if_neg Bool.false_ne_true] at e ⊢; exact ⟨F0, H0, F1, st, d, rp.grow g1, e, fun w F2 H2 g2 t2 => q w F2 H2 (g1.trans g2) t2⟩
/-! ### tests -/
theorem ft_val (ha : FP K X a fa) (he : ∀ whole, isTrue a X.env whole = (do let v ← whole; standAt a.pos; holding [v] (truthy v)) := by intro _; rfl) : FT K X a (fTb fa) := PT.of (pt_val ha he) fun σ H Q ⟨F0, H0, F, st, d, rp, e, q⟩ => by
  obtain ⟨x, ex, e⟩ := bind_some e
  refine ⟨F0, H0, F, st, x, rp, ex, fun v F1 H1 g1 t1 => ?_⟩
  cases x with
  | bool k => cases t1; cases e; exact ⟨d, rfl, q F1 H1 g1⟩
  | _ => cases e
theorem ft_cmp {op : CmpOp} {r : R2} {f : PyData → PyData → Option PyData} (ho : OpR X (compareOp op) r) (hs : Op2 K r f) (ha : FR K X a fa) (hb : FR K X b fb) (hm : behindInMarks op b = false) : FT K X (.Compare a [op] [b] pos) (fTb (fB f fa fb)) := PT.of (pt_cmpR ho ha hb hm) fun σ H Q ⟨F0, H0, F, st, d, rp, e, q⟩ => by
  obtain ⟨x, ex, e⟩ := bind_some e
  refine tOp_of hs _ _ _ ⟨F0, H0, F, st, x, rp, ex, fun v F1 H1 g1 t1 => ?_⟩
  cases x with
  | bool k => cases t1; cases e; exact ⟨d, rfl, q F1 H1 g1⟩
  | _ => cases e
theorem ft_not (ha : FT K X a ta) : FT K X (.UnaryOp .Not a pos) (fTnot ta) := PT.of (pt_not ha) fun σ H Q ⟨F0, H0, F, st, d, rp, e, q⟩ => by
  obtain ⟨x, ex, e⟩ := bind_some e
  cases e
  exact ⟨F0, H0, F, st, x, rp, ex, fun F1 H1 g1 => q F1 H1 g1⟩
abbrev FWt (K : PySem.W.Frag) (X : Cx) (e : Expr) (f : FSt → Option Bool) := PW X e (tT K f)
theorem PW.of {e : Expr} {t t' : TT} (h : PW X e t) (k : ∀ σ H Q, t' σ H Q → t σ H Q) : PW X e t' := ⟨fun wh pins s σ H Q I q => h.run wh pins s σ H Q I (k _ _ _ q)⟩
theorem fw_and1 (ha : FT K X a ta) : FWt K X (.BoolOp .And [a] pos) ta := pw_and1 ha
theorem fw_or1 (ha : FT K X a ta) : FWt K X (.BoolOp .Or [a] pos) ta := pw_or1 ha
theorem fw_and {rest : List Expr} (ha : FT K X a ta) (hb : FWt K X (.BoolOp .And (b :: rest) pos) tb) : FWt K X (.BoolOp .And (a :: b :: rest) pos) (fTand ta tb) := PW.of (pw_and ha hb) fun σ H Q ⟨F0, H0, F, st, d, rp, e, q⟩ => by
  obtain ⟨x, ex, e⟩ := bind_some e
  refine ⟨F0, H0, F, st, x, rp, ex, fun F1 H1 g1 => ?_⟩
  cases x with
  | true => rw [if_pos rfl] at e ⊢; exact ⟨F0, H0, F1, st, d, rp.grow g1, e, fun F2 H2 g2 => q F2 H2 (g1.trans g2)⟩
  | false => rw [if_neg Bool.false_ne_true] at e ⊢; cases e; exact q F1 H1 g1
theorem fw_or {rest : List Expr} (ha : FT K X a ta) (hb : FWt K X (.BoolOp .Or (b :: rest) pos) tb) : FWt K X (.BoolOp .Or (a :: b :: rest) pos) (fTor ta tb) := PW.of (pw_or ha hb) fun σ H Q ⟨F0, H0, F, st, d, rp, e, q⟩ => by
  obtain ⟨x, ex, e⟩ := bind_some e
  refine ⟨F0, H0, F, st, x, rp, ex, fun F1 H1 g1 => ?_⟩
  cases x with
  | false => rw [if_neg Bool.false_ne_true] at e ⊢; exact ⟨F0, H0, F1, st, d, rp.grow g1, e, fun F2 H2 g2 => q F2 H2 (g1.trans g2)⟩
  | true => rw [if_pos rfl] at e ⊢; cases e; exact q F1 H1 g1
/-! ### slices -/
theorem PO.of {e : Option Expr} {t t' : TO} (h : PO X e t) (k : ∀ σ H Q, t' σ H Q → t σ H Q) : PO X e t' := ⟨fun pins s σ H Q I q => h.run pins s σ H Q I (k _ _ _ q)⟩
theorem fo_none : FO K X none fNoPart := PO.of po_none fun σ H Q ⟨F0, H0, F, st, d, rp, e, q⟩ => by cases e; exact q F H (.refl rp.sub)
theorem fo_some (h : FP K X e fa) : FO K X (some e) (fPart fa) := PO.of (po_some h) fun σ H Q ⟨F0, H0, F, st, d, rp, e, q⟩ => by
  obtain ⟨x, ex, e⟩ := bind_some e
  refine ⟨F0, H0, F, st, x, rp, ex, fun v F1 H1 g1 t1 => ?_⟩
  cases x with
  | int k => cases t1; cases e; exact ⟨k, rfl, q F1 H1 g1⟩
  | _ => cases e
def OpS (K : PySem.W.Frag) (r : V → Option Int → Option Int → Hp → VK → Prop) (f : PyData → Option Int → Option Int → Option PyData) : Prop := ∀ F H x a lo hi d Q, Same F H → RV K F H x a → f a lo hi = some d → (∀ v F' H', Grow F H F' H' → TV K F' v d → Q v H') → r x lo hi H Q
def OpSL (K : PySem.W.Frag) (r : V → Option Int → Option Int → Hp → VK → Prop) (f : PyData → Option Int → Option Int → Option (List PyData)) : Prop := ∀ F H x a lo hi ds Q, Same F H → RV K F H x a → f a lo hi = some ds → (∀ p vs F' H', Grow F H F' H' → H p = none → F' p = none → H' p = some (.lst vs) → TVs K F' vs ds → Q (.ref p) H') → r x lo hi H Q
variable {lo hi : Option Expr} {fl fh : FSt → Option (Option Int)}
theorem fp_sl {p2 : Pos} {r : V → Option Int → Option Int → Hp → VK → Prop} {f : PyData → Option Int → Option Int → Option PyData} (hr : SlR X r) (hs : OpS K r f) (ha : FR K X a fa) (hl : FO K X lo fl) (hh : FO K X hi fh) : FP K X (.Subscript a (.Slice lo hi none p2) pos) (fSl f fa fl fh) := PE.of (pe_slice hr ha hl hh) fun σ H Q ⟨F0, H0, F, st, d, rp, e, q⟩ => by
  obtain ⟨x, ex, e⟩ := bind_some e
  obtain ⟨y, ey, e⟩ := bind_some e
  obtain ⟨z, ez, e⟩ := bind_some e
  refine ⟨F0, H0, F, st, x, rp, ex, fun v F1 H1 g1 t1 => ⟨F0, H0, F1, st, y, rp.grow g1, ey, fun F2 H2 g2 => ⟨F0, H0, F2, st, z, (rp.grow g1).grow g2, ez, fun F3 H3 g3 => ?_⟩⟩⟩
  exact hs F3 H3 v x y z d Q g3.sub ((t1.grow g2).grow g3) e fun u F4 H4 g4 t4 => q u F4 H4 ((g1.trans g2).trans (g3.trans g4)) t4
theorem fn_sl {p2 : Pos} {r : V → Option Int → Option Int → Hp → VK → Prop} {f : PyData → Option Int → Option Int → Option (List PyData)} (hr : SlR X r) (hs : OpSL K r f) (ha : FR K X a fa) (hl : FO K X lo fl) (hh : FO K X hi fh) : FN K X (.Subscript a (.Slice lo hi none p2) pos) (fSlL f fa fl fh) := PE.of (pe_slice hr ha hl hh) fun σ H Q ⟨F0, H0, F, st, d, rp, e, q⟩ => by
  obtain ⟨x, ex, e⟩ := bind_some e
  obtain ⟨y, ey, e⟩ := bind_some e
  obtain ⟨z, ez, e⟩ := bind_some e
  refine ⟨F0, H0, F, st, x, rp, ex, fun v F1 H1 g1 t1 => ⟨F0, H0, F1, st, y, rp.grow g1, ey, fun F2 H2 g2 => ⟨F0, H0, F2, st, z, (rp.grow g1).grow g2, ez, fun F3 H3 g3 => ?_⟩⟩⟩
  exact hs F3 H3 v x y z d Q g3.sub ((t1.grow g2).grow g3) e fun p vs F4 H4 g4 h1 h2 h3 t4 => q p vs F4 H4 ((g1.trans g2).trans (g3.trans g4)) (Same.none ((g1.trans g2).trans g3).hp h1) h2 h3 t4
end

/-! ## operators over data -/
def dII (g : Int → Int → Option PyData) : PyData → PyData → Option PyData
  | .int i, .int j => g i j
  | _, _ => none
theorem dII_eq {g : Int → Int → Option PyData} {a b d : PyData} (h : dII g a b = some d) : ∃ i j, a = .int i ∧ b = .int j ∧ g i j = some d := by
  unfold dII at h
  split at h
  · exact ⟨_, _, rfl, rfl, h⟩
  · cases h
section
variable {K : PySem.W.Frag} {X : Cx} {a b : Expr} {fa fb : FSt → Option PyData} {pos : Pos}
theorem Op2.ofI {C : Int → Int → Prop} {g : Int → Int → Int} {f : Int → Int → Option PyData} (h : ∀ i j d, f i j = some d → C i j ∧ d = .int (g i j)) : Op2 K (rI C fun i j => .int (g i j)) (dII f) := fun F H x y a b d Q s hx hy e q => by
  obtain ⟨i, j, rfl, rfl, e⟩ := dII_eq e
  obtain ⟨c, rfl⟩ := h _ _ _ e
  exact ⟨i, j, hx.int, hy.int, c, q _ F H (.refl s) (.int _)⟩
theorem Op2.ofI0 {g : Int → Int → Int} : Op2 K (rI0 fun i j => .int (g i j)) (dII fun i j => some (.int (g i j))) := fun F H x y a b d Q s hx hy e q => by
  obtain ⟨i, j, rfl, rfl, e⟩ := dII_eq e
  cases e
  exact ⟨i, j, hx.int, hy.int, q _ F H (.refl s) (.int _)⟩
theorem Op2.ofB0 {g : Int → Int → Bool} : Op2 K (rI0 fun i j => .bl (g i j)) (dII fun i j => some (.bool (g i j))) := fun F H x y a b d Q s hx hy e q => by
  obtain ⟨i, j, rfl, rfl, e⟩ := dII_eq e
  cases e
  exact ⟨i, j, hx.int, hy.int, q _ F H (.refl s) (.bl _)⟩
theorem Op2.or {r r' : R2} {f : PyData → PyData → Option PyData} (h : ∀ a b d, f a b = some d → (∃ f1, Op2 K r f1 ∧ f1 a b = some d) ∨ ∃ f1, Op2 K r' f1 ∧ f1 a b = some d) : Op2 K (fun x y H Q => r x y H Q ∨ r' x y H Q) f := fun F H x y a b d Q s hx hy e q => by
  rcases h a b d e with ⟨f1, o, e1⟩ | ⟨f1, o, e1⟩
  · exact .inl (o F H x y a b d Q s hx hy e1 q)
  · exact .inr (o F H x y a b d Q s hx hy e1 q)
def dSub := dII fun i j => some (.int (i - j))
def dMul := dII fun i j => if (-(2 ^ 64) < i ∧ i < 2 ^ 64) ∨ (-(2 ^ 64) < j ∧ j < 2 ^ 64) then some (.int (i * j)) else none
def dFdiv := dII fun i j => if 0 < j ∧ j < 2 ^ 200 then some (.int (i / j)) else none
def dMod := dII fun i j => if 0 < j then some (.int (i % j)) else none
def dPow := dII fun i j => if 0 ≤ j ∧ j ≤ 1000000 ∧ -(2 ^ 64) < i ∧ i < 2 ^ 64 then some (.int (i ^ j.toNat)) else none
def dShl := dII fun i j => if 0 ≤ j ∧ j ≤ 1000000 ∧ -(2 ^ 64) < i ∧ i < 2 ^ 64 then some (.int (i * 2 ^ j.toNat)) else none
def dShr := dII fun i j => if 0 ≤ j then some (.int (i / 2 ^ j.toNat)) else none
def dBand := dII fun i j => some (.int (Builtin.bitAnd i j))
def dBor := dII fun i j => some (.int (Builtin.bitOr i j))
def dXor := dII fun i j => some (.int (Builtin.bitXor i j))
theorem ite_some {p : Prop} [Decidable p] {α : Type} {x y : α} (h : (if p then some x else none) = some y) : p ∧ y = x := by
  split at h
  · cases h; exact ⟨by assumption, rfl⟩
  · cases h
theorem fp_sub (ha : FR K X a fa) (hb : FR K X b fb) : FP K X (.BinOp a .Sub b pos) (fB dSub fa fb) := fp_op op_sub Op2.ofI0 ha hb
theorem fp_mulI (ha : FR K X a fa) (hb : FR K X b fb) : FP K X (.BinOp a .Mult b pos) (fB dMul fa fb) := fp_op op_mul (.ofI fun i j d h => ⟨(ite_some h).1, (ite_some h).2⟩) ha hb
theorem cdivw {i j : Int} (h : 0 < j ∧ j < 2 ^ 200) : CDivW i j := by
  refine ⟨h.1, ?_⟩
  have h2 : j.natAbs < 2 ^ 200 := by have := h.2; omega
  have h0 : j.natAbs ≠ 0 := by have := h.1; omega
  have := (Nat.log2_lt h0).mpr h2
  omega
theorem fp_fdiv (ha : FR K X a fa) (hb : FR K X b fb) : FP K X (.BinOp a .FloorDiv b pos) (fB dFdiv fa fb) := fp_op op_fdivW (.ofI fun i j d h => ⟨cdivw (ite_some h).1, (ite_some h).2⟩) ha hb
theorem fp_mod (ha : FR K X a fa) (hb : FR K X b fb) : FP K X (.BinOp a .Mod b pos) (fB dMod fa fb) := fp_op op_mod (.ofI fun i j d h => ite_some h) ha hb
theorem fp_pow (ha : FR K X a fa) (hb : FR K X b fb) : FP K X (.BinOp a .Pow b pos) (fB dPow fa fb) := fp_op op_pow (.ofI fun i j d h => ⟨by have := (ite_some h).1; exact ⟨this.1, this.2.1, by omega⟩, (ite_some h).2⟩) ha hb
theorem fp_shl (ha : FR K X a fa) (hb : FR K X b fb) : FP K X (.BinOp a .LShift b pos) (fB dShl fa fb) := fp_op op_shl (.ofI fun i j d h => ⟨by have := (ite_some h).1; exact ⟨this.1, this.2.1, by omega⟩, (ite_some h).2⟩) ha hb
theorem fp_shr (ha : FR K X a fa) (hb : FR K X b fb) : FP K X (.BinOp a .RShift b pos) (fB dShr fa fb) := fp_op op_shr (.ofI fun i j d h => ite_some h) ha hb
theorem fp_band (ha : FR K X a fa) (hb : FR K X b fb) : FP K X (.BinOp a .BitAnd b pos) (fB dBand fa fb) := fp_op op_and Op2.ofI0 ha hb
theorem fp_bor (ha : FR K X a fa) (hb : FR K X b fb) : FP K X (.BinOp a .BitOr b pos) (fB dBor fa fb) := fp_op op_or Op2.ofI0 ha hb
theorem fp_xor (ha : FR K X a fa) (hb : FR K X b fb) : FP K X (.BinOp a .BitXor b pos) (fB dXor fa fb) := fp_op op_xor Op2.ofI0 ha hb
/-- a + b -/
def dAdd : PyData → PyData → Option PyData
  | .int i, .int j => some (.int (i + j))
  | .str x, .str y => if x.length + y.length ≤ sizeLine then some (.str (x ++ y)) else none
  | .list x, .list y => if x.length + y.length ≤ sizeLine then some (.list (x ++ y)) else none
  | .tuple x, .tuple y => if x.length + y.length ≤ sizeLine then some (.tuple (x ++ y)) else none
  | _, _ => none
def dCatL : PyData → PyData → Option (List PyData)
  | .list x, .list y => if x.length + y.length ≤ sizeLine then some (x ++ y) else none
  | _, _ => none
def rAddQ (K : PySem.W.Frag) : R2 := fun x y H Q => (rI0 (fun i j => .int (i + j)) x y H Q ∨ (∃ i j, x = .str i ∧ y = .str j ∧ i.length + j.length ≤ sizeLine ∧ Q (.str (i ++ j)) H)) ∨ (rCat x y H Q ∨ rCatA K x y H Q)
theorem op_addQ : OpR X (binaryOp .Add) (rAddQ X.K) := (op_add.or op_add_str).or (op_cat.or op_catA)
theorem op2_catQ : Op2L K rCat dCatL := fun F H x y a b d Q s hx hy e q => by
  unfold dCatL at e
  split at e
  · obtain ⟨hl, rfl⟩ := ite_some e
    obtain ⟨p, vs, rfl, g, t⟩ := hx.lst s
    obtain ⟨p', vs', rfl, g', t'⟩ := hy.lst s
    exact ⟨p, p', vs, vs', rfl, rfl, g, g', by rw [t.len, t'.len]; exact hl, fun l hl => q l _ F _ (.own s hl) hl (Same.none s hl) upd_same (t.app t')⟩
  · cases e
theorem Op2L.p {r : R2} {f : PyData → PyData → Option (List PyData)} (h : Op2L K r f) : Op2 K r (fun a b => (f a b).bind fun xs => some (.list xs)) := fun F H x y a b d Q s hx hy e q => by
  obtain ⟨ds, e1, e2⟩ := bind_some e
  cases e2
  exact h F H x y a b ds Q s hx hy e1 fun p vs F' H' g hp hF hH t => q _ _ _ (g.freeze s hp hH) (.lst upd_same (t.mono (same_upd hF)))
theorem op2_add : Op2 K (rAddQ K) dAdd := fun F H x y a b d Q s hx hy e q => by
  unfold dAdd at e
  split at e
  · cases e; exact .inl (.inl ⟨_, _, hx.int, hy.int, q _ F H (.refl s) (.int _)⟩)
  · obtain ⟨hl, rfl⟩ := ite_some e
    exact .inl (.inr ⟨_, _, hx.str, hy.str, hl, q _ F H (.refl s) (.str _)⟩)
  · obtain ⟨hl, rfl⟩ := ite_some e
    exact .inr (.inl (op2_catQ.p F H x y _ _ _ Q s hx hy (by show Option.bind (if _ then some _ else none) _ = _; rw [if_pos hl]; rfl) q))
  · obtain ⟨hl, rfl⟩ := ite_some e
    obtain ⟨p, vs, rfl, g, t⟩ := hx.tup s
    obtain ⟨p', vs', rfl, g', t'⟩ := hy.tup s
    have tt := t.app t'
    refine .inr (.inr ⟨p, p', vs, vs', rfl, rfl, g, g', by rw [t.len, t'.len]; exact hl, fun z => ?_, fun _ z => ?_, fun _ _ l hl => q _ _ _ (.put s hl) (.tup (.of upd_same) (tt.mono (same_upd (Same.none s hl))))⟩)
    · subst z
      cases t
      exact q _ F H (.refl s) hy.tupT
    · subst z
      cases t'
      rw [List.append_nil] at q
      exact q _ F H (.refl s) hx.tupT
  · cases e
theorem fp_add (ha : FR K X a fa) (hb : FR K X b fb) (hK : X.K = K := by rfl) : FP K X (.BinOp a .Add b pos) (fB dAdd fa fb) := by subst hK; exact fp_op op_addQ op2_add ha hb
theorem fn_add (ha : FR K X a fa) (hb : FR K X b fb) : FN K X (.BinOp a .Add b pos) (fBL dCatL fa fb) := fn_op op_cat op2_catQ ha hb
/-- a * b -/
def rRepQ : R2 := fun x y H Q => ∃ l k xs, x = .ref l ∧ y = .int k ∧ H l = some (.lst xs) ∧ -(2 ^ 63) ≤ k ∧ k < 2 ^ 63 ∧ xs.length * k.toNat ≤ sizeLine ∧ ∀ p, H p = none → Q (.ref p) (upd H p (.lst (List.replicate k.toNat xs).flatten))
def dRepL : PyData → PyData → Option (List PyData)
  | .list x, .int k => if -(2 ^ 63) ≤ k ∧ k < 2 ^ 63 ∧ x.length * k.toNat ≤ sizeLine then some (List.replicate k.toNat x).flatten else none
  | _, _ => none
theorem TVs.flat {F : Hp} {vs : List V} {ds : List PyData} (h : TVs K F vs ds) : ∀ n : Nat, TVs K F (List.replicate n vs).flatten (List.replicate n ds).flatten
  | 0 => .nil
  | n + 1 => by rw [List.replicate_succ, List.replicate_succ, List.flatten_cons, List.flatten_cons]; exact h.app (TVs.flat h n)
/-- a display or a copy times a number: the left side is fresh -/
theorem fn_rep {fs : FSt → Option (List PyData)} (ha : FN K X a fs) (hb : FR K X b fb) : FN K X (.BinOp a .Mult b pos) (fBL dRepL (fL fs) fb) := PE.of (pe_op op_rep ha hb) fun σ H Q ⟨F0, H0, F, st, d, rp, e, q⟩ => by
  obtain ⟨x, ex0, e⟩ := bind_some e
  obtain ⟨y, ey, e⟩ := bind_some e
  obtain ⟨xs, ex, e2⟩ := bind_some ex0
  cases e2
  refine ⟨F0, H0, F, st, xs, rp, ex, fun p vs F1 H1 g1 h1 h2 h3 t1 => ⟨F0, H0, F1, st, y, rp.grow g1, ey, fun w F2 H2 g2 t2 => ?_⟩⟩
  cases y with
  | int k =>
    obtain ⟨⟨k1, k2, k3⟩, rfl⟩ := ite_some e
    exact ⟨p, k, vs, rfl, t2.int, g2.hp _ _ h3, k1, k2, by rw [t1.len]; exact k3, fun l hl => q l _ F2 _ ((g1.trans g2).trans (.own g2.sub hl)) (Same.none (g1.trans g2).hp hl) (Same.none g2.sub hl) upd_same ((t1.mono g2.fz).flat _)⟩
  | _ => cases e
/-! ### comparisons -/
def dLt : PyData → PyData → Option PyData
  | .int i, .int j => some (.bool (decide (i < j)))
  | .str x, .str y => some (.bool (decide (x.cps.toList < y.cps.toList)))
  | _, _ => none
def dLe := dII fun i j => some (.bool (decide (i ≤ j)))
def dGt := dII fun i j => some (.bool (decide (j < i)))
def dGe := dII fun i j => some (.bool (decide (j ≤ i)))
theorem op2_lt : Op2 K (fun x y H Q => rI0 (fun i j => .bl (decide (i < j))) x y H Q ∨ (∃ i j, x = .str i ∧ y = .str j ∧ Q (.bl (decide (i.cps.toList < j.cps.toList))) H)) dLt := fun F H x y a b d Q s hx hy e q => by
  unfold dLt at e
  split at e
  · cases e; exact .inl ⟨_, _, hx.int, hy.int, q _ F H (.refl s) (.bl _)⟩
  · cases e; exact .inr ⟨_, _, hx.str, hy.str, q _ F H (.refl s) (.bl _)⟩
  · cases e
def dEq (a b : PyData) : Option PyData := match a, b with
  | .int i, .int j => some (.bool (decide (i = j)))
  | .str i, .str j => some (.bool (decide (i = j)))
  | .bool i, .bool j => some (.bool (decide (i = j)))
  | a, b => if SeqAt.shaped a = true ∧ SeqAt.shaped b = true then some (.bool (PyData.eqv a b)) else none
def dNe (a b : PyData) : Option PyData := (dEq a b).bind dNot
theorem op2_eq : Op2 K (fun x y H Q => rEq x y H Q ∨ rEqD K x y H Q) dEq := fun F H x y a b d Q s hx hy e q => by
  unfold dEq at e
  split at e
  · cases e
    refine .inl ⟨by rw [hx.int, hy.int]; rfl, ?_⟩
    rw [hx.int, hy.int, show decide (V.int _ = V.int _) = decide (_ = _) from decide_eq_decide.mpr ⟨V.int.inj, fun e => by rw [e]⟩]
    exact q _ F H (.refl s) (.bl _)
  · cases e
    refine .inl ⟨by rw [hx.str, hy.str]; rfl, ?_⟩
    rw [hx.str, hy.str, show decide (V.str _ = V.str _) = decide (_ = _) from decide_eq_decide.mpr ⟨V.str.inj, fun e => by rw [e]⟩]
    exact q _ F H (.refl s) (.bl _)
  · cases e
    refine .inl ⟨by rw [hx.bl, hy.bl]; rfl, ?_⟩
    rw [hx.bl, hy.bl, show decide (V.bl _ = V.bl _) = decide (_ = _) from decide_eq_decide.mpr ⟨V.bl.inj, fun e => by rw [e]⟩]
    exact q _ F H (.refl s) (.bl _)
  · obtain ⟨⟨s1, s2⟩, rfl⟩ := ite_some e
    exact .inr ⟨a, b, hx.dp s (SeqAt.canLay_of_shaped s1), hy.dp s (SeqAt.canLay_of_shaped s2), s1, s2, q _ F H (.refl s) (.bl _)⟩
theorem op2_ne : Op2 K (fun x y H Q => rNe x y H Q ∨ rNeD K x y H Q) dNe := fun F H x y a b d Q s hx hy e q => by
  unfold dNe at e
  obtain ⟨c, e, e2⟩ := bind_some e
  unfold dEq at e
  split at e
  · cases e
    cases e2
    refine .inl ⟨by rw [hx.int, hy.int]; rfl, ?_⟩
    rw [hx.int, hy.int, show decide (V.int _ = V.int _) = decide (_ = _) from decide_eq_decide.mpr ⟨V.int.inj, fun e => by rw [e]⟩]
    exact q _ F H (.refl s) (.bl _)
  · cases e
    cases e2
    refine .inl ⟨by rw [hx.str, hy.str]; rfl, ?_⟩
    rw [hx.str, hy.str, show decide (V.str _ = V.str _) = decide (_ = _) from decide_eq_decide.mpr ⟨V.str.inj, fun e => by rw [e]⟩]
    exact q _ F H (.refl s) (.bl _)
  · cases e
    cases e2
    refine .inl ⟨by rw [hx.bl, hy.bl]; rfl, ?_⟩
    rw [hx.bl, hy.bl, show decide (V.bl _ = V.bl _) = decide (_ = _) from decide_eq_decide.mpr ⟨V.bl.inj, fun e => by rw [e]⟩]
    exact q _ F H (.refl s) (.bl _)
  · obtain ⟨⟨s1, s2⟩, rfl⟩ := ite_some e
    cases e2
    exact .inr ⟨a, b, hx.dp s (SeqAt.canLay_of_shaped s1), hy.dp s (SeqAt.canLay_of_shaped s2), s1, s2, q _ F H (.refl s) (.bl _)⟩
/-- is None, is True, is False -/
def dIs (a b : PyData) : Option PyData := match a, b with
  | .bool i, .bool j => some (.bool (decide (i = j)))
  | .none, .none => some (.bool true)
  | _, .none => some (.bool false)
  | _, _ => none
def dIsNot (a b : PyData) : Option PyData := (dIs a b).bind dNot
theorem RV.nn {F H : Hp} {v : V} {d : PyData} (h : RV K F H v d) (e : d ≠ .none) : v ≠ .non := by
  rintro rfl
  cases h with
  | fz t => cases t; exact e rfl
theorem op2_is : Op2 K (fun x y H Q => rIsB x y H Q ∨ (y = .non ∧ Q (.bl (decide (x = .non))) H)) dIs := fun F H x y a b d Q s hx hy e q => by
  unfold dIs at e
  split at e
  · cases e; exact .inl ⟨_, _, hx.bl, hy.bl, q _ F H (.refl s) (.bl _)⟩
  · cases e; exact .inr ⟨hy.non, by rw [hx.non]; exact q _ F H (.refl s) (.bl _)⟩
  · rename_i hne
    cases e; exact .inr ⟨hy.non, by rw [decide_eq_false (hx.nn hne)]; exact q _ F H (.refl s) (.bl _)⟩
  · cases e
theorem op2_isNot : Op2 K (fun x y H Q => rNotB x y H Q ∨ (y = .non ∧ Q (.bl (!decide (x = .non))) H)) dIsNot := fun F H x y a b d Q s hx hy e q => by
  unfold dIsNot at e
  obtain ⟨c, e, e2⟩ := bind_some e
  unfold dIs at e
  split at e
  · cases e; cases e2; exact .inl ⟨_, _, hx.bl, hy.bl, q _ F H (.refl s) (.bl _)⟩
  · cases e; cases e2; exact .inr ⟨hy.non, by rw [hx.non]; exact q _ F H (.refl s) (.bl _)⟩
  · rename_i hne _
    cases e; cases e2; exact .inr ⟨hy.non, by rw [decide_eq_false (hx.nn hne)]; exact q _ F H (.refl s) (.bl _)⟩
  · cases e
end

section
variable {K : PySem.W.Frag} {X : Cx} {a b c e : Expr} {es : List Expr} {fa fb fc : FSt → Option PyData} {fs : FSt → Option (List PyData)} {pos : Pos}
theorem hu4 {A : Around} {k : Nat} (hr : Room k A) : A.units + 64 < cLine := by have := hr.un; omega
theorem op2_le : Op2 K (rI0 fun i j => .bl (decide (i ≤ j))) dLe := Op2.ofB0
theorem op2_gt : Op2 K (rI0 fun i j => .bl (decide (j < i))) dGt := Op2.ofB0
theorem op2_ge : Op2 K (rI0 fun i j => .bl (decide (j ≤ i))) dGe := Op2.ofB0
abbrev rLtQ : R2 := fun x y H Q => rI0 (fun i j => .bl (decide (i < j))) x y H Q ∨ (∃ i j, x = .str i ∧ y = .str j ∧ Q (.bl (decide (i.cps.toList < j.cps.toList))) H)
theorem op_ltQ : OpR X (compareOp .Lt) rLtQ := op_lt.or op_lt_str
theorem op_eqQ (hu : X.A.units + 64 < cLine) (hK : X.K = K := by rfl) : OpR X (compareOp .Eq) (fun x y H Q => rEq x y H Q ∨ rEqD K x y H Q) := by subst hK; exact op_eq.or (op_eqD hu)
theorem op_neQ (hu : X.A.units + 64 < cLine) (hK : X.K = K := by rfl) : OpR X (compareOp .NotEq) (fun x y H Q => rNe x y H Q ∨ rNeD K x y H Q) := by subst hK; exact op_ne.or (op_neD hu)
theorem op_isQ : OpR X (compareOp .Is) (fun x y H Q => rIsB x y H Q ∨ (y = .non ∧ Q (.bl (decide (x = .non))) H)) := op_isBl.or op_isN
theorem op_isNotQ : OpR X (compareOp .IsNot) (fun x y H Q => rNotB x y H Q ∨ (y = .non ∧ Q (.bl (!decide (x = .non))) H)) := op_notBl.or op_notN
/-! ### in -/
def occs (x y : Str) : Bool := !(Builtin.Str.occurrences y x 0 y.length 1).isEmpty
def dIn (x c : PyData) : Option PyData := match c with
  | .list ys => if SeqAt.shaped x = true ∧ SeqAt.shaped (.list ys) = true then some (.bool (ys.any fun z => PyData.eqv z x)) else none
  | .tuple ys => if SeqAt.shaped x = true ∧ SeqAt.shaped (.tuple ys) = true then some (.bool (ys.any fun z => PyData.eqv z x)) else none
  | .str y => match x with
    | .str x => some (.bool (occs x y))
    | _ => none
  | _ => none
def dNotIn (x c : PyData) : Option PyData := (dIn x c).bind dNot
def rInT (K : PySem.W.Frag) : R2 := fun x y H Q => ∃ d ds, Dp K H x d ∧ Dp K H y (.tuple ds) ∧ SeqAt.shaped d = true ∧ SeqAt.shaped (.tuple ds) = true ∧ Q (.bl (ds.any fun z => PyData.eqv z d)) H
def rNotInT (K : PySem.W.Frag) : R2 := fun x y H Q => ∃ d ds, Dp K H x d ∧ Dp K H y (.tuple ds) ∧ SeqAt.shaped d = true ∧ SeqAt.shaped (.tuple ds) = true ∧ Q (.bl (!ds.any fun z => PyData.eqv z d)) H
theorem op_inT (hu : X.A.units + 65 < cLine) : OpR X (compareOp .In) (rInT X.K) := fun pins s σ H x y v u Q I rx ry ⟨d, ds, hd, he, sd, se, q⟩ => by
  obtain ⟨as, r1⟩ := Dp.reads I d x v hd rx
  obtain ⟨bs, r2⟩ := Dp.reads I _ y u he ry
  refine SeqAt.in_tuple_reads r2 r1 (SeqAt.canLay_of_shaped se) (SeqAt.canLay_of_shaped sd) (room_in_shaped sd hu) ?_
  exact ⟨.bl _, H, I, rfl, q⟩
theorem op_notInT (hu : X.A.units + 65 < cLine) : OpR X (compareOp .NotIn) (rNotInT X.K) := fun pins s σ H x y v u Q I rx ry ⟨d, ds, hd, he, sd, se, q⟩ => by
  obtain ⟨as, r1⟩ := Dp.reads I d x v hd rx
  obtain ⟨bs, r2⟩ := Dp.reads I _ y u he ry
  refine SeqAt.notIn_tuple_reads r2 r1 (SeqAt.canLay_of_shaped se) (SeqAt.canLay_of_shaped sd) (room_in_shaped sd hu) ?_
  exact ⟨.bl _, H, I, rfl, q⟩
def rInQ (K : PySem.W.Frag) : R2 := fun x y H Q => (rInD K x y H Q ∨ rInT K x y H Q) ∨ ∃ i j, x = .str i ∧ y = .str j ∧ Q (.bl (!(Builtin.Str.occurrences j i 0 j.length 1).isEmpty)) H
def rNotInQ (K : PySem.W.Frag) : R2 := fun x y H Q => (rNotInD K x y H Q ∨ rNotInT K x y H Q) ∨ ∃ i j, x = .str i ∧ y = .str j ∧ Q (.bl (!(!(Builtin.Str.occurrences j i 0 j.length 1).isEmpty))) H
theorem op_inQ (hu : X.A.units + 65 < cLine) (hK : X.K = K := by rfl) : OpR X (compareOp .In) (rInQ K) := by subst hK; exact ((op_inD hu).or (op_inT hu)).or op_in_str
theorem op_notInQ (hu : X.A.units + 65 < cLine) (hK : X.K = K := by rfl) : OpR X (compareOp .NotIn) (rNotInQ K) := by subst hK; exact ((op_notInD hu).or (op_notInT hu)).or op_notin_str
theorem op2_in : Op2 K (rInQ K) dIn := fun F H x y a b d Q s hx hy e q => by
  unfold dIn at e
  split at e
  · obtain ⟨⟨s1, s2⟩, rfl⟩ := ite_some e
    exact .inl (.inl ⟨_, _, hx.dp s (SeqAt.canLay_of_shaped s1), hy.dp s (SeqAt.canLay_of_shaped s2), s1, s2, q _ F H (.refl s) (.bl _)⟩)
  · obtain ⟨⟨s1, s2⟩, rfl⟩ := ite_some e
    exact .inl (.inr ⟨_, _, hx.dp s (SeqAt.canLay_of_shaped s1), hy.dp s (SeqAt.canLay_of_shaped s2), s1, s2, q _ F H (.refl s) (.bl _)⟩)
  · split at e
    · cases e; exact .inr ⟨_, _, hx.str, hy.str, q _ F H (.refl s) (.bl _)⟩
    · cases e
  · cases e
theorem op2_notIn : Op2 K (rNotInQ K) dNotIn := fun F H x y a b d Q s hx hy e q => by
  unfold dNotIn at e
  obtain ⟨c, e, e2⟩ := bind_some e
  unfold dIn at e
  split at e
  · obtain ⟨⟨s1, s2⟩, rfl⟩ := ite_some e
    cases e2
    exact .inl (.inl ⟨_, _, hx.dp s (SeqAt.canLay_of_shaped s1), hy.dp s (SeqAt.canLay_of_shaped s2), s1, s2, q _ F H (.refl s) (.bl _)⟩)
  · obtain ⟨⟨s1, s2⟩, rfl⟩ := ite_some e
    cases e2
    exact .inl (.inr ⟨_, _, hx.dp s (SeqAt.canLay_of_shaped s1), hy.dp s (SeqAt.canLay_of_shaped s2), s1, s2, q _ F H (.refl s) (.bl _)⟩)
  · split at e
    · cases e; cases e2; exact .inr ⟨_, _, hx.str, hy.str, q _ F H (.refl s) (.bl _)⟩
    · cases e
  · cases e
/-! ### places and slices -/
def dIx (a i : PyData) : Option PyData := match a, i with
  | .list xs, .int i => atI xs i
  | .tuple xs, .int i => atI xs i
  | .dict [(.none, .list xs)], .int i => atI xs i
  | .str z, .int i => if z.length ≤ sizeLine then (atI z.cps.toList i).bind fun c => some (.str ⟨#[c]⟩) else none
  | _, _ => none
theorem TVs.atI {F : Hp} {vs : List V} {ds : List PyData} (h : TVs K F vs ds) {i : Int} {d : PyData} (e : atI ds i = some d) : ∃ v, L2.atI vs i = some v ∧ TV K F v d := by
  unfold L2.atI at e ⊢
  rw [h.len]
  obtain ⟨j, ej, e⟩ := bind_some e
  rw [ej]
  exact h.at e
theorem op2_ix : Op2 K (rIx K) dIx := fun F H x y a b d Q s hx hy e q => by
  unfold dIx at e
  split at e
  · obtain ⟨p, vs, rfl, g, t⟩ := hx.lst s
    obtain ⟨v, ev, tv⟩ := t.atI e
    exact .inl ⟨p, vs, _, v, rfl, hy.int, .inl (.inl g), ev, q _ F H (.refl s) tv⟩
  · obtain ⟨p, vs, rfl, g, t⟩ := hx.tup s
    obtain ⟨v, ev, tv⟩ := t.atI e
    exact .inr (.inl ⟨p, vs, _, v, rfl, hy.int, g, ev, q _ F H (.refl s) tv⟩)
  · obtain ⟨p, vs, rfl, g, t⟩ := hx.scr s
    obtain ⟨v, ev, tv⟩ := t.atI e
    exact .inl ⟨p, vs, _, v, rfl, hy.int, g, ev, q _ F H (.refl s) tv⟩
  · split at e
    · obtain ⟨c, ec, e⟩ := bind_some e
      cases e
      exact .inr (.inr ⟨_, _, c, hx.str, hy.int, by assumption, ec, q _ F H (.refl s) (.str _)⟩)
    · cases e
  · cases e
theorem fp_ixQ (ha : FR K X a fa) (hb : FR K X b fb) (hp : PlainIx b) (hK : X.K = K := by rfl) : FP K X (.Subscript a b pos) (fB dIx fa fb) := by subst hK; exact fp_ix ix_seq op2_ix ha hb hp
def cutD {α : Type} (xs : List α) (lo hi : Option Int) : List α := (xs.drop (HT.sIx xs.length 0 lo)).take (HT.sIx xs.length xs.length hi - HT.sIx xs.length 0 lo)
theorem TVs.cut {F : Hp} {vs : List V} {ds : List PyData} (h : TVs K F vs ds) (lo hi : Option Int) : TVs K F (cutV vs lo hi) (cutD ds lo hi) := by
  unfold cutV cutD
  rw [h.len]
  exact (h.drop _).take _
def dSl (a : PyData) (lo hi : Option Int) : Option PyData := match a with
  | .list xs => some (.list (cutD xs lo hi))
  | .tuple xs => some (.tuple (cutD xs lo hi))
  | .str z => if z.length ≤ sizeLine then some (.str (cutS z lo hi)) else none
  | _ => none
def dSlL (a : PyData) (lo hi : Option Int) : Option (List PyData) := match a with
  | .list xs => some (cutD xs lo hi)
  | _ => none
theorem opS_list : OpSL K (rSlL K) dSlL := fun F H x a lo hi ds Q s hx e q => by
  unfold dSlL at e
  split at e
  · cases e
    obtain ⟨p, vs, rfl, g, t⟩ := hx.lst s
    exact ⟨p, vs, rfl, .inl (.inl g), fun l hl => q l _ F _ (.own s hl) hl (Same.none s hl) upd_same (t.cut lo hi)⟩
  · cases e
theorem opS_all : OpS K (fun x lo hi H Q => rSlL K x lo hi H Q ∨ (rSlA K x lo hi H Q ∨ L2.rSlS x lo hi H Q)) dSl := fun F H x a lo hi d Q s hx e q => by
  unfold dSl at e
  split at e
  · cases e
    refine .inl (opS_list F H x _ lo hi _ Q s hx rfl fun p vs F' H' g hp hF hH t => ?_)
    exact q _ _ _ (g.freeze s hp hH) (.lst upd_same (t.mono (same_upd hF)))
  · cases e
    obtain ⟨p, vs, rfl, g, t⟩ := hx.tup s
    have tc := t.cut lo hi
    refine .inr (.inl ⟨p, vs, rfl, g, fun z => ?_, fun _ l hl => q _ _ _ (.put s hl) (.tup (.of upd_same) (tc.mono (same_upd (Same.none s hl))))⟩)
    refine q _ F H (.refl s) ?_
    rw [show cutD _ lo hi = _ from ?_]
    · exact hx.tupT
    · unfold cutD
      rw [← t.len, z.1, z.2, List.drop_zero, Nat.sub_zero, t.len, List.take_length]
  · obtain ⟨hl, rfl⟩ := ite_some e
    exact .inr (.inr ⟨_, hx.str, hl, q _ F H (.refl s) (.str _)⟩)
  · cases e
variable {lo hi : Option Expr} {fl fh : FSt → Option (Option Int)}
theorem fp_slQ {p2 : Pos} (ha : FR K X a fa) (hl : FO K X lo fl) (hh : FO K X hi fh) (hK : X.K = K := by rfl) : FP K X (.Subscript a (.Slice lo hi none p2) pos) (fSl dSl fa fl fh) := by subst hK; exact fp_sl (sl_list.or (sl_tupA.or sl_str)) opS_all ha hl hh
theorem fn_slQ {p2 : Pos} (ha : FR K X a fa) (hl : FO K X lo fl) (hh : FO K X hi fh) (hK : X.K = K := by rfl) : FN K X (.Subscript a (.Slice lo hi none p2) pos) (fSlL dSlL fa fl fh) := by subst hK; exact fn_sl sl_list opS_list ha hl hh
/-! ### built-in functions -/
def OpC (K : PySem.W.Frag) (r : List V → Hp → VK → Prop) (f : List PyData → Option PyData) : Prop := ∀ F H xs as d Q, Same F H → All2 (RV K F H) xs as → f as = some d → (∀ v F' H', Grow F H F' H' → TV K F' v d → Q v H') → r xs H Q
def OpCL (K : PySem.W.Frag) (r : List V → Hp → VK → Prop) (f : List PyData → Option (List PyData)) : Prop := ∀ F H xs as ds Q, Same F H → All2 (RV K F H) xs as → f as = some ds → (∀ p vs F' H', Grow F H F' H' → H p = none → F' p = none → H' p = some (.lst vs) → TVs K F' vs ds → Q (.ref p) H') → r xs H Q
theorem tCB_of {r : List V → Hp → VK → Prop} {f : List PyData → Option PyData} (ho : OpC K r f) : ∀ σ H Q, tF K (fG f fs) σ H Q → tCB r (tAR K fs) σ H Q := fun σ H Q ⟨F0, H0, F, st, d, rp, e, q⟩ => by
  obtain ⟨x, ex, e⟩ := bind_some e
  exact ⟨F0, H0, F, st, x, rp, ex, fun vs F1 H1 g1 t1 => ho F1 H1 vs x d Q g1.sub t1 e fun u F3 H3 g3 t3 => q u F3 H3 (g1.trans g3) t3⟩
theorem tCBL_of {r : List V → Hp → VK → Prop} {f : List PyData → Option (List PyData)} (ho : OpCL K r f) : ∀ σ H Q, tN K (fGL f fs) σ H Q → tCB r (tAR K fs) σ H Q := fun σ H Q ⟨F0, H0, F, st, d, rp, e, q⟩ => by
  obtain ⟨x, ex, e⟩ := bind_some e
  exact ⟨F0, H0, F, st, x, rp, ex, fun vs F1 H1 g1 t1 => ho F1 H1 vs x d Q g1.sub t1 e fun p vs F3 H3 g3 h1 h2 h3 t3 => q p vs F3 H3 (g1.trans g3) (Same.none g1.hp h1) h2 h3 t3⟩
variable {x : Str} {bid T : String} {p : Pos}
theorem fp_callB {r : List V → Hp → VK → Prop} {f : List PyData → Option PyData} (hc : CallR X (.builtin bid) r) (ho : OpC K r f) (hg : Gl X x) (hm : X.mg x = none) (hv : bootBuiltins x = some (.builtin bid)) (ha : FAR K X (e :: es) fs) (hn : x ≠ "__name__" := by decide) (hdb : (x == ("__debug__" : Str)) = false := by decide)
    (he : starEach (e :: es) X.env = (false, eval e X.env) :: starEach es X.env := by rfl) (hpl : (backTo pos (starEach es X.env)).any (·.1) = false := by rfl) : FP K X (.Call (.Name x p) (e :: es) [] pos) (fG f fs) := PE.of (pe_callB hc hg hm hv ha hn hdb he hpl) (tCB_of ho)
theorem fp_callTy {r : List V → Hp → VK → Prop} {f : List PyData → Option PyData} (hc : CallR X (.type T) r) (ho : OpC K r f) (hg : Gl X x) (hm : X.mg x = none) (hv : bootBuiltins x = some (.type T)) (ha : FAR K X (e :: es) fs) (hn : x ≠ "__name__" := by decide) (hdb : (x == ("__debug__" : Str)) = false := by decide)
    (he : starEach (e :: es) X.env = (false, eval e X.env) :: starEach es X.env := by rfl) (hpl : (backTo pos (starEach es X.env)).any (·.1) = false := by rfl) : FP K X (.Call (.Name x p) (e :: es) [] pos) (fG f fs) := PE.of (pe_callTy hc hg hm hv ha hn hdb he hpl) (tCB_of ho)
theorem fn_callTy {r : List V → Hp → VK → Prop} {f : List PyData → Option (List PyData)} (hc : CallR X (.type T) r) (ho : OpCL K r f) (hg : Gl X x) (hm : X.mg x = none) (hv : bootBuiltins x = some (.type T)) (ha : FAR K X (e :: es) fs) (hn : x ≠ "__name__" := by decide) (hdb : (x == ("__debug__" : Str)) = false := by decide)
    (he : starEach (e :: es) X.env = (false, eval e X.env) :: starEach es X.env := by rfl) (hpl : (backTo pos (starEach es X.env)).any (·.1) = false := by rfl) : FN K X (.Call (.Name x p) (e :: es) [] pos) (fGL f fs) := PE.of (pe_callTy hc hg hm hv ha hn hdb he hpl) (tCBL_of ho)
theorem fn_callB {r : List V → Hp → VK → Prop} {f : List PyData → Option (List PyData)} (hc : CallR X (.builtin bid) r) (ho : OpCL K r f) (hg : Gl X x) (hm : X.mg x = none) (hv : bootBuiltins x = some (.builtin bid)) (ha : FAR K X (e :: es) fs) (hn : x ≠ "__name__" := by decide) (hdb : (x == ("__debug__" : Str)) = false := by decide)
    (he : starEach (e :: es) X.env = (false, eval e X.env) :: starEach es X.env := by rfl) (hpl : (backTo pos (starEach es X.env)).any (·.1) = false := by rfl) : FN K X (.Call (.Name x p) (e :: es) [] pos) (fGL f fs) := PE.of (pe_callB hc hg hm hv ha hn hdb he hpl) (tCBL_of ho)
theorem all2_1 {F H : Hp} {xs : List V} {a : PyData} (h : All2 (RV K F H) xs [a]) : ∃ x, xs = [x] ∧ RV K F H x a := by
  cases h with | cons r t => cases t; exact ⟨_, rfl, r⟩
theorem all2_2 {F H : Hp} {xs : List V} {a b : PyData} (h : All2 (RV K F H) xs [a, b]) : ∃ x y, xs = [x, y] ∧ RV K F H x a ∧ RV K F H y b := by
  cases h with | cons r t => cases t with | cons r2 t => cases t; exact ⟨_, _, rfl, r, r2⟩
/-- len -/
def dLen : List PyData → Option PyData
  | [.list xs] => some (.int (xs.length : Nat))
  | [.tuple xs] => some (.int (xs.length : Nat))
  | [.dict [(.none, .list xs)]] => some (.int (xs.length : Nat))
  | [.str z] => if z.length ≤ sizeLine then some (.int (z.length : Nat)) else none
  | _ => none
theorem call_lenQ : CallR X (.builtin "len") (fun xs H Q => (∃ p ys, xs = [.ref p] ∧ (SqL X.K H p ys ∨ SqT X.K H p ys) ∧ Q (.int ys.length) H) ∨ ∃ z, xs = [.str z] ∧ z.length ≤ sizeLine ∧ Q (.int z.length) H) := call_len_seq.or call_len_str
theorem opC_len : OpC K (fun xs H Q => (∃ p ys, xs = [.ref p] ∧ (SqL K H p ys ∨ SqT K H p ys) ∧ Q (.int ys.length) H) ∨ ∃ z, xs = [.str z] ∧ z.length ≤ sizeLine ∧ Q (.int z.length) H) dLen := fun F H xs as d Q s hx e q => by
  unfold dLen at e
  split at e
  · cases e
    obtain ⟨x, rfl, hz⟩ := all2_1 hx; replace hx := hz
    obtain ⟨p, vs, rfl, g, t⟩ := hx.lst s
    exact .inl ⟨p, vs, rfl, .inl (.inl (.inl g)), by rw [t.len]; exact q _ F H (.refl s) (.int _)⟩
  · cases e
    obtain ⟨x, rfl, hz⟩ := all2_1 hx; replace hx := hz
    obtain ⟨p, vs, rfl, g, t⟩ := hx.tup s
    exact .inl ⟨p, vs, rfl, .inr g, by rw [t.len]; exact q _ F H (.refl s) (.int _)⟩
  · cases e
    obtain ⟨x, rfl, hz⟩ := all2_1 hx; replace hx := hz
    obtain ⟨p, vs, rfl, g, t⟩ := hx.scr s
    exact .inl ⟨p, vs, rfl, .inl g, by rw [t.len]; exact q _ F H (.refl s) (.int _)⟩
  · obtain ⟨hl, rfl⟩ := ite_some e
    obtain ⟨x, rfl, hz⟩ := all2_1 hx; replace hx := hz
    obtain rfl := hx.str
    exact .inr ⟨_, rfl, hl, q _ F H (.refl s) (.int _)⟩
  · cases e
theorem fp_len (hg : Gl X "len") (hm : X.mg "len" = none) (ha : FAR K X (e :: es) fs) (he : starEach (e :: es) X.env = (false, eval e X.env) :: starEach es X.env := by rfl) (hpl : (backTo pos (starEach es X.env)).any (·.1) = false := by rfl) (hK : X.K = K := by rfl) : FP K X (.Call (.Name "len" p) (e :: es) [] pos) (fG dLen fs) := by
  subst hK; exact fp_callB call_lenQ opC_len hg hm PySem.boot_len ha (by decide) (by decide) he hpl
/-- list(x), tuple(x) of a list, a tuple -/
def dListL : List PyData → Option (List PyData)
  | [.list xs] => some xs
  | [.tuple xs] => some xs
  | _ => none
def dTuple : List PyData → Option PyData
  | [.list xs] => some (.tuple xs)
  | [.tuple xs] => some (.tuple xs)
  | _ => none
theorem opC_list : OpCL K (fun xs H Q => ∃ p ys, xs = [.ref p] ∧ (SqL K H p ys ∨ SqT K H p ys) ∧ ∀ l, H l = none → Q (.ref l) (upd H l (.lst ys))) dListL := fun F H xs as d Q s hx e q => by
  unfold dListL at e
  split at e
  · cases e
    obtain ⟨x, rfl, hz⟩ := all2_1 hx; replace hx := hz
    obtain ⟨p, vs, rfl, g, t⟩ := hx.lst s
    exact ⟨p, vs, rfl, .inl (.inl (.inl g)), fun l hl => q l _ F _ (.own s hl) hl (Same.none s hl) upd_same t⟩
  · cases e
    obtain ⟨x, rfl, hz⟩ := all2_1 hx; replace hx := hz
    obtain ⟨p, vs, rfl, g, t⟩ := hx.tup s
    exact ⟨p, vs, rfl, .inr g, fun l hl => q l _ F _ (.own s hl) hl (Same.none s hl) upd_same t⟩
  · cases e
theorem opC_tuple : OpC K (fun xs H Q => ∃ p ys, xs = [.ref p] ∧ ((SqL K H p ys ∧ ∀ l, H l = none → Q (.ref l) (upd H l (.tup ys))) ∨ (SqT K H p ys ∧ Q (.ref p) H))) dTuple := fun F H xs as d Q s hx e q => by
  unfold dTuple at e
  split at e
  · cases e
    obtain ⟨x, rfl, hz⟩ := all2_1 hx; replace hx := hz
    obtain ⟨p, vs, rfl, g, t⟩ := hx.lst s
    exact ⟨p, vs, rfl, .inl ⟨.inl (.inl g), fun l hl => q _ _ _ (.put s hl) (.tup (.of upd_same) (t.mono (same_upd (Same.none s hl))))⟩⟩
  · cases e
    obtain ⟨x, rfl, hz⟩ := all2_1 hx; replace hx := hz
    obtain ⟨p, vs, rfl, g, t⟩ := hx.tup s
    exact ⟨p, vs, rfl, .inr ⟨g, q _ F H (.refl s) hx.tupT⟩⟩
  · cases e
theorem fn_list (hg : Gl X "list") (hm : X.mg "list" = none) (ha : FAR K X (e :: es) fs) (he : starEach (e :: es) X.env = (false, eval e X.env) :: starEach es X.env := by rfl) (hpl : (backTo pos (starEach es X.env)).any (·.1) = false := by rfl) (hK : X.K = K := by rfl) : FN K X (.Call (.Name "list" p) (e :: es) [] pos) (fGL dListL fs) := by
  subst hK; exact fn_callTy call_list_of opC_list hg hm (by decide +kernel) ha (by decide) (by decide) he hpl
theorem fp_tuple (hg : Gl X "tuple") (hm : X.mg "tuple" = none) (ha : FAR K X (e :: es) fs) (he : starEach (e :: es) X.env = (false, eval e X.env) :: starEach es X.env := by rfl) (hpl : (backTo pos (starEach es X.env)).any (·.1) = false := by rfl) (hK : X.K = K := by rfl) : FP K X (.Call (.Name "tuple" p) (e :: es) [] pos) (fG dTuple fs) := by
  subst hK; exact fp_callTy call_tuple_of opC_tuple hg hm (by decide +kernel) ha (by decide) (by decide) he hpl
/-- int(x), abs, min, max, ord -/
def dInt : List PyData → Option PyData
  | [.int i] => some (.int i)
  | [.bool k] => some (.int (if k then 1 else 0))
  | _ => none
theorem opC_int : OpC K (fun xs H Q => (∃ i, xs = [.int i] ∧ Q (.int i) H) ∨ ∃ k, xs = [.bl k] ∧ Q (.int (if k then 1 else 0)) H) dInt := fun F H xs as d Q s hx e q => by
  unfold dInt at e
  split at e
  · cases e
    obtain ⟨x, rfl, hz⟩ := all2_1 hx; replace hx := hz
    exact .inl ⟨_, by rw [hx.int], q _ F H (.refl s) (.int _)⟩
  · cases e
    obtain ⟨x, rfl, hz⟩ := all2_1 hx; replace hx := hz
    exact .inr ⟨_, by rw [hx.bl], q _ F H (.refl s) (.int _)⟩
  · cases e
theorem fp_int1 (hg : Gl X "int") (hm : X.mg "int" = none) (ha : FAR K X (e :: es) fs) (he : starEach (e :: es) X.env = (false, eval e X.env) :: starEach es X.env := by rfl) (hpl : (backTo pos (starEach es X.env)).any (·.1) = false := by rfl) : FP K X (.Call (.Name "int" p) (e :: es) [] pos) (fG dInt fs) :=
  fp_callTy call_int1 opC_int hg hm (by decide +kernel) ha (by decide) (by decide) he hpl
def d1I (g : Int → PyData) : List PyData → Option PyData
  | [.int i] => some (g i)
  | _ => none
def d2I (g : Int → Int → PyData) : List PyData → Option PyData
  | [.int i, .int j] => some (g i j)
  | _ => none
def dAbs := d1I fun i => .int (if i < 0 then -i else i)
def dMax2 := d2I fun i j => .int (if j > i then j else i)
def dMin2 := d2I fun i j => .int (if j < i then j else i)
theorem fp_abs (hg : Gl X "abs") (hm : X.mg "abs" = none) (ha : FAR K X (e :: es) fs) (he : starEach (e :: es) X.env = (false, eval e X.env) :: starEach es X.env := by rfl) (hpl : (backTo pos (starEach es X.env)).any (·.1) = false := by rfl) : FP K X (.Call (.Name "abs" p) (e :: es) [] pos) (fG dAbs fs) :=
  fp_callB call_abs (fun F H xs as d Q s hx e q => by
    unfold dAbs d1I at e
    split at e
    · cases e
      obtain ⟨x, rfl, hz⟩ := all2_1 hx; replace hx := hz
      exact ⟨_, by rw [hx.int], q _ F H (.refl s) (.int _)⟩
    · cases e) hg hm (by decide +kernel) ha (by decide) (by decide) he hpl
theorem fp_max2 (hc : X.calm = true) (hg : Gl X "max") (hm : X.mg "max" = none) (ha : FAR K X (e :: es) fs) (he : starEach (e :: es) X.env = (false, eval e X.env) :: starEach es X.env := by rfl) (hpl : (backTo pos (starEach es X.env)).any (·.1) = false := by rfl) : FP K X (.Call (.Name "max" p) (e :: es) [] pos) (fG dMax2 fs) :=
  fp_callB (call_max2 hc) (fun F H xs as d Q s hx e q => by
    unfold dMax2 d2I at e
    split at e
    · cases e
      obtain ⟨x, y, rfl, hx, hy⟩ := all2_2 hx
      exact ⟨_, _, by rw [hx.int, hy.int], q _ F H (.refl s) (.int _)⟩
    · cases e) hg hm (by decide +kernel) ha (by decide) (by decide) he hpl
theorem fp_min2 (hc : X.calm = true) (hg : Gl X "min") (hm : X.mg "min" = none) (ha : FAR K X (e :: es) fs) (he : starEach (e :: es) X.env = (false, eval e X.env) :: starEach es X.env := by rfl) (hpl : (backTo pos (starEach es X.env)).any (·.1) = false := by rfl) : FP K X (.Call (.Name "min" p) (e :: es) [] pos) (fG dMin2 fs) :=
  fp_callB (call_min2 hc) (fun F H xs as d Q s hx e q => by
    unfold dMin2 d2I at e
    split at e
    · cases e
      obtain ⟨x, y, rfl, hx, hy⟩ := all2_2 hx
      exact ⟨_, _, by rw [hx.int, hy.int], q _ F H (.refl s) (.int _)⟩
    · cases e) hg hm (by decide +kernel) ha (by decide) (by decide) he hpl
def dOrd : List PyData → Option PyData
  | [.str x] => if x.length = 1 then some (.int (x.cps.getD 0 0 : Nat)) else none
  | _ => none
theorem fp_ord (hg : Gl X "ord") (hm : X.mg "ord" = none) (ha : FAR K X (e :: es) fs) (he : starEach (e :: es) X.env = (false, eval e X.env) :: starEach es X.env := by rfl) (hpl : (backTo pos (starEach es X.env)).any (·.1) = false := by rfl) : FP K X (.Call (.Name "ord" p) (e :: es) [] pos) (fG dOrd fs) :=
  fp_callB call_ord (fun F H xs as d Q s hx e q => by
    unfold dOrd at e
    split at e
    · obtain ⟨hl, rfl⟩ := ite_some e
      obtain ⟨x, rfl, hz⟩ := all2_1 hx; replace hx := hz
      exact ⟨_, by rw [hx.str], hl, q _ F H (.refl s) (.int _)⟩
    · cases e) hg hm (by decide +kernel) ha (by decide) (by decide) he hpl
/-- str(n) -/
def dStrI : List PyData → Option PyData
  | [.int i] => if i.natAbs.log2 < 1920 then some (.str (toString i)) else none
  | _ => none
theorem fp_strI (hg : Gl X "str") (hm : X.mg "str" = none) (ha : FAR K X (e :: es) fs) (he : starEach (e :: es) X.env = (false, eval e X.env) :: starEach es X.env := by rfl) (hpl : (backTo pos (starEach es X.env)).any (·.1) = false := by rfl) : FP K X (.Call (.Name "str" p) (e :: es) [] pos) (fG dStrI fs) :=
  fp_callTy call_str_int (fun F H xs as d Q s hx e q => by
    unfold dStrI at e
    split at e
    · obtain ⟨hl, rfl⟩ := ite_some e
      obtain ⟨x, rfl, hz⟩ := all2_1 hx; replace hx := hz
      exact ⟨_, by rw [hx.int], hl, q _ F H (.refl s) (.str _)⟩
    · cases e) hg hm (by decide +kernel) ha (by decide) (by decide) he hpl
/-- sum, all, any of a list -/
def intsOf : List PyData → Option (List Int)
  | [] => some []
  | .int i :: r => (intsOf r).bind fun xs => some (i :: xs)
  | _ => none
def blsOf : List PyData → Option (List Bool)
  | [] => some []
  | .bool i :: r => (blsOf r).bind fun xs => some (i :: xs)
  | _ => none
theorem intsOf_map : ∀ ns : List Int, intsOf (ns.map PyData.int) = some ns
  | [] => rfl
  | n :: r => by rw [List.map_cons, intsOf, intsOf_map r]; rfl
theorem blsOf_map : ∀ ns : List Bool, blsOf (ns.map PyData.bool) = some ns
  | [] => rfl
  | n :: r => by rw [List.map_cons, blsOf, blsOf_map r]; rfl
theorem intsOf_eq : ∀ {ds : List PyData} {ns : List Int}, intsOf ds = some ns → ds = ns.map PyData.int
  | [], ns, h => by cases h; rfl
  | .int i :: r, ns, h => by
    unfold intsOf at h
    obtain ⟨xs, h1, h2⟩ := bind_some h
    cases h2
    rw [List.map_cons, intsOf_eq h1]
  | .none :: _, _, h => by cases h
  | .bool _ :: _, _, h => by cases h
  | .str _ :: _, _, h => by cases h
  | .list _ :: _, _, h => by cases h
  | .tuple _ :: _, _, h => by cases h
  | .dict _ :: _, _, h => by cases h
theorem blsOf_eq : ∀ {ds : List PyData} {ns : List Bool}, blsOf ds = some ns → ds = ns.map PyData.bool
  | [], ns, h => by cases h; rfl
  | .bool i :: r, ns, h => by
    unfold blsOf at h
    obtain ⟨xs, h1, h2⟩ := bind_some h
    cases h2
    rw [List.map_cons, blsOf_eq h1]
  | .none :: _, _, h => by cases h
  | .int _ :: _, _, h => by cases h
  | .str _ :: _, _, h => by cases h
  | .list _ :: _, _, h => by cases h
  | .tuple _ :: _, _, h => by cases h
  | .dict _ :: _, _, h => by cases h
theorem TVs.of_bls {F : Hp} : ∀ {vs : List V} {ns : List Bool}, TVs K F vs (ns.map PyData.bool) → vs = ns.map V.bl
  | _, [], h => by cases h; rfl
  | _, n :: r, h => by
    rw [List.map_cons] at h
    cases h with
    | cons a b =>
      cases a
      rw [TVs.of_bls b]
      rfl
def dSum : List PyData → Option PyData
  | [.list xs] => (intsOf xs).bind fun ns => some (.int ns.sum)
  | _ => none
def dAll : List PyData → Option PyData
  | [.list xs] => (blsOf xs).bind fun ns => some (.bool (ns.all id))
  | _ => none
def dAny : List PyData → Option PyData
  | [.list xs] => (blsOf xs).bind fun ns => some (.bool (ns.any id))
  | _ => none
theorem fp_sum (hc : X.calm = true) (hg : Gl X "sum") (hm : X.mg "sum" = none) (ha : FAR K X (e :: es) fs) (he : starEach (e :: es) X.env = (false, eval e X.env) :: starEach es X.env := by rfl) (hpl : (backTo pos (starEach es X.env)).any (·.1) = false := by rfl) (hK : X.K = K := by rfl) : FP K X (.Call (.Name "sum" p) (e :: es) [] pos) (fG dSum fs) := by
  subst hK
  refine fp_callB (cr_sum hc) (fun F H xs as d Q s hx e q => ?_) hg hm (by decide +kernel) ha (by decide) (by decide) he hpl
  unfold dSum at e
  split at e
  · obtain ⟨ns, en, e⟩ := bind_some e
    cases e
    obtain ⟨x, rfl, hz⟩ := all2_1 hx; replace hx := hz
    rw [intsOf_eq en] at hx
    obtain ⟨p, vs, rfl, g, t⟩ := hx.lst s
    rw [t.of_ints] at g
    exact ⟨p, ns, rfl, .inl (.inl g), q _ F H (.refl s) (.int _)⟩
  · cases e
theorem fp_all (hc : X.calm = true) (hg : Gl X "all") (hm : X.mg "all" = none) (ha : FAR K X (e :: es) fs) (he : starEach (e :: es) X.env = (false, eval e X.env) :: starEach es X.env := by rfl) (hpl : (backTo pos (starEach es X.env)).any (·.1) = false := by rfl) (hK : X.K = K := by rfl) : FP K X (.Call (.Name "all" p) (e :: es) [] pos) (fG dAll fs) := by
  subst hK
  refine fp_callB (cr_all hc) (fun F H xs as d Q s hx e q => ?_) hg hm (by decide +kernel) ha (by decide) (by decide) he hpl
  unfold dAll at e
  split at e
  · obtain ⟨ns, en, e⟩ := bind_some e
    cases e
    obtain ⟨x, rfl, hz⟩ := all2_1 hx; replace hx := hz
    rw [blsOf_eq en] at hx
    obtain ⟨p, vs, rfl, g, t⟩ := hx.lst s
    rw [t.of_bls] at g
    exact ⟨p, ns, rfl, .inl (.inl g), q _ F H (.refl s) (.bl _)⟩
  · cases e
theorem fp_any (hc : X.calm = true) (hg : Gl X "any") (hm : X.mg "any" = none) (ha : FAR K X (e :: es) fs) (he : starEach (e :: es) X.env = (false, eval e X.env) :: starEach es X.env := by rfl) (hpl : (backTo pos (starEach es X.env)).any (·.1) = false := by rfl) (hK : X.K = K := by rfl) : FP K X (.Call (.Name "any" p) (e :: es) [] pos) (fG dAny fs) := by
  subst hK
  refine fp_callB (cr_any hc) (fun F H xs as d Q s hx e q => ?_) hg hm (by decide +kernel) ha (by decide) (by decide) he hpl
  unfold dAny at e
  split at e
  · obtain ⟨ns, en, e⟩ := bind_some e
    cases e
    obtain ⟨x, rfl, hz⟩ := all2_1 hx; replace hx := hz
    rw [blsOf_eq en] at hx
    obtain ⟨p, vs, rfl, g, t⟩ := hx.lst s
    rw [t.of_bls] at g
    exact ⟨p, ns, rfl, .inl (.inl g), q _ F H (.refl s) (.bl _)⟩
  · cases e
/-- isinstance(x, T), T a built-in type -/
def tyn : PyData → String
  | .none => "NoneType"
  | .bool _ => "bool"
  | .int _ => "int"
  | .str _ => "str"
  | .list _ => "list"
  | .tuple _ => "tuple"
  | .dict ((.none, _) :: _) => "list"
  | .dict _ => "dict"
def dIsi (n : String) (a : PyData) : Option PyData := (kitB (tyn a) n).bind fun b => some (.bool b)
def isIntD : PyData → Bool
  | .int _ => true
  | .bool _ => true
  | _ => false
def isBoolD : PyData → Bool
  | .bool _ => true
  | _ => false
def isStrD : PyData → Bool
  | .str _ => true
  | _ => false
def isTupD : PyData → Bool
  | .tuple _ => true
  | _ => false
def isListD : PyData → Bool
  | .list _ => true
  | .dict ((.none, _) :: _) => true
  | _ => false
theorem kd1 : kitB "dict" "int" = some false := by decide +kernel
theorem kd2 : kitB "dict" "bool" = some false := by decide +kernel
theorem kd3 : kitB "dict" "str" = some false := by decide +kernel
theorem kd4 : kitB "dict" "tuple" = some false := by decide +kernel
theorem kd5 : kitB "dict" "list" = some false := by decide +kernel
theorem kd6 : kitB "str" "bool" = some false := by decide +kernel
theorem kd7 : kitB "str" "list" = some false := by decide +kernel
theorem kd8 : kitB "tuple" "list" = some false := by decide +kernel
theorem kd9 : kitB "int" "list" = some false := by decide +kernel
theorem kd10 : kitB "bool" "list" = some false := by decide +kernel
theorem tyn_dict (es : List (PyData × PyData)) : tyn (.dict es) = "dict" ∨ (tyn (.dict es) = "list" ∧ ∃ d r, es = (.none, d) :: r) := by
  unfold tyn
  split
  all_goals first | (rename_i h; cases h; exact .inr ⟨rfl, _, _, rfl⟩) | exact .inl rfl | (rename_i h; exact absurd h (by simp))
theorem dIsi_int (a : PyData) : dIsi "int" a = some (.bool (isIntD a)) := by
  unfold dIsi
  cases a with
  | dict es => rcases tyn_dict es with h | ⟨h, _⟩ <;> rw [h] <;> first | (rw [kd1]; rfl) | (rw [kb25]; rfl)
  | none => rw [show tyn .none = "NoneType" from rfl, kb9]; rfl
  | bool b => rw [show tyn (.bool b) = "bool" from rfl, kb4]; rfl
  | int b => rw [show tyn (.int b) = "int" from rfl, kb1]; rfl
  | str b => rw [show tyn (.str b) = "str" from rfl, kb6]; rfl
  | list b => rw [show tyn (.list b) = "list" from rfl, kb25]; rfl
  | tuple b => rw [show tyn (.tuple b) = "tuple" from rfl, kb26]; rfl
theorem dIsi_bool (a : PyData) : dIsi "bool" a = some (.bool (isBoolD a)) := by
  unfold dIsi
  cases a with
  | dict es => rcases tyn_dict es with h | ⟨h, _⟩ <;> rw [h] <;> first | (rw [kd2]; rfl) | (rw [kb27]; rfl)
  | none => rw [show tyn .none = "NoneType" from rfl, kb29]; rfl
  | bool b => rw [show tyn (.bool b) = "bool" from rfl, kb3]; rfl
  | int b => rw [show tyn (.int b) = "int" from rfl, kb2]; rfl
  | str b => rw [show tyn (.str b) = "str" from rfl, kb30]; rfl
  | list b => rw [show tyn (.list b) = "list" from rfl, kb27]; rfl
  | tuple b => rw [show tyn (.tuple b) = "tuple" from rfl, kb28]; rfl
theorem dIsi_str (a : PyData) : dIsi "str" a = some (.bool (isStrD a)) := by
  unfold dIsi
  cases a with
  | dict es => rcases tyn_dict es with h | ⟨h, _⟩ <;> rw [h] <;> first | (rw [kd3]; rfl) | (rw [kb19]; rfl)
  | none => rw [show tyn .none = "NoneType" from rfl, kb16]; rfl
  | bool b => rw [show tyn (.bool b) = "bool" from rfl, kb17]; rfl
  | int b => rw [show tyn (.int b) = "int" from rfl, kb18]; rfl
  | str b => rw [show tyn (.str b) = "str" from rfl, kb5]; rfl
  | list b => rw [show tyn (.list b) = "list" from rfl, kb19]; rfl
  | tuple b => rw [show tyn (.tuple b) = "tuple" from rfl, kb20]; rfl
theorem dIsi_tuple (a : PyData) : dIsi "tuple" a = some (.bool (isTupD a)) := by
  unfold dIsi
  cases a with
  | dict es => rcases tyn_dict es with h | ⟨h, _⟩ <;> rw [h] <;> first | (rw [kd4]; rfl) | (rw [kb15]; rfl)
  | none => rw [show tyn .none = "NoneType" from rfl, kb11]; rfl
  | bool b => rw [show tyn (.bool b) = "bool" from rfl, kb12]; rfl
  | int b => rw [show tyn (.int b) = "int" from rfl, kb13]; rfl
  | str b => rw [show tyn (.str b) = "str" from rfl, kb14]; rfl
  | list b => rw [show tyn (.list b) = "list" from rfl, kb15]; rfl
  | tuple b => rw [show tyn (.tuple b) = "tuple" from rfl, kb8]; rfl
theorem isListD_no {es : List (PyData × PyData)} (h : tyn (.dict es) = "dict") : isListD (.dict es) = false := by
  unfold isListD
  split
  · rename_i e; cases e
  · rename_i e; cases e; exact absurd h (by show ¬ ("list" = "dict"); decide)
  · rfl
theorem dIsi_list (a : PyData) : dIsi "list" a = some (.bool (isListD a)) := by
  unfold dIsi
  cases a with
  | dict es =>
    rcases tyn_dict es with h | ⟨h, d, r, rfl⟩
    · rw [h, kd5, isListD_no h]; rfl
    · rw [h, kb7]; rfl
  | none => rw [show tyn .none = "NoneType" from rfl, kb10]; rfl
  | bool b => rw [show tyn (.bool b) = "bool" from rfl, kb21]; rfl
  | int b => rw [show tyn (.int b) = "int" from rfl, kb22]; rfl
  | str b => rw [show tyn (.str b) = "str" from rfl, kb23]; rfl
  | list b => rw [show tyn (.list b) = "list" from rfl, kb7]; rfl
  | tuple b => rw [show tyn (.tuple b) = "tuple" from rfl, kb24]; rfl
end

/-! ## isinstance, calls -/
section
variable {K : PySem.W.Frag} {X : Cx} {a b c e : Expr} {es : List Expr} {fa fb fc : FSt → Option PyData} {fs : FSt → Option (List PyData)} {pos p : Pos}
theorem dict_ty {es : List (PyData × PyData)} (h : ∀ d r, es ≠ (.none, d) :: r) : tyn (.dict es) = "dict" := by
  rcases tyn_dict es with e | ⟨_, d, r, rfl⟩
  · exact e
  · exact absurd rfl (h d r)
theorem no_kK {F : Hp} {kvs : List (L2.Key × V)} {es : List (PyData × PyData)} (h : TVk K F kvs es) : ∀ d r, es ≠ (.none, d) :: r := fun d r e => by subst e; exact no_noneK h
theorem no_kT {F : Hp} {kvs : List (List L2.Key × V)} {es : List (PyData × PyData)} (h : TVt K F kvs es) : ∀ d r, es ≠ (.none, d) :: r := fun d r e => by subst e; exact no_noneT h
theorem RV.ty {F H : Hp} (s : Same F H) {v : V} {d : PyData} (h : RV K F H v d) : TyX K H v (.type (tyn d)) := by
  cases d with
  | none => rw [h.non]; exact .base .non
  | bool b => rw [h.bl]; exact .base (.bl _)
  | int b => rw [h.int]; exact .base (.int _)
  | str b => rw [h.str]; exact .base (.str _)
  | list ds =>
    obtain ⟨p, vs, rfl, g, t⟩ := h.lst s
    exact .base (.lst g)
  | tuple ds =>
    obtain ⟨p, vs, rfl, g, t⟩ := h.tup s
    rcases g with (g | ⟨o, g⟩) | ⟨o, its, k, h1, h2, _⟩
    · exact .base (.tup g)
    · exact .fTuple g
    · exact .kTuple h1 h2
  | dict es =>
    cases h.tv s with
    | dic g t => rw [dict_ty (no_kK t)]; exact .base (.dK g)
    | diT g t => rw [dict_ty (no_kT t)]; exact .base (.dT g)
    | scr g t =>
      show TyX K H _ (.type "list")
      rcases g with (g | ⟨o, g⟩) | ⟨o, its, n, h1, h2, _⟩
      · exact .base (.lst g)
      · exact .base (.frz g)
      · exact .kList h1 h2
theorem fp_isi {n : String} {T : Str} {pT : Pos} (hg : Gl X "isinstance") (hm : X.mg "isinstance" = none) (ha : FR K X e fa) (hT : PE X (.Name T pT) (tC (.ty n))) (he : starEach [e, .Name T pT] X.env = (false, eval e X.env) :: starEach [.Name T pT] X.env := by rfl)
    (he2 : starEach [.Name T pT] X.env = (false, eval (.Name T pT) X.env) :: starEach [] X.env := by rfl) (hpl : (backTo pos (starEach [.Name T pT] X.env)).any (·.1) = false := by rfl) (hK : X.K = K := by rfl) : FP K X (.Call (.Name "isinstance" p) [e, .Name T pT] [] pos) (fU (dIsi n) fa) := by
  subst hK
  refine PE.of (pe_callB call_isi hg hm (by decide +kernel) (pa_cons ha (pa_cons hT pa_nil he2) he) (by decide) (by decide) he hpl) fun σ H Q ⟨F0, H0, F, st, d, rp, e, q⟩ => ?_
  obtain ⟨x, ex, e⟩ := bind_some e
  refine ⟨F0, H0, F, st, x, rp, ex, fun v F1 H1 g1 t1 => ?_⟩
  unfold dIsi at e
  obtain ⟨b, eb, e⟩ := bind_some e
  cases e
  exact ⟨v, .ty n, .type (tyn x), .type n, b, rfl, .ty n, t1.ty g1.sub, kit_ty eb, q _ F1 H1 g1 (.bl b)⟩
def spF (K : PySem.W.Frag) (f : List PyData → Option PyData) : Sp := fun vs H Q _ => ∃ F ds d, Same F H ∧ TVs K F vs ds ∧ f ds = some d ∧ ∀ v F' H', Grow F H F' H' → TV K F' v d → Q v H'
section
variable {CX : CXT} {k : Nat} {f : Addr} {fd : FuncData} {ps : List Str} {Ff : List PyData → Option PyData} {E : XK} {x : Str}
theorem fp_call (F : FnOk X.prog X.w X.K X.mg X.base CX k f fd ps (spF X.K Ff)) (hr : Room k X.A) (hg : Gl X x) (hm : X.mg x = some (.ref f)) (hk : PySem.W.keepIn X.K (.ref f) = true) (hb : Binds X.K fd ps []) (hx : Passes CX X E)
    (ha : FA K X (e :: es) fs) (hdb : (x == ("__debug__" : Str)) = false := by decide) (he : starEach (e :: es) X.env = (false, eval e X.env) :: starEach es X.env := by rfl) (hpl : (backTo pos (starEach es X.env)).any (·.1) = false := by rfl) (hK : X.K = K := by rfl) :
    FP K X (.Call (.Name x p) (e :: es) [] pos) (fG Ff fs) := by
  subst hK
  refine PE.of (pe_call F hr hg hm hk hb .nil hx ha hdb he hpl) fun σ H Q ⟨F0, H0, F, st, d, rp, e, q⟩ => ?_
  obtain ⟨xs, ex, e⟩ := bind_some e
  exact ⟨F0, H0, F, st, xs, rp, ex, fun vs F1 H1 g1 t1 => ⟨F1, xs, d, g1.sub, by rw [List.append_nil]; exact t1, e, fun v F2 H2 g2 t2 => q v F2 H2 (g1.trans g2) t2⟩⟩
theorem fp_call0 (F : FnOk X.prog X.w X.K X.mg X.base CX k f fd ps (spF X.K Ff)) (hr : Room k X.A) (hg : Gl X x) (hm : X.mg x = some (.ref f)) (hk : PySem.W.keepIn X.K (.ref f) = true) (hb : Binds X.K fd ps []) (hx : Passes CX X E)
    (hdb : (x == ("__debug__" : Str)) = false := by decide) (hK : X.K = K := by rfl) :
    FP K X (.Call (.Name x p) [] [] pos) (fG Ff fNil) := by
  subst hK
  refine PE.of (pe_call0 F hr hg hm hk hb .nil hx hdb) fun σ H Q ⟨F0, H0, F, st, d, rp, e, q⟩ => ?_
  obtain ⟨xs, ex, e⟩ := bind_some e
  cases ex
  exact ⟨F, [], d, rp.sub, .nil, e, fun v F2 H2 g2 t2 => q v F2 H2 g2 t2⟩
end
end
/-! ## what is walked -/
structure WalkD (K : PySem.W.Frag) (F G : Hp) (J : It) (ds : List PyData) : Prop where
  go : ∀ F1 H1 i, Same F F1 → Same F1 H1 → Same G H1 → i < ds.length → J.go i H1
  stop : ∀ F1 H1, Same F F1 → Same F1 H1 → Same G H1 → J.stop ds.length H1
  yld : ∀ F1 H1 i x H2, Same F F1 → Same F1 H1 → Same G H1 → i < ds.length → J.yld i H1 x H2 → ∃ F2 d, Grow F1 H1 F2 H2 ∧ ds[i]? = some d ∧ TV K F2 x d
/-- for a statement's loop: what is walked stays; for a comprehension: as it stands -/
def iF (K : PySem.W.Frag) (f : FSt → Option (List PyData)) : TI := fun σ H R => ∃ F0 H0 F st ds, Rp K F0 H0 F H st σ ∧ f st = some ds ∧ ∀ J F' H', Grow F H F' H' → WalkD K F' F' J ds → R J H'
def iR (K : PySem.W.Frag) (f : FSt → Option (List PyData)) : TI := fun σ H R => ∃ F0 H0 F st ds, Rp K F0 H0 F H st σ ∧ f st = some ds ∧ ∀ J F' H', Grow F H F' H' → WalkD K F' H' J ds → R J H'
abbrev FI (K : PySem.W.Frag) (X : Cx) (tg e : Expr) (f : FSt → Option (List PyData)) := PI X tg e (iF K f)
abbrev FIR (K : PySem.W.Frag) (X : Cx) (tg e : Expr) (f : FSt → Option (List PyData)) := PI X tg e (iR K f)
def signs (z : Str) : List PyData := z.cps.toList.map fun c => .str ⟨#[c]⟩
def dIter : PyData → Option (List PyData)
  | .list xs => some xs
  | .tuple xs => some xs
  | .str z => some (signs z)
  | _ => none
def fIter (a : FSt → Option PyData) : FSt → Option (List PyData) := fun st => (a st).bind dIter
section
variable {K : PySem.W.Frag} {F G : Hp} {ds : List PyData} {vs : List V}
theorem TVs.yat (t : TVs K F vs ds) {F1 H1 : Hp} (s : Same F F1) (s1 : Same F1 H1) {i : Nat} (hi : i < ds.length) {x : V} (hx : vs[i]? = some x) : ∃ F2 d, Grow F1 H1 F2 H1 ∧ ds[i]? = some d ∧ TV K F2 x d := by
  obtain ⟨d, hd, tv⟩ := t.at' hx
  exact ⟨F1, d, .refl s1, hd, tv.mono s⟩
theorem walkD_list {a : Addr} (g : Rd G a (.lst vs)) (t : TVs K F vs ds) : WalkD K F G (Itl K a) ds :=
  ⟨fun F1 H1 i s s1 s2 hi => ⟨vs, vs[i]'(by rw [t.len]; exact hi), .inl (rd_mono s2 g), List.getElem?_eq_getElem _⟩, fun F1 H1 s s1 s2 => ⟨vs, .inl (rd_mono s2 g), by rw [t.len]; exact Nat.le_refl _⟩,
   fun F1 H1 i x H2 s s1 s2 hi y => by
    obtain ⟨rfl, y⟩ := y
    exact t.yat s s1 hi (y vs (.inl (rd_mono s2 g)))⟩
theorem walkD_tup {a : Addr} (g : SqT K G a vs) (t : TVs K F vs ds) : WalkD K F G (Itt K a) ds :=
  ⟨fun F1 H1 i s s1 s2 hi => ⟨vs, vs[i]'(by rw [t.len]; exact hi), s2.seqT g, List.getElem?_eq_getElem _⟩, fun F1 H1 s s1 s2 => ⟨vs, s2.seqT g, by rw [t.len]; exact Nat.le_refl _⟩,
   fun F1 H1 i x H2 s s1 s2 hi y => by
    obtain ⟨rfl, y⟩ := y
    exact t.yat s s1 hi (y vs (s2.seqT g))⟩
theorem signs_len (z : Str) : (signs z).length = z.cps.size := by unfold signs; simp
theorem signs_at {z : Str} {i : Nat} {c : Nat} (h : z.cps[i]? = some c) : (signs z)[i]? = some (.str ⟨#[c]⟩) := by
  unfold signs
  rw [List.getElem?_map, Array.getElem?_toList, h]
  rfl
theorem walkD_str {z : Str} : WalkD K F G (Its z) (signs z) :=
  ⟨fun F1 H1 i s s1 s2 hi => by rw [signs_len] at hi; exact hi, fun F1 H1 s s1 s2 => by rw [signs_len]; exact Nat.le_refl _,
   fun F1 H1 i x H2 s s1 s2 hi y => by
    obtain ⟨rfl, c, hc, rfl⟩ := y
    exact ⟨F1, _, .refl s1, signs_at hc, .str _⟩⟩
theorem walkD_fn {J : It} {g : Nat → Int} {n : Nat} (h1 : ∀ i H, i < n → J.go i H) (h2 : ∀ H, J.stop n H) (h3 : ∀ i H x H', J.yld i H x H' → H' = H ∧ x = .int (g i)) : WalkD K F G J ((List.range n).map fun i => .int (g i)) :=
  ⟨fun F1 H1 i s s1 s2 hi => h1 i H1 (by simpa using hi), fun F1 H1 s s1 s2 => by have := h2 H1; simpa using this,
   fun F1 H1 i x H2 s s1 s2 hi y => by
    obtain ⟨rfl, rfl⟩ := h3 _ _ _ _ y
    have hi : i < n := by simpa using hi
    exact ⟨F1, .int (g i), .refl s1, by rw [List.getElem?_map, List.getElem?_range hi]; rfl, .int _⟩⟩
end
theorem PI.or {X : Cx} {tg e : Expr} {wi wi' : TI} (h : PI X tg e wi) (h' : PI X tg e wi') : PI X tg e (fun σ H R => wi σ H R ∨ wi' σ H R) := ⟨fun pins s σ H R I q => q.elim (h.run pins s σ H R I) (h'.run pins s σ H R I)⟩
theorem dIter_eq {d : PyData} {ds : List PyData} (h : dIter d = some ds) : d = .list ds ∨ d = .tuple ds ∨ ∃ z, d = .str z ∧ ds = signs z := by
  unfold dIter at h
  split at h <;> cases h
  · exact .inl rfl
  · exact .inr (.inl rfl)
  · exact .inr (.inr ⟨_, rfl, rfl⟩)
section
variable {K : PySem.W.Frag} {X : Cx} {tg a b c e : Expr} {es : List Expr} {fa fb fc : FSt → Option PyData} {fs : FSt → Option (List PyData)} {pos p : Pos}
theorem fi_seq (ha : FP K X e fa) (hK : X.K = K := by rfl) : FI K X tg e (fIter fa) := by
  subst hK
  refine PI.of (PI.or (pi_list ha) (PI.or (pi_tup ha) (pi_str ha))) fun σ H R ⟨F0, H0, F, st, ds, rp, e, q⟩ => ?_
  obtain ⟨d, ed, e⟩ := bind_some e
  rcases dIter_eq e with rfl | rfl | ⟨z, rfl, rfl⟩
  · refine .inl ⟨F0, H0, F, st, _, rp, ed, fun v F1 H1 g1 t1 => ?_⟩
    cases t1 with
    | lst g t => exact ⟨_, rfl, ⟨_, .inl (.inl (g1.sub _ _ g))⟩, q _ F1 H1 g1 (walkD_list (.inl g) t)⟩
  · refine .inr (.inl ⟨F0, H0, F, st, _, rp, ed, fun v F1 H1 g1 t1 => ?_⟩)
    cases t1 with
    | tup g t => exact ⟨_, rfl, ⟨_, g1.sub.seqT g⟩, q _ F1 H1 g1 (walkD_tup g t)⟩
  · refine .inr (.inr ⟨F0, H0, F, st, _, rp, ed, fun v F1 H1 g1 t1 => ?_⟩)
    cases t1
    exact ⟨_, rfl, q _ F1 H1 g1 walkD_str⟩
theorem fir_seq (ha : FR K X e fa) (hK : X.K = K := by rfl) : FIR K X tg e (fIter fa) := by
  subst hK
  refine PI.of (PI.or (pi_list ha) (PI.or (pi_tup ha) (pi_str ha))) fun σ H R ⟨F0, H0, F, st, ds, rp, e, q⟩ => ?_
  obtain ⟨d, ed, e⟩ := bind_some e
  rcases dIter_eq e with rfl | rfl | ⟨z, rfl, rfl⟩
  · refine .inl ⟨F0, H0, F, st, _, rp, ed, fun v F1 H1 g1 t1 => ?_⟩
    obtain ⟨p, vs, rfl, g, t⟩ := t1.lst g1.sub
    exact ⟨_, rfl, ⟨_, .inl (.inl g)⟩, q _ F1 H1 g1 (walkD_list (.inl g) t)⟩
  · refine .inr (.inl ⟨F0, H0, F, st, _, rp, ed, fun v F1 H1 g1 t1 => ?_⟩)
    obtain ⟨p, vs, rfl, g, t⟩ := t1.tup g1.sub
    exact ⟨_, rfl, ⟨_, g⟩, q _ F1 H1 g1 (walkD_tup g t)⟩
  · refine .inr (.inr ⟨F0, H0, F, st, _, rp, ed, fun v F1 H1 g1 t1 => ?_⟩)
    exact ⟨_, t1.str, q _ F1 H1 g1 walkD_str⟩
/-! ### range -/
def rangeD (lo : Int) (n : Nat) (c : Int) : List PyData := (List.range n).map fun i => .int (lo + (i : Nat) * c)
def rngLen (i j c : Int) : Nat := if 0 < c then (if i < j then ((j - i - 1) / c + 1).toNat else 0) else if j < i then ((i - j - 1) / (-c) + 1).toNat else 0
def dRng1 : List PyData → Option (List PyData)
  | [.int j] => if -(2 ^ 62) ≤ j ∧ j < 2 ^ 62 then some (rangeD 0 j.toNat 1) else none
  | _ => none
def dRng2 : List PyData → Option (List PyData)
  | [.int i, .int j] => if -(2 ^ 62) ≤ i ∧ i < 2 ^ 62 ∧ -(2 ^ 62) ≤ j ∧ j < 2 ^ 62 then some (rangeD i (j - i).toNat 1) else none
  | _ => none
def dRng3 : List PyData → Option (List PyData)
  | [.int i, .int j, .int c] => if -(2 ^ 61) ≤ i ∧ i < 2 ^ 61 ∧ -(2 ^ 61) ≤ j ∧ j < 2 ^ 61 ∧ c ≠ 0 ∧ c.natAbs < 1073741824 then some (rangeD i (rngLen i j c) c) else none
  | _ => none
theorem dRng1_eq {as ds : List PyData} (h : dRng1 as = some ds) : ∃ j, as = [.int j] ∧ -(2 ^ 62) ≤ j ∧ j < 2 ^ 62 ∧ ds = rangeD 0 j.toNat 1 := by
  unfold dRng1 at h
  split at h
  · obtain ⟨hh, rfl⟩ := ite_some h; replace h := hh; exact ⟨_, rfl, h.1, h.2, rfl⟩
  · cases h
theorem dRng2_eq {as ds : List PyData} (h : dRng2 as = some ds) : ∃ i j, as = [.int i, .int j] ∧ (-(2 ^ 62) ≤ i ∧ i < 2 ^ 62 ∧ -(2 ^ 62) ≤ j ∧ j < 2 ^ 62) ∧ ds = rangeD i (j - i).toNat 1 := by
  unfold dRng2 at h
  split at h
  · obtain ⟨hh, rfl⟩ := ite_some h; replace h := hh; exact ⟨_, _, rfl, h, rfl⟩
  · cases h
theorem TVs.int1 {F : Hp} {vs : List V} {i : Int} (h : TVs K F vs [.int i]) : vs = [.int i] := by cases h with | cons a b => cases a; cases b; rfl
theorem TVs.int2 {F : Hp} {vs : List V} {i j : Int} (h : TVs K F vs [.int i, .int j]) : vs = [.int i, .int j] := by cases h with | cons a b => cases a; rw [b.int1]
theorem TVs.int3 {F : Hp} {vs : List V} {i j k : Int} (h : TVs K F vs [.int i, .int j, .int k]) : vs = [.int i, .int j, .int k] := by cases h with | cons a b => cases a; rw [b.int2]
theorem walkD_rng {F G : Hp} {lo : Int} {n : Nat} : WalkD K F G (Itr lo n) (rangeD lo n 1) :=
  walkD_fn (fun i _ h => h) (fun _ => Nat.le_refl _) fun i H x H' y => ⟨y.1, by rw [Int.mul_one]; exact y.2⟩
theorem walkD_rngC {F G : Hp} {lo c : Int} {n : Nat} : WalkD K F G (Itc lo c n) (rangeD lo n c) :=
  walkD_fn (fun i _ h => h) (fun _ => Nat.le_refl _) fun i H x H' y => ⟨y.1, y.2⟩
theorem fi_range1 (hg : Gl X "range") (hm : X.mg "range" = none) (ha : FA K X [a] fs) (hs : starEach [a] X.env = [(false, eval a X.env)] := by rfl) : FI K X tg (.Call (.Name "range" p) [a] [] pos) (fGL dRng1 fs) :=
  PI.of (pi_range1 hg hm ha hs) fun σ H R ⟨F0, H0, F, st, ds, rp, e, q⟩ => by
    obtain ⟨xs, ex, e⟩ := bind_some e
    obtain ⟨j, rfl, h1, h2, rfl⟩ := dRng1_eq e
    exact ⟨F0, H0, F, st, _, rp, ex, fun vs F1 H1 g1 t1 => ⟨j, t1.int1, h1, h2, q _ F1 H1 g1 walkD_rng⟩⟩
theorem fir_range1 (hg : Gl X "range") (hm : X.mg "range" = none) (ha : FA K X [a] fs) (hs : starEach [a] X.env = [(false, eval a X.env)] := by rfl) : FIR K X tg (.Call (.Name "range" p) [a] [] pos) (fGL dRng1 fs) :=
  PI.of (pi_range1 hg hm ha hs) fun σ H R ⟨F0, H0, F, st, ds, rp, e, q⟩ => by
    obtain ⟨xs, ex, e⟩ := bind_some e
    obtain ⟨j, rfl, h1, h2, rfl⟩ := dRng1_eq e
    exact ⟨F0, H0, F, st, _, rp, ex, fun vs F1 H1 g1 t1 => ⟨j, t1.int1, h1, h2, q _ F1 H1 g1 walkD_rng⟩⟩
theorem fi_range2 (hg : Gl X "range") (hm : X.mg "range" = none) (ha : FA K X [a, b] fs) (hs : starEach [a, b] X.env = [(false, eval a X.env), (false, eval b X.env)] := by rfl) (hs2 : starEach [b] X.env = [(false, eval b X.env)] := by rfl) : FI K X tg (.Call (.Name "range" p) [a, b] [] pos) (fGL dRng2 fs) :=
  PI.of (pi_range2 hg hm ha hs hs2) fun σ H R ⟨F0, H0, F, st, ds, rp, e, q⟩ => by
    obtain ⟨xs, ex, e⟩ := bind_some e
    obtain ⟨i, j, rfl, h1, rfl⟩ := dRng2_eq e
    exact ⟨F0, H0, F, st, _, rp, ex, fun vs F1 H1 g1 t1 => ⟨i, j, t1.int2, h1, q _ F1 H1 g1 walkD_rng⟩⟩
theorem fir_range2 (hg : Gl X "range") (hm : X.mg "range" = none) (ha : FA K X [a, b] fs) (hs : starEach [a, b] X.env = [(false, eval a X.env), (false, eval b X.env)] := by rfl) (hs2 : starEach [b] X.env = [(false, eval b X.env)] := by rfl) : FIR K X tg (.Call (.Name "range" p) [a, b] [] pos) (fGL dRng2 fs) :=
  PI.of (pi_range2 hg hm ha hs hs2) fun σ H R ⟨F0, H0, F, st, ds, rp, e, q⟩ => by
    obtain ⟨xs, ex, e⟩ := bind_some e
    obtain ⟨i, j, rfl, h1, rfl⟩ := dRng2_eq e
    exact ⟨F0, H0, F, st, _, rp, ex, fun vs F1 H1 g1 t1 => ⟨i, j, t1.int2, h1, q _ F1 H1 g1 walkD_rng⟩⟩
theorem ediv_le' {a c : Int} (h0 : 0 ≤ a) (hc : 0 < c) : 0 ≤ a / c ∧ a / c ≤ a := ⟨Int.ediv_nonneg h0 (by omega), Int.ediv_le_self _ h0⟩
theorem rgc_of {i j c : Int} (h : -(2 ^ 61) ≤ i ∧ i < 2 ^ 61 ∧ -(2 ^ 61) ≤ j ∧ j < 2 ^ 61 ∧ c ≠ 0 ∧ c.natAbs < 1073741824) : RgC i j c (rngLen i j c) := by
  obtain ⟨h1, h2, h3, h4, h5, h6⟩ := h
  have key : 0 ≤ Builtin.Range.rangeSize i j c ∧ Builtin.Range.rangeSize i j c < 2 ^ 62 ∧ Builtin.Range.rangeSize i j c = ((rngLen i j c : Nat) : Int) := by
    unfold Builtin.Range.rangeSize rngLen
    by_cases hc : c > 0
    · rw [if_pos hc, if_pos (show 0 < c from hc)]
      by_cases hij : i < j
      · rw [if_pos hij, if_pos hij]
        have := ediv_le' (a := j - i - 1) (c := c) (by omega) hc
        omega
      · rw [if_neg hij, if_neg hij]; omega
    · rw [if_neg hc, if_neg (show ¬ 0 < c from hc)]
      by_cases hij : i > j
      · rw [if_pos hij, if_pos (show j < i from hij)]
        have := ediv_le' (a := i - j - 1) (c := -c) (by omega) (by omega)
        omega
      · rw [if_neg hij, if_neg (show ¬ j < i from hij)]; omega
  obtain ⟨k1, k2, k3⟩ := key
  refine ⟨h5, h6, ?_, k3⟩
  unfold Builtin.Range.small
  simp only [Builtin.Range.rangeFitsLong, Bool.and_eq_true, Bool.or_eq_true, decide_eq_true_eq, beq_iff_eq]
  refine ⟨⟨⟨⟨⟨by omega, by omega⟩, by omega, by omega⟩, by omega, by omega⟩, by omega, by omega⟩, .inr ?_⟩
  split <;> simp only [Bool.and_eq_true, decide_eq_true_eq] <;> omega
theorem dRng3_eq {as ds : List PyData} (h : dRng3 as = some ds) : ∃ i j c, as = [.int i, .int j, .int c] ∧ RgC i j c (rngLen i j c) ∧ ds = rangeD i (rngLen i j c) c := by
  unfold dRng3 at h
  split at h
  · obtain ⟨hh, rfl⟩ := ite_some h; exact ⟨_, _, _, rfl, rgc_of hh, rfl⟩
  · cases h
theorem fi_range3 (hg : Gl X "range") (hm : X.mg "range" = none) (ha : FA K X [a, b, c] fs) (hs : starEach [a, b, c] X.env = (false, eval a X.env) :: starEach [b, c] X.env := by rfl) (hpl : (backTo pos (starEach [b, c] X.env)).any (·.1) = false := by rfl) : FI K X tg (.Call (.Name "range" p) [a, b, c] [] pos) (fGL dRng3 fs) :=
  PI.of (pi_range3 hg hm ha hs hpl) fun σ H R ⟨F0, H0, F, st, ds, rp, e, q⟩ => by
    obtain ⟨xs, ex, e⟩ := bind_some e
    obtain ⟨i, j, c, rfl, h1, rfl⟩ := dRng3_eq e
    exact ⟨F0, H0, F, st, _, rp, ex, fun vs F1 H1 g1 t1 => ⟨i, j, c, _, t1.int3, h1, q _ F1 H1 g1 walkD_rngC⟩⟩
theorem fir_range3 (hg : Gl X "range") (hm : X.mg "range" = none) (ha : FA K X [a, b, c] fs) (hs : starEach [a, b, c] X.env = (false, eval a X.env) :: starEach [b, c] X.env := by rfl) (hpl : (backTo pos (starEach [b, c] X.env)).any (·.1) = false := by rfl) : FIR K X tg (.Call (.Name "range" p) [a, b, c] [] pos) (fGL dRng3 fs) :=
  PI.of (pi_range3 hg hm ha hs hpl) fun σ H R ⟨F0, H0, F, st, ds, rp, e, q⟩ => by
    obtain ⟨xs, ex, e⟩ := bind_some e
    obtain ⟨i, j, c, rfl, h1, rfl⟩ := dRng3_eq e
    exact ⟨F0, H0, F, st, _, rp, ex, fun vs F1 H1 g1 t1 => ⟨i, j, c, _, t1.int3, h1, q _ F1 H1 g1 walkD_rngC⟩⟩
/-! ### zip, enumerate, reversed -/
def pairD : List PyData → List PyData → List PyData := List.zipWith fun x y => .tuple [x, y]
def dZip : List PyData → Option (List PyData)
  | [.list x, .list y] => some (pairD x y)
  | [.tuple x, .tuple y] => some (pairD x y)
  | _ => none
def enumFrom (i : Nat) : List PyData → List PyData
  | [] => []
  | d :: r => .tuple [.int (i : Nat), d] :: enumFrom (i + 1) r
def dEnum : List PyData → Option (List PyData)
  | [.list x] => some (enumFrom 0 x)
  | _ => none
def dEnumS : List PyData → Option (List PyData)
  | [.str z] => some (enumFrom 0 (signs z))
  | _ => none
theorem enum_len : ∀ (i : Nat) (ds : List PyData), (enumFrom i ds).length = ds.length
  | _, [] => rfl
  | i, _ :: r => by rw [enumFrom, List.length_cons, List.length_cons, enum_len (i + 1) r]
theorem enum_at : ∀ {k i : Nat} {ds : List PyData} {d : PyData}, ds[i]? = some d → (enumFrom k ds)[i]? = some (.tuple [.int ((k + i : Nat) : Int), d])
  | k, 0, _ :: _, _, h => by
    rw [List.getElem?_cons_zero] at h
    cases h
    rfl
  | k, i + 1, _ :: r, d, h => by
    rw [List.getElem?_cons_succ] at h
    rw [enumFrom, List.getElem?_cons_succ, enum_at (k := k + 1) h, show k + 1 + i = k + (i + 1) by omega]
  | _, _, [], _, h => by simp at h
theorem walkD_of {F G : Hp} {J : It} {n : Nat} {Gd : Hp → Prop} {xs ys : Nat → Option V} {ds : List PyData} (w : Walk J n Gd (YPair xs ys)) (hn : ds.length = n) (hG : ∀ H1, Same G H1 → Gd H1) (ht : ∀ i x y, i < n → xs i = some x → ys i = some y → ∃ a b, ds[i]? = some (.tuple [a, b]) ∧ TV K F x a ∧ TV K F y b) : WalkD K F G J ds :=
  ⟨fun F1 H1 i s s1 s2 hi => w.goes i H1 (by omega) (hG H1 s2), fun F1 H1 s s1 s2 => by rw [hn]; exact w.stops H1 (hG H1 s2),
   fun F1 H1 i x H2 s s1 s2 hi y => by
    obtain ⟨T, x1, y1, rfl, hT, rfl, h1, h2⟩ := w.yields i H1 x H2 (by omega) (hG H1 s2) y
    obtain ⟨a, b, hd, ta, tb⟩ := ht i x1 y1 (by omega) h1 h2
    refine ⟨_, _, .put s1 hT, hd, .tup (.of upd_same) ?_⟩
    have sf := same_upd (o := HO.tup [x1, y1]) (Same.none s1 hT)
    exact .cons ((ta.mono s).mono sf) (.cons ((tb.mono s).mono sf) .nil)⟩
theorem pairD_at {xs ys : List PyData} {i : Nat} {a b : PyData} (h1 : xs[i]? = some a) (h2 : ys[i]? = some b) : (pairD xs ys)[i]? = some (.tuple [a, b]) := by
  unfold pairD
  rw [List.getElem?_zipWith, h1, h2]
theorem pairD_len (xs ys : List PyData) : (pairD xs ys).length = min xs.length ys.length := List.length_zipWith
theorem walkD_zip {F G : Hp} {p q : Addr} {vs ws : List V} {ds es : List PyData} (g : Rd G p (.lst vs)) (g' : Rd G q (.lst ws)) (t : TVs K F vs ds) (t' : TVs K F ws es) : WalkD K F G (Itz K p q) (pairD ds es) :=
  walkD_of (walk_zip rfl) (by rw [pairD_len, t.len, t'.len]) (fun H1 s => ⟨.inl (rd_mono s g), .inl (rd_mono s g')⟩) fun i x y hi hx hy => by
    obtain ⟨a, ha, ta⟩ := t.at' hx
    obtain ⟨b, hb, tb⟩ := t'.at' hy
    exact ⟨a, b, pairD_at ha hb, ta, tb⟩
theorem walkD_zipT {F G : Hp} {p q : Addr} {vs ws : List V} {ds es : List PyData} (g : SqT K G p vs) (g' : SqT K G q ws) (t : TVs K F vs ds) (t' : TVs K F ws es) : WalkD K F G (RZ.ItzT K p q) (pairD ds es) :=
  walkD_of (walkZT rfl) (by rw [pairD_len, t.len, t'.len]) (fun H1 s => ⟨s.seqT g, s.seqT g'⟩) fun i x y hi hx hy => by
    obtain ⟨a, ha, ta⟩ := t.at' hx
    obtain ⟨b, hb, tb⟩ := t'.at' hy
    exact ⟨a, b, pairD_at ha hb, ta, tb⟩
theorem walkD_enum {F G : Hp} {p : Addr} {vs : List V} {ds : List PyData} (g : Rd G p (.lst vs)) (t : TVs K F vs ds) : WalkD K F G (Ite K p) (enumFrom 0 ds) :=
  walkD_of walk_enum (by rw [enum_len, t.len]) (fun H1 s => .inl (rd_mono s g)) fun i x y hi hx hy => by
    cases hx
    obtain ⟨b, hb, tb⟩ := t.at' hy
    exact ⟨_, b, by have := enum_at (k := 0) hb; rw [Nat.zero_add] at this; exact this, .int _, tb⟩
theorem walkD_enumS {F G : Hp} {z : Str} : WalkD K F G (Ites z) (enumFrom 0 (signs z)) :=
  walkD_of (n := z.cps.size) (Gd := fun _ => True) (xs := fun i => some (.int (i : Nat))) (ys := fun i => z.cps[i]?.map fun c => .str ⟨#[c]⟩) ⟨fun _ _ h _ => h, fun _ _ => Nat.le_refl _, fun i H v H' hi _ y => by
    obtain ⟨T, c, rfl, hT, rfl, hc⟩ := y
    exact ⟨T, _, _, rfl, hT, rfl, rfl, by show Option.map _ (z.cps[i]?) = _; rw [hc]; rfl⟩⟩ (by rw [enum_len, signs_len]) (fun _ _ => trivial) fun i x y hi hx hy => by
    cases hx
    obtain ⟨c, hc, rfl⟩ := Option.map_eq_some_iff.mp hy
    exact ⟨_, _, by have := enum_at (k := 0) (signs_at hc); rw [Nat.zero_add] at this; exact this, .int _, .str _⟩
theorem dZip_eq {as ds : List PyData} (h : dZip as = some ds) : (∃ x y, as = [.list x, .list y] ∧ ds = pairD x y) ∨ ∃ x y, as = [.tuple x, .tuple y] ∧ ds = pairD x y := by
  unfold dZip at h
  split at h <;> cases h
  · exact .inl ⟨_, _, rfl, rfl⟩
  · exact .inr ⟨_, _, rfl, rfl⟩
variable {elts : List Expr} {kk : Nat} {tpos : Pos}
theorem fi_zip (hg : Gl X "zip") (hm : X.mg "zip" = none) (ha : FA K X [a, b] fs) (hs : starEach [a, b] X.env = (false, eval a X.env) :: starEach [b] X.env := by rfl) (hpl : (backTo pos (starEach [b] X.env)).any (·.1) = false := by rfl) (hK : X.K = K := by rfl) : FI K X (.Tuple elts kk tpos) (.Call (.Name "zip" p) [a, b] [] pos) (fGL dZip fs) := by
  subst hK
  refine PI.of (RZ.pi_zipA hg hm ha hs hpl) fun σ H R ⟨F0, H0, F, st, ds, rp, e, q⟩ => ?_
  obtain ⟨xs, ex, e⟩ := bind_some e
  refine ⟨F0, H0, F, st, _, rp, ex, fun vs F1 H1 g1 t1 => ?_⟩
  rcases dZip_eq e with ⟨x, y, rfl, rfl⟩ | ⟨x, y, rfl, rfl⟩
  · cases t1 with | cons t1 t2 => cases t2 with | cons t2 t3 =>
      cases t3
      cases t1 with | lst g t => cases t2 with | lst g' t' =>
        exact ⟨_, _, _, _, rfl, .inl ⟨.inl (.inl (g1.sub _ _ g)), .inl (.inl (g1.sub _ _ g')), q _ F1 H1 g1 (walkD_zip (.inl g) (.inl g') t t')⟩⟩
  · cases t1 with | cons t1 t2 => cases t2 with | cons t2 t3 =>
      cases t3
      cases t1 with | tup g t => cases t2 with | tup g' t' =>
        exact ⟨_, _, _, _, rfl, .inr ⟨g1.sub.seqT g, g1.sub.seqT g', q _ F1 H1 g1 (walkD_zipT g g' t t')⟩⟩
theorem fir_zip (hg : Gl X "zip") (hm : X.mg "zip" = none) (ha : FAR K X [a, b] fs) (hs : starEach [a, b] X.env = (false, eval a X.env) :: starEach [b] X.env := by rfl) (hpl : (backTo pos (starEach [b] X.env)).any (·.1) = false := by rfl) (hK : X.K = K := by rfl) : FIR K X (.Tuple elts kk tpos) (.Call (.Name "zip" p) [a, b] [] pos) (fGL dZip fs) := by
  subst hK
  refine PI.of (RZ.pi_zipA hg hm ha hs hpl) fun σ H R ⟨F0, H0, F, st, ds, rp, e, q⟩ => ?_
  obtain ⟨xs, ex, e⟩ := bind_some e
  refine ⟨F0, H0, F, st, _, rp, ex, fun vs F1 H1 g1 t1 => ?_⟩
  rcases dZip_eq e with ⟨x, y, rfl, rfl⟩ | ⟨x, y, rfl, rfl⟩
  · obtain ⟨x, y, rfl, tx, ty⟩ := all2_2 t1
    obtain ⟨p, vs, rfl, g, t⟩ := tx.lst g1.sub
    obtain ⟨p', vs', rfl, g', t'⟩ := ty.lst g1.sub
    exact ⟨_, _, _, _, rfl, .inl ⟨.inl (.inl g), .inl (.inl g'), q _ F1 H1 g1 (walkD_zip (.inl g) (.inl g') t t')⟩⟩
  · obtain ⟨x, y, rfl, tx, ty⟩ := all2_2 t1
    obtain ⟨p, vs, rfl, g, t⟩ := tx.tup g1.sub
    obtain ⟨p', vs', rfl, g', t'⟩ := ty.tup g1.sub
    exact ⟨_, _, _, _, rfl, .inr ⟨g, g', q _ F1 H1 g1 (walkD_zipT g g' t t')⟩⟩
theorem dEnum_eq {as ds : List PyData} (h : dEnum as = some ds) : ∃ x, as = [.list x] ∧ ds = enumFrom 0 x := by
  unfold dEnum at h
  split at h <;> cases h
  exact ⟨_, rfl, rfl⟩
theorem fi_enum (hg : Gl X "enumerate") (hm : X.mg "enumerate" = none) (ha : FA K X [e] fs) (hs : starEach [e] X.env = [(false, eval e X.env)] := by rfl) (hK : X.K = K := by rfl) : FI K X (.Tuple elts kk tpos) (.Call (.Name "enumerate" p) [e] [] pos) (fGL dEnum fs) := by
  subst hK
  refine PI.of (pi_enum hg hm ha hs) fun σ H R ⟨F0, H0, F, st, ds, rp, e, q⟩ => ?_
  obtain ⟨xs, ex, e⟩ := bind_some e
  obtain ⟨x, rfl, rfl⟩ := dEnum_eq e
  refine ⟨F0, H0, F, st, _, rp, ex, fun vs F1 H1 g1 t1 => ?_⟩
  cases t1 with | cons t1 t2 =>
    cases t2
    cases t1 with | lst g t => exact ⟨_, _, rfl, .inl (.inl (g1.sub _ _ g)), q _ F1 H1 g1 (walkD_enum (.inl g) t)⟩
theorem fir_enum (hg : Gl X "enumerate") (hm : X.mg "enumerate" = none) (ha : FAR K X [e] fs) (hs : starEach [e] X.env = [(false, eval e X.env)] := by rfl) (hK : X.K = K := by rfl) : FIR K X (.Tuple elts kk tpos) (.Call (.Name "enumerate" p) [e] [] pos) (fGL dEnum fs) := by
  subst hK
  refine PI.of (pi_enum hg hm ha hs) fun σ H R ⟨F0, H0, F, st, ds, rp, e, q⟩ => ?_
  obtain ⟨xs, ex, e⟩ := bind_some e
  obtain ⟨x, rfl, rfl⟩ := dEnum_eq e
  refine ⟨F0, H0, F, st, _, rp, ex, fun vs F1 H1 g1 t1 => ?_⟩
  obtain ⟨x, rfl, tx⟩ := all2_1 t1
  obtain ⟨p, vs, rfl, g, t⟩ := tx.lst g1.sub
  exact ⟨_, _, rfl, .inl (.inl g), q _ F1 H1 g1 (walkD_enum (.inl g) t)⟩
theorem fir_enumS (hg : Gl X "enumerate") (hm : X.mg "enumerate" = none) (ha : FAR K X [e] fs) (hs : starEach [e] X.env = [(false, eval e X.env)] := by rfl) : FIR K X (.Tuple elts kk tpos) (.Call (.Name "enumerate" p) [e] [] pos) (fGL dEnumS fs) := by
  refine PI.of (pi_enumS hg hm ha hs) fun σ H R ⟨F0, H0, F, st, ds, rp, e, q⟩ => ?_
  obtain ⟨xs, ex, e⟩ := bind_some e
  refine ⟨F0, H0, F, st, _, rp, ex, fun vs F1 H1 g1 t1 => ?_⟩
  unfold dEnumS at e
  split at e <;> cases e
  obtain ⟨x, rfl, tx⟩ := all2_1 t1
  exact ⟨_, by rw [tx.str], q _ F1 H1 g1 walkD_enumS⟩
def dRev : PyData → Option (List PyData)
  | .list x => some x.reverse
  | .tuple x => some x.reverse
  | _ => none
def fRev (a : FSt → Option PyData) : FSt → Option (List PyData) := fun st => (a st).bind dRev
theorem walkD_rev {F G : Hp} {q : Addr} {vs : List V} {ds : List PyData} (g : Rd G q (.lst vs)) (t : TVs K F vs ds) : WalkD K F G (Itv K q vs.length) ds.reverse :=
  ⟨fun F1 H1 i s s1 s2 hi => walk_rev.goes i H1 (by rw [t.len]; simpa using hi) (.inl (rd_mono s2 g)), fun F1 H1 s s1 s2 => by rw [List.length_reverse, ← t.len]; exact walk_rev.stops H1 (.inl (rd_mono s2 g)),
   fun F1 H1 i x H2 s s1 s2 hi y => by
    have hi : i < ds.length := by simpa using hi
    obtain ⟨rfl, hx⟩ := walk_rev.yields i H1 x H2 (by rw [t.len]; exact hi) (.inl (rd_mono s2 g)) y
    obtain ⟨d, hd, td⟩ := t.at' hx
    exact ⟨F1, d, .refl s1, by rw [List.getElem?_reverse hi, ← t.len]; exact hd, td.mono s⟩⟩
theorem walkD_revT {F G : Hp} {q : Addr} {vs : List V} {ds : List PyData} (g : SqT K G q vs) (t : TVs K F vs ds) : WalkD K F G (RT.ItvT K q vs.length) ds.reverse := by
  refine ⟨fun F1 H1 i s s1 s2 hi => ?_, fun F1 H1 s s1 s2 => ?_, fun F1 H1 i x H2 s s1 s2 hi y => ?_⟩
  · have hi : i < ds.length := by simpa using hi
    have hl : vs.length - 1 - i < vs.length := by rw [t.len]; omega
    exact ⟨by rw [t.len]; exact hi, vs, vs[vs.length - 1 - i], s2.seqT g, List.getElem?_eq_getElem hl⟩
  · rw [List.length_reverse, ← t.len]; exact Nat.le_refl _
  · have hi : i < ds.length := by simpa using hi
    obtain ⟨rfl, hx⟩ := y
    obtain ⟨d, hd, td⟩ := t.at' (hx vs (s2.seqT g))
    exact ⟨F1, d, .refl s1, by rw [List.getElem?_reverse hi, ← t.len]; exact hd, td.mono s⟩
theorem fi_rev (hg : Gl X "reversed") (hm : X.mg "reversed" = none) (ha : FP K X e fa) (hs : starEach [e] X.env = (false, eval e X.env) :: starEach [] X.env := by rfl) (hK : X.K = K := by rfl) : FI K X tg (.Call (.Name "reversed" p) [e] [] pos) (fRev fa) := by
  subst hK
  refine PI.of (RT.pi_revA hg hm ha hs) fun σ H R ⟨F0, H0, F, st, ds, rp, e, q⟩ => ?_
  obtain ⟨x, ex, e⟩ := bind_some e
  refine ⟨F0, H0, F, st, _, rp, ex, fun v F1 H1 g1 t1 => ?_⟩
  unfold dRev at e
  split at e <;> cases e
  · cases t1 with | lst g t => exact ⟨_, _, rfl, .inl ⟨.inl (.inl (g1.sub _ _ g)), q _ F1 H1 g1 (walkD_rev (.inl g) t)⟩⟩
  · cases t1 with | tup g t => exact ⟨_, _, rfl, .inr ⟨g1.sub.seqT g, q _ F1 H1 g1 (walkD_revT g t)⟩⟩
theorem fir_rev (hg : Gl X "reversed") (hm : X.mg "reversed" = none) (ha : FR K X e fa) (hs : starEach [e] X.env = (false, eval e X.env) :: starEach [] X.env := by rfl) (hK : X.K = K := by rfl) : FIR K X tg (.Call (.Name "reversed" p) [e] [] pos) (fRev fa) := by
  subst hK
  refine PI.of (RT.pi_revA hg hm ha hs) fun σ H R ⟨F0, H0, F, st, ds, rp, e, q⟩ => ?_
  obtain ⟨x, ex, e⟩ := bind_some e
  refine ⟨F0, H0, F, st, _, rp, ex, fun v F1 H1 g1 t1 => ?_⟩
  unfold dRev at e
  split at e <;> cases e
  · obtain ⟨p, vs, rfl, g, t⟩ := t1.lst g1.sub
    exact ⟨_, _, rfl, .inl ⟨.inl (.inl g), q _ F1 H1 g1 (walkD_rev (.inl g) t)⟩⟩
  · obtain ⟨p, vs, rfl, g, t⟩ := t1.tup g1.sub
    exact ⟨_, _, rfl, .inr ⟨g, q _ F1 H1 g1 (walkD_revT g t)⟩⟩
end

/-! ## targets -/
def tG (K : PySem.W.Frag) (sl : List Nat) (g : PyData → FSt → Option FSt) : TG := fun v σ H Q => ∃ F0 H0 F st d st', Rp K F0 H0 F H st σ ∧ TV K F v d ∧ g d st = some st' ∧ ∀ σ', Rp K F0 H0 F H st' σ' → σ'.length = σ.length → (∀ i, i ∉ sl → σ'[i]? = σ[i]?) → Q σ' H
def tGs (K : PySem.W.Frag) (sl : List Nat) (g : List PyData → FSt → Option FSt) : TGs := fun vs σ H Q => ∃ F0 H0 F st ds st', Rp K F0 H0 F H st σ ∧ TVs K F vs ds ∧ g ds st = some st' ∧ ∀ σ', Rp K F0 H0 F H st' σ' → σ'.length = σ.length → (∀ i, i ∉ sl → σ'[i]? = σ[i]?) → Q σ' H
abbrev FG (K : PySem.W.Frag) (sl : List Nat) (X : Cx) (e : Expr) (g : PyData → FSt → Option FSt) := PG X e (tG K sl g)
abbrev FGs (K : PySem.W.Frag) (sl : List Nat) (X : Cx) (e : List Expr) (g : List PyData → FSt → Option FSt) := PGs X e (tGs K sl g)
def gNm (i : Nat) : PyData → FSt → Option FSt := fun d st => some (st.set i (.fz d))
/-- a target that is not looked at again -/
def gU (i : Nat) : PyData → FSt → Option FSt := fun _ st => some (st.set i .un)
def gsNil : List PyData → FSt → Option FSt
  | [], st => some st
  | _, _ => none
def gsCons (g : PyData → FSt → Option FSt) (h : List PyData → FSt → Option FSt) : List PyData → FSt → Option FSt
  | d :: r, st => (g d st).bind (h r)
  | _, _ => none
def gT (n : Nat) (h : List PyData → FSt → Option FSt) : PyData → FSt → Option FSt
  | .tuple ds, st => if ds.length = n then h ds st else none
  | .list ds, st => if ds.length = n then h ds st else none
  | _, _ => none
section
variable {K : PySem.W.Frag} {X : Cx} {e : Expr} {es : List Expr} {sl sl' : List Nat} {g : PyData → FSt → Option FSt} {h : List PyData → FSt → Option FSt} {pos : Pos}
theorem PGs.of {t t' : TGs} (h : PGs X es t) (k : ∀ v σ H Q, t' v σ H Q → t v σ H Q) : PGs X es t' := ⟨fun pins s σ H v u Q I r q => h.run pins s σ H v u Q I r (k _ _ _ _ q)⟩
theorem PG.or {t t' : TG} (h : PG X e t) (h' : PG X e t') : PG X e (fun v σ H Q => t v σ H Q ∨ t' v σ H Q) := ⟨fun pins s σ H v u Q I r q => q.elim (h.run pins s σ H v u Q I r) (h'.run pins s σ H v u Q I r)⟩
theorem fg_name {i : Nat} (h : PG X e (gName i)) : FG K [i] X e (gNm i) := PG.of h fun v σ H Q ⟨F0, H0, F, st, d, st', rp, t, eg, q⟩ => by
  cases eg
  exact q _ (rp.set t i) (by simp) fun j hj => by rw [List.getElem?_set_ne (fun z => hj (by simp [z]))]
theorem fg_un {i : Nat} (h : PG X e (gName i)) : FG K [i] X e (gU i) := PG.of h fun v σ H Q ⟨F0, H0, F, st, d, st', rp, t, eg, q⟩ => by
  cases eg
  exact q _ (rp.drop i _) (by simp) fun j hj => by rw [List.getElem?_set_ne (fun z => hj (by simp [z]))]
theorem fgs_nil : FGs K [] X [] gsNil := PGs.of pgs_nil fun vs σ H Q ⟨F0, H0, F, st, ds, st', rp, t, eg, q⟩ => by
  cases ds with
  | nil => cases eg; cases t; exact ⟨rfl, q σ rp rfl fun _ _ => rfl⟩
  | cons d r => cases eg
theorem fgs_cons (h1 : FG K sl X e g) (h2 : FGs K sl' X es h) (hs : (assignEach (e :: es) X.env).map (·.2) = assign e X.env :: (assignEach es X.env).map (·.2) := by rfl) : FGs K (sl ++ sl') X (e :: es) (gsCons g h) := PGs.of (pgs_cons h1 h2 hs) fun vs σ H Q ⟨F0, H0, F, st, ds, st', rp, t, eg, q⟩ => by
  cases ds with
  | nil => cases eg
  | cons d r =>
    obtain ⟨st1, e1, e2⟩ := bind_some eg
    cases t with
    | cons td tr => exact ⟨_, _, rfl, F0, H0, F, st, d, st1, rp, td, e1, fun σ1 rp1 l1 s1 => ⟨F0, H0, F, st1, r, st', rp1, tr, e2, fun σ2 rp2 l2 s2 => q σ2 rp2 (l2.trans l1) fun i hi => (s2 i fun z => hi (List.mem_append_right _ z)).trans (s1 i fun z => hi (List.mem_append_left _ z))⟩⟩
theorem fg_tup {k n : Nat} (hc : X.calm = true) (hh : FGs K sl X es h) (hn : (assignEach es X.env).length = n := by rfl) (hst : (assignEach es X.env).findIdx? (·.1) = none := by rfl) (hK : X.K = K := by rfl) : FG K sl X (.Tuple es k pos) (gT n h) := by
  subst hK
  refine PG.of (PG.or (pg_tup hc hh hn hst) (pg_lst hc hh hn hst)) fun v σ H Q ⟨F0, H0, F, st, d, st', rp, t, eg, q⟩ => ?_
  unfold gT at eg
  split at eg
  · split at eg
    · rename_i hl
      cases t with
      | tup gg tt => exact .inl ⟨_, _, rfl, rp.sub.seqT gg, by rw [tt.len]; exact hl, F0, H0, F, st, _, st', rp, tt, eg, q⟩
    · cases eg
  · split at eg
    · rename_i hl
      cases t with
      | lst gg tt => exact .inr ⟨_, _, rfl, .inl (.inl (rp.sub _ _ gg)), by rw [tt.len]; exact hl, F0, H0, F, st, _, st', rp, tt, eg, q⟩
    · cases eg
  · cases eg
/-! ## comprehensions -/
theorem wipe_get : ∀ (vs : List Nat) (σ : L2.St) (i : Nat), (wipe σ vs)[i]? = if i ∈ vs then (σ[i]?.map fun _ => none) else σ[i]? := by
  intro vs
  induction vs with
  | nil => intro σ i; simp [wipe]
  | cons v r ih =>
    intro σ i
    unfold wipe
    by_cases h : i = v
    · subst h
      rw [if_pos (List.mem_cons_self ..), List.getElem?_set]
      simp only [wipe_length, if_true]
      by_cases hl : i < σ.length
      · rw [if_pos hl, List.getElem?_eq_getElem hl]; rfl
      · rw [if_neg hl, List.getElem?_eq_none_iff.mpr (by omega)]; rfl
    · rw [List.getElem?_set_ne (Ne.symm h), ih σ i]
      by_cases h2 : i ∈ r
      · rw [if_pos h2, if_pos (List.mem_cons_of_mem _ h2)]
      · rw [if_neg h2, if_neg (fun z => (List.mem_cons.mp z).elim h h2)]
theorem wipe_eq {vs : List Nat} {σ σ' : L2.St} (hl : σ'.length = σ.length) (h : ∀ i, i ∉ vs → σ'[i]? = σ[i]?) : wipe σ' vs = wipe σ vs := by
  refine List.ext_getElem? fun i => ?_
  rw [wipe_get, wipe_get]
  by_cases hi : i ∈ vs
  · rw [if_pos hi, if_pos hi]
    by_cases hh : i < σ.length
    · rw [List.getElem?_eq_getElem hh, List.getElem?_eq_getElem (by omega)]; rfl
    · rw [List.getElem?_eq_none_iff.mpr (by omega), List.getElem?_eq_none_iff.mpr (by omega)]
  · rw [if_neg hi, if_neg hi, h i hi]
def wipeF (st : FSt) : List Nat → FSt
  | [] => st
  | v :: vs => (wipeF st vs).set v .un
theorem Rp.wipe {F H F0 H0 : Hp} {st : FSt} {σ : L2.St} (r : Rp K F0 H0 F H st σ) : ∀ vs : List Nat, Rp K F0 H0 F H (wipeF st vs) (L2.wipe σ vs)
  | [] => r
  | v :: vs => (Rp.wipe r vs).drop v none
def lcD (f : PyData → Option (Option PyData)) : List PyData → Option (List PyData)
  | [] => some []
  | d :: r => (f d).bind fun o => (lcD f r).bind fun ys => some (match o with | some y => y :: ys | none => ys)
def lcS (g : PyData → FSt → Option FSt) (ft : FSt → Option Bool) (fe : FSt → Option PyData) (st : FSt) (d : PyData) : Option (Option PyData) :=
  (g d st).bind fun st1 => (ft st1).bind fun b => if b = true then (fe st1).bind fun y => some (some y) else some none
def fLc (fi : FSt → Option (List PyData)) (g : PyData → FSt → Option FSt) (ft : FSt → Option Bool) (fe : FSt → Option PyData) (vs : List Nat) : FSt → Option (List PyData) := fun st =>
  (fi st).bind fun ds => (lcD (lcS g ft fe (wipeF st vs)) ds).bind dLst
theorem Grow.updO {F H F1 H1 : Hp} (g : Grow F H F1 H1) {p : Addr} {o : HO} (h : H p = none) (h1 : F1 p = none) : Grow F H F1 (upd H1 p o) :=
  ⟨g.fz, fun b x e => by rw [upd_ne (ne_of_none e h)]; exact g.hp b x e, fun b x e => by rw [upd_ne (ne_of_none e h1)]; exact g.sub b x e, g.new⟩
theorem tLc_of {fi : FSt → Option (List PyData)} {ft : FSt → Option Bool} {fe : FSt → Option PyData} {vs : List Nat} (hsl : ∀ i ∈ sl, i ∈ vs) : ∀ σ H Q, tN K (fLc fi g ft fe vs) σ H Q → tLc (iR K fi) (tG K sl g) (tT K ft) (tF K fe) vs σ H Q := fun σ H Q ⟨F0, H0, F, st, ys, rp, e, q⟩ => by
  obtain ⟨xs, ex, e⟩ := bind_some e
  obtain ⟨zs, ez, e⟩ := bind_some e
  unfold dLst at e
  obtain ⟨hlen, rfl⟩ := ite_some e
  refine ⟨F0, H0, F, st, xs, rp, ex, fun J F1 H1 g1 w D hD => ?_⟩
  refine ⟨fun i m H' => m = xs.length - i ∧ i ≤ xs.length ∧ ∃ F' ws dn td, Grow F1 H1 F' H' ∧ F' D = none ∧ H' D = some (.lst ws) ∧ TVs K F' ws dn ∧ lcD (lcS g ft fe (wipeF st vs)) (xs.drop i) = some td ∧ dn ++ td = ys, ⟨xs.length, by simp, Nat.zero_le _, F1, [], [], ys, .own g1.sub hD, Same.none g1.sub hD, upd_same, .nil, ez, rfl⟩, ?_⟩
  rintro i m H' ⟨rfl, hi, F', ws, dn, td, gr, hF, hH, tw, el, hap⟩
  by_cases hlt : i < xs.length
  · refine .inr ⟨w.go F' H' i gr.fz gr.sub gr.hp hlt, _, fun H'' p' => ⟨xs.length - (i + 1), by omega, p'⟩, fun x H2 y => ?_⟩
    obtain ⟨F2, d, g2, hd, td2⟩ := w.yld F' H' i x H2 gr.fz gr.sub gr.hp hlt y
    have hdrop : xs.drop i = d :: xs.drop (i + 1) := by
      rw [List.drop_eq_getElem_cons hlt]
      obtain ⟨_, e1⟩ := List.getElem?_eq_some_iff.mp hd
      rw [e1]
    rw [hdrop] at el
    unfold lcD at el
    obtain ⟨o, eo, el⟩ := bind_some el
    obtain ⟨ys', ey', el⟩ := bind_some el
    unfold lcS at eo
    obtain ⟨st1, e1, eo⟩ := bind_some eo
    obtain ⟨b, eb, eo⟩ := bind_some eo
    have gD := g2.hp _ _ hH
    have fD := g2.new D hF (by rw [hH]; exact fun z => nomatch z)
    refine ⟨F0, H0, F2, _, d, st1, ((rp.grow g1).grow (gr.trans g2)).wipe vs, td2, e1, fun σ1 rp1 l1 s1 => ⟨wipe_eq (l1.trans (wipe_length σ vs)) fun i hi => (s1 i fun z => hi (hsl i z)).trans (by rw [wipe_get, if_neg hi]), ?_⟩⟩
    refine ⟨F0, H0, F2, st1, b, rp1, eb, fun F3 H3 g3 => ?_⟩
    cases b with
    | true =>
      rw [if_pos rfl] at eo ⊢
      obtain ⟨y', ey, eo⟩ := bind_some eo
      cases eo
      cases el
      refine ⟨F0, H0, F3, st1, y', rp1.grow g3, ey, fun v F4 H4 g4 t4 => ⟨ws, g4.hp _ _ (g3.hp _ _ gD), ?_, rfl, hlt, F4, ws ++ [v], dn ++ [y'], ys', ?_, ?_, upd_same, ?_, ey', ?_⟩⟩
      · have := tw.len
        rw [← hap, List.length_append, List.length_cons] at hlen
        omega
      · exact (((gr.trans g2).trans g3).trans g4).updO hD (g4.new D (g3.new D fD (by rw [gD]; exact fun z => nomatch z)) (by rw [g3.hp _ _ gD]; exact fun z => nomatch z))
      · exact g4.new D (g3.new D fD (by rw [gD]; exact fun z => nomatch z)) (by rw [g3.hp _ _ gD]; exact fun z => nomatch z)
      · exact (tw.mono ((g2.fz.trans g3.fz).trans g4.fz)).app (.one t4)
      · rw [← hap, List.append_assoc]; rfl
    | false =>
      rw [if_neg Bool.false_ne_true] at eo ⊢
      cases eo
      cases el
      exact ⟨rfl, hlt, F3, ws, dn, _, (gr.trans g2).trans g3, g3.new D fD (by rw [gD]; exact fun z => nomatch z), g3.hp _ _ gD, tw.mono (g2.fz.trans g3.fz), ey', hap⟩
  · have e : i = xs.length := by omega
    subst e
    rw [List.drop_length] at el
    cases el
    rw [List.append_nil] at hap
    subst hap
    exact .inl ⟨w.stop F' H' gr.fz gr.sub gr.hp, q D ws F' H' (g1.trans gr) (Same.none g1.hp hD) hF hH tw⟩
variable {elt tg iter : Expr} {ifs : List Expr} {scope : Scope} {own : List (Str × Nat)} {fi : FSt → Option (List PyData)} {ft : FSt → Option Bool} {fe : FSt → Option PyData}
def fYes : FSt → Option Bool := fun _ => some true
theorem PTs.of {t t' : TT} (h : PTs X ifs t) (k : ∀ σ H Q, t' σ H Q → t σ H Q) : PTs X ifs t' := ⟨fun pins s σ H Q I q => h.run pins s σ H Q I (k _ _ _ q)⟩
theorem fts_nil : PTs X [] (tT K fYes) := PTs.of pts_nil fun σ H Q ⟨F0, H0, F, st, d, rp, e, q⟩ => by cases e; exact q F H (.refl rp.sub)
theorem fts_one (h : FT K X e ft) : PTs X [e] (tT K ft) := pts_one h
theorem fn_lc (hc : X.calm = true) (hN : X.N.Nodup) (hi : FIR K X tg iter fi) (ok : BlkOk X.N X.env.scope scope own)
    (hg : ∀ (s : Shared) (H : Hp) (C : Addr) (cl : List (Str × Addr)) (fp : List Addr), FG K sl (X.blk s H scope (compEnvC scope cl C X.env) fp) tg g) (ht : ∀ (s : Shared) (H : Hp) (C : Addr) (cl : List (Str × Addr)) (fp : List Addr), PTs (X.blk s H scope (compEnvC scope cl C X.env) fp) ifs (tT K ft))
    (he : ∀ (s : Shared) (H : Hp) (C : Addr) (cl : List (Str × Addr)) (fp : List Addr), FP K (X.blk s H scope (compEnvC scope cl C X.env) fp) elt fe) {vs : List Nat} (hv : own.map (·.2) = vs) (hsl : ∀ i ∈ sl, i ∈ vs) (hs : ∀ x, foldedSetIterable iter X.env x = pure x := by intro _; rfl) :
    FN K X (.ListComp elt [⟨tg, iter, ifs, 0⟩] scope pos) (fLc fi g ft fe vs) := by subst hv; exact PE.of (pe_lc hc hN hi ok hg ht he hs) (tLc_of hsl)
end

/-! ## statements -/
inductive FOut
  | nx (st : FSt)
  | rt (d : PyData)
  | bk (st : FSt)
  | ct (st : FSt)
  | ex (c : String)
abbrev XW := String → Hp → Prop
def EndOk (K : PySem.W.Frag) (W : XW) (F0 H0 Fb : Hp) (D : Ends) : FOut → Prop
  | .nx st => ∀ F H σ, Rp K F0 H0 F H st σ → Same Fb F → D.nx σ H
  | .rt d => ∀ v F H, Grow F0 H0 F H → TV K F v d → D.rt v H
  | .bk st => ∀ F H σ, Rp K F0 H0 F H st σ → Same Fb F → D.bk σ H
  | .ct st => ∀ F H σ, Rp K F0 H0 F H st σ → Same Fb F → D.ct σ H
  | .ex c => ∀ F H, Grow F0 H0 F H → W c H
def tS (K : PySem.W.Frag) (W : XW) (f : FSt → Option FOut) : TS := fun D σ H => ∃ F0 H0 F st o, Rp K F0 H0 F H st σ ∧ f st = some o ∧ EndOk K W F0 H0 F D o
abbrev FS (K : PySem.W.Frag) (W : XW) (X : Cx) (s : Stmt) (f : FSt → Option FOut) := PS X s (tS K W f)
abbrev FSs (K : PySem.W.Frag) (W : XW) (X : Cx) (s : List Stmt) (f : FSt → Option FOut) := PSs X s (tS K W f)
def fNext : FSt → Option FOut := fun st => some (.nx st)
def fSeq (a b : FSt → Option FOut) : FSt → Option FOut := fun st => (a st).bind fun o => match o with
  | .nx st' => b st'
  | o => some o
def fSet (i : Nat) (f : FSt → Option PyData) : FSt → Option FOut := fun st => (f st).bind fun d => some (.nx (st.set i (.fz d)))
def fSetO (i : Nat) (f : FSt → Option (List PyData)) : FSt → Option FOut := fun st => (f st).bind fun d => some (.nx (st.set i (.ow d)))
def fAsg (f : FSt → Option PyData) (g : PyData → FSt → Option FSt) : FSt → Option FOut := fun st => (f st).bind fun d => (g d st).bind fun st' => some (.nx st')
def fRet (f : FSt → Option PyData) : FSt → Option FOut := fun st => (f st).bind fun d => some (.rt d)
def fRetN : FSt → Option FOut := fun _ => some (.rt .none)
def fIfS (c : FSt → Option Bool) (a b : FSt → Option FOut) : FSt → Option FOut := fun st => (c st).bind fun x => if x = true then a st else b st
def fBrk : FSt → Option FOut := fun st => some (.bk st)
def fCnt : FSt → Option FOut := fun st => some (.ct st)
def fDrop (f : FSt → Option PyData) : FSt → Option FOut := fun st => (f st).bind fun _ => some (.nx st)
def fAug (i : Nat) (g : PyData → PyData → Option PyData) (f : FSt → Option PyData) : FSt → Option FOut := fun st => (rdf st[i]?).bind fun x => (f st).bind fun y => (g x y).bind fun z => some (.nx (st.set i (.fz z)))
def owOf : Option SV → Option (List PyData)
  | some (.ow ds) => some ds
  | _ => none
/-- the own list of a slot changes -/
def fOwn (i : Nat) (g : List PyData → PyData → Option (List PyData)) (f : FSt → Option PyData) : FSt → Option FOut := fun st => (f st).bind fun d => (owOf st[i]?).bind fun ds => (g ds d).bind fun es => some (.nx (st.set i (.ow es)))
def gApp (ds : List PyData) (d : PyData) : Option (List PyData) := if ds.length < sizeLine then some (ds ++ [d]) else none
def gExt (ds : List PyData) : PyData → Option (List PyData)
  | .list es => if ds.length + es.length ≤ sizeLine then some (ds ++ es) else none
  | _ => none
def fPut (i : Nat) (fk f : FSt → Option PyData) : FSt → Option FOut := fun st => (f st).bind fun d => (fk st).bind fun k => (owOf st[i]?).bind fun ds => match k with
  | .int k => (ixN ds.length k).bind fun j => some (.nx (st.set i (.ow (ds.set j d))))
  | _ => none
def forF (g : PyData → FSt → Option FSt) (b : FSt → Option FOut) : List PyData → FSt → Option FOut
  | [], st => some (.nx st)
  | d :: r, st => (g d st).bind fun st1 => (b st1).bind fun o => match o with
    | .nx s => forF g b r s
    | .ct s => forF g b r s
    | .bk s => some (.nx s)
    | .rt d => some (.rt d)
    | .ex c => some (.ex c)
def fFor (fi : FSt → Option (List PyData)) (g : PyData → FSt → Option FSt) (b : FSt → Option FOut) : FSt → Option FOut := fun st => (fi st).bind fun ds => forF g b ds st
def whF (c : FSt → Option Bool) (b : FSt → Option FOut) : Nat → FSt → Option FOut
  | 0, _ => none
  | n + 1, st => (c st).bind fun x => if x = true then (b st).bind fun o => match o with
    | .nx s => whF c b n s
    | .ct s => whF c b n s
    | .bk s => some (.nx s)
    | .rt d => some (.rt d)
    | .ex c => some (.ex c) else some (.nx st)
open Classical in
noncomputable def fWhile (c : FSt → Option Bool) (b : FSt → Option FOut) : FSt → Option FOut := fun st => if h : ∃ n o, whF c b n st = some o then whF c b h.choose st else none
theorem whF_mono {c : FSt → Option Bool} {b : FSt → Option FOut} : ∀ {n : Nat} {st : FSt} {o : FOut}, whF c b n st = some o → ∀ m, n ≤ m → whF c b m st = some o
  | 0, _, _, h, _, _ => by cases h
  | n + 1, st, o, h, 0, hm => by omega
  | n + 1, st, o, h, m + 1, hm => by
    unfold whF at h ⊢
    obtain ⟨x, ex, h⟩ := bind_some h
    rw [ex]
    show (if x = true then _ else _) = _
    cases x with
    | false => exact h
    | true =>
      rw [if_pos rfl] at h ⊢
      obtain ⟨y, ey, h⟩ := bind_some h
      rw [ey]
      cases y with
      | nx s => exact whF_mono h m (by omega)
      | ct s => exact whF_mono h m (by omega)
      | bk s => exact h
      | rt s => exact h
      | ex s => exact h
theorem fWhile_of {c : FSt → Option Bool} {b : FSt → Option FOut} {n : Nat} {st : FSt} {o : FOut} (h : whF c b n st = some o) : fWhile c b st = some o := by
  have hx : ∃ n o, whF c b n st = some o := ⟨n, o, h⟩
  unfold fWhile
  rw [dif_pos hx]
  obtain ⟨o', ho'⟩ := hx.choose_spec
  rcases Nat.le_total n hx.choose with hl | hl
  · exact whF_mono h _ hl
  · rw [ho', ← whF_mono ho' _ hl, h]
theorem fWhile_some {c : FSt → Option Bool} {b : FSt → Option FOut} {st : FSt} {o : FOut} (h : fWhile c b st = some o) : ∃ n, whF c b n st = some o := by
  unfold fWhile at h
  split at h
  · exact ⟨_, h⟩
  · cases h
/-- a slot is no more looked at; the object of a slot changes no more -/
def fForget (is : List Nat) (f : FSt → Option FOut) : FSt → Option FOut := fun st => f (is.foldl (fun s i => s.set i .un) st)
def frzV : SV → SV
  | .ow ds => .fz (.list ds)
  | .od es => .fz (.dict es)
  | .ot es => .fz (.dict es)
  | s => s
def fFrz (i : Nat) (f : FSt → Option FOut) : FSt → Option FOut := fun st => f (st.modify i frzV)
section
variable {K : PySem.W.Frag} {W : XW} {X : Cx} {a b e : Expr} {s : Stmt} {ss : List Stmt} {f f' : FSt → Option FOut} {fe fk : FSt → Option PyData} {fl : FSt → Option (List PyData)} {fc : FSt → Option Bool} {pos : Pos}
theorem PS.of {t t' : TS} (h : PS X s t) (k : ∀ D σ H, t' D σ H → t D σ H) : PS X s t' := ⟨fun pins s σ H D I q => h.run pins s σ H D I (k _ _ _ q)⟩
theorem PSs.of {t t' : TS} (h : PSs X ss t) (k : ∀ D σ H, t' D σ H → t D σ H) : PSs X ss t' := ⟨fun pins s σ H D I q => h.run pins s σ H D I (k _ _ _ q)⟩
theorem EndOk.fz {F0 H0 F F' : Hp} {D : Ends} {o : FOut} (s : Same F F') (h : EndOk K W F0 H0 F D o) : EndOk K W F0 H0 F' D o := by
  cases o with
  | nx st => exact fun F2 H σ r k => h F2 H σ r (s.trans k)
  | bk st => exact fun F2 H σ r k => h F2 H σ r (s.trans k)
  | ct st => exact fun F2 H σ r k => h F2 H σ r (s.trans k)
  | rt d => exact h
  | ex c => exact h
theorem fss_nil : FSs K W X [] fNext := PSs.of pss_nil fun D σ H ⟨F0, H0, F, st, o, rp, e, q⟩ => by cases e; exact q F H σ rp (Same.refl _)
theorem fss_one (h : FS K W X s f) : FSs K W X [s] f := pss_one h
theorem fss_cons (h : FS K W X s f) (h2 : FSs K W X ss f') : FSs K W X (s :: ss) (fSeq f f') := PSs.of (pss_cons h h2) fun D σ H ⟨F0, H0, F, st, o, rp, e, q⟩ => by
  obtain ⟨o1, e1, e⟩ := bind_some e
  refine ⟨F0, H0, F, st, o1, rp, e1, ?_⟩
  cases o1 with
  | nx st1 => exact fun F1 H1 σ1 rp1 sm => ⟨F0, H0, F1, st1, o, rp1, e, q.fz sm⟩
  | rt d => cases e; exact q
  | bk d => cases e; exact q
  | ct d => cases e; exact q
  | ex d => cases e; exact q
theorem fs_frz (i : Nat) (h : FS K W X s f) : FS K W X s (fFrz i f) := PS.of h fun D σ H ⟨F0, H0, F, st, o, rp, e, q⟩ => by
  obtain ⟨w, k⟩ := id rp
  have same : ∀ s', st[i]? = some s' → frzV s' = s' → st.modify i frzV = st := fun s' hs hz => by
    refine List.ext_getElem? fun j => ?_
    rw [List.getElem?_modify]
    by_cases hj : i = j
    · subst hj; rw [hs]; simp [hz]
    · simp [hj]
  have keep : ∀ s', st[i]? = some s' → st.modify i frzV = st.set i (frzV s') := fun s' hs => by
    refine List.ext_getElem? fun j => ?_
    rw [List.getElem?_modify, List.getElem?_set]
    by_cases hj : i = j
    · subst hj
      have := (List.getElem?_eq_some_iff.mp hs).1
      rw [hs]; simp [this]
    · simp [hj]
  cases es : st[i]? with
  | none =>
    have : st.modify i frzV = st := by
      refine List.ext_getElem? fun j => ?_
      rw [List.getElem?_modify]
      by_cases hj : i = j
      · subst hj; rw [es]; rfl
      · simp [hj]
    unfold fFrz at e
    rw [this] at e
    exact ⟨F0, H0, F, st, o, rp, e, q⟩
  | some s' =>
    obtain ⟨x, ex, rs⟩ := k.sl i s' es
    unfold fFrz at e
    cases s' with
    | un => rw [same _ es rfl] at e; exact ⟨F0, H0, F, st, o, rp, e, q⟩
    | fz d => rw [same _ es rfl] at e; exact ⟨F0, H0, F, st, o, rp, e, q⟩
    | ow ds =>
      rw [keep _ es] at e
      obtain ⟨p, vs, rfl, op, g, t⟩ := rs
      obtain ⟨F', g', sF, rp'⟩ := rp.frz (d := .list ds) es ex g (fun q ⟨p', vs', e', op', _⟩ => by cases e'; exact op') (.lst upd_same (t.mono (same_upd (k.fr i p op).1)))
      exact ⟨F0, H0, F', _, o, rp', e, q.fz sF⟩
    | od ds =>
      rw [keep _ es] at e
      obtain ⟨p, vs, rfl, op, g, t⟩ := rs
      obtain ⟨F', g', sF, rp'⟩ := rp.frz (d := .dict ds) es ex g (fun q ⟨p', vs', e', op', _⟩ => by cases e'; exact op') (.dic upd_same (t.mono (same_upd (k.fr i p op).1)))
      exact ⟨F0, H0, F', _, o, rp', e, q.fz sF⟩
    | ot ds =>
      rw [keep _ es] at e
      obtain ⟨p, vs, rfl, op, g, t⟩ := rs
      obtain ⟨F', g', sF, rp'⟩ := rp.frz (d := .dict ds) es ex g (fun q ⟨p', vs', e', op', _⟩ => by cases e'; exact op') (.diT upd_same (t.mono (same_upd (k.fr i p op).1)))
      exact ⟨F0, H0, F', _, o, rp', e, q.fz sF⟩
theorem Rp.forgets {F0 H0 F H : Hp} {st : FSt} {σ : L2.St} (r : Rp K F0 H0 F H st σ) : ∀ is : List Nat, Rp K F0 H0 F H (is.foldl (fun s i => s.set i .un) st) σ := by
  intro is
  induction is generalizing st with
  | nil => exact r
  | cons i r' ih => exact ih (r.forget i)
theorem fs_forget (is : List Nat) (h : FS K W X s f) : FS K W X s (fForget is f) := PS.of h fun D σ H ⟨F0, H0, F, st, o, rp, e, q⟩ => ⟨F0, H0, F, _, o, rp.forgets is, e, q⟩
theorem fss_forget (is : List Nat) (h : FSs K W X ss f) : FSs K W X ss (fForget is f) := PSs.of h fun D σ H ⟨F0, H0, F, st, o, rp, e, q⟩ => ⟨F0, H0, F, _, o, rp.forgets is, e, q⟩
/-! ### assignments -/
theorem tSet_of {i : Nat} : ∀ D σ H, tS K W (fSet i fe) D σ H → tAsg (tF K fe) (gName i) D σ H := fun D σ H ⟨F0, H0, F, st, o, rp, e, q⟩ => by
  obtain ⟨d, ed, e⟩ := bind_some e
  cases e
  exact ⟨F0, H0, F, st, d, rp, ed, fun v F1 H1 g1 t1 => q F1 H1 _ ((rp.grow g1).set t1 i) g1.fz⟩
theorem tSetO_of {i : Nat} : ∀ D σ H, tS K W (fSetO i fl) D σ H → tAsg (tN K fl) (gName i) D σ H := fun D σ H ⟨F0, H0, F, st, o, rp, e, q⟩ => by
  obtain ⟨d, ed, e⟩ := bind_some e
  cases e
  exact ⟨F0, H0, F, st, d, rp, ed, fun p vs F1 H1 g1 hp hF hH t1 => q F1 H1 _ (rp.setO (s := .ow d) g1 hp hF (by rw [hH]; exact fun z => nomatch z) ⟨p, vs, rfl, rfl, hH, t1⟩ i) g1.fz⟩
variable {i : Nat} {x : Str} {pos' : Pos}
theorem fs_set (hN : X.N.Nodup) (hi : X.N[i]? = some x) (hx : Loc X.env.scope x) (he : FP K X e fe) (hs : swapsWith e (some (.Name x pos')) pos.line X.env = pure false := by rfl) (hf : X.fn x = true ∨ X.env.scope.names.lookup x = some .local := by first | exact .inl rfl | exact .inr rfl | assumption) :
    FS K W X (.Assign [.Name x pos'] e pos) (fSet i fe) := PS.of (ps_set hN hi hx he hs hf) tSet_of
theorem fs_setO (hN : X.N.Nodup) (hi : X.N[i]? = some x) (hx : Loc X.env.scope x) (he : FN K X e fl) (hs : swapsWith e (some (.Name x pos')) pos.line X.env = pure false := by rfl) (hf : X.fn x = true ∨ X.env.scope.names.lookup x = some .local := by first | exact .inl rfl | exact .inr rfl | assumption) :
    FS K W X (.Assign [.Name x pos'] e pos) (fSetO i fl) := PS.of (ps_set hN hi hx he hs hf) tSetO_of
theorem tSetL_of : ∀ D σ H, tS K W (fSet i (fL fl)) D σ H → tAsg (tN K fl) (gName i) D σ H := fun D σ H ⟨F0, H0, F, st, o, rp, e, q⟩ => by
  obtain ⟨d, ed, e⟩ := bind_some e
  cases e
  obtain ⟨ds, e1, e2⟩ := bind_some ed
  cases e2
  exact ⟨F0, H0, F, st, ds, rp, e1, fun p vs F1 H1 g1 hp hF hH t1 => q _ _ _ ((rp.grow (g1.freeze rp.sub hp hH)).set (.lst upd_same (t1.mono (same_upd hF))) i) (g1.freeze rp.sub hp hH).fz⟩
/-- name = [..] by a comprehension -/
theorem fs_setLc {sl : List Nat} {g : PyData → FSt → Option FSt} {elt tg iter : Expr} {ifs : List Expr} {scope : Scope} {own : List (Str × Nat)} {fi : FSt → Option (List PyData)} {ft : FSt → Option Bool} {fel : FSt → Option PyData} {y : Str} {py spos : Pos} (hc : X.calm = true) (hN : X.N.Nodup) (hy : X.N[i]? = some y) (hyl : X.env.scope.names.lookup y = some .local)
    (hsw : swapsWith (.ListComp elt [⟨tg, iter, ifs, 0⟩] scope pos) (some (.Name y py)) spos.line X.env = pure true) (hi : FIR K X tg iter fi) (ok : BlkOk X.N X.env.scope scope own)
    (hg : ∀ (s : Shared) (H : Hp) (C : Addr) (cl : List (Str × Addr)) (fp : List Addr), FG K sl (X.blk s H scope (compEnvC scope cl C X.env) fp) tg g) (ht : ∀ (s : Shared) (H : Hp) (C : Addr) (cl : List (Str × Addr)) (fp : List Addr), PTs (X.blk s H scope (compEnvC scope cl C X.env) fp) ifs (tT K ft))
    (he : ∀ (s : Shared) (H : Hp) (C : Addr) (cl : List (Str × Addr)) (fp : List Addr), FP K (X.blk s H scope (compEnvC scope cl C X.env) fp) elt fel) {vs : List Nat} (hv : own.map (·.2) = vs) (hsl : ∀ i ∈ sl, i ∈ vs) (hs : ∀ x, foldedSetIterable iter X.env x = pure x := by intro _; rfl) :
    FS K W X (.Assign [.Name y py] (.ListComp elt [⟨tg, iter, ifs, 0⟩] scope pos) spos) (fSet i (fL (fLc fi g ft fel vs))) := by
  subst hv
  exact PS.of (ps_setLc hc hN hy hyl hsw hi ok hg ht he hs) fun D σ H h => tLc_of hsl _ _ _ (tSetL_of D σ H h)
theorem fs_setLcO {sl : List Nat} {g : PyData → FSt → Option FSt} {elt tg iter : Expr} {ifs : List Expr} {scope : Scope} {own : List (Str × Nat)} {fi : FSt → Option (List PyData)} {ft : FSt → Option Bool} {fel : FSt → Option PyData} {y : Str} {py spos : Pos} (hc : X.calm = true) (hN : X.N.Nodup) (hy : X.N[i]? = some y) (hyl : X.env.scope.names.lookup y = some .local)
    (hsw : swapsWith (.ListComp elt [⟨tg, iter, ifs, 0⟩] scope pos) (some (.Name y py)) spos.line X.env = pure true) (hi : FIR K X tg iter fi) (ok : BlkOk X.N X.env.scope scope own)
    (hg : ∀ (s : Shared) (H : Hp) (C : Addr) (cl : List (Str × Addr)) (fp : List Addr), FG K sl (X.blk s H scope (compEnvC scope cl C X.env) fp) tg g) (ht : ∀ (s : Shared) (H : Hp) (C : Addr) (cl : List (Str × Addr)) (fp : List Addr), PTs (X.blk s H scope (compEnvC scope cl C X.env) fp) ifs (tT K ft))
    (he : ∀ (s : Shared) (H : Hp) (C : Addr) (cl : List (Str × Addr)) (fp : List Addr), FP K (X.blk s H scope (compEnvC scope cl C X.env) fp) elt fel) {vs : List Nat} (hv : own.map (·.2) = vs) (hsl : ∀ i ∈ sl, i ∈ vs) (hs : ∀ x, foldedSetIterable iter X.env x = pure x := by intro _; rfl) :
    FS K W X (.Assign [.Name y py] (.ListComp elt [⟨tg, iter, ifs, 0⟩] scope pos) spos) (fSetO i (fLc fi g ft fel vs)) := by
  subst hv
  exact PS.of (ps_setLc hc hN hy hyl hsw hi ok hg ht he hs) fun D σ H h => tLc_of hsl _ _ _ (tSetO_of D σ H h)
theorem fs_asg {tg : Expr} {sl : List Nat} {g : PyData → FSt → Option FSt} (he : FP K X e fe) (hg : FG K sl X tg g) (hs : swapsWithSole [tg] e pos.line X.env = pure false := by rfl) (hw : swappedStores [tg] e X.env = pure none := by rfl)
    (h1 : (assignEach [tg] X.env).map (·.2) = [assign tg X.env] := by rfl) : FS K W X (.Assign [tg] e pos) (fAsg fe g) := PS.of (ps_asg he hg hs hw h1) fun D σ H ⟨F0, H0, F, st, o, rp, e, q⟩ => by
  obtain ⟨d, ed, e⟩ := bind_some e
  obtain ⟨st1, e1, e⟩ := bind_some e
  cases e
  exact ⟨F0, H0, F, st, d, rp, ed, fun v F1 H1 g1 t1 => ⟨F0, H0, F1, st, d, st1, rp.grow g1, t1, e1, fun σ1 rp1 _ _ => q F1 H1 σ1 rp1 g1.fz⟩⟩
/-- x, y = a, b -/
def fPar (i j : Nat) (f : FSt → Option (List PyData)) : FSt → Option FOut := fun st => (f st).bind fun ds => match ds with
  | [d, d'] => some (.nx ((st.set i (.fz d)).set j (.fz d')))
  | _ => none
theorem fs_par {j : Nat} {y : Str} {px py pt : Pos} {kt k2 : Nat} {pt2 : Pos} (hc : X.calm = true) (hN : X.N.Nodup) (hi : X.N[i]? = some x) (hj : X.N[j]? = some y) (hij : i ≠ j)
    (hx : X.env.scope.names.lookup x = some .local) (hy : X.env.scope.names.lookup y = some .local) (ha : FA K X [a, b] fl)
    (hw : swappedStores [.Tuple [.Name x px, .Name y py] kt pt] (.Tuple [a, b] k2 pt2) X.env = pure (some [x, y]))
    (hs : swapsWithSole [.Tuple [.Name x px, .Name y py] kt pt] (.Tuple [a, b] k2 pt2) pos.line X.env = pure false := by rfl) :
    FS K W X (.Assign [.Tuple [.Name x px, .Name y py] kt pt] (.Tuple [a, b] k2 pt2) pos) (fPar i j fl) := PS.of (ps_par hc hN hi hj hij hx hy ha hw hs) fun D σ H ⟨F0, H0, F, st, o, rp, e, q⟩ => by
  obtain ⟨d, ed, e⟩ := bind_some e
  split at e <;> cases e
  exact ⟨F0, H0, F, st, _, rp, ed, fun vs F1 H1 g1 t1 => by
    cases t1 with | cons t1 t2 => cases t2 with | cons t2 t3 =>
      cases t3
      exact ⟨_, _, rfl, q F1 H1 _ (((rp.grow g1).set t1 i).set t2 j) g1.fz⟩⟩
theorem fs_aug {op : Operator} {g : Int → Int → Int} {C : Int → Int → Prop} {gd : PyData → PyData → Option PyData} (hop : OpR X (inplaceOp op) (rI C fun i j => .int (g i j))) (hg : Op2 K (rI C fun i j => .int (g i j)) gd) (hN : X.N.Nodup) (hi : X.N[i]? = some x) (hx : Loc X.env.scope x) (he : FP K X e fe) (hf : X.fn x = true ∨ X.env.scope.names.lookup x = some .local := by first | exact .inl rfl | exact .inr rfl | assumption) :
    FS K W X (.AugAssign (.Name x pos') op e pos) (fAug i gd fe) := PS.of (ps_aug hN hi hx he (ip_of hop) hf) fun D σ H ⟨F0, H0, F, st, o, rp, e, q⟩ => by
  obtain ⟨dx, ex, e⟩ := bind_some e
  obtain ⟨dy, ey, e⟩ := bind_some e
  obtain ⟨dz, ez, e⟩ := bind_some e
  cases e
  obtain ⟨w, k⟩ := id rp
  cases es : st[i]? with
  | none => rw [es] at ex; cases ex
  | some s' =>
    rw [es] at ex
    cases s' with
    | fz d' =>
      cases ex
      obtain ⟨y, ey', v, rfl, t⟩ := k.sl i _ es
      exact ⟨v, ey', F0, H0, F, st, dy, rp, ey, fun v2 F1 H1 g1 t1 => hg F1 H1 v v2 _ dy dz _ g1.sub (.fz (t.mono g1.fz)) (.fz t1) ez fun z F2 H2 g2 t2 => q F2 H2 _ (((rp.grow g1).grow g2).set t2 i) (g1.fz.trans g2.fz)⟩
    | _ => cases ex
theorem fs_augI {op : Operator} {g : Int → Int → Int} (hop : OpR X (inplaceOp op) (rI0 fun i j => .int (g i j))) (hN : X.N.Nodup) (hi : X.N[i]? = some x) (hx : Loc X.env.scope x) (he : FP K X e fe) (hf : X.fn x = true ∨ X.env.scope.names.lookup x = some .local := by first | exact .inl rfl | exact .inr rfl | assumption) :
    FS K W X (.AugAssign (.Name x pos') op e pos) (fAug i (dII fun i j => some (.int (g i j))) fe) :=
  fs_aug (C := fun _ _ => True) (fun pins s σ H x y v u Q I rx ry ⟨i, j, ex, ey, _, q⟩ => hop pins s σ H x y v u Q I rx ry ⟨i, j, ex, ey, q⟩) (.ofI fun i j d h => by cases h; exact ⟨trivial, rfl⟩) hN hi hx he hf
/-- slots that are forgotten behind a block -/
def forgetO (is : List Nat) : FOut → FOut
  | .nx st => .nx (is.foldl (fun s i => s.set i .un) st)
  | .ct st => .ct (is.foldl (fun s i => s.set i .un) st)
  | .bk st => .bk (is.foldl (fun s i => s.set i .un) st)
  | o => o
def fPost (is : List Nat) (f : FSt → Option FOut) : FSt → Option FOut := fun st => (f st).bind fun o => some (forgetO is o)
theorem fss_post (is : List Nat) (h : FSs K W X ss f) : FSs K W X ss (fPost is f) := PSs.of h fun D σ H ⟨F0, H0, F, st, o, rp, e, q⟩ => by
  obtain ⟨o1, e1, e⟩ := bind_some e
  cases e
  refine ⟨F0, H0, F, st, o1, rp, e1, ?_⟩
  cases o1 with
  | nx s1 => exact fun F1 H1 σ1 rp1 s => q F1 H1 σ1 (rp1.forgets is) s
  | ct s1 => exact fun F1 H1 σ1 rp1 s => q F1 H1 σ1 (rp1.forgets is) s
  | bk s1 => exact fun F1 H1 σ1 rp1 s => q F1 H1 σ1 (rp1.forgets is) s
  | rt d => exact q
  | ex c => exact q
/-! ### own lists -/
theorem own_at {F0 H0 F H : Hp} {st : FSt} {σ : L2.St} {ds : List PyData} (rp : Rp K F0 H0 F H st σ) (h : owOf st[i]? = some ds) : ∃ p vs, st[i]? = some (.ow ds) ∧ σ[i]? = some (some (.ref p)) ∧ H p = some (.lst vs) ∧ TVs K F vs ds := by
  obtain ⟨w, k⟩ := rp
  cases es : st[i]? with
  | none => rw [es] at h; cases h
  | some s' =>
    rw [es] at h
    cases s' with
    | ow d' =>
      cases h
      obtain ⟨y, ey, p, vs, rfl, op, g, t⟩ := k.sl i _ es
      exact ⟨p, vs, rfl, ey, g, t⟩
    | _ => cases h
theorem Rp.own {F0 H0 F H : Hp} {st : FSt} {σ : L2.St} {ds es : List PyData} {p : Addr} {ws : List V} (rp : Rp K F0 H0 F H st σ) (h : st[i]? = some (.ow ds)) (hx : σ[i]? = some (some (.ref p))) (t : TVs K F ws es) : Rp K F0 H0 F (L2.upd H p (.lst ws)) (st.set i (.ow es)) σ :=
  rp.upd (.lst ws) h (fun q hq => ⟨p, ws, rfl, hq, upd_same, t⟩) hx fun q ⟨p', vs', e', op', _⟩ => by cases e'; exact op'
theorem fs_append (h : PE X e (tBM X.K "list" rAppend (tVar i) (tCons (tF K fe) tNil))) (hs : swapsWith e none pos.line X.env = pure false := by rfl) (hK : X.K = K := by rfl) : FS K W X (.Expr e pos) (fOwn i gApp fe) := by
  subst hK
  refine PS.of (ps_expr h hs) fun D σ H ⟨F0, H0, F, st, o, rp, e, q⟩ => ?_
  obtain ⟨d, ed, e⟩ := bind_some e
  obtain ⟨ds, eds, e⟩ := bind_some e
  obtain ⟨es, ees, e⟩ := bind_some e
  cases e
  unfold gApp at ees
  obtain ⟨hlen, rfl⟩ := ite_some ees
  obtain ⟨p, vs, hst, hσ, g, t⟩ := own_at rp eds
  refine ⟨_, hσ, .inl ⟨rfl, vs, .inl (.inl g)⟩, F0, H0, F, st, d, rp, ed, fun v F1 H1 g1 t1 => ⟨p, vs, v, rfl, rfl, g1.hp _ _ g, by rw [t.len]; exact hlen, ?_⟩⟩
  exact q F1 _ _ ((rp.grow g1).own hst hσ ((t.mono g1.fz).app (.one t1))) g1.fz
theorem fs_extend (h : PE X e (tBM X.K "list" rExtend (tVar i) (tCons (tR K fe) tNil))) (hs : swapsWith e none pos.line X.env = pure false := by rfl) (hK : X.K = K := by rfl) : FS K W X (.Expr e pos) (fOwn i gExt fe) := by
  subst hK
  refine PS.of (ps_expr h hs) fun D σ H ⟨F0, H0, F, st, o, rp, e, q⟩ => ?_
  obtain ⟨d, ed, e⟩ := bind_some e
  obtain ⟨ds, eds, e⟩ := bind_some e
  obtain ⟨es, ees, e⟩ := bind_some e
  cases e
  unfold gExt at ees
  split at ees
  · obtain ⟨hlen, rfl⟩ := ite_some ees
    obtain ⟨p, vs, hst, hσ, g, t⟩ := own_at rp eds
    refine ⟨_, hσ, .inl ⟨rfl, vs, .inl (.inl g)⟩, F0, H0, F, st, _, rp, ed, fun v F1 H1 g1 t1 => ?_⟩
    obtain ⟨p2, ws, rfl, g2, t2⟩ := t1.lst g1.sub
    refine ⟨p, p2, vs, ws, rfl, rfl, g1.hp _ _ g, g2, by rw [t.len, t2.len]; exact hlen, ?_⟩
    exact q F1 _ _ ((rp.grow g1).own hst hσ ((t.mono g1.fz).app t2)) g1.fz
  · cases ees
theorem fs_put {o k : Expr} {tpos : Pos} (hv : PE X o (tVar i)) (hk : FP K X k fk) (he : FP K X e fe) (hs : swapsWithSole [.Subscript o k tpos] e pos.line X.env = pure false := by rfl) (hw : swappedStores [.Subscript o k tpos] e X.env = pure none := by rfl)
    (h1 : (assignEach [.Subscript o k tpos] X.env).map (·.2) = [assign (.Subscript o k tpos) X.env] := by rfl)
    (ha : ∀ v, assign (.Subscript o k tpos) X.env v = (do
      let ov ← holding [v] (eval o X.env)
      let iv ← holding [v, ov] (eval k X.env)
      standAt tpos
      holding [v, ov, iv] (setItem ov iv v)
      release [v, ov, iv] []) := by intro _; rfl) : FS K W X (.Assign [.Subscript o k tpos] e pos) (fPut i fk fe) := PS.of (ps_asg he (pg_sub hv hk set_list ha) hs hw h1) fun D σ H ⟨F0, H0, F, st, o, rp, e, q⟩ => by
  obtain ⟨d, ed, e⟩ := bind_some e
  obtain ⟨dk, edk, e⟩ := bind_some e
  obtain ⟨ds, eds, e⟩ := bind_some e
  split at e
  · obtain ⟨j, ej, e⟩ := bind_some e
    cases e
    obtain ⟨p, vs, hst, hσ, g, t⟩ := own_at rp eds
    refine ⟨F0, H0, F, st, d, rp, ed, fun v F1 H1 g1 t1 => ⟨_, hσ, F0, H0, F1, st, _, rp.grow g1, edk, fun v2 F2 H2 g2 t2 => ?_⟩⟩
    cases t2
    refine ⟨p, vs, _, j, rfl, rfl, g2.hp _ _ (g1.hp _ _ g), by rw [t.len]; exact ej, ?_⟩
    exact q F2 _ _ (((rp.grow g1).grow g2).own hst hσ ((t.mono (g1.fz.trans g2.fz)).set (t1.mono g2.fz) j)) (g1.fz.trans g2.fz)
  · cases e
/-! ### flow -/
theorem fs_ret (he : FP K X e fe) : FS K W X (.Return (some e) pos) (fRet fe) := PS.of (ps_ret he) fun D σ H ⟨F0, H0, F, st, o, rp, e, q⟩ => by
  obtain ⟨d, ed, e⟩ := bind_some e
  cases e
  exact ⟨F0, H0, F, st, d, rp, ed, fun v F1 H1 g1 t1 => q v F1 H1 (rp.gr.trans g1) t1⟩
theorem fs_retN : FS K W X (.Return none pos) fRetN := PS.of ps_retN fun D σ H ⟨F0, H0, F, st, o, rp, e, q⟩ => by
  cases e
  exact q .non F H rp.gr .non
theorem fs_if {c : Expr} {sa sb : List Stmt} (hc : FT K X c fc) (ha : FSs K W X sa f) (hb : FSs K W X sb f') : FS K W X (.If c sa sb pos) (fIfS fc f f') := PS.of (ps_if hc ha hb) fun D σ H ⟨F0, H0, F, st, o, rp, e, q⟩ => by
  obtain ⟨x, ex, e⟩ := bind_some e
  refine ⟨F0, H0, F, st, x, rp, ex, fun F1 H1 g1 => ?_⟩
  cases x with
  | true => rw [if_pos rfl] at e ⊢; exact ⟨F0, H0, F1, st, o, rp.grow g1, e, q.fz g1.fz⟩
  | false => rw [if_neg Bool.false_ne_true] at e ⊢; exact ⟨F0, H0, F1, st, o, rp.grow g1, e, q.fz g1.fz⟩
theorem fs_pass : FS K W X (.Pass pos) fNext := PS.of ps_pass fun D σ H ⟨F0, H0, F, st, o, rp, e, q⟩ => by cases e; exact q F H σ rp (Same.refl _)
theorem fs_break : FS K W X (.Break pos) fBrk := PS.of ps_break fun D σ H ⟨F0, H0, F, st, o, rp, e, q⟩ => by cases e; exact q F H σ rp (Same.refl _)
theorem fs_continue : FS K W X (.Continue pos) fCnt := PS.of ps_continue fun D σ H ⟨F0, H0, F, st, o, rp, e, q⟩ => by cases e; exact q F H σ rp (Same.refl _)
theorem fs_expr (he : FP K X e fe) (hs : swapsWith e none pos.line X.env = pure false := by rfl) : FS K W X (.Expr e pos) (fDrop fe) := PS.of (ps_expr he hs) fun D σ H ⟨F0, H0, F, st, o, rp, e, q⟩ => by
  obtain ⟨d, ed, e⟩ := bind_some e
  cases e
  exact ⟨F0, H0, F, st, d, rp, ed, fun v F1 H1 g1 t1 => q F1 H1 σ (rp.grow g1) g1.fz⟩
theorem fs_for {iter tg : Expr} {body : List Stmt} {sl : List Nat} {g : PyData → FSt → Option FSt} {fi : FSt → Option (List PyData)} (hp : PassesOwn (model X.prog X.w) X.A X.env X.xe) (hc : X.calm = true) (hi : FI K X tg iter fi) (hg : FG K sl X tg g) (hb : FSs K W X body f)
    (hs : ∀ x, foldedSetIterable iter X.env x = pure x := by intro _; rfl) : FS K W X (.For tg iter body [] pos) (fFor fi g f) := PS.of (ps_for hp hc hi hg hb hs) fun D σ H ⟨F0, H0, F, st, o, rp, e, q⟩ => by
  obtain ⟨xs, ex, e⟩ := bind_some e
  refine ⟨F0, H0, F, st, xs, rp, ex, fun J F1 H1 g1 w => ?_⟩
  refine ⟨fun i m σ' H' => m = xs.length - i ∧ i ≤ xs.length ∧ ∃ F' st', Rp K F0 H0 F' H' st' σ' ∧ Same F1 F' ∧ forF g f (xs.drop i) st' = some o, ⟨xs.length, by simp, Nat.zero_le _, F1, st, rp.grow g1, Same.refl _, e⟩, ?_⟩
  rintro i m σ' H' ⟨rfl, hi, F', st', rp', sm, ef⟩
  by_cases hlt : i < xs.length
  · refine .inr ⟨w.go F' H' i sm rp'.sub (sm.trans rp'.sub) hlt, _, fun σ2 H2 p' => ⟨xs.length - (i + 1), by omega, p'⟩, fun x H2 y => ?_⟩
    obtain ⟨F2, d, g2, hd, td⟩ := w.yld F' H' i x H2 sm rp'.sub (sm.trans rp'.sub) hlt y
    have hdrop : xs.drop i = d :: xs.drop (i + 1) := by
      rw [List.drop_eq_getElem_cons hlt]
      obtain ⟨_, e1⟩ := List.getElem?_eq_some_iff.mp hd
      rw [e1]
    rw [hdrop] at ef
    unfold forF at ef
    obtain ⟨st1, e1, ef⟩ := bind_some ef
    obtain ⟨o1, e2, ef⟩ := bind_some ef
    refine ⟨F0, H0, F2, st', d, st1, rp'.grow g2, td, e1, fun σ3 rp3 _ _ => ⟨F0, H0, F2, st1, o1, rp3, e2, ?_⟩⟩
    cases o1 with
    | nx s1 => exact fun F5 H5 σ5 rp5 s5 => ⟨rfl, hlt, F5, s1, rp5, (sm.trans g2.fz).trans s5, ef⟩
    | ct s1 => exact fun F5 H5 σ5 rp5 s5 => ⟨rfl, hlt, F5, s1, rp5, (sm.trans g2.fz).trans s5, ef⟩
    | bk s1 => cases ef; exact fun F5 H5 σ5 rp5 s5 => q F5 H5 σ5 rp5 (((g1.fz.trans sm).trans g2.fz).trans s5)
    | rt d1 => cases ef; exact q
    | ex c => cases ef; exact q
  · have e' : i = xs.length := by omega
    subst e'
    rw [List.drop_length] at ef
    cases ef
    exact .inl ⟨w.stop F' H' sm rp'.sub (sm.trans rp'.sub), q F' H' σ' rp' (g1.fz.trans sm)⟩
theorem fs_while {c : Expr} {body : List Stmt} (hp : PassesOwn (model X.prog X.w) X.A X.env X.xe) (hc : FT K X c fc) (hb : FSs K W X body f) : FS K W X (.While c body [] pos) (fWhile fc f) := PS.of (ps_while hp hc hb) fun D σ H ⟨F0, H0, F, st, o, rp, e, q⟩ => by
  obtain ⟨n, en⟩ := fWhile_some e
  refine ⟨fun m σ' H' => ∃ F' st', Rp K F0 H0 F' H' st' σ' ∧ Same F F' ∧ whF fc f m st' = some o, ⟨n, F, st, rp, Same.refl _, en⟩, ?_⟩
  rintro m σ' H' ⟨F', st', rp', sm, ew⟩
  cases m with
  | zero => cases ew
  | succ m =>
    unfold whF at ew
    obtain ⟨x, ex, ew⟩ := bind_some ew
    refine ⟨F0, H0, F', st', x, rp', ex, fun F1 H1 g1 => ?_⟩
    cases x with
    | false =>
      rw [if_neg Bool.false_ne_true] at ew ⊢
      cases ew
      exact q F1 H1 _ (rp'.grow g1) (sm.trans g1.fz)
    | true =>
      rw [if_pos rfl] at ew ⊢
      obtain ⟨o1, e1, ew⟩ := bind_some ew
      refine ⟨_, fun σ2 H2 k => ⟨m, Nat.lt_succ_self m, k⟩, F0, H0, F1, st', o1, rp'.grow g1, e1, ?_⟩
      cases o1 with
      | nx s1 => exact fun F5 H5 σ5 rp5 s5 => ⟨F5, s1, rp5, (sm.trans g1.fz).trans s5, ew⟩
      | ct s1 => exact fun F5 H5 σ5 rp5 s5 => ⟨F5, s1, rp5, (sm.trans g1.fz).trans s5, ew⟩
      | bk s1 => cases ew; exact fun F5 H5 σ5 rp5 s5 => q F5 H5 σ5 rp5 ((sm.trans g1.fz).trans s5)
      | rt d1 => cases ew; exact q
      | ex c => cases ew; exact q
end
/-! ## defs -/
def startF (n N : Nat) (ds : List PyData) : FSt := ds.map .fz ++ List.replicate (N - n) .un
def fDef (n N : Nat) (b : FSt → Option FOut) (ds : List PyData) : Option PyData := if ds.length = n then (b (startF n N ds)).bind fun o => match o with
  | .rt d => some d
  | .nx _ => some .none
  | _ => none else none
section
variable {K : PySem.W.Frag}
theorem Rp.start {F H : Hp} {vs : List V} {ds : List PyData} {N : List Str} {n : Nat} (s : Same F H) (t : TVs K F vs ds) (hn : ds.length = n) : Rp K F H F H (startF n N.length ds) (L2.start N vs) := by
  refine ⟨fun _ _ => False, .refl s, ?_, fun i s' e => ?_, fun _ _ h => h.elim, fun _ _ _ h => h.elim⟩
  · unfold startF L2.start
    rw [List.length_append, List.length_append, List.length_map, List.length_map, List.length_replicate, List.length_replicate, t.len, hn]
  · unfold startF at e
    unfold L2.start
    by_cases hi : i < ds.length
    · rw [List.getElem?_append_left (by simpa using hi), List.getElem?_map] at e
      obtain ⟨d, hd, rfl⟩ := Option.map_eq_some_iff.mp e
      obtain ⟨v, hv, tv⟩ := t.at hd
      refine ⟨some v, ?_, v, rfl, tv⟩
      rw [List.getElem?_append_left (by rw [List.length_map, t.len]; exact hi), List.getElem?_map, hv]
      rfl
    · rw [List.getElem?_append_right (by simpa using hi)] at e
      have h1 := (List.getElem?_eq_some_iff.mp e).1
      rw [List.length_replicate, List.length_map] at h1
      have h2 := (List.getElem?_eq_some_iff.mp e).2
      rw [List.getElem_replicate] at h2
      subst h2
      refine ⟨none, ?_, True.intro⟩
      rw [List.getElem?_append_right (by rw [List.length_map, t.len]; omega), List.length_map, t.len, List.getElem?_replicate, if_pos (by omega)]
theorem fn_pure {P : Program} {w : World} {mg : Str → Option Value} {base : Heap} {x qual : Str} {st : Stmt} {f : Addr} {fd : FuncData} {N ps : List Str} {k n : Nat} {b : FSt → Option FOut} (F : Fun K x qual st f fd) (S : FnScope N ps (defScope st)) (hn : ps.length = n)
    (hb : ∀ (cdv : Value) (A : Around) (outer : List Env) (s : Shared) (H : Hp) (E : XK), Room k (A.deeper (envOfC qual (defScope st) s.heap.objs.size f cdv)) → FSs K (fun _ _ => False) (cxOf CX0 P w K mg base N qual (defScope st) f cdv A outer s H E).nox (defBody st) b) :
    FnOk P w K mg base CX0 (k + 1) f fd ps (spF K (fDef n N.length b)) := by
  refine F.ok S (fun vs H Q E ⟨Fz, ds, d, s, t, e, q⟩ => ?_) (fun cdv A outer s H vs Q E hr ⟨Fz, ds, d, sm, t, e, q⟩ => ⟨_, hb cdv A outer s H E hr, ?_⟩)
  · unfold fDef at e
    split at e
    · rw [t.len]; omega
    · cases e
  · unfold fDef at e
    split at e
    · obtain ⟨o, eo, e⟩ := bind_some e
      refine ⟨Fz, H, Fz, _, o, Rp.start sm t (by assumption), eo, ?_⟩
      cases o with
      | rt d' => cases e; exact fun v F1 H1 g1 t1 => q v F1 H1 g1 t1
      | nx s1 => cases e; exact fun F1 H1 σ1 rp1 _ => q .non F1 H1 rp1.gr .non
      | _ => cases e
    · cases e
end
/-! ## the law -/
def scrD (ns : List Int) : PyData := .dict [(.none, .list (ns.map .int))]
theorem law_of {P : Program} {w : World} {mg : Str → Option Value} {base : Heap} {K : PySem.W.Frag} {k : Nat} {f : Addr} {fd : FuncData} {ps : List Str} {Ff : List PyData → Option PyData} (F : FnOk P w K mg base CX0 k f fd ps (spF K Ff)) (h : ∀ ns : List Int, ns.length ≤ 63 → Ff [scrD ns] = some (.bool true)) :
    FnOk P w K mg base CX0 k f fd ps (fun vs H Q _ => ∃ (a : Addr) (ns : List Int), vs = [.ref a] ∧ SqL K H a (ns.map V.int) ∧ ns.length ≤ 63 ∧ ∀ H', Q (.bl true) H') := by
  refine F.imp fun vs H Q E ⟨a, ns, e, hS, hl, q⟩ => ?_
  subst e
  refine ⟨H, [scrD ns], .bool true, Same.refl _, .cons (.scr hS (TVs.ints ns)) .nil, h ns hl, fun v F' H' _ t => ?_⟩
  cases t
  exact q H'

/-! ## more operators and methods -/
section
variable {K : PySem.W.Frag} {W : XW} {X : Cx} {a b e : Expr} {es : List Expr} {fa fb fe fk : FSt → Option PyData} {fs : FSt → Option (List PyData)} {pos p : Pos}
def dNeg : PyData → Option PyData
  | .int i => some (.int (-i))
  | _ => none
def dInv : PyData → Option PyData
  | .int i => some (.int (Builtin.bitNot i))
  | _ => none
theorem fp_neg (ha : FR K X a fa) : FP K X (.UnaryOp .USub a pos) (fU dNeg fa) := fp_un un_neg (fun F H x a d Q s hx e q => by
  unfold dNeg at e
  split at e <;> cases e
  exact ⟨_, hx.int, q _ F H (.refl s) (.int _)⟩) ha
theorem fp_inv (ha : FR K X a fa) : FP K X (.UnaryOp .Invert a pos) (fU dInv fa) := fp_un un_inv (fun F H x a d Q s hx e q => by
  unfold dInv at e
  split at e <;> cases e
  exact ⟨_, hx.int, q _ F H (.refl s) (.int _)⟩) ha
/-- a list's, a tuple's index of a plain item -/
def firstIx (ys : List PyData) (z : PyData) : Option Nat := if ys.any (fun y => decide (PyData.eqv y z)) = true then some (ys.findIdx fun y => PyData.eqv y z) else none
def strsOf : List PyData → Option (List Str)
  | [] => some []
  | .str i :: r => (strsOf r).bind fun xs => some (i :: xs)
  | _ => none
theorem strsOf_map : ∀ ns : List Str, strsOf (ns.map PyData.str) = some ns
  | [] => rfl
  | n :: r => by rw [List.map_cons, strsOf, strsOf_map r]; rfl
theorem strsOf_eq : ∀ {ds : List PyData} {ns : List Str}, strsOf ds = some ns → ds = ns.map PyData.str
  | [], ns, h => by cases h; rfl
  | .str i :: r, ns, h => by
    unfold strsOf at h
    obtain ⟨xs, h1, h2⟩ := bind_some h
    cases h2
    rw [List.map_cons, strsOf_eq h1]
  | .none :: _, _, h => by cases h
  | .int _ :: _, _, h => by cases h
  | .bool _ :: _, _, h => by cases h
  | .list _ :: _, _, h => by cases h
  | .tuple _ :: _, _, h => by cases h
  | .dict _ :: _, _, h => by cases h
theorem TVs.of_strs {F : Hp} : ∀ {vs : List V} {ns : List Str}, TVs K F vs (ns.map PyData.str) → vs = ns.map V.str
  | _, [], h => by cases h; rfl
  | _, n :: r, h => by
    rw [List.map_cons] at h
    cases h with
    | cons a b =>
      cases a
      rw [TVs.of_strs b]
      rfl
def dIndexT : PyData → PyData → Option PyData
  | .tuple ys, .str z => (strsOf ys).bind fun ss => if z ∈ ss then some (.int ((ss.idxOf z : Nat) : Int)) else none
  | _, _ => none
theorem idx_first {ss : List Str} {z : Str} (h : z ∈ ss) : ss[ss.idxOf z]? = some z ∧ ∀ m, m < ss.idxOf z → ss[m]? ≠ some z := by
  refine ⟨?_, fun m hm e => ?_⟩
  · rw [List.getElem?_eq_getElem (List.idxOf_lt_length_iff.mpr h), List.getElem_idxOf]
  · have hl := (List.getElem?_eq_some_iff.mp e).1
    have := List.not_of_lt_findIdx (p := (· == z)) (xs := ss) (i := m) hm
    have h2 := (List.getElem?_eq_some_iff.mp e).2
    simp [h2] at this
def rIndexTK (K : PySem.W.Frag) : V → List V → Hp → VK → Prop := fun x xs H Q => ∃ p, ∃ ys : List Str, ∃ z j, x = .ref p ∧ xs = [.str z] ∧ SqT K H p (ys.map V.str) ∧ ys[j]? = some z ∧ (∀ m, m < j → ys[m]? ≠ some z) ∧ Q (.int (j : Nat)) H
theorem mt_indexTK (e : X.K = K := by rfl) : MtR X "tuple.index" (rIndexTK K) := by subst e; exact mt_tup_index
theorem fp_indexK {q : Addr} (hd : ∃ o, K.lookup q = some o ∧ o.cls = .type "tuple" ∧ o.dict = none) {cd : PyData} (ht : ∀ F, TV K F (.ref q) cd)
    (h : PE X e (tBM X.K "tuple" (rIndexTK K) (tC (.ref q)) (tCons (tF K fb) tNil))) (hK : X.K = K := by rfl) : FP K X e (fB dIndexT (fC cd) fb) := by
  subst hK
  refine PE.of h fun σ H Q ⟨F0, H0, F, st, d, rp, e, q⟩ => ?_
  obtain ⟨x, ex, e⟩ := bind_some e
  obtain ⟨y, ey, e⟩ := bind_some e
  cases ex
  unfold dIndexT at e
  split at e
  · obtain ⟨ss, es, e⟩ := bind_some e
    obtain ⟨hm, rfl⟩ := ite_some e
    rw [strsOf_eq es] at ht
    refine ⟨.inr (.inl ⟨rfl, hd⟩), F0, H0, F, st, _, rp, ey, fun v F1 H1 g1 t1 => ?_⟩
    cases t1
    cases ht F1 with
    | tup g t =>
      rw [t.of_strs] at g
      obtain ⟨i1, i2⟩ := idx_first hm
      exact ⟨_, ss, _, ss.idxOf _, rfl, rfl, g1.sub.seqT g, i1, i2, q _ F1 H1 g1 (.int _)⟩
  · cases e
/-- xs.index(y) of a list of flat values -/
def flatD : PyData → Bool
  | .none => true
  | .bool _ => true
  | .int _ => true
  | .str _ => true
  | _ => false
/-- a call whose own arguments may change later: what it gives is flat -/
def fFlat (f : List PyData → Option PyData) (ds : List PyData) : Option PyData := (f ds).bind fun d => if flatD d = true then some d else none
theorem flat_tv {F F' : Hp} {v : V} {d : PyData} (h : flatD d = true) (t : TV K F v d) : TV K F' v d := by
  cases t with
  | non => exact .non
  | bl b => exact .bl b
  | int b => exact .int b
  | str b => exact .str b
  | _ => cases h
section
variable {CX : CXT} {k : Nat} {f : Addr} {fd : FuncData} {ps : List Str} {Ff : List PyData → Option PyData} {E : XK} {x : Str}
theorem fp_callR (F : FnOk X.prog X.w X.K X.mg X.base CX k f fd ps (spF X.K Ff)) (hr : Room k X.A) (hg : Gl X x) (hm : X.mg x = some (.ref f)) (hk : PySem.W.keepIn X.K (.ref f) = true) (hb : Binds X.K fd ps []) (hx : Passes CX X E)
    (ha : FAR K X (e :: es) fs) (hdb : (x == ("__debug__" : Str)) = false := by decide) (he : starEach (e :: es) X.env = (false, eval e X.env) :: starEach es X.env := by rfl) (hpl : (backTo pos (starEach es X.env)).any (·.1) = false := by rfl) (hK : X.K = K := by rfl) :
    FP K X (.Call (.Name x p) (e :: es) [] pos) (fG (fFlat Ff) fs) := by
  subst hK
  refine PE.of (pe_call F hr hg hm hk hb .nil hx ha hdb he hpl) fun σ H Q ⟨F0, H0, F, st, d, rp, e, q⟩ => ?_
  obtain ⟨xs, ex, e⟩ := bind_some e
  obtain ⟨d', ed, e⟩ := bind_some e
  obtain ⟨hfl, rfl⟩ := ite_some e
  refine ⟨F0, H0, F, st, xs, rp, ex, fun vs F1 H1 g1 t1 => ⟨H1, xs, d, Same.refl _, ?_, ed, fun v F2 H2 g2 t2 => ?_⟩⟩
  · rw [List.append_nil]
    exact .of (t1.mono fun x y r => r.tv g1.sub)
  · exact q v F1 H2 (g1.trans ⟨Same.refl _, g2.hp, g1.sub.trans g2.hp, fun _ h _ => h⟩) (flat_tv hfl t2)
end
/-! ### own lists: insert, pop, xs[i] op= e -/
def fIns (i : Nat) (fk f : FSt → Option PyData) : FSt → Option FOut := fun st => (fk st).bind fun k => (f st).bind fun d => (owOf st[i]?).bind fun ds => match k with
  | .int k => if ds.length < sizeLine ∧ 0 ≤ k ∧ k < 2 ^ 63 then some (.nx (st.set i (.ow (ds.take k.toNat ++ [d] ++ ds.drop k.toNat)))) else none
  | _ => none
variable {i j : Nat} {x : Str} {pos' : Pos}
theorem fs_insert (h : PE X e (tBM X.K "list" rInsert (tVar i) (tCons (tF K fk) (tCons (tF K fe) tNil)))) (hs : swapsWith e none pos.line X.env = pure false := by rfl) (hK : X.K = K := by rfl) : FS K W X (.Expr e pos) (fIns i fk fe) := by
  subst hK
  refine PS.of (ps_expr h hs) fun D σ H ⟨F0, H0, F, st, o, rp, e, q⟩ => ?_
  obtain ⟨dk, ek, e⟩ := bind_some e
  obtain ⟨d, ed, e⟩ := bind_some e
  obtain ⟨ds, eds, e⟩ := bind_some e
  split at e
  · obtain ⟨⟨h1, h2, h3⟩, rfl⟩ := ite_some e
    obtain ⟨p, vs, hst, hσ, g, t⟩ := own_at rp eds
    refine ⟨_, hσ, .inl ⟨rfl, vs, .inl (.inl g)⟩, F0, H0, F, st, _, rp, ek, fun v F1 H1 g1 t1 => ⟨F0, H0, F1, st, _, rp.grow g1, ed, fun v2 F2 H2 g2 t2 => ?_⟩⟩
    cases t1
    refine ⟨p, vs, _, v2, rfl, rfl, g2.hp _ _ (g1.hp _ _ g), by rw [t.len]; exact h1, h2, h3, ?_⟩
    have t' := t.mono (g1.fz.trans g2.fz)
    exact q F2 _ _ (((rp.grow g1).grow g2).own hst hσ (((t'.take _).app (.one t2)).app (t'.drop _))) (g1.fz.trans g2.fz)
  · cases e
/-- x = xs.pop() -/
def fPop (i j : Nat) : FSt → Option FOut := fun st => (owOf st[j]?).bind fun ds => (ds[ds.length - 1]?).bind fun d => some (.nx ((st.set j (.ow ds.dropLast)).set i (.fz d)))
theorem TVs.dropLast {F : Hp} {vs : List V} {ds : List PyData} (h : TVs K F vs ds) : TVs K F vs.dropLast ds.dropLast := by
  rw [List.dropLast_eq_take, List.dropLast_eq_take, h.len]
  exact h.take _
theorem fs_setPop (hN : X.N.Nodup) (hi : X.N[i]? = some x) (hx : Loc X.env.scope x) (h : PE X e (tBM0 X.K "list" rPop (tVar j))) (hij : i ≠ j) (hs : swapsWith e (some (.Name x pos')) pos.line X.env = pure false := by rfl) (hf : X.fn x = true ∨ X.env.scope.names.lookup x = some .local := by first | exact .inl rfl | exact .inr rfl | assumption) (hK : X.K = K := by rfl) :
    FS K W X (.Assign [.Name x pos'] e pos) (fPop i j) := by
  subst hK
  refine PS.of (ps_set hN hi hx h hs hf) fun D σ H ⟨F0, H0, F, st, o, rp, e, q⟩ => ?_
  obtain ⟨ds, eds, e⟩ := bind_some e
  obtain ⟨d, ed, e⟩ := bind_some e
  cases e
  obtain ⟨p, vs, hst, hσ, g, t⟩ := own_at rp eds
  obtain ⟨v, hv, tv⟩ := t.at ed
  refine ⟨_, hσ, .inl ⟨rfl, vs, .inl (.inl g)⟩, p, vs, v, rfl, rfl, g, by rw [t.len]; exact hv, ?_⟩
  exact q F _ _ ((rp.own hst hσ t.dropLast).set tv i) (Same.refl _)
def dAddI := dII fun i j => some (.int (i + j))
def fAugS (i : Nat) (fk : FSt → Option PyData) (g : PyData → PyData → Option PyData) (f : FSt → Option PyData) : FSt → Option FOut := fun st => (fk st).bind fun k => (owOf st[i]?).bind fun ds => match k with
  | .int k => if 0 ≤ k ∧ k < 2 ^ 62 ∧ k < ds.length then (ds[k.toNat]?).bind fun x => (f st).bind fun y => (g x y).bind fun z => some (.nx (st.set i (.ow (ds.set k.toNat z)))) else none
  | _ => none
end

/-! ## mathematics of the functions -/
theorem cnt_lt {n : Nat} (h : n ≤ 2000000) : n < sizeLine := Nat.lt_of_le_of_lt h (by decide)
theorem cnt_le {n : Nat} (h : n ≤ 2000000) : n ≤ sizeLine := Nat.le_of_lt (cnt_lt h)
theorem cnt_leL {n : Nat} (h : n ≤ 16000000) : n ≤ sizeLine := Nat.le_trans h (by decide)
theorem andK_t (b : Bool) (r : Option PyData) : andK (.bool b) r = if b = true then r else some (.bool false) := rfl
theorem orK_t (b : Bool) (r : Option PyData) : orK (.bool b) r = if b = true then some (.bool true) else r := rfl
theorem ite_and (b c : Bool) : (if b = true then some (PyData.bool c) else some (.bool false)) = some (.bool (b && c)) := by cases b <;> rfl
theorem ite_or (b c : Bool) : (if b = true then some (PyData.bool true) else some (.bool c)) = some (.bool (b || c)) := by cases b <;> rfl
theorem dTup_eq {xs : List PyData} (h : xs.length ≤ 2000000) : dTup xs = some (.tuple xs) := if_pos (cnt_le h)
theorem dLst_eq {xs : List PyData} (h : xs.length ≤ 2000000) : dLst xs = some xs := if_pos (cnt_le h)
theorem dTup_0 : dTup [] = some (.tuple []) := dTup_eq (Nat.zero_le _)
theorem dTup_1 (a : PyData) : dTup [a] = some (.tuple [a]) := dTup_eq (by show 1 ≤ 2000000; decide)
theorem dTup_2 (a b : PyData) : dTup [a, b] = some (.tuple [a, b]) := dTup_eq (by show 2 ≤ 2000000; decide)
theorem dTup_3 (a b c : PyData) : dTup [a, b, c] = some (.tuple [a, b, c]) := dTup_eq (by show 3 ≤ 2000000; decide)
theorem dTup_4 (a b c d : PyData) : dTup [a, b, c, d] = some (.tuple [a, b, c, d]) := dTup_eq (by show 4 ≤ 2000000; decide)
theorem dTup_5 (a b c d e : PyData) : dTup [a, b, c, d, e] = some (.tuple [a, b, c, d, e]) := dTup_eq (by show 5 ≤ 2000000; decide)
theorem dTup_6 (a b c d e f : PyData) : dTup [a, b, c, d, e, f] = some (.tuple [a, b, c, d, e, f]) := dTup_eq (by show 6 ≤ 2000000; decide)
theorem dTup_7 (a b c d e f g : PyData) : dTup [a, b, c, d, e, f, g] = some (.tuple [a, b, c, d, e, f, g]) := dTup_eq (by show 7 ≤ 2000000; decide)
theorem dLst_0 : dLst [] = some [] := dLst_eq (Nat.zero_le _)
theorem dLst_1 (a : PyData) : dLst [a] = some [a] := dLst_eq (by show 1 ≤ 2000000; decide)
theorem dLst_2 (a b : PyData) : dLst [a, b] = some [a, b] := dLst_eq (by show 2 ≤ 2000000; decide)
theorem dLst_3 (a b c : PyData) : dLst [a, b, c] = some [a, b, c] := dLst_eq (by show 3 ≤ 2000000; decide)
theorem dLst_4 (a b c d : PyData) : dLst [a, b, c, d] = some [a, b, c, d] := dLst_eq (by show 4 ≤ 2000000; decide)
theorem dLst_5 (a b c d e : PyData) : dLst [a, b, c, d, e] = some [a, b, c, d, e] := dLst_eq (by show 5 ≤ 2000000; decide)
theorem dLst_6 (a b c d e f : PyData) : dLst [a, b, c, d, e, f] = some [a, b, c, d, e, f] := dLst_eq (by show 6 ≤ 2000000; decide)
theorem dLst_7 (a b c d e f g : PyData) : dLst [a, b, c, d, e, f, g] = some [a, b, c, d, e, f, g] := dLst_eq (by show 7 ≤ 2000000; decide)
theorem dSub_i (i j : Int) : dSub (.int i) (.int j) = some (.int (i - j)) := rfl
theorem dAddI_i (i j : Int) : dAddI (.int i) (.int j) = some (.int (i + j)) := rfl
theorem dAdd_i (i j : Int) : dAdd (.int i) (.int j) = some (.int (i + j)) := rfl
theorem dMul_i (i j : Int) : dMul (.int i) (.int j) = if (-(2 ^ 64) < i ∧ i < 2 ^ 64) ∨ (-(2 ^ 64) < j ∧ j < 2 ^ 64) then some (.int (i * j)) else none := rfl
theorem dFdiv_i (i j : Int) : dFdiv (.int i) (.int j) = if 0 < j ∧ j < 2 ^ 200 then some (.int (i / j)) else none := rfl
theorem dMod_i (i j : Int) : dMod (.int i) (.int j) = if 0 < j then some (.int (i % j)) else none := rfl
theorem dPow_i (i j : Int) : dPow (.int i) (.int j) = if 0 ≤ j ∧ j ≤ 1000000 ∧ -(2 ^ 64) < i ∧ i < 2 ^ 64 then some (.int (i ^ j.toNat)) else none := rfl
theorem dShl_i (i j : Int) : dShl (.int i) (.int j) = if 0 ≤ j ∧ j ≤ 1000000 ∧ -(2 ^ 64) < i ∧ i < 2 ^ 64 then some (.int (i * 2 ^ j.toNat)) else none := rfl
theorem dShr_i (i j : Int) : dShr (.int i) (.int j) = if 0 ≤ j then some (.int (i / 2 ^ j.toNat)) else none := rfl
theorem dBand_i (i j : Int) : dBand (.int i) (.int j) = some (.int (Builtin.bitAnd i j)) := rfl
theorem dBor_i (i j : Int) : dBor (.int i) (.int j) = some (.int (Builtin.bitOr i j)) := rfl
theorem dXor_i (i j : Int) : dXor (.int i) (.int j) = some (.int (Builtin.bitXor i j)) := rfl
theorem dNeg_i (i : Int) : dNeg (.int i) = some (.int (-i)) := rfl
theorem dLt_i (i j : Int) : dLt (.int i) (.int j) = some (.bool (decide (i < j))) := rfl
theorem dLe_i (i j : Int) : dLe (.int i) (.int j) = some (.bool (decide (i ≤ j))) := rfl
theorem dGt_i (i j : Int) : dGt (.int i) (.int j) = some (.bool (decide (j < i))) := rfl
theorem dGe_i (i j : Int) : dGe (.int i) (.int j) = some (.bool (decide (j ≤ i))) := rfl
theorem dEq_i (i j : Int) : dEq (.int i) (.int j) = some (.bool (decide (i = j))) := rfl
theorem dEq_s (i j : Str) : dEq (.str i) (.str j) = some (.bool (decide (i = j))) := rfl
theorem dEq_b (i j : Bool) : dEq (.bool i) (.bool j) = some (.bool (decide (i = j))) := rfl
theorem dNe_i (i j : Int) : dNe (.int i) (.int j) = some (.bool (!decide (i = j))) := rfl
theorem dNe_s (i j : Str) : dNe (.str i) (.str j) = some (.bool (!decide (i = j))) := rfl
theorem dNe_b (i j : Bool) : dNe (.bool i) (.bool j) = some (.bool (!decide (i = j))) := rfl
theorem dIs_b (i j : Bool) : dIs (.bool i) (.bool j) = some (.bool (decide (i = j))) := rfl
theorem dIsNot_b (i j : Bool) : dIsNot (.bool i) (.bool j) = some (.bool (!decide (i = j))) := rfl
theorem dIs_nn : dIs .none .none = some (.bool true) := rfl
theorem dIs_in (i : Int) : dIs (.int i) .none = some (.bool false) := rfl
theorem dIs_ln (i : List PyData) : dIs (.list i) .none = some (.bool false) := rfl
theorem dIs_tn (i : List PyData) : dIs (.tuple i) .none = some (.bool false) := rfl
theorem dIs_sn (i : Str) : dIs (.str i) .none = some (.bool false) := rfl
theorem dIs_bn (i : Bool) : dIs (.bool i) .none = some (.bool false) := by cases i <;> rfl
theorem dIsNot_nn : dIsNot .none .none = some (.bool false) := rfl
theorem dIsNot_in (i : Int) : dIsNot (.int i) .none = some (.bool true) := rfl
theorem dIsNot_ln (i : List PyData) : dIsNot (.list i) .none = some (.bool true) := rfl
theorem dIsNot_tn (i : List PyData) : dIsNot (.tuple i) .none = some (.bool true) := rfl
theorem dIsNot_sn (i : Str) : dIsNot (.str i) .none = some (.bool true) := rfl
theorem dNot_b (i : Bool) : dNot (.bool i) = some (.bool (!i)) := rfl
theorem dTru_b (i : Bool) : dTru (.bool i) = some i := rfl
theorem dTruA_b (i : Bool) : dTruA (.bool i) = some i := rfl
theorem dTruA_l (xs : List PyData) : dTruA (.list xs) = some (decide (xs.length ≠ 0)) := rfl
theorem dTruA_t (xs : List PyData) : dTruA (.tuple xs) = some (decide (xs.length ≠ 0)) := rfl
theorem dInt_i (i : Int) : dInt [.int i] = some (.int i) := rfl
theorem dInt_b (k : Bool) : dInt [.bool k] = some (.int (if k = true then 1 else 0)) := rfl
theorem dAbs_i (i : Int) : dAbs [.int i] = some (.int (absI i)) := rfl
theorem dMax2_i (i j : Int) : dMax2 [.int i, .int j] = some (.int (max i j)) := by
  show some (PyData.int (if j > i then j else i)) = _
  congr 2
  omega
theorem dMin2_i (i j : Int) : dMin2 [.int i, .int j] = some (.int (min i j)) := by
  show some (PyData.int (if j < i then j else i)) = _
  congr 2
  omega
theorem dLen_l (xs : List PyData) : dLen [.list xs] = some (.int (xs.length : Nat)) := rfl
theorem dLen_t (xs : List PyData) : dLen [.tuple xs] = some (.int (xs.length : Nat)) := rfl
theorem dLen_sc (ns : List Int) : dLen [scrD ns] = some (.int (ns.length : Nat)) := by
  show some (PyData.int ((ns.map PyData.int).length : Nat)) = _
  rw [List.length_map]
theorem dListL_l (xs : List PyData) : dListL [.list xs] = some xs := rfl
theorem dListL_t (xs : List PyData) : dListL [.tuple xs] = some xs := rfl
theorem dTuple_l (xs : List PyData) : dTuple [.list xs] = some (.tuple xs) := rfl
theorem dTuple_t (xs : List PyData) : dTuple [.tuple xs] = some (.tuple xs) := rfl
theorem dIx_l (xs : List PyData) (i : Int) : dIx (.list xs) (.int i) = atI xs i := rfl
theorem dIx_t (xs : List PyData) (i : Int) : dIx (.tuple xs) (.int i) = atI xs i := rfl
theorem dIx_sc (ns : List Int) (i : Int) : dIx (scrD ns) (.int i) = atI (ns.map .int) i := rfl
theorem dSl_l (xs : List PyData) (lo hi : Option Int) : dSl (.list xs) lo hi = some (.list (cutD xs lo hi)) := rfl
theorem dSl_t (xs : List PyData) (lo hi : Option Int) : dSl (.tuple xs) lo hi = some (.tuple (cutD xs lo hi)) := rfl
theorem dSlL_l (xs : List PyData) (lo hi : Option Int) : dSlL (.list xs) lo hi = some (cutD xs lo hi) := rfl
theorem dPart_i (i : Int) : dPart (.int i) = some (some i) := rfl
theorem dIter_l (xs : List PyData) : dIter (.list xs) = some xs := rfl
theorem dIter_t (xs : List PyData) : dIter (.tuple xs) = some xs := rfl
theorem dIter_s (z : Str) : dIter (.str z) = some (signs z) := rfl
theorem dRng1_i (j : Int) : dRng1 [.int j] = if -(2 ^ 62) ≤ j ∧ j < 2 ^ 62 then some (rangeD 0 j.toNat 1) else none := rfl
theorem dRng2_i (i j : Int) : dRng2 [.int i, .int j] = if -(2 ^ 62) ≤ i ∧ i < 2 ^ 62 ∧ -(2 ^ 62) ≤ j ∧ j < 2 ^ 62 then some (rangeD i (j - i).toNat 1) else none := rfl
theorem dRng3_i (i j c : Int) : dRng3 [.int i, .int j, .int c] = if -(2 ^ 61) ≤ i ∧ i < 2 ^ 61 ∧ -(2 ^ 61) ≤ j ∧ j < 2 ^ 61 ∧ c ≠ 0 ∧ c.natAbs < 1073741824 then some (rangeD i (rngLen i j c) c) else none := rfl
theorem dZip_l (x y : List PyData) : dZip [.list x, .list y] = some (pairD x y) := rfl
theorem dZip_t (x y : List PyData) : dZip [.tuple x, .tuple y] = some (pairD x y) := rfl
theorem dEnum_l (x : List PyData) : dEnum [.list x] = some (enumFrom 0 x) := rfl
theorem dRev_l (x : List PyData) : dRev (.list x) = some x.reverse := rfl
theorem dRev_t (x : List PyData) : dRev (.tuple x) = some x.reverse := rfl
theorem dAll_b (bs : List Bool) : dAll [.list (bs.map .bool)] = some (.bool (bs.all id)) := by
  show (blsOf (bs.map PyData.bool)).bind _ = _
  rw [blsOf_map]
  rfl
theorem dAny_b (bs : List Bool) : dAny [.list (bs.map .bool)] = some (.bool (bs.any id)) := by
  show (blsOf (bs.map PyData.bool)).bind _ = _
  rw [blsOf_map]
  rfl
theorem dSum_i (ns : List Int) : dSum [.list (ns.map .int)] = some (.int ns.sum) := by
  show (intsOf (ns.map PyData.int)).bind _ = _
  rw [intsOf_map]
  rfl
theorem gApp_eq {ds : List PyData} {d : PyData} (h : ds.length < 2000000) : gApp ds d = some (ds ++ [d]) := if_pos (cnt_lt (Nat.le_of_lt h))
theorem gExt_eq {ds es : List PyData} (h : ds.length + es.length ≤ 2000000) : gExt ds (.list es) = some (ds ++ es) := if_pos (cnt_le h)
theorem gT_t (n : Nat) (h : List PyData → FSt → Option FSt) (ds : List PyData) (st : FSt) : gT n h (.tuple ds) st = if ds.length = n then h ds st else none := rfl
theorem gT_l (n : Nat) (h : List PyData → FSt → Option FSt) (ds : List PyData) (st : FSt) : gT n h (.list ds) st = if ds.length = n then h ds st else none := rfl
theorem gsNil_e (st : FSt) : gsNil [] st = some st := rfl
theorem gsCons_e (g : PyData → FSt → Option FSt) (h : List PyData → FSt → Option FSt) (d : PyData) (r : List PyData) (st : FSt) : gsCons g h (d :: r) st = (g d st).bind (h r) := rfl
theorem fDef_eq {n N : Nat} {b : FSt → Option FOut} {ds : List PyData} (h : ds.length = n) : fDef n N b ds = (b (startF n N ds)).bind fun o => match o with
  | .rt d => some d
  | .nx _ => some .none
  | _ => none := if_pos h
def outD : FOut → Option PyData
  | .rt d => some d
  | .nx _ => some .none
  | _ => none
theorem fDef_out {n N : Nat} {b : FSt → Option FOut} {ds : List PyData} (h : ds.length = n) : fDef n N b ds = (b (startF n N ds)).bind outD := if_pos h
def seqK (o : FOut) (b : FSt → Option FOut) : Option FOut := match o with
  | .nx st' => b st'
  | o => some o
theorem fSeq_eq (a b : FSt → Option FOut) (st : FSt) : fSeq a b st = (a st).bind fun o => seqK o b := rfl
theorem seqK_nx (st : FSt) (b : FSt → Option FOut) : seqK (.nx st) b = b st := rfl
theorem seqK_rt (d : PyData) (b : FSt → Option FOut) : seqK (.rt d) b = some (.rt d) := rfl
theorem seqK_bk (st : FSt) (b : FSt → Option FOut) : seqK (.bk st) b = some (.bk st) := rfl
theorem seqK_ct (st : FSt) (b : FSt → Option FOut) : seqK (.ct st) b = some (.ct st) := rfl
theorem outD_rt (d : PyData) : outD (.rt d) = some d := rfl
theorem outD_nx (st : FSt) : outD (.nx st) = some .none := rfl
theorem bind_ite {α β : Type} {p : Prop} [Decidable p] (a b : Option α) (f : α → Option β) : (if p then a else b).bind f = if p then a.bind f else b.bind f := by split <;> rfl
theorem seqK_ite {p : Prop} [Decidable p] (a b : FOut) (f : FSt → Option FOut) : seqK (if p then a else b) f = if p then seqK a f else seqK b f := by split <;> rfl
/-- comprehensions -/
theorem lcD_map {f : PyData → Option (Option PyData)} {α : Type} {cv : α → PyData} {h : α → PyData} : ∀ {xs : List α}, (∀ x ∈ xs, f (cv x) = some (some (h x))) → lcD f (xs.map cv) = some (xs.map h)
  | [], _ => rfl
  | x :: r, H => by
    rw [List.map_cons, lcD, H x (List.mem_cons_self ..), lcD_map fun y hy => H y (List.mem_cons_of_mem _ hy)]
    rfl
theorem lcD_map0 {f : PyData → Option (Option PyData)} {h : PyData → PyData} {xs : List PyData} (H : ∀ x ∈ xs, f x = some (some (h x))) : lcD f xs = some (xs.map h) := by
  have := lcD_map (cv := id) (h := h) (xs := xs) H
  rw [List.map_id] at this
  exact this
theorem lcD_filter {f : PyData → Option (Option PyData)} {α : Type} {cv : α → PyData} {p : α → Bool} {h : α → PyData} : ∀ {xs : List α}, (∀ x ∈ xs, f (cv x) = some (if p x = true then some (h x) else none)) → lcD f (xs.map cv) = some ((xs.filter p).map h)
  | [], _ => rfl
  | x :: r, H => by
    rw [List.map_cons, lcD, H x (List.mem_cons_self ..), lcD_filter fun y hy => H y (List.mem_cons_of_mem _ hy), List.filter_cons]
    cases p x <;> rfl
/-- what the pieces of a loop give, and what is wanted of it -/
def Sat {α : Type} (m : Option α) (R : α → Prop) : Prop := ∃ a, m = some a ∧ R a
def LpR (J : FSt → Prop) (R : FOut → Prop) : FOut → Prop
  | .nx s => J s
  | .ct s => J s
  | .bk s => R (.nx s)
  | .rt d => R (.rt d)
  | .ex c => R (.ex c)
theorem lp_nx {J : FSt → Prop} {R : FOut → Prop} {s : FSt} (h : J s) : LpR J R (.nx s) := h
theorem lp_rt {J : FSt → Prop} {R : FOut → Prop} {d : PyData} (h : R (.rt d)) : LpR J R (.rt d) := h
theorem lp_bk {J : FSt → Prop} {R : FOut → Prop} {s : FSt} (h : R (.nx s)) : LpR J R (.bk s) := h
theorem lp_ct {J : FSt → Prop} {R : FOut → Prop} {s : FSt} (h : J s) : LpR J R (.ct s) := h
theorem forF_sat {g : PyData → FSt → Option FSt} {b : FSt → Option FOut} {R : FOut → Prop} : ∀ {xs : List PyData} (I : Nat → FSt → Prop) {st : FSt}, I 0 st →
    (∀ i d st, xs[i]? = some d → I i st → ∃ o, (g d st).bind b = some o ∧ LpR (I (i + 1)) R o) →
    (∀ st, I xs.length st → R (.nx st)) → ∃ o, forF g b xs st = some o ∧ R o
  | [], I, st, h0, _, hd => ⟨_, rfl, hd st h0⟩
  | x :: r, I, st, h0, hs, hd => by
    obtain ⟨o, e0, k⟩ := hs 0 x st rfl h0
    obtain ⟨st1, e1, e2⟩ := bind_some e0
    unfold forF
    rw [e1]
    show ∃ o', (b st1).bind _ = _ ∧ _
    rw [e2]
    cases o with
    | nx s => exact forF_sat (fun i => I (i + 1)) k (fun i d st hi hI => hs (i + 1) d st hi hI) hd
    | ct s => exact forF_sat (fun i => I (i + 1)) k (fun i d st hi hI => hs (i + 1) d st hi hI) hd
    | bk s => exact ⟨_, rfl, k⟩
    | rt d => exact ⟨_, rfl, k⟩
    | ex c => exact ⟨_, rfl, k⟩
/-- a loop whose body always goes on: a fold of typed states -/
theorem forF_fold {g : PyData → FSt → Option FSt} {b : FSt → Option FOut} {τ α : Type} (S : τ → FSt) (cv : α → PyData) (step : τ → α → τ) : ∀ {xs : List α} (I : Nat → τ → Prop) {t : τ}, I 0 t →
    (∀ i x t, xs[i]? = some x → I i t → (g (cv x) (S t)).bind b = some (.nx (S (step t x))) ∧ I (i + 1) (step t x)) → forF g b (xs.map cv) (S t) = some (.nx (S (xs.foldl step t))) ∧ I xs.length (xs.foldl step t)
  | [], I, t, h0, _ => ⟨rfl, h0⟩
  | x :: r, I, t, h0, hs => by
    obtain ⟨e1, k⟩ := hs 0 x t rfl h0
    obtain ⟨e2, k2⟩ := forF_fold S cv step (fun i => I (i + 1)) k (fun i x t hi hI => hs (i + 1) x t hi hI)
    refine ⟨?_, k2⟩
    obtain ⟨st1, e3, e4⟩ := bind_some e1
    rw [List.map_cons]
    unfold forF
    rw [e3]
    show (b st1).bind _ = _
    rw [e4]
    exact e2
/-- a loop that looks for the first that ends it -/
theorem forF_find {g : PyData → FSt → Option FSt} {b : FSt → Option FOut} {st : FSt} {α : Type} {cv : α → PyData} {p : α → Bool} {d : α → PyData} : ∀ {xs : List α},
    (∀ x ∈ xs, (g (cv x) st).bind b = if p x = true then some (.rt (d x)) else some (.nx st)) → forF g b (xs.map cv) st = match xs.find? p with | some x => some (.rt (d x)) | none => some (.nx st)
  | [], _ => rfl
  | x :: r, H => by
    have h1 := H x (List.mem_cons_self ..)
    have ih := forF_find (p := p) (d := d) fun y hy => H y (List.mem_cons_of_mem _ hy)
    rw [List.map_cons]
    unfold forF
    rw [List.find?_cons]
    cases hp : p x with
    | true =>
      rw [hp, if_pos rfl] at h1
      obtain ⟨st1, e3, e4⟩ := bind_some h1
      rw [e3]
      show (b st1).bind _ = _
      rw [e4]
      rfl
    | false =>
      rw [hp, if_neg Bool.false_ne_true] at h1
      obtain ⟨st1, e3, e4⟩ := bind_some h1
      rw [e3]
      show (b st1).bind _ = _
      rw [e4]
      exact ih
theorem whF_step {c : FSt → Option Bool} {b : FSt → Option FOut} {st s : FSt} (hc : c st = some true) (hb : b st = some (.nx s)) : fWhile c b st = fWhile c b s := by
  cases h : fWhile c b s with
  | some o =>
    obtain ⟨n, hn⟩ := fWhile_some h
    refine fWhile_of (n := n + 1) ?_
    simp only [whF, hc, hb, Option.bind_some, if_true]
    exact hn
  | none =>
    cases h2 : fWhile c b st with
    | none => rfl
    | some o =>
      obtain ⟨n, hn⟩ := fWhile_some h2
      cases n with
      | zero => cases hn
      | succ n =>
        simp only [whF, hc, hb, Option.bind_some, if_true] at hn
        rw [fWhile_of hn] at h
        cases h
theorem whF_stop {c : FSt → Option Bool} {b : FSt → Option FOut} {st : FSt} (hc : c st = some false) : fWhile c b st = some (.nx st) := by
  refine fWhile_of (n := 1) ?_
  unfold whF
  rw [hc]
  rfl
theorem whF_ret {c : FSt → Option Bool} {b : FSt → Option FOut} {st : FSt} {d : PyData} (hc : c st = some true) (hb : b st = some (.rt d)) : fWhile c b st = some (.rt d) := by
  refine fWhile_of (n := 1) ?_
  simp only [whF, hc, hb, Option.bind_some, if_true]
theorem whF_brk {c : FSt → Option Bool} {b : FSt → Option FOut} {st s : FSt} (hc : c st = some true) (hb : b st = some (.bk s)) : fWhile c b st = some (.nx s) := by
  refine fWhile_of (n := 1) ?_
  simp only [whF, hc, hb, Option.bind_some, if_true]
/-- a while by an invariant and a measure -/
theorem wh_sat {c : FSt → Option Bool} {b : FSt → Option FOut} {R : FOut → Prop} (I : Nat → FSt → Prop)
    (hs : ∀ m st, I m st → ∃ x, c st = some x ∧ (x = true → ∃ o, b st = some o ∧ LpR (fun s => ∃ k, k < m ∧ I k s) R o) ∧ (x = false → R (.nx st))) :
    ∀ {m : Nat} {st : FSt}, I m st → ∃ o, fWhile c b st = some o ∧ R o := by
  intro m
  induction m using Nat.strongRecOn with
  | _ m ih =>
    intro st h
    obtain ⟨x, ex, h1, h2⟩ := hs m st h
    cases x with
    | false => exact ⟨_, whF_stop ex, h2 rfl⟩
    | true =>
      obtain ⟨o, eo, k⟩ := h1 rfl
      cases o with
      | nx s =>
        obtain ⟨j, hj, hI⟩ := k
        rw [whF_step ex eo]
        exact ih j hj hI
      | ct s =>
        obtain ⟨j, hj, hI⟩ := k
        obtain ⟨o', ho', hR⟩ := ih j hj hI
        obtain ⟨n, hn⟩ := fWhile_some ho'
        refine ⟨o', fWhile_of (n := n + 1) ?_, hR⟩
        simp only [whF, ex, eo, Option.bind_some, if_true]
        exact hn
      | bk s => exact ⟨_, whF_brk ex eo, k⟩
      | rt d => exact ⟨_, whF_ret ex eo, k⟩
      | ex e =>
        refine ⟨_, fWhile_of (n := 1) ?_, k⟩
        simp only [whF, ex, eo, Option.bind_some, if_true]
theorem lcD_bools {f : PyData → Option (Option PyData)} {p : PyData → Bool} {xs : List PyData} (H : ∀ x ∈ xs, f x = some (some (.bool (p x)))) : lcD f xs = some ((xs.map p).map .bool) := by
  rw [lcD_map0 H, List.map_map]
  rfl
theorem lcD_ints {f : PyData → Option (Option PyData)} {p : PyData → Int} {xs : List PyData} (H : ∀ x ∈ xs, f x = some (some (.int (p x)))) : lcD f xs = some ((xs.map p).map .int) := by
  rw [lcD_map0 H, List.map_map]
  rfl
/-- a text among texts -/
def inS (d : PyData) (ss : List Str) : Bool := match d with
  | .str s => decide (s ∈ ss)
  | _ => false
theorem eqv_str (s : Str) (d : PyData) : PyData.eqv (.str s) d = match d with | .str z => decide (s = z) | _ => false := by
  cases d with
  | str z => exact eqv_ss s z
  | _ => rw [PyData.eqv] <;> first | rfl | (intros; contradiction)
theorem inS_any (d : PyData) (ss : List Str) : (ss.map PyData.str).any (fun z => PyData.eqv z d) = inS d ss := by
  rw [List.any_map]
  cases d with
  | str z =>
    unfold inS
    rw [Bool.eq_iff_iff, List.any_eq_true, decide_eq_true_iff]
    refine ⟨fun ⟨x, hx, e⟩ => ?_, fun h => ⟨z, h, ?_⟩⟩
    · have e : PyData.eqv (.str x) (.str z) = true := e
      rw [eqv_ss, decide_eq_true_iff] at e
      rw [← e]; exact hx
    · show PyData.eqv (.str z) (.str z) = true
      rw [eqv_ss, decide_eq_true rfl]
  | _ =>
    unfold inS
    rw [List.any_eq_false]
    intro x _
    rw [Function.comp_apply, eqv_str]
    exact Bool.false_ne_true
theorem strs_shT {ss : List Str} (h : ∀ s ∈ ss, PyData.strOk s = true) : SeqAt.shaped (.tuple (ss.map PyData.str)) = true ∧ SeqAt.shaped (.list (ss.map PyData.str)) = true := by
  have l : PyData.canLayAll0 (ss.map PyData.str) = true := (layAll_iff _).mpr fun d hd => by
    obtain ⟨s, hs, rfl⟩ := List.mem_map.mp hd
    rw [PyData.canLay0]; exact h s hs
  have p : PyData.depthAll (ss.map PyData.str) ≤ 0 := (depAll_iff 0 _).mpr fun d hd => by
    obtain ⟨s, hs, rfl⟩ := List.mem_map.mp hd
    rw [PyData.depth]; exact Nat.le_refl _
  constructor <;> (unfold SeqAt.shaped; rw [PyData.canLay0, PyData.depth, l, Bool.true_and, decide_eq_true_iff]; omega)
theorem dIn_ts {d : PyData} {ss : List Str} (h : SeqAt.shaped d = true) (hs : ∀ s ∈ ss, PyData.strOk s = true) : dIn d (.tuple (ss.map PyData.str)) = some (.bool (inS d ss)) := by
  show (if _ then _ else _) = _
  rw [if_pos ⟨h, (strs_shT hs).1⟩, inS_any]
theorem dIn_ls {d : PyData} {ss : List Str} (h : SeqAt.shaped d = true) (hs : ∀ s ∈ ss, PyData.strOk s = true) : dIn d (.list (ss.map PyData.str)) = some (.bool (inS d ss)) := by
  show (if _ then _ else _) = _
  rw [if_pos ⟨h, (strs_shT hs).2⟩, inS_any]
mutual
def wid (n : Nat) : PyData → Bool
  | .list xs => decide (xs.length ≤ n) && widAll n xs
  | .tuple xs => decide (xs.length ≤ n) && widAll n xs
  | _ => true
def widAll (n : Nat) : List PyData → Bool
  | [] => true
  | x :: r => wid n x && widAll n r
end
theorem widAll_iff {n : Nat} : ∀ {xs : List PyData}, widAll n xs = true ↔ ∀ x ∈ xs, wid n x = true
  | [] => by simp [widAll]
  | x :: r => by
    rw [widAll, Bool.and_eq_true, widAll_iff (xs := r)]
    simp
theorem sh_cont {n : Nat} {xs : List PyData} (h : SeqAt.shaped (.tuple xs) = true ∨ SeqAt.shaped (.list xs) = true) : ∀ x ∈ xs, SeqAt.shaped x = true := by
  have key : PyData.canLayAll0 xs = true ∧ PyData.depthAll xs + 1 ≤ 64 := by
    rcases h with h | h <;> (unfold SeqAt.shaped at h; rw [Bool.and_eq_true, decide_eq_true_iff, PyData.canLay0, PyData.depth] at h; exact h)
  intro x hx
  unfold SeqAt.shaped
  rw [Bool.and_eq_true, decide_eq_true_iff]
  exact ⟨(layAll_iff xs).mp key.1 x hx, (depAll_iff 64 xs).mp (by omega) x hx⟩
section
variable {α β : Type}
theorem cutD_map (f : α → β) (xs : List α) (lo hi : Option Int) : cutD (xs.map f) lo hi = (cutD xs lo hi).map f := by
  unfold cutD
  rw [List.length_map, List.map_take, List.map_drop]
theorem cutD_sl (xs : List α) (i j : Nat) : cutD xs (some (i : Int)) (some (j : Int)) = (xs.drop i).take (j - i) := by
  unfold cutD
  rw [HT.sIx_nat, HT.sIx_nat]
  by_cases h : i < xs.length
  · rw [Nat.min_eq_left (Nat.le_of_lt h)]
    by_cases h2 : j ≤ xs.length
    · rw [Nat.min_eq_left h2]
    · rw [Nat.min_eq_right (by omega), List.take_of_length_le (by rw [List.length_drop]; exact Nat.le_refl _), List.take_of_length_le (by rw [List.length_drop]; omega)]
  · rw [List.drop_eq_nil_of_le (by omega), List.drop_eq_nil_of_le (by omega), List.take_nil, List.take_nil]
theorem cutD_take (xs : List α) (j : Nat) : cutD xs none (some (j : Int)) = xs.take j := by
  unfold cutD
  rw [HT.sIx_none, HT.sIx_nat, List.drop_zero, Nat.sub_zero]
  by_cases h : j ≤ xs.length
  · rw [Nat.min_eq_left h]
  · rw [Nat.min_eq_right (by omega), List.take_of_length_le (Nat.le_refl _), List.take_of_length_le (by omega)]
theorem cutD_drop (xs : List α) (i : Nat) : cutD xs (some (i : Int)) none = xs.drop i := by
  unfold cutD
  rw [HT.sIx_nat, HT.sIx_none]
  by_cases h : i ≤ xs.length
  · rw [Nat.min_eq_left h, List.take_of_length_le (by rw [List.length_drop]; exact Nat.le_refl _)]
  · rw [Nat.min_eq_right (by omega), List.drop_of_length_le (Nat.le_refl _), List.drop_of_length_le (by omega), List.take_nil]
theorem cutD_all (xs : List α) : cutD xs none none = xs := by
  unfold cutD
  rw [HT.sIx_none, HT.sIx_none, List.drop_zero, Nat.sub_zero, List.take_length]
theorem cutD_take1 (xs : List α) : cutD xs none (some 1) = xs.take 1 := cutD_take xs 1
theorem cutD_take2 (xs : List α) : cutD xs none (some 2) = xs.take 2 := cutD_take xs 2
theorem cutD_take3 (xs : List α) : cutD xs none (some 3) = xs.take 3 := cutD_take xs 3
theorem cutD_take4 (xs : List α) : cutD xs none (some 4) = xs.take 4 := cutD_take xs 4
theorem cutD_take6 (xs : List α) : cutD xs none (some 6) = xs.take 6 := cutD_take xs 6
theorem cutD_drop1 (xs : List α) : cutD xs (some 1) none = xs.drop 1 := cutD_drop xs 1
theorem cutD_drop2 (xs : List α) : cutD xs (some 2) none = xs.drop 2 := cutD_drop xs 2
theorem cutD_drop3 (xs : List α) : cutD xs (some 3) none = xs.drop 3 := cutD_drop xs 3
theorem cutD_drop4 (xs : List α) : cutD xs (some 4) none = xs.drop 4 := cutD_drop xs 4
theorem pairD_map (f g : α → PyData) (xs ys : List α) : pairD (xs.map f) (ys.map g) = (xs.zip ys).map fun p => .tuple [f p.1, g p.2] := by
  unfold pairD
  rw [List.zipWith_map, List.zip, List.map_zipWith]
end
theorem lcD_boolsA {α : Type} {cv : α → PyData} {f : PyData → Option (Option PyData)} {p : α → Bool} {xs : List α} (H : ∀ x ∈ xs, f (cv x) = some (some (.bool (p x)))) : lcD f (xs.map cv) = some ((xs.map p).map .bool) := by
  rw [lcD_map H, List.map_map]
  rfl
theorem lcD_intsA {α : Type} {cv : α → PyData} {f : PyData → Option (Option PyData)} {p : α → Int} {xs : List α} (H : ∀ x ∈ xs, f (cv x) = some (some (.int (p x)))) : lcD f (xs.map cv) = some ((xs.map p).map .int) := by
  rw [lcD_map H, List.map_map]
  rfl
theorem opt_ite {α : Type} (b : Bool) (x : α) : (if b = true then some (some x) else some none) = some (if b = true then some x else none) := by cases b <;> rfl
theorem dIndexT_ts (ss : List Str) (z : Str) : dIndexT (.tuple (ss.map .str)) (.str z) = if z ∈ ss then some (.int ((ss.idxOf z : Nat) : Int)) else none := by
  unfold dIndexT
  simp only [strsOf_map, Option.bind_some]
theorem isIntD_none  : isIntD .none = false := rfl
theorem isIntD_bool (x : Bool) : isIntD (.bool x) = true := rfl
theorem isIntD_int (x : Int) : isIntD (.int x) = true := rfl
theorem isIntD_str (x : Str) : isIntD (.str x) = false := rfl
theorem isIntD_list (x : List PyData) : isIntD (.list x) = false := rfl
theorem isIntD_tuple (x : List PyData) : isIntD (.tuple x) = false := rfl
theorem isBoolD_none  : isBoolD .none = false := rfl
theorem isBoolD_bool (x : Bool) : isBoolD (.bool x) = true := rfl
theorem isBoolD_int (x : Int) : isBoolD (.int x) = false := rfl
theorem isBoolD_str (x : Str) : isBoolD (.str x) = false := rfl
theorem isBoolD_list (x : List PyData) : isBoolD (.list x) = false := rfl
theorem isBoolD_tuple (x : List PyData) : isBoolD (.tuple x) = false := rfl
theorem isStrD_none  : isStrD .none = false := rfl
theorem isStrD_bool (x : Bool) : isStrD (.bool x) = false := rfl
theorem isStrD_int (x : Int) : isStrD (.int x) = false := rfl
theorem isStrD_str (x : Str) : isStrD (.str x) = true := rfl
theorem isStrD_list (x : List PyData) : isStrD (.list x) = false := rfl
theorem isStrD_tuple (x : List PyData) : isStrD (.tuple x) = false := rfl
theorem isTupD_none  : isTupD .none = false := rfl
theorem isTupD_bool (x : Bool) : isTupD (.bool x) = false := rfl
theorem isTupD_int (x : Int) : isTupD (.int x) = false := rfl
theorem isTupD_str (x : Str) : isTupD (.str x) = false := rfl
theorem isTupD_list (x : List PyData) : isTupD (.list x) = false := rfl
theorem isTupD_tuple (x : List PyData) : isTupD (.tuple x) = true := rfl
theorem isListD_none  : isListD .none = false := rfl
theorem isListD_bool (x : Bool) : isListD (.bool x) = false := rfl
theorem isListD_int (x : Int) : isListD (.int x) = false := rfl
theorem isListD_str (x : Str) : isListD (.str x) = false := rfl
theorem isListD_list (x : List PyData) : isListD (.list x) = true := rfl
theorem isListD_tuple (x : List PyData) : isListD (.tuple x) = false := rfl
/-! ## pieces one by one -/
def nxR (I : FSt → Prop) (R : FOut → Prop) : FOut → Prop
  | .nx s => I s
  | o => R o
theorem seq_sat {a b : FSt → Option FOut} {st : FSt} {R : FOut → Prop} (I : FSt → Prop) (h1 : ∃ o, a st = some o ∧ nxR I R o) (h2 : ∀ s, I s → ∃ o, b s = some o ∧ R o) : ∃ o, fSeq a b st = some o ∧ R o := by
  obtain ⟨o, e, k⟩ := h1
  rw [fSeq_eq, e, Option.bind_some]
  cases o with
  | nx s => exact h2 s k
  | rt d => exact ⟨_, rfl, k⟩
  | bk d => exact ⟨_, rfl, k⟩
  | ct d => exact ⟨_, rfl, k⟩
  | ex d => exact ⟨_, rfl, k⟩
/-- a piece that goes on with one state -/
theorem seq_nx {a b : FSt → Option FOut} {st s : FSt} (h : a st = some (.nx s)) : fSeq a b st = b s := by
  rw [fSeq_eq, h, Option.bind_some, seqK_nx]
theorem seq_rt {a b : FSt → Option FOut} {st : FSt} {d : PyData} (h : a st = some (.rt d)) : fSeq a b st = some (.rt d) := by
  rw [fSeq_eq, h, Option.bind_some, seqK_rt]
theorem def_sat {n N : Nat} {b : FSt → Option FOut} {ds : List PyData} {P : PyData → Prop} (hn : ds.length = n) (h : ∃ o, b (startF n N ds) = some o ∧ ∃ d, outD o = some d ∧ P d) : ∃ d, fDef n N b ds = some d ∧ P d := by
  obtain ⟨o, e, d, ed, k⟩ := h
  exact ⟨d, by rw [fDef_out hn, e, Option.bind_some, ed], k⟩
theorem def_eq {n N : Nat} {b : FSt → Option FOut} {ds : List PyData} {d : PyData} (hn : ds.length = n) (h : ∃ o, b (startF n N ds) = some o ∧ outD o = some d) : fDef n N b ds = some d := by
  obtain ⟨o, e, ed⟩ := h
  rw [fDef_out hn, e, Option.bind_some, ed]
/-! ## equality of data -/
theorem eqvAll_map {α : Type} [DecidableEq α] {f : α → PyData} (h : ∀ a b, PyData.eqv (f a) (f b) = decide (a = b)) : ∀ xs ys : List α, PyData.eqvAll (xs.map f) (ys.map f) = decide (xs = ys)
  | [], [] => by rw [List.map_nil, eqvAll_nil]; rfl
  | [], y :: s => by rw [List.map_nil, List.map_cons, PyData.eqvAll]; simp
  | x :: r, [] => by rw [List.map_nil, List.map_cons, PyData.eqvAll]; simp
  | x :: r, y :: s => by
    rw [List.map_cons, List.map_cons, eqvAll_cons, h, eqvAll_map h r s]
    simp only [List.cons.injEq, Bool.decide_and]
theorem eqv_ll {α : Type} [DecidableEq α] {f : α → PyData} (h : ∀ a b, PyData.eqv (f a) (f b) = decide (a = b)) (xs ys : List α) : PyData.eqv (.list (xs.map f)) (.list (ys.map f)) = decide (xs = ys) := by rw [PyData.eqv, eqvAll_map h]
theorem eqv_tt {α : Type} [DecidableEq α] {f : α → PyData} (h : ∀ a b, PyData.eqv (f a) (f b) = decide (a = b)) (xs ys : List α) : PyData.eqv (.tuple (xs.map f)) (.tuple (ys.map f)) = decide (xs = ys) := by rw [PyData.eqv, eqvAll_map h]
theorem dEq_sh {a b : PyData} (ha : SeqAt.shaped a = true) (hb : SeqAt.shaped b = true) : dEq a b = some (.bool (PyData.eqv a b)) := by
  unfold dEq
  split
  · rw [eqv_ii]
  · rw [eqv_ss]
  · rw [eqv_bb]
  · rw [if_pos ⟨ha, hb⟩]
theorem dNe_sh {a b : PyData} (ha : SeqAt.shaped a = true) (hb : SeqAt.shaped b = true) : dNe a b = some (.bool (!PyData.eqv a b)) := by
  unfold dNe
  rw [dEq_sh ha hb]
  rfl
theorem sh_l {α : Type} {f : α → PyData} {n : Nat} {xs : List α} (h : ∀ x ∈ xs, Sh n (f x)) : Sh (n + 1) (.list (xs.map f)) := by
  unfold Sh
  rw [PyData.canLay0, PyData.depth, layAll_iff]
  refine ⟨fun d hd => ?_, Nat.succ_le_succ ((depAll_iff n _).mpr fun d hd => ?_)⟩
  · obtain ⟨x, hx, rfl⟩ := List.mem_map.mp hd; exact (h x hx).1
  · obtain ⟨x, hx, rfl⟩ := List.mem_map.mp hd; exact (h x hx).2
theorem sh_t {α : Type} {f : α → PyData} {n : Nat} {xs : List α} (h : ∀ x ∈ xs, Sh n (f x)) : Sh (n + 1) (.tuple (xs.map f)) := sh_tup.mpr fun d hd => by
  obtain ⟨x, hx, rfl⟩ := List.mem_map.mp hd; exact h x hx
theorem Sh.s64 {n : Nat} {d : PyData} (h : Sh n d) (hn : n ≤ 64 := by decide) : SeqAt.shaped d = true := h.shaped hn
theorem intsL_sh (ns : List Int) : SeqAt.shaped (.list (ns.map .int)) = true := (sh_l (n := 0) fun x _ => sh_int 0 x).s64
theorem intsT_sh (ns : List Int) : SeqAt.shaped (.tuple (ns.map .int)) = true := (sh_t (n := 0) fun x _ => sh_int 0 x).s64
theorem dEq_il (a b : List Int) : dEq (.list (a.map .int)) (.list (b.map .int)) = some (.bool (decide (a = b))) := by rw [dEq_sh (intsL_sh a) (intsL_sh b), eqv_ll eqv_ii]
theorem dEq_it (a b : List Int) : dEq (.tuple (a.map .int)) (.tuple (b.map .int)) = some (.bool (decide (a = b))) := by rw [dEq_sh (intsT_sh a) (intsT_sh b), eqv_tt eqv_ii]
theorem dNe_il (a b : List Int) : dNe (.list (a.map .int)) (.list (b.map .int)) = some (.bool (!decide (a = b))) := by rw [dNe_sh (intsL_sh a) (intsL_sh b), eqv_ll eqv_ii]
theorem dNe_it (a b : List Int) : dNe (.tuple (a.map .int)) (.tuple (b.map .int)) = some (.bool (!decide (a = b))) := by rw [dNe_sh (intsT_sh a) (intsT_sh b), eqv_tt eqv_ii]
/-! ## ints in lists -/
theorem atI_map {α β : Type} (f : α → β) (xs : List α) (i : Int) : atI (xs.map f) i = (atI xs i).map f := by
  unfold L2.atI
  rw [List.length_map]
  cases ixN xs.length i with
  | none => rfl
  | some j => simp
theorem atI_lt {α : Type} {xs : List α} {i : Int} (h0 : 0 ≤ i) (h1 : i < xs.length) : ∃ x, atI xs i = some x ∧ xs[i.toNat]? = some x ∧ x ∈ xs := by
  have h : i.toNat < xs.length := by omega
  have e : xs[i.toNat]? = some xs[i.toNat] := List.getElem?_eq_getElem h
  refine ⟨xs[i.toNat], ?_, e, List.getElem_mem h⟩
  unfold L2.atI
  rw [ixN_in h0 h1, Option.bind_some, e]
/-- a cell of the script -/
def cellD (ns : List Int) (k : Int) : Int := if k < ns.length then (atI ns k).getD 0 else 0
theorem rangeD_len (lo : Int) (n : Nat) (c : Int) : (rangeD lo n c).length = n := by unfold rangeD; simp
theorem rangeD_at {lo c : Int} {n i : Nat} {d : PyData} (h : (rangeD lo n c)[i]? = some d) : d = .int (lo + (i : Nat) * c) ∧ i < n := by
  unfold rangeD at h
  rw [List.getElem?_map] at h
  obtain ⟨j, hj, rfl⟩ := Option.map_eq_some_iff.mp h
  have hl := (List.getElem?_eq_some_iff.mp hj).1
  rw [List.length_range] at hl
  rw [List.getElem?_range hl] at hj
  cases hj
  exact ⟨rfl, hl⟩
theorem sat_bind {α β : Type} {m : Option α} {k : α → Option β} {P : β → Prop} (h : ∃ a, m = some a ∧ ∃ b, k a = some b ∧ P b) : ∃ b, m.bind k = some b ∧ P b := by
  obtain ⟨a, e, b, eb, p⟩ := h
  exact ⟨b, by rw [e]; exact eb, p⟩
theorem sat_eq {α : Type} {m : Option α} {a : α} (h : ∃ b, m = some b ∧ b = a) : m = some a := by
  obtain ⟨b, e, rfl⟩ := h
  exact e
theorem seq_assoc (a b c : FSt → Option FOut) (st : FSt) : fSeq (fSeq a b) c st = fSeq a (fSeq b c) st := by
  rw [fSeq_eq, fSeq_eq, fSeq_eq]
  cases a st with
  | none => rfl
  | some o => cases o <;> rfl
theorem seq_sat2 {a b c : FSt → Option FOut} {st : FSt} {R : FOut → Prop} (I : FSt → Prop) (h1 : ∃ o, fSeq a b st = some o ∧ nxR I R o) (h2 : ∀ s, I s → ∃ o, c s = some o ∧ R o) : ∃ o, fSeq a (fSeq b c) st = some o ∧ R o := by
  rw [← seq_assoc]; exact seq_sat I h1 h2
theorem seq_sat3 {a b c d : FSt → Option FOut} {st : FSt} {R : FOut → Prop} (I : FSt → Prop) (h1 : ∃ o, fSeq a (fSeq b c) st = some o ∧ nxR I R o) (h2 : ∀ s, I s → ∃ o, d s = some o ∧ R o) : ∃ o, fSeq a (fSeq b (fSeq c d)) st = some o ∧ R o := by
  rw [show fSeq b (fSeq c d) = fSeq (fSeq b c) d from funext fun s => (seq_assoc b c d s).symm]
  exact seq_sat2 I h1 h2
theorem seq_sat4 {a b c d e : FSt → Option FOut} {st : FSt} {R : FOut → Prop} (I : FSt → Prop) (h1 : ∃ o, fSeq a (fSeq b (fSeq c d)) st = some o ∧ nxR I R o) (h2 : ∀ s, I s → ∃ o, e s = some o ∧ R o) : ∃ o, fSeq a (fSeq b (fSeq c (fSeq d e))) st = some o ∧ R o := by
  rw [show fSeq c (fSeq d e) = fSeq (fSeq c d) e from funext fun s => (seq_assoc c d e s).symm]
  exact seq_sat3 I h1 h2
theorem nx_of {I : FSt → Prop} {R : FOut → Prop} {s : FSt} (h : I s) : nxR I R (.nx s) := h
theorem nx_rt {I : FSt → Prop} {R : FOut → Prop} {d : PyData} (h : R (.rt d)) : nxR I R (.rt d) := h
theorem lcD_ex {f : PyData → Option (Option PyData)} {P : PyData → Prop} : ∀ {ds : List PyData}, (∀ d ∈ ds, ∃ y, f d = some (some y) ∧ P y) → ∃ ys, lcD f ds = some ys ∧ ys.length = ds.length ∧ ∀ y ∈ ys, P y
  | [], _ => ⟨[], rfl, rfl, fun _ h => (nomatch h)⟩
  | d :: r, h => by
    obtain ⟨y, e, p⟩ := h d (List.mem_cons_self ..)
    obtain ⟨ys, e2, l, q⟩ := lcD_ex fun z hz => h z (List.mem_cons_of_mem _ hz)
    refine ⟨y :: ys, ?_, by rw [List.length_cons, List.length_cons, l], fun z hz => (List.mem_cons.mp hz).elim (fun e => by rw [e]; exact p) (q z)⟩
    rw [lcD, e, e2]
    rfl
theorem dSl_none : True := trivial
theorem wid_int (n : Nat) (i : Int) : wid n (.int i) = true := by rw [wid] <;> (intros; contradiction)
theorem wid_str (n : Nat) (i : Str) : wid n (.str i) = true := by rw [wid] <;> (intros; contradiction)
theorem wid_bool (n : Nat) (i : Bool) : wid n (.bool i) = true := by rw [wid] <;> (intros; contradiction)
theorem wid_none (n : Nat) : wid n .none = true := by rw [wid] <;> (intros; contradiction)

open Lean in
local macro_rules
  | `(tactic| walk_at $s:str) => do
    let ws := (s.getString.splitOn " ").filter (· ≠ "")
    let ids (fs : List String) : Array (TSyntax `term) := (fs.map fun f => (⟨mkIdent f.toName⟩ : TSyntax `term)).toArray
    let core (xs : Array (TSyntax `term)) := `(tactic| try simp (config := {maxSteps := 2000000}) only [Int.cast_ofNat_Int, Int.natCast_zero, Int.natCast_one, fDef_out, startF, List.map_cons, List.map_nil, List.length_cons, List.length_nil, Nat.reduceAdd, Nat.reduceSub, List.reduceReplicate, List.cons_append, List.nil_append, List.append_nil, fSeq_eq, seqK_nx, seqK_rt, seqK_bk, seqK_ct, outD_rt, outD_nx, fC, fV, fW, rdf, rdr, List.getElem?_cons_zero, List.getElem?_cons_succ, fB, fU, fNil, fCons, fG, fGL, fL, fBL, fUL, fAnd, fOr, andK_t, orK_t, fIf, fTb, fTa, fTand, fTor, fTnot, fChain, fNoPart, fPart, fSl, fSlL, fIter, fRev, fLc, lcS, wipeF, gNm, gU, gT_t, gT_l, gsNil_e, gsCons_e, fYes, List.set_cons_zero, List.set_cons_succ, fNext, fSet, fSetO, fAsg, fRet, fRetN, fIfS, fBrk, fCnt, fDrop, fAug, fOwn, owOf, fPut, fFor, fForget, fPost, forgetO, fFrz, frzV, fPar, List.foldl_cons, List.foldl_nil, List.modify_zero_cons, List.modify_succ_cons, Option.bind_some, Option.bind_none, bind_ite, seqK_ite, if_true, if_false, ite_true, ite_false, Bool.false_eq_true, eq_self, dTup_0, dTup_1, dTup_2, dTup_3, dTup_4, dTup_5, dTup_6, dTup_7, dLst_0, dLst_1, dLst_2, dLst_3, dLst_4, dLst_5, dLst_6, dLst_7, dSub_i, dAddI_i, dAdd_i, dMul_i, dFdiv_i, dMod_i, dPow_i, dShl_i, dShr_i, dBand_i, dBor_i, dXor_i, dNeg_i, dLt_i, dLe_i, dGt_i, dGe_i, dEq_i, dEq_s, dEq_b, dNe_i, dNe_s, dNe_b, dIs_b, dIsNot_b, dIs_nn, dIs_in, dIs_ln, dIs_tn, dIs_sn, dIs_bn, dIsNot_nn, dIsNot_in, dIsNot_ln, dIsNot_tn, dIsNot_sn, dNot_b, dTru_b, dTruA_b, dTruA_l, dTruA_t, dInt_i, dInt_b, dAbs_i, dMax2_i, dMin2_i, dLen_l, dLen_t, dLen_sc, dListL_l, dListL_t, dTuple_l, dTuple_t, dIx_l, dIx_t, dIx_sc, dSl_l, dSl_t, dSlL_l, dPart_i, dIter_l, dIter_t, dIter_s, cutD_take1, cutD_take2, cutD_take3, cutD_take4, cutD_take6, cutD_drop1, cutD_drop2, cutD_drop3, cutD_drop4, cutD_all, dRng1_i, dRng2_i, dRng3_i, dZip_l, dZip_t, dEnum_l, dRev_l, dRev_t, dAll_b, dAny_b, dSum_i, dIsi_int, dIsi_bool, dIsi_str, dIsi_tuple, dIsi_list, isIntD_none, isIntD_bool, isIntD_int, isIntD_str, isIntD_list, isIntD_tuple, isBoolD_none, isBoolD_bool, isBoolD_int, isBoolD_str, isBoolD_list, isBoolD_tuple, isStrD_none, isStrD_bool, isStrD_int, isStrD_str, isStrD_list, isStrD_tuple, isTupD_none, isTupD_bool, isTupD_int, isTupD_str, isTupD_list, isTupD_tuple, isListD_none, isListD_bool, isListD_int, isListD_str, isListD_list, isListD_tuple, ite_and, ite_or, opt_ite, gApp_eq, gExt_eq, dLst_eq, dTup_eq, List.length_map, List.length_append, Bool.not_true, Bool.not_false, Bool.and_true, Bool.true_and, Bool.and_false, Bool.false_and, Bool.or_true, Bool.true_or, Bool.or_false, Bool.false_or, decide_true, decide_false, atI_c0, atI_c1, atI_c2, atI_c3, Int.reduceLT, Int.reduceLE, Int.reduceEq, Int.reduceAdd, Int.reduceSub, Int.reduceMul, Int.reduceNeg, Int.reducePow, Nat.reducePow, Nat.reduceLT, Nat.reduceLeDiff, Nat.reduceSub, Nat.reduceMul, Int.reduceToNat, Nat.reduceEqDiff, Nat.succ_ne_zero, and_self, true_and, and_true, or_true, true_or, false_and, and_false, or_false, false_or, $[$xs:term],*])
    match ws with
    | "f" :: fs => core (ids ((fs.takeWhile (· ≠ "|")).flatMap (fun f => ["F_" ++ f, "B_" ++ f]) ++ (fs.dropWhile (· ≠ "|")).drop 1))
    | "e" :: fs => core (ids fs)
    | _ => Macro.throwUnsupported

noncomputable section
def topS (i : Nat) : Stmt := PySem.Challenge.pw_stillroom_k71_sound_facts.main.body.getD i (.Pass ⟨0, 0, 0, 0⟩)
abbrev s_is_integer_from : Stmt := topS 1
abbrev s_is_byte_tuple : Stmt := topS 2
abbrev s_is_tuple_of : Stmt := topS 3
abbrev s_is_sound : Stmt := topS 11
abbrev s__are_kinds : Stmt := topS 12
abbrev s_possible_choices : Stmt := topS 13
abbrev s__law_cell : Stmt := topS 15
abbrev s__law_is_integer : Stmt := topS 16
abbrev s__law_row : Stmt := topS 17
abbrev s__law_kinds : Stmt := topS 19
abbrev s__law_acts : Stmt := topS 20
abbrev s__law_facts : Stmt := topS 21
abbrev s__law_replaced : Stmt := topS 22
abbrev s__law_number : Stmt := topS 23
abbrev s__law_words : Stmt := topS 24
abbrev s__law_kind_fits : Stmt := topS 25
abbrev s__law_due : Stmt := topS 26
abbrev s_law : Stmt := topS 27
theorem sc_is_integer_from : FnScope ["value", "low", "high"] ["value", "low", "high"] (defScope s_is_integer_from) := ⟨rfl, rfl, rfl, by decide +kernel, rfl, by decide +kernel, by decide +kernel⟩
theorem sc_is_byte_tuple : FnScope ["value", "byte"] ["value"] (defScope s_is_byte_tuple) := ⟨rfl, rfl, rfl, by decide +kernel, rfl, by decide +kernel, by decide +kernel⟩
theorem sc_is_tuple_of : FnScope ["value", "length"] ["value", "length"] (defScope s_is_tuple_of) := ⟨rfl, rfl, rfl, by decide +kernel, rfl, by decide +kernel, by decide +kernel⟩
theorem sc_is_sound : FnScope ["value", "name", "size", "kind", "kinds", "pages", "acts", "depth", "act"] ["value"] (defScope s_is_sound) := ⟨rfl, rfl, rfl, by decide +kernel, rfl, by decide +kernel, by decide +kernel⟩
theorem sc__are_kinds : FnScope ["value", "kind", "places", "before", "after", "place"] ["value"] (defScope s__are_kinds) := ⟨rfl, rfl, rfl, by decide +kernel, rfl, by decide +kernel, by decide +kernel⟩
theorem sc_possible_choices : FnScope ["kinds"] ["kinds"] (defScope s_possible_choices) := ⟨rfl, rfl, rfl, by decide +kernel, rfl, by decide +kernel, by decide +kernel⟩
theorem sc__law_cell : FnScope ["script", "k"] ["script", "k"] (defScope s__law_cell) := ⟨rfl, rfl, rfl, by decide +kernel, rfl, by decide +kernel, by decide +kernel⟩
theorem sc__law_is_integer : FnScope ["actual"] ["actual"] (defScope s__law_is_integer) := ⟨rfl, rfl, rfl, by decide +kernel, rfl, by decide +kernel, by decide +kernel⟩
theorem sc__law_row : FnScope ["cell", "count", "row", "left", "k", "state"] ["cell", "count"] (defScope s__law_row) := ⟨rfl, rfl, rfl, by decide +kernel, rfl, by decide +kernel, by decide +kernel⟩
theorem sc__law_kinds : FnScope [] [] (defScope s__law_kinds) := ⟨rfl, rfl, rfl, by decide +kernel, rfl, by decide +kernel, by decide +kernel⟩
theorem sc__law_acts : FnScope [] [] (defScope s__law_acts) := ⟨rfl, rfl, rfl, by decide +kernel, rfl, by decide +kernel, by decide +kernel⟩
theorem sc__law_facts : FnScope ["script", "at", "cell", "kinds", "kind", "name", "byte", "acts", "size"] ["script", "at"] (defScope s__law_facts) := ⟨rfl, rfl, rfl, by decide +kernel, rfl, by decide +kernel, by decide +kernel⟩
theorem sc__law_replaced : FnScope ["facts", "cell", "at", "left", "out", "menu"] ["facts", "cell"] (defScope s__law_replaced) := ⟨rfl, rfl, rfl, by decide +kernel, rfl, by decide +kernel, by decide +kernel⟩
theorem sc__law_number : FnScope ["value", "most"] ["value", "most"] (defScope s__law_number) := ⟨rfl, rfl, rfl, by decide +kernel, rfl, by decide +kernel, by decide +kernel⟩
theorem sc__law_words : FnScope ["value", "words", "word"] ["value", "words"] (defScope s__law_words) := ⟨rfl, rfl, rfl, by decide +kernel, rfl, by decide +kernel, by decide +kernel⟩
theorem sc__law_kind_fits : FnScope ["kind", "kinds", "single", "word", "due"] ["kind", "kinds"] (defScope s__law_kind_fits) := ⟨rfl, rfl, rfl, by decide +kernel, rfl, by decide +kernel, by decide +kernel⟩
theorem sc__law_due : FnScope ["value", "byte"] ["value"] (defScope s__law_due) := ⟨rfl, rfl, rfl, by decide +kernel, rfl, by decide +kernel, by decide +kernel⟩
theorem sc_law : FnScope ["script", "facts", "values", "k", "value", "found"] ["script"] (defScope s_law) := ⟨rfl, rfl, rfl, by decide +kernel, rfl, by decide +kernel, by decide +kernel⟩
/-- what the top has left, as far as the walk asks of it -/
structure Txt (K : PySem.W.Frag) (mg : Str → Option Value) where
  f_is_integer_from : Addr
  fd_is_integer_from : FuncData
  F_is_integer_from : Fun K "is_integer_from" "is_integer_from" s_is_integer_from f_is_integer_from fd_is_integer_from
  b_is_integer_from : Binds K fd_is_integer_from ["value", "low", "high"] []
  g_is_integer_from : mg "is_integer_from" = some (.ref f_is_integer_from)
  f_is_byte_tuple : Addr
  fd_is_byte_tuple : FuncData
  F_is_byte_tuple : Fun K "is_byte_tuple" "is_byte_tuple" s_is_byte_tuple f_is_byte_tuple fd_is_byte_tuple
  b_is_byte_tuple : Binds K fd_is_byte_tuple ["value"] []
  g_is_byte_tuple : mg "is_byte_tuple" = some (.ref f_is_byte_tuple)
  f_is_tuple_of : Addr
  fd_is_tuple_of : FuncData
  F_is_tuple_of : Fun K "is_tuple_of" "is_tuple_of" s_is_tuple_of f_is_tuple_of fd_is_tuple_of
  b_is_tuple_of : Binds K fd_is_tuple_of ["value", "length"] []
  g_is_tuple_of : mg "is_tuple_of" = some (.ref f_is_tuple_of)
  f_is_sound : Addr
  fd_is_sound : FuncData
  F_is_sound : Fun K "is_sound" "is_sound" s_is_sound f_is_sound fd_is_sound
  b_is_sound : Binds K fd_is_sound ["value"] []
  g_is_sound : mg "is_sound" = some (.ref f_is_sound)
  f__are_kinds : Addr
  fd__are_kinds : FuncData
  F__are_kinds : Fun K "_are_kinds" "_are_kinds" s__are_kinds f__are_kinds fd__are_kinds
  b__are_kinds : Binds K fd__are_kinds ["value"] []
  g__are_kinds : mg "_are_kinds" = some (.ref f__are_kinds)
  f_possible_choices : Addr
  fd_possible_choices : FuncData
  F_possible_choices : Fun K "possible_choices" "possible_choices" s_possible_choices f_possible_choices fd_possible_choices
  b_possible_choices : Binds K fd_possible_choices ["kinds"] []
  g_possible_choices : mg "possible_choices" = some (.ref f_possible_choices)
  f__law_cell : Addr
  fd__law_cell : FuncData
  F__law_cell : Fun K "_law_cell" "_law_cell" s__law_cell f__law_cell fd__law_cell
  b__law_cell : Binds K fd__law_cell ["script", "k"] []
  g__law_cell : mg "_law_cell" = some (.ref f__law_cell)
  f__law_is_integer : Addr
  fd__law_is_integer : FuncData
  F__law_is_integer : Fun K "_law_is_integer" "_law_is_integer" s__law_is_integer f__law_is_integer fd__law_is_integer
  b__law_is_integer : Binds K fd__law_is_integer ["actual"] []
  g__law_is_integer : mg "_law_is_integer" = some (.ref f__law_is_integer)
  f__law_row : Addr
  fd__law_row : FuncData
  F__law_row : Fun K "_law_row" "_law_row" s__law_row f__law_row fd__law_row
  b__law_row : Binds K fd__law_row ["cell", "count"] []
  g__law_row : mg "_law_row" = some (.ref f__law_row)
  f__law_kinds : Addr
  fd__law_kinds : FuncData
  F__law_kinds : Fun K "_law_kinds" "_law_kinds" s__law_kinds f__law_kinds fd__law_kinds
  b__law_kinds : Binds K fd__law_kinds [] []
  g__law_kinds : mg "_law_kinds" = some (.ref f__law_kinds)
  f__law_acts : Addr
  fd__law_acts : FuncData
  F__law_acts : Fun K "_law_acts" "_law_acts" s__law_acts f__law_acts fd__law_acts
  b__law_acts : Binds K fd__law_acts [] []
  g__law_acts : mg "_law_acts" = some (.ref f__law_acts)
  f__law_facts : Addr
  fd__law_facts : FuncData
  F__law_facts : Fun K "_law_facts" "_law_facts" s__law_facts f__law_facts fd__law_facts
  b__law_facts : Binds K fd__law_facts ["script", "at"] []
  g__law_facts : mg "_law_facts" = some (.ref f__law_facts)
  f__law_replaced : Addr
  fd__law_replaced : FuncData
  F__law_replaced : Fun K "_law_replaced" "_law_replaced" s__law_replaced f__law_replaced fd__law_replaced
  b__law_replaced : Binds K fd__law_replaced ["facts", "cell"] []
  g__law_replaced : mg "_law_replaced" = some (.ref f__law_replaced)
  f__law_number : Addr
  fd__law_number : FuncData
  F__law_number : Fun K "_law_number" "_law_number" s__law_number f__law_number fd__law_number
  b__law_number : Binds K fd__law_number ["value", "most"] []
  g__law_number : mg "_law_number" = some (.ref f__law_number)
  f__law_words : Addr
  fd__law_words : FuncData
  F__law_words : Fun K "_law_words" "_law_words" s__law_words f__law_words fd__law_words
  b__law_words : Binds K fd__law_words ["value", "words"] []
  g__law_words : mg "_law_words" = some (.ref f__law_words)
  f__law_kind_fits : Addr
  fd__law_kind_fits : FuncData
  F__law_kind_fits : Fun K "_law_kind_fits" "_law_kind_fits" s__law_kind_fits f__law_kind_fits fd__law_kind_fits
  b__law_kind_fits : Binds K fd__law_kind_fits ["kind", "kinds"] []
  g__law_kind_fits : mg "_law_kind_fits" = some (.ref f__law_kind_fits)
  f__law_due : Addr
  fd__law_due : FuncData
  F__law_due : Fun K "_law_due" "_law_due" s__law_due f__law_due fd__law_due
  b__law_due : Binds K fd__law_due ["value"] []
  g__law_due : mg "_law_due" = some (.ref f__law_due)
  f_law : Addr
  fd_law : FuncData
  F_law : Fun K "law" "law" s_law f_law fd_law
  b_law : Binds K fd_law ["script"] []
  g_law : mg "law" = some (.ref f_law)
  a_KINDS : Addr
  c_KINDS : mg "KINDS" = some (.ref a_KINDS)
  q_KINDS : ∀ H, SqT K H a_KINDS [V.str "still", V.str "picture", V.str "film", V.str "sheet", V.str "folio", V.str "crate"]
  d_KINDS : ∃ o, K.lookup a_KINDS = some o ∧ o.cls = .type "tuple" ∧ o.dict = none
  a_ACT_KINDS : Addr
  c_ACT_KINDS : mg "ACT_KINDS" = some (.ref a_ACT_KINDS)
  q_ACT_KINDS : ∀ H, SqT K H a_ACT_KINDS [V.str "open", V.str "file", V.str "link", V.str "form", V.str "fetch", V.str "script"]
  d_ACT_KINDS : ∃ o, K.lookup a_ACT_KINDS = some o ∧ o.cls = .type "tuple" ∧ o.dict = none
  t_GREATEST_SIZE : Tok
  c_GREATEST_SIZE : mg "GREATEST_SIZE" = some (.int 2147483647 t_GREATEST_SIZE)
  t_MOST_PAGES : Tok
  c_MOST_PAGES : mg "MOST_PAGES" = some (.int 8 t_MOST_PAGES)
  t_GREATEST_DEPTH : Tok
  c_GREATEST_DEPTH : mg "GREATEST_DEPTH" = some (.int 4 t_GREATEST_DEPTH)
  t__FIRST_LOOSE : Tok
  c__FIRST_LOOSE : mg "_FIRST_LOOSE" = some (.int 4 t__FIRST_LOOSE)
  z_abs : mg "abs" = none
  z_all : mg "all" = none
  z_bool : mg "bool" = none
  z_int : mg "int" = none
  z_isinstance : mg "isinstance" = none
  z_len : mg "len" = none
  z_list : mg "list" = none
  z_range : mg "range" = none
  z_str : mg "str" = none
  z_tuple : mg "tuple" = none
  z_zip : mg "zip" = none
section
variable {P : Program} {w : World} {K : PySem.W.Frag} {mg : Str → Option Value} {base : Heap}
def c_KINDS : PyData := .tuple [.str "still", .str "picture", .str "film", .str "sheet", .str "folio", .str "crate"]
theorem tv_KINDS (T : Txt K mg) (F : Hp) : TV K F (.ref T.a_KINDS) c_KINDS := .tup (T.q_KINDS F) (.cons (.str _) (.cons (.str _) (.cons (.str _) (.cons (.str _) (.cons (.str _) (.cons (.str _) (.nil)))))))
def c_ACT_KINDS : PyData := .tuple [.str "open", .str "file", .str "link", .str "form", .str "fetch", .str "script"]
theorem tv_ACT_KINDS (T : Txt K mg) (F : Hp) : TV K F (.ref T.a_ACT_KINDS) c_ACT_KINDS := .tup (T.q_ACT_KINDS F) (.cons (.str _) (.cons (.str _) (.cons (.str _) (.cons (.str _) (.cons (.str _) (.cons (.str _) (.nil)))))))
noncomputable def B_is_integer_from : FSt → Option FOut :=
  (fRet (fAnd (fU (dIsi "int") (fW 0)) (fAnd (fU dNot (fU (dIsi "bool") (fW 0))) (fChain dLe dLe (fW 1) (fW 0) (fW 2)))))
noncomputable def F_is_integer_from : List PyData → Option PyData := fDef 3 3 B_is_integer_from
theorem ok_is_integer_from (T : Txt K mg) : FnOk P w K mg base CX0 1 T.f_is_integer_from T.fd_is_integer_from ["value", "low", "high"] (spF K F_is_integer_from) := fn_pure T.F_is_integer_from sc_is_integer_from rfl fun cdv A outer s H E hr =>
  (fss_one (fs_ret (fp_and (fp_isi (by rfl) T.z_isinstance (fr_var (pv 0)) (pe_bltn (v := .ty "int") (u := .type "int") (by rfl) T.z_int (by decide +kernel) rfl)) (fp_and (fp_not (fp_isi (by rfl) T.z_isinstance (fr_var (pv 0)) (pe_bltn (v := .ty "bool") (u := .type "bool") (by rfl) T.z_bool (by decide +kernel) rfl))) (fp_one (fp_chain op_le op2_le op_le op2_le (fr_var (pv 1)) (fr_var (pv 0)) (fr_var (pv 2))))))))
noncomputable def B_is_byte_tuple : FSt → Option FOut :=
  (fRet (fAnd (fU (dIsi "tuple") (fW 0)) (fG dAll (fCons (fL (fLc (fIter (fW 0)) (gNm 1) fYes (fG F_is_integer_from (fCons (fV 1) (fCons (fC (.int 0)) (fCons (fC (.int 255)) fNil)))) [1])) fNil))))
noncomputable def F_is_byte_tuple : List PyData → Option PyData := fDef 1 2 B_is_byte_tuple
theorem ok_is_byte_tuple (T : Txt K mg) : FnOk P w K mg base CX0 2 T.f_is_byte_tuple T.fd_is_byte_tuple ["value"] (spF K F_is_byte_tuple) := fn_pure T.F_is_byte_tuple sc_is_byte_tuple rfl fun cdv A outer s H E hr =>
  (fss_one (fs_ret (fp_and (fp_isi (by rfl) T.z_isinstance (fr_var (pv 0)) (pe_bltn (v := .ty "tuple") (u := .type "tuple") (by rfl) T.z_tuple (by decide +kernel) rfl)) (fp_one (fp_all rfl (by rfl) T.z_all (far_cons (FP.r (FN.p (fn_lc (own := [("byte", 1)]) rfl sc_is_byte_tuple.nd (fir_seq (fr_var (pv 0))) (blkOk_by (own := [("byte", 1)]) (N := ["value", "byte"]) (sc := defScope s_is_byte_tuple) (by decide +kernel)) (fun _ _ _ _ _ => (fg_name (pg_name (i := 1) sc_is_byte_tuple.nd rfl (Or.inl rfl)))) (fun _ _ _ _ _ => fts_nil) (fun _ _ _ _ _ => (fp_call (ok_is_integer_from T) hr (by rfl) T.g_is_integer_from T.F_is_integer_from.kp T.b_is_integer_from pass0 (fa_cons (fp_var (pv 1)) (fa_cons fp_int (fa_cons fp_int fa_nil))))) rfl (by decide)))) far_nil))))))
noncomputable def B_is_tuple_of : FSt → Option FOut :=
  (fRet (fAnd (fU (dIsi "tuple") (fW 0)) (fB dEq (fG dLen (fCons (fW 0) fNil)) (fW 1))))
noncomputable def F_is_tuple_of : List PyData → Option PyData := fDef 2 2 B_is_tuple_of
theorem ok_is_tuple_of (T : Txt K mg) : FnOk P w K mg base CX0 1 T.f_is_tuple_of T.fd_is_tuple_of ["value", "length"] (spF K F_is_tuple_of) := fn_pure T.F_is_tuple_of sc_is_tuple_of rfl fun cdv A outer s H E hr =>
  (fss_one (fs_ret (fp_and (fp_isi (by rfl) T.z_isinstance (fr_var (pv 0)) (pe_bltn (v := .ty "tuple") (u := .type "tuple") (by rfl) T.z_tuple (by decide +kernel) rfl)) (fp_one (fp_cmp (op_eqQ (K := K) (hu4 hr)) op2_eq (FP.r (fp_len (by rfl) T.z_len (far_cons (fr_var (pv 0)) far_nil))) (fr_var (pv 1)) (nomark _))))))
noncomputable def B__are_kinds : FSt → Option FOut :=
  (fSeq (fIfS (fTor (fTnot (fTb (fU (dIsi "tuple") (fW 0)))) (fTnot (fTb (fG dAll (fCons (fL (fLc (fIter (fW 0)) (gNm 1) fYes (fB dIn (fW 1) (fC c_KINDS)) [1])) fNil))))) (fRet (fC (.bool false))) fNext)
  (fSeq (fSet 2 (fL (fLc (fIter (fW 0)) (gNm 1) fYes (fB dIndexT (fC c_KINDS) (fV 1)) [1])))
  (fSeq (fIfS (fTnot (fTb (fG dAll (fCons (fL (fLc (fGL dZip (fCons (fW 2) (fCons (fSl dSl (fW 2) (fPart (fC (.int 1))) fNoPart) fNil))) (gT 2 (gsCons (gNm 3) (gsCons (gNm 4) gsNil))) fYes (fB dLt (fW 3) (fW 4)) [3, 4])) fNil)))) (fRet (fC (.bool false))) fNext)
  (fRet (fB dLe (fG dLen (fCons (fL (fLc (fIter (fW 2)) (gNm 5) (fTb (fB dLt (fW 5) (fC (.int 4)))) (fV 5) [5])) fNil)) (fC (.int 1)))))))
noncomputable def F__are_kinds : List PyData → Option PyData := fDef 1 6 B__are_kinds
theorem ok__are_kinds (T : Txt K mg) : FnOk P w K mg base CX0 1 T.f__are_kinds T.fd__are_kinds ["value"] (spF K F__are_kinds) := fn_pure T.F__are_kinds sc__are_kinds rfl fun cdv A outer s H E hr =>
  (fss_cons (fs_if (PW.pt (fw_or (ft_not (ft_val (fp_isi (by rfl) T.z_isinstance (fr_var (pv 0)) (pe_bltn (v := .ty "tuple") (u := .type "tuple") (by rfl) T.z_tuple (by decide +kernel) rfl)))) (fw_or1 (ft_not (ft_val (fp_all rfl (by rfl) T.z_all (far_cons (FP.r (FN.p (fn_lc (own := [("kind", 1)]) rfl sc__are_kinds.nd (fir_seq (fr_var (pv 0))) (blkOk_by (own := [("kind", 1)]) (N := ["value", "kind", "places", "before", "after", "place"]) (sc := defScope s__are_kinds) (by decide +kernel)) (fun _ _ _ _ _ => (fg_name (pg_name (i := 1) sc__are_kinds.nd rfl (Or.inl rfl)))) (fun _ _ _ _ _ => fts_nil) (fun _ _ _ _ _ => (fp_cmp (op_inQ (K := K) (hu5 hr)) op2_in (fr_var (pv 1)) (FP.r (fp_c (pe_glob (v := .ref T.a_KINDS) (by rfl) T.c_KINDS rfl) (tv_KINDS T))) (by rfl))) rfl (by decide)))) far_nil))))))) (fss_one (fs_ret fp_bl)) fss_nil)
  (fss_cons (fs_setLc (i := 2) (own := [("kind", 1)]) rfl sc__are_kinds.nd rfl rfl (sw_true rfl rfl rfl (by decide +kernel)) (fir_seq (fr_var (pv 0))) (blkOk_by (own := [("kind", 1)]) (N := ["value", "kind", "places", "before", "after", "place"]) (sc := defScope s__are_kinds) (by decide +kernel)) (fun _ _ _ _ _ => (fg_name (pg_name (i := 1) sc__are_kinds.nd rfl (Or.inl rfl)))) (fun _ _ _ _ _ => fts_nil) (fun _ _ _ _ _ => (fp_indexK T.d_KINDS (tv_KINDS T) (pe_bm PySem.F.plainAttrs_tuple PySem.F.slot_tuple_index PySem.F.type_tuple_index (mt_indexTK (K := K)) (pe_glob (v := .ref T.a_KINDS) (by rfl) T.c_KINDS rfl) (pa_cons (fp_var (pv 1)) pa_nil)))) rfl (by decide))
  (fss_cons (fs_if (ft_not (ft_val (fp_all rfl (by rfl) T.z_all (far_cons (FP.r (FN.p (fn_lc (own := [("before", 3), ("after", 4)]) rfl sc__are_kinds.nd (fir_zip (by rfl) T.z_zip (far_cons (fr_var (pv 2)) (far_cons (FP.r (fp_slQ (fr_var (pv 2)) (fo_some fp_int) fo_none)) far_nil))) (blkOk_by (own := [("before", 3), ("after", 4)]) (N := ["value", "kind", "places", "before", "after", "place"]) (sc := defScope s__are_kinds) (by decide +kernel)) (fun _ _ _ _ _ => (fg_tup (n := 2) (by rfl) (fgs_cons (fg_name (pg_name (i := 3) sc__are_kinds.nd rfl (Or.inl rfl))) (fgs_cons (fg_name (pg_name (i := 4) sc__are_kinds.nd rfl (Or.inl rfl))) fgs_nil)))) (fun _ _ _ _ _ => fts_nil) (fun _ _ _ _ _ => (fp_cmp op_ltQ op2_lt (fr_var (pv 3)) (fr_var (pv 4)) (nomark _))) rfl (by decide)))) far_nil)))) (fss_one (fs_ret fp_bl)) fss_nil)
  (fss_one (fs_ret (fp_cmp op_le op2_le (FP.r (fp_len (by rfl) T.z_len (far_cons (FP.r (FN.p (fn_lc (own := [("place", 5)]) rfl sc__are_kinds.nd (fir_seq (fr_var (pv 2))) (blkOk_by (own := [("place", 5)]) (N := ["value", "kind", "places", "before", "after", "place"]) (sc := defScope s__are_kinds) (by decide +kernel)) (fun _ _ _ _ _ => (fg_name (pg_name (i := 5) sc__are_kinds.nd rfl (Or.inl rfl)))) (fun _ _ _ _ _ => (fts_one (ft_cmp op_ltQ op2_lt (fr_var (pv 5)) (FP.r (fp_c (pe_glob (v := .int 4) (by rfl) T.c__FIRST_LOOSE ⟨_, rfl⟩) (fun _ => .int _))) (nomark _)))) (fun _ _ _ _ _ => (fp_var (pv 5))) rfl (by decide)))) far_nil))) (FP.r fp_int) (nomark _)))))))
noncomputable def B_possible_choices : FSt → Option FOut :=
  (fSeq (fIfS (fTb (fB dEq (fG dLen (fCons (fW 0) fNil)) (fC (.int 0)))) (fRet (fG dTup (fCons (fC (.str "")) fNil))) fNext)
  (fSeq (fIfS (fTb (fB dIn (fB dIx (fW 0) (fC (.int 0))) (fSl dSl (fC c_KINDS) fNoPart (fPart (fC (.int 4)))))) (fRet (fSl dSl (fW 0) fNoPart (fPart (fC (.int 1))))) fNext)
  (fRet (fV 0))))
noncomputable def F_possible_choices : List PyData → Option PyData := fDef 1 1 B_possible_choices
theorem ok_possible_choices (T : Txt K mg) : FnOk P w K mg base CX0 1 T.f_possible_choices T.fd_possible_choices ["kinds"] (spF K F_possible_choices) := fn_pure T.F_possible_choices sc_possible_choices rfl fun cdv A outer s H E hr =>
  (fss_cons (fs_if (ft_cmp (op_eqQ (K := K) (hu4 hr)) op2_eq (FP.r (fp_len (by rfl) T.z_len (far_cons (fr_var (pv 0)) far_nil))) (FP.r fp_int) (nomark _)) (fss_one (fs_ret (fp_tup (fa_cons fp_str fa_nil)))) fss_nil)
  (fss_cons (fs_if (ft_cmp (op_inQ (K := K) (hu5 hr)) op2_in (FP.r (fp_ixQ (fr_var (pv 0)) (FP.r fp_int) (fun _ _ => rfl))) (FP.r (fp_slQ (FP.r (fp_c (pe_glob (v := .ref T.a_KINDS) (by rfl) T.c_KINDS rfl) (tv_KINDS T))) fo_none (fo_some (fp_c (pe_glob (v := .int 4) (by rfl) T.c__FIRST_LOOSE ⟨_, rfl⟩) (fun _ => .int _))))) (by rfl)) (fss_one (fs_ret (fp_slQ (fr_var (pv 0)) fo_none (fo_some fp_int)))) fss_nil)
  (fss_one (fs_ret (fp_var (pv 0))))))
noncomputable def B_is_sound : FSt → Option FOut :=
  (fSeq (fIfS (fTnot (fTb (fG F_is_tuple_of (fCons (fV 0) (fCons (fC (.int 7)) fNil))))) (fRet (fC (.bool false))) fNext)
  (fSeq (fAsg (fV 0) (gT 7 (gsCons (gNm 1) (gsCons (gNm 2) (gsCons (gNm 3) (gsCons (gNm 4) (gsCons (gNm 5) (gsCons (gNm 6) (gsCons (gNm 7) gsNil)))))))))
  (fSeq (fIfS (fTor (fTnot (fTb (fG F_is_byte_tuple (fCons (fV 1) fNil)))) (fTnot (fTb (fG F_is_integer_from (fCons (fV 2) (fCons (fC (.int 0)) (fCons (fC (.int 2147483647)) fNil))))))) (fRet (fC (.bool false))) fNext)
  (fSeq (fIfS (fTor (fTnot (fTb (fG F_is_integer_from (fCons (fV 5) (fCons (fC (.int 0)) (fCons (fC (.int 8)) fNil)))))) (fTnot (fTb (fG F_is_integer_from (fCons (fV 7) (fCons (fC (.int 0)) (fCons (fC (.int 4)) fNil))))))) (fRet (fC (.bool false))) fNext)
  (fSeq (fIfS (fTor (fTnot (fTb (fU (dIsi "tuple") (fW 6)))) (fTnot (fTb (fG dAll (fCons (fL (fLc (fIter (fW 6)) (gNm 8) fYes (fB dIn (fW 8) (fC c_ACT_KINDS)) [8])) fNil))))) (fRet (fC (.bool false))) fNext)
  (fRet (fAnd (fG F__are_kinds (fCons (fV 4) fNil)) (fB dIn (fW 3) (fG F_possible_choices (fCons (fV 4) fNil))))))))))
noncomputable def F_is_sound : List PyData → Option PyData := fDef 1 9 B_is_sound
theorem ok_is_sound (T : Txt K mg) : FnOk P w K mg base CX0 3 T.f_is_sound T.fd_is_sound ["value"] (spF K F_is_sound) := fn_pure T.F_is_sound sc_is_sound rfl fun cdv A outer s H E hr =>
  (fss_cons (fs_if (ft_not (ft_val (fp_call (ok_is_tuple_of T) (hr.mono (by decide)) (by rfl) T.g_is_tuple_of T.F_is_tuple_of.kp T.b_is_tuple_of pass0 (fa_cons (fp_var (pv 0)) (fa_cons fp_int fa_nil))))) (fss_one (fs_ret fp_bl)) fss_nil)
  (fss_cons (fs_asg (fp_var (pv 0)) (fg_tup (n := 7) (by rfl) (fgs_cons (fg_name (pg_name (i := 1) sc_is_sound.nd rfl (Or.inl rfl))) (fgs_cons (fg_name (pg_name (i := 2) sc_is_sound.nd rfl (Or.inl rfl))) (fgs_cons (fg_name (pg_name (i := 3) sc_is_sound.nd rfl (Or.inl rfl))) (fgs_cons (fg_name (pg_name (i := 4) sc_is_sound.nd rfl (Or.inl rfl))) (fgs_cons (fg_name (pg_name (i := 5) sc_is_sound.nd rfl (Or.inl rfl))) (fgs_cons (fg_name (pg_name (i := 6) sc_is_sound.nd rfl (Or.inl rfl))) (fgs_cons (fg_name (pg_name (i := 7) sc_is_sound.nd rfl (Or.inl rfl))) fgs_nil)))))))))
  (fss_cons (fs_if (PW.pt (fw_or (ft_not (ft_val (fp_call (ok_is_byte_tuple T) hr (by rfl) T.g_is_byte_tuple T.F_is_byte_tuple.kp T.b_is_byte_tuple pass0 (fa_cons (fp_var (pv 1)) fa_nil)))) (fw_or1 (ft_not (ft_val (fp_call (ok_is_integer_from T) (hr.mono (by decide)) (by rfl) T.g_is_integer_from T.F_is_integer_from.kp T.b_is_integer_from pass0 (fa_cons (fp_var (pv 2)) (fa_cons fp_int (fa_cons (fp_c (pe_glob (v := .int 2147483647) (by rfl) T.c_GREATEST_SIZE ⟨_, rfl⟩) (fun _ => .int _)) fa_nil))))))))) (fss_one (fs_ret fp_bl)) fss_nil)
  (fss_cons (fs_if (PW.pt (fw_or (ft_not (ft_val (fp_call (ok_is_integer_from T) (hr.mono (by decide)) (by rfl) T.g_is_integer_from T.F_is_integer_from.kp T.b_is_integer_from pass0 (fa_cons (fp_var (pv 5)) (fa_cons fp_int (fa_cons (fp_c (pe_glob (v := .int 8) (by rfl) T.c_MOST_PAGES ⟨_, rfl⟩) (fun _ => .int _)) fa_nil)))))) (fw_or1 (ft_not (ft_val (fp_call (ok_is_integer_from T) (hr.mono (by decide)) (by rfl) T.g_is_integer_from T.F_is_integer_from.kp T.b_is_integer_from pass0 (fa_cons (fp_var (pv 7)) (fa_cons fp_int (fa_cons (fp_c (pe_glob (v := .int 4) (by rfl) T.c_GREATEST_DEPTH ⟨_, rfl⟩) (fun _ => .int _)) fa_nil))))))))) (fss_one (fs_ret fp_bl)) fss_nil)
  (fss_cons (fs_if (PW.pt (fw_or (ft_not (ft_val (fp_isi (by rfl) T.z_isinstance (fr_var (pv 6)) (pe_bltn (v := .ty "tuple") (u := .type "tuple") (by rfl) T.z_tuple (by decide +kernel) rfl)))) (fw_or1 (ft_not (ft_val (fp_all rfl (by rfl) T.z_all (far_cons (FP.r (FN.p (fn_lc (own := [("act", 8)]) rfl sc_is_sound.nd (fir_seq (fr_var (pv 6))) (blkOk_by (own := [("act", 8)]) (N := ["value", "name", "size", "kind", "kinds", "pages", "acts", "depth", "act"]) (sc := defScope s_is_sound) (by decide +kernel)) (fun _ _ _ _ _ => (fg_name (pg_name (i := 8) sc_is_sound.nd rfl (Or.inl rfl)))) (fun _ _ _ _ _ => fts_nil) (fun _ _ _ _ _ => (fp_cmp (op_inQ (K := K) (hu5 hr)) op2_in (fr_var (pv 8)) (FP.r (fp_c (pe_glob (v := .ref T.a_ACT_KINDS) (by rfl) T.c_ACT_KINDS rfl) (tv_ACT_KINDS T))) (by rfl))) rfl (by decide)))) far_nil))))))) (fss_one (fs_ret fp_bl)) fss_nil)
  (fss_one (fs_ret (fp_and (fp_call (ok__are_kinds T) (hr.mono (by decide)) (by rfl) T.g__are_kinds T.F__are_kinds.kp T.b__are_kinds pass0 (fa_cons (fp_var (pv 4)) fa_nil)) (fp_one (fp_cmp (op_inQ (K := K) (hu5 hr)) op2_in (fr_var (pv 3)) (FP.r (fp_call (ok_possible_choices T) (hr.mono (by decide)) (by rfl) T.g_possible_choices T.F_possible_choices.kp T.b_possible_choices pass0 (fa_cons (fp_var (pv 4)) fa_nil))) (by rfl)))))))))))
noncomputable def B__law_cell : FSt → Option FOut :=
  (fSeq (fIfS (fTb (fB dLt (fW 1) (fG dLen (fCons (fW 0) fNil)))) (fRet (fG dInt (fCons (fB dIx (fW 0) (fW 1)) fNil))) fNext)
  (fRet (fC (.int 0))))
noncomputable def F__law_cell : List PyData → Option PyData := fDef 2 2 B__law_cell
theorem ok__law_cell (T : Txt K mg) : FnOk P w K mg base CX0 1 T.f__law_cell T.fd__law_cell ["script", "k"] (spF K F__law_cell) := fn_pure T.F__law_cell sc__law_cell rfl fun cdv A outer s H E hr =>
  (fss_cons (fs_if (ft_cmp op_ltQ op2_lt (fr_var (pv 1)) (FP.r (fp_len (by rfl) T.z_len (far_cons (fr_var (pv 0)) far_nil))) (nomark _)) (fss_one (fs_ret (fp_int1 (by rfl) T.z_int (far_cons (FP.r (fp_ixQ (fr_var (pv 0)) (fr_var (pv 1)) (fun _ _ => rfl))) far_nil)))) fss_nil)
  (fss_one (fs_ret fp_int)))
noncomputable def B__law_is_integer : FSt → Option FOut :=
  (fRet (fAnd (fU (dIsi "int") (fW 0)) (fU dNot (fU (dIsi "bool") (fW 0)))))
noncomputable def F__law_is_integer : List PyData → Option PyData := fDef 1 1 B__law_is_integer
theorem ok__law_is_integer (T : Txt K mg) : FnOk P w K mg base CX0 1 T.f__law_is_integer T.fd__law_is_integer ["actual"] (spF K F__law_is_integer) := fn_pure T.F__law_is_integer sc__law_is_integer rfl fun cdv A outer s H E hr =>
  (fss_one (fs_ret (fp_and (fp_isi (by rfl) T.z_isinstance (fr_var (pv 0)) (pe_bltn (v := .ty "int") (u := .type "int") (by rfl) T.z_int (by decide +kernel) rfl)) (fp_one (fp_not (fp_isi (by rfl) T.z_isinstance (fr_var (pv 0)) (pe_bltn (v := .ty "bool") (u := .type "bool") (by rfl) T.z_bool (by decide +kernel) rfl)))))))
noncomputable def B__law_row : FSt → Option FOut :=
  (fSeq (fSetO 2 (fGL dLst fNil))
  (fSeq (fSet 3 (fG dAbs (fCons (fW 0) fNil)))
  (fSeq (fIfS (fTb (fB dGe (fW 3) (fB dPow (fC (.int 10)) (fC (.int 18))))) (fSeq (fForget [4] (fFor (fGL dRng1 (fCons (fV 1) fNil)) (gNm 4) (fPost [4] (fSeq (fOwn 2 gApp (fB dBand (fW 3) (fC (.int 255))))
  (fSet 3 (fB dShr (fW 3) (fC (.int 8))))))))
  (fFrz 2 (fRet (fV 2)))) fNext)
  (fSeq (fSet 5 (fB dAdd (fB dMod (fG dInt (fCons (fW 3) fNil)) (fC (.int 2147483629))) (fC (.int 1))))
  (fSeq (fForget [4] (fFor (fGL dRng1 (fCons (fV 1) fNil)) (gNm 4) (fPost [4] (fSeq (fSet 5 (fB dMod (fG dInt (fCons (fB dMul (fW 5) (fC (.int 48271))) fNil)) (fC (.int 2147483647))))
  (fOwn 2 gApp (fB dBand (fB dAdd (fB dFdiv (fW 5) (fC (.int 7))) (fW 5)) (fC (.int 255))))))))
  (fFrz 2 (fRet (fV 2))))))))
noncomputable def F__law_row : List PyData → Option PyData := fDef 2 6 B__law_row
theorem ok__law_row (T : Txt K mg) : FnOk P w K mg base CX0 1 T.f__law_row T.fd__law_row ["cell", "count"] (spF K F__law_row) := fn_pure T.F__law_row sc__law_row rfl fun cdv A outer s H E hr =>
  (fss_cons (fs_setO (i := 2) sc__law_row.nd rfl (Or.inl rfl) (fn_lst fa_nil))
  (fss_cons (fs_set (i := 3) sc__law_row.nd rfl (Or.inl rfl) (fp_abs (by rfl) T.z_abs (far_cons (fr_var (pv 0)) far_nil)))
  (fss_cons (fs_if (ft_cmp op_ge op2_ge (fr_var (pv 3)) (FP.r (fp_pow (FP.r fp_int) (FP.r fp_int))) (nomark _)) (fss_cons (fs_forget [4] (fs_for PassesOwn.never rfl (fi_range1 (by rfl) T.z_range (fa_cons (fp_var (pv 1)) fa_nil)) (fg_name (pg_name (i := 4) sc__law_row.nd rfl (Or.inl rfl))) (fss_post [4] (fss_cons (fs_append (pe_bm PySem.F.plainAttrs_list PySem.F.slot_list_append PySem.F.type_list_append mt_append (pv 2) (pa_cons (fp_band (fr_var (pv 3)) (FP.r fp_int)) pa_nil)))
  (fss_one (fs_set (i := 3) sc__law_row.nd rfl (Or.inl rfl) (fp_shr (fr_var (pv 3)) (FP.r fp_int))))))))
  (fss_one (fs_frz 2 (fs_ret (fp_var (pv 2)))))) fss_nil)
  (fss_cons (fs_set (i := 5) sc__law_row.nd rfl (Or.inl rfl) (fp_add (FP.r (fp_mod (FP.r (fp_int1 (by rfl) T.z_int (far_cons (fr_var (pv 3)) far_nil))) (FP.r fp_int))) (FP.r fp_int)))
  (fss_cons (fs_forget [4] (fs_for PassesOwn.never rfl (fi_range1 (by rfl) T.z_range (fa_cons (fp_var (pv 1)) fa_nil)) (fg_name (pg_name (i := 4) sc__law_row.nd rfl (Or.inl rfl))) (fss_post [4] (fss_cons (fs_set (i := 5) sc__law_row.nd rfl (Or.inl rfl) (fp_mod (FP.r (fp_int1 (by rfl) T.z_int (far_cons (FP.r (fp_mulI (fr_var (pv 5)) (FP.r fp_int))) far_nil))) (FP.r fp_int)))
  (fss_one (fs_append (pe_bm PySem.F.plainAttrs_list PySem.F.slot_list_append PySem.F.type_list_append mt_append (pv 2) (pa_cons (fp_band (FP.r (fp_add (FP.r (fp_fdiv (fr_var (pv 5)) (FP.r fp_int))) (fr_var (pv 5)))) (FP.r fp_int)) pa_nil))))))))
  (fss_one (fs_frz 2 (fs_ret (fp_var (pv 2))))))))))
noncomputable def B__law_kinds : FSt → Option FOut :=
  (fRet (fL (fGL dLst (fCons (fC (.str "still")) (fCons (fC (.str "picture")) (fCons (fC (.str "film")) (fCons (fC (.str "sheet")) (fCons (fC (.str "folio")) (fCons (fC (.str "crate")) fNil)))))))))
noncomputable def F__law_kinds : List PyData → Option PyData := fDef 0 0 B__law_kinds
theorem ok__law_kinds (T : Txt K mg) : FnOk P w K mg base CX0 1 T.f__law_kinds T.fd__law_kinds [] (spF K F__law_kinds) := fn_pure T.F__law_kinds sc__law_kinds rfl fun cdv A outer s H E hr =>
  (fss_one (fs_ret (FN.p (fn_lst (fa_cons fp_str (fa_cons fp_str (fa_cons fp_str (fa_cons fp_str (fa_cons fp_str (fa_cons fp_str fa_nil))))))))))
noncomputable def B__law_acts : FSt → Option FOut :=
  (fRet (fL (fGL dLst (fCons (fC (.str "open")) (fCons (fC (.str "file")) (fCons (fC (.str "link")) (fCons (fC (.str "form")) (fCons (fC (.str "fetch")) (fCons (fC (.str "script")) fNil)))))))))
noncomputable def F__law_acts : List PyData → Option PyData := fDef 0 0 B__law_acts
theorem ok__law_acts (T : Txt K mg) : FnOk P w K mg base CX0 1 T.f__law_acts T.fd__law_acts [] (spF K F__law_acts) := fn_pure T.F__law_acts sc__law_acts rfl fun cdv A outer s H E hr =>
  (fss_one (fs_ret (FN.p (fn_lst (fa_cons fp_str (fa_cons fp_str (fa_cons fp_str (fa_cons fp_str (fa_cons fp_str (fa_cons fp_str fa_nil))))))))))
noncomputable def B__law_facts : FSt → Option FOut :=
  (fSeq (fSet 2 (fG dAbs (fCons (fG F__law_cell (fCons (fV 0) (fCons (fV 1) fNil))) fNil)))
  (fSeq (fSetO 3 (fGL dLst fNil))
  (fSeq (fIfS (fTb (fB dGt (fB dMod (fG dInt (fCons (fW 2) fNil)) (fC (.int 5))) (fC (.int 0)))) (fOwn 3 gApp (fB dIx (fG F__law_kinds fNil) (fB dSub (fB dMod (fG dInt (fCons (fW 2) fNil)) (fC (.int 5))) (fC (.int 1))))) fNext)
  (fSeq (fIfS (fTb (fB dEq (fB dBand (fG dInt (fCons (fB dFdiv (fW 2) (fC (.int 5))) fNil)) (fC (.int 1))) (fC (.int 1)))) (fOwn 3 gApp (fC (.str "folio"))) fNext)
  (fSeq (fIfS (fTb (fB dEq (fB dBand (fG dInt (fCons (fB dFdiv (fW 2) (fC (.int 10))) fNil)) (fC (.int 1))) (fC (.int 1)))) (fOwn 3 gApp (fC (.str "crate"))) fNext)
  (fSeq (fSet 4 (fC (.str "")))
  (fSeq (fIfS (fTb (fB dGt (fG dLen (fCons (fW 3) fNil)) (fC (.int 0)))) (fSet 4 (fB dIx (fW 3) (fC (.int 0)))) fNext)
  (fSeq (fIfS (fTand (fTb (fB dEq (fW 3) (fL (fGL dLst (fCons (fC (.str "folio")) (fCons (fC (.str "crate")) fNil)))))) (fTb (fB dEq (fB dBand (fG dInt (fCons (fB dFdiv (fW 2) (fC (.int 20))) fNil)) (fC (.int 1))) (fC (.int 1))))) (fSet 4 (fC (.str "crate"))) fNext)
  (fSeq (fSet 5 (fG dTuple (fCons (fL (fLc (fIter (fG F__law_row (fCons (fG F__law_cell (fCons (fV 0) (fCons (fB dAdd (fW 1) (fC (.int 1))) fNil))) (fCons (fB dMod (fG dInt (fCons (fB dFdiv (fW 2) (fC (.int 40))) fNil)) (fC (.int 9))) fNil)))) (gNm 6) fYes (fB dIx (fL (fGL dLst (fCons (fC (.int 97)) (fCons (fC (.int 98)) (fCons (fC (.int 42)) (fCons (fC (.int 46)) (fCons (fC (.int 99)) fNil))))))) (fB dMod (fG dInt (fCons (fW 6) fNil)) (fC (.int 5)))) [6])) fNil)))
  (fSeq (fSet 7 (fG dTuple (fCons (fL (fLc (fIter (fG F__law_row (fCons (fG F__law_cell (fCons (fV 0) (fCons (fB dAdd (fW 1) (fC (.int 2))) fNil))) (fCons (fB dMod (fG dInt (fCons (fB dFdiv (fW 2) (fC (.int 360))) fNil)) (fC (.int 5))) fNil)))) (gNm 6) fYes (fB dIx (fG F__law_acts fNil) (fB dMod (fG dInt (fCons (fW 6) fNil)) (fC (.int 6)))) [6])) fNil)))
  (fSeq (fSet 8 (fB dIx (fL (fGL dLst (fCons (fB dMod (fG dInt (fCons (fB dFdiv (fW 2) (fC (.int 1800))) fNil)) (fC (.int 12))) (fCons (fC (.int 2147483647)) (fCons (fB dAdd (fC (.int 99)) (fB dMod (fG dInt (fCons (fB dFdiv (fW 2) (fC (.int 1800))) fNil)) (fC (.int 3)))) fNil))))) (fB dMod (fG dInt (fCons (fB dFdiv (fW 2) (fC (.int 21600))) fNil)) (fC (.int 3)))))
  (fRet (fG dTup (fCons (fV 5) (fCons (fV 8) (fCons (fV 4) (fCons (fG dTuple (fCons (fW 3) fNil)) (fCons (fB dMod (fG dInt (fCons (fB dFdiv (fW 2) (fC (.int 64800))) fNil)) (fC (.int 9))) (fCons (fV 7) (fCons (fB dMod (fG dInt (fCons (fB dFdiv (fW 2) (fC (.int 583200))) fNil)) (fC (.int 5))) fNil))))))))))))))))))))
noncomputable def F__law_facts : List PyData → Option PyData := fDef 2 9 B__law_facts
theorem ok__law_facts (T : Txt K mg) : FnOk P w K mg base CX0 2 T.f__law_facts T.fd__law_facts ["script", "at"] (spF K F__law_facts) := fn_pure T.F__law_facts sc__law_facts rfl fun cdv A outer s H E hr =>
  (fss_cons (fs_set (i := 2) sc__law_facts.nd rfl (Or.inl rfl) (fp_abs (by rfl) T.z_abs (far_cons (FP.r (fp_call (ok__law_cell T) hr (by rfl) T.g__law_cell T.F__law_cell.kp T.b__law_cell pass0 (fa_cons (fp_var (pv 0)) (fa_cons (fp_var (pv 1)) fa_nil)))) far_nil)))
  (fss_cons (fs_setO (i := 3) sc__law_facts.nd rfl (Or.inl rfl) (fn_lst fa_nil))
  (fss_cons (fs_if (ft_cmp op_gt op2_gt (FP.r (fp_mod (FP.r (fp_int1 (by rfl) T.z_int (far_cons (fr_var (pv 2)) far_nil))) (FP.r fp_int))) (FP.r fp_int) (nomark _)) (fss_one (fs_append (pe_bm PySem.F.plainAttrs_list PySem.F.slot_list_append PySem.F.type_list_append mt_append (pv 3) (pa_cons (fp_ixQ (FP.r (fp_call0 (ok__law_kinds T) hr (by rfl) T.g__law_kinds T.F__law_kinds.kp T.b__law_kinds pass0)) (FP.r (fp_sub (FP.r (fp_mod (FP.r (fp_int1 (by rfl) T.z_int (far_cons (fr_var (pv 2)) far_nil))) (FP.r fp_int))) (FP.r fp_int))) (fun _ _ => rfl)) pa_nil)))) fss_nil)
  (fss_cons (fs_if (ft_cmp (op_eqQ (K := K) (hu4 hr)) op2_eq (FP.r (fp_band (FP.r (fp_int1 (by rfl) T.z_int (far_cons (FP.r (fp_fdiv (fr_var (pv 2)) (FP.r fp_int))) far_nil))) (FP.r fp_int))) (FP.r fp_int) (nomark _)) (fss_one (fs_append (pe_bm PySem.F.plainAttrs_list PySem.F.slot_list_append PySem.F.type_list_append mt_append (pv 3) (pa_cons fp_str pa_nil)))) fss_nil)
  (fss_cons (fs_if (ft_cmp (op_eqQ (K := K) (hu4 hr)) op2_eq (FP.r (fp_band (FP.r (fp_int1 (by rfl) T.z_int (far_cons (FP.r (fp_fdiv (fr_var (pv 2)) (FP.r fp_int))) far_nil))) (FP.r fp_int))) (FP.r fp_int) (nomark _)) (fss_one (fs_append (pe_bm PySem.F.plainAttrs_list PySem.F.slot_list_append PySem.F.type_list_append mt_append (pv 3) (pa_cons fp_str pa_nil)))) fss_nil)
  (fss_cons (fs_set (i := 4) sc__law_facts.nd rfl (Or.inl rfl) fp_str)
  (fss_cons (fs_if (ft_cmp op_gt op2_gt (FP.r (fp_len (by rfl) T.z_len (far_cons (fr_var (pv 3)) far_nil))) (FP.r fp_int) (nomark _)) (fss_one (fs_set (i := 4) sc__law_facts.nd rfl (Or.inl rfl) (fp_ixQ (fr_var (pv 3)) (FP.r fp_int) (fun _ _ => rfl)))) fss_nil)
  (fss_cons (fs_if (PW.pt (fw_and (ft_cmp (op_eqQ (K := K) (hu4 hr)) op2_eq (fr_var (pv 3)) (FP.r (FN.p (fn_lst (fa_cons fp_str (fa_cons fp_str fa_nil))))) (nomark _)) (fw_and1 (ft_cmp (op_eqQ (K := K) (hu4 hr)) op2_eq (FP.r (fp_band (FP.r (fp_int1 (by rfl) T.z_int (far_cons (FP.r (fp_fdiv (fr_var (pv 2)) (FP.r fp_int))) far_nil))) (FP.r fp_int))) (FP.r fp_int) (nomark _))))) (fss_one (fs_set (i := 4) sc__law_facts.nd rfl (Or.inl rfl) fp_str)) fss_nil)
  (fss_cons (fs_set (i := 5) sc__law_facts.nd rfl (Or.inl rfl) (fp_tuple (by rfl) T.z_tuple (far_cons (FP.r (FN.p (fn_lc (own := [("byte", 6)]) rfl sc__law_facts.nd (fir_seq (FP.r (fp_call (ok__law_row T) hr (by rfl) T.g__law_row T.F__law_row.kp T.b__law_row pass0 (fa_cons (fp_call (ok__law_cell T) hr (by rfl) T.g__law_cell T.F__law_cell.kp T.b__law_cell pass0 (fa_cons (fp_var (pv 0)) (fa_cons (fp_add (fr_var (pv 1)) (FP.r fp_int)) fa_nil))) (fa_cons (fp_mod (FP.r (fp_int1 (by rfl) T.z_int (far_cons (FP.r (fp_fdiv (fr_var (pv 2)) (FP.r fp_int))) far_nil))) (FP.r fp_int)) fa_nil))))) (blkOk_by (own := [("byte", 6)]) (N := ["script", "at", "cell", "kinds", "kind", "name", "byte", "acts", "size"]) (sc := defScope s__law_facts) (by decide +kernel)) (fun _ _ _ _ _ => (fg_name (pg_name (i := 6) sc__law_facts.nd rfl (Or.inl rfl)))) (fun _ _ _ _ _ => fts_nil) (fun _ _ _ _ _ => (fp_ixQ (FP.r (FN.p (fn_lst (fa_cons fp_int (fa_cons fp_int (fa_cons fp_int (fa_cons fp_int (fa_cons fp_int fa_nil)))))))) (FP.r (fp_mod (FP.r (fp_int1 (by rfl) T.z_int (far_cons (fr_var (pv 6)) far_nil))) (FP.r fp_int))) (fun _ _ => rfl))) rfl (by decide)))) far_nil)))
  (fss_cons (fs_set (i := 7) sc__law_facts.nd rfl (Or.inl rfl) (fp_tuple (by rfl) T.z_tuple (far_cons (FP.r (FN.p (fn_lc (own := [("byte", 6)]) rfl sc__law_facts.nd (fir_seq (FP.r (fp_call (ok__law_row T) hr (by rfl) T.g__law_row T.F__law_row.kp T.b__law_row pass0 (fa_cons (fp_call (ok__law_cell T) hr (by rfl) T.g__law_cell T.F__law_cell.kp T.b__law_cell pass0 (fa_cons (fp_var (pv 0)) (fa_cons (fp_add (fr_var (pv 1)) (FP.r fp_int)) fa_nil))) (fa_cons (fp_mod (FP.r (fp_int1 (by rfl) T.z_int (far_cons (FP.r (fp_fdiv (fr_var (pv 2)) (FP.r fp_int))) far_nil))) (FP.r fp_int)) fa_nil))))) (blkOk_by (own := [("byte", 6)]) (N := ["script", "at", "cell", "kinds", "kind", "name", "byte", "acts", "size"]) (sc := defScope s__law_facts) (by decide +kernel)) (fun _ _ _ _ _ => (fg_name (pg_name (i := 6) sc__law_facts.nd rfl (Or.inl rfl)))) (fun _ _ _ _ _ => fts_nil) (fun _ _ _ _ _ => (fp_ixQ (FP.r (fp_call0 (ok__law_acts T) hr (by rfl) T.g__law_acts T.F__law_acts.kp T.b__law_acts pass0)) (FP.r (fp_mod (FP.r (fp_int1 (by rfl) T.z_int (far_cons (fr_var (pv 6)) far_nil))) (FP.r fp_int))) (fun _ _ => rfl))) rfl (by decide)))) far_nil)))
  (fss_cons (fs_set (i := 8) sc__law_facts.nd rfl (Or.inl rfl) (fp_ixQ (FP.r (FN.p (fn_lst (fa_cons (fp_mod (FP.r (fp_int1 (by rfl) T.z_int (far_cons (FP.r (fp_fdiv (fr_var (pv 2)) (FP.r fp_int))) far_nil))) (FP.r fp_int)) (fa_cons fp_int (fa_cons (fp_add (FP.r fp_int) (FP.r (fp_mod (FP.r (fp_int1 (by rfl) T.z_int (far_cons (FP.r (fp_fdiv (fr_var (pv 2)) (FP.r fp_int))) far_nil))) (FP.r fp_int)))) fa_nil)))))) (FP.r (fp_mod (FP.r (fp_int1 (by rfl) T.z_int (far_cons (FP.r (fp_fdiv (fr_var (pv 2)) (FP.r fp_int))) far_nil))) (FP.r fp_int))) (fun _ _ => rfl)))
  (fss_one (fs_ret (fp_tup (fa_cons (fp_var (pv 5)) (fa_cons (fp_var (pv 8)) (fa_cons (fp_var (pv 4)) (fa_cons (fp_tuple (by rfl) T.z_tuple (far_cons (fr_var (pv 3)) far_nil)) (fa_cons (fp_mod (FP.r (fp_int1 (by rfl) T.z_int (far_cons (FP.r (fp_fdiv (fr_var (pv 2)) (FP.r fp_int))) far_nil))) (FP.r fp_int)) (fa_cons (fp_var (pv 7)) (fa_cons (fp_mod (FP.r (fp_int1 (by rfl) T.z_int (far_cons (FP.r (fp_fdiv (fr_var (pv 2)) (FP.r fp_int))) far_nil))) (FP.r fp_int)) fa_nil)))))))))))))))))))))
noncomputable def B__law_replaced : FSt → Option FOut :=
  (fSeq (fSet 2 (fB dMod (fG dInt (fCons (fW 1) fNil)) (fC (.int 7))))
  (fSeq (fSet 3 (fG dInt (fCons (fB dFdiv (fW 1) (fC (.int 7))) fNil)))
  (fSeq (fSetO 4 (fGL dListL (fCons (fW 0) fNil)))
  (fSeq (fSet 5 (fL (fGL dLst (fCons (fL (fGL dLst (fCons (fG dTup (fCons (fC (.int 256)) fNil)) (fCons (fG dTup (fCons (fU dNeg (fC (.int 1))) fNil)) (fCons (fL (fGL dLst (fCons (fC (.int 97)) fNil))) (fCons (fC (.str "a")) (fCons (fG dTup (fCons (fC (.bool true)) fNil)) (fCons (fG dTup fNil) fNil)))))))) (fCons (fL (fGL dLst (fCons (fU dNeg (fC (.int 1))) (fCons (fC (.int 2147483648)) (fCons (fC (.bool true)) (fCons (fC (.str "1")) (fCons (fC (.int 0)) fNil))))))) (fCons (fL (fGL dLst (fCons (fC (.str "folio")) (fCons (fC (.str "crate")) (fCons (fC (.str "")) (fCons (fC (.str "still")) (fCons (fC (.str "mail")) (fCons (fC .none) fNil)))))))) (fCons (fL (fGL dLst (fCons (fG dTup (fCons (fC (.str "crate")) (fCons (fC (.str "folio")) fNil))) (fCons (fG dTup (fCons (fC (.str "still")) (fCons (fC (.str "film")) fNil))) (fCons (fG dTup (fCons (fC (.str "folio")) (fCons (fC (.str "folio")) fNil))) (fCons (fG dTup (fCons (fC (.str "mail")) fNil)) (fCons (fL (fGL dLst (fCons (fC (.str "still")) fNil))) (fCons (fG dTup (fCons (fC (.str "film")) (fCons (fC (.str "crate")) fNil))) (fCons (fG dTup fNil) fNil))))))))) (fCons (fL (fGL dLst (fCons (fC (.int 9)) (fCons (fU dNeg (fC (.int 1))) (fCons (fC (.int 8)) (fCons (fC (.bool false)) (fCons (fC .none) fNil))))))) (fCons (fL (fGL dLst (fCons (fG dTup (fCons (fC (.str "script")) (fCons (fC (.str "link")) fNil))) (fCons (fG dTup (fCons (fC (.str "run")) fNil)) (fCons (fL (fGL dLst (fCons (fC (.str "open")) fNil))) (fCons (fG dTup (fCons (fC (.int 1)) fNil)) (fCons (fG dTup fNil) fNil))))))) (fCons (fL (fGL dLst (fCons (fC (.int 5)) (fCons (fU dNeg (fC (.int 1))) (fCons (fC (.int 4)) (fCons (fC (.bool true)) fNil)))))) fNil))))))))))
  (fSeq (fPut 4 (fV 2) (fB dIx (fB dIx (fW 5) (fW 2)) (fB dMod (fW 3) (fG dLen (fCons (fB dIx (fW 5) (fW 2)) fNil)))))
  (fRet (fG dTuple (fCons (fW 4) fNil))))))))
noncomputable def F__law_replaced : List PyData → Option PyData := fDef 2 6 B__law_replaced
theorem ok__law_replaced (T : Txt K mg) : FnOk P w K mg base CX0 1 T.f__law_replaced T.fd__law_replaced ["facts", "cell"] (spF K F__law_replaced) := fn_pure T.F__law_replaced sc__law_replaced rfl fun cdv A outer s H E hr =>
  (fss_cons (fs_set (i := 2) sc__law_replaced.nd rfl (Or.inl rfl) (fp_mod (FP.r (fp_int1 (by rfl) T.z_int (far_cons (fr_var (pv 1)) far_nil))) (FP.r fp_int)))
  (fss_cons (fs_set (i := 3) sc__law_replaced.nd rfl (Or.inl rfl) (fp_int1 (by rfl) T.z_int (far_cons (FP.r (fp_fdiv (fr_var (pv 1)) (FP.r fp_int))) far_nil)))
  (fss_cons (fs_setO (i := 4) sc__law_replaced.nd rfl (Or.inl rfl) (fn_list (by rfl) T.z_list (far_cons (fr_var (pv 0)) far_nil)))
  (fss_cons (fs_set (i := 5) sc__law_replaced.nd rfl (Or.inl rfl) (FN.p (fn_lst (fa_cons (FN.p (fn_lst (fa_cons (fp_tup (fa_cons fp_int fa_nil)) (fa_cons (fp_tup (fa_cons (fp_neg (FP.r fp_int)) fa_nil)) (fa_cons (FN.p (fn_lst (fa_cons fp_int fa_nil))) (fa_cons fp_str (fa_cons (fp_tup (fa_cons fp_bl fa_nil)) (fa_cons (fp_tup fa_nil) fa_nil)))))))) (fa_cons (FN.p (fn_lst (fa_cons (fp_neg (FP.r fp_int)) (fa_cons fp_int (fa_cons fp_bl (fa_cons fp_str (fa_cons fp_int fa_nil))))))) (fa_cons (FN.p (fn_lst (fa_cons fp_str (fa_cons fp_str (fa_cons fp_str (fa_cons fp_str (fa_cons fp_str (fa_cons fp_non fa_nil)))))))) (fa_cons (FN.p (fn_lst (fa_cons (fp_tup (fa_cons fp_str (fa_cons fp_str fa_nil))) (fa_cons (fp_tup (fa_cons fp_str (fa_cons fp_str fa_nil))) (fa_cons (fp_tup (fa_cons fp_str (fa_cons fp_str fa_nil))) (fa_cons (fp_tup (fa_cons fp_str fa_nil)) (fa_cons (FN.p (fn_lst (fa_cons fp_str fa_nil))) (fa_cons (fp_tup (fa_cons fp_str (fa_cons fp_str fa_nil))) (fa_cons (fp_tup fa_nil) fa_nil))))))))) (fa_cons (FN.p (fn_lst (fa_cons fp_int (fa_cons (fp_neg (FP.r fp_int)) (fa_cons fp_int (fa_cons fp_bl (fa_cons fp_non fa_nil))))))) (fa_cons (FN.p (fn_lst (fa_cons (fp_tup (fa_cons fp_str (fa_cons fp_str fa_nil))) (fa_cons (fp_tup (fa_cons fp_str fa_nil)) (fa_cons (FN.p (fn_lst (fa_cons fp_str fa_nil))) (fa_cons (fp_tup (fa_cons fp_int fa_nil)) (fa_cons (fp_tup fa_nil) fa_nil))))))) (fa_cons (FN.p (fn_lst (fa_cons fp_int (fa_cons (fp_neg (FP.r fp_int)) (fa_cons fp_int (fa_cons fp_bl fa_nil)))))) fa_nil))))))))))
  (fss_cons (fs_put (pv 4) (fp_var (pv 2)) (fp_ixQ (FP.r (fp_ixQ (fr_var (pv 5)) (fr_var (pv 2)) (fun _ _ => rfl))) (FP.r (fp_mod (fr_var (pv 3)) (FP.r (fp_len (by rfl) T.z_len (far_cons (FP.r (fp_ixQ (fr_var (pv 5)) (fr_var (pv 2)) (fun _ _ => rfl))) far_nil))))) (fun _ _ => rfl)))
  (fss_one (fs_ret (fp_tuple (by rfl) T.z_tuple (far_cons (fr_var (pv 4)) far_nil)))))))))
noncomputable def B__law_number : FSt → Option FOut :=
  (fRet (fAnd (fG F__law_is_integer (fCons (fV 0) fNil)) (fChain dLe dLe (fC (.int 0)) (fW 0) (fW 1))))
noncomputable def F__law_number : List PyData → Option PyData := fDef 2 2 B__law_number
theorem ok__law_number (T : Txt K mg) : FnOk P w K mg base CX0 2 T.f__law_number T.fd__law_number ["value", "most"] (spF K F__law_number) := fn_pure T.F__law_number sc__law_number rfl fun cdv A outer s H E hr =>
  (fss_one (fs_ret (fp_and (fp_call (ok__law_is_integer T) hr (by rfl) T.g__law_is_integer T.F__law_is_integer.kp T.b__law_is_integer pass0 (fa_cons (fp_var (pv 0)) fa_nil)) (fp_one (fp_chain op_le op2_le op_le op2_le (FP.r fp_int) (fr_var (pv 0)) (fr_var (pv 1)))))))
noncomputable def B__law_words : FSt → Option FOut :=
  (fSeq (fIfS (fTnot (fTb (fU (dIsi "tuple") (fW 0)))) (fRet (fC (.bool false))) fNext)
  (fSeq (fForget [2] (fFor (fIter (fV 0)) (gNm 2) (fPost [2] (fIfS (fTor (fTnot (fTb (fU (dIsi "str") (fW 2)))) (fTb (fB dNotIn (fW 2) (fW 1)))) (fRet (fC (.bool false))) fNext))))
  (fRet (fC (.bool true)))))
noncomputable def F__law_words : List PyData → Option PyData := fDef 2 3 B__law_words
theorem ok__law_words (T : Txt K mg) : FnOk P w K mg base CX0 1 T.f__law_words T.fd__law_words ["value", "words"] (spF K F__law_words) := fn_pure T.F__law_words sc__law_words rfl fun cdv A outer s H E hr =>
  (fss_cons (fs_if (ft_not (ft_val (fp_isi (by rfl) T.z_isinstance (fr_var (pv 0)) (pe_bltn (v := .ty "tuple") (u := .type "tuple") (by rfl) T.z_tuple (by decide +kernel) rfl)))) (fss_one (fs_ret fp_bl)) fss_nil)
  (fss_cons (fs_forget [2] (fs_for PassesOwn.never rfl (fi_seq (fp_var (pv 0))) (fg_name (pg_name (i := 2) sc__law_words.nd rfl (Or.inl rfl))) (fss_post [2] (fss_one (fs_if (PW.pt (fw_or (ft_not (ft_val (fp_isi (by rfl) T.z_isinstance (fr_var (pv 2)) (pe_bltn (v := .ty "str") (u := .type "str") (by rfl) T.z_str (by decide +kernel) rfl)))) (fw_or1 (ft_cmp (op_notInQ (K := K) (hu5 hr)) op2_notIn (fr_var (pv 2)) (fr_var (pv 1)) (by rfl))))) (fss_one (fs_ret fp_bl)) fss_nil)))))
  (fss_one (fs_ret fp_bl))))
noncomputable def B__law_kind_fits : FSt → Option FOut :=
  (fSeq (fIfS (fTor (fTnot (fTb (fG F__law_words (fCons (fV 1) (fCons (fG F__law_kinds fNil) fNil))))) (fTnot (fTb (fU (dIsi "str") (fW 0))))) (fRet (fC (.bool false))) fNext)
  (fSeq (fSet 2 (fL (fLc (fIter (fW 1)) (gNm 3) (fTb (fB dNotIn (fW 3) (fL (fGL dLst (fCons (fC (.str "folio")) (fCons (fC (.str "crate")) fNil)))))) (fV 3) [3])))
  (fSeq (fSet 4 (fL (fLc (fIter (fG F__law_kinds fNil)) (gNm 3) (fTb (fB dIn (fW 3) (fW 1))) (fV 3) [3])))
  (fSeq (fIfS (fTor (fTb (fB dNe (fL (fGL dListL (fCons (fW 1) fNil))) (fW 4))) (fTb (fB dGt (fG dLen (fCons (fW 2) fNil)) (fC (.int 1))))) (fRet (fC (.bool false))) fNext)
  (fSeq (fIfS (fTb (fB dEq (fG dLen (fCons (fW 2) fNil)) (fC (.int 1)))) (fRet (fB dEq (fW 0) (fB dIx (fW 2) (fC (.int 0))))) fNext)
  (fSeq (fIfS (fTb (fB dEq (fG dLen (fCons (fW 1) fNil)) (fC (.int 0)))) (fRet (fB dEq (fW 0) (fC (.str "")))) fNext)
  (fRet (fB dIn (fW 0) (fW 1)))))))))
noncomputable def F__law_kind_fits : List PyData → Option PyData := fDef 2 5 B__law_kind_fits
theorem ok__law_kind_fits (T : Txt K mg) : FnOk P w K mg base CX0 2 T.f__law_kind_fits T.fd__law_kind_fits ["kind", "kinds"] (spF K F__law_kind_fits) := fn_pure T.F__law_kind_fits sc__law_kind_fits rfl fun cdv A outer s H E hr =>
  (fss_cons (fs_if (PW.pt (fw_or (ft_not (ft_val (fp_call (ok__law_words T) hr (by rfl) T.g__law_words T.F__law_words.kp T.b__law_words pass0 (fa_cons (fp_var (pv 1)) (fa_cons (fp_call0 (ok__law_kinds T) hr (by rfl) T.g__law_kinds T.F__law_kinds.kp T.b__law_kinds pass0) fa_nil))))) (fw_or1 (ft_not (ft_val (fp_isi (by rfl) T.z_isinstance (fr_var (pv 0)) (pe_bltn (v := .ty "str") (u := .type "str") (by rfl) T.z_str (by decide +kernel) rfl))))))) (fss_one (fs_ret fp_bl)) fss_nil)
  (fss_cons (fs_setLc (i := 2) (own := [("word", 3)]) rfl sc__law_kind_fits.nd rfl rfl (sw_true rfl rfl rfl (by decide +kernel)) (fir_seq (fr_var (pv 1))) (blkOk_by (own := [("word", 3)]) (N := ["kind", "kinds", "single", "word", "due"]) (sc := defScope s__law_kind_fits) (by decide +kernel)) (fun _ _ _ _ _ => (fg_name (pg_name (i := 3) sc__law_kind_fits.nd rfl (Or.inl rfl)))) (fun _ _ _ _ _ => (fts_one (ft_cmp (op_notInQ (K := K) (hu5 hr)) op2_notIn (fr_var (pv 3)) (FP.r (FN.p (fn_lst (fa_cons fp_str (fa_cons fp_str fa_nil))))) (by rfl)))) (fun _ _ _ _ _ => (fp_var (pv 3))) rfl (by decide))
  (fss_cons (fs_setLc (i := 4) (own := [("word", 3)]) rfl sc__law_kind_fits.nd rfl rfl (sw_true rfl rfl rfl (by decide +kernel)) (fir_seq (FP.r (fp_call0 (ok__law_kinds T) hr (by rfl) T.g__law_kinds T.F__law_kinds.kp T.b__law_kinds pass0))) (blkOk_by (own := [("word", 3)]) (N := ["kind", "kinds", "single", "word", "due"]) (sc := defScope s__law_kind_fits) (by decide +kernel)) (fun _ _ _ _ _ => (fg_name (pg_name (i := 3) sc__law_kind_fits.nd rfl (Or.inl rfl)))) (fun _ _ _ _ _ => (fts_one (ft_cmp (op_inQ (K := K) (hu5 hr)) op2_in (fr_var (pv 3)) (fr_var (pv 1)) (by rfl)))) (fun _ _ _ _ _ => (fp_var (pv 3))) rfl (by decide))
  (fss_cons (fs_if (PW.pt (fw_or (ft_cmp (op_neQ (K := K) (hu4 hr)) op2_ne (FP.r (FN.p (fn_list (by rfl) T.z_list (far_cons (fr_var (pv 1)) far_nil)))) (fr_var (pv 4)) (nomark _)) (fw_or1 (ft_cmp op_gt op2_gt (FP.r (fp_len (by rfl) T.z_len (far_cons (fr_var (pv 2)) far_nil))) (FP.r fp_int) (nomark _))))) (fss_one (fs_ret fp_bl)) fss_nil)
  (fss_cons (fs_if (ft_cmp (op_eqQ (K := K) (hu4 hr)) op2_eq (FP.r (fp_len (by rfl) T.z_len (far_cons (fr_var (pv 2)) far_nil))) (FP.r fp_int) (nomark _)) (fss_one (fs_ret (fp_cmp (op_eqQ (K := K) (hu4 hr)) op2_eq (fr_var (pv 0)) (FP.r (fp_ixQ (fr_var (pv 2)) (FP.r fp_int) (fun _ _ => rfl))) (nomark _)))) fss_nil)
  (fss_cons (fs_if (ft_cmp (op_eqQ (K := K) (hu4 hr)) op2_eq (FP.r (fp_len (by rfl) T.z_len (far_cons (fr_var (pv 1)) far_nil))) (FP.r fp_int) (nomark _)) (fss_one (fs_ret (fp_cmp (op_eqQ (K := K) (hu4 hr)) op2_eq (fr_var (pv 0)) (FP.r fp_str) (nomark _)))) fss_nil)
  (fss_one (fs_ret (fp_cmp (op_inQ (K := K) (hu5 hr)) op2_in (fr_var (pv 0)) (fr_var (pv 1)) (by rfl))))))))))
noncomputable def B__law_due : FSt → Option FOut :=
  (fSeq (fIfS (fTor (fTnot (fTb (fU (dIsi "tuple") (fW 0)))) (fTb (fB dNe (fG dLen (fCons (fW 0) fNil)) (fC (.int 7))))) (fRet (fC (.bool false))) fNext)
  (fSeq (fIfS (fTor (fTnot (fTb (fU (dIsi "tuple") (fB dIx (fW 0) (fC (.int 0)))))) (fTb (fB dGt (fG dLen (fCons (fL (fLc (fIter (fB dIx (fW 0) (fC (.int 0)))) (gNm 1) (fTnot (fTb (fG F__law_number (fCons (fV 1) (fCons (fC (.int 255)) fNil))))) (fV 1) [1])) fNil)) (fC (.int 0))))) (fRet (fC (.bool false))) fNext)
  (fSeq (fIfS (fTor (fTnot (fTb (fG F__law_number (fCons (fB dIx (fW 0) (fC (.int 1))) (fCons (fC (.int 2147483647)) fNil))))) (fTor (fTnot (fTb (fG F__law_number (fCons (fB dIx (fW 0) (fC (.int 4))) (fCons (fC (.int 8)) fNil))))) (fTnot (fTb (fG F__law_number (fCons (fB dIx (fW 0) (fC (.int 6))) (fCons (fC (.int 4)) fNil))))))) (fRet (fC (.bool false))) fNext)
  (fRet (fAnd (fG F__law_kind_fits (fCons (fB dIx (fW 0) (fC (.int 2))) (fCons (fB dIx (fW 0) (fC (.int 3))) fNil))) (fG F__law_words (fCons (fB dIx (fW 0) (fC (.int 5))) (fCons (fG F__law_acts fNil) fNil))))))))
noncomputable def F__law_due : List PyData → Option PyData := fDef 1 2 B__law_due
theorem ok__law_due (T : Txt K mg) : FnOk P w K mg base CX0 3 T.f__law_due T.fd__law_due ["value"] (spF K F__law_due) := fn_pure T.F__law_due sc__law_due rfl fun cdv A outer s H E hr =>
  (fss_cons (fs_if (PW.pt (fw_or (ft_not (ft_val (fp_isi (by rfl) T.z_isinstance (fr_var (pv 0)) (pe_bltn (v := .ty "tuple") (u := .type "tuple") (by rfl) T.z_tuple (by decide +kernel) rfl)))) (fw_or1 (ft_cmp (op_neQ (K := K) (hu4 hr)) op2_ne (FP.r (fp_len (by rfl) T.z_len (far_cons (fr_var (pv 0)) far_nil))) (FP.r fp_int) (nomark _))))) (fss_one (fs_ret fp_bl)) fss_nil)
  (fss_cons (fs_if (PW.pt (fw_or (ft_not (ft_val (fp_isi (by rfl) T.z_isinstance (FP.r (fp_ixQ (fr_var (pv 0)) (FP.r fp_int) (fun _ _ => rfl))) (pe_bltn (v := .ty "tuple") (u := .type "tuple") (by rfl) T.z_tuple (by decide +kernel) rfl)))) (fw_or1 (ft_cmp op_gt op2_gt (FP.r (fp_len (by rfl) T.z_len (far_cons (FP.r (FN.p (fn_lc (own := [("byte", 1)]) rfl sc__law_due.nd (fir_seq (FP.r (fp_ixQ (fr_var (pv 0)) (FP.r fp_int) (fun _ _ => rfl)))) (blkOk_by (own := [("byte", 1)]) (N := ["value", "byte"]) (sc := defScope s__law_due) (by decide +kernel)) (fun _ _ _ _ _ => (fg_name (pg_name (i := 1) sc__law_due.nd rfl (Or.inl rfl)))) (fun _ _ _ _ _ => (fts_one (ft_not (ft_val (fp_call (ok__law_number T) hr (by rfl) T.g__law_number T.F__law_number.kp T.b__law_number pass0 (fa_cons (fp_var (pv 1)) (fa_cons fp_int fa_nil))))))) (fun _ _ _ _ _ => (fp_var (pv 1))) rfl (by decide)))) far_nil))) (FP.r fp_int) (nomark _))))) (fss_one (fs_ret fp_bl)) fss_nil)
  (fss_cons (fs_if (PW.pt (fw_or (ft_not (ft_val (fp_call (ok__law_number T) hr (by rfl) T.g__law_number T.F__law_number.kp T.b__law_number pass0 (fa_cons (fp_ixQ (fr_var (pv 0)) (FP.r fp_int) (fun _ _ => rfl)) (fa_cons fp_int fa_nil))))) (fw_or (ft_not (ft_val (fp_call (ok__law_number T) hr (by rfl) T.g__law_number T.F__law_number.kp T.b__law_number pass0 (fa_cons (fp_ixQ (fr_var (pv 0)) (FP.r fp_int) (fun _ _ => rfl)) (fa_cons fp_int fa_nil))))) (fw_or1 (ft_not (ft_val (fp_call (ok__law_number T) hr (by rfl) T.g__law_number T.F__law_number.kp T.b__law_number pass0 (fa_cons (fp_ixQ (fr_var (pv 0)) (FP.r fp_int) (fun _ _ => rfl)) (fa_cons fp_int fa_nil))))))))) (fss_one (fs_ret fp_bl)) fss_nil)
  (fss_one (fs_ret (fp_and (fp_call (ok__law_kind_fits T) hr (by rfl) T.g__law_kind_fits T.F__law_kind_fits.kp T.b__law_kind_fits pass0 (fa_cons (fp_ixQ (fr_var (pv 0)) (FP.r fp_int) (fun _ _ => rfl)) (fa_cons (fp_ixQ (fr_var (pv 0)) (FP.r fp_int) (fun _ _ => rfl)) fa_nil))) (fp_one (fp_call (ok__law_words T) (hr.mono (by decide)) (by rfl) T.g__law_words T.F__law_words.kp T.b__law_words pass0 (fa_cons (fp_ixQ (fr_var (pv 0)) (FP.r fp_int) (fun _ _ => rfl)) (fa_cons (fp_call0 (ok__law_acts T) (hr.mono (by decide)) (by rfl) T.g__law_acts T.F__law_acts.kp T.b__law_acts pass0) fa_nil))))))))))
noncomputable def B_law : FSt → Option FOut :=
  (fSeq (fSet 1 (fG F__law_facts (fCons (fV 0) (fCons (fC (.int 0)) fNil))))
  (fSeq (fIfS (fTor (fTb (fB dIsNot (fG F_is_sound (fCons (fV 1) fNil)) (fC (.bool true)))) (fTnot (fTb (fG F__law_due (fCons (fV 1) fNil))))) (fRet (fC (.bool false))) fNext)
  (fSeq (fSetO 2 (fLc (fGL dRng1 (fCons (fC (.int 3)) fNil)) (gNm 3) fYes (fG F__law_replaced (fCons (fV 1) (fCons (fG dAbs (fCons (fG F__law_cell (fCons (fV 0) (fCons (fB dAdd (fC (.int 3)) (fW 3)) fNil))) fNil)) fNil))) [3]))
  (fSeq (fOwn 2 gApp (fG F__law_replaced (fCons (fB dIx (fW 2) (fC (.int 0))) (fCons (fG dAbs (fCons (fG F__law_cell (fCons (fV 0) (fCons (fC (.int 6)) fNil))) fNil)) fNil))))
  (fSeq (fSetO 2 (fBL dCatL (fW 2) (fL (fGL dLst (fCons (fL (fGL dListL (fCons (fW 1) fNil))) (fCons (fB dAdd (fW 1) (fG dTup (fCons (fC (.int 0)) fNil))) (fCons (fSl dSl (fW 1) fNoPart (fPart (fC (.int 6)))) (fCons (fC .none) (fCons (fC (.str "facts")) (fCons (fG dTup fNil) fNil))))))))))
  (fSeq (fFrz 2 (fForget [4, 5] (fFor (fIter (fV 2)) (gNm 4) (fPost [4, 5] (fSeq (fSet 5 (fG F_is_sound (fCons (fV 4) fNil)))
  (fIfS (fTor (fTand (fTb (fB dIsNot (fW 5) (fC (.bool true)))) (fTb (fB dIsNot (fW 5) (fC (.bool false))))) (fTb (fB dNe (fW 5) (fG F__law_due (fCons (fV 4) fNil))))) (fRet (fC (.bool false))) fNext))))))
  (fRet (fC (.bool true)))))))))
noncomputable def F_law : List PyData → Option PyData := fDef 1 6 B_law
theorem ok_law {f : Addr} {fd : FuncData} (F : Fun K "law" "law" s_law f fd) (T : Txt K mg) : FnOk P w K mg base CX0 4 f fd ["script"] (spF K F_law) := fn_pure F sc_law rfl fun cdv A outer s H E hr =>
  (fss_cons (fs_set (i := 1) sc_law.nd rfl (Or.inr rfl) (fp_call (ok__law_facts T) (hr.mono (by decide)) (by rfl) T.g__law_facts T.F__law_facts.kp T.b__law_facts pass0 (fa_cons (fp_var (pv 0)) (fa_cons fp_int fa_nil))))
  (fss_cons (fs_if (PW.pt (fw_or (ft_cmp op_isNotQ op2_isNot (FP.r (fp_call (ok_is_sound T) hr (by rfl) T.g_is_sound T.F_is_sound.kp T.b_is_sound pass0 (fa_cons (fp_var (pv 1)) fa_nil))) (FP.r fp_bl) (nomark _)) (fw_or1 (ft_not (ft_val (fp_call (ok__law_due T) hr (by rfl) T.g__law_due T.F__law_due.kp T.b__law_due pass0 (fa_cons (fp_var (pv 1)) fa_nil))))))) (fss_one (fs_ret fp_bl)) fss_nil)
  (fss_cons (fs_setLcO (i := 2) (own := [("k", 3)]) rfl sc_law.nd rfl rfl (sw_true rfl rfl rfl (by decide +kernel)) (fir_range1 (by rfl) T.z_range (fa_cons fp_int fa_nil)) (blkOk_by (own := [("k", 3)]) (N := ["script", "facts", "values", "k", "value", "found"]) (sc := defScope s_law) (by decide +kernel)) (fun _ _ _ _ _ => (fg_name (pg_name (i := 3) sc_law.nd rfl (Or.inl rfl)))) (fun _ _ _ _ _ => fts_nil) (fun _ _ _ _ _ => (fp_call (ok__law_replaced T) (hr.mono (by decide)) (by rfl) T.g__law_replaced T.F__law_replaced.kp T.b__law_replaced pass0 (fa_cons (fp_var (pv 1)) (fa_cons (fp_abs (by rfl) T.z_abs (far_cons (FP.r (fp_call (ok__law_cell T) (hr.mono (by decide)) (by rfl) T.g__law_cell T.F__law_cell.kp T.b__law_cell pass0 (fa_cons (fp_var (pv 0)) (fa_cons (fp_add (FP.r fp_int) (fr_var (pv 3))) fa_nil)))) far_nil)) fa_nil)))) rfl (by decide))
  (fss_cons (fs_append (pe_bm PySem.F.plainAttrs_list PySem.F.slot_list_append PySem.F.type_list_append mt_append (pv 2) (pa_cons (fp_call (ok__law_replaced T) (hr.mono (by decide)) (by rfl) T.g__law_replaced T.F__law_replaced.kp T.b__law_replaced pass0 (fa_cons (fp_ixQ (fr_var (pv 2)) (FP.r fp_int) (fun _ _ => rfl)) (fa_cons (fp_abs (by rfl) T.z_abs (far_cons (FP.r (fp_call (ok__law_cell T) (hr.mono (by decide)) (by rfl) T.g__law_cell T.F__law_cell.kp T.b__law_cell pass0 (fa_cons (fp_var (pv 0)) (fa_cons fp_int fa_nil)))) far_nil)) fa_nil))) pa_nil)))
  (fss_cons (fs_setO (i := 2) sc_law.nd rfl (Or.inl rfl) (fn_add (fr_var (pv 2)) (FP.r (FN.p (fn_lst (fa_cons (FN.p (fn_list (by rfl) T.z_list (far_cons (fr_var (pv 1)) far_nil))) (fa_cons (fp_add (fr_var (pv 1)) (FP.r (fp_tup (fa_cons fp_int fa_nil)))) (fa_cons (fp_slQ (fr_var (pv 1)) fo_none (fo_some fp_int)) (fa_cons fp_non (fa_cons fp_str (fa_cons (fp_tup fa_nil) fa_nil)))))))))))
  (fss_cons (fs_frz 2 (fs_forget [4, 5] (fs_for PassesOwn.never rfl (fi_seq (fp_var (pv 2))) (fg_name (pg_name (i := 4) sc_law.nd rfl (Or.inl rfl))) (fss_post [4, 5] (fss_cons (fs_set (i := 5) sc_law.nd rfl (Or.inl rfl) (fp_call (ok_is_sound T) hr (by rfl) T.g_is_sound T.F_is_sound.kp T.b_is_sound pass0 (fa_cons (fp_var (pv 4)) fa_nil)))
  (fss_one (fs_if (PW.pt (fw_or (PW.pt (fw_and (ft_cmp op_isNotQ op2_isNot (fr_var (pv 5)) (FP.r fp_bl) (nomark _)) (fw_and1 (ft_cmp op_isNotQ op2_isNot (fr_var (pv 5)) (FP.r fp_bl) (nomark _))))) (fw_or1 (ft_cmp (op_neQ (K := K) (hu4 hr)) op2_ne (fr_var (pv 5)) (FP.r (fp_call (ok__law_due T) hr (by rfl) T.g__law_due T.F__law_due.kp T.b__law_due pass0 (fa_cons (fp_var (pv 4)) fa_nil))) (nomark _))))) (fss_one (fs_ret fp_bl)) fss_nil)))))))
  (fss_one (fs_ret fp_bl))))))))
def spLaw (K : PySem.W.Frag) : Sp := fun vs H Q _ => ∃ (a : Addr) (ns : List Int), vs = [.ref a] ∧ SqL K H a (ns.map V.int) ∧ ns.length ≤ 63 ∧ ∀ H', Q (.bl true) H'

theorem ok_law_of {f : Addr} {fd : FuncData} (F : Fun K "law" "law" s_law f fd) (T : Txt K mg) (h : ∀ ns : List Int, ns.length ≤ 63 → F_law [scrD ns] = some (.bool true)) : FnOk P w K mg base CX0 4 f fd ["script"] (spLaw K) := law_of (ok_law F T) h

end

end
def fromB (lo hi : Int) : PyData → Bool
  | .int i => decide (lo ≤ i) && decide (i ≤ hi)
  | _ => false
theorem F_from (d : PyData) (lo hi : Int) : F_is_integer_from [d, .int lo, .int hi] = some (.bool (fromB lo hi d)) := by
  cases d <;> walk_at "f is_integer_from" <;> rfl
/-- a value of seven parts, or any other -/
def byteT : PyData → Bool
  | .tuple xs => xs.all (fromB 0 255)
  | _ => false
def Short (d : PyData) : Prop := ∀ xs, d = .tuple xs → xs.length ≤ 1000000
theorem F_byteT {d : PyData} (h : Short d) : F_is_byte_tuple [d] = some (.bool (byteT d)) := by
  cases d with
  | tuple xs =>
    have hl : xs.length ≤ 2000000 := Nat.le_trans (h xs rfl) (by decide)
    walk_at "f is_byte_tuple"
    rw [lcD_bools (p := fromB 0 255) (fun x hx => by walk_at "e F_from")]
    walk_at "e dLst_eq List.length_map hl"
    rw [List.all_map]
    rfl
  | _ => walk_at "f is_byte_tuple"; rfl
def tupN (n : Int) : PyData → Bool
  | .tuple xs => decide ((xs.length : Int) = n)
  | _ => false
theorem F_tupN (d : PyData) (n : Int) : F_is_tuple_of [d, .int n] = some (.bool (tupN n d)) := by
  cases d <;> walk_at "f is_tuple_of" <;> rfl
def kindsS : List Str := ["still", "picture", "film", "sheet", "folio", "crate"]
def actsS : List Str := ["open", "file", "link", "form", "fetch", "script"]
theorem kinds_ok : ∀ s ∈ kindsS, PyData.strOk s = true := by decide +kernel
theorem acts_ok : ∀ s ∈ actsS, PyData.strOk s = true := by decide +kernel
theorem c_kinds : c_KINDS = .tuple (kindsS.map .str) := rfl
theorem c_acts : c_ACT_KINDS = .tuple (actsS.map .str) := rfl
theorem dIn_kinds {d : PyData} (h : SeqAt.shaped d = true) : dIn d c_KINDS = some (.bool (inS d kindsS)) := dIn_ts h kinds_ok
theorem dIn_acts {d : PyData} (h : SeqAt.shaped d = true) : dIn d c_ACT_KINDS = some (.bool (inS d actsS)) := dIn_ts h acts_ok
/-- a tuple of some words -/
def wordsT (ss : List Str) : PyData → Bool
  | .tuple xs => xs.all fun x => inS x ss
  | _ => false
/-- the place of a kind -/
def plD : PyData → Int
  | .str s => ((kindsS.idxOf s : Nat) : Int)
  | _ => 0
theorem dIndex_kinds {d : PyData} (h : inS d kindsS = true) : dIndexT c_KINDS d = some (.int (plD d)) := by
  cases d with
  | str s =>
    have hm : s ∈ kindsS := of_decide_eq_true h
    rw [c_kinds, dIndexT_ts, if_pos hm]
    rfl
  | _ => cases h
def ascI : List Int → Bool
  | a :: b :: r => decide (a < b) && ascI (b :: r)
  | _ => true
theorem asc_zip : ∀ ps : List Int, ((ps.zip (ps.drop 1)).map fun p => decide (p.1 < p.2)).all id = ascI ps
  | [] => rfl
  | [_] => rfl
  | a :: b :: r => by
    have := asc_zip (b :: r)
    rw [ascI, ← this]
    rfl
def kindsD (d : PyData) : Bool := match d with
  | .tuple xs => (xs.all fun x => inS x kindsS) && (ascI (xs.map plD) && decide (((xs.map plD).filter fun n => decide (n < 4)).length ≤ 1))
  | _ => false
theorem F_kinds {d : PyData} (h : Short d) (hs : SeqAt.shaped d = true) : F__are_kinds [d] = some (.bool (kindsD d)) := by
  cases d with
  | tuple xs =>
    have hl : xs.length ≤ 2000000 := Nat.le_trans (h xs rfl) (by decide)
    have hx := sh_cont (n := 0) (.inl hs)
    walk_at "f _are_kinds"
    rw [lcD_bools (p := fun x => inS x kindsS) (fun x hm => by walk_at "e"; rw [dIn_kinds (hx x hm)]; rfl)]
    walk_at "e dLst_eq List.length_map hl"
    rw [List.all_map, show (id ∘ fun x => inS x kindsS) = fun x => inS x kindsS from rfl]
    show _ = some (PyData.bool ((xs.all fun x => inS x kindsS) && _))
    cases ha : xs.all fun x => inS x kindsS
    · rfl
    walk_at "e"
    rw [lcD_ints (p := plD) (fun x hm => by walk_at "e"; rw [dIndex_kinds (List.all_eq_true.mp ha x hm)]; rfl)]
    walk_at "e dLst_eq List.length_map hl"
    rw [← List.map_drop, pairD_map, lcD_boolsA (p := fun p : Int × Int => decide (p.1 < p.2)) (fun x hm => by walk_at "e")]
    have hz : ((xs.map plD).zip ((xs.map plD).drop 1)).length ≤ 2000000 := by rw [List.length_zip, List.length_map]; omega
    walk_at "e dLst_eq List.length_map hz"
    rw [asc_zip]
    cases hasc : ascI (xs.map plD)
    · rfl
    walk_at "e"
    rw [lcD_filter (p := fun n : Int => decide (n < 4)) (h := fun n => .int n) (fun x hm => by walk_at "e")]
    have hf : ((xs.map plD).filter fun n => decide (n < 4)).length ≤ 2000000 := Nat.le_trans (List.length_filter_le _ _) (by rw [List.length_map]; exact hl)
    walk_at "e dLst_eq List.length_map hf"
    congr 2
    exact decide_eq_decide.mpr (by omega)
  | _ => walk_at "f _are_kinds"; rfl

def pcD : List PyData → List PyData
  | [] => [.str ""]
  | k :: r => if inS k (kindsS.take 4) = true then [k] else k :: r
theorem kinds4_ok : ∀ s ∈ kindsS.take 4, PyData.strOk s = true := by decide +kernel
theorem F_pc {ks : List PyData} (h : ∀ k ∈ ks, SeqAt.shaped k = true) : F_possible_choices [.tuple ks] = some (.tuple (pcD ks)) := by
  cases ks with
  | nil => walk_at "f possible_choices"; rfl
  | cons k r =>
    walk_at "f possible_choices | c_kinds"
    rw [if_neg (by rw [decide_eq_true_iff]; omega)]
    walk_at "e c_kinds"
    rw [← List.map_take, dIn_ts (h k (List.mem_cons_self ..)) kinds4_ok]
    walk_at "e"
    show _ = some (PyData.tuple (if _ then _ else _))
    cases inS k (kindsS.take 4) <;> rfl
def kindIn (kinds kind : PyData) : Bool := match kinds with
  | .tuple ks => (pcD ks).any fun z => PyData.eqv z kind
  | _ => false
def soundL (name size kind kinds pages acts depth : PyData) : Bool :=
  byteT name && (fromB 0 2147483647 size && (fromB 0 8 pages && (fromB 0 4 depth && (wordsT actsS acts && (kindsD kinds && kindIn kinds kind)))))
def soundD : PyData → Bool
  | .tuple [name, size, kind, kinds, pages, acts, depth] => soundL name size kind kinds pages acts depth
  | _ => false
/-- laid out, not too long -/
structure Gd (d : PyData) : Prop where
  sh : SeqAt.shaped d = true
  wd : wid 1000 d = true
theorem Gd.mem {xs : List PyData} (h : Gd (.tuple xs)) : ∀ x ∈ xs, Gd x := fun x hx => by
  refine ⟨sh_cont (n := 0) (.inl h.sh) x hx, ?_⟩
  have := h.wd
  rw [wid, Bool.and_eq_true] at this
  exact widAll_iff.mp this.2 x hx
theorem Gd.short {d : PyData} (h : Gd d) : Short d := fun xs e => by
  subst e
  have := h.wd
  rw [wid, Bool.and_eq_true, decide_eq_true_iff] at this
  omega
theorem pcD_sh {ks : List PyData} (h : ∀ k ∈ ks, SeqAt.shaped k = true) (hd : SeqAt.shaped (.tuple ks) = true) : SeqAt.shaped (.tuple (pcD ks)) = true := by
  cases ks with
  | nil => decide +kernel
  | cons k r =>
    show SeqAt.shaped (.tuple (if _ then _ else _)) = true
    split
    · have hk := hd
      unfold SeqAt.shaped at hk ⊢
      rw [Bool.and_eq_true, decide_eq_true_iff] at hk ⊢
      rw [PyData.canLay0, PyData.canLayAll0, Bool.and_eq_true, PyData.depth, PyData.depthAll] at hk
      rw [PyData.canLay0, PyData.canLayAll0, PyData.canLayAll0, hk.1.1, PyData.depth, PyData.depthAll, PyData.depthAll]
      refine ⟨rfl, ?_⟩
      have := hk.2
      omega
    · exact hd
theorem F_sound7 {name size kind kinds pages acts depth : PyData} (h : Gd (.tuple [name, size, kind, kinds, pages, acts, depth])) : F_is_sound [.tuple [name, size, kind, kinds, pages, acts, depth]] = some (.bool (soundL name size kind kinds pages acts depth)) := by
  have g1 : Gd name := h.mem _ (by simp)
  have g3 : Gd kind := h.mem _ (by simp)
  have g4 : Gd kinds := h.mem _ (by simp)
  have g6 : Gd acts := h.mem _ (by simp)
  walk_at "f is_sound"
  walk_at "e F_tupN tupN F_from"
  rw [F_byteT g1.short]
  walk_at "e"
  unfold soundL
  cases byteT name
  · walk_at "e"
  cases fromB 0 2147483647 size
  · walk_at "e"
  walk_at "e F_from"
  cases fromB 0 8 pages
  · walk_at "e"
  cases fromB 0 4 depth
  · walk_at "e"
  walk_at "e"
  have tailE : (F__are_kinds [kinds]).bind (fun y => andK y ((F_possible_choices [kinds]).bind fun y => dIn kind y)) = some (.bool (kindsD kinds && kindIn kinds kind)) := by
    rw [F_kinds g4.short g4.sh]
    walk_at "e"
    cases hk : kindsD kinds
    · walk_at "e"
    walk_at "e"
    cases kinds with
    | tuple ks =>
      have hx := sh_cont (n := 0) (.inl g4.sh)
      rw [F_pc hx]
      walk_at "e"
      show (if _ then _ else _) = _
      rw [if_pos ⟨g3.sh, pcD_sh hx g4.sh⟩]
      rfl
    | _ => cases hk
  generalize (kindsD kinds && kindIn kinds kind) = kk at tailE ⊢
  cases acts with
  | tuple xs =>
    have hl : xs.length ≤ 2000000 := Nat.le_trans (g6.short xs rfl) (by decide)
    have hx := sh_cont (n := 0) (.inl g6.sh)
    walk_at "e"
    rw [lcD_bools (p := fun x => inS x actsS) (fun x hm => by walk_at "e"; rw [dIn_acts (hx x hm)]; rfl)]
    walk_at "e dLst_eq List.length_map hl"
    rw [List.all_map, show (id ∘ fun x => inS x actsS) = fun x => inS x actsS from rfl]
    show _ = some (PyData.bool ((xs.all fun x => inS x actsS) && kk))
    cases xs.all fun x => inS x actsS
    · walk_at "e"
    walk_at "e tailE"
  | _ => walk_at "e"; rfl

/-! the law's own finding -/
theorem F_number (d : PyData) (n : Int) : F__law_number [d, .int n] = some (.bool (fromB 0 n d)) := by
  cases d <;> walk_at "f _law_number _law_is_integer" <;> rfl
theorem F_kindsL : F__law_kinds [] = some (.list (kindsS.map .str)) := by walk_at "f _law_kinds"; rfl
theorem F_actsL : F__law_acts [] = some (.list (actsS.map .str)) := by walk_at "f _law_acts"; rfl
theorem dNotIn_ls {d : PyData} {ss : List Str} (h : SeqAt.shaped d = true) (hs : ∀ s ∈ ss, PyData.strOk s = true) : dNotIn d (.list (ss.map PyData.str)) = some (.bool (!inS d ss)) := by
  unfold dNotIn
  rw [dIn_ls h hs]
  rfl
theorem F_words {d : PyData} {ss : List Str} (h : Gd d) (hs : ∀ s ∈ ss, PyData.strOk s = true) : F__law_words [d, .list (ss.map .str)] = some (.bool (wordsT ss d)) := by
  cases d with
  | tuple xs =>
    have hx := h.mem
    walk_at "f _law_words"
    have := forF_find (g := gNm 2) (b := fPost [2] (fIfS (fTor (fTnot (fTb (fU (dIsi "str") (fW 2)))) (fTb (fB dNotIn (fW 2) (fW 1)))) (fRet (fC (.bool false))) fNext)) (st := [.fz (.tuple xs), .fz (.list (ss.map .str)), .un]) (cv := id) (p := fun x => !inS x ss) (d := fun _ => .bool false) (xs := xs) fun x hm => ?_
    · rw [List.map_id] at this
      rw [this]
      show _ = some (PyData.bool (xs.all fun x => inS x ss))
      cases hf : xs.find? fun x => !inS x ss with
      | none =>
        rw [List.find?_eq_none] at hf
        rw [List.all_eq_true.mpr (fun x hx => by simpa using hf x hx)]
        walk_at "e"
      | some y =>
        have h1 := List.find?_some hf
        have h2 := List.mem_of_find?_eq_some hf
        have : (xs.all fun x => inS x ss) = false := by
          rw [List.all_eq_false]
          exact ⟨y, h2, by simpa using h1⟩
        rw [this]
        walk_at "e"
    · walk_at "e id"
      rw [dNotIn_ls (hx x hm).sh hs]
      cases x with
      | str s => walk_at "e"
      | _ => walk_at "e"; rfl
  | _ => walk_at "f _law_words"; rfl
def looseS : List Str := ["folio", "crate"]
theorem loose_ok : ∀ s ∈ looseS, PyData.strOk s = true := by decide +kernel
def fitsS (k : Str) (ss : List Str) : Bool :=
  let single := ss.filter fun s => !decide (s ∈ looseS)
  let due := kindsS.filter fun s => decide (s ∈ ss)
  if ss ≠ due ∨ 1 < single.length then false
  else if single.length = 1 then decide (single.head? = some k)
  else if ss.length = 0 then decide (k = "")
  else decide (k ∈ ss)
theorem words_strs {xs : List PyData} {ss : List Str} (h : wordsT ss (.tuple xs) = true) : ∃ zs : List Str, xs = zs.map .str ∧ ∀ z ∈ zs, z ∈ ss := by
  have h : (xs.all fun x => inS x ss) = true := h
  rename_i h0
  clear h0
  induction xs with
  | nil => exact ⟨[], rfl, fun _ z => (nomatch z)⟩
  | cons x r ih =>
    rw [List.all_cons, Bool.and_eq_true] at h
    obtain ⟨zs, rfl, hz⟩ := ih h.2
    cases x with
    | str s => exact ⟨s :: zs, rfl, fun z hm => (List.mem_cons.mp hm).elim (fun e => by rw [e]; exact of_decide_eq_true h.1) (hz z)⟩
    | _ => cases h.1
def fitsD (kind kinds : PyData) : Bool := match kind, kinds with
  | .str k, .tuple xs => wordsT kindsS (.tuple xs) && fitsS k ((strsOf xs).getD [])
  | _, _ => false
theorem str_shaped {s : Str} (h : PyData.strOk s = true) : SeqAt.shaped (.str s) = true := (sh_str 0 h).s64
theorem dNe_sl {a b : List Str} (ha : ∀ s ∈ a, PyData.strOk s = true) (hb : ∀ s ∈ b, PyData.strOk s = true) : dNe (.list (a.map .str)) (.list (b.map .str)) = some (.bool (!decide (a = b))) := by
  rw [dNe_sh (strs_shT ha).2 (strs_shT hb).2, eqv_ll eqv_ss]
theorem F_fits {kind kinds : PyData} (h1 : Gd kind) (h2 : Gd kinds) : F__law_kind_fits [kind, kinds] = some (.bool (fitsD kind kinds)) := by
  walk_at "f _law_kind_fits | F_kindsL"
  rw [F_words h2 kinds_ok]
  walk_at "e"
  cases hw : wordsT kindsS kinds
  · walk_at "e"
    cases kind <;> first | rfl | (cases kinds <;> first | rfl | (show _ = some (PyData.bool (wordsT _ _ && _)); rw [hw]; rfl))
  cases kind with
  | str k =>
    cases kinds with
    | tuple xs =>
      obtain ⟨zs, rfl, hz⟩ := words_strs hw
      have hzok : ∀ z ∈ zs, PyData.strOk z = true := fun z hm => kinds_ok z (hz z hm)
      have hl : zs.length ≤ 2000000 := by
        have := h2.short _ rfl
        rw [List.length_map] at this
        omega
      show _ = some (PyData.bool (wordsT _ _ && fitsS k ((strsOf (zs.map PyData.str)).getD [])))
      rw [hw, strsOf_map, Bool.true_and, Option.getD_some]
      walk_at "e"
      rw [lcD_filter (p := fun s : Str => !decide (s ∈ looseS)) (h := fun s => .str s) (fun x hm => by
        walk_at "e"
        rw [show PyData.list [.str "folio", .str "crate"] = .list (looseS.map .str) from rfl, dNotIn_ls (str_shaped (hzok x hm)) loose_ok]
        walk_at "e"
        rfl)]
      have hl1 : (zs.filter fun s : Str => !decide (s ∈ looseS)).length ≤ 2000000 := Nat.le_trans (List.length_filter_le _ _) hl
      walk_at "e dLst_eq List.length_map hl1 F_kindsL"
      rw [lcD_filter (p := fun s : Str => decide (s ∈ zs)) (h := fun s => .str s) (fun x hm => by
        walk_at "e"
        rw [dIn_ts (str_shaped (kinds_ok x hm)) hzok]
        walk_at "e"
        rfl)]
      have hl2 : (kindsS.filter fun s : Str => decide (s ∈ zs)).length ≤ 2000000 := Nat.le_trans (List.length_filter_le _ _) (by decide)
      walk_at "e dLst_eq List.length_map hl2"
      rw [dNe_sl hzok (fun s hs => kinds_ok s (List.mem_filter.mp hs).1)]
      unfold fitsS
      by_cases he : zs = kindsS.filter fun s => decide (s ∈ zs)
      · rw [decide_eq_true he]
        show _ = some (PyData.bool (if zs ≠ (kindsS.filter fun s => decide (s ∈ zs)) ∨ 1 < (zs.filter fun s : Str => !decide (s ∈ looseS)).length then false else if (zs.filter fun s : Str => !decide (s ∈ looseS)).length = 1 then decide ((zs.filter fun s : Str => !decide (s ∈ looseS)).head? = some k) else if zs.length = 0 then decide (k = "") else decide (k ∈ zs)))
        generalize kindsS.filter (fun s => decide (s ∈ zs)) = due at he ⊢
        generalize (zs.filter fun s : Str => !decide (s ∈ looseS)) = sg at hl1 ⊢
        match sg with
        | [] =>
          rw [if_neg (by rintro (h | h); exact h he; exact absurd h (by decide)), if_neg (by decide)]
          walk_at "e List.length_map"
          cases zs with
          | nil => walk_at "e"
          | cons z r =>
            have e := dIn_ts (d := .str k) h1.sh hzok
            rw [List.map_cons] at e
            rw [if_neg (by rw [decide_eq_true_iff, List.length_cons]; omega), if_neg (by simp)]
            walk_at "e e"
            rfl
        | [a] =>
          rw [if_neg (by rintro (h | h); exact h he; exact absurd h (by show ¬ 1 < 1; decide))]
          show _ = some (PyData.bool (decide (some a = some k)))
          walk_at "e"
          congr 2
          exact decide_eq_decide.mpr ⟨fun e => by rw [e], fun e => (Option.some.inj e).symm⟩
        | a :: b :: r =>
          rw [if_pos (.inr (by simp))]
          walk_at "e List.length_map"
          rw [if_pos (by rw [decide_eq_true_iff]; omega)]
          walk_at "e"
      · rw [decide_eq_false he, if_pos (.inl he)]
        walk_at "e"
    | _ => cases hw
  | _ => walk_at "e"; rfl

def pS (s : Str) : Int := ((kindsS.idxOf s : Nat) : Int)
theorem ascI_iff : ∀ {ns : List Int}, ascI ns = true ↔ ns.Pairwise (· < ·)
  | [] => ⟨fun _ => .nil, fun _ => rfl⟩
  | [_] => ⟨fun _ => List.pairwise_singleton _ _, fun _ => rfl⟩
  | a :: b :: r => by
    rw [ascI, Bool.and_eq_true, ascI_iff (ns := b :: r), List.pairwise_cons (l := b :: r), decide_eq_true_eq]
    refine ⟨fun ⟨h1, h2⟩ => ⟨fun x hx => ?_, h2⟩, fun ⟨h1, h2⟩ => ⟨h1 b (List.mem_cons_self ..), h2⟩⟩
    rcases List.mem_cons.mp hx with e | e
    · rw [e]; exact h1
    · exact Int.lt_trans h1 ((List.pairwise_cons.mp h2).1 x e)
theorem asc_unique : ∀ {xs ys : List Str}, xs.Pairwise (fun a b => pS a < pS b) → ys.Pairwise (fun a b => pS a < pS b) → (∀ k, k ∈ xs ↔ k ∈ ys) → xs = ys
  | [], [], _, _, _ => rfl
  | [], y :: ys, _, _, h => by have := (h y).mpr (List.mem_cons_self ..); cases this
  | x :: xs, [], _, _, h => by have := (h x).mp (List.mem_cons_self ..); cases this
  | x :: xs, y :: ys, h1, h3, h => by
    obtain ⟨a1, a2⟩ := List.pairwise_cons.mp h1
    obtain ⟨c1, c2⟩ := List.pairwise_cons.mp h3
    have e : x = y := by
      rcases List.mem_cons.mp ((h x).mp (List.mem_cons_self ..)) with z | z
      · exact z
      · rcases List.mem_cons.mp ((h y).mpr (List.mem_cons_self ..)) with w | w
        · exact w.symm
        · have := c1 x z; have := a1 y w; omega
    subst e
    rw [asc_unique a2 c2 fun n => ⟨fun hn => ((List.mem_cons.mp ((h n).mp (List.mem_cons_of_mem _ hn))).resolve_left fun z => by have := a1 n hn; rw [z] at this; omega), fun hn => ((List.mem_cons.mp ((h n).mpr (List.mem_cons_of_mem _ hn))).resolve_left fun z => by have := c1 n hn; rw [z] at this; omega)⟩]
theorem kindsS_asc : kindsS.Pairwise (fun a b => pS a < pS b) := by decide +kernel
theorem kinds_eq {ks : List Str} (h : ∀ k ∈ ks, k ∈ kindsS) : ascI (ks.map pS) = decide (ks = kindsS.filter fun k => decide (k ∈ ks)) := by
  have hf : (kindsS.filter fun k => decide (k ∈ ks)).Pairwise (fun a b => pS a < pS b) := kindsS_asc.filter _
  have hm : ∀ k, k ∈ (kindsS.filter fun k => decide (k ∈ ks)) ↔ k ∈ ks := fun k => by
    rw [List.mem_filter]
    exact ⟨fun z => of_decide_eq_true z.2, fun z => ⟨h k z, decide_eq_true z⟩⟩
  by_cases ha : ascI (ks.map pS) = true
  · have hp : ks.Pairwise (fun a b => pS a < pS b) := List.pairwise_map.mp (ascI_iff.mp ha)
    rw [ha, decide_eq_true (asc_unique hp hf fun k => (hm k).symm)]
  · rw [Bool.eq_false_iff.mpr ha, decide_eq_false]
    intro e
    rw [← e] at hf
    exact ha (ascI_iff.mpr (List.pairwise_map.mpr hf))
theorem take4 : ∀ k ∈ kindsS, (k ∈ kindsS.take 4 ↔ pS k < 4) ∧ (k ∈ looseS ↔ ¬ pS k < 4) := by decide +kernel
theorem fits_eq {kind kinds : PyData} : (kindsD kinds && kindIn kinds kind) = fitsD kind kinds := by
  cases kinds with
  | tuple xs =>
    show ((xs.all fun x => inS x kindsS) && _ && _) = _
    cases ha : xs.all fun x => inS x kindsS
    · cases kind with
      | str k => show _ = ((xs.all fun x => inS x kindsS) && _); rw [ha]; rfl
      | _ => rfl
    obtain ⟨zs, rfl, hz⟩ := words_strs (ss := kindsS) (xs := xs) ha
    have e1 : (zs.map PyData.str).map plD = zs.map pS := by rw [List.map_map]; rfl
    rw [e1, Bool.true_and, kinds_eq hz]
    have e2 : ((zs.map pS).filter fun n => decide (n < 4)).length = (zs.filter fun s => !decide (s ∈ looseS)).length := by
      rw [List.filter_map, List.length_map]
      congr 1
      refine List.filter_congr fun x hx => ?_
      have := (take4 x (hz x hx)).2
      show decide (pS x < 4) = !decide (x ∈ looseS)
      by_cases hp : pS x < 4
      · rw [decide_eq_true hp, decide_eq_false (fun h => this.mp h hp)]; rfl
      · rw [decide_eq_false hp, decide_eq_true (this.mpr hp)]; rfl
    rw [e2]
    have e3 : fitsD kind (.tuple (zs.map .str)) = match kind with | .str k => fitsS k zs | _ => false := by
      cases kind with
      | str k =>
        show (((zs.map PyData.str).all fun x => inS x kindsS) && fitsS k ((strsOf (zs.map PyData.str)).getD [])) = _
        rw [ha, strsOf_map]; rfl
      | _ => rfl
    rw [e3]
    have any_no : ∀ ws : List Str, (∀ k, kind ≠ .str k) → (ws.map PyData.str).any (fun z => PyData.eqv z kind) = false := fun ws hk => by
      rw [inS_any]
      cases kind <;> first | rfl | exact absurd rfl (hk _)
    have kin : kindIn (.tuple (zs.map .str)) kind = (pcD (zs.map .str)).any fun z => PyData.eqv z kind := rfl
    rw [kin]
    have hno : (∀ k, kind ≠ .str k) → (pcD (zs.map PyData.str)).any (fun z => PyData.eqv z kind) = false := fun hk => by
      cases zs with
      | nil => exact any_no [""] hk
      | cons z r =>
        show (if inS (.str z) (kindsS.take 4) = true then [PyData.str z] else PyData.str z :: r.map .str).any _ = false
        split
        · exact any_no [z] hk
        · exact any_no (z :: r) hk
    cases kind with
    | str k =>
      show _ = fitsS k zs
      unfold fitsS
      show _ = if zs ≠ (kindsS.filter fun s => decide (s ∈ zs)) ∨ 1 < (zs.filter fun s : Str => !decide (s ∈ looseS)).length then false else if (zs.filter fun s : Str => !decide (s ∈ looseS)).length = 1 then decide ((zs.filter fun s : Str => !decide (s ∈ looseS)).head? = some k) else if zs.length = 0 then decide (k = "") else decide (k ∈ zs)
      have hasc : zs = (kindsS.filter fun s => decide (s ∈ zs)) → zs.Pairwise fun a b => pS a < pS b := fun e => by rw [e]; exact kindsS_asc.filter _
      by_cases hbad : zs ≠ (kindsS.filter fun s => decide (s ∈ zs)) ∨ 1 < (zs.filter fun s : Str => !decide (s ∈ looseS)).length
      · rw [if_pos hbad]
        rcases hbad with h | h
        · rw [decide_eq_false h]; rfl
        · rw [show decide ((zs.filter fun s : Str => !decide (s ∈ looseS)).length ≤ 1) = false from decide_eq_false (by omega), Bool.and_false]; rfl
      · rw [if_neg hbad]
        have h1 : zs = (kindsS.filter fun s => decide (s ∈ zs)) := Classical.not_not.mp fun h => hbad (.inl h)
        have h2 : (zs.filter fun s : Str => !decide (s ∈ looseS)).length ≤ 1 := by
          have : ¬ 1 < (zs.filter fun s : Str => !decide (s ∈ looseS)).length := fun h => hbad (.inr h)
          omega
        rw [decide_eq_true h1, decide_eq_true h2, Bool.and_self, Bool.true_and]
        have ha2 := hasc h1
        clear h1 hasc hbad kin e3 e2 e1 ha any_no
        cases zs with
        | nil =>
          show (PyData.eqv (.str "") (.str k) || false) = decide (k = "")
          rw [eqv_ss, Bool.or_false]
          exact decide_eq_decide.mpr ⟨fun e => e.symm, fun e => e.symm⟩
        | cons z r =>
          obtain ⟨p1, p2⟩ := List.pairwise_cons.mp ha2
          have t4 := take4 z (hz z (List.mem_cons_self ..))
          show (if inS (.str z) (kindsS.take 4) = true then [PyData.str z] else PyData.str z :: r.map .str).any _ = _
          by_cases h4 : pS z < 4
          · have hf : (!decide (z ∈ looseS)) = true := by rw [decide_eq_false (fun h => t4.2.mp h h4)]; rfl
            rw [if_pos (show inS (.str z) (kindsS.take 4) = true from decide_eq_true (t4.1.mpr h4))]
            rw [List.filter_cons_of_pos (p := fun s : Str => !decide (s ∈ looseS)) hf] at h2 ⊢
            rw [List.length_cons] at h2 ⊢
            rw [if_pos (by omega)]
            show (PyData.eqv (.str z) (.str k) || false) = decide (some z = some k)
            rw [eqv_ss, Bool.or_false]
            exact decide_eq_decide.mpr ⟨fun e => by rw [e], fun e => Option.some.inj e⟩
          · have hn : (z :: r).filter (fun s : Str => !decide (s ∈ looseS)) = [] := List.filter_eq_nil_iff.mpr fun x hx => by
              have hxk := take4 x (hz x hx)
              have : ¬ pS x < 4 := by
                rcases List.mem_cons.mp hx with e | e
                · rw [e]; exact h4
                · have := p1 x e; omega
              rw [decide_eq_true (hxk.2.mpr this)]
              decide
            rw [if_neg (show ¬ inS (.str z) (kindsS.take 4) = true from fun h => h4 (t4.1.mp (of_decide_eq_true h))), hn]
            rw [if_neg (by decide), if_neg (by simp)]
            exact inS_any (.str k) (z :: r)
    | _ =>
      rw [hno (by intro k h; cases h), Bool.and_false]
  | _ => cases kind <;> rfl

def dueL (name size kind kinds pages acts depth : PyData) : Bool :=
  byteT name && (fromB 0 2147483647 size && (fromB 0 8 pages && (fromB 0 4 depth && (fitsD kind kinds && wordsT actsS acts))))
theorem F_due7 {name size kind kinds pages acts depth : PyData} (h : Gd (.tuple [name, size, kind, kinds, pages, acts, depth])) : F__law_due [.tuple [name, size, kind, kinds, pages, acts, depth]] = some (.bool (soundL name size kind kinds pages acts depth)) := by
  have g1 : Gd name := h.mem _ (by simp)
  have g3 : Gd kind := h.mem _ (by simp)
  have g4 : Gd kinds := h.mem _ (by simp)
  have g6 : Gd acts := h.mem _ (by simp)
  have e : soundL name size kind kinds pages acts depth = dueL name size kind kinds pages acts depth := by
    unfold soundL dueL
    rw [← fits_eq]
    cases byteT name <;> cases fromB 0 2147483647 size <;> cases fromB 0 8 pages <;> cases fromB 0 4 depth <;> cases wordsT actsS acts <;> cases kindsD kinds <;> cases kindIn kinds kind <;> rfl
  rw [e]
  have a4 : atI [name, size, kind, kinds, pages, acts, depth] 4 = some pages := rfl
  have a5 : atI [name, size, kind, kinds, pages, acts, depth] 5 = some acts := rfl
  have a6 : atI [name, size, kind, kinds, pages, acts, depth] 6 = some depth := rfl
  walk_at "f _law_due"
  have nameE : ∀ X Y : Option FOut, (if isTupD name = true then X else Y) = (if isTupD name = true then X else Y) := fun _ _ => rfl
  cases name with
  | tuple xs =>
    have hl : xs.length ≤ 2000000 := Nat.le_trans (g1.short xs rfl) (by decide)
    walk_at "e"
    have hc := lcD_filter (f := lcS (gNm 1) (fTnot (fTb (fG F__law_number (fCons (fV 1) (fCons (fC (.int 255)) fNil))))) (fV 1) [.fz (.tuple [.tuple xs, size, kind, kinds, pages, acts, depth]), .un]) (cv := id) (p := fun x => !fromB 0 255 x) (h := id) (xs := xs) (fun x hm => by walk_at "e F_number id")
    rw [List.map_id] at hc
    rw [hc]
    have hl1 : (xs.filter fun x => !fromB 0 255 x).length ≤ 2000000 := Nat.le_trans (List.length_filter_le _ _) hl
    walk_at "e dLst_eq List.length_map hl1 F_number a4 a6"
    have eb : byteT (.tuple xs) = !decide ((0 : Int) < (((xs.filter fun x => !fromB 0 255 x).length : Nat) : Int)) := by
      show xs.all (fromB 0 255) = _
      cases ha : xs.all (fromB 0 255)
      · rw [List.all_eq_false] at ha
        obtain ⟨x, hx, hb⟩ := ha
        have : x ∈ xs.filter fun x => !fromB 0 255 x := List.mem_filter.mpr ⟨hx, by simpa using hb⟩
        have := List.length_pos_of_mem this
        rw [decide_eq_true (by omega)]; rfl
      · have : (xs.filter fun x => !fromB 0 255 x) = [] := List.filter_eq_nil_iff.mpr fun x hx => by rw [List.all_eq_true.mp ha x hx]; decide
        rw [this]; rfl
    unfold dueL
    rw [eb]
    cases decide ((0 : Int) < (((xs.filter fun x => !fromB 0 255 x).length : Nat) : Int))
    · walk_at "e"
      cases fromB 0 2147483647 size
      · walk_at "e"
      cases fromB 0 8 pages
      · walk_at "e"
      cases fromB 0 4 depth
      · walk_at "e"
      walk_at "e a5 F_actsL"
      rw [F_fits g3 g4, F_words g6 acts_ok]
      walk_at "e"
    · walk_at "e"
  | _ => walk_at "e"; rfl
theorem len7 {xs : List PyData} (h : xs.length = 7) : ∃ a b c d e f g, xs = [a, b, c, d, e, f, g] := by
  match xs, h with
  | [a, b, c, d, e, f, g], _ => exact ⟨a, b, c, d, e, f, g, rfl⟩
theorem soundD_no {xs : List PyData} (h : xs.length ≠ 7) : soundD (.tuple xs) = false := by
  unfold soundD
  split
  · rename_i e; cases e; exact absurd rfl h
  · rfl
theorem F_both {d : PyData} (h : Gd d) : F_is_sound [d] = some (.bool (soundD d)) ∧ F__law_due [d] = some (.bool (soundD d)) := by
  cases d with
  | tuple xs =>
    by_cases h7 : xs.length = 7
    · obtain ⟨a, b, c, d, e, f, g, rfl⟩ := len7 h7
      exact ⟨F_sound7 h, F_due7 h⟩
    · rw [soundD_no h7]
      have h8 : ¬ ((xs.length : Int) = 7) := by omega
      constructor
      · walk_at "f is_sound | F_tupN tupN"
        rw [decide_eq_false h8]
        walk_at "e"
      · walk_at "f _law_due"
        rw [decide_eq_false h8]
        walk_at "e"
  | _ => exact ⟨by walk_at "f is_sound | F_tupN tupN"; rfl, by walk_at "f _law_due"; rfl⟩

theorem F_cell (ns : List Int) {k : Int} (hk : 0 ≤ k) : F__law_cell [scrD ns, .int k] = some (.int (cellD ns k)) := by
  walk_at "f _law_cell"
  unfold cellD
  by_cases h : k < ns.length
  · obtain ⟨x, h1, _, _⟩ := atI_lt hk h
    rw [decide_eq_true h, atI_map, h1, if_pos h]
    walk_at "e Option.map_some"
    rfl
  · rw [decide_eq_false h, if_neg h]
    walk_at "e"
theorem F_row (c : Int) {n : Int} (h0 : 0 ≤ n) (h1 : n ≤ 100000) : ∃ d, F__law_row [.int c, .int n] = some d ∧ ∃ ms : List Int, d = .list (ms.map .int) ∧ ms.length = n.toNat := by
  walk_at "f _law_row"
  have hr : -4611686018427387904 ≤ n ∧ n < 4611686018427387904 := by omega
  by_cases hbig : (1000000000000000000 : Int) ≤ absI c
  · rw [decide_eq_true hbig, if_pos hr]
    walk_at "e"
    refine sat_bind (sat_bind (sat_bind (forF_sat (fun i st => ∃ (ms : List Int) (l : Int), st = [.fz (.int c), .fz (.int n), .ow (ms.map .int), .fz (.int l), .un, .un] ∧ ms.length = i) ⟨[], absI c, rfl, rfl⟩ (fun i d st hd hI => ?_) (fun st hI => ?_))))
    · obtain ⟨ms, l, rfl, hm⟩ := hI
      obtain ⟨rfl, hi⟩ := rangeD_at hd
      walk_at "e"
      rw [gApp_eq (by rw [List.length_map]; omega)]
      walk_at "e"
      exact ⟨_, rfl, lp_nx ⟨ms ++ [Builtin.bitAnd l 255], _, by rw [List.map_append]; rfl, by rw [List.length_append, hm]; rfl⟩⟩
    · obtain ⟨ms, l, rfl, hm⟩ := hI
      rw [rangeD_len] at hm
      walk_at "e"
      exact ⟨_, rfl, _, rfl, _, rfl, ms, rfl, hm⟩
  · rw [decide_eq_false hbig]
    walk_at "e"
    rw [if_pos hr]
    walk_at "e"
    refine sat_bind (sat_bind (forF_sat (fun i st => ∃ (ms : List Int) (l s : Int), st = [.fz (.int c), .fz (.int n), .ow (ms.map .int), .fz (.int l), .un, .fz (.int s)] ∧ ms.length = i) ⟨[], absI c, _, rfl, rfl⟩ (fun i d st hd hI => ?_) (fun st hI => ?_)))
    · obtain ⟨ms, l, s, rfl, hm⟩ := hI
      obtain ⟨rfl, hi⟩ := rangeD_at hd
      walk_at "e"
      rw [gApp_eq (by rw [List.length_map]; omega)]
      walk_at "e"
      exact ⟨_, rfl, lp_nx ⟨ms ++ [_], l, _, by rw [List.map_append]; rfl, by rw [List.length_append, hm]; rfl⟩⟩
    · obtain ⟨ms, l, s, rfl, hm⟩ := hI
      rw [rangeD_len] at hm
      walk_at "e"
      exact ⟨_, rfl, _, rfl, ms, rfl, hm⟩

def oneS4 : List (List Str) := [[], ["still"], ["picture"], ["film"], ["sheet"]]
def folioL : List Str := ["folio"]
def crateL : List Str := ["crate"]
def combos : List (List Str) := (oneS4.flatMap fun a => [a, a ++ folioL]).flatMap fun a => [a, a ++ crateL]
def fcS : List Str := ["folio", "crate"]
def kdOf (ks : List Str) (b : Bool) : Str := if ks = fcS ∧ b = true then "crate" else ks.headD ""
theorem combos_ok : ∀ ks ∈ combos, ∀ b : Bool, kindsD (.tuple (ks.map .str)) = true ∧ inS (.str (kdOf ks b)) (match ks with | [] => [""] | k :: r => if k ∈ kindsS.take 4 then [k] else k :: r) = true ∧ PyData.strOk (kdOf ks b) = true ∧ (∀ k ∈ ks, k ∈ kindsS) ∧ ks.length ≤ 3 := by decide +kernel
theorem kindIn_ok {ks : List Str} {b : Bool} (h : ks ∈ combos) : kindIn (.tuple (ks.map .str)) (.str (kdOf ks b)) = true := by
  have := (combos_ok ks h b).2.1
  rw [← this, ← inS_any]
  cases ks with
  | nil => rfl
  | cons k r =>
    show (if inS (.str k) (kindsS.take 4) = true then [PyData.str k] else PyData.str k :: r.map .str).any _ = _
    show (if decide (k ∈ kindsS.take 4) = true then _ else _ : List PyData).any _ = ((if k ∈ kindsS.take 4 then [k] else k :: r).map PyData.str).any _
    by_cases hk : k ∈ kindsS.take 4
    · rw [if_pos hk, decide_eq_true hk, if_pos rfl]; rfl
    · rw [if_neg hk, decide_eq_false hk, if_neg Bool.false_ne_true]; rfl
def Pt (x : PyData) : Prop := Sh 3 x ∧ wid 1000 x = true
def FactsOk (d : PyData) : Prop := ∃ name size kind kinds pages acts depth, d = .tuple [name, size, kind, kinds, pages, acts, depth] ∧ (∀ x ∈ [name, size, kind, kinds, pages, acts, depth], Pt x) ∧ soundL name size kind kinds pages acts depth = true
theorem F_facts (ns : List Int) : ∃ d, F__law_facts [scrD ns, .int 0] = some d ∧ FactsOk d := by
  refine def_sat rfl ?_
  unfold B__law_facts
  obtain ⟨c, hc⟩ : ∃ c : Int, c = absI (cellD ns 0) := ⟨_, rfl⟩
  have hc0 : 0 ≤ c := by rw [hc]; exact absI_nn _
  refine seq_sat2 (fun s => s = [.fz (scrD ns), .fz (.int 0), .fz (.int c), .ow [], .un, .un, .un, .un, .un]) ?_ ?_
  · walk_at "e F_cell"
    rw [← hc]
    exact ⟨_, rfl, rfl⟩
  rintro _ rfl
  refine seq_sat (fun s => ∃ ks ∈ oneS4, s = [.fz (scrD ns), .fz (.int 0), .fz (.int c), .ow (ks.map .str), .un, .un, .un, .un, .un]) ?_ ?_
  · have h5 : c % 5 = 0 ∨ c % 5 = 1 ∨ c % 5 = 2 ∨ c % 5 = 3 ∨ c % 5 = 4 := by omega
    walk_at "e F_kindsL"
    rcases h5 with h | h | h | h | h <;> rw [h] <;> walk_at "e"
    · exact ⟨_, rfl, nx_of ⟨[], by decide, rfl⟩⟩
    · exact ⟨_, rfl, nx_of ⟨["still"], by decide, rfl⟩⟩
    · exact ⟨_, rfl, nx_of ⟨["picture"], by decide, rfl⟩⟩
    · exact ⟨_, rfl, nx_of ⟨["film"], by decide, rfl⟩⟩
    · exact ⟨_, rfl, nx_of ⟨["sheet"], by decide, rfl⟩⟩
  rintro _ ⟨ks1, hk1, rfl⟩
  refine seq_sat (fun s => ∃ ks ∈ oneS4.flatMap (fun a => [a, a ++ folioL]), s = [.fz (scrD ns), .fz (.int 0), .fz (.int c), .ow (ks.map .str), .un, .un, .un, .un, .un]) ?_ ?_
  · have hl : ks1.length < 2000000 := Nat.lt_of_le_of_lt ((by decide +kernel : ∀ ks ∈ oneS4, ks.length ≤ 3) ks1 hk1) (by decide)
    walk_at "e hl"
    cases decide (Builtin.bitAnd (c / 5) 1 = 1)
    · exact ⟨_, rfl, nx_of ⟨ks1, List.mem_flatMap.mpr ⟨ks1, hk1, by simp⟩, rfl⟩⟩
    · exact ⟨_, rfl, nx_of ⟨ks1 ++ folioL, List.mem_flatMap.mpr ⟨ks1, hk1, by simp⟩, by rw [List.map_append]; rfl⟩⟩
  rintro _ ⟨ks2, hk2, rfl⟩
  refine seq_sat (fun s => ∃ ks ∈ combos, s = [.fz (scrD ns), .fz (.int 0), .fz (.int c), .ow (ks.map .str), .un, .un, .un, .un, .un]) ?_ ?_
  · have hl : ks2.length < 2000000 := Nat.lt_of_le_of_lt ((by decide +kernel : ∀ ks ∈ oneS4.flatMap (fun a => [a, a ++ folioL]), ks.length ≤ 3) ks2 hk2) (by decide)
    walk_at "e hl"
    cases decide (Builtin.bitAnd (c / 10) 1 = 1)
    · exact ⟨_, rfl, nx_of ⟨ks2, List.mem_flatMap.mpr ⟨ks2, hk2, by simp⟩, rfl⟩⟩
    · exact ⟨_, rfl, nx_of ⟨ks2 ++ crateL, List.mem_flatMap.mpr ⟨ks2, hk2, by simp⟩, by rw [List.map_append]; rfl⟩⟩
  rintro _ ⟨ks, hk, rfl⟩
  have hks := combos_ok ks hk
  have hok : ∀ s ∈ ks, PyData.strOk s = true := fun s hs => kinds_ok s ((hks true).2.2.2.1 s hs)
  refine seq_sat3 (fun s => ∃ b, s = [.fz (scrD ns), .fz (.int 0), .fz (.int c), .ow (ks.map .str), .fz (.str (kdOf ks b)), .un, .un, .un, .un]) ?_ ?_
  · refine seq_sat2 (fun s => s = [.fz (scrD ns), .fz (.int 0), .fz (.int c), .ow (ks.map .str), .fz (.str (ks.headD "")), .un, .un, .un, .un]) ?_ ?_
    · walk_at "e"
      cases ks with
      | nil => walk_at "e"; exact ⟨_, rfl, nx_of rfl⟩
      | cons k r =>
        rw [if_pos (by rw [decide_eq_true_iff, List.length_cons]; omega)]
        walk_at "e"
        exact ⟨_, rfl, nx_of rfl⟩
    rintro _ rfl
    have e1 : dEq (.list (ks.map .str)) (.list [.str "folio", .str "crate"]) = some (.bool (decide (ks = fcS))) := by
      rw [show PyData.list [.str "folio", .str "crate"] = .list (fcS.map .str) from rfl, dEq_sh (strs_shT hok).2 (strs_shT (ss := fcS) loose_ok).2, eqv_ll eqv_ss]
    walk_at "e e1"
    by_cases hf : ks = fcS
    · rw [decide_eq_true hf]
      cases decide (Builtin.bitAnd (c / 20) 1 = 1)
      · exact ⟨_, rfl, nx_of ⟨false, by unfold kdOf; rw [if_neg (by simp)]⟩⟩
      · exact ⟨_, rfl, nx_of ⟨true, by unfold kdOf; rw [if_pos ⟨hf, rfl⟩]⟩⟩
    · rw [decide_eq_false hf]
      exact ⟨_, rfl, nx_of ⟨false, by unfold kdOf; rw [if_neg (by simp)]⟩⟩
  rintro _ ⟨b, rfl⟩
  obtain ⟨_, er1, m1, rfl, hm1⟩ := F_row (cellD ns 1) (n := c / 40 % 9) (by omega) (by omega)
  obtain ⟨_, er2, m2, rfl, hm2⟩ := F_row (cellD ns 2) (n := c / 360 % 5) (by omega) (by omega)
  refine seq_sat (fun s => ∃ xs : List PyData, s = [.fz (scrD ns), .fz (.int 0), .fz (.int c), .ow (ks.map .str), .fz (.str (kdOf ks b)), .fz (.tuple xs), .un, .un, .un] ∧ xs.length ≤ 9 ∧ ∀ x ∈ xs, ∃ i : Int, x = .int i ∧ 0 ≤ i ∧ i ≤ 255) ?_ ?_
  · walk_at "e F_cell er1"
    obtain ⟨ys, e, l, p⟩ := lcD_ex (P := fun x => ∃ i : Int, x = .int i ∧ 0 ≤ i ∧ i ≤ 255) (f := lcS (gNm 6) fYes (fB dIx (fL (fGL dLst (fCons (fC (.int 97)) (fCons (fC (.int 98)) (fCons (fC (.int 42)) (fCons (fC (.int 46)) (fCons (fC (.int 99)) fNil))))))) (fB dMod (fG dInt (fCons (fW 6) fNil)) (fC (.int 5)))) [.fz (scrD ns), .fz (.int 0), .fz (.int c), .ow (ks.map .str), .fz (.str (kdOf ks b)), .un, .un, .un, .un]) (ds := m1.map .int) (fun d hd => by
      obtain ⟨i, _, rfl⟩ := List.mem_map.mp hd
      walk_at "e"
      have h5 : i % 5 = 0 ∨ i % 5 = 1 ∨ i % 5 = 2 ∨ i % 5 = 3 ∨ i % 5 = 4 := by omega
      rcases h5 with h | h | h | h | h <;> rw [h] <;> exact ⟨_, rfl, _, rfl, by decide, by decide⟩)
    rw [List.length_map, hm1] at l
    have hl : ys.length ≤ 2000000 := by omega
    walk_at "e e hl"
    exact ⟨_, rfl, nx_of ⟨ys, rfl, by omega, p⟩⟩
  rintro _ ⟨xs, rfl, hxl, hxs⟩
  refine seq_sat (fun s => ∃ ys : List PyData, s = [.fz (scrD ns), .fz (.int 0), .fz (.int c), .ow (ks.map .str), .fz (.str (kdOf ks b)), .fz (.tuple xs), .un, .fz (.tuple ys), .un] ∧ ys.length ≤ 5 ∧ ∀ x ∈ ys, ∃ s, x = .str s ∧ s ∈ actsS) ?_ ?_
  · walk_at "e F_cell er2"
    obtain ⟨ys, e, l, p⟩ := lcD_ex (P := fun x => ∃ s, x = .str s ∧ s ∈ actsS) (f := lcS (gNm 6) fYes (fB dIx (fG F__law_acts fNil) (fB dMod (fG dInt (fCons (fW 6) fNil)) (fC (.int 6)))) [.fz (scrD ns), .fz (.int 0), .fz (.int c), .ow (ks.map .str), .fz (.str (kdOf ks b)), .fz (.tuple xs), .un, .un, .un]) (ds := m2.map .int) (fun d hd => by
      obtain ⟨i, _, rfl⟩ := List.mem_map.mp hd
      walk_at "e F_actsL"
      have h6 : 0 ≤ i % 6 ∧ i % 6 < (actsS.length : Int) := by show 0 ≤ i % 6 ∧ i % 6 < 6; omega
      obtain ⟨s, es, _, hs⟩ := atI_lt h6.1 h6.2
      rw [atI_map, es]
      exact ⟨_, rfl, _, rfl, hs⟩)
    rw [List.length_map, hm2] at l
    have hl : ys.length ≤ 2000000 := by omega
    walk_at "e e hl"
    exact ⟨_, rfl, nx_of ⟨ys, rfl, by omega, p⟩⟩
  rintro _ ⟨ys, rfl, hyl, hys⟩
  refine seq_sat (fun s => ∃ z : Int, s = [.fz (scrD ns), .fz (.int 0), .fz (.int c), .ow (ks.map .str), .fz (.str (kdOf ks b)), .fz (.tuple xs), .un, .fz (.tuple ys), .fz (.int z)] ∧ 0 ≤ z ∧ z ≤ 2147483647) ?_ ?_
  · walk_at "e"
    have h3 : c / 21600 % 3 = 0 ∨ c / 21600 % 3 = 1 ∨ c / 21600 % 3 = 2 := by omega
    rcases h3 with h | h | h <;> rw [h] <;> walk_at "e"
    · exact ⟨_, rfl, nx_of ⟨_, rfl, by omega, by omega⟩⟩
    · exact ⟨_, rfl, nx_of ⟨_, rfl, by omega, by omega⟩⟩
    · exact ⟨_, rfl, nx_of ⟨_, rfl, by omega, by omega⟩⟩
  rintro _ ⟨z, rfl, hz0, hz1⟩
  walk_at "e"
  refine ⟨_, rfl, _, rfl, _, _, _, _, _, _, _, rfl, ?_, ?_⟩
  · have plain : ∀ n, ∀ x ∈ xs, Sh n x := fun n x hx => by obtain ⟨i, rfl, _⟩ := hxs x hx; exact sh_int n i
    have plainY : ∀ n, ∀ x ∈ ys, Sh n x := fun n x hx => by obtain ⟨s, rfl, hs⟩ := hys x hx; exact sh_str n (acts_ok s hs)
    have plainK : ∀ n, ∀ x ∈ ks.map PyData.str, Sh n x := fun n x hx => by obtain ⟨s, hs, rfl⟩ := List.mem_map.mp hx; exact sh_str n (hok s hs)
    have w1 : widAll 1000 xs = true := widAll_iff.mpr fun x hx => by obtain ⟨i, rfl, _⟩ := hxs x hx; exact wid_int _ _
    have w2 : widAll 1000 ys = true := widAll_iff.mpr fun x hx => by obtain ⟨i, rfl, _⟩ := hys x hx; exact wid_str _ _
    have w3 : widAll 1000 (ks.map PyData.str) = true := widAll_iff.mpr fun x hx => by obtain ⟨s, hs, rfl⟩ := List.mem_map.mp hx; exact wid_str _ _
    have l3 := (hks b).2.2.2.2
    intro d hd
    simp only [List.mem_cons, List.not_mem_nil, or_false] at hd
    rcases hd with rfl | rfl | rfl | rfl | rfl | rfl | rfl
    · exact ⟨sh_tup.mpr (plain 2), by rw [wid, w1, decide_eq_true (by omega)]; rfl⟩
    · exact ⟨sh_int _ _, wid_int _ _⟩
    · exact ⟨sh_str _ (hks b).2.2.1, wid_str _ _⟩
    · exact ⟨sh_tup.mpr (plainK 2), by rw [wid, w3, List.length_map, decide_eq_true (by omega)]; rfl⟩
    · exact ⟨sh_int _ _, wid_int _ _⟩
    · exact ⟨sh_tup.mpr (plainY 2), by rw [wid, w2, decide_eq_true (by omega)]; rfl⟩
    · exact ⟨sh_int _ _, wid_int _ _⟩
  · unfold soundL
    have k1 : byteT (.tuple xs) = true := List.all_eq_true.mpr fun x hx => by
      obtain ⟨i, rfl, h0, h1⟩ := hxs x hx
      show (decide (0 ≤ i) && decide (i ≤ 255)) = true
      rw [decide_eq_true h0, decide_eq_true h1]; rfl
    have k2 : wordsT actsS (.tuple ys) = true := List.all_eq_true.mpr fun x hx => by
      obtain ⟨s, rfl, hs⟩ := hys x hx
      exact decide_eq_true hs
    have fb : ∀ lo hi i : Int, lo ≤ i → i ≤ hi → fromB lo hi (.int i) = true := fun lo hi i h0 h1 => by
      show (decide (lo ≤ i) && decide (i ≤ hi)) = true
      rw [decide_eq_true h0, decide_eq_true h1]; rfl
    rw [k1, k2, fb _ _ _ hz0 hz1, fb _ _ _ (by omega) (by omega), fb _ _ _ (by omega) (by omega), (hks b).1, kindIn_ok hk]
    rfl

theorem gd_of {xs : List PyData} (hl : xs.length ≤ 1000) (h : ∀ x ∈ xs, Pt x) : Gd (.tuple xs) :=
  ⟨(sh_tup.mpr fun d hd => (h d hd).1).s64, by rw [wid, decide_eq_true hl, widAll_iff.mpr fun x hx => (h x hx).2]; rfl⟩
theorem gd_ofL {xs : List PyData} (hl : xs.length ≤ 1000) (h : ∀ x ∈ xs, Pt x) : Gd (.list xs) :=
  ⟨by have := (sh_l (f := id) (xs := xs) fun d hd => (h d hd).1); rw [List.map_id] at this; exact this.s64, by rw [wid, decide_eq_true hl, widAll_iff.mpr fun x hx => (h x hx).2]; rfl⟩
def menuL : List (List PyData) := [[.tuple [.int 256], .tuple [.int (-1)], .list [.int 97], .str "a", .tuple [.bool true], .tuple []],
  [.int (-1), .int 2147483648, .bool true, .str "1", .int 0],
  [.str "folio", .str "crate", .str "", .str "still", .str "mail", .none],
  [.tuple [.str "crate", .str "folio"], .tuple [.str "still", .str "film"], .tuple [.str "folio", .str "folio"], .tuple [.str "mail"], .list [.str "still"], .tuple [.str "film", .str "crate"], .tuple []],
  [.int 9, .int (-1), .int 8, .bool false, .none],
  [.tuple [.str "script", .str "link"], .tuple [.str "run"], .list [.str "open"], .tuple [.int 1], .tuple []],
  [.int 5, .int (-1), .int 4, .bool true]]
theorem menu_ok : ∀ row ∈ menuL, 0 < row.length ∧ ∀ x ∈ row, (PyData.canLay0 x = true ∧ PyData.depth x ≤ 3) ∧ wid 1000 x = true := by decide +kernel
theorem F_replaced {fs : List PyData} (h7 : fs.length = 7) (hg : ∀ x ∈ fs, Pt x) {c : Int} (h0 : 0 ≤ c) : ∃ d, F__law_replaced [.tuple fs, .int c] = some d ∧ ∃ gs, d = .tuple gs ∧ gs.length = 7 ∧ ∀ x ∈ gs, Pt x := by
  refine def_sat rfl ?_
  unfold B__law_replaced
  refine seq_sat4 (fun s => s = [.fz (.tuple fs), .fz (.int c), .fz (.int (c % 7)), .fz (.int (c / 7)), .ow fs, .fz (.list (menuL.map .list))]) ?_ ?_
  · walk_at "e"
    exact ⟨_, rfl, nx_of rfl⟩
  rintro _ rfl
  have h6 : 0 ≤ c % 7 ∧ c % 7 < (menuL.length : Int) := by show 0 ≤ c % 7 ∧ c % 7 < 7; omega
  obtain ⟨row, er, _, hr⟩ := atI_lt h6.1 h6.2
  obtain ⟨hrl, hrx⟩ := menu_ok row hr
  obtain ⟨x, ex, _, hx⟩ := atI_lt (xs := row) (i := c / 7 % (row.length : Nat)) (Int.emod_nonneg _ (by omega)) (Int.emod_lt_of_pos _ (by omega))
  walk_at "e h7"
  rw [atI_map, er]
  walk_at "e Option.map_some"
  rw [if_pos (by omega)]
  walk_at "e ex"
  have e7 : ixN 7 (c % 7) = some (c % 7).toNat := ixN_in (n := 7) h6.1 h6.2
  walk_at "e e7"
  refine ⟨_, rfl, _, rfl, _, rfl, by rw [List.length_set, h7], fun y hy => ?_⟩
  rcases List.mem_or_eq_of_mem_set hy with h | h
  · exact hg y h
  · rw [h]; exact hrx x hx

theorem law_true (ns : List Int) (hns : ns.length ≤ 63) : F_law [scrD ns] = some (.bool true) := by
  refine def_eq rfl ?_
  unfold B_law
  obtain ⟨_, ef, name, size, kind, kinds, pages, acts, depth, rfl, hpt, hs⟩ := F_facts ns
  have hgd := gd_of (by show 7 ≤ 1000; decide) hpt
  obtain ⟨b1, b2⟩ := F_both hgd
  rw [show soundD (.tuple [name, size, kind, kinds, pages, acts, depth]) = true from hs] at b1 b2
  obtain ⟨fs, hfs⟩ : ∃ fs, fs = [name, size, kind, kinds, pages, acts, depth] := ⟨_, rfl⟩
  rw [← hfs] at hpt hgd b1 b2 ef
  have h7 : fs.length = 7 := by rw [hfs]; rfl
  refine seq_sat2 (fun s => s = [.fz (scrD ns), .fz (.tuple fs), .un, .un, .un, .un]) ?_ ?_
  · walk_at "e ef b1 b2"
    exact ⟨_, rfl, nx_of rfl⟩
  rintro _ rfl
  have rp : ∀ gs : List PyData, gs.length = 7 → (∀ x ∈ gs, Pt x) → ∀ k : Int, 0 ≤ k → ∃ d, F__law_replaced [.tuple gs, .int (absI (cellD ns k))] = some d ∧ ∃ gs, d = .tuple gs ∧ gs.length = 7 ∧ ∀ x ∈ gs, Pt x := fun gs hl hg k hk => F_replaced hl hg (absI_nn _)
  refine seq_sat (fun s => ∃ vs : List PyData, s = [.fz (scrD ns), .fz (.tuple fs), .ow vs, .un, .un, .un] ∧ vs.length = 3 ∧ ∀ v ∈ vs, ∃ gs, v = .tuple gs ∧ gs.length = 7 ∧ ∀ x ∈ gs, Pt x) ?_ ?_
  · walk_at "e"
    obtain ⟨ys, e, l, p⟩ := lcD_ex (P := fun v => ∃ gs, v = .tuple gs ∧ gs.length = 7 ∧ ∀ x ∈ gs, Pt x) (f := lcS (gNm 3) fYes (fG F__law_replaced (fCons (fV 1) (fCons (fG dAbs (fCons (fG F__law_cell (fCons (fV 0) (fCons (fB dAdd (fC (.int 3)) (fW 3)) fNil))) fNil)) fNil))) [.fz (scrD ns), .fz (.tuple fs), .un, .un, .un, .un]) (ds := rangeD 0 3 1) (fun d hd => by
      obtain ⟨i, hi⟩ := List.mem_iff_getElem?.mp hd
      obtain ⟨rfl, _⟩ := rangeD_at hi
      obtain ⟨v, ev, pv⟩ := rp fs h7 hpt (3 + (0 + (i : Int) * 1)) (by omega)
      walk_at "e"
      rw [F_cell ns (by omega)]
      walk_at "e ev"
      exact ⟨_, rfl, pv⟩)
    rw [rangeD_len] at l
    walk_at "e e l"
    exact ⟨_, rfl, nx_of ⟨ys, rfl, l, p⟩⟩
  rintro _ ⟨vs, rfl, hvl, hv⟩
  obtain ⟨v0, ev0, _, hv0⟩ := atI_lt (xs := vs) (i := 0) (by decide) (by omega)
  obtain ⟨g0, rfl, hg0, hp0⟩ := hv v0 hv0
  obtain ⟨_, er, g4, rfl, hg4, hp4⟩ := rp g0 hg0 hp0 6 (by decide)
  have others : ∀ x ∈ [PyData.list fs, .tuple (fs ++ [.int 0]), .tuple (fs.take 6), .none, .str "facts", .tuple []], Gd x := by
    intro x hx
    simp only [List.mem_cons, List.not_mem_nil, or_false] at hx
    rcases hx with rfl | rfl | rfl | rfl | rfl | rfl
    · exact gd_ofL (by omega) hpt
    · exact gd_of (by rw [List.length_append, h7]; decide) fun x hx => (List.mem_append.mp hx).elim (hpt x) fun h => by rw [List.mem_singleton.mp h]; exact ⟨sh_int _ _, wid_int _ _⟩
    · exact gd_of (by rw [List.length_take]; omega) fun x hx => hpt x (List.mem_of_mem_take hx)
    · exact ⟨by decide +kernel, wid_none _⟩
    · exact ⟨by decide +kernel, wid_str _ _⟩
    · exact ⟨by decide +kernel, by decide +kernel⟩
  refine seq_sat2 (fun s => s = [.fz (scrD ns), .fz (.tuple fs), .ow ((vs ++ [.tuple g4]) ++ [.list fs, .tuple (fs ++ [.int 0]), .tuple (fs.take 6), .none, .str "facts", .tuple []]), .un, .un, .un]) ?_ ?_
  · have e7 : dAdd (.tuple fs) (.tuple [.int 0]) = some (.tuple (fs ++ [.int 0])) := if_pos (cnt_le (by rw [h7]; decide))
    have ec : ∀ a b : List PyData, a.length + b.length ≤ 2000000 → dCatL (.list a) (.list b) = some (a ++ b) := fun a b h => if_pos (cnt_le h)
    walk_at "e ev0 er F_cell hvl e7 ec"
    exact ⟨_, rfl, nx_of rfl⟩
  rintro _ rfl
  have hall : ∀ x ∈ (vs ++ [.tuple g4]) ++ [.list fs, .tuple (fs ++ [.int 0]), .tuple (fs.take 6), .none, .str "facts", .tuple []], Gd x := by
    intro x hx
    rcases List.mem_append.mp hx with h | h
    · rcases List.mem_append.mp h with h | h
      · obtain ⟨gs, rfl, hl, hp⟩ := hv x h
        exact gd_of (by omega) hp
      · rw [List.mem_singleton.mp h]
        exact gd_of (by omega) hp4
    · exact others x h
  generalize (vs ++ [PyData.tuple g4]) ++ [.list fs, .tuple (fs ++ [.int 0]), .tuple (fs.take 6), .none, .str "facts", .tuple []] = all at hall ⊢
  walk_at "e"
  refine sat_bind (forF_sat (fun i s => s = [.fz (scrD ns), .fz (.tuple fs), .fz (.list all), .un, .un, .un]) rfl (fun i d st hd hI => ?_) (fun st hI => ?_))
  · subst hI
    obtain ⟨c1, c2⟩ := F_both (hall d (List.mem_of_getElem? hd))
    walk_at "e c1 c2"
    cases soundD d <;> exact ⟨_, rfl, lp_nx rfl⟩
  · subst hI
    walk_at "e"
    exact ⟨_, rfl, rfl⟩

theorem all_mk {l : PySem.W.OpenLaw} {w : World} {K : PySem.W.Frag} {h : Heap} {mg : Str → Option Value} {fa : Addr} (X : K.In h) (G : h.Ns mainGlobals mg) (hfa : mg "law" = some (.ref fa))
    {f1 : Addr} {od1 an1 : Option Addr} {sl1 : Array (Option Value)} {oc1 kV1 dc1 pm1 cd1 ct1 : Value}
    (a1 : PySem.W.nsIn K mainGlobals "is_integer_from" = some (some (.ref f1))) (l1 : K.lookup f1 = some ⟨oc1, od1, .func (PySem.W.fnOf "is_integer_from" "is_integer_from" (defArgs s_is_integer_from) (defBody s_is_integer_from) (defScope s_is_integer_from) .none kV1 dc1 pm1 an1 cd1 ct1), sl1⟩) (c1 : PySem.W.codeIn K cd1 "is_integer_from" = true) (k1 : PySem.W.keepIn K (.ref f1) = true)
    {f2 : Addr} {od2 an2 : Option Addr} {sl2 : Array (Option Value)} {oc2 kV2 dc2 pm2 cd2 ct2 : Value}
    (a2 : PySem.W.nsIn K mainGlobals "is_byte_tuple" = some (some (.ref f2))) (l2 : K.lookup f2 = some ⟨oc2, od2, .func (PySem.W.fnOf "is_byte_tuple" "is_byte_tuple" (defArgs s_is_byte_tuple) (defBody s_is_byte_tuple) (defScope s_is_byte_tuple) .none kV2 dc2 pm2 an2 cd2 ct2), sl2⟩) (c2 : PySem.W.codeIn K cd2 "is_byte_tuple" = true) (k2 : PySem.W.keepIn K (.ref f2) = true)
    {f3 : Addr} {od3 an3 : Option Addr} {sl3 : Array (Option Value)} {oc3 kV3 dc3 pm3 cd3 ct3 : Value}
    (a3 : PySem.W.nsIn K mainGlobals "is_tuple_of" = some (some (.ref f3))) (l3 : K.lookup f3 = some ⟨oc3, od3, .func (PySem.W.fnOf "is_tuple_of" "is_tuple_of" (defArgs s_is_tuple_of) (defBody s_is_tuple_of) (defScope s_is_tuple_of) .none kV3 dc3 pm3 an3 cd3 ct3), sl3⟩) (c3 : PySem.W.codeIn K cd3 "is_tuple_of" = true) (k3 : PySem.W.keepIn K (.ref f3) = true)
    {f4 : Addr} {od4 an4 : Option Addr} {sl4 : Array (Option Value)} {oc4 kV4 dc4 pm4 cd4 ct4 : Value}
    (a4 : PySem.W.nsIn K mainGlobals "is_sound" = some (some (.ref f4))) (l4 : K.lookup f4 = some ⟨oc4, od4, .func (PySem.W.fnOf "is_sound" "is_sound" (defArgs s_is_sound) (defBody s_is_sound) (defScope s_is_sound) .none kV4 dc4 pm4 an4 cd4 ct4), sl4⟩) (c4 : PySem.W.codeIn K cd4 "is_sound" = true) (k4 : PySem.W.keepIn K (.ref f4) = true)
    {f5 : Addr} {od5 an5 : Option Addr} {sl5 : Array (Option Value)} {oc5 kV5 dc5 pm5 cd5 ct5 : Value}
    (a5 : PySem.W.nsIn K mainGlobals "_are_kinds" = some (some (.ref f5))) (l5 : K.lookup f5 = some ⟨oc5, od5, .func (PySem.W.fnOf "_are_kinds" "_are_kinds" (defArgs s__are_kinds) (defBody s__are_kinds) (defScope s__are_kinds) .none kV5 dc5 pm5 an5 cd5 ct5), sl5⟩) (c5 : PySem.W.codeIn K cd5 "_are_kinds" = true) (k5 : PySem.W.keepIn K (.ref f5) = true)
    {f6 : Addr} {od6 an6 : Option Addr} {sl6 : Array (Option Value)} {oc6 kV6 dc6 pm6 cd6 ct6 : Value}
    (a6 : PySem.W.nsIn K mainGlobals "possible_choices" = some (some (.ref f6))) (l6 : K.lookup f6 = some ⟨oc6, od6, .func (PySem.W.fnOf "possible_choices" "possible_choices" (defArgs s_possible_choices) (defBody s_possible_choices) (defScope s_possible_choices) .none kV6 dc6 pm6 an6 cd6 ct6), sl6⟩) (c6 : PySem.W.codeIn K cd6 "possible_choices" = true) (k6 : PySem.W.keepIn K (.ref f6) = true)
    {f7 : Addr} {od7 an7 : Option Addr} {sl7 : Array (Option Value)} {oc7 kV7 dc7 pm7 cd7 ct7 : Value}
    (a7 : PySem.W.nsIn K mainGlobals "_law_cell" = some (some (.ref f7))) (l7 : K.lookup f7 = some ⟨oc7, od7, .func (PySem.W.fnOf "_law_cell" "_law_cell" (defArgs s__law_cell) (defBody s__law_cell) (defScope s__law_cell) .none kV7 dc7 pm7 an7 cd7 ct7), sl7⟩) (c7 : PySem.W.codeIn K cd7 "_law_cell" = true) (k7 : PySem.W.keepIn K (.ref f7) = true)
    {f8 : Addr} {od8 an8 : Option Addr} {sl8 : Array (Option Value)} {oc8 kV8 dc8 pm8 cd8 ct8 : Value}
    (a8 : PySem.W.nsIn K mainGlobals "_law_is_integer" = some (some (.ref f8))) (l8 : K.lookup f8 = some ⟨oc8, od8, .func (PySem.W.fnOf "_law_is_integer" "_law_is_integer" (defArgs s__law_is_integer) (defBody s__law_is_integer) (defScope s__law_is_integer) .none kV8 dc8 pm8 an8 cd8 ct8), sl8⟩) (c8 : PySem.W.codeIn K cd8 "_law_is_integer" = true) (k8 : PySem.W.keepIn K (.ref f8) = true)
    {f9 : Addr} {od9 an9 : Option Addr} {sl9 : Array (Option Value)} {oc9 kV9 dc9 pm9 cd9 ct9 : Value}
    (a9 : PySem.W.nsIn K mainGlobals "_law_row" = some (some (.ref f9))) (l9 : K.lookup f9 = some ⟨oc9, od9, .func (PySem.W.fnOf "_law_row" "_law_row" (defArgs s__law_row) (defBody s__law_row) (defScope s__law_row) .none kV9 dc9 pm9 an9 cd9 ct9), sl9⟩) (c9 : PySem.W.codeIn K cd9 "_law_row" = true) (k9 : PySem.W.keepIn K (.ref f9) = true)
    {f10 : Addr} {od10 an10 : Option Addr} {sl10 : Array (Option Value)} {oc10 kV10 dc10 pm10 cd10 ct10 : Value}
    (a10 : PySem.W.nsIn K mainGlobals "_law_kinds" = some (some (.ref f10))) (l10 : K.lookup f10 = some ⟨oc10, od10, .func (PySem.W.fnOf "_law_kinds" "_law_kinds" (defArgs s__law_kinds) (defBody s__law_kinds) (defScope s__law_kinds) .none kV10 dc10 pm10 an10 cd10 ct10), sl10⟩) (c10 : PySem.W.codeIn K cd10 "_law_kinds" = true) (k10 : PySem.W.keepIn K (.ref f10) = true)
    {f11 : Addr} {od11 an11 : Option Addr} {sl11 : Array (Option Value)} {oc11 kV11 dc11 pm11 cd11 ct11 : Value}
    (a11 : PySem.W.nsIn K mainGlobals "_law_acts" = some (some (.ref f11))) (l11 : K.lookup f11 = some ⟨oc11, od11, .func (PySem.W.fnOf "_law_acts" "_law_acts" (defArgs s__law_acts) (defBody s__law_acts) (defScope s__law_acts) .none kV11 dc11 pm11 an11 cd11 ct11), sl11⟩) (c11 : PySem.W.codeIn K cd11 "_law_acts" = true) (k11 : PySem.W.keepIn K (.ref f11) = true)
    {f12 : Addr} {od12 an12 : Option Addr} {sl12 : Array (Option Value)} {oc12 kV12 dc12 pm12 cd12 ct12 : Value}
    (a12 : PySem.W.nsIn K mainGlobals "_law_facts" = some (some (.ref f12))) (l12 : K.lookup f12 = some ⟨oc12, od12, .func (PySem.W.fnOf "_law_facts" "_law_facts" (defArgs s__law_facts) (defBody s__law_facts) (defScope s__law_facts) .none kV12 dc12 pm12 an12 cd12 ct12), sl12⟩) (c12 : PySem.W.codeIn K cd12 "_law_facts" = true) (k12 : PySem.W.keepIn K (.ref f12) = true)
    {f13 : Addr} {od13 an13 : Option Addr} {sl13 : Array (Option Value)} {oc13 kV13 dc13 pm13 cd13 ct13 : Value}
    (a13 : PySem.W.nsIn K mainGlobals "_law_replaced" = some (some (.ref f13))) (l13 : K.lookup f13 = some ⟨oc13, od13, .func (PySem.W.fnOf "_law_replaced" "_law_replaced" (defArgs s__law_replaced) (defBody s__law_replaced) (defScope s__law_replaced) .none kV13 dc13 pm13 an13 cd13 ct13), sl13⟩) (c13 : PySem.W.codeIn K cd13 "_law_replaced" = true) (k13 : PySem.W.keepIn K (.ref f13) = true)
    {f14 : Addr} {od14 an14 : Option Addr} {sl14 : Array (Option Value)} {oc14 kV14 dc14 pm14 cd14 ct14 : Value}
    (a14 : PySem.W.nsIn K mainGlobals "_law_number" = some (some (.ref f14))) (l14 : K.lookup f14 = some ⟨oc14, od14, .func (PySem.W.fnOf "_law_number" "_law_number" (defArgs s__law_number) (defBody s__law_number) (defScope s__law_number) .none kV14 dc14 pm14 an14 cd14 ct14), sl14⟩) (c14 : PySem.W.codeIn K cd14 "_law_number" = true) (k14 : PySem.W.keepIn K (.ref f14) = true)
    {f15 : Addr} {od15 an15 : Option Addr} {sl15 : Array (Option Value)} {oc15 kV15 dc15 pm15 cd15 ct15 : Value}
    (a15 : PySem.W.nsIn K mainGlobals "_law_words" = some (some (.ref f15))) (l15 : K.lookup f15 = some ⟨oc15, od15, .func (PySem.W.fnOf "_law_words" "_law_words" (defArgs s__law_words) (defBody s__law_words) (defScope s__law_words) .none kV15 dc15 pm15 an15 cd15 ct15), sl15⟩) (c15 : PySem.W.codeIn K cd15 "_law_words" = true) (k15 : PySem.W.keepIn K (.ref f15) = true)
    {f16 : Addr} {od16 an16 : Option Addr} {sl16 : Array (Option Value)} {oc16 kV16 dc16 pm16 cd16 ct16 : Value}
    (a16 : PySem.W.nsIn K mainGlobals "_law_kind_fits" = some (some (.ref f16))) (l16 : K.lookup f16 = some ⟨oc16, od16, .func (PySem.W.fnOf "_law_kind_fits" "_law_kind_fits" (defArgs s__law_kind_fits) (defBody s__law_kind_fits) (defScope s__law_kind_fits) .none kV16 dc16 pm16 an16 cd16 ct16), sl16⟩) (c16 : PySem.W.codeIn K cd16 "_law_kind_fits" = true) (k16 : PySem.W.keepIn K (.ref f16) = true)
    {f17 : Addr} {od17 an17 : Option Addr} {sl17 : Array (Option Value)} {oc17 kV17 dc17 pm17 cd17 ct17 : Value}
    (a17 : PySem.W.nsIn K mainGlobals "_law_due" = some (some (.ref f17))) (l17 : K.lookup f17 = some ⟨oc17, od17, .func (PySem.W.fnOf "_law_due" "_law_due" (defArgs s__law_due) (defBody s__law_due) (defScope s__law_due) .none kV17 dc17 pm17 an17 cd17 ct17), sl17⟩) (c17 : PySem.W.codeIn K cd17 "_law_due" = true) (k17 : PySem.W.keepIn K (.ref f17) = true)
    {f18 : Addr} {od18 an18 : Option Addr} {sl18 : Array (Option Value)} {oc18 kV18 dc18 pm18 cd18 ct18 : Value}
    (a18 : PySem.W.nsIn K mainGlobals "law" = some (some (.ref f18))) (l18 : K.lookup f18 = some ⟨oc18, od18, .func (PySem.W.fnOf "law" "law" (defArgs s_law) (defBody s_law) (defScope s_law) .none kV18 dc18 pm18 an18 cd18 ct18), sl18⟩) (c18 : PySem.W.codeIn K cd18 "law" = true) (k18 : PySem.W.keepIn K (.ref f18) = true)
    {f19 : Addr} {it19 : Array Value} {n19 : Nat} (a19 : PySem.W.nsIn K mainGlobals "KINDS" = some (some (.ref f19))) (l19 : K.lookup f19 = some ⟨.type "tuple", none, .seq it19 n19, #[]⟩) (v19 : Vals [V.str "still", V.str "picture", V.str "film", V.str "sheet", V.str "folio", V.str "crate"] it19.toList)
    {f20 : Addr} {it20 : Array Value} {n20 : Nat} (a20 : PySem.W.nsIn K mainGlobals "ACT_KINDS" = some (some (.ref f20))) (l20 : K.lookup f20 = some ⟨.type "tuple", none, .seq it20 n20, #[]⟩) (v20 : Vals [V.str "open", V.str "file", V.str "link", V.str "form", V.str "fetch", V.str "script"] it20.toList)
    {t21 : Tok} (a21 : PySem.W.nsIn K mainGlobals "GREATEST_SIZE" = some (some (.int 2147483647 t21)))
    {t22 : Tok} (a22 : PySem.W.nsIn K mainGlobals "MOST_PAGES" = some (some (.int 8 t22)))
    {t23 : Tok} (a23 : PySem.W.nsIn K mainGlobals "GREATEST_DEPTH" = some (some (.int 4 t23)))
    {t24 : Tok} (a24 : PySem.W.nsIn K mainGlobals "_FIRST_LOOSE" = some (some (.int 4 t24)))
    (a25 : PySem.W.nsIn K mainGlobals "abs" = some none)
    (a26 : PySem.W.nsIn K mainGlobals "all" = some none)
    (a27 : PySem.W.nsIn K mainGlobals "bool" = some none)
    (a28 : PySem.W.nsIn K mainGlobals "int" = some none)
    (a29 : PySem.W.nsIn K mainGlobals "isinstance" = some none)
    (a30 : PySem.W.nsIn K mainGlobals "len" = some none)
    (a31 : PySem.W.nsIn K mainGlobals "list" = some none)
    (a32 : PySem.W.nsIn K mainGlobals "range" = some none)
    (a33 : PySem.W.nsIn K mainGlobals "str" = some none)
    (a34 : PySem.W.nsIn K mainGlobals "tuple" = some none)
    (a35 : PySem.W.nsIn K mainGlobals "zip" = some none)
    : ∃ fd : FuncData, (∀ (s : Shared) (v : Value), BindsTo s fd ⟨[v], []⟩ [("script", v)]) ∧ ∀ base : Heap, K.In base → base.Ns mainGlobals mg → FnOk l.prog w K mg base CX0 4 fa fd ["script"] (spLaw K) := by
  have e := hfa.symm.trans (PySem.W.mg_of X G a18)
  cases e
  have F1 := fun_mk (st := s_is_integer_from) l1 c1 k1
  have b1 := F1.binds (ps := ["value", "low", "high"]) fun _ _ _ _ _ _ us hl => match us, hl with | [_, _, _], _ => rfl
  have F2 := fun_mk (st := s_is_byte_tuple) l2 c2 k2
  have b2 := F2.binds (ps := ["value"]) fun _ _ _ _ _ _ us hl => match us, hl with | [_], _ => rfl
  have F3 := fun_mk (st := s_is_tuple_of) l3 c3 k3
  have b3 := F3.binds (ps := ["value", "length"]) fun _ _ _ _ _ _ us hl => match us, hl with | [_, _], _ => rfl
  have F4 := fun_mk (st := s_is_sound) l4 c4 k4
  have b4 := F4.binds (ps := ["value"]) fun _ _ _ _ _ _ us hl => match us, hl with | [_], _ => rfl
  have F5 := fun_mk (st := s__are_kinds) l5 c5 k5
  have b5 := F5.binds (ps := ["value"]) fun _ _ _ _ _ _ us hl => match us, hl with | [_], _ => rfl
  have F6 := fun_mk (st := s_possible_choices) l6 c6 k6
  have b6 := F6.binds (ps := ["kinds"]) fun _ _ _ _ _ _ us hl => match us, hl with | [_], _ => rfl
  have F7 := fun_mk (st := s__law_cell) l7 c7 k7
  have b7 := F7.binds (ps := ["script", "k"]) fun _ _ _ _ _ _ us hl => match us, hl with | [_, _], _ => rfl
  have F8 := fun_mk (st := s__law_is_integer) l8 c8 k8
  have b8 := F8.binds (ps := ["actual"]) fun _ _ _ _ _ _ us hl => match us, hl with | [_], _ => rfl
  have F9 := fun_mk (st := s__law_row) l9 c9 k9
  have b9 := F9.binds (ps := ["cell", "count"]) fun _ _ _ _ _ _ us hl => match us, hl with | [_, _], _ => rfl
  have F10 := fun_mk (st := s__law_kinds) l10 c10 k10
  have b10 := F10.binds (ps := []) fun _ _ _ _ _ _ us hl => match us, hl with | [], _ => rfl
  have F11 := fun_mk (st := s__law_acts) l11 c11 k11
  have b11 := F11.binds (ps := []) fun _ _ _ _ _ _ us hl => match us, hl with | [], _ => rfl
  have F12 := fun_mk (st := s__law_facts) l12 c12 k12
  have b12 := F12.binds (ps := ["script", "at"]) fun _ _ _ _ _ _ us hl => match us, hl with | [_, _], _ => rfl
  have F13 := fun_mk (st := s__law_replaced) l13 c13 k13
  have b13 := F13.binds (ps := ["facts", "cell"]) fun _ _ _ _ _ _ us hl => match us, hl with | [_, _], _ => rfl
  have F14 := fun_mk (st := s__law_number) l14 c14 k14
  have b14 := F14.binds (ps := ["value", "most"]) fun _ _ _ _ _ _ us hl => match us, hl with | [_, _], _ => rfl
  have F15 := fun_mk (st := s__law_words) l15 c15 k15
  have b15 := F15.binds (ps := ["value", "words"]) fun _ _ _ _ _ _ us hl => match us, hl with | [_, _], _ => rfl
  have F16 := fun_mk (st := s__law_kind_fits) l16 c16 k16
  have b16 := F16.binds (ps := ["kind", "kinds"]) fun _ _ _ _ _ _ us hl => match us, hl with | [_, _], _ => rfl
  have F17 := fun_mk (st := s__law_due) l17 c17 k17
  have b17 := F17.binds (ps := ["value"]) fun _ _ _ _ _ _ us hl => match us, hl with | [_], _ => rfl
  have F18 := fun_mk (st := s_law) l18 c18 k18
  have b18 := F18.binds (ps := ["script"]) fun _ _ _ _ _ _ us hl => match us, hl with | [_], _ => rfl
  have T : Txt K mg := ⟨f1, _, F1, b1, PySem.W.mg_of X G a1,
    f2, _, F2, b2, PySem.W.mg_of X G a2,
    f3, _, F3, b3, PySem.W.mg_of X G a3,
    f4, _, F4, b4, PySem.W.mg_of X G a4,
    f5, _, F5, b5, PySem.W.mg_of X G a5,
    f6, _, F6, b6, PySem.W.mg_of X G a6,
    f7, _, F7, b7, PySem.W.mg_of X G a7,
    f8, _, F8, b8, PySem.W.mg_of X G a8,
    f9, _, F9, b9, PySem.W.mg_of X G a9,
    f10, _, F10, b10, PySem.W.mg_of X G a10,
    f11, _, F11, b11, PySem.W.mg_of X G a11,
    f12, _, F12, b12, PySem.W.mg_of X G a12,
    f13, _, F13, b13, PySem.W.mg_of X G a13,
    f14, _, F14, b14, PySem.W.mg_of X G a14,
    f15, _, F15, b15, PySem.W.mg_of X G a15,
    f16, _, F16, b16, PySem.W.mg_of X G a16,
    f17, _, F17, b17, PySem.W.mg_of X G a17,
    fa, _, F18, b18, PySem.W.mg_of X G a18,
    f19, PySem.W.mg_of X G a19, fun H => Or.inr ⟨_, it19, n19, l19, rfl, rfl, by have := v19.length; simp at this; rw [← this]; decide, v19⟩, ⟨_, l19, rfl, rfl⟩,
    f20, PySem.W.mg_of X G a20, fun H => Or.inr ⟨_, it20, n20, l20, rfl, rfl, by have := v20.length; simp at this; rw [← this]; decide, v20⟩, ⟨_, l20, rfl, rfl⟩,
    t21, PySem.W.mg_of X G a21,
    t22, PySem.W.mg_of X G a22,
    t23, PySem.W.mg_of X G a23,
    t24, PySem.W.mg_of X G a24,
    PySem.W.mg_none_of X G a25,
    PySem.W.mg_none_of X G a26,
    PySem.W.mg_none_of X G a27,
    PySem.W.mg_none_of X G a28,
    PySem.W.mg_none_of X G a29,
    PySem.W.mg_none_of X G a30,
    PySem.W.mg_none_of X G a31,
    PySem.W.mg_none_of X G a32,
    PySem.W.mg_none_of X G a33,
    PySem.W.mg_none_of X G a34,
    PySem.W.mg_none_of X G a35⟩
  refine ⟨PySem.W.fnOf "law" "law" (defArgs s_law) (defBody s_law) (defScope s_law) .none kV18 dc18 pm18 an18 cd18 ct18, fun s v => .of_eq rfl, fun base _ _ => ?_⟩
  exact ok_law_of F18 T law_true
end K71
open PySem PySem.W PyProof.Rows
set_option maxRecDepth 100000 in
set_option maxHeartbeats 0 in
theorem PySem.Challenge.cw_stillroom_k71_sound_facts_holds : PySem.Challenge.rw_stillroom_k71_sound_facts.Holds := by
  w_on; o_law; k_head; (case hw => w_witness2)
  k_fill
  refine L2.walk_of (l := PySem.Challenge.rw_stillroom_k71_sound_facts) (n := 63) (k := 4) (x := "script") (CX := fun _ => L2.CX0) (sp := fun w => K71.spLaw _) rfl (by decide) rfl ⟨rfl, by decide, by decide⟩ (fun w h Y => PySem.W.kIn_of Y) ?F (fun _ _ a ns hl _ hS => ⟨a, ns, rfl, hS, hl, fun _ => rfl⟩) (fun _ _ _ _ _ h => h)
  case F =>
    intro w mg fa h KX G hmg
    refine' K71.all_mk KX G hmg ?a1 ?l1 ?c1 ?k1 ?a2 ?l2 ?c2 ?k2 ?a3 ?l3 ?c3 ?k3 ?a4 ?l4 ?c4 ?k4 ?a5 ?l5 ?c5 ?k5 ?a6 ?l6 ?c6 ?k6 ?a7 ?l7 ?c7 ?k7 ?a8 ?l8 ?c8 ?k8 ?a9 ?l9 ?c9 ?k9 ?a10 ?l10 ?c10 ?k10 ?a11 ?l11 ?c11 ?k11 ?a12 ?l12 ?c12 ?k12 ?a13 ?l13 ?c13 ?k13 ?a14 ?l14 ?c14 ?k14 ?a15 ?l15 ?c15 ?k15 ?a16 ?l16 ?c16 ?k16 ?a17 ?l17 ?c17 ?k17 ?a18 ?l18 ?c18 ?k18 ?a19 ?l19 ?v19 ?a20 ?l20 ?v20 ?a21 ?a22 ?a23 ?a24 ?a25 ?a26 ?a27 ?a28 ?a29 ?a30 ?a31 ?a32 ?a33 ?a34 ?a35
    (case a1 => k_is)
    (case l1 => k_is)
    (case c1 => k_is)
    (case k1 => k_is)
    (case a2 => k_is)
    (case l2 => k_is)
    (case c2 => k_is)
    (case k2 => k_is)
    (case a3 => k_is)
    (case l3 => k_is)
    (case c3 => k_is)
    (case k3 => k_is)
    (case a4 => k_is)
    (case l4 => k_is)
    (case c4 => k_is)
    (case k4 => k_is)
    (case a5 => k_is)
    (case l5 => k_is)
    (case c5 => k_is)
    (case k5 => k_is)
    (case a6 => k_is)
    (case l6 => k_is)
    (case c6 => k_is)
    (case k6 => k_is)
    (case a7 => k_is)
    (case l7 => k_is)
    (case c7 => k_is)
    (case k7 => k_is)
    (case a8 => k_is)
    (case l8 => k_is)
    (case c8 => k_is)
    (case k8 => k_is)
    (case a9 => k_is)
    (case l9 => k_is)
    (case c9 => k_is)
    (case k9 => k_is)
    (case a10 => k_is)
    (case l10 => k_is)
    (case c10 => k_is)
    (case k10 => k_is)
    (case a11 => k_is)
    (case l11 => k_is)
    (case c11 => k_is)
    (case k11 => k_is)
    (case a12 => k_is)
    (case l12 => k_is)
    (case c12 => k_is)
    (case k12 => k_is)
    (case a13 => k_is)
    (case l13 => k_is)
    (case c13 => k_is)
    (case k13 => k_is)
    (case a14 => k_is)
    (case l14 => k_is)
    (case c14 => k_is)
    (case k14 => k_is)
    (case a15 => k_is)
    (case l15 => k_is)
    (case c15 => k_is)
    (case k15 => k_is)
    (case a16 => k_is)
    (case l16 => k_is)
    (case c16 => k_is)
    (case k16 => k_is)
    (case a17 => k_is)
    (case l17 => k_is)
    (case c17 => k_is)
    (case k17 => k_is)
    (case a18 => k_is)
    (case l18 => k_is)
    (case c18 => k_is)
    (case k18 => k_is)
    (case a19 => k_is)
    (case l19 => k_is)
    (case v19 => repeat' first | exact Paired.nil | refine Paired.cons ⟨_, rfl⟩ ?_ | refine Paired.cons rfl ?_)
    (case a20 => k_is)
    (case l20 => k_is)
    (case v20 => repeat' first | exact Paired.nil | refine Paired.cons ⟨_, rfl⟩ ?_ | refine Paired.cons rfl ?_)
    (case a21 => k_is)
    (case a22 => k_is)
    (case a23 => k_is)
    (case a24 => k_is)
    (case a25 => k_is)
    (case a26 => k_is)
    (case a27 => k_is)
    (case a28 => k_is)
    (case a29 => k_is)
    (case a30 => k_is)
    (case a31 => k_is)
    (case a32 => k_is)
    (case a33 => k_is)
    (case a34 => k_is)
    (case a35 => k_is)


import PyProof.Rows.All
import Wide.All
import OpenK.AllK
import Wide.FinOn
import HandS.ForMost
import HandS.Wide
import HandS.IsInst
import HandS.FStr
import PySem.Challenge.RW_stillroom_k01_check_sums
set_option Elab.async false
set_option linter.all false
set_option maxRecDepth 100000
namespace K01
open PySem PySem.Spec PyProof.Rows L2

/-! ### rules with plainer readings -/
section
variable {X : Cx}
theorem CallR.of {f : Value} {r r' : List V → Hp → VK → Prop} (h : CallR X f r) (k : ∀ xs H Q, r' xs H Q → r xs H Q) : CallR X f r' := fun pins s σ H xs us Q I rv q => h pins s σ H xs us Q I rv (k xs H Q q)
theorem OpR.of {f : Value → Value → Sem Value} {r r' : R2} (h : OpR X f r) (k : ∀ x y H Q, r' x y H Q → r x y H Q) : OpR X f r' := fun pins s σ H x y v u Q I rx ry q => h pins s σ H x y v u Q I rx ry (k x y H Q q)
/-- the name of a plain value's type -/
def tnm : V → Option String
  | .non => some "NoneType"
  | .bl _ => some "bool"
  | .int _ => some "int"
  | .str _ => some "str"
  | _ => none
theorem tnm_int (i : Int) : tnm (.int i) = some "int" := rfl
theorem tnm_bl (b : Bool) : tnm (.bl b) = some "bool" := rfl
theorem tnm_str (x : Str) : tnm (.str x) = some "str" := rfl
theorem tnm_non : tnm .non = some "NoneType" := rfl
theorem tnm_ref (p : Addr) : tnm (.ref p) = none := rfl
theorem scal_ii (i j : Int) : scal (.int i) (.int j) = true := rfl
theorem scal_ss (i j : Str) : scal (.str i) (.str j) = true := rfl
theorem scal_bb (i j : Bool) : scal (.bl i) (.bl j) = true := rfl
theorem scal_nn : scal .non .non = true := rfl
theorem scal_in (i : Int) : scal (.int i) .non = true := rfl
theorem scal_ni (i : Int) : scal .non (.int i) = true := rfl
def rIsiB : List V → Hp → VK → Prop := fun vs H Q => (∃ x n a b, vs = [x, .ty n] ∧ tnm x = some a ∧ kitB a n = some b ∧ Q (.bl b) H) ∨
  (∃ p n xs b, vs = [.ref p, .ty n] ∧ H p = some (.lst xs) ∧ kitB "list" n = some b ∧ Q (.bl b) H) ∨ ∃ p n xs b, vs = [.ref p, .ty n] ∧ H p = some (.tup xs) ∧ kitB "tuple" n = some b ∧ Q (.bl b) H
theorem call_isiB : CallR X (.builtin "isinstance") rIsiB := CallR.of call_isi (by
  intro vs H Q h
  rcases h with ⟨x, n, a, b, rfl, ha, hb, q⟩ | ⟨p, n, xs, b, rfl, ha, hb, q⟩ | ⟨p, n, xs, b, rfl, ha, hb, q⟩
  · refine ⟨x, .ty n, .type a, .type n, b, rfl, .ty n, ?_, kit_ty hb, q⟩
    cases x <;> cases ha
    · exact .base .non
    · exact .base (.bl _)
    · exact .base (.int _)
    · exact .base (.str _)
  · exact ⟨.ref p, .ty n, .type "list", .type n, b, rfl, .ty n, .base (.lst ha), kit_ty hb, q⟩
  · exact ⟨.ref p, .ty n, .type "tuple", .type n, b, rfl, .ty n, .base (.tup ha), kit_ty hb, q⟩)
theorem kb1 : kitB "int" "int" = some true := by decide +kernel
theorem kb2 : kitB "int" "bool" = some false := by decide +kernel
theorem kb3 : kitB "bool" "bool" = some true := by decide +kernel
theorem kb4 : kitB "bool" "int" = some true := by decide +kernel
theorem kb5 : kitB "str" "str" = some true := by decide +kernel
theorem kb6 : kitB "str" "int" = some false := by decide +kernel
theorem kb7 : kitB "list" "list" = some true := by decide +kernel
theorem kb8 : kitB "tuple" "tuple" = some true := by decide +kernel
theorem kb9 : kitB "NoneType" "int" = some false := by decide +kernel
theorem kb10 : kitB "NoneType" "list" = some false := by decide +kernel
/-- len, a copy, an item of a tracked list -/
def rLenH : List V → Hp → VK → Prop := fun vs H Q => ∃ p xs, vs = [.ref p] ∧ H p = some (.lst xs) ∧ Q (.int xs.length) H
theorem call_lenH : CallR X (.builtin "len") rLenH := CallR.of call_len_seq (by
  rintro vs H Q ⟨p, xs, rfl, h, q⟩
  exact ⟨p, xs, rfl, .inl (.inl (.inl h)), q⟩)
def rLenT : List V → Hp → VK → Prop := fun vs H Q => ∃ p xs, vs = [.ref p] ∧ H p = some (.tup xs) ∧ Q (.int xs.length) H
theorem call_lenT : CallR X (.builtin "len") rLenT := CallR.of call_len_seq (by
  rintro vs H Q ⟨p, xs, rfl, h, q⟩
  exact ⟨p, xs, rfl, .inr (.inl (.inl h)), q⟩)
def rListH : List V → Hp → VK → Prop := fun vs H Q => ∃ p xs, vs = [.ref p] ∧ H p = some (.lst xs) ∧ ∀ l, H l = none → Q (.ref l) (upd H l (.lst xs))
theorem call_listH : CallR X (.type "list") rListH := CallR.of call_list_of (by
  rintro vs H Q ⟨p, xs, rfl, h, q⟩
  exact ⟨p, xs, rfl, .inl (.inl (.inl h)), q⟩)
theorem ints_dp {K : PySem.W.Frag} {H : Hp} : ∀ ns : List Int, DpAll K H (ns.map V.int) (ns.map PyData.int)
  | [] => .nil
  | n :: r => .cons (.int n) (ints_dp r)
theorem ints_eqv : ∀ ns ms : List Int, PyData.eqvAll (ns.map PyData.int) (ms.map PyData.int) = decide (ns = ms)
  | [], [] => by simp [PyData.eqvAll]
  | [], _ :: _ => by simp [PyData.eqvAll]
  | _ :: _, [] => by simp [PyData.eqvAll]
  | n :: r, m :: q => by
    rw [List.map_cons, List.map_cons, PyData.eqvAll, ints_eqv r q]
    simp only [PyData.eqv, List.cons.injEq, Bool.decide_and]
    by_cases h : n = m <;> simp [h]
theorem ints_lay : ∀ ns : List Int, PyData.canLayAll0 (ns.map PyData.int) = true
  | [] => rfl
  | _ :: r => by rw [List.map_cons, PyData.canLayAll0, ints_lay r]; rfl
theorem ints_depth : ∀ ns : List Int, PyData.depthAll (ns.map PyData.int) = 0
  | [] => rfl
  | _ :: r => by rw [List.map_cons, PyData.depthAll, ints_depth r]; rfl
theorem ints_shaped (ns : List Int) : SeqAt.shaped (.list (ns.map PyData.int)) = true := by
  unfold SeqAt.shaped
  rw [PyData.canLay0, ints_lay, PyData.depth, ints_depth]
  rfl
/-- == and != of two tracked lists of ints -/
def rEqIL : R2 := fun x y H Q => ∃ a b ns ms, x = .ref a ∧ y = .ref b ∧ H a = some (.lst (List.map V.int ns)) ∧ H b = some (.lst (List.map V.int ms)) ∧ Q (.bl (decide (ns = ms))) H
theorem op_eqIL (hu : X.A.units + 64 < cLine) : OpR X (compareOp .Eq) rEqIL := OpR.of (op_eqD hu) (by
  rintro x y H Q ⟨a, b, ns, ms, rfl, rfl, ha, hb, q⟩
  refine ⟨_, _, .lst (.inl (.inl ha)) (ints_dp ns), .lst (.inl (.inl hb)) (ints_dp ms), ints_shaped ns, ints_shaped ms, ?_⟩
  rw [PyData.eqv, ints_eqv]
  exact q)
def rNeIL : R2 := fun x y H Q => ∃ a b ns ms, x = .ref a ∧ y = .ref b ∧ H a = some (.lst (List.map V.int ns)) ∧ H b = some (.lst (List.map V.int ms)) ∧ Q (.bl (!decide (ns = ms))) H
theorem op_neIL (hu : X.A.units + 64 < cLine) : OpR X (compareOp .NotEq) rNeIL := OpR.of (op_neD hu) (by
  rintro x y H Q ⟨a, b, ns, ms, rfl, rfl, ha, hb, q⟩
  refine ⟨_, _, .lst (.inl (.inl ha)) (ints_dp ns), .lst (.inl (.inl hb)) (ints_dp ms), ints_shaped ns, ints_shaped ms, ?_⟩
  rw [PyData.eqv, ints_eqv]
  exact q)
/-- == of two tracked tuples of plain things -/
def dS : V → PyData
  | .int i => .int i
  | .bl b => .bool b
  | _ => .none
def isS : V → Bool
  | .int _ => true
  | .bl _ => true
  | .non => true
  | _ => false
theorem isS_dp {K : PySem.W.Frag} {H : Hp} : ∀ xs : List V, xs.all isS = true → DpAll K H xs (xs.map dS)
  | [], _ => .nil
  | x :: r, h => by
    rw [List.all_cons, Bool.and_eq_true] at h
    refine .cons ?_ (isS_dp r h.2)
    have h1 := h.1
    cases x <;> first | exact .int _ | exact .bl _ | exact .non | cases h1
theorem isS_lay : ∀ xs : List V, PyData.canLayAll0 (xs.map dS) = true
  | [] => rfl
  | x :: r => by rw [List.map_cons, PyData.canLayAll0, isS_lay r]; cases x <;> rfl
theorem isS_depth : ∀ xs : List V, PyData.depthAll (xs.map dS) = 0
  | [] => rfl
  | x :: r => by rw [List.map_cons, PyData.depthAll, isS_depth r]; cases x <;> rfl
theorem isS_shaped (xs : List V) : SeqAt.shaped (.tuple (xs.map dS)) = true := by
  unfold SeqAt.shaped
  rw [PyData.canLay0, isS_lay, PyData.depth, isS_depth]
  rfl
def rEqTS : R2 := fun x y H Q => ∃ a b xs ys, x = .ref a ∧ y = .ref b ∧ H a = some (.tup xs) ∧ H b = some (.tup ys) ∧ xs.all isS = true ∧ ys.all isS = true ∧ Q (.bl (PyData.eqvAll (xs.map dS) (ys.map dS))) H
theorem op_eqTS (hu : X.A.units + 64 < cLine) : OpR X (compareOp .Eq) rEqTS := OpR.of (op_eqD hu) (by
  rintro x y H Q ⟨a, b, xs, ys, rfl, rfl, ha, hb, h1, h2, q⟩
  refine ⟨_, _, .tup (.inl (.inl ha)) (isS_dp xs h1), .tup (.inl (.inl hb)) (isS_dp ys h2), isS_shaped xs, isS_shaped ys, ?_⟩
  rw [PyData.eqv]
  exact q)
theorem dS_int (i : Int) : dS (.int i) = .int i := rfl
theorem dS_bl (b : Bool) : dS (.bl b) = .bool b := rfl
theorem isS_int (i : Int) : isS (.int i) = true := rfl
theorem isS_bl (b : Bool) : isS (.bl b) = true := rfl
theorem eqv_ii (i j : Int) : PyData.eqv (.int i) (.int j) = decide (i = j) := by rw [PyData.eqv]; rfl
theorem eqv_bb (i j : Bool) : PyData.eqv (.bool i) (.bool j) = decide (i = j) := by rw [PyData.eqv]; cases i <;> cases j <;> rfl
theorem eqvAll_nil : PyData.eqvAll [] [] = true := by rw [PyData.eqvAll]
theorem eqvAll_cons (x y : PyData) (xs ys : List PyData) : PyData.eqvAll (x :: xs) (y :: ys) = (PyData.eqv x y && PyData.eqvAll xs ys) := by rw [PyData.eqvAll]
theorem ip_of {op : Operator} {r : R2} (h : OpR X (inplaceOp op) r) : PIp X op r := fun pins s σ H x y v u Q I r1 r2 q => h pins s σ H x y v u Q I r1 r2 q
theorem SlR.of {r r' : V → Option Int → Option Int → Hp → VK → Prop} (h : SlR X r) (k : ∀ x lo hi H Q, r' x lo hi H Q → r x lo hi H Q) : SlR X r' := fun pins s σ H x v vl vu lo hi sl Q I rx hs pl pu q => h pins s σ H x v vl vu lo hi sl Q I rx hs pl pu (k x lo hi H Q q)
/-- a slice of a tracked list -/
def rSlH : V → Option Int → Option Int → Hp → VK → Prop := fun x lo hi H Q => ∃ a xs, x = .ref a ∧ H a = some (.lst xs) ∧ ∀ p, H p = none → Q (.ref p) (upd H p (.lst (cutV xs lo hi)))
theorem sl_listH : SlR X rSlH := SlR.of sl_list (by
  rintro x lo hi H Q ⟨a, xs, rfl, h, q⟩
  exact ⟨a, xs, rfl, .inl (.inl h), q⟩)
def rIxH : R2 := fun x y H Q => ∃ p xs i v, x = .ref p ∧ y = .int i ∧ H p = some (.lst xs) ∧ atI xs i = some v ∧ Q v H
theorem IxR.of {r r' : R2} (h : IxR X r) (k : ∀ x y H Q, r' x y H Q → r x y H Q) : IxR X r' := fun va sl pins s σ H x y v u Q I rx ry q hs => h va sl pins s σ H x y v u Q I rx ry (k x y H Q q) hs
theorem ix_listH : IxR X rIxH := IxR.of ix_list (by
  rintro x y H Q ⟨p, xs, i, v, e1, e2, h, h2, q⟩
  exact ⟨p, xs, i, v, e1, e2, .inl (.inl h), h2, q⟩)
def rIxTH : R2 := fun x y H Q => ∃ p xs i v, x = .ref p ∧ y = .int i ∧ H p = some (.tup xs) ∧ atI xs i = some v ∧ Q v H
theorem ix_tupH : IxR X rIxTH := IxR.of ix_tup (by
  rintro x y H Q ⟨p, xs, i, v, e1, e2, h, h2, q⟩
  exact ⟨p, xs, i, v, e1, e2, .inl (.inl h), h2, q⟩)
end
/-- a place in bounds -/
theorem ixN_in {n : Nat} {k : Int} (h0 : 0 ≤ k) (h1 : k < n) : ixN n k = some k.toNat := by
  unfold ixN
  rw [if_pos h0, if_pos h1]
theorem atI_in {xs : List Int} {k : Int} (h0 : 0 ≤ k) (h1 : k < xs.length) : ∃ b, xs[k.toNat]? = some b ∧ atI (xs.map V.int) k = some (.int b) := by
  have h : k.toNat < xs.length := by omega
  refine ⟨xs[k.toNat], List.getElem?_eq_getElem h, ?_⟩
  unfold atI
  rw [List.length_map, ixN_in h0 h1]
  show (xs.map V.int)[k.toNat]? = _
  rw [List.getElem?_map, List.getElem?_eq_getElem h]
  rfl
theorem mod_in (x : Int) {m : Int} (h : 0 < m) : 0 ≤ x % m ∧ x % m < m := ⟨Int.emod_nonneg x (by omega), Int.emod_lt_of_pos x h⟩
theorem atI_c0 {α : Type} (x : α) (xs : List α) : atI (x :: xs) 0 = some x := atI_nat (j := 0) rfl
theorem atI_c1 {α : Type} (x y : α) (xs : List α) : atI (x :: y :: xs) 1 = some y := atI_nat (j := 1) rfl
theorem atI_c2 {α : Type} (x y z : α) (xs : List α) : atI (x :: y :: z :: xs) 2 = some z := atI_nat (j := 2) rfl
theorem atI_c3 {α : Type} (x y z u : α) (xs : List α) : atI (x :: y :: z :: u :: xs) 3 = some u := atI_nat (j := 3) rfl

theorem tyV_upd {K : PySem.W.Frag} {H : Hp} {p : Addr} {xs : List V} : tyV K "list" (.ref p) (upd H p (.lst xs)) = True := eq_true (.inl ⟨rfl, xs, .inl (.inl upd_same)⟩)
theorem nil_sz : (0 ≤ sizeLine) = True := eq_true (Nat.zero_le _)
/-- what a for asks once its walk stands -/
def Loop (J : It) (g : TG) (tb : TS) (D : Ends) (σ : L2.St) (H1 : Hp) : Prop := ∃ W : Nat → Nat → L2.St → Hp → Prop, (∃ m, W 0 m σ H1) ∧ ∀ i m σ H, W i m σ H →
  (J.stop i H ∧ D.nx σ H) ∨ (J.go i H ∧ ∃ N : L2.St → Hp → Prop, (∀ σ' H', N σ' H' → ∃ m', m' < m ∧ W (i + 1) m' σ' H') ∧ ∀ x H', J.yld i H x H' → g x σ H' fun σ2 H2 => tb { D with nx := N, ct := N, bk := D.nx } σ2 H2)
theorem tFor_eq {wi : TI} {g : TG} {tb : TS} {D : Ends} {σ : L2.St} {H : Hp} : tFor wi g tb D σ H = wi σ H fun J H1 => Loop J g tb D σ H1 := rfl
theorem lp_range {n : Nat} {g : TG} {tb : TS} {D : Ends} {σ : L2.St} {H : Hp} (Pv : Nat → L2.St → Hp → Prop) (h0 : Pv 0 σ H)
    (hs : ∀ i σ H, i < n → Pv i σ H → g (.int i) σ H fun σ2 H2 => tb { D with nx := Pv (i + 1), ct := Pv (i + 1), bk := D.nx } σ2 H2) (hd : ∀ σ H, Pv n σ H → D.nx σ H) : Loop (Itr 0 n) g tb D σ H :=
  for_range (lo := 0) Pv h0 (fun i σ H a b => by have := hs i σ H a b; rw [Int.zero_add]; exact this) hd
theorem lp_list {K : PySem.W.Frag} {a : Addr} {xs : List V} {g : TG} {tb : TS} {D : Ends} {σ : L2.St} {H : Hp} (Pv : Nat → L2.St → Hp → Prop) (h0 : Pv 0 σ H) (hl : ∀ i σ H, i ≤ xs.length → Pv i σ H → SqL K H a xs)
    (hs : ∀ i x σ H, xs[i]? = some x → Pv i σ H → g x σ H fun σ2 H2 => tb { D with nx := Pv (i + 1), ct := Pv (i + 1), bk := D.nx } σ2 H2) (hd : ∀ σ H, Pv xs.length σ H → D.nx σ H) : Loop (Itl K a) g tb D σ H := for_list Pv h0 hl hs hd
/-- the same for a comprehension -/
def LcLoop (J : It) (g : TG) (tt : TT) (te : TE) (vs : List Nat) (σ : L2.St) (H1 : Hp) (Q : VK) : Prop := ∀ D, H1 D = none → ∃ W : Nat → Nat → Hp → Prop, (∃ m, W 0 m (upd H1 D (.lst []))) ∧ ∀ i m H, W i m H →
  (J.stop i H ∧ Q (.ref D) H) ∨ (J.go i H ∧ ∃ Nx : Hp → Prop, (∀ H', Nx H' → ∃ m', m' < m ∧ W (i + 1) m' H') ∧ ∀ x H', J.yld i H x H' → g x (wipe σ vs) H' fun σ2 H2 => wipe σ2 vs = wipe σ vs ∧ tt σ2 H2 fun b H3 =>
    if b = true then te σ2 H3 fun y H4 => ∃ acc, H4 D = some (.lst acc) ∧ acc.length < sizeLine ∧ Nx (upd H4 D (.lst (acc ++ [y]))) else Nx H3)
theorem tLc_eq {wi : TI} {g : TG} {tt : TT} {te : TE} {vs : List Nat} {σ : L2.St} {H : Hp} {Q : VK} : tLc wi g tt te vs σ H Q = wi σ H fun J H1 => LcLoop J g tt te vs σ H1 Q := rfl
/-- a comprehension over a list, whose elements leave the heap as it is: L i is what i turns have made -/
theorem lc_pure {K : PySem.W.Frag} {a : Addr} {xs : List V} {g : TG} {tt : TT} {te : TE} {vs : List Nat} {σ : L2.St} {H1 : Hp} {Q : VK} (L : Nat → List V) (hS : SqL K H1 a xs) (h0 : L 0 = [])
    (hs : ∀ i x D, xs[i]? = some x → H1 D = none → g x (wipe σ vs) (upd H1 D (.lst (L i))) fun σ2 H2 => wipe σ2 vs = wipe σ vs ∧ tt σ2 H2 fun b H3 =>
      if b = true then te σ2 H3 fun y H4 => ∃ acc, H4 D = some (.lst acc) ∧ acc.length < sizeLine ∧ upd H4 D (.lst (acc ++ [y])) = upd H1 D (.lst (L (i + 1))) else H3 = upd H1 D (.lst (L (i + 1))))
    (hd : ∀ D, H1 D = none → Q (.ref D) (upd H1 D (.lst (L xs.length)))) : LcLoop (Itl K a) g tt te vs σ H1 Q := by
  intro D hD
  refine lc_list (K := K) (a := a) (xs := xs) (fun i H => H = upd H1 D (.lst (L i))) (by rw [h0]) (fun i H _ e => ?_) (fun i x H hx e => ?_) (fun H e => ?_)
  · subst e
    exact (show Same H1 _ from fun b o e => by rw [upd_ne (ne_of_none e hD)]; exact e).seq hS
  · subst e
    exact hs i x D hx hD
  · subst e
    exact hd D hD
theorem lc_pure_range {n : Nat} {g : TG} {tt : TT} {te : TE} {vs : List Nat} {σ : L2.St} {H1 : Hp} {Q : VK} (L : Nat → List V) (h0 : L 0 = [])
    (hs : ∀ i D, i < n → H1 D = none → g (.int i) (wipe σ vs) (upd H1 D (.lst (L i))) fun σ2 H2 => wipe σ2 vs = wipe σ vs ∧ tt σ2 H2 fun b H3 =>
      if b = true then te σ2 H3 fun y H4 => ∃ acc, H4 D = some (.lst acc) ∧ acc.length < sizeLine ∧ upd H4 D (.lst (acc ++ [y])) = upd H1 D (.lst (L (i + 1))) else H3 = upd H1 D (.lst (L (i + 1))))
    (hd : ∀ D, H1 D = none → Q (.ref D) (upd H1 D (.lst (L n)))) : LcLoop (Itr 0 n) g tt te vs σ H1 Q := by
  intro D hD
  refine lc_range (lo := 0) (n := n) (fun i H => H = upd H1 D (.lst (L i))) (by rw [h0]) (fun i H hi e => ?_) (fun H e => ?_)
  · subst e
    rw [Int.zero_add]
    exact hs i D hi hD
  · subst e
    exact hd D hD
theorem same_upd {H : Hp} {p : Addr} {o : HO} (h : H p = none) : Same H (upd H p o) := fun b x e => by
  rw [upd_ne (ne_of_none e h)]
  exact e
local macro_rules | `(tactic| walk_at "vc") => `(tactic| simp only [tSeq, tAsg, tOp, rI, rI0, rU, tUn, tCB, tCons, tNil, tVar, tC, gName, gSub, rSetL, tRet, tRetN, tIfS, tNext, tTest, tB, tDrop, tIf, tNot, tAnd, tOr, tAndV, tOrV, tNotV, tAug, ipI, tCall, tCmp, t2I, tBreak, tCont, tLst, tTup, tBM, tBM0, rAppend, tyV_upd, rLenH, rLenT, rListH, rIxH, rIxTH, rIxS, rEqIL, rNeIL, rEqTS, rSlH, rRep, rCat, rExtend, tSl, tPart, tNoPart, rIxT, gTup, gCons, gNil, atI_c0, atI_c1, atI_c2, atI_c3, dS_int, dS_bl, isS_int, isS_bl, eqv_ii, eqv_bb, eqvAll_nil, eqvAll_cons, List.all_cons, List.all_nil, Bool.and_true, Bool.true_and, rIsiB, tnm_int, tnm_bl, tnm_str, tnm_non, tnm_ref, kb1, kb2, kb3, kb4, kb5, kb6, kb7, kb8, kb9, kb10, rEq, rNe, scal_ii, scal_ss, scal_bb, scal_nn, scal_in, scal_ni,
  tFor_eq, tLc_eq, iRng1, iRng2, iList, iTup, Int.sub_zero, Int.toNat_natCast, Int.natCast_add,
  cxOf, L2.start, List.map_cons, List.map_nil, List.length_cons, List.length_nil, List.reduceReplicate, List.cons_append, List.nil_append, List.append_nil, List.set_cons_zero, List.set_cons_succ, List.getElem?_cons_zero, List.getElem?_cons_succ,
  upd_same, upd_upd, HO.lst.injEq, HO.tup.injEq, nil_sz,
  Option.some.injEq, V.int.injEq, V.bl.injEq, V.ref.injEq, V.str.injEq, V.ty.injEq, exists_eq_left', exists_eq_left, exists_eq', exists_eq, Int.cast_ofNat_Int, Int.reduceEq, Int.reduceMul, Int.reduceAdd, Int.reduceSub, Int.natCast_zero, Int.mul_zero, Int.add_zero, exists_and_left, exists_and_right, List.cons.injEq, and_true, true_and, and_assoc, reduceCtorEq, false_and, and_false, exists_false, exists_const, or_false, false_or, Nat.reduceAdd, Nat.reduceSub, Int.reduceLT, Int.reduceLE, Int.reduceNeg, Int.reducePow, Int.reduceToNat, ite_true, ite_false, Bool.false_eq_true, Bool.not_true, Bool.not_false, decide_true, if_true, if_false])

def topS (i : Nat) : Stmt := PySem.Challenge.pw_stillroom_k01_check_sums.main.body.getD i (.Pass ⟨0, 0, 0, 0⟩)
abbrev s_check_sum : Stmt := topS 3
abbrev s__law_cell : Stmt := topS 5
abbrev s__law_twice : Stmt := topS 6
abbrev s__law_bytes : Stmt := topS 7
abbrev s__law_integer : Stmt := topS 8
abbrev s__law_sum : Stmt := topS 9
abbrev s__law_changed : Stmt := topS 10
abbrev s_law : Stmt := topS 11
theorem sc_check_sum : FnScope ["data", "bits", "byte"] ["data"] (defScope s_check_sum) := ⟨rfl, rfl, rfl, by decide +kernel, rfl, by decide +kernel, by decide +kernel⟩
theorem sc__law_cell : FnScope ["script", "k"] ["script", "k"] (defScope s__law_cell) := ⟨rfl, rfl, rfl, by decide +kernel, rfl, by decide +kernel, by decide +kernel⟩
theorem sc__law_twice : FnScope ["cell", "k", "x"] ["cell", "k"] (defScope s__law_twice) := ⟨rfl, rfl, rfl, by decide +kernel, rfl, by decide +kernel, by decide +kernel⟩
theorem sc__law_bytes : FnScope ["cell", "size", "left", "great", "data", "k"] ["cell", "size"] (defScope s__law_bytes) := ⟨rfl, rfl, rfl, by decide +kernel, rfl, by decide +kernel, by decide +kernel⟩
theorem sc__law_integer : FnScope ["value"] ["value"] (defScope s__law_integer) := ⟨rfl, rfl, rfl, by decide +kernel, rfl, by decide +kernel, by decide +kernel⟩
theorem sc__law_sum : FnScope ["data", "bits", "byte", "at", "crc", "bit", "out", "total"] ["data"] (defScope s__law_sum) := ⟨rfl, rfl, rfl, by decide +kernel, rfl, by decide +kernel, by decide +kernel⟩
theorem sc__law_changed : FnScope ["data", "cell", "other", "out", "start", "pattern", "at", "place"] ["data", "cell", "other"] (defScope s__law_changed) := ⟨rfl, rfl, rfl, by decide +kernel, rfl, by decide +kernel, by decide +kernel⟩
theorem sc_law : FnScope ["script", "cell", "data", "given", "found", "other", "third", "mixed", "k"] ["script"] (defScope s_law) := ⟨rfl, rfl, rfl, by decide +kernel, rfl, by decide +kernel, by decide +kernel⟩
/-- what the top has left, as far as the walk asks of it -/
structure Txt (K : PySem.W.Frag) (mg : Str → Option Value) where
  f_check_sum : Addr
  fd_check_sum : FuncData
  F_check_sum : Fun K "check_sum" "check_sum" s_check_sum f_check_sum fd_check_sum
  b_check_sum : Binds K fd_check_sum ["data"] []
  g_check_sum : mg "check_sum" = some (.ref f_check_sum)
  f__law_cell : Addr
  fd__law_cell : FuncData
  F__law_cell : Fun K "_law_cell" "_law_cell" s__law_cell f__law_cell fd__law_cell
  b__law_cell : Binds K fd__law_cell ["script", "k"] []
  g__law_cell : mg "_law_cell" = some (.ref f__law_cell)
  f__law_twice : Addr
  fd__law_twice : FuncData
  F__law_twice : Fun K "_law_twice" "_law_twice" s__law_twice f__law_twice fd__law_twice
  b__law_twice : Binds K fd__law_twice ["cell", "k"] []
  g__law_twice : mg "_law_twice" = some (.ref f__law_twice)
  f__law_bytes : Addr
  fd__law_bytes : FuncData
  F__law_bytes : Fun K "_law_bytes" "_law_bytes" s__law_bytes f__law_bytes fd__law_bytes
  b__law_bytes : Binds K fd__law_bytes ["cell", "size"] []
  g__law_bytes : mg "_law_bytes" = some (.ref f__law_bytes)
  f__law_integer : Addr
  fd__law_integer : FuncData
  F__law_integer : Fun K "_law_integer" "_law_integer" s__law_integer f__law_integer fd__law_integer
  b__law_integer : Binds K fd__law_integer ["value"] []
  g__law_integer : mg "_law_integer" = some (.ref f__law_integer)
  f__law_sum : Addr
  fd__law_sum : FuncData
  F__law_sum : Fun K "_law_sum" "_law_sum" s__law_sum f__law_sum fd__law_sum
  b__law_sum : Binds K fd__law_sum ["data"] []
  g__law_sum : mg "_law_sum" = some (.ref f__law_sum)
  f__law_changed : Addr
  fd__law_changed : FuncData
  F__law_changed : Fun K "_law_changed" "_law_changed" s__law_changed f__law_changed fd__law_changed
  b__law_changed : Binds K fd__law_changed ["data", "cell", "other"] []
  g__law_changed : mg "_law_changed" = some (.ref f__law_changed)
  f_law : Addr
  fd_law : FuncData
  F_law : Fun K "law" "law" s_law f_law fd_law
  b_law : Binds K fd_law ["script"] []
  g_law : mg "law" = some (.ref f_law)
  t__ALL_BITS : Tok
  c__ALL_BITS : mg "_ALL_BITS" = some (.int 4294967295 t__ALL_BITS)
  a__FOUR_SHIFTS : Addr
  c__FOUR_SHIFTS : mg "_FOUR_SHIFTS" = some (.ref a__FOUR_SHIFTS)
  q__FOUR_SHIFTS : ∀ H, SqT K H a__FOUR_SHIFTS [V.int 0, V.int 498536548, V.int 997073096, V.int 651767980, V.int 1994146192, V.int 1802195444, V.int 1303535960, V.int 1342533948, V.int 3988292384, V.int 4027552580, V.int 3604390888, V.int 3412177804, V.int 2607071920, V.int 2262029012, V.int 2685067896, V.int 3183342108]
  z_abs : mg "abs" = none
  z_bool : mg "bool" = none
  z_int : mg "int" = none
  z_isinstance : mg "isinstance" = none
  z_len : mg "len" = none
  z_list : mg "list" = none
  z_range : mg "range" = none
/-! ### the law's own helpers -/
/-- the cell k of the script -/
def cellA (ns : List Int) (k : Nat) : Int := ns.getD k 0
def spCell (K : PySem.W.Frag) : Sp := fun vs H Q _ => ∃ (a : Addr) (ns : List Int) (k : Nat), vs = [.ref a, .int (k : Int)] ∧ SqL K H a (ns.map V.int) ∧ Q (.int (cellA ns k)) H
def tw (c k : Int) : Int :=
  let x := (c * 48271 + k * 69621 + 7) % 2147483647
  let y := (x * x + k * 40692 + 3) % 2147483629
  let z := (y * y + k * 30269 + 5) % 2147483587
  z / 64
def spTwice : Sp := fun vs H Q _ => ∃ (c k : Int), vs = [.int c, .int k] ∧ Q (.int (tw c k)) H
def absI (c : Int) : Int := if c < 0 then -c else c
/-- the law's drawn bytes, turn by turn: what is left of the cell, the bytes so far -/
def byR (c : Int) : Nat → Int × List Int
  | 0 => (absI c, [])
  | i + 1 => if 1000000000000000000 ≤ absI c ∧ 0 < (byR c i).1 then ((byR c i).1 / 256, (byR c i).2 ++ [(byR c i).1 % 256])
      else ((byR c i).1, (byR c i).2 ++ [tw c i % 256])
def byL (c : Int) (n : Nat) : List Int := (byR c n).2
theorem byL_len (c : Int) : ∀ n, (byL c n).length = n
  | 0 => rfl
  | n + 1 => by
    have ih := byL_len c n
    unfold byL at ih ⊢
    unfold byR
    split <;> simp [ih]
theorem byL_mem (c : Int) : ∀ n, ∀ b ∈ byL c n, 0 ≤ b ∧ b < 256
  | 0 => by intro b h; cases h
  | n + 1 => by
    have ih := byL_mem c n
    intro b h
    unfold byL at ih h
    unfold byR at h
    split at h
    all_goals
      rcases List.mem_append.mp h with h | h
      · exact ih b h
      · simp at h; omega
theorem absI_eq (c : Int) : (if c < 0 then -c else c) = absI c := rfl
theorem absI_nn (c : Int) : 0 ≤ absI c := by
  unfold absI
  split <;> omega
def spBytes : Sp := fun vs H Q _ => ∃ (c : Int) (n : Nat), vs = [.int c, .int (n : Int)] ∧ n ≤ 100000 ∧ ∀ p, H p = none → Q (.ref p) (upd H p (.lst ((byL c n).map V.int)))
/-- the answer of a call of the drawn bytes, with a size that is a remainder -/
theorem bytes_mod {c x m : Int} {H : Hp} {Q : VK} {E : XK} (hm : 0 < m) (hm2 : m ≤ 100000) (h : ∀ p, H p = none → Q (.ref p) (upd H p (.lst ((byL c (x % m).toNat).map V.int)))) :
    spBytes [V.int c, V.int (x % m)] H Q E := by
  have h0 := Int.emod_nonneg x (show m ≠ 0 by omega)
  have h1 := Int.emod_lt_of_pos x hm
  exact ⟨c, (x % m).toNat, by rw [Int.toNat_of_nonneg h0], by omega, h⟩
theorem cmul_c {i j : Int} (h1 : -(2 ^ 64) < j) (h2 : j < 2 ^ 64) : CMul i j := .inr ⟨h1, h2⟩
theorem cmul_m {x m y : Int} (h1 : 0 < m) (h2 : m ≤ 2 ^ 64) : CMul (x % m) y := by
  have a := Int.emod_nonneg x (show m ≠ 0 by omega)
  have b := Int.emod_lt_of_pos x h1
  exact .inl ⟨by omega, by omega⟩

section
variable {P : Program} {w : World} {K : PySem.W.Frag} {mg : Str → Option Value} {base : Heap}
theorem ok__law_cell (T : Txt K mg) : FnOk P w K mg base CX0 1 T.f__law_cell T.fd__law_cell ["script", "k"] (spCell K) := by
  refine T.F__law_cell.ok sc__law_cell (fun vs H Q E h => ?_) (fun cdv A outer s H vs Q E hr h => ?_)
  · obtain ⟨a, ns, k, rfl, _⟩ := h
    rfl
  · obtain ⟨a, ns, k, rfl, hS, q⟩ := h
    refine ⟨_, (pss_cons (ps_if (pt_cmpR op_lt (pv 1) (pe_callB call_len_seq (by rfl) T.z_len PySem.boot_len (pa_cons (pv 0) pa_nil)) (nomark _)) (pss_one (ps_ret (pe_callTy call_int1 (by rfl) T.z_int (by decide +kernel) (pa_cons (pe_ix ix_list (pv 0) (pv 1) (fun _ _ => rfl)) pa_nil)))) pss_nil)
      (pss_one (ps_ret pe_int))), ?_⟩
    refine ⟨_, rfl, _, rfl, a, _, rfl, .inl hS, _, _, rfl, rfl, _, rfl, ite2 (fun e => ?_) (fun e => ?_)⟩
    · have e1 := of_decide_eq_true e
      rw [List.length_map] at e1
      have hk : k < ns.length := by omega
      refine ⟨_, rfl, _, rfl, a, _, _, .int (cellA ns k), rfl, rfl, hS, ?_, .inl ⟨_, rfl, q⟩⟩
      refine atI_nat ?_
      rw [List.getElem?_map, List.getElem?_eq_getElem hk]
      simp [cellA, hk]
    · have e1 : ¬ ((k : Int) < ((ns.map V.int).length : Int)) := fun z => e (decide_eq_true z)
      rw [List.length_map] at e1
      have hk : ns.length ≤ k := by omega
      have e0 : cellA ns k = 0 := by simp [cellA, hk]
      rw [e0] at q
      exact q
end

section
variable {P : Program} {w : World} {K : PySem.W.Frag} {mg : Str → Option Value} {base : Heap}
theorem ok__law_twice (T : Txt K mg) : FnOk P w K mg base CX0 1 T.f__law_twice T.fd__law_twice ["cell", "k"] spTwice := by
  refine T.F__law_twice.ok sc__law_twice (fun vs H Q E h => ?_) (fun cdv A outer s H vs Q E hr h => ?_)
  · obtain ⟨c, k, rfl, _⟩ := h
    rfl
  · obtain ⟨c, k, rfl, q⟩ := h
    refine ⟨_, (pss_cons (ps_set (i := 2) sc__law_twice.nd rfl (Or.inl rfl) (pe_op op_mod (pe_callTy call_int1 (by rfl) T.z_int (by decide +kernel) (pa_cons (pe_op op_add (pe_op op_add (pe_op op_mul (pv 0) pe_int) (pe_op op_mul (pv 1) pe_int)) pe_int) pa_nil)) pe_int))
      (pss_cons (ps_set (i := 2) sc__law_twice.nd rfl (Or.inl rfl) (pe_op op_mod (pe_callTy call_int1 (by rfl) T.z_int (by decide +kernel) (pa_cons (pe_op op_add (pe_op op_add (pe_op op_mul (pv 2) (pv 2)) (pe_op op_mul (pv 1) pe_int)) pe_int) pa_nil)) pe_int))
      (pss_cons (ps_set (i := 2) sc__law_twice.nd rfl (Or.inl rfl) (pe_op op_mod (pe_callTy call_int1 (by rfl) T.z_int (by decide +kernel) (pa_cons (pe_op op_add (pe_op op_add (pe_op op_mul (pv 2) (pv 2)) (pe_op op_mul (pv 1) pe_int)) pe_int) pa_nil)) pe_int))
      (pss_one (ps_ret (pe_op op_fdiv (pv 2) pe_int)))))), ?_⟩
    walk_at "vc"
    refine ⟨cmul_c (by decide) (by decide), cmul_c (by decide) (by decide), cmul_m (by decide) (by decide), cmul_c (by decide) (by decide), cmul_m (by decide) (by decide), cmul_c (by decide) (by decide), ⟨by decide, by decide⟩, ?_⟩
    exact q
theorem ok__law_bytes (T : Txt K mg) : FnOk P w K mg base CX0 2 T.f__law_bytes T.fd__law_bytes ["cell", "size"] spBytes := by
  refine T.F__law_bytes.ok sc__law_bytes (fun vs H Q E h => ?_) (fun cdv A outer s H vs Q E hr h => ?_)
  · obtain ⟨c, n, rfl, _⟩ := h
    rfl
  · obtain ⟨c, n, rfl, hn, q⟩ := h
    refine ⟨_, (pss_cons (ps_set (i := 2) sc__law_bytes.nd rfl (Or.inl rfl) (pe_callB call_abs (by rfl) T.z_abs (by decide +kernel) (pa_cons (pe_callTy call_int1 (by rfl) T.z_int (by decide +kernel) (pa_cons (pv 0) pa_nil)) pa_nil)))
      (pss_cons (ps_set (i := 3) sc__law_bytes.nd rfl (Or.inl rfl) (pe_cmpR op_ge (pv 2) (pe_op op_pow pe_int pe_int) (nomark _)))
      (pss_cons (ps_set (i := 4) sc__law_bytes.nd rfl (Or.inl rfl) (pe_lst pa_nil))
      (pss_cons (ps_for PassesOwn.never rfl (pi_range1 (by rfl) T.z_range (pa_cons (pv 1) pa_nil)) (pg_name (i := 5) sc__law_bytes.nd rfl (Or.inl rfl)) (pss_one (ps_if (PW.pt (pw_and (pt_val (pv 3)) (pw_and1 (pt_cmpR op_gt (pv 2) pe_int (nomark _))))) (pss_cons (ps_expr (pe_bm PySem.F.plainAttrs_list PySem.F.slot_list_append PySem.F.type_list_append mt_append (pv 4) (pa_cons (pe_op op_mod (pe_callTy call_int1 (by rfl) T.z_int (by decide +kernel) (pa_cons (pv 2) pa_nil)) pe_int) pa_nil)))
      (pss_one (ps_set (i := 2) sc__law_bytes.nd rfl (Or.inl rfl) (pe_op op_fdiv (pv 2) pe_int)))) (pss_one (ps_expr (pe_bm PySem.F.plainAttrs_list PySem.F.slot_list_append PySem.F.type_list_append mt_append (pv 4) (pa_cons (pe_op op_mod (pe_callTy call_int1 (by rfl) T.z_int (by decide +kernel) (pa_cons (pe_call (ok__law_twice T) hr (by rfl) T.g__law_twice T.F__law_twice.kp T.b__law_twice .nil pass0 (pa_cons (pv 0) (pa_cons (pv 5) pa_nil))) pa_nil)) pe_int) pa_nil)))))))
      (pss_one (ps_ret (pv 4))))))), ?_⟩
    walk_at "vc"
    refine ⟨⟨by decide, by decide, by decide⟩, fun p hp => ?_⟩
    refine ⟨by omega, by omega, lp_range (fun i σ H' => ∃ kv, σ = [some (.int c), some (.int n), some (.int (byR c i).1), some (.bl (decide (1000000000000000000 ≤ absI c))), some (.ref p), kv] ∧ H' = upd H p (.lst ((byR c i).2.map V.int))) ⟨_, rfl, rfl⟩ ?_ ?_⟩
    · rintro i σ H' hi ⟨kv, rfl, rfl⟩
      have hl : (byR c i).2.length = i := byL_len c i
      have hz : i < sizeLine := Nat.lt_of_lt_of_le (show i < 1000000 by omega) (by decide)
      simp only [byR]
      walk_at "vc"
      simp only [spTwice]
      walk_at "vc"
      simp only [decide_eq_true_eq, List.length_map, hl, hz, true_and, exists_eq', and_true, Int.reduceLT]
      by_cases h1 : 1000000000000000000 ≤ absI c
      · by_cases h2 : 0 < (byR c i).1
        · simp only [h1, h2, and_self, if_true, List.map_append, List.map_cons, List.map_nil, and_true]
          exact ⟨by decide, by decide⟩
        · simp only [h1, h2, and_false, if_true, if_false, List.map_append, List.map_cons, List.map_nil, and_true]
      · simp only [h1, false_and, if_false, List.map_append, List.map_cons, List.map_nil, and_true]
    · rintro σ H' ⟨kv, rfl, rfl⟩
      walk_at "vc"
      exact q p hp
end


section
variable {P : Program} {w : World} {K : PySem.W.Frag} {mg : Str → Option Value} {base : Heap}
/-- an int is one -/
def spInteger : Sp := fun vs H Q _ => ∃ i : Int, vs = [.int i] ∧ Q (.bl true) H
theorem ok__law_integer (T : Txt K mg) : FnOk P w K mg base CX0 1 T.f__law_integer T.fd__law_integer ["value"] spInteger := by
  refine T.F__law_integer.ok sc__law_integer (fun vs H Q E h => ?_) (fun cdv A outer s H vs Q E hr h => ?_)
  · obtain ⟨i, rfl, _⟩ := h
    rfl
  · obtain ⟨i, rfl, q⟩ := h
    refine ⟨_, (pss_one (ps_ret (pe_and (pe_callB call_isiB (by rfl) T.z_isinstance (by decide +kernel) (pa_cons (pv 0) (pa_cons (pe_bltn (v := .ty "int") (u := .type "int") (by rfl) T.z_int (by decide +kernel) rfl) pa_nil))) (pe_one (pe_not (pe_callB call_isiB (by rfl) T.z_isinstance (by decide +kernel) (pa_cons (pv 0) (pa_cons (pe_bltn (v := .ty "bool") (u := .type "bool") (by rfl) T.z_bool (by decide +kernel) rfl) pa_nil)))))))), ?_⟩
    walk_at "vc"
    exact q
end

theorem xor_cancel {n m b : Nat} (e : n ^^^ b = m ^^^ b) : n = m := by
  have := congrArg (· ^^^ b) e
  simpa [Nat.xor_assoc] using this
/-! ### the register -/
def st1 (r : Nat) : Nat := if r % 2 = 1 then (r / 2) ^^^ 3988292384 else r / 2
def stk : Nat → Nat → Nat
  | 0, r => r
  | k + 1, r => stk k (st1 r)
theorem xor_div2 (a b : Nat) : (a ^^^ b) / 2 = (a / 2) ^^^ (b / 2) := Nat.xor_div_two
theorem xor_mod2 (a b : Nat) : (a ^^^ b) % 2 = (a % 2 + b % 2) % 2 := by
  have h := Nat.xor_mod_two_pow (a := a) (b := b) (n := 1)
  rw [Nat.pow_one] at h
  rw [h]
  rcases Nat.mod_two_eq_zero_or_one a with e | e <;> rcases Nat.mod_two_eq_zero_or_one b with f | f <;> rw [e, f] <;> rfl
theorem xor4 (a b c d : Nat) : (a ^^^ b) ^^^ (c ^^^ d) = (a ^^^ c) ^^^ (b ^^^ d) := by
  rw [Nat.xor_assoc, Nat.xor_assoc, ← Nat.xor_assoc b, Nat.xor_comm b c, Nat.xor_assoc c]
theorem st1_xor (a b : Nat) : st1 (a ^^^ b) = st1 a ^^^ st1 b := by
  have h := xor_mod2 a b
  have h2 := xor_div2 a b
  unfold st1
  rw [h2]
  by_cases ha : a % 2 = 1 <;> by_cases hb : b % 2 = 1
  · rw [if_neg (by omega), if_pos ha, if_pos hb, xor4, Nat.xor_self, Nat.xor_zero]
  · rw [if_pos (by omega), if_pos ha, if_neg hb, Nat.xor_assoc, Nat.xor_assoc, Nat.xor_comm (b / 2)]
  · rw [if_pos (by omega), if_neg ha, if_pos hb, Nat.xor_assoc]
  · rw [if_neg (by omega), if_neg ha, if_neg hb]
theorem st1_even (y : Nat) : st1 (2 * y) = y := by
  unfold st1
  rw [if_neg (by omega)]
  omega
theorem stk_xor (a b : Nat) : ∀ k, stk k (a ^^^ b) = stk k a ^^^ stk k b := by
  intro k
  induction k generalizing a b with
  | zero => rfl
  | succ k ih => rw [stk, stk, stk, st1_xor, ih]
theorem stk_shift (y : Nat) : ∀ k, stk k (2 ^ k * y) = y
  | 0 => by rw [stk, Nat.pow_zero, Nat.one_mul]
  | k + 1 => by rw [stk, Nat.pow_succ, Nat.mul_comm (2 ^ k) 2, Nat.mul_assoc, st1_even, stk_shift y k]
theorem stk_add (r : Nat) : ∀ k m, stk (k + m) r = stk m (stk k r) := by
  intro k
  induction k generalizing r with
  | zero => intro m; rw [Nat.zero_add]; rfl
  | succ k ih => intro m; rw [Nat.succ_add, stk, stk, ih]
theorem st1_lt {r : Nat} (h : r < 2 ^ 32) : st1 r < 2 ^ 32 := by
  unfold st1
  split
  · exact Nat.xor_lt_two_pow (by omega) (by decide)
  · omega
theorem st1_zero {r : Nat} (h : r < 2 ^ 32) (e : st1 r = 0) : r = 0 := by
  unfold st1 at e
  split at e
  · have h1 : r / 2 = 3988292384 := by
      have := congrArg (· ^^^ 3988292384) e
      simpa [Nat.xor_assoc] using this
    omega
  · omega
theorem stk_zero : ∀ k {r : Nat}, r < 2 ^ 32 → stk k r = 0 → r = 0
  | 0, _, _, e => e
  | k + 1, _, h, e => st1_zero h (stk_zero k (st1_lt h) e)
theorem stk_lt : ∀ k {r : Nat}, r < 2 ^ 32 → stk k r < 2 ^ 32
  | 0, _, h => h
  | k + 1, _, h => stk_lt k (st1_lt h)
/-- the number whose bits, from the lowest on, are those of the bytes -/
def num : List Int → Nat
  | [] => 0
  | b :: r => b.toNat + 256 * num r
theorem split8 {b x : Nat} (h : b < 256) : b + 256 * x = b ^^^ (2 ^ 8 * x) := by
  have h1 : (b ^^^ (2 ^ 8 * x)) % 2 ^ 8 = b := by
    rw [Nat.xor_mod_two_pow, Nat.mul_mod_right, Nat.xor_zero]
    exact Nat.mod_eq_of_lt h
  have h2 : (b ^^^ (2 ^ 8 * x)) / 2 ^ 8 = x := by
    rw [← Nat.shiftRight_eq_div_pow, Nat.shiftRight_xor_distrib, Nat.shiftRight_eq_div_pow, Nat.shiftRight_eq_div_pow, Nat.div_eq_of_lt h, Nat.zero_xor, Nat.mul_div_cancel_left _ (by decide)]
  have := Nat.div_add_mod (b ^^^ (2 ^ 8 * x)) (2 ^ 8)
  omega
/-- the register behind some bytes -/
def reg (r : Nat) (ns : List Int) : Nat := ns.foldl (fun r b => stk 8 (r ^^^ b.toNat)) r
def Byt (ns : List Int) : Prop := ∀ b ∈ ns, 0 ≤ b ∧ b < 256
theorem reg_num : ∀ (ns : List Int) (r : Nat), Byt ns → reg r ns = stk (8 * ns.length) (r ^^^ num ns)
  | [], r, _ => by
    show r = _
    rw [num, Nat.xor_zero]
    rfl
  | b :: q, r, h => by
    have hb := h b List.mem_cons_self
    have ih := reg_num q (stk 8 (r ^^^ b.toNat)) fun c hc => h c (List.mem_cons_of_mem _ hc)
    show reg (stk 8 (r ^^^ b.toNat)) q = _
    rw [ih, num, split8 (by omega), ← Nat.xor_assoc, List.length_cons, show 8 * (q.length + 1) = 8 + 8 * q.length by omega, stk_add, stk_xor (r ^^^ b.toNat) (2 ^ 8 * num q) 8, stk_shift]
theorem reg_lt : ∀ (ns : List Int) {r : Nat}, Byt ns → r < 2 ^ 32 → reg r ns < 2 ^ 32
  | [], _, _, h => h
  | b :: q, r, hb, h => by
    have := hb b List.mem_cons_self
    exact reg_lt q (fun c hc => hb c (List.mem_cons_of_mem _ hc)) (stk_lt 8 (Nat.xor_lt_two_pow h (Nat.lt_of_lt_of_le (show b.toNat < 256 by omega) (by decide))))
def crc (ns : List Int) : Nat := reg 4294967295 ns ^^^ 4294967295
theorem crc_three {x y z m : List Int} (hx : Byt x) (hy : Byt y) (hz : Byt z) (hm : Byt m) (l1 : y.length = x.length) (l2 : z.length = x.length) (l3 : m.length = x.length)
    (e : num m = num x ^^^ num y ^^^ num z) : crc m = crc x ^^^ crc y ^^^ crc z := by
  unfold crc
  rw [reg_num x _ hx, reg_num y _ hy, reg_num z _ hz, reg_num m _ hm, l1, l2, l3, e]
  generalize 8 * x.length = k
  have : 4294967295 ^^^ (num x ^^^ num y ^^^ num z) = (4294967295 ^^^ num x) ^^^ (4294967295 ^^^ num y) ^^^ (4294967295 ^^^ num z) := by
    generalize num x = a; generalize num y = b; generalize num z = c; generalize 4294967295 = M
    apply Nat.eq_of_testBit_eq
    intro i
    simp only [Nat.testBit_xor]
    cases M.testBit i <;> cases a.testBit i <;> cases b.testBit i <;> cases c.testBit i <;> rfl
  rw [this, stk_xor, stk_xor]
  generalize stk k _ = a; generalize stk k _ = b; generalize stk k _ = c; generalize 4294967295 = M
  apply Nat.eq_of_testBit_eq
  intro i
  simp only [Nat.testBit_xor]
  cases M.testBit i <;> cases a.testBit i <;> cases b.testBit i <;> cases c.testBit i <;> rfl
theorem crc_ne {x y : List Int} (hx : Byt x) (hy : Byt y) (l : y.length = x.length) {q s : Nat} (hs : s ≤ 8 * x.length) (hq : q < 2 ^ 32) (h0 : q ≠ 0) (e : num y = num x ^^^ (2 ^ s * q)) : crc y ≠ crc x := by
  intro z
  have z1 : reg 4294967295 y = reg 4294967295 x := xor_cancel z
  rw [reg_num x _ hx, reg_num y _ hy, l, e, ← Nat.xor_assoc, stk_xor] at z1
  have z2 : stk (8 * x.length) (2 ^ s * q) = 0 := by
    have := congrArg (fun t => stk (8 * x.length) (4294967295 ^^^ num x) ^^^ t) z1
    simpa [← Nat.xor_assoc] using this
  rw [show 8 * x.length = s + (8 * x.length - s) by omega, stk_add, stk_shift] at z2
  exact h0 (stk_zero _ hq z2)
theorem num_inj : ∀ {x y : List Int}, Byt x → Byt y → y.length = x.length → num y = num x → y = x
  | [], [], _, _, _, _ => rfl
  | [], _ :: _, _, _, l, _ => by simp at l
  | _ :: _, [], _, _, l, _ => by simp at l
  | b :: r, c :: q, hx, hy, l, e => by
    have h1 := hx b List.mem_cons_self
    have h2 := hy c List.mem_cons_self
    rw [num, num] at e
    have e1 : c = b := by omega
    have e2 : num q = num r := by omega
    rw [e1, num_inj (fun d hd => hx d (List.mem_cons_of_mem _ hd)) (fun d hd => hy d (List.mem_cons_of_mem _ hd)) (by simpa using l) e2]
theorem xor_split {b c x y : Nat} (hb : b < 256) (hc : c < 256) : (b + 256 * x) ^^^ (c + 256 * y) = (b ^^^ c) + 256 * (x ^^^ y) := by
  have h : b ^^^ c < 256 := Nat.xor_lt_two_pow (n := 8) hb hc
  rw [split8 hb, split8 hc, split8 h, xor4]
  congr 1
  simp only [Nat.mul_comm (2 ^ 8), ← Nat.shiftLeft_eq, Nat.shiftLeft_xor_distrib]
theorem num_set : ∀ {l : List Int} {k : Nat} {b : Int} {j : Nat}, Byt l → l[k]? = some b → j < 8 → num (l.set k (((b.toNat ^^^ 2 ^ j : Nat)) : Int)) = num l ^^^ 2 ^ (8 * k + j)
  | [], _, _, _, _, h, _ => by simp at h
  | c :: r, 0, b, j, hb, h, hj => by
    have e : c = b := by simpa using h
    subst e
    have h1 := hb c List.mem_cons_self
    have h2 : 2 ^ j < 256 := Nat.pow_lt_pow_right (a := 2) (by decide) hj
    rw [List.set_cons_zero, num, num, Int.toNat_natCast, Nat.mul_zero, Nat.zero_add]
    have := xor_split (b := c.toNat) (c := 2 ^ j) (x := num r) (y := 0) (by omega) h2
    rw [Nat.mul_zero, Nat.add_zero, Nat.xor_zero] at this
    exact this.symm
  | c :: r, k + 1, b, j, hb, h, hj => by
    have h1 := hb c List.mem_cons_self
    have ih := num_set (l := r) (k := k) (b := b) (j := j) (fun d hd => hb d (List.mem_cons_of_mem _ hd)) (by simpa using h) hj
    rw [List.set_cons_succ, num, ih, num]
    have := xor_split (b := c.toNat) (c := 0) (x := num r) (y := 2 ^ (8 * k + j)) (by omega) (by decide)
    rw [Nat.zero_add, Nat.xor_zero] at this
    rw [← this, show 8 * (k + 1) + j = 8 + (8 * k + j) by omega, Nat.pow_add 2 8]
theorem num_xor : ∀ {x y : List Int}, Byt x → Byt y → y.length = x.length → num (List.zipWith (fun a b => (((a.toNat ^^^ b.toNat : Nat)) : Int)) x y) = num x ^^^ num y
  | [], [], _, _, _ => rfl
  | [], _ :: _, _, _, l => by simp at l
  | _ :: _, [], _, _, l => by simp at l
  | b :: r, c :: q, hx, hy, l => by
    have h1 := hx b List.mem_cons_self
    have h2 := hy c List.mem_cons_self
    rw [List.zipWith_cons_cons, num, num_xor (fun d hd => hx d (List.mem_cons_of_mem _ hd)) (fun d hd => hy d (List.mem_cons_of_mem _ hd)) (by simpa using l), num, num, Int.toNat_natCast, xor_split (by omega) (by omega)]
/-! ### the table of four shifts -/
theorem four_eq (r : Nat) : stk 4 r = (r / 16) ^^^ stk 4 (r % 16) := by
  have h : r = (r % 16) ^^^ (2 ^ 4 * (r / 16)) := by
    have h1 : ((r % 16) ^^^ (2 ^ 4 * (r / 16))) % 2 ^ 4 = r % 16 := by
      rw [Nat.xor_mod_two_pow, Nat.mul_mod_right, Nat.xor_zero]
      omega
    have h2 : ((r % 16) ^^^ (2 ^ 4 * (r / 16))) / 2 ^ 4 = r / 16 := by
      rw [← Nat.shiftRight_eq_div_pow, Nat.shiftRight_xor_distrib, Nat.shiftRight_eq_div_pow, Nat.shiftRight_eq_div_pow, Nat.div_eq_of_lt (by omega), Nat.zero_xor, Nat.mul_div_cancel_left _ (by decide)]
    have := Nat.div_add_mod ((r % 16) ^^^ (2 ^ 4 * (r / 16))) (2 ^ 4)
    omega
  conv => lhs; rw [h]
  rw [stk_xor, stk_shift, Nat.xor_comm]
/-! ### bit by bit -/
def bits8 (b : Nat) : List Nat := (List.range 8).map fun k => b / 2 ^ k % 2
theorem feed8 {r b : Nat} (h : b < 256) : (bits8 b).foldl (fun r c => st1 (r ^^^ c)) r = stk 8 (r ^^^ b) := by
  have go : ∀ (k r y : Nat), y < 2 ^ k → ((List.range k).map fun j => y / 2 ^ j % 2).foldl (fun r c => st1 (r ^^^ c)) r = stk k (r ^^^ y) := by
    intro k
    induction k with
    | zero =>
      intro r y hy
      have : y = 0 := by simpa using hy
      subst this
      show r = r ^^^ 0
      rw [Nat.xor_zero]
    | succ k ih =>
      intro r y hy
      rw [List.range_succ_eq_map, List.map_cons, List.foldl_cons, List.map_map]
      have e : ((fun j => y / 2 ^ j % 2) ∘ Nat.succ) = fun j => (y / 2) / 2 ^ j % 2 := by
        funext j
        show y / 2 ^ (j + 1) % 2 = _
        rw [Nat.pow_succ, Nat.mul_comm, Nat.div_div_eq_div_mul]
      rw [e, ih _ (y / 2) (by rw [Nat.pow_succ] at hy; omega), stk, Nat.pow_zero, Nat.div_one]
      have hs : r ^^^ y = (r ^^^ (y % 2)) ^^^ (2 * (y / 2)) := by
        rw [Nat.xor_assoc]
        congr 1
        have h1 : ((y % 2) ^^^ (2 * (y / 2))) % 2 = y % 2 := by rw [xor_mod2]; omega
        have h2 : ((y % 2) ^^^ (2 * (y / 2))) / 2 = y / 2 := by
          rw [xor_div2, show y % 2 / 2 = 0 by omega, Nat.zero_xor]
          omega
        omega
      rw [hs, st1_xor (r ^^^ (y % 2)) (2 * (y / 2)), st1_even]
  exact go 8 r b h
def bitsD (ns : List Int) : List Nat := ns.flatMap fun b => bits8 b.toNat
theorem feedD : ∀ (ns : List Int) (r : Nat), Byt ns → (bitsD ns).foldl (fun r c => st1 (r ^^^ c)) r = reg r ns
  | [], _, _ => rfl
  | b :: q, r, h => by
    have hb := h b List.mem_cons_self
    show (bits8 b.toNat ++ bitsD q).foldl _ r = _
    rw [List.foldl_append, feed8 (by omega), feedD q _ fun c hc => h c (List.mem_cons_of_mem _ hc)]
    rfl
theorem ones_xor {k r : Nat} (h : r < 2 ^ k) : r ^^^ (2 ^ k - 1) = 2 ^ k - 1 - r := by
  apply Nat.eq_of_testBit_eq
  intro i
  rw [Nat.testBit_xor, Nat.testBit_two_pow_sub_one, show 2 ^ k - 1 - r = 2 ^ k - (r + 1) by omega, Nat.testBit_two_pow_sub_succ h]
  by_cases hi : i < k
  · simp [hi]
  · have : r.testBit i = false := Nat.testBit_lt_two_pow (Nat.lt_of_lt_of_le h (Nat.pow_le_pow_right (by decide) (by omega)))
    simp [hi, this]

theorem foldl_take {α β : Type} (f : β → α → β) (s : β) {l : List α} {i : Nat} {x : α} (h : l[i]? = some x) : (l.take (i + 1)).foldl f s = f ((l.take i).foldl f s) x := by
  rw [List.take_add_one, h, List.foldl_append]
  simp only [Option.toList_some, List.foldl_cons, List.foldl_nil]
theorem reg_take {ns : List Int} {i : Nat} {b : Int} (r : Nat) (h : ns[i]? = some b) : reg r (ns.take (i + 1)) = stk 8 (reg r (ns.take i) ^^^ b.toNat) := foldl_take _ _ h
def spSum : Sp := fun vs H Q _ => ∃ (a : Addr) (ns : List Int), vs = [.ref a] ∧ H a = some (.lst (ns.map V.int)) ∧ ns.length ≤ 100 ∧ Byt ns ∧ Q (.int (crc ns : Int)) H
def four : List Int := [0, 498536548, 997073096, 651767980, 1994146192, 1802195444, 1303535960, 1342533948, 3988292384, 4027552580, 3604390888, 3412177804, 2607071920, 2262029012, 2685067896, 3183342108]
theorem four_at : ∀ x : _root_.Fin 16, atI (four.map V.int) ((x : Nat) : Int) = some (V.int (stk 4 x : Int)) := by decide +kernel
theorem four_look (r : Nat) : atI (four.map V.int) (Builtin.bitAnd (r : Int) 15) = some (V.int (stk 4 (r % 16) : Int)) := by
  rw [show (15 : Int) = 2 ^ 4 - 1 by decide, Bits.bitAnd_mask 4 (by omega), show (r : Int) % 2 ^ 4 = ((r % 16 : Nat) : Int) by omega]
  exact four_at ⟨r % 16, by omega⟩
theorem xorI (a b : Nat) : Builtin.bitXor (a : Int) (b : Int) = ((a ^^^ b : Nat) : Int) := by
  rw [Bits.bitXor_pp (by omega) (by omega), Int.toNat_natCast, Int.toNat_natCast]
theorem xorB {a : Nat} {b : Int} (h : 0 ≤ b) : Builtin.bitXor (a : Int) b = ((a ^^^ b.toNat : Nat) : Int) := by
  rw [Bits.bitXor_pp (by omega) h, Int.toNat_natCast]
theorem four_next (r : Nat) : Builtin.bitXor ((r : Int) / 16) (stk 4 (r % 16) : Int) = (stk 4 r : Int) := by
  rw [show (r : Int) / 16 = ((r / 16 : Nat) : Int) by omega, xorI, ← four_eq]
def natV (l : List Nat) : List V := List.map (fun (n : Nat) => V.int (n : Int)) l
def bitsL (r : Nat) : List Nat := (List.range 32).map fun k => r / 2 ^ k % 2
theorem natV_len (l : List Nat) : (natV l).length = l.length := List.length_map _
theorem natV_snoc (l : List Nat) (x : Nat) : natV (l ++ [x]) = natV l ++ [V.int (x : Int)] := by
  unfold natV
  rw [List.map_append]
  rfl
theorem natV_get {l : List Nat} {i : Nat} {x : V} (h : (natV l)[i]? = some x) : ∃ c, l[i]? = some c ∧ x = V.int (c : Int) := by
  unfold natV at h
  rw [List.getElem?_map] at h
  obtain ⟨c, h1, h2⟩ := Option.map_eq_some_iff.mp h
  exact ⟨c, h1, h2.symm⟩
theorem bits8_take {b j : Nat} (h : j < 8) : (bits8 b).take (j + 1) = (bits8 b).take j ++ [b / 2 ^ j % 2] := by
  rw [List.take_add_one]
  congr 1
  unfold bits8
  rw [List.getElem?_map, List.getElem?_range h]
  rfl
theorem bit8_at {b : Int} {j : Nat} (h : j < 8) (hb : 0 ≤ b ∧ b < 256) : Builtin.bitAnd (b / 2 ^ j) 1 = ((b.toNat / 2 ^ j % 2 : Nat) : Int) := by
  rw [show (1 : Int) = 2 ^ 1 - 1 by decide, Bits.bitAnd_mask 1 (Int.ediv_nonneg hb.1 (Int.le_of_lt (Int.pow_pos (by decide))))]
  rw [Int.natCast_emod, Int.natCast_ediv, Int.toNat_of_nonneg hb.1, Int.natCast_pow]
  rfl
theorem bitsD_len (ns : List Int) : (bitsD ns).length = 8 * ns.length := by
  induction ns with
  | nil => rfl
  | cons b r ih =>
    show (bits8 b.toNat ++ bitsD r).length = _
    rw [List.length_append, ih, List.length_cons, show (bits8 b.toNat).length = 8 from rfl]
    omega
theorem bitsD_take {ns : List Int} {i : Nat} {b : Int} (h : ns[i]? = some b) : bitsD (ns.take (i + 1)) = bitsD (ns.take i) ++ bits8 b.toNat := by
  unfold bitsD
  rw [List.take_add_one, h, List.flatMap_append]
  simp
def feed (l : List Nat) : Nat := l.foldl (fun r c => st1 (r ^^^ c)) 4294967295
theorem feed_take {l : List Nat} {i c : Nat} (h : l[i]? = some c) : feed (l.take (i + 1)) = st1 (feed (l.take i) ^^^ c) := foldl_take _ _ h
theorem ones32 : [[V.int 1], [V.int 1], [V.int 1], [V.int 1], [V.int 1], [V.int 1], [V.int 1], [V.int 1], [V.int 1], [V.int 1], [V.int 1], [V.int 1], [V.int 1], [V.int 1], [V.int 1], [V.int 1], [V.int 1], [V.int 1], [V.int 1],
            [V.int 1], [V.int 1], [V.int 1], [V.int 1], [V.int 1], [V.int 1], [V.int 1], [V.int 1], [V.int 1], [V.int 1], [V.int 1], [V.int 1], [V.int 1]].flatten = natV (bitsL (feed [])) := by decide +kernel
theorem feed_lt (l : List Nat) (h : ∀ x ∈ l, x < 2) : feed l < 2 ^ 32 := by
  unfold feed
  have go : ∀ (l : List Nat) (r : Nat), (∀ x ∈ l, x < 2) → r < 2 ^ 32 → l.foldl (fun r c => st1 (r ^^^ c)) r < 2 ^ 32 := by
    intro l
    induction l with
    | nil => intro r _ h; exact h
    | cons c q ih =>
      intro r hl hr
      have hc := hl c List.mem_cons_self
      exact ih _ (fun x hx => hl x (List.mem_cons_of_mem _ hx)) (st1_lt (Nat.xor_lt_two_pow hr (Nat.lt_of_lt_of_le hc (by decide))))
  exact go l _ h (by decide)
theorem bitsD_lt (ns : List Int) : ∀ x ∈ bitsD ns, x < 2 := by
  intro x hx
  unfold bitsD at hx
  obtain ⟨b, _, h2⟩ := List.mem_flatMap.mp hx
  unfold bits8 at h2
  obtain ⟨k, _, rfl⟩ := List.mem_map.mp h2
  exact Nat.mod_lt _ (by decide)
theorem bitsL_head (r : Nat) : atI (natV (bitsL r)) 0 = some (V.int ((r % 2 : Nat) : Int)) := by
  have : atI (natV (bitsL r)) ((0 : Nat) : Int) = some (V.int ((r % 2 : Nat) : Int)) := by
    refine atI_nat ?_
    unfold natV bitsL
    rw [List.getElem?_map, List.getElem?_map, List.getElem?_range (by decide)]
    simp
  exact this
theorem cut_tail (xs : List V) : cutV xs (some 1) none = xs.drop 1 := by
  unfold cutV
  rw [show HT.sIx xs.length 0 (some 1) = min 1 xs.length from HT.sIx_nat xs.length 0 1, HT.sIx_none]
  cases xs with
  | nil => rfl
  | cons x r =>
    rw [show min 1 (x :: r).length = 1 by
      rw [List.length_cons]
      omega]
    show (List.take ((x :: r).length - 1) r) = r
    rw [List.length_cons, Nat.add_sub_cancel]
    exact List.take_length
theorem bitsL_shift {r : Nat} (h : r < 2 ^ 32) : cutV (natV (bitsL r)) (some 1) none ++ [V.int 0] = natV (bitsL (r / 2)) := by
  rw [cut_tail]
  unfold natV
  rw [← List.map_drop, show [V.int 0] = List.map (fun (n : Nat) => V.int (n : Int)) [0] from rfl, ← List.map_append]
  congr 1
  apply List.ext_getElem?
  intro i
  unfold bitsL
  by_cases hi : i < 31
  · rw [List.getElem?_append_left (by simp; omega), List.getElem?_drop, List.getElem?_map, List.getElem?_map, List.getElem?_range (by omega), List.getElem?_range (by omega)]
    show some (r / 2 ^ (1 + i) % 2) = some (r / 2 / 2 ^ i % 2)
    rw [Nat.pow_add, Nat.pow_one, Nat.div_div_eq_div_mul]
  · by_cases hi2 : i = 31
    · subst hi2
      rw [List.getElem?_append_right (by simp), List.getElem?_map, List.getElem?_range (by decide)]
      simp
      omega
    · rw [List.getElem?_eq_none (by simp; omega), List.getElem?_eq_none (by simp; omega)]
def mixL (r j : Nat) : List Nat := (List.range 32).map fun k => if k < j then (r ^^^ 3988292384) / 2 ^ k % 2 else r / 2 ^ k % 2
theorem mixL_zero (r : Nat) : mixL r 0 = bitsL r := by simp [mixL, bitsL]
theorem bit1 (x j : Nat) : Builtin.bitAnd ((x : Int) / 2 ^ j) 1 = ((x / 2 ^ j % 2 : Nat) : Int) := by
  rw [show (1 : Int) = 2 ^ 1 - 1 by decide, Bits.bitAnd_mask 1 (Int.ediv_nonneg (by omega) (Int.le_of_lt (Int.pow_pos (by decide))))]
  rw [Int.natCast_emod, Int.natCast_ediv, Int.natCast_pow]
  rfl
theorem xor_bit (a b j : Nat) : (a ^^^ b) / 2 ^ j % 2 = (a / 2 ^ j % 2) ^^^ (b / 2 ^ j % 2) := by
  rw [← Nat.shiftRight_eq_div_pow, Nat.shiftRight_xor_distrib, Nat.shiftRight_eq_div_pow, Nat.shiftRight_eq_div_pow]
  have h := Nat.xor_mod_two_pow (a := a / 2 ^ j) (b := b / 2 ^ j) (n := 1)
  rw [Nat.pow_one] at h
  exact h
theorem mixL_len (r j : Nat) : (mixL r j).length = 32 := by
  unfold mixL
  rw [List.length_map, List.length_range]
theorem mixL_at (r : Nat) {j : Nat} (h : j < 32) : atI (natV (mixL r j)) (j : Int) = some (V.int ((r / 2 ^ j % 2 : Nat) : Int)) := by
  refine atI_nat ?_
  unfold natV mixL
  rw [List.getElem?_map, List.getElem?_map, List.getElem?_range h]
  simp
theorem bitsL_at (r : Nat) {j : Nat} (h : j < 32) : atI (natV (bitsL r)) (j : Int) = some (V.int ((r / 2 ^ j % 2 : Nat) : Int)) := by
  refine atI_nat ?_
  unfold natV bitsL
  rw [List.getElem?_map, List.getElem?_map, List.getElem?_range h]
  rfl
theorem mixL_set (r : Nat) {j : Nat} (h : j < 32) : (natV (mixL r j)).set j (V.int (Builtin.bitXor ((r / 2 ^ j % 2 : Nat) : Int) (Builtin.bitAnd (3988292384 / 2 ^ j) 1))) = natV (mixL r (j + 1)) := by
  have e1 := bit1 3988292384 j
  rw [show ((3988292384 : Nat) : Int) = 3988292384 from rfl] at e1
  rw [e1, xorI, ← xor_bit]
  unfold natV
  rw [← List.map_set]
  congr 1
  apply List.ext_getElem?
  intro i
  rw [List.getElem?_set]
  unfold mixL
  by_cases hi : i < 32
  · simp only [List.length_map, List.length_range, h, if_true, List.getElem?_map, List.getElem?_range hi, Option.map_some]
    by_cases e : j = i
    · subst e
      rw [if_pos rfl, if_pos (by omega)]
    · rw [if_neg e]
      by_cases e2 : i < j
      · rw [if_pos e2, if_pos (by omega)]
      · rw [if_neg e2, if_neg (by omega)]
  · rw [if_neg (by omega), List.getElem?_eq_none (by simp; omega), List.getElem?_eq_none (by simp; omega)]
theorem mixL_all (r : Nat) : mixL r 32 = bitsL (r ^^^ 3988292384) := by
  unfold mixL bitsL
  apply List.map_congr_left
  intro k hk
  rw [if_pos (List.mem_range.mp hk)]
theorem st1_in {r c : Nat} (h : c < 2) : st1 (r ^^^ c) = if r % 2 ^^^ c = 1 then (r / 2) ^^^ 3988292384 else r / 2 := by
  have h1 := xor_mod2 r c
  have h2 := xor_div2 r c
  rw [show c / 2 = 0 by omega, Nat.xor_zero] at h2
  unfold st1
  rw [h1, h2]
  have hc : c = 0 ∨ c = 1 := by omega
  rcases Nat.mod_two_eq_zero_or_one r with e | e <;> rcases hc with rfl | rfl <;> rw [e] <;> rfl
theorem tot_step (R : Nat) {j : Nat} (hj : j < 32) : CPow (1 - ((R / 2 ^ j % 2 : Nat) : Int)) (j : Int) ∧
    ((2 ^ j - 1 - R % 2 ^ j : Nat) : Int) + (1 - ((R / 2 ^ j % 2 : Nat) : Int)) * 2 ^ j = ((2 ^ (j + 1) - 1 - R % 2 ^ (j + 1) : Nat) : Int) := by
  have hb : R / 2 ^ j % 2 < 2 := Nat.mod_lt _ (by decide)
  refine ⟨⟨by omega, by omega, ?_⟩, ?_⟩
  · have : (1 - ((R / 2 ^ j % 2 : Nat) : Int)).natAbs ≤ 1 := by omega
    exact Nat.lt_of_le_of_lt this (by decide)
  · have hp : (2 : Int) ^ j = ((2 ^ j : Nat) : Int) := by rw [Int.natCast_pow]; rfl
    have hm : R % 2 ^ j < 2 ^ j := Nat.mod_lt _ (Nat.pow_pos (by decide))
    rw [hp, Nat.mod_pow_succ, Nat.pow_succ]
    generalize R / 2 ^ j % 2 = b at hb ⊢
    generalize R % 2 ^ j = m at hm ⊢
    generalize 2 ^ j = M at hm ⊢
    have : b = 0 ∨ b = 1 := by omega
    rcases this with rfl | rfl
    · omega
    · omega
theorem same_upd2 {H H' : Hp} {q : Addr} {o : HO} (s : Same H H') (h : H q = none) : Same H (upd H' q o) := fun b x e => by
  rw [upd_ne (ne_of_none e h)]
  exact s b x e
section
variable {P : Program} {w : World} {K : PySem.W.Frag} {mg : Str → Option Value} {base : Heap}
theorem ok_check_sum (T : Txt K mg) : FnOk P w K mg base CX0 1 T.f_check_sum T.fd_check_sum ["data"] spSum := by
  refine T.F_check_sum.ok sc_check_sum (fun vs H Q E h => ?_) (fun cdv A outer s H vs Q E hr h => ?_)
  · obtain ⟨a, ns, rfl, _⟩ := h
    rfl
  · obtain ⟨a, ns, rfl, ha, hn, hb, q⟩ := h
    refine ⟨_, (pss_cons (ps_set (i := 1) sc_check_sum.nd rfl (Or.inl rfl) (pe_glob (v := .int 4294967295) (by rfl) T.c__ALL_BITS ⟨_, rfl⟩))
      (pss_cons (ps_for PassesOwn.never rfl (pi_list (pv 0)) (pg_name (i := 2) sc_check_sum.nd rfl (Or.inl rfl)) (pss_cons (ps_aug (i := 1) sc_check_sum.nd rfl (Or.inl rfl) (pv 2) (ip_of iop_xor))
      (pss_cons (ps_set (i := 1) sc_check_sum.nd rfl (Or.inl rfl) (pe_op op_xor (pe_op op_shr (pv 1) pe_int) (pe_ix ix_tup (pe_glob (v := .ref T.a__FOUR_SHIFTS) (by rfl) T.c__FOUR_SHIFTS rfl) (pe_op op_and (pv 1) pe_int) (fun _ _ => rfl))))
      (pss_one (ps_set (i := 1) sc_check_sum.nd rfl (Or.inl rfl) (pe_op op_xor (pe_op op_shr (pv 1) pe_int) (pe_ix ix_tup (pe_glob (v := .ref T.a__FOUR_SHIFTS) (by rfl) T.c__FOUR_SHIFTS rfl) (pe_op op_and (pv 1) pe_int) (fun _ _ => rfl))))))))
      (pss_one (ps_ret (pe_op op_xor (pv 1) (pe_glob (v := .int 4294967295) (by rfl) T.c__ALL_BITS ⟨_, rfl⟩)))))), ?_⟩
    walk_at "vc"
    refine ⟨⟨_, .inl (.inl ha)⟩, lp_list (xs := ns.map V.int) (fun i σ H' => ∃ bv, σ = [some (.ref a), some (.int (reg 4294967295 (ns.take i) : Int)), bv] ∧ H' = H) ⟨_, rfl, rfl⟩ ?_ ?_ ?_⟩
    · rintro i σ H' _ ⟨bv, rfl, rfl⟩
      exact .inl (.inl ha)
    · rintro i x σ H' hx ⟨bv, rfl, rfl⟩
      rw [List.getElem?_map] at hx
      obtain ⟨b, hb1, rfl⟩ := Option.map_eq_some_iff.mp hx
      have h0 := hb b (List.mem_of_getElem? hb1)
      walk_at "vc"
      rw [xorB h0.1]
      refine ⟨_, T.q__FOUR_SHIFTS _, _, four_look _, _, rfl, ?_⟩
      rw [four_next]
      refine ⟨_, T.q__FOUR_SHIFTS _, _, four_look _, _, rfl, ?_⟩
      rw [four_next, reg_take _ hb1]
      rfl
    · rintro σ H' ⟨bv, rfl, rfl⟩
      rw [List.length_map, List.take_length]
      walk_at "vc"
      rw [show (4294967295 : Int) = ((4294967295 : Nat) : Int) from rfl, xorI]
      exact q
def spLawSum : Sp := fun vs H Q _ => ∃ (a : Addr) (ns : List Int), vs = [.ref a] ∧ H a = some (.lst (ns.map V.int)) ∧ ns.length ≤ 100 ∧ Byt ns ∧ ∀ H', Same H H' → Q (.int (crc ns : Int)) H'
theorem ok__law_sum (T : Txt K mg) : FnOk P w K mg base CX0 1 T.f__law_sum T.fd__law_sum ["data"] spLawSum := by
  refine T.F__law_sum.ok sc__law_sum (fun vs H Q E h => ?_) (fun cdv A outer s H vs Q E hr h => ?_)
  · obtain ⟨a, ns, rfl, _⟩ := h
    rfl
  · obtain ⟨a, ns, rfl, ha, hn, hb, q⟩ := h
    refine ⟨_, (pss_cons (ps_set (i := 1) sc__law_sum.nd rfl (Or.inl rfl) (pe_lst pa_nil))
      (pss_cons (ps_for PassesOwn.never rfl (pi_list (pv 0)) (pg_name (i := 2) sc__law_sum.nd rfl (Or.inl rfl)) (pss_one (ps_for PassesOwn.never rfl (pi_range1 (by rfl) T.z_range (pa_cons pe_int pa_nil)) (pg_name (i := 3) sc__law_sum.nd rfl (Or.inl rfl)) (pss_one (ps_expr (pe_bm PySem.F.plainAttrs_list PySem.F.slot_list_append PySem.F.type_list_append mt_append (pv 1) (pa_cons (pe_op op_and (pe_op op_shr (pv 2) (pv 3)) pe_int) pa_nil)))))))
      (pss_cons (ps_set (i := 4) sc__law_sum.nd rfl (Or.inl rfl) (pe_op op_rep (pe_lst (pa_cons pe_int pa_nil)) pe_int))
      (pss_cons (ps_for PassesOwn.never rfl (pi_list (pv 1)) (pg_name (i := 5) sc__law_sum.nd rfl (Or.inl rfl)) (pss_cons (ps_set (i := 6) sc__law_sum.nd rfl (Or.inl rfl) (pe_op op_xor (pe_ix ix_listH (pv 4) pe_int (fun _ _ => rfl)) (pv 5)))
      (pss_cons (ps_set (i := 4) sc__law_sum.nd rfl (Or.inl rfl) (pe_op op_cat (pe_slice sl_listH (pv 4) (po_some pe_int) po_none) (pe_lst (pa_cons pe_int pa_nil))))
      (pss_one (ps_if (pt_cmpR op_eq (pv 6) pe_int (nomark _)) (pss_one (ps_for PassesOwn.never rfl (pi_range1 (by rfl) T.z_range (pa_cons pe_int pa_nil)) (pg_name (i := 3) sc__law_sum.nd rfl (Or.inl rfl)) (pss_one (ps_asg (pe_op op_xor (pe_ix ix_listH (pv 4) (pv 3) (fun _ _ => rfl)) (pe_op op_and (pe_op op_shr pe_int (pv 3)) pe_int)) (pg_sub (pv 4) (pv 3) set_list))))) pss_nil)))))
      (pss_cons (ps_set (i := 7) sc__law_sum.nd rfl (Or.inl rfl) pe_int)
      (pss_cons (ps_for PassesOwn.never rfl (pi_range1 (by rfl) T.z_range (pa_cons pe_int pa_nil)) (pg_name (i := 3) sc__law_sum.nd rfl (Or.inl rfl)) (pss_one (ps_set (i := 7) sc__law_sum.nd rfl (Or.inl rfl) (pe_op op_add (pv 7) (pe_op op_shl (pe_op op_sub pe_int (pe_ix ix_listH (pv 4) (pv 3) (fun _ _ => rfl))) (pv 3))))))
      (pss_one (ps_ret (pv 7))))))))), ?_⟩
    walk_at "vc"
    intro pb hpb
    have hapb : a ≠ pb := ne_of_none ha hpb
    refine ⟨⟨_, .inl (.inl (by rw [upd_ne hapb]; exact ha))⟩, lp_list (xs := ns.map V.int) (fun i σ H' => ∃ bv kv, σ = [some (.ref a), some (.ref pb), bv, kv, none, none, none, none] ∧ H' = upd H pb (.lst (natV (bitsD (ns.take i))))) ⟨_, _, rfl, rfl⟩ ?_ ?_ ?_⟩
    · rintro i σ H' _ ⟨bv, kv, rfl, rfl⟩
      exact .inl (.inl (by rw [upd_ne hapb]; exact ha))
    · rintro i x σ H' hx ⟨bv, kv, rfl, rfl⟩
      rw [List.getElem?_map] at hx
      obtain ⟨b, hb1, rfl⟩ := Option.map_eq_some_iff.mp hx
      have h0 := hb b (List.mem_of_getElem? hb1)
      walk_at "vc"
      refine lp_range (n := 8) (fun j σ H' => ∃ kv, σ = [some (.ref a), some (.ref pb), some (.int b), kv, none, none, none, none] ∧ H' = upd H pb (.lst (natV (bitsD (ns.take i) ++ (bits8 b.toNat).take j)))) ⟨_, rfl, ?_⟩ ?_ ?_
      · rw [List.take_zero, List.append_nil]
      · rintro j σ H' hj ⟨kv, rfl, rfl⟩
        walk_at "vc"
        refine ⟨by omega, ?_⟩
        rw [bit8_at hj h0, show (bits8 b.toNat).take (j + 1) = (bits8 b.toNat).take j ++ [b.toNat / 2 ^ j % 2] from bits8_take hj, ← List.append_assoc, natV_snoc]
        refine ⟨?_, rfl⟩
        rw [natV_len, List.length_append, bitsD_len, List.length_take, List.length_take]
        exact small1000 (by omega)
      · rintro σ H' ⟨kv, rfl, rfl⟩
        walk_at "vc"
        rw [bitsD_take hb1, List.take_of_length_le (show (bits8 b.toNat).length ≤ 8 from Nat.le_of_eq rfl)]
    · rintro σ H' ⟨bv, kv, rfl, rfl⟩
      rw [List.length_map, List.take_length]
      walk_at "vc"
      refine ⟨by decide, fun p1 hp1 => ⟨by decide, fun p2 hp2 => ?_⟩⟩
      have hb1 : (upd H pb (.lst (natV (bitsD ns)))) pb = some (.lst (natV (bitsD ns))) := upd_same
      have s1 : Same (upd H pb (.lst (natV (bitsD ns)))) (upd (upd H pb (.lst (natV (bitsD ns)))) p1 (.lst [V.int 1])) := same_upd hp1
      have hp2' := s1.free hp2
      have s2 := s1.trans (same_upd (o := .lst (natV (bitsL 4294967295))) hp2)
      refine ⟨⟨_, .inl (.inl (s2 _ _ hb1))⟩, lp_list (xs := natV (bitsD ns)) (fun i σ H' => ∃ bv kv pc cv ov, σ = [some (.ref a), some (.ref pb), bv, kv, some (.ref pc), cv, ov, none] ∧ Same (upd H pb (.lst (natV (bitsD ns)))) H' ∧ (upd H pb (.lst (natV (bitsD ns)))) pc = none ∧ H' pc = some (.lst (natV (bitsL (feed ((bitsD ns).take i)))))) ?_ ?_ ?_ ?_⟩
      · exact ⟨_, _, _, _, _, rfl, s2, hp2', by rw [upd_same, List.take_zero]; exact congrArg (fun l => some (HO.lst l)) ones32⟩
      · rintro i σ H' _ ⟨bv, kv, pc, cv, ov, rfl, sm, hc, hc2⟩
        exact .inl (.inl (sm _ _ hb1))
      · rintro i x σ H' hx ⟨bv, kv, pc, cv, ov, rfl, sm, hc, hc2⟩
        obtain ⟨c, hc1, rfl⟩ := natV_get hx
        have hcb := bitsD_lt ns c (List.mem_of_getElem? hc1)
        have hr32 := feed_lt ((bitsD ns).take i) fun x hx => bitsD_lt ns x (List.mem_of_mem_take hx)
        rw [feed_take hc1]
        generalize feed ((bitsD ns).take i) = r at hc2 hr32 ⊢
        walk_at "vc"
        refine ⟨_, hc2, _, bitsL_head r, _, rfl, _, hc2, fun p hp => ⟨by decide, fun p1 hp1 => ?_⟩⟩
        have hpp1 : p ≠ p1 := ne_of_none upd_same hp1
        refine ⟨_, by rw [upd_ne hpp1, upd_same], ?_, fun p2 hp2 => ?_⟩
        · rw [← List.length_singleton (a := V.int 0), ← List.length_append, bitsL_shift hr32, natV_len]
          unfold bitsL
          rw [List.length_map, List.length_range]
          decide
        rw [bitsL_shift hr32, xorI]
        have q1 : Same (upd H pb (.lst (natV (bitsD ns)))) (upd H' p (.lst (cutV (natV (bitsL r)) (some 1) none))) := sm.trans (same_upd hp)
        have q2 := q1.trans (same_upd (o := .lst [V.int 0]) hp1)
        have n2 := q2.free hp2
        have q3 := q2.trans (same_upd (o := .lst (natV (bitsL (r / 2)))) hp2)
        refine ite2 (fun e => ?_) (fun e => ?_)
        · have e1 : r % 2 ^^^ c = 1 := by have := of_decide_eq_true e; omega
          refine lp_range (n := 32) (fun j σ H2 => ∃ kv, σ = [some (.ref a), some (.ref pb), bv, kv, some (.ref p2), some (.int (c : Int)), some (.int ((r % 2 ^^^ c : Nat) : Int)), none] ∧ Same (upd H pb (.lst (natV (bitsD ns)))) H2 ∧ H2 p2 = some (.lst (natV (mixL (r / 2) j)))) ⟨_, rfl, q3, by rw [upd_same, mixL_zero]⟩ ?_ ?_
          · rintro j σ H2 hj ⟨kv, rfl, sm2, h2⟩
            walk_at "vc"
            refine ⟨_, h2, _, mixL_at _ hj, by omega, _, rfl, _, h2, j, ?_, same_upd2 sm2 n2, mixL_set _ hj⟩
            have h3 := ixN_in (n := (natV (mixL (r / 2) j)).length) (k := (j : Int)) (by omega) (by rw [natV_len, mixL_len]; omega)
            rw [Int.toNat_natCast] at h3
            exact h3
          · rintro σ H2 ⟨kv, rfl, sm2, h2⟩
            walk_at "vc"
            rw [st1_in hcb, if_pos e1, ← mixL_all]
            exact ⟨sm2, n2, h2⟩
        · have e1 : ¬ (r % 2 ^^^ c = 1) := fun z => e (decide_eq_true (by omega))
          rw [st1_in hcb, if_neg e1]
          exact ⟨q3, n2, rfl⟩
      · rintro σ H' ⟨bv, kv, pc, cv, ov, rfl, sm, hc, hc2⟩
        rw [natV_len, List.take_length, show feed (bitsD ns) = reg 4294967295 ns from feedD ns _ hb] at hc2
        have hr32 := reg_lt ns hb (show 4294967295 < 2 ^ 32 by decide)
        walk_at "vc"
        refine lp_range (n := 32) (fun j σ H2 => ∃ kv, σ = [some (.ref a), some (.ref pb), bv, kv, some (.ref pc), cv, ov, some (.int ((2 ^ j - 1 - reg 4294967295 ns % 2 ^ j : Nat) : Int))] ∧ H2 = H') ⟨kv, by rw [Nat.pow_zero, Nat.mod_one]; rfl, rfl⟩ ?_ ?_
        · rintro j σ H2 hj ⟨kv, rfl, rfl⟩
          walk_at "vc"
          refine ⟨_, hc2, _, bitsL_at _ hj, _, rfl, ?_⟩
          exact tot_step _ hj
        · rintro σ H2 ⟨kv, rfl, rfl⟩
          walk_at "vc"
          have e1 : 2 ^ 32 - 1 - reg 4294967295 ns % 2 ^ 32 = crc ns := by
            unfold crc
            rw [Nat.mod_eq_of_lt hr32]
            exact (ones_xor (k := 32) hr32).symm
          rw [e1]
          exact q _ ((same_upd hpb).trans sm)
theorem flipI {b : Int} (hb : 0 ≤ b) (j : Nat) : Builtin.bitXor b (1 * 2 ^ j) = ((b.toNat ^^^ 2 ^ j : Nat) : Int) := by
  have hp : (1 : Int) * 2 ^ j = ((2 ^ j : Nat) : Int) := by rw [Int.natCast_pow, Int.one_mul]; rfl
  rw [hp, Bits.bitXor_pp hb (Int.natCast_nonneg _), Int.toNat_natCast]
theorem flip_byte {b : Int} (hb : 0 ≤ b ∧ b < 256) {j : Nat} (hj : j < 8) : 0 ≤ ((b.toNat ^^^ 2 ^ j : Nat) : Int) ∧ ((b.toNat ^^^ 2 ^ j : Nat) : Int) < 256 := by
  have h := Nat.xor_lt_two_pow (x := b.toNat) (y := 2 ^ j) (n := 8) (by omega) (Nat.pow_lt_pow_right (a := 2) (by decide) hj)
  omega
theorem shift_xor (s x i : Nat) : (2 ^ s * x) ^^^ 2 ^ (s + i) = 2 ^ s * (x ^^^ 2 ^ i) := by
  rw [Nat.pow_add]
  simp only [Nat.mul_comm (2 ^ s), ← Nat.shiftLeft_eq, Nat.shiftLeft_xor_distrib]
theorem byt_set {l : List Int} {k : Nat} {b : Int} (h : Byt l) (hb : 0 ≤ b ∧ b < 256) : Byt (l.set k b) := fun c hc => by
  rcases List.mem_or_eq_of_mem_set hc with h1 | h1
  · exact h c h1
  · rw [h1]; exact hb
def spChanged : Sp := fun vs H Q _ => ∃ (a : Addr) (ns : List Int) (c o : Int), vs = [.ref a, .int c, .int o] ∧ H a = some (.lst (ns.map V.int)) ∧ ns ≠ [] ∧ ns.length ≤ 100 ∧ Byt ns ∧ 0 ≤ o ∧
  ∀ (p : Addr) (ms : List Int) (q s : Nat), H p = none → Byt ms → ms.length = ns.length → s ≤ 8 * ns.length → q < 2 ^ 32 → num ms = num ns ^^^ (2 ^ s * q) → Q (.ref p) (upd H p (.lst (ms.map V.int)))
theorem ok__law_changed (T : Txt K mg) : FnOk P w K mg base CX0 1 T.f__law_changed T.fd__law_changed ["data", "cell", "other"] spChanged := by
  refine T.F__law_changed.ok sc__law_changed (fun vs H Q E h => ?_) (fun cdv A outer s H vs Q E hr h => ?_)
  · obtain ⟨a, ns, c, o, rfl, _⟩ := h
    rfl
  · obtain ⟨a, ns, c, o, rfl, ha, hne, hn, hb, ho, q⟩ := h
    refine ⟨_, (pss_cons (ps_set (i := 3) sc__law_changed.nd rfl (Or.inl rfl) (pe_callTy call_listH (by rfl) T.z_list (by decide +kernel) (pa_cons (pv 0) pa_nil)))
      (pss_cons (ps_set (i := 4) sc__law_changed.nd rfl (Or.inl rfl) (pe_op op_mod (pe_callTy call_int1 (by rfl) T.z_int (by decide +kernel) (pa_cons (pv 1) pa_nil)) (pe_op op_mul pe_int (pe_callB call_lenH (by rfl) T.z_len PySem.boot_len (pa_cons (pv 0) pa_nil)))))
      (pss_cons (ps_set (i := 5) sc__law_changed.nd rfl (Or.inl rfl) (pe_op op_add pe_int (pe_op op_mod (pe_callTy call_int1 (by rfl) T.z_int (by decide +kernel) (pa_cons (pv 2) pa_nil)) pe_int)))
      (pss_cons (ps_if (pt_cmpR op_eq (pe_op op_mod (pe_callTy call_int1 (by rfl) T.z_int (by decide +kernel) (pa_cons (pe_op op_fdiv (pv 1) pe_int) pa_nil)) pe_int) pe_int (nomark _)) (pss_one (ps_set (i := 5) sc__law_changed.nd rfl (Or.inl rfl) (pe_op op_shl pe_int (pe_op op_mod (pe_callTy call_int1 (by rfl) T.z_int (by decide +kernel) (pa_cons (pv 2) pa_nil)) pe_int)))) pss_nil)
      (pss_cons (ps_for PassesOwn.never rfl (pi_range1 (by rfl) T.z_range (pa_cons pe_int pa_nil)) (pg_name (i := 6) sc__law_changed.nd rfl (Or.inl rfl)) (pss_cons (ps_set (i := 7) sc__law_changed.nd rfl (Or.inl rfl) (pe_op op_add (pv 4) (pv 6)))
      (pss_one (ps_if (PW.pt (pw_and (pt_cmpR op_eq (pe_op op_and (pe_op op_shr (pv 5) (pv 6)) pe_int) pe_int (nomark _)) (pw_and1 (pt_cmpR op_lt (pv 7) (pe_op op_mul pe_int (pe_callB call_lenH (by rfl) T.z_len PySem.boot_len (pa_cons (pv 0) pa_nil))) (nomark _))))) (pss_one (ps_asg (pe_op op_xor (pe_ix ix_listH (pv 3) (pe_op op_fdiv (pv 7) pe_int) (fun _ _ => rfl)) (pe_op op_shl pe_int (pe_op op_sub (pv 7) (pe_op op_mul (pe_op op_fdiv (pv 7) pe_int) pe_int)))) (pg_sub (pv 3) (pe_op op_fdiv (pv 7) pe_int) set_list))) pss_nil))))
      (pss_one (ps_ret (pv 3)))))))), ?_⟩
    walk_at "vc"
    refine ⟨_, ha, fun p hp => ?_⟩
    have hap : a ≠ p := ne_of_none ha hp
    have hl : 0 < ns.length := List.length_pos_iff.mpr hne
    simp only [upd_ne hap, ha]
    walk_at "vc"
    rw [List.length_map]
    obtain ⟨m0, m1⟩ := mod_in c (show (0 : Int) < 8 * (ns.length : Int) by omega)
    generalize c % (8 * (ns.length : Int)) = st at m0 m1 ⊢
    obtain ⟨st, rfl⟩ := Int.eq_ofNat_of_zero_le m0
    obtain ⟨o0, o1⟩ := mod_in o (show (0 : Int) < 32 by decide)
    refine ⟨Or.inl ⟨by decide, by decide⟩, by omega, ⟨by decide, by decide⟩, ite2 (fun e => ⟨⟨o0, by omega, by decide⟩, ?_⟩) (fun e => ?_)⟩
    · have hpat : (0 : Int) ≤ 1 * 2 ^ (o % 32).toNat := by rw [Int.one_mul]; exact Int.le_of_lt (Int.pow_pos (by decide))
      generalize (1 : Int) * 2 ^ (o % 32).toNat = pat at hpat ⊢
      refine lp_range (n := 32) (fun i σ H' => ∃ (ms : List Int) (x : Nat) (av pv : Option V), σ = [some (.ref a), some (.int c), some (.int o), some (.ref p), some (.int (st : Int)), some (.int pat), av, pv] ∧ H' = upd H p (.lst (ms.map V.int)) ∧ Byt ms ∧ ms.length = ns.length ∧ x < 2 ^ i ∧ num ms = num ns ^^^ (2 ^ st * x)) ⟨ns, 0, none, none, rfl, rfl, hb, rfl, by decide, by rw [Nat.mul_zero, Nat.xor_zero]⟩ ?_ ?_
      · rintro i σ H' hi ⟨ms, x, av, pv, rfl, rfl, hm, hml, hx, hnum⟩
        walk_at "vc"
        simp only [upd_ne hap, ha]
        walk_at "vc"
        have hp1 : (2 : Nat) ^ (i + 1) = 2 ^ i * 2 := Nat.pow_succ 2 i
        have stay : ∃ ms_1, upd H p (HO.lst (List.map V.int ms)) = upd H p (HO.lst (List.map V.int ms_1)) ∧ Byt ms_1 ∧ ms_1.length = ns.length ∧ ∃ x, x < 2 ^ (i + 1) ∧ num ms_1 = num ns ^^^ 2 ^ st * x := ⟨ms, rfl, hm, hml, x, by omega, hnum⟩
        refine ⟨by omega, ite2 (fun e1 => ⟨Or.inl ⟨by decide, by decide⟩, ite2 (fun e2 => ?_) (fun _ => stay)⟩) (fun _ => stay)⟩
        have e3 := of_decide_eq_true e2
        rw [List.length_map] at e3
        obtain ⟨b, hb1, hb2⟩ := atI_in (xs := ms) (k := ((st : Int) + (i : Int)) / 8) (by omega) (by omega)
        have e4 : ((st : Int) + (i : Int)) - ((st : Int) + (i : Int)) / 8 * 8 = (((st + i) % 8 : Nat) : Int) := by omega
        have e5 : (((st : Int) + (i : Int)) / 8).toNat = (st + i) / 8 := by omega
        have hbb := hm b (List.mem_of_getElem? hb1)
        have hj : (st + i) % 8 < 8 := Nat.mod_lt _ (by decide)
        refine ⟨⟨by decide, by decide⟩, _, hb2, ⟨by decide, by decide⟩, cmul_c (by decide) (by decide), ⟨by omega, by omega, by decide⟩, b, rfl, ⟨by decide, by decide⟩, (((st : Int) + (i : Int)) / 8).toNat, ?_, ms.set ((st + i) / 8) (((b.toNat ^^^ 2 ^ ((st + i) % 8) : Nat)) : Int), ?_, byt_set hm (flip_byte hbb hj), by rw [List.length_set]; exact hml, x ^^^ 2 ^ i, ?_, ?_⟩
        · exact ixN_in (by omega) (by rw [List.length_map]; omega)
        · rw [e4, Int.toNat_natCast, flipI hbb.1, e5, List.map_set]
        · exact Nat.xor_lt_two_pow (by omega) (by rw [hp1]; have := Nat.pow_pos (n := i) (show 0 < 2 by decide); omega)
        · rw [num_set hm (by rw [← e5]; exact hb1) hj, hnum, show 8 * ((st + i) / 8) + (st + i) % 8 = st + i by omega, Nat.xor_assoc, shift_xor]
      · rintro σ H' ⟨ms, x, av, pv, rfl, rfl, hm, hml, hx, hnum⟩
        walk_at "vc"
        exact q p ms x st hp hm hml (by omega) hx hnum
    · have hpat : (0 : Int) ≤ 1 + o % 4294967295 := by have := mod_in o (show (0 : Int) < 4294967295 by decide); omega
      generalize (1 : Int) + o % 4294967295 = pat at hpat ⊢
      refine lp_range (n := 32) (fun i σ H' => ∃ (ms : List Int) (x : Nat) (av pv : Option V), σ = [some (.ref a), some (.int c), some (.int o), some (.ref p), some (.int (st : Int)), some (.int pat), av, pv] ∧ H' = upd H p (.lst (ms.map V.int)) ∧ Byt ms ∧ ms.length = ns.length ∧ x < 2 ^ i ∧ num ms = num ns ^^^ (2 ^ st * x)) ⟨ns, 0, none, none, rfl, rfl, hb, rfl, by decide, by rw [Nat.mul_zero, Nat.xor_zero]⟩ ?_ ?_
      · rintro i σ H' hi ⟨ms, x, av, pv, rfl, rfl, hm, hml, hx, hnum⟩
        walk_at "vc"
        simp only [upd_ne hap, ha]
        walk_at "vc"
        have hp1 : (2 : Nat) ^ (i + 1) = 2 ^ i * 2 := Nat.pow_succ 2 i
        have stay : ∃ ms_1, upd H p (HO.lst (List.map V.int ms)) = upd H p (HO.lst (List.map V.int ms_1)) ∧ Byt ms_1 ∧ ms_1.length = ns.length ∧ ∃ x, x < 2 ^ (i + 1) ∧ num ms_1 = num ns ^^^ 2 ^ st * x := ⟨ms, rfl, hm, hml, x, by omega, hnum⟩
        refine ⟨by omega, ite2 (fun e1 => ⟨Or.inl ⟨by decide, by decide⟩, ite2 (fun e2 => ?_) (fun _ => stay)⟩) (fun _ => stay)⟩
        have e3 := of_decide_eq_true e2
        rw [List.length_map] at e3
        obtain ⟨b, hb1, hb2⟩ := atI_in (xs := ms) (k := ((st : Int) + (i : Int)) / 8) (by omega) (by omega)
        have e4 : ((st : Int) + (i : Int)) - ((st : Int) + (i : Int)) / 8 * 8 = (((st + i) % 8 : Nat) : Int) := by omega
        have e5 : (((st : Int) + (i : Int)) / 8).toNat = (st + i) / 8 := by omega
        have hbb := hm b (List.mem_of_getElem? hb1)
        have hj : (st + i) % 8 < 8 := Nat.mod_lt _ (by decide)
        refine ⟨⟨by decide, by decide⟩, _, hb2, ⟨by decide, by decide⟩, cmul_c (by decide) (by decide), ⟨by omega, by omega, by decide⟩, b, rfl, ⟨by decide, by decide⟩, (((st : Int) + (i : Int)) / 8).toNat, ?_, ms.set ((st + i) / 8) (((b.toNat ^^^ 2 ^ ((st + i) % 8) : Nat)) : Int), ?_, byt_set hm (flip_byte hbb hj), by rw [List.length_set]; exact hml, x ^^^ 2 ^ i, ?_, ?_⟩
        · exact ixN_in (by omega) (by rw [List.length_map]; omega)
        · rw [e4, Int.toNat_natCast, flipI hbb.1, e5, List.map_set]
        · exact Nat.xor_lt_two_pow (by omega) (by rw [hp1]; have := Nat.pow_pos (n := i) (show 0 < 2 by decide); omega)
        · rw [num_set hm (by rw [← e5]; exact hb1) hj, hnum, show 8 * ((st + i) / 8) + (st + i) % 8 = st + i by omega, Nat.xor_assoc, shift_xor]
      · rintro σ H' ⟨ms, x, av, pv, rfl, rfl, hm, hml, hx, hnum⟩
        walk_at "vc"
        exact q p ms x st hp hm hml (by omega) hx hnum
def xI (a b : Int) : Int := (((a.toNat ^^^ b.toNat : Nat)) : Int)
theorem xI_eq {a b : Int} (ha : 0 ≤ a) (hb : 0 ≤ b) : Builtin.bitXor a b = xI a b := Bits.bitXor_pp ha hb
theorem xI_byte {a b : Int} (ha : 0 ≤ a ∧ a < 256) (hb : 0 ≤ b ∧ b < 256) : 0 ≤ xI a b ∧ xI a b < 256 := by
  have h := Nat.xor_lt_two_pow (x := a.toNat) (y := b.toNat) (n := 8) (by omega) (by omega)
  unfold xI
  omega
theorem zip_byt {x y : List Int} (hx : Byt x) (hy : Byt y) : Byt (List.zipWith xI x y) := fun c hc => by
  obtain ⟨i, hi, e⟩ := List.mem_iff_getElem.mp hc
  rw [← e, List.getElem_zipWith]
  exact xI_byte (hx _ (List.getElem_mem _)) (hy _ (List.getElem_mem _))
theorem at_nat {l : List Int} {i : Nat} {b : Int} (h : l[i]? = some b) : atI (l.map V.int) (i : Int) = some (V.int b) := atI_nat (by rw [List.getElem?_map, h]; rfl)
def spLaw (K : PySem.W.Frag) : Sp := fun vs H Q _ => ∃ (a : Addr) (ns : List Int), vs = [.ref a] ∧ SqL K H a (ns.map V.int) ∧ ns.length ≤ 63 ∧ ∀ H', Q (.bl true) H'
theorem ok_law_of {f : Addr} {fd : FuncData} (F : Fun K "law" "law" s_law f fd) (T : Txt K mg) : FnOk P w K mg base CX0 3 f fd ["script"] (spLaw K) := by
  refine F.ok sc_law (fun vs H Q E h => ?_) (fun cdv A outer s H vs Q E hr h => ?_)
  · obtain ⟨a, ns, rfl, _⟩ := h
    rfl
  · obtain ⟨a, ns, rfl, hS, hlen, q⟩ := h
    refine ⟨_, (pss_cons (ps_set (i := 1) sc_law.nd rfl (Or.inl rfl) (pe_callB call_abs (by rfl) T.z_abs (by decide +kernel) (pa_cons (pe_call (ok__law_cell T) (hr.mono (by decide)) (by rfl) T.g__law_cell T.F__law_cell.kp T.b__law_cell .nil pass0 (pa_cons (pv 0) (pa_cons pe_int pa_nil))) pa_nil)))
      (pss_cons (ps_set (i := 2) sc_law.nd rfl (Or.inr rfl) (pe_call (ok__law_bytes T) hr (by rfl) T.g__law_bytes T.F__law_bytes.kp T.b__law_bytes .nil pass0 (pa_cons (pe_call (ok__law_cell T) (hr.mono (by decide)) (by rfl) T.g__law_cell T.F__law_cell.kp T.b__law_cell .nil pass0 (pa_cons (pv 0) (pa_cons pe_int pa_nil))) (pa_cons (pe_op op_mod (pe_callTy call_int1 (by rfl) T.z_int (by decide +kernel) (pa_cons (pv 1) pa_nil)) pe_int) pa_nil))))
      (pss_cons (ps_set (i := 3) sc_law.nd rfl (Or.inl rfl) (pe_callTy call_listH (by rfl) T.z_list (by decide +kernel) (pa_cons (pv 2) pa_nil)))
      (pss_cons (ps_set (i := 4) sc_law.nd rfl (Or.inl rfl) (pe_call (ok_check_sum T) (hr.mono (by decide)) (by rfl) T.g_check_sum T.F_check_sum.kp T.b_check_sum .nil pass0 (pa_cons (pv 3) pa_nil)))
      (pss_cons (ps_if (PW.pt (pw_or (pt_not (pt_val (pe_call (ok__law_integer T) (hr.mono (by decide)) (by rfl) T.g__law_integer T.F__law_integer.kp T.b__law_integer .nil pass0 (pa_cons (pv 4) pa_nil)))) (pw_or (pt_cmpR op_ne (pv 4) (pe_call (ok__law_sum T) (hr.mono (by decide)) (by rfl) T.g__law_sum T.F__law_sum.kp T.b__law_sum .nil pass0 (pa_cons (pv 2) pa_nil)) (nomark _)) (pw_or1 (pt_cmpR (op_neIL hr.units) (pv 3) (pv 2) (nomark _)))))) (pss_one (ps_ret pe_bl)) pss_nil)
      (pss_cons (ps_if (pt_cmpR op_eq (pe_callB call_lenH (by rfl) T.z_len PySem.boot_len (pa_cons (pv 2) pa_nil)) pe_int (nomark _)) (pss_one (ps_ret (pe_cmpR op_eq (pv 4) pe_int (nomark _)))) pss_nil)
      (pss_cons (ps_set (i := 5) sc_law.nd rfl (Or.inr rfl) (pe_call (ok__law_changed T) (hr.mono (by decide)) (by rfl) T.g__law_changed T.F__law_changed.kp T.b__law_changed .nil pass0 (pa_cons (pv 2) (pa_cons (pe_callB call_abs (by rfl) T.z_abs (by decide +kernel) (pa_cons (pe_call (ok__law_cell T) (hr.mono (by decide)) (by rfl) T.g__law_cell T.F__law_cell.kp T.b__law_cell .nil pass0 (pa_cons (pv 0) (pa_cons pe_int pa_nil))) pa_nil)) (pa_cons (pe_callB call_abs (by rfl) T.z_abs (by decide +kernel) (pa_cons (pe_call (ok__law_cell T) (hr.mono (by decide)) (by rfl) T.g__law_cell T.F__law_cell.kp T.b__law_cell .nil pass0 (pa_cons (pv 0) (pa_cons pe_int pa_nil))) pa_nil)) pa_nil)))))
      (pss_cons (ps_if (PW.pt (pw_and (pt_cmpR (op_neIL hr.units) (pv 5) (pv 2) (nomark _)) (pw_and1 (pt_cmpR op_eq (pe_call (ok_check_sum T) (hr.mono (by decide)) (by rfl) T.g_check_sum T.F_check_sum.kp T.b_check_sum .nil pass0 (pa_cons (pe_callTy call_listH (by rfl) T.z_list (by decide +kernel) (pa_cons (pv 5) pa_nil)) pa_nil)) (pv 4) (nomark _))))) (pss_one (ps_ret pe_bl)) pss_nil)
      (pss_cons (ps_set (i := 6) sc_law.nd rfl (Or.inr rfl) (pe_call (ok__law_bytes T) hr (by rfl) T.g__law_bytes T.F__law_bytes.kp T.b__law_bytes .nil pass0 (pa_cons (pe_call (ok__law_cell T) (hr.mono (by decide)) (by rfl) T.g__law_cell T.F__law_cell.kp T.b__law_cell .nil pass0 (pa_cons (pv 0) (pa_cons pe_int pa_nil))) (pa_cons (pe_callB call_lenH (by rfl) T.z_len PySem.boot_len (pa_cons (pv 2) pa_nil)) pa_nil))))
      (pss_cons (ps_setLc (i := 7) (own := [("k", 8)]) (g := (gName 8)) rfl sc_law.nd rfl rfl (sw_true rfl rfl rfl (by decide +kernel)) (pi_range1 (by rfl) T.z_range (pa_cons (pe_callB call_lenH (by rfl) T.z_len PySem.boot_len (pa_cons (pv 2) pa_nil)) pa_nil)) (blkOk_by (own := [("k", 8)]) (N := ["script", "cell", "data", "given", "found", "other", "third", "mixed", "k"]) (sc := defScope s_law) (by decide +kernel)) (fun _ _ _ _ _ => (pg_name (i := 8) sc_law.nd rfl (Or.inl rfl))) (fun _ _ _ _ _ => pts_nil) (fun _ _ _ _ _ => (pe_op op_xor (pe_op op_xor (pe_ix ix_listH (pv 2) (pv 8) (fun _ _ => rfl)) (pe_ix ix_listH (pv 5) (pv 8) (fun _ _ => rfl))) (pe_ix ix_listH (pv 6) (pv 8) (fun _ _ => rfl)))))
      (pss_one (ps_ret (pe_cmpR op_eq (pe_call (ok_check_sum T) (hr.mono (by decide)) (by rfl) T.g_check_sum T.F_check_sum.kp T.b_check_sum .nil pass0 (pa_cons (pv 7) pa_nil)) (pe_op op_xor (pe_op op_xor (pv 4) (pe_call (ok_check_sum T) (hr.mono (by decide)) (by rfl) T.g_check_sum T.F_check_sum.kp T.b_check_sum .nil pass0 (pa_cons (pv 5) pa_nil))) (pe_call (ok_check_sum T) (hr.mono (by decide)) (by rfl) T.g_check_sum T.F_check_sum.kp T.b_check_sum .nil pass0 (pa_cons (pv 6) pa_nil))) (nomark _)))))))))))))), ?_⟩
    walk_at "vc"
    refine ⟨a, ns, 0, rfl, hS, ?_⟩
    walk_at "vc"
    refine ⟨a, ns, 1, rfl, hS, ?_⟩
    walk_at "vc"
    rw [absI_eq]
    refine bytes_mod (by decide) (by decide) fun p hp => ?_
    walk_at "vc"
    have hD := byL_mem (cellA ns 1) ((absI (cellA ns 0) % 61).toNat)
    have hDl := byL_len (cellA ns 1) ((absI (cellA ns 0) % 61).toNat)
    have hDm := mod_in (absI (cellA ns 0)) (show (0 : Int) < 61 by decide)
    generalize byL (cellA ns 1) ((absI (cellA ns 0) % 61).toNat) = D at hD hDl ⊢
    have hDn : D.length ≤ 60 := by omega
    have hB : Byt D := hD
    intro l hl
    have hpl : p ≠ l := ne_of_none upd_same hl
    refine ⟨l, D, rfl, upd_same, by omega, hB, ?_⟩
    walk_at "vc"
    simp only [spInteger]
    walk_at "vc"
    refine ⟨p, D, rfl, (by rw [upd_ne hpl, upd_same]), by omega, hB, fun H1 sm1 => ?_⟩
    walk_at "vc"
    have h1l : H1 l = some (.lst (D.map V.int)) := sm1 _ _ upd_same
    have h1p : H1 p = some (.lst (D.map V.int)) := sm1 _ _ (by rw [upd_ne hpl, upd_same])
    have sH : Same H H1 := ((same_upd hp).trans (same_upd hl)).trans sm1
    refine ⟨D, h1l, D, h1p, ?_⟩
    rw [decide_eq_true (show D = D from rfl)]
    refine iteF ⟨_, h1p, ite2 (fun e => ?_) (fun e => ?_)⟩
    · have e0 : D = [] := by simpa using e
      subst e0
      rw [show decide (((crc [] : Nat) : Int) = 0) = true by decide +kernel]
      exact q _
    have e0 : D ≠ [] := fun z => e (by simp [z])
    refine ⟨a, ns, 2, rfl, sH.seq hS, ?_⟩
    walk_at "vc"
    refine ⟨a, ns, 3, rfl, sH.seq hS, ?_⟩
    walk_at "vc"
    rw [absI_eq, absI_eq]
    refine ⟨p, D, _, _, rfl, h1p, e0, by omega, hB, absI_nn _, fun p2 ms x st hp2 hB2 hml hst hx hnum => ?_⟩
    have hpp2 : p ≠ p2 := ne_of_none h1p hp2
    walk_at "vc"
    refine ⟨ms, rfl, D, by rw [upd_ne hpp2]; exact h1p, ?_⟩
    have sP : Same H1 (upd H1 p2 (.lst (ms.map V.int))) := same_upd hp2
    have h2p : upd H1 p2 (.lst (ms.map V.int)) p = some (.lst (D.map V.int)) := sP _ _ h1p
    have h2m : upd H1 p2 (.lst (ms.map V.int)) p2 = some (.lst (ms.map V.int)) := upd_same
    have sH2 := sH.trans sP
    have key : ∀ H2, Same (upd H1 p2 (.lst (ms.map V.int))) H2 → True := fun _ _ => True.intro
    refine ite2 (fun e2 => ?_) (fun e2 => ?_)
    · intro l1 hl1
      have hne : ms ≠ D := fun z => by
        rw [decide_eq_true z] at e2
        cases e2
      have hx0 : x ≠ 0 := fun z => hne (num_inj hB hB2 hml (by rw [hnum, z, Nat.mul_zero, Nat.xor_zero]))
      have hcn := crc_ne hB hB2 hml hst hx hx0 hnum
      refine ⟨l1, ms, rfl, upd_same, by omega, hB2, ?_⟩
      walk_at "vc"
      rw [decide_eq_false (show ¬ ((crc ms : Nat) : Int) = ((crc D : Nat) : Int) by omega)]
      walk_at "vc"
      have sQ := (same_upd (o := .lst (ms.map V.int)) hl1)
      have g2p := sQ _ _ h2p
      have g2m := sQ _ _ h2m
      have gH2 := sH2.trans sQ
      generalize upd (upd H1 p2 (.lst (ms.map V.int))) l1 (.lst (ms.map V.int)) = H2 at g2p g2m gH2 ⊢
      refine ⟨a, ns, 4, rfl, gH2.seq hS, ?_⟩
      walk_at "vc"
      refine ⟨_, g2p, cellA ns 4, D.length, by rw [List.length_map], by omega, fun p3 hp3 => ?_⟩
      have hE := byL_mem (cellA ns 4) D.length
      have hEl := byL_len (cellA ns 4) D.length
      generalize byL (cellA ns 4) D.length = Z at hE hEl ⊢
      have hBE : Byt Z := hE
      have sR := (same_upd (o := .lst (Z.map V.int)) hp3)
      have k2p := sR _ _ g2p
      have k2m := sR _ _ g2m
      have k2z : upd H2 p3 (.lst (Z.map V.int)) p3 = some (.lst (Z.map V.int)) := upd_same
      generalize upd H2 p3 (.lst (Z.map V.int)) = H3 at k2p k2m k2z ⊢
      walk_at "vc"
      refine ⟨_, k2p, by omega, by rw [List.length_map]; omega, ?_⟩
      have hM : (List.zipWith xI (List.zipWith xI D ms) Z).length = D.length := by
        rw [List.length_zipWith, List.length_zipWith]; omega
      rw [List.length_map]
      refine lc_pure_range (L := fun i => ((List.zipWith xI (List.zipWith xI D ms) Z).take i).map V.int) rfl (fun i D4 hi hD4 => ?_) (fun D4 hD4 => ?_)
      · have n1 : p ≠ D4 := ne_of_none k2p hD4
        have n2 : p2 ≠ D4 := ne_of_none k2m hD4
        have n3 : p3 ≠ D4 := ne_of_none k2z hD4
        simp only [wipe, List.foldl_cons, List.foldl_nil, tYes]
        walk_at "vc"
        simp only [upd_ne n1, upd_ne n2, upd_ne n3, k2p, k2m, k2z]
        walk_at "vc"
        obtain ⟨d, hd⟩ : ∃ d, D[i]? = some d := ⟨_, List.getElem?_eq_getElem hi⟩
        obtain ⟨m, hm⟩ : ∃ m, ms[i]? = some m := ⟨_, List.getElem?_eq_getElem (by omega)⟩
        obtain ⟨z, hz⟩ : ∃ z, Z[i]? = some z := ⟨_, List.getElem?_eq_getElem (by omega)⟩
        have b1 := hB d (List.mem_of_getElem? hd)
        have b2 := hB2 m (List.mem_of_getElem? hm)
        have b3 := hBE z (List.mem_of_getElem? hz)
        refine ⟨_, at_nat hd, _, at_nat hm, _, rfl, _, rfl, _, at_nat hz, _, rfl, ?_, ?_⟩
        · rw [List.length_map, List.length_take]
          exact small1000 (by omega)
        · rw [xI_eq b1.1 b2.1, xI_eq (xI_byte b1 b2).1 b3.1, List.take_add_one, List.getElem?_zipWith, List.getElem?_zipWith, hd, hm, hz, List.map_append]
          rfl
      · rw [List.take_of_length_le (Nat.le_of_eq hM)]
        have n1 : p2 ≠ D4 := ne_of_none k2m hD4
        have n2 : p3 ≠ D4 := ne_of_none k2z hD4
        have hBM := zip_byt (zip_byt hB hB2) hBE
        refine ⟨D4, _, rfl, upd_same, by omega, hBM, ?_⟩
        refine ⟨p2, ms, rfl, by rw [upd_ne n1]; exact k2m, by omega, hB2, _, rfl, ?_⟩
        refine ⟨p3, Z, rfl, by rw [upd_ne n2]; exact k2z, by omega, hBE, _, rfl, rfl, ?_⟩
        have h12 : (List.zipWith xI D ms).length = D.length := by rw [List.length_zipWith]; omega
        have hc3 := crc_three hB hB2 hBE hBM hml (by omega) hM (by
          have a1 := num_xor (zip_byt hB hB2) hBE (by omega)
          have a2 := num_xor hB hB2 hml
          exact a1.trans (by rw [show num (List.zipWith xI D ms) = num D ^^^ num ms from a2]))
        have hv : V.int ((crc (List.zipWith xI (List.zipWith xI D ms) Z) : Nat) : Int) = V.int (Builtin.bitXor (Builtin.bitXor ((crc D : Nat) : Int) ((crc ms : Nat) : Int)) ((crc Z : Nat) : Int)) := by rw [xorI, xorI, hc3]
        rw [decide_eq_true hv]
        exact q _
    · have g2p := h2p
      have g2m := h2m
      have gH2 := sH2
      generalize upd H1 p2 (.lst (ms.map V.int)) = H2 at g2p g2m gH2 ⊢
      refine ⟨a, ns, 4, rfl, gH2.seq hS, ?_⟩
      walk_at "vc"
      refine ⟨_, g2p, cellA ns 4, D.length, by rw [List.length_map], by omega, fun p3 hp3 => ?_⟩
      have hE := byL_mem (cellA ns 4) D.length
      have hEl := byL_len (cellA ns 4) D.length
      generalize byL (cellA ns 4) D.length = Z at hE hEl ⊢
      have hBE : Byt Z := hE
      have sR := (same_upd (o := .lst (Z.map V.int)) hp3)
      have k2p := sR _ _ g2p
      have k2m := sR _ _ g2m
      have k2z : upd H2 p3 (.lst (Z.map V.int)) p3 = some (.lst (Z.map V.int)) := upd_same
      generalize upd H2 p3 (.lst (Z.map V.int)) = H3 at k2p k2m k2z ⊢
      walk_at "vc"
      refine ⟨_, k2p, by omega, by rw [List.length_map]; omega, ?_⟩
      have hM : (List.zipWith xI (List.zipWith xI D ms) Z).length = D.length := by
        rw [List.length_zipWith, List.length_zipWith]; omega
      rw [List.length_map]
      refine lc_pure_range (L := fun i => ((List.zipWith xI (List.zipWith xI D ms) Z).take i).map V.int) rfl (fun i D4 hi hD4 => ?_) (fun D4 hD4 => ?_)
      · have n1 : p ≠ D4 := ne_of_none k2p hD4
        have n2 : p2 ≠ D4 := ne_of_none k2m hD4
        have n3 : p3 ≠ D4 := ne_of_none k2z hD4
        simp only [wipe, List.foldl_cons, List.foldl_nil, tYes]
        walk_at "vc"
        simp only [upd_ne n1, upd_ne n2, upd_ne n3, k2p, k2m, k2z]
        walk_at "vc"
        obtain ⟨d, hd⟩ : ∃ d, D[i]? = some d := ⟨_, List.getElem?_eq_getElem hi⟩
        obtain ⟨m, hm⟩ : ∃ m, ms[i]? = some m := ⟨_, List.getElem?_eq_getElem (by omega)⟩
        obtain ⟨z, hz⟩ : ∃ z, Z[i]? = some z := ⟨_, List.getElem?_eq_getElem (by omega)⟩
        have b1 := hB d (List.mem_of_getElem? hd)
        have b2 := hB2 m (List.mem_of_getElem? hm)
        have b3 := hBE z (List.mem_of_getElem? hz)
        refine ⟨_, at_nat hd, _, at_nat hm, _, rfl, _, rfl, _, at_nat hz, _, rfl, ?_, ?_⟩
        · rw [List.length_map, List.length_take]
          exact small1000 (by omega)
        · rw [xI_eq b1.1 b2.1, xI_eq (xI_byte b1 b2).1 b3.1, List.take_add_one, List.getElem?_zipWith, List.getElem?_zipWith, hd, hm, hz, List.map_append]
          rfl
      · rw [List.take_of_length_le (Nat.le_of_eq hM)]
        have n1 : p2 ≠ D4 := ne_of_none k2m hD4
        have n2 : p3 ≠ D4 := ne_of_none k2z hD4
        have hBM := zip_byt (zip_byt hB hB2) hBE
        refine ⟨D4, _, rfl, upd_same, by omega, hBM, ?_⟩
        refine ⟨p2, ms, rfl, by rw [upd_ne n1]; exact k2m, by omega, hB2, _, rfl, ?_⟩
        refine ⟨p3, Z, rfl, by rw [upd_ne n2]; exact k2z, by omega, hBE, _, rfl, rfl, ?_⟩
        have h12 : (List.zipWith xI D ms).length = D.length := by rw [List.length_zipWith]; omega
        have hc3 := crc_three hB hB2 hBE hBM hml (by omega) hM (by
          have a1 := num_xor (zip_byt hB hB2) hBE (by omega)
          have a2 := num_xor hB hB2 hml
          exact a1.trans (by rw [show num (List.zipWith xI D ms) = num D ^^^ num ms from a2]))
        have hv : V.int ((crc (List.zipWith xI (List.zipWith xI D ms) Z) : Nat) : Int) = V.int (Builtin.bitXor (Builtin.bitXor ((crc D : Nat) : Int) ((crc ms : Nat) : Int)) ((crc Z : Nat) : Int)) := by rw [xorI, xorI, hc3]
        rw [decide_eq_true hv]
        exact q _
end
theorem all_mk {l : PySem.W.OpenLaw} {w : World} {K : PySem.W.Frag} {h : Heap} {mg : Str → Option Value} {fa : Addr} (X : K.In h) (G : h.Ns mainGlobals mg) (hfa : mg "law" = some (.ref fa))
    {f1 : Addr} {od1 an1 : Option Addr} {sl1 : Array (Option Value)} {oc1 kV1 dc1 pm1 cd1 ct1 : Value}
    (a1 : PySem.W.nsIn K mainGlobals "check_sum" = some (some (.ref f1))) (l1 : K.lookup f1 = some ⟨oc1, od1, .func (PySem.W.fnOf "check_sum" "check_sum" (defArgs s_check_sum) (defBody s_check_sum) (defScope s_check_sum) .none kV1 dc1 pm1 an1 cd1 ct1), sl1⟩) (c1 : PySem.W.codeIn K cd1 "check_sum" = true) (k1 : PySem.W.keepIn K (.ref f1) = true)
    {f2 : Addr} {od2 an2 : Option Addr} {sl2 : Array (Option Value)} {oc2 kV2 dc2 pm2 cd2 ct2 : Value}
    (a2 : PySem.W.nsIn K mainGlobals "_law_cell" = some (some (.ref f2))) (l2 : K.lookup f2 = some ⟨oc2, od2, .func (PySem.W.fnOf "_law_cell" "_law_cell" (defArgs s__law_cell) (defBody s__law_cell) (defScope s__law_cell) .none kV2 dc2 pm2 an2 cd2 ct2), sl2⟩) (c2 : PySem.W.codeIn K cd2 "_law_cell" = true) (k2 : PySem.W.keepIn K (.ref f2) = true)
    {f3 : Addr} {od3 an3 : Option Addr} {sl3 : Array (Option Value)} {oc3 kV3 dc3 pm3 cd3 ct3 : Value}
    (a3 : PySem.W.nsIn K mainGlobals "_law_twice" = some (some (.ref f3))) (l3 : K.lookup f3 = some ⟨oc3, od3, .func (PySem.W.fnOf "_law_twice" "_law_twice" (defArgs s__law_twice) (defBody s__law_twice) (defScope s__law_twice) .none kV3 dc3 pm3 an3 cd3 ct3), sl3⟩) (c3 : PySem.W.codeIn K cd3 "_law_twice" = true) (k3 : PySem.W.keepIn K (.ref f3) = true)
    {f4 : Addr} {od4 an4 : Option Addr} {sl4 : Array (Option Value)} {oc4 kV4 dc4 pm4 cd4 ct4 : Value}
    (a4 : PySem.W.nsIn K mainGlobals "_law_bytes" = some (some (.ref f4))) (l4 : K.lookup f4 = some ⟨oc4, od4, .func (PySem.W.fnOf "_law_bytes" "_law_bytes" (defArgs s__law_bytes) (defBody s__law_bytes) (defScope s__law_bytes) .none kV4 dc4 pm4 an4 cd4 ct4), sl4⟩) (c4 : PySem.W.codeIn K cd4 "_law_bytes" = true) (k4 : PySem.W.keepIn K (.ref f4) = true)
    {f5 : Addr} {od5 an5 : Option Addr} {sl5 : Array (Option Value)} {oc5 kV5 dc5 pm5 cd5 ct5 : Value}
    (a5 : PySem.W.nsIn K mainGlobals "_law_integer" = some (some (.ref f5))) (l5 : K.lookup f5 = some ⟨oc5, od5, .func (PySem.W.fnOf "_law_integer" "_law_integer" (defArgs s__law_integer) (defBody s__law_integer) (defScope s__law_integer) .none kV5 dc5 pm5 an5 cd5 ct5), sl5⟩) (c5 : PySem.W.codeIn K cd5 "_law_integer" = true) (k5 : PySem.W.keepIn K (.ref f5) = true)
    {f6 : Addr} {od6 an6 : Option Addr} {sl6 : Array (Option Value)} {oc6 kV6 dc6 pm6 cd6 ct6 : Value}
    (a6 : PySem.W.nsIn K mainGlobals "_law_sum" = some (some (.ref f6))) (l6 : K.lookup f6 = some ⟨oc6, od6, .func (PySem.W.fnOf "_law_sum" "_law_sum" (defArgs s__law_sum) (defBody s__law_sum) (defScope s__law_sum) .none kV6 dc6 pm6 an6 cd6 ct6), sl6⟩) (c6 : PySem.W.codeIn K cd6 "_law_sum" = true) (k6 : PySem.W.keepIn K (.ref f6) = true)
    {f7 : Addr} {od7 an7 : Option Addr} {sl7 : Array (Option Value)} {oc7 kV7 dc7 pm7 cd7 ct7 : Value}
    (a7 : PySem.W.nsIn K mainGlobals "_law_changed" = some (some (.ref f7))) (l7 : K.lookup f7 = some ⟨oc7, od7, .func (PySem.W.fnOf "_law_changed" "_law_changed" (defArgs s__law_changed) (defBody s__law_changed) (defScope s__law_changed) .none kV7 dc7 pm7 an7 cd7 ct7), sl7⟩) (c7 : PySem.W.codeIn K cd7 "_law_changed" = true) (k7 : PySem.W.keepIn K (.ref f7) = true)
    {f8 : Addr} {od8 an8 : Option Addr} {sl8 : Array (Option Value)} {oc8 kV8 dc8 pm8 cd8 ct8 : Value}
    (a8 : PySem.W.nsIn K mainGlobals "law" = some (some (.ref f8))) (l8 : K.lookup f8 = some ⟨oc8, od8, .func (PySem.W.fnOf "law" "law" (defArgs s_law) (defBody s_law) (defScope s_law) .none kV8 dc8 pm8 an8 cd8 ct8), sl8⟩) (c8 : PySem.W.codeIn K cd8 "law" = true) (k8 : PySem.W.keepIn K (.ref f8) = true)
    {t9 : Tok} (a9 : PySem.W.nsIn K mainGlobals "_ALL_BITS" = some (some (.int 4294967295 t9)))
    {f10 : Addr} {it10 : Array Value} {n10 : Nat} (a10 : PySem.W.nsIn K mainGlobals "_FOUR_SHIFTS" = some (some (.ref f10))) (l10 : K.lookup f10 = some ⟨.type "tuple", none, .seq it10 n10, #[]⟩) (v10 : Vals [V.int 0, V.int 498536548, V.int 997073096, V.int 651767980, V.int 1994146192, V.int 1802195444, V.int 1303535960, V.int 1342533948, V.int 3988292384, V.int 4027552580, V.int 3604390888, V.int 3412177804, V.int 2607071920, V.int 2262029012, V.int 2685067896, V.int 3183342108] it10.toList)
    (a11 : PySem.W.nsIn K mainGlobals "abs" = some none)
    (a12 : PySem.W.nsIn K mainGlobals "bool" = some none)
    (a13 : PySem.W.nsIn K mainGlobals "int" = some none)
    (a14 : PySem.W.nsIn K mainGlobals "isinstance" = some none)
    (a15 : PySem.W.nsIn K mainGlobals "len" = some none)
    (a16 : PySem.W.nsIn K mainGlobals "list" = some none)
    (a17 : PySem.W.nsIn K mainGlobals "range" = some none)
    : ∃ fd : FuncData, (∀ (s : Shared) (v : Value), BindsTo s fd ⟨[v], []⟩ [("script", v)]) ∧ ∀ base : Heap, K.In base → base.Ns mainGlobals mg → FnOk l.prog w K mg base CX0 3 fa fd ["script"] (spLaw K) := by
  have e := hfa.symm.trans (PySem.W.mg_of X G a8)
  cases e
  have F1 := fun_mk (st := s_check_sum) l1 c1 k1
  have b1 := F1.binds (ps := ["data"]) fun _ _ _ _ _ _ us hl => match us, hl with | [_], _ => rfl
  have F2 := fun_mk (st := s__law_cell) l2 c2 k2
  have b2 := F2.binds (ps := ["script", "k"]) fun _ _ _ _ _ _ us hl => match us, hl with | [_, _], _ => rfl
  have F3 := fun_mk (st := s__law_twice) l3 c3 k3
  have b3 := F3.binds (ps := ["cell", "k"]) fun _ _ _ _ _ _ us hl => match us, hl with | [_, _], _ => rfl
  have F4 := fun_mk (st := s__law_bytes) l4 c4 k4
  have b4 := F4.binds (ps := ["cell", "size"]) fun _ _ _ _ _ _ us hl => match us, hl with | [_, _], _ => rfl
  have F5 := fun_mk (st := s__law_integer) l5 c5 k5
  have b5 := F5.binds (ps := ["value"]) fun _ _ _ _ _ _ us hl => match us, hl with | [_], _ => rfl
  have F6 := fun_mk (st := s__law_sum) l6 c6 k6
  have b6 := F6.binds (ps := ["data"]) fun _ _ _ _ _ _ us hl => match us, hl with | [_], _ => rfl
  have F7 := fun_mk (st := s__law_changed) l7 c7 k7
  have b7 := F7.binds (ps := ["data", "cell", "other"]) fun _ _ _ _ _ _ us hl => match us, hl with | [_, _, _], _ => rfl
  have F8 := fun_mk (st := s_law) l8 c8 k8
  have b8 := F8.binds (ps := ["script"]) fun _ _ _ _ _ _ us hl => match us, hl with | [_], _ => rfl
  have T : Txt K mg := ⟨f1, _, F1, b1, PySem.W.mg_of X G a1,
    f2, _, F2, b2, PySem.W.mg_of X G a2,
    f3, _, F3, b3, PySem.W.mg_of X G a3,
    f4, _, F4, b4, PySem.W.mg_of X G a4,
    f5, _, F5, b5, PySem.W.mg_of X G a5,
    f6, _, F6, b6, PySem.W.mg_of X G a6,
    f7, _, F7, b7, PySem.W.mg_of X G a7,
    fa, _, F8, b8, PySem.W.mg_of X G a8,
    t9, PySem.W.mg_of X G a9,
    f10, PySem.W.mg_of X G a10, fun H => Or.inr ⟨_, it10, n10, l10, rfl, rfl, by have := v10.length; simp at this; rw [← this]; decide, v10⟩,
    PySem.W.mg_none_of X G a11,
    PySem.W.mg_none_of X G a12,
    PySem.W.mg_none_of X G a13,
    PySem.W.mg_none_of X G a14,
    PySem.W.mg_none_of X G a15,
    PySem.W.mg_none_of X G a16,
    PySem.W.mg_none_of X G a17⟩
  refine ⟨PySem.W.fnOf "law" "law" (defArgs s_law) (defBody s_law) (defScope s_law) .none kV8 dc8 pm8 an8 cd8 ct8, fun s v => .of_eq rfl, fun base _ _ => ?_⟩
  exact ok_law_of F8 T
end K01
open PySem PySem.W PyProof.Rows
set_option maxRecDepth 100000 in
set_option maxHeartbeats 0 in
theorem PySem.Challenge.cw_stillroom_k01_check_sums_holds : PySem.Challenge.rw_stillroom_k01_check_sums.Holds := by
  w_on; o_law; k_head; (case hw => w_witness2)
  k_fill
  refine L2.walk_of (l := PySem.Challenge.rw_stillroom_k01_check_sums) (n := 63) (k := 3) (x := "script") (CX := fun _ => L2.CX0) (sp := fun w => K01.spLaw _) rfl (by decide) rfl ⟨rfl, by decide, by decide⟩ (fun w h Y => PySem.W.kIn_of Y) ?F (fun _ _ a ns hl _ hS => ⟨a, ns, rfl, hS, hl, fun _ => rfl⟩) (fun _ _ _ _ _ h => h)
  case F =>
    intro w mg fa h KX G hmg
    refine' K01.all_mk KX G hmg ?a1 ?l1 ?c1 ?k1 ?a2 ?l2 ?c2 ?k2 ?a3 ?l3 ?c3 ?k3 ?a4 ?l4 ?c4 ?k4 ?a5 ?l5 ?c5 ?k5 ?a6 ?l6 ?c6 ?k6 ?a7 ?l7 ?c7 ?k7 ?a8 ?l8 ?c8 ?k8 ?a9 ?a10 ?l10 ?v10 ?a11 ?a12 ?a13 ?a14 ?a15 ?a16 ?a17
    (case a1 => k_is)
    (case l1 => k_is)
    (case c1 => k_is)
    (case k1 => k_is)
    (case a2 => k_is)
    (case l2 => k_is)
    (case c2 => k_is)
    (case k2 => k_is)
    (case a3 => k_is)
    (case l3 => k_is)
    (case c3 => k_is)
    (case k3 => k_is)
    (case a4 => k_is)
    (case l4 => k_is)
    (case c4 => k_is)
    (case k4 => k_is)
    (case a5 => k_is)
    (case l5 => k_is)
    (case c5 => k_is)
    (case k5 => k_is)
    (case a6 => k_is)
    (case l6 => k_is)
    (case c6 => k_is)
    (case k6 => k_is)
    (case a7 => k_is)
    (case l7 => k_is)
    (case c7 => k_is)
    (case k7 => k_is)
    (case a8 => k_is)
    (case l8 => k_is)
    (case c8 => k_is)
    (case k8 => k_is)
    (case a9 => k_is)
    (case a10 => k_is)
    (case l10 => k_is)
    (case v10 => repeat' first | exact Paired.nil | refine Paired.cons ⟨_, rfl⟩ ?_)
    (case a11 => k_is)
    (case a12 => k_is)
    (case a13 => k_is)
    (case a14 => k_is)
    (case a15 => k_is)
    (case a16 => k_is)
    (case a17 => k_is)

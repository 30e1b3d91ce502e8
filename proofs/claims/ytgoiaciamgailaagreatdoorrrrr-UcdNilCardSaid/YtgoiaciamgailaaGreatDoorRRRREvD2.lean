/- Regions whose order is drawn: quiet operations. -/
import Derived.Test.YtgoiaciamgailaaGreatDoorRRRREvD1
namespace Go.Ev
set_option linter.unusedVariables false
set_option linter.unusedSimpArgs false
set_option linter.unusedSectionVars false
set_option linter.unnecessarySimpa false

def Same (h : Heap) (o : Outs) : Prop := ∀ l, o = some l → ∀ x, x ∈ l → x.2 = h
theorem Same.none {h : Heap} : Same h none := fun l e => by cases e
theorem Same.one {h : Heap} (v : SV) : Same h (some [(v, h)]) := fun l e x hx => by
  cases e
  cases List.mem_singleton.1 hx
  rfl
theorem Same.pv {h : Heap} (o : Option SV) : Same h (pv h o) := by
  cases o with
  | none => exact .none
  | some v => exact .one v
variable {E : Env} {h : Heap} {st : St}
theorem same_pick (c a b : SV) : Same h (oPick h c a b) := by unfold oPick; split <;> first | exact Same.one _ | exact Same.none
theorem same_build (t : TypeId) (ps : List (Nat × Operand)) : Same h (oBuild E h st t ps) := by unfold oBuild; (repeat' split) <;> first | exact Same.one _ | exact Same.none
theorem same_nil (x : SV) : Same h (oNilCheck h x) := by unfold oNilCheck; (repeat' split) <;> first | exact Same.one _ | exact Same.none
theorem same_gen (op : BinOp) (t : TypeId) (x y : Operand) (a b : Value) : Same h (genBin E h op t x y a b) := by unfold genBin; (repeat' split) <;> first | exact Same.one _ | exact Same.none
theorem same_bin2 (op : BinOp) (t : TypeId) (x y : Operand) (a b : SV) : Same h (oBin2 E h op t x y a b) := by unfold oBin2; (repeat' split) <;> first | exact Same.one _ | exact Same.none | exact same_gen _ _ _ _ _ _
theorem same_bin (op : BinOp) (t : TypeId) (x y : Operand) (a b : SV) : Same h (oBin E h op t x y a b) := by unfold oBin; (repeat' split) <;> first | exact Same.one _ | exact Same.none | exact same_gen _ _ _ _ _ _ | exact same_bin2 _ _ _ _ _ _
theorem same_un (op : UnOp) (x : SV) : Same h (oUn E h op x) := by unfold oUn; (repeat' split) <;> first | exact Same.one _ | exact Same.none
theorem same_iface (t : TypeId) (x : SV) : Same h (oMakeIface E h t x) := by unfold oMakeIface; (repeat' split) <;> first | exact Same.one _ | exact Same.none
theorem same_str (t : TypeId) (s : ByteArray) (lo hi mx : Option SV) : Same h (sliceStr E h t s lo hi mx) := by unfold sliceStr; simp only [Bool.cond_eq_ite]; (repeat' split) <;> first | exact Same.one _ | exact Same.none
theorem same_sl (t : TypeId) (b off len : Nat) (cap : Option Nat) (lo hi mx : Option SV) : Same h (sliceSl E h t b off len cap lo hi mx) := by unfold sliceSl; simp only [Bool.cond_eq_ite]; (repeat' split) <;> first | exact Same.one _ | exact Same.none
theorem same_arr (t : TypeId) (b off : Nat) (lo hi mx : Option SV) : Same h (sliceArr E h t b off lo hi mx) := by unfold sliceArr; simp only [Bool.cond_eq_ite]; (repeat' split) <;> first | exact Same.one _ | exact Same.none
theorem same_nl (t : TypeId) (lo hi mx : Option SV) : Same h (sliceNil E h t lo hi mx) := by unfold sliceNil; (repeat' split) <;> first | exact Same.one _ | exact Same.none
theorem same_slice (t : TypeId) (x : SV) (lo hi mx : Option SV) : Same h (oSlice E h t x lo hi mx) := by unfold oSlice; split <;> first | exact same_str _ _ _ _ _ | exact same_sl _ _ _ _ _ _ _ _ | exact same_nl _ _ _ _ | exact same_arr _ _ _ _ _ _ | exact Same.none
theorem same_fieldAddr (t : TypeId) (x : SV) (f : Nat) : Same h (oFieldAddr E h t x f) := by unfold oFieldAddr; simp only [Bool.cond_eq_ite]; (repeat' split) <;> first | exact Same.one _ | exact Same.none
theorem same_field (t : TypeId) (x : SV) (f : Nat) : Same h (oField E h t x f) := by unfold oField; (repeat' split) <;> first | exact Same.pv _ | exact Same.none
theorem same_indexAddr (t : TypeId) (x i : SV) : Same h (oIndexAddr E h t x i) := by unfold oIndexAddr; simp only [Bool.cond_eq_ite]; (repeat' split) <;> first | exact Same.one _ | exact Same.none
theorem same_indexArr (t : TypeId) (x : SV) (i : Nat) : Same h (oIndexArr E h t x i) := by unfold oIndexArr; simp only [Bool.cond_eq_ite]; (repeat' split) <;> first | exact Same.one _ | exact Same.pv _ | exact Same.none
theorem same_index (t : TypeId) (x i : SV) : Same h (oIndex E h t x i) := by unfold oIndex; (repeat' split) <;> first | exact Same.one _ | exact Same.none | exact same_indexArr _ _ _
theorem same_extract (x : SV) (i : Nat) : Same h (oExtract h x i) := by unfold oExtract; (repeat' split) <;> first | exact Same.pv _ | exact Same.none
theorem same_arrayAt (t : TypeId) (x : SV) : Same h (oArrayAt E h t x) := by unfold oArrayAt; simp only [Bool.cond_eq_ite]; (repeat' split) <;> first | exact Same.one _ | exact Same.none
theorem same_conv {s d : TypeId} {x : SV} (hd : isIntT E d = true) : Same h (pb (convS E h s d x)) := by
  unfold isIntT at hd
  split at hd
  case h_2 => cases hd
  rename_i k hu
  unfold convS
  rw [hu]
  (repeat' split) <;> first | exact Same.one _ | exact Same.none | simp_all
theorem small_same {o : Oper} (hq : quietOp E o = true) (hc : ∀ c, o.op ≠ .call c) : Same h (small E h st o.op) := by
  unfold quietOp at hq
  unfold small
  cases hop : o.op <;> rw [hop] at hq <;> simp only at hq ⊢ <;> first
    | exact Same.one _
    | exact same_pick _ _ _
    | exact same_build _ _
    | exact Same.pv _
    | exact same_nil _
    | exact same_bin _ _ _ _ _ _
    | exact same_un _ _
    | exact same_conv hq
    | exact same_iface _ _
    | exact same_slice _ _ _ _ _
    | exact same_fieldAddr _ _ _
    | exact same_field _ _ _
    | exact same_indexAddr _ _ _
    | exact same_index _ _ _
    | exact same_extract _ _
    | exact same_arrayAt _ _
    | cases hq
    | exact absurd hop (hc _)
def SameB (h : Heap) (o : Option (SV × Heap)) : Prop := ∀ x, o = some x → x.2 = h
theorem SameB.none {h : Heap} : SameB h none := fun l e => by cases e
theorem SameB.one {h : Heap} (v : SV) : SameB h (some (v, h)) := fun l e => by cases e; rfl
theorem same_len (t : TypeId) (x : SV) : SameB h (lenB E h t x) := by unfold lenB; simp only [Bool.cond_eq_ite]; (repeat' split) <;> first | exact SameB.one _ | exact SameB.none
theorem same_cap (t : TypeId) (x : SV) : SameB h (capB E h t x) := by unfold capB; simp only [Bool.cond_eq_ite]; (repeat' split) <;> first | exact SameB.one _ | exact SameB.none
theorem same_minmax (f : List Value → Sem Value) (args : List SV) : SameB h (minmaxB E h f args) := by unfold minmaxB; (repeat' split) <;> first | exact SameB.one _ | exact SameB.none
theorem same_builtin {b : Builtin} {ts : List TypeId} {args : List SV} (hb : b = .len ∨ b = .cap ∨ b = .min ∨ b = .max) : SameB h (builtinS E h b ts args) := by
  unfold builtinS
  split
  · exact same_len _ _
  · exact same_cap _ _
  · simp at hb
  · simp at hb
  · simp at hb
  · exact same_minmax _ _
  · exact same_minmax _ _
  · exact SameB.none
theorem quiet_builtin {o : Oper} (hq : quietOp E o = true) {c : Call} (hc : o.op = .call c) : ∃ b, c.callee = .builtin b ∧ (b = .len ∨ b = .cap ∨ b = .min ∨ b = .max) := by
  unfold quietOp at hq
  rw [hc] at hq
  simp only at hq
  split at hq
  · rename_i b hb
    refine ⟨b, hb, ?_⟩
    split at hq <;> first | exact .inl rfl | exact .inr (.inl rfl) | exact .inr (.inr (.inl rfl)) | exact .inr (.inr (.inr rfl)) | cases hq
  · cases hq
theorem quiet_defer {o : Oper} (hq : quietOp E o = true) (c : Call) : o.op ≠ .defer c := fun e => by
  unfold quietOp at hq
  rw [e] at hq
  cases hq
/-- A quiet operation's answer is what the operation answers, and it changes nothing. -/
theorem quietRun_ev {fs : Fns} {ops : List Oper} {o : Oper} {v : SV} (hq : quietOp E o = true) (hv : quietRun E ops o st h = some v) : evOp E fs ops o st h = some [(v, h)] := by
  unfold quietRun at hv
  unfold evOp
  cases hw : wantedS ops st o with
  | none => rw [hw] at hv; cases hv
  | some b =>
    rw [hw] at hv
    cases b with
    | false => cases hv; rfl
    | true =>
      simp only at hv ⊢
      have fin : ∀ (r : Outs), Same h r → (match r with | some [(v, _)] => some v | _ => none) = some v → r = some [(v, h)] := fun r hs hr => by
        split at hr
        · rename_i v' h' 
          cases hr
          have := hs _ rfl _ (.head _)
          simp only at this
          rw [this]
        · cases hr
      by_cases hcall : ∃ c, o.op = .call c
      · obtain ⟨c, hc⟩ := hcall
        obtain ⟨b, hb, hb2⟩ := quiet_builtin hq hc
        rw [hc] at hv ⊢
        simp only [hb] at hv
        simp only [callOp, hb]
        refine fin _ ?_ hv
        have := same_builtin (E := E) (h := h) (ts := c.argTypes.toList) (args := c.args.toList.map (opd st)) hb2
        cases hB : builtinS E h b c.argTypes.toList (c.args.toList.map (opd st)) with
        | none => exact Same.none
        | some r =>
          have := this r hB
          obtain ⟨a1, a2⟩ := r
          simp only at this
          subst this
          exact Same.one _
      · have hn : ∀ c, o.op ≠ .call c := fun c hc => hcall ⟨c, hc⟩
        have hd := quiet_defer hq
        have hS := small_same (h := h) (st := st) hq hn
        cases hop : o.op <;> simp only [hop] at hv hS ⊢ <;> first
          | exact absurd hop (hn _)
          | exact absurd hop (hd _)
          | exact fin _ hS hv
end Go.Ev

/- Operations on what is known: arithmetic, comparisons. -/
import Derived.Test.YtgoiaciamgailaaGreatDoorRRRREvO5
import Derived.Laws.Strings
namespace Go.Ev
set_option linter.unusedVariables false
set_option linter.unusedSimpArgs false
set_option linter.unusedSectionVars false
set_option linter.unnecessarySimpa false

theorem kind_eq {k k' : IntKind} (h : Nat.beq (kindNo k) (kindNo k') = true) : k = k' := by
  cases k <;> cases k' <;> first | rfl | (exact absurd h (by decide))
theorem lim_ok (k : IntKind) (m : Nat) (hm : m < lim k) : k.wrap (Int.ofNat m) = Int.ofNat m ∧ m < 2 ^ k.bits := by
  rw [← wrapF_eq]
  cases k <;> simp only [lim] at hm <;> simp only [wrapF, ble_eq, IntKind.bits]
  · exact ⟨by rw [decide_eq_true (by omega)]; rfl, by omega⟩
  · exact ⟨by rw [decide_eq_true (by omega)]; rfl, by omega⟩
  · exact ⟨by rw [decide_eq_true (by omega)]; rfl, by omega⟩
  · exact ⟨by rw [decide_eq_true (by omega)]; rfl, by omega⟩
  · exact ⟨by congr 1; exact Nat.mod_eq_of_lt hm, hm⟩
  · exact ⟨by congr 1; exact Nat.mod_eq_of_lt hm, hm⟩
  · exact ⟨by congr 1; exact Nat.mod_eq_of_lt hm, hm⟩
  · exact ⟨by congr 1; exact Nat.mod_eq_of_lt hm, hm⟩
def limE (k : IntKind) : Nat := match k with | .i8 => 7 | .i16 => 15 | .i32 => 31 | .i64 => 63 | .u8 => 8 | .u16 => 16 | .u32 => 32 | .u64 => 64
theorem lim_pow (k : IntKind) : lim k = 2 ^ limE k := by cases k <;> rfl
theorem ofInt_toNat {k : IntKind} {m : Nat} (h : m < 2 ^ k.bits) : (BitVec.ofInt k.bits (Int.ofNat m)).toNat = m := by
  simp only [Int.ofNat_eq_natCast, BitVec.ofInt_natCast, BitVec.toNat_ofNat]
  exact Nat.mod_eq_of_lt h
section
variable {P : Program} {w : World}
theorem natBin_ok {op : BinOp} {k : IntKind} {m n : Nat} {v : Value} (h : natBin op k m n = some v) (t : TypeId) : (binOp op t (.int k (Int.ofNat m)) (.int k (Int.ofNat n))).run P w = .ok v w := by
  have le : decide ((m : Int) ≤ n) = Nat.ble m n := by rw [ble_eq]; congr 1; exact propext Int.ofNat_le
  have ge : decide ((n : Int) ≤ m) = Nat.ble n m := by rw [ble_eq]; congr 1; exact propext Int.ofNat_le
  have lt : decide ((m : Int) < n) = Nat.ble (m + 1) n := by rw [ble_eq]; congr 1; exact propext Int.ofNat_lt
  have gt : decide ((n : Int) < m) = Nat.ble (n + 1) m := by rw [ble_eq]; congr 1; exact propext Int.ofNat_lt
  have eq : ((m : Int) == n) = Nat.beq m n := by
    rw [Tr.beq_of]
    by_cases hc : m = n
    · subst hc; simp
    · have : (m : Int) ≠ n := fun e => hc (Int.ofNat_inj.1 e)
      rw [decide_eq_false hc]; simpa using this
  have bits : ∀ (f : Nat → Nat → Nat) (g : BitVec k.bits → BitVec k.bits → BitVec k.bits), (∀ a b, (g a b).toNat = f a.toNat b.toNat) → (∀ a b : Nat, a < lim k → b < lim k → f a b < lim k) → m < lim k → n < lim k →
      k.wrap ((g (BitVec.ofInt k.bits (Int.ofNat m)) (BitVec.ofInt k.bits (Int.ofNat n))).toNat : Int) = Int.ofNat (f m n) := fun f g hg hf h1 h2 => by
    rw [hg, ofInt_toNat (lim_ok k m h1).2, ofInt_toNat (lim_ok k n h2).2]
    exact (lim_ok k _ (hf m n h1 h2)).1
  unfold natBin at h
  cases op with
  | add => simp only [Option.some.injEq] at h; subst h; simp only [binOp, ne_eq, not_true_eq_false, if_false, Op.intArith, Sem.run_pure, wrapF_eq]; rfl
  | sub =>
    simp only [Option.some.injEq] at h; subst h
    have : subN m n = Int.ofNat m - Int.ofNat n := by
      unfold subN
      rw [ble_eq]
      by_cases hc : n ≤ m
      · rw [decide_eq_true hc, cond_true]; simp only [Int.ofNat_eq_natCast, Nat.sub_eq]; omega
      · rw [decide_eq_false hc, cond_false]; simp only [Int.ofNat_eq_natCast, Nat.sub_eq, Nat.pred_eq_sub_one, Int.negSucc_eq]; omega
    simp only [binOp, ne_eq, not_true_eq_false, if_false, Op.intArith, Sem.run_pure, wrapF_eq, this]
  | mul => simp only [Option.some.injEq] at h; subst h; simp only [binOp, ne_eq, not_true_eq_false, if_false, Op.intArith, Sem.run_pure, wrapF_eq]; rfl
  | quo =>
    simp only [Tr.beq_of] at h
    by_cases h0 : n = 0
    · rw [decide_eq_true h0] at h; cases h
    · rw [decide_eq_false h0, cond_false] at h
      simp only [Option.some.injEq] at h; subst h
      have h0' : ¬ (Int.ofNat n = 0) := by simp only [Int.ofNat_eq_natCast]; omega
      simp only [binOp, ne_eq, not_true_eq_false, if_false, Op.intDiv, h0', Sem.run_pure, wrapF_eq]
      rfl
  | rem =>
    simp only [Tr.beq_of] at h
    by_cases h0 : n = 0
    · rw [decide_eq_true h0] at h; cases h
    · rw [decide_eq_false h0, cond_false] at h
      simp only [Option.some.injEq] at h; subst h
      have h0' : ¬ (Int.ofNat n = 0) := by simp only [Int.ofNat_eq_natCast]; omega
      simp only [binOp, ne_eq, not_true_eq_false, if_false, Op.intDiv, h0', Sem.run_pure]
      rfl
  | and =>
    cases hc : (Nat.blt m (lim k) && Nat.blt n (lim k))
    · simp only [hc] at h; cases h
    · simp only [hc, cond_true, Option.some.injEq] at h; subst h
      simp only [Bool.and_eq_true, blt_eq, decide_eq_true_eq] at hc
      have := bits (· &&& ·) (· &&& ·) (fun a b => BitVec.toNat_and a b) (fun a b ha hb => by rw [lim_pow] at *; exact Nat.and_lt_two_pow _ hb) hc.1 hc.2
      simp only [binOp, ne_eq, not_true_eq_false, if_false, Op.intBits, Sem.run_pure, this]
      rfl
  | or =>
    cases hc : (Nat.blt m (lim k) && Nat.blt n (lim k))
    · simp only [hc] at h; cases h
    · simp only [hc, cond_true, Option.some.injEq] at h; subst h
      simp only [Bool.and_eq_true, blt_eq, decide_eq_true_eq] at hc
      have := bits (· ||| ·) (· ||| ·) (fun a b => BitVec.toNat_or a b) (fun a b ha hb => by rw [lim_pow] at *; exact Nat.or_lt_two_pow ha hb) hc.1 hc.2
      simp only [binOp, ne_eq, not_true_eq_false, if_false, Op.intBits, Sem.run_pure, this]
      rfl
  | xor =>
    cases hc : (Nat.blt m (lim k) && Nat.blt n (lim k))
    · simp only [hc] at h; cases h
    · simp only [hc, cond_true, Option.some.injEq] at h; subst h
      simp only [Bool.and_eq_true, blt_eq, decide_eq_true_eq] at hc
      have := bits (· ^^^ ·) (· ^^^ ·) (fun a b => BitVec.toNat_xor a b) (fun a b ha hb => by rw [lim_pow] at *; exact Nat.xor_lt_two_pow ha hb) hc.1 hc.2
      simp only [binOp, ne_eq, not_true_eq_false, if_false, Op.intBits, Sem.run_pure, this]
      rfl
  | shl => cases h
  | shr => cases h
  | andNot => cases h
  | eql => simp only [Option.some.injEq] at h; subst h; simp only [binOp, ne_eq, not_true_eq_false, if_false, Op.intCmp, Sem.run_pure, Int.ofNat_eq_natCast, eq]
  | neq => simp only [Option.some.injEq] at h; subst h; simp only [binOp, ne_eq, not_true_eq_false, if_false, Op.intCmp, Sem.run_pure, Int.ofNat_eq_natCast, bne, eq]
  | lss => simp only [Option.some.injEq] at h; subst h; simp only [binOp, ne_eq, not_true_eq_false, if_false, Op.intCmp, Sem.run_pure, Int.ofNat_eq_natCast, lt]
  | leq => simp only [Option.some.injEq] at h; subst h; simp only [binOp, ne_eq, not_true_eq_false, if_false, Op.intCmp, Sem.run_pure, Int.ofNat_eq_natCast, le]
  | gtr => simp only [Option.some.injEq] at h; subst h; simp only [binOp, ne_eq, not_true_eq_false, if_false, Op.intCmp, Sem.run_pure, Int.ofNat_eq_natCast, gt_iff_lt, gt]
  | geq => simp only [Option.some.injEq] at h; subst h; simp only [binOp, ne_eq, not_true_eq_false, if_false, Op.intCmp, Sem.run_pure, Int.ofNat_eq_natCast, ge_iff_le, ge]
theorem shiftBin_ok {op : BinOp} {k k' : IntKind} {m n : Nat} {v : Value} (h : shiftBin op k m n = some v) (t : TypeId) : (binOp op t (.int k (Int.ofNat m)) (.int k' (Int.ofNat n))).run P w = .ok v w := by
  unfold shiftBin at h
  cases hb : Nat.blt (8 * 8) n
  · rw [hb, cond_false] at h
    have hneg : ¬ (Int.ofNat n < 0) := by simp only [Int.ofNat_eq_natCast]; omega
    cases op <;> first | (cases h; done) | skip
    · simp only [ble_eq] at h
      by_cases hc : n ≤ k.bits
      · rw [decide_eq_true hc, cond_true] at h
        simp only [Option.some.injEq] at h; subst h
        have : min (Int.ofNat n).toNat k.bits = n := by simp only [Int.ofNat_eq_natCast, Int.toNat_natCast]; omega
        simp only [binOp, Op.shift, hneg, if_false, this, Sem.run_pure, wrapF_eq]
        congr 3
        simp only [Int.ofNat_eq_natCast, Nat.shiftLeft_eq', Nat.shiftLeft_eq]
        push_cast
        rfl
      · rw [decide_eq_false hc] at h; cases h
    · simp only [ble_eq] at h
      by_cases hc : n ≤ k.bits
      · rw [decide_eq_true hc, cond_true] at h
        simp only [Option.some.injEq] at h; subst h
        have : min (Int.ofNat n).toNat k.bits = n := by simp only [Int.ofNat_eq_natCast, Int.toNat_natCast]; omega
        simp only [binOp, Op.shift, hneg, if_false, this, Sem.run_pure]
        congr 2
        have e2 : (2 : Int) ^ n = Int.ofNat (2 ^ n) := by simp
        have e3 : Nat.shiftRight m n = m / 2 ^ n := Nat.shiftRight_eq_div_pow m n
        rw [e2, e3]
        cases m with
        | zero => rw [Nat.zero_div]; exact Int.zero_fdiv _
        | succ m => rfl
      · rw [decide_eq_false hc] at h; cases h
  · rw [hb] at h; cases h
theorem intBin_ok {op : BinOp} {k k' : IntKind} {a b : Int} {v : Value} (h : intBin op k a k' b = some v) (t : TypeId) : (binOp op t (.int k a) (.int k' b)).run P w = .ok v w := by
  unfold intBin at h
  split at h
  · rename_i m n
    cases hs : isShift op
    · rw [hs, cond_false] at h
      cases hk : Nat.beq (kindNo k) (kindNo k')
      · rw [hk] at h; cases h
      · rw [hk, cond_true] at h
        rw [← kind_eq hk]
        exact natBin_ok h t
    · rw [hs, cond_true] at h
      exact shiftBin_ok h t
  · cases hk : Nat.beq (kindNo k) (kindNo k')
    · rw [hk] at h; cases h
    · rw [hk, cond_true] at h
      rw [← kind_eq hk]
      cases op <;> first | (cases h; done) | (simp only [Option.some.injEq] at h; subst h; simp only [binOp, ne_eq, not_true_eq_false, if_false, Op.intArith, Op.intCmp, Sem.run_pure, wrapF_eq] <;> first | rfl | (congr 2; simp [bne]; done))
theorem eqB_ok (a b : List UInt8) : eqB a b = (a == b) := by
  induction a generalizing b with
  | nil => cases b <;> rfl
  | cons x xs ih =>
    cases b with
    | nil => rfl
    | cons y ys =>
      simp only [eqB, Tr.beq_of, ih, List.cons_beq_cons]
      by_cases hc : x = y
      · subst hc; simp
      · have : x.toNat ≠ y.toNat := fun e => hc (UInt8.toNat_inj.1 e)
        rw [decide_eq_false this]
        simp [hc]
theorem strBin_ok {op : BinOp} {a b : ByteArray} {v : Value} (h : strBin op a.data.toList b.data.toList = some v) (t : TypeId) : (binOp op t (.string a) (.string b)).run P w = .ok v w := by
  unfold strBin at h
  split at h
  · simp only [Option.some.injEq] at h; subst h
    simp only [binOp, Op.stringOp, Sem.run_pure, ByteArray.toList_eq, eqB_ok]
  · simp only [Option.some.injEq] at h; subst h
    simp only [binOp, Op.stringOp, Sem.run_pure, ByteArray.toList_eq, eqB_ok]
  · rw [ble_eq] at h
    by_cases hc : Nat.add a.data.toList.length b.data.toList.length ≤ 9223372036854775807
    · rw [decide_eq_true hc, cond_true] at h
      simp only [Option.some.injEq] at h; subst h
      have hm : ¬ (((a.size + b.size : Nat) : Int) > IntKind.i64.max) := by
        have e1 : IntKind.i64.max = 9223372036854775807 := by decide
        rw [e1]
        have : a.size + b.size ≤ 9223372036854775807 := hc
        omega
      simp only [binOp, Op.stringOp]
      rw [if_neg hm]
      simp only [Sem.run_pure]
      congr 2
    · rw [decide_eq_false hc] at h; cases h
  · cases h
end
section
variable {E : Env} {ρ : Rho} {h : Heap} {w : World}
mutual
theorem toVal_ok {N : Nat} : ∀ {x : SV} {v v' : Value}, toVal x = some v → VR ρ N x v' → v' = v
  | .val u, v, v', hv, hx => by simp only [toVal, Option.some.injEq] at hv; subst hv; cases hx; rfl
  | .agg l, v, v', hv, hx => by
    simp only [toVal] at hv
    split at hv
    · rename_i vs hvs
      simp only [Option.some.injEq] at hv
      subst hv
      cases hx with
      | agg _ l' h => rw [toVals_ok hvs h]
    · cases hv
  | .tup l, v, v', hv, hx => by
    simp only [toVal] at hv
    split at hv
    · rename_i vs hvs
      simp only [Option.some.injEq] at hv
      subst hv
      cases hx with
      | tup _ l' h => rw [toVals_ok hvs h]
    · cases hv
  | .iface t x, v, v', hv, hx => by
    simp only [toVal] at hv
    split at hv
    · rename_i u hu
      simp only [Option.some.injEq] at hv
      subst hv
      cases hx with
      | iface _ _ x' h => rw [toVal_ok hu h]
    · cases hv
  | .ptr .., v, v', hv, hx => by simp [toVal] at hv
  | .slice .., v, v', hv, hx => by simp [toVal] at hv
  | .map _, v, v', hv, hx => by simp [toVal] at hv
  | .func .., v, v', hv, hx => by simp [toVal] at hv
  | .unk, v, v', hv, hx => by simp [toVal] at hv
  | .zstr _, v, v', hv, hx => by simp [toVal] at hv
  | .arr .., v, v', hv, hx => by simp [toVal] at hv
theorem toVals_ok {N : Nat} : ∀ {l : List SV} {vs l' : List Value}, toVals l = some vs → VRs ρ N l l' → l' = vs
  | [], vs, l', hv, hx => by simp only [toVals, Option.some.injEq] at hv; subst hv; cases hx; rfl
  | x :: xs, vs, l', hv, hx => by
    simp only [toVals] at hv
    split at hv
    · cases hv
    · rename_i v hv1
      split at hv
      · cases hv
      · rename_i us hus
        simp only [Option.some.injEq] at hv
        subst hv
        cases hx with
        | cons _ y _ ys h1 h2 => rw [toVal_ok hv1 h1, toVals_ok hus h2]
end
variable (ok : EnvOk E)
include ok
theorem genBin_ok (hr : HR E ρ h w) {op : BinOp} (t : TypeId) (x y : Operand) {a b : Value} : SF E ρ h w (genBin E h op t x y a b) (do eqGuard op t x y a b; binOp op t a b) := by
  unfold genBin
  split
  · rename_i u hu
    split
    · rename_i v hv
      refine SF.same hr (.val v) ?_
      simp only [Sem.run_bind, pureRun_run hu w, Result.andThen_ok, pureRun_run hv w]
    · exact SF.none
  · exact SF.none
omit ok in
theorem guard_ok {P : Program} {op : BinOp} {t : TypeId} {x y : Operand} {a b : Value} (h1 : ¬ (a = .nilIface ∧ b = .nilIface)) (h2 : ∀ c d, ¬ (a = .agg c ∧ b = .agg d)) : (eqGuard op t x y a b).run P w = .ok () w := by
  cases op <;> first | rfl | (cases a <;> cases b <;> first | rfl | exact absurd ⟨rfl, rfl⟩ h1 | exact absurd ⟨rfl, rfl⟩ (h2 _ _))
def eqShape : Value → Value → Bool
  | .pointer _, .pointer _ => true
  | .slice .., .slice .. => true
  | .map _, .map _ => true
  | .func .., .nilFunc => true
  | .nilFunc, .func .. => true
  | .iface .., .nilIface => true
  | .nilIface, .iface .. => true
  | .iface .., .iface .. => true
  | _, _ => false
omit ok in
theorem eqfin {P : Program} {op : BinOp} {e : Bool} (hop : isEqOp op = some e) {t : TypeId} {x y : Operand} {a b : Value} (hs : eqShape a b = true) {r : Bool} (he : (Op.equal t a b).run P w = .ok r w) : (do eqGuard op t x y a b; binOp op t a b : Sem Value).run P w = .ok (.bool (r == e)) w := by
  have hg := guard_ok (P := P) (w := w) (op := op) (t := t) (x := x) (y := y) (a := a) (b := b) (fun h => by rw [h.1, h.2] at hs; cases hs) (fun c d h => by rw [h.1, h.2] at hs; cases hs)
  simp only [Sem.run_bind, hg, Result.andThen_ok]
  cases op <;> simp only [isEqOp, Option.some.injEq, reduceCtorEq] at hop <;> subst hop
  · have : binOp .eql t a b = (do pure (.bool (← Op.equal t a b)) : Sem Value) := by cases a <;> cases b <;> first | rfl | (exact absurd hs (by simp [eqShape]))
    rw [this]
    simp [he]
  · have : binOp .neq t a b = (do pure (.bool (!(← Op.equal t a b))) : Sem Value) := by cases a <;> cases b <;> first | rfl | (exact absurd hs (by simp [eqShape]))
    rw [this]
    simp [he]
theorem eqS_ok {t : TypeId} {a b : SV} {a' b' : Value} (ha : VR ρ h.next a a') (hb : VR ρ h.next b b') {r : Bool} (hr : eqS E t a b = some r) : eqShape a' b' = true ∧ (Op.equal t a' b').run E.P w = .ok r w := by
  obtain ⟨d, hd⟩ : ∃ d, Op.maxDepth = d + 1 := ⟨9999, rfl⟩
  have und' : ∀ {d : TypeDesc}, und E t = some d → (underlying t).run E.P w = .ok d w := fun h => run_und ok h w
  unfold eqS at hr
  split at hr
  · rename_i b1 o1 b2 o2
    cases hc : (Nat.beq b1 b2 && sizedPtrT E t)
    · rw [hc] at hr; cases hr
    · rw [hc, cond_true] at hr
      simp only [Bool.and_eq_true, Tr.beq_of, decide_eq_true_eq] at hc
      obtain ⟨rfl, hc2⟩ := hc
      simp only [Option.some.injEq] at hr
      subst hr
      cases ha; cases hb
      refine ⟨rfl, ?_⟩
      unfold sizedPtrT at hc2
      split at hc2
      · rename_i e hu
        split at hc2
        · rename_i n hn
          rw [ble_eq, decide_eq_true_eq] at hc2
          unfold Op.equal
          rw [hd]
          simp only [Op.equalIn, Sem.run_bind, und' hu, Result.andThen_ok, run_size ok hn, Sem.run_ite]
          rw [if_pos (by omega)]
          simp only [sameAddr, beq_self_eq_true, if_true, Sem.run_pure, Sem.run_ite]
          congr 1
          rw [Tr.beq_of]
          by_cases e : o1 = o2
          · subst e; simp
          · rw [decide_eq_false e]
            apply beq_false_of_ne
            intro h
            have : (ρ b1).o + o1 = (ρ b1).o + o2 := by injection h
            omega
        · cases hc2
      · cases hc2
  · cases hc : isPtrT E t
    · rw [hc] at hr; cases hr
    · rw [hc, cond_true] at hr
      simp only [Option.some.injEq] at hr
      subst hr
      cases ha; cases hb
      refine ⟨rfl, ?_⟩
      unfold isPtrT at hc
      split at hc
      · rename_i e hu
        unfold Op.equal
        rw [hd]
        simp only [Op.equalIn, Sem.run_bind, und' hu, Result.andThen_ok, Sem.run_pure]
      · cases hc
  · cases hc : isPtrT E t
    · rw [hc] at hr; cases hr
    · rw [hc, cond_true] at hr
      simp only [Option.some.injEq] at hr
      subst hr
      cases ha; cases hb
      refine ⟨rfl, ?_⟩
      unfold isPtrT at hc
      split at hc
      · rename_i e hu
        unfold Op.equal
        rw [hd]
        simp only [Op.equalIn, Sem.run_bind, und' hu, Result.andThen_ok, Sem.run_pure]
        rfl
      · cases hc
  · cases hc : isSliceT E t
    · rw [hc] at hr; cases hr
    · rw [hc, cond_true] at hr
      simp only [Option.some.injEq] at hr
      subst hr
      cases hb
      unfold isSliceT at hc
      split at hc
      · rename_i e hu
        cases ha <;> refine ⟨rfl, ?_⟩ <;> unfold Op.equal <;> rw [hd] <;> simp only [Op.equalIn, Sem.run_bind, und' hu, Result.andThen_ok, Sem.run_pure]
      · cases hc
  · cases hc : isSliceT E t
    · rw [hc] at hr; cases hr
    · rw [hc, cond_true] at hr
      simp only [Option.some.injEq] at hr
      subst hr
      cases ha
      unfold isSliceT at hc
      split at hc
      · rename_i e hu
        cases hb <;> refine ⟨rfl, ?_⟩ <;> unfold Op.equal <;> rw [hd] <;> simp only [Op.equalIn, Sem.run_bind, und' hu, Result.andThen_ok, Sem.run_pure] <;> rfl
      · cases hc
  · cases hc : isMapT E t
    · rw [hc] at hr; cases hr
    · rw [hc, cond_true] at hr
      simp only [Option.some.injEq] at hr
      subst hr
      cases ha; cases hb
      refine ⟨rfl, ?_⟩
      unfold isMapT at hc
      split at hc
      · rename_i e hu
        unfold Op.equal
        rw [hd]
        simp only [Op.equalIn, Sem.run_bind, und' hu, Result.andThen_ok, Sem.run_pure]
      · cases hc
  · cases hc : isMapT E t
    · rw [hc] at hr; cases hr
    · rw [hc, cond_true] at hr
      simp only [Option.some.injEq] at hr
      subst hr
      cases ha; cases hb
      refine ⟨rfl, ?_⟩
      unfold isMapT at hc
      split at hc
      · rename_i e hu
        unfold Op.equal
        rw [hd]
        simp only [Op.equalIn, Sem.run_bind, und' hu, Result.andThen_ok, Sem.run_pure]
        rfl
      · cases hc
  · cases hc : isFuncT E t
    · rw [hc] at hr; cases hr
    · rw [hc, cond_true] at hr
      simp only [Option.some.injEq] at hr
      subst hr
      cases ha; cases hb
      refine ⟨rfl, ?_⟩
      unfold isFuncT at hc
      split at hc
      · rename_i e hu
        unfold Op.equal
        rw [hd]
        simp only [Op.equalIn, Sem.run_bind, und' hu, Result.andThen_ok, Sem.run_pure]
      · cases hc
  · cases hc : isFuncT E t
    · rw [hc] at hr; cases hr
    · rw [hc, cond_true] at hr
      simp only [Option.some.injEq] at hr
      subst hr
      cases ha; cases hb
      refine ⟨rfl, ?_⟩
      unfold isFuncT at hc
      split at hc
      · rename_i e hu
        unfold Op.equal
        rw [hd]
        simp only [Op.equalIn, Sem.run_bind, und' hu, Result.andThen_ok, Sem.run_pure]
      · cases hc
  · cases hc : isIfaceT E t
    · rw [hc] at hr; cases hr
    · rw [hc, cond_true] at hr
      simp only [Option.some.injEq] at hr
      subst hr
      cases ha; cases hb
      refine ⟨rfl, ?_⟩
      unfold isIfaceT at hc
      split at hc
      · rename_i e hu
        unfold Op.equal
        rw [hd]
        simp only [Op.equalIn, Sem.run_bind, und' hu, Result.andThen_ok, Sem.run_pure]
      · cases hc
  · cases hc : isIfaceT E t
    · rw [hc] at hr; cases hr
    · rw [hc, cond_true] at hr
      simp only [Option.some.injEq] at hr
      subst hr
      cases ha; cases hb
      refine ⟨rfl, ?_⟩
      unfold isIfaceT at hc
      split at hc
      · rename_i e hu
        unfold Op.equal
        rw [hd]
        simp only [Op.equalIn, Sem.run_bind, und' hu, Result.andThen_ok, Sem.run_pure]
      · cases hc
  · split at hr
    · rename_i u v hu hv
      cases hc : (isIfaceT E t && not (Nat.beq u v))
      · rw [hc] at hr; cases hr
      · rw [hc, cond_true] at hr
        simp only [Option.some.injEq] at hr
        subst hr
        simp only [Bool.and_eq_true, Bool.not_eq_true', Tr.beq_of, decide_eq_false_iff_not] at hc
        obtain ⟨c1, c2⟩ := hc
        have ta : ∀ {x : SV} {x' : Value} {u : TypeId}, tidOf x = some u → VR ρ h.next x x' → ∃ q, x' = .iface u q := by
          intro x x' u hx hr
          unfold tidOf at hx
          split at hx
          · simp only [Option.some.injEq] at hx; subst hx; cases hr; exact ⟨_, rfl⟩
          · simp only [Option.some.injEq] at hx; subst hx; cases hr; exact ⟨_, rfl⟩
          · cases hx
        obtain ⟨q1, rfl⟩ := ta hu ha
        obtain ⟨q2, rfl⟩ := ta hv hb
        refine ⟨rfl, ?_⟩
        unfold isIfaceT at c1
        split at c1
        · rename_i e hu
          unfold Op.equal
          rw [hd]
          simp only [Op.equalIn, Sem.run_bind, und' hu, Result.andThen_ok]
          rw [if_pos c2]
          rfl
        · cases c1
    · cases hr
theorem bin_ok (hr : HR E ρ h w) (op : BinOp) (t : TypeId) (x y : Operand) {a b : SV} {a' b' : Value} (ha : VR ρ h.next a a') (hb : VR ρ h.next b b') : SF E ρ h w (oBin E h op t x y a b) (do eqGuard op t x y a' b'; binOp op t a' b') := by
  unfold oBin
  split
  · rename_i k a k' b
    cases ha; cases hb
    split
    · rename_i v hv
      refine SF.same hr (.val v) ?_
      simp only [Sem.run_bind, guard_ok (P := E.P) (w := w) (op := op) (t := t) (x := x) (y := y) (a := .int k a) (b := .int k' b) (fun h => by cases h.1) (fun c d h => by cases h.1), Result.andThen_ok, intBin_ok hv t]
    · exact genBin_ok ok hr t x y
  · rename_i a b
    cases ha; cases hb
    split
    · rename_i v hv
      refine SF.same hr (.val v) ?_
      simp only [Sem.run_bind, guard_ok (P := E.P) (w := w) (op := op) (t := t) (x := x) (y := y) (a := .string a) (b := .string b) (fun h => by cases h.1) (fun c d h => by cases h.1), Result.andThen_ok, strBin_ok hv t]
    · exact genBin_ok ok hr t x y
  · unfold oBin2
    split
    · rename_i u v hu hv
      rw [toVal_ok hu ha, toVal_ok hv hb]
      exact genBin_ok ok hr t x y
    · split
      · rename_i e he
        split
        · rename_i r hr2
          obtain ⟨q1, q2⟩ := eqS_ok (w := w) ok ha hb hr2
          exact SF.same hr (.val _) (eqfin he q1 q2)
        · exact SF.none
      · exact SF.none
end
end Go.Ev

/- What is known, and what is: the relation. -/
import Derived.Test.YtgoiaciamgailaaGreatDoorRRRREvB
import Derived.Laws.IdiomCopy
import Derived.Calls
namespace Go.Ev
set_option linter.unusedVariables false
set_option linter.unusedSimpArgs false

/-! ### Tries -/
namespace Tr
variable {α : Type}
theorem get_e (i : Nat) : (Tr.e : Tr α).get i = none := rfl
theorem get_n (l : Tr α) (v : Option α) (r : Tr α) (i : Nat) : (Tr.n l v r).get i = cond (Nat.beq i 0) v (cond (Nat.beq (Nat.mod i 2) 1) (l.get (Nat.div i 2)) (r.get (Nat.pred (Nat.div i 2)))) := rfl
theorem putF_e (f i : Nat) (x : Option α) : putF (f + 1) .e i x = cond (Nat.beq i 0) (.n .e x .e) (cond (Nat.beq (Nat.mod i 2) 1) (.n (putF f .e (Nat.div i 2) x) none .e) (.n .e none (putF f .e (Nat.pred (Nat.div i 2)) x))) := rfl
theorem putF_n (f i : Nat) (x : Option α) (l : Tr α) (v : Option α) (r : Tr α) : putF (f + 1) (.n l v r) i x = cond (Nat.beq i 0) (.n l x r) (cond (Nat.beq (Nat.mod i 2) 1) (.n (putF f l (Nat.div i 2) x) v r) (.n l v (putF f r (Nat.pred (Nat.div i 2)) x))) := rfl
theorem beq_of {i j : Nat} : Nat.beq i j = decide (i = j) := by
  by_cases h : i = j
  · subst h; simp
  · have : Nat.beq i j = false := by
      cases hb : Nat.beq i j
      · rfl
      · exact absurd (Nat.eq_of_beq_eq_true hb) h
    simp [h, this]
theorem get_putF (f : Nat) : ∀ (t : Tr α) (i : Nat) (x : Option α) (j : Nat), i < f → (putF f t i x).get j = if j = i then x else t.get j := by
  induction f with
  | zero => intro t i x j h; omega
  | succ f ih =>
    intro t i x j h
    have hm : ∀ n : Nat, Nat.mod n 2 = n % 2 := fun _ => rfl
    have hd : ∀ n : Nat, Nat.div n 2 = n / 2 := fun _ => rfl
    cases t with
    | e =>
      rw [putF_e]
      simp only [beq_of, hm, hd]
      by_cases h0 : i = 0
      · subst h0
        simp only [decide_true, cond_true, get_n, beq_of, get_e]
        by_cases hj : j = 0 <;> simp [hj]
      · by_cases h1 : i % 2 = 1
        · simp only [h0, h1, decide_false, decide_true, cond_false, cond_true, get_n, get_e, beq_of, hm, hd]
          by_cases hj : j = 0
          · simp [hj]; intro e; omega
          · by_cases hj1 : j % 2 = 1
            · simp only [hj, hj1, decide_false, decide_true, cond_false, cond_true]
              rw [ih _ _ _ _ (by first | omega | (show i / 2 - 1 < f; omega)), get_e]
              by_cases e : j = i
              · subst e; simp
              · rw [if_neg e, if_neg (by omega)]
            · simp only [hj, hj1, decide_false, cond_false]
              rw [if_neg (by omega)]
        · simp only [h0, h1, decide_false, cond_false, get_n, get_e, beq_of, hm, hd]
          by_cases hj : j = 0
          · simp [hj]; intro e; omega
          · by_cases hj1 : j % 2 = 1
            · simp only [hj, hj1, decide_false, decide_true, cond_false, cond_true]
              rw [if_neg (by omega)]
            · simp only [hj, hj1, decide_false, cond_false]
              rw [ih _ _ _ _ (by first | omega | (show i / 2 - 1 < f; omega)), get_e]
              by_cases e : j = i
              · subst e; simp
              · rw [if_neg e, if_neg (by show ¬ (j / 2 - 1 = i / 2 - 1); omega)]
    | n l v r =>
      rw [putF_n]
      simp only [beq_of, hm, hd]
      by_cases h0 : i = 0
      · subst h0
        simp only [decide_true, cond_true, get_n, beq_of]
        by_cases hj : j = 0 <;> simp [hj]
      · by_cases h1 : i % 2 = 1
        · simp only [h0, h1, decide_false, decide_true, cond_false, cond_true, get_n, beq_of, hm, hd]
          by_cases hj : j = 0
          · simp [hj]; intro e; omega
          · by_cases hj1 : j % 2 = 1
            · simp only [hj, hj1, decide_false, decide_true, cond_false, cond_true]
              rw [ih _ _ _ _ (by first | omega | (show i / 2 - 1 < f; omega))]
              by_cases e : j = i
              · subst e; simp
              · rw [if_neg e, if_neg (by omega)]
            · simp only [hj, hj1, decide_false, cond_false]
              rw [if_neg (by omega)]
        · simp only [h0, h1, decide_false, cond_false, get_n, beq_of, hm, hd]
          by_cases hj : j = 0
          · simp [hj]; intro e; omega
          · by_cases hj1 : j % 2 = 1
            · simp only [hj, hj1, decide_false, decide_true, cond_false, cond_true]
              rw [if_neg (by omega)]
            · simp only [hj, hj1, decide_false, cond_false]
              rw [ih _ _ _ _ (by first | omega | (show i / 2 - 1 < f; omega))]
              by_cases e : j = i
              · subst e; simp
              · rw [if_neg e, if_neg (by show ¬ (j / 2 - 1 = i / 2 - 1); omega)]
theorem get_put (t : Tr α) (i : Nat) (x : Option α) (j : Nat) : (t.put i x).get j = if j = i then x else t.get j := get_putF _ t i x j (Nat.lt_succ_self i)
theorem get_puts (l : List α) : ∀ (t : Tr α) (k j : Nat), (t.puts k l).get j = if k ≤ j ∧ j < k + l.length then l[j - k]? else t.get j := by
  induction l with
  | nil => intro t k j; simp [puts]; omega
  | cons x xs ih =>
    intro t k j
    show (puts (t.put k (some x)) (k + 1) xs).get j = _
    rw [ih, get_put]
    by_cases h : j = k
    · subst h
      simp
      intro h; omega
    · rw [if_neg h]
      by_cases h2 : k + 1 ≤ j ∧ j < k + 1 + xs.length
      · rw [if_pos h2, if_pos (by simp; omega), show j - k = (j - (k + 1)) + 1 by omega]; simp
      · rw [if_neg h2, if_neg (by simp; omega)]
end Tr

theorem nth_eq {α : Type} (l : List α) (i : Nat) : nth l i = l[i]? := by
  induction l generalizing i with
  | nil => rfl
  | cons x xs ih =>
    show cond (Nat.beq i 0) (some x) (nth xs (Nat.pred i)) = _
    rw [Tr.beq_of]
    cases i with
    | zero => rfl
    | succ i => simp [ih]
theorem dropL_eq {α : Type} (l : List α) (i : Nat) : dropL l i = l.drop i := by
  induction l generalizing i with
  | nil => cases i <;> rfl
  | cons x xs ih =>
    show cond (Nat.beq i 0) (x :: xs) (dropL xs (Nat.pred i)) = _
    rw [Tr.beq_of]
    cases i with
    | zero => rfl
    | succ i => simp [ih]
theorem takeL_eq {α : Type} (l : List α) (i : Nat) : takeL l i = l.take i := by
  induction l generalizing i with
  | nil => cases i <;> rfl
  | cons x xs ih =>
    show cond (Nat.beq i 0) [] (x :: takeL xs (Nat.pred i)) = _
    rw [Tr.beq_of]
    cases i with
    | zero => rfl
    | succ i => simp [ih]
theorem look_nil (t : Nat) : look [] t = none := rfl
theorem look_cons (i : Nat) (v : SV) (l : List (Nat × SV)) (t : Nat) : look ((i, v) :: l) t = if i = t then some v else look l t := by
  show cond (Nat.beq i t) (some v) (look l t) = _
  rw [Tr.beq_of]
  by_cases h : i = t <;> simp [h]
theorem length_setNth (l : List SV) (i : Nat) (v : SV) : (setNth l i v).length = l.length := by
  induction l generalizing i with
  | nil => rfl
  | cons x xs ih =>
    show (cond (Nat.beq i 0) (v :: xs) (x :: setNth xs (Nat.pred i) v)).length = _
    cases Nat.beq i 0 <;> simp [ih]
theorem nth_setNth (l : List SV) (i : Nat) (v : SV) (j : Nat) : (setNth l i v)[j]? = if j = i ∧ i < l.length then some v else l[j]? := by
  induction l generalizing i j with
  | nil => simp [show setNth [] i v = [] from rfl]
  | cons x xs ih =>
    have e : setNth (x :: xs) i v = cond (Nat.beq i 0) (v :: xs) (x :: setNth xs (Nat.pred i) v) := rfl
    rw [e, Tr.beq_of]
    cases i with
    | zero => cases j <;> simp
    | succ i =>
      cases j with
      | zero => simp
      | succ j => simp [ih]

theorem pureRun_run {α : Type} {P : Program} : ∀ {s : Sem α} {a : α}, pureRun P s = some a → ∀ w, s.run P w = .ok a w := by
  intro s
  induction s with
  | pure a => intro b h w; simp [pureRun] at h; subst h; rfl
  | program k ih => intro b h w; simp only [pureRun] at h; simp only [Sem.run]; exact ih P h w
  | mark m k ih => intro b h w; simp only [pureRun] at h; simp only [Sem.run]; exact ih h w
  | _ => intro b h; simp [pureRun] at h

/-! ### Values -/
/-- Where a row that is known lies: its block, from where on, how many cells are there, how many an element has. -/
structure Pl where
  b : Nat
  o : Nat
  n : Nat
  z : Nat
abbrev Rho := Nat → Pl

inductive FnR (ρ : Rho) (N : Nat) : Fn → Fn → Prop
  | func (f : FuncId) : FnR ρ N (.func f) (.func f)
  | method (n : String) : FnR ρ N (.method n) (.method n)
  | yield (l : Nat) : l < N → FnR ρ N (.yield l) (.yield (ρ l).b)

mutual
inductive VR (ρ : Rho) (N : Nat) : SV → Value → Prop
  | val (v : Value) : VR ρ N (.val v) v
  | ptr (b off : Nat) : b < N → VR ρ N (.ptr b off) (.pointer (some ⟨(ρ b).b, (ρ b).o + off, none⟩))
  | slice (b off len k : Nat) : b < N → len ≤ k → VR ρ N (.slice b off len (some k)) (.slice (some ⟨(ρ b).b, (ρ b).o + off, none⟩) len k)
  | sliceU (b off len c : Nat) : b < N → len ≤ c → off + c * (ρ b).z = (ρ b).n → VR ρ N (.slice b off len none) (.slice (some ⟨(ρ b).b, (ρ b).o + off, none⟩) len c)
  | map (b : Nat) : b < N → VR ρ N (.map b) (.map (some (ρ b).b))
  | func (fn fn' : Fn) (l m : List SV) (l' m' : List Value) : FnR ρ N fn fn' → VRs ρ N l l' → VRs ρ N m m' → VR ρ N (.func fn l m) (.func fn' ⟨l'⟩ ⟨m'⟩)
  | iface (t : TypeId) (x : SV) (x' : Value) : VR ρ N x x' → VR ρ N (.iface t x) (.iface t x')
  | unk (v : Value) : VR ρ N .unk v
  | zstr (n : Nat) : VR ρ N (.zstr n) (.string ⟨⟨List.replicate n 0⟩⟩)
  | arr (cs : Tr SV) (dfl : List SV) (l : List SV) (l' : List Value) : rowGets cs dfl 0 l.length = some l → (∀ v, v ∈ l' → v.oneCell' = true) → VRs ρ N l l' → VR ρ N (.arr cs dfl l.length) (.agg ⟨l'⟩)
  | agg (l : List SV) (l' : List Value) : VRs ρ N l l' → VR ρ N (.agg l) (.agg ⟨l'⟩)
  | tup (l : List SV) (l' : List Value) : VRs ρ N l l' → VR ρ N (.tup l) (.tuple ⟨l'⟩)
inductive VRs (ρ : Rho) (N : Nat) : List SV → List Value → Prop
  | nil : VRs ρ N [] []
  | cons (v : SV) (v' : Value) (l : List SV) (l' : List Value) : VR ρ N v v' → VRs ρ N l l' → VRs ρ N (v :: l) (v' :: l')
end

/-- Names that are known stay where they are. -/
structure Ren (ρ : Rho) (N : Nat) (ρ' : Rho) (N' : Nat) : Prop where
  le : N ≤ N'
  same : ∀ b, b < N → ρ' b = ρ b
theorem Ren.refl (ρ : Rho) (N : Nat) : Ren ρ N ρ N := ⟨Nat.le_refl _, fun _ _ => rfl⟩
theorem Ren.trans {ρ ρ' ρ'' : Rho} {N N' N'' : Nat} (h : Ren ρ N ρ' N') (h' : Ren ρ' N' ρ'' N'') : Ren ρ N ρ'' N'' :=
  ⟨Nat.le_trans h.le h'.le, fun b hb => (h'.same b (Nat.lt_of_lt_of_le hb h.le)).trans (h.same b hb)⟩

theorem FnR.ren {ρ ρ' : Rho} {N N' : Nat} (hr : Ren ρ N ρ' N') {f f' : Fn} (h : FnR ρ N f f') : FnR ρ' N' f f' := by
  cases h with
  | func f => exact .func f
  | method n => exact .method n
  | yield l hl => rw [← hr.same l hl]; exact .yield l (Nat.lt_of_lt_of_le hl hr.le)
mutual
theorem VR.ren {ρ ρ' : Rho} {N N' : Nat} (hr : Ren ρ N ρ' N') : ∀ {v : SV} {v' : Value}, VR ρ N v v' → VR ρ' N' v v'
  | _, _, .val v => .val v
  | _, _, .ptr b off h => by rw [← hr.same b h]; exact .ptr b off (Nat.lt_of_lt_of_le h hr.le)
  | _, _, .slice b off len k h h1 => by rw [← hr.same b h]; exact .slice b off len k (Nat.lt_of_lt_of_le h hr.le) h1
  | _, _, .sliceU b off len c h h1 h2 => by rw [← hr.same b h] at *; exact .sliceU b off len c (Nat.lt_of_lt_of_le h hr.le) h1 h2
  | _, _, .map b h => by rw [← hr.same b h]; exact .map b (Nat.lt_of_lt_of_le h hr.le)
  | _, _, .func fn fn' l m l' m' h1 h2 h3 => .func fn fn' l m l' m' (h1.ren hr) (VRs.ren hr h2) (VRs.ren hr h3)
  | _, _, .iface t x x' h => .iface t x x' (VR.ren hr h)
  | _, _, .unk v => .unk v
  | _, _, .zstr n => .zstr n
  | _, _, .arr cs dfl l l' h h1 h2 => .arr cs dfl l l' h h1 (VRs.ren hr h2)
  | _, _, .agg l l' h => .agg l l' (VRs.ren hr h)
  | _, _, .tup l l' h => .tup l l' (VRs.ren hr h)
theorem VRs.ren {ρ ρ' : Rho} {N N' : Nat} (hr : Ren ρ N ρ' N') : ∀ {l : List SV} {l' : List Value}, VRs ρ N l l' → VRs ρ' N' l l'
  | _, _, .nil => .nil
  | _, _, .cons v v' l l' h h2 => .cons v v' l l' (VR.ren hr h) (VRs.ren hr h2)
end

section
variable {ρ : Rho} {N : Nat}
theorem VRs.length {l : List SV} {l' : List Value} (h : VRs ρ N l l') : l.length = l'.length := by
  induction l generalizing l' with
  | nil => cases h; rfl
  | cons x xs ih => cases h with | cons _ _ _ _ h h2 => simp [ih h2]
theorem VRs.get {l : List SV} {l' : List Value} (h : VRs ρ N l l') {i : Nat} {v : SV} (hi : l[i]? = some v) : ∃ v', l'[i]? = some v' ∧ VR ρ N v v' := by
  induction l generalizing l' i with
  | nil => simp at hi
  | cons x xs ih =>
    cases h with
    | cons _ y _ ys h h2 =>
      cases i with
      | zero => simp at hi; subst hi; exact ⟨y, rfl, h⟩
      | succ i => simp at hi; simpa using ih h2 hi
theorem VRs.append {l m : List SV} {l' m' : List Value} (h : VRs ρ N l l') (h2 : VRs ρ N m m') : VRs ρ N (l ++ m) (l' ++ m') := by
  induction l generalizing l' with
  | nil => cases h; exact h2
  | cons x xs ih => cases h with | cons _ y _ ys h h3 => exact .cons _ _ _ _ h (ih h3)
theorem VRs.of_vals (l : List Value) : VRs ρ N (l.map .val) l := by
  induction l with
  | nil => exact .nil
  | cons x xs ih => exact .cons _ _ _ _ (.val x) ih
theorem VRs.drop {l : List SV} {l' : List Value} (h : VRs ρ N l l') (k : Nat) : VRs ρ N (l.drop k) (l'.drop k) := by
  induction k generalizing l l' with
  | zero => simpa using h
  | succ k ih => cases h with
    | nil => simpa using VRs.nil
    | cons _ _ _ _ h h2 => simpa using ih h2
theorem VRs.take {l : List SV} {l' : List Value} (h : VRs ρ N l l') (k : Nat) : VRs ρ N (l.take k) (l'.take k) := by
  induction k generalizing l l' with
  | zero => simpa using VRs.nil
  | succ k ih => cases h with
    | nil => simpa using VRs.nil
    | cons _ _ _ _ h h2 => simpa using VRs.cons _ _ _ _ h (ih h2)
theorem VRs.mk {l : List SV} {l' : List Value} (hl : l.length = l'.length) (h : ∀ (i : Nat) (v : SV), l[i]? = some v → ∃ v', l'[i]? = some v' ∧ VR ρ N v v') : VRs ρ N l l' := by
  induction l generalizing l' with
  | nil => cases l' with | nil => exact .nil | cons _ _ => simp at hl
  | cons x xs ih =>
    cases l' with
    | nil => simp at hl
    | cons y ys =>
      refine .cons _ _ _ _ ?_ (ih (by simpa using hl) fun i v hi => by simpa using h (i + 1) v (by simpa using hi))
      obtain ⟨v', h1, h2⟩ := h 0 x rfl
      simp at h1; subst h1; exact h2
/-- The cells of one. -/
theorem VR.cells {v : SV} {v' : Value} (h : VR ρ N v v') {l : List SV} (hl : v.cells = some l) : VRs ρ N l v'.cells.toList := by
  cases h with
  | val => cases v' <;> simp only [SV.cells, Option.some.injEq] at hl <;> subst hl <;> first | exact VRs.of_vals _ | exact .cons _ _ _ _ (.val _) .nil
  | unk => simp [SV.cells] at hl
  | arr cs dfl m l' h h1 h2 => simp only [SV.cells, h, Option.some.injEq] at hl; subst hl; exact h2
  | agg m l' h => simp only [SV.cells, Option.some.injEq] at hl; subst hl; exact h
  | tup m l' h => simp [SV.cells] at hl
  | _ => simp only [SV.cells, Option.some.injEq] at hl; subst hl; exact .cons _ _ _ _ (by constructor <;> assumption) .nil
theorem VR.one {v : SV} {v' : Value} (h : VR ρ N v v') (ho : ok1 v = true) : v'.oneCell' = true := by
  cases h with
  | val => cases v' <;> first | rfl | simp [ok1] at ho
  | _ => first | rfl | simp [ok1] at ho
theorem all1_mem {l : List SV} (h : all1 l = true) : ∀ x, x ∈ l → ok1 x = true := by
  induction l with
  | nil => intro x hx; cases hx
  | cons y ys ih =>
    intro x hx
    unfold all1 at h
    cases hy : ok1 y
    · rw [hy] at h; simp at h
    · rw [hy] at h
      simp only [cond_true] at h
      cases hx with
      | head => exact hy
      | tail _ hx => exact ih h x hx
theorem VRs.ones {l : List SV} {l' : List Value} (h : VRs ρ N l l') (ho : all1 l = true) : ∀ v, v ∈ l' → v.oneCell' = true := by
  induction l generalizing l' with
  | nil => cases h; intro v hv; cases hv
  | cons x xs ih =>
    cases h with
    | cons _ y _ ys h h2 =>
      have h1 := all1_mem ho
      intro v hv
      cases hv with
      | head => exact h.one (h1 x (.head _))
      | tail _ hv =>
        refine ih h2 ?_ v hv
        unfold all1 at ho
        rw [h1 x (.head _)] at ho
        exact ho
theorem zcells_R (z : Value) : VRs ρ N (zcells z) z.cells.toList := by
  cases z <;> first | exact VRs.of_vals _ | exact .cons _ _ _ _ (.val _) .nil
theorem rowGets_some {cs : Tr SV} {dfl : List SV} : ∀ {n i : Nat} {l : List SV}, rowGets cs dfl i n = some l → l.length = n ∧ ∀ j, j < n → rowGet cs dfl (i + j) = l[j]? := by
  intro n
  induction n with
  | zero => intro i l h; simp only [rowGets, Option.some.injEq] at h; subst h; exact ⟨rfl, fun j hj => by omega⟩
  | succ n ih =>
    intro i l h
    simp only [rowGets] at h
    cases h1 : rowGet cs dfl i with
    | none => rw [h1] at h; simp at h
    | some v =>
      rw [h1] at h
      simp only at h
      cases h2 : rowGets cs dfl (i + 1) n with
      | none => rw [h2] at h; simp at h
      | some m =>
        rw [h2] at h
        simp only [Option.some.injEq] at h
        subst h
        obtain ⟨h3, h4⟩ := ih h2
        refine ⟨by simp [h3], fun j hj => ?_⟩
        cases j with
        | zero => simpa using h1
        | succ j =>
          have := h4 j (by omega)
          rw [show i + (j + 1) = i + 1 + j by omega, this]
          simp
theorem rowGets_of {cs : Tr SV} {dfl : List SV} : ∀ {n i : Nat} (f : Nat → SV), (∀ j, j < n → rowGet cs dfl (i + j) = some (f j)) → rowGets cs dfl i n = some ((List.range n).map f) := by
  intro n
  induction n with
  | zero => intro i f _; rfl
  | succ n ih =>
    intro i f h
    have h0 := h 0 (by omega)
    simp only [Nat.add_zero] at h0
    have h1 := ih (i := i + 1) (fun j => f (j + 1)) (fun j hj => by rw [← h (j + 1) (by omega)]; congr 1; omega)
    simp only [rowGets, h0, h1, List.range_succ_eq_map, List.map_cons, List.map_map, Function.comp_def]
theorem rowGet_put {cs : Tr SV} {dfl l : List SV} {k i : Nat} : rowGet (cs.puts k l) dfl i = if k ≤ i ∧ i < k + l.length then l[i - k]? else rowGet cs dfl i := by
  unfold rowGet
  rw [Tr.get_puts]
  by_cases h : k ≤ i ∧ i < k + l.length
  · rw [if_pos h, if_pos h]
    have : i - k < l.length := by omega
    rw [List.getElem?_eq_getElem this]
  · rw [if_neg h, if_neg h]
theorem rowGet_e {dfl : List SV} {i : Nat} (h : i < dfl.length) : rowGet .e dfl i = dfl[i]? := by
  unfold rowGet
  simp only [Tr.get_e]
  match dfl, h with
  | [x], h => simp only [List.length_cons, List.length_nil] at h; have : i = 0 := by omega
              subst this; rfl
  | x :: y :: l, h => simp only [nth_eq]; rw [Nat.mod_eq_of_lt h]
theorem rowGet_rep {dfl : List SV} {i : Nat} (h : 0 < dfl.length) : rowGet .e dfl i = dfl[i % dfl.length]? := by
  unfold rowGet
  simp only [Tr.get_e]
  match dfl, h with
  | [x], h => simp [Nat.mod_one]
  | x :: y :: l, h => simp only [nth_eq]
end
end Go.Ev

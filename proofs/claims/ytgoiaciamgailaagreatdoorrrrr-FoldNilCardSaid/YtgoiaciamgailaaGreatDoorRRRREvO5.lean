/- Operations on what is known: copy, conversions, comparisons. -/
import Derived.Test.YtgoiaciamgailaaGreatDoorRRRREvO4
namespace Go.Ev
set_option linter.unusedVariables false
set_option linter.unusedSimpArgs false
set_option linter.unusedSectionVars false
set_option linter.unnecessarySimpa false

section
variable {E : Env} {ρ : Rho} {h : Heap} {w : World}
theorem wrapF_eq (k : IntKind) (n : Int) : wrapF k n = k.wrap n := by
  have e8 : IntKind.i8.wrap n = (n + 128) % 256 - 128 := by
    simp only [IntKind.wrap, IntKind.bits, IntKind.signed]
    have a1 : ((2 : Int) ^ 8) = 256 := by decide
    have a2 : ((2 : Int) ^ (8 - 1)) = 128 := by decide
    simp only [a1, a2, Bool.true_and, decide_eq_true_eq]
    split <;> omega
  have e16 : IntKind.i16.wrap n = (n + 32768) % 65536 - 32768 := by
    simp only [IntKind.wrap, IntKind.bits, IntKind.signed]
    have a1 : ((2 : Int) ^ 16) = 65536 := by decide
    have a2 : ((2 : Int) ^ (16 - 1)) = 32768 := by decide
    simp only [a1, a2, Bool.true_and, decide_eq_true_eq]
    split <;> omega
  unfold wrapF
  cases n with
  | ofNat m =>
    cases k <;> simp only [ble_eq]
    · by_cases hc : m ≤ 127
      · rw [decide_eq_true hc, cond_true, e8]; simp only [Int.ofNat_eq_natCast]; omega
      · rw [decide_eq_false hc, cond_false]
    · by_cases hc : m ≤ 32767
      · rw [decide_eq_true hc, cond_true, e16]; simp only [Int.ofNat_eq_natCast]; omega
      · rw [decide_eq_false hc, cond_false]
    · by_cases hc : m ≤ 2147483647
      · rw [decide_eq_true hc, cond_true, IntKind.wrap_i32]; simp only [Int.ofNat_eq_natCast]; omega
      · rw [decide_eq_false hc, cond_false]
    · by_cases hc : m ≤ 9223372036854775807
      · rw [decide_eq_true hc, cond_true, IntKind.wrap_i64]; simp only [Int.ofNat_eq_natCast]; omega
      · rw [decide_eq_false hc, cond_false]
    · rw [IntKind.wrap_u8]; exact Int.natCast_emod m 256
    · rw [IntKind.wrap_u16]; exact Int.natCast_emod m 65536
    · rw [IntKind.wrap_u32]; exact Int.natCast_emod m 4294967296
    · rw [IntKind.wrap_u64]; exact Int.natCast_emod m 18446744073709551616
  | negSucc m =>
    cases k <;> simp only [ble_eq]
    · by_cases hc : m ≤ 2147483647
      · rw [decide_eq_true hc, cond_true, IntKind.wrap_i32]; omega
      · rw [decide_eq_false hc, cond_false]
    · by_cases hc : m ≤ 9223372036854775807
      · rw [decide_eq_true hc, cond_true, IntKind.wrap_i64]; omega
      · rw [decide_eq_false hc, cond_false]
variable (ok : EnvOk E)
include ok
theorem copy_ok (hr : HR E ρ h w) (t u ty : TypeId) {d s : SV} {d' s' : Value} (hd : VR ρ h.next d d') (hs : VR ρ h.next s s') : SF E ρ h w (pb (copyS E h t d s)) (Builtin.copy_ #[t, u] ty #[d', s']) := by
  intro l0 e0
  cases hA : copyS E h t d s with
  | none => rw [hA] at e0; cases e0
  | some r =>
    rw [hA] at e0
    simp only [pb, Option.some.injEq] at e0
    subst e0
    obtain ⟨v, h'⟩ := r
    suffices hgoal : ∃ v' w' ρ', (Builtin.copy_ #[t, u] ty #[d', s']).run E.P w = .ok v' w' ∧ VR ρ' h'.next v v' ∧ Go E ρ h w ρ' h' w' by
      obtain ⟨v', w', ρ', a, b, c⟩ := hgoal
      exact ⟨v, h', v', w', ρ', .head _, a, b, c⟩
    unfold copyS at hA
    split at hA
    · rename_i e hu
      split at hA
      · rename_i sz m k hz hm hk
        have hn : Nat.min k m = bif Nat.ble k m then k else m := by
          rw [ble_eq]
          by_cases hc : k ≤ m
          · rw [decide_eq_true hc]; exact Nat.min_eq_left hc
          · rw [decide_eq_false hc]; exact Nat.min_eq_right (by omega)
        simp only [← hn] at hA
        have hlen := lenS_ok (P := E.P) (w := w) hs hk
        split at hA
        · rename_i new b off len cap hnew
          split at hA
          · rename_i cs dfl size el hg
            rw [ble_eq] at hA
            by_cases hin' : (decide (off + Nat.min k m * sz ≤ size) && Nat.beq new.length (Nat.min k m * sz)) = true
            · rw [hin', cond_true] at hA
              simp only [Bool.and_eq_true, decide_eq_true_eq, Tr.beq_of] at hin'
              obtain ⟨hin, hnln⟩ := hin'
              simp only [Option.some.injEq, Prod.mk.injEq] at hA
              obtain ⟨rfl, rfl⟩ := hA
              obtain ⟨new', n1, n2, n3⟩ := firstS_ok (P := E.P) hr hs hnew
              obtain ⟨ca, tyy, fr, hw, hR, hzz⟩ := hr.row hg
              simp only [lenS, Option.some.injEq] at hm
              subst hm
              have hnl : new'.length ≤ Nat.min k len * sz := by rw [← n1.length, hnln]; exact Nat.le_refl _
              have e1 : off + new.length ≤ size := by rw [n1.length]; omega
              have hst := run_store_row (P := E.P) (o := (ρ b).o + off) hw new' (by rw [hR.all]; have := hR.le; omega) (fun j hj => by have := hR.thaw (off + j) (by have := hR.le; omega); simpa [Nat.add_assoc] using this) n2
              obtain ⟨g1, g2, g3⟩ := heap_setCells (t := tyy) (fr := fr) new' ((ρ b).o + off) w ca hw
              have run : ∀ c, (Builtin.copy_ #[t, u] ty #[.slice (some ⟨(ρ b).b, (ρ b).o + off, none⟩) len c, s']).run E.P w = .ok (.int .i64 (Int.ofNat (Nat.min k len))) (w.setCells (ρ b).b ((ρ b).o + off) new') := fun c => by
                simp only [Builtin.copy_, List.getElem?_toArray, List.getElem?_cons_zero, List.getElem?_cons_succ, Sem.run_bind, run_und ok hu, run_size ok hz, Result.andThen_ok, Sem.run_pure, hlen, n3 w rfl, hst]
                rfl
              have hG := Go.set E hr hg _ _ (.row _ _ _ _ _ _ _ _ (hR.puts n1 n2 hR.le e1 (fun i hi hs => by omega)) hzz) g1 g2 g3
              cases hd with
              | slice _ _ _ c _ _ => exact ⟨_, _, ρ, run c, .val _, hG⟩
              | sliceU _ _ _ c _ _ _ => exact ⟨_, _, ρ, run c, .val _, hG⟩
            · rw [Bool.not_eq_true] at hin'; rw [hin'] at hA; cases hA
          · cases hA
        · rename_i new hnew
          simp only [Option.some.injEq, Prod.mk.injEq] at hA
          obtain ⟨rfl, rfl⟩ := hA
          cases hd
          simp only [lenS, Option.some.injEq] at hm
          subst hm
          obtain ⟨new', n1, n2, n3⟩ := firstS_ok (P := E.P) hr hs hnew
          refine ⟨_, w, ρ, ?_, .val _, .refl E hr⟩
          have : Nat.min k 0 = 0 := Nat.min_eq_right (Nat.zero_le _)
          rw [this] at n3
          simp only [Builtin.copy_, List.getElem?_toArray, List.getElem?_cons_zero, List.getElem?_cons_succ, Sem.run_bind, run_und ok hu, run_size ok hz, Result.andThen_ok, Sem.run_pure, hlen, this, n3 w rfl]
          rfl
        · cases hA
      · cases hA
    · cases hA

/-! ### Conversions -/
omit ok in
theorem bytes_ok : ∀ {l : List SV} {bs : List UInt8} {l' : List Value} {N : Nat}, bytesOf l = some bs → VRs ρ N l l' → ∀ (s : ByteArray) (w : World) (P : Program) (f : Value → ByteArray → Sem (ForInStep ByteArray)), (∀ n s, f (.int .u8 n) s = pure (ForInStep.yield (s.push (UInt8.ofNat n.toNat)))) → 
    (forIn l' s f).run P w = .ok ⟨s.data ++ bs.toArray⟩ w := by
  intro l
  induction l with
  | nil =>
    intro bs l' N h hl s w P f hf
    simp only [bytesOf, Option.some.injEq] at h
    subst h
    cases hl
    simp
  | cons x xs ih =>
    intro bs l' N h hl s w P f hf
    simp only [bytesOf] at h
    split at h
    · rename_i n
      split at h
      · rename_i bs2 hb
        simp only [Option.some.injEq] at h
        subst h
        cases hl with
        | cons _ y _ ys hx hxs =>
          cases hx
          simp only [List.forIn_cons, hf, Sem.run_bind, Sem.run_pure, Result.andThen_ok]
          have := ih hb hxs (s.push (UInt8.ofNat n.toNat)) w P f hf
          rw [this]
          congr 2
          apply Array.ext'
          simp [ByteArray.push]
      · cases h
    · cases h
omit ok in
theorem runes_ok : ∀ {l : List SV} {acc r : ByteArray} {l' : List Value} {N : Nat}, runesOf l acc = some r → VRs ρ N l l' → ∀ (w : World) (P : Program) (f : Value → ByteArray → Sem (ForInStep ByteArray)), (∀ n s, f (.int .i32 n) s = pure (ForInStep.yield (s ++ Utf8.encode n))) → 
    (forIn l' acc f).run P w = .ok r w := by
  intro l
  induction l with
  | nil =>
    intro acc r l' N h hl w P f hf
    simp only [runesOf, Option.some.injEq] at h
    subst h
    cases hl
    simp
  | cons x xs ih =>
    intro acc r l' N h hl w P f hf
    simp only [runesOf] at h
    split at h
    · rename_i n
      cases hl with
      | cons _ y _ ys hx hxs =>
        cases hx
        simp only [List.forIn_cons, hf, Sem.run_bind, Sem.run_pure, Result.andThen_ok]
        exact ih h hxs w P f hf
    · cases h
/-- A block that is new, and drawn for. -/
theorem convNew (hr : HR E ρ h w) {e : TypeId} (he : sizeO E e = some 1) {l : List SV} {l' : List Value} (hl : VRs ρ h.next l l') (h1 : ∀ v, v ∈ l' → v.oneCell' = true) {n k : Nat} (hn : n = l.length) (hk : n ≤ k) (more : List Value) (hm : more.length = k - n) (fr : Nat × Nat) (hf : fr = (0, 0) ∨ k ≤ fr.1) {w' : World} (hw : w'.heap = (w.alloc (.cells ⟨l' ++ more⟩ e fr)).heap) (hside : Side (w.alloc (.cells ⟨l' ++ more⟩ e fr)) w' := by first | exact ⟨rfl, rfl, rfl⟩ | (unfold World.freeze; rw [if_neg (by decide)]; exact ⟨rfl, rfl, rfl⟩)) :
    ∃ ρ', VR ρ' (h.next + 1) (.slice h.next 0 n none) (.slice (some ⟨w.heap.size, 0, none⟩) n k) ∧ Go E ρ h w ρ' (h.new (.row (Tr.e.puts 0 l) [] n e)) w' := by
  obtain ⟨i, hi, hi1⟩ := size_ok ok he
  have hll := hl.length
  have hg := newRow_go hr hl h1 e hi more n hn fr (by rcases hf with h | h; exact .inl h; exact .inr (by omega))
  refine ⟨_, ?_, hg.trans E (Go.heap E hg.hr hw (by first | exact hside | (rw [show (⟨l' ++ more⟩ : Array Value) = ⟨l' ++ more⟩ from rfl] at hside; exact ⟨hside.os, hside.tape, hside.output⟩)))⟩
  have := VR.sliceU (ρ := ρ.set h.next ⟨w.heap.size, 0, l'.length + more.length, i.size⟩) (N := h.next + 1) h.next 0 n k (Nat.lt_succ_self _) hk (by rw [Rho.set_self]; simp only [hi1]; omega)
  rwa [Rho.set_self] at this
theorem bytesStr_ok (hr : HR E ρ h w) {b off n : Nat} {cap : Option Nat} {x' : Value} (hx : VR ρ h.next (.slice b off n cap) x') {l : List SV} (hl : firstS h 1 n (.slice b off n cap) = some l) {bs : List UInt8} (hb : bytesOf l = some bs) : (Conv.bytesToString x').run E.P w = .ok (.string ⟨⟨bs⟩⟩) w := by
  obtain ⟨l', n1, n2, n3⟩ := firstS_ok (P := E.P) hr hx hl
  have n3 := n3 w rfl
  have key : ∀ a : Addr, (loadCells a n).run E.P w = .ok ⟨l'⟩ w → ∀ c, (Conv.bytesToString (.slice (some a) n c)).run E.P w = .ok (.string ⟨⟨bs⟩⟩) w := fun a ha c => by
    simp only [Conv.bytesToString, Sem.run_bind, ha, Result.andThen_ok]
    rw [← Array.forIn_toList, bytes_ok hb n1 ByteArray.empty w E.P _ (fun _ _ => rfl)]
    simp
  cases hx with
  | slice => simp only [Builtin.firstCells, Nat.mul_one] at n3; exact key _ n3 _
  | sliceU => simp only [Builtin.firstCells, Nat.mul_one] at n3; exact key _ n3 _
theorem runesStr_ok (hr : HR E ρ h w) {b off n : Nat} {cap : Option Nat} {x' : Value} (hx : VR ρ h.next (.slice b off n cap) x') {l : List SV} (hl : firstS h 1 n (.slice b off n cap) = some l) {s : ByteArray} (hb : runesOf l .empty = some s) : (Conv.runesToString x').run E.P w = .ok (.string s) w := by
  obtain ⟨l', n1, n2, n3⟩ := firstS_ok (P := E.P) hr hx hl
  have n3 := n3 w rfl
  have key : ∀ a : Addr, (loadCells a n).run E.P w = .ok ⟨l'⟩ w → ∀ c, (Conv.runesToString (.slice (some a) n c)).run E.P w = .ok (.string s) w := fun a ha c => by
    simp only [Conv.runesToString, Sem.run_bind, ha, Result.andThen_ok]
    rw [← Array.forIn_toList, runes_ok hb n1 w E.P _ (fun _ _ => rfl)]
    rfl
  cases hx with
  | slice => simp only [Builtin.firstCells, Nat.mul_one] at n3; exact key _ n3 _
  | sliceU => simp only [Builtin.firstCells, Nat.mul_one] at n3; exact key _ n3 _
omit ok in
theorem zeros_ok {b off n m : Nat} {cap : Option Nat} (hm : zerosAt h (.slice b off n cap) = some m) : m = n ∧ firstS h 1 n (.slice b off n cap) = some (List.replicate n (.val (.int .u8 (.ofNat 0)))) := by
  unfold zerosAt at hm
  simp only at hm
  split at hm
  · rename_i cs z size el hb
    cases hc : (isE cs && Nat.beq z 0 && Nat.ble (off + n) size && Nat.ble 64 n)
    · rw [hc] at hm; cases hm
    · rw [hc, cond_true] at hm
      simp only [Bool.and_eq_true, Tr.beq_of, ble_eq, decide_eq_true_eq] at hc
      obtain ⟨⟨⟨c1, rfl⟩, c3⟩, c4⟩ := hc
      simp only [Option.some.injEq] at hm
      refine ⟨hm.symm, ?_⟩
      cases cs with
      | n => cases c1
      | e =>
        unfold firstS
        simp only [hb]
        have : (Nat.ble n n && Nat.ble (off + n * 1) size) = true := by
          simp only [Bool.and_eq_true, ble_eq, decide_eq_true_eq, Nat.mul_one]; omega
        rw [this, cond_true, Nat.mul_one]
        rw [rowGets_of (fun _ => .val (.int .u8 (.ofNat 0))) (fun j hj => rfl)]
        congr 1
        apply List.ext_getElem
        · simp
        · intro i h1 h2; simp
  · cases hm
omit ok in
theorem bytesOf_zeros (n : Nat) : bytesOf (List.replicate n (.val (.int .u8 (.ofNat 0)))) = some (List.replicate n 0) := by
  induction n with
  | zero => rfl
  | succ n ih => simp only [List.replicate_succ, bytesOf, ih]; rfl
theorem conv_ok (hr : HR E ρ h w) (src dst : TypeId) {x : SV} {x' : Value} (hx : VR ρ h.next x x') : SF E ρ h w (pb (convS E h src dst x)) (convert src dst x') := by
  intro l0 e0
  cases hA : convS E h src dst x with
  | none => rw [hA] at e0; cases e0
  | some r =>
    rw [hA] at e0
    simp only [pb, Option.some.injEq] at e0
    subst e0
    obtain ⟨v, h'⟩ := r
    suffices hgoal : ∃ v' w' ρ', (convert src dst x').run E.P w = .ok v' w' ∧ VR ρ' h'.next v v' ∧ Go E ρ h w ρ' h' w' by
      obtain ⟨v', w', ρ', a, b, c⟩ := hgoal
      exact ⟨v, h', v', w', ρ', .head _, a, b, c⟩
    unfold convS at hA
    split at hA
    · rename_i ds k kk n hus hud
      cases hx
      simp only [Option.some.injEq, Prod.mk.injEq] at hA
      obtain ⟨rfl, rfl⟩ := hA
      refine ⟨_, w, ρ, ?_, .val _, .refl E hr⟩
      simp only [convert, Sem.run_bind, run_und ok hus, run_und ok hud, Result.andThen_ok, Conv.intToInt, Sem.run_pure, wrapF_eq]
    · rename_i x0 e s hus hud
      cases hx
      split at hA
      · rename_i hue
        split at hA
        · rename_i hz
          simp only [Option.some.injEq, Prod.mk.injEq] at hA
          obtain ⟨rfl, rfl⟩ := hA
          let k := (Question.appendCap s.size 0 e).cut (w.tape w.drawn (.appendCap s.size 0 e))
          have hk : s.size ≤ k := by simp [k, Question.cut]
          let l' : List Value := s.data.toList.map fun b => .int .u8 (Int.ofNat b.toNat)
          have hl : VRs ρ h.next (s.data.toList.map fun b => SV.val (.int .u8 (Int.ofNat b.toNat))) l' := by
            have : (s.data.toList.map fun b => SV.val (.int .u8 (Int.ofNat b.toNat))) = l'.map .val := by simp [l', Function.comp_def]
            rw [this]; exact VRs.of_vals _
          have hll : l'.length = s.size := by simp [l']
          have hc : ({ w with drawn := w.drawn + 1 }.alloc (.cells ⟨l' ++ List.replicate (k - s.size) (Value.int .u8 0)⟩ e)).shape? w.heap.size = some (e, k) := by
            simp only [World.shape?, World.alloc]
            simp [hll]
            omega
          obtain ⟨ρ', v1, g1⟩ := convNew ok hr hz hl (fun v hv => by obtain ⟨b, _, rfl⟩ := List.mem_map.1 hv; rfl) (n := s.size) (k := k) (by rw [hl.length, hll]) hk (List.replicate (k - s.size) (Value.int .u8 0)) (by simp) (k, k + 1) (.inr (Nat.le_refl _)) (w' := ({ w with drawn := w.drawn + 1 }.alloc (.cells ⟨l' ++ List.replicate (k - s.size) (Value.int .u8 0)⟩ e)).freeze ⟨w.heap.size, k, none⟩ 1) (by
            simp only [World.freeze, World.alloc]
            rw [if_neg (by decide)]
            simp only
            apply Array.ext
            · simp
            · intro j h1 h2
              simp only [Array.getElem_modify]
              by_cases e : w.heap.size = j
              · subst e; simp
              · rw [if_neg e]
                have : j < w.heap.size := by simp at h2; omega
                simp [Array.getElem_push, this])
          refine ⟨_, _, ρ', ?_, v1, g1⟩
          have hdata : (s.data.map fun b => Value.int .u8 ↑b.toNat) = ⟨l'⟩ := by apply Array.ext'; simp [l']
          simp only [convert, Sem.run_bind, run_und ok hus, run_und ok hud, Result.andThen_ok, run_und ok hue, Conv.stringToBytes, run_choose, Question.forced, Bool.false_eq_true, if_false, newRow, run_newObj, Sem.run_pure, hdata, markStringish, run_shape]
          have hap : ((⟨l'⟩ : Array Value) ++ Array.replicate (k - s.size) (Value.int .u8 0)) = ⟨l' ++ List.replicate (k - s.size) (Value.int .u8 0)⟩ := by apply Array.ext'; simp
          simp only [World.alloc] at hc ⊢
          have hap2 : ((⟨l'⟩ : Array Value) ++ Array.replicate ((Question.appendCap s.size 0 e).cut (w.tape w.drawn (.appendCap s.size 0 e)) - s.size) (Value.int .u8 0)) = ⟨l' ++ List.replicate (k - s.size) (Value.int .u8 0)⟩ := hap
          rw [hap2, hc]
          rfl
        · cases hA
      · rename_i hue
        split at hA
        · rename_i hz
          simp only [Option.some.injEq, Prod.mk.injEq] at hA
          obtain ⟨rfl, rfl⟩ := hA
          let L := Conv.runesFrom s s.size 0 #[]
          have hL1 : ∀ (b i : Nat) (acc : Array Value), (∀ v, v ∈ acc → v.oneCell' = true) → ∀ v, v ∈ Conv.runesFrom s b i acc → v.oneCell' = true := by
            intro b
            induction b with
            | zero => intro i acc h; exact h
            | succ b ih =>
              intro i acc h v hv
              unfold Conv.runesFrom at hv
              split at hv
              · refine ih _ _ (fun u hu => ?_) v hv
                rcases Array.mem_push.1 hu with hu | hu
                · exact h u hu
                · subst hu; rfl
              · exact h v hv
          let k := (Question.appendCap L.size 0 e).cut (w.tape w.drawn (.appendCap L.size 0 e))
          have hk : L.size ≤ k := by simp [k, Question.cut]
          have hl : VRs ρ h.next (vals L) L.toList := VRs.of_vals _
          have hll : (vals L).length = L.size := by simp [vals]
          obtain ⟨ρ', v1, g1⟩ := convNew ok hr hz hl (fun v hv => hL1 _ _ #[] (fun v hv => by simp at hv) v (by simpa using hv)) (n := (vals L).length) (k := k) rfl (by omega) (List.replicate (k - L.size) (Value.int .i32 0)) (by simp [hll]) (0, 0) (.inl rfl) (w' := { w with drawn := w.drawn + 1 }.alloc (.cells ⟨L.toList ++ List.replicate (k - L.size) (Value.int .i32 0)⟩ e)) rfl
          refine ⟨_, _, ρ', ?_, v1, g1⟩
          simp only [convert, Sem.run_bind, run_und ok hus, run_und ok hud, Result.andThen_ok, run_und ok hue, Conv.stringToRunes, run_choose, Question.forced, Bool.false_eq_true, if_false, newRow, run_newObj, Sem.run_pure]
          have hap2 : (Conv.runesFrom s s.size 0 #[] ++ Array.replicate ((Question.appendCap (Conv.runesFrom s s.size 0 #[]).size 0 e).cut (w.tape w.drawn (.appendCap (Conv.runesFrom s s.size 0 #[]).size 0 e)) - (Conv.runesFrom s s.size 0 #[]).size) (Value.int .i32 0)) = ⟨L.toList ++ List.replicate (k - L.size) (Value.int .i32 0)⟩ := by apply Array.ext'; simp [L, k]
          rw [hap2, hll]
          rfl
        · cases hA
      · cases hA
    · rename_i e b off n cap hus hud
      split at hA
      · rename_i hue
        split at hA
        · rename_i m hm
          simp only [Option.some.injEq, Prod.mk.injEq] at hA
          obtain ⟨rfl, rfl⟩ := hA
          obtain ⟨rfl, hl⟩ := zeros_ok hm
          have hrun := bytesStr_ok ok hr hx hl (bytesOf_zeros _)
          refine ⟨_, w, ρ, ?_, .zstr _, .refl E hr⟩
          rw [← hrun]
          cases hx <;> simp only [convert, Sem.run_bind, run_und ok hus, run_und ok hud, Result.andThen_ok, run_und ok hue]
        · split at hA
          · rename_i l hl
            split at hA
            · rename_i bs hbs
              simp only [Option.some.injEq, Prod.mk.injEq] at hA
              obtain ⟨rfl, rfl⟩ := hA
              have hrun := bytesStr_ok ok hr hx hl hbs
              refine ⟨_, w, ρ, ?_, .val _, .refl E hr⟩
              rw [← hrun]
              cases hx <;> simp only [convert, Sem.run_bind, run_und ok hus, run_und ok hud, Result.andThen_ok, run_und ok hue]
            · cases hA
          · cases hA
      · rename_i hue
        split at hA
        · rename_i l hl
          split at hA
          · rename_i s hs
            simp only [Option.some.injEq, Prod.mk.injEq] at hA
            obtain ⟨rfl, rfl⟩ := hA
            have hrun := runesStr_ok ok hr hx hl hs
            refine ⟨_, w, ρ, ?_, .val _, .refl E hr⟩
            rw [← hrun]
            cases hx <;> simp only [convert, Sem.run_bind, run_und ok hus, run_und ok hud, Result.andThen_ok, run_und ok hue]
          · cases hA
        · cases hA
      · cases hA
    · rename_i v hno1 hno2
      cases hx
      split at hA
      · rename_i r hr2
        simp only [Option.some.injEq, Prod.mk.injEq] at hA
        obtain ⟨rfl, rfl⟩ := hA
        exact ⟨r, w, ρ, pureRun_run hr2 w, .val _, .refl E hr⟩
      · cases hA
    · cases hA
end
end Go.Ev

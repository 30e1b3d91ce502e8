/- Operations on what is known: append, copy. -/
import Derived.Test.YtgoiaciamgailaaGreatDoorRRRREvO3
import Derived.Laws.AppendOwn
namespace Go.Ev
set_option linter.unusedVariables false
set_option linter.unusedSimpArgs false
set_option linter.unusedSectionVars false
set_option linter.unnecessarySimpa false

section
variable {E : Env} {ρ : Rho} {h : Heap} {w : World}
/-- A row that holds these. -/
structure Holds (ρ : Rho) (N : Nat) (cs : Tr SV) (dfl : List SV) (L : List Value) : Prop where
  cell : ∀ i, i < L.length → ∃ v v', rowGet cs dfl i = some v ∧ L[i]? = some v' ∧ v'.oneCell' = true ∧ VR ρ N v v'
theorem Holds.ren {ρ ρ' : Rho} {N N' : Nat} (hr : Ren ρ N ρ' N') {cs : Tr SV} {dfl : List SV} {L : List Value} (h : Holds ρ N cs dfl L) : Holds ρ' N' cs dfl L :=
  ⟨fun i hi => let ⟨v, v', a, b, c, d⟩ := h.cell i hi; ⟨v, v', a, b, c, d.ren hr⟩⟩
theorem Holds.ofList {N : Nat} {l : List SV} {l' : List Value} (hl : VRs ρ N l l') (h1 : ∀ v, v ∈ l' → v.oneCell' = true) : Holds ρ N (Tr.e.puts 0 l) [] l' :=
  ⟨fun i hi => by
    have hlen := hl.length
    rw [rowGet_put, if_pos (by omega)]
    have hg := List.getElem?_eq_getElem (show i < l.length by omega)
    obtain ⟨v', a1, a2⟩ := hl.get hg
    exact ⟨_, v', by simpa using hg, a1, h1 v' (List.mem_of_getElem? a1), a2⟩⟩
theorem Holds.puts {N : Nat} {cs : Tr SV} {dfl : List SV} {L : List Value} (h : Holds ρ N cs dfl L) {l : List SV} {l' : List Value} (hl : VRs ρ N l l') (h1 : ∀ v, v ∈ l' → v.oneCell' = true) {k : Nat} (hk : k = L.length) : Holds ρ N (cs.puts k l) dfl (L ++ l') :=
  ⟨fun i hi => by
    subst hk
    have hlen := hl.length
    rw [List.length_append] at hi
    rw [rowGet_put]
    by_cases hc : i < L.length
    · rw [if_neg (by omega), List.getElem?_append_left hc]
      exact h.cell i hc
    · rw [if_pos (by omega), List.getElem?_append_right (by omega)]
      have hg := List.getElem?_eq_getElem (show i - L.length < l.length by omega)
      obtain ⟨v', a1, a2⟩ := hl.get hg
      exact ⟨_, v', hg, a1, h1 v' (List.mem_of_getElem? a1), a2⟩⟩
/-- A new block that begins so. -/
theorem Holds.row_new {N : Nat} {cs : Tr SV} {dfl : List SV} {L : List Value} (h : Holds ρ N cs dfl L) {size : Nat} (hs : size = L.length) (b z : Nat) (more : List Value) : RowR ρ N cs dfl size ⟨b, 0, L.length + more.length, z⟩ ⟨L ++ more⟩ (0, 0) := by
  subst hs
  refine ⟨by simp, by simp, fun i _ hc => by have := hc.2; simp at this, fun i hi => ?_⟩
  obtain ⟨v, v', a1, a2, a3, a4⟩ := h.cell i hi
  exact ⟨v, v', a1, by simp only [Nat.zero_add, List.getElem?_toArray]; rw [List.getElem?_append_left hi]; exact a2, a3, a4⟩
/-- The first cells of a slice, or of a string. -/
theorem firstS_ok {P : Program} (hr : HR E ρ h w) {sz n : Nat} {x : SV} {x' : Value} (hx : VR ρ h.next x x') {l : List SV} (hl : firstS h sz n x = some l) :
    ∃ l' : List Value, VRs ρ h.next l l' ∧ (∀ v, v ∈ l' → v.oneCell' = true) ∧ ∀ w2 : World, w2.heap = w.heap → (Builtin.firstCells sz n x').run P w2 = .ok ⟨l'⟩ w2 := by
  unfold firstS at hl
  split at hl
  · rename_i b off len cap
    split at hl
    · rename_i cs dfl size el hb
      obtain ⟨c, t, fr, hw, hR, _⟩ := hr.row hb
      cases hc : (Nat.ble n len && Nat.ble (off + n * sz) size)
      · rw [hc] at hl; cases hl
      · rw [hc, cond_true] at hl
        simp only [Bool.and_eq_true, ble_eq, decide_eq_true_eq] at hc
        obtain ⟨l', b1, b2, b3, b4⟩ := hR.gets hl hc.2
        refine ⟨l', b2, b3, fun w2 e2 => ?_⟩
        have hload := run_load_row (P := P) (w := w2) (by rw [e2]; exact hw) l' b4
        rw [b1] at hload
        cases hx with
        | slice => simp only [Builtin.firstCells]; exact hload
        | sliceU => simp only [Builtin.firstCells]; exact hload
    · cases hl
  · simp only [Option.some.injEq] at hl
    subst hl
    cases hx
    exact ⟨[], .nil, fun v hv => (by cases hv), fun w2 _ => rfl⟩
  · rename_i s
    simp only [Option.some.injEq, takeL_eq] at hl
    subst hl
    cases hx
    refine ⟨(s.data.toList.take n).map fun b => .int .u8 (Int.ofNat b.toNat), ?_, fun v hv => ?_, fun w2 _ => ?_⟩
    · have : (s.data.toList.take n).map (fun b => SV.val (.int .u8 (Int.ofNat b.toNat))) = ((s.data.toList.take n).map fun b => Value.int .u8 (Int.ofNat b.toNat)).map .val := by simp [Function.comp_def]
      rw [this]; exact VRs.of_vals _
    · obtain ⟨b, _, rfl⟩ := List.mem_map.1 hv; rfl
    · simp only [Builtin.firstCells, Sem.run_pure]
      congr 1
      apply Array.ext'
      simp [ByteArray.data_extract, List.extract_eq_take_drop]
  · cases hl
theorem firstS_len {sz n b off len : Nat} {cap : Option Nat} {l : List SV} (hl : firstS h sz n (.slice b off len cap) = some l) : l.length = n * sz := by
  unfold firstS at hl
  simp only at hl
  split at hl
  · rename_i cs dfl size el hb
    cases hc : (Nat.ble n len && Nat.ble (off + n * sz) size)
    · rw [hc] at hl; cases hl
    · rw [hc, cond_true] at hl
      exact (rowGets_some hl).1
  · cases hl
theorem lenS_ok {P : Program} {N : Nat} {x : SV} {x' : Value} (hx : VR ρ N x x') {n : Nat} (hn : lenS x = some n) : (Builtin.lenOf x').run P w = .ok n w := by
  unfold lenS at hn
  split at hn
  · simp only [Option.some.injEq] at hn; subst hn; cases hx <;> rfl
  · simp only [Option.some.injEq] at hn; subst hn; cases hx; rfl
  · simp only [Option.some.injEq] at hn; subst hn; cases hx; rfl
  · cases hn
theorem int_or (d : TypeDesc) : (d matches .int _) = false ∨ ∃ k, d = .int k := by cases d <;> first | exact .inl rfl | exact .inr ⟨_, rfl⟩
theorem growBy_le (k : Nat) : ∀ (r c : Nat), c ≤ 2 * k + 1000 → Builtin.growBy k r c ≤ 2 * k + 1000 := by
  intro r
  induction r with
  | zero => intro c h; exact h
  | succ r ih =>
    intro c h
    unfold Builtin.growBy
    split
    · exact h
    · exact ih _ (by omega)
theorem nextcap_le {k c : Nat} (h : c < k) : Builtin.nextslicecap k c ≤ 2 * k + 1000 := by
  unfold Builtin.nextslicecap
  split
  · omega
  · split
    · omega
    · exact growBy_le k 4 c (by omega)
variable (ok : EnvOk E)
include ok
/-- What append does where there is no room. -/
theorem append_grow (t ty u : TypeId) {e : TypeId} {i : TypeInfo} {z : Value} {d : TypeDesc} (hu : und E t = some (.slice e)) (hi : E.tt.get e = some i) (hz : i.zero = some z) (hd : und E u = some d) (hd2 : ∀ k, d ≠ .int k) {base : Option Addr} {m c n : Nat} {x' : Value} {old new : List Value}
    (hlen : (Builtin.lenOf x').run E.P w = .ok n w) (hgrow : ¬ m + n ≤ c) (hb1 : m + n ≤ 16777216) (hb2 : i.bytes ≤ 65536)
    (hold : ∀ w' : World, w'.heap = w.heap → (Builtin.firstCells i.size m (.slice base m c)).run E.P w' = .ok ⟨old⟩ w') (hnew : ∀ w' : World, w'.heap = w.heap → (Builtin.firstCells i.size n x').run E.P w' = .ok ⟨new⟩ w') :
    ∃ (k : Nat) (w1 : World), m + n ≤ k ∧ (w1.heap = w.heap ∧ Side w w1) ∧ (Builtin.append_ #[t, u] ty #[.slice base m c, x']).run E.P w = .ok (.slice (some ⟨w.heap.size, 0, none⟩) (m + n) k) (w1.alloc (.cells ⟨old ++ new ++ (Builtin.zeroCells z.cells (k - (m + n))).toList⟩ e)) := by
  have hs : sizeO E e = some i.size := by simp [sizeO, info, hi]
  have hcap := nextcap_le (k := m + n) (c := c) (by omega)
  refine ⟨(Question.appendCap (m + n) c e).cut (w.tape w.drawn (.appendCap (m + n) c e)), { w with drawn := w.drawn + 1 }, by simp [Question.cut], ⟨rfl, rfl, rfl, rfl⟩, ?_⟩
  have hzz := (int_or d).resolve_right (fun ⟨k, hk⟩ => hd2 k hk)
  have e1 : ¬ (Builtin.nextslicecap (m + n) c * i.bytes > 2 ^ 48) := by
    have : Builtin.nextslicecap (m + n) c * i.bytes ≤ (2 * 16777216 + 1000) * 65536 := Nat.mul_le_mul (by omega) hb2
    have e3 : (2 : Nat) ^ 48 = 281474976710656 := by decide
    rw [e3]; omega
  have e2 : ¬ (((m + n : Nat) : Int) > IntKind.i64.max ∧ (False ∨ i.bytes = 0)) := by
    have : IntKind.i64.max = 9223372036854775807 := by decide
    rw [this]; rintro ⟨h, _⟩; omega
  have h1 := hold { w with drawn := w.drawn + 1 } rfl
  have h2 := hnew { w with drawn := w.drawn + 1 } rfl
  simp only [Builtin.append_, List.getElem?_toArray, List.getElem?_cons_zero, List.getElem?_cons_succ, Sem.run_bind, run_und ok hu, run_size ok hs, run_und ok hd, Result.andThen_ok, Sem.run_pure, hzz, Bool.false_eq_true, if_false, hlen, Bool.not_false, if_true]
  rw [if_neg hgrow]
  simp only [Sem.run_bind, run_info ok hi, Result.andThen_ok]
  rw [if_neg e2]
  simp only [Sem.run_bind, Sem.run_pure, run_info ok hi, Result.andThen_ok]
  rw [if_neg e1]
  simp only [Sem.run_bind, Sem.run_pure, Result.andThen_ok, run_choose, Question.forced, Bool.false_eq_true, if_false, run_info ok hi, run_askRoom, h1, h2, run_zero ok hi hz, newRow, run_newObj]
  simp only [World.alloc, Result.ok.injEq, true_and, World.mk.injEq, and_true]
  congr 2
  apply Array.ext'
  simp
/-- What it does where there is room. -/
theorem append_room (t ty u : TypeId) {e : TypeId} {i : TypeInfo} {d : TypeDesc} (hu : und E t = some (.slice e)) (hi : E.tt.get e = some i) (hd : und E u = some d) (hd2 : ∀ k, d ≠ .int k) {base : Option Addr} {m c n : Nat} {x' : Value} {new : List Value}
    (hlen : (Builtin.lenOf x').run E.P w = .ok n w) (hroom : m + n ≤ c) (hnew : (Builtin.firstCells i.size n x').run E.P w = .ok ⟨new⟩ w) {w' : World} (hst : ∀ a, base = some a → (storeCells (a.add (m * i.size)) new).run E.P w = .ok () w') (hno : base = none → w' = w) :
    (Builtin.append_ #[t, u] ty #[.slice base m c, x']).run E.P w = .ok (.slice base (m + n) c) w' := by
  have hs : sizeO E e = some i.size := by simp [sizeO, info, hi]
  have hzz := (int_or d).resolve_right (fun ⟨k, hk⟩ => hd2 k hk)
  simp only [Builtin.append_, List.getElem?_toArray, List.getElem?_cons_zero, List.getElem?_cons_succ, Sem.run_bind, run_und ok hu, run_size ok hs, run_und ok hd, Result.andThen_ok, Sem.run_pure, hzz, Bool.false_eq_true, if_false, hlen, Bool.not_false, if_true]
  rw [if_pos hroom]
  simp only [Sem.run_bind, hnew, Result.andThen_ok]
  cases base with
  | none => rw [hno rfl]; rfl
  | some a => simp only [Sem.run_bind, hst a rfl, Result.andThen_ok, Sem.run_pure]
omit ok in
theorem RowR.move {N : Nat} {cs : Tr SV} {dfl : List SV} {size : Nat} {p : Pl} {c : Array Value} {fr : Nat × Nat} (hr : RowR ρ N cs dfl size p c fr) {off k : Nat} {old new : List Value} {ρ' : Rho} {N' : Nat} {cs' : Tr SV} {dfl' : List SV} (hh : Holds ρ' N' cs' dfl' (old ++ new)) (hold : ∀ (j : Nat) v, old[j]? = some v → c[p.o + off + j]? = some v) (hk : k = old.length + new.length) (hin : off + k ≤ p.n) :
    RowR ρ' N' cs' dfl' k ⟨p.b, p.o + off, p.n - off, p.z⟩ (putAt c (p.o + off + old.length) new) fr := by
  have hsz : p.o + off + old.length + new.length ≤ c.size := by rw [hr.all]; omega
  refine ⟨by rw [size_putAt, hr.all]; simp only; omega, by simp only; omega, fun i hi => by have := hr.thaw (off + i) (by simp only at hi; omega); simpa [Nat.add_assoc] using this, fun i hi => ?_⟩
  obtain ⟨v, v', a1, a2, a3, a4⟩ := hh.cell i (by rw [List.length_append]; omega)
  refine ⟨v, v', a1, ?_, a3, a4⟩
  rw [get_putAt _ _ _ _ hsz]
  by_cases hc : i < old.length
  · rw [if_neg (by simp only; omega)]
    rw [List.getElem?_append_left hc] at a2
    exact hold i v' a2
  · rw [if_pos (by simp only; omega), show p.o + off + i - (p.o + off + old.length) = i - old.length by omega]
    rw [List.getElem?_append_right (by omega)] at a2
    exact a2
/-- A new row behind append. -/
theorem appNew_ok (hr : HR E ρ h w) {e : TypeId} {i : TypeInfo} (hi : E.tt.get e = some i) {z : Value} {cs : Tr SV} {dfl : List SV} {L : List Value} (hh : Holds ρ h.next cs dfl L) {k c : Nat} (hL : L.length = k * i.size) (hkc : k ≤ c) {w1 : World} (hw1s : w1.heap = w.heap ∧ Side w w1) (hzl : (Builtin.zeroCells z.cells (c - k)).size = (c - k) * i.size) :
    ∃ ρ', VR ρ' (h.next + 1) (.slice h.next 0 k none) (.slice (some ⟨w.heap.size, 0, none⟩) k c) ∧ Go E ρ h w ρ' (h.new (.row cs dfl (k * i.size) e)) (w1.alloc (.cells ⟨L ++ (Builtin.zeroCells z.cells (c - k)).toList⟩ e)) := by
  obtain ⟨hw1, hs1⟩ := hw1s
  have hgo := Go.heap E hr hw1
  have hr1 := hr.heap E hw1
  have hlen : L.length + (Builtin.zeroCells z.cells (c - k)).toList.length = c * i.size := by
    rw [hL, Array.length_toList, hzl, ← Nat.add_mul]; congr 1; omega
  refine ⟨ρ.set h.next ⟨w1.heap.size, 0, c * i.size, i.size⟩, ?_, hgo.trans E (Go.new E hr1 _ _ _ _ ?_)⟩
  · have := VR.sliceU (ρ := ρ.set h.next ⟨w1.heap.size, 0, c * i.size, i.size⟩) (N := h.next + 1) h.next 0 k c (Nat.lt_succ_self _) hkc (by rw [Rho.set_self]; simp)
    rw [Rho.set_self] at this
    simpa [hw1] using this
  · have hren := Ren.set ρ h.next ⟨w1.heap.size, 0, c * i.size, i.size⟩
    have := (hh.ren hren).row_new (size := k * i.size) hL.symm w1.heap.size i.size (Builtin.zeroCells z.cells (c - k)).toList
    rw [hlen] at this
    exact .row _ _ _ _ _ _ _ _ this (fun j hj => by rw [hi] at hj; cases hj; rfl)
theorem append_ok (hr : HR E ρ h w) (t ty u : TypeId) {d : TypeDesc} (hd : und E u = some d) (hd2 : ∀ k, d ≠ .int k) {s x : SV} {s' x' : Value} (hs : VR ρ h.next s s') (hx : VR ρ h.next x x') : SF E ρ h w (pb (appendS E h t s x)) (Builtin.append_ #[t, u] ty #[s', x']) := by
  intro l0 e0
  cases hA : appendS E h t s x with
  | none => rw [hA] at e0; cases e0
  | some r =>
    rw [hA] at e0
    simp only [pb, Option.some.injEq] at e0
    subst e0
    obtain ⟨v, h'⟩ := r
    suffices hgoal : ∃ v' w' ρ', (Builtin.append_ #[t, u] ty #[s', x']).run E.P w = .ok v' w' ∧ VR ρ' h'.next v v' ∧ Go E ρ h w ρ' h' w' by
      obtain ⟨v', w', ρ', a, b, c⟩ := hgoal
      exact ⟨v, h', v', w', ρ', .head _, a, b, c⟩
    unfold appendS at hA
    split at hA
    · rename_i e hu
      split at hA
      · cases hA
      · rename_i i hi
        split at hA
        · cases hA
        · rename_i z hz
          split at hA
          · rename_i m n hm hn
            split at hA
            · cases hA
            · rename_i new hnew
              obtain ⟨new', n1, n2, n3⟩ := firstS_ok (P := E.P) hr hx hnew
              have hlen := lenS_ok (P := E.P) (w := w) hx hn
              have hs' : sizeO E e = some i.size := by simp [sizeO, info, hi]
              cases hbl : Nat.beq new.length (n * i.size)
              · rw [hbl] at hA; cases hA
              · rw [hbl, cond_true] at hA
                rw [Tr.beq_of, decide_eq_true_eq, n1.length] at hbl
                cases h0 : Nat.beq n 0
                · rw [h0, cond_false] at hA
                  have hn0 : n ≠ 0 := fun e => by rw [e] at h0; simp at h0
                  cases hb : (Nat.ble (m + n) 16777216 && Nat.ble i.bytes 65536 && Nat.beq (zcells z).length i.size)
                  · rw [hb] at hA; cases hA
                  · rw [hb, cond_true] at hA
                    simp only [Bool.and_eq_true, ble_eq, decide_eq_true_eq, Tr.beq_of] at hb
                    obtain ⟨⟨hb1, hb2⟩, hb3⟩ := hb
                    have hzc : z.cells.size = i.size := by
                      rw [← hb3, (zcells_R (ρ := ρ) (N := h.next) z).length]; simp
                    have hzl : ∀ q, (Builtin.zeroCells z.cells q).size = q * i.size := fun q => by rw [size_zeroCells, hzc]
                    split at hA
                    · rename_i b off len c
                      simp only [slLen, Option.some.injEq] at hm
                      subst hm
                      cases hs with
                      | slice _ _ _ _ hbn hle =>
                        unfold appKnown at hA
                        rw [ble_eq] at hA
                        by_cases hroom : len + n ≤ c
                        · rw [decide_eq_true hroom, cond_true] at hA
                          split at hA
                          · rename_i cs dfl size el hg
                            rw [ble_eq] at hA
                            by_cases hin : off + (len + n) * i.size ≤ size
                            · rw [decide_eq_true hin, cond_true] at hA
                              simp only [Option.some.injEq, Prod.mk.injEq] at hA
                              obtain ⟨rfl, rfl⟩ := hA
                              obtain ⟨ca, tyy, fr, hw, hR, hzz⟩ := hr.row hg
                              have e1 : off + len * i.size + new'.length ≤ size := by rw [hbl]; rw [Nat.add_mul] at hin; omega
                              have e2 : off + len * i.size + new.length ≤ size := by rw [n1.length]; exact e1
                              have hst := run_store_row (P := E.P) (o := (ρ b).o + off + len * i.size) hw new' (by rw [hR.all]; have := hR.le; omega) (fun j hj => by have := hR.thaw (off + len * i.size + j) (by have := hR.le; omega); simpa [Nat.add_assoc] using this) n2
                              obtain ⟨g1, g2, g3⟩ := heap_setCells (t := tyy) (fr := fr) new' ((ρ b).o + off + len * i.size) w ca hw
                              refine ⟨_, _, ρ, append_room ok t ty u hu hi hd hd2 hlen hroom (n3 w rfl) (fun a e => ?_) (fun e => by cases e), .slice b off _ c hbn hroom, Go.set E hr hg _ _ (.row _ _ _ _ _ _ _ _ (by rw [Nat.add_assoc] ; exact hR.puts n1 n2 hR.le e2 (fun i hi hs => by omega)) hzz) g1 g2 g3⟩
                              cases e
                              rw [add_at]
                              exact hst
                            · rw [decide_eq_false hin] at hA; cases hA
                          · cases hA
                        · rw [decide_eq_false hroom, cond_false] at hA
                          split at hA
                          · cases hA
                          · rename_i old hold
                            simp only [Option.some.injEq, appNew, Prod.mk.injEq] at hA
                            obtain ⟨rfl, rfl⟩ := hA
                            obtain ⟨old', o1, o2, o3⟩ := firstS_ok (P := E.P) hr (VR.slice b off len c hbn hle) hold
                            obtain ⟨k, w1, k1, k2, k3⟩ := append_grow ok t ty u hu hi hz hd hd2 hlen hroom hb1 hb2 o3 n3
                            have hol : old'.length = len * i.size := by
                              rw [← o1.length]; exact firstS_len hold
                            obtain ⟨ρ', v1, g1⟩ := appNew_ok ok hr hi (z := z) (Holds.ofList (o1.append n1) (fun v hv => by rcases List.mem_append.1 hv with hv | hv; exact o2 v hv; exact n2 v hv)) (k := len + n) (c := k) (by rw [List.length_append, hol, hbl, Nat.add_mul]) k1 k2 (hzl _)
                            exact ⟨_, _, ρ', k3, v1, g1⟩
                    · rename_i b off len
                      simp only [slLen, Option.some.injEq] at hm
                      subst hm
                      cases hs with
                      | sliceU _ _ _ c hbn hle hrm =>
                        unfold appUnk at hA
                        split at hA
                        · rename_i cs dfl size el hg
                          cases hq : (Nat.beq el e && Nat.ble (off + len * i.size) size)
                          · rw [hq] at hA; cases hA
                          · rw [hq, cond_true] at hA
                            simp only [Bool.and_eq_true, Tr.beq_of, ble_eq, decide_eq_true_eq] at hq
                            obtain ⟨rfl, hin⟩ := hq
                            obtain ⟨ca, tyy, fr, hw, hR, hzz⟩ := hr.row hg
                            have hz1 := hzz i hi
                            have hkn : rowGets cs dfl off (len * i.size) = some ((List.range (len * i.size)).map fun j => (rowGet cs dfl (off + j)).getD .unk) := rowGets_of _ (fun j hj => by
                              obtain ⟨v, v', a0, _⟩ := hR.cell (off + j) (by omega)
                              simp [a0])
                            obtain ⟨old', b1, b2, b3, b4⟩ := hR.gets hkn hin
                            have hfin : ∀ (cs' : Tr SV) (dfl' : List SV), Holds ρ h.next cs' dfl' (old' ++ new') → ∃ v' w' ρ', (Builtin.append_ #[t, u] ty #[.slice (some ⟨(ρ b).b, (ρ b).o + off, none⟩) len c, x']).run E.P w = .ok v' w' ∧ VR ρ' (h.next + 1) (.slice h.next 0 (len + n) none) v' ∧ Go E ρ h w ρ' ((h.new (.row cs' dfl' ((len + n) * i.size) el)).kill b) w' := fun cs' dfl' hH => by
                              by_cases hroom : len + n ≤ c
                              · have hcn : off + (len + n) * i.size ≤ (ρ b).n := by
                                  rw [← hrm, ← hz1]
                                  have : (len + n) * i.size ≤ c * i.size := Nat.mul_le_mul_right _ hroom
                                  omega
                                have hkk : (len + n) * i.size = old'.length + new'.length := by rw [b1, hbl, Nat.add_mul]
                                have hst := run_store_row (P := E.P) (o := (ρ b).o + off + len * i.size) hw new' (by rw [hR.all]; omega) (fun j hj => by have := hR.thaw (off + len * i.size + j) (by omega); simpa [Nat.add_assoc] using this) n2
                                obtain ⟨g1, g2, g3⟩ := heap_setCells (t := tyy) (fr := fr) new' ((ρ b).o + off + len * i.size) w ca hw
                                have hren := Ren.set ρ h.next ⟨(ρ b).b, (ρ b).o + off, (ρ b).n - off, (ρ b).z⟩
                                refine ⟨_, _, _, append_room ok t ty u hu hi hd hd2 hlen hroom (n3 w rfl) (fun a e => ?_) (fun e => by cases e), ?_, Go.move E hr hg _ ⟨(ρ b).b, (ρ b).o + off, (ρ b).n - off, (ρ b).z⟩ rfl _ (.row _ _ _ _ _ _ _ _ (by have := hR.move (hH.ren hren) b4 hkk hcn; rwa [b1] at this) (fun j hj => hzz j hj)) g1 g2 g3⟩
                                · cases e
                                  rw [add_at]
                                  exact hst
                                · have := VR.sliceU (ρ := ρ.set h.next ⟨(ρ b).b, (ρ b).o + off, (ρ b).n - off, (ρ b).z⟩) (N := h.next + 1) h.next 0 (len + n) c (Nat.lt_succ_self _) hroom (by rw [Rho.set_self]; simp only; omega)
                                  rw [Rho.set_self] at this
                                  simpa using this
                              · obtain ⟨k, w1, k1, k2, k3⟩ := append_grow ok t ty u hu hi hz hd hd2 (base := some ⟨(ρ b).b, (ρ b).o + off, none⟩) hlen hroom hb1 hb2 (old := old') (fun w2 e2 => by
                                  have hload := run_load_row (P := E.P) (w := w2) (by rw [e2]; exact hw) old' b4
                                  rw [b1] at hload
                                  exact hload) n3
                                obtain ⟨ρ', v1, g1⟩ := appNew_ok ok hr hi (z := z) hH (k := len + n) (c := k) (by rw [List.length_append, b1, hbl, Nat.add_mul]) k1 k2 (hzl _)
                                exact ⟨_, _, ρ', k3, v1, g1.trans E (Go.kill E g1.hr b)⟩
                            cases hq2 : (Nat.beq off 0 && Nat.beq size (len * i.size))
                            · rw [hq2, cond_false] at hA
                              rw [hkn] at hA
                              simp only [Option.some.injEq, Prod.mk.injEq] at hA
                              obtain ⟨rfl, rfl⟩ := hA
                              exact hfin _ _ (Holds.ofList (b2.append n1) (fun v hv => by rcases List.mem_append.1 hv with hv | hv; exact b3 v hv; exact n2 v hv))
                            · rw [hq2, cond_true] at hA
                              simp only [Bool.and_eq_true, Tr.beq_of, decide_eq_true_eq] at hq2
                              obtain ⟨rfl, rfl⟩ := hq2
                              simp only [Option.some.injEq, Prod.mk.injEq] at hA
                              obtain ⟨rfl, rfl⟩ := hA
                              refine hfin _ _ (Holds.puts ⟨fun j hj => ?_⟩ n1 n2 b1.symm)
                              rw [b1] at hj
                              obtain ⟨v, v', a0, a1, a2, a3⟩ := hR.cell j hj
                              refine ⟨v, v', a0, ?_, a2, a3⟩
                              have hg2 := List.getElem?_eq_getElem (show j < old'.length by omega)
                              have := b4 j _ hg2
                              rw [Nat.add_zero, a1] at this
                              rw [hg2]; exact this.symm
                        · cases hA
                    · rename_i hno1 hno2
                      simp only [Option.some.injEq, appNew, Prod.mk.injEq] at hA
                      obtain ⟨rfl, rfl⟩ := hA
                      unfold slLen at hm
                      split at hm
                      · rename_i b off q cap
                        cases cap with
                        | none => exact absurd rfl (hno2 _ _ _)
                        | some c => exact absurd rfl (hno1 _ _ _ _)
                      · simp only [Option.some.injEq] at hm
                        subst hm
                        cases hs
                        rw [Nat.zero_add] at hb1
                        obtain ⟨k, w1, k1, k2, k3⟩ := append_grow ok t ty u hu hi hz hd hd2 (base := none) (m := 0) (c := 0) hlen (by omega) (by omega) hb2 (old := []) (fun w2 _ => rfl) n3
                        rw [Nat.zero_add] at k1 k3
                        obtain ⟨ρ', v1, g1⟩ := appNew_ok ok hr hi (z := z) (Holds.ofList n1 n2) (k := n) (c := k) hbl k1 k2 (hzl _)
                        exact ⟨_, _, ρ', k3, v1, g1⟩
                      · cases hm
                · rw [h0, cond_true] at hA
                  simp only [Option.some.injEq, Prod.mk.injEq] at hA
                  obtain ⟨rfl, rfl⟩ := hA
                  rw [Tr.beq_of, decide_eq_true_eq] at h0
                  subst h0
                  have hne : new' = [] := List.length_eq_zero_iff.1 (by rw [hbl]; simp)
                  subst hne
                  refine ⟨s', w, ρ, ?_, hs, .refl E hr⟩
                  unfold slLen at hm
                  split at hm
                  · simp only [Option.some.injEq] at hm
                    subst hm
                    cases hs with
                    | slice _ _ _ c _ hle => exact append_room ok t ty u hu hi hd hd2 hlen (by omega) (n3 w rfl) (fun a _ => rfl) (fun e => rfl)
                    | sliceU _ _ _ c _ hle _ => exact append_room ok t ty u hu hi hd hd2 hlen (by omega) (n3 w rfl) (fun a _ => rfl) (fun e => rfl)
                  · simp only [Option.some.injEq] at hm
                    subst hm
                    cases hs
                    exact append_room ok t ty u hu hi hd hd2 hlen (Nat.le_refl _) (n3 w rfl) (fun a _ => rfl) (fun e => rfl)
                  · cases hm
          · cases hA
    · cases hA
end
end Go.Ev

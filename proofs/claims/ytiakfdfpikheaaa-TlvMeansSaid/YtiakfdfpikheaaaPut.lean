/- put: a writer with parts put into it. -/
import Derived.Test.YtiakfdfpikheaaaParts
namespace Go.Proofs.Ytiakfdfpikheaaa
open Go.RowKit
set_option linter.unusedVariables false
set_option linter.unusedSimpArgs false

theorem pt_cells {w w' : World} {A : Option Addr} {l : List Pt} {n k : Nat} (h : RdK kP w n A l) (hb : Below n w w') (hk : k < l.length) :
    ∃ b off, A = some ⟨b, off, none⟩ ∧ b < n ∧ w'.cell? ⟨b, off + k * 5, none⟩ = some (.int .i64 (l.getD k default).kind) ∧ w'.cell? ⟨b, off + k * 5 + 1, none⟩ = some (.int .u8 (l.getD k default).tag) ∧
      w'.cell? ⟨b, off + k * 5 + 2, none⟩ = some (.int .u64 (l.getD k default).n) ∧ w'.cell? ⟨b, off + k * 5 + 3, none⟩ = some (.slice (l.getD k default).A (l.getD k default).b.length (l.getD k default).c) ∧
      w'.cell? ⟨b, off + k * 5 + 4, none⟩ = some (.slice (l.getD k default).LA (l.getD k default).ls.length (l.getD k default).lc) := by
  obtain ⟨b, off, e, hbl, hc⟩ := h (by omega)
  have h2 := hc k hk
  exact ⟨b, off, e, hbl, (hb.cell (p := ⟨b, off + k * 5, none⟩) hbl).trans (h2 0 _ rfl), (hb.cell (p := ⟨b, off + k * 5 + 1, none⟩) hbl).trans (h2 1 _ rfl), (hb.cell (p := ⟨b, off + k * 5 + 2, none⟩) hbl).trans (h2 2 _ rfl), (hb.cell (p := ⟨b, off + k * 5 + 3, none⟩) hbl).trans (h2 3 _ rfl), (hb.cell (p := ⟨b, off + k * 5 + 4, none⟩) hbl).trans (h2 4 _ rfl)⟩

theorem bytesOf_mkS {l : List Int} (h : Byt l) : bytesOf (mkS l) = l := by
  have key : ∀ (l : List Int) (r : ByteArray), Byt l → bytesOf (l.foldl (fun r n => r.push (UInt8.ofNat n.toNat)) r) = bytesOf r ++ l := by
    intro l
    induction l with
    | nil => intro r _; simp
    | cons x t ih =>
      intro r hb
      have hx := hb x (by simp)
      simp only [List.foldl_cons]
      rw [ih _ (fun y hy => hb y (by simp [hy]))]
      simp [bytesOf, ByteArray.push]
      omega
  have := key l ByteArray.empty h
  simpa [mkS, bytesOf] using this
theorem mkS_size (l : List Int) : (mkS l).size = l.length := by
  have key : ∀ (l : List Int) (r : ByteArray), (l.foldl (fun r n => r.push (UInt8.ofNat n.toNat)) r).size = r.size + l.length := by
    intro l
    induction l with
    | nil => intro r; rfl
    | cons x t ih => intro r; simp only [List.foldl_cons, List.length_cons]; rw [ih, ByteArray.size_push]; omega
  have := key l ByteArray.empty
  rw [show ByteArray.empty.size = 0 from rfl, Nat.zero_add] at this
  exact this

/-- A writer's state behind parts. -/
def putL (l : List Pt) : Option (List Int) := l.foldl stepS (some [])
theorem putL_snoc {l : List Pt} {k : Nat} (hk : k < l.length) : putL (l.take (k + 1)) = stepS (putL (l.take k)) (l.getD k default) := by
  unfold putL
  rw [List.take_add_one, List.getElem?_eq_getElem hk, List.foldl_append]
  simp [List.getD_eq_getElem?_getD, List.getElem?_eq_getElem hk]
theorem putL_len {l : List Pt} (hf : ∀ p ∈ l, Few p) : ∀ k, k ≤ l.length → ∀ x, putL (l.take k) = some x → x.length ≤ 30000 * k := by
  intro k
  induction k with
  | zero => intro _ x e; simp [putL] at e; subst e; simp
  | succ k ih =>
    intro hk x e
    rw [putL_snoc (by omega)] at e
    unfold stepS at e
    cases h : putL (l.take k) with
    | none => rw [h] at e; cases e
    | some y =>
      rw [h] at e
      have hy := ih (by omega) y h
      cases h2 : encP (l.getD k default) with
      | none => simp only [Option.bind_some, h2, Option.map_none] at e; cases e
      | some z =>
        simp only [Option.bind_some, h2, Option.map_some] at e
        injection e with e
        subst e
        have := encP_len (hf _ (by rw [List.getD_eq_getElem?_getD, List.getElem?_eq_getElem (show k < l.length by omega)]; exact List.getElem_mem _)) h2
        simp only [List.length_append]
        omega
theorem step_put (s : Option (List Int)) {p : Pt} {xs : List Int} (h : encP p = if p.tag = 0 then none else some (valB p.tag xs)) : stepS s p = putS s p.tag xs := by
  rw [putS_eq]
  unfold stepS
  cases s with
  | none => rfl
  | some l => rw [h]; simp only [Option.bind_some]; split <;> simp

set_option maxHeartbeats 16000000 in
theorem put_any (A : Option Addr) (c : Nat) (l : List Pt) (w : World) (hr : RdK kP w w.heap.size A l) (hok : ∀ p ∈ l, PtOk w w.heap.size p) (hf : ∀ p ∈ l, Few p) (hl : l.length ≤ 30) :
    Calls Try.prog 10 #[.slice A l.length c] w fun e w' => ∃ g m, e = .returned (.pointer (some ⟨g, 0, none⟩)) ∧ WS w' w.heap.size g (putL l) m ∧ w.heap.size ≤ g ∧ Below w.heap.size w w' := by
  have hb1 : Below w.heap.size w (w.alloc (.cells #[.slice none 0 0, .int .i64 0, .int .i64 0] 48)) := (Below.refl _ _).alloc (Nat.le_refl _) _
  have hin : WS (w.alloc (.cells #[.slice none 0 0, .int .i64 0, .int .i64 0] 48)) w.heap.size w.heap.size (some []) 0 := ⟨_, Blk.new w 48 _, World.ownsRow_nil _ _ _ _⟩
  have H := Lib.hid (And.intro hin hb1)
  have HR := Lib.hid hr
  have HOK := Lib.hid hok
  have HF := Lib.hid hf
  clear hr hok hf hb1 hin
  go_enter Try.func10, Try.ntmps10
  go_wp2
  go_loopw [3, 4] (fun s3 i wr => ∃ k m : Nat, s3 = .pointer (some ⟨w.heap.size, 0, none⟩) ∧ i = .int .i64 k ∧ k ≤ l.length ∧ m ≤ k ∧ Hid (WS wr w.heap.size w.heap.size (putL (l.take k)) m) ∧ Hid (Below w.heap.size w wr)) (fun _ i _ => l.length - (intOf i).toNat)
  case atStart => exact ⟨0, 0, rfl, rfl, Nat.zero_le _, Nat.le_refl _, Lib.hid H.out.1, Lib.hid H.out.2⟩
  case round =>
    obtain ⟨k, m, rfl, rfl, hk, hm, HS, HB⟩ := hrel
    by_cases hlt : k < l.length
    · obtain ⟨b, off, rfl, hbl, y0, y1, y2, y3, y4⟩ := pt_cells HR.out HB.out hlt
      have hle := HB.out.size
      have hmem : l.getD k default ∈ l := by rw [List.getD_eq_getElem?_getD, List.getElem?_eq_getElem hlt]; exact List.getElem_mem _
      have hp := (HOK.out _ hmem).below HB.out
      have hfw := HF.out _ hmem
      have HSN := Lib.hid (putL_snoc hlt)
      have HLN := Lib.hid (fun x e => Nat.le_trans (putL_len HF.out k hk x e) (show 30000 * k ≤ 100000000 by omega))
      generalize l.getD k default = p at *
      generalize putL (l.take k) = s at *
      have hba : Below wr.heap.size wr (wr.alloc (.cells p.cells.toArray 31)) := (Below.refl _ _).alloc (Nat.le_refl _) _
      have hws := HS.out.on hba
      have hx := Blk.new wr 31 p.cells.toArray
      have hp1 := hp.below (hba.mono hle)
      have hbz : w.heap.size ≤ (wr.alloc (.cells p.cells.toArray 31)).heap.size := by simp; omega
      have HBA := Lib.hid (HB.out.trans (hba.mono hle))
      have hgw : w.heap.size ≤ w.heap.size := Nat.le_refl _
      have hm1 : m ≤ 1000000 := by omega
      obtain ⟨kind, tag, n, pA, pc, pb, pLA, plc, pls⟩ := p
      simp only [Pt.cells] at *
      have fin : ∀ (w' : World) (m' : Nat) (s' : Option (List Int)), s' = stepS s ⟨kind, tag, n, pA, pc, pb, pLA, plc, pls⟩ → m' ≤ m + 1 → WS w' w.heap.size w.heap.size s' m' → WB w.heap.size (wr.alloc (.cells #[Value.int .i64 kind, .int .u8 tag, .int .u64 n, .slice pA pb.length pc, .slice pLA pls.length plc] 31)) w' →
          ∃ m', m' ≤ k + 1 ∧ Hid (WS w' w.heap.size w.heap.size (putL (l.take (k + 1))) m') ∧ Hid (Below w.heap.size w w') := fun _ _ _ e hmm h1 h2 =>
        ⟨_, Nat.le_trans hmm (by omega), Lib.hid (by rw [HSN.out, ← e]; exact h1), Lib.hid (HBA.out.trans h2.bel)⟩
      have hcnt : ∀ t, cntS s t m ≤ m + 1 := fun t => by unfold cntS; split <;> omega
      have x0 := hx.cell 0
      have x1 := hx.cell 1
      have x2 := hx.cell 2
      have x3 := hx.cell 3
      have x4 := hx.cell 4
      have d := fun i : Int => (show kind ≠ i → (kind == i) = false from fun h => by simpa using h)
      have FIN := Lib.hid fin
      clear fin HSN
      by_cases h1 : kind = 1
      · subst h1
        have C := Lib.hid (bytes_any w.heap.size s m pb tag pA pc w.heap.size _ hws hbz (fun l' e => by subst e; exact src_low hws hp1.b (Nat.le_refl _)) hp1.bc hp1.t.1 hp1.t.2 (by have := hfw.1; simp at this; omega) HLN.out hm1 hgw)
        have E := Lib.hid (step_put s (p := ⟨1, tag, n, pA, pc, pb, pLA, plc, pls⟩) (xs := pb) (by rw [encP_mk]; simp))
        clear hws hx hp1 hp hfw hmem d
        go_wp2_with fail
        refine C.out.mono ?_
        rintro e w2 ⟨rfl, h2, h3⟩
        obtain ⟨m', hm', h4, h5⟩ := FIN.out _ _ _ E.out.symm (hcnt _) h2 h3
        go_wp2_with fail
        go_roundw
        case rel => exact ⟨k + 1, m', rfl, by go_num, by omega, hm', h4, h5⟩
        case measure => simp [intOf]; omega
      have d1 := d 1 h1
      by_cases h2 : kind = 2
      · subst h2
        have hcv := conv_of (wr.alloc (.cells #[Value.int .i64 2, .int .u8 tag, .int .u64 n, .slice pA pb.length pc, .slice pLA pls.length plc] 31)) pA pc w.heap.size pb hp1.b (by cases pA <;> simp)
        have C := Lib.hid (text_any w.heap.size s m tag (mkS pb) w.heap.size _ hws hbz hp1.t.1 hp1.t.2 (by rw [mkS_size]; have := hfw.1; simp at this; omega) HLN.out hm1 hgw)
        have E := Lib.hid (step_put s (p := ⟨2, tag, n, pA, pc, pb, pLA, plc, pls⟩) (xs := bytesOf (mkS pb)) (by rw [encP_mk, bytesOf_mkS hp1.y]; simp))
        clear hws hx hp1 hp hfw hmem d
        go_wp2_with fail
        refine C.out.mono ?_
        rintro e w2 ⟨rfl, h2, h3⟩
        obtain ⟨m', hm', h4, h5⟩ := FIN.out _ _ _ E.out.symm (hcnt _) h2 h3
        go_wp2_with fail
        go_roundw
        case rel => exact ⟨k + 1, m', rfl, by go_num, by omega, hm', h4, h5⟩
        case measure => simp [intOf]; omega
      have d2 := d 2 h2
      by_cases h3 : kind = 3
      · subst h3
        have C := Lib.hid (number_any w.heap.size s m tag n w.heap.size _ hws hbz hp1.t.1 hp1.t.2 hp1.n.1 hp1.n.2 HLN.out hm1 hgw)
        have E := Lib.hid (step_put s (p := ⟨3, tag, n, pA, pc, pb, pLA, plc, pls⟩) (xs := be8 n) (by rw [encP_mk]; simp))
        clear hws hx hp1 hp hfw hmem d
        go_wp2_with fail
        refine C.out.mono ?_
        rintro e w2 ⟨rfl, h2, h3⟩
        obtain ⟨m', hm', h4, h5⟩ := FIN.out _ _ _ E.out.symm (hcnt _) h2 h3
        go_wp2_with fail
        go_roundw
        case rel => exact ⟨k + 1, m', rfl, by go_num, by omega, hm', h4, h5⟩
        case measure => simp [intOf]; omega
      have d3 := d 3 h3
      by_cases h4 : kind = 4
      · subst h4
        have hn0 := hp1.n.1
        have hn1 := hp1.n.2
        simp only at hn0 hn1
        have C := Lib.hid (flag_any w.heap.size s m tag (n % 2 == 1) w.heap.size _ hws hbz hp1.t.1 hp1.t.2 HLN.out hm1 hgw)
        have E := Lib.hid (step_put s (p := ⟨4, tag, n, pA, pc, pb, pLA, plc, pls⟩) (xs := [if (n % 2 == 1) = true then 1 else 0]) (by
          have e : (if (n % 2 == 1) = true then (1 : Int) else 0) = n % 2 := by
            have hm : n % 2 = 1 ∨ n % 2 = 0 := by omega
            rcases hm with h | h <;> simp [h]
          rw [encP_mk, e]; simp))
        clear hws hx hp1 hp hfw hmem d
        go_wp2_with fail
        refine C.out.mono ?_
        rintro e w2 ⟨rfl, h2, h3⟩
        obtain ⟨m', hm', h4, h5⟩ := FIN.out _ _ _ E.out.symm (hcnt _) h2 h3
        go_wp2_with fail
        go_roundw
        case rel => exact ⟨k + 1, m', rfl, by go_num, by omega, hm', h4, h5⟩
        case measure => simp [intOf]; omega
      have d4 := d 4 h4
      by_cases h5 : kind = 5
      · subst h5
        have C := Lib.hid (list_any w.heap.size wr.heap.size w.heap.size s m ⟨5, tag, n, pA, pc, pb, pLA, plc, pls⟩ tag _ hws hbz hx (hp1.l.more hbz) hfw.2.1 (fun k hk => by have := size_le hk; have := hfw.2.2; omega) (fun k => Nat.le_trans (hfw.lb k) (by omega)) hgw hp1.t.1 hp1.t.2 HLN.out hm1)
        have E := Lib.hid (step_put s (p := ⟨5, tag, n, pA, pc, pb, pLA, plc, pls⟩) (xs := lb pls) (by rw [encP_mk]; simp))
        clear hws hx hp1 hp hfw hmem d
        go_wp2_with fail
        refine C.out.mono ?_
        rintro e w2 ⟨rfl, h2, h3⟩
        obtain ⟨m', hm', h4, h5⟩ := FIN.out _ _ _ E.out.symm (hcnt _) h2 h3
        go_wp2_with fail
        go_roundw
        case rel => exact ⟨k + 1, m', rfl, by go_num, by omega, hm', h4, h5⟩
        case measure => simp [intOf]; omega
      have d5 := d 5 h5
      by_cases h6 : kind = 6
      · subst h6
        have C := Lib.hid (list_neg w.heap.size w.heap.size s m (.func 28) #[] tag _ hws hbz hgw)
        have E : Hid (none = stepS s ⟨6, tag, n, pA, pc, pb, pLA, plc, pls⟩) := Lib.hid (by
          unfold stepS
          cases s with
          | none => rfl
          | some y => simp [encP_mk])
        clear hws hx hp1 hp hfw hmem d
        go_wp2_with fail
        refine C.out.mono ?_
        rintro e w2 ⟨rfl, h2, h3⟩
        obtain ⟨m', hm', h4, h5⟩ := FIN.out _ _ _ E.out (by omega) h2 h3
        go_wp2_with fail
        go_roundw
        case rel => exact ⟨k + 1, m', rfl, by go_num, by omega, hm', h4, h5⟩
        case measure => simp [intOf]; omega
      have d6 := d 6 h6
      have E : Hid (s = stepS s ⟨kind, tag, n, pA, pc, pb, pLA, plc, pls⟩) := Lib.hid (by
        have h : kind < 1 ∨ 6 < kind := by omega
        unfold stepS
        cases s with
        | none => rfl
        | some y => simp [encP_mk, h])
      obtain ⟨m', hm', h4, h5⟩ := FIN.out _ _ _ E.out (Nat.le_succ m) hws (WB.refl _ _)
      clear hws hx hp1 hp hfw hmem d
      go_wp2_with fail
      go_roundw
      case rel => exact ⟨k + 1, m', rfl, by go_num, by omega, hm', h4, h5⟩
      case measure => simp [intOf]; omega
    · have : k = l.length := by omega
      subst this
      have hS := HS.out
      rw [List.take_length] at hS
      have HS2 := Lib.hid hS
      clear hS
      go_wp2
      go_ret
      exact ⟨_, m, rfl, HS2.out, Nat.le_refl _, HB.out⟩
end Go.Proofs.Ytiakfdfpikheaaa

/- TlvWrites: the walk. -/
import Derived.Test.YtiakfdfpikheaaaMuch
namespace Go.Proofs.Ytiakfdfpikheaaa
open Go.RowKit
set_option linter.unusedVariables false
set_option linter.unusedSimpArgs false

def wantL (l : List Pt) : List Int := l.flatMap fun p => (encP p).getD []
def goodB (l : List Pt) : Bool := l.all fun p => (encP p).isSome
theorem want_snoc {l : List Pt} {k : Nat} (hk : k < l.length) : wantL (l.take (k + 1)) = wantL (l.take k) ++ (encP (l.getD k default)).getD [] := by
  unfold wantL
  rw [List.take_add_one, List.getElem?_eq_getElem hk, List.flatMap_append, List.getD_eq_getElem?_getD, List.getElem?_eq_getElem hk]
  simp
theorem good_snoc {l : List Pt} {k : Nat} (hk : k < l.length) : goodB (l.take (k + 1)) = (goodB (l.take k) && (encP (l.getD k default)).isSome) := by
  unfold goodB
  rw [List.take_add_one, List.getElem?_eq_getElem hk, List.all_append, List.getD_eq_getElem?_getD, List.getElem?_eq_getElem hk]
  simp
theorem putL_is (l : List Pt) : putL l = if goodB l = true then some (wantL l) else none := by
  have h : ∀ k, k ≤ l.length → putL (l.take k) = if goodB (l.take k) = true then some (wantL (l.take k)) else none := by
    intro k
    induction k with
    | zero => intro _; simp [putL, goodB, wantL]
    | succ k ih =>
      intro hk
      rw [putL_snoc (by omega), ih (by omega), good_snoc (by omega), want_snoc (by omega)]
      unfold stepS
      cases goodB (l.take k) <;> cases encP (l.getD k default) <;> simp
  have := h l.length (Nat.le_refl _)
  rwa [List.take_length] at this
theorem want_len {l : List Pt} (hf : ∀ p ∈ l, Few p) : ∀ k, k ≤ l.length → (wantL (l.take k)).length ≤ 30000 * k := by
  intro k
  induction k with
  | zero => intro _; simp [wantL]
  | succ k ih =>
    intro hk
    have := ih (by omega)
    rw [want_snoc (by omega), List.length_append]
    cases h2 : encP (l.getD k default) with
    | none => simp; omega
    | some z =>
      have := encP_len (hf _ (by rw [List.getD_eq_getElem?_getD, List.getElem?_eq_getElem (show k < l.length by omega)]; exact List.getElem_mem _)) h2
      simp only [Option.getD_some]
      omega

/-- A cell of a row of the call's own: read, written. -/
theorem row_wr {w : World} {base n c : Nat} {A : Option Addr} {l : List Int} (h : Row w base (.slice A n c) l) {k : Nat} (hk : k < l.length) :
    ∃ g, A = some ⟨g, 0, none⟩ ∧ base ≤ g ∧ g < w.heap.size ∧ w.cell? ⟨g, k, none⟩ = some (.int .u8 (l.getD k 0)) ∧ w.frozen? ⟨g, k, none⟩ = false ∧ ∀ x : Int, Row (w.setCell ⟨g, k, none⟩ (.int .u8 x)) base (.slice A n c) (l.set k x) := by
  rcases h.2 with ⟨e, h0⟩ | ⟨g, cap, cur, e, h3, hg, h5, h6, h7, h8⟩
  · omega
  · injection e with e1 e2 e3
    subst e1 e2 e3
    have hn : k < cur.size := by omega
    have hc : cur[k]? = some (.int .u8 (l.getD k 0)) := by
      have h9 : (cur.toList.take (l.length * 1))[k]? = (l.map (Value.int .u8))[k]? := by rw [h8]
      rw [List.getElem?_take_of_lt (by omega)] at h9
      rw [← Array.getElem?_toList, h9]
      simp [List.getElem?_map, List.getElem?_eq_getElem hk, List.getD_eq_getElem?_getD]
    refine ⟨g, rfl, h3, (Array.getElem?_eq_some_iff.1 hg).1, by rw [cell_of_row w g k cur 5 (0, 0) hg]; exact hc, by simp [World.frozen?, hg], fun x => ?_⟩
    refine ⟨by simp, .inr ⟨g, c, cur.setIfInBounds k (.int .u8 x), by simp, h3, ?_, by simpa using h5, h6, by simpa using h7, ?_⟩⟩
    · simp [World.setCell, Array.getElem?_modify, hg]
    · rw [Array.toList_setIfInBounds, List.length_set, List.take_set, h8, List.map_set]

set_option maxHeartbeats 16000000 in
theorem writes_any (A : Option Addr) (c : Nat) (l : List Pt) (w : World) (hr : RdK kP w w.heap.size A l) (hok : ∀ p ∈ l, PtOk w w.heap.size p) (hl0 : l.length ≤ maxLen) (hls : ∀ p ∈ l, p.b.length ≤ maxLen ∧ p.ls.length ≤ maxLen) :
    Calls Try.prog 3 #[.slice A l.length c] w fun e w' => e = .returned (.bool true) ∧ Below w.heap.size w w' := by
  have HM := Lib.hid (much_any A c l w hr hok hl0 hls)
  have HR := Lib.hid hr
  have HOK := Lib.hid hok
  clear hr hok hl0 hls
  go_enter Try.func3, Try.ntmps3
  go_wp2_with fail
  refine HM.out.mono ?_
  rintro e w0 ⟨b, rfl, hw, hbf⟩
  have hw' := hw.symm
  subst hw'
  clear HM hw
  cases b with
  | true =>
    go_wp2_with fail
    refine (known_any _).mono ?_
    rintro e w3 ⟨rfl, hb3⟩
    go_wp2_with fail
    go_ret
    exact ⟨rfl, hb3⟩
  | false =>
  obtain ⟨hl, hf⟩ := hbf rfl
  have HF := Lib.hid hf
  clear hf hbf
  go_wp2_with fail
  go_loopw [3, 4, 5] (fun s3 s4 i wr => ∃ k : Nat, i = .int .i64 k ∧ k ≤ l.length ∧ s4 = .bool (goodB (l.take k)) ∧ Hid (Row wr w.heap.size s3 (wantL (l.take k))) ∧ Hid (Below w.heap.size w wr)) (fun _ _ i _ => l.length - (intOf i).toNat)
  case atStart => exact ⟨0, rfl, Nat.zero_le _, rfl, Lib.hid (World.ownsRow_nil _ _ _ _), Lib.hid (Below.refl _ _)⟩
  case round =>
    obtain ⟨k, rfl, hk, rfl, HS, HB⟩ := hrel
    have hle := HB.out.size
    by_cases hlt : k < l.length
    · obtain ⟨b, off, rfl, hbl, y0, y1, y2, y3, y4⟩ := pt_cells HR.out HB.out hlt
      have hmem : l.getD k default ∈ l := by rw [List.getD_eq_getElem?_getD, List.getElem?_eq_getElem hlt]; exact List.getElem_mem _
      have HC := Lib.hid (bytes_part (l.getD k default) wr (((HOK.out _ hmem).below HB.out).more hle) (HF.out _ hmem))
      have HWS := Lib.hid (want_snoc hlt)
      have HGS := Lib.hid (good_snoc hlt)
      have hln1 := want_len HF.out k hk
      have hln2 := want_len HF.out (k + 1) hlt
      rw [HWS.out, List.length_append] at hln2
      clear hmem
      generalize l.getD k default = p at *
      have HLN : Hid ((wantL (l.take k)).length + ((encP p).getD []).length ≤ 1000000000) := Lib.hid (by omega)
      clear hln1 hln2
      obtain ⟨kind, tag, n, pA, pc, pb, pLA, plc, pls⟩ := p
      simp only [Pt.cells] at HC
      simp only at y0 y1 y2 y3 y4
      generalize encP ⟨kind, tag, n, pA, pc, pb, pLA, plc, pls⟩ = ep at *
      generalize goodB (l.take k) = gb at *
      cases gb <;>
      · go_wp2_with (first
          | (go_at_call 9; refine HC.out.mono ?_; clear HC; rintro e w3 ⟨v3, rfl, hr3, hb3⟩; obtain ⟨A3, c3, n3, hn3, rfl, hA3, hd3⟩ := (row_k.2 hr3).rdn; have hn3' := hn3.out; subst hn3'; have HR3 := Lib.hid (row_k.2 (HS.out.below hb3)); have HB3 := Lib.hid hb3; have hs3 := hb3.size)
          | (at_builtin; refine wpList_appK kB rfl _ _ rfl (ep.getD []) rfl HR3.out rfl hd3 hA3 HLN.out (by omega) ?_; intro v4 w4 hrow4 hg4))
        go_roundw
        case rel => exact ⟨k + 1, by go_num, by omega, by rw [HGS.out]; simp, Lib.hid (by rw [HWS.out]; exact row_k.1 hrow4), Lib.hid ((HB.out.trans (HB3.out.mono hle)).trans (row_below HR3.out hg4 (by omega)))⟩
        case measure => simp [intOf]; omega
    · have : k = l.length := by omega
      subst this
      have hS := HS.out
      rw [List.take_length] at hS ⊢
      have hP := Lib.hid (put_any A c l wr ((HR.out.below HB.out).more hle) (fun p hp => ((HOK.out p hp).below HB.out).more hle) HF.out hl)
      have hlen := want_len HF.out l.length (Nat.le_refl _)
      rw [List.take_length] at hlen
      rw [putL_is] at hP
      have HS2 := Lib.hid hS
      clear hS HS HR HOK HF
      generalize wantL l = want at *
      cases hgood : goodB l with
      | false =>
        rw [hgood] at hP
        simp only [Bool.false_eq_true, if_false] at hP
        clear hgood
        go_wp2_with fail
        refine hP.out.mono ?_
        clear hP
        rintro e w2 ⟨g, m, rfl, hws, hg, hb2⟩
        have HB2 := Lib.hid (HB.out.trans (hb2.mono hle))
        have HE := Lib.hid (end_fail g _ m _ hws)
        clear hws hb2
        go_wp2_with fail
        refine HE.out.mono ?_
        rintro e w3 ⟨rfl, hb3⟩
        have HB3 := Lib.hid (HB2.out.trans (hb3.mono HB2.out.size))
        clear hb3
        go_wp2_with (first
          | (go_at_call 12; refine (num_any _ _).mono ?_; rintro e w' ⟨rfl, rfl⟩)
          | (go_at_call 8; refine (known_any _).mono ?_; rintro e w4 ⟨rfl, hb4⟩))
        go_ret
        exact ⟨rfl, HB3.out.trans (hb4.mono HB3.out.size)⟩
      | true =>
        rw [hgood] at hP
        simp only [if_true] at hP
        clear hgood
        go_wp2_with fail
        refine hP.out.mono ?_
        clear hP
        rintro e w2 ⟨g, m, rfl, ⟨v, hblk, hrow⟩, hg, hb2⟩
        have HB2 := Lib.hid (HB.out.trans (hb2.mono hle))
        have HW2 := Lib.hid (HS2.out.below hb2)
        have hwl : want.length ≤ 1000000 := by omega
        have HE := Lib.hid (end_ok g v m want wr.heap.size w2 hblk hrow (by omega))
        have HG := Lib.hid (And.intro hblk hrow)
        clear hblk hrow hb2 HB HS2
        go_wp2_with fail
        refine HE.out.mono ?_
        clear HE
        rintro e w3 ⟨v3, rfl, hrow3, hb3⟩
        have hs3 := hb3.size
        have H23 := Lib.hid hb3
        obtain ⟨A3, c3, n3, hn3, rfl, hA3, hd3⟩ := (row_k.2 hrow3).rdn
        have HA3 : Hid (∀ gb : Nat, A3 = some ⟨gb, 0, none⟩ → gb < w3.heap.size) := Lib.hid fun gb e => (World.ownsRow.lt hrow3 gb (by rw [e]; rfl)).2
        have HR3 := Lib.hid hrow3
        have hn3' := hn3.out
        subst hn3'
        clear hb3 hrow3
        go_wp2_with (at_builtin; refine wpList_appK kB (v := .slice none 0 0) rfl _ _ rfl want rfl (nil_row kB _ w3.heap.size) rfl hd3 hA3 (by simp; omega) (Nat.le_refl _) ?_; intro v4 w4 hrow4 hg4; have hb4 := grown_none (B := w3.heap.size) hg4 (Nat.le_refl _); rw [List.nil_append] at hrow4; obtain ⟨A4, c4, n4, hn4, rfl, hA4, hd4⟩ := hrow4.rdn)
        have hn4' := hn4.out
        subst hn4'
        have HR4 := Lib.hid (HR3.out.below hb4)
        have HO4 := Lib.hid (row_k.1 hrow4)
        have H24 := Lib.hid (H23.out.trans (hb4.mono hs3))
        have hs4 := hb4.size
        clear hd3 hd4 hrow4 hg4 hb4 H23 HR3
        go_loopw [12] (fun i wx => ∃ (k : Nat) (l' : List Int), i = .int .i64 k ∧ k ≤ want.length ∧ l'.length = want.length ∧ Hid (Row wx w2.heap.size (.slice A3 want.length c3) l') ∧ Hid (Row wx w3.heap.size (.slice A4 want.length c4) want) ∧ Hid (Below w2.heap.size w4 wx)) (fun i _ => want.length - (intOf i).toNat)
        case atStart => exact ⟨0, want, rfl, Nat.zero_le _, rfl, HR4, HO4, Lib.hid (Below.refl _ _)⟩
        case round =>
          obtain ⟨k, l', rfl, hkw, hl', HRx, HOx, HBx⟩ := hrel
          have hsx := HBx.out.size
          by_cases hkt : k < want.length
          · obtain ⟨gb, rfl, hgb, hgl, cb, fb, hset⟩ := row_wr HRx.out (show k < l'.length by omega)
            have hg3 := HA3.out gb rfl
            have hne : (Value.slice A4 want.length c4).ownBlock ≠ some gb := fun e => by have := (World.ownsRow.lt HOx.out gb e).1; omega
            have HST := Lib.hid (fun x : Int => And.intro (hset x) (And.intro (Row.set_ (i := k) HOx.out hne (.int .u8 x)) (HBx.out.setCell (p := ⟨gb, k, none⟩) hgb (.int .u8 x))))
            clear hset hne
            go_wp2
            go_roundw
            case rel => exact ⟨k + 1, _, by go_num, by omega, by rw [List.length_set]; exact hl', Lib.hid (HST.out _).1, Lib.hid (HST.out _).2.1, Lib.hid (HST.out _).2.2⟩
            case measure => simp [intOf]; omega
          · have : k = want.length := by omega
            subst this
            have h2x := H24.out.trans HBx.out
            have HE := Lib.hid (end_ok g v m want _ wr (HG.out.1.on h2x) (HG.out.2.below h2x) (by omega))
            clear HR4 HO4 HRx
            go_wp2_with fail
            refine HE.out.mono ?_
            clear HE
            rintro e w5 ⟨v5, rfl, hrow5, hb5⟩
            have cO := conv_row (HOx.out.below hb5)
            have cW := conv_row ((HW2.out.below h2x).below hb5)
            have c5 := conv_row hrow5
            have HB5 := Lib.hid ((HB2.out.trans (h2x.mono HB2.out.size)).trans (hb5.mono (HB2.out.trans (h2x.mono HB2.out.size)).size))
            clear hrow5 hb5 h2x HOx HBx HW2 HG H24
            go_wp2_with (first
              | (go_at_call 12; refine (num_any _ _).mono ?_; rintro e w' ⟨rfl, rfl⟩)
              | (go_at_call 8; refine (known_any _).mono ?_; rintro e w6 ⟨rfl, hb6⟩))
            go_ret
            exact ⟨rfl, HB5.out.trans (hb6.mono HB5.out.size)⟩
end Go.Proofs.Ytiakfdfpikheaaa

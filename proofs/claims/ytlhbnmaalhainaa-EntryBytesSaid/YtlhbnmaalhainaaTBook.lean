/- ref.All: its contract. -/
import Derived.Test.YtlhbnmaalhainaaTIterP
namespace Go.Proofs.Ytlhbnmaalhainaa.Tlv
open Go.RowKit
set_option maxRecDepth 100000
set_option linter.unusedVariables false
set_option linter.unusedSimpArgs false

theorem info55 : ∃ (i : TypeInfo) (z : Value), Try.prog.info? 117 = some i ∧ i.zero = some z ∧ i.size = 2 ∧ i.bytes = 32 ∧ z.cells.size = 2 := by
  have h : (Try.prog.info? 117).map (fun i => (i.zero, i.size, i.bytes)) = some (some (.agg #[.int .u8 0, .slice none 0 0]), 2, 32) := by kernel_rfl
  obtain ⟨i, hi, h0, h1, h2⟩ := info_parts h
  exact ⟨i, _, hi, h0, h1, h2, rfl⟩
def Hand.cells (h : Hand) : List Value := [.int .u8 h.t, .slice h.A h.bs.length h.c]
def kI : Kind Hand where
  e := 117
  st := 113
  size := 2
  bytes := 32
  cs := Hand.cells
  len := fun _ => rfl
  one := fun x u hu => by simp [Hand.cells] at hu; rcases hu with rfl | rfl <;> rfl
  pos := by decide
  sl := Try.underlying113
  zero := info55
  small := by decide

/-- Up to where values stand. -/
def endP (l : List Int) : Nat := if h : stands l = true then 5 + nv l + endP (l.drop (5 + nv l)) else 0
termination_by l.length
decreasing_by
  have h1 := of_decide_eq_true h
  simp only [List.length_drop]
  omega
theorem endP_no {l : List Int} (h : stands l = false) : endP l = 0 := by rw [endP]; simp [h]
theorem endP_yes {l : List Int} (h : stands l = true) : endP l = 5 + nv l + endP (l.drop (5 + nv l)) := by rw [endP]; simp [h]
/-- What is handed reads well, below B. -/
def Good (w : World) (B : Nat) (hs : List Hand) : Prop := ∀ x ∈ hs, Rd w B x.A x.bs
theorem Good.below {w w' : World} {B : Nat} {hs : List Hand} (h : Good w B hs) (hb : Below B w w') : Good w' B hs := fun x hx => (h x hx).below hb

set_option maxHeartbeats 4000000 in
theorem book_some (b off c : Nat) (l : List Int) (w : World) (hr : Rd w w.heap.size (some ⟨b, off, none⟩) l) (hby : Byt l) (hlen : l.length ≤ 1000000) (hc : l.length ≤ c) (hcm : c ≤ 9223372036854775807) (hb : b < w.heap.size) :
    Calls Try.prog 89 #[.slice (some ⟨b, off, none⟩) l.length c] w fun e w' => ∃ (v : Value) (hs : List Hand) (k : Nat), e = .returned (.tuple #[v, .int .i64 k]) ∧ k = endP l ∧ hs.map Hand.it = items l ∧ RowK kI w' w.heap.size v hs ∧ Good w' w.heap.size hs ∧ Below w.heap.size w w' := by
  go_enter Try.func89, Try.ntmps89
  have HR := Lib.hid hr
  clear hr
  go_wp2
  go_loopw [4, 5] (fun i j wr => ∃ (k : Nat) (hs : List Hand), j = .int .i64 k ∧ k ≤ l.length ∧ hs.length ≤ k ∧ RowK kI wr w.heap.size i hs ∧ (items l = hs.map Hand.it ++ items (l.drop k) ∧ endP l = k + endP (l.drop k)) ∧ Good wr w.heap.size hs ∧ Below w.heap.size w wr)
    (fun _ j _ => l.length - (intOf j).toNat)
  case atStart => exact ⟨0, [], rfl, Nat.zero_le _, Nat.le_refl _, nil_row _ _ _, ⟨by simp, by simp⟩, fun x hx => by simp at hx, Below.refl _ _⟩
  case round =>
    obtain ⟨k, hs, rfl, hk, hhs, hrow, hit, hgood, hb⟩ := hrel
    have hbw := hb.size
    have hlr : (l.drop k).length = l.length - k := List.length_drop ..
    rcases Nat.lt_or_ge k c with hkc | hkc
    · have hrd : Rd wr w.heap.size (some ⟨b, off + k, none⟩) (l.drop k) := by
        have := (HR.out.below hb).part k (l.length - k) (A' := some ⟨b, off + k, none⟩) (by omega) (fun _ => rfl)
        rwa [List.take_of_length_le (by omega)] at this
      have HF := first_any (some ⟨b, off + k, none⟩) (c - k) w.heap.size (l.drop k) wr hrd (hby.drop k) (by omega) (by omega) (by omega)
      rw [hlr] at HF
      have HF := Lib.hid HF
      clear hrd
      go_wp2_with fail
      refine HF.out.mono ?_
      clear HF
      rintro e w1 ⟨⟨m, rfl⟩, (⟨hst, rfl⟩ | ⟨hst, A1, c1, rfl, hr1, hA1, hc1, hc2⟩)⟩
      · have HL := Lib.hid (items_no hst)
        have HE := Lib.hid (endP_no hst)
        have HI := Lib.hid hit
        clear hst hit hlr
        go_wp2_with fail
        go_ret2
        exact ⟨_, hs, k, rfl, by rw [HI.out.2, HE.out, Nat.add_zero], by rw [HI.out.1, HL.out, List.append_nil], hrow.drewN m, hgood.below (below_drewN (Below.refl _ _) m), below_drewN hb m⟩
      · obtain ⟨p1, p2, p3, p4⟩ := stands_parts hst
        have hlen' : (((l.drop k).drop 5).take (nv (l.drop k))).length = nv (l.drop k) := by rw [List.length_take, List.length_drop]; omega
        have HEE : Hid (endP l = k + (5 + nv (l.drop k)) + endP (l.drop (k + (5 + nv (l.drop k))))) := Lib.hid (hit.2.trans (by rw [endP_yes hst, List.drop_drop, ← Nat.add_assoc]))
        have HX := Lib.hid (step_items hit.1 hst ⟨(l.drop k).getD 0 0, A1, c1, ((l.drop k).drop 5).take (nv (l.drop k))⟩ rfl rfl).1
        rw [hlr] at p1 p4
        clear hit hst p2
        generalize (l.drop k).getD 0 0 = t at *
        generalize ((l.drop k).drop 5).take (nv (l.drop k)) = bs at *
        generalize nv (l.drop k) = nb at *
        clear hlr
        rw [List.drop_drop] at HX
        subst hlen'
        have hbz : w.heap.size ≤ (wr.drewN m).heap.size := hbw
        have hrow1 := hrow.drewN m
        have hb1 : Below w.heap.size w (wr.drewN m) := below_drewN hb m
        have hg1 : Good (wr.drewN m) w.heap.size hs := hgood.below (below_drewN (Below.refl _ _) m)
        have hgx : Good (wr.drewN m) w.heap.size [⟨t, A1, c1, bs⟩] := fun x hx => by
          obtain rfl := List.mem_singleton.1 hx
          exact hr1.drewN m
        have hlen1 : hs.length + 1 ≤ 1000000000 := by omega
        have H := Lib.hid (And.intro hrow1 (And.intro hb1 (And.intro hg1 hgx)))
        clear hrow1 hb1 hg1 hgx hr1 hgood hb hrow
        generalize wr.drewN m = w1 at *
        have hz : ¬ (5 + (bs.length : Int) = 0) := by omega
        go_wp2_with (at_builtin; refine wpList_appK kI rfl _ _ rfl [⟨t, A1, c1, bs⟩] rfl (H.out.1.alloc _) rfl (rd_block (K := kI) (l := [⟨t, A1, c1, bs⟩]) (Blk.new _ _ _) rfl) (fun e => by cases e) hlen1 (le_alloc hbz) ?_; intro v8 w8 hrow8 hgr8; have Hrow8 := Lib.hid (And.intro hrow8 hgr8); clear hrow8 hgr8)
        go_roundw
        case rel =>
          have hgr := Hrow8.out.2
          have hb8 : Below w.heap.size w1 w8 := ((Below.refl _ _).alloc hbz _).grown hgr (le_alloc hbz) (fun kk hk => (World.ownsRow.lt H.out.1 kk hk).1)
          refine ⟨k + (5 + bs.length), hs ++ [⟨t, A1, c1, bs⟩], by go_num, by omega, by simp; omega, Hrow8.out.1, ⟨HX.out, HEE.out⟩, ?_, H.out.2.1.trans hb8⟩
          intro x hx
          rcases List.mem_append.1 hx with h | h
          · exact (H.out.2.2.1 x h).below hb8
          · exact (H.out.2.2.2 x h).below hb8
        case measure => simp [intOf]; omega
    · have hkl : k = l.length := by omega
      have HF := (fst_short (some ⟨b, off, none⟩) 0 [] wr (by simp))
      have hc0 : c = l.length := by omega
      subst hkl
      subst hc0
      have HI2 : Hid (l.length = endP l) := Lib.hid (by rw [hit.2, List.drop_length, endP_no (l := []) rfl]; rfl)
      have HI : Hid (items l = hs.map Hand.it) := Lib.hid (by rw [hit.1, List.drop_length, items_no (l := []) rfl, List.append_nil])
      have HF := Lib.hid HF
      clear hit hlr
      go_wp2_with fail
      refine Calls.mono (HF.out) ?_
      rintro e w1 ⟨rfl, m, rfl⟩
      go_wp2_with fail
      go_ret2
      exact ⟨_, hs, l.length, rfl, HI2.out, HI.out.symm, hrow.drewN m, hgood.below (below_drewN (Below.refl _ _) m), below_drewN hb m⟩

set_option maxHeartbeats 4000000 in
theorem book_none (w : World) :
    Calls Try.prog 89 #[.slice none 0 0] w fun e w' => ∃ (v : Value) (hs : List Hand) (k : Nat), e = .returned (.tuple #[v, .int .i64 k]) ∧ k = endP [] ∧ hs.map Hand.it = items [] ∧ RowK kI w' w.heap.size v hs ∧ Good w' w.heap.size hs ∧ Below w.heap.size w w' := by
  go_enter Try.func89, Try.ntmps89
  go_wp2
  go_loopw [4, 5] (fun i j wr => i = .slice none 0 0 ∧ j = .int .i64 0 ∧ wr = w) (fun _ _ _ => 0)
  case atStart => exact ⟨rfl, rfl, rfl⟩
  case round =>
    obtain ⟨rfl, rfl, rfl⟩ := hrel
    have HF := Lib.hid (fst_short none 0 [] wr (by simp))
    go_wp2_with fail
    refine Calls.mono (HF.out) ?_
    rintro e w1 ⟨rfl, m, rfl⟩
    go_wp2_with fail
    go_ret2
    exact ⟨_, [], 0, rfl, by rw [endP_no (l := []) rfl], by rw [items_no (l := []) rfl]; rfl, nil_row _ _ _, fun x hx => by simp at hx, below_drewN (Below.refl _ _) m⟩

/-- THE CONTRACT of ref.All. -/
theorem book_any (A : Option Addr) (c : Nat) (l : List Int) (w : World) (hr : Rd w w.heap.size A l) (hA : A = none → c = 0) (hA2 : ∀ a, A = some a → ∃ b off, a = ⟨b, off, none⟩ ∧ b < w.heap.size) (hby : Byt l) (hlen : l.length ≤ 1000000) (hc : l.length ≤ c) (hcm : c ≤ 9223372036854775807) :
    Calls Try.prog 89 #[.slice A l.length c] w fun e w' => ∃ (v : Value) (hs : List Hand) (k : Nat), e = .returned (.tuple #[v, .int .i64 k]) ∧ k = endP l ∧ hs.map Hand.it = items l ∧ RowK kI w' w.heap.size v hs ∧ Good w' w.heap.size hs ∧ Below w.heap.size w w' := by
  cases A with
  | none =>
    have h0 := hA rfl
    subst h0
    obtain rfl : l = [] := List.eq_nil_of_length_eq_zero (by omega)
    exact book_none w
  | some a =>
    obtain ⟨b, off, rfl, hb⟩ := hA2 a rfl
    exact book_some b off c l w hr hby hlen hc hcm hb
end Go.Proofs.Ytlhbnmaalhainaa.Tlv

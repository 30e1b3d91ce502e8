/- back: is a part taken as it was put? -/
import Derived.Test.YtiakfdfpikheaaaReadL
namespace Go.Proofs.Ytiakfdfpikheaaa
open Go.RowKit
set_option linter.unusedVariables false
set_option linter.unusedSimpArgs false

/-- What back tells. -/
def BackR (f : Bool) (r x : List Int) (b f' : Bool) (r' : List Int) : Prop :=
  (b = true → f' = false → f = false ∧ r = x ++ r') ∧ (∀ r1, f = false → r = x ++ r1 → b = true ∧ f' = false ∧ r' = r1)
def tagV (f : Bool) (r : List Int) : Int := if f = true then 0 else if stands r = true then r.getD 0 0 else 0
theorem tag_is (D g : Nat) (f : Bool) (r : List Int) (w : World) (hs : RS w D g f r) :
    Calls Try.prog 31 #[.pointer (some ⟨g, 0, none⟩)] w fun e w' => e = .returned (.int .u8 (tagV f r)) ∧ RS w' D g f r ∧ w.grownBy w' (some g) :=
  (tag_any D g f r w hs).mono fun e w' ⟨⟨t, e1, h⟩, m, e2⟩ => by
    subst e2
    refine ⟨?_, hs.on (below_drewN (Below.refl _ _) m), grownBy_of (below_drewN (Below.refl _ _) m)⟩
    rw [e1]
    rcases h with ⟨rfl, h | h⟩ | ⟨_, h1, h2, rfl⟩ <;> simp [tagV, *]

theorem backR_take {f : Bool} {r xs : List Int} {tag : Int} (hb : Byt r) (ht : tag ≠ 0) (hx : xs.length ≤ 4194304) {f' : Bool} {r' : List Int} {b : Bool}
    (h1 : b = true → f' = false → tk f r tag = (some xs, (false, r'))) (h2 : ∀ r1, tk f r tag = (some xs, (false, r1)) → b = true ∧ f' = false ∧ r' = r1) : BackR f r (valB tag xs) b f' r' :=
  ⟨fun e1 e2 => by
    obtain ⟨a1, _, _, a4, _⟩ := tk_some hb (h1 e1 e2)
    exact ⟨a1, a4⟩, fun r1 e1 e2 => h2 r1 (by rw [e1, e2]; exact tk_put ht hx)⟩

theorem tk_byt {f : Bool} {r v : List Int} {tag : Int} {q : Bool × List Int} (hb : Byt r) (h : tk f r tag = (some v, q)) : Byt v := by
  obtain ⟨q1, q2⟩ := q
  obtain ⟨_, _, _, h4, _⟩ := tk_some hb h
  exact fun x hx => hb x (by rw [h4]; simp [valB, hx])
theorem text_backR {f : Bool} {r b : List Int} {tag : Int} (hb : Byt r) (hbb : Byt b) (ht : tag ≠ 0) (hx : b.length ≤ 4194304) :
    BackR f r (valB tag b) ((mkS (((tk f r tag).1).getD [])).toList == (mkS b).toList) (tk f r tag).2.1 (tk f r tag).2.2 := by
  refine backR_take hb ht hx (fun h1 h2 => ?_) (fun r1 h => ?_)
  · cases htk : tk f r tag with
    | mk o q =>
      obtain ⟨q1, q2⟩ := q
      rw [htk] at h1 h2
      cases o with
      | none => have := (tk_none htk).1; simp only at h2; rw [this] at h2; cases h2
      | some v =>
        have e := toList_inj (beq_iff_eq.1 h1)
        simp only [Option.getD_some] at e
        have e2 := congrArg bytesOf e
        rw [bytesOf_mkS (tk_byt hb htk), bytesOf_mkS hbb] at e2
        simp only at h2
        rw [e2, h2]
  · rw [h]
    simp
theorem q1 (N M R : Int) (h : N = 256 * M + R) (h0 : 0 ≤ R) (h1 : R < 256) : N / 256 = M := by omega
theorem q2 (N M R : Int) (h : N = 65536 * M + R) (h0 : 0 ≤ R) (h1 : R < 65536) : N / 65536 = M := by omega
theorem q3 (N M R : Int) (h : N = 16777216 * M + R) (h0 : 0 ≤ R) (h1 : R < 16777216) : N / 16777216 = M := by omega
theorem q4 (N M R : Int) (h : N = 4294967296 * M + R) (h0 : 0 ≤ R) (h1 : R < 4294967296) : N / 4294967296 = M := by omega
theorem q5 (N M R : Int) (h : N = 1099511627776 * M + R) (h0 : 0 ≤ R) (h1 : R < 1099511627776) : N / 1099511627776 = M := by omega
theorem q6 (N M R : Int) (h : N = 281474976710656 * M + R) (h0 : 0 ≤ R) (h1 : R < 281474976710656) : N / 281474976710656 = M := by omega
theorem q7 (N M R : Int) (h : N = 72057594037927936 * M + R) (h0 : 0 ≤ R) (h1 : R < 72057594037927936) : N / 72057594037927936 = M := by omega
theorem qm (M x : Int) (h0 : 0 ≤ x) (h1 : x ≤ 255) : (256 * M + x) % 256 = x := by omega
theorem be8_numOf {v : List Int} (hb : Byt v) (h : v.length = 8) : be8 (numOf v) = v := by
  match v, h with
  | [a, b, c, d, e, f, g, i], _ =>
    obtain ⟨la, ua⟩ := hb a (by simp)
    obtain ⟨lb, ub⟩ := hb b (by simp)
    obtain ⟨lc, uc⟩ := hb c (by simp)
    obtain ⟨ld, ud⟩ := hb d (by simp)
    obtain ⟨le, ue⟩ := hb e (by simp)
    obtain ⟨lf, uf⟩ := hb f (by simp)
    obtain ⟨lg, ug⟩ := hb g (by simp)
    obtain ⟨li, ui⟩ := hb i (by simp)
    clear hb
    simp only [numOf, be8, List.foldl_cons, List.foldl_nil]
    have e1 := q7 (256 * (256 * (256 * (256 * (256 * (256 * (256 * (256 * 0 + a) + b) + c) + d) + e) + f) + g) + i) a (281474976710656 * b + 1099511627776 * c + 4294967296 * d + 16777216 * e + 65536 * f + 256 * g + i) (by omega) (by omega) (by omega)
    have e2 := q6 (256 * (256 * (256 * (256 * (256 * (256 * (256 * (256 * 0 + a) + b) + c) + d) + e) + f) + g) + i) (256 * a + b) (1099511627776 * c + 4294967296 * d + 16777216 * e + 65536 * f + 256 * g + i) (by omega) (by omega) (by omega)
    have e3 := q5 (256 * (256 * (256 * (256 * (256 * (256 * (256 * (256 * 0 + a) + b) + c) + d) + e) + f) + g) + i) (256 * (256 * a + b) + c) (4294967296 * d + 16777216 * e + 65536 * f + 256 * g + i) (by omega) (by omega) (by omega)
    have e4 := q4 (256 * (256 * (256 * (256 * (256 * (256 * (256 * (256 * 0 + a) + b) + c) + d) + e) + f) + g) + i) (256 * (256 * (256 * a + b) + c) + d) (16777216 * e + 65536 * f + 256 * g + i) (by omega) (by omega) (by omega)
    have e5 := q3 (256 * (256 * (256 * (256 * (256 * (256 * (256 * (256 * 0 + a) + b) + c) + d) + e) + f) + g) + i) (256 * (256 * (256 * (256 * a + b) + c) + d) + e) (65536 * f + 256 * g + i) (by omega) (by omega) (by omega)
    have e6 := q2 (256 * (256 * (256 * (256 * (256 * (256 * (256 * (256 * 0 + a) + b) + c) + d) + e) + f) + g) + i) (256 * (256 * (256 * (256 * (256 * a + b) + c) + d) + e) + f) (256 * g + i) (by omega) (by omega) (by omega)
    have e7 := q1 (256 * (256 * (256 * (256 * (256 * (256 * (256 * (256 * 0 + a) + b) + c) + d) + e) + f) + g) + i) (256 * (256 * (256 * (256 * (256 * (256 * a + b) + c) + d) + e) + f) + g) i (by omega) (by omega) (by omega)
    rw [e1, e2, e3, e4, e5, e6, e7, qm _ b lb ub, qm _ c lc uc, qm _ d ld ud, qm _ e le ue, qm _ f lf uf, qm _ g lg ug, qm _ i li ui]
theorem number_backR {f f' : Bool} {r r' : List Int} {tag n m : Int} (hb : Byt r) (ht : tag ≠ 0) (hn : 0 ≤ n) (hn2 : n < 18446744073709551616)
    (h : (∃ v, (tk f r tag).1 = some v ∧ v.length = 8 ∧ m = numOf v ∧ f' = (tk f r tag).2.1 ∧ r' = (tk f r tag).2.2) ∨ (f' = true ∧ ¬ ∃ v, (tk f r tag).1 = some v ∧ v.length = 8)) :
    BackR f r (valB tag (be8 n)) (m == n) f' r' := by
  refine backR_take hb ht (by simp [be8]) (fun h1 h2 => ?_) (fun r1 h3 => ?_)
  · rcases h with ⟨v, e1, e2, e3, e4, e5⟩ | ⟨e1, _⟩
    · cases htk : tk f r tag with
      | mk o q =>
        obtain ⟨q1, q2⟩ := q
        rw [htk] at e1 e4 e5
        simp only at e1 e4 e5
        subst e1
        have hv := be8_numOf (tk_byt hb htk) e2
        have : m = n := beq_iff_eq.1 h1
        rw [← e3, this] at hv
        rw [← hv, ← e4, h2, e5]
    · rw [h2] at e1; cases e1
  · rcases h with ⟨v, e1, e2, e3, e4, e5⟩ | ⟨e1, e2⟩
    · rw [h3] at e1 e4 e5
      simp only [Option.some.injEq] at e1 e4 e5
      subst e1
      exact ⟨by rw [e3, numOf_be8 hn hn2]; simp, e4, e5⟩
    · exact (e2 ⟨be8 n, by rw [h3], rfl⟩).elim
theorem flag_backR {f f' m : Bool} {r r' : List Int} {tag n : Int} (hb : Byt r) (ht : tag ≠ 0)
    (h : (∃ x : Int, (tk f r tag).1 = some [x] ∧ x ≤ 1 ∧ m = (x == 1) ∧ f' = (tk f r tag).2.1 ∧ r' = (tk f r tag).2.2) ∨ (f' = true ∧ ¬ ∃ x : Int, (tk f r tag).1 = some [x] ∧ x ≤ 1)) :
    BackR f r (valB tag [n % 2]) (m == (n % 2 == 1)) f' r' := by
  have hm : n % 2 = 1 ∨ n % 2 = 0 := by omega
  refine backR_take hb ht (by simp) (fun h1 h2 => ?_) (fun r1 h3 => ?_)
  · rcases h with ⟨v, e1, e2, e3, e4, e5⟩ | ⟨e1, _⟩
    · cases htk : tk f r tag with
      | mk o q =>
        obtain ⟨q1, q2⟩ := q
        rw [htk] at e1 e4 e5
        simp only at e1 e4 e5
        subst e1
        have hv := tk_byt hb htk v (by simp)
        have h4 : m = (n % 2 == 1) := beq_iff_eq.1 h1
        rw [e3] at h4
        have h5 : v = n % 2 := by
          rcases hm with h | h <;> rw [h] at h4 ⊢
          · simpa using h4
          · have : ¬ v = 1 := by simpa using h4
            omega
        rw [← h5, ← e4, h2, e5]
    · rw [h2] at e1; cases e1
  · rcases h with ⟨v, e1, e2, e3, e4, e5⟩ | ⟨e1, e2⟩
    · rw [h3] at e1 e4 e5
      simp only [Option.some.injEq, List.cons.injEq, and_true] at e1 e4 e5
      subst e1
      exact ⟨by rw [e3]; simp, e4, e5⟩
    · exact (e2 ⟨n % 2, by rw [h3], by omega⟩).elim

set_option maxHeartbeats 16000000 in
theorem back_any (D g B : Nat) (f : Bool) (r x : List Int) (p : Pt) (w : World) (hs : RS w D g f r) (hok : PtOk w B p) (hf : Few p) (hx : encP p = some x) (hB : B ≤ g) (hBw : B ≤ w.heap.size) :
    Calls Try.prog 16 #[.pointer (some ⟨g, 0, none⟩), .agg p.cells.toArray] w fun e w' => ∃ (b f' : Bool) (r' : List Int), e = .returned (.bool b) ∧ RS w' D g f' r' ∧ w.grownBy w' (some g) ∧ BackR f r x b f' r' := by
  have hb1 : Below w.heap.size w (w.alloc (.cells p.cells.toArray 31)) := (Below.refl _ _).alloc (Nat.le_refl _) _
  have hxx := Blk.new w 31 p.cells.toArray
  have hgl := hs.lt
  have hbyt := hs.byt
  have hDg := hs.1
  have hok1 := hok.below (hb1.mono hBw)
  have hs1 := hs.on hb1
  have hlb' := hf.lb'
  have hfb := hf.1
  have hfl := hf.2.1
  have hfs : ∀ k, k < p.ls.length → (p.ls.getD k ByteArray.empty).size ≤ 30000 := fun k hk => by have := size_le hk; have := hf.2.2; omega
  obtain ⟨kind, tag, n, A, c, b, LA, lc, ls⟩ := p
  simp only [Pt.cells] at *
  rw [encP_mk] at hx
  have hz1 : (w.alloc (.cells #[Value.int .i64 kind, .int .u8 tag, .int .u64 n, .slice A b.length c, .slice LA ls.length lc] 31)).heap.size = w.heap.size + 1 := by simp
  have G1 : w.grownBy (w.alloc (.cells #[Value.int .i64 kind, .int .u8 tag, .int .u64 n, .slice A b.length c, .slice LA ls.length lc] 31)) (some g) := grownBy_of hb1
  have x0 := hxx.cell 0
  have HXX := Lib.hid hxx
  have HS1 := Lib.hid hs1
  have HOK := Lib.hid hok1
  have HG1 := Lib.hid G1
  have HFS := Lib.hid hfs
  have HBY := Lib.hid hbyt
  clear hs hok hf hxx hs1 hok1 G1 hfs hb1 hbyt
  -- a part that is none
  by_cases h0 : kind < 1 ∨ 6 < kind
  · rw [if_pos h0] at hx
    injection hx with hx
    subst hx
    have d1 : (kind == 1) = false := by simp; omega
    have d2 : (kind == 2) = false := by simp; omega
    have d3 : (kind == 3) = false := by simp; omega
    have d4 : (kind == 4) = false := by simp; omega
    have d5 : (kind == 5) = false := by simp; omega
    clear h0
    go_enter Try.func16, Try.ntmps16
    go_wp2
    go_ret
    exact ⟨true, f, r, rfl, HS1.out, HG1.out, fun _ h => ⟨h, rfl⟩, fun r1 h1 h2 => ⟨rfl, h1, h2⟩⟩
  rw [if_neg h0] at hx
  by_cases ht : tag = 0 ∨ kind = 6
  · rw [if_pos ht] at hx; cases hx
  rw [if_neg ht] at hx
  have ht0 : tag ≠ 0 := fun e => ht (.inl e)
  have hk6 : kind ≠ 6 := fun e => ht (.inr e)
  have x1 := HXX.out.cell 1
  have x2 := HXX.out.cell 2
  have x3 := HXX.out.cell 3
  have x4 := HXX.out.cell 4
  generalize hw1 : w.alloc (.cells #[Value.int .i64 kind, .int .u8 tag, .int .u64 n, .slice A b.length c, .slice LA ls.length lc] 31) = w1 at *
  have hBg1 : w.heap.size ≠ g := by omega
  have cc : ∀ w', w1.drew.grownBy w' (some g) → ∀ i, w'.cell? ⟨w.heap.size, i, none⟩ = w1.cell? ⟨w.heap.size, i, none⟩ := fun w' hg i => World.cell?_of_block (w := w1) (a := ⟨w.heap.size, i, none⟩) (hg.block w.heap.size HXX.out.lt (fun e => by injection e with e; omega))
  have cvB : ∀ w', w1.drew.grownBy w' (some g) → (convert 25 9 (.slice A b.length c)).run Try.prog w' = .ok (.string (mkS b)) w' := fun w' hg =>
    conv_of w' A c B b (Rd.gr (W := w1.drew) HOK.out.b hg hB (by show g ≤ w1.heap.size; omega)) (by cases A <;> simp)
  have HCC := Lib.hid cc
  have HCV := Lib.hid cvB
  have HSD := Lib.hid (HS1.out.on (Below.refl _ _).drew)
  have HGD : Hid (∀ w', w1.drew.grownBy w' (some g) → w.grownBy w' (some g)) := Lib.hid fun w' h => grownBy_trans HG1.out (grownBy_trans (grownBy_of (Below.refl _ _).drew) h)
  clear cc cvB
  by_cases h2 : kind = 2
  · subst h2
    rw [if_neg (by decide), if_neg (by decide), if_neg (by decide)] at hx
    injection hx with hx
    subst hx
    have HC := Lib.hid (text_r D g f r tag w1.drew HSD.out)
    have HK : Hid (∀ w', w1.drew.grownBy w' (some g) → (w'.cell? ⟨w.heap.size, 1, none⟩ = some (.int .u8 tag) ∧ w'.cell? ⟨w.heap.size, 3, none⟩ = some (.slice A b.length c)) ∧ (convert 25 9 (.slice A b.length c)).run Try.prog w' = .ok (.string (mkS b)) w') := Lib.hid fun w' h => ⟨⟨(HCC.out w' h 1).trans x1, (HCC.out w' h 3).trans x3⟩, HCV.out w' h⟩
    go_enter Try.func16, Try.ntmps16
    go_wp2
    go_region_held3 (fun w' => (w'.cell? ⟨w.heap.size, 1, none⟩ = some (.int .u8 tag) ∧ w'.cell? ⟨w.heap.size, 3, none⟩ = some (.slice A b.length c)) ∧ (convert 25 9 (.slice A b.length c)).run Try.prog w' = .ok (.string (mkS b)) w') (first | (refine HK.out _ ?_; first | assumption | exact World.grownBy.refl _ _) | go_keep)
      (first
        | (go_at_call 33; refine HC.out.mono ?_; rintro e w' ⟨rfl, hrs, hgr⟩))
    go_wp2
    go_ret
    exact ⟨_, _, _, rfl, hrs, HGD.out _ hgr, text_backR HBY.out HOK.out.y ht0 (by omega)⟩
  by_cases h3 : kind = 3
  · subst h3
    rw [if_pos rfl] at hx
    injection hx with hx
    subst hx
    have HC := Lib.hid (number_r D g f r tag w1.drew HSD.out)
    have HK : Hid (∀ w', w1.drew.grownBy w' (some g) → w'.cell? ⟨w.heap.size, 1, none⟩ = some (.int .u8 tag) ∧ w'.cell? ⟨w.heap.size, 2, none⟩ = some (.int .u64 n)) := Lib.hid fun w' h => ⟨(HCC.out w' h 1).trans x1, (HCC.out w' h 2).trans x2⟩
    go_enter Try.func16, Try.ntmps16
    go_wp2
    go_region_held3 (fun w' => w'.cell? ⟨w.heap.size, 1, none⟩ = some (.int .u8 tag) ∧ w'.cell? ⟨w.heap.size, 2, none⟩ = some (.int .u64 n)) (first | (refine HK.out _ ?_; first | assumption | exact World.grownBy.refl _ _) | go_keep)
      (first
        | (go_at_call 34; refine HC.out.mono ?_; rintro e w' ⟨m3, f3, r3, rfl, hrs, hgr, hor⟩))
    go_wp2
    go_ret
    exact ⟨_, _, _, rfl, hrs, HGD.out _ hgr, number_backR HBY.out ht0 HOK.out.n.1 HOK.out.n.2 hor⟩
  by_cases h4 : kind = 4
  · subst h4
    rw [if_neg (by decide), if_pos rfl] at hx
    injection hx with hx
    subst hx
    have hn0 : 0 ≤ n := HOK.out.n.1
    have hn1 : n < 18446744073709551616 := HOK.out.n.2
    have HMD : Hid (n.tmod 2 = n % 2) := Lib.hid (Int.tmod_eq_emod_of_nonneg hn0)
    have HC := Lib.hid (flag_r D g f r tag w1.drew HSD.out)
    have HK : Hid (∀ w', w1.drew.grownBy w' (some g) → w'.cell? ⟨w.heap.size, 1, none⟩ = some (.int .u8 tag) ∧ w'.cell? ⟨w.heap.size, 2, none⟩ = some (.int .u64 n)) := Lib.hid fun w' h => ⟨(HCC.out w' h 1).trans x1, (HCC.out w' h 2).trans x2⟩
    go_enter Try.func16, Try.ntmps16
    go_wp2
    go_region_held3 (fun w' => w'.cell? ⟨w.heap.size, 1, none⟩ = some (.int .u8 tag) ∧ w'.cell? ⟨w.heap.size, 2, none⟩ = some (.int .u64 n)) (first | (refine HK.out _ ?_; first | assumption | exact World.grownBy.refl _ _) | go_keep)
      (first
        | (go_at_call 35; refine HC.out.mono ?_; rintro e w' ⟨m3, f3, r3, rfl, hrs, hgr, hor⟩))
    go_wp2
    go_ret
    exact ⟨_, _, _, rfl, hrs, HGD.out _ hgr, by rw [HMD.out]; exact flag_backR HBY.out ht0 hor⟩
  by_cases h5 : kind = 5
  · subst h5
    rw [if_neg (by decide), if_neg (by decide), if_pos rfl] at hx
    injection hx with hx
    subst hx
    have hb2 : Below w1.heap.size w1 (w1.alloc (.cells #[.int .i64 0] 3)) := (Below.refl _ _).alloc (Nat.le_refl _) _
    have HC := Lib.hid (list_r D g w1.heap.size w.heap.size B f r tag ⟨5, tag, n, A, c, b, LA, lc, ls⟩ (w1.alloc (.cells #[.int .i64 0] 3)) (HS1.out.on hb2) (Blk.new w1 3 _) (HXX.out.alloc _) ((HOK.out.below (hb2.mono (by omega))).l) hB (by omega) (by omega) (by omega) hBg1 (by omega) hfl HFS.out)
    have HX2 := Lib.hid (HXX.out.alloc (.cells #[.int .i64 0] 3))
    have y1 := HX2.out.cell 1
    have hn5 : w.heap.size < w1.heap.size := by omega
    have HG2 := Lib.hid (grownBy_trans HG1.out (grownBy_of hb2))
    clear hb2 hz1
    go_enter Try.func16, Try.ntmps16
    go_wp2_with fail
    refine HC.out.mono ?_
    clear HC
    rintro e w3 ⟨b3, f3, r3, k3, rfl, hbi, hrs, hch, hA, hBc⟩
    have z5 := hbi.cell 0
    have z4 := (hch.blk HX2.out hBg1 (by omega)).cell 4
    have hgr : w.grownBy w3 (some g) := ⟨hch.os.trans HG2.out.os, hch.tape.trans HG2.out.tape, hch.output.trans HG2.out.output, Nat.le_trans HG2.out.size hch.size, fun k hk hne => (hch.same k (Nat.lt_of_lt_of_le hk HG2.out.size) (fun e => hne (by rw [e])) (by omega)).trans (HG2.out.block k hk hne)⟩
    have HFIN : Hid (BackR f r (valB tag (lb ls)) (b3 && ((k3 : Int) == (ls.length : Int))) f3 r3) := Lib.hid (backR_take HBY.out ht0 (by omega) (fun h1 h2 => by
        rw [Bool.and_eq_true, beq_iff_eq] at h1
        exact (hA h1.1 (by have := h1.2; show k3 = ls.length; omega)).2) (fun r1 h => by
        obtain ⟨e1, e2, e3, e4⟩ := hBc r1 h
        exact ⟨by rw [e1]; simp; have : k3 = ls.length := e2; omega, e3, e4⟩))
    have HOUT := Lib.hid (And.intro hrs hgr)
    clear hbi hrs hch hA hBc hgr
    cases b3 with
    | true =>
      go_wp2_with fail
      go_ret
      exact ⟨_, f3, r3, rfl, HOUT.out.1, HOUT.out.2, by simpa using HFIN.out⟩
    | false =>
      go_wp2_with fail
      go_ret
      exact ⟨_, f3, r3, rfl, HOUT.out.1, HOUT.out.2, by simpa using HFIN.out⟩
  have h1 : kind = 1 := by omega
  subst h1
  rw [if_neg (by decide), if_neg (by decide), if_neg (by decide)] at hx
  injection hx with hx
  subst hx
  have HT := Lib.hid (tag_is D g f r w1.drew HSD.out)
  have HK : Hid (∀ w', w1.drew.grownBy w' (some g) → (w'.cell? ⟨w.heap.size, 1, none⟩ = some (.int .u8 tag) ∧ w'.cell? ⟨w.heap.size, 3, none⟩ = some (.slice A b.length c)) ∧ (convert 25 9 (.slice A b.length c)).run Try.prog w' = .ok (.string (mkS b)) w') := Lib.hid fun w' h => ⟨⟨(HCC.out w' h 1).trans x1, (HCC.out w' h 3).trans x3⟩, HCV.out w' h⟩
  have HBR : Hid (∀ w', RS w' D g f r → Calls Try.prog 32 #[.pointer (some ⟨g, 0, none⟩), .int .u8 tag] w' fun e w9 => ∃ A9 n9 c9, e = .returned (.slice A9 n9 c9) ∧ (convert 25 9 (.slice A9 n9 c9)).run Try.prog w9 = .ok (.string (mkS (((tk f r tag).1).getD []))) w9 ∧ RS w9 D g (tk f r tag).2.1 (tk f r tag).2.2 ∧ w'.grownBy w9 (some g)) := Lib.hid fun w' h =>
    (bytes_r D g f r tag w' h).mono fun e w9 ⟨vv, e1, hrow, hrs, hgr⟩ => by
      have hcv := conv_row hrow
      obtain ⟨A9, c9, n9, hn9, rfl, _, _⟩ := (row_k.2 hrow).rdn
      exact ⟨A9, n9, c9, e1, hcv, hrs, hgr⟩
  by_cases htg : tagV f r = tag
  · rw [htg] at HT
    have HFIN := Lib.hid (text_backR (f := f) HBY.out HOK.out.y ht0 (show b.length ≤ 4194304 by omega))
    clear htg hz1
    go_enter Try.func16, Try.ntmps16
    go_wp2
    obtain ⟨⟨p1, p2⟩, p3⟩ := HK.out w1.drew (World.grownBy.refl _ _)
    go_region_with
      (first
        | (go_at_call 31; refine HT.out.mono ?_; rintro e w' ⟨rfl, hrsT, hgrT⟩; obtain ⟨⟨q1, q2⟩, q3⟩ := HK.out w' hgrT)
        | (go_at_call 32; refine (HBR.out _ hrsT).mono ?_; rintro e w9 ⟨A9, n9, c9, rfl, hcvR, hrs, hgr2⟩; have hgr := grownBy_trans hgrT hgr2; obtain ⟨⟨s1, s2⟩, s3⟩ := HK.out w9 hgr))
    all_goals
      go_wp2
      go_ret
      exact ⟨_, _, _, rfl, hrs, HGD.out _ hgr, HFIN.out⟩
  · have hd : (tagV f r == tag) = false := by simpa using htg
    have HFIN : Hid (BackR f r (valB tag b) false f r) := Lib.hid ⟨fun h => (by cases h), fun r1 h1 h2 => (htg (by
      have h3 := stands_put (r := r1) (xs := b) ht0 (by omega)
      rw [← h2] at h3
      unfold tagV
      rw [if_neg (by simp [h1]), if_pos h3.2.1]
      exact h3.2.2.1)).elim⟩
    have HTG := Lib.hid htg
    have HTQ : Hid (∀ n, Calls Try.prog 31 #[.pointer (some ⟨g, 0, none⟩)] (w1.drewN n) fun e w' => e = .returned (.int .u8 (tagV f r)) ∧ ∃ m, w' = w1.drewN m) := Lib.hid fun n => (tag_any D g f r (w1.drewN n) (HS1.out.on (below_drewN (Below.refl _ _) n))).mono fun e w' ⟨⟨t, e1, h⟩, m, e2⟩ => by
      refine ⟨?_, n + m, by rw [e2]; simp [World.drewN, Nat.add_assoc]⟩
      rw [e1]
      rcases h with ⟨rfl, h | h⟩ | ⟨_, h1, h2, rfl⟩ <;> simp [tagV, *]
    generalize tagV f r = tv at *
    clear htg hz1
    go_enter Try.func16, Try.ntmps16
    go_wp2
    go_quiet ((go_at_call 31; exact HTQ.out _))
    go_wp2
    go_ret
    exact ⟨false, f, r, rfl, HS1.out.on (below_drewN (Below.refl _ _) nq), grownBy_trans HG1.out (grownBy_of (below_drewN (Below.refl _ _) nq)), HFIN.out⟩
end Go.Proofs.Ytiakfdfpikheaaa

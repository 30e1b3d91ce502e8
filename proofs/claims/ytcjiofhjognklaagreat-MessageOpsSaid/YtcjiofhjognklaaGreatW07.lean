/- Attributes: how they stand; lists that rise. -/
import GoSem.Op.String
import Derived.Test.YtcjiofhjognklaaGreatW06
import Derived.Outline
import Derived.Test.YtcjiofhjognklaaGreatProg
import Derived.WalkKit
import Derived.ProofKit
import Derived.Below
import Derived.BigQuiet
import Derived.Deep.QuietTactic
import Derived.IntWalk
import Derived.Lib.Hide

namespace Go.Proofs.YtcjiofhjognklaaGreat
set_option linter.unusedVariables false
abbrev bless := Op.bytesLess
theorem bless_irrefl : ∀ x, bless x x = false
  | [] => rfl
  | a :: x => by
    have h := bless_irrefl x
    show (decide (a < a) || (a == a && bless x x)) = false
    rw [h]
    simp
theorem bless_cons {a b : UInt8} {x y : List UInt8} : bless (a :: x) (b :: y) = true ↔ a < b ∨ a = b ∧ bless x y = true := by
  show (decide (a < b) || (a == b && bless x y)) = true ↔ _
  simp
theorem u8_tri (a b : UInt8) : a < b ∨ a = b ∨ b < a := by
  rcases Nat.lt_trichotomy a.toNat b.toNat with h | h | h
  · exact .inl (UInt8.lt_iff_toNat_lt.2 h)
  · exact .inr (.inl (UInt8.toNat_inj.1 h))
  · exact .inr (.inr (UInt8.lt_iff_toNat_lt.2 h))
theorem u8_trans {a b c : UInt8} (h : a < b) (k : b < c) : a < c := UInt8.lt_iff_toNat_lt.2 (Nat.lt_trans (UInt8.lt_iff_toNat_lt.1 h) (UInt8.lt_iff_toNat_lt.1 k))
theorem bless_trans : ∀ {x y z : List UInt8}, bless x y = true → bless y z = true → bless x z = true
  | x, [], _, h, _ => by cases x <;> simp [bless, Op.bytesLess] at h
  | _, _ :: _, [], _, h => by simp [bless, Op.bytesLess] at h
  | [], _ :: _, _ :: _, _, _ => rfl
  | a :: x, b :: y, c :: z, h, k => by
    rw [bless_cons] at h k ⊢
    rcases h with h | ⟨rfl, h⟩
    · rcases k with k | ⟨rfl, k⟩
      · exact .inl (u8_trans h k)
      · exact .inl h
    · rcases k with k | ⟨rfl, k⟩
      · exact .inl k
      · exact .inr ⟨rfl, bless_trans h k⟩
theorem bless_tri : ∀ (x y : List UInt8), bless x y = true ∨ x = y ∨ bless y x = true
  | [], [] => .inr (.inl rfl)
  | [], _ :: _ => .inl rfl
  | _ :: _, [] => .inr (.inr rfl)
  | a :: x, b :: y => by
    rw [bless_cons, bless_cons]
    rcases u8_tri a b with h | rfl | h
    · exact .inl (.inl h)
    · rcases bless_tri x y with h | rfl | h
      · exact .inl (.inr ⟨rfl, h⟩)
      · exact .inr (.inl rfl)
      · exact .inr (.inr (.inr ⟨rfl, h⟩))
    · exact .inr (.inr (.inl h))
theorem bless_asymm {x y : List UInt8} (h : bless x y = true) : bless y x = false := by
  cases k : bless y x with
  | false => rfl
  | true => have := bless_trans h k; rw [bless_irrefl] at this; cases this

/-- An attribute: its type, its value, as bytes. -/
structure At where
  t : List UInt8
  v : List UInt8
deriving Inhabited, DecidableEq
/-- Does one stand ahead of another one? -/
def ltA (x y : At) : Bool := bless x.t y.t || (x.t == y.t && bless x.v y.v)
theorem ltA_iff {x y : At} : ltA x y = true ↔ bless x.t y.t = true ∨ x.t = y.t ∧ bless x.v y.v = true := by unfold ltA; simp
theorem ltA_irrefl (x : At) : ltA x x = false := by unfold ltA; rw [bless_irrefl, bless_irrefl]; simp
theorem ltA_trans {x y z : At} (h : ltA x y = true) (k : ltA y z = true) : ltA x z = true := by
  rw [ltA_iff] at *
  rcases h with h | ⟨e, h⟩
  · rcases k with k | ⟨e', k⟩
    · exact .inl (bless_trans h k)
    · exact .inl (e' ▸ h)
  · rcases k with k | ⟨e', k⟩
    · exact .inl (e ▸ k)
    · exact .inr ⟨e.trans e', bless_trans h k⟩
theorem ltA_asymm {x y : At} (h : ltA x y = true) : ltA y x = false := by
  cases k : ltA y x with
  | false => rfl
  | true => have := ltA_trans h k; rw [ltA_irrefl] at this; cases this
/-- -1, 0, 1. -/
def cmpA (x y : At) : Int := if ltA x y = true then -1 else if ltA y x = true then 1 else 0
def cmpB (x y : List UInt8) : Int := if bless x y = true then -1 else if bless y x = true then 1 else 0
theorem cmpA_or (x y : At) : cmpA x y = if cmpB x.t y.t = 0 then cmpB x.v y.v else cmpB x.t y.t := by
  unfold cmpA cmpB
  rcases bless_tri x.t y.t with h | h | h
  · have h2 := bless_asymm h
    have e1 : ltA x y = true := ltA_iff.2 (.inl h)
    simp [h, e1]
  · have e1 : ltA x y = bless x.v y.v := by unfold ltA; rw [h, bless_irrefl]; simp
    have e2 : ltA y x = bless y.v x.v := by unfold ltA; rw [h, bless_irrefl]; simp
    rw [h, bless_irrefl, e1, e2]
    simp
  · have h2 := bless_asymm h
    have e1 : ltA y x = true := ltA_iff.2 (.inl h)
    have e2 : ltA x y = false := ltA_asymm e1
    simp [h, h2, e1, e2]

/-- They rise, each once. -/
def Rises (l : List At) : Prop := l.Pairwise fun x y => ltA x y = true
end Go.Proofs.YtcjiofhjognklaaGreat

namespace Go.Proofs.YtcjiofhjognklaaGreat
open Go.RowKit
set_option linter.unusedVariables false
set_option linter.unusedSimpArgs false
def sx (l : List UInt8) : ByteArray := ⟨l.toArray⟩
theorem sx_data (l : List UInt8) : (sx l).data.toList = l := by unfold sx; simp
theorem data_sx (s : ByteArray) : sx s.data.toList = s := by cases s; unfold sx; simp
theorem sx_size (l : List UInt8) : (sx l).size = l.length := by unfold sx; exact List.size_toArray
theorem sx_list (r : List UInt8) : (sx r).toList = r := by rw [ByteArray.toList_eq, sx_data]
/-- An attribute as a value. -/
abbrev At.val (a : At) : Value := .agg #[.string (sx a.t), .string (sx a.v)]
def At.cells (a : At) : List Value := [.string (sx a.t), .string (sx a.v)]
theorem info29 : ∃ (i : TypeInfo) (z : Value), Tryz.prog.info? 67 = some i ∧ i.zero = some z ∧ i.size = 2 ∧ i.bytes = 32 ∧ z.cells.size = 2 := by
  have h : (Tryz.prog.info? 67).map (fun i => (i.zero, i.size, i.bytes)) = some (some (.agg #[.string ⟨#[]⟩, .string ⟨#[]⟩]), 2, 32) := by kernel_rfl
  obtain ⟨i, hi, h0, h1, h2⟩ := info_parts h
  exact ⟨i, _, hi, h0, h1, h2, rfl⟩
def kA : Kind At where
  e := 67
  st := 23
  size := 2
  bytes := 32
  cs := At.cells
  len := fun _ => rfl
  one := fun x u hu => by simp [At.cells] at hu; rcases hu with rfl | rfl <;> rfl
  pos := by decide
  sl := Tryz.underlying23
  zero := info29
  small := by decide
theorem RowK.on {α : Type} {K : Kind α} {w w' : World} {base : Nat} {v : Value} {l : List α} (h : RowK K w base v l) (hb : Below w.heap.size w w') : RowK K w' base v l := by
  refine ⟨h.1, ?_⟩
  rcases h.2 with h0 | ⟨g, cap, cur, hv, hg, hh, rest⟩
  · exact .inl h0
  · exact .inr ⟨g, cap, cur, hv, hg, (hb.block g (Array.getElem?_eq_some_iff.1 hh).1).trans hh, rest⟩
theorem RowK.low {α : Type} {K : Kind α} {w : World} {base base' : Nat} {v : Value} {l : List α} (h : RowK K w base v l) (hb : base' ≤ base) : RowK K w base' v l := by
  refine ⟨h.1, ?_⟩
  rcases h.2 with h0 | ⟨g, cap, cur, hv, hg, rest⟩
  · exact .inl h0
  · exact .inr ⟨g, cap, cur, hv, Nat.le_trans hb hg, rest⟩
/-- The two cells of an attribute. -/
theorem at_cells {w w' : World} {n k : Nat} {A : Option Addr} {l : List At} (h : RdK kA w n A l) (hb : Below n w w') (hk : k < l.length) : ∃ b off, A = some ⟨b, off, none⟩ ∧ b < n ∧
    w'.cell? ⟨b, off + k * 2, none⟩ = some (.string (sx (l.getD k default).t)) ∧ w'.cell? ⟨b, off + k * 2 + 1, none⟩ = some (.string (sx (l.getD k default).v)) := by
  obtain ⟨b, off, e, hlt, hc⟩ := h (by omega)
  exact ⟨b, off, e, hlt, (hb.cell (p := ⟨b, off + k * 2, none⟩) hlt).trans (hc k hk 0 _ rfl), (hb.cell (p := ⟨b, off + k * 2 + 1, none⟩) hlt).trans (hc k hk 1 _ rfl)⟩
end Go.Proofs.YtcjiofhjognklaaGreat

namespace Go.Proofs.YtcjiofhjognklaaGreat
open Go.RowKit
set_option linter.unusedVariables false
set_option linter.unusedSimpArgs false
theorem Utf_ret_bool {a b : Bool} (h : a = b) : Ending.returned (.bool a) = .returned (.bool b) := by rw [h]
def lowC (c : Int) : Bool := decide (97 ≤ c) && decide (c ≤ 122)
def otherC (c : Int) : Bool := c == 45 || (decide (48 ≤ c) && decide (c ≤ 57))
def okC (c : Int) : Bool := lowC c || otherC c
def ch (t : List UInt8) (k : Nat) : Int := ((t.getD k 0).toNat : Int)
/-- May it stand at its place in a type? -/
def okAt (t : List UInt8) (k : Nat) : Bool := okC (ch t k) && (decide (0 < k) || lowC (ch t k))
def upTo (t : List UInt8) (k : Nat) : Bool := (List.range k).all (okAt t)
/-- May it be a type? -/
def mayT (t : List UInt8) : Bool := decide (1 ≤ t.length) && decide (t.length ≤ 32) && upTo t t.length
theorem upTo_succ (t : List UInt8) (k : Nat) : upTo t (k + 1) = (upTo t k && okAt t k) := by
  unfold upTo
  rw [List.range_succ, List.all_append]
  simp
theorem upTo_no {t : List UInt8} {k : Nat} (hk : k < t.length) (h : okAt t k = false) : mayT t = false := by
  have : upTo t t.length = false := by
    unfold upTo
    rw [List.all_eq_false]
    exact ⟨k, List.mem_range.2 hk, by rw [h]; decide⟩
  unfold mayT
  rw [this, Bool.and_false]
theorem sx_get (t : List UInt8) (k : Nat) (h : k < t.length) : ((((sx t)[k]'(by rw [sx_size]; exact h)).toNat : Nat) : Int) = ch t k := by
  unfold ch
  rw [List.getD_eq_getElem?_getD, List.getElem?_eq_getElem h]
  have e : (sx t)[k]'(by rw [sx_size]; exact h) = (sx t).data.toList[k]'(by rw [sx_data]; exact h) := rfl
  rw [e, List.getElem_of_eq (sx_data t) _]
  rfl
theorem ch_bd (t : List UInt8) (k : Nat) : 0 ≤ ch t k ∧ ch t k ≤ 255 := by unfold ch; have := (t.getD k 0).toNat_lt; omega
theorem lowC_t {c : Int} (h : lowC c = true) : 97 ≤ c ∧ c ≤ 122 := by unfold lowC at h; simp at h; exact h
theorem lowC_f {c : Int} (h : lowC c = false) : c < 97 ∨ 122 < c := by unfold lowC at h; simp at h; omega

set_option maxHeartbeats 8000000 in
set_option maxRecDepth 100000 in
theorem mayType_any (t : List UInt8) (w : World) (hs : t.length ≤ 9223372036854775807) : Calls Tryz.prog 149 #[.string (sx t)] w fun e w' => e = .returned (.bool (mayT t)) ∧ w = w' := by
  have hz := sx_size t
  go_enter Tryz.func149, Tryz.ntmps149
  go_wp2
  go_loopw [7] (fun i wr => ∃ k : Nat, i = .int .i64 k ∧ k ≤ t.length ∧ wr = w ∧ Hid (upTo t k = true)) (fun i _ => t.length - (intOf i).toNat)
  case atStart => exact ⟨0, rfl, Nat.zero_le _, rfl, Lib.hid rfl⟩
  case round =>
    obtain ⟨k, rfl, hk, rfl, HU⟩ := hrel
    by_cases hlt : k < t.length
    · have hg := sx_get t k hlt
      have hb := ch_bd t k
      have HN := Lib.hid (upTo_no hlt)
      have HS := Lib.hid (upTo_succ t k)
      have hks : k < (sx t).size := by omega
      unfold okAt okC lowC otherC at HN HS
      rw [HU.out, Bool.true_and] at HS
      rw [← hg] at HN HS hb
      clear hg
      obtain ⟨h0, h1⟩ := hb
      by_cases hl : 97 ≤ ((((sx t)[k]'hks).toNat : Nat) : Int) ∧ ((((sx t)[k]'hks).toNat : Nat) : Int) ≤ 122
      · obtain ⟨hl1, hl2⟩ := hl
        have HU2 : Hid (upTo t (k + 1) = true) := Lib.hid (by rw [HS.out]; simp; omega)
        clear HN HS HU
        go_wp2
        go_roundw
        case rel => exact ⟨k + 1, by go_num, by omega, by trivial, HU2⟩
        case measure => simp [intOf]; omega
      · by_cases ho : ((((sx t)[k]'hks).toNat : Nat) : Int) = 45 ∨ (48 ≤ ((((sx t)[k]'hks).toNat : Nat) : Int) ∧ ((((sx t)[k]'hks).toNat : Nat) : Int) ≤ 57)
        · by_cases hk0 : k = 0
          · have hk0' : ((k : Int) == 0) = true := by simp; omega
            rcases ho with hc45 | ⟨ho1, ho2⟩
            · rw [hc45] at HN HS h0 h1
              have HM := Lib.hid (HN.out (by rw [hk0]; decide))
              clear HN HS HU hk0
              go_wp2
              go_ret
              exact ⟨by rw [HM.out]; rfl, rfl⟩
            · have hn45 : (((((sx t)[k]'hks).toNat : Nat) : Int) == 45) = false := by simp; omega
              have HM := Lib.hid (HN.out (by simp; omega))
              clear HN HS HU hk0
              go_wp2
              go_ret
              exact ⟨by rw [HM.out]; rfl, rfl⟩
          · have hk1 : 0 < k := by omega
            have hk2 : ((k : Int) == 0) = false := by simp; omega
            rcases ho with hc45 | ⟨ho1, ho2⟩
            · rw [hc45] at HN HS h0 h1
              have HU2 : Hid (upTo t (k + 1) = true) := Lib.hid (by rw [HS.out]; simp; omega)
              clear HN HS HU
              go_wp2
              go_roundw
              case rel => exact ⟨k + 1, by go_num, by omega, by trivial, HU2⟩
              case measure => simp [intOf]; omega
            · have hn45 : (((((sx t)[k]'hks).toNat : Nat) : Int) == 45) = false := by simp; omega
              have HU2 : Hid (upTo t (k + 1) = true) := Lib.hid (by rw [HS.out]; simp; omega)
              clear HN HS HU
              go_wp2
              go_roundw
              case rel => exact ⟨k + 1, by go_num, by omega, by trivial, HU2⟩
              case measure => simp [intOf]; omega
        · have hn45 : (((((sx t)[k]'hks).toNat : Nat) : Int) == 45) = false := by simp; omega
          have hx : ((((sx t)[k]'hks).toNat : Nat) : Int) < 48 ∨ (57 < ((((sx t)[k]'hks).toNat : Nat) : Int) ∧ ((((sx t)[k]'hks).toNat : Nat) : Int) < 97) ∨ 122 < ((((sx t)[k]'hks).toNat : Nat) : Int) := by omega
          rcases hx with hx | ⟨hx1, hx2⟩ | hx
          all_goals
            have HM := Lib.hid (HN.out (by simp; omega))
            clear HN HS HU
            go_wp2
            go_ret
            exact ⟨by rw [HM.out]; rfl, rfl⟩
    · have hk2 : k = t.length := by omega
      have HM : Hid (mayT t = (decide (1 ≤ t.length) && decide (t.length ≤ 32))) := Lib.hid (by unfold mayT; rw [← hk2, HU.out, Bool.and_true])
      clear HU
      by_cases h1 : 1 ≤ t.length
      · by_cases h2 : t.length ≤ 32
        · have HM2 : Hid (mayT t = true) := Lib.hid (by rw [HM.out, decide_eq_true h1, decide_eq_true h2]; rfl)
          clear HM
          go_wp2
          go_ret
          exact ⟨Utf_ret_bool (by rw [HM2.out]; simp; omega), rfl⟩
        · have HM2 : Hid (mayT t = false) := Lib.hid (by rw [HM.out, decide_eq_false h2, Bool.and_false])
          have h2' : 32 < t.length := by omega
          clear HM h2
          go_wp2
          go_ret
          exact ⟨Utf_ret_bool (by rw [HM2.out]; simp; omega), rfl⟩
      · have HM2 : Hid (mayT t = false) := Lib.hid (by rw [HM.out, decide_eq_false h1, Bool.false_and])
        have h1' : t.length < 1 := by omega
        clear HM h1
        go_wp2
        go_ret
        exact ⟨by rw [HM2.out]; rfl, rfl⟩
end Go.Proofs.YtcjiofhjognklaaGreat

namespace Go.Proofs.YtcjiofhjognklaaGreat.Utf
open Go.RowKit
set_option linter.unusedVariables false
def mayB (r : Int) : Bool := decide (0 ≤ r ∧ r ≤ 1114111 ∧ (r < 55296 ∨ 57343 < r))
def sizeI (r : Int) : Int := if mayB r = false then 0 else if r ≤ 127 then 1 else if r ≤ 2047 then 2 else if r ≤ 65535 then 3 else 4

theorem ret_bool {a b : Bool} (h : a = b) : Ending.returned (.bool a) = .returned (.bool b) := by rw [h]
theorem ret_int {k : IntKind} {a b : Int} (h : a = b) : Ending.returned (.int k a) = .returned (.int k b) := by rw [h]

set_option maxHeartbeats 400000 in
theorem refMay_any (r : Int) (w : World) :
    Calls Tryz.prog 156 #[.int .i32 r] w fun e w' => e = .returned (.bool (mayB r)) ∧ w = w' := by
  go_enter Tryz.func156, Tryz.ntmps156
  go_wp2
  all_goals go_ret
  all_goals exact ⟨ret_bool (by rw [Bool.eq_iff_iff]; unfold mayB; simp; omega), rfl⟩

set_option maxHeartbeats 400000 in
theorem may_any (r : Int) (w : World) :
    Calls Tryz.prog 162 #[.int .i32 r] w fun e w' => e = .returned (.bool (mayB r)) ∧ w = w' := by
  go_enter Tryz.func162, Tryz.ntmps162
  go_wp2
  all_goals go_ret
  all_goals exact ⟨ret_bool (by rw [Bool.eq_iff_iff]; unfold mayB; simp; omega), rfl⟩

set_option maxHeartbeats 400000 in
theorem size_any (r : Int) (w : World) :
    Calls Tryz.prog 161 #[.int .i32 r] w fun e w' => e = .returned (.int .i64 (sizeI r)) ∧ w = w' := by
  cases hm : mayB r
  · have Hm := Lib.hid hm
    have hmay : ∀ W, Calls Tryz.prog 162 #[.int .i32 r] W fun e w' => e = .returned (.bool false) ∧ W = w' := fun W => by have := may_any r W; rwa [hm] at this
    clear hm
    have Hmay := Lib.hid hmay
    clear hmay
    go_enter Tryz.func161, Tryz.ntmps161
    go_wp2_with (go_at_call 162; refine (Hmay.out _).mono ?_; rintro e w' ⟨rfl, rfl⟩)
    go_ret
    exact ⟨ret_int (by rw [sizeI, if_pos Hm.out]), rfl⟩
  · have Hm := Lib.hid hm
    have hmay : ∀ W, Calls Tryz.prog 162 #[.int .i32 r] W fun e w' => e = .returned (.bool true) ∧ W = w' := fun W => by have := may_any r W; rwa [hm] at this
    clear hm
    have Hmay := Lib.hid hmay
    clear hmay
    go_enter Tryz.func161, Tryz.ntmps161
    go_wp2_with (go_at_call 162; refine (Hmay.out _).mono ?_; rintro e w' ⟨rfl, rfl⟩)
    all_goals go_ret
    all_goals exact ⟨ret_int (by rw [sizeI, if_neg (by rw [Hm.out]; simp)]; repeat (first | rw [if_pos (by assumption)] | rw [if_neg (by omega)] | rfl)), rfl⟩

/-- The byte at a place, as a number; 0 where none is. -/
def bt (s : ByteArray) (i : Nat) : Int := ((s.data.getD i 0).toNat : Int)
theorem bt_of {s : ByteArray} {i : Nat} (h : i < s.size) : (s[i].toNat : Int) = bt s i := by
  unfold bt
  have h' : i < s.data.size := h
  have e : s.data.getD i 0 = s.data[i] := by simp [Array.getD, h]
  rw [e]
  rfl
theorem bt_lo (s : ByteArray) (i : Nat) : 0 ≤ bt s i := by unfold bt; omega
theorem bt_hi (s : ByteArray) (i : Nat) : bt s i ≤ 255 := by unfold bt; have := (s.data.getD i 0).toNat_lt; omega
theorem and_224 : ∀ n : Fin 256, bits BinOp.and IntKind.u8 (n.val : Int) 224 = 32 * ((n.val : Int) / 32) := by decide +kernel
theorem and_240 : ∀ n : Fin 256, bits BinOp.and IntKind.u8 (n.val : Int) 240 = 16 * ((n.val : Int) / 16) := by decide +kernel
theorem and_248 : ∀ n : Fin 256, bits BinOp.and IntKind.u8 (n.val : Int) 248 = 8 * ((n.val : Int) / 8) := by decide +kernel
theorem and_192 : ∀ n : Fin 256, bits BinOp.and IntKind.u8 (n.val : Int) 192 = 64 * ((n.val : Int) / 64) := by decide +kernel
theorem and224 (b : Int) (h0 : 0 ≤ b) (h1 : b ≤ 255) : bits BinOp.and IntKind.u8 b 224 = 32 * (b / 32) := by
  have := and_224 ⟨b.toNat, by omega⟩; simp only [Int.toNat_of_nonneg h0] at this; exact this
theorem and240 (b : Int) (h0 : 0 ≤ b) (h1 : b ≤ 255) : bits BinOp.and IntKind.u8 b 240 = 16 * (b / 16) := by
  have := and_240 ⟨b.toNat, by omega⟩; simp only [Int.toNat_of_nonneg h0] at this; exact this
theorem and248 (b : Int) (h0 : 0 ≤ b) (h1 : b ≤ 255) : bits BinOp.and IntKind.u8 b 248 = 8 * (b / 8) := by
  have := and_248 ⟨b.toNat, by omega⟩; simp only [Int.toNat_of_nonneg h0] at this; exact this
theorem and192 (b : Int) (h0 : 0 ≤ b) (h1 : b ≤ 255) : bits BinOp.and IntKind.u8 b 192 = 64 * (b / 64) := by
  have := and_192 ⟨b.toNat, by omega⟩; simp only [Int.toNat_of_nonneg h0] at this; exact this

/-- How many bytes a first byte tells of, and the bits that it has. -/
def hdN (b : Int) : Int := if b ≤ 127 then 1 else if b ≤ 191 then 0 else if b ≤ 223 then 2 else if b ≤ 239 then 3 else if b ≤ 247 then 4 else 0
def hdR (b : Int) : Int := if b ≤ 127 then b else if b ≤ 191 then 0 else if b ≤ 223 then b % 32 else if b ≤ 239 then b % 16 else if b ≤ 247 then b % 8 else 0

theorem ne_of_pos {s : ByteArray} (h : 0 < s.size) : (!s.toList.isEmpty) = true ∧ s.toList.isEmpty = false := by
  have h2 : s.toList.isEmpty = false := by
    rw [← decide_eq_emptyBytes s, decide_eq_false_iff_not]
    rintro rfl
    exact absurd h (by decide)
  simp [h2]
theorem eq_of_zero {s : ByteArray} (h : ¬ 0 < s.size) : (!s.toList.isEmpty) = false ∧ s.toList.isEmpty = true := by
  have h2 : s.toList.isEmpty = true := by
    rw [← decide_eq_emptyBytes s, decide_eq_true_iff]
    apply ByteArray.ext
    apply Array.eq_empty_of_size_eq_zero
    have : s.data.size = s.size := rfl
    omega
  simp [h2]

theorem ret_hd {n n' r r' : Int} (hn : n = n') (hr : r = r') : Ending.returned (.tuple #[.int .i64 n, .int .i32 r]) = .returned (.tuple #[.int .i64 n', .int .i32 r']) := by rw [hn, hr]
theorem hd1 {b c : Int} (e : b = c) (g1 : b ≤ 127) : Ending.returned (.tuple #[.int .i64 1, .int .i32 b]) = .returned (.tuple #[.int .i64 (hdN c), .int .i32 (hdR c)]) := by
  subst e; exact ret_hd (by unfold hdN; rw [if_pos g1]) (by unfold hdR; rw [if_pos g1])
theorem hd2 {b c : Int} (e : b = c) (h0 : 0 ≤ b) (h1 : b ≤ 255) (g1 : 127 < b) (g2 : (bits BinOp.and IntKind.u8 b 224 == 192) = true) : Ending.returned (.tuple #[.int .i64 2, .int .i32 (b % 32)]) = .returned (.tuple #[.int .i64 (hdN c), .int .i32 (hdR c)]) := by
  subst e; rw [and224 b h0 h1, beq_iff_eq] at g2
  exact ret_hd (by unfold hdN; rw [if_neg (by omega), if_neg (by omega), if_pos (by omega)]) (by unfold hdR; rw [if_neg (by omega), if_neg (by omega), if_pos (by omega)])
theorem hd3 {b c : Int} (e : b = c) (h0 : 0 ≤ b) (h1 : b ≤ 255) (g1 : 127 < b) (g3 : (bits BinOp.and IntKind.u8 b 240 == 224) = true) : Ending.returned (.tuple #[.int .i64 3, .int .i32 (b % 16)]) = .returned (.tuple #[.int .i64 (hdN c), .int .i32 (hdR c)]) := by
  subst e; rw [and240 b h0 h1, beq_iff_eq] at g3
  exact ret_hd (by unfold hdN; rw [if_neg (by omega), if_neg (by omega), if_neg (by omega), if_pos (by omega)]) (by unfold hdR; rw [if_neg (by omega), if_neg (by omega), if_neg (by omega), if_pos (by omega)])
theorem hd4 {b c : Int} (e : b = c) (h0 : 0 ≤ b) (h1 : b ≤ 255) (g1 : 127 < b) (g4 : (bits BinOp.and IntKind.u8 b 248 == 240) = true) : Ending.returned (.tuple #[.int .i64 4, .int .i32 (b % 8)]) = .returned (.tuple #[.int .i64 (hdN c), .int .i32 (hdR c)]) := by
  subst e; rw [and248 b h0 h1, beq_iff_eq] at g4
  exact ret_hd (by unfold hdN; rw [if_neg (by omega), if_neg (by omega), if_neg (by omega), if_neg (by omega), if_pos (by omega)]) (by unfold hdR; rw [if_neg (by omega), if_neg (by omega), if_neg (by omega), if_neg (by omega), if_pos (by omega)])
theorem hd0 {b c : Int} (e : b = c) (h0 : 0 ≤ b) (h1 : b ≤ 255) (g1 : 127 < b) (g2 : (bits BinOp.and IntKind.u8 b 224 == 192) = false) (g3 : (bits BinOp.and IntKind.u8 b 240 == 224) = false) (g4 : (bits BinOp.and IntKind.u8 b 248 == 240) = false) :
    Ending.returned (.tuple #[.int .i64 0, .int .i32 0]) = .returned (.tuple #[.int .i64 (hdN c), .int .i32 (hdR c)]) := by
  subst e
  rw [and224 b h0 h1, beq_eq_false_iff_ne] at g2
  rw [and240 b h0 h1, beq_eq_false_iff_ne] at g3
  rw [and248 b h0 h1, beq_eq_false_iff_ne] at g4
  exact ret_hd (by unfold hdN; repeat' split <;> omega) (by unfold hdR; repeat' split <;> omega)

set_option maxHeartbeats 400000 in
theorem head_any (s : ByteArray) (w : World) (h0 : 0 < s.size) (h1 : s.size ≤ 9223372036854775807) :
    Calls Tryz.prog 160 #[.string s] w fun e w' => e = .returned (.tuple #[.int .i64 (hdN (bt s 0)), .int .i32 (hdR (bt s 0))]) ∧ w = w' := by
  obtain ⟨hs, hs2⟩ := ne_of_pos h0
  have hb := bt_hi s 0
  have hb' : (s[0].toNat : Int) ≤ 255 := by rw [bt_of h0]; exact hb
  have hl' : 0 ≤ (s[0].toNat : Int) := by rw [bt_of h0]; exact bt_lo s 0
  have B := Lib.hid (bt_of h0)
  go_enter Tryz.func160, Tryz.ntmps160
  go_wp2
  all_goals go_ret2
  · exact ⟨hd1 B.out (by assumption), rfl⟩
  · exact ⟨hd2 B.out hl' hb' (by assumption) (by assumption), rfl⟩
  · exact ⟨hd3 B.out hl' hb' (by assumption) (by assumption), rfl⟩
  · exact ⟨hd4 B.out hl' hb' (by assumption) (by assumption), rfl⟩
  · exact ⟨hd0 B.out hl' hb' (by assumption) (by assumption) (by assumption) (by assumption), rfl⟩

theorem head_none (s : ByteArray) (w : World) (h0 : ¬ 0 < s.size) :
    Calls Tryz.prog 160 #[.string s] w fun e w' => e = .returned (.tuple #[.int .i64 0, .int .i32 0]) ∧ w = w' := by
  obtain ⟨hs, hs2⟩ := eq_of_zero h0
  go_enter Tryz.func160, Tryz.ntmps160
  go_wp2
  go_ret2
  exact ⟨rfl, rfl⟩
end Go.Proofs.YtcjiofhjognklaaGreat.Utf

/- A tree that a law made: what stands of it; the chapter's row. -/
import Derived.Test.YtgjcomnljonffaaB31
import Derived.Test.YtgjcomnljonffaaB34
namespace Go.Proofs.Ytgjcomnljonffaa.Tlv
open Go.RowKit
set_option maxRecDepth 100000
set_option linter.unusedVariables false
set_option linter.unusedSimpArgs false
/-- A tree whose blocks are all new since w0. -/
def TI (w0 w : World) (T s : Nat) (l : List KV) : Prop := ∃ F, TreeAt w T s l F ∧ Below w0.heap.size w0 w ∧ ∀ k, F k → w0.heap.size ≤ k
theorem TI.on {w0 w w' : World} {T s : Nat} {l : List KV} (a : TI w0 w T s l) (hb : Below w.heap.size w w') : TI w0 w' T s l := by
  obtain ⟨F, a, b, c⟩ := a
  exact ⟨F, a.on hb, b.trans (hb.mono b.size), c⟩
theorem TI.base {w0 w w' : World} {T s : Nat} {l : List KV} (a : TI w0 w T s l) (hb : Below w.heap.size w w') : Below w0.heap.size w0 w' := by
  obtain ⟨F, a, b, c⟩ := a
  exact b.trans (hb.mono b.size)
theorem TI.chg {w0 w w' : World} {T s : Nat} {l' : List KV} {F F' : Nat → Prop} (b : Below w0.heap.size w0 w) (c : ∀ k, F k → w0.heap.size ≤ k) (h : TChg w T s F l' w' F') : TI w0 w' T s l' :=
  ⟨F', h.tree, b.trans (h.fr.below c b.size), fun k hk => by
    rcases Nat.lt_or_ge k w.heap.size with h1 | h1
    · exact c k (h.old k h1 hk)
    · have := b.size; omega⟩
theorem new_ti (n : Int) (w0 w : World) (hb : Below w0.heap.size w0 w) (h2 : 2 ≤ n) (h3 : n ≤ 64) : Calls Try.prog 9 #[.int .i64 n] w (fun e w' => ∃ s T, n = ((s + 1 : Nat) : Int) ∧ e = .returned (.tuple #[.pointer (some ⟨T, 0, none⟩), .int .i64 0]) ∧ TI w0 w' T s []) := by
  refine (new_any n w).mono ?_
  rintro e w' (⟨h, _⟩ | ⟨s, T, F, rfl, rfl, h4, h5, h6⟩)
  · omega
  · exact ⟨s, T, rfl, rfl, F, h4, hb.trans (h5.mono hb.size), fun k hk => Nat.le_trans hb.size (h6 k hk)⟩
theorem put_ti {w0 w : World} {T s n c : Nat} {l : List KV} {A : Option Addr} {key : Key} {v : Int} (a : TI w0 w T s l) (hk : KAt w A key) (hn : n = key.length) (h0 : A = none → n = 0 ∧ c = 0) (hkl : n ≤ 1000) (hl : l.length ≤ 1000000) :
    Calls Try.prog 12 #[.pointer (some ⟨T, 0, none⟩), .slice A n c, .int .i64 v] w (fun e w' => ∃ old was, e = .returned (.tuple #[.int .i64 old, .bool was]) ∧ (was = true → getL key l = some old) ∧ (was = false → getL key l = none ∧ old = 0) ∧ TI w0 w' T s (putL key v l)) := by
  obtain ⟨F, a, b, c'⟩ := a
  refine (put_tree T s n c l F A key v w a hk hn h0 hkl hl).mono ?_
  rintro e w' ⟨old, was, F', h1, h2, h3, h4⟩
  exact ⟨old, was, h1, h2, h3, TI.chg b c' h4⟩
theorem del_ti {w0 w : World} {T s n c : Nat} {l : List KV} {A : Option Addr} {key : Key} (a : TI w0 w T s l) (hk : KAt w A key) (hn : n = key.length) (hl : l.length ≤ 1000000) :
    Calls Try.prog 15 #[.pointer (some ⟨T, 0, none⟩), .slice A n c] w (fun e w' => ∃ old was, e = .returned (.tuple #[.int .i64 old, .bool was]) ∧ (was = true → getL key l = some old) ∧ (was = false → getL key l = none ∧ old = 0) ∧ TI w0 w' T s (dropL key l)) := by
  obtain ⟨F, a, b, c'⟩ := a
  refine (del_tree T s n c l F A key w a hk hn hl).mono ?_
  rintro e w' ⟨old, was, F', h1, h2, h3, h4⟩
  exact ⟨old, was, h1, h2, h3, TI.chg b c' h4⟩
theorem get_ti {w0 w : World} {T s n c : Nat} {l : List KV} {A : Option Addr} {key : Key} (a : TI w0 w T s l) (hk : KAt w A key) (hn : n = key.length) :
    Calls Try.prog 20 #[.pointer (some ⟨T, 0, none⟩), .slice A n c] w (fun e w' => ∃ v is, e = .returned (.tuple #[.int .i64 v, .bool is]) ∧ (is = true → getL key l = some v) ∧ (is = false → getL key l = none ∧ v = 0) ∧ TI w0 w' T s l) := by
  have a' := a
  obtain ⟨F, a, b, c'⟩ := a
  refine (get_tree T s n c l F A key w a hk hn).mono ?_
  rintro e w' ⟨v, is, h1, h2, h3, h4⟩
  exact ⟨v, is, h1, h2, h3, a'.on h4⟩
theorem len_ti {w0 w : World} {T s : Nat} {l : List KV} (a : TI w0 w T s l) : Calls Try.prog 16 #[.pointer (some ⟨T, 0, none⟩)] w fun e w' => e = .returned (.int .i64 l.length) ∧ w = w' := by
  obtain ⟨F, a, b, c'⟩ := a
  exact len_any T s l F w a
theorem shape_ti {w0 w : World} {T s : Nat} {l : List KV} (a : TI w0 w T s l) (hl : l.length ≤ 100000) : Calls Try.prog 14 #[.pointer (some ⟨T, 0, none⟩)] w (fun e w' => ∃ v sh, e = .returned v ∧ Hid (RowsAt w' w.heap.size v sh ∧ SndL (s + 1) l.length sh ∧ sh.length ≤ 1000000) ∧ TI w0 w' T s l) := by
  have a' := a
  obtain ⟨F, ⟨h, d, a⟩, b, c'⟩ := a
  refine (shape_any T s l F h d w a (by omega)).mono ?_
  rintro e w' ⟨v, h1, h2, h3⟩
  refine ⟨v, _, h1, Lib.hid ⟨h2, a.snd, ?_⟩, a'.on h3⟩
  by_cases hz : l = []
  · rw [if_pos hz]; simp
  · rw [if_neg hz, shape_len]
    have hll : (flat h d).length = l.length := by rw [← a.kvs]; simp
    have hlp : l.length ≠ 0 := fun e => hz (List.eq_nil_of_length_eq_zero e)
    have h4 : 1 ≤ d.its.length := by
      rcases Nat.eq_zero_or_pos h with e | e
      · subst e
        have h1 : (flat 0 d).length = d.its.length := rfl
        omega
      · exact a.root e
    have := tall (by have := a.deg; omega) h d a.ts.bal h4
    omega
theorem sound_ti {w0 w : World} {T s base t : Nat} {l : List KV} {v : Value} {sh : List (List Nat)} {keys : Int} (a : TI w0 w T s l) (hv : Hid (RowsAt w base v sh ∧ SndL (s + 1) l.length sh ∧ sh.length ≤ 1000000)) (hl : l.length ≤ 100000) (hk : keys = l.length) (ht : t = s + 1) :
    Calls Try.prog 13 #[v, .int .i64 keys, .int .i64 t] w (fun e w' => e = .returned (.bool true) ∧ w' = w) := by
  obtain ⟨F, ⟨h, d, a⟩, b, c'⟩ := a
  subst hk ht
  exact sound_any (s + 1) l.length base v sh w hv.out.1 hv.out.2.1 (by have := a.deg; omega) hl hv.out.2.2
theorem key1 (w : World) (x : Nat) (hx : x < 256) : KAt (w.alloc (.cells #[.int .u8 x] 5)) (some ⟨w.heap.size, 0, none⟩) [UInt8.ofNat x] := fun _ => ⟨_, 0, _, rfl, Blk.new w 5 _, fun j hj => by
  have : j = 0 := by simp at hj; exact hj
  subst this
  simp [Nat.mod_eq_of_lt hx]⟩
theorem key2 (w : World) (x y : Nat) (hx : x < 256) (hy : y < 256) : KAt (w.alloc (.cells #[.int .u8 x, .int .u8 y] 5)) (some ⟨w.heap.size, 0, none⟩) [UInt8.ofNat x, UInt8.ofNat y] := fun _ => ⟨_, 0, _, rfl, Blk.new w 5 _, fun j hj => by
  simp at hj
  rcases j with _ | _ | j
  · simp [Nat.mod_eq_of_lt hx]
  · simp [Nat.mod_eq_of_lt hy]
  · omega⟩
def kL : Nat → List KV
  | 0 => []
  | i + 1 => kL i ++ [([UInt8.ofNat (i + 1)], ((i + 1 : Nat) : Int))]
theorem kL_put : ∀ i, i < 5 → putL [UInt8.ofNat (i + 1)] ((i + 1 : Nat) : Int) (kL i) = kL (i + 1) := by decide
set_option maxHeartbeats 8000000 in
theorem known_any (w : World) : Calls Try.prog 8 #[] w fun e w' => e = .returned (.bool true) ∧ Below w.heap.size w w' := by
  have HNW := Lib.hid (new_ti 2 w w (Below.refl _ _) (by decide) (by decide))
  go_enter Try.func8, Try.ntmps8
  go_upto_region 5 with (go_at_call 9; (with_reducible refine HNW.out.mono ?_); rintro e w1 ⟨s, T, hs, rfl, hti⟩; dsimp only)
  have hs1 : s = 1 := by omega
  subst hs1
  clear hs
  go_loopg [3] 6 (fun g s3 wr => ∃ k : Nat, s3 = .int .i64 k ∧ 1 ≤ k ∧ k ≤ 6 ∧ 6 - k < g ∧ Hid (TI w wr T 1 (kL (k - 1))))
  case atStart => exact ⟨1, rfl, by omega, by omega, by omega, Lib.hid hti⟩
  case round =>
    obtain ⟨k, rfl, hk1, hk, hg, HT⟩ := hrel
    by_cases h5 : k ≤ 5
    · have hki : (k : Int) ≤ 5 := by omega
      have w1 : IntKind.u8.wrap (k : Int) = (k : Int) := by rw [IntKind.wrap_u8]; omega
      have w2 : IntKind.i64.wrap ((k : Int) + 1) = ((k + 1 : Nat) : Int) := by rw [IntKind.wrap_i64]; omega
      have HP := Lib.hid (put_ti (n := 1) (c := 1) (v := (k : Int)) (HT.out.on ((Below.refl _ _).alloc (Nat.le_refl _) (.cells #[.int .u8 k] 5))) (key1 wr k (by omega)) rfl (fun h => by cases h) (by decide) (by
        have : k - 1 < 6 := by omega
        have h6 : ∀ j, j < 6 → (kL j).length ≤ 1000000 := by decide
        exact h6 _ this))
      have hput : putL [UInt8.ofNat k] (k : Int) (kL (k - 1)) = kL k := by
        have h6 := kL_put (k - 1) (by omega)
        rw [show k - 1 + 1 = k by omega] at h6
        exact h6
      rw [hput] at HP
      clear hput
      go_wp2_with (go_at_call 12; (with_reducible refine HP.out.mono ?_); rintro e w2 ⟨old, was, rfl, _, _, hti2⟩; dsimp only)
      go_roundg (6 - k)
      case measure => omega
      case rel => exact ⟨k + 1, by go_num, by omega, by omega, by omega, Lib.hid (by simpa using hti2)⟩
    · have hk6 : k = 6 := by omega
      subst hk6
      have ht5 : TI w wr T 1 (kL 5) := HT.out
      have HG := Lib.hid (get_ti (n := 1) (c := 1) (ht5.on ((Below.refl _ _).alloc (Nat.le_refl _) (.cells #[.int .u8 (3 : Nat)] 5))) (key1 wr 3 (by decide)) rfl)
      rw [show ((3 : Nat) : Int) = 3 from rfl] at HG
      have hget : getL [UInt8.ofNat 3] (kL 5) = some 3 := by decide
      have hlen : (kL 5).length = 5 := by decide
      go_wp2_with (first
        | (go_at_call 20; (with_reducible refine HG.out.mono ?_); rintro e w2 ⟨v, is, rfl, hv1, hv2, hti2⟩; dsimp only
           obtain rfl : is = true := by
             cases is
             · have := (hv2 rfl).1; rw [hget] at this; cases this
             · rfl
           obtain rfl : v = 3 := by have := hv1 rfl; rw [hget] at this; exact (Option.some.inj this).symm
           have HL := Lib.hid (len_ti hti2)
           have HS := Lib.hid (shape_ti hti2 (by rw [hlen]; decide))
           clear hv1 hv2)
        | (go_at_call 16; (with_reducible refine HL.out.mono ?_); rintro e w3 ⟨rfl, rfl⟩; dsimp only; simp only [hlen])
        | (go_at_call 14; (with_reducible refine HS.out.mono ?_); rintro e w4 ⟨v4, sh4, rfl, hsh, hti4⟩; dsimp only
           have HSD := Lib.hid (sound_ti (t := 2) (keys := 5) hti4 hsh (by rw [hlen]; decide) (by rw [hlen]; rfl) rfl)
           rw [show ((2 : Nat) : Int) = 2 from rfl] at HSD)
        | (go_at_call 13; (with_reducible refine HSD.out.mono ?_); rintro e w5 ⟨rfl, rfl⟩; dsimp only))
      go_ret
      exact ⟨rfl, hti4.base (Below.refl _ _)⟩
end Go.Proofs.Ytgjcomnljonffaa.Tlv

/- Attributes: how they stand; lists that rise. -/
import GoSem.Op.String
import Derived.Test.YtidkpdoiblomjaaZ05
namespace Go.Proofs.Ytidkpdoiblomjaa
set_option linter.unusedVariables false
abbrev bless := Op.bytesLess
theorem bless_irrefl : ∀ x, bless x x = false
 | [] => rfl
 | a :: x => by
   have h := bless_irrefl x
   show (decide (a < a) || (a == a && bless x x)) = false
   rw [h]
   simp
theorem bless_cons {a b : UInt8} {x y : List UInt8} : bless (a :: x) (b :: y) = true ↔ a < b ∨ a = b ∧ bless x y = true := by
 show (decide (a < b) || (a == b && bless x y)) = true ↔ _
 simp
theorem u8_tri (a b : UInt8) : a < b ∨ a = b ∨ b < a := by
 rcases Nat.lt_trichotomy a.toNat b.toNat with h | h | h
 · exact .inl (UInt8.lt_iff_toNat_lt.2 h)
 · exact .inr (.inl (UInt8.toNat_inj.1 h))
 · exact .inr (.inr (UInt8.lt_iff_toNat_lt.2 h))
theorem u8_trans {a b c : UInt8} (h : a < b) (k : b < c) : a < c := UInt8.lt_iff_toNat_lt.2 (Nat.lt_trans (UInt8.lt_iff_toNat_lt.1 h) (UInt8.lt_iff_toNat_lt.1 k))
theorem bless_trans : ∀ {x y z : List UInt8}, bless x y = true → bless y z = true → bless x z = true
 | x, [], _, h, _ => by cases x <;> simp [bless, Op.bytesLess] at h
 | _, _ :: _, [], _, h => by simp [bless, Op.bytesLess] at h
 | [], _ :: _, _ :: _, _, _ => rfl
 | a :: x, b :: y, c :: z, h, k => by
   rw [bless_cons] at h k ⊢
   rcases h with h | ⟨rfl, h⟩
   · rcases k with k | ⟨rfl, k⟩
     · exact .inl (u8_trans h k)
     · exact .inl h
   · rcases k with k | ⟨rfl, k⟩
     · exact .inl k
     · exact .inr ⟨rfl, bless_trans h k⟩
theorem bless_tri : ∀ (x y : List UInt8), bless x y = true ∨ x = y ∨ bless y x = true
 | [], [] => .inr (.inl rfl)
 | [], _ :: _ => .inl rfl
 | _ :: _, [] => .inr (.inr rfl)
 | a :: x, b :: y => by
   rw [bless_cons, bless_cons]
   rcases u8_tri a b with h | rfl | h
   · exact .inl (.inl h)
   · rcases bless_tri x y with h | rfl | h
     · exact .inl (.inr ⟨rfl, h⟩)
     · exact .inr (.inl rfl)
     · exact .inr (.inr (.inr ⟨rfl, h⟩))
   · exact .inr (.inr (.inl h))
theorem bless_asymm {x y : List UInt8} (h : bless x y = true) : bless y x = false := by
 cases k : bless y x with
 | false => rfl
 | true => have := bless_trans h k; rw [bless_irrefl] at this; cases this
structure At where
 t : List UInt8
 v : List UInt8
deriving Inhabited, DecidableEq
def ltA (x y : At) : Bool := bless x.t y.t || (x.t == y.t && bless x.v y.v)
theorem ltA_iff {x y : At} : ltA x y = true ↔ bless x.t y.t = true ∨ x.t = y.t ∧ bless x.v y.v = true := by unfold ltA; simp
theorem ltA_irrefl (x : At) : ltA x x = false := by unfold ltA; rw [bless_irrefl, bless_irrefl]; simp
theorem ltA_trans {x y z : At} (h : ltA x y = true) (k : ltA y z = true) : ltA x z = true := by
 rw [ltA_iff] at *
 rcases h with h | ⟨e, h⟩
 · rcases k with k | ⟨e', k⟩
   · exact .inl (bless_trans h k)
   · exact .inl (e' ▸ h)
 · rcases k with k | ⟨e', k⟩
   · exact .inl (e ▸ k)
   · exact .inr ⟨e.trans e', bless_trans h k⟩
theorem ltA_asymm {x y : At} (h : ltA x y = true) : ltA y x = false := by
 cases k : ltA y x with
 | false => rfl
 | true => have := ltA_trans h k; rw [ltA_irrefl] at this; cases this
def cmpA (x y : At) : Int := if ltA x y = true then -1 else if ltA y x = true then 1 else 0
def cmpB (x y : List UInt8) : Int := if bless x y = true then -1 else if bless y x = true then 1 else 0
theorem cmpA_or (x y : At) : cmpA x y = if cmpB x.t y.t = 0 then cmpB x.v y.v else cmpB x.t y.t := by
 unfold cmpA cmpB
 rcases bless_tri x.t y.t with h | h | h
 · have h2 := bless_asymm h
   have e1 : ltA x y = true := ltA_iff.2 (.inl h)
   simp [h, e1]
 · have e1 : ltA x y = bless x.v y.v := by unfold ltA; rw [h, bless_irrefl]; simp
   have e2 : ltA y x = bless y.v x.v := by unfold ltA; rw [h, bless_irrefl]; simp
   rw [h, bless_irrefl, e1, e2]
   simp
 · have h2 := bless_asymm h
   have e1 : ltA y x = true := ltA_iff.2 (.inl h)
   have e2 : ltA x y = false := ltA_asymm e1
   simp [h, h2, e1, e2]
def Rises (l : List At) : Prop := l.Pairwise fun x y => ltA x y = true
end Go.Proofs.Ytidkpdoiblomjaa
namespace Go.Proofs.Ytidkpdoiblomjaa
open Go.RowKit
set_option linter.unusedVariables false
set_option linter.unusedSimpArgs false
def sx (l : List UInt8) : ByteArray := ⟨l.toArray⟩
theorem sx_data (l : List UInt8) : (sx l).data.toList = l := by unfold sx; simp
theorem data_sx (s : ByteArray) : sx s.data.toList = s := by cases s; unfold sx; simp
theorem sx_size (l : List UInt8) : (sx l).size = l.length := by unfold sx; exact List.size_toArray
theorem sx_list (r : List UInt8) : (sx r).toList = r := by rw [ByteArray.toList_eq, sx_data]
abbrev At.val (a : At) : Value := .agg #[.string (sx a.t), .string (sx a.v)]
def At.cells (a : At) : List Value := [.string (sx a.t), .string (sx a.v)]
theorem info29 : ∃ (i : TypeInfo) (z : Value), Try.prog.info? 117 = some i ∧ i.zero = some z ∧ i.size = 2 ∧ i.bytes = 32 ∧ z.cells.size = 2 := by
 have h : (Try.prog.info? 117).map (fun i => (i.zero, i.size, i.bytes)) = some (some (.agg #[.string ⟨#[]⟩, .string ⟨#[]⟩]), 2, 32) := by kernel_rfl
 obtain ⟨i, hi, h0, h1, h2⟩ := info_parts h
 exact ⟨i, _, hi, h0, h1, h2, rfl⟩
def kA : Kind At where
 e := 117
 st := 45
 size := 2
 bytes := 32
 cs := At.cells
 len := fun _ => rfl
 one := fun x u hu => by simp [At.cells] at hu; rcases hu with rfl | rfl <;> rfl
 pos := by decide
 sl := Try.underlying45
 zero := info29
 small := by decide
theorem RowK.low {α : Type} {K : Kind α} {w : World} {base base' : Nat} {v : Value} {l : List α} (h : RowK K w base v l) (hb : base' ≤ base) : RowK K w base' v l := by
 refine ⟨h.1, ?_⟩
 rcases h.2 with h0 | ⟨g, cap, cur, hv, hg, rest⟩
 · exact .inl h0
 · exact .inr ⟨g, cap, cur, hv, Nat.le_trans hb hg, rest⟩
theorem at_cells {w w' : World} {n k : Nat} {A : Option Addr} {l : List At} (h : RdK kA w n A l) (hb : Below n w w') (hk : k < l.length) : ∃ b off, A = some ⟨b, off, none⟩ ∧ b < n ∧
   w'.cell? ⟨b, off + k * 2, none⟩ = some (.string (sx (l.getD k default).t)) ∧ w'.cell? ⟨b, off + k * 2 + 1, none⟩ = some (.string (sx (l.getD k default).v)) := by
 obtain ⟨b, off, e, hlt, hc⟩ := h (by omega)
 exact ⟨b, off, e, hlt, (hb.cell (p := ⟨b, off + k * 2, none⟩) hlt).trans (hc k hk 0 _ rfl), (hb.cell (p := ⟨b, off + k * 2 + 1, none⟩) hlt).trans (hc k hk 1 _ rfl)⟩
end Go.Proofs.Ytidkpdoiblomjaa

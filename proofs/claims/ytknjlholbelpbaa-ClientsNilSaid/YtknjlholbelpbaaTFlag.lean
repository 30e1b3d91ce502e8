/- A flag, put into a writer. -/
import Derived.Test.YtknjlholbelpbaaTPutM
namespace Go.Proofs.Ytknjlholbelpbaa.Tlv
open Go.RowKit
set_option maxRecDepth 100000
set_option linter.unusedVariables false
set_option linter.unusedSimpArgs false

set_option maxHeartbeats 1000000 in
theorem flag_any (g : Nat) (s : Option (List Int)) (m : Nat) (tag : Int) (b : Bool) (base : Nat) (w : World) (hs : WS w base g s m) (hb : base ≤ w.heap.size) (ht : 0 ≤ tag) (ht2 : tag ≤ 255) (hl : ∀ l, s = some l → l.length ≤ 100000000) (hm : m ≤ 1000000) (hgb : base ≤ g) :
    Calls Try.prog 33 #[.pointer (some ⟨g, 0, none⟩), .int .u8 tag, .bool b] w fun e w' => e = .returned (.pointer (some ⟨g, 0, none⟩)) ∧
      WS w' base g (putS s tag [if b = true then 1 else 0]) (cntS s tag m) ∧ WB base w w' := by
  have hbel : ∀ o, WB base w (w.alloc o) := fun o => WB.of ((Below.refl _ _).alloc (Nat.le_refl _) o) hb
  have hbel' : ∀ o, Below w.heap.size w (w.alloc o) := fun o => (Below.refl _ _).alloc (Nat.le_refl _) o
  cases b with
  | true =>
    have h := Lib.hid (bytes_any g s m [1] tag (some ⟨w.heap.size, 0, none⟩) 1 base (w.alloc (.cells #[.int .u8 1] 5)) (hs.on (hbel' _)) (by simp; omega) (fun l e => by subst e; exact src_new hs [1] _ rfl) (fun e => by cases e) ht ht2 (by decide) hl hm hgb)
    clear hs hl
    go_enter Try.func33, Try.ntmps33
    go_wp2_with fail
    refine h.out.mono ?_
    rintro e w1 ⟨rfl, h1, h2⟩
    go_wp2_with fail
    go_ret
    exact ⟨rfl, h1, (hbel _).trans h2⟩
  | false =>
    have h := Lib.hid (bytes_any g s m [0] tag (some ⟨w.heap.size, 0, none⟩) 1 base (w.alloc (.cells #[.int .u8 0] 5)) (hs.on (hbel' _)) (by simp; omega) (fun l e => by subst e; exact src_new hs [0] _ rfl) (fun e => by cases e) ht ht2 (by decide) hl hm hgb)
    clear hs hl
    go_enter Try.func33, Try.ntmps33
    go_wp2_with fail
    refine h.out.mono ?_
    rintro e w1 ⟨rfl, h1, h2⟩
    go_wp2_with fail
    go_ret
    exact ⟨rfl, h1, (hbel _).trans h2⟩

end Go.Proofs.Ytknjlholbelpbaa.Tlv

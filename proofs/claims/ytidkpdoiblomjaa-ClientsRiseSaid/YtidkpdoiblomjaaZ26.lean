/- An operation's bytes. -/
import Derived.Test.YtidkpdoiblomjaaZ24
import Derived.Test.YtidkpdoiblomjaaZ18
import Derived.Laws.BytesArg
import Derived.Test.YtidkpdoiblomjaaZ25
import Derived.Test.YtidkpdoiblomjaaZ04
namespace Go.Proofs.Ytidkpdoiblomjaa.Tlv
open Go.RowKit
set_option maxRecDepth 100000
set_option linter.unusedVariables false
set_option linter.unusedSimpArgs false
abbrev numB (t n : Int) : List Int := valB t (be8 n)
theorem be8_length (n : Int) : (be8 n).length = 8 := rfl
theorem RdC.full {w : World} {v : Value} {l : List Int} (h : RdC w v l) : ∃ A c n, v = .slice A n c ∧ Hid (n = l.length) ∧ Hid (Rd w w.heap.size A l ∧ (A = none → c = 0)) := by
 obtain ⟨A, c, e, h0, h1⟩ := h
 exact ⟨A, c, _, e, Lib.hid rfl, Lib.hid ⟨h1, h0.1⟩⟩
theorem Row.lowC {w : World} {base base' : Nat} {v : Value} {l : List Int} (h : Row w base v l) (hb : base' ≤ base) : Row w base' v l := by
 refine ⟨h.1, ?_⟩
 rcases h.2 with h0 | ⟨g, cap, cur, hv, hg, rest⟩
 · exact .inl h0
 · exact .inr ⟨g, cap, cur, hv, Nat.le_trans hb hg, rest⟩
theorem num_len {t n : Int} : (numB t n).length ≤ 100 := by simp [valB_length, be8_length]
def cx (l : List Int) : List UInt8 := l.map fun n => UInt8.ofNat n.toNat
theorem cx_inj : ∀ {a b : List Int}, Byt a → Byt b → cx a = cx b → a = b
 | [], [], _, _, _ => rfl
 | [], _ :: _, _, _, h => by simp [cx] at h
 | _ :: _, [], _, _, h => by simp [cx] at h
 | x :: a, y :: b, ha, hb, h => by
   simp only [cx, List.map_cons, List.cons.injEq] at h
   have h1 := ha x (List.mem_cons_self ..)
   have h2 := hb y (List.mem_cons_self ..)
   have e := congrArg UInt8.toNat h.1
   simp only [UInt8.toNat_ofNat'] at e
   have e2 : x = y := by omega
   rw [e2, cx_inj (fun z hz => ha z (List.mem_cons_of_mem _ hz)) (fun z hz => hb z (List.mem_cons_of_mem _ hz)) h.2]
theorem cx_beq {a b : List Int} (ha : Byt a) (hb : Byt b) : ((sx (cx a)).toList == (sx (cx b)).toList) = decide (a = b) := by
 rw [Ytidkpdoiblomjaa.sx_beq]
 by_cases h : a = b
 · simp [h]
 · have : cx a ≠ cx b := fun e => h (cx_inj ha hb e)
   simp [h, this]
theorem conv_bytes {A : Option Addr} {c n : Nat} {l : List Int} {w : World} (hr : Rd w w.heap.size A l) (hn : n = l.length) : (convert 37 9 (.slice A n c)).run Try.prog w = .ok (.string (sx (cx l))) w := by
 subst hn
 cases A with
 | none =>
   have hl : l = [] := by
     cases l with
     | nil => rfl
     | cons x t => obtain ⟨b, off, e, _⟩ := hr (by simp); cases e
   subst hl
   exact run_convert_bytes_nil (P := Try.prog) w 37 5 Try.underlying37 Try.underlying5 _ c 9 Try.underlying9
 | some ad =>
   by_cases hp : 0 < l.length
   · obtain ⟨b, off, e, _, hc⟩ := hr hp
     injection e with e
     subst e
     exact run_convert_bytes_arg (P := Try.prog) w 37 5 Try.underlying37 Try.underlying5 b off l.length c l rfl hc 9 Try.underlying9
   · have hl : l = [] := List.eq_nil_of_length_eq_zero (by omega)
     subst hl
     have h := run_convert_bytes_string (P := Try.prog) w 37 9 5 (some ad) 0 c Try.underlying37 Try.underlying5 Try.underlying9
     rw [show ([] : List Int).length = 0 from rfl, h, run_bytesToString w ad 0 c [] rfl]
     rfl
theorem equal_byt (a b : List Int) (va vb : Value) (w : World) (hva : RdC w va a) (hvb : RdC w vb b) (ha : Byt a) (hb : Byt b) :
   Calls Try.prog 45 #[va, vb] w fun e w' => e = .returned (.bool (decide (a = b))) ∧ Below w.heap.size w w' := by
 obtain ⟨A, c, rfl, _, hr⟩ := hva
 obtain ⟨B, d, rfl, _, hr2⟩ := hvb
 have h1 := conv_bytes (c := c) hr rfl
 have h2 := conv_bytes (c := d) hr2 rfl
 have g := cx_beq ha hb
 generalize decide (a = b) = r at g ⊢
 generalize a.length = n at h1 ⊢
 generalize b.length = m at h2 ⊢
 generalize sx (cx a) = s1 at h1 g
 generalize sx (cx b) = s2 at h2 g
 clear hr hr2 ha hb
 go_enter Try.func45, Try.ntmps45
 go_wp2
 go_ret
 exact ⟨by rw [← g]; rfl, Below.refl _ _⟩
def handB (hs : List Hand) (k : Nat) : List Int := valB 1 (hs.getD k default).bs
theorem hand_cell {w : World} {n k : Nat} {A : Option Addr} {hs : List Hand} (h : RdK kS w n A hs) (hk : k < hs.length) : ∃ b off, A = some ⟨b, off, none⟩ ∧ b < n ∧ w.cell? ⟨b, off + k, none⟩ = some (.slice (hs.getD k default).A (hs.getD k default).bs.length (hs.getD k default).c) := by
 obtain ⟨b, off, e, hlt, hc⟩ := h (by omega)
 refine ⟨b, off, e, hlt, ?_⟩
 have := hc k hk 0 _ rfl
 rwa [show off + k * kS.size + 0 = off + k from by show off + k * 1 + 0 = off + k; omega] at this
theorem mem_getH {l : List Hand} {k : Nat} (h : k < l.length) : l.getD k default ∈ l := by rw [List.getD_eq_getElem?_getD, List.getElem?_eq_getElem h]; exact List.getElem_mem _
theorem handPut (g B k m : Nat) (q : List Int) (hs : List Hand) (A : Option Addr) (c n : Nat) (W : World) (hw : WS W g g (some q) m) (hB : Blk W B 79 #[.slice A n c]) (hr : RdK kS W W.heap.size A hs) (hn : n = hs.length) (hk : k < hs.length) (hsz : ∀ x ∈ hs, Rd W g x.A x.bs ∧ (x.A = none → x.c = 0) ∧ x.bs.length ≤ 4194304) (hq : q.length ≤ 4000000) (hm : m ≤ 1000000) :
   Calls Try.prog 57 #[ptr g, .int .i64 (k : Int), ptr B] W fun e w' => (∃ v, e = .returned v) ∧ WS w' g g (some (q ++ handB hs k)) (m + 1) ∧ WB g W w' := by
 obtain ⟨b, off, rfl, _, c0⟩ := hand_cell hr hk
 have d0 : W.cell? ⟨B, 0, none⟩ = some (.slice (some ⟨b, off, none⟩) n c) := hB.cell 0
 obtain ⟨h1, h2, h3⟩ := hsz _ (mem_getH hk)
 have hE : Hid (q ++ handB hs k = q ++ valB 1 (hs.getD k default).bs) := Lib.hid rfl
 rw [hE.out]
 generalize hs.getD k default = x at c0 h1 h2 h3 ⊢
 obtain ⟨xt, xA, xc, xb⟩ := x
 dsimp only at c0 h1 h2 h3 ⊢
 obtain ⟨xn, hxn⟩ : ∃ j, j = xb.length := ⟨_, rfl⟩
 have HT := w_bytes g q m 1 xb xA xc xn W hw hxn h1 h2 (by decide) (by decide) h3 (by omega) hm
 rw [← hxn] at c0
 have hlt : k < n := by omega
 clear hw hB hr hn hk hsz hq hm hE h1 h2 h3 hxn
 go_enter Try.func57, Try.ntmps57
 go_wp2_with ((with_reducible refine HT.out.mono ?_); rintro e w1 ⟨rfl, h1, h2⟩; have H1 := Lib.hid (And.intro h1 h2); clear h1 h2)
 exact bodyPost_end (v := .tuple #[]) (by simp [results, Try.f57, go_sem]) rfl ⟨⟨_, rfl⟩, H1.out⟩
def handsB (hs : List Hand) : List Int := hs.flatMap fun x => valB 1 x.bs
theorem allI_hands (l : List Hand) : ∀ k, k ≤ l.length → allI (handB l) k = handsB (l.take k) := by
 intro k
 induction k with
 | zero => intro _; rfl
 | succ k ih =>
   intro h
   rw [allI_succ, ih (by omega), take_snocH l k (by omega)]
   unfold handsB
   rw [List.flatMap_append]
   simp [handB]
theorem w_hands (g B m : Nat) (q : List Int) (hs : List Hand) (A : Option Addr) (c n : Nat) (W : World) (hw : WS W g g (some q) m) (hB : Blk W B 79 #[.slice A n c]) (hr : RdK kS W g A hs) (hn : n = hs.length) (hl : hs.length ≤ 1000) (hsz : ∀ x ∈ hs, Rd W g x.A x.bs ∧ (x.A = none → x.c = 0) ∧ x.bs.length ≤ 4194304) (hall : ∀ k, k ≤ hs.length → (handsB (hs.take k)).length ≤ 4000000) (hq : q.length ≤ 100000000) (hm : m ≤ 1000000) :
   Hid (Calls Try.prog 56 #[ptr g, .int .u8 3, .int .i64 (n : Int), .func (.func 57) #[] #[ptr B]] W (Put1 g (q ++ valB 3 (handsB hs)) m W)) := Lib.hid (by
 subst hn
 have hgl := hw.lt
 have h := listR_any g B g (some q) m hs.length (handB hs) 3 W hw (Nat.le_of_lt hgl) hl
   (fun k q' m' W' hk hs' hwb hq' hm' => (handPut W.heap.size B k m' q' hs A c hs.length W' hs' (hwb.kp _ 79 _ (by decide) (by decide) (hB.alloc _)) ((((hr.more (Nat.le_of_lt hgl)).below ((Below.refl _ _).alloc (Nat.le_refl _) (.cells #[.slice none 0 0, .int .i64 0, .int .i64 0] 108))).below hwb.bel).more (Nat.le_of_lt hs'.lt)) rfl hk (fun x hx => ⟨(((hsz x hx).1.more (Nat.le_of_lt hgl)).below ((Below.refl _ _).alloc (Nat.le_refl _) (.cells #[.slice none 0 0, .int .i64 0, .int .i64 0] 108))).below hwb.bel, (hsz x hx).2⟩) hq' hm').mono fun e w' ⟨h1, h2, h3⟩ => ⟨h1, h2, h3⟩)
   (fun k hk => by rw [allI_hands hs k hk]; exact hall k hk) (Nat.le_refl _) (by decide) (by decide) (fun l' e => by injection e with e; subst e; exact hq) hm
 rw [puts_app (by decide), cnts_app (by decide), allI_hands hs hs.length (Nat.le_refl _), List.take_length] at h
 exact h)
end Go.Proofs.Ytidkpdoiblomjaa.Tlv

/- What the document's reader takes off a result's bytes. -/
import Derived.Test.YtcjiofhjognklaaGreatY39
import Derived.Test.YtcjiofhjognklaaGreatY45
namespace Go.Proofs.YtcjiofhjognklaaGreat.Tlv
open Go.RowKit Go.Lib Go.Sort
set_option maxRecDepth 100000
set_option linter.unusedVariables false
set_option linter.unusedSimpArgs false
set_option maxHeartbeats 8000000 in
theorem refFlagV (D g : Nat) (f : Bool) (r : List Int) (tag : Int) (w : World) (hs : RR w D g f r) :
   Calls Tryz.prog 94 #[.pointer (some ⟨g, 0, none⟩), .int .u8 tag] w fun e w' => e = .returned (.bool (flgV (tk f r tag)).1) ∧ RR w' D g (flgV (tk f r tag)).2.1 (flgV (tk f r tag)).2.2 ∧ w.grownBy w' (some g) := by
 have HT := Lib.hid (refTake_any D g f r tag w hs)
 have hby := (tk_byt (f := f) (tag := tag) hs.byt).1
 have hcase := take_tk (f := f) (r := r) (tag := tag)
 generalize tk f r tag = t at HT hby hcase ⊢
 obtain ⟨o, f1, r1⟩ := t
 dsimp only at hby hcase
 clear hs
 have HCS := Lib.hid hcase
 have HBY := Lib.hid hby
 clear hcase hby
 go_enter Tryz.func94, Tryz.ntmps94
 go_wp2_with fail
 refine HT.out.mono ?_
 clear HT
 intro e w1 h
 obtain ⟨A1, c1, rfl, hr1, hA1, hA2, hc1, hc2, hRR, hg⟩ := take_form h
 clear h
 dsimp only at hr1 hc1 hRR ⊢
 obtain ⟨A9, c9, hblk, _⟩ := hRR.2
 have g1 : w1.cell? ⟨g, 1, none⟩ = some (.bool f1) := hblk.cell 1
 have gf : w1.frozen? ⟨g, 1, none⟩ = false := hblk.frozen 1
 have HRR := Lib.hid (And.intro hRR hg)
 clear hblk hRR hg hc1 hc2 hA1 hA2
 rcases HCS.out with ⟨rfl, rfl⟩ | ⟨v, rfl, rfl⟩
 · have HE : Hid (flgV ((none : Option (List Int)), true, r1) = (false, true, r1)) := Lib.hid rfl
   clear hr1
   go_wp2_with fail
   have HF := Lib.hid (And.intro HRR.out.1.bad (grownBy_trans HRR.out.2 (blk_set_grown w1 g 1 (.bool true))))
   go_ret
   exact ⟨by rw [HE.out]; rfl, by rw [HE.out]; exact HF.out.1, HF.out.2⟩
 · simp only [Option.getD_some] at hr1 ⊢
   have bad : (∀ x : Int, ¬ (v = [x] ∧ x ≤ 1)) → flgV (some v, false, r1) = (false, true, r1) := fun h => by
     unfold flgV
     rw [if_neg (fun e => h 0 ⟨by injection e, by decide⟩), if_neg (fun e => h 1 ⟨by injection e, by decide⟩)]
   rcases v with _ | ⟨x, _ | ⟨y, v⟩⟩
   · have HE := Lib.hid (bad fun x h => by cases h.1)
     clear hr1 bad
     go_wp2_with fail
     have HF := Lib.hid (And.intro HRR.out.1.bad (grownBy_trans HRR.out.2 (blk_set_grown w1 g 1 (.bool true))))
     go_ret
     exact ⟨by rw [HE.out]; rfl, by rw [HE.out]; exact HF.out.1, HF.out.2⟩
   · obtain ⟨b, off, rfl, hb, hc⟩ := hr1 (Nat.zero_lt_one)
     have ck : w1.cell? ⟨b, off, none⟩ = some (.int .u8 x) := hc 0 (Nat.zero_lt_one)
     have hx := HBY.out x (List.mem_singleton.2 rfl)
     obtain ⟨hx0, hx1⟩ := hx
     by_cases h1 : (1 : Int) < x
     · have HE := Lib.hid (bad fun z h => by have h2 := h.1; have h3 := h.2; injection h2 with h2; omega)
       clear hr1 bad hc
       go_wp2_with fail
       have HF := Lib.hid (And.intro HRR.out.1.bad (grownBy_trans HRR.out.2 (blk_set_grown w1 g 1 (.bool true))))
       go_ret
       exact ⟨by rw [HE.out]; rfl, by rw [HE.out]; exact HF.out.1, HF.out.2⟩
     · clear hr1 bad hc
       have HE : Hid (flgV (some [x], false, r1) = (x == 1, false, r1)) := Lib.hid (by
         have hx : x = 0 ∨ x = 1 := by omega
         rcases hx with rfl | rfl <;> rfl)
       go_wp2_with fail
       go_ret
       exact ⟨by rw [HE.out]; rfl, by rw [HE.out]; exact HRR.out.1, HRR.out.2⟩
   · have HE := Lib.hid (bad fun z h => by cases h.1)
     obtain ⟨n, hn⟩ : ∃ n, n = (x :: y :: v).length := ⟨_, rfl⟩
     have h8 : ((n : Int) != 1) = true := by simp [hn]; omega
     rw [← hn]
     clear hr1 bad hn
     go_wp2_with fail
     have HF := Lib.hid (And.intro HRR.out.1.bad (grownBy_trans HRR.out.2 (blk_set_grown w1 g 1 (.bool true))))
     go_ret
     exact ⟨by rw [HE.out]; rfl, by rw [HE.out]; exact HF.out.1, HF.out.2⟩
abbrev SmV (ls : List (List Int)) : Prop := (∀ x ∈ ls, x.length ≤ 4194304) ∧ (valsB 1 ls).length ≤ 4194304
theorem took_vals {f : Bool} {r : List Int} {tag : Int} (hb : Byt r) (ht : tag ≠ 0) :
   Took (fun ls => valB tag (valsB 1 ls)) SmV f r (if (tk f r tag).2.1 = false ∧ allT 1 ((tk f r tag).1.getD []) = true then snds ((tk f r tag).1.getD []) else []) (if (tk f r tag).2.1 = false ∧ allT 1 ((tk f r tag).1.getD []) = true then false else true) (tk f r tag).2.2 := by
 have h := took_bytes (f := f) hb ht
 have hby := (tk_byt (f := f) (tag := tag) hb).1
 generalize tk f r tag = t at h hby ⊢
 refine ⟨fun h0 => ?_, fun h0 a0 r1 hg e => ?_⟩
 · split at h0
   · rename_i hc
     rw [if_pos hc]
     obtain ⟨h1, h2, h3⟩ := h.1 hc.1
     obtain ⟨i1, i2⟩ := allT_inv _ _ (Nat.le_refl _) hby hc.2
     exact ⟨h1, by dsimp only; rw [← i1]; exact h2, fun x hx => (i2 x hx).1, by rw [← i1]; exact h3.1⟩
   · cases h0
 · have hB : Byt (valsB 1 a0) := by
     rw [e] at hb
     intro x hx
     exact hb x (by simp [valB, hx])
   obtain ⟨h1, h2, h3⟩ := h.2 h0 (valsB 1 a0) r1 ⟨hg.2, hB⟩ e
   rw [h1, h2, h3]
   obtain ⟨i1, i2⟩ := allT_vals (t := 1) (by decide) a0 hg.1
   rw [i1, i2, if_pos ⟨rfl, rfl⟩, if_pos ⟨rfl, rfl⟩]
   exact ⟨rfl, rfl, rfl⟩
abbrev entF (e : Eny) : List Int := entB e.nm e.ats
theorem entsB_map (l : List Eny) : entsB l = valsB 1 (l.map entF) := by unfold entsB valsB; rw [List.flatMap_map]
theorem entF_inj : ∀ a b : List Eny, (∀ e ∈ a, mayEn e = true) → (∀ e ∈ b, mayEn e = true) → a.map entF = b.map entF → a = b
 | [], [], _, _, _ => rfl
 | [], _ :: _, _, _, h => by cases h
 | _ :: _, [], _, _, h => by cases h
 | x :: a, y :: b, h1, h2, h => by
   rw [List.map_cons, List.map_cons] at h
   injection h with h3 h4
   have e1 := ent_inj (h1 x (List.mem_cons_self ..)) (h2 y (List.mem_cons_self ..)) h3
   have e2 := entF_inj a b (fun e he => h1 e (List.mem_cons_of_mem _ he)) (fun e he => h2 e (List.mem_cons_of_mem _ he)) h4
   rw [e2]
   cases x; cases y
   simp only [List.cons.injEq, Eny.mk.injEq, and_true]
   exact e1
theorem fin_ref {l r1 r2 r3 r4 : List Int} {k : Int} {y f1 f2 f3 f4 : Bool} {ls : List (List Int)} {c : List Int} (hby : Byt l) (hl : l.length ≤ 1000000) (h1 : Took (numB 1) (SmN 18446744073709551615) false l k f1 r1) (h2 : Took (flgB 2) (fun _ => True) f1 r1 y f2 r2) (h3 : Took (fun ls => valB 3 (valsB 1 ls)) SmV f2 r2 ls f3 r3) (h4 : Took (valB 4) SmB f3 r3 c f4 r4) :
   (f4 = false → r4 = [] → 0 ≤ k ∧ Byt c ∧ c.length ≤ 1000000 ∧ (valsB 1 ls).length ≤ 1000000 ∧ ∀ es : List Eny, ls = es.map entF → l = resB ⟨k, y, es, c⟩) ∧ (∀ r0, mayR r0 = true → l = resB r0 → k = r0.k ∧ y = r0.y ∧ ls = r0.es.map entF ∧ c = r0.cur ∧ f4 = false ∧ r4 = []) := by
 refine ⟨fun e1 e2 => ?_, fun r0 hr hl0 => ?_⟩
 · obtain ⟨z1, z2, z3⟩ := h4.1 e1
   obtain ⟨a1, a2, a3⟩ := h3.1 z1
   obtain ⟨b1, b2, b3⟩ := h2.1 a1
   obtain ⟨c1, c2, c3⟩ := h1.1 b1
   have e0 : l = numB 1 k ++ (flgB 2 y ++ (valB 3 (valsB 1 ls) ++ (valB 4 c ++ []))) := by rw [← e2, ← z2, ← a2, ← b2, ← c2]
   have hlen := congrArg List.length e0
   simp only [List.length_append, valB_length, List.length_nil] at hlen
   refine ⟨c3.1, z3.2, by omega, by omega, fun es he => ?_⟩
   rw [e0, he, ← entsB_map]
   unfold resB
   simp
 · obtain ⟨p1, p2⟩ := mayR_parts hr
   obtain ⟨_, q1, q2, q3, q4⟩ := mayF_iff.1 p1
   have hle : (entsB r0.es).length ≤ 4194304 := by
     have := resB_len r0
     rw [← hl0] at this
     omega
   have hbc : Byt r0.cur := fun x hx => hby x (by rw [hl0]; simp [resB, valB, hx])
   have e0 : l = numB 1 r0.k ++ (flgB 2 r0.y ++ (valB 3 (valsB 1 (r0.es.map entF)) ++ (valB 4 r0.cur ++ []))) := by rw [hl0, ← entsB_map]; unfold resB; simp
   obtain ⟨x1, x2, x3⟩ := h1.2 rfl r0.k _ ⟨q1, by omega⟩ e0
   obtain ⟨y1, y2, y3⟩ := h2.2 x2 r0.y _ trivial x3
   obtain ⟨z1, z2, z3⟩ := h3.2 y2 (r0.es.map entF) _ ⟨fun x hx => by
     obtain ⟨e, he, rfl⟩ := List.mem_map.1 hx
     exact Nat.le_trans (entB_few (p2 e he)) (by decide), by rw [← entsB_map]; exact hle⟩ y3
   obtain ⟨w1, w2, w3⟩ := h4.2 z2 r0.cur [] ⟨by omega, hbc⟩ z3
   exact ⟨x1, y1, z1, w1, w2, w3⟩
theorem refOf_uni (A : Option Addr) (c : Nat) (l : List Int) (w : World) (hr : Rd w w.heap.size A l) (hby : Byt l) (hn : l.length ≤ 1000000) (hc : l.length ≤ c) (hcm : c ≤ 9223372036854775807) :
   Calls Tryz.prog 95 #[.slice A l.length c] w fun e w' => ∃ (nm : List UInt8) (ats : List At) (A' : Option Addr) (n' c' : Nat) (k : Bool), e = .returned (.tuple #[.agg #[.string (sx nm), .slice A' n' c'], .bool k]) ∧ YtcjiofhjognklaaGreat.RowK kA w' w.heap.size (.slice A' n' c') ats ∧ Below w.heap.size w w' ∧ ((k = true ∧ mayE nm ats = true ∧ l = entB nm ats) ∨ (k = false ∧ ∀ nm at', mayE nm at' = true → l ≠ entB nm at')) :=
 (refOf_any A c l w hr hby hn hc hcm).mono fun e w' h => by
   rcases h with ⟨nm, ats, va, h1, h2, rfl, h4, h5⟩ | ⟨h1, rfl, h3⟩
   · obtain ⟨A1, c1, n1, rfl, _, _⟩ := rdv_len (YtcjiofhjognklaaGreat.RowK.rdv h4)
     exact ⟨nm, ats, A1, n1, c1, true, rfl, h4, h5, .inl ⟨rfl, h1, h2⟩⟩
   · exact ⟨[], [], none, 0, 0, false, rfl, YtcjiofhjognklaaGreat.nil_row kA _ _, h3, .inr ⟨rfl, h1⟩⟩
theorem rd_cqT {Bo : Nat} {A : Option Addr} {bs : List Int} {t0 t : TypeId} {cs : Array Value} {w wr : World} (h : Rd w w.heap.size A bs) (hb : Blk w Bo t cs) (hcs : ∀ (i : Nat) (x : Int), cs[i]? ≠ some (Value.int .u8 x)) (hc : CQ t0 w.heap.size Bo Bo w wr) : Rd wr wr.heap.size A bs := fun hp => by
 obtain ⟨b, off, e, hl, hc2⟩ := h hp
 have hne : b ≠ Bo := fun e3 => by
   subst e3
   have h3 := hc2 0 hp
   rw [hb.cell] at h3
   exact hcs _ _ h3
 refine ⟨b, off, e, Nat.lt_of_lt_of_le hl hc.size, fun j hj => ?_⟩
 exact (World.cell?_of_block (w := w) (a := ⟨b, off + j, none⟩) (hc.low b hl hne hne)).trans (hc2 j hj)
theorem rs_u8 (k : Int) (y : Bool) (A1 A2 : Option Addr) (n1 n2 c1 c2 : Nat) : ∀ (i : Nat) (x : Int), (rsCs k y (.slice A1 n1 c1) (.slice A2 n2 c2))[i]? ≠ some (Value.int .u8 x) := fun i x h => by
 rcases i with _ | _ | _ | _ | i <;> simp at h
theorem vals_out {D g : Nat} {t : Option (List Int) × Bool × List Int} {w w' : World} {e : Ending} {l : List (List Int)} {f' : Bool} (h1 : (if t.2.1 = false ∧ allT 1 (t.1.getD []) = true then snds (t.1.getD []) else []) = l) (h2 : (if t.2.1 = false ∧ allT 1 (t.1.getD []) = true then false else true) = f')
   (hv : (t.1.getD []).length ≤ 4194304) (h : ListR D g 1 t w e w') : ∃ (hs : List Hand) (A : Option Addr) (n c : Nat), e = .returned (.slice A n c) ∧ (n = hs.length ∧ hs.length ≤ 1000000 ∧ RowK kS w' w.heap.size (.slice A n c) hs ∧ GoodH w' w'.heap.size hs ∧ l = hs.map (fun x => x.bs)) ∧ RR w' D g f' t.2.2 ∧ w.grownBy w' (some g) := by
 unfold ListR ListQ at h
 obtain ⟨h, hg⟩ := h
 by_cases hc : t.2.1 = false ∧ allT 1 (t.1.getD []) = true
 · rw [if_pos hc] at h h1 h2
   obtain ⟨u, hs, rfl, e1, e2, e3, e4⟩ := h
   obtain ⟨A, c, n, hn, rfl, _, _⟩ := e2.rdn
   subst h1 h2
   refine ⟨hs, A, n, c, rfl, ⟨hn.out, ?_, e2, e3, ?_⟩, e4, hg⟩
   · have h5 := items_five _ (t.1.getD []) (Nat.le_refl _)
     have h6 := congrArg List.length e1
     rw [List.length_map] at h6
     omega
   · unfold snds
     rw [← e1, List.map_map]
     rfl
 · rw [if_neg hc] at h h1 h2
   subst h1 h2
   exact ⟨[], none, 0, 0, h.1, ⟨rfl, Nat.zero_le _, nil_row kS _ _, goodH_nil _ _, rfl⟩, h.2, hg⟩
end Go.Proofs.YtcjiofhjognklaaGreat.Tlv

/- A result's entries, taken off a reader. -/
import Derived.Test.YtcjiofhjognklaaGreatY39
import Derived.Test.YtcjiofhjognklaaGreatY48
namespace Go.Proofs.YtcjiofhjognklaaGreat.Tlv
open Go.RowKit Go.Lib Go.Sort
set_option maxRecDepth 100000
set_option linter.unusedVariables false
set_option linter.unusedSimpArgs false
theorem of_uni (A : Option Addr) (c : Nat) (l : List Int) (w : World) (hr : Rd w w.heap.size A l) (hby : Byt l) (hn : l.length ≤ 100000000) :
   Calls Tryz.prog 93 #[.slice A l.length c] w fun e w' => ∃ (nm : List UInt8) (ats : List At) (A' : Option Addr) (n' c' : Nat) (k : Int), e = .returned (.tuple #[.agg #[.string (sx nm), .slice A' n' c'], .int .i64 k]) ∧ YtcjiofhjognklaaGreat.RowK kA w' w.heap.size (.slice A' n' c') ats ∧ Below w.heap.size w w' ∧ ((k = 0 ∧ mayE nm ats = true ∧ l = entB nm ats) ∨ (k = 4 ∧ ∀ nm at', mayE nm at' = true → l ≠ entB nm at')) :=
 (of_any A c l w hr hby hn).mono fun e w' h => by
   rcases h with ⟨nm, ats, va, h1, h2, rfl, h4, h5⟩ | ⟨h1, rfl, h3⟩
   · obtain ⟨A1, c1, n1, rfl, _, _⟩ := rdv_len (YtcjiofhjognklaaGreat.RowK.rdv h4)
     exact ⟨nm, ats, A1, n1, c1, 0, rfl, h4, h5, .inl ⟨rfl, h1, h2⟩⟩
   · exact ⟨[], [], none, 0, 0, 4, rfl, YtcjiofhjognklaaGreat.nil_row kA _ _, h3, .inr ⟨rfl, h1⟩⟩
def IE (n1 Bl : Nat) (k : Int) (y : Bool) (vc : Value) (W : World) (acc : List Eny) : Prop := ∃ v es, Blk W Bl 43 (rsCs k y v vc) ∧ RowK kE W n1 v es ∧ EnO W n1 es acc
theorem blk_app {w3 w4 : World} {Bl n1 : Nat} {cs : Array Value} {v : Value} {es : List En} {o : Obj} (hb : Blk w3 Bl 43 cs) (hr : RowK kE w3 n1 v es) (hg : (w3.alloc o).grownBy w4 v.ownBlock) : Blk w4 Bl 43 cs :=
 (hb.alloc o).grown hg (fun e => by
   obtain ⟨_, _, cs', hc'⟩ := own_atT (hr.alloc o) e.symm
   exact blk_ne (hb.alloc o) hc' (by decide) rfl)
set_option maxHeartbeats 16000000 in
theorem ent92_any (D gi Bl n0 n1 : Nat) (r : List Int) (k : Int) (y : Bool) (vc : Value) (acc : List Eny) (w : World) (hs : RS w D gi false r) (hI : IE n1 Bl k y vc w acc) (hD : D ≤ n0) (hDB : D ≤ Bl) (h01 : n0 ≤ n1) (hn : n1 ≤ w.heap.size) (hne : gi ≠ Bl) (hacc : acc.length ≤ 200000000) :
   Calls Tryz.prog 92 #[.pointer (some ⟨gi, 0, none⟩), .pointer (some ⟨Bl, 0, none⟩)] w fun e w' => ∃ (b : Bool) (x : Eny), e = .returned (.bool b) ∧ RS w' D gi (tk false r 1).2.1 (tk false r 1).2.2 ∧ IE n1 Bl k y vc w' (acc ++ [x]) ∧ CQ 126 n0 gi Bl w w' ∧
     ((b = true ∧ mayEn x = true ∧ (tk false r 1).1.getD [] = entB x.nm x.ats) ∨ (b = false ∧ ∀ e, mayEn e = true → (tk false r 1).1.getD [] ≠ entB e.nm e.ats)) := by
 have HT := Lib.hid (bytes_r D gi false r 1 w hs)
 have hbyt := hs.byt
 have HBY : Hid (Byt ((tk false r 1).1.getD []) ∧ ((tk false r 1).1.getD []).length ≤ 4194304) := Lib.hid (by
   have h := tk_byt (f := false) (tag := 1) hbyt
   exact ⟨h.1, h.2.2⟩)
 obtain ⟨gcs, hgk⟩ := hs.blk
 obtain ⟨v, es, hb, hr, he⟩ := hI
 obtain ⟨Av, cv, nv, HNv, rfl, _, _⟩ := hr.rdn
 have H := Lib.hid (And.intro hb (And.intro hr (And.intro he (And.intro hgk (And.intro hs.lt hb.lt)))))
 generalize tk false r 1 = t at HT HBY ⊢
 obtain ⟨o, f1, r1⟩ := t
 dsimp only at HT HBY ⊢
 generalize o.getD [] = bs at HT HBY ⊢
 have HL : Hid (es.length ≤ 200000000) := Lib.hid (by have := he.1; omega)
 clear hs hb hr he hbyt hgk hacc
 go_enter Tryz.func92, Tryz.ntmps92
 go_upto_region 2 with (first
   | (go_at_call 58; (with_reducible refine HT.out.mono ?_); clear HT; rintro e w1 ⟨vb, rfl, hrow, hrs1, hg1⟩; obtain ⟨Ab, cb, rfl, hb1, hb2, hb3⟩ := hrow.rdc; have HOF := Lib.hid (of_uni Ab cb bs w1 hb3 HBY.out.1 (by have := HBY.out.2; omega)); have H1 := Lib.hid (And.intro hrs1 hg1); clear hrs1 hg1 hb1 hb2 hb3 hrow)
   | (go_at_call 93; (with_reducible refine HOF.out.mono ?_); clear HOF; rintro e w2 ⟨nm, ats, A2, n2, c2, kk, rfl, hr2, hb2, hc2⟩; dsimp only; have H2 := Lib.hid (And.intro hr2 (And.intro hb2 hc2)); clear hr2 hb2 hc2)
   | (refine wpList_store_rowTo rfl 126 _ _ rfl rfl w2.heap.size #[.string (sx nm), .slice A2 n2 c2] rfl rfl 126 zE (Blk.new w2 126 zE) (by kernel_rfl) rfl (by kernel_rfl) ?_))
 have hb3 : Below w2.heap.size w2 ((w2.alloc (.cells zE 126)).setRow w2.heap.size #[.string (sx nm), .slice A2 n2 c2]) := below_setRow ((Below.refl _ _).alloc (Nat.le_refl _) (.cells zE 126)) (Nat.le_refl _) _
 have k3 : Blk ((w2.alloc (.cells zE 126)).setRow w2.heap.size #[.string (sx nm), .slice A2 n2 c2]) w2.heap.size 126 #[.string (sx nm), .slice A2 n2 c2] := (Blk.new w2 126 zE).row _
 obtain ⟨B3, hB3⟩ : ∃ B, B = w2.heap.size := ⟨_, rfl⟩
 have hbz : Below w2.heap.size w2 ((w2.alloc (.cells zE 126)).setRow B3 #[.string (sx nm), .slice A2 n2 c2]) := by rw [hB3]; exact hb3
 rw [← hB3] at k3 ⊢
 clear hb3 hB3
 generalize (w2.alloc (.cells zE 126)).setRow B3 #[.string (sx nm), .slice A2 n2 c2] = w3 at k3 hbz ⊢
 have hn0 : n0 ≤ w.heap.size := Nat.le_trans h01 hn
 have hz1 : w.heap.size ≤ w1.heap.size := H1.out.2.size
 have hz2 : w1.heap.size ≤ w2.heap.size := H2.out.2.1.size
 have hz3 : w2.heap.size ≤ w3.heap.size := hbz.size
 have hb13 : Below w1.heap.size w1 w3 := H2.out.2.1.trans (hbz.mono hz2)
 have k1 : Blk w1 Bl 43 (rsCs k y (.slice Av nv cv) vc) := H.out.1.grown H1.out.2 (fun e => by injection e with e; exact hne e.symm)
 have r1' : RowK kE w1 n1 (.slice Av nv cv) es := RowK.byT H.out.2.1 H1.out.2 H.out.2.2.2.1 (by decide)
 have e1' : EnO w1 n1 es acc := H.out.2.2.1.fit fun j cs _ hc => H1.out.2.block j (Blk.lt hc) (fun e => by
   injection e with e
   subst e
   exact blk_ne hc H.out.2.2.2.1 (by decide) rfl)
 have k3b := k1.on hb13
 have HX := Lib.hid (And.intro k3b (And.intro (RowK.onT r1' hb13) (And.intro (e1'.on hb13) (And.intro (H1.out.1.on hb13) k3))))
 have HR2 := Lib.hid (YtcjiofhjognklaaGreat.RowK.on H2.out.1 hbz)
 have HC3 : Hid (CQ 126 n0 gi Bl w w3) := Lib.hid ((CQ.of H1.out.2 hn0).trans (CQ.bel hb13 (by omega)))
 have HZ := Lib.hid (And.intro hn0 (And.intro hz1 (And.intro hz2 hz3)))
 have HCC := Lib.hid H2.out.2.2
 clear k1 r1' e1' k3 hb13 hbz hn0 hz1 hz2 hz3 H1 H2
 have a2 : w3.cell? ⟨Bl, 2, none⟩ = some (.slice Av nv cv) := HX.out.1.cell 2
 go_wp2_with (first
   | (refine wpList_load_row rfl 126 _ rfl B3 rfl 126 #[.string (sx nm), .slice A2 n2 c2] (0, 0) _ HX.out.2.2.2.2 rfl rfl (by kernel_rfl) ?_)
   | (at_builtin; refine wpList_appT kE (n := 1) rfl _ _ rfl [⟨nm, A2, n2, c2⟩] rfl rfl (HX.out.2.1.alloc _) rfl (rd_oneE w3 ⟨nm, A2, n2, c2⟩) (fun h => by cases h) (by have := HL.out; simp; omega) (by rw [World.size_alloc]; have := HZ.out; omega) ?_; intro v4 w4 hr4 hg4; obtain ⟨A4, d4, n4, HN4, rfl, _, _⟩ := hr4.rdn; have H4 := Lib.hid (And.intro hr4 hg4); have f4 := (blk_app HX.out.1 HX.out.2.1 hg4).frozen 2; have c4 : w4.cell? ⟨Bl, 2, none⟩ = some (.slice Av nv cv) := (blk_app HX.out.1 HX.out.2.1 hg4).cell 2; clear hr4 hg4 a2))
 have ha := (Below.refl w3.heap.size w3).alloc (Nat.le_refl _) (.cells #[.string (sx nm), .slice A2 n2 c2] 126)
 have hrow := HX.out.2.1.alloc (.cells #[.string (sx nm), .slice A2 n2 c2] 126)
 have hkA := HX.out.1.alloc (.cells #[.string (sx nm), .slice A2 n2 c2] 126)
 have hk4 : Blk w4 Bl 43 (rsCs k y (.slice Av nv cv) vc) := blk_app HX.out.1 HX.out.2.1 H4.out.2
 have e4 : EnO w4 n1 (es ++ [⟨nm, A2, n2, c2⟩]) (acc ++ [⟨nm, ats⟩]) := by
   have e1 := EnO.snoc (x := ⟨nm, A2, n2, c2⟩) (y := ⟨nm, ats⟩) HX.out.2.2.1 rfl (rowA_low HR2.out (by have := HZ.out; omega))
   exact (e1.on ha).fit fun j cs _ hc => H4.out.2.block j (Blk.lt hc) (fun e => by
     obtain ⟨_, _, cs', hc'⟩ := own_atT hrow e.symm
     exact blk_ne hc hc' (by decide) rfl)
 have rs4 : RS w4 D gi f1 r1 := by
   have h5 := HX.out.2.2.2.1.on ha
   obtain ⟨cs8, hb8⟩ := h5.blk
   exact h5.gro H4.out.2 (fun e => by
     obtain ⟨_, _, cs, hc⟩ := own_atT hrow e.symm
     exact blk_ne hc hb8 (by decide) rfl) (fun j e => by
     have := (own_atT hrow e).1
     omega)
 have hz : n1 ≤ (w3.alloc (.cells #[.string (sx nm), .slice A2 n2 c2] 126)).heap.size := by rw [World.size_alloc]; have := HZ.out; omega
 have cq4 : CQ 126 n0 gi Bl w w4 := (HC3.out.trans (CQ.bel ha (by have := HZ.out; omega))).trans (CQ.row (K := kE) H4.out.2 hrow h01 (Nat.le_trans h01 hz))
 have hIF : IE n1 Bl k y vc (w4.setCell ⟨Bl, 2, none⟩ (.slice A4 n4 d4)) (acc ++ [⟨nm, ats⟩]) := ⟨.slice A4 n4 d4, _, hk4.set_ 2 (.slice A4 n4 d4), RowK.setT H4.out.1 hk4 (by decide), e4.fit fun j cs _ hc => Below.heap_setCell w4 ⟨Bl, 2, none⟩ (.slice A4 n4 d4) j (fun e2 => blk_ne hc hk4 (by decide) e2)⟩
 have HF := Lib.hid (And.intro (rs4.setT (i := 2) (u := .slice A4 n4 d4) hne hDB) (And.intro hIF (cq4.trans (CQ.setB w4 2 (.slice A4 n4 d4)))))
 clear f4 c4 ha hrow hkA hk4 e4 rs4 hz cq4 hIF
 generalize w4.setCell ⟨Bl, 2, none⟩ (.slice A4 n4 d4) = w5 at HF ⊢
 go_ret
 refine ⟨_, ⟨nm, ats⟩, rfl, HF.out.1, HF.out.2.1, HF.out.2.2, ?_⟩
 rcases HCC.out with ⟨rfl, h1, h2⟩ | ⟨rfl, h1⟩
 · exact .inl ⟨rfl, h1, h2⟩
 · exact .inr ⟨rfl, fun e he => h1 e.nm e.ats he⟩
theorem IE.keep {n1 Bl : Nat} {k : Int} {y : Bool} {vc : Value} (D g : Nat) (f : Bool) (r : List Int) (acc : List Eny) (W W' : World) (hs : RS W D g f r) (h : IE n1 Bl k y vc W acc) (hg : W.grownBy W' (some g)) : IE n1 Bl k y vc W' acc := by
 obtain ⟨v, es, hb, hr, he⟩ := h
 obtain ⟨cs, hk⟩ := hs.blk
 exact ⟨v, es, hb.grown hg (fun e => by injection e with e; exact blk_ne hb hk (by decide) e), RowK.byT hr hg hk (by decide), he.fit fun j cs' _ hc => hg.block j (Blk.lt hc) (fun e => by
   injection e with e
   subst e
   exact blk_ne hc hk (by decide) rfl)⟩
theorem entsB_vals (l : List Eny) : entsB l = valsB 1 (l.map fun e => entB e.nm e.ats) := by unfold entsB valsB; rw [List.flatMap_map]
theorem stepE92 {D gi Bl n0 n1 : Nat} {k : Int} {y : Bool} {vc : Value} {r : List Int} {acc : List Eny} {W : World} (hst : stands r = true) (hs : RS W D gi false r) (h : IE n1 Bl k y vc W acc) (hD : D ≤ n0) (hDB : D ≤ Bl) (h01 : n0 ≤ n1) (hn : n1 ≤ W.heap.size) (hne : gi ≠ Bl) (hacc : acc.length ≤ 100000000) :
   Calls Tryz.prog 92 #[.pointer (some ⟨gi, 0, none⟩), .pointer (some ⟨Bl, 0, none⟩)] W (StepG EncE (IE n1 Bl k y vc) D gi (CQ 126 n0 gi Bl) r acc W) := by
 refine (ent92_any D gi Bl n0 n1 r k y vc acc W hs h hD hDB h01 hn hne (by omega)).mono ?_
 rintro e w' ⟨b, x, rfl, h1, h2, h3, h4⟩
 refine ⟨b, _, _, x, rfl, h1, h2, h3, tk_len, ?_⟩
 rcases step_vals (t := 1) (by decide) hs.byt hst with ⟨s1, s2, s3, s4⟩ | ⟨s1, s2, s3⟩
 · rcases h4 with ⟨rfl, m1, m2⟩ | ⟨rfl, m1⟩
   · exact .inl ⟨rfl, s1, by show r = valB 1 (entB x.nm x.ats) ++ _; rw [← m2]; exact s2, s3, m1⟩
   · refine .inr ⟨.inl rfl, fun l hl e => ?_⟩
     cases l with
     | nil => rw [show EncE.all ([] : List Eny) = [] from rfl] at e; rw [e] at hst; cases hst
     | cons a l =>
       rw [EncE.cons] at e
       have h5 := valB_cancel (t := 1) (by decide) s4 (Nat.le_trans (entB_few (hl a (List.mem_cons_self ..))) (by decide)) (s2.symm.trans e)
       exact m1 a (hl a (List.mem_cons_self ..)) h5.1
 · exact .inr ⟨.inr (.inr s1), fun l hl e => s3 (l.map fun e => entB e.nm e.ats) (fun a ha => by
     obtain ⟨z, hz, rfl⟩ := List.mem_map.1 ha
     exact Nat.le_trans (entB_few (hl z hz)) (by decide)) (by rw [← entsB_vals]; exact e)⟩
theorem listE92 {k : Int} {y : Bool} {vc : Value} (D g Bl : Nat) (f : Bool) (r : List Int) (tag : Int) (w : World) (htag : tag ≠ 0) (hs : RS w D g f r) (hb : Blk w Bl 43 (rsCs k y (.slice none 0 0) vc)) (hDB : D ≤ Bl) :
   Calls Tryz.prog 56 #[.pointer (some ⟨g, 0, none⟩), .int .u8 tag, .func (.func 92) #[] #[.pointer (some ⟨Bl, 0, none⟩)]] w (ListG EncE (IE w.heap.size Bl k y vc) 126 D g Bl w.heap.size f r tag w) := by
 obtain ⟨cs, hk⟩ := hs.blk
 have hbl := hb.lt
 have hgl := hs.lt
 have hDg := hs.1
 exact listG_any EncE (IE w.heap.size Bl k y vc) 92 126 D g Bl w.heap.size f r tag w htag hs ⟨_, [], hb, nil_row kE _ _, EnO.nil _ _⟩ (by omega) hDB hDg (fun e => blk_ne hk hb (by decide) e) hbl (Nat.le_refl _) (by decide) (by decide) (fun _ _ => rfl)
   (fun gi r acc W h1 h2 h3 h4 h5 h6 => stepE92 h4 h5 h6 (by omega) hDB (Nat.le_refl _) h2 (by omega) h3) (IE.keep D)
end Go.Proofs.YtcjiofhjognklaaGreat.Tlv

/- Put. -/
import Derived.Test.YtgjcomnljonffaaB18
namespace Go.Proofs.Ytgjcomnljonffaa.Tlv
open Go.RowKit
set_option maxRecDepth 100000
set_option linter.unusedVariables false
set_option linter.unusedSimpArgs false
theorem TS.frT {t h T : Nat} {w w' : World} {d : Nd} {cs : Array Value} (a : TS t h w d) (f : Fr (fun k => k = T) w w') (hT : Blk w T 61 cs) : TS t h w' d :=
  ⟨a.at'.fr f (fun k hk e => by
    obtain ⟨ty, cs', q, h3⟩ := a.at'.typed3 hk
    rw [e] at q
    have := blk_ty hT q
    subst this
    rcases h3 with h | h | h <;> exact absurd h (by decide)), a.sep, a.bal, a.keys.fr f fun k _ hk => ⟨61, cs, hk ▸ hT, by decide⟩, a.srt⟩
def PutTOut (T s : Nat) (l : List KV) (F : Nat → Prop) (key : Key) (v : Int) (w : World) (e : Ending) (w' : World) : Prop :=
  ∃ old was F', e = .returned (.tuple #[.int .i64 old, .bool was]) ∧ (was = true → getL key l = some old) ∧ (was = false → getL key l = none ∧ old = 0) ∧ TChg w T s F (putL key v l) w' F'
/-- What stands ahead of put's walk down. -/
structure PutRdy (T s : Nat) (l : List KV) (F : Nat → Prop) (h : Nat) (d : Nd) (w W : World) : Prop where
  blk : Blk W T 61 #[.int .i64 (s + 1 : Nat), .int .i64 l.length, .pointer (some ⟨d.n, 0, none⟩)]
  ts : TS (s + 1) h W d
  room : d.its.length < 2 * (s + 1) - 1
  root : (0 < h → 1 ≤ d.its.length) ∨ (d.its.length = 0 ∧ d.kids ≠ [] ∧ ∀ c ∈ d.kids, c.its.length = 2 * (s + 1) - 1)
  kvs : kvs (flat h d) = l
  fr : Fr F w W
  old : ∀ k, k < w.heap.size → 0 < occ h d k → F k
  deg : 1 ≤ s ∧ s ≤ 63
  ft : F T
theorem put_end {T s h : Nat} {l l' : List KV} {F : Nat → Prop} {d d' : Nd} {w W W3 W4 : World} {key : Key} {v old : Int} {was : Bool} (r : PutRdy T s l F h d w W) (p : PutPost (s + 1) h d key v W W3 d' old was) (f : Fr (fun k => k = T) W3 W4)
    (hb : Blk W4 T 61 #[.int .i64 (s + 1 : Nat), .int .i64 (putL key v l).length, .pointer (some ⟨d.n, 0, none⟩)]) : TChg w T s F (putL key v l) W4 (fun k => k = T ∨ 0 < occ h d' k) := by
  have hT3 := p.chg.blk r.ts.at' r.blk (by decide) (by decide) (by decide)
  refine ⟨⟨h, d', by rw [p.chg.n]; exact hb, p.chg.ts.frT f hT3, fun h0 => ?_, by rw [p.put, r.kvs], fun k => Iff.rfl, r.deg⟩, ?_, ?_⟩
  · rcases r.root with h1 | ⟨h1, h2, h3⟩
    · exact Nat.le_trans (h1 h0) p.len
    · exact p.ne h1 h2 h3
  · refine (r.fr.trans' p.chg.fr fun k hk h1 => r.old k hk h1).trans' f fun k _ h1 => by rw [h1]; exact r.ft
  · rintro k hk (rfl | h1)
    · exact r.ft
    · exact r.old k hk (by have := p.chg.old k (Nat.lt_of_lt_of_le hk r.fr.bel.size); omega)
set_option maxHeartbeats 8000000 in
theorem put_tree_room (T s n c : Nat) (l : List KV) (F : Nat → Prop) (h : Nat) (d : Nd) (A : Option Addr) (key : Key) (v : Int) (w : World) (a : TreeIn w T s l F h d) (hk : KAt w A key) (hn : n = key.length) (h0 : A = none → n = 0 ∧ c = 0) (hkl : n ≤ 1000) (hl : l.length ≤ 1000000)
    (hfull : ¬ d.its.length = 2 * (s + 1) - 1) :
    Calls Try.prog 12 #[.pointer (some ⟨T, 0, none⟩), .slice A n c, .int .i64 v] w (PutTOut T s l F key v w) := by
  have HN := Lib.hid (none_tree T d.n _ _ w a.blk)
  obtain ⟨A1, c1, B1, e1, f1, f2⟩ := a.ts.at'.node.form
  have hcb := a.ts.at'.node.blk
  rw [f1, f2] at hcb
  have HFU := full_any T d.n d.its.length c1 (s + 1) A1 _ _ _ w a.blk hcb (by have := a.deg; omega) (by have := a.ts.bal.most; have := a.deg; omega)
  rw [show decide (d.its.length = 2 * (s + 1) - 1) = false by simpa using hfull] at HFU
  have HFU := Lib.hid HFU
  have t2 := a.blk.cell 2
  simp only [List.getElem?_toArray, List.getElem?_cons_zero, List.getElem?_cons_succ] at t2
  have HA := Lib.hid (And.intro a (And.intro hk (And.intro hn (And.intro h0 (And.intro hfull (And.intro hl hkl))))))
  clear a hk hn h0 hfull hcb f1 f2
  go_enter Try.func12, Try.ntmps12
  go_upto_region 5 with (first
    | (go_at_call 25; (with_reducible refine HN.out.mono ?_); rintro e w1 ⟨rfl, rfl⟩; dsimp only)
    | (go_at_call 26; (with_reducible refine HFU.out.mono ?_); rintro e w2 ⟨rfl, m, rfl⟩; dsimp only))
  obtain ⟨W, hW1⟩ : ∃ W1, W1 = w.drewN m := ⟨_, rfl⟩
  rw [← hW1]
  have hb1 : Below w.heap.size w W := by rw [hW1]; exact below_drewN (Below.refl _ _) m
  have hRdy : PutRdy T s l F h d w W := ⟨HA.out.1.blk.on hb1, HA.out.1.ts.on hb1, by have h1 := HA.out.1.ts.bal.most; have h2 := HA.out.2.2.2.2.1; omega, .inl HA.out.1.root, HA.out.1.kvs, Fr.of hb1, fun k _ h1 => (HA.out.1.own k).2 (.inr h1), HA.out.1.deg, (HA.out.1.own T).2 (.inl rfl)⟩
  have hkk : KAt W A key := HA.out.2.1.on hb1
  clear hb1 hW1 HFU HN t2
  obtain ⟨h1, hh1⟩ : ∃ h1, h1 = h := ⟨_, rfl⟩
  obtain ⟨d1, hd1⟩ : ∃ d1, d1 = d := ⟨_, rfl⟩
  rw [← hh1, ← hd1] at hRdy
  clear hh1 hd1
  have t2 := hRdy.blk.cell 2
  simp only [List.getElem?_toArray, List.getElem?_cons_zero, List.getElem?_cons_succ] at t2
  have HCL := Lib.hid (clone_B A n c key W.drew (KAt.rd (w := W.drew) (hkk.on (below_drew (Below.refl _ _)))) HA.out.2.2.1 HA.out.2.2.2.1 (by omega))
  have HP : Hid (∀ (W2 : World) (A2 : Option Addr) (n2 c2 : Nat), Below W.heap.size W W2 → RowK kB W2 W2.heap.size (.slice A2 n2 c2) key ∨ (KAt W2 A2 key ∧ n2 = key.length) → Calls Try.prog 27 #[.pointer (some ⟨T, 0, none⟩), .pointer (some ⟨d1.n, 0, none⟩), .agg #[.slice A2 n2 c2, .int .i64 v]] W2 (PutOut (s + 1) h1 d1 key v W2)) := Lib.hid fun W2 A2 n2 c2 hb hr => by
    have hr' : KAt W2 A2 key ∧ n2 = key.length := by
      rcases hr with hr | hr
      · exact KAt.of_row hr
      · exact hr
    exact put_any T h1 s _ _ d1 A2 n2 c2 key v W2 (hRdy.blk.on hb) (hRdy.ts.on hb) hRdy.deg hRdy.room hr'.1 hr'.2
  have HR := Lib.hid (And.intro hRdy hkk)
  clear hRdy hkk
  go_cut [6, 7] (fun s6 s7 wx => ∃ old was d', s6 = .int .i64 old ∧ s7 = .bool was ∧ PutPost (s + 1) h1 d1 key v W wx d' old was)
  case first =>
    have t2b : ∀ W2, Below W.heap.size W W2 → W2.cell? ⟨T, 2, none⟩ = some (.pointer (some ⟨d1.n, 0, none⟩)) := fun W2 hb => by
      have := (HR.out.1.blk.on hb).cell 2
      simpa using this
    have HT2 := Lib.hid t2b
    clear t2b
    go_region_law (first
      | (go_simp; (with_reducible refine HCL.out.mono ?_); rintro e w4 ⟨v', rfl, hr4, hb4⟩; dsimp only; clear HCL; obtain ⟨A6, c6, n6, hn6, rfl, _, _⟩ := hr4.rdn; have hbb : Below W.heap.size W w4 := (below_drew (Below.refl _ _)).trans hb4; have t2 := HT2.out _ hbb; have hka := KAt.of_row hr4; have H4 := Lib.hid (And.intro hbb hka); clear hr4 hb4 hn6 hbb hka)
      | (go_simp; (with_reducible refine (HP.out _ _ _ _ H4.out.1 (.inr H4.out.2)).mono ?_); rintro e w5 ⟨d', old, was, rfl, p⟩; dsimp only; have HPP := Lib.hid p; clear p t2))
    all_goals
      go_wp2_with fail
      go_meet
      case rel =>
      exact ⟨_, _, d', rfl, rfl, HPP.out.before (Chg.below HR.out.1.ts H4.out.1) rfl (Nat.le_refl _) (.inl rfl)⟩
  case rest =>
  obtain ⟨W3, hW3⟩ : ∃ W3 : World, W3 = wc := ⟨_, rfl⟩
  subst hW3
  obtain ⟨old, was, d', rfl, rfl, p⟩ := hcut
  clear HCL HP t2
  have hT3 := p.chg.blk HR.out.1.ts.at' HR.out.1.blk (by decide) (by decide) (by decide)
  have hlen := put_length (k := key) (v := v) (l := l) (by rw [← HR.out.1.kvs]; exact HR.out.1.ts.srt)
  have hy := p.yes
  have hno := p.no
  rw [HR.out.1.kvs] at hy hno
  cases was with
  | true =>
    have HE := Lib.hid (And.intro p (And.intro hT3 (And.intro hlen (And.intro hy hno))))
    clear p hT3 hlen hy hno
    go_wp2
    go_ret2
    refine ⟨_, _, _, rfl, fun _ => HE.out.2.2.2.1 (by simp), (fun h => by cases h), put_end (l' := l) HR.out.1 HE.out.1 (Fr.refl _) ?_⟩
    rw [HE.out.2.2.1, HE.out.2.2.2.1 (by simp), if_neg (by simp)]
    exact HE.out.2.1
  | false =>
    have t1 := hT3.cell 1
    have t1f := hT3.frozen 1
    simp only [List.getElem?_toArray, List.getElem?_cons_zero, List.getElem?_cons_succ] at t1
    have hw1 : IntKind.i64.wrap ((l.length : Int) + 1) = (l.length : Int) + 1 := by rw [IntKind.wrap_i64]; omega
    have HE := Lib.hid (And.intro p (And.intro hT3 (And.intro hlen (And.intro hy hno))))
    clear p hT3 hlen hy hno
    go_wp2
    go_ret2
    refine ⟨_, _, _, rfl, (fun h => by cases h), fun _ => HE.out.2.2.2.2 (by simp), put_end (l' := l) HR.out.1 HE.out.1 (Fr.set (S := fun k => k = T) (Fr.refl _) rfl _) ?_⟩
    rw [HE.out.2.2.1, (HE.out.2.2.2.2 (by simp)).1, if_pos rfl]
    have := HE.out.2.1.set_ 1 (.int .i64 ((l.length : Int) + 1))
    simpa using this
set_option maxHeartbeats 8000000 in
theorem put_tree_full (T s n c : Nat) (l : List KV) (F : Nat → Prop) (h : Nat) (d : Nd) (A : Option Addr) (key : Key) (v : Int) (w : World) (a : TreeIn w T s l F h d) (hk : KAt w A key) (hn : n = key.length) (h0 : A = none → n = 0 ∧ c = 0) (hkl : n ≤ 1000) (hl : l.length ≤ 1000000)
    (hfull : d.its.length = 2 * (s + 1) - 1) :
    Calls Try.prog 12 #[.pointer (some ⟨T, 0, none⟩), .slice A n c, .int .i64 v] w (PutTOut T s l F key v w) := by
  have HN := Lib.hid (none_tree T d.n _ _ w a.blk)
  obtain ⟨A1, c1, B1, e1, f1, f2⟩ := a.ts.at'.node.form
  have hcb := a.ts.at'.node.blk
  rw [f1, f2] at hcb
  have HFU := full_any T d.n d.its.length c1 (s + 1) A1 _ _ _ w a.blk hcb (by have := a.deg; omega) (by have := a.ts.bal.most; have := a.deg; omega)
  rw [show decide (d.its.length = 2 * (s + 1) - 1) = true by simpa using hfull] at HFU
  have HFU := Lib.hid HFU
  have t2 := a.blk.cell 2
  simp only [List.getElem?_toArray, List.getElem?_cons_zero, List.getElem?_cons_succ] at t2
  have HA := Lib.hid (And.intro a (And.intro hk (And.intro hn (And.intro h0 (And.intro hfull (And.intro hl hkl))))))
  clear a hk hn h0 hfull hcb f1 f2
  go_enter Try.func12, Try.ntmps12
  go_upto_region 4 with (first
    | (go_at_call 25; (with_reducible refine HN.out.mono ?_); rintro e w1 ⟨rfl, rfl⟩; dsimp only)
    | (go_at_call 26; (with_reducible refine HFU.out.mono ?_); rintro e w2 ⟨rfl, m, rfl⟩; dsimp only))
  obtain ⟨W1, hW1⟩ : ∃ W1, W1 = w.drewN m := ⟨_, rfl⟩
  rw [← hW1]
  have hb1 : Below w.heap.size w W1 := by rw [hW1]; exact below_drewN (Below.refl _ _) m
  have hsz : W1.heap.size = w.heap.size := by rw [hW1]; rfl
  have kT := HA.out.1.blk.on hb1
  have kTa := (kT.alloc (.cells #[.pointer (some ⟨d.n, 0, none⟩)] 55)).alloc (.cells #[.slice none 0 0, .slice (some ⟨W1.heap.size, 0, none⟩) 1 1] 59)
  have t2 := kT.cell 2
  have t3 := kTa.cell 2
  have t3f := kTa.frozen 2
  simp only [List.getElem?_toArray, List.getElem?_cons_zero, List.getElem?_cons_succ] at t2 t3
  have HB := Lib.hid (And.intro hb1 (And.intro hsz kTa))
  clear hb1 kT kTa hW1 HFU HN hsz
  go_upto_region 5 with fail
  have hkf : Blk (((W1.alloc (.cells #[.pointer (some ⟨d.n, 0, none⟩)] 55)).alloc (.cells #[.slice none 0 0, .slice (some ⟨W1.heap.size, 0, none⟩) 1 1] 59)).setCell ⟨T, 2, none⟩ (.pointer (some ⟨W1.heap.size + 1, 0, none⟩))) T 61 #[.int .i64 (s + 1 : Nat), .int .i64 l.length, .pointer (some ⟨W1.heap.size + 1, 0, none⟩)] := by simpa using HB.out.2.2.set_ 2 (.pointer (some ⟨W1.heap.size + 1, 0, none⟩))
  have hTlt : T < w.heap.size := HA.out.1.blk.lt
  have hbel : Below W1.heap.size W1 ((W1.alloc (.cells #[.pointer (some ⟨d.n, 0, none⟩)] 55)).alloc (.cells #[.slice none 0 0, .slice (some ⟨W1.heap.size, 0, none⟩) 1 1] 59)) := ((Below.refl _ _).alloc (Nat.le_refl _) _).alloc (by simp) _
  have hNa : Blk ((W1.alloc (.cells #[.pointer (some ⟨d.n, 0, none⟩)] 55)).alloc (.cells #[.slice none 0 0, .slice (some ⟨W1.heap.size, 0, none⟩) 1 1] 59)) (W1.heap.size + 1) 59 #[.slice none 0 0, .slice (some ⟨W1.heap.size, 0, none⟩) 1 1] := by
    have := Blk.new (W1.alloc (.cells #[.pointer (some ⟨d.n, 0, none⟩)] 55)) 59 #[.slice none 0 0, .slice (some ⟨W1.heap.size, 0, none⟩) 1 1]
    simpa using this
  have hga : RowK kP ((W1.alloc (.cells #[.pointer (some ⟨d.n, 0, none⟩)] 55)).alloc (.cells #[.slice none 0 0, .slice (some ⟨W1.heap.size, 0, none⟩) 1 1] 59)) W1.heap.size (.slice (some ⟨W1.heap.size, 0, none⟩) 1 1) [d.n] :=
    RowK.mk' (l := [d.n]) (cur := [.pointer (some ⟨d.n, 0, none⟩)]) (Nat.le_refl _) ((Blk.new W1 55 #[.pointer (some ⟨d.n, 0, none⟩)]).alloc _) (by simp) (by simp [maxLen]) (by simp [kP]) (by simp [flatK, kP])
  have hsw := HB.out.2.1
  obtain ⟨g, hg⟩ : ∃ g, g = W1.heap.size := ⟨_, rfl⟩
  have hF : Fr (fun k => k = T) W1 (((W1.alloc (.cells #[.pointer (some ⟨d.n, 0, none⟩)] 55)).alloc (.cells #[.slice none 0 0, .slice (some ⟨W1.heap.size, 0, none⟩) 1 1] 59)).setCell ⟨T, 2, none⟩ (.pointer (some ⟨W1.heap.size + 1, 0, none⟩))) := Fr.set (S := fun k => k = T) (Fr.of hbel) rfl _
  have hFb : Fr (fun k => k = T) ((W1.alloc (.cells #[.pointer (some ⟨d.n, 0, none⟩)] 55)).alloc (.cells #[.slice none 0 0, .slice (some ⟨W1.heap.size, 0, none⟩) 1 1] 59)) (((W1.alloc (.cells #[.pointer (some ⟨d.n, 0, none⟩)] 55)).alloc (.cells #[.slice none 0 0, .slice (some ⟨W1.heap.size, 0, none⟩) 1 1] 59)).setCell ⟨T, 2, none⟩ (.pointer (some ⟨W1.heap.size + 1, 0, none⟩))) := Fr.set (S := fun k => k = T) (Fr.refl _) rfl _
  have hrc := raise_chg (w := W1) (HA.out.1.ts.on HB.out.1) HA.out.2.2.2.2.1 (by have := HA.out.1.deg; omega) hbel hNa hga (by omega)
  have hRdy : PutRdy T s l F (h + 1) (.mk (W1.heap.size + 1) (.slice none 0 0) (.slice (some ⟨W1.heap.size, 0, none⟩) 1 1) [] [d]) w (((W1.alloc (.cells #[.pointer (some ⟨d.n, 0, none⟩)] 55)).alloc (.cells #[.slice none 0 0, .slice (some ⟨W1.heap.size, 0, none⟩) 1 1] 59)).setCell ⟨T, 2, none⟩ (.pointer (some ⟨W1.heap.size + 1, 0, none⟩))) := by
    refine ⟨hkf, hrc.1.frT hFb HB.out.2.2, ?_, .inr ⟨rfl, ?_, ?_⟩, by rw [hrc.2.1]; exact HA.out.1.kvs, ?_, ?_, HA.out.1.deg, (HA.out.1.own T).2 (.inl rfl)⟩
    · have := HA.out.1.deg
      show 0 < _
      omega
    · simp [Nd.kids]
    · intro x hx
      have : x = d := by simpa [Nd.kids] using hx
      subst this
      exact HA.out.2.2.2.2.1
    · exact (Fr.of HB.out.1).trans (hF.mono fun k _ h => by rw [h]; exact (HA.out.1.own T).2 (.inl rfl))
    · intro k hk h1
      have := hrc.2.2 k
      rw [if_neg (by omega), if_neg (by omega)] at this
      exact (HA.out.1.own k).2 (.inr (by omega))
  have hkk : KAt (((W1.alloc (.cells #[.pointer (some ⟨d.n, 0, none⟩)] 55)).alloc (.cells #[.slice none 0 0, .slice (some ⟨W1.heap.size, 0, none⟩) 1 1] 59)).setCell ⟨T, 2, none⟩ (.pointer (some ⟨W1.heap.size + 1, 0, none⟩))) A key := ((HA.out.2.1.on HB.out.1).on hbel).fr hFb fun k _ hk => ⟨61, _, hk ▸ HB.out.2.2, by decide⟩
  clear hkf hTlt hbel hNa hga hsw hF hFb hrc hg t2 t3 t3f HB
  generalize ((W1.alloc (.cells #[.pointer (some ⟨d.n, 0, none⟩)] 55)).alloc (.cells #[.slice none 0 0, .slice (some ⟨W1.heap.size, 0, none⟩) 1 1] 59)).setCell ⟨T, 2, none⟩ (.pointer (some ⟨W1.heap.size + 1, 0, none⟩)) = W at hRdy hkk ⊢
  generalize Nd.mk (W1.heap.size + 1) (.slice none 0 0) (.slice (some ⟨W1.heap.size, 0, none⟩) 1 1) [] [d] = d1 at hRdy
  generalize h + 1 = h1 at hRdy
  have t2 := hRdy.blk.cell 2
  simp only [List.getElem?_toArray, List.getElem?_cons_zero, List.getElem?_cons_succ] at t2
  have HCL := Lib.hid (clone_B A n c key W.drew (KAt.rd (w := W.drew) (hkk.on (below_drew (Below.refl _ _)))) HA.out.2.2.1 HA.out.2.2.2.1 (by omega))
  have HP : Hid (∀ (W2 : World) (A2 : Option Addr) (n2 c2 : Nat), Below W.heap.size W W2 → RowK kB W2 W2.heap.size (.slice A2 n2 c2) key ∨ (KAt W2 A2 key ∧ n2 = key.length) → Calls Try.prog 27 #[.pointer (some ⟨T, 0, none⟩), .pointer (some ⟨d1.n, 0, none⟩), .agg #[.slice A2 n2 c2, .int .i64 v]] W2 (PutOut (s + 1) h1 d1 key v W2)) := Lib.hid fun W2 A2 n2 c2 hb hr => by
    have hr' : KAt W2 A2 key ∧ n2 = key.length := by
      rcases hr with hr | hr
      · exact KAt.of_row hr
      · exact hr
    exact put_any T h1 s _ _ d1 A2 n2 c2 key v W2 (hRdy.blk.on hb) (hRdy.ts.on hb) hRdy.deg hRdy.room hr'.1 hr'.2
  have HR := Lib.hid (And.intro hRdy hkk)
  clear hRdy hkk
  go_cut [6, 7] (fun s6 s7 wx => ∃ old was d', s6 = .int .i64 old ∧ s7 = .bool was ∧ PutPost (s + 1) h1 d1 key v W wx d' old was)
  case first =>
    have t2b : ∀ W2, Below W.heap.size W W2 → W2.cell? ⟨T, 2, none⟩ = some (.pointer (some ⟨d1.n, 0, none⟩)) := fun W2 hb => by
      have := (HR.out.1.blk.on hb).cell 2
      simpa using this
    have HT2 := Lib.hid t2b
    clear t2b
    go_region_law (first
      | (go_simp; (with_reducible refine HCL.out.mono ?_); rintro e w4 ⟨v', rfl, hr4, hb4⟩; dsimp only; clear HCL; obtain ⟨A6, c6, n6, hn6, rfl, _, _⟩ := hr4.rdn; have hbb : Below W.heap.size W w4 := (below_drew (Below.refl _ _)).trans hb4; have t2 := HT2.out _ hbb; have hka := KAt.of_row hr4; have H4 := Lib.hid (And.intro hbb hka); clear hr4 hb4 hn6 hbb hka)
      | (go_simp; (with_reducible refine (HP.out _ _ _ _ H4.out.1 (.inr H4.out.2)).mono ?_); rintro e w5 ⟨d', old, was, rfl, p⟩; dsimp only; have HPP := Lib.hid p; clear p t2))
    all_goals
      go_wp2_with fail
      go_meet
      case rel =>
      exact ⟨_, _, d', rfl, rfl, HPP.out.before (Chg.below HR.out.1.ts H4.out.1) rfl (Nat.le_refl _) (.inl rfl)⟩
  case rest =>
  obtain ⟨W3, hW3⟩ : ∃ W3 : World, W3 = wc := ⟨_, rfl⟩
  subst hW3
  obtain ⟨old, was, d', rfl, rfl, p⟩ := hcut
  clear HCL HP t2
  have hT3 := p.chg.blk HR.out.1.ts.at' HR.out.1.blk (by decide) (by decide) (by decide)
  have hlen := put_length (k := key) (v := v) (l := l) (by rw [← HR.out.1.kvs]; exact HR.out.1.ts.srt)
  have hy := p.yes
  have hno := p.no
  rw [HR.out.1.kvs] at hy hno
  cases was with
  | true =>
    have HE := Lib.hid (And.intro p (And.intro hT3 (And.intro hlen (And.intro hy hno))))
    clear p hT3 hlen hy hno
    go_wp2
    go_ret2
    refine ⟨_, _, _, rfl, fun _ => HE.out.2.2.2.1 (by simp), (fun h => by cases h), put_end (l' := l) HR.out.1 HE.out.1 (Fr.refl _) ?_⟩
    rw [HE.out.2.2.1, HE.out.2.2.2.1 (by simp), if_neg (by simp)]
    exact HE.out.2.1
  | false =>
    have t1 := hT3.cell 1
    have t1f := hT3.frozen 1
    simp only [List.getElem?_toArray, List.getElem?_cons_zero, List.getElem?_cons_succ] at t1
    have hw1 : IntKind.i64.wrap ((l.length : Int) + 1) = (l.length : Int) + 1 := by rw [IntKind.wrap_i64]; omega
    have HE := Lib.hid (And.intro p (And.intro hT3 (And.intro hlen (And.intro hy hno))))
    clear p hT3 hlen hy hno
    go_wp2
    go_ret2
    refine ⟨_, _, _, rfl, (fun h => by cases h), fun _ => HE.out.2.2.2.2 (by simp), put_end (l' := l) HR.out.1 HE.out.1 (Fr.set (S := fun k => k = T) (Fr.refl _) rfl _) ?_⟩
    rw [HE.out.2.2.1, (HE.out.2.2.2.2 (by simp)).1, if_pos rfl]
    have := HE.out.2.1.set_ 1 (.int .i64 ((l.length : Int) + 1))
    simpa using this
theorem put_tree (T s n c : Nat) (l : List KV) (F : Nat → Prop) (A : Option Addr) (key : Key) (v : Int) (w : World) (a : TreeAt w T s l F) (hk : KAt w A key) (hn : n = key.length) (h0 : A = none → n = 0 ∧ c = 0) (hkl : n ≤ 1000) (hl : l.length ≤ 1000000) :
    Calls Try.prog 12 #[.pointer (some ⟨T, 0, none⟩), .slice A n c, .int .i64 v] w (PutTOut T s l F key v w) := by
  obtain ⟨h, d, a⟩ := a
  by_cases hf : d.its.length = 2 * (s + 1) - 1
  · exact put_tree_full T s n c l F h d A key v w a hk hn h0 hkl hl hf
  · exact put_tree_room T s n c l F h d A key v w a hk hn h0 hkl hl hf
end Go.Proofs.Ytgjcomnljonffaa.Tlv

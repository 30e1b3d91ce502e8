/- few: are acts few, and small? -/
import Derived.Test.YtidkpdoiblomjaaZ46
import Derived.Deep.LoopGhost
namespace Go.Proofs.Ytidkpdoiblomjaa.Tlv
open Go.RowKit Go.Deep
set_option maxRecDepth 100000
set_option linter.unusedVariables false
set_option linter.unusedSimpArgs false
structure FewR (r : Res) : Prop where
 es : r.es.length ≤ 10
 cur : r.cur.length ≤ 4100
 ats : ∀ j, j < r.es.length → (r.es.getD j default).ats.length ≤ 60
def FewOut (w : World) (L : List Td) (rs : List Res) (most : Int) (e : Ending) (w' : World) : Prop :=
 (∃ b : Bool, e = .returned (.bool b) ∧ (b = true → (L.length : Int) ≤ most ∧ ∀ i, i < L.length → FewR (rs.getD i default))) ∧ w = w'
set_option maxHeartbeats 16000000 in
theorem few_any (v : Value) (L : List Td) (rs : List Res) (most : Int) (w : World) (h : ActsAt w v L rs) : Calls Try.prog 5 #[v, .int .i64 most] w (FewOut w L rs most) := by
 obtain ⟨A, cp, rfl, ⟨_, h01, h02⟩, hr, hlen, hact⟩ := h
 obtain ⟨n, hn⟩ : ∃ n, n = L.length := ⟨_, rfl⟩
 have HR := Lib.hid (And.intro hr (And.intro hact hn))
 have hmax : n ≤ 9223372036854775807 := by unfold maxLen at h02; omega
 rw [← hn]
 clear hr hact h01 h02 hlen
 have hHN := Lib.hid hn
 clear hn
 go_enter Try.func5, Try.ntmps5
 go_upto_region 2 with fail
 go_loopg [5] n (fun g s5 wr => ∃ k : Nat, k ≤ n ∧ n - k ≤ g ∧ s5 = .int .i64 k ∧ w = wr ∧ Hid (∀ i, i < k → FewR (rs.getD i default)))
 case atStart => exact ⟨0, Nat.zero_le _, by omega, rfl, rfl, Lib.hid fun i hi => absurd hi (Nat.not_lt_zero _)⟩
 case round =>
   obtain ⟨k, hk, hg, rfl, rfl, HF⟩ := hrel
   by_cases hlt : k < n
   · have hkL : k < L.length := by have := hHN.out; omega
     obtain ⟨b, off, rfl, _, d0, d1, d2, d3, d4, d5⟩ := td_cellsG kX rfl (fun _ => rfl) HR.out.1 (Below.refl _ _) hkL
     have hact := HR.out.2.1 k hkL
     generalize L.getD k default = x at d0 d1 d2 d3 d4 d5 hact
     obtain ⟨xc, xn, xk, xy, xA, xl, xa, xB, xl2, xa2⟩ := x
     generalize hrk : rs.getD k default = r at hact
     have HRK := Lib.hid hrk
     have hlim := hact.lim
     obtain ⟨es, Aa, ca, na, hev, HNa, HRa⟩ := hact.at'.e.full
     obtain ⟨Ac, cc, nc, hcv, HNc, _⟩ := hact.at'.c.full
     dsimp only at hev hcv d4 d5
     injection hev with e1 e2 e3
     subst e1 e2 e3
     injection hcv with e1 e2 e3
     subst e1 e2 e3
     have hki : (k : Int) < (n : Int) := by omega
     have hx1 : xl ≤ 9223372036854775807 := by have h1 := HNa.out.2; have h2 := hlim.ne; omega
     have hx2 : xl2 ≤ 9223372036854775807 := by have h1 := HNc.out; have h2 := hlim.lc; omega
     have HLM := Lib.hid hlim
     clear d0 d1 d2 d3 hact hrk hlim hkL
     by_cases h10 : 10 < xl
     · have h10i : (10 : Int) < (xl : Int) := by omega
       go_wp2_with fail
       go_ret
       exact ⟨⟨false, rfl, fun e => by cases e⟩, rfl⟩
     · have h10i : ¬ (10 : Int) < (xl : Int) := by omega
       by_cases h41 : 4100 < xl2
       · have h41i : (4100 : Int) < (xl2 : Int) := by omega
         go_wp2_with fail
         go_ret
         exact ⟨⟨false, rfl, fun e => by cases e⟩, rfl⟩
       · have h41i : ¬ (4100 : Int) < (xl2 : Int) := by omega
         go_upto_region 7 with fail
         go_loopg [6] xl (fun g2 s6 wr2 => ∃ j : Nat, j ≤ xl ∧ xl - j ≤ g2 ∧ s6 = .int .i64 j ∧ w = wr2 ∧ Hid (∀ i, i < j → (r.es.getD i default).ats.length ≤ 60))
         case atStart => exact ⟨0, Nat.zero_le _, by omega, rfl, rfl, Lib.hid fun i hi => absurd hi (Nat.not_lt_zero _)⟩
         case round =>
           obtain ⟨j, hj, hg2, rfl, rfl, HG⟩ := hrel
           by_cases hjl : j < xl
           · have hje : j < es.length := by have := HNa.out.1; omega
             have hji : (j : Int) < (xl : Int) := by omega
             have hjr : j < r.es.length := by have := HNa.out.2; omega
             obtain ⟨c1, o1, rfl, _, c0, c0'⟩ := en_cells HRa.out.1 (Below.refl _ _) hje
             obtain ⟨m1, m2⟩ := HRa.out.2.2 j hje
             have l2 := HLM.out.nm _ (mem_getE hjr)
             have l1 := HLM.out.la _ (mem_getE hjr)
             generalize es.getD j default = z at c0 c0' m1 m2
             generalize hyj : r.es.getD j default = y at m1 m2 l1 l2
             have HYJ := Lib.hid hyj
             clear hyj
             obtain ⟨zn, zA, zm, zc⟩ := z
             obtain ⟨yn, ya⟩ := y
             dsimp only [En.v] at c0 c0' m1 m2 l1 l2
             subst m1
             obtain ⟨_, _, q, hq, HQ, _⟩ := rdv_len m2
             injection hq with _ e2 _
             subst e2
             have HZQ := Lib.hid HQ
             have hzx := Ytidkpdoiblomjaa.sx_size zn
             have hzl : zn.length ≤ 9223372036854775807 := l2
             have hzm : zm ≤ 9223372036854775807 := by have h1 := HZQ.out.out; have h2 : ya.length ≤ 9223372036854775807 := l1; omega
             clear HQ m2 l1 l2 hje hjr
             by_cases h11 : 1100 < zn.length
             · have h11i : (1100 : Int) < ((sx zn).size : Int) := by rw [hzx]; omega
               go_wp2_with fail
               go_ret
               exact ⟨⟨false, rfl, fun e => by cases e⟩, rfl⟩
             · have h11i : ¬ (1100 : Int) < ((sx zn).size : Int) := by rw [hzx]; omega
               by_cases h60 : 60 < zm
               · have h60i : (60 : Int) < (zm : Int) := by omega
                 go_wp2_with fail
                 go_ret
                 exact ⟨⟨false, rfl, fun e => by cases e⟩, rfl⟩
               · have h60i : ¬ (60 : Int) < (zm : Int) := by omega
                 go_wp2_with fail
                 go_roundg (xl - (j + 1))
                 case measure => omega
                 case rel => exact ⟨j + 1, by omega, by omega, by go_num, rfl, Lib.hid fun i hi => by
                   rcases Nat.lt_or_ge i j with h | h
                   · exact HG.out i h
                   · have : i = j := by omega
                     subst this
                     rw [HYJ.out]
                     have := HZQ.out.out
                     show ya.length ≤ 60
                     omega⟩
           · have hjn : xl = j := by omega
             subst hjn
             go_wp2_with fail
             go_roundg (n - (k + 1))
             case measure => omega
             case rel => exact ⟨k + 1, by omega, by omega, by go_num, rfl, Lib.hid fun i hi => by
               rcases Nat.lt_or_ge i k with h | h
               · exact HF.out i h
               · have : i = k := by omega
                 subst this
                 rw [HRK.out]
                 exact ⟨by have := HNa.out.2; omega, by have := HNc.out; omega, fun j hj => HG.out j (by have := HNa.out.2; omega)⟩⟩
   · have hkn : n = k := by omega
     subst hkn
     go_wp2_with fail
     go_ret
     refine ⟨⟨decide ((n : Int) ≤ most), rfl, fun e => ⟨?_, fun i hi => HF.out i (by have := hHN.out; omega)⟩⟩, rfl⟩
     have := of_decide_eq_true e
     have h2 := hHN.out
     omega
end Go.Proofs.Ytidkpdoiblomjaa.Tlv

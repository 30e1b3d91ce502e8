/- The law of the stage: code points and rows are read from their texts; remarks change no fields. -/
import Derived.Test.YtppmjlfecbaicaaDoorLaw2
import Derived.Test.YtppmjlfecbaicaaDoorBackR
import Derived.Test.YtppmjlfecbaicaaDoorIns
import Derived.Test.YtppmjlfecbaicaaDoorRowL
import Derived.Deep.CutBlock
import Derived.Deep.DeepCutAuto
namespace Go.Proofs.YtppmjlfecbaicaaDoor
open Go.RowKit
set_option linter.unusedVariables false
set_option linter.unusedSimpArgs false

def inV (x : Int) : Bool := decide (0 ≤ x) && decide (x ≤ 1114111)
def goodV (l : List Int) (k : Nat) : Bool := decide (0 < l.length) && (l.take k).all inV
theorem good_succ {l : List Int} {k : Nat} (hk : k < l.length) : goodV l (k + 1) = (goodV l k && inV (l.getD k default)) := by
  unfold goodV
  rw [List.take_add_one, List.getElem?_eq_getElem hk, show (some l[k]).toList = [l[k]] from rfl, List.all_append, List.getD_eq_getElem?_getD, List.getElem?_eq_getElem hk]
  simp [Bool.and_assoc]
theorem code_none {x : Int} (h : x < 0 ∨ 1114111 < x) : codeV (bl (textV x)) = none := by
  have e : textV x = ⟨#[]⟩ := by unfold textV; rw [if_pos h]
  rw [e]
  rfl
def codeR (x : Int) : Value := .tuple #[.int .i32 (if inV x = true then x else 0), .bool (inV x)]
theorem code_round (x : Int) : tup (codeV (bl (textV x))) = codeR x := by
  unfold codeR
  by_cases h : x < 0 ∨ 1114111 < x
  · rw [code_none h]
    have e : inV x = false := by unfold inV; rw [Bool.and_eq_false_iff]; rcases h with h | h; exact .inl (decide_eq_false (by omega)); exact .inr (decide_eq_false (by omega))
    rw [e]
    rfl
  · rw [code_back (by omega) (by omega)]
    have e : inV x = true := by unfold inV; rw [Bool.and_eq_true]; exact ⟨decide_eq_true (by omega), decide_eq_true (by omega)⟩
    rw [e]
    rfl

abbrev bothT (a b k : List UInt8) : ByteArray := mk a ++ { data := #[32, 10, 35, 32] } ++ mk k ++ { data := #[10] } ++ mk b
theorem both_text (a b k : List UInt8) : bothT a b k = mk (a ++ 32 :: 10 :: 35 :: ((32 :: k) ++ 10 :: b)) := by
  rw [← data_mk (bothT a b k)]
  congr 1
  unfold bothT
  rw [ba_append, ba_append, ba_append, ba_append, mk_data, mk_data, mk_data]
  simp
theorem both_lines (a b k : List UInt8) (hk : ∀ x ∈ k, x ≠ 10) (cc : Nat) (hc : (partsL 10 a).length + 1 = cc) (h4 h5 : List Rec) (e4 : h4.map Rec.it = linesV a) (e5 : h5.map Rec.it = linesV b) :
    (([] ++ h4) ++ h5.map (later cc)).map Rec.it = linesV (a ++ 32 :: 10 :: 35 :: ((32 :: k) ++ 10 :: b)) := by
  have h := lines_both a b (32 :: k) (fun x hx => (List.mem_cons.1 hx).elim (fun e => by subst e; decide) (hk x))
  have e : linesV (a ++ 32 :: 10 :: 35 :: ((32 :: k) ++ 10 :: b)) = linesV a ++ (linesV b).map fun x => (x.1 + cc, x.2) := by
    unfold linesV
    rw [h, List.map_append, List.map_map, List.map_map, hc]
    rfl
  rw [e, ← e4, ← e5, List.nil_append, List.map_append, List.map_map, List.map_map]
  rfl
theorem both_size (a b k : List UInt8) : (mk a ++ ({ data := #[32, 10, 35, 32] } : ByteArray)).size = a.length + 4 ∧ (mk a ++ ({ data := #[32, 10, 35, 32] } : ByteArray) ++ mk k).size = a.length + 4 + k.length ∧
    (mk a ++ ({ data := #[32, 10, 35, 32] } : ByteArray) ++ mk k ++ ({ data := #[10] } : ByteArray)).size = a.length + 4 + k.length + 1 := by
  refine ⟨?_, ?_, ?_⟩ <;> (simp only [ByteArray.size_append, mk_size]; rfl)

set_option maxHeartbeats 16000000 in
set_option maxRecDepth 100000 in
theorem law3_in (a b k : List UInt8) (A : Option Addr) (c : Nat) (l : List Int) (m : Int) (w : World) (hm : w.cell? ⟨0, 0, none⟩ = some (.int .i64 m)) (hw0 : 0 < w.heap.size)
    (ha : a.length ≤ 3000) (hb : b.length ≤ 3000) (hk : k.length ≤ 300) (h3 : l.length ≤ 300) (hrd : RdK kR w w.heap.size A l) (hin : ∀ x ∈ l, -2147483648 ≤ x ∧ x ≤ 2147483647) :
    Calls Tryd.prog 5 #[.slice A l.length c, .string (mk a), .string (mk b), .string (mk k)] w fun e w' => e = .returned (.bool true) ∧ Below w.heap.size w w' := by
  have H6 : Hid (Acc w 6 #[] (.bool true)) := Lib.hid (acc_below fun W hb => known_any m W ((hb.cell (p := ⟨0, 0, none⟩) hw0).trans hm) (Nat.lt_of_lt_of_le hw0 hb.size))
  have za : (mk a).size = a.length := mk_size a
  have zb : (mk b).size = b.length := mk_size b
  have zk : (mk k).size = k.length := mk_size k
  have hb0 : Below w.heap.size w w := Below.refl _ _
  have HRD := Lib.hid hrd
  have HIN := Lib.hid hin
  have HM := Lib.hid hm
  obtain ⟨n, hn⟩ : ∃ n, l.length = n := ⟨_, rfl⟩
  rw [hn]
  have HN := Lib.hid hn
  rw [hn] at h3
  clear hm hrd hin hn
  go_enter Tryd.func5, Tryd.ntmps5
  go_wp2_with (go_at_call 6; (with_reducible refine (H6.out _ (by assumption)).mono ?_); rintro e w2 ⟨rfl, hb2⟩; clear hb0; have hb0 := hb2; clear hb2)
  have HW2 := Lib.hid hb0
  have hw2 := hb0.size
  clear hb0
  go_loopw [9, 10] (fun g i wr => ∃ j : Nat, i = .int .i64 j ∧ j ≤ n ∧ g = .bool (goodV l j) ∧ Hid (Below w.heap.size w wr)) (fun _ i _ => n - (intOf i).toNat)
  case atStart => exact ⟨0, rfl, Nat.zero_le _, by rw [← HN.out]; unfold goodV; simp, HW2⟩
  case round =>
    obtain ⟨j, rfl, hj, rfl, HB⟩ := hrel
    by_cases hjn : j < n
    · have hjl : j < l.length := by rw [HN.out]; exact hjn
      obtain ⟨bb, off, rfl, hbb, x0⟩ := rune_cell HRD.out HB.out hjl
      have hxb := HIN.out (l.getD j default) (by rw [List.getD_eq_getElem?_getD, List.getElem?_eq_getElem hjl]; exact List.getElem_mem _)
      have HG := Lib.hid (good_succ hjl)
      have HX : Hid (∀ W, Below w.heap.size w W → W.cell? ⟨bb, off + j, none⟩ = some (.int .i32 (l.getD j default))) := Lib.hid fun W hW => by
        obtain ⟨b2, o2, e, _, h⟩ := rune_cell HRD.out hW hjl
        injection e with e
        injection e with e1 e2
        subst e1 e2
        exact h
      generalize l.getD j default = x at *
      obtain ⟨xb0, xb1⟩ := hxb
      have H17 : Hid (Acc w 17 #[.int .i32 x] (.string (textV x))) := Lib.hid (acc_same fun W => codeText_any x W xb0 xb1)
      have H10 : Hid (Acc w 10 #[.string (textV x)] (codeR x)) := Lib.hid (acc_below fun W hb => by
        have h := code_any (textV x) W (by have := textV_size x; omega)
        rwa [code_round] at h)
      unfold codeR at H10
      have hb1 := HB.out
      cases hg : goodV l j <;> rw [hg] at HG
      all_goals
        by_cases hlo : x < 0
        · have hi : inV x = false := by unfold inV; first | (rw [Bool.and_eq_true]; exact ⟨decide_eq_true (by omega), decide_eq_true (by omega)⟩) | (rw [Bool.and_eq_false_iff]; first | exact .inl (decide_eq_false (by omega)) | exact .inr (decide_eq_false (by omega)))
          rw [hi] at HG H10
          simp only [if_true, Bool.false_eq_true, if_false] at H10
          have HG2 := Lib.hid HG.out.symm
          clear hi HG
          go_wp2_with (first
            | (go_at_call 17; (with_reducible refine (H17.out _ (by assumption)).mono ?_); rintro e w3 ⟨rfl, hb3⟩; clear hb1; have hb1 := hb3; clear hb3; have x3 := HX.out _ hb1)
            | (go_at_call 10; (with_reducible refine (H10.out _ (by assumption)).mono ?_); rintro e w3 ⟨rfl, hb3⟩; clear hb1; have hb1 := hb3; clear hb3; have x3 := HX.out _ hb1))
          have HB3 := Lib.hid hb1
          go_roundw
          case rel => exact ⟨j + 1, by go_num, by omega, by rw [← HG2.out]; rfl, HB3⟩
          case measure => simp [intOf]; omega
        · by_cases hhi : x ≤ 1114111
          · have hi : inV x = true := by unfold inV; first | (rw [Bool.and_eq_true]; exact ⟨decide_eq_true (by omega), decide_eq_true (by omega)⟩) | (rw [Bool.and_eq_false_iff]; first | exact .inl (decide_eq_false (by omega)) | exact .inr (decide_eq_false (by omega)))
            rw [hi] at HG H10
            simp only [if_true, Bool.false_eq_true, if_false] at H10
            have HG2 := Lib.hid HG.out.symm
            clear hi HG
            go_wp2_with (first
              | (go_at_call 17; (with_reducible refine (H17.out _ (by assumption)).mono ?_); rintro e w3 ⟨rfl, hb3⟩; clear hb1; have hb1 := hb3; clear hb3; have x3 := HX.out _ hb1)
              | (go_at_call 10; (with_reducible refine (H10.out _ (by assumption)).mono ?_); rintro e w3 ⟨rfl, hb3⟩; clear hb1; have hb1 := hb3; clear hb3; have x3 := HX.out _ hb1))
            have HB3 := Lib.hid hb1
            go_roundw
            case rel => exact ⟨j + 1, by go_num, by omega, by rw [← HG2.out]; rfl, HB3⟩
            case measure => simp [intOf]; omega
          · have hhi' : 1114111 < x := by omega
            have hi : inV x = false := by unfold inV; first | (rw [Bool.and_eq_true]; exact ⟨decide_eq_true (by omega), decide_eq_true (by omega)⟩) | (rw [Bool.and_eq_false_iff]; first | exact .inl (decide_eq_false (by omega)) | exact .inr (decide_eq_false (by omega)))
            rw [hi] at HG H10
            simp only [if_true, Bool.false_eq_true, if_false] at H10
            have HG2 := Lib.hid HG.out.symm
            clear hi HG
            go_wp2_with (first
              | (go_at_call 17; (with_reducible refine (H17.out _ (by assumption)).mono ?_); rintro e w3 ⟨rfl, hb3⟩; clear hb1; have hb1 := hb3; clear hb3; have x3 := HX.out _ hb1)
              | (go_at_call 10; (with_reducible refine (H10.out _ (by assumption)).mono ?_); rintro e w3 ⟨rfl, hb3⟩; clear hb1; have hb1 := hb3; clear hb3; have x3 := HX.out _ hb1))
            have HB3 := Lib.hid hb1
            go_roundw
            case rel => exact ⟨j + 1, by go_num, by omega, by rw [← HG2.out]; rfl, HB3⟩
            case measure => simp [intOf]; omega
    · have hjn2 : j = n := by omega
      subst hjn2
      have hle := HB.out.size
      obtain ⟨gg, hgg⟩ : ∃ g, goodV l j = g := ⟨_, rfl⟩
      have HGG := Lib.hid hgg
      rw [hgg]
      clear hgg
      go_upto_if 90 with fail
      go_cut [] (fun wx => Hid (Below w.heap.size w wx))
      case first =>
        cases gg with
        | false =>
          go_wp2_with fail
          go_meet
          exact HB
        | true =>
          have hg := HGG.out
          have hall : l ≠ [] ∧ ∀ x ∈ l, 0 ≤ x ∧ x ≤ 1114111 := by
            unfold goodV at hg
            rw [Bool.and_eq_true, ← HN.out, List.take_of_length_le (Nat.le_refl _)] at hg
            have h1 := of_decide_eq_true hg.1
            refine ⟨fun e => by rw [e] at h1; simp at h1, fun x hx => ?_⟩
            have h2 := List.all_eq_true.1 hg.2 x hx
            unfold inV at h2
            rw [Bool.and_eq_true] at h2
            exact ⟨of_decide_eq_true h2.1, of_decide_eq_true h2.2⟩
          have hrb := row_back hall.1 hall.2
          have H19 : Hid (Acc w 19 #[.slice A j c] (.string (rowT l))) := Lib.hid (acc_below fun W hb => by
            have h := rowText_any A c l W ((HRD.out.below hb).more hb.size) (by rw [HN.out]; omega) HIN.out
            rwa [HN.out] at h)
          have H14 : Hid (∀ W, Calls Tryd.prog 14 #[.string (rowT l)] W fun e w' => ∃ v, e = .returned (.tuple #[v, .bool true]) ∧ RowK kR w' W.heap.size v l ∧ Below W.heap.size W w') := Lib.hid fun W => by
            have h := row_any (rowT l) W (by have h1 := rtx_size l l.length; have h2 := HN.out; unfold rowT; omega)
            rwa [hrb] at h
          have HSM : Hid (∀ (A1 : Option Addr) (c1 n1 : Nat) (W : World), n1 = l.length → RdK kR W W.heap.size A1 l → Below w.heap.size w W →
              Calls Tryd.prog 16 #[.slice A1 n1 c1, .slice A j c] W fun e w' => e = .returned (.bool true) ∧ Below w.heap.size w w') := Lib.hid fun A1 c1 n1 W hn r1 hb => by
            subst hn
            have h := same_any A1 A c1 c l l W r1 ((HRD.out.below hb).more hb.size) (by have := HN.out; omega) (by have := HN.out; omega)
            rw [decide_eq_true rfl] at h
            have h2 := below_acc' hb h hb.size
            rwa [← HN.out]
          have hb1 := HB.out
          clear hall hrb hg
          generalize rowT l = tt at *
          go_wp2_with (first
            | (go_at_call 19; (with_reducible refine (H19.out _ (by assumption)).mono ?_); rintro e w3 ⟨rfl, hb3⟩; clear hb1; have hb1 := hb3; clear hb3)
            | (go_at_call 14; (with_reducible refine (H14.out _).mono ?_); rintro e w3 ⟨v14, rfl, hr14, hb3⟩; obtain ⟨A14, c14, n14, HN14, rfl, _, hd14⟩ := hr14.rdn; have HD14 := Lib.hid hd14; have hbb := hb1.trans (hb3.mono hb1.size); clear hb1 hb3 hr14 hd14; have hb1 := hbb; clear hbb)
            | (go_at_call 16; (refine (HSM.out _ _ _ _ HN14.out HD14.out (by assumption)).mono ?_); rintro e w3 ⟨rfl, hb3⟩; clear hb1; have hb1 := hb3; clear hb3))
          go_meet
          exact Lib.hid hb1
      case rest =>
        have HB2 := hcut
        clear hcut HB
        obtain ⟨w3, hw3⟩ : ∃ w3 : World, w3 = wc := ⟨_, rfl⟩
        subst hw3
        go_wp2_with fail
        go_loopw [16] (fun i wr => ∃ q : Nat, i = .int .i64 q ∧ q ≤ k.length ∧ wr = w3 ∧ Hid (∀ x ∈ k.take q, x ≠ 10)) (fun i _ => k.length - (intOf i).toNat)
        case atStart => exact ⟨0, rfl, Nat.zero_le _, rfl, Lib.hid (fun x hx => by simp at hx)⟩
        case round =>
          obtain ⟨q, rfl, hq, hwr, HQ⟩ := hrel
          obtain rfl : w3 = wr := hwr.symm
          by_cases hqk : q < k.length
          · have hqs : q < (mk k).size := by omega
            have hgk : (mk k)[q]'hqs = k[q]'hqk := by
              have e : (mk k)[q]'hqs = (mk k).data.toList[q]'(by rw [mk_data]; exact hqk) := rfl
              rw [e]
              exact List.getElem_of_eq (mk_data k) _
            have HT : Hid ((((mk k)[q]'hqs).toNat : Int) ≠ 10 → ∀ x ∈ k.take (q + 1), x ≠ 10) := Lib.hid fun hne x hx => by
              rw [List.take_add_one, List.getElem?_eq_getElem hqk] at hx
              rcases List.mem_append.1 hx with h | h
              · exact HQ.out x h
              · simp at h
                subst h
                intro e
                rw [hgk, e] at hne
                exact hne rfl
            clear hgk
            by_cases h10 : (((mk k)[q]'hqs).toNat : Int) = 10
            · clear HT
              go_wp2_with fail
              go_ret
              exact ⟨rfl, HB2.out⟩
            · have HT2 := Lib.hid (HT.out h10)
              clear HT
              go_wp2_with fail
              go_roundw
              case rel => exact ⟨q + 1, by go_num, by omega, by trivial, HT2⟩
              case measure => simp [intOf]; omega
          · have HK : Hid (∀ x ∈ k, x ≠ 10) := Lib.hid (by
              have h := HQ.out
              rwa [List.take_of_length_le (by omega)] at h)
            clear HQ
            have HA := Lib.hid (refLines_any a w3 (by omega))
            have HLB : Hid (∀ W, Calls Tryd.prog 7 #[.string (mk b)] W fun e w' => ∃ v hs, e = .returned v ∧ hs.map Rec.it = linesV b ∧ RowK kL w' W.heap.size v hs ∧ GoodL w' W.heap.size hs ∧ Below W.heap.size W w') := Lib.hid fun W => refLines_any b W (by omega)
            go_wp2_with (first
              | (go_at_call 7; (with_reducible refine HA.out.mono ?_); rintro e w4 ⟨v4, h4s, rfl, hit4, hrow4, hgood4, hb4⟩; have HIT4 : Hid (h4s.map Rec.it = linesV a) := Lib.hid hit4; have HR4 := Lib.hid hrow4; have HG4 := Lib.hid hgood4; have HB4 := Lib.hid hb4; clear hit4 hrow4 hgood4 hb4)
              | (go_at_call 7; (with_reducible refine (HLB.out _).mono ?_); rintro e w5 ⟨v5, h5s, rfl, hit5, hrow5, hgood5, hb5⟩; have HIT5 := Lib.hid hit5; have HR5 := Lib.hid hrow5; have HG5 := Lib.hid hgood5; have HB5 := Lib.hid hb5; clear hit5 hrow5 hgood5 hb5))
            have hle4 := HB4.out.size
            have hle5 := HB5.out.size
            clear HA HLB
            go_loopw [19, 20] (fun s i wx => ∃ q cc : Nat, i = .int .i64 q ∧ q ≤ a.length ∧ s = .int .i64 cc ∧ cc ≤ 2 + q ∧ wx = w5 ∧ Hid (cc = 2 + ((a.take q).filter (· == 10)).length)) (fun _ i _ => a.length - (intOf i).toNat)
            case atStart => exact ⟨0, 2, rfl, Nat.zero_le _, rfl, Nat.le_refl _, rfl, Lib.hid rfl⟩
            case round =>
              obtain ⟨q, cc, rfl, hq, rfl, hcc, hwr, HC⟩ := hrel
              obtain rfl : w5 = wr := hwr.symm
              by_cases hqa : q < a.length
              · have hqs : q < (mk a).size := by omega
                have hgk : (mk a)[q]'hqs = a[q]'hqa := by
                  have e : (mk a)[q]'hqs = (mk a).data.toList[q]'(by rw [mk_data]; exact hqa) := rfl
                  rw [e]
                  exact List.getElem_of_eq (mk_data a) _
                have htk : a.take (q + 1) = a.take q ++ [a[q]'hqa] := by rw [List.take_add_one, List.getElem?_eq_getElem hqa]; rfl
                by_cases h10 : (((mk a)[q]'hqs).toNat : Int) = 10
                · have HC2 : Hid (cc + 1 = 2 + ((a.take (q + 1)).filter (· == 10)).length) := Lib.hid (by
                    have e : a[q]'hqa = 10 := by rw [← hgk]; exact UInt8.toNat_inj.1 (by exact_mod_cast h10)
                    rw [htk, List.filter_append, e, HC.out]
                    simp
                    omega)
                  clear hgk htk
                  go_wp2_with fail
                  go_roundw
                  case rel => exact ⟨q + 1, cc + 1, by go_num, by omega, by go_num, by omega, by trivial, HC2⟩
                  case measure => simp [intOf]; omega
                · have HC2 : Hid (cc = 2 + ((a.take (q + 1)).filter (· == 10)).length) := Lib.hid (by
                    have e : (a[q]'hqa == 10) = false := by
                      rw [beq_eq_false_iff_ne]
                      intro e
                      rw [hgk, e] at h10
                      exact h10 rfl
                    rw [htk, List.filter_append, HC.out, List.filter_cons, e]
                    simp)
                  clear hgk htk
                  go_wp2_with fail
                  go_roundw
                  case rel => exact ⟨q + 1, cc, by go_num, by omega, rfl, by omega, by trivial, HC2⟩
                  case measure => simp [intOf]; omega
              · have HCC : Hid ((partsL 10 a).length + 1 = cc) := Lib.hid (by
                  have h := HC.out
                  rw [List.take_of_length_le (by omega)] at h
                  rw [parts_count]
                  omega)
                have hcb : cc ≤ 4000 := by omega
                clear HC hcc
                obtain ⟨A5, c5, n5, HN5, rfl, _, _⟩ := HR5.out.rdn
                have hn5 : n5 ≤ 4000 := by
                  have h1 := congrArg List.length HIT5.out
                  have h2 := LV_len 1 (partsL 10 b)
                  have h3' := parts_len_le 10 b
                  have h4 : (linesV b).length = (LV 1 (partsL 10 b)).length := rfl
                  have h5 := HN5.out
                  rw [List.length_map] at h1
                  omega
                go_wp2_with fail
                go_loopw [21] (fun i wx => ∃ (i' : Nat) (R : List Rec), i = .int .i64 i' ∧ i' ≤ n5 ∧ R.length = n5 ∧ Hid (R.take i' = (h5s.map (later cc)).take i') ∧ Hid (R.drop i' = h5s.drop i') ∧ Hid (RowK kL wx w4.heap.size (.slice A5 n5 c5) R) ∧ Hid (GoodL wx w4.heap.size h5s) ∧ Hid (Below w4.heap.size w4 wx)) (fun i _ => n5 - (intOf i).toNat)
                case atStart => exact ⟨0, h5s, rfl, Nat.zero_le _, HN5.out.symm, Lib.hid rfl, Lib.hid rfl, HR5, HG5, HB5⟩
                case round =>
                  obtain ⟨i', R, rfl, hi', hRn, HT, HD, HR, HG, HW⟩ := hrel
                  by_cases hlt : i' < n5
                  · have hih : i' < h5s.length := by rw [← HN5.out]; exact hlt
                    have hRi : R[i']? = some (h5s[i']'hih) := by
                      have h := congrArg (fun z => z[0]?) HD.out
                      simp only [List.getElem?_drop, Nat.add_zero, List.getElem?_eq_getElem hih] at h
                      exact h
                    have hxn : (h5s[i']'hih).n ≤ 4000 := by
                      have h1 := lines_num b (h5s[i']'hih).it (by rw [← HIT5.out]; exact List.mem_map.2 ⟨_, List.getElem_mem hih, rfl⟩)
                      have h2 : (h5s[i']'hih).n ≤ b.length + 1 := h1
                      omega
                    have HX : Hid ((h5s.map (later cc))[i']? = some (later cc (h5s[i']'hih))) := Lib.hid (by rw [List.getElem?_map, List.getElem?_eq_getElem hih]; rfl)
                    generalize h5s[i']'hih = x at *
                    obtain ⟨g, rfl, hg⟩ := rowL_some HR.out (by omega)
                    obtain ⟨hcA, hfA⟩ := rowL_at HR.out hRn hRi
                    have HS := Lib.hid (rowL_set HR.out hRn hRi (later cc x) rfl)
                    have hln : ((later cc x).n : Int) = (x.n : Int) + cc := by show ((x.n + cc : Nat) : Int) = _; omega
                    have HS2 := HS
                    rw [hln] at HS2
                    have hlo : i' < R.length := by omega
                    clear HS hRi hih hln
                    go_wp2_with fail
                    go_roundw
                    case rel => exact ⟨i' + 1, R.set i' (later cc x), by go_num, by omega, by rw [List.length_set]; exact hRn, Lib.hid (take_setR HT.out hlo HX.out), Lib.hid (by rw [List.drop_set_of_lt (by omega), ← List.drop_drop, ← List.drop_drop, HD.out]), Lib.hid HS2.out.1, Lib.hid (fun z hz => row_keepS HR.out HS2.out.2 (HG.out z hz)), Lib.hid (HW.out.grown HS2.out.2 HW.out.size (fun k hk => by cases hk; exact hg))⟩
                    case measure => simp [intOf]; omega
                  · have hi2 : i' = n5 := by omega
                    have HE : Hid (R = h5s.map (later cc)) := Lib.hid (by
                      have h := HT.out
                      rwa [List.take_of_length_le (by omega), List.take_of_length_le (by rw [List.length_map, ← HN5.out]; omega)] at h)
                    have HR7 := Lib.hid (HR4.out.on HW.out)
                    have HG7 := Lib.hid (HG4.out.on HW.out)
                    obtain ⟨A4, c4, n4, HN4, rfl, hA4, hd4⟩ := HR7.out.rdn
                    have HD4 := Lib.hid hd4
                    obtain ⟨A6, c6, n6, HN6, hv6, hA6, hd6⟩ := HR.out.rdn
                    injection hv6 with e1 e2 e3
                    subst e1 e2 e3
                    have HD6 := Lib.hid hd6
                    have HGL : Hid (GoodL wr w4.heap.size R) := Lib.hid (fun z hz => by
                      rw [HE.out] at hz
                      obtain ⟨x, hx, rfl⟩ := List.mem_map.1 hz
                      exact HG.out x hx)
                    clear HT HD hd4 hd6 HG4 HR4
                    have hn4 : n4 ≤ 4000 := by
                      have h1 := congrArg List.length HIT4.out
                      have h2 := LV_len 1 (partsL 10 a)
                      have h3' := parts_len_le 10 a
                      have h4 : (linesV a).length = (LV 1 (partsL 10 a)).length := rfl
                      have h5 := HN4.out
                      rw [List.length_map] at h1
                      omega
                    have H8 : Hid (∀ (W : World) (A9 : Option Addr) (c9 n9 : Nat), n9 = (([] ++ h4s) ++ R).length → RdK kL W W.heap.size A9 (([] ++ h4s) ++ R) → GoodR W W.heap.size (([] ++ h4s) ++ R) → Below w.heap.size w W →
                        Calls Tryd.prog 8 #[.string (bothT a b k), .slice A9 n9 c9, .int .i64 0] W fun e w' => e = .returned (.bool true) ∧ Below w.heap.size w w') := Lib.hid fun W A9 c9 n9 hn9 r9 g9 hb9 => by
                      subst hn9
                      rw [both_text]
                      have hbl := both_lines a b k HK.out cc HCC.out h4s h5s HIT4.out HIT5.out
                      rw [← HE.out] at hbl
                      have htl : (a ++ 32 :: 10 :: 35 :: ((32 :: k) ++ 10 :: b)).length ≤ 10000 := by simp; omega
                      have hrl : R.length ≤ 4000 := by rw [← HN6.out]; exact hn5
                      have hhl : h4s.length ≤ 4000 := by rw [← HN4.out]; exact hn4
                      have hll : (([] ++ h4s) ++ R).length ≤ 8000 := by simp; omega
                      have h := once_any _ (by omega) m A9 c9 (([] ++ h4s) ++ R) 0 W (by omega) ((hb9.cell (p := ⟨0, 0, none⟩) hw0).trans HM.out) (Nat.lt_of_lt_of_le hw0 hb9.size) r9 hbl g9 (fun x hx => by
                        have h1 := fields_big _ x.it (by rw [← hbl]; exact List.mem_map.2 ⟨x, hx, rfl⟩)
                        have : x.fs.length ≤ (a ++ 32 :: 10 :: 35 :: ((32 :: k) ++ 10 :: b)).length + 1 := h1
                        omega)
                      exact below_acc' hb9 h hb9.size
                    obtain ⟨z1, z2, z3⟩ := both_size a b k
                    have en4 := HN4.out
                    have en6 := HN6.out
                    subst en4
                    subst en6
                    have HBW : Hid (Below w.heap.size w wr) := Lib.hid (HB2.out.trans ((HB4.out.trans (HW.out.mono hle4)).mono HB2.out.size))
                    have hl1 : ([] : List Rec).length + h4s.length ≤ 1000000000 := by simp; omega
                    have hl2 : ([] ++ h4s).length + R.length ≤ 1000000000 := by simp; omega
                    clear HK HCC HIT4 HIT5 HE HN6 HN4 HN5
                    go_wp2_with (first
                      | (at_builtin; refine wpList_app kL rfl _ _ rfl h4s rfl (nil_row kL _ wr.heap.size) rfl HD4.out hA4 hl1 (Nat.le_refl _) ?_; intro v8 w8 hrow8 hg8; have hb8 := grown_none (B := wr.heap.size) hg8 (Nat.le_refl _); have HR8 := Lib.hid hrow8; have HD8 := Lib.hid (HD6.out.on hb8); have HG8 := Lib.hid (HG7.out.on hb8); have HGL8 := Lib.hid (HGL.out.on hb8); have HB8 := Lib.hid hb8; have hle8 := hb8.size; clear hrow8 hg8 hb8)
                      | (at_builtin; refine wpList_app kL rfl _ _ rfl R rfl HR8.out rfl HD8.out hA6 hl2 hle8 ?_; intro v9 w9 hrow9 hg9; have HG9 := Lib.hid (HG8.out.app HR8.out hg9); have HGL9 := Lib.hid (HGL8.out.app HR8.out hg9); have HB9 := Lib.hid (HB8.out.trans (row_below HR8.out hg9 hle8)); obtain ⟨A9, c9, n9, HN9, rfl, _, hd9⟩ := hrow9.rdn; have HD9 := Lib.hid hd9; clear hrow9 hg9 hd9)
                      | (go_at_call 8; refine (H8.out _ _ _ _ HN9.out HD9.out (fun x hx => (List.mem_append.1 hx).elim (fun h => goodR_of HG9.out x (by simpa using h)) (fun h => goodR_of HGL9.out x h)) (HBW.out.trans (HB9.out.mono HBW.out.size))).mono ?_; rintro e w10 ⟨rfl, hb10⟩))
                    go_ret
                    exact ⟨rfl, hb10⟩
set_option maxHeartbeats 8000000 in
set_option maxRecDepth 100000 in
theorem law3_out (a b k : List UInt8) (A : Option Addr) (c n : Nat) (m : Int) (w : World) (hm : w.cell? ⟨0, 0, none⟩ = some (.int .i64 m)) (hw0 : 0 < w.heap.size)
    (ho : 300 < n ∨ 3000 < a.length ∨ 3000 < b.length ∨ 300 < k.length) :
    Calls Tryd.prog 5 #[.slice A n c, .string (mk a), .string (mk b), .string (mk k)] w fun e w' => e = .returned (.bool true) ∧ Below w.heap.size w w' := by
  have H6 := Lib.hid (known_any m w hm hw0)
  have za : (mk a).size = a.length := mk_size a
  have zb : (mk b).size = b.length := mk_size b
  have zk : (mk k).size = k.length := mk_size k
  clear hm
  by_cases h1 : 300 < n
  · clear ho
    go_enter Tryd.func5, Tryd.ntmps5
    go_wp2_with (go_at_call 6; refine H6.out.mono ?_; rintro e w' ⟨rfl, hb⟩)
    go_ret
    exact ⟨rfl, hb⟩
  · have h1' : n ≤ 300 := by omega
    by_cases h2 : 3000 < a.length
    · clear ho h1
      go_enter Tryd.func5, Tryd.ntmps5
      go_wp2_with (go_at_call 6; refine H6.out.mono ?_; rintro e w' ⟨rfl, hb⟩)
      go_ret
      exact ⟨rfl, hb⟩
    · have h2' : a.length ≤ 3000 := by omega
      by_cases h3 : 3000 < b.length
      · clear ho h1 h2
        go_enter Tryd.func5, Tryd.ntmps5
        go_wp2_with (go_at_call 6; refine H6.out.mono ?_; rintro e w' ⟨rfl, hb⟩)
        go_ret
        exact ⟨rfl, hb⟩
      · have h3' : b.length ≤ 3000 := by omega
        have h4 : 300 < k.length := by omega
        clear ho h1 h2 h3
        go_enter Tryd.func5, Tryd.ntmps5
        go_wp2_with (go_at_call 6; refine H6.out.mono ?_; rintro e w' ⟨rfl, hb⟩)
        go_ret
        exact ⟨rfl, hb⟩
end Go.Proofs.YtppmjlfecbaicaaDoor

/- The law on bounds. -/
import Derived.Test.YtlhbnmaalhainaaBndD
namespace Go.Proofs.Ytlhbnmaalhainaa
open Go.RowKit Go.Lib Go.Sort
set_option linter.unusedVariables false
set_option linter.unusedSimpArgs false

theorem alN_conv (W : World) (k : Nat) (hk : k ≤ 50) : (convert 33 9 (.slice (some ⟨W.heap.size, 0, none⟩) 2 2)).run Try.prog (W.alloc (.cells #[.int .u8 (48 + (k : Int) / 10), .int .u8 (48 + (k : Int) % 10)] 5)) = .ok (.string (sx (alN k).v)) (W.alloc (.cells #[.int .u8 (48 + (k : Int) / 10), .int .u8 (48 + (k : Int) % 10)] 5)) := by
  have hB := Blk.new W 5 #[.int .u8 (48 + (k : Int) / 10), .int .u8 (48 + (k : Int) % 10)]
  refine run_convert_bytes_back (P := Try.prog) _ 33 9 5 ⟨W.heap.size, 0, none⟩ 2 (alN k).v Try.underlying33 Try.underlying5 Try.underlying9 (fun j hj => ?_)
  have hj2 : j = 0 ∨ j = 1 := by have : j < 2 := hj; omega
  rcases hj2 with rfl | rfl
  · rw [show (⟨W.heap.size, 0, none⟩ : Addr).add 0 = ⟨W.heap.size, 0, none⟩ from rfl, hB.cell 0]
    show some (Value.int .u8 (48 + (k : Int) / 10)) = some (.int .u8 ((UInt8.ofNat (48 + k / 10)).toNat : Int))
    rw [UInt8.toNat_ofNat']
    congr 2
    omega
  · rw [show (⟨W.heap.size, 0, none⟩ : Addr).add 1 = ⟨W.heap.size, 1, none⟩ from rfl, hB.cell 1]
    show some (Value.int .u8 (48 + (k : Int) % 10)) = some (.int .u8 ((UInt8.ofNat (48 + k % 10)).toNat : Int))
    rw [UInt8.toNat_ofNat']
    congr 2
    omega
theorem ma_T (W : World) : Calls Try.prog 11 #[.agg #[.string (sx (as97 32)), .string ⟨#[]⟩]] W fun e w' => e = .returned (.bool true) ∧ Below W.heap.size W w' := by
  have h := mayAttr_any ⟨as97 32, []⟩ W (by decide) (by decide)
  rw [bnd6.1] at h
  exact h
theorem ma_33 (W : World) : Calls Try.prog 11 #[.agg #[.string (sx (as97 33)), .string ⟨#[]⟩]] W fun e w' => e = .returned (.bool false) ∧ Below W.heap.size W w' := by
  have h := mayAttr_any ⟨as97 33, []⟩ W (by decide) (by decide)
  rw [bnd6.2.1] at h
  exact h
theorem ma_0 (W : World) : Calls Try.prog 11 #[.agg #[.string ⟨#[]⟩, .string ⟨#[]⟩]] W fun e w' => e = .returned (.bool false) ∧ Below W.heap.size W w' := by
  have h := mayAttr_any ⟨[], []⟩ W (by decide) (by decide)
  rw [bnd6.2.2.1] at h
  exact h
theorem ma_1 (W : World) : Calls Try.prog 11 #[.agg #[.string ⟨#[49, 97]⟩, .string ⟨#[]⟩]] W fun e w' => e = .returned (.bool false) ∧ Below W.heap.size W w' := by
  have h := mayAttr_any ⟨[49, 97], []⟩ W (by decide) (by decide)
  rw [bnd6.2.2.2] at h
  exact h
theorem rdv_take {w : World} {A : Option Addr} {n c : Nat} {l : List At} (h : RdV w (.slice A n c) l) (k : Nat) (hk : k ≤ n) : RdV w (.slice A k c) (l.take k) := by
  obtain ⟨A', c', e, ⟨h1, h2, h3⟩, h4⟩ := h
  injection e with e1 e2 e3
  subst e1 e3
  have hl : (l.take k).length = k := by rw [List.length_take]; omega
  exact ⟨A, c, by rw [hl], ⟨h1, by rw [hl]; omega, h3⟩, rdk_take h4 k⟩
set_option maxRecDepth 100000 in
set_option maxHeartbeats 4000000 in
theorem bounds_any (w : World) : Calls Try.prog 7 #[] w fun e w' => e = .returned (.bool true) ∧ Below w.heap.size w w' := by
  have hmk := make_long w
  have hb0 := (Below.refl w.heap.size w).alloc (Nat.le_refl _) (.cells (fillA 0) 5)
  have HB0 := Lib.hid hb0
  have HK0 := Lib.hid (Blk.new w 5 (fillA 0))
  have HZ := Lib.hid (show w.heap.size < (w.alloc (.cells (fillA 0) 5)).heap.size by rw [World.size_alloc]; omega)
  go_enter Try.func7, Try.ntmps7
  go_wp2
  clear hmk hb0
  generalize w.alloc (.cells (fillA 0) 5) = W at HB0 HK0 HZ ⊢
  go_loopw [2] (fun s2 wr => ∃ i : Nat, s2 = .int .i64 i ∧ i ≤ 1001 ∧ Hid (Below w.heap.size w wr ∧ Blk wr w.heap.size 5 (fillA i))) (fun s2 _ => 1001 - (intOf s2).toNat)
  case atStart => exact ⟨0, rfl, Nat.zero_le _, Lib.hid ⟨HB0.out, HK0.out⟩⟩
  case round =>
    obtain ⟨i, rfl, hi, H⟩ := hrel
    by_cases hlt : i < 1001
    · have c0 := (H.out.2.cell i).trans (fillA_get i i hlt)
      have f0 := H.out.2.frozen i
      have hset := H.out.2.set_ i (.int .u8 97)
      rw [fillA_set i hlt] at hset
      have HS := Lib.hid (And.intro (H.out.1.setCell (p := ⟨w.heap.size, i, none⟩) (Nat.le_refl _) (.int .u8 97)) hset)
      clear hset
      go_wp2
      go_roundw
      case rel => exact ⟨i + 1, by go_num, by omega, Lib.hid HS.out⟩
      case measure => simp [intOf] <;> omega
    · have hie : i = 1001 := by omega
      subst hie
      have hbase : w.heap.size < wr.heap.size := H.out.2.lt
      have HL := Lib.hid H.out.2
      have HB := Lib.hid H.out.1
      go_wp2
      rw [show ((1001 : Nat) : Int) = 1001 from rfl]
      obtain ⟨wq, hwq⟩ : ∃ wq : World, wq = wr := ⟨_, rfl⟩
      subst hwq
      go_loopw [3, 4] (fun s3 s4 wr => ∃ k : Nat, s4 = .int .i64 k ∧ k ≤ 51 ∧ Hid (RowK kA wr wq.heap.size s3 (alL k) ∧ Below wq.heap.size wq wr)) (fun _ s4 _ => 51 - (intOf s4).toNat)
      case atStart => exact ⟨0, rfl, Nat.zero_le _, Lib.hid ⟨nil_row kA _ _, Below.refl _ _⟩⟩
      case round =>
        obtain ⟨k, rfl, hk, HR⟩ := hrel
        by_cases hk51 : k < 51
        · have hkk : (k : Int) ≤ 50 := by omega
          have hk0 : (0 : Int) ≤ k := by omega
          have hcv := alN_conv wr k (by omega)
          have hro : RdK kA ((wr.alloc (.cells #[.int .u8 (48 + (k : Int) / 10), .int .u8 (48 + (k : Int) % 10)] 5)).alloc (.cells #[.string ⟨#[97]⟩, .string (sx (alN k).v)] 29)) ((wr.alloc (.cells #[.int .u8 (48 + (k : Int) / 10), .int .u8 (48 + (k : Int) % 10)] 5)).alloc (.cells #[.string ⟨#[97]⟩, .string (sx (alN k).v)] 29)).heap.size (some ⟨wr.heap.size + 1, 0, none⟩) [alN k] := by
            have := rd_one (wr.alloc (.cells #[.int .u8 (48 + (k : Int) / 10), .int .u8 (48 + (k : Int) % 10)] 5)) (alN k)
            rw [show (wr.alloc (.cells #[.int .u8 (48 + (k : Int) / 10), .int .u8 (48 + (k : Int) % 10)] 5)).heap.size = wr.heap.size + 1 from by rw [World.size_alloc]] at this
            exact this
          have hb2 := (HR.out.2.alloc HR.out.2.size (.cells #[.int .u8 (48 + (k : Int) / 10), .int .u8 (48 + (k : Int) % 10)] 5))
          have HY := Lib.hid (And.intro (RowK.alloc (RowK.alloc HR.out.1 (.cells #[.int .u8 (48 + (k : Int) / 10), .int .u8 (48 + (k : Int) % 10)] 5)) (.cells #[.string ⟨#[97]⟩, .string (sx (alN k).v)] 29)) (And.intro hro (hb2.alloc hb2.size (.cells #[.string ⟨#[97]⟩, .string (sx (alN k).v)] 29))))
          have hln : (alL k).length + [alN k].length ≤ 1000000000 := by rw [alL_len]; simp; omega
          have HLN := Lib.hid hln
          have HAS := Lib.hid (alL_succ k)
          clear hro hb2 hln
          generalize (alN k).v = av at hcv HY
          generalize alL k = q at HR HY HLN HAS
          go_wp2_with (at_builtin; refine wpList_app kA rfl _ _ rfl [alN k] rfl HY.out.1 rfl HY.out.2.1 (fun h => by cases h) HLN.out HY.out.2.2.size ?_; intro v' w' hrow' hgr')
          go_roundw
          case rel => exact ⟨k + 1, by go_num, by omega, Lib.hid ⟨by rw [HAS.out]; exact hrow', HY.out.2.2.trans (row_below HY.out.1 hgr' HY.out.2.2.size)⟩⟩
          case measure => simp [intOf] <;> omega
        · have hke : k = 51 := by omega
          subst hke
          have hrv := RowK.rdv HR.out.1
          obtain ⟨A3, c3, e3, ⟨hA3, hc3, hcm3⟩, hr3⟩ := hrv
          rw [alL_len] at e3 hc3
          subst e3
          have hcm3' : c3 ≤ 9223372036854775807 := hcm3
          have hrv : RdV wr (.slice A3 51 c3) (alL 51) := ⟨A3, c3, by rw [alL_len], ⟨hA3, by rw [alL_len]; exact hc3, hcm3⟩, hr3⟩
          have hrv50 := rdv_take hrv 50 (by decide)
          have hrv49 := rdv_take hrv 49 (by decide)
          rw [alL_take 50 (by decide)] at hrv50
          rw [alL_take 49 (by decide)] at hrv49
          have hLw := HL.out.on HR.out.2
          have HG := Lib.hid fun W' (hb : Below wr.heap.size wr W') => And.intro (hLw.on hb) (And.intro (hrv.on hb) (And.intro (hrv50.on hb) (hrv49.on hb)))
          have HBR := Lib.hid (HB.out.trans (HR.out.2.mono (Nat.le_of_lt hbase)))
          clear hr3 hcm3 hrv hrv50 hrv49
          have hc32 := conv_as wr w.heap.size 0 32 1001 hLw (by decide)
          clear hLw
          have hbT := (Below.refl wr.heap.size wr).alloc (Nat.le_refl _) (.cells #[.string (sx (as97 32)), .string ⟨#[]⟩] 29)
          have kT := Blk.new wr 29 #[.string (sx (as97 32)), .string ⟨#[]⟩]
          have hszT : (wr.alloc (.cells #[.string (sx (as97 32)), .string ⟨#[]⟩] 29)).heap.size = wr.heap.size + 1 := by rw [World.size_alloc]
          have HT := Lib.hid (And.intro hbT kT)
          have HG2 := Lib.hid fun W' (hb : Below (wr.alloc (.cells #[.string (sx (as97 32)), .string ⟨#[]⟩] 29)).heap.size (wr.alloc (.cells #[.string (sx (as97 32)), .string ⟨#[]⟩] 29)) W') => And.intro (kT.on hb) (HG.out W' (hbT.trans (hb.mono hbT.size)))
          have hbX := (Below.refl (wr.alloc (.cells #[.string (sx (as97 32)), .string ⟨#[]⟩] 29)).heap.size (wr.alloc (.cells #[.string (sx (as97 32)), .string ⟨#[]⟩] 29))).alloc (Nat.le_refl _) (.cells #[.string ⟨#[98]⟩, .string ⟨#[120]⟩] 29)
          have hrX := rdv_new (wr.alloc (.cells #[.string (sx (as97 32)), .string ⟨#[]⟩] 29)) [⟨[98], [120]⟩] #[.string ⟨#[98]⟩, .string ⟨#[120]⟩] 1 rfl (by decide) rfl
          rw [hszT] at hrX
          have smX : Sm [⟨[98], [120]⟩] := fun x hx => by
            obtain rfl := List.mem_singleton.1 hx
            exact ⟨by decide, by decide⟩
          have smL : ∀ k, Sm (alL k) := fun k x hx => by
            obtain ⟨j, _, rfl⟩ := List.mem_map.1 hx
            exact ⟨by show 1 ≤ _; omega, by show 2 ≤ _; omega⟩
          have SM := Lib.hid (And.intro smX smL)
          have hc1 := change_any (alL 50) [⟨[98], [120]⟩] _ _ _ (HG2.out _ hbX).2.2.2.1 hrX (smL 50) smX (by rw [alL_len]; decide) (by decide)
          rw [bnd1] at hc1
          have HC1 := Lib.hid hc1
          have HBX := Lib.hid hbX
          clear hc1 hrX hbX hbT kT hszT smX smL
          go_wp2_with (first
            | (go_at_call 32; (with_reducible refine HC1.out.mono ?_); clear HC1; rintro e w6 ⟨v6, rfl, hv6, hb6⟩; have HB6 := Lib.hid (HBX.out.trans (hb6.mono HBX.out.size)); clear hb6 HBX; obtain ⟨A6, c6, rfl, _, _⟩ := hv6; have HBY := Lib.hid (HB6.out.alloc HB6.out.size (.cells #[.string ⟨#[98]⟩, .string ⟨#[120]⟩] 29)); have hc2 := change_any (alL 49) [⟨[98], [120]⟩] _ _ _ (HG2.out _ HBY.out).2.2.2.2 (rdv_new w6 [⟨[98], [120]⟩] #[.string ⟨#[98]⟩, .string ⟨#[120]⟩] 1 rfl (by decide) rfl) (SM.out.2 49) SM.out.1 (by rw [alL_len]; decide) (by decide); have HC2 := Lib.hid hc2; clear hc2)
            | (go_at_call 32; (with_reducible refine HC2.out.mono ?_); clear HC2; rintro e w7 ⟨v7, rfl, hv7, hb7⟩; have HB7 := Lib.hid (HBY.out.trans (hb7.mono HBY.out.size)); clear hb7 HBY; rw [bnd2]; obtain ⟨A7, c7, rfl, _, _⟩ := hv7; have hc3 := change_any [] (alL 51) (.slice none 0 0) _ w7 (RdV.nil _) (HG2.out _ HB7.out).2.2.1 (fun x hx => by simp at hx) (SM.out.2 51) (by simp) (by rw [alL_len]; decide); rw [bnd3] at hc3; have HC3 := Lib.hid hc3; clear hc3)
            | (go_at_call 32; (with_reducible refine HC3.out.mono ?_); clear HC3; rintro e w8 ⟨v8, rfl, hv8, hb8⟩; have HB8 := Lib.hid (HB7.out.trans (hb8.mono HB7.out.size)); clear hb8; obtain ⟨A8, c8, rfl, _, _⟩ := hv8; have q1 := conv_as w8 w.heap.size 1 1000 1000 (HG2.out _ HB8.out).2.1 (by decide); have q2 := conv_as w8 w.heap.size 0 1001 1001 (HG2.out _ HB8.out).2.1 (by decide); have HN1 := Lib.hid (mayName_any (as97 1000) w8 (by decide)); rw [bnd4] at HN1; have HN2 := Lib.hid (mayName_any (as97 1001) w8 (by decide)); rw [bnd5] at HN2; have t0 := (HG2.out _ HB8.out).1.cell 0; have t1 := (HG2.out _ HB8.out).1.cell 1)
            | (go_at_call 13; (with_reducible refine HN1.out.mono ?_); clear HN1; rintro e y1 ⟨rfl, rfl⟩)
            | (go_at_call 13; (with_reducible refine HN2.out.mono ?_); clear HN2; rintro e y2 ⟨rfl, rfl⟩; have HA1 := Lib.hid (ma_T w8))
            | (go_at_call 11; (with_reducible refine HA1.out.mono ?_); clear HA1; rintro e w9 ⟨rfl, hb9⟩; have HB9 := Lib.hid (HB8.out.trans (hb9.mono HB8.out.size)); clear hb9 t0 t1 q1 q2; have q3 := conv_as w9 w.heap.size 0 33 1001 (HG2.out _ HB9.out).2.1 (by decide); have HA2 := Lib.hid (ma_33 w9))
            | (go_at_call 11; (with_reducible refine HA2.out.mono ?_); clear HA2; rintro e w10 ⟨rfl, hb10⟩; have HB10 := Lib.hid (HB9.out.trans (hb10.mono HB9.out.size)); clear hb10 q3; have HA3 := Lib.hid (ma_0 w10))
            | (go_at_call 11; (with_reducible refine HA3.out.mono ?_); clear HA3; rintro e w11 ⟨rfl, hb11⟩; have HB11 := Lib.hid (HB10.out.trans (hb11.mono HB10.out.size)); clear hb11; have HA4 := Lib.hid (ma_1 w11))
            | (go_at_call 11; (with_reducible refine HA4.out.mono ?_); clear HA4; rintro e w12 ⟨rfl, hb12⟩; have HB12 := Lib.hid (HB11.out.trans (hb12.mono HB11.out.size)); clear hb12; have ha5 := mayAttrs_any (alL 50) _ w12 (HG2.out _ HB12.out).2.2.2.1 (SM.out.2 50) (by rw [alL_len]; decide); rw [bnd7.1] at ha5; have HA5 := Lib.hid ha5; clear ha5)
            | (go_at_call 15; (with_reducible refine HA5.out.mono ?_); clear HA5; rintro e w13 ⟨rfl, hb13⟩; have HB13 := Lib.hid (HB12.out.trans (hb13.mono HB12.out.size)); clear hb13; have ha6 := mayAttrs_any (alL 51) _ w13 (HG2.out _ HB13.out).2.2.1 (SM.out.2 51) (by rw [alL_len]; decide); rw [bnd7.2] at ha6; have HA6 := Lib.hid ha6; clear ha6)
            | (go_at_call 15; (with_reducible refine HA6.out.mono ?_); clear HA6; rintro e w14 ⟨rfl, hb14⟩; have HB14 := Lib.hid (HB13.out.trans (hb14.mono HB13.out.size)); clear hb14)
            | (go_at_call 23; (with_reducible refine (num_any _ _).mono ?_); rintro e wn ⟨rfl, rfl⟩)
            | (go_at_call 10; (with_reducible refine (known_any _).mono ?_); rintro e w15 ⟨rfl, hb15⟩; have HB15 := Lib.hid (HB14.out.trans (hb15.mono HB14.out.size)); clear hb15))
          go_ret
          exact ⟨rfl, HBR.out.trans ((HT.out.1.trans (HB15.out.mono HT.out.1.size)).mono HBR.out.size)⟩
end Go.Proofs.Ytlhbnmaalhainaa

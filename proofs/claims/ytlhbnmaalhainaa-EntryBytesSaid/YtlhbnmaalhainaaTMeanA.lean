/- What the stage's law says, ahead of its walk. -/
import Derived.Test.YtlhbnmaalhainaaTOf
namespace Go.Proofs.Ytlhbnmaalhainaa.Tlv
open Go.RowKit
set_option maxRecDepth 100000
set_option linter.unusedVariables false
set_option linter.unusedSimpArgs false

theorem byt_app {a b : List Int} (h : Byt a) (k : Byt b) : Byt (a ++ b) := fun x hx => by
  rcases List.mem_append.1 hx with h1 | h1
  · exact h x h1
  · exact k x h1
theorem byt_valB {t : Int} {xs : List Int} (h0 : 0 ≤ t) (h1 : t ≤ 255) (hx : Byt xs) (hl : xs.length ≤ 4194304) : Byt (valB t xs) := by
  unfold valB
  refine byt_app (fun x hx => ?_) hx
  simp only [be4, List.mem_cons, List.not_mem_nil, or_false] at hx
  rcases hx with rfl | rfl | rfl | rfl | rfl <;> omega
theorem byt_ats : ∀ (l : List At), (∀ a ∈ l, SmA a) → Byt (atsB l)
  | [], _ => fun x hx => by simp [atsB] at hx
  | a :: l, h => by
    rw [atsB_cons]
    have ha := h a (List.mem_cons_self ..)
    unfold SmA at ha
    refine byt_app ?_ (byt_ats l fun x hx => h x (List.mem_cons_of_mem _ hx))
    unfold atB
    refine byt_valB (by decide) (by decide) (byt_app (byt_valB (by decide) (by decide) (byt_bytesOf _) (by rw [bytes_sx]; omega)) (byt_valB (by decide) (by decide) (byt_bytesOf _) (by rw [bytes_sx]; omega))) ?_
    rw [List.length_append, valB_length, valB_length, bytes_sx, bytes_sx]
    omega
theorem byt_ent {name : List UInt8} {l : List At} (h : mayE name l = true) : Byt (entB name l) := by
  obtain ⟨h1, h2⟩ := may_lens h
  obtain ⟨_, h3⟩ := Bool.and_eq_true_iff.1 h
  unfold entB
  exact byt_app (byt_valB (by decide) (by decide) (byt_bytesOf _) (by rw [bytes_sx]; exact h1)) (byt_valB (by decide) (by decide) (byt_ats l (sm_of_may h3)) h2)
theorem ent_len {name : List UInt8} {l : List At} (h : mayE name l = true) : (entB name l).length ≤ 100000000 := by
  obtain ⟨h1, h2⟩ := may_lens h
  unfold entB
  rw [List.length_append, valB_length, valB_length, bytes_sx]
  omega
theorem ent_inj {n1 n2 : List UInt8} {l1 l2 : List At} (h1 : mayE n1 l1 = true) (h2 : mayE n2 l2 = true) (h : entB n1 l1 = entB n2 l2) : n1 = n2 ∧ l1 = l2 := by
  obtain ⟨a1, a2⟩ := may_lens h1
  obtain ⟨b1, b2⟩ := may_lens h2
  obtain ⟨c1, c2⟩ := of_put (name := n1) (l := l1) a1 a2
  obtain ⟨d1, d2⟩ := of_put (name := n2) (l := l2) b1 b2
  rw [h, d1] at c1
  simp only [Prod.mk.injEq, Option.some.injEq, true_and] at c1
  obtain ⟨e1, e2⟩ := c1
  rw [e2, c2] at d2
  simp only [Prod.mk.injEq, Option.some.injEq, and_true] at d2
  refine ⟨?_, ?_⟩
  · have h3 := u8s_bytes n1
    rw [← e1, u8s_bytes] at h3
    exact h3.symm
  · obtain ⟨_, k1⟩ := Bool.and_eq_true_iff.1 h1
    obtain ⟨_, k2⟩ := Bool.and_eq_true_iff.1 h2
    obtain ⟨l', k3, k4⟩ := atsB_prefix l1 l2 [] (sm_of_may k1) (sm_of_may k2) (by rw [List.append_nil]; exact d2)
    cases l' with
    | nil => rw [k3, List.append_nil]
    | cons a t =>
      have := congrArg List.length k4
      rw [atsB_cons, List.length_append, atB_len] at this
      simp at this
      omega
/-- Bytes as texts are the same just if the entries are. -/
theorem ent_beq {n1 n2 : List UInt8} {l1 l2 : List At} (h1 : mayE n1 l1 = true) (h2 : mayE n2 l2 = true) : ((mkS (entB n1 l1)).toList == (mkS (entB n2 l2)).toList) = (decide (n1 = n2) && decide (l1 = l2)) := by
  rw [← sx_u8s, ← sx_u8s, sx_beq, ← Bool.decide_and]
  refine decide_eq_decide.2 ⟨fun e => ?_, fun ⟨e1, e2⟩ => by rw [e1, e2]⟩
  refine ent_inj h1 h2 ?_
  rw [← bytes_u8s (byt_ent h1), e, bytes_u8s (byt_ent h2)]
theorem sm_may {l : List At} (h : mayL l = true) : Sm l := fun x hx => by have := sm_of_may h x hx; unfold SmA at this; omega
theorem bytes_yes (name : List UInt8) (l : List At) (v : Value) (w : World) (hv : RdV w v l) (hm : mayE name l = true) :
    Calls Try.prog 19 #[.agg #[.string (sx name), v]] w fun e w' => ∃ A c, e = .returned (.tuple #[.slice A (entB name l).length c, .int .i64 0]) ∧ Row w' w.heap.size (.slice A (entB name l).length c) (entB name l) ∧ Below w.heap.size w w' := by
  obtain ⟨h1, h2⟩ := Bool.and_eq_true_iff.1 hm
  have h3 := mayN_len h1
  refine (bytesE_any name l v w hv (by omega) (sm_may h2) (by have := (mayL_iff.1 h2).1; omega)).mono fun e w' h => ?_
  rcases h with ⟨_, v', he, hr, hb⟩ | ⟨h4, _⟩
  · obtain ⟨A, c, e1, _, _⟩ := hr.rd
    subst e1
    exact ⟨A, c, he, hr, hb⟩
  · rw [hm] at h4; cases h4
theorem bytes_no (name : List UInt8) (l : List At) (v : Value) (w : World) (hv : RdV w v l) (h1 : name.length ≤ 9223372036854775807) (hs : Sm l) (hl : l.length ≤ 1000000) (hm : mayE name l = false) :
    Calls Try.prog 19 #[.agg #[.string (sx name), v]] w fun e w' => e = .returned (.tuple #[.slice none 0 0, .int .i64 2]) ∧ Below w.heap.size w w' := by
  refine (bytesE_any name l v w hv h1 hs hl).mono fun e w' h => ?_
  rcases h with ⟨h4, _⟩ | ⟨_, he, hb⟩
  · rw [hm] at h4; cases h4
  · exact ⟨he, hb⟩
theorem of_yes (A : Option Addr) (c : Nat) (name : List UInt8) (l : List At) (w : World) (hr : Rd w w.heap.size A (entB name l)) (hm : mayE name l = true) :
    Calls Try.prog 20 #[.slice A (entB name l).length c] w fun e w' => ∃ Aa ca, e = .returned (.tuple #[.agg #[.string (sx name), .slice Aa l.length ca], .int .i64 0]) ∧ RdV w' (.slice Aa l.length ca) l ∧ Below w.heap.size w w' := by
  refine (of_any A c (entB name l) w hr (byt_ent hm) (ent_len hm)).mono fun e w' h => ?_
  rcases h with ⟨n2, l2, va, h2, h3, he, hv, hb⟩ | ⟨h3, _⟩
  · obtain ⟨e1, e2⟩ := ent_inj hm h2 h3
    subst e1 e2
    have hv2 := hv
    obtain ⟨Aa, ca, e1, _, _⟩ := hv
    subst e1
    exact ⟨Aa, ca, he, hv2, hb⟩
  · exact absurd rfl (h3 name l hm)
theorem of_no (A : Option Addr) (c : Nat) (l : List Int) (w : World) (hr : Rd w w.heap.size A l) (hby : Byt l) (hn : l.length ≤ 100000000) (hno : ∀ name at', mayE name at' = true → l ≠ entB name at') :
    Calls Try.prog 20 #[.slice A l.length c] w fun e w' => e = .returned (.tuple #[.agg #[.string ⟨#[]⟩, .slice none 0 0], .int .i64 4]) ∧ Below w.heap.size w w' := by
  refine (of_any A c l w hr hby hn).mono fun e w' h => ?_
  rcases h with ⟨n2, l2, va, h2, h3, _⟩ | ⟨_, he, hb⟩
  · exact absurd h3 (hno n2 l2 h2)
  · exact ⟨he, hb⟩
theorem change_ok {l by' : List At} (h : (changeR l by').2 = 0) : changeR l by' = (changeL l by', 0) ∧ mayL (changeL l by') = true ∧ changeR (changeL l by') by' = (changeL l by', 0) ∧ (changeL l by').length ≤ 50 := by
  unfold changeR at h
  by_cases hm : mayC l by' = true
  · rw [if_pos hm] at h
    by_cases h50 : 50 < (changeL l by').length
    · rw [if_pos h50] at h
      cases h
    · have hle : (changeL l by').length ≤ 50 := by omega
      have hml := change_may hm hle
      have hmc : mayC (changeL l by') by' = true := by
        unfold mayC at hm ⊢
        obtain ⟨_, h2⟩ := Bool.and_eq_true_iff.1 hm
        rw [hml, h2]
        rfl
      refine ⟨?_, hml, ?_, hle⟩
      · unfold changeR
        rw [if_pos hm, if_neg h50]
      · unfold changeR
        rw [if_pos hmc, change_again, if_neg h50]
  · rw [if_neg hm] at h
    cases h
theorem has_by {l by' : List At} {y : At} (hy : y ∈ by') : decide (y ∈ changeL l by') = !decide (y.v = []) := by
  have h : y ∈ changeL l by' ↔ y.v ≠ [] := by
    rw [mem_change]
    constructor
    · rintro (⟨_, h2⟩ | ⟨_, h2⟩)
      · exact absurd rfl (h2 y hy)
      · exact h2
    · intro h2
      exact .inr ⟨hy, h2⟩
  by_cases e : y.v = []
  · rw [decide_eq_true e, decide_eq_false (by rw [h]; simpa using e)]; rfl
  · rw [decide_eq_false e, decide_eq_true (by rw [h]; exact e)]; rfl
theorem typed_in {l by' : List At} {x : At} (hx : x ∈ changeL l by') : (anyT by' x by'.length = true → x ∈ by') ∧ (anyT by' x by'.length = false → x ∈ l) := by
  have hany : anyT by' x by'.length = by'.any fun b => decide (b.t = x.t) := by unfold anyT; rw [List.take_length]
  rw [hany]
  rcases mem_change.1 hx with ⟨h1, h2⟩ | ⟨h1, h2⟩
  · refine ⟨fun h => ?_, fun _ => h1⟩
    obtain ⟨b, hb, e⟩ := List.any_eq_true.1 h
    exact absurd (of_decide_eq_true e) (h2 b hb)
  · refine ⟨fun _ => h1, fun h => ?_⟩
    have := List.any_eq_false.1 h x h1
    simp at this
end Go.Proofs.Ytlhbnmaalhainaa.Tlv

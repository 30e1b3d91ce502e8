/- Finding a key in a node. -/
import Derived.Test.YtpldeobobfbkiaaV6
namespace Go.Proofs.Ytpldeobobfbkiaa.Tlv
open Go.RowKit
set_option maxRecDepth 100000
set_option linter.unusedVariables false
set_option linter.unusedSimpArgs false

theorem row_form {α : Type} {K : Kind α} {w : World} {base : Nat} {v : Value} {l : List α} (h : RowK K w base v l) (hp : 0 < l.length) : ∃ g c, v = .slice (some ⟨g, 0, none⟩) l.length c := by
  rcases h.2 with ⟨_, h0⟩ | ⟨g, cap, cur, rfl, _⟩
  · omega
  · exact ⟨g, cap, rfl⟩
theorem it_at {w : World} {base n c g : Nat} {l : List It} (h : RowK kI w base (.slice (some ⟨g, 0, none⟩) n c) l) (j : Nat) (hj : j < l.length) {i : Int} (hk : Key w (l.getD j default).b i) : ItAt w g j (l.getD j default) i := by
  obtain ⟨h1, h2⟩ := row_cells h (by omega)
  have a := h2 j hj 0 _ rfl
  have b := h2 j hj 1 _ rfl
  rw [show j * 2 + 0 = 2 * j from by omega] at a
  rw [show j * 2 + 1 = 2 * j + 1 from by omega] at b
  exact ⟨a, b, h1, hk⟩
theorem find0 (N b c : Nat) (x : Value) (t : Int) (w : World) (hN : Blk w N 44 #[.slice none 0 0, x]) (kt : Key w b t) :
    ∀ W, Below w.heap.size w W → Calls Try.prog 18 #[.pointer (some ⟨N, 0, none⟩), keyV b c] W fun e w' => e = .returned (.tuple #[.int .i64 0, .bool false]) ∧ Below W.heap.size W w' :=
  fun W h => find_of N b c 0 0 none x 0 false W (hN.on h) (search0 none 0 0 b c t W (kt.on h))
theorem find1 (N b c n0 : Nat) (x v : Value) (x1 : It) (i1 t : Int) (w : World) (hN : Blk w N 44 #[v, x]) (hr : RowK kI w n0 v [x1]) (k1 : Key w x1.b i1) (kt : Key w b t) (e1 : cmpI i1 t = -1) :
    ∀ W, Below w.heap.size w W → Calls Try.prog 18 #[.pointer (some ⟨N, 0, none⟩), keyV b c] W fun e w' => e = .returned (.tuple #[.int .i64 1, .bool false]) ∧ Below W.heap.size W w' := fun W h => by
  obtain ⟨g, cc, rfl⟩ := row_form hr (by simp)
  exact find_of N b c 1 cc _ x 1 false W (hN.on h) (search1 none g cc b c x1 i1 t W ((it_at hr 0 (by simp) (by simpa using k1)).on h) (kt.on h) e1)
theorem find2 (N b c n0 : Nat) (x v : Value) (x1 x2 : It) (i2 t : Int) (w : World) (hN : Blk w N 44 #[v, x]) (hr : RowK kI w n0 v [x1, x2]) (k2 : Key w x2.b i2) (kt : Key w b t) (e2 : cmpI i2 t = -1) :
    ∀ W, Below w.heap.size w W → Calls Try.prog 18 #[.pointer (some ⟨N, 0, none⟩), keyV b c] W fun e w' => e = .returned (.tuple #[.int .i64 2, .bool false]) ∧ Below W.heap.size W w' := fun W h => by
  obtain ⟨g, cc, rfl⟩ := row_form hr (by simp)
  exact find_of N b c 2 cc _ x 2 false W (hN.on h) (search2 none g cc b c x2 i2 t W ((it_at hr 1 (by simp) (by simpa using k2)).on h) (kt.on h) e2)
theorem find3 (N b c n0 : Nat) (x v : Value) (x1 x2 x3 : It) (i1 i2 t : Int) (w : World) (hN : Blk w N 44 #[v, x]) (hr : RowK kI w n0 v [x1, x2, x3]) (k1 : Key w x1.b i1) (k2 : Key w x2.b i2) (kt : Key w b t) (e1 : cmpI i1 t = 0) (e2 : cmpI i2 t = 1) :
    ∀ W, Below w.heap.size w W → Calls Try.prog 18 #[.pointer (some ⟨N, 0, none⟩), keyV b c] W fun e w' => e = .returned (.tuple #[.int .i64 0, .bool true]) ∧ Below W.heap.size W w' := fun W h => by
  obtain ⟨g, cc, rfl⟩ := row_form hr (by simp)
  exact find_of N b c 3 cc _ x 0 true W (hN.on h) (search3 none g cc b c x1 i1 x2 i2 t W ((it_at hr 0 (by simp) (by simpa using k1)).on h) ((it_at hr 1 (by simp) (by simpa using k2)).on h) (kt.on h) e1 e2)
end Go.Proofs.Ytpldeobobfbkiaa.Tlv

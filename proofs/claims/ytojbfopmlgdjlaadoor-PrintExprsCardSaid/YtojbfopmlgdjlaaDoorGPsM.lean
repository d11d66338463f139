/- The parser in memory: its tokens, its place, its depth, its count; what a call comes to. -/
import Derived.Test.YtojbfopmlgdjlaaDoorPs
import Derived.Test.YtojbfopmlgdjlaaDoorGLxE
namespace Go.Proofs.YtojbfopmlgdjlaaDoor
open Go Go.RowKit
/-- A token as lex tells it. -/
structure Good (t : Tok) : Prop where
  kind : t.kind ≤ 2
  ne : t.text ≠ []
  len : t.text.length ≤ 1000000
  num : t.kind = 1 → (∀ c ∈ t.text, digitB c.toNat = true) ∧ valL t.text ≤ 9223372036854775807
  name : t.kind ≠ 1 → ∃ c ∈ t.text, digitB c.toNat = false
/-- What does not turn while a text is read: its tokens, where they lie, its length. -/
structure Cx where
  vt : Value
  ts : List Tok
  len : Nat
  base : Nat
structure CxOk (C : Cx) : Prop where
  small : C.ts.length ≤ 1000000
  good : ∀ t ∈ C.ts, Good t
/-- Of the block p alone. -/
abbrev At (p : Nat) : Nat → Prop := fun k => k = p
section
variable {w w' : World} {p : Nat} {C : Cx} {d n : Nat} {r : List Tok}
end
/-- The token that is next. -/
def hdT (len : Nat) : List Tok → Tok
  | [] => ⟨3, [], len⟩
  | t :: _ => t
theorem hdT_text (len : Nat) (r : List Tok) : (hdT len r).text = txt r := by cases r <;> rfl
theorem hdT_at (len : Nat) (r : List Tok) : (hdT len r).at_ = atOf len r := by cases r <;> rfl
def tokV (t : Tok) : Value := .agg #[.int .i64 t.kind, .string (strB t.text), .int .i64 t.at_]
theorem flat_get {α : Type} (f : α → List Value) (k : Nat) (hf : ∀ a, (f a).length = k) : ∀ (l : List α) (i : Nat) (h : i < l.length) (j : Nat), j < k → (l.map f).flatten[k * i + j]? = (f l[i])[j]?
  | a :: l, 0, _, j, hj => by
    rw [List.map_cons, List.flatten_cons, List.getElem?_append_left (by rw [hf]; omega)]
    simp
  | a :: l, i + 1, h, j, hj => by
    rw [List.map_cons, List.flatten_cons, List.getElem?_append_right (by rw [hf, Nat.mul_succ]; omega), hf, show k * (i + 1) + j - k = k * i + j by rw [Nat.mul_succ]; omega]
    exact flat_get f k hf l i (by simpa using h) j hj
theorem ToksR.slice {w : World} {B : Nat} {v : Value} {ts : List Tok} (h : ToksR w B v ts) : ∃ A c, v = .slice A ts.length c ∧ ts.length ≤ maxLen := by
  rcases h.2 with ⟨rfl, h0⟩ | ⟨g, cap, cur, rfl, _, _, h1, h2, _⟩
  · rw [h0]; exact ⟨_, _, rfl, Nat.zero_le _⟩
  · exact ⟨_, _, rfl, Nat.le_trans h1 h2⟩
theorem ToksR.get {w : World} {B : Nat} {A : Option Addr} {n c : Nat} {ts : List Tok} (h : ToksR w B (.slice A n c) ts) {i : Nat} {t : Tok} (hi : ts[i]? = some t) :
    ∃ b, A = some ⟨b, 0, none⟩ ∧ w.cell? ⟨b, i * 3, none⟩ = some (.int .i64 t.kind) ∧ w.cell? ⟨b, i * 3 + 1, none⟩ = some (.string (strB t.text)) ∧ w.cell? ⟨b, i * 3 + 2, none⟩ = some (.int .i64 t.at_) := by
  obtain ⟨hi', rfl⟩ := List.getElem?_eq_some_iff.1 hi
  have key : ∀ b, A = some ⟨b, 0, none⟩ → ∀ (j : Nat) (u : Value), j < 3 → (Tok.cells ts[i])[j]? = some u → w.cell? ⟨b, i * 3 + j, none⟩ = some u := by
    rintro b rfl j u hj hu
    have h1 := World.ownsRow.cells (g := b) h rfl (3 * i + j) u ((flat_get Tok.cells 3 (fun _ => rfl) ts i hi' j hj).trans hu)
    rw [Go.WideShapes.add_plain] at h1
    rw [← h1]
    congr 2
    omega
  rcases h.2 with ⟨h1, h0⟩ | ⟨g, cap, cur, h1, hb, _⟩
  · omega
  · injection h1 with e1 _ _
    subst e1
    exact ⟨g, rfl, key g rfl 0 _ (by decide) rfl, key g rfl 1 _ (by decide) rfl, key g rfl 2 _ (by decide) rfl⟩
end Go.Proofs.YtojbfopmlgdjlaaDoor

/- The walk of lex.Tokens. -/
import Derived.Test.YtojbfopmlgdjlaaDoorGLxD
namespace Go.Proofs.YtojbfopmlgdjlaaDoor
open Go Go.RowKit
theorem begin_kind (i : Nat) (c : UInt8) : (St.begin i c).kind = kindB c.toNat := by
  unfold St.begin kindB
  have h35 : c = 35 ↔ c.toNat = 35 := ⟨fun h => by rw [h]; rfl, fun h => UInt8.toNat_inj.1 (by rw [h]; rfl)⟩
  by_cases h1 : blankB c.toNat = true
  · rw [if_pos h1, if_pos h1]; rfl
  · rw [if_neg h1, if_neg h1]
    by_cases h2 : c = 35
    · rw [if_pos h2, if_pos (h35.1 h2)]; rfl
    · rw [if_neg h2, if_neg (fun h => h2 (h35.2 h))]
      by_cases h3 : letterB c.toNat = true
      · rw [if_pos h3, if_pos h3]; rfl
      · rw [if_neg h3, if_neg h3]
        by_cases h4 : digitB c.toNat = true
        · rw [if_pos h4, if_pos h4]; rfl
        · rw [if_neg h4, if_neg h4]; rfl
theorem begin_fits {T : List UInt8} {i : Nat} {c : UInt8} (h : T[i]? = some c) : (St.begin i c).fits T i (i + 1) := by
  have hi : i < T.length := by
    rcases Nat.lt_or_ge i T.length with h1 | h1
    · exact h1
    · rw [List.getElem?_eq_none h1] at h; cases h
  have hw : [c] = (T.drop i).take (i + 1 - i) := by
    rw [take_next (Nat.le_refl i) h]
    simp
  unfold St.begin
  split
  · trivial
  · split
    · trivial
    · split
      · exact ⟨rfl, by omega, by omega, hw, by omega, fun h => by cases h⟩
      · split
        · rename_i hd
          exact ⟨rfl, by omega, by omega, hw, by omega, fun _ x hx => by rw [List.mem_singleton] at hx; rw [hx]; exact hd⟩
        · exact ⟨rfl, by omega, by omega, hw, by omega, fun h => by cases h⟩
theorem push_fits {T : List UInt8} {fr i : Nat} {c : UInt8} {st : St} (hs : st.fits T fr i) (h : T[i]? = some c) (hg : st.goes c = true) : (st.push c).fits T fr (i + 1) := by
  have hi : i < T.length := by
    rcases Nat.lt_or_ge i T.length with h1 | h1
    · exact h1
    · rw [List.getElem?_eq_none h1] at h; cases h
  cases st with
  | blank => trivial
  | com => trivial
  | word k f x =>
    obtain ⟨rfl, h1, h2, hx, hk, h3⟩ := hs
    refine ⟨rfl, by omega, by omega, ?_, hk, ?_⟩
    · rw [take_next (by omega) h, hx]
    · rintro rfl y hy
      rw [List.mem_append, List.mem_singleton] at hy
      rcases hy with hy | rfl
      · exact h3 rfl y hy
      · exact hg
theorem push_kind (st : St) (c : UInt8) : (st.push c).kind = st.kind := by cases st <;> rfl
theorem fin_len {st : St} {ts ts' : List Tok} {c : UInt8} (h : st.fin ts c = .ok ts') : ts'.length ≤ ts.length + 1 := by
  cases st with
  | blank => injection h with h; rw [← h]; omega
  | com => injection h with h; rw [← h]; omega
  | word k f x =>
    by_cases hz : fault k x c = 0
    · rw [fin_ok hz] at h
      injection h with h; rw [← h]; simp
    · rw [fin_err rfl hz] at h; cases h
theorem runT_goes {st : St} {i : Nat} {ts : List Tok} {c : UInt8} {r : List UInt8} (h : st.goes c = true) : runT st i ts (c :: r) = runT (st.push c) (i + 1) ts r := by
  rw [runT, if_pos h]
theorem runT_err {st : St} {i : Nat} {ts : List Tok} {c : UInt8} {r : List UInt8} {x : Nat × Nat} (h : st.goes c = false) (hf : st.fin ts c = .error x) : runT st i ts (c :: r) = .error x := by
  rw [runT, if_neg (by rw [h]; simp), hf]
theorem runT_ok {st : St} {i : Nat} {ts ts' : List Tok} {c : UInt8} {r : List UInt8} (h : st.goes c = false) (hf : st.fin ts c = .ok ts') : runT st i ts (c :: r) = runT (St.begin i c) (i + 1) ts' r := by
  rw [runT, if_neg (by rw [h]; simp), hf]
theorem drop_at {T : List UInt8} {i : Nat} (h : i < T.length) : ∃ c, T[i]? = some c ∧ T.drop i = c :: T.drop (i + 1) := ⟨T[i], List.getElem?_eq_getElem h, List.drop_eq_getElem_cons h⟩
/-- What Tokens comes to. -/
def TokF (W : World) (r : Res) (e : Ending) (w : World) : Prop :=
  Below W.heap.size W w ∧ match r with
    | .ok ts => ∃ v, e = .returned (.tuple #[v, .int .i64 0, .int .i64 0]) ∧ ToksR w W.heap.size v ts
    | .error (a, n) => e = .returned (.tuple #[.slice none 0 0, .int .i64 a, .int .i64 n]) ∧ n ≠ 0
end Go.Proofs.YtojbfopmlgdjlaaDoor

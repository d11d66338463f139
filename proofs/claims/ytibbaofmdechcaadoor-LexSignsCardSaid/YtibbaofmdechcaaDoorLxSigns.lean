/- The walk of LexSigns: signs that stand close together. -/
import Derived.Test.YtibbaofmdechcaaDoorLxK
import Derived.BigQuiet
namespace Go.Proofs.YtibbaofmdechcaaDoor
open Go Go.RowKit

/-- Tokens one behind the other, blanks alone between them. -/
def Ch (s : List UInt8) : Nat → List Tok → Nat → Prop
  | a, [], e => a = e
  | a, t :: r, e => a ≤ t.at_ ∧ t.at_ ≤ s.length ∧ (∀ p, a ≤ p → p < t.at_ → s[p]? = some 32) ∧ Ch s (t.at_ + t.text.length) r e
theorem Ch.snoc {s : List UInt8} {t : Tok} : ∀ {ts : List Tok} {a e : Nat}, Ch s a ts e → e ≤ t.at_ → t.at_ ≤ s.length → (∀ p, e ≤ p → p < t.at_ → s[p]? = some 32) → Ch s a (ts ++ [t]) (t.at_ + t.text.length)
  | [], a, e, h, h1, h2, h3 => by
    have h : a = e := h
    subst h
    exact ⟨h1, h2, h3, rfl⟩
  | x :: r, a, e, h, h1, h2, h3 => ⟨h.1, h.2.1, h.2.2.1, Ch.snoc h.2.2.2 h1 h2 h3⟩
theorem Ch.le {s : List UInt8} : ∀ {ts : List Tok} {a e : Nat}, Ch s a ts e → a ≤ e
  | [], a, e, h => by have h : a = e := h; omega
  | t :: r, a, e, h => by have := h.1; have := Ch.le h.2.2.2; omega
/-- What holds of what is being read, behind tokens that end at e. -/
def St.lies (s : List UInt8) (e i : Nat) : St → Prop
  | .blank => ∀ p, e ≤ p → p < i → s[p]? = some 32
  | .com => False
  | .word _ f w => e ≤ f ∧ f ≤ s.length ∧ f + w.length = i ∧ ∀ p, e ≤ p → p < f → s[p]? = some 32
theorem fin_lies {s : List UInt8} {e i : Nat} {st : St} {ts ts' : List Tok} {c : UInt8} (hch : Ch s 0 ts e) (he : e ≤ i) (hst : st.lies s e i) (hf : st.fin ts c = .ok ts') : ∃ e', Ch s 0 ts' e' ∧ e' ≤ i ∧ ∀ p, e' ≤ p → p < i → s[p]? = some 32 := by
  cases st with
  | blank =>
    injection hf with hf
    subst hf
    exact ⟨e, hch, he, hst⟩
  | com => exact hst.elim
  | word k f w =>
    obtain ⟨h1, h2, h3, h4⟩ := hst
    by_cases hz : fault k w c = 0
    · rw [fin_ok hz] at hf
      injection hf with hf
      subst hf
      exact ⟨_, hch.snoc (t := ⟨k, w, f⟩) h1 h2 h4, Nat.le_of_eq h3, fun p hp hq => by have : f + w.length ≤ p := hp; omega⟩
    · rw [fin_err rfl hz] at hf; cases hf
theorem run_lies {s : List UInt8} (hs : ∀ c ∈ s, c ≠ 35 ∧ (blankB c.toNat = true → c = 32)) : ∀ (r : List UInt8) (i : Nat) (st : St) (ts ts' : List Tok) (e : Nat), s.drop i = r → i ≤ s.length → Ch s 0 ts e → e ≤ i → st.lies s e i → runT st i ts (r ++ [10]) = .ok ts' → ∃ e', Ch s 0 ts' e' ∧ e' ≤ s.length
  | [], i, st, ts, ts', e, hr, hi, hch, he, hst, hrun => by
    have hil : i = s.length := by
      have := congrArg List.length hr
      simp at this; omega
    by_cases hg : st.goes 10 = true
    · exfalso
      cases st with
      | blank => cases hg
      | com => exact hst
      | word k f w =>
        rw [List.nil_append, runT_goes hg] at hrun
        match k, hg with
        | 0, hg => cases hg
        | 1, hg => cases hg
        | k + 2, hg =>
          have hg : isOp (w ++ [10]) = true := hg
          unfold isOp at hg
          have hm := List.contains_iff_mem.1 hg
          have all : ∀ o ∈ opsL, (10 : UInt8) ∉ o := by decide
          exact all _ hm (by simp)
    · rw [Bool.not_eq_true] at hg
      cases hf : st.fin ts 10 with
      | error x => rw [List.nil_append, runT_err hg hf] at hrun; cases hrun
      | ok ts2 =>
        rw [List.nil_append, runT_ok hg hf] at hrun
        injection hrun with hrun
        subst hrun
        obtain ⟨e', h1, h2, -⟩ := fin_lies hch he hst hf
        exact ⟨e', h1, by omega⟩
  | c :: r, i, st, ts, ts', e, hr, hi, hch, he, hst, hrun => by
    have hlt : i < s.length := by
      rcases Nat.lt_or_ge i s.length with h | h
      · exact h
      · rw [List.drop_eq_nil_of_le h] at hr; cases hr
    have hdr := List.drop_eq_getElem_cons hlt
    rw [hr] at hdr
    injection hdr with hc hr'
    have hcm : s[i]? = some c := by rw [hc]; exact List.getElem?_eq_getElem hlt
    have hcs := hs c (by rw [hc]; exact List.getElem_mem hlt)
    by_cases hg : st.goes c = true
    · rw [List.cons_append, runT_goes hg] at hrun
      refine run_lies hs r (i + 1) _ ts ts' e hr'.symm hlt hch (by omega) ?_ hrun
      cases st with
      | blank => cases hg
      | com => exact hst.elim
      | word k f w =>
        obtain ⟨h1, h2, h3, h4⟩ := hst
        exact ⟨h1, h2, by rw [List.length_append]; simp; omega, h4⟩
    · rw [Bool.not_eq_true] at hg
      cases hf : st.fin ts c with
      | error x => rw [List.cons_append, runT_err hg hf] at hrun; cases hrun
      | ok ts2 =>
        rw [List.cons_append, runT_ok hg hf] at hrun
        obtain ⟨e', h1, h2, h3⟩ := fin_lies hch he hst hf
        refine run_lies hs r (i + 1) _ ts2 ts' e' hr'.symm hlt h1 (by omega) ?_ hrun
        unfold St.begin
        split
        · rename_i hb
          intro p hp hq
          rcases Nat.lt_or_ge p i with h | h
          · exact h3 p hp h
          · obtain rfl : p = i := by omega
            rw [hcm, hcs.2 hb]
        · split
          · rename_i h35
            exact absurd h35 hcs.1
          · split
            · exact ⟨h2, by omega, rfl, h3⟩
            · split
              · exact ⟨h2, by omega, rfl, h3⟩
              · exact ⟨h2, by omega, rfl, h3⟩
theorem lex_lies {s : List UInt8} (hs : ∀ c ∈ s, c ≠ 35 ∧ (blankB c.toNat = true → c = 32)) {ts : List Tok} (h : lexT s = .ok ts) : ∃ e, Ch s 0 ts e ∧ e ≤ s.length := by
  unfold lexT at h
  split at h
  · cases h
  · exact run_lies hs s 0 .blank [] ts 0 rfl (Nat.zero_le _) rfl (Nat.le_refl _) (fun p h1 h2 => by omega) h
/-- The bytes that LexSigns puts together. -/
def alphaL : List UInt8 := [61, 33, 60, 62, 38, 124, 43, 45, 42, 47, 37, 40, 41, 123, 125, 91, 93, 44, 59, 97, 49, 32]
def alpha (c : UInt8) : UInt8 := alphaL.getD (c.toNat % 22) 0
theorem alpha_at (c : UInt8) : alphaL[c.toNat % 22]? = some (alpha c) := by
  have h : c.toNat % 22 < alphaL.length := Nat.mod_lt _ (by decide)
  unfold alpha
  rw [List.getD_eq_getElem?_getD, List.getElem?_eq_getElem h]
  rfl
theorem alpha_ok (c : UInt8) : alpha c ≠ 35 ∧ (blankB (alpha c).toNat = true → alpha c = 32) := by
  have hm : alpha c ∈ alphaL := List.mem_of_getElem? (alpha_at c)
  have all : ∀ x ∈ alphaL, x ≠ 35 ∧ (blankB x.toNat = true → x = 32) := by decide
  exact all _ hm
end Go.Proofs.YtibbaofmdechcaaDoor

/- Part 7 of the walks (merged): Ord, PsF. -/
import Derived.Test.YteplkhgaoaphhaaGreatDoorM1
import Derived.Test.YteplkhgaoaphhaaGreatDoorM6
/- ParseOrder, as it is told: its text, its tokens, its tree; a sum with all its parentheses. -/
namespace Go.Proofs.YteplkhgaoaphhaaGreatDoor

def sgB : Nat → UInt8
  | 0 => 43 | 1 => 45 | 2 => 42 | 3 => 47 | _ => 37
def dgB : Nat → UInt8
  | 0 => 50 | 1 => 51 | 2 => 52 | 3 => 53 | 4 => 54 | 5 => 55 | 6 => 56 | 7 => 57 | 8 => 97 | 9 => 98 | 10 => 99 | _ => 100
def kdB : Nat → Nat
  | 8 => 0 | 9 => 0 | 10 => 0 | 11 => 0 | _ => 1
def leaf (k : Nat) : Ex := if k < 8 then .num (k + 2) else .var [dgB k]
/-- The token before the k-th sign. -/
def pvB : Nat → UInt8
  | 0 => 49 | k + 1 => dgB k
def pkB : Nat → Nat
  | 0 => 1 | k + 1 => kdB k
/-- The text behind the first number: j signs from the k-th on. -/
def ordF (σ : Nat → Nat) : Nat → Nat → List UInt8
  | 0, _ => []
  | j + 1, k => [32, sgB (σ k), 32, dgB k] ++ ordF σ j (k + 1)
def ordS (σ : Nat → Nat) (n : Nat) : List UInt8 := [49] ++ ordF σ n 0
theorem ordF_snoc (σ : Nat → Nat) : ∀ j k, ordF σ (j + 1) k = ordF σ j k ++ [32, sgB (σ (k + j)), 32, dgB (k + j)]
  | 0, k => rfl
  | j + 1, k => by
    have e : k + (j + 1) = k + 1 + j := by omega
    rw [ordF, ordF_snoc σ j (k + 1), ordF, List.append_assoc, e]
theorem ordF_len (σ : Nat → Nat) : ∀ j k, (ordF σ j k).length = 4 * j
  | 0, _ => rfl
  | j + 1, k => by rw [ordF, List.length_append, ordF_len σ j (k + 1)]; simp; omega
theorem ordS_len (σ : Nat → Nat) (n : Nat) : (ordS σ n).length = 1 + 4 * n := by rw [ordS, List.length_append, ordF_len]; rfl
theorem ordS_succ (σ : Nat → Nat) (n : Nat) : ordS σ (n + 1) = ordS σ n ++ [32] ++ [sgB (σ n)] ++ [32] ++ [dgB n] := by
  rw [ordS, ordF_snoc, ordS]
  simp
def ordTk (σ : Nat → Nat) : Nat → Nat → Nat → List Tok
  | 0, _, _ => []
  | j + 1, k, i => ⟨2, [sgB (σ k)], i + 1⟩ :: ⟨kdB k, [dgB k], i + 3⟩ :: ordTk σ j (k + 1) (i + 4)
theorem lt12 {k : Nat} (h : k < 12) : k = 0 ∨ k = 1 ∨ k = 2 ∨ k = 3 ∨ k = 4 ∨ k = 5 ∨ k = 6 ∨ k = 7 ∨ k = 8 ∨ k = 9 ∨ k = 10 ∨ k = 11 := by omega
theorem lt5 {k : Nat} (h : k < 5) : k = 0 ∨ k = 1 ∨ k = 2 ∨ k = 3 ∨ k = 4 := by omega
theorem ord_step (k s : Nat) (hk : k < 12) (hs : s < 5) (i fr : Nat) (ts : List Tok) : runP (.word (pkB k) fr [pvB k]) i ts [32, sgB s, 32, dgB k] = .ok (.word (kdB k) (i + 3) [dgB k], i + 4, ts ++ [⟨pkB k, [pvB k], fr⟩] ++ [⟨2, [sgB s], i + 1⟩]) := by
  rcases lt12 hk with rfl | rfl | rfl | rfl | rfl | rfl | rfl | rfl | rfl | rfl | rfl | rfl <;> rcases lt5 hs with rfl | rfl | rfl | rfl | rfl <;> rfl
theorem ord_last (k : Nat) (hk : k ≤ 12) (i fr : Nat) (ts : List Tok) : runT (.word (pkB k) fr [pvB k]) i ts ([59, 32, 125] ++ [10]) = .ok (ts ++ [⟨pkB k, [pvB k], fr⟩] ++ [⟨2, [59], i⟩] ++ [⟨2, [125], i + 2⟩]) := by
  match k, hk with
  | 0, _ => rfl
  | k + 1, h =>
    rcases lt12 (show k < 12 by omega) with rfl | rfl | rfl | rfl | rfl | rfl | rfl | rfl | rfl | rfl | rfl | rfl <;> rfl
theorem ord_run (σ : Nat → Nat) (hσ : ∀ k, σ k < 5) (b : List UInt8) : ∀ (j k fr i : Nat) (ts : List Tok), k + j ≤ 12 → ∃ fr' ts', runT (.word (pkB k) fr [pvB k]) i ts (ordF σ j k ++ b) = runT (.word (pkB (k + j)) fr' [pvB (k + j)]) (i + 4 * j) ts' b ∧ ts' ++ [⟨pkB (k + j), [pvB (k + j)], fr'⟩] = ts ++ [⟨pkB k, [pvB k], fr⟩] ++ ordTk σ j k i
  | 0, k, fr, i, ts, _ => ⟨fr, ts, rfl, by rw [ordTk, List.append_nil]; rfl⟩
  | j + 1, k, fr, i, ts, h => by
    obtain ⟨fr', ts', h1, h2⟩ := ord_run σ hσ b j (k + 1) (i + 3) (i + 4) (ts ++ [⟨pkB k, [pvB k], fr⟩] ++ [⟨2, [sgB (σ k)], i + 1⟩]) (by omega)
    refine ⟨fr', ts', ?_, ?_⟩
    · rw [ordF, List.append_assoc, runT_app _ _ _ _ _ _ _ _ (ord_step k (σ k) (by omega) (hσ k) i fr ts)]
      have e1 : k + (j + 1) = k + 1 + j := by omega
      have e2 : i + 4 * (j + 1) = i + 4 + 4 * j := by omega
      rw [e1, e2]
      exact h1
    · have e1 : k + (j + 1) = k + 1 + j := by omega
      rw [e1, h2, ordTk]
      simp [pkB, pvB]
def ordPre : List UInt8 := [102, 110, 32, 102, 40, 41, 32, 123, 32, 114, 101, 116, 117, 114, 110, 32]
def ordPT : List Tok := [⟨0, [102, 110], 0⟩, ⟨0, [102], 3⟩, ⟨2, [40], 4⟩, ⟨2, [41], 5⟩, ⟨2, [123], 7⟩, ⟨0, [114, 101, 116, 117, 114, 110], 9⟩]
def ordB (σ : Nat → Nat) (n : Nat) : List UInt8 := ordPre ++ ordS σ n ++ [59, 32, 125]
theorem ordB_len (σ : Nat → Nat) (n : Nat) : (ordB σ n).length = 20 + 4 * n := by
  rw [ordB, List.length_append, List.length_append, ordS_len]
  show 16 + _ + 3 = _
  omega
def ordTl (i : Nat) : List Tok := [⟨2, [59], i⟩, ⟨2, [125], i + 2⟩]
theorem ord_lex (σ : Nat → Nat) (hσ : ∀ k, σ k < 5) (n : Nat) (hn : n ≤ 12) : lexT (ordB σ n) = .ok (ordPT ++ (⟨1, [49], 16⟩ :: (ordTk σ n 0 17 ++ ordTl (17 + 4 * n)))) := by
  unfold lexT
  rw [if_neg (by rw [ordB_len]; omega)]
  unfold ordB ordS
  have e : ordPre ++ ([49] ++ ordF σ n 0) ++ [59, 32, 125] ++ [10] = (ordPre ++ [49]) ++ (ordF σ n 0 ++ ([59, 32, 125] ++ [10])) := by simp
  rw [e, runT_app (ordPre ++ [49]) .blank 0 [] _ (.word 1 16 [49]) 17 ordPT rfl]
  obtain ⟨fr', ts', h1, h2⟩ := ord_run σ hσ ([59, 32, 125] ++ [10]) n 0 16 17 ordPT (by omega)
  rw [Nat.zero_add] at h1 h2
  refine h1.trans ?_
  rw [ord_last n hn, h2]
  simp [ordTl, pkB, pvB]

/-- A sum, and what stands before it. -/
def closeE : Option (Nat × Ex) → Ex → Ex
  | none, t => t
  | some (k, a), t => .bin k a t
def stepO (σ : Nat → Nat) (k : Nat) (s : Option (Nat × Ex) × Ex) : Option (Nat × Ex) × Ex := if 2 ≤ σ k then (s.1, .bin (σ k + 2) s.2 (leaf k)) else (some (σ k + 2, closeE s.1 s.2), leaf k)
def stO (σ : Nat → Nat) : Nat → Option (Nat × Ex) × Ex
  | 0 => (none, .num 1)
  | k + 1 => stepO σ k (stO σ k)
def ordE (σ : Nat → Nat) (n : Nat) : Ex := closeE (stO σ n).1 (stO σ n).2
def runO (σ : Nat → Nat) : Nat → Nat → Option (Nat × Ex) × Ex → Option (Nat × Ex) × Ex
  | 0, _, s => s
  | j + 1, k, s => runO σ j (k + 1) (stepO σ k s)
theorem runO_eq (σ : Nat → Nat) : ∀ j k, runO σ j k (stO σ k) = stO σ (k + j)
  | 0, k => rfl
  | j + 1, k => by
    rw [runO]
    have := runO_eq σ j (k + 1)
    rw [stO] at this
    rw [this]
    congr 1
    omega
theorem prodK_sg (s : Nat) (hs : s < 5) : prodK [sgB s] = if 2 ≤ s then some (s + 2) else none := by
  rcases lt5 hs with rfl | rfl | rfl | rfl | rfl <;> rfl
theorem sumK_sg (s : Nat) (hs : s < 5) : sumK [sgB s] = if 2 ≤ s then none else some (s + 2) := by
  rcases lt5 hs with rfl | rfl | rfl | rfl | rfl <;> rfl
theorem ord_chain (σ : Nat → Nat) (hσ : ∀ k, σ k < 5) {u : List Tok → Rs Ex} (hu : ∀ k a r, k < 12 → u (⟨kdB k, [dgB k], a⟩ :: r) = .ok (leaf k) r) (f : Nat) (hf : 12 < f) (p : Nat) :
    ∀ (j k i g g2 : Nat) (s : Option (Nat × Ex) × Ex), k + j ≤ 12 → j < g → j < g2 → (chain .bin prodK u g s.2 (ordTk σ j k i ++ ordTl p)).bind (fun b r => chain .bin sumK (prodOf u f) g2 (closeE s.1 b) r) = .ok (closeE (runO σ j k s).1 (runO σ j k s).2) (ordTl p)
  | 0, k, i, g + 1, g2 + 1, s, _, _, _ => rfl
  | j + 1, k, i, g + 1, g2 + 1, s, h, hg, hg2 => by
    rw [ordTk, runO]
    show Rs.bind (chain .bin prodK u (g + 1) s.2 (⟨2, [sgB (σ k)], i + 1⟩ :: ⟨kdB k, [dgB k], i + 3⟩ :: (ordTk σ j (k + 1) (i + 4) ++ ordTl p))) _ = _
    by_cases h2 : 2 ≤ σ k
    · have hk : prodK (txt (⟨2, [sgB (σ k)], i + 1⟩ :: ⟨kdB k, [dgB k], i + 3⟩ :: (ordTk σ j (k + 1) (i + 4) ++ ordTl p))) = some (σ k + 2) := by
        show prodK [sgB (σ k)] = _
        rw [prodK_sg _ (hσ k), if_pos h2]
      rw [chain_some hk]
      show Rs.bind (Rs.bind (u (⟨kdB k, [dgB k], i + 3⟩ :: (ordTk σ j (k + 1) (i + 4) ++ ordTl p))) _) _ = _
      rw [hu k _ _ (by omega)]
      have := ord_chain σ hσ hu f hf p j (k + 1) (i + 4) g (g2 + 1) (stepO σ k s) (by omega) (by omega) (by omega)
      rw [show stepO σ k s = (s.1, .bin (σ k + 2) s.2 (leaf k)) from if_pos h2] at this ⊢
      exact this
    · have hk : prodK (txt (⟨2, [sgB (σ k)], i + 1⟩ :: ⟨kdB k, [dgB k], i + 3⟩ :: (ordTk σ j (k + 1) (i + 4) ++ ordTl p))) = none := by
        show prodK [sgB (σ k)] = _
        rw [prodK_sg _ (hσ k), if_neg h2]
      have hk2 : sumK (txt (⟨2, [sgB (σ k)], i + 1⟩ :: ⟨kdB k, [dgB k], i + 3⟩ :: (ordTk σ j (k + 1) (i + 4) ++ ordTl p))) = some (σ k + 2) := by
        show sumK [sgB (σ k)] = _
        rw [sumK_sg _ (hσ k), if_neg h2]
      rw [chain_none hk]
      show chain .bin sumK (prodOf u f) (g2 + 1) (closeE s.1 s.2) _ = _
      rw [chain_some hk2]
      show Rs.bind (Rs.bind (u (⟨kdB k, [dgB k], i + 3⟩ :: (ordTk σ j (k + 1) (i + 4) ++ ordTl p))) _) _ = _
      rw [hu k _ _ (by omega)]
      have := ord_chain σ hσ hu f hf p j (k + 1) (i + 4) f g2 (stepO σ k s) (by omega) (by omega) (by omega)
      rw [show stepO σ k s = (some (σ k + 2, closeE s.1 s.2), leaf k) from if_neg h2] at this ⊢
      exact this
  | 0, k, i, 0, _, s, _, h, _ => absurd h (Nat.lt_irrefl _)
  | 0, k, i, _ + 1, 0, s, _, _, h => absurd h (Nat.lt_irrefl _)
  | _ + 1, k, i, 0, _, s, _, h, _ => absurd h (Nat.not_lt_zero _)
  | _ + 1, k, i, _ + 1, 0, s, _, _, h => absurd h (Nat.not_lt_zero _)
set_option maxRecDepth 100000 in
theorem un_leaf (k a : Nat) (r : List Tok) (hk : k < 12) : un 59 1 (⟨kdB k, [dgB k], a⟩ :: r) = .ok (leaf k) r := by
  rcases lt12 hk with rfl | rfl | rfl | rfl | rfl | rfl | rfl | rfl | rfl | rfl | rfl | rfl <;> rfl
theorem ord_sum (σ : Nat → Nat) (hσ : ∀ k, σ k < 5) (n p : Nat) (hn : n ≤ 12) : sumP 59 1 (⟨1, [49], 16⟩ :: (ordTk σ n 0 17 ++ ordTl p)) = .ok (ordE σ n) (ordTl p) := by
  have h := ord_chain σ hσ (u := un 59 1) (fun k a r hk => un_leaf k a r hk) 59 (by decide) p n 0 17 59 59 (none, .num 1) (by omega) (by omega) (by omega)
  rw [show runO σ n 0 (none, .num 1) = stO σ (0 + n) from runO_eq σ n 0, Nat.zero_add] at h
  exact h
def ordF7 (σ : Nat → Nat) (n : Nat) : Fn7 := ⟨[102], [], [], [.mk 9 [] [] (some (ordE σ n)) none none [] [] [] 0]⟩
set_option maxRecDepth 100000 in
theorem ord_func (R : List Tok) : funcP 60 (ordPT ++ R) = (((((sumP 59 1 R).bind fun e r => (want [59] r).bind fun _ r => .ok (Sm.mk 9 [] [] (some e) none none [] [] [] 0) r).bind fun a r => Rs.ok (a, 1) r).bind fun x r => stmsOf (stm 60 1) 59 [x.1] x.2 r).bind fun b r => .ok ⟨[102], [], [], b.1⟩ r) := rfl
theorem ord_text (σ : Nat → Nat) (hσ : ∀ k, σ k < 5) (n : Nat) (hn : n ≤ 12) : textP (funcP 60) (ordB σ n) = some (.ok (ordF7 σ n)) := by
  unfold textP
  rw [ord_lex σ hσ n hn]
  show wholeP _ (funcP 60 _) = _
  rw [ord_func, ord_sum σ hσ n _ hn]
  rfl

/-- A sum with all its parentheses. -/
def wholeT : Ex → List UInt8
  | .num n => [UInt8.ofNat (48 + n)]
  | .var s => s
  | .neg _ => []
  | .bin k a b => [40] ++ wholeT a ++ [sgB (k - 2)] ++ wholeT b ++ [41]
def WfE : Ex → Prop
  | .num n => n < 10
  | .var s => s.length ≤ 1000
  | .neg _ => False
  | .bin k a b => 2 ≤ k ∧ k ≤ 6 ∧ WfE a ∧ WfE b
def plen : Option (Nat × Ex) → Nat
  | none => 0
  | some (_, a) => (wholeT a).length
theorem leaf_whole (k : Nat) (hk : k < 12) : wholeT (leaf k) = [dgB k] ∧ WfE (leaf k) := by
  rcases lt12 hk with rfl | rfl | rfl | rfl | rfl | rfl | rfl | rfl | rfl | rfl | rfl | rfl <;> exact ⟨rfl, by show (_ : Nat) ≤ _; decide⟩
theorem whole_bin (k : Nat) (a b : Ex) : (wholeT (.bin k a b)).length = (wholeT a).length + (wholeT b).length + 3 := by
  simp [wholeT]
  omega
theorem close_len (o : Option (Nat × Ex)) (t : Ex) : (wholeT (closeE o t)).length ≤ plen o + (wholeT t).length + 3 := by
  cases o with
  | none => show (wholeT t).length ≤ 0 + _ + 3; omega
  | some p => show (wholeT (.bin p.1 p.2 t)).length ≤ (wholeT p.2).length + _ + 3; rw [whole_bin]; omega
def WfO : Option (Nat × Ex) → Prop
  | none => True
  | some (k, a) => (k = 2 ∨ k = 3) ∧ WfE a
theorem close_wf {o : Option (Nat × Ex)} {t : Ex} (h1 : WfO o) (h2 : WfE t) : WfE (closeE o t) := by
  cases o with
  | none => exact h2
  | some p => exact ⟨by rcases h1.1 with h | h <;> omega, by rcases h1.1 with h | h <;> omega, h1.2, h2⟩
theorem stO_wf (σ : Nat → Nat) (hσ : ∀ k, σ k < 5) : ∀ n, n ≤ 12 → WfO (stO σ n).1 ∧ WfE (stO σ n).2 ∧ plen (stO σ n).1 + (wholeT (stO σ n).2).length ≤ 1 + 4 * n
  | 0, _ => ⟨trivial, by show 1 < 10; decide, by show 0 + 1 ≤ 1; decide⟩
  | n + 1, h => by
    obtain ⟨h1, h2, h3⟩ := stO_wf σ hσ n (by omega)
    have hl := leaf_whole n (by omega)
    have := hσ n
    rw [stO, stepO]
    split
    · refine ⟨h1, ⟨by omega, by omega, h2, hl.2⟩, ?_⟩
      have := whole_bin (σ n + 2) (stO σ n).2 (leaf n)
      rw [hl.1] at this
      simp only [List.length_cons, List.length_nil] at this
      show plen (stO σ n).1 + (wholeT (.bin (σ n + 2) (stO σ n).2 (leaf n))).length ≤ _
      omega
    · refine ⟨⟨by omega, close_wf h1 h2⟩, hl.2, ?_⟩
      have := close_len (stO σ n).1 (stO σ n).2
      show (wholeT (closeE (stO σ n).1 (stO σ n).2)).length + (wholeT (leaf n)).length ≤ _
      rw [hl.1]
      simp only [List.length_cons, List.length_nil]
      omega
end Go.Proofs.YteplkhgaoaphhaaGreatDoor
/- Walks of the parser's methods for expressions: operand. Written by mkexpr.py. -/
namespace Go.Proofs.YteplkhgaoaphhaaGreatDoor
open Go Go.RowKit Go.Lib

theorem bind_ok {α β : Type} (a : α) (r : List Tok) (f : α → List Tok → Rs β) : (Rs.ok a r).bind f = f a r := rfl
theorem bind_er {α β : Type} (r : List Tok) (k : Nat) (f : α → List Tok → Rs β) : (Rs.er r k : Rs α).bind f = .er r k := rfl
theorem bind_no {α β : Type} (f : α → List Tok → Rs β) : (Rs.no : Rs α).bind f = .no := rfl
theorem above_not {p B : Nat} (h : p < B) : ∀ b, B ≤ b → ¬ At p b := fun b hb e => by
  simp only [At] at e
  omega
theorem eq1_iff {r : List Tok} (len : Nat) : (((hdT len r).kind : Int) == 1) = isNum r := by
  rw [← isNum_hd len]
  by_cases h : (hdT len r).kind = 1
  · rw [h]; rfl
  · rw [beq_false_of_ne h]
    exact beq_false_of_ne (by omega)

set_option maxRecDepth 100000 in
set_option maxHeartbeats 1600000 in
theorem operand_succ (f : Nat) (hU : UnOK f) (hS : SumOK f) : UnOK (f + 1) := by
  intro p C d n r w h hno
  generalize hX : un (f + 1) d r = X at hno ⊢
  unfold un at hX
  replace hU := hide hU
  replace hS := hide hS
  have hlt := h.lt
  have hu := hide (Upd.refl (At p) w)
  have hs := hide h
  replace hX := hide hX
  replace hno := hide hno
  clear h
  go_enter Tryz.func136, Tryz.ntmps136
  go_wp2_with fail
  by_cases hx0 : nx r [45] = true
  · have hX2 := hX.out
    rw [if_pos hx0] at hX2
    replace hX := hide hX2
    clear hX2
    have hx0h := hide hx0
    have hI := isNext_any [45] p C d n r _ hs.out
    rw [hx0] at hI
    refine hI.mono ?_
    rintro e wq1 ⟨rfl, hb⟩
    clear hI
    replace hs := hide (hs.out.below hb)
    replace hu := hide (hu.out.then (at_below hb))
    clear hb
    go_wp2_with fail
    have hG := enter_any [45] (by decide) p C d n r _ hs.out
    cases hr : enterP [45] d r with
    | no =>
      have hX2 := hX.out
      rw [hr] at hX2
      try simp only [bind_no] at hX2
      exact absurd hX2.symm hno.out
    | er r9 k9 =>
      rw [hr] at hG
      have hX2 := hX.out
      rw [hr] at hX2
      try simp only [bind_er] at hX2
      replace hX := hide hX2
      refine (hG).mono ?_
      rintro e wq2 ⟨hU, rfl⟩
      replace hu := hide (hu.out.then hU)
      clear hr hG hU hX2
      go_wp2_with fail
      refine ⟨rfl, ?_⟩
      exact Got.er hu.out hX.out.symm
    | ok a2 r2 =>
      rw [hr] at hG
      have hX2 := hX.out
      rw [hr] at hX2
      try simp only [bind_ok] at hX2
      replace hX := hide hX2
      refine (hG).mono ?_
      rintro e wq2 ⟨hU, v2, rfl, rfl, h1⟩
      have hsz := hu.out.size
      replace hs := hide h1
      replace hu := hide (hu.out.then hU)
      clear hr hG hU h1 hX2 hsz
      go_wp2_with fail
      have hG := hU.out p C (d + 1) n r2 _ hs.out
      cases hr : un f (d + 1) r2 with
      | no =>
        have hX2 := hX.out
        rw [hr] at hX2
        try simp only [bind_no] at hX2
        exact absurd hX2.symm hno.out
      | er r9 k9 =>
        rw [hr] at hG
        have hX2 := hX.out
        rw [hr] at hX2
        try simp only [bind_er] at hX2
        replace hX := hide hX2
        refine (hG (fun e => by cases e)).mono ?_
        rintro e wq3 ⟨hU, rfl⟩
        replace hu := hide (hu.out.then hU)
        clear hr hG hU hX2
        go_wp2_with fail
        refine ⟨rfl, ?_⟩
        exact Got.er hu.out hX.out.symm
      | ok a3 r3 =>
        rw [hr] at hG
        have hX2 := hX.out
        rw [hr] at hX2
        try simp only [bind_ok] at hX2
        replace hX := hide hX2
        refine (hG (fun e => by cases e)).mono ?_
        rintro e wq3 ⟨hU, v3, rfl, hv, h1⟩
        have hsz := hu.out.size
        have hva := hide (ExV.mono (S' := (w.heap.size ≤ ·)) (fun b _ hb => Nat.le_trans hsz hb) _ _ hv)
        clear hv
        obtain ⟨gv3, rfl⟩ := hva.out.ptr
        replace hs := hide h1
        replace hu := hide (hu.out.then hU)
        clear hr hG hU h1 hX2 hsz
        have hg := hide (heap_new wq3 (.cells #[.int .i64 7, .int .i64 0, .string ⟨#[]⟩, .pointer (some ⟨gv3, 0, none⟩), .pointer none] 63))
        have hgs := hu.out.size
        replace hs := hide (hs.out.alloc (.cells #[.int .i64 7, .int .i64 0, .string ⟨#[]⟩, .pointer (some ⟨gv3, 0, none⟩), .pointer none] 63))
        replace hva := hide (ExV.upd (Upd.alloc (fun _ => False) _ (.cells #[.int .i64 7, .int .i64 0, .string ⟨#[]⟩, .pointer (some ⟨gv3, 0, none⟩), .pointer none] 63)) (fun _ _ => id) _ _ hva.out)
        replace hu := hide (hu.out.then (Upd.alloc (At p) _ (.cells #[.int .i64 7, .int .i64 0, .string ⟨#[]⟩, .pointer (some ⟨gv3, 0, none⟩), .pointer none] 63)))
        have hn : Hid (ExV (wq3.alloc (.cells #[.int .i64 7, .int .i64 0, .string ⟨#[]⟩, .pointer (some ⟨gv3, 0, none⟩), .pointer none] 63)) (w.heap.size ≤ ·) (.neg a3) _) := hide ⟨_, ⟨_, rfl, hgs, hg.out⟩, hva.out⟩
        clear hg hgs hva
        go_wp2_with fail
        refine (leave_any p C d n r3 _ hs.out).mono ?_
        rintro e wq4 ⟨rfl, hU, h1⟩
        replace hn := hide (ExV.upd (hU) (above_not hlt) _ _ hn.out)
        replace hs := hide h1
        replace hu := hide (hu.out.then hU)
        clear hU h1
        go_wp2_with fail
        go_ret
        exact Got.ok hu.out hX.out.symm ⟨hn.out, hs.out⟩
  · have hx0 : nx r [45] = false := by simpa using hx0
    have hX2 := hX.out
    rw [if_neg (by rw [hx0]; exact Bool.false_ne_true)] at hX2
    replace hX := hide hX2
    clear hX2
    have hx0h := hide hx0
    have hI := isNext_any [45] p C d n r _ hs.out
    rw [hx0] at hI
    refine hI.mono ?_
    rintro e wq1 ⟨rfl, hb⟩
    clear hI
    replace hs := hide (hs.out.below hb)
    replace hu := hide (hu.out.then (at_below hb))
    clear hb
    go_wp2_with fail
    by_cases hx1 : nx r [40] = true
    · have hX2 := hX.out
      rw [if_pos hx1] at hX2
      replace hX := hide hX2
      clear hX2
      have hx1h := hide hx1
      have hI := isNext_any [40] p C d n r _ hs.out
      rw [hx1] at hI
      refine hI.mono ?_
      rintro e wq2 ⟨rfl, hb⟩
      clear hI
      replace hs := hide (hs.out.below hb)
      replace hu := hide (hu.out.then (at_below hb))
      clear hb
      go_wp2_with fail
      have hG := enter_any [40] (by decide) p C d n r _ hs.out
      cases hr : enterP [40] d r with
      | no =>
        have hX2 := hX.out
        rw [hr] at hX2
        try simp only [bind_no] at hX2
        exact absurd hX2.symm hno.out
      | er r9 k9 =>
        rw [hr] at hG
        have hX2 := hX.out
        rw [hr] at hX2
        try simp only [bind_er] at hX2
        replace hX := hide hX2
        refine (hG).mono ?_
        rintro e wq3 ⟨hU, rfl⟩
        replace hu := hide (hu.out.then hU)
        clear hr hG hU hX2
        go_wp2_with fail
        refine ⟨rfl, ?_⟩
        exact Got.er hu.out hX.out.symm
      | ok a3 r3 =>
        rw [hr] at hG
        have hX2 := hX.out
        rw [hr] at hX2
        try simp only [bind_ok] at hX2
        replace hX := hide hX2
        refine (hG).mono ?_
        rintro e wq3 ⟨hU, v3, rfl, rfl, h1⟩
        have hsz := hu.out.size
        replace hs := hide h1
        replace hu := hide (hu.out.then hU)
        clear hr hG hU h1 hX2 hsz
        go_wp2_with fail
        have hG := hS.out p C (d + 1) n r3 _ hs.out
        cases hr : sumOf (un f (d + 1)) f r3 with
        | no =>
          have hX2 := hX.out
          rw [hr] at hX2
          try simp only [bind_no] at hX2
          exact absurd hX2.symm hno.out
        | er r9 k9 =>
          rw [hr] at hG
          have hX2 := hX.out
          rw [hr] at hX2
          try simp only [bind_er] at hX2
          replace hX := hide hX2
          refine (hG (fun e => by cases e)).mono ?_
          rintro e wq4 ⟨hU, rfl⟩
          replace hu := hide (hu.out.then hU)
          clear hr hG hU hX2
          go_wp2_with fail
          refine ⟨rfl, ?_⟩
          exact Got.er hu.out hX.out.symm
        | ok a4 r4 =>
          rw [hr] at hG
          have hX2 := hX.out
          rw [hr] at hX2
          try simp only [bind_ok] at hX2
          replace hX := hide hX2
          refine (hG (fun e => by cases e)).mono ?_
          rintro e wq4 ⟨hU, v4, rfl, hv, h1⟩
          have hsz := hu.out.size
          have hva := hide (ExV.mono (S' := (w.heap.size ≤ ·)) (fun b _ hb => Nat.le_trans hsz hb) _ _ hv)
          clear hv
          obtain ⟨gv4, rfl⟩ := hva.out.ptr
          replace hs := hide h1
          replace hu := hide (hu.out.then hU)
          clear hr hG hU h1 hX2 hsz
          go_wp2_with fail
          have hG := expect_any [41] (by decide) p C (d + 1) n r4 _ hs.out
          cases hr : want [41] r4 with
          | no =>
            have hX2 := hX.out
            rw [hr] at hX2
            try simp only [bind_no] at hX2
            exact absurd hX2.symm hno.out
          | er r9 k9 =>
            rw [hr] at hG
            have hX2 := hX.out
            rw [hr] at hX2
            try simp only [bind_er] at hX2
            replace hX := hide hX2
            refine (hG).mono ?_
            rintro e wq5 ⟨hU, rfl⟩
            replace hu := hide (hu.out.then hU)
            clear hr hG hU hX2
            go_wp2_with fail
            refine ⟨rfl, ?_⟩
            exact Got.er hu.out hX.out.symm
          | ok a5 r5 =>
            rw [hr] at hG
            have hX2 := hX.out
            rw [hr] at hX2
            try simp only [bind_ok] at hX2
            replace hX := hide hX2
            refine (hG).mono ?_
            rintro e wq5 ⟨hU, v5, rfl, rfl, h1⟩
            have hsz := hu.out.size
            replace hva := hide (ExV.upd (hU) (above_not hlt) _ _ hva.out)
            replace hs := hide h1
            replace hu := hide (hu.out.then hU)
            clear hr hG hU h1 hX2 hsz
            go_wp2_with fail
            refine (leave_any p C d n r5 _ hs.out).mono ?_
            rintro e wq6 ⟨rfl, hU, h1⟩
            replace hva := hide (ExV.upd (hU) (above_not hlt) _ _ hva.out)
            replace hs := hide h1
            replace hu := hide (hu.out.then hU)
            clear hU h1
            go_wp2_with fail
            go_ret
            exact Got.ok hu.out hX.out.symm ⟨hva.out, hs.out⟩
    · have hx1 : nx r [40] = false := by simpa using hx1
      have hX2 := hX.out
      rw [if_neg (by rw [hx1]; exact Bool.false_ne_true)] at hX2
      replace hX := hide hX2
      clear hX2
      have hx1h := hide hx1
      have hI := isNext_any [40] p C d n r _ hs.out
      rw [hx1] at hI
      refine hI.mono ?_
      rintro e wq2 ⟨rfl, hb⟩
      clear hI
      replace hs := hide (hs.out.below hb)
      replace hu := hide (hu.out.then (at_below hb))
      clear hb
      go_wp2_with fail
      have hP := peek_any 0 (by omega) p C d n r _ hs.out
      refine hP.mono ?_
      rintro e wp ⟨rfl, hb⟩
      clear hP
      replace hs := hide (hs.out.below hb)
      replace hu := hide (hu.out.then (at_below hb))
      clear hb
      rw [List.drop_zero, tokV_def]
      have hf := field_kind (hdT C.len r).kind (hdT C.len r).at_ (strB (hdT C.len r).text)
      have he1 := eq1_iff (r := r) C.len
      by_cases hx2 : isNum r = true
      · have hX2 := hX.out
        rw [if_pos hx2] at hX2
        replace hX := hide hX2
        clear hX2
        rw [hx2] at he1
        go_wp2_with fail
        clear hf he1
        have hG := number_any p C d n r _ hs.out
        cases hr : numP r with
        | no =>
          have hX2 := hX.out
          rw [hr] at hX2
          try simp only [bind_no] at hX2
          exact absurd hX2.symm hno.out
        | er r9 k9 =>
          rw [hr] at hG
          have hX2 := hX.out
          rw [hr] at hX2
          try simp only [bind_er] at hX2
          replace hX := hide hX2
          refine (hG).mono ?_
          rintro e wq3 ⟨hU, rfl⟩
          replace hu := hide (hu.out.then hU)
          clear hr hG hU hX2
          go_wp2_with fail
          refine ⟨rfl, ?_⟩
          exact Got.er hu.out hX.out.symm
        | ok a4 r4 =>
          rw [hr] at hG
          have hX2 := hX.out
          rw [hr] at hX2
          try simp only [bind_ok] at hX2
          replace hX := hide hX2
          refine (hG).mono ?_
          rintro e wq3 ⟨hU, v4, rfl, rfl, h1⟩
          have hsz := hu.out.size
          replace hs := hide h1
          replace hu := hide (hu.out.then hU)
          clear hr hG hU h1 hX2 hsz
          have hg := hide (heap_new wq3 (.cells #[.int .i64 0, .int .i64 a4, .string ⟨#[]⟩, .pointer none, .pointer none] 63))
          have hgs := hu.out.size
          replace hs := hide (hs.out.alloc (.cells #[.int .i64 0, .int .i64 a4, .string ⟨#[]⟩, .pointer none, .pointer none] 63))
          replace hu := hide (hu.out.then (Upd.alloc (At p) _ (.cells #[.int .i64 0, .int .i64 a4, .string ⟨#[]⟩, .pointer none, .pointer none] 63)))
          have hn : Hid (ExV (wq3.alloc (.cells #[.int .i64 0, .int .i64 a4, .string ⟨#[]⟩, .pointer none, .pointer none] 63)) (w.heap.size ≤ ·) (.num a4) _) := hide ⟨_, rfl, hgs, hg.out⟩
          go_wp2_with fail
          go_ret
          exact Got.ok hu.out hX.out.symm ⟨hn.out, hs.out⟩
      · have hx2 : isNum r = false := by simpa using hx2
        have hX2 := hX.out
        rw [if_neg (by rw [hx2]; exact Bool.false_ne_true)] at hX2
        replace hX := hide hX2
        clear hX2
        rw [hx2] at he1
        go_wp2_with fail
        clear hf he1
        have hG := name_any p C d n r _ hs.out
        cases hr : nameP r with
        | no =>
          have hX2 := hX.out
          rw [hr] at hX2
          try simp only [bind_no] at hX2
          exact absurd hX2.symm hno.out
        | er r9 k9 =>
          rw [hr] at hG
          have hX2 := hX.out
          rw [hr] at hX2
          try simp only [bind_er] at hX2
          replace hX := hide hX2
          refine (hG).mono ?_
          rintro e wq3 ⟨hU, rfl⟩
          replace hu := hide (hu.out.then hU)
          clear hr hG hU hX2
          go_wp2_with fail
          refine ⟨rfl, ?_⟩
          exact Got.er hu.out hX.out.symm
        | ok a4 r4 =>
          rw [hr] at hG
          have hX2 := hX.out
          rw [hr] at hX2
          try simp only [bind_ok] at hX2
          replace hX := hide hX2
          refine (hG).mono ?_
          rintro e wq3 ⟨hU, v4, rfl, rfl, h1⟩
          have hsz := hu.out.size
          replace hs := hide h1
          replace hu := hide (hu.out.then hU)
          clear hr hG hU h1 hX2 hsz
          have hg := hide (heap_new wq3 (.cells #[.int .i64 1, .int .i64 0, .string (strB a4), .pointer none, .pointer none] 63))
          have hgs := hu.out.size
          replace hs := hide (hs.out.alloc (.cells #[.int .i64 1, .int .i64 0, .string (strB a4), .pointer none, .pointer none] 63))
          replace hu := hide (hu.out.then (Upd.alloc (At p) _ (.cells #[.int .i64 1, .int .i64 0, .string (strB a4), .pointer none, .pointer none] 63)))
          have hn : Hid (ExV (wq3.alloc (.cells #[.int .i64 1, .int .i64 0, .string (strB a4), .pointer none, .pointer none] 63)) (w.heap.size ≤ ·) (.var a4) _) := hide ⟨_, rfl, hgs, hg.out⟩
          go_wp2_with fail
          go_ret
          exact Got.ok hu.out hX.out.symm ⟨hn.out, hs.out⟩
theorem un_ok : ∀ f, UnOK f
  | 0 => fun _ _ _ _ _ _ _ hno => absurd rfl hno
  | f + 1 => operand_succ f (un_ok f) (sum_of f (product_of f (un_ok f)))
theorem sum_ok (f : Nat) : SumOK f := sum_of f (product_of f (un_ok f))
theorem sumP_ok (f : Nat) (p : Nat) (C : Cx) (d n : Nat) (r : List Tok) (w : World) (h : PsW w p C d n r) : sumP f d r ≠ .no →
    Calls Tryz.prog 115 #[.pointer (some ⟨p, 0, none⟩)] w fun e w' => Got p C w (ExR p C d n w.heap.size) (sumP f d r) e w' := fun hno => sum_ok f p C d n r w h hno
theorem str_beq' (a b : List UInt8) : ((strB a).toList == b) = (a == b) := by rw [ByteArray.toList_eq]; rfl
end Go.Proofs.YteplkhgaoaphhaaGreatDoor

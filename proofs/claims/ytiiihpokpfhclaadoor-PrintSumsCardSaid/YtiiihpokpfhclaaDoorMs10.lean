/- Part 10 of the walks (merged): GPsH, GPsI, RfM. -/
import Derived.Test.YtiiihpokpfhclaaDoorMs9
/- Lists of the call's own, of elements of several cells; statements in memory. -/
namespace Go.Proofs.YtiiihpokpfhclaaDoor
open Go Go.RowKit Go.Lib
def All2 {α β : Type} (R : α → β → Prop) : List α → List β → Prop
  | [], [] => True
  | a :: l, b :: m => R a b ∧ All2 R l m
  | _, _ => False
section
variable {α β : Type} {R R' : α → β → Prop}
theorem All2.mono (h : ∀ a b, R a b → R' a b) : ∀ {l : List α} {m : List β}, All2 R l m → All2 R' l m
  | [], [], _ => trivial
  | _ :: _, _ :: _, ⟨h1, h2⟩ => ⟨h _ _ h1, All2.mono h h2⟩
theorem All2.snoc {a : α} {b : β} (hab : R a b) : ∀ {l : List α} {m : List β}, All2 R l m → All2 R (l ++ [a]) (m ++ [b])
  | [], [], _ => ⟨hab, trivial⟩
  | _ :: _, _ :: _, ⟨h1, h2⟩ => ⟨h1, All2.snoc hab h2⟩
theorem All2.len : ∀ {l : List α} {m : List β}, All2 R l m → l.length = m.length
  | [], [], _ => rfl
  | _ :: _, _ :: _, ⟨_, h2⟩ => by simp [All2.len h2]
end
/-- A family of readings: kept where its blocks are kept. -/
structure Fam {α : Type} (P : World → (Nat → Prop) → α → List Value → Prop) : Prop where
  upd : ∀ {w w' : World} {S F : Nat → Prop} {a : α} {us : List Value}, Upd F w w' → (∀ b, S b → ¬ F b) → P w S a us → P w' S a us
  mono : ∀ {w : World} {S S' : Nat → Prop} {a : α} {us : List Value}, (∀ b, b < w.heap.size → S b → S' b) → P w S a us → P w S' a us
  one : ∀ {w : World} {S : Nat → Prop} {a : α} {us : List Value}, P w S a us → ∀ u ∈ us, u.oneCell' = true
/-- A list of the call's own, whose elements reach blocks from B on, but not the list's own. -/
def RowS {α : Type} (w : World) (B : Nat) (e : TypeId) (sz : Nat) (P : World → (Nat → Prop) → α → List Value → Prop) (l : List α) (v : Value) : Prop :=
  ∃ uss : List (List Value), w.ownsRow B e sz v l.length uss.flatten ∧ All2 (fun a us => us.length = sz ∧ P w (fun b => B ≤ b ∧ v.ownBlock ≠ some b) a us) l uss
section
variable {α : Type} {P : World → (Nat → Prop) → α → List Value → Prop} {w w' : World} {B : Nat} {e : TypeId} {sz : Nat} {l : List α} {v : Value}
theorem RowS.nil_ (w : World) (B : Nat) (e : TypeId) (sz : Nat) (P : World → (Nat → Prop) → α → List Value → Prop) : RowS w B e sz P [] (.slice none 0 0) := ⟨[], World.ownsRow_nil _ _ _ _, trivial⟩
theorem RowS.one_ (_ : Fam P) {g : Nat} {us : List Value} {a : α} {t : TypeId} (h : w.heap[g]? = some (.cells us.toArray t (0, 0))) (hg : B ≤ g) (hl : us.length = sz) (hPa : P w (fun b => B ≤ b ∧ (Value.slice (some ⟨g, 0, none⟩) 1 1).ownBlock ≠ some b) a us) : RowS w B t sz P [a] (.slice (some ⟨g, 0, none⟩) 1 1) := by
  refine ⟨[us], ⟨by simp [hl], .inr ⟨g, 1, us.toArray, rfl, hg, h, Nat.le_refl _, by unfold maxLen; omega, by simp [hl], by rw [← hl]; simp⟩⟩, ⟨⟨hl, hPa⟩, trivial⟩⟩
theorem RowS.own (h : RowS w B e sz P l v) : ∀ k, v.ownBlock = some k → B ≤ k ∧ k < w.heap.size := by
  obtain ⟨uss, h1, -⟩ := h
  intro k hk
  exact h1.lt k hk
theorem RowS.slice (h : RowS w B e sz P l v) : ∃ A c, v = .slice A l.length c := by
  obtain ⟨uss, h1, -⟩ := h
  exact own_slice h1
theorem RowS.upd {F : Nat → Prop} (hP : Fam P) (h : RowS w B e sz P l v) (hu : Upd F w w') (hF : ∀ b, B ≤ b → ¬ F b) : RowS w' B e sz P l v := by
  have ho := h.own
  obtain ⟨uss, h1, h2⟩ := h
  exact ⟨uss, hu.own h1 (fun k hk => hF k (ho k hk).1), h2.mono fun a us ⟨h3, h4⟩ => ⟨h3, hP.upd hu (fun b hb => hF b hb.1) h4⟩⟩
theorem RowS.push (hP : Fam P) (h : RowS w B e sz P l v) {a : α} {us : List Value} (hl : us.length = sz) (hPa : P w (fun b => B ≤ b ∧ v.ownBlock ≠ some b) a us) {v' : Value}
    (hg : w.grownBy w' v.ownBlock) (hm : ∀ k, v'.ownBlock = some k → v.ownBlock = some k ∨ w.heap.size ≤ k) (uss : List (List Value)) (h2 : All2 (fun a us => us.length = sz ∧ P w (fun b => B ≤ b ∧ v.ownBlock ≠ some b) a us) l uss) (hown : w'.ownsRow B e sz v' (l.length + 1) (uss.flatten ++ us)) :
    RowS w' B e sz P (l ++ [a]) v' := by
  refine ⟨uss ++ [us], by simpa using hown, ?_⟩
  have hu : Upd (fun k => v.ownBlock = some k) w w' := Upd.grown hg fun k hk => hk
  have key : ∀ (a : α) (us : List Value), P w (fun b => B ≤ b ∧ v.ownBlock ≠ some b) a us → P w' (fun b => B ≤ b ∧ v'.ownBlock ≠ some b) a us := by
    intro a us h
    have h3 : P w (fun b => B ≤ b ∧ v.ownBlock ≠ some b ∧ v'.ownBlock ≠ some b) a us := hP.mono (fun b hb ⟨h1, h2⟩ => ⟨h1, h2, fun e => by
      rcases hm b e with h | h
      · exact h2 h
      · omega⟩) h
    have h4 := hP.upd hu (fun b hb e => hb.2.1 e) h3
    exact hP.mono (fun b _ hb => ⟨hb.1, hb.2.2⟩) h4
  exact All2.snoc ⟨hl, key _ _ hPa⟩ (h2.mono fun a us ⟨h3, h4⟩ => ⟨h3, key a us h4⟩)
end
section
variable {α : Type} {P : World → (Nat → Prop) → α → List Value → Prop} {w : World} {ops : Array Oper} {rest : List Oper} {o : Oper} {a : Act} {Q : Exit → Act → World → Prop}
/-- The walk's law: one element more in such a list. -/
theorem wp_row (hP : Fam P) (t e : TypeId) (z : Value) (sz bytes : Nat) (ht : Tryd.prog.underlying t = some (.slice e)) (hinfo : (Tryd.prog.info? e).map (fun i => (i.zero, i.size, i.bytes)) = some (some z, sz, bytes)) (hzs : z.cells.size = sz) (hsz : 0 < sz) (hby : bytes ≤ 200)
    (hgd : o.guard = none) (s x : Operand) (ho : o.op = .call { callee := .builtin .append, args := #[s, x], argTypes := #[t, t] })
    (B : Nat) (v : Value) (l : List α) (hs : a.eval s = v) (hrow : RowS w B e sz P l v) (g c : Nat) (hx : a.eval x = .slice (some ⟨g, 0, none⟩) 1 c) (el : α) (us : List Value) (hl : us.length = sz)
    (hcell : ∀ j u, us[j]? = some u → w.cell? ⟨g, j, none⟩ = some u) (hPa : P w (fun b => B ≤ b ∧ v.ownBlock ≠ some b) el us) (hlen : l.length ≤ 1000000) (hbase : B ≤ w.heap.size)
    (h : ∀ v' w', RowS w' B e sz P (l ++ [el]) v' → Upd (fun k => v.ownBlock = some k) w w' → wpList Tryd.prog ops Q rest (a.put o.dst v') w') : wpList Tryd.prog ops Q (o :: rest) a w := by
  obtain ⟨i0, hi, hz0, hz1, hz2⟩ := info_parts hinfo
  have hrow0 := hrow
  obtain ⟨uss, hown, hall⟩ := hrow
  refine wpList_plain hgd fun K hK => ?_
  have hb2 : (l.length + 1) * bytes ≤ 140737488355328 := Nat.le_trans (Nat.mul_le_mul (Nat.succ_le_succ hlen) hby) (by decide)
  obtain ⟨v', w', hr, h2, h3, h4⟩ := run_append_moved (P := Tryd.prog) w B t o.type e i0 z sz bytes ht hi hz0 hz1 hz2 hzs hsz v l.length uss.flatten hown ⟨g, 0, none⟩ 1 c us (by rw [Nat.one_mul]; exact hl) (fun j u hj => by rw [Go.WideShapes.add_plain, Nat.zero_add]; exact hcell j u hj) (hP.one hPa) (by unfold maxLen; omega) hb2 hbase
  unfold Oper.wp execOp
  simp only [ho, resolve, invoke, builtin, Sem.run_bind, Sem.run_pure, Result.andThen_ok, List.map_toArray, List.map_cons, List.map_nil, hs, hx, hr]
  exact hK _ _ (h v' w' (RowS.push hP hrow0 hl hPa h3 h4 uss hall h2) (Upd.grown h3 fun k hk => hk))
end
def OptE (w : World) (S : Nat → Prop) : Option Ex → Value → Prop
  | none, v => v = .pointer none
  | some e, v => ExV w S e v
def OptC (w : World) (S : Nat → Prop) : Option Cn → Value → Prop
  | none, v => v = .pointer none
  | some e, v => CnV w S e v
/-- A slice of so many elements, whose cells are told. -/
def SlcV (w : World) (S : Nat → Prop) (n : Nat) (uss : List (List Value)) (v : Value) : Prop :=
  ∃ A c, v = .slice A n c ∧ n ≤ c ∧ c ≤ maxLen ∧ (n = 0 ∨ ∃ g, A = some ⟨g, 0, none⟩ ∧ S g ∧ ∀ j u, uss.flatten[j]? = some u → w.cell? ⟨g, j, none⟩ = some u)
def ArgP (w : World) (S : Nat → Prop) (e : Ex) (us : List Value) : Prop := ∃ v, us = [.bool false, .string ⟨#[]⟩, v] ∧ ExV w S e v
def ListV {α : Type} (w : World) (S : Nat → Prop) (P : World → (Nat → Prop) → α → List Value → Prop) (sz : Nat) (l : List α) (v : Value) : Prop := ∃ uss, SlcV w S l.length uss v ∧ All2 (fun a us => us.length = sz ∧ P w S a us) l uss
mutual
def SmV (w : World) (S : Nat → Prop) : Sm → List Value → Prop
  | .mk k x y e f c args t e2 a, us => ∃ ve vf vc va vt vl ut ul, us = [.int .i64 k, .string (strB x), .string (strB y), ve, vf, vc, va, vt, vl, .int .i64 a] ∧ OptE w S e ve ∧ OptE w S f vf ∧ OptC w S c vc ∧
      ListV w S ArgP 3 args va ∧ SlcV w S t.length ut vt ∧ SmsV w S t ut ∧ SlcV w S e2.length ul vl ∧ SmsV w S e2 ul
def SmsV (w : World) (S : Nat → Prop) : List Sm → List (List Value) → Prop
  | [], uss => uss = []
  | s :: l, uss => ∃ us rest, uss = us :: rest ∧ SmV w S s us ∧ SmsV w S l rest
end
section
variable {w w' : World} {S S' F : Nat → Prop}
theorem OptE.upd (hu : Upd F w w') (hS : ∀ b, S b → ¬ F b) : ∀ {e : Option Ex} {v : Value}, OptE w S e v → OptE w' S e v
  | none, _, h => h
  | some _, _, h => ExV.upd hu hS _ _ h
theorem OptE.mono (hS : ∀ b, b < w.heap.size → S b → S' b) : ∀ {e : Option Ex} {v : Value}, OptE w S e v → OptE w S' e v
  | none, _, h => h
  | some _, _, h => ExV.mono hS _ _ h
theorem OptC.upd (hu : Upd F w w') (hS : ∀ b, S b → ¬ F b) : ∀ {e : Option Cn} {v : Value}, OptC w S e v → OptC w' S e v
  | none, _, h => h
  | some _, _, h => CnV.upd hu hS _ _ h
theorem OptC.mono (hS : ∀ b, b < w.heap.size → S b → S' b) : ∀ {e : Option Cn} {v : Value}, OptC w S e v → OptC w S' e v
  | none, _, h => h
  | some _, _, h => CnV.mono hS _ _ h
theorem SlcV.upd (hu : Upd F w w') (hS : ∀ b, S b → ¬ F b) {n : Nat} {uss : List (List Value)} {v : Value} (h : SlcV w S n uss v) : SlcV w' S n uss v := by
  obtain ⟨A, c, h1, h2, h3, h4⟩ := h
  refine ⟨A, c, h1, h2, h3, ?_⟩
  rcases h4 with h4 | ⟨g, h4, h5, h6⟩
  · exact .inl h4
  · exact .inr ⟨g, h4, h5, fun j u hj => hu.cell (h6 j u hj) (hS g h5)⟩
theorem SlcV.mono (hS : ∀ b, b < w.heap.size → S b → S' b) {n : Nat} {uss : List (List Value)} {v : Value} (h : SlcV w S n uss v) (hne : n ≠ 0 → uss.flatten ≠ []) : SlcV w S' n uss v := by
  obtain ⟨A, c, h1, h2, h3, h4⟩ := h
  refine ⟨A, c, h1, h2, h3, ?_⟩
  rcases h4 with h4 | ⟨g, h4, h5, h6⟩
  · exact .inl h4
  · by_cases h0 : n = 0
    · exact .inl h0
    · obtain ⟨u, r, hur⟩ := List.exists_cons_of_ne_nil (hne h0)
      exact .inr ⟨g, h4, hS g (World.block_lt_of_cell? w _ (h6 0 u (by rw [hur]; rfl))) h5, h6⟩
theorem argFam : Fam ArgP where
  upd := fun hu hS ⟨v, h1, h2⟩ => ⟨v, h1, ExV.upd hu hS _ _ h2⟩
  mono := fun hS ⟨v, h1, h2⟩ => ⟨v, h1, ExV.mono hS _ _ h2⟩
  one := fun ⟨v, h1, h2⟩ u hu => by
    obtain ⟨g, rfl⟩ := h2.ptr
    subst h1
    simp only [List.mem_cons, List.not_mem_nil, or_false] at hu
    rcases hu with rfl | rfl | rfl <;> rfl
theorem all_ne {α : Type} {R : α → List Value → Prop} {sz : Nat} (hsz : 0 < sz) : ∀ {l : List α} {uss : List (List Value)}, All2 (fun a us => us.length = sz ∧ R a us) l uss → l.length ≠ 0 → uss.flatten ≠ []
  | [], _, _, h => absurd rfl h
  | _ :: _, us :: r, ⟨⟨h1, _⟩, _⟩, _ => fun e => by
    rw [List.flatten_cons, List.append_eq_nil_iff] at e
    rw [e.1] at h1
    simp at h1
    omega
theorem ListV.upd {α : Type} {P : World → (Nat → Prop) → α → List Value → Prop} (hP : Fam P) (hu : Upd F w w') (hS : ∀ b, S b → ¬ F b) {sz : Nat} {l : List α} {v : Value} (h : ListV w S P sz l v) : ListV w' S P sz l v := by
  obtain ⟨uss, h1, h2⟩ := h
  exact ⟨uss, h1.upd hu hS, h2.mono fun a us ⟨h3, h4⟩ => ⟨h3, hP.upd hu hS h4⟩⟩
theorem ListV.mono {α : Type} {P : World → (Nat → Prop) → α → List Value → Prop} (hP : Fam P) (hS : ∀ b, b < w.heap.size → S b → S' b) {sz : Nat} (hsz : 0 < sz) {l : List α} {v : Value} (h : ListV w S P sz l v) : ListV w S' P sz l v := by
  obtain ⟨uss, h1, h2⟩ := h
  exact ⟨uss, h1.mono hS (all_ne hsz h2), h2.mono fun a us ⟨h3, h4⟩ => ⟨h3, hP.mono hS h4⟩⟩
theorem sms_ne : ∀ {l : List Sm} {uss : List (List Value)}, SmsV w S l uss → l.length ≠ 0 → uss.flatten ≠ []
  | [], _, _, h => absurd rfl h
  | .mk .. :: _, _, h, _ => by
    unfold SmsV at h
    obtain ⟨us, rest, rfl, h1, -⟩ := h
    unfold SmV at h1
    obtain ⟨ve, vf, vc, va, vt, vl, ut, ul, rfl, -⟩ := h1
    simp
mutual
theorem SmV.upd (hu : Upd F w w') (hS : ∀ b, S b → ¬ F b) : ∀ (s : Sm) (us : List Value), SmV w S s us → SmV w' S s us
  | .mk k x y e f c args t e2 a, us, h => by
    unfold SmV at h ⊢
    obtain ⟨ve, vf, vc, va, vt, vl, ut, ul, h1, h2, h3, h4, h5, h6, h7, h8, h9⟩ := h
    exact ⟨ve, vf, vc, va, vt, vl, ut, ul, h1, h2.upd hu hS, h3.upd hu hS, h4.upd hu hS, h5.upd argFam hu hS, h6.upd hu hS, SmsV.upd hu hS t ut h7, h8.upd hu hS, SmsV.upd hu hS e2 ul h9⟩
theorem SmsV.upd (hu : Upd F w w') (hS : ∀ b, S b → ¬ F b) : ∀ (l : List Sm) (uss : List (List Value)), SmsV w S l uss → SmsV w' S l uss
  | [], _, h => by unfold SmsV at h ⊢; exact h
  | s :: l, _, h => by
    unfold SmsV at h ⊢
    obtain ⟨us, rest, h1, h2, h3⟩ := h
    exact ⟨us, rest, h1, SmV.upd hu hS s us h2, SmsV.upd hu hS l rest h3⟩
end
mutual
theorem SmV.mono (hS : ∀ b, b < w.heap.size → S b → S' b) : ∀ (s : Sm) (us : List Value), SmV w S s us → SmV w S' s us
  | .mk k x y e f c args t e2 a, us, h => by
    unfold SmV at h ⊢
    obtain ⟨ve, vf, vc, va, vt, vl, ut, ul, h1, h2, h3, h4, h5, h6, h7, h8, h9⟩ := h
    exact ⟨ve, vf, vc, va, vt, vl, ut, ul, h1, h2.mono hS, h3.mono hS, h4.mono hS, h5.mono argFam hS (by decide), h6.mono hS (sms_ne h7), SmsV.mono hS t ut h7, h8.mono hS (sms_ne h9), SmsV.mono hS e2 ul h9⟩
theorem SmsV.mono (hS : ∀ b, b < w.heap.size → S b → S' b) : ∀ (l : List Sm) (uss : List (List Value)), SmsV w S l uss → SmsV w S' l uss
  | [], _, h => by unfold SmsV at h ⊢; exact h
  | s :: l, _, h => by
    unfold SmsV at h ⊢
    obtain ⟨us, rest, h1, h2, h3⟩ := h
    exact ⟨us, rest, h1, SmV.mono hS s us h2, SmsV.mono hS l rest h3⟩
end
end
end Go.Proofs.YtiiihpokpfhclaaDoor
/- Lists that are done; walks of index, test, args. Written by mklist.py. -/
namespace Go.Proofs.YtiiihpokpfhclaaDoor
open Go Go.RowKit Go.Lib
section
variable {w w' : World} {S S' F : Nat → Prop}
theorem OptE.ptr : ∀ {e : Option Ex} {v : Value}, OptE w S e v → ∃ a, v = .pointer a
  | none, _, h => ⟨_, h⟩
  | some _, _, h => by
    obtain ⟨g, rfl⟩ := ExV.ptr h
    exact ⟨_, rfl⟩
theorem OptC.ptr : ∀ {e : Option Cn} {v : Value}, OptC w S e v → ∃ a, v = .pointer a
  | none, _, h => ⟨_, h⟩
  | some _, _, h => by
    obtain ⟨g, rfl⟩ := CnV.ptr h
    exact ⟨_, rfl⟩
theorem SlcV.slc {n : Nat} {uss : List (List Value)} {v : Value} (h : SlcV w S n uss v) : ∃ A m c, v = .slice A m c := by
  obtain ⟨A, c, h1, -⟩ := h
  exact ⟨A, n, c, h1⟩
theorem ListV.slc {α : Type} {P : World → (Nat → Prop) → α → List Value → Prop} {sz : Nat} {l : List α} {v : Value} (h : ListV w S P sz l v) : ∃ A m c, v = .slice A m c := by
  obtain ⟨uss, h1, -⟩ := h
  exact h1.slc
theorem smFam : Fam SmV where
  upd := fun hu hS h => SmV.upd hu hS _ _ h
  mono := fun hS h => SmV.mono hS _ _ h
  one := fun {w S a us} h u hu => by
    cases a with
    | mk k x y e f c args t e2 a =>
      unfold SmV at h
      obtain ⟨ve, vf, vc, va, vt, vl, ut, ul, rfl, h2, h3, h4, h5, h6, -, h8, -⟩ := h
      obtain ⟨pe, rfl⟩ := h2.ptr
      obtain ⟨pf, rfl⟩ := h3.ptr
      obtain ⟨pc, rfl⟩ := h4.ptr
      obtain ⟨_, _, _, rfl⟩ := h5.slc
      obtain ⟨_, _, _, rfl⟩ := h6.slc
      obtain ⟨_, _, _, rfl⟩ := h8.slc
      simp only [List.mem_cons, List.not_mem_nil, or_false] at hu
      rcases hu with rfl | rfl | rfl | rfl | rfl | rfl | rfl | rfl | rfl | rfl <;> rfl
theorem own_slc {B : Nat} {e : TypeId} {sz n : Nat} {v : Value} {uss : List (List Value)} (h : w.ownsRow B e sz v n uss.flatten) : SlcV w (B ≤ ·) n uss v := by
  rcases h.2 with ⟨rfl, rfl⟩ | ⟨g, cap, cur, rfl, hb, hg, h1, h2, h3⟩
  · exact ⟨_, _, rfl, Nat.le_refl _, Nat.zero_le _, .inl rfl⟩
  · refine ⟨_, cap, rfl, h1, h2, .inr ⟨g, rfl, hb, fun j u hj => ?_⟩⟩
    have := World.ownsRow.cells (g := g) h rfl j u hj
    rw [Go.WideShapes.add_plain, Nat.zero_add] at this
    exact this
theorem RowS.list {α : Type} {P : World → (Nat → Prop) → α → List Value → Prop} (hP : Fam P) {B : Nat} {e : TypeId} {sz : Nat} {l : List α} {v : Value} (h : RowS w B e sz P l v) : ListV w (B ≤ ·) P sz l v := by
  obtain ⟨uss, h1, h2⟩ := h
  exact ⟨uss, own_slc h1, h2.mono fun a us ⟨h3, h4⟩ => ⟨h3, hP.mono (fun b _ hb => hb.1) h4⟩⟩
theorem sms_of : ∀ {l : List Sm} {uss : List (List Value)}, All2 (fun a us => us.length = 10 ∧ SmV w S a us) l uss → SmsV w S l uss
  | [], [], _ => by unfold SmsV; rfl
  | _ :: _, us :: r, ⟨⟨_, h1⟩, h2⟩ => by
    unfold SmsV
    exact ⟨us, r, rfl, h1, sms_of h2⟩
theorem RowS.sms {B : Nat} {e : TypeId} {l : List Sm} {v : Value} (h : RowS w B e 10 SmV l v) : ∃ uss, SlcV w (B ≤ ·) l.length uss v ∧ SmsV w (B ≤ ·) l uss := by
  obtain ⟨uss, h1, h2⟩ := h
  exact ⟨uss, own_slc h1, sms_of (h2.mono fun a us ⟨h3, h4⟩ => ⟨h3, smFam.mono (fun b _ hb => hb.1) h4⟩)⟩
theorem Upd.row_ {W w w' : World} {F : Nat → Prop} {v : Value} (h : Upd F W w) (hu : Upd (fun k => v.ownBlock = some k) w w') (hB : ∀ k, v.ownBlock = some k → W.heap.size ≤ k) : Upd F W w' := h.trans hu fun k hk e => by have := hB k e; omega
end
theorem arg_info : (Tryd.prog.info? 119).map (fun i => (i.zero, i.size, i.bytes)) = some (some (.agg #[.bool false, .string .empty, .pointer none]), 3, 32) := by kernel_rfl
theorem many_none {α : Type} {u : Nat → List Tok → Rs α} {g : Nat} {l : List α} {r : List Tok} (h : nx r [44] = false) : many u (g + 1) l r = .ok l r := by
  conv => lhs; unfold many
  rw [if_neg (by rw [h]; exact Bool.false_ne_true)]
theorem many_some {α : Type} {u : Nat → List Tok → Rs α} {g : Nat} {l : List α} {r : List Tok} (h : nx r [44] = true) : many u (g + 1) l r = (u l.length r.tail).bind fun a r => many u g (l ++ [a]) r := by
  conv => lhs; unfold many
  rw [if_pos h]
end Go.Proofs.YtiiihpokpfhclaaDoor
/- The document's parser (augurref6) in memory: its tokens, its place, its first error, its depth, its count. -/
namespace Go.Proofs.YtiiihpokpfhclaaDoor
open Go Go.RowKit

/-- The parser in block p stands at the i-th token; e: the first error, at a; so many things are open, so many statements have begun. -/
structure RfW (w : World) (p : Nat) (C : Cx) (i e a d n : Nat) : Prop where
  row : ToksR w C.base C.vt C.ts
  heap : w.heap[p]? = some (.cells #[C.vt, .int .i64 i, .int .i64 C.len, .int .i64 e, .int .i64 a, .int .i64 d, .int .i64 n] 70 (0, 0))
  hi : i ≤ C.ts.length
  hd : d ≤ 40
  hn : n ≤ 1000000
  ok : CxOk C
section
variable {w w' : World} {p : Nat} {C : Cx} {i e a d n : Nat}
theorem RfW.lt (h : RfW w p C i e a d n) : p < w.heap.size := (Array.getElem?_eq_some_iff.1 h.heap).1
theorem RfW.own (h : RfW w p C i e a d n) : C.vt.ownBlock ≠ some p := fun x => absurd (own_type h.row x h.heap) (by decide)
theorem RfW.upd {F : Nat → Prop} (h : RfW w p C i e a d n) (hu : Upd F w w') (hp : ¬ F p) (hF : ∀ k, C.vt.ownBlock = some k → ¬ F k) : RfW w' p C i e a d n :=
  ⟨hu.own h.row hF, hu.heap h.heap hp, h.hi, h.hd, h.hn, h.ok⟩
theorem RfW.below (h : RfW w p C i e a d n) (hb : Below w.heap.size w w') : RfW w' p C i e a d n := h.upd (F := fun _ => False) (.of_below _ hb) id fun _ _ => id
theorem RfW.alloc (h : RfW w p C i e a d n) (o : Obj) : RfW (w.alloc o) p C i e a d n := h.upd (F := fun _ => False) (.alloc _ _ _) id fun _ _ => id
/-- One of its own cells is set anew. -/
theorem RfW.set (h : RfW w p C i e a d n) {i' e' a' d' n' : Nat} (o : Nat) (u : Value) (hh : (w.setCell ⟨p, o, none⟩ u).heap[p]? = some (.cells #[C.vt, .int .i64 i', .int .i64 C.len, .int .i64 e', .int .i64 a', .int .i64 d', .int .i64 n'] 70 (0, 0)))
    (hi : i' ≤ C.ts.length) (hd : d' ≤ 40) (hn : n' ≤ 1000000) : RfW (w.setCell ⟨p, o, none⟩ u) p C i' e' a' d' n' :=
  ⟨(Upd.set w (F := At p) (a := ⟨p, o, none⟩) rfl u).own h.row fun k hk x => h.own (by rw [hk]; exact congrArg some x), hh, hi, hd, hn, h.ok⟩
end
/-- Is the next token just that word or sign? -/
def isQ (C : Cx) (i e : Nat) (x : List UInt8) : Bool := e == 0 && nx (C.ts.drop i) x && !isNum (C.ts.drop i)
def nmQ (C : Cx) (i e : Nat) : Bool := e == 0 && isNm (C.ts.drop i)
end Go.Proofs.YtiiihpokpfhclaaDoor

/- Part 2 of the walks (merged): Own, LxA, LayParse, LxB, Order. -/
import Derived.Test.YteplkhgaoaphhaaGreatDoorRows
import Derived.Test.YteplkhgaoaphhaaGreatDoorM1
import Derived.Lib.FrozenHead
import Derived.Lib.AppendStr
import Derived.ArgAppend
import Derived.Deep.Matrix
import Derived.Shelf.Strconv.ParseIntPublic10
import Derived.Test.YteplkhgaoaphhaaGreatDoorProg
import Derived.Lib.ParseIntBCases
import Derived.RegionTactic
/- Objects of the call's own: what an operation on one of them leaves as it was. -/
namespace Go.Proofs.YteplkhgaoaphhaaGreatDoor
open Go Go.RowKit

/-- Of what was there nothing has turned but the blocks of F. -/
structure Upd (F : Nat → Prop) (w w' : World) : Prop where
  os : w'.os = w.os
  tape : w'.tape = w.tape
  output : w'.output = w.output
  size : w.heap.size ≤ w'.heap.size
  block : ∀ k, k < w.heap.size → ¬ F k → w'.heap[k]? = w.heap[k]?

section
variable {F G : Nat → Prop} {w w' w'' : World}
theorem Upd.refl (F : Nat → Prop) (w : World) : Upd F w w := ⟨rfl, rfl, rfl, Nat.le_refl _, fun _ _ _ => rfl⟩
theorem Upd.trans (h : Upd F w w') (g : Upd G w' w'') (hG : ∀ k, k < w.heap.size → G k → F k) : Upd F w w'' :=
  ⟨g.os.trans h.os, g.tape.trans h.tape, g.output.trans h.output, Nat.le_trans h.size g.size, fun k hk hn => (g.block k (Nat.lt_of_lt_of_le hk h.size) fun hg => hn (hG k hk hg)).trans (h.block k hk hn)⟩
theorem Upd.then (h : Upd F w w') (g : Upd F w' w'') : Upd F w w'' := h.trans g fun _ _ h => h
theorem Upd.mono (h : Upd F w w') (hG : ∀ k, k < w.heap.size → F k → G k) : Upd G w w' :=
  ⟨h.os, h.tape, h.output, h.size, fun k hk hn => h.block k hk fun hf => hn (hG k hk hf)⟩
theorem Upd.of_below (F : Nat → Prop) (h : Below w.heap.size w w') : Upd F w w' := ⟨h.os, h.tape, h.output, h.size, fun k hk _ => h.block k hk⟩
theorem Upd.below {B : Nat} (h : Upd F w w') (hB : B ≤ w.heap.size) (hF : ∀ k, F k → B ≤ k) : Below B w w' :=
  ⟨h.os, h.tape, h.output, h.size, fun k hk => h.block k (by omega) fun hf => by have := hF k hf; omega⟩
theorem Upd.alloc (F : Nat → Prop) (w : World) (o : Obj) : Upd F w (w.alloc o) := .of_below F ((Below.refl _ _).alloc (Nat.le_refl _) o)
theorem Upd.drew (h : Upd F w w') : Upd F w w'.drew := ⟨h.os, h.tape, h.output, h.size, h.block⟩
theorem Upd.set (w : World) {a : Addr} (hF : F a.block) (u : Value) : Upd F w (w.setCell a u) :=
  ⟨rfl, rfl, rfl, by simp [World.setCell], fun k _ hn => Below.heap_setCell _ _ _ _ fun e => hn (e ▸ hF)⟩
theorem Upd.grown {row : Option Nat} (hg : w.grownBy w' row) (hF : ∀ k, row = some k → F k) : Upd F w w' :=
  ⟨hg.os, hg.tape, hg.output, hg.size, fun k hk hn => hg.block k hk fun e => hn (hF k e.symm)⟩
theorem Upd.heap (h : Upd F w w') {k : Nat} {o : Obj} (hk : w.heap[k]? = some o) (hn : ¬ F k) : w'.heap[k]? = some o :=
  (h.block k (Array.getElem?_eq_some_iff.1 hk).1 hn).trans hk
theorem Upd.own (h : Upd F w w') {base : Nat} {e : TypeId} {size n : Nat} {v : Value} {xs : List Value} (ho : w.ownsRow base e size v n xs) (hn : ∀ k, v.ownBlock = some k → ¬ F k) : w'.ownsRow base e size v n xs := by
  refine ⟨ho.1, ?_⟩
  rcases ho.2 with hn' | ⟨g, cap, cur, rfl, hb, hgg, rest⟩
  · exact .inl hn'
  · exact .inr ⟨g, cap, cur, rfl, hb, h.heap hgg (hn g rfl), rest⟩
theorem Upd.cell (h : Upd F w w') {b o : Nat} {u : Value} (hc : w.cell? ⟨b, o, none⟩ = some u) (hn : ¬ F b) : w'.cell? ⟨b, o, none⟩ = some u := by
  have hb := World.block_lt_of_cell? w _ hc
  exact (World.cell?_of_block (w := w) (h.block b hb hn)).trans hc
theorem Upd.sl {B : Nat} {A : Option Addr} {xs : List Value} (h : Upd F w w') (hs : Sl w B A xs) (hn : ∀ k, k < B → ¬ F k) : Sl w' B A xs := by
  rcases hs with rfl | ⟨b, o, rfl, hb, hc⟩
  · exact .inl rfl
  · exact .inr ⟨b, o, rfl, hb, fun i u hi => h.cell (hc i u hi) (hn b hb)⟩
theorem Upd.bytes {B : Nat} {v : Value} {l : List UInt8} (h : Upd F w w') (hs : BytesV w B v l) (hn : ∀ k, k < B → ¬ F k) : BytesV w' B v l := by
  obtain ⟨A, c, h1, h2, h3, h4⟩ := hs
  exact ⟨A, c, h1, h2, h3, h.sl h4 hn⟩
end

theorem ownsRow_base {w : World} {b b' : Nat} {e : TypeId} {size n : Nat} {v : Value} {xs : List Value} (h : w.ownsRow b e size v n xs) (hb : b' ≤ b) : w.ownsRow b' e size v n xs := by
  refine ⟨h.1, ?_⟩
  rcases h.2 with hn | ⟨g, cap, cur, rfl, h1, rest⟩
  · exact .inl hn
  · exact .inr ⟨g, cap, cur, rfl, by omega, rest⟩
/-- A row's block bears its elements' type: so a block of another type is another block. -/
theorem own_type {w : World} {b : Nat} {e e' : TypeId} {size n k : Nat} {v : Value} {xs : List Value} {cs : Array Value} {fr : Nat × Nat} (h : w.ownsRow b e size v n xs) (hk : v.ownBlock = some k) (hh : w.heap[k]? = some (.cells cs e' fr)) : e = e' := by
  rcases h.2 with ⟨rfl, _⟩ | ⟨g, cap, cur, rfl, _, hg, _⟩
  · cases hk
  · have : g = k := by simpa [Value.ownBlock] using hk
    subst this
    rw [hh] at hg
    injection hg with hg
    injection hg with _ h2
    exact h2.symm
theorem heap_set {w : World} {p : Nat} {cs : Array Value} {t : TypeId} {fr : Nat × Nat} (h : w.heap[p]? = some (.cells cs t fr)) (o : Nat) (u : Value) : (w.setCell ⟨p, o, none⟩ u).heap[p]? = some (.cells (cs.setIfInBounds o u) t fr) := by
  simp only [World.setCell, Array.getElem?_modify, h, if_true, Option.map_some]
  rfl
theorem heap_set_other {w : World} {p q : Nat} (hne : q ≠ p) (o : Nat) (u : Value) : (w.setCell ⟨p, o, none⟩ u).heap[q]? = w.heap[q]? := Below.heap_setCell _ _ _ _ hne
theorem cell_at {w : World} {p : Nat} {cs : Array Value} {t : TypeId} (h : w.heap[p]? = some (.cells cs t (0, 0))) (o : Nat) : w.cell? ⟨p, o, none⟩ = cs[o]? := cell_of_row w p o cs t (0, 0) h
theorem frozen_at {w : World} {p : Nat} {cs : Array Value} {t : TypeId} (h : w.heap[p]? = some (.cells cs t (0, 0))) (o : Nat) : w.frozen? ⟨p, o, none⟩ = false := Lib.frozen_of_heap h o
theorem heap_new (w : World) (o : Obj) : (w.alloc o).heap[w.heap.size]? = some o := heap_alloc_new w o
theorem heap_old {w : World} {k : Nat} {o : Obj} (h : w.heap[k]? = some o) (o' : Obj) : (w.alloc o').heap[k]? = some o := by
  rw [Below.heap_alloc _ _ _ (Array.getElem?_eq_some_iff.1 h).1]; exact h

/-- A list of values behind a slice, in a block of which S holds. -/
def ArgV (w : World) (S : Nat → Prop) (v : Value) (xs : List Value) : Prop :=
  ∃ A c, v = .slice A xs.length c ∧ xs.length ≤ c ∧ c ≤ maxLen ∧ (xs = [] ∨ ∃ b o, A = some ⟨b, o, none⟩ ∧ S b ∧ ∀ i u, xs[i]? = some u → w.cell? ⟨b, o + i, none⟩ = some u)
theorem ArgV.upd {w w' : World} {F S : Nat → Prop} {v : Value} {xs : List Value} (h : ArgV w S v xs) (hu : Upd F w w') (hS : ∀ k, S k → ¬ F k) : ArgV w' S v xs := by
  obtain ⟨A, c, h1, h2, h3, h4⟩ := h
  refine ⟨A, c, h1, h2, h3, ?_⟩
  rcases h4 with rfl | ⟨b, o, rfl, hb, hc⟩
  · exact .inl rfl
  · exact .inr ⟨b, o, rfl, hb, fun i u hi => hu.cell (hc i u hi) (hS b hb)⟩
theorem ArgV.mono {w : World} {S S' : Nat → Prop} {v : Value} {xs : List Value} (h : ArgV w S v xs) (hS : ∀ k, k < w.heap.size → S k → S' k) : ArgV w S' v xs := by
  obtain ⟨A, c, h1, h2, h3, h4⟩ := h
  refine ⟨A, c, h1, h2, h3, ?_⟩
  rcases h4 with rfl | ⟨b, o, rfl, hb, hc⟩
  · exact .inl rfl
  · cases xs with
    | nil => exact .inl rfl
    | cons x xs => exact .inr ⟨b, o, rfl, hS b (World.block_lt_of_cell? w _ (hc 0 x rfl)) hb, hc⟩
theorem ArgV.get {w : World} {S : Nat → Prop} {A : Option Addr} {n c : Nat} {xs : List Value} {i : Nat} {u : Value} (h : ArgV w S (.slice A n c) xs) (hi : xs[i]? = some u) : ∃ b o, A = some ⟨b, o, none⟩ ∧ S b ∧ w.cell? ⟨b, o + i, none⟩ = some u := by
  obtain ⟨A', c', h1, h2, h3, h4⟩ := h
  injection h1 with e1 e2 e3
  subst e1
  rcases h4 with rfl | ⟨b, o, rfl, hb, hc⟩
  · simp at hi
  · exact ⟨b, o, rfl, hb, hc i u hi⟩
/-- A single value in a block of its own, as a call's '..' takes it. -/
theorem ArgV.one {w : World} {S : Nat → Prop} {g : Nat} {u : Value} (hc : w.cell? ⟨g, 0, none⟩ = some u) (hS : S g) : ArgV w S (.slice (some ⟨g, 0, none⟩) 1 1) [u] := by
  refine ⟨_, _, rfl, Nat.le_refl _, by unfold maxLen; simp, .inr ⟨g, 0, rfl, hS, fun i x hi => ?_⟩⟩
  match i, hi with
  | 0, hi => rw [hc]; simpa using hi
theorem ArgV.two {w : World} {S : Nat → Prop} {g : Nat} {u v : Value} (h0 : w.cell? ⟨g, 0, none⟩ = some u) (h1 : w.cell? ⟨g, 1, none⟩ = some v) (hS : S g) : ArgV w S (.slice (some ⟨g, 0, none⟩) 2 2) [u, v] := by
  refine ⟨_, _, rfl, Nat.le_refl _, by unfold maxLen; simp, .inr ⟨g, 0, rfl, hS, fun i x hi => ?_⟩⟩
  match i, hi with
  | 0, hi => rw [h0]; simpa using hi
  | 1, hi => rw [h1]; simpa using hi
theorem ArgV.of_sl {w : World} {B : Nat} {A : Option Addr} {c : Nat} {xs : List Value} (hs : Sl w B A xs) (h1 : xs.length ≤ c) (h2 : c ≤ maxLen) : ArgV w (· < B) (.slice A xs.length c) xs := by
  refine ⟨A, c, rfl, h1, h2, ?_⟩
  rcases hs with rfl | ⟨b, o, rfl, hb, hc⟩
  · exact .inl rfl
  · exact .inr ⟨b, o, rfl, hb, hc⟩

theorem BytesV.slice' {w : World} {B : Nat} {v : Value} {l : List UInt8} (h : BytesV w B v l) : ∃ A n c, v = .slice A n c := by
  obtain ⟨A, c, rfl, -⟩ := h
  exact ⟨A, _, c, rfl⟩
theorem BytesV.take {w : World} {B n c : Nat} {A : Option Addr} {l : List UInt8} (h : BytesV w B (.slice A n c) l) (k : Nat) (hk : k ≤ l.length) : BytesV w B (.slice A k c) (l.take k) := by
  obtain ⟨A0, c0, h1, h2, h3, h4⟩ := h
  injection h1 with e1 e2 e3
  subst e1 e2 e3
  have hl : (l.take k).length = k := by rw [List.length_take]; omega
  refine ⟨A, c, by rw [hl], by omega, h3, ?_⟩
  have e : bv (l.take k) = (bv l).take k := by unfold bv; rw [List.map_take]
  rw [e]
  exact h4.take k

/-- A []byte of the call's own. -/
def RowB (w : World) (B : Nat) (v : Value) (l : List UInt8) : Prop := w.ownsRow B 5 1 v l.length (bv l)
theorem RowB.bytes {w : World} {B : Nat} {v : Value} {l : List UInt8} (h : RowB w B v l) : BytesV w w.heap.size v l := by
  obtain ⟨A, c, rfl, h1, h2, h3⟩ := ownsRow_sl h
  exact ⟨A, c, rfl, h1, h2, h3⟩
theorem RowB.slice {w : World} {B : Nat} {v : Value} {l : List UInt8} (h : RowB w B v l) : ∃ A n c, v = .slice A n c := by
  obtain ⟨A, c, rfl, -⟩ := ownsRow_sl h
  exact ⟨A, _, c, rfl⟩
theorem RowB.nil_ (w : World) (B : Nat) : RowB w B (.slice none 0 0) [] := World.ownsRow_nil _ _ _ _
theorem byte_info : (Tryz.prog.info? 5).map (fun i => (i.zero, i.size, i.bytes)) = some (some (.int .u8 0), 1, 1) := by kernel_rfl

theorem info_parts {P : Program} {t : TypeId} {z : Value} {s b : Nat} (h : (P.info? t).map (fun i => (i.zero, i.size, i.bytes)) = some (some z, s, b)) : ∃ i, P.info? t = some i ∧ i.zero = some z ∧ i.size = s ∧ i.bytes = b := by
  cases hi : P.info? t with
  | none => rw [hi] at h; cases h
  | some i =>
    rw [hi] at h
    simp only [Option.map_some, Option.some.injEq, Prod.mk.injEq] at h
    exact ⟨i, rfl, h.1, h.2.1, h.2.2⟩

section
variable {P : Program} (w : World)
/-- An append to a row of the call's own: the row stays in its block, or goes into a new one. -/
theorem run_append_moved (base : Nat) (t ty e : TypeId) (i : TypeInfo) (z : Value) (size bytes : Nat) (ht : P.underlying t = some (.slice e)) (hi : P.info? e = some i) (hz : i.zero = some z)
    (hsize : i.size = size) (hby : i.bytes = bytes) (hzs : z.cells.size = size) (hsz : 0 < size)
    (v : Value) (n : Nat) (xs : List Value) (hown : w.ownsRow base e size v n xs)
    (a : Addr) (m c : Nat) (news : List Value) (hl : news.length = m * size) (hnews : ∀ j u, news[j]? = some u → w.cell? (a.add j) = some u) (h1 : ∀ u ∈ news, u.oneCell' = true)
    (h63 : n + m ≤ maxLen) (hbytes : (n + m) * bytes ≤ 140737488355328) (hbase : base ≤ w.heap.size) :
    ∃ v' w', (Builtin.append_ #[t, t] ty #[v, .slice (some a) m c]).run P w = .ok v' w' ∧ w'.ownsRow base e size v' (n + m) (xs ++ news) ∧ w.grownBy w' v.ownBlock ∧ ∀ k, v'.ownBlock = some k → v.ownBlock = some k ∨ w.heap.size ≤ k := by
  obtain ⟨v', w', hr, h2, h3, -⟩ := run_append_own (P := P) w base t ty e i z size bytes ht hi hz hsize hby hzs hsz v n xs hown a m c news hl hnews h1 h63 hbytes hbase
  refine ⟨v', w', hr, h2, h3, fun k hk => ?_⟩
  rcases hown.2 with ⟨rfl, rfl⟩ | ⟨g, cap, cur, rfl, hbg, hg, hnc, hcm, hcs, htake⟩
  · obtain rfl : xs = [] := List.eq_nil_of_length_eq_zero (by simpa using hown.1)
    obtain ⟨v2, w2, hr2, h4, -, -⟩ := run_append_own (P := P) w w.heap.size t ty e i z size bytes ht hi hz hsize hby hzs hsz _ 0 [] (World.ownsRow_nil w _ e size) a m c news hl hnews h1 h63 hbytes (Nat.le_refl _)
    rw [hr] at hr2
    injection hr2 with e1 e2
    subst e1 e2
    exact .inr (h4.lt k hk).1
  · by_cases hroom : n + m ≤ cap
    · have := run_append_room (P := P) w t ty e i ht hi g n cap cur hg a m c news (by rw [hsize]; exact hl) hnews h1 hroom (by
        rw [hsize, hl, ← Nat.add_mul, hcs]; exact Nat.mul_le_mul_right _ hroom)
      rw [hr] at this
      injection this with e1 e2
      subst e1
      exact .inl hk
    · obtain ⟨v2, w2, hr2, h4, -⟩ := run_append_arg_grows (P := P) w t ty e i z size bytes ht hi hz hsize hby hzs hsz ⟨g, 0, none⟩ n cap xs hown.1 (hown.cells (g := g) rfl) a m c news hl hnews (by omega) h63 hbytes
      rw [hr] at hr2
      injection hr2 with e1 e2
      subst e1 e2
      exact .inr (h4.lt k hk).1
/-- The same of a string's bytes. -/
theorem run_append_moved_string (base : Nat) (t u ty e : TypeId) (i : TypeInfo) (ht : P.underlying t = some (.slice e)) (hu : P.underlying u = some .string) (hi : P.info? e = some i) (hz : i.zero = some (.int .u8 0))
    (hsize : i.size = 1) (hby : i.bytes = 1)
    (v : Value) (n : Nat) (xs : List Value) (hown : w.ownsRow base e 1 v n xs) (s : ByteArray)
    (h63 : n + s.size ≤ maxLen) (hbytes : n + s.size ≤ 140737488355328) (hbase : base ≤ w.heap.size) :
    ∃ v' w', (Builtin.append_ #[t, u] ty #[v, .string s]).run P w = .ok v' w' ∧ w'.ownsRow base e 1 v' (n + s.size) (xs ++ Lib.strCells s) ∧ w.grownBy w' v.ownBlock ∧ ∀ k, v'.ownBlock = some k → v.ownBlock = some k ∨ w.heap.size ≤ k := by
  obtain ⟨v', w', hr, h2, h3, -⟩ := Lib.run_append_own_string (P := P) w base t u ty e i ht hu hi hz hsize hby v n xs hown s h63 hbytes hbase
  refine ⟨v', w', hr, h2, h3, fun k hk => ?_⟩
  have hxl : xs.length = n := by simpa using hown.1
  rcases hown.2 with ⟨rfl, rfl⟩ | ⟨g, cap, cur, rfl, hbg, hg, hnc, hcm, hcs, htake⟩
  · obtain rfl : xs = [] := List.eq_nil_of_length_eq_zero (by simpa using hown.1)
    obtain ⟨v2, w2, hr2, h4, -, -⟩ := Lib.run_append_own_string (P := P) w w.heap.size t u ty e i ht hu hi hz hsize hby _ 0 [] (World.ownsRow_nil w _ e 1) s h63 hbytes (Nat.le_refl _)
    rw [hr] at hr2
    injection hr2 with e1 e2
    subst e1 e2
    exact .inr (h4.lt k hk).1
  · by_cases hroom : n + s.size ≤ cap
    · have := Lib.run_append_room_string (P := P) w t u ty e i ht hu hi hsize g n cap cur hg s hroom (by rw [hcs]; omega)
      rw [hr] at this
      injection this with e1 e2
      subst e1
      exact .inl hk
    · have := Lib.run_append_grow_string (P := P) w t u ty e i (.int .u8 0) ht hu hi hz ⟨g, 0, none⟩ n cap xs (by rw [hsize]; simpa using hxl) (hown.cells (g := g) rfl) s (by omega) (by unfold maxLen at h63; omega) (by rw [hby]; exact growslice_fits (by omega) (by omega))
      rw [hr] at this
      injection this with e1 e2
      subst e1
      right
      have : w.heap.size = k := by simpa [Value.ownBlock] using hk
      omega
end

section
variable {w : World} {ops : Array Oper} {rest : List Oper} {o : Oper} {a : Act} {Q : Exit → Act → World → Prop}
/-- The walk's law: bytes behind a row of the call's own. -/
theorem wp_bytes (hgd : o.guard = none) (s x : Operand) (ho : o.op = .call { callee := .builtin .append, args := #[s, x], argTypes := #[22, 22] })
    (B : Nat) (v : Value) (l : List UInt8) (hs : a.eval s = v) (hown : RowB w B v l) (ad : Addr) (m c : Nat) (news : List UInt8) (hx : a.eval x = .slice (some ad) m c) (hm : m = news.length)
    (hnews : ∀ j u, (bv news)[j]? = some u → w.cell? (ad.add j) = some u) (hlen : l.length + news.length ≤ 70368744177664) (hbase : B ≤ w.heap.size)
    (h : ∀ v' w', RowB w' B v' (l ++ news) → w.grownBy w' v.ownBlock → (∀ k, v'.ownBlock = some k → v.ownBlock = some k ∨ w.heap.size ≤ k) → wpList Tryz.prog ops Q rest (a.put o.dst v') w') : wpList Tryz.prog ops Q (o :: rest) a w := by
  subst hm
  obtain ⟨i0, hi, hz0, hz1, hz2⟩ := info_parts byte_info
  refine wpList_plain hgd fun K hK => ?_
  obtain ⟨v', w', hr, h2, h3, h4⟩ := run_append_moved (P := Tryz.prog) w B 22 o.type 5 i0 (.int .u8 0) 1 1 Tryz.underlying22 hi hz0 hz1 hz2 rfl Nat.one_pos v l.length (bv l) hown ad news.length c (bv news) (by rw [bv_len, Nat.mul_one]) hnews (fun u hu => by
    unfold bv at hu; rw [List.mem_map] at hu; obtain ⟨b, _, rfl⟩ := hu; rfl) (by unfold maxLen; omega) (by omega) hbase
  unfold Oper.wp execOp
  simp only [ho, resolve, invoke, builtin, Sem.run_bind, Sem.run_pure, Result.andThen_ok, List.map_toArray, List.map_cons, List.map_nil, hs, hx, hr]
  refine hK _ _ (h v' w' ?_ h3 h4)
  unfold RowB
  rw [List.length_append]
  simpa [bv] using h2
/-- The same of a string. -/
theorem wp_bytes_string (hgd : o.guard = none) (s x : Operand) (ho : o.op = .call { callee := .builtin .append, args := #[s, x], argTypes := #[22, 9] })
    (B : Nat) (v : Value) (l : List UInt8) (hs : a.eval s = v) (hown : RowB w B v l) (str : ByteArray) (hx : a.eval x = .string str)
    (hlen : l.length + str.size ≤ 70368744177664) (hbase : B ≤ w.heap.size)
    (h : ∀ v' w', RowB w' B v' (l ++ str.data.toList) → w.grownBy w' v.ownBlock → (∀ k, v'.ownBlock = some k → v.ownBlock = some k ∨ w.heap.size ≤ k) → wpList Tryz.prog ops Q rest (a.put o.dst v') w') : wpList Tryz.prog ops Q (o :: rest) a w := by
  obtain ⟨i0, hi, hz0, hz1, hz2⟩ := info_parts byte_info
  refine wpList_plain hgd fun K hK => ?_
  obtain ⟨v', w', hr, h2, h3, h4⟩ := run_append_moved_string (P := Tryz.prog) w B 22 9 o.type 5 i0 Tryz.underlying22 Tryz.underlying9 hi hz0 hz1 hz2 v l.length (bv l) hown str (by unfold maxLen; omega) (by omega) hbase
  unfold Oper.wp execOp
  simp only [ho, resolve, invoke, builtin, Sem.run_bind, Sem.run_pure, Result.andThen_ok, List.map_toArray, List.map_cons, List.map_nil, hs, hx, hr]
  refine hK _ _ (h v' w' ?_ h3 h4)
  unfold RowB
  rw [List.length_append]
  have e1 : bv (l ++ str.data.toList) = bv l ++ Lib.strCells str := by unfold bv Lib.strCells; rw [List.map_append]
  have e2 : str.data.toList.length = str.size := Array.length_toList
  rw [e1, e2]
  exact h2
/-- Bytes behind a slice that is full: the row is new. -/
theorem wp_bytes_full (hgd : o.guard = none) (s x : Operand) (ho : o.op = .call { callee := .builtin .append, args := #[s, x], argTypes := #[22, 22] })
    (B : Nat) (A : Option Addr) (l : List UInt8) (hs : a.eval s = .slice A l.length l.length) (hown : Sl w B A (bv l)) (ad : Addr) (m c : Nat) (news : List UInt8) (hx : a.eval x = .slice (some ad) m c) (hm : m = news.length) (hpos : 0 < news.length) 
    (hnews : ∀ j u, (bv news)[j]? = some u → w.cell? (ad.add j) = some u) (hlen : l.length + news.length ≤ 70368744177664)
    (h : ∀ v' w', RowB w' w.heap.size v' (l ++ news) → Below w.heap.size w w' → wpList Tryz.prog ops Q rest (a.put o.dst v') w') : wpList Tryz.prog ops Q (o :: rest) a w := by
  subst hm
  obtain ⟨i0, hi, hz0, hz1, hz2⟩ := info_parts byte_info
  refine wpList_append_grows (P := Tryz.prog) w hgd s x 22 ho 5 i0 (.int .u8 0) 1 1 Tryz.underlying22 hi hz0 hz1 hz2 rfl Nat.one_pos A l.length l.length (bv l) hs ?_ (by rw [bv_len, Nat.mul_one]) ?_ ad news.length c (bv news) hx (by rw [bv_len, Nat.mul_one]) hnews (fun u hu => by
    unfold bv at hu; rw [List.mem_map] at hu; obtain ⟨b, _, rfl⟩ := hu; rfl) (by omega) (by unfold maxLen; omega) (by omega) ?_
  · intro hn
    rcases hown with h0 | ⟨b, o, rfl, _⟩
    · have : l.length = 0 := by rw [← bv_len, h0]; rfl
      omega
    · cases hn
  · intro b hb j u hj
    rcases hown with h0 | ⟨b', o, rfl, _, hc⟩
    · rw [h0] at hj; simp at hj
    · obtain rfl := Option.some.inj hb
      rw [Go.WideShapes.add_plain]
      exact hc j u hj
  · intro v' w' h1 h2
    refine h v' w' ?_ ((Below.refl _ w).grown h2 (Nat.le_refl _) (fun k hk => by cases hk))
    unfold RowB
    rw [List.length_append]
    simpa [bv] using h1
end
end Go.Proofs.YteplkhgaoaphhaaGreatDoor
/- Walks of small functions of package lex and of the document's: which bytes are letters, digits, blanks; which words are operators. -/
namespace Go.Proofs.YteplkhgaoaphhaaGreatDoor
open Go.RowKit
theorem ret_bool {b c : Bool} {w : World} (h : b = c) : (Ending.returned (.bool b) = .returned (.bool c)) ∧ w = w := ⟨by rw [h], rfl⟩
theorem nat_beq (c k : Nat) : ((c : Int) == (k : Int)) = decide (c = k) := by
  by_cases h : c = k
  · subst h; simp
  · have : (c : Int) ≠ (k : Int) := by omega
    simp [h, this]
set_option maxRecDepth 100000 in
theorem isLetter_any (c : Nat) (w : World) : Calls Tryz.prog 88 #[.int .u8 c] w fun e w' => e = .returned (.bool (letterB c)) ∧ w' = w := by
  go_enter Tryz.func88, Tryz.ntmps88
  go_wp2
  all_goals go_ret
  all_goals refine ret_bool ?_
  all_goals (unfold letterB; rw [Bool.eq_iff_iff]; simp; omega)
set_option maxRecDepth 100000 in
theorem isDigit_any (c : Nat) (w : World) : Calls Tryz.prog 89 #[.int .u8 c] w fun e w' => e = .returned (.bool (digitB c)) ∧ w' = w := by
  go_enter Tryz.func89, Tryz.ntmps89
  go_wp2
  all_goals go_ret
  all_goals refine ret_bool ?_
  all_goals (unfold digitB; rw [Bool.eq_iff_iff]; simp; omega)
set_option maxRecDepth 100000 in
theorem isBlank_any (c : Nat) (w : World) : Calls Tryz.prog 101 #[.int .u8 c] w fun e w' => e = .returned (.bool (blankB c)) ∧ w' = w := by
  go_enter Tryz.func101, Tryz.ntmps101
  go_wp2
  all_goals go_ret
  all_goals refine ret_bool ?_
  all_goals (unfold blankB; rw [Bool.eq_iff_iff]; simp_all; try omega)
set_option maxRecDepth 100000 in
theorem letter_any (c : Nat) (w : World) : Calls Tryz.prog 29 #[.int .u8 c] w fun e w' => e = .returned (.bool (letterB c)) ∧ w' = w := by
  go_enter Tryz.func29, Tryz.ntmps29
  go_wp2
  all_goals go_ret
  all_goals refine ret_bool ?_
  all_goals (unfold letterB; rw [Bool.eq_iff_iff]; simp; omega)
set_option maxRecDepth 100000 in
theorem digit_any (c : Nat) (w : World) : Calls Tryz.prog 30 #[.int .u8 c] w fun e w' => e = .returned (.bool (digitB c)) ∧ w' = w := by
  go_enter Tryz.func30, Tryz.ntmps30
  go_wp2
  all_goals go_ret
  all_goals refine ret_bool ?_
  all_goals (unfold digitB; rw [Bool.eq_iff_iff]; simp; omega)
/-- Bytes as a string. -/
def strB (l : List UInt8) : ByteArray := ⟨l.toArray⟩
theorem strB_eq (s : ByteArray) : s = strB s.data.toList := by cases s; simp [strB]
set_option maxRecDepth 100000 in
set_option maxHeartbeats 1600000 in
theorem isOperator_any (s : List UInt8) (w : World) : Calls Tryz.prog 90 #[.string (strB s)] w fun e w' => e = .returned (.bool (isOp s)) ∧ w' = w := by
  unfold strB
  go_enter Tryz.func90, Tryz.ntmps90
  go_wp2
  all_goals go_ret
  all_goals refine ret_bool ?_
  all_goals (unfold isOp opsL; simp_all)
end Go.Proofs.YteplkhgaoaphhaaGreatDoor
/- Library functions, laid at this dump: strconv.ParseInt. -/
namespace Go.Proofs.YteplkhgaoaphhaaGreatDoor
open Go Go.RowKit Go.Shelf
def layParse_ren : Go.Shelf.Ren := ⟨fun | 174 => 95 | 247 => 111 | 245 => 112 | 287 => 121 | 279 => 122 | 280 => 123 | 281 => 124 | 282 => 125 | 321 => 131 | 322 => 132 | 316 => 133 | 171 => 135 | 205 => 134 | 243 => 139 | 246 => 141 | 283 => 145 | 284 => 146 | 285 => 147 | 286 => 148 | 129 => 151 | 317 => 150 | 318 => 152 | 319 => 153 | 320 => 154 | 337 => 155 | 338 => 156 | n => n, fun | 9 => 9 | 3 => 3 | 2 => 2 | 75 => 134 | 85 => 135 | 4 => 4 | 167 => 142 | 5 => 5 | 53 => 81 | 175 => 143 | 46 => 145 | 168 => 146 | 37 => 22 | 0 => 0 | 210 => 155 | 21 => 21 | 127 => 157 | 145 => 160 | 143 => 158 | 171 => 162 | 173 => 165 | 212 => 168 | 51 => 169 | 20 => 20 | 213 => 170 | 232 => 173 | 233 => 174 | 80 => 76 | n => n, fun | 15 => 0 | 16 => 1 | 17 => 2 | 18 => 3 | 19 => 4 | n => n⟩
theorem layParse : Go.Proofs.LaysC.n174 Tryz.prog layParse_ren := {
  mixed := by kernel_rfl
  f129 := Tryz.func151.trans (congrArg some (by kernel_rfl))
  f171 := Tryz.func135.trans (congrArg some (by kernel_rfl))
  f174 := Tryz.func95.trans (congrArg some (by kernel_rfl))
  f205 := Tryz.func134.trans (congrArg some (by kernel_rfl))
  f243 := Tryz.func139.trans (congrArg some (by kernel_rfl))
  f245 := Tryz.func112.trans (congrArg some (by kernel_rfl))
  f246 := Tryz.func141.trans (congrArg some (by kernel_rfl))
  f247 := Tryz.func111.trans (congrArg some (by kernel_rfl))
  f279 := Tryz.func122.trans (congrArg some (by kernel_rfl))
  f280 := Tryz.func123.trans (congrArg some (by kernel_rfl))
  f281 := Tryz.func124.trans (congrArg some (by kernel_rfl))
  f282 := Tryz.func125.trans (congrArg some (by kernel_rfl))
  f283 := Tryz.func145.trans (congrArg some (by kernel_rfl))
  f284 := Tryz.func146.trans (congrArg some (by kernel_rfl))
  f285 := Tryz.func147.trans (congrArg some (by kernel_rfl))
  f286 := Tryz.func148.trans (congrArg some (by kernel_rfl))
  f287 := Tryz.func121.trans (congrArg some (by kernel_rfl))
  f316 := Tryz.func133.trans (congrArg some (by kernel_rfl))
  f317 := Tryz.func150.trans (congrArg some (by kernel_rfl))
  f318 := Tryz.func152.trans (congrArg some (by kernel_rfl))
  f319 := Tryz.func153.trans (congrArg some (by kernel_rfl))
  f320 := Tryz.func154.trans (congrArg some (by kernel_rfl))
  f321 := Tryz.func131.trans (congrArg some (by kernel_rfl))
  f322 := Tryz.func132.trans (congrArg some (by kernel_rfl))
  f337 := Tryz.func155.trans (congrArg some (by kernel_rfl))
  f338 := Tryz.func156.trans (congrArg some (by kernel_rfl))
  t0 := Tryz.underlying0
  a0 := Tryz.isAgg0
  z0 := Tryz.sizeOf0
  v0 := Tryz.zeroValue0
  t2 := Tryz.underlying2
  a2 := Tryz.isAgg2
  z2 := Tryz.sizeOf2
  v2 := Tryz.zeroValue2
  t3 := Tryz.underlying3
  a3 := Tryz.isAgg3
  z3 := Tryz.sizeOf3
  v3 := Tryz.zeroValue3
  t4 := Tryz.underlying4
  a4 := Tryz.isAgg4
  z4 := Tryz.sizeOf4
  v4 := Tryz.zeroValue4
  t5 := Tryz.underlying5
  a5 := Tryz.isAgg5
  z5 := Tryz.sizeOf5
  v5 := Tryz.zeroValue5
  t9 := Tryz.underlying9
  a9 := Tryz.isAgg9
  z9 := Tryz.sizeOf9
  v9 := Tryz.zeroValue9
  t20 := Tryz.underlying20
  a20 := Tryz.isAgg20
  z20 := Tryz.sizeOf20
  v20 := Tryz.zeroValue20
  t21 := Tryz.underlying21
  a21 := Tryz.isAgg21
  z21 := Tryz.sizeOf21
  v21 := Tryz.zeroValue21
  t37 := Tryz.underlying22
  a37 := Tryz.isAgg22
  z37 := Tryz.sizeOf22
  v37 := Tryz.zeroValue22
  t46 := Tryz.underlying145
  a46 := Tryz.isAgg145
  z46 := Tryz.sizeOf145
  v46 := Tryz.zeroValue145
  t51 := Tryz.underlying169
  a51 := Tryz.isAgg169
  z51 := Tryz.sizeOf169
  v51 := Tryz.zeroValue169
  t53 := Tryz.underlying81
  a53 := Tryz.isAgg81
  z53 := Tryz.sizeOf81
  v53 := Tryz.zeroValue81
  t75 := Tryz.underlying134
  a75 := Tryz.isAgg134
  z75 := Tryz.sizeOf134
  v75 := Tryz.zeroValue134
  t85 := Tryz.underlying135
  a85 := Tryz.isAgg135
  z85 := Tryz.sizeOf135
  v85 := Tryz.zeroValue135
  t127 := Tryz.underlying157
  a127 := Tryz.isAgg157
  z127 := Tryz.sizeOf157
  v127 := Tryz.zeroValue157
  t143 := Tryz.underlying158
  a143 := Tryz.isAgg158
  z143 := Tryz.sizeOf158
  v143 := Tryz.zeroValue158
  t145 := Tryz.underlying160
  a145 := Tryz.isAgg160
  z145 := Tryz.sizeOf160
  v145 := Tryz.zeroValue160
  t167 := Tryz.underlying142
  a167 := Tryz.isAgg142
  z167 := Tryz.sizeOf142
  v167 := Tryz.zeroValue142
  t168 := Tryz.underlying146
  a168 := Tryz.isAgg146
  z168 := Tryz.sizeOf146
  v168 := Tryz.zeroValue146
  t171 := Tryz.underlying162
  a171 := Tryz.isAgg162
  z171 := Tryz.sizeOf162
  v171 := Tryz.zeroValue162
  t173 := Tryz.underlying165
  a173 := Tryz.isAgg165
  z173 := Tryz.sizeOf165
  v173 := Tryz.zeroValue165
  t175 := Tryz.underlying143
  a175 := Tryz.isAgg143
  z175 := Tryz.sizeOf143
  v175 := Tryz.zeroValue143
  t210 := Tryz.underlying155
  a210 := Tryz.isAgg155
  z210 := Tryz.sizeOf155
  v210 := Tryz.zeroValue155
  t212 := Tryz.underlying168
  a212 := Tryz.isAgg168
  z212 := Tryz.sizeOf168
  v212 := Tryz.zeroValue168
  t213 := Tryz.underlying170
  a213 := Tryz.isAgg170
  z213 := Tryz.sizeOf170
  t232 := Tryz.underlying173
  a232 := Tryz.isAgg173
  z232 := Tryz.sizeOf173
  v232 := Tryz.zeroValue173
  t233 := Tryz.underlying174
  a233 := Tryz.isAgg174
  z233 := Tryz.sizeOf174
  v233 := Tryz.zeroValue174
  g15 := by kernel_rfl
  g16 := by kernel_rfl
  g17 := by kernel_rfl
  g18 := by kernel_rfl
  g19 := by kernel_rfl
  t80 := Tryz.underlying76
  a80 := Tryz.isAgg76
  z80 := Tryz.sizeOf76
  v80 := Tryz.zeroValue76
  i0 := by kernel_rfl
  i2 := by kernel_rfl
  i3 := by kernel_rfl
  i4 := by kernel_rfl
  i5 := by kernel_rfl
  i9 := by kernel_rfl
  i20 := by kernel_rfl
  i21 := by kernel_rfl
  i37 := by kernel_rfl
  i46 := by kernel_rfl
  i51 := by kernel_rfl
  i53 := by kernel_rfl
  i75 := by kernel_rfl
  i80 := by kernel_rfl
  i85 := by kernel_rfl
  i127 := by kernel_rfl
  i143 := by kernel_rfl
  i145 := by kernel_rfl
  i167 := by kernel_rfl
  i168 := by kernel_rfl
  i171 := by kernel_rfl
  i173 := by kernel_rfl
  i175 := by kernel_rfl
  i210 := by kernel_rfl
  i212 := by kernel_rfl
  i232 := by kernel_rfl
  i233 := by kernel_rfl
  m15 := by kernel_rfl
  m16 := by kernel_rfl
  m17 := by kernel_rfl
  m18 := by kernel_rfl
  m19 := by kernel_rfl
  c0 := by kernel_rfl
  c2 := by kernel_rfl
  c3 := by kernel_rfl
  c4 := by kernel_rfl
  c5 := by kernel_rfl
  c9 := by kernel_rfl
  c20 := by kernel_rfl
  c21 := by kernel_rfl
  c37 := by kernel_rfl
  c46 := by kernel_rfl
  c51 := by kernel_rfl
  c53 := by kernel_rfl
  c75 := by kernel_rfl
  c80 := by kernel_rfl
  c85 := by kernel_rfl
  c127 := by kernel_rfl
  c143 := by kernel_rfl
  c145 := by kernel_rfl
  c167 := by kernel_rfl
  c168 := by kernel_rfl
  c171 := by kernel_rfl
  c173 := by kernel_rfl
  c175 := by kernel_rfl
  c210 := by kernel_rfl
  c212 := by kernel_rfl
  c213 := by kernel_rfl
  c232 := by kernel_rfl
  c233 := by kernel_rfl }
end Go.Proofs.YteplkhgaoaphhaaGreatDoor
/- The faults of words: names, numbers, operators; the kind that a byte begins. -/
namespace Go.Proofs.YteplkhgaoaphhaaGreatDoor
open Go Go.RowKit Go.Lib

theorem valF_ge (l : List UInt8) : ∀ a, a ≤ l.foldl valF a := by
  induction l with
  | nil => exact fun a => Nat.le_refl a
  | cons c r ih =>
    intro a
    have := ih (valF a c)
    simp only [List.foldl_cons]
    unfold valF at this ⊢
    omega
theorem uintM_digits : ∀ (l : List UInt8) (acc : Nat), (∀ c ∈ l, digitB c.toNat = true) → acc ≤ 18446744073709551615 → parseUintM 18446744073709551615 acc l = if 18446744073709551615 < l.foldl valF acc then .range else .ok (l.foldl valF acc)
  | [], acc, _, ha => by rw [parseUintM, List.foldl_nil, if_neg (by omega)]
  | c :: r, acc, hd, ha => by
    have hc := hd c (List.mem_cons_self ..)
    unfold digitB at hc
    have hc := of_decide_eq_true hc
    rw [parseUintM, if_pos hc, List.foldl_cons]
    have hge := valF_ge r (valF acc c)
    by_cases h1 : 1844674407370955162 ≤ acc
    · rw [if_pos h1, if_pos]
      unfold valF at hge ⊢
      omega
    · rw [if_neg h1]
      by_cases h2 : 18446744073709551615 < acc * 10 + (c.toNat - 48)
      · rw [if_pos h2, if_pos]
        unfold valF at hge ⊢
        omega
      · rw [if_neg h2, uintM_digits r _ (fun x hx => hd x (List.mem_cons_of_mem _ hx)) (by omega)]
        have e : acc * 10 + (c.toNat - 48) = valF acc c := by unfold valF; omega
        rw [e]
theorem parse_digits {l : List UInt8} (hne : l ≠ []) (hd : ∀ c ∈ l, digitB c.toNat = true) : parseIntB 64 l = if 9223372036854775807 < valL l then .range else .ok ((valL l : Nat) : Int) := by
  cases l with
  | nil => exact absurd rfl hne
  | cons c r =>
    have hc := hd c (List.mem_cons_self ..)
    unfold digitB at hc
    have hc := of_decide_eq_true hc
    rw [parseIntB_plain 64 c r (by omega) (by omega)]
    unfold parseUintB
    rw [if_neg (by simp)]
    have e : 2 ^ 64 - 1 = 18446744073709551615 := by decide
    have e2 : 2 ^ (64 - 1) = 9223372036854775808 := by decide
    rw [e, e2, uintM_digits _ 0 hd (by omega)]
    show signlessC _ (if 18446744073709551615 < valL (c :: r) then _ else _) = _
    by_cases h1 : 18446744073709551615 < valL (c :: r)
    · rw [if_pos h1, if_pos (by omega)]; rfl
    · rw [if_neg h1]
      show (if 9223372036854775808 ≤ valL (c :: r) then _ else _) = _
      by_cases h2 : 9223372036854775807 < valL (c :: r)
      · rw [if_pos h2, if_pos (by omega)]
      · rw [if_neg h2, if_neg (by omega)]; rfl

/-- The variable strconv.ErrRange holds an error. -/
def ErrR (w : World) : Prop := ∃ tp p, w.cell? ⟨1, 0, none⟩ = some (.iface tp p)
theorem ErrR.lt {w : World} (h : ErrR w) : 1 < w.heap.size := by
  obtain ⟨tp, p, h⟩ := h
  exact World.block_lt_of_cell? _ _ h
theorem ErrR.below {w w' : World} (h : ErrR w) (hb : Below w.heap.size w w') : ErrR w' := by
  obtain ⟨tp, p, h1⟩ := h
  exact ⟨tp, p, (hb.cell (show (⟨1, 0, none⟩ : Addr).block < w.heap.size from ErrR.lt ⟨tp, p, h1⟩)).trans h1⟩
theorem bytes_below {w w' : World} {t : TypeId} (h : w' = w ∨ ∃ s, w' = Lib.bytesWorld w t s) : Below w.heap.size w w' := by
  rcases h with rfl | ⟨t, rfl⟩
  · exact Below.refl _ _
  · exact Lib.bytesWorld_below _ _ _
theorem parseInt_any (l : List UInt8) (hne : l ≠ []) (hd : ∀ c ∈ l, digitB c.toNat = true) (hlen : l.length ≤ 1000000) (w : World) (hE : ErrR w) :
    Calls Tryz.prog 95 #[.string (strB l), .int .i64 10, .int .i64 64] w fun e w' => ∃ (n : Int) (v : Value), e = .returned (.tuple #[.int .i64 n, v]) ∧ Below w.heap.size w w' ∧ (if 9223372036854775807 < valL l then ∃ tp p, v = .iface tp p else v = .nilIface) := by
  have hs : (strB l).data.toList = l := rfl
  have hz : (strB l).size = l.length := rfl
  have hp := parse_digits hne hd
  by_cases h : 9223372036854775807 < valL l
  · rw [if_pos h] at hp
    obtain ⟨tp, p, hc⟩ := hE
    refine (Any.strconv_ParseInt_10_at64_range layParse (strB l) (by rw [hz]; omega) (by rw [hs]; exact hp) (.iface tp p) w hc (.inr ⟨tp, p, rfl⟩)).mono ?_
    rintro e w' ⟨N, rfl, -, -, hb⟩
    exact ⟨_, _, rfl, hb, by rw [if_pos h]; exact ⟨_, _, rfl⟩⟩
  · rw [if_neg h] at hp
    refine (Any.strconv_ParseInt_10_at64_ok layParse (strB l) (by rw [hz]; omega) _ (by rw [hs]; exact hp) w).mono ?_
    rintro e w' ⟨rfl, hb⟩
    exact ⟨_, _, rfl, bytes_below hb, by rw [if_neg h]⟩

theorem fault_name (l : List UInt8) (c : UInt8) : fault 0 l c = if 32 < l.length then 53 else 0 := rfl
theorem fault_op (l : List UInt8) (c : UInt8) : fault 2 l c = if isOp l = true then 0 else 50 := rfl
set_option maxRecDepth 100000 in
theorem faultOfName_any (l : List UInt8) (hlen : l.length ≤ 1000000) (c : UInt8) (w : World) : Calls Tryz.prog 98 #[.string (strB l)] w fun e w' => e = .returned (.int .i64 (fault 0 l c : Nat)) ∧ w' = w := by
  have hz : (strB l).size = l.length := rfl
  generalize hf : fault 0 l c = f
  replace hf := hide hf
  go_enter Tryz.func98, Tryz.ntmps98
  by_cases h : 32 < l.length
  · have : f = 53 := by rw [← hf.out, fault_name, if_pos h]
    subst this
    go_wp2
    all_goals go_ret
    all_goals exact ⟨rfl, rfl⟩
  · have : f = 0 := by rw [← hf.out, fault_name, if_neg h]
    subst this
    go_wp2
    all_goals go_ret
    all_goals exact ⟨rfl, rfl⟩
set_option maxRecDepth 100000 in
theorem faultOfOperator_any (l : List UInt8) (c : UInt8) (w : World) : Calls Tryz.prog 100 #[.string (strB l)] w fun e w' => e = .returned (.int .i64 (fault 2 l c : Nat)) ∧ w' = w := by
  generalize hf : fault 2 l c = f
  replace hf := hide hf
  go_enter Tryz.func100, Tryz.ntmps100
  go_wp2_with fail
  refine (isOperator_any l _).mono ?_
  rintro e w' ⟨rfl, rfl⟩
  by_cases h : isOp l = true
  · have : f = 0 := by rw [← hf.out, fault_op, if_pos h]
    subst this
    rw [h]
    go_wp2
    all_goals go_ret
    all_goals exact ⟨rfl, rfl⟩
  · have : f = 50 := by rw [← hf.out, fault_op, if_neg h]
    subst this
    rw [Bool.not_eq_true] at h
    rw [h]
    go_wp2
    all_goals go_ret
    all_goals exact ⟨rfl, rfl⟩
/-- A string's byte, as an operation reads it. -/
theorem str_at {l : List UInt8} {i : Nat} {c : UInt8} (h : l[i]? = some c) (w : World) : (Instr.index 9 (.string (strB l)) (.int .i64 i)).run Tryz.prog w = .ok (.int .u8 c.toNat) w := by
  have hi : i < l.length := by
    rcases Nat.lt_or_ge i l.length with h1 | h1
    · exact h1
    · rw [List.getElem?_eq_none h1] at h; cases h
  have hz : (strB l).size = l.length := rfl
  rw [run_index_string w 9 (strB l) .i64 i Tryz.underlying9, dif_pos ⟨by omega, by omega⟩]
  have e : (strB l)[(i : Int).toNat]'(by rw [hz]; omega) = c := by
    rw [List.getElem?_eq_getElem hi] at h
    have := Option.some.inj h
    simp only [Int.toNat_natCast]
    rw [← this]
    rfl
  rw [e]
set_option maxRecDepth 100000 in
/-- A string's cut. -/
theorem str_cut {l : List UInt8} {i j : Nat} (hij : i ≤ j) (hj : j ≤ l.length) (w : World) : (Instr.slice 9 (.string (strB l)) (some (.int .i64 i)) (some (.int .i64 j)) none).run Tryz.prog w = .ok (.string (strB ((l.drop i).take (j - i)))) w := by
  have hz : (strB l).size = l.length := rfl
  have h := run_slice_string (P := Tryz.prog) w 9 (strB l) .i64 .i64 i j Tryz.underlying9 (by omega) (by omega) (by omega)
  rw [h]
  congr 2
  apply ByteArray.ext
  apply Array.ext'
  simp [strB, ByteArray.extract, ByteArray.copySlice]
set_option maxRecDepth 100000 in
theorem faultOfNumber_any (l : List UInt8) (c : UInt8) (hne : l ≠ []) (hd : ∀ c ∈ l, digitB c.toNat = true) (hlen : l.length ≤ 1000000) (w : World) (hE : ErrR w) :
    Calls Tryz.prog 99 #[.string (strB l), .int .u8 c.toNat] w fun e w' => e = .returned (.int .i64 (faultN l c : Nat)) ∧ Below w.heap.size w w' := by
  have hP := hide (parseInt_any l hne hd hlen w hE)
  have hz : (strB l).size = l.length := rfl
  generalize hf : faultN l c = f
  replace hf := hide hf
  go_enter Tryz.func99, Tryz.ntmps99
  go_wp2_with fail
  refine hP.out.mono ?_
  rintro e w' ⟨n, v, rfl, hb, hv⟩
  replace hb := hide hb
  by_cases h : 9223372036854775807 < valL l
  · rw [if_pos h] at hv
    obtain ⟨tp, p, rfl⟩ := hv
    have : f = 53 := by rw [← hf.out, faultN, if_pos h]
    subst this
    go_wp2_with fail
    go_ret
    exact ⟨rfl, hb.out⟩
  · rw [if_neg h] at hv
    subst hv
    replace h := hide h
    go_wp2_with fail
    refine (isLetter_any _ _).mono ?_
    rintro e w2 ⟨rfl, rfl⟩
    obtain ⟨d, r, hl⟩ : ∃ d r, l = d :: r := by
      cases l with
      | nil => exact absurd rfl hne
      | cons d r => exact ⟨d, r, rfl⟩
    subst hl
    have hx : ∀ w, (Instr.index 9 (.string (strB (d :: r))) (.int .i64 0)).run Tryz.prog w = .ok (.int .u8 d.toNat) w := fun w => str_at (i := 0) rfl w
    by_cases hL : letterB c.toNat = true
    · have : f = 50 := by rw [← hf.out, faultN, if_neg h.out, if_pos (by rw [hL]; rfl)]
      subst this
      rw [hL]
      go_wp2_with fail
      go_ret
      exact ⟨rfl, hb.out⟩
    · rw [Bool.not_eq_true] at hL
      rw [hL]
      replace hf : f = if ((d == 48) && decide (1 < r.length + 1)) = true then 50 else 0 := by
        rw [← hf.out, faultN, if_neg h.out, hL]; rfl
      have h48 : (d == 48) = decide (d.toNat = 48) := by
        rw [Bool.eq_iff_iff, beq_iff_eq, decide_eq_true_iff]
        constructor
        · rintro rfl; rfl
        · intro h; exact UInt8.toNat_inj.1 h
      rw [h48] at hf
      by_cases h1 : d.toNat = 48
      · have hd1 : ((d.toNat : Int) == 48) = true := by rw [beq_iff_eq]; omega
        by_cases h2 : 1 < r.length + 1
        · rw [if_pos (by rw [Bool.and_eq_true, decide_eq_true_iff, decide_eq_true_iff]; exact ⟨h1, h2⟩)] at hf
          subst hf
          go_wp2_with fail
          go_ret
          exact ⟨rfl, hb.out⟩
        · rw [if_neg (by rw [Bool.and_eq_true, decide_eq_true_iff, decide_eq_true_iff]; exact fun h => h2 h.2)] at hf
          subst hf
          go_wp2_with fail
          go_ret
          exact ⟨rfl, hb.out⟩
      · have hd1 : ((d.toNat : Int) == 48) = false := by rw [beq_eq_false_iff_ne]; omega
        rw [if_neg (by rw [Bool.and_eq_true, decide_eq_true_iff, decide_eq_true_iff]; exact fun h => h1 h.1)] at hf
        subst hf
        go_wp2_with fail
        go_ret
        exact ⟨rfl, hb.out⟩
end Go.Proofs.YteplkhgaoaphhaaGreatDoor
/- A region that draws its order, and whose operations only read what was there and make new memory: what holds behind each operation, and is kept as memory grows, holds behind all of them, in whatever order they come. -/
namespace Go.Proofs.YteplkhgaoaphhaaGreatDoor
open Go Go.RowKit

/-- What an operation's slot holds. -/
def slotOf (ops : Array Oper) (T : Array Value) (j : Nat) : Value := ((((ops[j]?).bind (·.dst)).map fun d => T.getD d undef)).getD undef

abbrev Fact := Value → World → Prop
/-- A fact that is kept as memory grows. -/
def Kept (φ : Fact) : Prop := ∀ v w w', φ v w → Below w.heap.size w w' → φ v w'
theorem Kept.eq (c : Value) : Kept (fun v _ => v = c) := fun _ _ _ h _ => h

/-- The facts of the operations ahead of which an operation may not come. -/
def Deps (ops : Array Oper) (Φ : Nat → Fact) (T : Array Value) (w : World) : List Edge → Prop
  | [] => True
  | e :: r => (Region.binds .any e = true → Φ e.on (slotOf ops T e.on) w) ∧ Deps ops Φ T w r

/-- One operation does what its fact says, whatever has been done beside it. -/
def StepOk (P : Program) (ops : Array Oper) (Φ : Nat → Fact) (T0 : Array Value) (D : List Deferred) (w0 : World) (i : Nat) (o : Oper) : Prop :=
  ∀ (T : Array Value) (w : World) (Q : Exit → Act → World → Prop), Below w0.heap.size w0 w → T.size = T0.size → (∀ s, (ops.any fun o => o.dst == some s) = false → T.getD s undef = T0.getD s undef) →
    Deps ops Φ T w o.after.toList → Region.wanted o (yielded ops T) = true ∧ o.wp P ⟨T, D⟩ w (fun a' w' => ∃ v, a' = (⟨T, D⟩ : Act).put o.dst v ∧ Below w.heap.size w w' ∧ Φ i v w') Q

def StepsOk (P : Program) (ops : Array Oper) (Φ : Nat → Fact) (T0 : Array Value) (D : List Deferred) (w0 : World) : Nat → List Oper → Prop
  | _, [] => True
  | i, o :: r => StepOk P ops Φ T0 D w0 i o ∧ StepsOk P ops Φ T0 D w0 (i + 1) r
theorem StepsOk.get {P : Program} {ops : Array Oper} {Φ : Nat → Fact} {T0 : Array Value} {D : List Deferred} {w0 : World} : ∀ {k : Nat} {l : List Oper} {i : Nat} {o : Oper},
    StepsOk P ops Φ T0 D w0 k l → l[i]? = some o → StepOk P ops Φ T0 D w0 (k + i) o
  | k, [], i, o, _, h => by simp at h
  | k, x :: l, 0, o, h, hi => by
    have : x = o := by simpa using hi
    exact this ▸ h.1
  | k, x :: l, i + 1, o, h, hi => by
    have := StepsOk.get (i := i) h.2 (by simpa using hi)
    rwa [Nat.add_assoc, Nat.add_comm 1 i] at this

/-- Each operation writes a slot of its own, within the frame. -/
def dstsB (ops : Array Oper) (n : Nat) : Bool :=
  ops.all fun o => match o.dst with | some d => decide (d < n) | none => false
def apartB (ops : Array Oper) : Bool :=
  (List.range ops.size).all fun i => (List.range ops.size).all fun j => i == j || ((ops[i]?).bind (·.dst)) != ((ops[j]?).bind (·.dst))

/-- Edges lead back in the text. -/
def backB (ops : Array Oper) : Bool :=
  (List.range ops.size).all fun i => ((ops[i]?).map fun o => o.after.all fun e => decide (e.on < i)).getD false

structure Inv (ops : Array Oper) (Φ : Nat → Fact) (T0 : Array Value) (D : List Deferred) (w0 : World) (listed : Array Bool) (a : Act) (w : World) : Prop where
  below : Below w0.heap.size w0 w
  defers : a.defers = D
  size : a.tmps.size = T0.size
  lsize : listed.size = ops.size
  vars : ∀ s, (ops.any fun o => o.dst == some s) = false → a.tmps.getD s undef = T0.getD s undef
  facts : ∀ j, listed[j]? = some true → Φ j (slotOf ops a.tmps j) w

theorem deps_of {ops : Array Oper} {Φ : Nat → Fact} {T0 : Array Value} {D : List Deferred} {w0 : World} {listed : Array Bool} {a : Act} {w : World} (h : Inv ops Φ T0 D w0 listed a w) : ∀ (l : List Edge),
    (l.all fun e => !Region.binds .any e || listed.getD e.on false) = true → Deps ops Φ a.tmps w l
  | [], _ => trivial
  | e :: r, hl => by
    rw [List.all_cons, Bool.and_eq_true] at hl
    refine ⟨fun hb => h.facts _ ?_, deps_of h r hl.2⟩
    have h1 := hl.1
    rw [hb] at h1
    simp only [Bool.not_true, Bool.false_or] at h1
    rw [Array.getD_eq_getD_getElem?] at h1
    cases hx : listed[e.on]? with
    | none => rw [hx] at h1; simp at h1
    | some b => rw [hx] at h1; simpa using h1

theorem any_of_get {ops : Array Oper} {i : Nat} {o : Oper} {d : Tmp} (ho : ops[i]? = some o) (hd : o.dst = some d) : (ops.any fun o => o.dst == some d) = true := by
  rw [Array.any_eq_true']
  exact ⟨o, Array.mem_of_getElem? ho, by simp [hd]⟩

theorem wpAny_inv {P : Program} {ops : Array Oper} {Φ : Nat → Fact} {T0 : Array Value} {D : List Deferred} {w0 : World} {Q : Exit → Act → World → Prop}
    (hk : ∀ i, Kept (Φ i)) (hd : dstsB ops T0.size = true) (ha : apartB ops = true) (hbk : backB ops = true) (hs : StepsOk P ops Φ T0 D w0 0 ops.toList)
    (hQ : ∀ T w, Below w0.heap.size w0 w → T.size = T0.size → (∀ s, (ops.any fun o => o.dst == some s) = false → T.getD s undef = T0.getD s undef) → (∀ j, j < ops.size → Φ j (slotOf ops T j) w) → Q .normal ⟨T, D⟩ w) :
    ∀ (fuel : Nat) (listed : Array Bool) (a : Act) (w : World), (listed.toList.countP fun b => !b) ≤ fuel → Inv ops Φ T0 D w0 listed a w → wpAny P .any ops Q fuel listed a w := by
  have hend : ∀ (listed : Array Bool) (a : Act) (w : World), Inv ops Φ T0 D w0 listed a w → (∀ j, j < ops.size → listed[j]? = some true) → Q .normal a w := by
    intro listed a w h hall
    obtain ⟨T, D'⟩ := a
    have hD : D' = D := h.defers
    subst hD
    exact hQ T w h.below h.size h.vars fun j hj => h.facts j (hall j hj)
  -- an operation that is not listed and whose edges' ends are listed may come up: so where none may, all are listed
  intro fuel
  induction fuel with
  | zero =>
    intro listed a w hc h
    have hall : ∀ j, j < ops.size → listed[j]? = some true := by
      intro j hj
      have hj' : j < listed.size := by rw [h.lsize]; exact hj
      have h0 : (listed.toList.countP fun b => !b) = 0 := by omega
      rw [List.countP_eq_zero] at h0
      have := h0 listed[j] (by simp)
      rw [Array.getElem?_eq_getElem hj']
      simpa using this
    refine ⟨?_, hend _ _ _ h hall⟩
    unfold Region.ready
    rw [List.filter_eq_nil_iff]
    intro i hi
    rw [List.mem_range] at hi
    rw [Array.getD_eq_getD_getElem?, hall i hi]
    simp
  | succ fuel ih =>
    intro listed a w hc h
    have hstep : ∀ i ∈ Region.ready .any ops listed, wpOp P ops Q i (wpAny P .any ops Q fuel (listed.setIfInBounds i true)) a w := by
      intro i hi
      unfold Region.ready at hi
      rw [List.mem_filter, List.mem_range, Bool.and_eq_true] at hi
      obtain ⟨hin, hnl, hde⟩ := hi
      have hin' : i < listed.size := by rw [h.lsize]; exact hin
      have ho : ops[i]? = some ops[i] := Array.getElem?_eq_getElem hin
      rw [ho] at hde
      simp only [Option.map_some, Option.getD_some] at hde
      have hdeps := deps_of h ops[i].after.toList (by rw [← Array.all_toList] at hde; exact hde)
      have hstep := StepsOk.get (i := i) (o := ops[i]) hs (by simp [hin])
      rw [Nat.zero_add] at hstep
      obtain ⟨T, D'⟩ := a
      have hD : D' = D := h.defers
      subst hD
      obtain ⟨hw, hwp⟩ := hstep T w Q h.below h.size h.vars hdeps
      have hdst : ∃ d, ops[i].dst = some d ∧ d < T.size := by
        unfold dstsB at hd
        rw [Array.all_eq_true] at hd
        have := hd i hin
        cases hx : ops[i].dst with
        | none => rw [hx] at this; simp at this
        | some d => rw [hx] at this; exact ⟨d, rfl, by rw [h.size]; simpa using this⟩
      obtain ⟨d, hdd, hdT⟩ := hdst
      unfold wpOp
      simp only [ho, hw, if_true]
      refine .inl (Oper.wp_mono ?_ hwp)
      rintro a' w' ⟨v, rfl, hb, hφ⟩
      have hlt : listed.getD i true = false := by simpa using hnl
      refine ih _ _ _ ?_ ⟨?_, ?_, ?_, ?_, ?_, ?_⟩
      · have hcount : ((listed.setIfInBounds i true).toList.countP fun b => !b) + 1 = (listed.toList.countP fun b => !b) := by
          rw [Array.toList_setIfInBounds]
          have hil : i < listed.toList.length := by simpa using hin'
          have hf : listed.toList[i] = false := by
            rw [Array.getD_eq_getD_getElem?, Array.getElem?_eq_getElem hin'] at hlt
            simpa using hlt
          have h1 := List.countP_set (p := fun b => !b) (l := listed.toList) (i := i) (a := true) hil
          have hpos : 0 < (listed.toList.countP fun b => !b) := by
            rw [List.countP_pos_iff]
            exact ⟨false, by rw [← hf]; exact List.getElem_mem hil, rfl⟩
          rw [h1, hf]
          simp only [Bool.not_false, if_true, Bool.not_true, Bool.false_eq_true, if_false]
          omega
        omega
      · exact h.below.trans (hb.mono h.below.size)
      · show (Act.put _ _ _).defers = _
        rw [hdd]; rfl
      · show (Act.put _ _ _).tmps.size = _
        rw [hdd]
        show (T.setIfInBounds d v).size = _
        rw [Array.size_setIfInBounds]; exact h.size
      · rw [Array.size_setIfInBounds]; exact h.lsize
      · intro s hsn
        have hne : s ≠ d := by
          rintro rfl
          rw [any_of_get ho hdd] at hsn
          cases hsn
        rw [← h.vars s hsn, hdd]
        show (T.setIfInBounds d v).getD s undef = T.getD s undef
        rw [Array.getD_eq_getD_getElem?, Array.getD_eq_getD_getElem?, Array.getElem?_setIfInBounds_ne (Ne.symm hne)]
      · intro j hj
        by_cases hji : j = i
        · subst hji
          have hv : slotOf ops ((⟨T, D'⟩ : Act).put ops[j].dst v).tmps j = v := by
            unfold slotOf
            rw [ho]
            simp only [Option.bind_some, hdd, Option.map_some, Option.getD_some]
            show (T.setIfInBounds d v).getD d undef = v
            rw [Array.getD_eq_getD_getElem?, Array.getElem?_setIfInBounds_self_of_lt hdT]
            rfl
          rw [hv]; exact hφ
        · rw [Array.getElem?_setIfInBounds_ne (Ne.symm hji)] at hj
          have hold := h.facts j hj
          have hjn : j < ops.size := by
            rw [← h.lsize]
            rcases Nat.lt_or_ge j listed.size with hlt | hge
            · exact hlt
            · rw [Array.getElem?_eq_none hge] at hj; cases hj
          have hs' : slotOf ops ((⟨T, D'⟩ : Act).put ops[i].dst v).tmps j = slotOf ops T j := by
            unfold slotOf
            rw [Array.getElem?_eq_getElem hjn]
            cases hdj : ops[j].dst with
            | none => simp [hdj]
            | some dj =>
              have hne : d ≠ dj := by
                rintro rfl
                unfold apartB at ha
                rw [List.all_eq_true] at ha
                have h2 := ha i (List.mem_range.2 hin)
                rw [List.all_eq_true] at h2
                have h3 := h2 j (List.mem_range.2 hjn)
                rw [ho, Array.getElem?_eq_getElem hjn] at h3
                simp only [Option.bind_some, hdd, hdj, bne_self_eq_false, Bool.or_false, beq_iff_eq] at h3
                exact hji h3.symm
              simp only [Option.bind_some, hdj, Option.map_some, Option.getD_some, hdd]
              show (T.setIfInBounds d v).getD dj undef = T.getD dj undef
              rw [Array.getD_eq_getD_getElem?, Array.getD_eq_getD_getElem?, Array.getElem?_setIfInBounds_ne hne]
          rw [hs']
          exact hk j _ _ _ hold hb
    refine ⟨fun hr => ?_, hstep⟩
    refine hend _ _ _ h ?_
    intro j
    induction j using Nat.strongRecOn with
    | ind j ihj =>
      intro hj
      have hjl : j < listed.size := by rw [h.lsize]; exact hj
      cases hb : listed[j] with
      | true => rw [Array.getElem?_eq_getElem hjl, hb]
      | false =>
        exfalso
        have hmem : j ∈ Region.ready .any ops listed := by
          unfold Region.ready
          rw [List.mem_filter, List.mem_range, Bool.and_eq_true]
          refine ⟨hj, ?_, ?_⟩
          · rw [Array.getD_eq_getD_getElem?, Array.getElem?_eq_getElem hjl, hb]; rfl
          · rw [Array.getElem?_eq_getElem hj]
            simp only [Option.map_some, Option.getD_some]
            unfold backB at hbk
            rw [List.all_eq_true] at hbk
            have h1 := hbk j (List.mem_range.2 hj)
            rw [Array.getElem?_eq_getElem hj] at h1
            simp only [Option.map_some, Option.getD_some] at h1
            rw [Array.all_eq_true'] at h1 ⊢
            intro e he
            have h2 := h1 e he
            rw [decide_eq_true_iff] at h2
            rw [Array.getD_eq_getD_getElem?, ihj e.on h2 (by omega)]
            simp
        rw [hr] at hmem
        cases hmem

/-- The region's rule. -/
theorem wp_region_kept {P : Program} {ops : Array Oper} {id : Nat} {a0 : Act} {w0 : World} {Q : Exit → Act → World → Prop} (Φ : Nat → Fact)
    (hm : P.follows .mixedOrders = true) (hk : ∀ i, Kept (Φ i)) (hd : dstsB ops a0.tmps.size = true) (ha : apartB ops = true) (hbk : backB ops = true) (hs : StepsOk P ops Φ a0.tmps a0.defers w0 0 ops.toList)
    (hQ : ∀ T w, Below w0.heap.size w0 w → T.size = a0.tmps.size → (∀ s, (ops.any fun o => o.dst == some s) = false → T.getD s undef = a0.tmps.getD s undef) → (∀ j, j < ops.size → Φ j (slotOf ops T j) w) → Q .normal ⟨T, a0.defers⟩ w) :
    (Code.region id ops true).wp P Q a0 w0 := by
  refine wp_region_any hm (wpAny_inv hk hd ha hbk hs hQ _ _ _ _ ?_ ⟨?_, rfl, rfl, by simp, fun _ _ => rfl, fun j hj => ?_⟩)
  · rw [Array.toList_replicate]
    exact Nat.le_trans List.countP_le_length (by simp)
  · exact (Below.refl _ w0).drew
  · rw [Array.getElem?_replicate] at hj
    split at hj <;> simp at hj

theorem Deps.at {ops : Array Oper} {Φ : Nat → Fact} {T : Array Value} {w : World} (j : Nat) : ∀ {l : List Edge}, Deps ops Φ T w l → (l.any fun e => Region.binds .any e && e.on == j) = true → Φ j (slotOf ops T j) w
  | [], _, h => by simp at h
  | e :: r, h, hj => by
    rw [List.any_cons, Bool.or_eq_true, Bool.and_eq_true, beq_iff_eq] at hj
    rcases hj with ⟨hb, rfl⟩ | hj
    · exact h.1 hb
    · exact Deps.at j h.2 hj
theorem wanted_none {o : Oper} {y : Nat → Option Bool} (h : o.guard = none) : Region.wanted o y = true := by
  unfold Region.wanted; rw [h]
theorem wanted_some {ops : Array Oper} {T : Array Value} {o : Oper} {g : Nat} {b : Bool} (h : o.guard = some (g, b)) (hs : slotOf ops T g = .bool b) : Region.wanted o (yielded ops T) = true := by
  unfold Region.wanted; rw [h]
  have hy : yielded ops T g = some b := by
    unfold slotOf at hs
    unfold yielded
    cases hd : (ops[g]?).bind (·.dst) with
    | none => rw [hd] at hs; simp [undef] at hs
    | some d =>
      rw [hd] at hs
      simp only [Option.map_some, Option.getD_some] at hs
      rw [Array.getD_eq_getD_getElem?] at hs
      cases ht : T[d]? with
      | none => rw [ht] at hs; simp [undef] at hs
      | some v =>
        rw [ht] at hs
        simp only [Option.getD_some] at hs
        subst hs
        show (match T[d]? with | some (Value.bool b) => some b | _ => none) = some b
        rw [ht]
  show (yielded ops T g == some b) = true
  rw [hy]; simp
def factAt (L : List Fact) (i : Nat) : Fact := L.getD i fun _ _ => True
def KeptAll : List Fact → Prop
  | [] => True
  | φ :: r => Kept φ ∧ KeptAll r
theorem kept_at : ∀ {L : List Fact}, KeptAll L → ∀ i, Kept (factAt L i)
  | [], _, i => by intro v w w' h _; simp [factAt]
  | φ :: r, h, 0 => h.1
  | φ :: r, h, i + 1 => kept_at h.2 i

theorem kept_rows (ls : List (List UInt8)) : Kept (fun v w => RowsV w w.heap.size v ls) := fun _ _ _ h hb => (h.below hb).more hb.size
theorem kept_strs (ss : List ByteArray) : Kept (fun v w => StrsV w w.heap.size v ss) := fun _ _ _ h hb => (h.below hb).more hb.size
end Go.Proofs.YteplkhgaoaphhaaGreatDoor

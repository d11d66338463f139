/- Walks of the disk: what was written becomes durable. -/
import Derived.Test.YtimblkkojcbipaaDoorReplace
namespace Go.Proofs.YtimblkkojcbipaaDoor
open Go Go.RowKit
section
variable {w : World} {sb db mb cap : Nat} {vs : Array Value} {g : Nat → Option Value} {R : Nat → Prop} {D : DS}
/-- Nothing waits any more. -/
theorem forget_is {v : Value} (hh : w.heap[sb]? = some (.cells #[.int .i64 D.size, .slice (some ⟨db, 0, none⟩) D.n cap, v, .bool D.dead, .bool D.sched, .int .i64 D.left] 49)) :
    Calls Tryd.prog 62 #[.pointer (some ⟨sb, 0, none⟩)] w fun e w' => e = .returned (.tuple #[]) ∧ w'.heap.size = w.heap.size + 1 ∧ Upd (fun k => k = sb) w w' ∧ w'.heap[w.heap.size]? = some (.map #[] 0) ∧
      w'.heap[sb]? = some (.cells #[.int .i64 D.size, .slice (some ⟨db, 0, none⟩) D.n cap, .map (some w.heap.size), .bool D.dead, .bool D.sched, .int .i64 D.left] 49) := by
  have hb := (Array.getElem?_eq_some_iff.1 hh).1
  have c2 : w.cell? ⟨sb, 2, none⟩ = some v := by rw [cell_at hh]; rfl
  have f2 := frozen_at hh 2
  have hmm := @run_makeMap Tryd.prog
  replace hh := hide hh
  go_enter Tryd.func62, Tryd.ntmps62
  go_wp2_with fail
  go_end0
  have e : (w.setCell ⟨sb, 2, none⟩ (.map (some w.heap.size))).heap.size = w.heap.size := by simp [World.setCell]
  refine ⟨rfl, by simp [World.setCell], (Upd.set (F := fun k => k = sb) w (a := ⟨sb, 2, none⟩) rfl _).then (.alloc _ _ _), ?_, ?_⟩
  · have := heap_new (w.setCell ⟨sb, 2, none⟩ (.map (some w.heap.size))) (.map #[] 0)
    rwa [e] at this
  · refine heap_old ?_ _
    rw [heap_set hh.out]; simp

theorem MapV.empty {w : World} {mb : Nat} (N : Nat) (h : w.heap[mb]? = some (.map #[] 0)) : MapV w mb N (fun _ => none) := by
  have hc : cnt (fun _ => none) N = 0 := by simp [cnt]
  refine ⟨.map [], ?_, by rw [hc]; rfl, fun kl h => (by simp [Maps.has] at h), fun i hi => ⟨rfl, fun zd => rfl⟩⟩
  obtain ⟨es, clock, h1, h2, h3, h4⟩ := World.ownsMap_made w Tryd.prog 3 heldE
  rw [heap_new] at h1
  injection h1 with h1
  injection h1 with e1 e2
  subst e1 e2
  exact ⟨_, _, h, h2, Nat.zero_le _, h4⟩
theorem grownBy_set (w : World) (b o : Nat) (u : Value) : w.grownBy (w.setCell ⟨b, o, none⟩ u) (some b) :=
  ⟨rfl, rfl, rfl, by simp [World.setCell], fun k _ hn => Below.heap_setCell _ _ _ _ fun e => hn (by rw [e])⟩
/-- The array while it is being settled. -/
def Half (w : World) (db n : Nat) (vs : Array Value) (g : Nat → Option Value) (left : Lit → Bool) : Prop :=
  ∃ us : Array Value, w.heap[db]? = some (.cells us 34) ∧ us.size = n ∧ ∀ i, i < n → us[i]? = if (g i).isSome = true ∧ left (kI i) = false then g i else vs[i]?

set_option maxRecDepth 100000 in
theorem settle_any (h : DiskAt w sb db mb cap vs g R D) : Calls Tryd.prog 41 #[.pointer (some ⟨sb, 0, none⟩)] w fun e w' => e = .returned (.tuple #[]) ∧
    ∃ mb' vs' g', DiskAt w' sb db mb' cap vs' g' R { D with dur := D.last, wr := fun _ => none } ∧ Mv w (Foot sb db mb R) w' (Foot sb db mb' R) := by
  have c2 := h.c2
  have hn := h.n1
  have hsz := h.len
  have harr := h.arr
  have hhead := h.head
  obtain ⟨DM, m1, m2, m3, m4⟩ := h.map
  have hmb := m1.lt
  have hsb := (Array.getElem?_eq_some_iff.1 h.head).1
  have hdb := (Array.getElem?_eq_some_iff.1 h.arr).1
  have hne := h.ne.2.2.2
  replace h := hide h
  replace m2 := hide m2
  replace m3 := hide m3
  replace m4 := hide m4
  replace harr := hide harr
  replace hhead := hide hhead
  replace hne := hide hne
  go_enter Tryd.func41, Tryd.ntmps41
  go_wp2_with (at_range; refine wpList_range_own _ rfl _ 43 rfl 3 34 int_key Tryd.underlying43 heldE mb _ DM rfl m1 ?_; intro w0 hrg0 hg0 hs0)
  go_frame
  go_loopw [2] (fun _ wr => ∃ (left : Lit → Bool) (cn : Nat), wr.ranges Tryd.prog 3 heldE mb w.heap.size (cnt g D.n) DM left cn ∧ (∀ kl, left kl = true → Maps.has DM kl = true) ∧ Half wr db D.n vs g left ∧ Upd (fun k => k = db) w wr) (fun _ wr => wr.rangeLeft mb w.heap.size)
  case atStart =>
    refine ⟨_, _, hrg0, fun _ h => h, ⟨vs, ?_, hsz, fun i hi => ?_⟩, Upd.mono (F := fun _ => False) (.grown hg0 fun k hk => by cases hk) fun _ _ h => h.elim⟩
    · exact (Upd.grown (F := fun _ => False) hg0 fun k hk => by cases hk).heap harr.out id
    · rw [if_neg]
      rw [(m4.out i hi).1]
      rintro ⟨h1, h2⟩
      rw [h1] at h2; cases h2
  case round =>
    obtain ⟨left, cn, hrg, hlf, ⟨us, hus, hsu, hiu⟩, hU⟩ := hrel
    have hhd := hU.heap hhead.out hne.out.1
    have d1 : wr.cell? ⟨sb, 1, none⟩ = some (.slice (some ⟨db, 0, none⟩) D.n cap) := by rw [cell_at hhd]; rfl
    replace hlf := hide hlf
    replace hiu := hide hiu
    replace hus := hide hus
    replace hU := hide hU
    replace hhd := hide hhd
    clear hs0 hg0 hrg0
    go_wp2_with (at_next; refine wpList_next_ranges _ rfl _ rfl 3 int_key heldE (Value.int .i64) (fun x : Option Addr × Nat × Nat => Value.slice x.1 x.2.1 x.2.2) (fun key kl hkey => by obtain ⟨x, rfl, _⟩ := Maps.keyOf_int_inv Tryd.underlying3 hkey; exact ⟨x, rfl⟩) (fun v y hv => (heldE_inv hv).1) mb w.heap.size (cnt g D.n) _ _ _ rfl hrg ?_ ?_)
    · intro hc0 hl0
      go_wp2_with fail
      refine (forget_is hhd.out).mono ?_
      rintro e w2 ⟨rfl, hz2, hU2, hm2, hh2⟩
      replace hU2 := hide hU2
      replace hm2 := hide hm2
      replace hh2 := hide hh2
      replace hz2 := hide hz2
      go_wp2_with fail
      go_end0
      have hD := h.out
      have hnn := hne.out
      have hN := hD.ne
      have hws := hU.out.size
      have hr : ∀ {v l}, ArgV w R v (bv l) → ArgV w2 R v (bv l) := fun h => (h.upd hU.out fun k hk e => hN.2.1 (e ▸ hk)).upd hU2.out fun k hk e => hN.1 (e ▸ hk)
      refine ⟨rfl, wr.heap.size, us, fun _ => none, ?_, ?_, fun k hk => ?_⟩
      · exact {
          head := hh2.out
          arr := hU2.out.heap hus.out (by omega)
          len := hsu
          cap := hD.cap
          map := MapV.empty _ hm2.out
          dur := fun i hi => by
            have hi1 := hiu.out i hi
            obtain ⟨a1, v, a2, a3⟩ := hD.dur i hi
            have a4 := hD.wr i hi
            show (DS.last D i).length = D.size ∧ ∃ v, us[i]? = some v ∧ ArgV w2 R v (bv (DS.last D i))
            unfold DS.last
            rw [hi1]
            cases hg : g i with
            | none =>
              rw [hg] at a4
              cases hw : D.wr i with
              | none => exact ⟨a1, v, by simpa using a2, hr a3⟩
              | some l => rw [hw] at a4; exact a4.elim
            | some u =>
              rw [hg] at a4
              cases hw : D.wr i with
              | none => rw [hw] at a4; exact a4.elim
              | some l => rw [hw] at a4; exact ⟨a4.1, u, by simp [hl0], hr a4.2⟩
          wr := fun _ _ => trivial
          ne := ⟨hN.1, hN.2.1, fun hk => by have := (hD.old _ hk).lt; omega, hnn.1, by omega, by omega⟩
          old := fun k hk => ((hD.old k hk).upd hU.out fun e => hN.2.1 (e ▸ hk)).upd hU2.out fun e => hN.1 (e ▸ hk)
          n1 := hD.n1
          s1 := hD.s1
          l1 := hD.l1 }
      · exact (hU.out.mono fun k _ e => Or.inr (Or.inl e)).then (hU2.out.mono fun k _ e => Or.inl e)
      · rcases hk with e | e | e | e
        · exact .inl (.inl e)
        · exact .inl (.inr (.inl e))
        · exact .inr (by omega)
        · exact .inl (.inr (.inr (.inr e)))
    · intro x A n c kl yd yp w1 cnt1 hkey hlk hv hat hrg1 hlt hg1 hs1 hen
      obtain ⟨i, hi, rfl⟩ := m3.out _ (hlf.out _ hlk)
      obtain ⟨x', ex, ek, hwx⟩ := Maps.keyOf_int_inv Tryd.underlying3 hkey
      injection ex with _ ex
      subst ex
      injection ek with _ ek
      subst ek
      have hgi : g i = some (.slice A n c) := by
        have h2 := (m4.out i hi).2 .nil
        rw [hat] at h2
        have h3 := (heldE_inv hv).2
        injection h3 with h3 _
        rw [h3] at h2
        cases hg : g i with
        | none => rw [hg] at h2; cases h2
        | some v => rw [hg] at h2; injection h2 with h2; rw [h2]
      have hUr : Upd (fun k => k = w.heap.size) wr w1 := .grown hg1 fun k hk => (Option.some.inj hk).symm
      have hus1 := hUr.heap hus.out (by omega)
      have hhd1 := hUr.heap hhd.out (by omega)
      have d1' : w1.cell? ⟨sb, 1, none⟩ = some (.slice (some ⟨db, 0, none⟩) D.n cap) := by rw [cell_at hhd1]; rfl
      have hi2 : i < us.size := by omega
      have d2 : w1.cell? ⟨db, i, none⟩ = some us[i] := by rw [cell_at hus1]; simp [hi2]
      have d3 := frozen_at hus1 i
      have hrgl := hide hrg.left_eq
      clear d1 hs1 hrg hkey hv hat hwx
      replace hg1 := hide hg1
      replace hrg1 := hide hrg1
      replace hlt := hide hlt
      replace hUr := hide hUr
      replace hus1 := hide hus1
      replace hhd1 := hide hhd1
      replace hgi := hide hgi
      go_wp2_with fail
      go_roundw
      case rel =>
        refine ⟨_, cnt1, hrg1.out.kept (grownBy_set _ _ _ _) ?_ ?_, ?_, ⟨_, heap_set hus1.out _ _, by simpa using hsu, fun j hj => ?_⟩, (hU.out.trans hUr.out fun k hk e => (by omega)).then (.set (F := fun k => k = db) _ (a := ⟨db, i, none⟩) rfl _)⟩
        · have := hne.out; intro e; injection e with e; omega
        · intro e; injection e with e; omega
        · intro kl hkl
          simp only [Bool.and_eq_true] at hkl
          exact hlf.out kl hkl.1
        · by_cases e : j = i
          · subst e
            have hs : (kI j).sameKey (kI j) = true := by simp [kI, Lit.sameKey]
            rw [hgi.out]
            simp [hs, hi2]
          · have hs : (kI j).sameKey (kI i) = false := Maps.sameKey_ne (kI_ne e)
            have h1 := hiu.out j hj
            have h2 : (us.setIfInBounds i (.slice A n c))[j]? = us[j]? := by simp [show ¬ i = j from fun h => e h.symm]
            rw [h2, h1]
            simp [hs]
      case measure =>
        have hk2 := hrg1.out.kept (grownBy_set w1 db i (.slice A n c)) (fun e => by have := hne.out; injection e with e; omega) (fun e => by injection e with e; omega)
        rw [hk2.left_eq, hrgl.out]; exact hlt.out
end
end Go.Proofs.YtimblkkojcbipaaDoor

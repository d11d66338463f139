/- What the reader's methods come to: a value, or that it has failed. -/
import Derived.Test.YtajpgkedlajjdaaReadMore
namespace Go.Proofs.Ytajpgkedlajjdaa
open Go.RowKit

/-- The reader at p: what is left, or that a call has failed. -/
def RdS (w : World) (D p : Nat) : Option (List UInt8) → Prop
  | some l => Rd w D p l false
  | none => ∃ l, Rd w D p l true
theorem RdS.upd {w w' : World} {D p : Nat} {F : Nat → Prop} : ∀ {st : Option (List UInt8)}, RdS w D p st → Upd F w w' → ¬ F p → (∀ k, k < D → ¬ F k) → RdS w' D p st
  | some _, h, hu, hp, hD => Rd.upd h hu hp hD
  | none, ⟨l, h⟩, hu, hp, hD => ⟨l, h.upd hu hp hD⟩
theorem RdS.lt {w : World} {D p : Nat} : ∀ {st : Option (List UInt8)}, RdS w D p st → p < w.heap.size
  | some _, h => Rd.lt h
  | none, ⟨_, h⟩ => h.lt
/-- What a method tells, and what it leaves. -/
def read {α : Type} (z : α) (d : List UInt8 → Option (α × List UInt8)) (st : Option (List UInt8)) : α × Option (List UInt8) :=
  match st.bind d with
  | some (a, r) => (a, some r)
  | none => (z, none)
def Met {α : Type} (D p : Nat) (w : World) (f : α → Value) (x : α × Option (List UInt8)) (e : Ending) (w' : World) : Prop :=
  e = .returned (f x.1) ∧ Upd (At p) w w' ∧ RdS w' D p x.2
def dnum0 : List UInt8 → Option (Nat × List UInt8) := dnum 0 0
theorem num0_any (D p : Nat) (l : List UInt8) (w : World) (hR : Rd w D p l false) :
    Calls Try.prog 46 #[.pointer (some ⟨p, 0, none⟩)] w fun e w' => Told D p w u64v (dnum0 l) e w' := num_any D p l w hR

theorem caught_u64 (g p : Nat) (u : TypeId) (pv : Value) (older : List PanicEntry) (b : Bool) (w : World) (hc : w.cell? ⟨g, 0, none⟩ = some (.pointer (some ⟨p, 0, none⟩))) (hb : w.cell? ⟨p, 1, none⟩ = some (.bool b)) (hz : w.frozen? ⟨p, 1, none⟩ = false) :
    CallsD Try.prog 64 #[.pointer (some ⟨g, 0, none⟩)] (.panicking ({ v := .iface u pv, recovered := false } :: older)) w fun e u' w' =>
      e = .returned (.tuple #[]) ∧ u' = .panicking ({ v := .iface u pv, recovered := true } :: older) ∧ w' = w.setCell ⟨p, 1, none⟩ (.bool true) := by
  refine callsD_of_wpS Try.func64 rfl fun c₀ cs hu => ?_
  apply wpS_seq
  apply wpS_region
  simp [wpOpsS, go_sem, recoverD, hu, Try.ntmps64, Exit.thenS]
  refine wpS_cond (t := true) (by simp [Act.eval, Array.replicate]) ?_
  simp only [if_true]
  apply wpS_region
  simp [wpOpsS, go_sem, hc, hb, hz, bodyPostS, results, Try.results64]

theorem idle_u64 (g : Nat) (w : World) :
    CallsD Try.prog 64 #[.pointer (some ⟨g, 0, none⟩)] .returning w fun e u' w' => e = .returned (.tuple #[]) ∧ u' = .returning ∧ w' = w := by
  refine callsD_of_wpS Try.func64 rfl fun c₀ cs hu => ?_
  apply wpS_seq
  apply wpS_region
  simp [wpOpsS, go_sem, recoverD, hu, Try.ntmps64, Exit.thenS]
  refine wpS_cond (t := false) (by simp [Act.eval, Array.replicate]) ?_
  simp only [Bool.false_eq_true, if_false]
  refine wpS_of_wp (wp_skip ?_)
  cases c₀
  simp_all [bodyPostS, results, Try.results64]

set_option maxRecDepth 100000 in
theorem attempt_u64 (D p : Nat) (st : Option (List UInt8)) (w : World) (hR : RdS w D p st) :
    Calls Try.prog 45 #[.pointer (some ⟨p, 0, none⟩), .func (.func 46) #[.pointer (some ⟨p, 0, none⟩)] #[]] w fun e w' => Met D p w u64v (read 0 dnum0 st) e w' := by
  have hmf : ∀ (fn : Fn) (first cap : Array Value) (w : World), (Instr.makeFunc fn first cap).run Try.prog w = .ok (.func fn first cap) w := fun _ _ _ _ => rfl
  cases st with
  | none =>
    obtain ⟨l, hl⟩ := hR
    have hh := hl.alloc (.cells #[.pointer (some ⟨p, 0, none⟩)] 47)
    obtain ⟨hD, v, hh2, -⟩ := hh
    have hc1 := cell_at hh2 1
    replace hc1 : (w.alloc (.cells #[.pointer (some ⟨p, 0, none⟩)] 47)).cell? ⟨p, 1, none⟩ = some (.bool true) := hc1
    replace hh2 := hide hh2
    replace hl := hide hl
    go_enter_defers Try.func45, Try.ntmps45
    go_wp2_with fail
    refine ⟨_, results_tmp rfl _ _ _, ?_⟩
    exact ⟨rfl, .alloc _ _ _, l, hl.out.alloc _⟩
  | some l =>
    have hlt := hR.lt
    have hh := hR.alloc (.cells #[.pointer (some ⟨p, 0, none⟩)] 47)
    have hN := num0_any D p l _ hh
    obtain ⟨hD, v, hh2, -⟩ := hh
    have hc1 : (w.alloc (.cells #[.pointer (some ⟨p, 0, none⟩)] 47)).cell? ⟨p, 1, none⟩ = some (.bool false) := cell_at hh2 1
    have hbox : (w.alloc (.cells #[.pointer (some ⟨p, 0, none⟩)] 47)).cell? ⟨w.heap.size, 0, none⟩ = some (.pointer (some ⟨p, 0, none⟩)) := by rw [cell_at (heap_new _ _)]; rfl
    have hU0 := hide (Upd.alloc (At p) w (.cells #[.pointer (some ⟨p, 0, none⟩)] 47))
    replace hbox := hide hbox
    replace hh2 := hide hh2
    replace hR := hide hR
    cases hd : dnum0 l with
    | none =>
      rw [hd] at hN
      have hr : read 0 dnum0 (some l) = (0, none) := by simp [read, hd]
      rw [hr]
      clear hd hr
      go_enter_defers Try.func45, Try.ntmps45
      go_wp2_with fail
      refine hN.mono ?_
      rintro e w2 ⟨hU, ⟨pv, rfl⟩, r, hR2⟩
      go_wp2_with fail
      refine leaves_cons (f := 64) (args := #[.pointer (some ⟨w.heap.size, 0, none⟩)]) (by simp) (by simp [go_sem]) ?_
      have hR3 := hR2
      obtain ⟨-, v2, hh3, -⟩ := hR3
      refine (caught_u64 w.heap.size p _ pv [] false _ ?_ ?_ ?_).mono ?_
      · exact hU.cell hbox.out (fun e => by have : w.heap.size = p := e
                                            omega)
      · rw [cell_at hh3]; rfl
      · exact frozen_at hh3 1
      rintro e u' w3 ⟨rfl, rfl, rfl⟩
      refine ⟨_, results_tmp rfl _ _ _, ?_⟩
      exact ⟨rfl, (hU0.out.then hU).then (Upd.set _ (F := At p) (a := ⟨p, 1, none⟩) rfl _), r, hR2.fail⟩
    | some x =>
      obtain ⟨a, r⟩ := x
      rw [hd] at hN
      have hr : read 0 dnum0 (some l) = (a, some r) := by simp [read, hd]
      rw [hr]
      clear hd hr
      go_enter_defers Try.func45, Try.ntmps45
      go_wp2_with fail
      refine hN.mono ?_
      rintro e w2 ⟨hU, rfl, hR2⟩
      go_wp2_with fail
      refine leaves_cons (f := 64) (args := #[.pointer (some ⟨w.heap.size, 0, none⟩)]) (by simp) (by simp [go_sem]) ?_
      refine (idle_u64 w.heap.size _).mono ?_
      rintro e u' w3 ⟨rfl, rfl, rfl⟩
      refine ⟨_, results_tmp rfl _ _ _, ?_⟩
      exact ⟨rfl, hU0.out.then hU, hR2⟩

set_option maxRecDepth 100000 in
theorem rNum_any (D p : Nat) (st : Option (List UInt8)) (w : World) (hR : RdS w D p st) :
    Calls Try.prog 22 #[.pointer (some ⟨p, 0, none⟩)] w fun e w' => Met D p w u64v (read 0 dnum0 st) e w' := by
  have hmf : ∀ (fn : Fn) (first cap : Array Value) (w : World), (Instr.makeFunc fn first cap).run Try.prog w = .ok (.func fn first cap) w := fun _ _ _ _ => rfl
  go_enter Try.func22, Try.ntmps22
  go_wp2_with fail
  refine (attempt_u64 D p st w hR).mono ?_
  rintro e w2 ⟨rfl, hU, hR2⟩
  go_wp2_with fail
  go_ret
  exact ⟨rfl, hU, hR2⟩

theorem caught_i64 (g p : Nat) (u : TypeId) (pv : Value) (older : List PanicEntry) (b : Bool) (w : World) (hc : w.cell? ⟨g, 0, none⟩ = some (.pointer (some ⟨p, 0, none⟩))) (hb : w.cell? ⟨p, 1, none⟩ = some (.bool b)) (hz : w.frozen? ⟨p, 1, none⟩ = false) :
    CallsD Try.prog 67 #[.pointer (some ⟨g, 0, none⟩)] (.panicking ({ v := .iface u pv, recovered := false } :: older)) w fun e u' w' =>
      e = .returned (.tuple #[]) ∧ u' = .panicking ({ v := .iface u pv, recovered := true } :: older) ∧ w' = w.setCell ⟨p, 1, none⟩ (.bool true) := by
  refine callsD_of_wpS Try.func67 rfl fun c₀ cs hu => ?_
  apply wpS_seq
  apply wpS_region
  simp [wpOpsS, go_sem, recoverD, hu, Try.ntmps67, Exit.thenS]
  refine wpS_cond (t := true) (by simp [Act.eval, Array.replicate]) ?_
  simp only [if_true]
  apply wpS_region
  simp [wpOpsS, go_sem, hc, hb, hz, bodyPostS, results, Try.results67]

theorem idle_i64 (g : Nat) (w : World) :
    CallsD Try.prog 67 #[.pointer (some ⟨g, 0, none⟩)] .returning w fun e u' w' => e = .returned (.tuple #[]) ∧ u' = .returning ∧ w' = w := by
  refine callsD_of_wpS Try.func67 rfl fun c₀ cs hu => ?_
  apply wpS_seq
  apply wpS_region
  simp [wpOpsS, go_sem, recoverD, hu, Try.ntmps67, Exit.thenS]
  refine wpS_cond (t := false) (by simp [Act.eval, Array.replicate]) ?_
  simp only [Bool.false_eq_true, if_false]
  refine wpS_of_wp (wp_skip ?_)
  cases c₀
  simp_all [bodyPostS, results, Try.results67]

set_option maxRecDepth 100000 in
theorem attempt_i64 (D p : Nat) (st : Option (List UInt8)) (w : World) (hR : RdS w D p st) :
    Calls Try.prog 47 #[.pointer (some ⟨p, 0, none⟩), .func (.func 48) #[.pointer (some ⟨p, 0, none⟩)] #[]] w fun e w' => Met D p w i64v (read 0 dint st) e w' := by
  have hmf : ∀ (fn : Fn) (first cap : Array Value) (w : World), (Instr.makeFunc fn first cap).run Try.prog w = .ok (.func fn first cap) w := fun _ _ _ _ => rfl
  cases st with
  | none =>
    obtain ⟨l, hl⟩ := hR
    have hh := hl.alloc (.cells #[.pointer (some ⟨p, 0, none⟩)] 47)
    obtain ⟨hD, v, hh2, -⟩ := hh
    have hc1 := cell_at hh2 1
    replace hc1 : (w.alloc (.cells #[.pointer (some ⟨p, 0, none⟩)] 47)).cell? ⟨p, 1, none⟩ = some (.bool true) := hc1
    replace hh2 := hide hh2
    replace hl := hide hl
    go_enter_defers Try.func47, Try.ntmps47
    go_wp2_with fail
    refine ⟨_, results_tmp rfl _ _ _, ?_⟩
    exact ⟨rfl, .alloc _ _ _, l, hl.out.alloc _⟩
  | some l =>
    have hlt := hR.lt
    have hh := hR.alloc (.cells #[.pointer (some ⟨p, 0, none⟩)] 47)
    have hN := signed_any D p l _ hh
    obtain ⟨hD, v, hh2, -⟩ := hh
    have hc1 : (w.alloc (.cells #[.pointer (some ⟨p, 0, none⟩)] 47)).cell? ⟨p, 1, none⟩ = some (.bool false) := cell_at hh2 1
    have hbox : (w.alloc (.cells #[.pointer (some ⟨p, 0, none⟩)] 47)).cell? ⟨w.heap.size, 0, none⟩ = some (.pointer (some ⟨p, 0, none⟩)) := by rw [cell_at (heap_new _ _)]; rfl
    have hU0 := hide (Upd.alloc (At p) w (.cells #[.pointer (some ⟨p, 0, none⟩)] 47))
    replace hbox := hide hbox
    replace hh2 := hide hh2
    replace hR := hide hR
    cases hd : dint l with
    | none =>
      rw [hd] at hN
      have hr : read 0 dint (some l) = (0, none) := by simp [read, hd]
      rw [hr]
      clear hd hr
      go_enter_defers Try.func47, Try.ntmps47
      go_wp2_with fail
      refine hN.mono ?_
      rintro e w2 ⟨hU, ⟨pv, rfl⟩, r, hR2⟩
      go_wp2_with fail
      refine leaves_cons (f := 67) (args := #[.pointer (some ⟨w.heap.size, 0, none⟩)]) (by simp) (by simp [go_sem]) ?_
      have hR3 := hR2
      obtain ⟨-, v2, hh3, -⟩ := hR3
      refine (caught_i64 w.heap.size p _ pv [] false _ ?_ ?_ ?_).mono ?_
      · exact hU.cell hbox.out (fun e => by have : w.heap.size = p := e
                                            omega)
      · rw [cell_at hh3]; rfl
      · exact frozen_at hh3 1
      rintro e u' w3 ⟨rfl, rfl, rfl⟩
      refine ⟨_, results_tmp rfl _ _ _, ?_⟩
      exact ⟨rfl, (hU0.out.then hU).then (Upd.set _ (F := At p) (a := ⟨p, 1, none⟩) rfl _), r, hR2.fail⟩
    | some x =>
      obtain ⟨a, r⟩ := x
      rw [hd] at hN
      have hr : read 0 dint (some l) = (a, some r) := by simp [read, hd]
      rw [hr]
      clear hd hr
      go_enter_defers Try.func47, Try.ntmps47
      go_wp2_with fail
      refine hN.mono ?_
      rintro e w2 ⟨hU, rfl, hR2⟩
      go_wp2_with fail
      refine leaves_cons (f := 67) (args := #[.pointer (some ⟨w.heap.size, 0, none⟩)]) (by simp) (by simp [go_sem]) ?_
      refine (idle_i64 w.heap.size _).mono ?_
      rintro e u' w3 ⟨rfl, rfl, rfl⟩
      refine ⟨_, results_tmp rfl _ _ _, ?_⟩
      exact ⟨rfl, hU0.out.then hU, hR2⟩

set_option maxRecDepth 100000 in
theorem rInt_any (D p : Nat) (st : Option (List UInt8)) (w : World) (hR : RdS w D p st) :
    Calls Try.prog 24 #[.pointer (some ⟨p, 0, none⟩)] w fun e w' => Met D p w i64v (read 0 dint st) e w' := by
  have hmf : ∀ (fn : Fn) (first cap : Array Value) (w : World), (Instr.makeFunc fn first cap).run Try.prog w = .ok (.func fn first cap) w := fun _ _ _ _ => rfl
  go_enter Try.func24, Try.ntmps24
  go_wp2_with fail
  refine (attempt_i64 D p st w hR).mono ?_
  rintro e w2 ⟨rfl, hU, hR2⟩
  go_wp2_with fail
  go_ret
  exact ⟨rfl, hU, hR2⟩

theorem caught_str (g p : Nat) (u : TypeId) (pv : Value) (older : List PanicEntry) (b : Bool) (w : World) (hc : w.cell? ⟨g, 0, none⟩ = some (.pointer (some ⟨p, 0, none⟩))) (hb : w.cell? ⟨p, 1, none⟩ = some (.bool b)) (hz : w.frozen? ⟨p, 1, none⟩ = false) :
    CallsD Try.prog 68 #[.pointer (some ⟨g, 0, none⟩)] (.panicking ({ v := .iface u pv, recovered := false } :: older)) w fun e u' w' =>
      e = .returned (.tuple #[]) ∧ u' = .panicking ({ v := .iface u pv, recovered := true } :: older) ∧ w' = w.setCell ⟨p, 1, none⟩ (.bool true) := by
  refine callsD_of_wpS Try.func68 rfl fun c₀ cs hu => ?_
  apply wpS_seq
  apply wpS_region
  simp [wpOpsS, go_sem, recoverD, hu, Try.ntmps68, Exit.thenS]
  refine wpS_cond (t := true) (by simp [Act.eval, Array.replicate]) ?_
  simp only [if_true]
  apply wpS_region
  simp [wpOpsS, go_sem, hc, hb, hz, bodyPostS, results, Try.results68]

theorem idle_str (g : Nat) (w : World) :
    CallsD Try.prog 68 #[.pointer (some ⟨g, 0, none⟩)] .returning w fun e u' w' => e = .returned (.tuple #[]) ∧ u' = .returning ∧ w' = w := by
  refine callsD_of_wpS Try.func68 rfl fun c₀ cs hu => ?_
  apply wpS_seq
  apply wpS_region
  simp [wpOpsS, go_sem, recoverD, hu, Try.ntmps68, Exit.thenS]
  refine wpS_cond (t := false) (by simp [Act.eval, Array.replicate]) ?_
  simp only [Bool.false_eq_true, if_false]
  refine wpS_of_wp (wp_skip ?_)
  cases c₀
  simp_all [bodyPostS, results, Try.results68]

set_option maxRecDepth 100000 in
theorem attempt_str (D p : Nat) (st : Option (List UInt8)) (w : World) (hR : RdS w D p st) :
    Calls Try.prog 50 #[.pointer (some ⟨p, 0, none⟩), .func (.func 51) #[.pointer (some ⟨p, 0, none⟩)] #[]] w fun e w' => Met D p w Value.string (read ByteArray.empty dtext st) e w' := by
  have hmf : ∀ (fn : Fn) (first cap : Array Value) (w : World), (Instr.makeFunc fn first cap).run Try.prog w = .ok (.func fn first cap) w := fun _ _ _ _ => rfl
  cases st with
  | none =>
    obtain ⟨l, hl⟩ := hR
    have hh := hl.alloc (.cells #[.pointer (some ⟨p, 0, none⟩)] 47)
    obtain ⟨hD, v, hh2, -⟩ := hh
    have hc1 := cell_at hh2 1
    replace hc1 : (w.alloc (.cells #[.pointer (some ⟨p, 0, none⟩)] 47)).cell? ⟨p, 1, none⟩ = some (.bool true) := hc1
    replace hh2 := hide hh2
    replace hl := hide hl
    go_enter_defers Try.func50, Try.ntmps50
    go_wp2_with fail
    refine ⟨_, results_tmp rfl _ _ _, ?_⟩
    exact ⟨rfl, .alloc _ _ _, l, hl.out.alloc _⟩
  | some l =>
    have hlt := hR.lt
    have hh := hR.alloc (.cells #[.pointer (some ⟨p, 0, none⟩)] 47)
    have hN := text_any D p l _ hh
    obtain ⟨hD, v, hh2, -⟩ := hh
    have hc1 : (w.alloc (.cells #[.pointer (some ⟨p, 0, none⟩)] 47)).cell? ⟨p, 1, none⟩ = some (.bool false) := cell_at hh2 1
    have hbox : (w.alloc (.cells #[.pointer (some ⟨p, 0, none⟩)] 47)).cell? ⟨w.heap.size, 0, none⟩ = some (.pointer (some ⟨p, 0, none⟩)) := by rw [cell_at (heap_new _ _)]; rfl
    have hU0 := hide (Upd.alloc (At p) w (.cells #[.pointer (some ⟨p, 0, none⟩)] 47))
    replace hbox := hide hbox
    replace hh2 := hide hh2
    replace hR := hide hR
    cases hd : dtext l with
    | none =>
      rw [hd] at hN
      have hr : read ByteArray.empty dtext (some l) = (ByteArray.empty, none) := by simp [read, hd]
      rw [hr]
      clear hd hr
      go_enter_defers Try.func50, Try.ntmps50
      go_wp2_with fail
      refine hN.mono ?_
      rintro e w2 ⟨hU, ⟨pv, rfl⟩, r, hR2⟩
      go_wp2_with fail
      refine leaves_cons (f := 68) (args := #[.pointer (some ⟨w.heap.size, 0, none⟩)]) (by simp) (by simp [go_sem]) ?_
      have hR3 := hR2
      obtain ⟨-, v2, hh3, -⟩ := hR3
      refine (caught_str w.heap.size p _ pv [] false _ ?_ ?_ ?_).mono ?_
      · exact hU.cell hbox.out (fun e => by have : w.heap.size = p := e
                                            omega)
      · rw [cell_at hh3]; rfl
      · exact frozen_at hh3 1
      rintro e u' w3 ⟨rfl, rfl, rfl⟩
      refine ⟨_, results_tmp rfl _ _ _, ?_⟩
      exact ⟨rfl, (hU0.out.then hU).then (Upd.set _ (F := At p) (a := ⟨p, 1, none⟩) rfl _), r, hR2.fail⟩
    | some x =>
      obtain ⟨a, r⟩ := x
      rw [hd] at hN
      have hr : read ByteArray.empty dtext (some l) = (a, some r) := by simp [read, hd]
      rw [hr]
      clear hd hr
      go_enter_defers Try.func50, Try.ntmps50
      go_wp2_with fail
      refine hN.mono ?_
      rintro e w2 ⟨hU, rfl, hR2⟩
      go_wp2_with fail
      refine leaves_cons (f := 68) (args := #[.pointer (some ⟨w.heap.size, 0, none⟩)]) (by simp) (by simp [go_sem]) ?_
      refine (idle_str w.heap.size _).mono ?_
      rintro e u' w3 ⟨rfl, rfl, rfl⟩
      refine ⟨_, results_tmp rfl _ _ _, ?_⟩
      exact ⟨rfl, hU0.out.then hU, hR2⟩

set_option maxRecDepth 100000 in
theorem rText_any (D p : Nat) (st : Option (List UInt8)) (w : World) (hR : RdS w D p st) :
    Calls Try.prog 26 #[.pointer (some ⟨p, 0, none⟩)] w fun e w' => Met D p w Value.string (read ByteArray.empty dtext st) e w' := by
  have hmf : ∀ (fn : Fn) (first cap : Array Value) (w : World), (Instr.makeFunc fn first cap).run Try.prog w = .ok (.func fn first cap) w := fun _ _ _ _ => rfl
  go_enter Try.func26, Try.ntmps26
  go_wp2_with fail
  refine (attempt_str D p st w hR).mono ?_
  rintro e w2 ⟨rfl, hU, hR2⟩
  go_wp2_with fail
  go_ret
  exact ⟨rfl, hU, hR2⟩

theorem caught_bool (g p : Nat) (u : TypeId) (pv : Value) (older : List PanicEntry) (b : Bool) (w : World) (hc : w.cell? ⟨g, 0, none⟩ = some (.pointer (some ⟨p, 0, none⟩))) (hb : w.cell? ⟨p, 1, none⟩ = some (.bool b)) (hz : w.frozen? ⟨p, 1, none⟩ = false) :
    CallsD Try.prog 70 #[.pointer (some ⟨g, 0, none⟩)] (.panicking ({ v := .iface u pv, recovered := false } :: older)) w fun e u' w' =>
      e = .returned (.tuple #[]) ∧ u' = .panicking ({ v := .iface u pv, recovered := true } :: older) ∧ w' = w.setCell ⟨p, 1, none⟩ (.bool true) := by
  refine callsD_of_wpS Try.func70 rfl fun c₀ cs hu => ?_
  apply wpS_seq
  apply wpS_region
  simp [wpOpsS, go_sem, recoverD, hu, Try.ntmps70, Exit.thenS]
  refine wpS_cond (t := true) (by simp [Act.eval, Array.replicate]) ?_
  simp only [if_true]
  apply wpS_region
  simp [wpOpsS, go_sem, hc, hb, hz, bodyPostS, results, Try.results70]

theorem idle_bool (g : Nat) (w : World) :
    CallsD Try.prog 70 #[.pointer (some ⟨g, 0, none⟩)] .returning w fun e u' w' => e = .returned (.tuple #[]) ∧ u' = .returning ∧ w' = w := by
  refine callsD_of_wpS Try.func70 rfl fun c₀ cs hu => ?_
  apply wpS_seq
  apply wpS_region
  simp [wpOpsS, go_sem, recoverD, hu, Try.ntmps70, Exit.thenS]
  refine wpS_cond (t := false) (by simp [Act.eval, Array.replicate]) ?_
  simp only [Bool.false_eq_true, if_false]
  refine wpS_of_wp (wp_skip ?_)
  cases c₀
  simp_all [bodyPostS, results, Try.results70]

set_option maxRecDepth 100000 in
theorem attempt_bool (D p : Nat) (st : Option (List UInt8)) (w : World) (hR : RdS w D p st) :
    Calls Try.prog 52 #[.pointer (some ⟨p, 0, none⟩), .func (.func 53) #[.pointer (some ⟨p, 0, none⟩)] #[]] w fun e w' => Met D p w Value.bool (read false dbool st) e w' := by
  have hmf : ∀ (fn : Fn) (first cap : Array Value) (w : World), (Instr.makeFunc fn first cap).run Try.prog w = .ok (.func fn first cap) w := fun _ _ _ _ => rfl
  cases st with
  | none =>
    obtain ⟨l, hl⟩ := hR
    have hh := hl.alloc (.cells #[.pointer (some ⟨p, 0, none⟩)] 47)
    obtain ⟨hD, v, hh2, -⟩ := hh
    have hc1 := cell_at hh2 1
    replace hc1 : (w.alloc (.cells #[.pointer (some ⟨p, 0, none⟩)] 47)).cell? ⟨p, 1, none⟩ = some (.bool true) := hc1
    replace hh2 := hide hh2
    replace hl := hide hl
    go_enter_defers Try.func52, Try.ntmps52
    go_wp2_with fail
    refine ⟨_, results_tmp rfl _ _ _, ?_⟩
    exact ⟨rfl, .alloc _ _ _, l, hl.out.alloc _⟩
  | some l =>
    have hlt := hR.lt
    have hh := hR.alloc (.cells #[.pointer (some ⟨p, 0, none⟩)] 47)
    have hN := truth_any D p l _ hh
    obtain ⟨hD, v, hh2, -⟩ := hh
    have hc1 : (w.alloc (.cells #[.pointer (some ⟨p, 0, none⟩)] 47)).cell? ⟨p, 1, none⟩ = some (.bool false) := cell_at hh2 1
    have hbox : (w.alloc (.cells #[.pointer (some ⟨p, 0, none⟩)] 47)).cell? ⟨w.heap.size, 0, none⟩ = some (.pointer (some ⟨p, 0, none⟩)) := by rw [cell_at (heap_new _ _)]; rfl
    have hU0 := hide (Upd.alloc (At p) w (.cells #[.pointer (some ⟨p, 0, none⟩)] 47))
    replace hbox := hide hbox
    replace hh2 := hide hh2
    replace hR := hide hR
    cases hd : dbool l with
    | none =>
      rw [hd] at hN
      have hr : read false dbool (some l) = (false, none) := by simp [read, hd]
      rw [hr]
      clear hd hr
      go_enter_defers Try.func52, Try.ntmps52
      go_wp2_with fail
      refine hN.mono ?_
      rintro e w2 ⟨hU, ⟨pv, rfl⟩, r, hR2⟩
      go_wp2_with fail
      refine leaves_cons (f := 70) (args := #[.pointer (some ⟨w.heap.size, 0, none⟩)]) (by simp) (by simp [go_sem]) ?_
      have hR3 := hR2
      obtain ⟨-, v2, hh3, -⟩ := hR3
      refine (caught_bool w.heap.size p _ pv [] false _ ?_ ?_ ?_).mono ?_
      · exact hU.cell hbox.out (fun e => by have : w.heap.size = p := e
                                            omega)
      · rw [cell_at hh3]; rfl
      · exact frozen_at hh3 1
      rintro e u' w3 ⟨rfl, rfl, rfl⟩
      refine ⟨_, results_tmp rfl _ _ _, ?_⟩
      exact ⟨rfl, (hU0.out.then hU).then (Upd.set _ (F := At p) (a := ⟨p, 1, none⟩) rfl _), r, hR2.fail⟩
    | some x =>
      obtain ⟨a, r⟩ := x
      rw [hd] at hN
      have hr : read false dbool (some l) = (a, some r) := by simp [read, hd]
      rw [hr]
      clear hd hr
      go_enter_defers Try.func52, Try.ntmps52
      go_wp2_with fail
      refine hN.mono ?_
      rintro e w2 ⟨hU, rfl, hR2⟩
      go_wp2_with fail
      refine leaves_cons (f := 70) (args := #[.pointer (some ⟨w.heap.size, 0, none⟩)]) (by simp) (by simp [go_sem]) ?_
      refine (idle_bool w.heap.size _).mono ?_
      rintro e u' w3 ⟨rfl, rfl, rfl⟩
      refine ⟨_, results_tmp rfl _ _ _, ?_⟩
      exact ⟨rfl, hU0.out.then hU, hR2⟩

set_option maxRecDepth 100000 in
theorem rBool_any (D p : Nat) (st : Option (List UInt8)) (w : World) (hR : RdS w D p st) :
    Calls Try.prog 28 #[.pointer (some ⟨p, 0, none⟩)] w fun e w' => Met D p w Value.bool (read false dbool st) e w' := by
  have hmf : ∀ (fn : Fn) (first cap : Array Value) (w : World), (Instr.makeFunc fn first cap).run Try.prog w = .ok (.func fn first cap) w := fun _ _ _ _ => rfl
  go_enter Try.func28, Try.ntmps28
  go_wp2_with fail
  refine (attempt_bool D p st w hR).mono ?_
  rintro e w2 ⟨rfl, hU, hR2⟩
  go_wp2_with fail
  go_ret
  exact ⟨rfl, hU, hR2⟩
end Go.Proofs.Ytajpgkedlajjdaa

/- Walks: what is light; the texts of parts. -/
import Derived.Test.YtajpgkedlajjdaaPut
import Derived.Test.YtajpgkedlajjdaaCuts
namespace Go.Proofs.Ytajpgkedlajjdaa
open Go.RowKit

/-- A part's cells, where its lists lie. -/
def partCells (q : PartD × Value × Value) : List Value := [.int .u8 q.1.what, .int .u64 q.1.n, .string q.1.t, q.2.1, .bool q.1.s.ends, .bool q.1.s.ret.some, .int .i64 q.1.s.ret.lo, .int .i64 q.1.s.ret.hi, q.2.2]
def PartIn (w : World) (B : Nat) (q : PartD × Value × Value) : Prop := ArgN w (· < B) q.2.1 q.1.s.alarms.length (q.1.s.alarms.map AlarmD.cells).flatten ∧ ArgN w (· < B) q.2.2 q.1.s.mod.length (q.1.s.mod.map NamedD.cells).flatten
/-- A []Part, below B. -/
def PartsV (w : World) (B : Nat) (x : Value) (qs : List (PartD × Value × Value)) : Prop := ArgN w (· < B) x qs.length (qs.map partCells).flatten ∧ ∀ q ∈ qs, PartIn w B q
theorem PartIn.below {w w' : World} {B : Nat} {q : PartD × Value × Value} (h : PartIn w B q) (hb : Below B w w') (hB : B ≤ w.heap.size) : PartIn w' B q :=
  have hu : Upd (fun k => B ≤ k) w w' := ⟨hb.os, hb.tape, hb.output, hb.size, fun k _ hn => hb.block k (by omega)⟩
  have _ := hB
  ⟨h.1.upd hu fun _ hk => Nat.not_le.2 hk, h.2.upd hu fun _ hk => Nat.not_le.2 hk⟩
theorem PartsV.below {w w' : World} {B : Nat} {x : Value} {qs : List (PartD × Value × Value)} (h : PartsV w B x qs) (hb : Below B w w') (hB : B ≤ w.heap.size) : PartsV w' B x qs :=
  have hu : Upd (fun k => B ≤ k) w w' := ⟨hb.os, hb.tape, hb.output, hb.size, fun k _ hn => hb.block k (by omega)⟩
  ⟨h.1.upd hu fun _ hk => Nat.not_le.2 hk, fun q hq => (h.2 q hq).below hb hB⟩
theorem partCells_len (q : PartD × Value × Value) : (partCells q).length = 9 := rfl
/-- The cells of the k-th part. -/
theorem PartsV.at_ {w : World} {B n c : Nat} {A : Option Addr} {qs : List (PartD × Value × Value)} (h : PartsV w B (.slice A n c) qs) {k : Nat} (hk : k < qs.length) : n = qs.length ∧ ∃ b o, A = some ⟨b, o, none⟩ ∧ b < B ∧ ∀ j u, j < 9 → (partCells qs[k])[j]? = some u → w.cell? ⟨b, o + k * 9 + j, none⟩ = some u := by
  obtain ⟨Ax, cx, e, _⟩ := h.1.slice
  injection e with e1 e2 e3
  subst e1 e2 e3
  obtain ⟨b, o, rfl, hb, hc⟩ := h.1.get (k := 9) partCells_len (by decide) hk
  exact ⟨rfl, b, o, rfl, hb, fun j u hj hu => by rw [show o + k * 9 + j = o + (9 * k + j) by omega]; exact hc j u hj hu⟩

def Answers (Q : Prop) (w : World) (e : Ending) (w' : World) : Prop := ∃ b : Bool, e = .returned (.bool b) ∧ (b = true ↔ Q) ∧ Below w.heap.size w w'
set_option maxRecDepth 100000 in
set_option maxHeartbeats 1600000 in
theorem lightS_any (S : Nat → Prop) (xa xm : Value) (s : SumD) (w : World) (hxa : ArgN w S xa s.alarms.length (s.alarms.map AlarmD.cells).flatten) (hxm : ArgN w S xm s.mod.length (s.mod.map NamedD.cells).flatten) :
    Calls Try.prog 37 #[.agg #[xa, .bool s.ends, .bool s.ret.some, .int .i64 s.ret.lo, .int .i64 s.ret.hi, xm]] w fun e w' => Answers s.light w e w' := by
  obtain ⟨al, ends, ⟨sm, lo, hi⟩, md⟩ := s
  obtain ⟨Aa, ca, rfl, hna⟩ := hxa.slice
  obtain ⟨Am, cm, rfl, hnm⟩ := hxm.slice
  simp only at hxa hxm hna hnm
  unfold maxLen at hna hnm
  have hm1 := hide hxm
  clear hxa hxm
  have hbel := hide (fun o => (Below.refl w.heap.size w).alloc (Nat.le_refl _) o)
  by_cases l1 : al.length ≤ 10
  case neg =>
    go_enter Try.func37, Try.ntmps37
    go_wp2_with fail
    go_ret
    exact ⟨false, rfl, ⟨fun h => (by cases h), fun h => absurd h.1 l1⟩, hbel.out _⟩
  by_cases l2 : md.length ≤ 10
  case neg =>
    go_enter Try.func37, Try.ntmps37
    go_wp2_with fail
    go_ret
    exact ⟨false, rfl, ⟨fun h => (by cases h), fun h => absurd h.2.1 l2⟩, hbel.out _⟩
  go_enter Try.func37, Try.ntmps37
  go_wp2_with fail
  go_loop [3] (fun i => ∃ k : Nat, k ≤ md.length ∧ i = .int .i64 k ∧ ∀ (j : Nat) (h : j < md.length), j < k → md[j].name.size ≤ 50) (fun i => md.length - (intOf i).toNat)
  case atStart => exact ⟨0, Nat.zero_le _, rfl, fun j _ h => by omega⟩
  case round =>
    obtain ⟨k, hk, rfl, hsm⟩ := hrel
    replace hsm := hide hsm
    by_cases hlt : k < md.length
    · obtain ⟨b, o, rfl, hb, hcell⟩ := (hm1.out.upd (.of_below (fun _ => False) (hbel.out (.cells #[.slice Aa al.length ca, .bool ends, .bool sm, .int .i64 lo, .int .i64 hi, .slice Am md.length cm] 35))) fun _ _ => id).get (k := 4) (fun _ => rfl) (by decide) hlt
      have hcA := hcell 0 _ (by decide) rfl
      have e0 : o + k * 4 = o + (4 * k + 0) := by omega
      rw [← e0] at hcA
      clear e0 hcell
      by_cases hsz : md[k].name.size ≤ 50
      · have hnext : ∀ (j : Nat) (h : j < md.length), j < k + 1 → md[j].name.size ≤ 50 := fun j h hj => by
          rcases Nat.lt_or_ge j k with h1 | h1
          · exact hsm.out j h h1
          · obtain rfl : j = k := by omega
            exact hsz
        replace hnext := hide hnext
        generalize md[k].name = s0 at *
        go_wp2_with fail
        go_round
        case rel => exact ⟨k + 1, by omega, by go_num, hnext.out⟩
        case measure => simp [intOf]; omega
      · have hbad : ¬ SumD.light ⟨al, ends, ⟨sm, lo, hi⟩, md⟩ := fun h => hsz (h.2.2 _ (List.getElem_mem hlt))
        replace hbad := hide hbad
        generalize md[k].name = s0 at *
        go_wp2_with fail
        go_ret
        exact ⟨false, rfl, ⟨fun h => (by cases h), fun h => absurd h hbad.out⟩, hbel.out _⟩
    · obtain rfl : k = md.length := by omega
      go_wp2_with fail
      go_ret
      exact ⟨true, rfl, ⟨fun _ => ⟨l1, l2, fun n hn => by
        obtain ⟨j, hj, rfl⟩ := List.getElem_of_mem hn
        exact hsm.out j hj hj⟩, fun _ => rfl⟩, hbel.out _⟩

def lightP (qs : List (PartD × Value × Value)) : Prop := qs.length ≤ 12 ∧ ∀ q ∈ qs, q.1.light
set_option maxRecDepth 100000 in
set_option maxHeartbeats 1600000 in
theorem light_any (x : Value) (qs : List (PartD × Value × Value)) (w : World) (B : Nat) (hx : PartsV w B x qs) (hB : B ≤ w.heap.size) :
    Calls Try.prog 10 #[x] w fun e w' => Answers (lightP qs) w e w' := by
  obtain ⟨Ax, cx, rfl, hnx⟩ := hx.1.slice
  unfold maxLen at hnx
  replace hx := hide hx
  by_cases l1 : qs.length ≤ 12
  case neg =>
    go_enter Try.func10, Try.ntmps10
    go_wp2_with fail
    go_ret
    exact ⟨false, rfl, ⟨fun h => (by cases h), fun h => absurd h.1 l1⟩, Below.refl _ _⟩
  go_enter Try.func10, Try.ntmps10
  go_wp2_with fail
  go_loopw [3] (fun i wr => ∃ k : Nat, k ≤ qs.length ∧ i = .int .i64 k ∧ (∀ (j : Nat) (h : j < qs.length), j < k → qs[j].1.light) ∧ Below w.heap.size w wr) (fun i _ => qs.length - (intOf i).toNat)
  case atStart => exact ⟨0, Nat.zero_le _, rfl, fun j _ h => by omega, Below.refl _ _⟩
  case round =>
    obtain ⟨k, hk, rfl, hsm, hbw⟩ := hrel
    replace hsm := hide hsm
    replace hbw := hide hbw
    by_cases hlt : k < qs.length
    · have hxr := hx.out.below (hbw.out.mono hB) hB
      obtain ⟨-, b, o, rfl, hb, hcell⟩ := hxr.at_ hlt
      have hin := hxr.2 _ (List.getElem_mem hlt)
      have c2 : wr.cell? ⟨b, o + k * 9 + 2, none⟩ = some (.string qs[k].1.t) := hcell 2 _ (by decide) rfl
      have c3 : wr.cell? ⟨b, o + k * 9 + 3, none⟩ = some qs[k].2.1 := hcell 3 _ (by decide) rfl
      have c4 : wr.cell? ⟨b, o + k * 9 + 3 + 1, none⟩ = some (.bool qs[k].1.s.ends) := hcell 4 _ (by decide) rfl
      have c5 : wr.cell? ⟨b, o + k * 9 + 3 + 2, none⟩ = some (.bool qs[k].1.s.ret.some) := hcell 5 _ (by decide) rfl
      have c6 : wr.cell? ⟨b, o + k * 9 + 3 + 3, none⟩ = some (.int .i64 qs[k].1.s.ret.lo) := hcell 6 _ (by decide) rfl
      have c7 : wr.cell? ⟨b, o + k * 9 + 3 + 4, none⟩ = some (.int .i64 qs[k].1.s.ret.hi) := hcell 7 _ (by decide) rfl
      have c8 : wr.cell? ⟨b, o + k * 9 + 3 + 5, none⟩ = some qs[k].2.2 := hcell 8 _ (by decide) rfl
      have hbad : ¬ qs[k].1.light → ¬ lightP qs := fun h h2 => h (h2.2 _ (List.getElem_mem hlt))
      have hgood : qs[k].1.light → ∀ (j : Nat) (h : j < qs.length), j < k + 1 → qs[j].1.light := fun h0 j h hj => by
        rcases Nat.lt_or_ge j k with h1 | h1
        · exact hsm.out j h h1
        · obtain rfl : j = k := by omega
          exact h0
      clear hcell hxr
      generalize qs[k] = q at *
      obtain ⟨⟨what, n, t, s⟩, xa, xm⟩ := q
      obtain ⟨hi1, hi2⟩ := hin
      replace hi1 : ArgN wr (· < B) xa s.alarms.length (s.alarms.map AlarmD.cells).flatten := hi1
      replace hi2 : ArgN wr (· < B) xm s.mod.length (s.mod.map NamedD.cells).flatten := hi2
      obtain ⟨Aa, ca, rfl, hna⟩ := hi1.slice
      obtain ⟨Am, cm, rfl, hnm⟩ := hi2.slice
      simp only at c2 c3 c4 c5 c6 c7 c8 hna hnm
      have hN := hide (lightS_any _ _ _ s wr hi1 hi2)
      replace hi1 := hide hi1
      replace hi2 := hide hi2
      replace hbad := hide hbad
      replace hgood := hide hgood
      by_cases hsz : t.size ≤ 100
      · go_wp2_with fail
        refine hN.out.mono ?_
        rintro e w2 ⟨b2, rfl, hb2, hbel⟩
        replace hbel := hide hbel
        cases b2
        · have hl : ¬ PartD.light ⟨what, n, t, s⟩ := fun h => by have := hb2.2 h.2; cases this
          replace hb2 := hide hb2
          replace hl := hide hl
          go_wp2_with fail
          go_ret
          exact ⟨false, rfl, ⟨fun h => (by cases h), fun h => absurd h (hbad.out hl.out)⟩, hbw.out.trans (hbel.out.mono hbw.out.size)⟩
        · have hl : PartD.light ⟨what, n, t, s⟩ := ⟨hsz, hb2.1 rfl⟩
          replace hb2 := hide hb2
          replace hl := hide hl
          go_wp2_with fail
          go_roundw
          case rel => exact ⟨k + 1, by omega, by go_num, hgood.out hl.out, hbw.out.trans (hbel.out.mono hbw.out.size)⟩
          case measure => simp [intOf]; omega
      · have hl : ¬ PartD.light ⟨what, n, t, s⟩ := fun h => hsz h.1
        replace hl := hide hl
        go_wp2_with fail
        go_ret
        exact ⟨false, rfl, ⟨fun h => (by cases h), fun h => absurd h (hbad.out hl.out)⟩, hbw.out⟩
    · obtain rfl : k = qs.length := by omega
      go_wp2_with fail
      go_ret
      exact ⟨true, rfl, ⟨fun _ => ⟨l1, fun q hq => by
        obtain ⟨j, hj, rfl⟩ := List.getElem_of_mem hq
        exact hsm.out j hj hj⟩, fun _ => rfl⟩, hbw.out⟩
end Go.Proofs.Ytajpgkedlajjdaa

/- The walk of CodeWrites. -/
import Derived.Test.YtajpgkedlajjdaaLight
namespace Go.Proofs.Ytajpgkedlajjdaa
open Go.RowKit

theorem own_argV {w : World} {B : Nat} {e : TypeId} {v : Value} {n : Nat} {xs : List Value} (h : w.ownsRow B e 1 v n xs) (hn : n = xs.length) : ArgV w (fun k => v.ownBlock = some k) v xs := by
  subst hn
  obtain ⟨A, c, rfl, h1, h2, h3⟩ := ownsRow_sl h
  refine ⟨A, c, rfl, h1, h2, ?_⟩
  rcases h3 with h3 | ⟨b, o, rfl, h4, h5⟩
  · exact .inl h3
  · exact .inr ⟨b, o, rfl, rfl, h5⟩
theorem sum_len {s : SumD} (h : s.ok) (hl : s.light) : s.bytes.length ≤ 1100 := by
  obtain ⟨h1, h2, h3⟩ := h
  obtain ⟨l1, l2, l3⟩ := hl
  have a1 := alarmsB_le s.alarms h1 s.alarms.length
  have a2 := modB_le s.mod h3 l3 s.mod.length
  rw [List.take_length] at a1 a2
  have a3 := ival_len h2
  have a4 := num_len10 (n := s.alarms.length) (by omega)
  have a5 := num_len10 (n := s.mod.length) (by omega)
  unfold SumD.bytes
  simp only [List.length_append, List.length_singleton]
  omega
theorem part_len {p : PartD} (h : p.ok) (hl : p.light) : p.bytes.length ≤ 1100 := by
  obtain ⟨h1, h2, h3⟩ := h
  obtain ⟨l1, l2⟩ := hl
  have a1 := num_len10 h2
  have a2 := ok_len (toI_fits h2)
  have a3 := text_le p.t (by omega)
  have a4 := sum_len h3 l2
  unfold PartD.bytes
  split
  · omega
  · omega
  · omega
  · simp
  · omega
def partsB (ps : List (PartD × Value × Value)) : List UInt8 := (ps.map fun q => q.1.bytes).flatten
theorem partsB_snoc (qs : List (PartD × Value × Value)) (k : Nat) (h : k < qs.length) : partsB (qs.take (k + 1)) = partsB (qs.take k) ++ qs[k].1.bytes := by
  unfold partsB; rw [List.take_succ_eq_append_getElem h, List.map_append, List.flatten_append]; simp
theorem partsB_len (qs : List (PartD × Value × Value)) (h : ∀ q ∈ qs, q.1.ok) (hl : ∀ q ∈ qs, q.1.light) : ∀ k, (partsB (qs.take k)).length ≤ 1100 * k := by
  intro k
  induction k with
  | zero => simp [partsB]
  | succ k ih =>
    by_cases hk : k < qs.length
    · rw [partsB_snoc qs k hk, List.length_append]
      have := part_len (h _ (List.getElem_mem hk)) (hl _ (List.getElem_mem hk))
      omega
    · rw [List.take_of_length_le (by omega)] at ih ⊢; omega

theorem str_info : (Try.prog.info? 9).map (fun i => (i.zero, i.size, i.bytes)) = some (some (.string .empty), 1, 16) := by kernel_rfl
def textsOf (qs : List (PartD × Value × Value)) : List ByteArray := qs.map fun q => q.1.t
set_option maxRecDepth 100000 in
set_option maxHeartbeats 1600000 in
theorem l2_any (x : Value) (qs : List (PartD × Value × Value)) (w : World) (B : Nat) (hx : PartsV w B x qs) (hB : B ≤ w.heap.size) (hn : qs.length ≤ 12) :
    Calls Try.prog 18 #[x] w fun e w' => ∃ v', e = .returned v' ∧ w'.ownsRow w.heap.size 9 1 v' qs.length ((textsOf qs).map Value.string) ∧ Below w.heap.size w w' := by
  obtain ⟨Ax, cx, rfl, hnx⟩ := hx.1.slice
  unfold maxLen at hnx
  replace hx := hide hx
  obtain ⟨i0, hi, hz0, hz1, hz2⟩ := info_parts str_info
  replace hi := hide hi
  replace hz0 := hide hz0
  replace hz1 := hide hz1
  replace hz2 := hide hz2
  go_enter Try.func18, Try.ntmps18
  go_wp2_with fail
  go_loopw [3, 4] (fun v i wr => ∃ (k : Nat) (A1 : Option Addr) (n1 c1 : Nat), k ≤ qs.length ∧ i = .int .i64 k ∧ v = .slice A1 n1 c1 ∧ wr.ownsRow w.heap.size 9 1 (.slice A1 n1 c1) k ((textsOf (qs.take k)).map Value.string) ∧ Below w.heap.size w wr) (fun _ i _ => qs.length - (intOf i).toNat)
  case atStart => exact ⟨0, _, _, _, Nat.zero_le _, rfl, rfl, World.ownsRow_nil _ _ _ _, Below.refl _ _⟩
  case round =>
    obtain ⟨k, A1, n1, c1, hk, rfl, rfl, hR, hbw⟩ := hrel
    replace hR := hide hR
    replace hbw := hide hbw
    by_cases hlt : k < qs.length
    · have hxr := hx.out.below (hbw.out.mono hB) hB
      obtain ⟨-, b, o, rfl, hb, hcell⟩ := hxr.at_ hlt
      have c2 : wr.cell? ⟨b, o + k * 9 + 2, none⟩ = some (.string qs[k].1.t) := hcell 2 _ (by decide) rfl
      have hsn : (textsOf (qs.take (k + 1))).map Value.string = (textsOf (qs.take k)).map Value.string ++ [.string qs[k].1.t] := by
        unfold textsOf; rw [List.take_succ_eq_append_getElem hlt, List.map_append, List.map_append]; rfl
      replace hsn := hide hsn
      clear hcell hxr
      generalize qs[k].1.t = t0 at *
      go_wp2_with (
        at_builtin
        refine wpList_append_own _ rfl (.tmp 11) (.tmp 17) 43 rfl w.heap.size 9 i0 (.string .empty) 1 16 Try.underlying43 hi.out hz0.out hz1.out hz2.out rfl Nat.one_pos (.slice A1 n1 c1) k ((textsOf (qs.take k)).map Value.string) rfl ?_ ⟨wr.heap.size, 0, none⟩ 1 1 [.string t0] rfl rfl (one_cell ?_) ?_ ?_ ?_ ?_ ?_
        · exact hR.out.alloc _
        · simp [go_sem]; done
        · simp [Value.oneCell']
        · unfold maxLen; omega
        · omega
        · exact Nat.le_trans hbw.out.size (by simp)
        intro ve' w5 he5 hg5 hnn5
        obtain ⟨A5, c5, rfl, -⟩ := ownsRow_sl he5)
      go_roundw
      case rel =>
        refine ⟨k + 1, A5, _, c5, by omega, by go_num, rfl, ?_, ?_⟩
        · rw [hsn.out]; exact he5
        · exact (hbw.out.alloc hbw.out.size _).grown hg5 (Nat.le_trans hbw.out.size (by simp)) fun g hg => (hR.out.lt g hg).1
      case measure => simp [intOf]; omega
    · obtain rfl : k = qs.length := by omega
      rw [List.take_length] at hR
      replace hR := hide hR.out
      go_wp2_with fail
      go_ret
      exact ⟨_, rfl, hR.out, hbw.out⟩

set_option maxRecDepth 100000 in
set_option maxHeartbeats 6400000 in
theorem writes_any (x : Value) (qs : List (PartD × Value × Value)) (w : World) (hx : PartsV w w.heap.size x qs) (hok : ∀ q ∈ qs, q.1.ok) :
    Calls Try.prog 3 #[x] w fun e w' => e = .returned (.bool true) ∧ Below w.heap.size w w' := by
  obtain ⟨Ax, cx, rfl, hnx⟩ := hx.1.slice
  unfold maxLen at hnx
  replace hx := hide hx
  replace hok := hide hok
  go_enter Try.func3, Try.ntmps3
  go_wp2_with fail
  refine (known_any _).mono ?_
  rintro e w1 ⟨rfl, hb1⟩
  replace hb1 := hide hb1
  go_wp2_with fail
  refine (light_any _ qs _ w.heap.size (hx.out.below hb1.out (Nat.le_refl _)) hb1.out.size).mono ?_
  rintro e w2 ⟨bl, rfl, hl, hb2⟩
  have hB := hide (hb1.out.trans (hb2.mono hb1.out.size))
  clear hb1 hb2
  cases bl
  · replace hl := hide hl
    go_wp2_with fail
    go_ret
    exact ⟨rfl, hB.out⟩
  obtain ⟨hl12, hlt⟩ := hl.1 rfl
  clear hl
  have hlen := hide (partsB_len qs hok.out hlt)
  replace hlt := hide hlt
  go_wp2_with fail
  refine (newWriter_any _).mono ?_
  rintro e w3 ⟨rfl, rfl⟩
  have hWa := hide (wr_new w2 w2.heap.size (Nat.le_refl _))
  have hwp := hide (hB.out.size)
  replace hB := hide (hB.out.alloc hB.out.size (.cells #[.slice none 0 0] 75))
  generalize w2.alloc (.cells #[.slice none 0 0] 75) = w3 at *
  generalize w2.heap.size = p at *
  go_wp2_with fail
  go_loopw [4, 5] (fun vw i wr => ∃ (k : Nat) (v' : Value) (A1 : Option Addr) (n1 c1 : Nat), k ≤ qs.length ∧ i = .int .i64 k ∧ vw = .slice A1 n1 c1 ∧ Below w.heap.size w wr ∧ Wr wr p p (partsB (qs.take k)) v' ∧ RowB wr p (.slice A1 n1 c1) (partsB (qs.take k)) ∧ ∀ g, Value.ownBlock (.slice A1 n1 c1) = some g → ¬ Fp p v' g) (fun _ i _ => qs.length - (intOf i).toNat)
  case atStart => exact ⟨0, _, _, _, _, Nat.zero_le _, rfl, rfl, hB.out, by simpa [partsB] using hWa.out, RowB.nil_ _ _, fun g h => by cases h⟩
  case round =>
    clear hB hWa
    obtain ⟨k, v', A1, n1, c1, hk, rfl, rfl, hB, hW, hR, hne⟩ := hrel
    by_cases hlk : k < qs.length
    · have hxr := hx.out.below hB (Nat.le_refl _)
      have hin := hxr.2 _ (List.getElem_mem hlk)
      have hok1 := hok.out _ (List.getElem_mem hlk)
      have hli1 := hlt.out _ (List.getElem_mem hlk)
      have hsn := hide (partsB_snoc qs k hlk)
      have hl1 := hide (hlen.out k)
      have hat := hide (fun (W : World) (hW : Below w.heap.size w W) => (hx.out.below hW (Nat.le_refl _)).at_ hlk)
      have hinW := hide (fun (W : World) (hW : Below w.heap.size w W) => (hx.out.below hW (Nat.le_refl _)).2 _ (List.getElem_mem hlk))
      clear hxr
      generalize qs[k] = q at *
      obtain ⟨⟨what, n, t, s⟩, xa, xm⟩ := q
      obtain ⟨hi1, hi2⟩ := hin
      replace hi1 : ArgN wr (· < w.heap.size) xa s.alarms.length (s.alarms.map AlarmD.cells).flatten := hi1
      replace hi2 : ArgN wr (· < w.heap.size) xm s.mod.length (s.mod.map NamedD.cells).flatten := hi2
      have hfar : ∀ k', k' < w.heap.size → ¬ Value.ownBlock (.slice A1 n1 c1) = some k' := fun k' hk' e => by have := (World.ownsRow.lt hR k' e).1; have := hwp.out; omega
      have hN := hide (put_any p (fun g => Value.ownBlock (.slice A1 n1 c1) = some g) _ (partsB (qs.take k)) (.slice A1 n1 c1) xa xm ⟨what, n, t, s⟩ wr hi1 hi2 hfar (fun g hg => (World.ownsRow.lt hR g hg).2) hok1 hli1 (.inl ⟨hR, fun _ h => h⟩) hW.base (by have := hl1.out; omega))
      obtain ⟨Aa, ca, rfl, -⟩ := hi1.slice
      obtain ⟨Am, cm, rfl, -⟩ := hi2.slice
      obtain ⟨-, b, o, rfl, hb, hcell⟩ := hat.out wr hB
      have hd : ∀ W, Below w.heap.size w W → W.cell? ⟨b, o + k * 9, none⟩ = some (.int .u8 what) ∧ W.cell? ⟨b, o + k * 9 + 1, none⟩ = some (.int .u64 n) ∧ W.cell? ⟨b, o + k * 9 + 2, none⟩ = some (.string t) ∧ W.cell? ⟨b, o + k * 9 + 3, none⟩ = some (.slice Aa s.alarms.length ca) ∧ W.cell? ⟨b, o + k * 9 + 4, none⟩ = some (.bool s.ends) ∧ W.cell? ⟨b, o + k * 9 + 5, none⟩ = some (.bool s.ret.some) ∧ W.cell? ⟨b, o + k * 9 + 6, none⟩ = some (.int .i64 s.ret.lo) ∧ W.cell? ⟨b, o + k * 9 + 7, none⟩ = some (.int .i64 s.ret.hi) ∧ W.cell? ⟨b, o + k * 9 + 8, none⟩ = some (.slice Am s.mod.length cm) := by
        intro W hW'
        obtain ⟨-, b', o', e, -, hc⟩ := hat.out W hW'
        have e2 := Option.some.inj e
        injection e2 with e3 e4 _
        subst e3 e4
        exact ⟨hc 0 _ (by decide) rfl, hc 1 _ (by decide) rfl, hc 2 _ (by decide) rfl, hc 3 _ (by decide) rfl, hc 4 _ (by decide) rfl, hc 5 _ (by decide) rfl, hc 6 _ (by decide) rfl, hc 7 _ (by decide) rfl, hc 8 _ (by decide) rfl⟩
      replace hd := hide hd
      clear hcell hat
      obtain ⟨c0, c1', c2, c3, c4, c5, c6, c7, c8⟩ := hd.out wr hB
      replace hB := hide hB
      replace hW := hide hW
      replace hR := hide hR
      replace hne := hide hne
      replace hfar := hide hfar
      replace hok1 := hide hok1
      replace hli1 := hide hli1
      replace hi1 := hide hi1
      replace hi2 := hide hi2
      go_wp2_with fail
      refine hN.out.mono ?_
      rintro e w4 ⟨v4, rfl, h4⟩
      obtain ⟨A4, n4, k4, rfl⟩ := h4.1.slice
      have hB4 := hide (hB.out.trans ((h4.2.1.below (B := w.heap.size) (Nat.le_trans hwp.out hW.out.base) fun g hg => Nat.le_trans hwp.out (World.ownsRow.lt hR.out g hg).1)))
      have hW4 := hide (hW.out.upd h4.2.1 fun g hg hf => hne.out g hf hg)
      have hne4 := hide (fun g (hg : Value.ownBlock (.slice A4 n4 k4) = some g) => (show ¬ Fp p v' g from fun hf => by
        rcases h4.2.2 g hg with h5 | h5
        · exact hne.out g h5 hf
        · have := Fp.lt hW.out hf; omega))
      replace h4 := hide h4.1
      clear hW hR hne hN c0 c1' c2 c3 c4 c5 c6 c7 c8
      obtain ⟨c0, c1', c2, c3, c4, c5, c6, c7, c8⟩ := hd.out w4 hB4.out
      have hfin := hide (fun (W : World) (V : Value) (L : List UInt8) (h : WStep p p w4 v' W L V) (hL : L = partsB (qs.take (k + 1))) => (show Below w.heap.size w W ∧ Wr W p p (partsB (qs.take (k + 1))) V ∧ RowB W p (.slice A4 n4 k4) (partsB (qs.take k) ++ PartD.bytes ⟨what, n, t, s⟩) ∧ ∀ g, Value.ownBlock (.slice A4 n4 k4) = some g → ¬ Fp p V g from
        ⟨hB4.out.trans ((h.below hW4.out).mono hwp.out), hL ▸ h.1, h.2.1.own h4.out fun g hg => hne4.out g hg, fun g hg hf => by
          rcases hf with hf | hf
          · exact hne4.out g hg (.inl hf)
          · rcases h.2.2 g hf with h5 | h5
            · exact hne4.out g hg (.inr h5)
            · have := (World.ownsRow.lt h4.out g hg).2; omega⟩))
      have hfpw := hide (fun g (hg : g < w.heap.size) => (show ¬ Fp p v' g from fun hf => by
        rcases hf with hf | hf
        · have := hwp.out; omega
        · have := (World.ownsRow.lt hW4.out.2.2 g hf).1; have := hwp.out; omega))
      have hmod : what % 5 = 0 ∨ what % 5 = 1 ∨ what % 5 = 2 ∨ what % 5 = 3 ∨ what % 5 = 4 := by omega
      have hput : ∀ r : Nat, what % 5 = r → (PartD.bytes ⟨what, n, t, s⟩ = match r with | 0 => num n | 1 => num (zig (toI n)) | 2 => text t | 3 => [bit (n % 2 == 1)] | _ => s.bytes) := by
        intro r hr
        unfold PartD.bytes
        rw [hr]
        rfl
      replace hput := hide hput
      replace hd := hide hd.out
      have hn64 : n < 18446744073709551616 := hok1.out.2.1
      have hwr := toI_wrap hn64
      have hfit := hide (toI_fits hn64)
      have ht100 : t.size ≤ 100 := hli1.out.1
      clear hd
      rcases hmod with h | h | h | h | h
      · have hm : (what : Int) % 5 = 0 := by omega
        replace h := hide h
        go_wp2_with fail
        refine (wNum_any p p _ v' [n] _ _ (hW4.out.alloc _) (ArgV.one (by simp [go_sem]; done) ?_) ?_ ?_).mono ?_
        · exact fun h => Nat.lt_irrefl _ (Fp.lt hW4.out h)
        · intro n hn'; rw [List.mem_singleton] at hn'; subst hn'; exact hn64
        · have := hl1.out; simp only [List.length_singleton]; omega
        rintro e w5 ⟨rfl, v5, h5⟩
        rw [nums_one] at h5
        have h6 := hfin.out w5 v5 _ ((WStep.refl hW4.out).alloc _ |>.trans h5) (by rw [hsn.out, hput.out 0 h.out]; rfl)
        go_wp2_with fail
        go_roundw
        case rel =>
          refine ⟨k + 1, v5, A4, n4, k4, by omega, by go_num, rfl, h6.1, h6.2.1, ?_, h6.2.2.2⟩
          rw [hsn.out]
          exact h6.2.2.1
        case measure => simp [intOf]; omega
      · have hm : (what : Int) % 5 = 1 := by omega
        replace h := hide h
        go_wp2_with fail
        refine (wInt_any p p _ v' [toI n] _ _ (hW4.out.alloc _) (ArgV.one (by simp [go_sem]; done) ?_) ?_ ?_).mono ?_
        · exact fun h => Nat.lt_irrefl _ (Fp.lt hW4.out h)
        · intro n hn'; rw [List.mem_singleton] at hn'; subst hn'; exact hfit.out
        · have := hl1.out; simp only [List.length_singleton]; omega
        rintro e w5 ⟨rfl, v5, h5⟩
        rw [List.map_cons, List.map_nil, nums_one] at h5
        have h6 := hfin.out w5 v5 _ ((WStep.refl hW4.out).alloc _ |>.trans h5) (by rw [hsn.out, hput.out 1 h.out]; rfl)
        go_wp2_with fail
        go_roundw
        case rel =>
          refine ⟨k + 1, v5, A4, n4, k4, by omega, by go_num, rfl, h6.1, h6.2.1, ?_, h6.2.2.2⟩
          rw [hsn.out]
          exact h6.2.2.1
        case measure => simp [intOf]; omega
      · have hm : (what : Int) % 5 = 2 := by omega
        replace h := hide h
        go_wp2_with fail
        refine (wText_any p p _ v' [t] _ _ (hW4.out.alloc _) (ArgV.one (by simp [go_sem]; done) ?_) ?_).mono ?_
        · exact fun h => Nat.lt_irrefl _ (Fp.lt hW4.out h)
        · rw [texts_one]; have := hl1.out; have := text_le t (by omega); omega
        rintro e w5 ⟨rfl, v5, h5⟩
        rw [texts_one] at h5
        have h6 := hfin.out w5 v5 _ ((WStep.refl hW4.out).alloc _ |>.trans h5) (by rw [hsn.out, hput.out 2 h.out]; rfl)
        go_wp2_with fail
        go_roundw
        case rel =>
          refine ⟨k + 1, v5, A4, n4, k4, by omega, by go_num, rfl, h6.1, h6.2.1, ?_, h6.2.2.2⟩
          rw [hsn.out]
          exact h6.2.2.1
        case measure => simp [intOf]; omega
      · have hm : (what : Int) % 5 = 3 := by omega
        replace h := hide h
        have hb2 : ((n : Int) % 2 == 1) = (n % 2 == 1) := by rw [Bool.eq_iff_iff]; simp; omega
        generalize (n % 2 == 1) = bb at *
        go_wp2_with fail
        refine (wBool_any p p _ v' [bb] _ _ (hW4.out.alloc _) (ArgV.one (by simp [go_sem]; done) ?_) ?_).mono ?_
        · exact fun h => Nat.lt_irrefl _ (Fp.lt hW4.out h)
        · have := hl1.out; simp only [List.length_singleton]; omega
        rintro e w5 ⟨rfl, v5, h5⟩
        have h6 := hfin.out w5 v5 _ ((WStep.refl hW4.out).alloc _ |>.trans h5) (by rw [hsn.out, hput.out 3 h.out]; rfl)
        go_wp2_with fail
        go_roundw
        case rel =>
          refine ⟨k + 1, v5, A4, n4, k4, by omega, by go_num, rfl, h6.1, h6.2.1, ?_, h6.2.2.2⟩
          rw [hsn.out]
          exact h6.2.2.1
        case measure => simp [intOf]; omega
      · have hm : (what : Int) % 5 = 4 := by omega
        replace h := hide h
        have hq := hinW.out w4 hB4.out
        have hqa : ArgN w4 (· < w.heap.size) (.slice Aa s.alarms.length ca) s.alarms.length (s.alarms.map AlarmD.cells).flatten := hq.1
        have hqm : ArgN w4 (· < w.heap.size) (.slice Am s.mod.length cm) s.mod.length (s.mod.map NamedD.cells).flatten := hq.2
        have hso : s.ok := hok1.out.2.2
        have hsl : s.light := hli1.out.2
        have hS := hide (wSummary_any p p (partsB (qs.take k)) v' (.slice Aa s.alarms.length ca) (.slice Am s.mod.length cm) s (w4.alloc (.cells (sumCells (.slice Aa s.alarms.length ca) s (.slice Am s.mod.length cm)) 35)) w4.heap.size
          (fun i u hu => by rw [cell_at (heap_new _ _)]; exact hu)
          ((hqa.upd (.of_below (fun _ => False) ((Below.refl _ _).alloc (Nat.le_refl _) _)) fun _ _ => id).mono fun g _ hg => hfpw.out g hg)
          ((hqm.upd (.of_below (fun _ => False) ((Below.refl _ _).alloc (Nat.le_refl _) _)) fun _ _ => id).mono fun g _ hg => hfpw.out g hg) hso hsl (hW4.out.alloc _) (by have := hl1.out; omega))
        clear hq hqa hqm hso hsl
        go_wp2_with fail
        refine hS.out.mono ?_
        rintro e w5 ⟨rfl, v5, h5⟩
        have h6 := hfin.out w5 v5 _ ((WStep.refl hW4.out).alloc _ |>.trans h5) (by rw [hsn.out, hput.out 4 h.out]; rfl)
        go_wp2_with fail
        go_roundw
        case rel =>
          refine ⟨k + 1, v5, A4, n4, k4, by omega, by go_num, rfl, h6.1, h6.2.1, ?_, h6.2.2.2⟩
          rw [hsn.out]
          exact h6.2.2.1
        case measure => simp [intOf]; omega
    · obtain rfl : k = qs.length := by omega
      rw [List.take_length] at hW hR
      have hll := hlen.out qs.length
      rw [List.take_length] at hll
      have hWb := wr_new wr p hW.base
      have hpq := hW.lt
      have hRq := hide (fun g (hg : Value.ownBlock (.slice A1 n1 c1) = some g) => (World.ownsRow.lt hR g hg).2)
      have hWq := hide (fun g (hg : Fp p v' g) => Fp.lt hW hg)
      replace hW := hide (hW.alloc (.cells #[.slice none 0 0] 75))
      replace hR := hide (World.ownsRow.alloc hR (.cells #[.slice none 0 0] 75))
      have hB4 := hide (hB.alloc hB.size (.cells #[.slice none 0 0] 75))
      clear hB hne
      generalize partsB qs = L at *
      go_wp2_with fail
      refine (newWriter_any _).mono ?_
      rintro e w4 ⟨rfl, rfl⟩
      generalize wr.alloc (.cells #[.slice none 0 0] 75) = w4 at *
      generalize wr.heap.size = q at *
      have hq4 := hWb.lt
      replace hWb := hide hWb
      replace hpq := hide hpq
      replace hq4 := hide hq4
      go_wp2_with fail
      refine (l2_any _ qs w4 w.heap.size (hx.out.below hB4.out (Nat.le_refl _)) hB4.out.size hl12).mono ?_
      rintro e w5 ⟨v5, rfl, h5, hb5⟩
      have hnof := Upd.of_below (fun _ => False) hb5
      replace hB4 := hide (hB4.out.trans (hb5.mono hB4.out.size))
      replace hW := hide (hW.out.upd hnof fun _ _ => id)
      replace hR := hide (hnof.own hR.out fun _ _ => id)
      replace hWb := hide (hWb.out.upd hnof fun _ _ => id)
      have ht5 : (texts (textsOf qs)).length ≤ 110 * qs.length := by
        have := texts_small (textsOf qs) (fun t ht => by
          unfold textsOf at ht
          rw [List.mem_map] at ht
          obtain ⟨q, hq, rfl⟩ := ht
          exact (hlt.out q hq).1)
        simpa [textsOf] using this
      go_wp2_with fail
      refine (wText_any p q [] _ (textsOf qs) v5 w5 hWb.out ((own_argV h5 (by simp [textsOf])).mono fun g _ hg hf => ?_) (by simp only [List.length_nil]; omega)).mono ?_
      · rcases hf with hf | hf
        · have := (h5.lt g hg).1; have := hq4.out; omega
        · cases hf
      rintro e w6 ⟨rfl, v6, h6⟩
      rw [List.nil_append] at h6
      replace hB4 := hide (hB4.out.trans ((h6.below hWb.out).mono hwp.out))
      replace hW := hide (hW.out.upd h6.2.1 (by
        rintro g hg (hf | hf)
        · have := hWq.out g hg; omega
        · cases hf))
      replace hR := hide (h6.2.1.own hR.out (by
        rintro g hg (hf | hf)
        · have := hRq.out g hg; omega
        · cases hf))
      replace h6 := hide h6.1
      clear hnof hb5 h5 hWb
      go_wp2_with fail
      go_loopw [7, 8] (fun vm i wr => ∃ (k : Nat) (A2 : Option Addr) (n2 c2 : Nat), k ≤ qs.length ∧ i = .int .i64 k ∧ vm = .slice A2 n2 c2 ∧ RRow w6 (fun _ => False) wr p (.slice A2 n2 c2) (texts ((textsOf qs).take k))) (fun _ i _ => qs.length - (intOf i).toNat)
      case atStart => exact ⟨0, _, _, _, Nat.zero_le _, rfl, rfl, by simpa [texts] using RowB.nil_ _ _, .refl _ _, fun g hg => by cases hg⟩
      case round =>
        obtain ⟨k, A2, n2, c2, hk, rfl, rfl, hM⟩ := hrel
        have hBw : Below w.heap.size w wr := hB4.out.trans (hM.2.1.below hB4.out.size fun _ h => h.elim)
        by_cases hlk : k < qs.length
        · have hxr := hx.out.below hBw (Nat.le_refl _)
          obtain ⟨-, b, o, rfl, hb, hcell⟩ := hxr.at_ hlk
          have c2 : wr.cell? ⟨b, o + k * 9 + 2, none⟩ = some (.string qs[k].1.t) := hcell 2 _ (by decide) rfl
          have hts : k < (textsOf qs).length := by simpa [textsOf] using hlk
          have hsn := texts_snoc (textsOf qs) k hts
          have hge : (textsOf qs)[k] = qs[k].1.t := by simp [textsOf]
          rw [hge] at hsn
          have hle := texts_le (textsOf qs) (k + 1)
          have hsz := (hlt.out _ (List.getElem_mem hlk)).1
          rw [hsn, List.length_append] at hle
          have htl := text_len qs[k].1.t
          clear hcell hxr hge
          generalize qs[k].1.t = t0 at *
          have hN := hide (refText_any p _ (texts ((textsOf qs).take k)) _ t0 wr hM.app (Nat.le_trans (Nat.le_trans hW.out.base (Nat.le_refl _)) hM.2.1.size) (by omega))
          replace hM := hide hM
          replace hBw := hide hBw
          replace hsn := hide hsn
          clear hle htl hsz
          go_wp2_with fail
          refine hN.out.mono ?_
          rintro e w7 ⟨v7, rfl, h7⟩
          obtain ⟨A7, n7, k7, rfl⟩ := h7.1.slice
          go_wp2_with fail
          go_roundw
          case rel =>
            refine ⟨k + 1, A7, n7, k7, by omega, by go_num, rfl, ?_⟩
            rw [hsn.out]
            exact hM.out.trans h7
          case measure => simp [intOf]; omega
        · obtain rfl : k = qs.length := by omega
          have htk : (textsOf qs).take qs.length = textsOf qs := List.take_of_length_le (by simp [textsOf])
          rw [htk] at hM
          clear htk
          have hW8 := hide (hW.out.upd hM.2.1 fun _ _ => id)
          have hR8 := hide (show RowB wr p (.slice A1 n1 c1) L from hM.2.1.own hR.out fun _ _ => id)
          have h8 := hide (h6.out.upd hM.2.1 fun _ _ => id)
          have hM8 := hide hM.1
          have hbel := hide hBw
          have hll1 := hide (show L.length ≤ 70368744177664 by omega)
          have hll2 := hide (show (texts (textsOf qs)).length ≤ 70368744177664 by omega)
          clear hW hR h6 hM hBw hB4 hWq hRq ht5 hll hpq hq4 hlen hlt
          generalize texts (textsOf qs) = M at *
          go_wp2_with fail
          refine wp_region_flow (fun _ => False) (factAt [(fun v _ => v = (.pointer (some ⟨p, 0, none⟩))), (fun v w => RowB w wr.heap.size v L), (fun v _ => v = (.string ⟨L.toArray⟩)), (fun v _ => v = (.slice A1 n1 c1)), (fun v _ => v = (.string ⟨L.toArray⟩)), (fun v _ => v = (.bool true)), (fun v _ => v = (.bool true)), (fun v _ => v = (.pointer (some ⟨q, 0, none⟩))), (fun v w => RowB w wr.heap.size v M), (fun v _ => v = (.string ⟨M.toArray⟩)), (fun v _ => v = (.slice A2 n2 c2)), (fun v _ => v = (.string ⟨M.toArray⟩)), (fun v _ => v = (.bool true)), (fun v _ => v = (.bool true)), (fun v _ => v = (.bool true))]) [] (fun _ => True) (by kernel_rfl) (fkept_at ⟨FKept.eq _, rowB_kept (fun _ h => h.elim), FKept.eq _, FKept.eq _, FKept.eq _, FKept.eq _, FKept.eq _, FKept.eq _, rowB_kept (fun _ h => h.elim), FKept.eq _, FKept.eq _, FKept.eq _, FKept.eq _, FKept.eq _, FKept.eq _, trivial⟩) (fun _ _ h _ => h) trivial (by kernel_rfl) (by kernel_rfl) (by kernel_rfl) (by kernel_rfl) (Nat.le_of_ble_eq_true (by kernel_rfl)) ?_ ⟨?_, ?_, ?_, ?_, ?_, ?_, ?_, ?_, ?_, ?_, ?_, ?_, ?_, ?_, ?_, trivial⟩ ?_
          · first | exact trivial | assumption
          · intro T w Q hu hs hv hw hd
            have hx3 : T.getD 3 undef = (.pointer (some ⟨p, 0, none⟩)) := hv 3 (by kernel_rfl)
            refine .inl ⟨wanted_none rfl, ?_⟩
            clear hd hv hu hs hw
            go_simp
            exact ⟨_, rfl, DstOk.some rfl, Below.refl _ _, rfl⟩
          · intro T w Q hu hs hv hw hd
            have hx102 : T.getD 102 undef = (.pointer (some ⟨p, 0, none⟩)) := Deps.at 0 hd (by kernel_rfl)
            refine .inl ⟨wanted_none rfl, ?_⟩
            clear hd hv hs hw
            go_simp
            refine (bytes_any p p L v' _ (hW8.out.upd hu fun _ _ h => h) hll1.out).mono ?_
            rintro e w2 ⟨v2, rfl, h2, hb2⟩
            exact ⟨_, rfl, DstOk.some rfl, hb2, RowB.base h2 hu.size⟩
          · intro T w Q hu hs hv hw hd
            have f103 : (fun (v : Value) (w : World) => RowB w wr.heap.size v L) (T.getD 103 undef) w := Deps.at 1 hd (by kernel_rfl)
            generalize hx103 : T.getD 103 undef = x103 at f103
            replace f103 := hide f103
            refine .inl ⟨wanted_none rfl, ?_⟩
            have hcv := f103.out.bytes.string (P := Try.prog) Try.underlying27 Try.underlying5 Try.underlying9
            clear hd hv hs hu hw
            go_simp
            exact ⟨_, rfl, DstOk.some rfl, Below.refl _ _, rfl⟩
          · intro T w Q hu hs hv hw hd
            have hx4 : T.getD 4 undef = (.slice A1 n1 c1) := hv 4 (by kernel_rfl)
            refine .inl ⟨wanted_none rfl, ?_⟩
            clear hd hv hu hs hw
            go_simp
            exact ⟨_, rfl, DstOk.some rfl, Below.refl _ _, rfl⟩
          · intro T w Q hu hs hv hw hd
            have hx105 : T.getD 105 undef = (.slice A1 n1 c1) := Deps.at 3 hd (by kernel_rfl)
            refine .inl ⟨wanted_none rfl, ?_⟩
            have hcv := (RowB.bytes (hu.own hR8.out fun _ _ h => h)).string (P := Try.prog) Try.underlying27 Try.underlying5 Try.underlying9
            clear hd hv hs hu hw
            go_simp
            exact ⟨_, rfl, DstOk.some rfl, Below.refl _ _, rfl⟩
          · intro T w Q hu hs hv hw hd
            have hx104 : T.getD 104 undef = (.string ⟨L.toArray⟩) := Deps.at 2 hd (by kernel_rfl)
            have hx106 : T.getD 106 undef = (.string ⟨L.toArray⟩) := Deps.at 4 hd (by kernel_rfl)
            refine .inl ⟨wanted_none rfl, ?_⟩
            clear hd hv hs hu hw
            go_simp
            exact ⟨_, rfl, DstOk.some rfl, Below.refl _ _, (by show Value.bool _ = Value.bool true; simp)⟩
          · intro T w Q hu hs hv hw hd
            have hx107 : T.getD 107 undef = (.bool true) := Deps.at 5 hd (by kernel_rfl)
            refine .inl ⟨wanted_none rfl, ?_⟩
            clear hd hv hu hs hw
            go_simp
            exact ⟨_, rfl, DstOk.some rfl, Below.refl _ _, rfl⟩
          · intro T w Q hu hs hv hw hd
            have hx6 : T.getD 6 undef = (.pointer (some ⟨q, 0, none⟩)) := hv 6 (by kernel_rfl)
            refine .inl ⟨wanted_some rfl (Deps.at 6 hd (by kernel_rfl) : slotOf _ T 6 = .bool true), ?_⟩
            clear hd hv hu hs hw
            go_simp
            exact ⟨_, rfl, DstOk.some rfl, Below.refl _ _, rfl⟩
          · intro T w Q hu hs hv hw hd
            have hx109 : T.getD 109 undef = (.pointer (some ⟨q, 0, none⟩)) := Deps.at 7 hd (by kernel_rfl)
            refine .inl ⟨wanted_some rfl (Deps.at 6 hd (by kernel_rfl) : slotOf _ T 6 = .bool true), ?_⟩
            clear hd hv hs hw
            go_simp
            refine (bytes_any p q M v6 _ (h8.out.upd hu fun _ _ h => h) hll2.out).mono ?_
            rintro e w2 ⟨v2, rfl, h2, hb2⟩
            exact ⟨_, rfl, DstOk.some rfl, hb2, RowB.base h2 hu.size⟩
          · intro T w Q hu hs hv hw hd
            have f110 : (fun (v : Value) (w : World) => RowB w wr.heap.size v M) (T.getD 110 undef) w := Deps.at 8 hd (by kernel_rfl)
            generalize hx110 : T.getD 110 undef = x110 at f110
            replace f110 := hide f110
            refine .inl ⟨wanted_some rfl (Deps.at 6 hd (by kernel_rfl) : slotOf _ T 6 = .bool true), ?_⟩
            have hcv := f110.out.bytes.string (P := Try.prog) Try.underlying27 Try.underlying5 Try.underlying9
            clear hd hv hs hu hw
            go_simp
            exact ⟨_, rfl, DstOk.some rfl, Below.refl _ _, rfl⟩
          · intro T w Q hu hs hv hw hd
            have hx7 : T.getD 7 undef = (.slice A2 n2 c2) := hv 7 (by kernel_rfl)
            refine .inl ⟨wanted_some rfl (Deps.at 6 hd (by kernel_rfl) : slotOf _ T 6 = .bool true), ?_⟩
            clear hd hv hu hs hw
            go_simp
            exact ⟨_, rfl, DstOk.some rfl, Below.refl _ _, rfl⟩
          · intro T w Q hu hs hv hw hd
            have hx112 : T.getD 112 undef = (.slice A2 n2 c2) := Deps.at 10 hd (by kernel_rfl)
            refine .inl ⟨wanted_some rfl (Deps.at 6 hd (by kernel_rfl) : slotOf _ T 6 = .bool true), ?_⟩
            have hcv := (RowB.bytes (hu.own hM8.out fun _ _ h => h)).string (P := Try.prog) Try.underlying27 Try.underlying5 Try.underlying9
            clear hd hv hs hu hw
            go_simp
            exact ⟨_, rfl, DstOk.some rfl, Below.refl _ _, rfl⟩
          · intro T w Q hu hs hv hw hd
            have hx111 : T.getD 111 undef = (.string ⟨M.toArray⟩) := Deps.at 9 hd (by kernel_rfl)
            have hx113 : T.getD 113 undef = (.string ⟨M.toArray⟩) := Deps.at 11 hd (by kernel_rfl)
            refine .inl ⟨wanted_some rfl (Deps.at 6 hd (by kernel_rfl) : slotOf _ T 6 = .bool true), ?_⟩
            clear hd hv hs hu hw
            go_simp
            exact ⟨_, rfl, DstOk.some rfl, Below.refl _ _, (by show Value.bool _ = Value.bool true; simp)⟩
          · intro T w Q hu hs hv hw hd
            have hx108 : T.getD 108 undef = (.bool true) := Deps.at 6 hd (by kernel_rfl)
            have hx114 : T.getD 114 undef = (.bool true) := Deps.at 12 hd (by kernel_rfl)
            refine .inl ⟨wanted_none rfl, ?_⟩
            clear hd hv hu hs hw
            go_simp
            exact ⟨_, rfl, DstOk.some rfl, Below.refl _ _, rfl⟩
          · intro T w Q hu hs hv hw hd
            have hx115 : T.getD 115 undef = (.bool true) := Deps.at 13 hd (by kernel_rfl)
            refine .inl ⟨wanted_none rfl, ?_⟩
            clear hd hv hu hs hw
            go_simp
            exact ⟨_, rfl, DstOk.some rfl, Below.refl _ _, rfl⟩
          · intro T w hu hs hv hf hcur
            have f14 : T.getD 2 undef = (.bool true) := hf 14 (by decide)
            clear hf hs hv hcur
            go_wp2_with fail
            go_ret
            exact ⟨congrArg Ending.returned f14, hbel.out.trans (hu.below hbel.out.size fun _ h => h.elim)⟩
end Go.Proofs.Ytajpgkedlajjdaa

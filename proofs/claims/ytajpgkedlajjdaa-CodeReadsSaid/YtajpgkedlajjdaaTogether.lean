/- The walk of CodeTogether. -/
import Derived.Test.YtajpgkedlajjdaaMath2
import Derived.Test.YtajpgkedlajjdaaFlow
import Derived.Test.YtajpgkedlajjdaaInts
namespace Go.Proofs.Ytajpgkedlajjdaa
open Go.RowKit

theorem texts_small (ss : List ByteArray) (h : ∀ s ∈ ss, s.size ≤ 100) : (texts ss).length ≤ 110 * ss.length := by
  induction ss with
  | nil => simp [texts]
  | cons s ss ih =>
    have h1 := ih fun x hx => h x (List.mem_cons_of_mem _ hx)
    have h2 := h s (List.mem_cons_self ..)
    have h3 := num_len10 (n := s.size) (by omega)
    unfold texts at h1 ⊢
    have e : (text s).length = (num s.size).length + s.size := by unfold text; rw [List.length_append, toList_len]
    rw [List.map_cons, List.flatten_cons, List.length_append, List.length_cons, e]
    omega
theorem nums_small (ns : List Nat) (h : ∀ n ∈ ns, n < 18446744073709551616) : (nums ns).length ≤ 10 * ns.length := by
  have := nums_take_len ns ns.length h
  rwa [List.take_length] at this
theorem argFor {w W : World} {B P : Nat} {l : List UInt8} {v x : Value} {xs : List Value} (hx : ArgV w (· < w.heap.size) x xs) (hb : Below w.heap.size w W) (h : Wr W B P l v) (hB : w.heap.size ≤ B) : ArgV W (fun k => ¬ Fp P v k) x xs :=
  (hx.upd (.of_below (fun _ => False) hb) fun _ _ => id).mono fun k _ hk hf => by
    have hk' : k < w.heap.size := hk
    rcases hf with rfl | hf
    · have := h.1; omega
    · have := (World.ownsRow.lt h.2.2 k hf).1; omega
theorem zigs_lt {is : List Int} (h : ∀ n ∈ is, -9223372036854775808 ≤ n ∧ n ≤ 9223372036854775807) : ∀ n ∈ is.map zig, n < 18446744073709551616 := fun n hn => by
  rw [List.mem_map] at hn
  obtain ⟨z, hz, rfl⟩ := hn
  exact zig_lt (h z hz).1 (h z hz).2
theorem texts_one (s : ByteArray) : texts [s] = text s := by simp [texts]
theorem WStep.start {B p : Nat} {w w' : World} {v v' : Value} {l' : List UInt8} (h : WStep B p w v w' l' v') : ∀ k, v'.ownBlock = some k → v.ownBlock = some k ∨ w.heap.size ≤ k := h.2.2

set_option maxRecDepth 100000 in
set_option maxHeartbeats 6400000 in
theorem together_any (vn vi vs vb : Value) (ns : List Nat) (is : List Int) (ss : List ByteArray) (bs : List Bool) (w : World)
    (hn : ArgV w (· < w.heap.size) vn (ns.map fun n : Nat => .int .u64 n)) (hi : ArgV w (· < w.heap.size) vi (is.map fun n : Int => .int .i64 n)) (hs : ArgV w (· < w.heap.size) vs (ss.map Value.string)) (hb : ArgV w (· < w.heap.size) vb (bs.map Value.bool))
    (hnl : ∀ n ∈ ns, n < 18446744073709551616) (hil : ∀ n ∈ is, -9223372036854775808 ≤ n ∧ n ≤ 9223372036854775807) :
    Calls Try.prog 8 #[vn, vi, vs, vb] w fun e w' => e = .returned (.bool true) ∧ Below w.heap.size w w' := by
  have hn0 := hide hn
  have hi0 := hide hi
  have hs0 := hide hs
  have hb0 := hide hb
  obtain ⟨An, cn, rfl, -, hcn, -⟩ := hn
  obtain ⟨Ai, ci, rfl, -, hci, -⟩ := hi
  obtain ⟨As, cs, rfl, -, hcs, -⟩ := hs
  obtain ⟨Ab, cb, rfl, -, hcb, -⟩ := hb
  rw [List.length_map] at *
  have hcn' : ns.length ≤ 2 ^ 63 - 1 := by
    obtain ⟨_, _, h, h1, h2, -⟩ := hn0.out
    rw [List.length_map] at h1; unfold maxLen at h2; omega
  have hci' : is.length ≤ 2 ^ 63 - 1 := by
    obtain ⟨_, _, h, h1, h2, -⟩ := hi0.out
    rw [List.length_map] at h1; unfold maxLen at h2; omega
  have hcs' : ss.length ≤ 2 ^ 63 - 1 := by
    obtain ⟨_, _, h, h1, h2, -⟩ := hs0.out
    rw [List.length_map] at h1; unfold maxLen at h2; omega
  have hcb' : bs.length ≤ 2 ^ 63 - 1 := by
    obtain ⟨_, _, h, h1, h2, -⟩ := hb0.out
    rw [List.length_map] at h1; unfold maxLen at h2; omega
  replace hnl := hide hnl
  replace hil := hide hil
  clear hcn hci hcs hcb
  have early : ∀ (w1 : World), Below w.heap.size w w1 → True := fun _ _ => trivial
  clear early
  by_cases ln : ns.length ≤ 20
  case neg =>
    go_enter Try.func8, Try.ntmps8
    go_wp2_with fail
    refine (known_any _).mono ?_
    rintro e w1 ⟨rfl, hb1⟩
    go_wp2_with fail
    go_ret
    exact ⟨rfl, hb1⟩
  by_cases li : is.length ≤ 20
  case neg =>
    go_enter Try.func8, Try.ntmps8
    go_wp2_with fail
    refine (known_any _).mono ?_
    rintro e w1 ⟨rfl, hb1⟩
    go_wp2_with fail
    go_ret
    exact ⟨rfl, hb1⟩
  by_cases ls : ss.length ≤ 20
  case neg =>
    go_enter Try.func8, Try.ntmps8
    go_wp2_with fail
    refine (known_any _).mono ?_
    rintro e w1 ⟨rfl, hb1⟩
    go_wp2_with fail
    go_ret
    exact ⟨rfl, hb1⟩
  by_cases lb : bs.length ≤ 20
  case neg =>
    go_enter Try.func8, Try.ntmps8
    go_wp2_with fail
    refine (known_any _).mono ?_
    rintro e w1 ⟨rfl, hb1⟩
    go_wp2_with fail
    go_ret
    exact ⟨rfl, hb1⟩
  go_enter Try.func8, Try.ntmps8
  go_wp2_with fail
  refine (known_any _).mono ?_
  rintro e w1 ⟨rfl, hb1⟩
  replace hb1 := hide hb1
  go_wp2_with fail
  refine (newWriter_any _).mono ?_
  rintro e w2 ⟨rfl, rfl⟩
  have hWa := wr_new w1 w1.heap.size (Nat.le_refl _)
  have hB := hide (hb1.out.trans ((Below.refl w.heap.size w1).alloc hb1.out.size (.cells #[.slice none 0 0] 75)))
  have hwp := hide (hb1.out.size)
  generalize w1.alloc (.cells #[.slice none 0 0] 75) = w2 at *
  generalize w1.heap.size = p at *
  go_wp2_with fail
  refine (newWriter_any _).mono ?_
  rintro e w3 ⟨rfl, rfl⟩
  have hpq := hWa.lt
  have hWb := wr_new w2 p (Nat.le_of_lt hpq)
  replace hB := hide (hB.out.alloc hB.out.size (.cells #[.slice none 0 0] 75))
  replace hWa := hide (hWa.alloc (.cells #[.slice none 0 0] 75))
  generalize w2.alloc (.cells #[.slice none 0 0] 75) = w3 at *
  generalize w2.heap.size = q at *
  have hq3 := hide hWb.lt
  replace hWb := hide hWb
  replace hpq := hide hpq
  have hSa := hide (WStep.refl hWa.out)
  have hBw := hide (fun (W : World) (v : Value) (l : List UInt8) (h : WStep p p w3 (.slice none 0 0) W l v) => hB.out.trans ((h.below hWa.out).mono hwp.out))
  have hnn := hide (nums_small ns hnl.out)
  have hii := hide (nums_small _ (zigs_lt hil.out))
  go_wp2_with fail
  refine (wNum_any p p [] _ ns _ _ hWa.out (argFor hn0.out hB.out hWa.out hwp.out) hnl.out ?_).mono ?_
  · simp only [List.length_nil]; omega
  rintro e w4 ⟨rfl, v4, h4⟩
  rw [List.nil_append] at h4
  replace h4 := hide h4
  go_wp2_with fail
  refine (wInt_any p p _ v4 is _ _ h4.out.1 (argFor hi0.out (hBw.out _ _ _ h4.out) h4.out.1 hwp.out) hil.out ?_).mono ?_
  · have := hnn.out; omega
  rintro e w5 ⟨rfl, v5, h5⟩
  replace h5 := hide (h4.out.trans h5)
  clear h4
  go_wp2_with fail
  go_loop [11] (fun i => ∃ k : Nat, k ≤ ss.length ∧ i = .int .i64 k ∧ ∀ (j : Nat) (h : j < ss.length), j < k → ss[j].size ≤ 100) (fun i => ss.length - (intOf i).toNat)
  case atStart => exact ⟨0, Nat.zero_le _, rfl, fun j _ h => by omega⟩
  case round =>
    obtain ⟨k, hk, rfl, hsm⟩ := hrel
    replace hsm := hide hsm
    by_cases hlt : k < ss.length
    · obtain ⟨b, o, rfl, hbk, hcell⟩ := (hs0.out.upd (.of_below (fun _ => False) (hBw.out _ _ _ h5.out)) fun _ _ => id).get (i := k) (u := .string ss[k]) (by simp [hlt])
      by_cases hsz : ss[k].size ≤ 100
      · have hnext : ∀ (j : Nat) (h : j < ss.length), j < k + 1 → ss[j].size ≤ 100 := fun j h hj => by
          rcases Nat.lt_or_ge j k with h1 | h1
          · exact hsm.out j h h1
          · obtain rfl : j = k := by omega
            exact hsz
        replace hnext := hide hnext
        generalize ss[k] = s0 at *
        go_wp2_with fail
        go_round
        case rel => exact ⟨k + 1, by omega, by go_num, hnext.out⟩
        case measure => simp [intOf]; omega
      · generalize ss[k] = s0 at *
        go_wp2_with fail
        go_ret
        exact ⟨rfl, hBw.out _ _ _ h5.out⟩
    · obtain rfl : k = ss.length := by omega
      have hst := hide (texts_small ss fun s hs => by
        obtain ⟨j, hj, rfl⟩ := List.getElem_of_mem hs
        exact hsm.out j hj hj)
      clear hsm
      go_wp2_with fail
      refine (wText_any p p _ v5 ss _ _ h5.out.1 (argFor hs0.out (hBw.out _ _ _ h5.out) h5.out.1 hwp.out) ?_).mono ?_
      · have := hnn.out; have := hii.out; have := hst.out; simp only [List.length_append, List.length_map] at *; omega
      rintro e w6 ⟨rfl, v6, h6⟩
      replace h6 := hide (h5.out.trans h6)
      clear h5
      go_wp2_with fail
      refine (wBool_any p p _ v6 bs _ _ h6.out.1 (argFor hb0.out (hBw.out _ _ _ h6.out) h6.out.1 hwp.out) ?_).mono ?_
      · have := hnn.out; have := hii.out; have := hst.out; simp only [List.length_append, List.length_map] at *; omega
      rintro e w7 ⟨rfl, va, h7⟩
      replace h7 := hide (h6.out.trans h7)
      clear h6
      replace hWb : Hid (Wr w7 p q [] (.slice none 0 0)) := hide (hWb.out.upd h7.out.2.1 (by
        rintro k (rfl | hk) (hf | hf)
        · have := hpq.out; omega
        · cases hf
        · cases hk
        · cases hk))
      have hva : ∀ k, Fp p va k → k ≠ q := by
        rintro k (rfl | hk) rfl
        · exact absurd hpq.out (Nat.lt_irrefl _)
        · rcases h7.out.2.2 k hk with h | h
          · cases h
          · have := hq3.out; omega
      replace hva := hide hva
      have hB7 := hide (hBw.out _ _ _ h7.out)
      replace hWa := hide h7.out.1
      clear hBw h7 hq3 hB
      have hBq := hide (fun (W : World) (v : Value) (l : List UInt8) (h : WStep p q w7 (.slice none 0 0) W l v) => hB7.out.trans ((h.below hWb.out).mono hwp.out))
      go_wp2_with fail
      go_loopw [12] (fun i wr => ∃ (k : Nat) (v' : Value), k ≤ ns.length ∧ i = .int .i64 k ∧ WStep p q w7 (.slice none 0 0) wr (nums (ns.take k)) v') (fun i _ => ns.length - (intOf i).toNat)
      case atStart => exact ⟨0, _, Nat.zero_le _, rfl, by simpa [nums] using WStep.refl hWb.out⟩
      case round =>
        obtain ⟨k, v', hk, rfl, hS⟩ := hrel
        have hx1 := argFor hn0.out (hBq.out _ _ _ hS) hS.1 hwp.out
        replace hS := hide hS
        by_cases hlt : k < ns.length
        · obtain ⟨b, o, rfl, hb, hcell⟩ := hx1.get (i := k) (u := .int .u64 ns[k]) (by simp [hlt])
          have hm := hnl.out _ (List.getElem_mem hlt)
          have hsn := hide (nums_snoc ns k hlt)
          have hl2 := hide (nums_take_len ns k hnl.out)
          generalize ns[k] = n0 at *
          clear hx1
          go_wp2_with fail
          refine (wNum_any p q _ v' [n0] _ _ (hS.out.alloc _).1 (ArgV.one (by simp [go_sem]; done) ?_) ?_ ?_).mono ?_
          · exact fun h => Nat.lt_irrefl _ (Fp.lt hS.out.1 h)
          · intro n hn'; rw [List.mem_singleton] at hn'; subst hn'; exact hm
          · have := hl2.out; simp only [List.length_singleton]; omega
          rintro e w8 ⟨rfl, v8, h8⟩
          rw [nums_one] at h8
          go_wp2_with fail
          go_roundw
          case rel =>
            refine ⟨k + 1, v8, by omega, by go_num, ?_⟩
            rw [hsn.out]
            exact (hS.out.alloc _).trans h8
          case measure => simp [intOf]; omega
        · obtain rfl : k = ns.length := by omega
          rw [List.take_length] at hS
          clear hx1
          have hS1 := hide (hide hS).out
          clear hS
          go_wp2_with fail
          go_loopw [13] (fun i wr => ∃ (k : Nat) (v' : Value), k ≤ is.length ∧ i = .int .i64 k ∧ WStep p q w7 (.slice none 0 0) wr (nums ns ++ nums ((is.map zig).take k)) v') (fun i _ => is.length - (intOf i).toNat)
          case atStart => exact ⟨0, _, Nat.zero_le _, rfl, by rw [List.take_zero, show nums [] = [] from rfl, List.append_nil]; exact hS1.out⟩
          case round =>
            clear hS1
            obtain ⟨k, v', hk, rfl, hS⟩ := hrel
            have hx1 := argFor hi0.out (hBq.out _ _ _ hS) hS.1 hwp.out
            replace hS := hide hS
            by_cases hlt : k < is.length
            · obtain ⟨b, o, rfl, hb, hcell⟩ := hx1.get (i := k) (u := .int .i64 is[k]) (by simp [hlt])
              have hm := hide (hil.out _ (List.getElem_mem hlt))
              have hsn := hide (nums_snoc (is.map zig) k (by simpa using hlt))
              have he : (is.map zig)[k]'(by simpa using hlt) = zig is[k] := by simp
              rw [he] at hsn
              clear he
              have hl2 := hide (nums_take_len (is.map zig) k (zigs_lt hil.out))
              generalize is[k] = n0 at *
              clear hx1
              go_wp2_with fail
              refine (wInt_any p q _ v' [n0] _ _ (hS.out.alloc _).1 (ArgV.one (by simp [go_sem]; done) ?_) ?_ ?_).mono ?_
              · exact fun h => Nat.lt_irrefl _ (Fp.lt hS.out.1 h)
              · intro n hn'; rw [List.mem_singleton] at hn'; subst hn'; exact hm.out
              · have := hl2.out; have := hnn.out; simp only [List.length_append, List.length_singleton]; omega
              rintro e w8 ⟨rfl, v8, h8⟩
              rw [List.map_cons, List.map_nil, nums_one] at h8
              go_wp2_with fail
              go_roundw
              case rel =>
                refine ⟨k + 1, v8, by omega, by go_num, ?_⟩
                rw [hsn.out, ← List.append_assoc]
                exact (hS.out.alloc _).trans h8
              case measure => simp [intOf]; omega
            · obtain rfl : k = is.length := by omega
              rw [List.take_of_length_le (by simp)] at hS
              clear hx1
              go_wp2_with fail
              go_loopw [14] (fun i wr => ∃ (k : Nat) (v' : Value), k ≤ ss.length ∧ i = .int .i64 k ∧ WStep p q w7 (.slice none 0 0) wr (nums ns ++ nums (is.map zig) ++ texts (ss.take k)) v') (fun i _ => ss.length - (intOf i).toNat)
              case atStart => exact ⟨0, _, Nat.zero_le _, rfl, by simpa [texts] using hS.out⟩
              case round =>
                clear hS
                obtain ⟨k, v', hk, rfl, hS⟩ := hrel
                have hx1 := argFor hs0.out (hBq.out _ _ _ hS) hS.1 hwp.out
                replace hS := hide hS
                by_cases hlt : k < ss.length
                · obtain ⟨b, o, rfl, hb, hcell⟩ := hx1.get (i := k) (u := .string ss[k]) (by simp [hlt])
                  have hsn := hide (texts_snoc ss k hlt)
                  have hle := hide (texts_le ss (k + 1))
                  generalize ss[k] = s0 at *
                  clear hx1
                  go_wp2_with fail
                  refine (wText_any p q _ v' [s0] _ _ (hS.out.alloc _).1 (ArgV.one (by simp [go_sem]; done) ?_) ?_).mono ?_
                  · exact fun h => Nat.lt_irrefl _ (Fp.lt hS.out.1 h)
                  · have h1 := hle.out; rw [hsn.out, List.length_append] at h1
                    have := hnn.out; have := hii.out; have := hst.out; simp only [List.length_append, List.length_map, texts_one] at *; omega
                  rintro e w8 ⟨rfl, v8, h8⟩
                  rw [texts_one] at h8
                  go_wp2_with fail
                  go_roundw
                  case rel =>
                    refine ⟨k + 1, v8, by omega, by go_num, ?_⟩
                    rw [hsn.out, ← List.append_assoc]
                    exact (hS.out.alloc _).trans h8
                  case measure => simp [intOf]; omega
                · obtain rfl : k = ss.length := by omega
                  rw [List.take_length] at hS
                  clear hx1
                  go_wp2_with fail
                  go_loopw [15] (fun i wr => ∃ (k : Nat) (v' : Value), k ≤ bs.length ∧ i = .int .i64 k ∧ WStep p q w7 (.slice none 0 0) wr (nums ns ++ nums (is.map zig) ++ texts ss ++ (bs.take k).map bit) v') (fun i _ => bs.length - (intOf i).toNat)
                  case atStart => exact ⟨0, _, Nat.zero_le _, rfl, by simpa using hS.out⟩
                  case round =>
                    clear hS
                    obtain ⟨k, v', hk, rfl, hS⟩ := hrel
                    have hx1 := argFor hb0.out (hBq.out _ _ _ hS) hS.1 hwp.out
                    replace hS := hide hS
                    by_cases hlt : k < bs.length
                    · obtain ⟨b, o, rfl, hb, hcell⟩ := hx1.get (i := k) (u := .bool bs[k]) (by simp [hlt])
                      have hsn : (bs.take (k + 1)).map bit = (bs.take k).map bit ++ [bit bs[k]] := by rw [List.take_succ_eq_append_getElem hlt, List.map_append]; rfl
                      replace hsn := hide hsn
                      generalize bs[k] = b0 at *
                      clear hx1
                      go_wp2_with fail
                      refine (wBool_any p q _ v' [b0] _ _ (hS.out.alloc _).1 (ArgV.one (by simp [go_sem]; done) ?_) ?_).mono ?_
                      · exact fun h => Nat.lt_irrefl _ (Fp.lt hS.out.1 h)
                      · have := hnn.out; have := hii.out; have := hst.out; simp only [List.length_append, List.length_map, List.length_take, List.length_singleton] at *; omega
                      rintro e w8 ⟨rfl, v8, h8⟩
                      go_wp2_with fail
                      go_roundw
                      case rel =>
                        refine ⟨k + 1, v8, by omega, by go_num, ?_⟩
                        rw [hsn.out, ← List.append_assoc]
                        exact (hS.out.alloc _).trans h8
                      case measure => simp [intOf]; omega
                    · obtain rfl : k = bs.length := by omega
                      rw [List.take_length] at hS
                      clear hx1
                      have hWa9 : Wr wr p p _ va := hWa.out.upd hS.out.2.1 (by
                        rintro k hk (hf | hf)
                        · exact hva.out k hk hf
                        · cases hf)
                      replace hWa9 := hide hWa9
                      have hbel := hide (hBq.out _ _ _ hS.out)
                      replace hS := hide hS.out.1
                      have hll : (nums ns ++ nums (is.map zig) ++ texts ss ++ bs.map bit).length ≤ 70368744177664 := by
                        have := hnn.out; have := hii.out; have := hst.out; simp only [List.length_append, List.length_map] at *; omega
                      replace hll := hide hll
                      clear hWa hBq hnn hii hst hva hpq
                      generalize nums ns ++ nums (is.map zig) ++ texts ss ++ bs.map bit = L at *
                      go_wp2_with fail
                      refine wp_region_flow (fun _ => False) (factAt [(fun v _ => v = (.pointer (some ⟨p, 0, none⟩))), (fun v w => RowB w wr.heap.size v L), (fun v _ => v = (.string ⟨L.toArray⟩)), (fun v _ => v = (.pointer (some ⟨q, 0, none⟩))), (fun v w => RowB w wr.heap.size v L), (fun v _ => v = (.string ⟨L.toArray⟩)), (fun v _ => v = (.bool true)), (fun v _ => v = (.bool true))]) [] (fun _ => True) (by kernel_rfl) (fkept_at ⟨FKept.eq _, rowB_kept (fun _ h => h.elim), FKept.eq _, FKept.eq _, rowB_kept (fun _ h => h.elim), FKept.eq _, FKept.eq _, FKept.eq _, trivial⟩) (fun _ _ h _ => h) trivial (by kernel_rfl) (by kernel_rfl) (by kernel_rfl) (by kernel_rfl) (Nat.le_of_ble_eq_true (by kernel_rfl)) ?_ ⟨?_, ?_, ?_, ?_, ?_, ?_, ?_, ?_, trivial⟩ ?_
                      · first | exact trivial | assumption
                      · intro T w Q hu hs hv hw hd
                        have hx9 : T.getD 9 undef = (.pointer (some ⟨p, 0, none⟩)) := hv 9 (by kernel_rfl)
                        refine .inl ⟨wanted_none rfl, ?_⟩
                        clear hd hv hu hs hw
                        go_simp
                        exact ⟨_, rfl, DstOk.some rfl, Below.refl _ _, rfl⟩
                      · intro T w Q hu hs hv hw hd
                        have hx114 : T.getD 114 undef = (.pointer (some ⟨p, 0, none⟩)) := Deps.at 0 hd (by kernel_rfl)
                        refine .inl ⟨wanted_none rfl, ?_⟩
                        clear hd hv hs hw
                        go_simp
                        refine (bytes_any p p L va _ (hWa9.out.upd hu fun _ _ h => h) hll.out).mono ?_
                        rintro e w2 ⟨v2, rfl, h2, hb2⟩
                        exact ⟨_, rfl, DstOk.some rfl, hb2, RowB.base h2 hu.size⟩
                      · intro T w Q hu hs hv hw hd
                        have f115 : (fun (v : Value) (w : World) => RowB w wr.heap.size v L) (T.getD 115 undef) w := Deps.at 1 hd (by kernel_rfl)
                        generalize hx115 : T.getD 115 undef = x115 at f115
                        replace f115 := hide f115
                        refine .inl ⟨wanted_none rfl, ?_⟩
                        have hcv := f115.out.bytes.string (P := Try.prog) Try.underlying27 Try.underlying5 Try.underlying9
                        clear hd hv hs hu hw
                        go_simp
                        exact ⟨_, rfl, DstOk.some rfl, Below.refl _ _, rfl⟩
                      · intro T w Q hu hs hv hw hd
                        have hx10 : T.getD 10 undef = (.pointer (some ⟨q, 0, none⟩)) := hv 10 (by kernel_rfl)
                        refine .inl ⟨wanted_none rfl, ?_⟩
                        clear hd hv hu hs hw
                        go_simp
                        exact ⟨_, rfl, DstOk.some rfl, Below.refl _ _, rfl⟩
                      · intro T w Q hu hs hv hw hd
                        have hx117 : T.getD 117 undef = (.pointer (some ⟨q, 0, none⟩)) := Deps.at 3 hd (by kernel_rfl)
                        refine .inl ⟨wanted_none rfl, ?_⟩
                        clear hd hv hs hw
                        go_simp
                        refine (bytes_any p q L v' _ (hS.out.upd hu fun _ _ h => h) hll.out).mono ?_
                        rintro e w2 ⟨v2, rfl, h2, hb2⟩
                        exact ⟨_, rfl, DstOk.some rfl, hb2, RowB.base h2 hu.size⟩
                      · intro T w Q hu hs hv hw hd
                        have f118 : (fun (v : Value) (w : World) => RowB w wr.heap.size v L) (T.getD 118 undef) w := Deps.at 4 hd (by kernel_rfl)
                        generalize hx118 : T.getD 118 undef = x118 at f118
                        replace f118 := hide f118
                        refine .inl ⟨wanted_none rfl, ?_⟩
                        have hcv := f118.out.bytes.string (P := Try.prog) Try.underlying27 Try.underlying5 Try.underlying9
                        clear hd hv hs hu hw
                        go_simp
                        exact ⟨_, rfl, DstOk.some rfl, Below.refl _ _, rfl⟩
                      · intro T w Q hu hs hv hw hd
                        have hx116 : T.getD 116 undef = (.string ⟨L.toArray⟩) := Deps.at 2 hd (by kernel_rfl)
                        have hx119 : T.getD 119 undef = (.string ⟨L.toArray⟩) := Deps.at 5 hd (by kernel_rfl)
                        refine .inl ⟨wanted_none rfl, ?_⟩
                        clear hd hv hs hu hw
                        go_simp
                        exact ⟨_, rfl, DstOk.some rfl, Below.refl _ _, (by show Value.bool _ = Value.bool true; simp)⟩
                      · intro T w Q hu hs hv hw hd
                        have hx120 : T.getD 120 undef = (.bool true) := Deps.at 6 hd (by kernel_rfl)
                        refine .inl ⟨wanted_none rfl, ?_⟩
                        clear hd hv hu hs hw
                        go_simp
                        exact ⟨_, rfl, DstOk.some rfl, Below.refl _ _, rfl⟩
                      · intro T w hu hs hv hf hcur
                        have f7 : T.getD 8 undef = (.bool true) := hf 7 (by decide)
                        clear hf hs hv hcur
                        go_wp2_with fail
                        go_ret
                        exact ⟨congrArg Ending.returned f7, hbel.out.trans (hu.below hbel.out.size fun _ h => h.elim)⟩
end Go.Proofs.Ytajpgkedlajjdaa

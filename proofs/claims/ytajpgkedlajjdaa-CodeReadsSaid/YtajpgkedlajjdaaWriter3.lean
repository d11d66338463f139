/- Walks of the writer: texts, booleans. -/
import Derived.Test.YtajpgkedlajjdaaWriter2
namespace Go.Proofs.Ytajpgkedlajjdaa
open Go.RowKit

def text (s : ByteArray) : List UInt8 := num s.size ++ s.data.toList
def texts (ss : List ByteArray) : List UInt8 := (ss.map text).flatten
def bit (b : Bool) : UInt8 := if b then 1 else 0
theorem texts_snoc (ss : List ByteArray) (k : Nat) (h : k < ss.length) : texts (ss.take (k + 1)) = texts (ss.take k) ++ text ss[k] := by
  unfold texts; rw [List.take_succ_eq_append_getElem h, List.map_append, List.flatten_append]; simp
theorem texts_le (ss : List ByteArray) (k : Nat) : (texts (ss.take k)).length ≤ (texts ss).length := by
  have : texts ss = texts (ss.take k) ++ texts (ss.drop k) := by
    unfold texts; rw [← List.flatten_append, ← List.map_append, List.take_append_drop]
  rw [this, List.length_append]; omega
theorem toList_len (s : ByteArray) : s.data.toList.length = s.size := Array.length_toList
theorem text_len (s : ByteArray) : s.size ≤ (text s).length := by unfold text; rw [List.length_append, toList_len]; omega

set_option maxRecDepth 100000 in
set_option maxHeartbeats 1600000 in
theorem wText_any (B p : Nat) (l : List UInt8) (v : Value) (ss : List ByteArray) (x : Value) (w : World) (hW : Wr w B p l v) (hx : ArgV w (fun k => ¬ Fp p v k) x (ss.map Value.string))
    (hlen : l.length + (texts ss).length + 10 ≤ 70368744177664) :
    Calls Try.prog 15 #[.pointer (some ⟨p, 0, none⟩), x] w fun e w' => e = .returned (.tuple #[]) ∧ ∃ v', WStep B p w v w' (l ++ texts ss) v' := by
  have hx0 := hide hx
  have hS0 := hide (WStep.refl hW)
  replace hW := hide hW
  replace hlen := hide hlen
  obtain ⟨A, c, rfl, hlc, hcm, -⟩ := hx
  rw [List.length_map] at *
  unfold maxLen at hcm
  go_enter Try.func15, Try.ntmps15
  go_wp2_with fail
  go_loopw [8] (fun i wr => ∃ (k : Nat) (v' : Value), k ≤ ss.length ∧ i = .int .i64 k ∧ WStep B p w v wr (l ++ texts (ss.take k)) v') (fun i _ => ss.length - (intOf i).toNat)
  case atStart => exact ⟨0, v, Nat.zero_le _, rfl, by simpa [texts] using hS0.out⟩
  case round =>
    obtain ⟨k, v', hk, rfl, hS⟩ := hrel
    have hx1 := hS.arg hx0.out
    replace hS := hide hS
    by_cases hlt : k < ss.length
    · obtain ⟨b, o, rfl, hb, hcell⟩ := hx1.get (i := k) (u := .string ss[k]) (by simp [hlt])
      have hsn := hide (texts_snoc ss k hlt)
      have hle := hide (texts_le ss (k + 1))
      have hsz : ss[k].size < 70368744177664 := by
        have h1 := hle.out; rw [hsn.out, List.length_append] at h1
        have := text_len ss[k]; have := hlen.out; omega
      generalize ss[k] = s0 at *
      clear hx1
      go_wp2_with fail
      refine (wNum_any B p _ v' [s0.size] _ _ (hS.out.alloc _).1 (ArgV.one (by simp [go_sem]; done) ?_) ?_ ?_).mono ?_
      · exact fun h => Nat.lt_irrefl _ (Fp.lt hS.out.1 h)
      · intro n hn'; rw [List.mem_singleton] at hn'; subst hn'; omega
      · have h1 := hle.out; rw [hsn.out, List.length_append] at h1
        have := hlen.out; simp only [List.length_append, List.length_singleton]; omega
      rintro e w2 ⟨rfl, v2, h2⟩
      have hc0 := h2.1.cell
      have hf0 := h2.1.frozen
      replace h2 := hide ((hS.out.alloc _).trans h2)
      go_wp2_with (
        at_builtin
        refine wp_bytes_string rfl (.tmp 22) (.tmp 23) rfl B v2 (l ++ texts (ss.take k) ++ nums [s0.size]) rfl ?_ s0 rfl ?_ ?_ ?_
        · exact h2.out.1.2.2
        · have h1 := hle.out; rw [hsn.out, List.length_append] at h1
          unfold text at h1; rw [List.length_append, toList_len] at h1
          have := hlen.out; simp only [nums, List.map_cons, List.map_nil, List.flatten_cons, List.flatten_nil, List.append_nil, List.length_append]; omega
        · exact h2.out.1.base
        intro v3 w3 h3 hg3 hm3
        have hp3 := h2.out.1.grown hg3
        have hc3 := cell_at hp3 0
        have hf3 := frozen_at hp3 0
        replace hp3 := hide hp3
        obtain ⟨A3, n3, k3, rfl⟩ := h3.slice)
      go_roundw
      case rel =>
        refine ⟨k + 1, .slice A3 n3 k3, by omega, by go_num, ?_⟩
        rw [hsn.out]
        have := h2.out.trans (h2.out.1.put hg3 h3 hm3)
        simpa [nums, text] using this
      case measure => simp [intOf]; omega
    · obtain rfl : k = ss.length := by omega
      go_wp2_with fail
      go_end0
      refine ⟨rfl, v', ?_⟩
      have := hS.out
      rwa [List.take_length] at this

set_option maxRecDepth 100000 in
set_option maxHeartbeats 1600000 in
theorem wBool_any (B p : Nat) (l : List UInt8) (v : Value) (bs : List Bool) (x : Value) (w : World) (hW : Wr w B p l v) (hx : ArgV w (fun k => ¬ Fp p v k) x (bs.map Value.bool))
    (hlen : l.length + bs.length ≤ 70368744177664) :
    Calls Try.prog 16 #[.pointer (some ⟨p, 0, none⟩), x] w fun e w' => e = .returned (.tuple #[]) ∧ ∃ v', WStep B p w v w' (l ++ bs.map bit) v' := by
  have hx0 := hide hx
  have hS0 := hide (WStep.refl hW)
  replace hW := hide hW
  replace hlen := hide hlen
  obtain ⟨A, c, rfl, hlc, hcm, -⟩ := hx
  rw [List.length_map] at *
  unfold maxLen at hcm
  go_enter Try.func16, Try.ntmps16
  go_wp2_with fail
  go_loopw [9] (fun i wr => ∃ (k : Nat) (v' : Value), k ≤ bs.length ∧ i = .int .i64 k ∧ WStep B p w v wr (l ++ (bs.take k).map bit) v') (fun i _ => bs.length - (intOf i).toNat)
  case atStart => exact ⟨0, v, Nat.zero_le _, rfl, by simpa using hS0.out⟩
  case round =>
    obtain ⟨k, v', hk, rfl, hS⟩ := hrel
    have hx1 := hS.arg hx0.out
    have hc0 := hS.1.cell
    have hf0 := hS.1.frozen
    replace hS := hide hS
    by_cases hlt : k < bs.length
    · obtain ⟨b, o, rfl, hb, hcell⟩ := hx1.get (i := k) (u := .bool bs[k]) (by simp [hlt])
      have hsn : (bs.take (k + 1)).map bit = (bs.take k).map bit ++ [bit bs[k]] := by rw [List.take_succ_eq_append_getElem hlt, List.map_append]; rfl
      replace hsn := hide hsn
      generalize bs[k] = b0 at *
      clear hx1
      cases b0
      · go_wp2_with (
          at_builtin
          refine wp_bytes rfl (.tmp 18) (.tmp 20) rfl B v' (l ++ (bs.take k).map bit) rfl ?_ ⟨wr.heap.size, 0, none⟩ 1 1 [bit false] rfl rfl ?_ ?_ ?_ ?_
          · exact (hS.out.alloc _).1.2.2
          · exact one_byte (u := .int .u8 0) (by simp [go_sem]; done) rfl
          · have := hlen.out; simp only [List.length_append, List.length_singleton, List.length_map, List.length_take]; omega
          · exact (hS.out.alloc _).1.base
          intro v3 w3 h3 hg3 hm3
          have hp3 := (hS.out.alloc _).1.grown hg3
          have hc3 := cell_at hp3 0
          have hf3 := frozen_at hp3 0
          replace hp3 := hide hp3
          obtain ⟨A3, n3, k3, rfl⟩ := h3.slice)
        go_roundw
        case rel =>
          refine ⟨k + 1, .slice A3 n3 k3, by omega, by go_num, ?_⟩
          rw [hsn.out, ← List.append_assoc]
          exact (hS.out.alloc _).trans ((hS.out.alloc _).1.put hg3 h3 hm3)
        case measure => simp [intOf]; omega
      · go_wp2_with (
          at_builtin
          refine wp_bytes rfl (.tmp 18) (.tmp 20) rfl B v' (l ++ (bs.take k).map bit) rfl ?_ ⟨wr.heap.size, 0, none⟩ 1 1 [bit true] rfl rfl ?_ ?_ ?_ ?_
          · exact (hS.out.alloc _).1.2.2
          · exact one_byte (u := .int .u8 1) (by simp [go_sem]; done) rfl
          · have := hlen.out; simp only [List.length_append, List.length_singleton, List.length_map, List.length_take]; omega
          · exact (hS.out.alloc _).1.base
          intro v3 w3 h3 hg3 hm3
          have hp3 := (hS.out.alloc _).1.grown hg3
          have hc3 := cell_at hp3 0
          have hf3 := frozen_at hp3 0
          replace hp3 := hide hp3
          obtain ⟨A3, n3, k3, rfl⟩ := h3.slice)
        go_roundw
        case rel =>
          refine ⟨k + 1, .slice A3 n3 k3, by omega, by go_num, ?_⟩
          rw [hsn.out, ← List.append_assoc]
          exact (hS.out.alloc _).trans ((hS.out.alloc _).1.put hg3 h3 hm3)
        case measure => simp [intOf]; omega
    · obtain rfl : k = bs.length := by omega
      go_wp2_with fail
      go_end0
      refine ⟨rfl, v', ?_⟩
      have := hS.out
      rwa [List.take_length] at this
end Go.Proofs.Ytajpgkedlajjdaa

/- Rows of bytes in memory, told by a function of the place; a text as bytes, and back. -/
import Derived.Test.YtaibehfpbcgijaaDoorAscC
namespace Go.Proofs.YtaibehfpbcgijaaDoor.Asc
open Go.RowKit

/-- Block g begins with n bytes, the j-th being f j; none of them is frozen. -/
def RowF (W : World) (g n : Nat) (f : Nat → UInt8) : Prop :=
  ∃ (C : Array Value) (fr : Nat × Nat) (t : TypeId), W.heap[g]? = some (.cells C t fr) ∧ n ≤ C.size ∧ (∀ j, j < n → ¬ (fr.1 ≤ j ∧ j < fr.2)) ∧ ∀ j, j < n → C[j]? = some (.int .u8 ((f j).toNat : Int))

theorem RowF.cell {W : World} {g n : Nat} {f : Nat → UInt8} (h : RowF W g n f) {j : Nat} (hj : j < n) : W.cell? ⟨g, j, none⟩ = some (.int .u8 ((f j).toNat : Int)) := by
  obtain ⟨C, fr, t, hh, _, _, hc⟩ := h
  rw [cell_of_row W g j C t fr hh, hc j hj]
theorem RowF.frozen {W : World} {g n : Nat} {f : Nat → UInt8} (h : RowF W g n f) {j : Nat} (hj : j < n) : W.frozen? ⟨g, j, none⟩ = false := by
  obtain ⟨C, ⟨lo, hi⟩, t, hh, _, hf, _⟩ := h
  have := hf j hj
  simp only [World.frozen?, hh]
  simp only [Bool.and_eq_false_iff, decide_eq_false_iff_not]
  simp only at this
  omega
theorem RowF.lt {W : World} {g n : Nat} {f : Nat → UInt8} (h : RowF W g n f) : g < W.heap.size := by
  obtain ⟨C, fr, t, hh, _⟩ := h
  exact (Array.getElem?_eq_some_iff.1 hh).1
theorem RowF.same {W W' : World} {g n : Nat} {f : Nat → UInt8} (h : RowF W g n f) (e : W'.heap[g]? = W.heap[g]?) : RowF W' g n f := by
  obtain ⟨C, fr, t, hh, r⟩ := h
  exact ⟨C, fr, t, e.trans hh, r⟩
theorem RowF.below {W W' : World} {g n : Nat} {f : Nat → UInt8} (h : RowF W g n f) (hb : Below W.heap.size W W') : RowF W' g n f := h.same (hb.block g h.lt)
theorem RowF.congr {W : World} {g n : Nat} {f f' : Nat → UInt8} (h : RowF W g n f) (e : ∀ j, j < n → f j = f' j) : RowF W g n f' := by
  obtain ⟨C, fr, t, hh, hn, hf, hc⟩ := h
  exact ⟨C, fr, t, hh, hn, hf, fun j hj => by rw [hc j hj, e j hj]⟩
theorem RowF.set {W : World} {g n : Nat} {f : Nat → UInt8} (h : RowF W g n f) (i : Nat) (b : UInt8) : RowF (W.setCell ⟨g, i, none⟩ (.int .u8 (b.toNat : Int))) g n (fun j => if j = i then b else f j) := by
  obtain ⟨C, fr, t, hh, hn, hf, hc⟩ := h
  refine ⟨C.setIfInBounds i (.int .u8 (b.toNat : Int)), fr, t, ?_, by simpa using hn, hf, fun j hj => ?_⟩
  · simp [World.setCell, Array.getElem?_modify, hh]
  · rw [Array.getElem?_setIfInBounds]
    by_cases e : i = j
    · subst e
      dsimp only
      rw [if_pos rfl, if_pos (by omega), if_pos rfl]
    · dsimp only
      rw [if_neg e, if_neg (fun x : j = i => e x.symm)]
      exact hc j hj
/-- A text's bytes by their places. -/
def byteAt (s : ByteArray) (j : Nat) : UInt8 := s.data.toList.getD j 0
theorem byteAt_eq (s : ByteArray) (j : Nat) (h : j < s.size) : byteAt s j = s[j] := by
  unfold byteAt
  rw [List.getD_eq_getElem?_getD, List.getElem?_eq_getElem (show j < s.data.toList.length from h)]
  rfl

/-- What a text as bytes lays: one new block, one draw. -/
theorem conv_ex (s : ByteArray) (w : World) : ∃ (cap : Nat) (C : Array Value) (fr : Nat × Nat), s.size ≤ cap ∧
    (convert 9 45 (.string s)).run Tryd.prog w = .ok (.slice (some ⟨w.heap.size, 0, none⟩) s.size cap) (w.drew.alloc (.cells C 5 fr)) ∧
    RowF ((w.alloc (.cells C 5 fr)).drew) w.heap.size s.size (byteAt s) := by
  refine ⟨_, _, _, grownCap_ge w s.size 0 5, run_bytes_of_string w _ _ 5 s Tryd.underlying9 Tryd.underlying45 Tryd.underlying5, ?_⟩
  have hge := grownCap_ge w s.size 0 5
  generalize grownCap w s.size 0 5 = cap at hge ⊢
  have hsz : (bytesRow s cap).size = cap := by
    unfold bytesRow
    rw [Array.size_append, Array.size_map, Array.size_replicate]
    have : s.data.size = s.size := rfl
    omega
  refine ⟨bytesRow s cap, _, 5, heap_alloc_new w _, by omega, fun j hj => ?_, fun j hj => ?_⟩
  · simp only [hsz]; omega
  · unfold bytesRow
    have hd : j < s.data.size := hj
    rw [Array.getElem?_append_left (by rw [Array.size_map]; exact hd), Array.getElem?_map, Array.getElem?_eq_getElem hd, byteAt_eq s j hj]
    rfl

/-- Bytes as a text. -/
theorem back_ex (l : List UInt8) (W : World) (g n cap : Nat) (f : Nat → UInt8) (h : RowF W g n f) (hl : l.length = n) (hf : ∀ j, j < n → l.getD j 0 = f j) :
    (convert 45 9 (.slice (some ⟨g, 0, none⟩) n cap)).run Tryd.prog W = .ok (.string ⟨l.toArray⟩) W := by
  subst hl
  refine run_convert_bytes_back W _ _ 5 ⟨g, 0, none⟩ cap l Tryd.underlying45 Tryd.underlying5 Tryd.underlying9 (fun j hj => ?_)
  have e : (⟨g, 0, none⟩ : Addr).add j = ⟨g, j, none⟩ := by unfold Addr.add; split <;> simp_all
  rw [e, h.cell hj, ← hf j hj, List.getD_eq_getElem?_getD, List.getElem?_eq_getElem hj]
  rfl

/-- Bytes as a text, from the place o on. -/
theorem back_at (l : List UInt8) (W : World) (g o n m cap : Nat) (f : Nat → UInt8) (h : RowF W g m f) (hl : l.length = n) (hm : o + n ≤ m) (hf : ∀ j, j < n → l.getD j 0 = f (o + j)) :
    (convert 45 9 (.slice (some ⟨g, o, none⟩) n cap)).run Tryd.prog W = .ok (.string ⟨l.toArray⟩) W := by
  subst hl
  refine run_convert_bytes_back W _ _ 5 ⟨g, o, none⟩ cap l Tryd.underlying45 Tryd.underlying5 Tryd.underlying9 (fun j hj => ?_)
  have e : (⟨g, o, none⟩ : Addr).add j = ⟨g, o + j, none⟩ := by unfold Addr.add; split <;> simp_all
  rw [e, h.cell (by omega), ← hf j hj, List.getD_eq_getElem?_getD, List.getElem?_eq_getElem hj]
  rfl

/-- P103: letters made small. -/
def lowS (s : ByteArray) : ByteArray := ⟨(s.data.toList.map smallB).toArray⟩
theorem lowS_size (s : ByteArray) : (lowS s).size = s.size := by
  show (s.data.toList.map smallB).toArray.size = _
  rw [List.size_toArray, List.length_map]; rfl
theorem low_back (W : World) (g cap : Nat) (s : ByteArray) (f : Nat → UInt8) (h : RowF W g s.size f) (hf : ∀ j, j < s.size → f j = smallB (byteAt s j)) :
    (convert 45 9 (.slice (some ⟨g, 0, none⟩) s.size cap)).run Tryd.prog W = .ok (.string (lowS s)) W := by
  refine back_ex _ W g s.size cap f h (by rw [List.length_map]; rfl) fun j hj => ?_
  rw [hf j hj, List.getD_eq_getElem?_getD, List.getElem?_map, byteAt, List.getD_eq_getElem?_getD, List.getElem?_eq_getElem (show j < s.data.toList.length from hj)]
  rfl

set_option maxRecDepth 100000 in
set_option maxHeartbeats 1000000 in
theorem lower_any (s : ByteArray) (w : World) (hs : s.size ≤ 9223372036854775807) :
    Calls Tryd.prog 15 #[.string s] w fun e w' => e = .returned (.string (lowS s)) ∧ Below w.heap.size w w' := by
  obtain ⟨cap, C, fr, hcap, hconv, hrow⟩ := conv_ex s w
  have HR := Lib.hid hrow
  clear hrow
  have hB : Below w.heap.size w ((w.alloc (.cells C 5 fr)).drew) := ((Below.refl _ _).alloc (Nat.le_refl _) _).drew
  have HB := Lib.hid hB
  clear hB
  go_enter Tryd.func15, Tryd.ntmps15
  go_wp2
  clear hconv
  go_loopw [9] (fun i wr => ∃ k : Nat, k ≤ s.size ∧ i = .int .i64 k ∧ RowF wr w.heap.size s.size (fun j => if j < k then smallB (byteAt s j) else byteAt s j) ∧ Below w.heap.size w wr) (fun i _ => s.size - (intOf i).toNat)
  case atStart => exact ⟨0, Nat.zero_le _, rfl, HR.out.congr (fun j _ => by rw [if_neg (by omega)]), HB.out⟩
  case round =>
    obtain ⟨k, hk, rfl, hrow, hbe⟩ := hrel
    have HBe := Lib.hid hbe
    have HRow := Lib.hid hrow
    clear hbe
    by_cases hlt : k < s.size
    · have hc := hrow.cell hlt
      have hf := hrow.frozen hlt
      simp only [Nat.lt_irrefl, if_false] at hc
      clear hrow
      go_wp2_with (go_at_call 45; refine (small_any _ _).mono ?_; rintro e w1 ⟨rfl, rfl⟩)
      go_roundw
      case rel =>
        refine ⟨k + 1, by omega, by go_num, (HRow.out.set k (smallB (byteAt s k))).congr (fun j _ => ?_), HBe.out.setCell (p := ⟨w.heap.size, k, none⟩) (Nat.le_refl _) _⟩
        by_cases e : j = k
        · subst e; rw [if_pos rfl, if_pos (by omega)]
        · rw [if_neg e]
          by_cases h : j < k
          · rw [if_pos h, if_pos (by omega)]
          · rw [if_neg h, if_neg (by omega)]
      case measure => simp [intOf]; omega
    · obtain rfl : k = s.size := by omega
      have hback := low_back wr w.heap.size cap s _ hrow (fun j hj => if_pos hj)
      clear hrow
      go_wp2
      go_ret
      exact ⟨rfl, HBe.out⟩

set_option maxRecDepth 100000 in
set_option maxHeartbeats 1000000 in
/-- P103: the document's answer for letters made small. -/
theorem refLower_any (s : ByteArray) (w : World) (hs : s.size ≤ 9223372036854775807) :
    Calls Tryd.prog 16 #[.string s] w fun e w' => e = .returned (.string (lowS s)) ∧ Below w.heap.size w w' := by
  obtain ⟨cap, C, fr, hcap, hconv, hrow⟩ := conv_ex s w
  have HR := Lib.hid hrow
  clear hrow
  have hB : Below w.heap.size w ((w.alloc (.cells C 5 fr)).drew) := ((Below.refl _ _).alloc (Nat.le_refl _) _).drew
  have HB := Lib.hid hB
  clear hB
  go_enter Tryd.func16, Tryd.ntmps16
  go_wp2
  clear hconv
  go_loopw [4] (fun i wr => ∃ k : Nat, k ≤ s.size ∧ i = .int .i64 k ∧ RowF wr w.heap.size s.size (fun j => if j < k then smallB (byteAt s j) else byteAt s j) ∧ Below w.heap.size w wr) (fun i _ => s.size - (intOf i).toNat)
  case atStart => exact ⟨0, Nat.zero_le _, rfl, HR.out.congr (fun j _ => by rw [if_neg (by omega)]), HB.out⟩
  case round =>
    obtain ⟨k, hk, rfl, hrow, hbe⟩ := hrel
    have HBe := Lib.hid hbe
    have HRow := Lib.hid hrow
    clear hbe
    by_cases hlt : k < s.size
    · have hc := hrow.cell hlt
      have hf := hrow.frozen hlt
      simp only [Nat.lt_irrefl, if_false] at hc
      clear hrow
      have hstep : ∀ b, b = smallB (byteAt s k) → RowF (wr.setCell ⟨w.heap.size, k, none⟩ (.int .u8 (b.toNat : Int))) w.heap.size s.size (fun j => if j < k + 1 then smallB (byteAt s j) else byteAt s j) := by
        rintro b rfl
        refine (HRow.out.set k (smallB (byteAt s k))).congr (fun j _ => ?_)
        by_cases e : j = k
        · subst e; rw [if_pos rfl, if_pos (by omega)]
        · rw [if_neg e]
          by_cases h : j < k
          · rw [if_pos h, if_pos (by omega)]
          · rw [if_neg h, if_neg (by omega)]
      have hskip : smallB (byteAt s k) = byteAt s k → RowF wr w.heap.size s.size (fun j => if j < k + 1 then smallB (byteAt s j) else byteAt s j) := by
        intro h
        refine HRow.out.congr (fun j _ => ?_)
        by_cases e : j = k
        · subst e; rw [if_neg (by omega), if_pos (by omega), h]
        · by_cases h : j < k
          · rw [if_pos h, if_pos (by omega)]
          · rw [if_neg h, if_neg (by omega)]
      have HSt := Lib.hid hstep
      have HSk := Lib.hid hskip
      clear hstep hskip
      have hb := (byteAt s k).toNat_lt
      by_cases h1 : 65 ≤ (byteAt s k).toNat
      · by_cases h2 : (byteAt s k).toNat ≤ 90
        · have hlo := Lib.hid (small_lo (byteAt s k) h1 h2)
          go_wp2
          go_roundw
          case rel =>
            refine ⟨k + 1, by omega, by go_num, ?_, HBe.out.setCell (p := ⟨w.heap.size, k, none⟩) (Nat.le_refl _) _⟩
            have := HSt.out _ rfl
            rw [hlo.out] at this
            simpa using this
          case measure => simp [intOf]; omega
        · have hhi := Lib.hid (small_hi (byteAt s k) (by omega))
          go_wp2
          go_roundw
          case rel => exact ⟨k + 1, by omega, by go_num, HSk.out hhi.out, HBe.out⟩
          case measure => simp [intOf]; omega
      · have hhi := Lib.hid (small_hi (byteAt s k) (by omega))
        go_wp2
        go_roundw
        case rel => exact ⟨k + 1, by omega, by go_num, HSk.out hhi.out, HBe.out⟩
        case measure => simp [intOf]; omega
    · obtain rfl : k = s.size := by omega
      have hback := low_back wr w.heap.size cap s _ hrow (fun j hj => if_pos hj)
      clear hrow
      go_wp2
      go_ret
      exact ⟨rfl, HBe.out⟩

end Go.Proofs.YtaibehfpbcgijaaDoor.Asc

/- Contracts of the library's SplitSeq at a separator of one byte: what its iterator hands out. -/
import Derived.Test.YtaibehfpbcgijaaDoorAscD
import Derived.Test.YtaibehfpbcgijaaDoorRangeOwn
import Derived.Lib.IndexLaws
namespace Go.Proofs.YtaibehfpbcgijaaDoor.Asc
open Go.RowKit Go.Shelf

attribute [local go_sem] Oper.semAt_some

/-- A text parted at each byte c. -/
def splitB (c : UInt8) : List UInt8 → List (List UInt8)
  | [] => [[]]
  | x :: r => if x == c then [] :: splitB c r else match splitB c r with
    | [] => [[x]]
    | p :: ps => (x :: p) :: ps
theorem splitB_cons (c x : UInt8) (r : List UInt8) : splitB c (x :: r) = if x == c then [] :: splitB c r else match splitB c r with
    | [] => [[x]]
    | p :: ps => (x :: p) :: ps := rfl
theorem splitB_ne (c : UInt8) (l : List UInt8) : splitB c l ≠ [] := by
  cases l with
  | nil => simp [splitB]
  | cons x r =>
    unfold splitB
    split
    · simp
    · split <;> simp
theorem splitB_none (c : UInt8) (l : List UInt8) (h : ∀ k : Nat, l[k]? ≠ some c) : splitB c l = [l] := by
  induction l with
  | nil => rfl
  | cons x r ih =>
    have hx : ¬ x = c := fun e => h 0 (by rw [e]; rfl)
    have hr : splitB c r = [r] := ih fun k => h (k + 1)
    unfold splitB
    rw [if_neg (by simpa using hx), hr]
theorem splitB_some (c : UInt8) (l : List UInt8) (o : Nat) (h : l[o]? = some c) (hn : ∀ k : Nat, k < o → l[k]? ≠ some c) : splitB c l = l.take o :: splitB c (l.drop (o + 1)) := by
  induction l generalizing o with
  | nil => simp at h
  | cons x r ih =>
    cases o with
    | zero =>
      have hx : x = c := by simpa using h
      rw [splitB_cons, if_pos (by simpa using hx)]
      rfl
    | succ o =>
      have hx : ¬ x = c := fun e => hn 0 (by omega) (by rw [e]; rfl)
      have hr := ih o (by simpa using h) fun k hk => hn (k + 1) (by omega)
      rw [splitB_cons, if_neg (by simpa using hx), hr]
      rfl
theorem splitB_len (c : UInt8) (l : List UInt8) : (splitB c l).length ≤ l.length + 1 := by
  induction l with
  | nil => simp [splitB]
  | cons x r ih =>
    unfold splitB
    split
    · simp; omega
    · split
      · simp
      · rename_i p ps h
        rw [h] at ih
        simp at ih ⊢
        omega

theorem libIndex_any (s : ByteArray) (c : UInt8) (w : World) : Calls Tryd.prog 93 #[.string s, .string ⟨#[c]⟩] w fun e w' => e = .returned (.int .i64 (Lib.indexByte s.data.toList c)) ∧ w' = w :=
  Any.strings_Index_one Tryd.laysIndex s c w

/-- The three blocks that the iterator's state takes. -/
def seqWorld (s sep : ByteArray) (w : World) : World := ((w.alloc (.cells #[.string s] 9)).alloc (.cells #[.string sep] 9)).alloc (.cells #[.int .i64 0] 3)

set_option maxHeartbeats 400000 in
theorem splitSeq_any (s sep : ByteArray) (w : World) : Calls Tryd.prog 47 #[.string s, .string sep] w fun e w' =>
    e = .returned (.func (.func 92) #[] #[.pointer (some ⟨w.heap.size + 1, 0, none⟩), .pointer (some ⟨w.heap.size, 0, none⟩), .pointer (some ⟨w.heap.size + 1 + 1, 0, none⟩)]) ∧ seqWorld s sep w = w' := by
  go_enter Tryd.func47, Tryd.ntmps47
  go_wp2
  go_ret
  exact ⟨rfl, rfl⟩

def strOf (v : Option Value) : Nat := match v with | some (.string t) => t.size | _ => 0
def pieceEnc (x : ByteArray) : Array Value := #[.string x]

set_option maxRecDepth 100000 in
set_option maxHeartbeats 2000000 in
theorem split_iter (c : UInt8) (s : ByteArray) (hs : s.size ≤ 140737488355328) (m : Nat) (Bs Bp Bv : Nat) (w0 : World)
    (h1 : Bs < w0.heap.size) (h2 : Bp < w0.heap.size) (h3 : Bv < w0.heap.size) (d1 : Bs ≠ Bp) (d2 : Bs ≠ Bv)
    (b1 : w0.heap[Bs]? = some (.cells #[.string s] 9 (0, 0))) (b2 : w0.heap[Bp]? = some (.cells #[.string ⟨#[c]⟩] 9 (0, 0))) (b3 : w0.heap[Bv]? = some (.cells #[.int .i64 0] 3 (0, 0))) :
    Rng.SeqOwn Fence.wide m Tryd.prog 92 #[.pointer (some ⟨Bp, 0, none⟩), .pointer (some ⟨Bs, 0, none⟩), .pointer (some ⟨Bv, 0, none⟩)] pieceEnc (fun r => r = Bs ∨ r = Bp ∨ r = Bv)
      ((splitB c s.data.toList).map fun p => ⟨p.toArray⟩) w0 := by
  intro l J W hbut hJ hY hJ0
  have e1 : W.heap[Bs]? = some (.cells #[.string s] 9 (0, 0)) := (hbut.block _ h1 (fun h => h)).trans b1
  have e2 : W.heap[Bp]? = some (.cells #[.string ⟨#[c]⟩] 9 (0, 0)) := (hbut.block _ h2 (fun h => h)).trans b2
  have e3 : W.heap[Bv]? = some (.cells #[.int .i64 0] 3 (0, 0)) := (hbut.block _ h3 (fun h => h)).trans b3
  clear b1 b2 b3 hbut h1 h2 h3
  have HY := Lib.hid hY
  have HJ := Lib.hid hJ
  clear hY hJ
  have c2 : W.cell? ⟨Bp, 0, none⟩ = some (.string ⟨#[c]⟩) := cell_of_row _ _ 0 _ _ _ e2
  refine callsIn_of_wp Tryd.func92 rfl trivial ?_ rfl
  simp only [Tryd.ntmps92, List.size_toArray, List.length_cons, List.length_nil, Nat.reduceAdd, Nat.reduceSub, Array.replicate_succ, Array.replicate_zero, List.push_toArray, List.append_toArray, List.nil_append, List.cons_append]
  gi_wp2
  clear c2
  generalize hxs : (splitB c s.data.toList).map (fun p => (⟨p.toArray⟩ : ByteArray)) = xs at HY ⊢
  have HX := Lib.hid hxs
  have HE1 := Lib.hid e1
  have HE2 := Lib.hid e2
  have HE3 := Lib.hid e3
  have HJ0 := Lib.hid hJ0
  clear hxs e1 e2 e3 hJ0
  gi_loopw [7, 8] (fun _ _ wr => ∃ (k : Nat) (t : ByteArray), xs.drop k = (splitB c t.data.toList).map (fun p => (⟨p.toArray⟩ : ByteArray)) ∧ J k wr ∧ t.size ≤ s.size ∧ wr.heap[Bs]? = some (.cells #[.string t] 9 (0, 0)) ∧ wr.heap[Bp]? = some (.cells #[.string ⟨#[c]⟩] 9 (0, 0)) ∧ wr.heap[Bv]? = some (.cells #[.int .i64 0] 3 (0, 0)))
    (fun _ _ wr => strOf (wr.cell? ⟨Bs, 0, none⟩))
  case atStart => exact ⟨0, s, HX.out.symm, HJ0.out, Nat.le_refl _, HE1.out, HE2.out, HE3.out⟩
  case round =>
    obtain ⟨k, t, hx, hJk, hts, e1, e2, e3⟩ := hrel
    have HIdx := fun w => Lib.hid (libIndex_any t c w)
    have hcases : (Lib.indexByte t.data.toList c = -1) ∨ ∃ o : Nat, Lib.indexByte t.data.toList c = (o : Int) := by
      have := Lib.indexByte_ge t.data.toList c
      rcases Int.lt_or_le (Lib.indexByte t.data.toList c) 0 with h | h
      · exact .inl (by omega)
      · exact .inr ⟨(Lib.indexByte t.data.toList c).toNat, by omega⟩
    have c1 : wr.cell? ⟨Bs, 0, none⟩ = some (.string t) := cell_of_row _ _ 0 _ _ _ e1
    have c2 : wr.cell? ⟨Bp, 0, none⟩ = some (.string ⟨#[c]⟩) := cell_of_row _ _ 0 _ _ _ e2
    have c3 : wr.cell? ⟨Bv, 0, none⟩ = some (.int .i64 0) := cell_of_row _ _ 0 _ _ _ e3
    rcases hcases with hi | ⟨o, ho⟩
    · rw [hi] at HIdx
      have hp := splitB_none c _ (Lib.indexByte_none hi)
      rw [hp] at hx
      have hxk : xs[k]? = some t := by
        have h := congrArg (·[0]?) hx
        simp only [List.getElem?_drop] at h
        simpa using h
      have hlen : xs.length = k + 1 := by
        have h := congrArg List.length hx
        simp at h
        have : k < xs.length := (List.getElem?_eq_some_iff.1 hxk).1
        omega
      obtain ⟨fn, tmps, assign, body, hy, hR⟩ := HY.out k t wr hxk hJk
      have HLen := Lib.hid hlen
      clear hi hp hx hxk hlen e1 e2 e3 hts
      dsimp only [pieceEnc] at hy
      gi_wp2_with (first
        | (refine ⟨trivial, fun h => (nomatch h), ?_⟩; gi_at_call 93; refine (callsIn_wide.2 (HIdx _).out).mono ?_; rintro e w1 ⟨rfl, rfl⟩))
      refine ⟨fun h => (nomatch h), hR.mono ?_⟩
      rintro e W' ⟨rfl, hJ', _, _⟩
      gi_wp2
      go_end0
      exact ⟨⟨_, rfl⟩, by rw [HX.out, HLen.out]; exact hJ'⟩
    · rw [ho] at HIdx
      obtain ⟨hat, hno⟩ := Lib.indexByte_some ho
      have hp := splitB_some c _ o hat hno
      have hos : o < t.size := (List.getElem?_eq_some_iff.1 hat).1
      rw [hp, List.map_cons] at hx
      have hxk : xs[k]? = some (t.extract 0 o) := by
        have h := congrArg (·[0]?) hx
        simp only [List.getElem?_drop] at h
        rw [Nat.add_zero] at h
        rw [h]
        show some _ = some _
        congr 1
        rw [← Lib.mk_data (t.extract 0 o), Lib.extract_data]
        simp
      have hx' : xs.drop (k + 1) = (splitB c (t.extract (o + 1) t.size).data.toList).map (fun p => (⟨p.toArray⟩ : ByteArray)) := by
        rw [← List.tail_drop, hx, List.tail_cons, Lib.extract_data]
        congr 2
        rw [List.take_of_length_le]
        rw [List.length_drop]
        exact Nat.le_refl _
      obtain ⟨fn, tmps, assign, body, hy, hR⟩ := HY.out k _ wr hxk hJk
      have HX' := Lib.hid hx'
      have HO1 := Lib.hid e1
      have HO2 := Lib.hid e2
      have HO3 := Lib.hid e3
      have HTs := hts
      have hsz : (t.extract (o + 1) t.size).size = t.size - (o + 1) := by
        simp
      have HSz := Lib.hid hsz
      clear ho hp hx hx' hxk e1 e2 e3 hts hat hno hsz
      dsimp only [pieceEnc] at hy
      have hoi : (o : Int) < t.size := by omega
      have hol : (o : Int) ≤ t.size := by omega
      have hsi : (t.size : Int) ≤ 140737488355328 := by omega
      gi_wp2_with (first
        | (refine ⟨trivial, fun h => (nomatch h), ?_⟩; gi_at_call 93; refine (callsIn_wide.2 (HIdx _).out).mono ?_; rintro e w1 ⟨rfl, rfl⟩))
      refine ⟨fun h => (nomatch h), hR.mono ?_⟩
      rintro e W' ⟨rfl, hJ', _, hk'⟩
      have e1 := (hk' Bs (.inl rfl)).trans HO1.out
      have e2 := (hk' Bp (.inr (.inl rfl))).trans HO2.out
      have e3 := (hk' Bv (.inr (.inr rfl))).trans HO3.out
      have c1 : W'.cell? ⟨Bs, 0, none⟩ = some (.string t) := cell_of_row _ _ 0 _ _ _ e1
      have c2 : W'.cell? ⟨Bp, 0, none⟩ = some (.string ⟨#[c]⟩) := cell_of_row _ _ 0 _ _ _ e2
      have f1 : W'.frozen? ⟨Bs, 0, none⟩ = false := frozen_of_row _ _ 0 _ _ e1
      have HE1 := Lib.hid e1
      have HE2 := Lib.hid e2
      have HE3 := Lib.hid e3
      clear e1 e2 e3 hk' hy
      gi_wp2
      go_roundw
      case rel =>
        refine ⟨k + 1, _, HX'.out, HJ.out _ _ _ hJ' ((Rng.But.refl _ _).setCell (p := ⟨Bs, 0, none⟩) (.inl rfl) _), ?_, heap_setCell_same _ _ _ _ _ _ HE1.out, ?_, ?_⟩
        · rw [HSz.out]; omega
        · rw [heap_setCell_other _ _ _ _ (fun h => d1 h.symm)]; exact HE2.out
        · rw [heap_setCell_other _ _ _ _ (fun h => d2 h.symm)]; exact HE3.out
      case measure =>
        rw [show (W'.setCell ⟨Bs, 0, none⟩ (.string (t.extract (o + 1) t.size))).cell? ⟨Bs, 0, none⟩ = some (.string (t.extract (o + 1) t.size)) from cell_of_row _ _ 0 _ _ _ (heap_setCell_same _ _ _ _ _ _ HE1.out)]
        rw [show w1.cell? ⟨Bs, 0, none⟩ = some (.string t) from cell_of_row _ _ 0 _ _ _ HO1.out]
        show (t.extract (o + 1) t.size).size < t.size
        rw [HSz.out]
        omega

end Go.Proofs.YtaibehfpbcgijaaDoor.Asc

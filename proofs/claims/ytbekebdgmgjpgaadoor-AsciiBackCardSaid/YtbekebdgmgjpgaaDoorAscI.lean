/- Contracts of package ascii's Equal, and of the document's answers for Equal and Trim. -/
import Derived.Test.YtbekebdgmgjpgaaDoorRow8
import Derived.Test.YtbekebdgmgjpgaaDoorAscD
import Derived.BigQuiet
import Derived.Deep.QuietTactic
namespace Go.Proofs.YtbekebdgmgjpgaaDoor.Asc
open Go.RowKit

theorem quietL {P : Program} {f : FuncId} {args : Array Value} {w : World} {n : Nat} {v : Value}
    (h : Calls P f args (w.drewN n) fun e w' => e = .returned v ∧ w.drewN n = w') : Calls P f args (w.drewN n) fun e w'' => e = .returned v ∧ ∃ m, w'' = w.drewN m :=
  h.mono fun _ _ ⟨he, hm⟩ => ⟨he, n, hm.symm⟩
theorem below_dn {B : Nat} {a w : World} (h : Below B a w) (n : Nat) : Below B a (w.drewN n) := ⟨h.os, h.tape, h.output, h.size, h.block⟩

def strOf' (v : Value) : Nat := match v with | .string t => t.size | _ => 0
/-- P103: whether two texts are the same but for small letters. -/
def eqL (a b : List UInt8) : Bool := decide (a.map smallB = b.map smallB)
theorem eqL_len (a b : ByteArray) (h : a.size ≠ b.size) : eqL a.data.toList b.data.toList = false := by
  unfold eqL
  rw [decide_eq_false_iff_not]
  intro e
  have := congrArg List.length e
  rw [List.length_map, List.length_map] at this
  exact h this
theorem eqL_at (a b : ByteArray) (k : Nat) (ha : k < a.size) (hb : k < b.size) (h : ¬ smallB a[k] = smallB b[k]) : eqL a.data.toList b.data.toList = false := by
  unfold eqL
  rw [decide_eq_false_iff_not]
  intro e
  have := congrArg (·[k]?) e
  simp only [List.getElem?_map] at this
  rw [List.getElem?_eq_getElem (show k < a.data.toList.length from ha), List.getElem?_eq_getElem (show k < b.data.toList.length from hb)] at this
  rw [Option.map_some, Option.map_some] at this
  exact h (Option.some.inj this)
theorem eqL_all (a b : ByteArray) (hs : a.size = b.size) (h : ∀ k (ha : k < a.size) (hb : k < b.size), smallB a[k] = smallB b[k]) : eqL a.data.toList b.data.toList = true := by
  unfold eqL
  rw [decide_eq_true_eq]
  apply List.ext_getElem
  · rw [List.length_map, List.length_map]; exact hs
  · intro k h1 h2
    rw [List.getElem_map, List.getElem_map]
    exact h k (by rw [List.length_map] at h1; exact h1) (by rw [List.length_map] at h2; exact h2)

set_option maxRecDepth 100000 in
set_option maxHeartbeats 1000000 in
theorem equal_any (a b : ByteArray) (w : World) (ha : a.size ≤ 9223372036854775807) :
    Calls Tryd.prog 17 #[.string a, .string b] w fun e w' => e = .returned (.bool (eqL a.data.toList b.data.toList)) ∧ Below w.heap.size w w' := by
  by_cases hs : a.size = b.size
  · have hne : ((a.size : Int) != (b.size : Int)) = false := by rw [hs]; simp
    have HS := Lib.hid hs
    clear hs
    go_enter Tryd.func17, Tryd.ntmps17
    go_wp2
    go_loopw [13] (fun i wr => ∃ k : Nat, k ≤ a.size ∧ i = .int .i64 k ∧ (∀ j (h1 : j < a.size) (h2 : j < b.size), j < k → smallB a[j] = smallB b[j]) ∧ Below w.heap.size w wr) (fun i _ => a.size - (intOf i).toNat)
    case atStart => exact ⟨0, Nat.zero_le _, rfl, fun j _ _ h => absurd h (by omega), Below.refl _ _⟩
    case round =>
      obtain ⟨k, hk, rfl, hall, hbe⟩ := hrel
      have HA := Lib.hid hall
      have HB := Lib.hid hbe
      clear hall hbe
      by_cases hlt : k < a.size
      · have hlb : k < b.size := by have := HS.out; omega
        have hib : (k : Int) < b.size := by omega
        have hia : (k : Int) < a.size := by omega
        by_cases heq : smallB a[k] = smallB b[k]
        · have HE := Lib.hid heq
          have hbo : (((smallB a[k]).toNat : Int) != ((smallB b[k]).toNat : Int)) = false := by rw [heq]; simp
          clear heq
          go_wp2_with fail
          go_quiet ((go_at_call 45; exact quietL (small_any _ _)))
          go_wp2_with fail
          go_roundw
          case rel =>
            refine ⟨k + 1, by omega, by go_num, fun j h1 h2 hj => ?_, below_dn HB.out _⟩
            by_cases e : j = k
            · subst e; exact HE.out
            · exact HA.out j h1 h2 (by omega)
          case measure => simp [intOf]; omega
        · have HE := Lib.hid (eqL_at a b k hlt hlb heq)
          have hbo : (((smallB a[k]).toNat : Int) != ((smallB b[k]).toNat : Int)) = true := by
            rw [bne_iff_ne]
            intro e
            exact heq (UInt8.toNat_inj.1 (by omega))
          clear heq
          go_wp2_with fail
          go_quiet ((go_at_call 45; exact quietL (small_any _ _)))
          go_wp2_with fail
          go_ret
          exact ⟨ret_bool HE.out.symm, below_dn HB.out _⟩
      · obtain rfl : k = a.size := by omega
        have HE := Lib.hid (eqL_all a b HS.out fun j h1 h2 => HA.out j h1 h2 h1)
        go_wp2
        go_ret
        exact ⟨ret_bool HE.out.symm, HB.out⟩
  · have hne : ((a.size : Int) != (b.size : Int)) = true := by rw [bne_iff_ne]; omega
    have HE := Lib.hid (eqL_len a b hs)
    clear hs
    go_enter Tryd.func17, Tryd.ntmps17
    go_wp2
    go_ret
    exact ⟨ret_bool HE.out.symm, Below.refl _ _⟩

theorem low_beq (a b : ByteArray) : ((lowS a).toList == (lowS b).toList) = eqL a.data.toList b.data.toList := by
  rw [Lib.toList_data, Lib.toList_data]
  unfold eqL lowS
  rw [Bool.eq_iff_iff, beq_iff_eq, decide_eq_true_eq]

set_option maxHeartbeats 1000000 in
theorem refEqual_any (a b : ByteArray) (w : World) (ha : a.size ≤ 9223372036854775807) (hb : b.size ≤ 9223372036854775807) :
    Calls Tryd.prog 18 #[.string a, .string b] w fun e w' => e = .returned (.bool (eqL a.data.toList b.data.toList)) ∧ Below w.heap.size w w' := by
  have H1 := fun w => Lib.hid (refLower_any a w ha)
  have H2 := fun w => Lib.hid (refLower_any b w hb)
  go_enter Tryd.func18, Tryd.ntmps18
  go_wp2_with fail
  refine (H1 _).out.mono ?_
  rintro e w1 ⟨rfl, hb1⟩
  go_wp2_with fail
  refine (H2 _).out.mono ?_
  rintro e w2 ⟨rfl, hb2⟩
  go_wp2_with fail
  go_ret
  exact ⟨ret_bool (low_beq a b), hb1.trans (hb2.mono hb1.size)⟩

theorem trimL_cons (x : UInt8) (l : List UInt8) (h : blankB x = true) : trimL (x :: l) = trimL l := by
  have hx : ([9, 32] : List UInt8).contains x = true := by rw [blank_mem]; exact h
  unfold trimL Lib.trimS Lib.trimRightS Lib.trimLeftS
  rw [List.reverse_cons, List.dropWhile_append]
  split
  · rename_i he
    rw [List.isEmpty_iff] at he
    rw [he, List.dropWhile_cons, if_pos hx]
    rfl
  · rw [List.reverse_append]
    show List.dropWhile _ (x :: _) = _
    rw [List.dropWhile_cons, if_pos hx]
    rfl
theorem trimL_snoc (y : UInt8) (l : List UInt8) (h : blankB y = true) : trimL (l ++ [y]) = trimL l := by
  have hy : ([9, 32] : List UInt8).contains y = true := by rw [blank_mem]; exact h
  unfold trimL Lib.trimS Lib.trimRightS
  rw [List.reverse_append]
  show Lib.trimLeftS (List.dropWhile _ (y :: l.reverse)).reverse _ = _
  rw [List.dropWhile_cons, if_pos hy]
theorem trimL_front (t : ByteArray) (h : 0 < t.size) (hb : blankB (t[0]'h) = true) : trimL (t.extract 1 t.size).data.toList = trimL t.data.toList := by
  have hl : t.data.toList = (t[0]'h) :: t.data.toList.drop 1 := by
    have := List.drop_eq_getElem_cons (l := t.data.toList) (i := 0) h
    rw [List.drop_zero] at this
    exact this
  rw [Lib.extract_data]
  rw [List.take_of_length_le (by rw [List.length_drop]; exact Nat.le_refl _)]
  conv => rhs; rw [hl]
  rw [trimL_cons _ _ hb]
theorem trimL_back (t : ByteArray) (h : 0 < t.size) (hb : blankB (t[t.size - 1]'(by omega)) = true) : trimL (t.extract 0 (t.size - 1)).data.toList = trimL t.data.toList := by
  have hn : t.data.toList.length = t.size := rfl
  have hl : t.data.toList = t.data.toList.take (t.size - 1) ++ [t[t.size - 1]'(by omega)] := by
    have := List.take_succ_eq_append_getElem (l := t.data.toList) (i := t.size - 1) (by rw [hn]; omega)
    rw [show t.size - 1 + 1 = t.size by omega, List.take_of_length_le (by rw [hn]; exact Nat.le_refl _)] at this
    exact this
  rw [Lib.extract_data]
  simp only [List.drop_zero, Nat.sub_zero]
  conv => rhs; rw [hl]
  rw [trimL_snoc _ _ hb]
theorem trimL_done (t : ByteArray) (h : 0 < t.size) (h0 : blankB (t[0]'h) = false) (h1 : blankB (t[t.size - 1]'(by omega)) = false) : trimL t.data.toList = t.data.toList := by
  have hl : t.data.toList.length = t.size := rfl
  have g0 : t.data.toList[0]? = some (t[0]'h) := List.getElem?_eq_getElem (by rw [hl]; exact h)
  have g1 : t.data.toList.reverse[0]? = some (t[t.size - 1]'(by omega)) := by
    rw [List.getElem?_reverse (by rw [hl]; exact h), hl]
    exact List.getElem?_eq_getElem (by rw [hl]; omega)
  generalize (t[0]'h) = x at g0 h0
  generalize (t[t.size - 1]'(by omega)) = y at g1 h1
  obtain ⟨u, hu⟩ : ∃ u, t.data.toList = x :: u := by
    cases hc : t.data.toList with
    | nil => rw [hc] at g0; simp at g0
    | cons a t => rw [hc] at g0; simp at g0; exact ⟨t, by rw [g0]⟩
  obtain ⟨v, hv⟩ : ∃ v, t.data.toList.reverse = y :: v := by
    cases hc : t.data.toList.reverse with
    | nil => rw [hc] at g1; simp at g1
    | cons a t => rw [hc] at g1; simp at g1; exact ⟨t, by rw [g1]⟩
  have := trimL_ends _ u v x y hu hv
  rw [h0, h1] at this
  simpa using this
/-- No blank at the head. -/
def HeadOk (t : ByteArray) : Prop := ∀ h : 0 < t.size, blankB (t[0]'h) = false

theorem HeadOk.front {t : ByteArray} (h : HeadOk t) : HeadOk (t.extract 0 (t.size - 1)) := by
  intro h1
  have hs : 0 < t.size := by
    have : (t.extract 0 (t.size - 1)).size = min (t.size - 1) t.size - 0 := ByteArray.size_extract
    omega
  have := h hs
  have e : (t.extract 0 (t.size - 1)).data.toList[0]? = some ((t.extract 0 (t.size - 1))[0]'h1) := List.getElem?_eq_getElem h1
  rw [Lib.extract_data] at e
  simp only [List.drop_zero, Nat.sub_zero] at e
  rw [List.getElem?_take_of_lt (by
    have : (t.extract 0 (t.size - 1)).size = min (t.size - 1) t.size - 0 := ByteArray.size_extract
    omega), List.getElem?_eq_getElem (show 0 < t.data.toList.length from hs)] at e
  rw [← Option.some.inj e]
  exact this
theorem trimL_end (t s : ByteArray) (ht : trimL t.data.toList = trimL s.data.toList) (hh : HeadOk t) (h : t.size = 0 ∨ ∃ h : 0 < t.size, blankB (t[t.size - 1]'(by omega)) = false) : t = ⟨(trimL s.data.toList).toArray⟩ := by
  have e : trimL t.data.toList = t.data.toList := by
    rcases h with hz | ⟨hp, hb⟩
    · have : t.data.toList = [] := List.eq_nil_of_length_eq_zero hz
      rw [this]; rfl
    · exact trimL_done t hp (hh hp) hb
  rw [← ht, e, Lib.mk_data]

set_option maxRecDepth 100000 in
set_option maxHeartbeats 1000000 in
theorem refTrim_any (s : ByteArray) (w : World) (hs : s.size ≤ 9223372036854775807) :
    Calls Tryd.prog 20 #[.string s] w fun e w' => e = .returned (.string ⟨(trimL s.data.toList).toArray⟩) ∧ w = w' := by
  go_enter Tryd.func20, Tryd.ntmps20
  go_wp2
  go_loop [0] (fun v => ∃ t : ByteArray, v = .string t ∧ trimL t.data.toList = trimL s.data.toList ∧ t.size ≤ s.size) (fun v => strOf' v)
  case atStart => exact ⟨s, rfl, rfl, Nat.le_refl _⟩
  case round =>
    obtain ⟨t, rfl, ht, hts⟩ := hrel
    have HT := Lib.hid ht
    clear ht
    have hti : (t.size : Int) ≤ 9223372036854775807 := by omega
    by_cases hp : ∃ hp : 0 < t.size, blankB (t[0]'hp) = true
    · obtain ⟨hp, hb⟩ := hp
      have hpi : (0 : Int) < t.size := by omega
      have hp1 : (1 : Int) ≤ t.size := by omega
      have HN := Lib.hid ((trimL_front t hp hb).trans HT.out)
      have HB := fun w => Lib.hid (blank_any (t[0]'hp) w)
      rw [hb] at HB
      have HZ : Hid ((t.extract 1 t.size).size = t.size - 1) := by show _ = _; simp
      clear hb
      go_wp2_with (go_at_call 44; refine (HB _).out.mono ?_; rintro e w1 ⟨rfl, rfl⟩)
      go_round
      case rel => exact ⟨_, rfl, HN.out, by rw [HZ.out]; omega⟩
      case measure =>
        show (t.extract 1 t.size).size < t.size
        rw [HZ.out]; omega
    · have HH : Hid (HeadOk t) := fun h => by
        cases hb : blankB (t[0]'h) with
        | true => exact absurd ⟨h, hb⟩ hp
        | false => rfl
      clear hp
      by_cases hp : 0 < t.size
      · have hpi : (0 : Int) < t.size := by omega
        have HB := fun w => Lib.hid (blank_any (t[0]'hp) w)
        rw [HH.out hp] at HB
        go_wp2_with (go_at_call 44; refine (HB _).out.mono ?_; rintro e w1 ⟨rfl, rfl⟩)
        clear HB hpi
        go_loop [0] (fun v => ∃ t : ByteArray, v = .string t ∧ trimL t.data.toList = trimL s.data.toList ∧ t.size ≤ s.size ∧ HeadOk t) (fun v => strOf' v)
        case atStart => exact ⟨t, rfl, HT.out, hts, HH.out⟩
        case round =>
          clear HT HH hts hti
          obtain ⟨r, rfl, ht, hrs, hh⟩ := hrel
          have HT := Lib.hid ht
          have HH := Lib.hid hh
          clear ht hh
          have hti : (r.size : Int) ≤ 9223372036854775807 := by omega
          by_cases hp : 0 < r.size
          · have hpi : (0 : Int) < r.size := by omega
            have hp1 : 1 ≤ r.size := by omega
            have hp2 : r.size - 1 < r.size := by omega
            have hp3 : (r.size : Int) - 1 < r.size := by omega
            have hp4 : 0 ≤ (r.size : Int) - 1 := by omega
            cases hb : blankB (r[r.size - 1]'hp2) with
            | true =>
              have HN := Lib.hid ((trimL_back r hp hb).trans HT.out)
              have HB := fun w => Lib.hid (blank_any (r[r.size - 1]'hp2) w)
              rw [hb] at HB
              have HZ : Hid ((r.extract 0 (r.size - 1)).size = r.size - 1) := by show _ = _; simp
              have HF := Lib.hid HH.out.front
              clear hb
              go_wp2_with (go_at_call 44; refine (HB _).out.mono ?_; rintro e w1 ⟨rfl, rfl⟩)
              go_round
              case rel => exact ⟨_, rfl, HN.out, by rw [HZ.out]; omega, HF.out⟩
              case measure =>
                show (r.extract 0 (r.size - 1)).size < r.size
                rw [HZ.out]; omega
            | false =>
              have HE := Lib.hid (trimL_end r s HT.out HH.out (.inr ⟨hp, hb⟩))
              have HB := fun w => Lib.hid (blank_any (r[r.size - 1]'hp2) w)
              rw [hb] at HB
              clear hb
              go_wp2_with (go_at_call 44; refine (HB _).out.mono ?_; rintro e w1 ⟨rfl, rfl⟩)
              go_ret
              exact ⟨by rw [← HE.out]; rfl, rfl⟩
          · have HE := Lib.hid (trimL_end r s HT.out HH.out (.inl (by omega)))
            have hpi : ¬ (0 : Int) < r.size := by omega
            go_wp2_with fail
            go_ret
            exact ⟨by rw [← HE.out]; rfl, rfl⟩
      · have hpi : ¬ (0 : Int) < t.size := by omega
        go_wp2_with fail
        clear hpi hp
        go_loop [0] (fun v => ∃ t : ByteArray, v = .string t ∧ trimL t.data.toList = trimL s.data.toList ∧ t.size ≤ s.size ∧ HeadOk t) (fun v => strOf' v)
        case atStart => exact ⟨t, rfl, HT.out, hts, HH.out⟩
        case round =>
          clear HT HH hts hti
          obtain ⟨r, rfl, ht, hrs, hh⟩ := hrel
          have HT := Lib.hid ht
          have HH := Lib.hid hh
          clear ht hh
          have hti : (r.size : Int) ≤ 9223372036854775807 := by omega
          by_cases hp : 0 < r.size
          · have hpi : (0 : Int) < r.size := by omega
            have hp1 : 1 ≤ r.size := by omega
            have hp2 : r.size - 1 < r.size := by omega
            have hp3 : (r.size : Int) - 1 < r.size := by omega
            have hp4 : 0 ≤ (r.size : Int) - 1 := by omega
            cases hb : blankB (r[r.size - 1]'hp2) with
            | true =>
              have HN := Lib.hid ((trimL_back r hp hb).trans HT.out)
              have HB := fun w => Lib.hid (blank_any (r[r.size - 1]'hp2) w)
              rw [hb] at HB
              have HZ : Hid ((r.extract 0 (r.size - 1)).size = r.size - 1) := by show _ = _; simp
              have HF := Lib.hid HH.out.front
              clear hb
              go_wp2_with (go_at_call 44; refine (HB _).out.mono ?_; rintro e w1 ⟨rfl, rfl⟩)
              go_round
              case rel => exact ⟨_, rfl, HN.out, by rw [HZ.out]; omega, HF.out⟩
              case measure =>
                show (r.extract 0 (r.size - 1)).size < r.size
                rw [HZ.out]; omega
            | false =>
              have HE := Lib.hid (trimL_end r s HT.out HH.out (.inr ⟨hp, hb⟩))
              have HB := fun w => Lib.hid (blank_any (r[r.size - 1]'hp2) w)
              rw [hb] at HB
              clear hb
              go_wp2_with (go_at_call 44; refine (HB _).out.mono ?_; rintro e w1 ⟨rfl, rfl⟩)
              go_ret
              exact ⟨by rw [← HE.out]; rfl, rfl⟩
          · have HE := Lib.hid (trimL_end r s HT.out HH.out (.inl (by omega)))
            have hpi : ¬ (0 : Int) < r.size := by omega
            go_wp2_with fail
            go_ret
            exact ⟨by rw [← HE.out]; rfl, rfl⟩

end Go.Proofs.YtbekebdgmgjpgaaDoor.Asc

/- Contract of the document's answer for Split. -/
import Derived.Test.YtbekebdgmgjpgaaDoorAscJ
namespace Go.Proofs.YtbekebdgmgjpgaaDoor.Asc
open Go.RowKit

def keepL (P : List (List UInt8)) : List (List UInt8) := (P.map trimL).filter fun p => !p.isEmpty
theorem keepL_snoc (P : List (List UInt8)) (p : List UInt8) : keepL (P ++ [p]) = keepL P ++ if (trimL p).isEmpty then [] else [trimL p] := by
  unfold keepL
  rw [List.map_append, List.filter_append]
  congr 1
  cases hz : (trimL p).isEmpty <;> simp [hz]
/-- What the document's Split holds, byte k being next: the parts P are cut off, the next one begins at m. -/
def Cut (c : UInt8) (l : List UInt8) (P : List (List UInt8)) (m k : Nat) : Prop :=
  m ≤ k ∧ P.length ≤ k ∧ ((k ≤ l.length ∧ splitB c l = P ++ splitB c (l.drop m) ∧ ∀ j, m ≤ j → j < k → l[j]? ≠ some c) ∨ (k = l.length + 1 ∧ splitB c l = P))
theorem Cut.start (c : UInt8) (l : List UInt8) : Cut c l [] 0 0 := ⟨Nat.le_refl _, Nat.le_refl _, .inl ⟨Nat.zero_le _, rfl, fun j _ h => absurd h (by omega)⟩⟩
theorem Cut.skip {c : UInt8} {l : List UInt8} {P : List (List UInt8)} {m k : Nat} (h : Cut c l P m k) (hk : k < l.length) (hne : l[k]? ≠ some c) : Cut c l P m (k + 1) := by
  obtain ⟨h1, h0, ⟨_, h3, h4⟩ | ⟨h2, _⟩⟩ := h
  · refine ⟨by omega, by omega, .inl ⟨by omega, h3, fun j hj hjk => ?_⟩⟩
    by_cases e : j = k
    · subst e; exact hne
    · exact h4 j hj (by omega)
  · omega
theorem Cut.cut {c : UInt8} {l : List UInt8} {P : List (List UInt8)} {m k : Nat} (h : Cut c l P m k) (hk : k < l.length) (he : l[k]? = some c) : Cut c l (P ++ [(l.drop m).take (k - m)]) (k + 1) (k + 1) := by
  obtain ⟨h1, h0, ⟨_, h3, h4⟩ | ⟨h2, _⟩⟩ := h
  · refine ⟨Nat.le_refl _, by simp; omega, .inl ⟨by omega, ?_, fun j hj hjk => absurd hj (by omega)⟩⟩
    rw [h3, splitB_some c (l.drop m) (k - m) (by rw [List.getElem?_drop, show m + (k - m) = k by omega]; exact he) (fun j hj => by
      rw [List.getElem?_drop]; exact h4 (m + j) (by omega) (by omega)), List.drop_drop, show m + (k - m + 1) = k + 1 by omega, List.append_assoc]
    rfl
  · omega
theorem Cut.last {c : UInt8} {l : List UInt8} {P : List (List UInt8)} {m : Nat} (h : Cut c l P m l.length) : Cut c l (P ++ [(l.drop m).take (l.length - m)]) (l.length + 1) (l.length + 1) := by
  obtain ⟨h1, h0, ⟨_, h3, h4⟩ | ⟨h2, _⟩⟩ := h
  · refine ⟨Nat.le_refl _, by simp; omega, .inr ⟨rfl, ?_⟩⟩
    rw [h3, splitB_none c (l.drop m) (fun j => by
      rw [List.getElem?_drop]
      by_cases hj : m + j < l.length
      · exact h4 (m + j) (by omega) hj
      · rw [List.getElem?_eq_none (by omega)]; simp), List.take_of_length_le (by rw [List.length_drop]; exact Nat.le_refl _)]
  · omega
theorem Cut.done {c : UInt8} {l : List UInt8} {P : List (List UInt8)} {m : Nat} (h : Cut c l P m (l.length + 1)) : keepL P = partsB c l := by
  obtain ⟨h1, _, ⟨h2, _⟩ | ⟨_, h2⟩⟩ := h
  · omega
  · unfold keepL partsB; rw [h2]

set_option maxRecDepth 100000 in
set_option maxHeartbeats 2000000 in
theorem refSplit_any (s : ByteArray) (c : UInt8) (w : World) (hs : s.size ≤ 8796093022000) :
    Calls Tryd.prog 23 #[.string s, .int .u8 (c.toNat : Int)] w fun e w' => ∃ v, e = .returned v ∧
      w'.ownsRow w.heap.size 9 1 v (partsB c s.data.toList).length (strVs (partsB c s.data.toList)) ∧ Below w.heap.size w w' := by
  have hlen : s.data.toList.length = s.size := rfl
  have HLen := Lib.hid hlen
  clear hlen
  obtain ⟨i0, hi, hz0, hz1, hz2⟩ := info_parts info9
  go_enter Tryd.func23, Tryd.ntmps23
  go_wp2
  go_loopw [5, 6, 7] (fun v a b wr => ∃ (u : Value) (P : List (List UInt8)) (m k : Nat), u = v ∧ a = .int .i64 m ∧ b = .int .i64 k ∧ k ≤ s.size + 1 ∧ Cut c s.data.toList P m k ∧
      wr.ownsRow w.heap.size 9 1 u (keepL P).length (strVs (keepL P)) ∧ Below w.heap.size w wr) (fun _ _ b _ => s.size + 1 - (intOf b).toNat)
  case atStart => exact ⟨_, [], 0, 0, rfl, rfl, rfl, by omega, Cut.start _ _, World.ownsRow_nil _ _ _ _, Below.refl _ _⟩
  case round =>
    obtain ⟨u, P, m, k, rfl, rfl, rfl, hk, hcut, hrow, hbe⟩ := hrel
    have HC := Lib.hid hcut
    have HRow := Lib.hid hrow
    have HB := Lib.hid hbe
    have hbs := hbe.size
    have hmk := hcut.1
    have hpl : (keepL P).length ≤ s.size + 1 := by
      have h1 : (keepL P).length ≤ P.length := by
        unfold keepL
        refine Nat.le_trans (List.length_filter_le _ _) ?_
        rw [List.length_map]; exact Nat.le_refl _
      have := hcut.2.1
      omega
    clear hcut hrow hbe
    by_cases hle : k ≤ s.size
    · by_cases hskip : ∃ h : k < s.size, s[k] ≠ c
      · obtain ⟨hlt, hne⟩ := hskip
        have HN := Lib.hid (HC.out.skip (by rw [HLen.out]; exact hlt) (by
          rw [List.getElem?_eq_getElem (by rw [HLen.out]; exact hlt)]
          exact fun e => hne (Option.some.inj e)))
        have hne' : (((s[k].toNat : Int) != (c.toNat : Int))) = true := by
          rw [bne_iff_ne]
          exact fun e => hne (UInt8.toNat_inj.1 (by omega))
        have hli : (k : Int) < s.size := by omega
        clear hne
        go_wp2
        go_roundw
        case rel => exact ⟨_, P, m, k + 1, rfl, rfl, by go_num, by omega, HN.out, HRow.out, HB.out⟩
        case measure => simp [intOf]; omega
      · have hnext : Cut c s.data.toList (P ++ [(s.data.toList.drop m).take (k - m)]) (k + 1) (k + 1) := by
          by_cases hlt : k < s.size
          · refine HC.out.cut (by rw [HLen.out]; exact hlt) ?_
            rw [List.getElem?_eq_getElem (by rw [HLen.out]; exact hlt)]
            have : s[k] = c := Classical.byContradiction fun h => hskip ⟨hlt, h⟩
            exact congrArg some this
          · have hks : k = s.data.toList.length := by rw [HLen.out]; omega
            have h := HC.out
            rw [hks] at h ⊢
            exact h.last
        have hpiece : (s.extract m k).data.toList = (s.data.toList.drop m).take (k - m) := Lib.extract_data _ _ _
        have hsz : (s.extract m k).size ≤ 9223372036854775807 := by
          have : (s.extract m k).data.toList.length = (s.extract m k).size := rfl
          rw [← this, hpiece, List.length_take, List.length_drop, HLen.out]
          omega
        have htr := fun w => refTrim_any (s.extract m k) w hsz
        rw [hpiece] at htr
        have hks := keepL_snoc P ((s.data.toList.drop m).take (k - m))
        have HN := Lib.hid hnext
        have HTr := fun w => Lib.hid (htr w)
        clear hnext hpiece hsz htr
        have hmi : (m : Int) ≤ k := by omega
        have hki : (k : Int) ≤ s.size := by omega
        have hsi : (s.size : Int) ≤ 8796093022000 := by omega
        have hseps : ∀ h : k < s.size, ((s[k].toNat : Int) != (c.toNat : Int)) = false := fun h => by
          have : s[k] = c := Classical.byContradiction fun hn => hskip ⟨h, hn⟩
          rw [this]; simp
        clear hskip
        cases hr : (trimL ((s.data.toList.drop m).take (k - m))).isEmpty with
        | true =>
          rw [if_pos hr, List.append_nil] at hks
          rw [List.isEmpty_iff.1 hr] at HTr
          have HKs := Lib.hid hks
          clear hks hr
          by_cases hlt : k < s.size
          · have hsep := hseps hlt
            have hli : (k : Int) < s.size := by omega
            clear hseps
            go_wp2_with (go_at_call 20; refine (HTr _).out.mono ?_; rintro e w1 ⟨rfl, rfl⟩)
            go_roundw
            case rel => exact ⟨_, _, k + 1, k + 1, rfl, by go_num, by go_num, by omega, HN.out, by rw [HKs.out]; exact HRow.out, HB.out⟩
            case measure => simp [intOf]; omega
          · have hli : ¬ (k : Int) < s.size := by omega
            clear hseps
            go_wp2_with (go_at_call 20; refine (HTr _).out.mono ?_; rintro e w1 ⟨rfl, rfl⟩)
            go_roundw
            case rel => exact ⟨_, _, k + 1, k + 1, rfl, by go_num, by go_num, by omega, HN.out, by rw [HKs.out]; exact HRow.out, HB.out⟩
            case measure => simp [intOf]; omega
        | false =>
          rw [if_neg (by rw [hr]; simp)] at hks
          have HKs := Lib.hid hks
          clear hks
          generalize trimL ((s.data.toList.drop m).take (k - m)) = r at HTr HKs hr
          have hr1 : (!r.isEmpty) = true := by rw [hr]; rfl
          have hr2 : ¬ r = [] := fun e => by rw [e] at hr; cases hr
          by_cases hlt : k < s.size
          · have hsep := hseps hlt
            have hli : (k : Int) < s.size := by omega
            clear hseps
            go_wp2_with (first
              | (go_at_call 20; refine (HTr _).out.mono ?_; rintro e w1 ⟨rfl, rfl⟩)
              | (at_builtin; refine wpList_append_own _ rfl (.tmp 33) (.tmp 35) 27 rfl w.heap.size 9 i0 (.string ⟨#[]⟩) 1 16 Tryd.underlying27 hi hz0 hz1 hz2 rfl (by decide) _ _ _ rfl (HRow.out.alloc _) ⟨wr.heap.size, 0, none⟩ 1 1 [.string ⟨r.toArray⟩] rfl rfl (cell_one_new _ _ _) (by simp [Value.oneCell']) (by unfold maxLen; omega) (by omega) (by simp; omega) ?_; intro v' w2 hown' hgrow _; have HOwn := Lib.hid hown'; have HGrow := Lib.hid hgrow; clear hown' hgrow))
            go_roundw
            case rel =>
              refine ⟨_, _, k + 1, k + 1, rfl, by go_num, by go_num, by omega, HN.out, ?_, (HB.out.alloc hbs _).grown HGrow.out (by simp; omega) (fun q hq => (HRow.out.lt q hq).1)⟩
              rw [HKs.out, List.length_append]
              rw [show strVs (keepL P ++ [r]) = strVs (keepL P) ++ [.string ⟨r.toArray⟩] from by simp [strVs, strV]]
              exact HOwn.out
            case measure => simp [intOf]; omega
          · have hli : ¬ (k : Int) < s.size := by omega
            clear hseps
            go_wp2_with (first
              | (go_at_call 20; refine (HTr _).out.mono ?_; rintro e w1 ⟨rfl, rfl⟩)
              | (at_builtin; refine wpList_append_own _ rfl (.tmp 33) (.tmp 35) 27 rfl w.heap.size 9 i0 (.string ⟨#[]⟩) 1 16 Tryd.underlying27 hi hz0 hz1 hz2 rfl (by decide) _ _ _ rfl (HRow.out.alloc _) ⟨wr.heap.size, 0, none⟩ 1 1 [.string ⟨r.toArray⟩] rfl rfl (cell_one_new _ _ _) (by simp [Value.oneCell']) (by unfold maxLen; omega) (by omega) (by simp; omega) ?_; intro v' w2 hown' hgrow _; have HOwn := Lib.hid hown'; have HGrow := Lib.hid hgrow; clear hown' hgrow))
            go_roundw
            case rel =>
              refine ⟨_, _, k + 1, k + 1, rfl, by go_num, by go_num, by omega, HN.out, ?_, (HB.out.alloc hbs _).grown HGrow.out (by simp; omega) (fun q hq => (HRow.out.lt q hq).1)⟩
              rw [HKs.out, List.length_append]
              rw [show strVs (keepL P ++ [r]) = strVs (keepL P) ++ [.string ⟨r.toArray⟩] from by simp [strVs, strV]]
              exact HOwn.out
            case measure => simp [intOf]; omega
    · have hks : k = s.data.toList.length + 1 := by rw [HLen.out]; omega
      have HE : Hid (keepL P = partsB c s.data.toList) := by
        have h := HC.out
        rw [hks] at h
        exact h.done
      clear hks
      have hli : ¬ (k : Int) ≤ s.size := by omega
      go_wp2
      go_ret
      exact ⟨_, rfl, by rw [← HE.out]; exact HRow.out, HB.out⟩

end Go.Proofs.YtbekebdgmgjpgaaDoor.Asc

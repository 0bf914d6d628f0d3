/- Package huff's ranked: the symbols by their numbers, by the library's stable sort. -/
import Derived.Test.YtenkbmkecgnfmaaHufM
import Derived.Test.YtenkbmkecgnfmaaHufF
import Derived.Test.YtenkbmkecgnfmaaSrtH
import Derived.BigQuiet
namespace Go.Proofs.Ytenkbmkecgnfmaa.Huf
open Go.RowKit Go.Shelf Go.Lib Go.Proofs.Ytenkbmkecgnfmaa.Mem Go.Proofs.Ytenkbmkecgnfmaa.Srt
open Go.Sort (SWO PermIn SortedIn)

theorem compare_any (x y : Int) (w : World) : Calls Try.prog 50 #[.int .i64 x, .int .i64 y] w fun e w' => e = .returned (.int .i64 (Lib.compareInt x y)) ∧ w' = w :=
  AnyG.cmp_Compare_int Try.laysCmp x y w

set_option maxHeartbeats 1000000 in
theorem rankedCmp_any (W : World) (bx : Nat) (a : Addr) (c : Nat) (l : List Int) (hb : W.cell? ⟨bx, 0, none⟩ = some (.slice (some a) l.length c)) (hs : SrcI W (.slice (some a) l.length c) l) (x y : Nat) (hx : x < l.length) (hy : y < l.length) :
    Calls Try.prog 49 #[.int .i64 x, .int .i64 y, .pointer (some ⟨bx, 0, none⟩)] W fun e w' => e = .returned (.int .i64 (Lib.compareInt (numAt l x) (numAt l y))) ∧ ∃ q, w' = W.drewN q := by
  have hbA : ∀ q, (W.drewN q).cell? ⟨bx, 0, none⟩ = some (.slice (some a) l.length c) := fun q => hb
  have c1 : ∀ q, (W.drewN q).cell? (a.add x) = some (.int .i64 (numAt l x)) := fun q => by rw [numAt_eq l x hx]; exact srci_cell hs x hx
  have c2 : ∀ q, (W.drewN q).cell? (a.add y) = some (.int .i64 (numAt l y)) := fun q => by rw [numAt_eq l y hy]; exact srci_cell hs y hy
  have hcon : ∀ q, Calls Try.prog 50 #[.int .i64 (numAt l x), .int .i64 (numAt l y)] (W.drewN q) fun e w' => e = .returned (.int .i64 (Lib.compareInt (numAt l x) (numAt l y))) ∧ w' = W.drewN q := fun q => compare_any _ _ _
  generalize Lib.compareInt (numAt l x) (numAt l y) = r at hcon ⊢
  generalize numAt l x = zx at c1 hcon
  generalize numAt l y = zy at c2 hcon
  have hxz : (x : Int) < (l.length : Int) := by omega
  have hyz : (y : Int) < (l.length : Int) := by omega
  have x0 : (0 : Int) ≤ (x : Int) := by omega
  have y0 : (0 : Int) ≤ (y : Int) := by omega
  clear hs hb hx hy
  go_enter Try.func49, Try.ntmps49
  go_wp2_with fail
  go_quiet (first | (go_at_call 50; refine Calls.quiet_of_same (hcon _)))
  go_wp2_with fail
  go_ret
  exact ⟨rfl, _, rfl⟩

/-- The places of a list, as a type of their own. -/
def encF {n : Nat} (i : Fin n) : Value := .int .i64 ((i.val : Nat) : Int)
def ltF (l : List Int) (x y : Fin l.length) : Bool := decide (numAt l x.val < numAt l y.val ∨ numAt l x.val = numAt l y.val ∧ x.val < y.val)
theorem swo_ltF (l : List Int) : SWO (ltF l) where
  irrefl x := decide_eq_false (Lt2.irrefl (K := numAt l) x.val)
  trans x y z h1 h2 := by
    have g1 := of_decide_eq_true h1
    have g2 := of_decide_eq_true h2
    refine decide_eq_true ?_
    omega
  ntrans x y z h1 h2 := by
    have g1 := of_decide_eq_false h1
    have g2 := of_decide_eq_false h2
    refine decide_eq_false ?_
    omega
def selF (l : List Int) : List (Fin l.length) := (List.finRange l.length).filter fun i => decide (numAt l i.val ≠ 0)
/-- What has been taken, of the first k places. -/
def selN (l : List Int) (k : Nat) : List Int := ((List.range k).filter fun i => decide (numAt l i ≠ 0)).map Int.ofNat
theorem selN_step (l : List Int) (k : Nat) : selN l (k + 1) = if numAt l k ≠ 0 then selN l k ++ [(k : Int)] else selN l k := by
  unfold selN
  rw [List.range_succ, List.filter_append]
  split
  · rename_i h
    simp [h]
  · rename_i h
    simp [h]
theorem selN_len (l : List Int) (k : Nat) : (selN l k).length ≤ k := by
  unfold selN
  rw [List.length_map]
  have := List.length_filter_le (fun i => decide (numAt l i ≠ 0)) (List.range k)
  rwa [List.length_range] at this
theorem selF_val (l : List Int) : iVs (selN l l.length) = (selF l).map encF := by
  unfold selF selN iVs
  have h : List.range l.length = (List.finRange l.length).map Fin.val := by
    apply List.ext_getElem
    · simp
    · intro i h1 h2
      simp
  rw [h, List.filter_map, List.map_map, List.map_map]
  rfl
theorem selF_len (l : List Int) : (selF l).length = (selN l l.length).length := by
  have := congrArg List.length (selF_val l)
  rw [iVs_len, List.length_map] at this
  exact this.symm
theorem pairwise_finRange (n : Nat) : (List.finRange n).Pairwise (fun a b => a.val < b.val) := by
  rw [List.pairwise_iff_getElem]
  intro i j hi hj hij
  simpa using hij

/-- A row that holds these places, sorted, holds what is said. -/
theorem rank_of_sorted (l : List Int) (d' : Array (Fin l.length)) [Inhabited (Fin l.length)] (hp : d'.toList.Perm (selF l)) (hs : SortedIn (ltF l) 0 d'.size d') : d'.toList.map encF = iVs ((rankL l).map Int.ofNat) := by
  have hnd : (selF l).Nodup := ((pairwise_finRange l.length).filter _).imp (fun h e => by subst e; omega)
  have hnd' : d'.toList.Nodup := hp.nodup_iff.2 hnd
  have hpw : (d'.toList.map Fin.val).Pairwise (Lt2 (numAt l)) := by
    rw [List.pairwise_map, List.pairwise_iff_getElem]
    intro i j hi hj hij
    have h1 := hs i j (Nat.zero_le _) hij (by simpa using hj)
    have h2 := of_decide_eq_false h1
    have hne : (d'.toList[i]).val ≠ (d'.toList[j]).val := fun e => by
      have := (List.pairwise_iff_getElem.1 hnd') i j hi hj hij
      exact this (Fin.ext e)
    have ei : d'[i]! = d'.toList[i] := by rw [getElem!_pos d' i (by simpa using hi)]; simp
    have ej : d'[j]! = d'.toList[j] := by rw [getElem!_pos d' j (by simpa using hj)]; simp
    rw [ei, ej] at h2
    exact (Lt2.total hne).resolve_right h2
  have hm : d'.toList.map Fin.val = rankL l := rankL_eq hpw fun s => by
    rw [List.mem_map]
    constructor
    · rintro ⟨i, hi, rfl⟩
      have := hp.mem_iff.1 hi
      unfold selF at this
      rw [List.mem_filter] at this
      exact ⟨i.isLt, of_decide_eq_true this.2⟩
    · rintro ⟨h1, h2⟩
      refine ⟨⟨s, h1⟩, hp.mem_iff.2 ?_, rfl⟩
      unfold selF
      rw [List.mem_filter]
      exact ⟨List.mem_finRange _, decide_eq_true h2⟩
  rw [← hm]
  unfold iVs
  rw [List.map_map, List.map_map]
  rfl

set_option maxHeartbeats 4000000 in
set_option maxRecDepth 100000 in
theorem ranked_any (W : World) (v : Value) (l : List Int) (hs : SrcI W v l) (hl : l.length ≤ 1048576) :
    Calls Try.prog 34 #[v] W fun e w' => ∃ u, e = .returned u ∧ w'.ownsRow W.heap.size 3 1 u (rankL l).length (iVs ((rankL l).map Int.ofNat)) ∧ Below W.heap.size W w' := by
  obtain ⟨ao, c, rfl, hao⟩ := hs.shape
  have hA := (Below.refl W.heap.size W).alloc (Nat.le_refl _) (.cells #[.slice ao l.length c] 22)
  have hsA := hs.below hA
  have hbox : (W.alloc (.cells #[.slice ao l.length c] 22)).cell? ⟨W.heap.size, 0, none⟩ = some (.slice ao l.length c) := by rw [cell_of_row _ _ _ _ _ (0, 0) (heap_alloc_new _ _)]; rfl
  have hszA : (W.alloc (.cells #[.slice ao l.length c] 22)).heap.size = W.heap.size + 1 := by simp
  obtain ⟨W1, hW1⟩ : ∃ W1, W1 = W.alloc (.cells #[.slice ao l.length c] 22) := ⟨_, rfl⟩
  obtain ⟨bx, hbx⟩ : ∃ b, b = W.heap.size := ⟨_, rfl⟩
  rw [← hW1, ← hbx] at hbox
  rw [← hW1] at hA hsA hszA
  have HS : Aside (SrcI W1 (.slice ao l.length c) l ∧ SrcI W (.slice ao l.length c) l) := ⟨hsA, hs⟩
  have HA : Aside (Below W.heap.size W W1 ∧ W1.heap.size = bx + 1 ∧ bx = W.heap.size) := ⟨hA, by rw [hszA, hbx], hbx⟩
  have HB : Aside (W1.cell? ⟨bx, 0, none⟩ = some (.slice ao l.length c)) := hbox
  have HL : Aside (0 < l.length → ∃ a, ao = some a) := hao
  have hlo : (l.length : Int) ≤ 1048576 := by omega
  clear hs hA hsA hszA hao
  go_enter Try.func34, Try.ntmps34
  go_upto_region 2 with fail
  rw [← hW1, ← hbx]
  have HW := Lib.hid hW1
  have HX := Lib.hid hbx
  clear hW1 hbx
  go_wp2_with fail
  clear hbox
  go_loopg [3, 8] l.length (fun kx s3 s8 wr => ∃ (i : Nat) (u : Value), s8 = .int .i64 i ∧ u = s3 ∧ i ≤ l.length ∧ l.length - i ≤ kx ∧ Aside (wr.ownsRow (bx + 1) 3 1 s3 (selN l i).length (iVs (selN l i)) ∧ Below (bx + 1) W1 wr ∧ bx + 1 ≤ wr.heap.size ∧ (selN l i = [] → s3 = .slice none 0 0)))
  case atStart => exact ⟨0, _, rfl, rfl, Nat.zero_le _, Nat.le_refl _, own_nilI W1 _, Below.refl _ _, by have := HA.out; omega, fun _ => rfl⟩
  case round =>
    obtain ⟨i, s3, rfl, rfl, hi, hkx, HR⟩ := hrel
    by_cases hlt : i < l.length
    · obtain ⟨a, rfl⟩ := HL.out (by omega)
      obtain ⟨r1, r2, r3, r4⟩ := HR.out
      have hc : wr.cell? (a.add i) = some (.int .i64 (numAt l i)) := by
        rw [numAt_eq l i hlt]
        exact srci_cell (HS.out.1.below (r2.mono (Nat.le_of_eq HA.out.2.1))) i hlt
      have hst := selN_step l i
      have hlen := selN_len l i
      obtain ⟨z, hz⟩ : ∃ z, z = numAt l i := ⟨_, rfl⟩
      rw [← hz] at hc hst
      obtain ⟨v2, W2, q1, q2, q3, q4, q5, q6⟩ := appI_one wr (bx + 1) s3 (selN l i) (i : Int) r1 r3 (by omega)
      have HZ := Lib.hid hz
      have HST := Lib.hid hst
      have R0 : Aside (wr.ownsRow (bx + 1) 3 1 s3 (selN l i).length (iVs (selN l i)) ∧ Below (bx + 1) W1 wr ∧ bx + 1 ≤ wr.heap.size ∧ (selN l i = [] → s3 = .slice none 0 0)) := ⟨r1, r2, r3, r4⟩
      have Q0 : Aside (W2.ownsRow (bx + 1) 3 1 v2 (selN l i ++ [(i : Int)]).length (iVs (selN l i ++ [(i : Int)])) ∧ Below (bx + 1) wr W2 ∧ bx + 1 ≤ W2.heap.size) := ⟨q2, q3, q4⟩
      have hltz : (i : Int) < (l.length : Int) := by omega
      clear r1 r2 r3 r4 q2 q3 q4 q5 q6 hz hst HR
      by_cases h0 : z = 0
      · go_wp2_with fail
        go_roundg (l.length - (i + 1))
        case measure => omega
        case rel =>
          refine ⟨i + 1, _, by go_num, rfl, by omega, Nat.le_refl _, ?_⟩
          have := HST.out
          rw [if_neg (fun h => h h0)] at this
          rw [this]
          exact R0
      · go_wp2_with (at_builtin; refine wpList_append_at _ rfl _ _ _ _ rfl _ _ rfl rfl _ _ q1 ?_)
        go_roundg (l.length - (i + 1))
        case measure => omega
        case rel =>
          refine ⟨i + 1, _, by go_num, rfl, by omega, Nat.le_refl _, ?_⟩
          have := HST.out
          rw [if_pos h0] at this
          rw [this]
          obtain ⟨r1, r2, r3, r4⟩ := R0.out
          obtain ⟨q2, q3, q4⟩ := Q0.out
          exact ⟨q2, r2.trans q3, q4, fun h => by simp at h⟩
    · obtain rfl : i = l.length := by omega
      have hltz : ¬ (l.length : Int) < (l.length : Int) := by omega
      obtain ⟨r1, r2, r3, r4⟩ := HR.out
      have fin : ∀ w2 : World, w2.ownsRow (bx + 1) 3 1 s3 (rankL l).length (iVs ((rankL l).map Int.ofNat)) → Below (bx + 1) wr w2 → w2.ownsRow bx 3 1 s3 (rankL l).length (iVs ((rankL l).map Int.ofNat)) ∧ Below bx W w2 := fun w2 h1 h2 => by
        refine ⟨ownsRow_mono h1 (Nat.le_succ _), ?_⟩
        obtain ⟨a1, a2, a3⟩ := HA.out
        rw [a3]
        refine a1.trans ((r2.trans h2).mono ?_)
        rw [a3]
        exact Nat.le_succ _
      have HF : Aside _ := fin
      clear fin
      have hres : Calls Try.prog 48 #[s3, .func (.func 49) #[] #[.pointer (some ⟨bx, 0, none⟩)]] wr fun e w' => e = .returned (.tuple #[]) ∧ w'.ownsRow (bx + 1) 3 1 s3 (rankL l).length (iVs ((rankL l).map Int.ofNat)) ∧ Below (bx + 1) wr w' := by
        by_cases h0 : selN l l.length = []
        · have hu := r4 h0
          subst hu
          have hr0 : rankL l = [] := by
            rcases Nat.eq_zero_or_pos (rankL l).length with e | e
            · exact List.eq_nil_of_length_eq_zero e
            · exfalso
              have hm := (rankL_mem l (rankL l)[0]).1 (List.getElem_mem e)
              have : ((rankL l)[0] : Int) ∈ selN l l.length := by
                unfold selN
                exact List.mem_map.2 ⟨_, List.mem_filter.2 ⟨List.mem_range.2 hm.1, decide_eq_true hm.2⟩, rfl⟩
              rw [h0] at this
              cases this
          rw [hr0]
          refine (sortStable_none _ wr).mono ?_
          rintro e w' ⟨rfl, rfl⟩
          exact ⟨rfl, own_nilI _ _, Below.refl _ _⟩
        · have hpos : 0 < (selN l l.length).length := List.length_pos_iff.2 h0
          have hlp : 0 < l.length := by have := selN_len l l.length; omega
          obtain ⟨a, rfl⟩ := HL.out hlp
          haveI : Inhabited (Fin l.length) := ⟨⟨0, hlp⟩⟩
          obtain ⟨ao, cap, rfl, hcap, hcm, hnone⟩ := own_shape r1
          cases ao with
          | none => have := (hnone rfl).1; omega
          | some p =>
            obtain ⟨g, rfl, hbg, hgl⟩ := own_block r1
            have hown : wr.ownsRow (bx + 1) 3 1 (.slice (some ⟨g, 0, none⟩) (selN l l.length).length cap) (selN l l.length).length ((selF l).toArray.toList.map encF) := by rw [List.toList_toArray, ← selF_val]; exact r1
            have hsz : (selF l).toArray.size = (selN l l.length).length := by rw [List.size_toArray]; exact selF_len l
            have hH := holds_own hown hsz
            have eg : ∀ args w, (callFunc 49 args).run Try.prog w = .ok (.enter 49 args) w := enters_of Try.func49 (by kernel_rfl) rfl
            obtain ⟨a1, a2, a3⟩ := HA.out
            have hbx1 : wr.cell? ⟨bx, 0, none⟩ = some (.slice (some a) l.length c) := (r2.cell (show bx < bx + 1 by omega)).trans HB.out
            have hsrc : SrcI wr (.slice (some a) l.length c) l := HS.out.1.below (r2.mono (Nat.le_of_eq a2))
            have hal : a.block < bx := by rw [a3]; exact HS.out.2.lt hlp
            have hcmp : CmpLays1 Try.prog 49 #[.pointer (some ⟨bx, 0, none⟩)] (encF (n := l.length)) (fun x y => Lib.compareInt (numAt l x.val) (numAt l y.val)) g 0 (selN l l.length).length wr := fun m os dk hdk x y => by
              have ho := only_sorted (enc := encF (n := l.length)) (w0 := wr) (g := g) (d' := dk) ⟨m, os, rfl⟩
              refine (rankedCmp_any _ bx a c l (ho.cell hbx1 (by show ¬ bx = g; omega)) (hsrc.only ho (fun a' n' c' e => by cases e; omega)) x.val y.val x.isLt y.isLt).mono ?_
              rintro e w' ⟨h1, q, h2⟩
              exact ⟨h1, q, #[], by rw [h2, Sort.grow_empty]⟩
            have hraw : ∀ i j, i < j → j < (selF l).toArray.size → ((selF l).toArray[i]!).val < ((selF l).toArray[j]!).val := fun i j h1 h2 => by
              have hpw : (selF l).Pairwise (fun a b => a.val < b.val) := (pairwise_finRange l.length).filter _
              rw [List.size_toArray] at h2
              rw [getElem!_pos _ i (by rw [List.size_toArray]; omega), getElem!_pos _ j (by rw [List.size_toArray]; exact h2), List.getElem_toArray, List.getElem_toArray]
              exact (List.pairwise_iff_getElem.1 hpw) i j (by omega) h2 h1
            have hcon := sortStable_any (encF (n := l.length)) (fun x y => Lib.compareInt (numAt l x.val) (numAt l y.val)) (ltF l) (swo_ltF l) 49 #[.pointer (some ⟨bx, 0, none⟩)] g 0 cap (selN l l.length).length (selF l).toArray wr eg hcmp ⟨fun _ => rfl, hH, hgl⟩ hsz (by have := selN_len l l.length; omega)
              (fun x y => x.val < y.val) (fun x y h => by
                unfold ltOf ltF Lib.compareInt
                by_cases h1 : numAt l y.val < numAt l x.val
                · simp [h1]
                · have h2 : ¬ y.val < x.val := by omega
                  simp only [h1, h2, if_false, and_false, or_false]
                  split <;> simp) (selF l).toArray wr hsz (SW.start hH) hraw
            refine hcon.mono ?_
            rintro e w' ⟨rfl, d', p1, p2, p3⟩
            have hd' : d'.size = (selN l l.length).length := p1.1.trans hsz
            have ho := only_sorted p3
            have hperm : d'.toList.Perm (selF l) := by
              have := p1.2.2
              rw [← hd', Array.extract_size, hd', ← hsz, Array.extract_size, List.toList_toArray] at this
              exact this
            have hval := rank_of_sorted l d' hperm (by rw [hd']; exact p2)
            have hlenR : (rankL l).length = (selN l l.length).length := by
              have := congrArg List.length hval
              rw [List.length_map, iVs_len, List.length_map, Array.length_toList] at this
              omega
            have hown' := own_sorted hown hd' p3
            rw [hval, ← hlenR] at hown'
            refine ⟨rfl, ?_, ho.below r3 (fun k hk => by rw [hk]; exact hbg)⟩
            rw [← hlenR]
            exact hown'
      have HC := Lib.hid hres
      clear hres r1 r2 r3 r4 HR
      go_wp2_with (first | (go_at_call 48; refine HC.out.mono ?_; rintro e w2 ⟨rfl, t1, t2⟩))
      go_ret
      rw [← HX.out]
      exact ⟨_, rfl, HF.out _ t1 t2⟩
end Go.Proofs.Ytenkbmkecgnfmaa.Huf

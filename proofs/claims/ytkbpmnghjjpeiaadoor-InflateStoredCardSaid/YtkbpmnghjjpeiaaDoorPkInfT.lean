/- What must come: two streams that are known. -/
import Derived.Test.YtkbpmnghjjpeiaaDoorPkInfO
import Derived.Test.YtkbpmnghjjpeiaaDoorPkHPutB
namespace Go.Proofs.YtkbpmnghjjpeiaaDoor.Inf
open Go.RowKit Go.Shelf Go.Lib Go.Proofs.YtkbpmnghjjpeiaaDoor.Mem Go.Proofs.YtkbpmnghjjpeiaaDoor.Bit Go.Proofs.YtkbpmnghjjpeiaaDoor.Huf Go.Proofs.YtkbpmnghjjpeiaaDoor.Lz

/-- A symbol whose bits stand there. -/
theorem next_sym {l : List Int} (hf : Fine l) {s : Nat} (hs : s < l.length) (h0 : lenN l s ≠ 0) (bs : List UInt8) (t : Nat) (hb : t + lenN l s ≤ 8 * bs.length) (hbit : ∀ k, k < lenN l s → bitN bs (t + k) = codeL l s / 2 ^ (lenN l s - 1 - k) % 2) :
    nextP l bs t = .ok s (t + lenN l s) := by
  have hlt := codeN_lt (lenN l) l.length s hs (by omega) (hf.len hs).2 hf.w
  have hz : codeL l s / 2 ^ (lenN l s - 0) = 0 := Nat.div_eq_of_lt (by rw [Nat.sub_zero]; exact hlt)
  have h := decode_from hf hs bs t hb hbit (lenN l s - 1) 0 (by omega)
  rw [hz] at h
  have hr : nextR l bs t = (s, 0, t + lenN l s) := by
    unfold nextR
    rw [if_neg (fun z => h0 (z s hs))]
    exact h
  unfold nextP
  rw [hr]
  rfl
def kA : List UInt8 := [1, 3, 0, 252, 255, 97, 98, 99]
def kB : List UInt8 := [75, 76, 74, 6, 0]
theorem strP_a : strP kA 10 = .ok ([97, 98, 99], [(0, 3)]) 64 := by
  obtain ⟨f, hf⟩ : ∃ f, FU = f + 1 := ⟨8388609, FU_eq⟩
  unfold strP
  have e : ∀ F, readP F kA 10 (f + 1) [] [] 0 = .ok ([97, 98, 99], [(0, 3)]) 64 := fun F => by rw [readP_succ]; rfl
  have := e FU
  rw [← hf] at this
  exact this
theorem sym97 : nextP fixL kB 3 = .ok 97 11 := next_sym fixL_fine (by rw [fixL_len]; decide) (by decide +kernel) kB 3 (by decide +kernel) (by decide +kernel)
theorem sym98 : nextP fixL kB 11 = .ok 98 19 := next_sym fixL_fine (by rw [fixL_len]; decide) (by decide +kernel) kB 11 (by decide +kernel) (by decide +kernel)
theorem sym99 : nextP fixL kB 19 = .ok 99 27 := next_sym fixL_fine (by rw [fixL_len]; decide) (by decide +kernel) kB 19 (by decide +kernel) (by decide +kernel)
theorem sym256 : nextP fixL kB 27 = .ok 256 34 := next_sym fixL_fine (by rw [fixL_len]; decide) (by decide +kernel) kB 27 (by decide +kernel) (by decide +kernel)
theorem sym_b (l d : List Int) (f : Nat) (h1 : nextP l kB 3 = .ok 97 11) (h2 : nextP l kB 11 = .ok 98 19) (h3 : nextP l kB 19 = .ok 99 27) (h4 : nextP l kB 27 = .ok 256 34) : symP l d kB 10 (f + 4) [] 3 = .ok [97, 98, 99] 34 := by
  have e1 : symP l d kB 10 (f + 4) [] 3 = symP l d kB 10 (f + 3) [97] 11 := by rw [symP_succ, h1]; rfl
  have e2 : symP l d kB 10 (f + 3) [97] 11 = symP l d kB 10 (f + 2) [97, 98] 19 := by rw [symP_succ, h2]; rfl
  have e3 : symP l d kB 10 (f + 2) [97, 98] 19 = symP l d kB 10 (f + 1) [97, 98, 99] 27 := by rw [symP_succ, h3]; rfl
  have e4 : symP l d kB 10 (f + 1) [97, 98, 99] 27 = .ok [97, 98, 99] 34 := by rw [symP_succ, h4]; rfl
  rw [e1, e2, e3, e4]
theorem read_b (F g : Nat) (hb : bodyP F kB 10 1 [] 3 = .ok [97, 98, 99] 34) : readP F kB 10 (g + 1) [] [] 0 = .ok ([97, 98, 99], [(1, 3)]) 34 := by
  have t1 : takeP kB 1 0 = .ok 1 1 := rfl
  have t2 : takeP kB 2 1 = .ok 1 3 := rfl
  rw [readP_succ, t1]
  simp only [t2, hb]
  rfl
theorem strP_b : strP kB 10 = .ok ([97, 98, 99], [(1, 3)]) 34 := by
  obtain ⟨f, hf⟩ : ∃ f, FU = f + 4 := ⟨8388606, FU_eq⟩
  obtain ⟨g, hg⟩ : ∃ g, FU = g + 1 := ⟨8388609, FU_eq⟩
  have hs := sym_b fixL fixD f sym97 sym98 sym99 sym256
  rw [← hf] at hs
  have hr := read_b FU g hs
  rw [← hg] at hr
  exact hr
theorem inflR_a : inflR kA 10 = ([97, 98, 99], [(0, 3)], 8, 0) := by
  unfold inflR
  rw [if_neg (by decide), if_neg (by decide)]
  show (match strP kA 10 with | .ok ob u => (ob.1, ob.2, (u + 7) / 8, 0) | .no c => ([], [], 0, c)) = _
  rw [strP_a]
theorem inflR_b : inflR kB 10 = ([97, 98, 99], [(1, 3)], 5, 0) := by
  unfold inflR
  rw [if_neg (by decide), if_neg (by decide)]
  show (match strP kB 10 with | .ok ob u => (ob.1, ob.2, (u + 7) / 8, 0) | .no c => ([], [], 0, c)) = _
  rw [strP_b]

set_option maxHeartbeats 400000 in
theorem num_any (n : Int) (w : World) : Calls Tryd.prog 14 #[.int .i64 n] w fun e w' => e = .returned (.int .i64 n) ∧ w = w' := by
  go_enter Tryd.func14, Tryd.ntmps14
  go_wp2
  go_ret
  exact ⟨rfl, rfl⟩

theorem cells_a : (Obj.cells (bVs kA).toArray 5) = Obj.cells #[.int .u8 1, .int .u8 3, .int .u8 0, .int .u8 252, .int .u8 255, .int .u8 97, .int .u8 98, .int .u8 99] 5 := rfl
theorem cells_b : (Obj.cells (bVs kB).toArray 5) = Obj.cells #[.int .u8 75, .int .u8 76, .int .u8 74, .int .u8 6, .int .u8 0] 5 := rfl
theorem src_new (W : World) (l : List UInt8) : Mem.Src (W.alloc (.cells (bVs l).toArray 5)) (.slice (some ⟨W.heap.size, 0, none⟩) l.length l.length) l :=
  .inr ⟨_, l.length, rfl, fun j v hj => by
    rw [Lib.addr_add, cell_of_row _ _ _ _ _ (0, 0) (heap_alloc_new _ _), Nat.zero_add, ← Array.getElem?_toList]
    exact hj⟩
set_option maxRecDepth 100000 in
set_option maxHeartbeats 2000000 in
theorem knows_any (W : World) (B0 : Nat) (hk : Masks W B0) (hod : Ords W B0) (hB0 : B0 ≤ W.heap.size) :
    Calls Tryd.prog 17 #[] W fun e w' => e = .returned (.bool true) ∧ Below W.heap.size W w' := by
  obtain ⟨W1, hW1⟩ : ∃ w, w = W.alloc (.cells (bVs kA).toArray 5) := ⟨_, rfl⟩
  have hA1 := (Below.refl W.heap.size W).alloc (Nat.le_refl _) (.cells (bVs kA).toArray 5)
  rw [← hW1] at hA1
  have hs1 : Mem.Src W1 (.slice (some ⟨W.heap.size, 0, none⟩) 8 8) kA := by rw [hW1]; exact src_new W kA
  have H1 := inflate_any W1 (some ⟨W.heap.size, 0, none⟩) 8 8 B0 10 kA hs1 rfl (hk.below (hA1.mono hB0)) (hod.below (hA1.mono hB0)) (Nat.le_trans hB0 hA1.size)
  have H1' : Hid (Calls Tryd.prog 10 #[.slice (some ⟨W.heap.size, 0, none⟩) 8 8, .int .i64 10] W1 fun e w' => ∃ v, e = .returned (.tuple #[v, .int .i64 8, .int .i64 0]) ∧ Mem.Src w' v [97, 98, 99] ∧ Below W.heap.size W w') := Lib.hid (H1.mono (fun e w' h => by
    obtain ⟨v, h1, h2, h3⟩ := h
    rw [inflR_a] at h1 h2
    exact ⟨v, h1, h2, hA1.trans (h3.mono hA1.size)⟩))
  have H2 : Aside (∀ w, Below W.heap.size W w → Calls Tryd.prog 10 #[.slice (some ⟨w.heap.size, 0, none⟩) 5 5, .int .i64 10] (w.alloc (.cells (bVs kB).toArray 5)) fun e w' => ∃ v, e = .returned (.tuple #[v, .int .i64 5, .int .i64 0]) ∧ Mem.Src w' v [97, 98, 99] ∧ Below w.heap.size w w') := fun w hb => by
    have hA := (Below.refl w.heap.size w).alloc (Nat.le_refl _) (.cells (bVs kB).toArray 5)
    have hbA := hb.trans (hA.mono hb.size)
    refine (inflate_any _ (some ⟨w.heap.size, 0, none⟩) 5 5 B0 10 kB (src_new w kB) rfl (hk.below (hbA.mono hB0)) (hod.below (hbA.mono hB0)) (Nat.le_trans hB0 hbA.size)).mono (fun e w' h => ?_)
    obtain ⟨v, h1, h2, h3⟩ := h
    rw [inflR_b] at h1 h2
    exact ⟨v, h1, h2, hA.trans (h3.mono hA.size)⟩
  rw [hW1, cells_a] at H1'
  rw [cells_b] at H2
  clear hk hod H1 hs1 hA1
  go_enter Tryd.func17, Tryd.ntmps17
  go_upto_region 2 with (go_at_call 10; refine H1'.out.mono ?_; rintro e w2 ⟨v1, rfl, q1, q2⟩)
  have H3 := Lib.hid (H2.out w2 q2)
  have HQ : Aside (Mem.Src w2 v1 [97, 98, 99] ∧ Below W.heap.size W w2) := ⟨q1, q2⟩
  clear H1' H2 q1 q2 hW1
  go_upto_region 3 with (go_at_call 10; refine H3.out.mono ?_; rintro e w3 ⟨v2, rfl, q3, q4⟩)
  have cv1 := conv_src w3 v1 _ (HQ.out.1.below q4)
  have cv2 := conv_src w3 v2 _ q3
  have HE : Aside (Below W.heap.size W w3) := HQ.out.2.trans (q4.mono HQ.out.2.size)
  clear q3 q4 H3 HQ
  go_wp2_with (go_at_call 14; refine (num_any _ _).mono ?_; rintro e w4 ⟨rfl, rfl⟩)
  go_ret
  exact ⟨rfl, HE.out⟩
end Go.Proofs.YtkbpmnghjjpeiaaDoor.Inf

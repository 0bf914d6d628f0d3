/- The lengths of a dynamic block: toldLengths, run, row. The lengths of a dynamic block: run, row. The lengths of a dynamic block: row. -/
import Derived.Test.YthmbbpfgbpacnaaGreatDoorPmInfE
namespace Go.Proofs.YthmbbpfgbpacnaaGreatDoor.Inf
open Go.RowKit Go.Shelf Go.Lib Mem Bit Huf Lz
def Ords (W : World) (B : Nat) : Prop := 2 < B /\ ∀ i : Nat, i < 19 -> W.cell? ⟨2, i, none⟩ = some (.int .i64 ((ordL.getD i 0 : Nat) : Int))
theorem Ords.only {S : Nat -> Prop} {W W' : World} {B : Nat} (h : Ords W B) (o : Only S W W') (hs : ∀ k, S k -> B <= k) : Ords W' B :=
 ⟨h.1, fun i hi => o.cell (h.2 i hi) (fun q => Nat.not_le.2 h.1 (hs _ q))⟩
theorem Ords.below {W W' : World} {B : Nat} (h : Ords W B) (o : Below B W W') : Ords W' B :=
 ⟨h.1, fun i hi => (o.cell (p := ⟨2, i, none⟩) h.1).trans (h.2 i hi)⟩
theorem ordL_lt : ∀ i : _root_.Fin 19, ordL.getD i.val 0 < 19 := by decide
def FinX {α : Type} (p : Rd α) (G : α -> Nat -> Ending -> World -> Prop) (H : World -> Prop) (e : Ending) (w' : World) : Prop :=
 match p with
 | .ok a u => G a u e w'
 | .no c => e = .panicked (pan c) /\ H w'
theorem finx_ok {α : Type} {p : Rd α} {G : α -> Nat -> Ending -> World -> Prop} {H : World -> Prop} {n : Nat} {args : Array Value} {W : World} (h : Calls Tryz.prog n args W (FinX p G H)) {a : α} {u : Nat} (hp : p = .ok a u) :
  Calls Tryz.prog n args W fun e w' => G a u e w' := by subst hp; exact h
theorem finx_no {α : Type} {p : Rd α} {G : α -> Nat -> Ending -> World -> Prop} {H : World -> Prop} {n : Nat} {args : Array Value} {W : World} (h : Calls Tryz.prog n args W (FinX p G H)) {c : Nat} (hp : p = .no c) :
  Calls Tryz.prog n args W fun e w' => e = .panicked (pan c) /\ H w' := by subst hp; exact h
theorem FinX.mk_ok {α : Type} {p : Rd α} {G : α -> Nat -> Ending -> World -> Prop} {H : World -> Prop} {e : Ending} {w' : World} {a : α} {u : Nat} (hp : p = .ok a u) (hg : G a u e w') : FinX p G H e w' := by subst hp; exact hg
theorem FinX.mk_no {α : Type} {p : Rd α} {G : α -> Nat -> Ending -> World -> Prop} {H : World -> Prop} {e : Ending} {w' : World} {c : Nat} (hp : p = .no c) (he : e = .panicked (pan c)) (hh : H w') : FinX p G H e w' := by subst hp; exact ⟨he, hh⟩
theorem toldP_succ (bs : List UInt8) (n k : Nat) (a : List Int) (t : Nat) : toldP bs (n + 1) k a t = match takeP bs 3 t with
  | .ok x u => toldP bs n (k + 1) (a.set (ordL.getD k 0) (x : Int)) u
  | .no e => .no e := rfl
set_option maxRecDepth 100000 in
set_option maxHeartbeats 8000000 in
theorem told_any (W : World) (B s r : Nat) (v : Value) (bs : List UInt8) (t n : Nat) (hc : W.cell? ⟨s, 0, none⟩ = some (.pointer (some ⟨r, 0, none⟩))) (hr : RB W B r v bs t) (hm : Masks W B) (ho : Ords W B) (hs : s ≠ r) (hn : n <= 19) :
  Calls Tryz.prog 125 #[.pointer (some ⟨s, 0, none⟩), .int .i64 (n : Int)] W (FinX (toldP bs n 0 (List.replicate 19 0) t) (fun a u e w' => ∃ v', e = .returned v' /\ w'.ownsRow W.heap.size 3 1 v' a.length (iVs a) /\ RB w' B r v bs u /\ Only (fun k => k = r) W w') (fun w' => Only (fun k => k = r) W w')) := by
 obtain ⟨rs, hrs⟩ : ∃ rs, rs = toldP bs n 0 (List.replicate 19 0) t := ⟨_, rfl⟩
 rw [<- hrs]
 obtain ⟨vm, W1, m1, m2, m3, g, rfl⟩ := makeI_any W 19 (by omega)
 have hgB := (m2.lt g rfl).1
 have hgr : g ≠ r := by have := hr.lt; omega
 have H0 : Aside (W1.ownsRow W.heap.size 3 1 (.slice (some ⟨g, 0, none⟩) 19 19) 19 (iVs (List.replicate 19 0)) /\ RB W1 B r v bs t /\ Only (fun k => k = r) W W1 /\ toldP bs (n - 0) 0 (List.replicate 19 0) t = rs /\ (List.replicate 19 (0 : Int)).length = 19) :=
  ⟨m2, hr.below m3, Only.of_below m3, hrs.symm, by simp⟩
 have HW : Aside (∀ w, Only (fun k => k = r) W w -> w.cell? ⟨s, 0, none⟩ = some (.pointer (some ⟨r, 0, none⟩)) /\ Masks w B /\ Ords w B) := fun w o => ⟨o.cell hc hs, hm.only o (fun k hk => by rw [hk]; exact hr.2.2.2.1), ho.only o (fun k hk => by rw [hk]; exact hr.2.2.2.1)⟩
 have HGB : Aside (W.heap.size <= g /\ ∀ i, v.ownBlock = some i -> i < W.heap.size) := ⟨hgB, fun i hi => (hr.2.1.lt i hi).2⟩
 have m1' : (Instr.makeSlice 111 (.int .i64 19) (.int .i64 19)).run Tryz.prog W = .ok (.slice (some ⟨g, 0, none⟩) 19 19) W1 := m1
 clear m1
 have mixed : Tryz.prog.follows .mixedOrders = true := by kernel_rfl
 have hnz : (n : Int) <= 19 := by omega
 clear m2 m3 hrs hc hr hm ho hgB
 go_enter Tryz.func125, Tryz.ntmps125
 go_upto_region 3 with fail
 clear m1'
 go_loopg [6, 9] n (fun kx s6 s9 wr => ∃ (k : Nat) (a : List Int) (u : Nat), s9 = .int .i64 (k : Int) /\ k <= n /\ n - k <= kx /\ Aside (wr.ownsRow W.heap.size 3 1 (.slice (some ⟨g, 0, none⟩) 19 19) 19 (iVs a) /\ RB wr B r v bs u /\ Only (fun k => k = r) W wr /\ toldP bs (n - k) k a u = rs /\ a.length = 19))
 case atStart => exact ⟨0, _, _, rfl, Nat.zero_le _, Nat.le_refl _, H0.out⟩
 case round =>
  clear H0
  obtain ⟨k, a, u, rfl, hkn, hkx, HX⟩ := hrel
  obtain ⟨r1, r2, r3, r4, r5⟩ := HX.out
  by_cases hlt : k < n
  ·have hltz : (k : Int) < (n : Int) := by omega
   obtain ⟨z1, z2, z3⟩ := HW.out wr r3
   have hk19 : k < 19 := by omega
   have hk0 : (0 : Int) <= (k : Int) := by omega
   have hk19z : (k : Int) < 19 := by omega
   have hj := ordL_lt ⟨k, hk19⟩
   simp only at hj
   have ho1 := z3.2 k hk19
   rw [show n - k = (n - (k + 1)) + 1 by omega, toldP_succ] at r4
   obtain ⟨j, hjj⟩ : ∃ j, j = ordL.getD k 0 := ⟨_, rfl⟩
   rw [<- hjj] at r4 ho1 hj
   have HTA : ∀ w, Drew wr w -> _ := fun w d => stake_any w B s r v bs u 3 ((d.cell (p := ⟨s, 0, none⟩)).trans z1) (r2.drew d) (z2.drew d) (by decide)
   have ho2 : ∀ q, (wr.drewN q).cell? ⟨2, k, none⟩ = some (.int .i64 (j : Int)) := fun q => ho1
   have ho3 : wr.drew.cell? ⟨2, k, none⟩ = some (.int .i64 (j : Int)) := ho1
   have hj0 : (0 : Int) <= (j : Int) := by omega
   have hj19 : (j : Int) < 19 := by omega
   have wk : IntKind.i64.wrap ((k : Int) + 1) = (k : Int) + 1 := by rw [IntKind.wrap_i64]; omega
   cases hp : takeP bs 3 u with
   | no c =>
    rw [hp] at r4
    have HT : Aside (∀ w, Drew wr w -> Calls Tryz.prog 72 #[.pointer (some ⟨s, 0, none⟩), .int .i64 3] w fun e w' => e = .panicked (pan c) /\ Only (fun k => k = r) w w') := fun w d => fin_no (HTA w d) hp
    have HE : Aside (rs = .no c /\ ∀ w, Drew wr w -> ∀ w', Only (fun k => k = r) w w' -> Only (fun k => k = r) W w') := ⟨r4.symm, fun w d w' o => (r3.trans d.only (fun i q => .inl q)).trans o (fun i q => .inl q)⟩
    clear r1 r2 r3 r4 r5 HTA hp z1 z2 z3 HX hjj
    go_upto_region 5 with fail
    refine wp_region_any (by kernel_rfl) ?_
    change wpAny _ _ _ _ _ _ _ (World.drew _)
    refine wpAny_take (i := 0) (v := ?_) rfl (by kernel_rfl) (by kernel_rfl) (by kernel_rfl) (fun _ _ _ h => h) (Or.inl ⟨by rfl, ?_⟩) ?_
    rotate_left
    ·intro w; go_simp; try with_reducible rfl
    refine wpAny_take (i := 1) (v := ?_) rfl (by kernel_rfl) (by kernel_rfl) (by kernel_rfl) (fun _ _ _ h => h) (Or.inl ⟨by rfl, ?_⟩) ?_
    rotate_left
    ·intro w; go_simp; try with_reducible rfl
    refine wpAny_take (i := 2) (v := ?_) rfl (by kernel_rfl) (by kernel_rfl) (by kernel_rfl) (fun _ _ _ h => h) (Or.inl ⟨by rfl, ?_⟩) ?_
    rotate_left
    ·intro w; go_simp; try with_reducible rfl
    refine wpAny_take (i := 4) (v := ?_) rfl (by kernel_rfl) (by kernel_rfl) (by kernel_rfl) (fun _ _ _ h => h) (Or.inl ⟨by rfl, ?_⟩) ?_
    rotate_left
    ·intro w; go_simp; try with_reducible rfl
    refine wpAny_ready (rs := [3, 5]) (by kernel_rfl) (by simp) ?_
    refine AllReady.cons rfl (fun K hK => ?_) (AllReady.cons rfl (fun K hK => ?_) AllReady.nil)
    ·go_simp
     refine hK _ _ ?_
     clear hK K
     refine wpAny_ready (rs := [5]) (by kernel_rfl) (by simp) ?_
     refine AllReady.cons rfl (fun K hK => ?_) AllReady.nil
     go_simp
     refine (HT.out wr.drew ⟨rfl, rfl, rfl, rfl⟩).mono ?_
     rintro e w1 ⟨rfl, q1⟩
     exact And.intro rfl (FinX.mk_no HE.out.1 rfl (HE.out.2 wr.drew ⟨rfl, rfl, rfl, rfl⟩ _ q1))
    ·go_simp
     refine (HT.out wr.drew ⟨rfl, rfl, rfl, rfl⟩).mono ?_
     rintro e w1 ⟨rfl, q1⟩
     exact And.intro rfl (FinX.mk_no HE.out.1 rfl (HE.out.2 wr.drew ⟨rfl, rfl, rfl, rfl⟩ _ q1))
   | ok x u' =>
    rw [hp] at r4
    simp only at r4
    obtain ⟨-, -, -, hx8⟩ := takeP_ok hp
    have HT : Aside (∀ w, Drew wr w -> Calls Tryz.prog 72 #[.pointer (some ⟨s, 0, none⟩), .int .i64 3] w fun e w' => e = .returned (.int .i64 (x : Int)) /\ RB w' B r v bs u' /\ Only (fun k => k = r) w w') := fun w d => fin_ok (HTA w d) hp
    have HE : Aside (∀ w, Drew wr w -> ∀ w', RB w' B r v bs u' -> Only (fun k => k = r) w w' -> w'.cell? ⟨2, k, none⟩ = some (.int .i64 (j : Int)) /\ (w'.cell? ⟨g, j, none⟩).isSome = true /\ w'.frozen? ⟨g, j, none⟩ = false /\ ∀ w2, w2 = w'.setCell ⟨g, j, none⟩ (.int .i64 (x : Int)) ->
      (w2.ownsRow W.heap.size 3 1 (.slice (some ⟨g, 0, none⟩) 19 19) 19 (iVs (a.set j (x : Int))) /\ RB w2 B r v bs u' /\ Only (fun k => k = r) W w2 /\ toldP bs (n - (k + 1)) (k + 1) (a.set j (x : Int)) u' = rs /\ (a.set j (x : Int)).length = 19)) := fun w d w' q1 q2 => by
     have o3 : Only (fun k => k = r) W w' := (r3.trans d.only (fun i q => .inl q)).trans q2 (fun i q => .inl q)
     have ow := own_only (own_drew r1 d) q2 (fun i hi e => by
      obtain rfl : g = i := by simpa [Value.ownBlock] using hi
      exact hgr e)
     obtain ⟨cj, fj⟩ := own_cellI ow j (by omega)
     refine ⟨(HW.out w' o3).2.2.2 k hk19 |>.trans (by rw [hjj]), by rw [cj]; rfl, fj, ?_⟩
     rintro w2 rfl
     have hgW := HGB.out.1
     refine ⟨own_setI ow j _, q1.only (S := fun k => k = g) (Only.setCell (S := fun k => k = g) rfl _ _) (fun e => hgr e.symm) (fun i hi e => ?_), o3.trans (S' := fun k => k = g) (Only.setCell (S := fun k => k = g) rfl _ _) (fun i hi => .inr (by rw [hi]; exact hgW)), r4, by rw [List.length_set]; exact r5⟩
     have := HGB.out.2 i hi
     have h2 : i = g := e
     omega
    clear r1 r2 r3 r4 r5 HTA hp z1 z2 z3 HX hjj
    go_upto_region 5 with fail
    go_region_with (go_at_call 72; refine (HT.out wr.drew ⟨rfl, rfl, rfl, rfl⟩).mono ?_; rintro e w1 ⟨rfl, q1, q2⟩; obtain ⟨y1, y2, y3, y4⟩ := HE.out wr.drew ⟨rfl, rfl, rfl, rfl⟩ _ q1 q2; have Y4 := Lib.hid y4; obtain ⟨yv, y2⟩ := Option.isSome_iff_exists.1 y2; clear y4 q1 q2)
    all_goals
     go_wp2_with fail
     go_roundg (n - (k + 1))
     case measure => omega
     case rel => exact ⟨k + 1, _, _, by go_num, by omega, Nat.le_refl _, Y4.out _ rfl⟩
  ·obtain rfl : k = n := by omega
   have hltz : ¬ (k : Int) < (k : Int) := by omega
   rw [Nat.sub_self] at r4
   have HE : Aside (rs = .ok a u /\ wr.ownsRow W.heap.size 3 1 (.slice (some ⟨g, 0, none⟩) 19 19) a.length (iVs a) /\ RB wr B r v bs u /\ Only (fun k => k = r) W wr) := ⟨r4.symm, by rw [r5]; exact r1, r2, r3⟩
   clear r1 r2 r3 r4 r5 HX
   go_wp2_with fail
   go_ret
   exact FinX.mk_ok HE.out.1 ⟨_, rfl, HE.out.2⟩
end Go.Proofs.YthmbbpfgbpacnaaGreatDoor.Inf
namespace Go.Proofs.YthmbbpfgbpacnaaGreatDoor.Inf
open Go.RowKit Go.Shelf Go.Lib Mem Bit Huf Lz
set_option maxRecDepth 100000 in
set_option maxHeartbeats 2000000 in
theorem run_any (W : World) (B s r b m : Nat) (v xv : Value) (d row : List Int) (bs : List UInt8) (t : Nat) (hc : W.cell? ⟨s, 0, none⟩ = some (.pointer (some ⟨r, 0, none⟩))) (hd : DecAt W B b m d) (hr : RB W B r v bs t) (hm : Masks W B) (hs : s ≠ r) (hbr : b ≠ r) (hmr : m ≠ r)
  (hx : SrcI W xv row) (hxr : ∀ a n c, xv = .slice (some a) n c -> a.block ≠ r) (hdl : d.length <= 19) (hrl : row.length <= 1000) :
  Calls Tryz.prog 147 #[.pointer (some ⟨s, 0, none⟩), .pointer (some ⟨b, 0, none⟩), xv] W (Fin (runP d bs row t) (fun vn => .tuple #[.int .i64 vn.1, .int .i64 (vn.2 : Int)]) (fun _ u w' => RB w' B r v bs u /\ Only (fun k => k = r) W w') (fun w' => Only (fun k => k = r) W w')) := by
 obtain ⟨ao, cap, rfl, hao⟩ := hx.shape
 have HA : Aside (0 < row.length -> ∃ a, ao = some a) := hao
 have HN := snext_any W B s r b m v d bs t hc hd hr hm hbr hmr
 have HT1 : Aside (∀ (n u : Nat) (w : World), n <= 32 -> RB w B r v bs u -> Only (fun k => k = r) W w -> Calls Tryz.prog 72 #[.pointer (some ⟨s, 0, none⟩), .int .i64 (n : Int)] w (Fin (takeP bs n u) (fun x => .int .i64 (x : Int)) (fun _ u w' => RB w' B r v bs u /\ Only (fun k => k = r) w w') (fun w' => Only (fun k => k = r) w w'))) := fun n u w hn q1 o =>
  stake_any w B s r v bs u n (o.cell hc hs) q1 (hm.only o (fun k hk => by rw [hk]; exact hr.2.2.2.1)) hn
 have HX : Aside (∀ w, Only (fun k => k = r) W w -> SrcI w (.slice ao row.length cap) row) := fun w o => hx.only o (fun a n c e => hxr a n c e)
 have HO : Aside (∀ w w', Only (fun k => k = r) W w -> Only (fun k => k = r) w w' -> Only (fun k => k = r) W w') := fun w w' o p => o.trans p (fun i q => .inl q)
 obtain ⟨rs, hrs⟩ : ∃ rs, rs = runP d bs row t := ⟨_, rfl⟩
 rw [<- hrs]
 unfold runP at hrs
 have hrz : (row.length : Int) <= 1000 := by omega
 clear hc hd hr hm hbr hmr hx hxr hao
 cases hn : nextP d bs t with
 | no c =>
  rw [hn] at hrs
  have HT := Lib.hid (fin_no HN hn)
  have HE : Aside (rs = .no c) := hrs
  clear HN hn hrs
  go_enter Tryz.func147, Tryz.ntmps147
  go_wp2_with (go_at_call 120; refine HT.out.mono ?_; rintro e w1 ⟨rfl, q1⟩)
  exact ⟨rfl, Fin.mk_no HE.out rfl q1⟩
 | ok x t1 =>
  rw [hn] at hrs
  simp only at hrs
  obtain ⟨-, -, -, hxl, -, ht1⟩ := nextP_ok hn
  have hx19 : x <= 18 := by omega
  have HT := Lib.hid (fin_ok HN hn)
  clear HN hn hxl
  by_cases h16 : x = 16
  ·rw [if_pos h16] at hrs
   subst h16
   cases hp : takeP bs 2 t1 with
   | no c =>
    rw [hp] at hrs
    have HQ : Aside (∀ w, RB w B r v bs t1 -> Only (fun k => k = r) W w -> Calls Tryz.prog 72 #[.pointer (some ⟨s, 0, none⟩), .int .i64 2] w fun e w' => e = .panicked (pan c) /\ Only (fun k => k = r) w w') := fun w q1 o => fin_no (HT1.out 2 t1 w (by decide) q1 o) hp
    have HE : Aside (rs = .no c) := hrs
    clear hp hrs HT1
    go_enter Tryz.func147, Tryz.ntmps147
    go_wp2_with (first
     | (go_at_call 120; refine HT.out.mono ?_; rintro e w1 ⟨rfl, q1, q2⟩)
     | (go_at_call 72; refine (HQ.out _ q1 q2).mono ?_; rintro e w2 ⟨rfl, q3⟩))
    exact ⟨rfl, Fin.mk_no HE.out rfl (HO.out _ _ q2 q3)⟩
   | ok y t2 =>
    rw [hp] at hrs
    simp only at hrs
    have hy := (takeP_ok hp).2.2.2
    have hyb : y < 128 := Nat.lt_of_lt_of_le hy (by decide)
    have HQ : Aside (∀ w, RB w B r v bs t1 -> Only (fun k => k = r) W w -> Calls Tryz.prog 72 #[.pointer (some ⟨s, 0, none⟩), .int .i64 2] w fun e w' => e = .returned (.int .i64 (y : Int)) /\ RB w' B r v bs t2 /\ Only (fun k => k = r) w w') := fun w q1 o => fin_ok (HT1.out 2 t1 w (by decide) q1 o) hp
    have wy : IntKind.i64.wrap (3 + (y : Int)) = 3 + (y : Int) := by rw [IntKind.wrap_i64]; omega
    clear hp HT1 hy
    by_cases h0 : row.length = 0
    ·rw [if_pos h0] at hrs
     have HE : Aside (rs = .no 30) := hrs
     have h0b : ((row.length : Int) == 0) = true := by rw [beq_iff_eq]; omega
     have h0c : (row.length == 0) = true := by rw [beq_iff_eq]; exact h0
     clear hrs
     go_enter Tryz.func147, Tryz.ntmps147
     go_wp2_with (first
      | (go_at_call 120; refine HT.out.mono ?_; rintro e w1 ⟨rfl, q1, q2⟩)
      | (go_at_call 72; refine (HQ.out _ q1 q2).mono ?_; rintro e w2 ⟨rfl, q3, q4⟩))
     exact ⟨rfl, Fin.mk_no HE.out rfl (HO.out _ _ q2 q4)⟩
    ·rw [if_neg h0] at hrs
     obtain ⟨a, rfl⟩ := HA.out (by omega)
     have HE : Aside (rs = .ok (row.getD (row.length - 1) 0, 3 + y) t2) := hrs
     have h0z : ¬ (row.length : Int) = 0 := by omega
     have h0b : ((row.length : Int) == 0) = false := by rw [beq_eq_false_iff_ne]; exact h0z
     have h0c : (row.length == 0) = false := by rw [beq_eq_false_iff_ne]; exact h0
     have hlast : ∀ w, Only (fun k => k = r) W w -> w.cell? (a.add (row.length - 1)) = some (.int .i64 (row.getD (row.length - 1) 0)) := fun w o => by
      rw [srci_cell (HX.out w o) (row.length - 1) (by omega), List.getD_eq_getElem?_getD, List.getElem?_eq_getElem (show row.length - 1 < row.length by omega), Option.getD_some]
     have HLA : Aside (∀ w, Only (fun k => k = r) W w -> w.cell? (a.add (row.length - 1)) = some (.int .i64 (row.getD (row.length - 1) 0))) := hlast
     have i1 : (row.length : Int) - 1 = ((row.length - 1 : Nat) : Int) := by omega
     have i2 : IntKind.i64.wrap ((row.length : Int) - 1) = ((row.length - 1 : Nat) : Int) := by rw [IntKind.wrap_i64]; omega
     have i3 : (0 : Int) <= ((row.length - 1 : Nat) : Int) := by omega
     have i4 : ((row.length - 1 : Nat) : Int) < (row.length : Int) := by omega
     generalize row.getD (row.length - 1) 0 = lv at HE HLA
     clear hrs hlast HA HX
     obtain ⟨rl, hrl2⟩ : ∃ y, y = row.length - 1 := ⟨_, rfl⟩
     rw [<- hrl2] at i1 i2 i3 i4 HLA
     clear hrl2
     go_enter Tryz.func147, Tryz.ntmps147
     go_upto_region 8 with (first
      | (go_at_call 120; refine HT.out.mono ?_; rintro e w1 ⟨rfl, q1, q2⟩)
      | (go_at_call 72; refine (HQ.out _ q1 q2).mono ?_; rintro e w2 ⟨rfl, q3, q4⟩))
     have c9 := HLA.out _ (HO.out _ _ q2 q4)
     go_wp2_with fail
     go_ret2
     exact Fin.mk_ok HE.out rfl ⟨q3, HO.out _ _ q2 q4⟩
  ·rw [if_neg h16] at hrs
   have n16 : ¬ (x : Int) = 16 := by omega
   have m16 : ((x : Int) == 16) = false := by rw [beq_eq_false_iff_ne]; exact n16
   have p16 : (x == 16) = false := by rw [beq_eq_false_iff_ne]; exact h16
   by_cases h17 : x = 17
   ·rw [if_pos h17] at hrs
    subst h17
    cases hp : takeP bs 3 t1 with
    | no c =>
     rw [hp] at hrs
     have HQ : Aside (∀ w, RB w B r v bs t1 -> Only (fun k => k = r) W w -> Calls Tryz.prog 72 #[.pointer (some ⟨s, 0, none⟩), .int .i64 3] w fun e w' => e = .panicked (pan c) /\ Only (fun k => k = r) w w') := fun w q1 o => fin_no (HT1.out 3 t1 w (by decide) q1 o) hp
     have HE : Aside (rs = .no c) := hrs
     clear hp hrs HT1
     go_enter Tryz.func147, Tryz.ntmps147
     go_wp2_with (first
      | (go_at_call 120; refine HT.out.mono ?_; rintro e w1 ⟨rfl, q1, q2⟩)
      | (go_at_call 72; refine (HQ.out _ q1 q2).mono ?_; rintro e w2 ⟨rfl, q3⟩))
     exact ⟨rfl, Fin.mk_no HE.out rfl (HO.out _ _ q2 q3)⟩
    | ok y t2 =>
     rw [hp] at hrs
     simp only at hrs
     have hy := (takeP_ok hp).2.2.2
     have hyb : y < 128 := Nat.lt_of_lt_of_le hy (by decide)
     have HQ : Aside (∀ w, RB w B r v bs t1 -> Only (fun k => k = r) W w -> Calls Tryz.prog 72 #[.pointer (some ⟨s, 0, none⟩), .int .i64 3] w fun e w' => e = .returned (.int .i64 (y : Int)) /\ RB w' B r v bs t2 /\ Only (fun k => k = r) w w') := fun w q1 o => fin_ok (HT1.out 3 t1 w (by decide) q1 o) hp
     have wy : IntKind.i64.wrap (3 + (y : Int)) = 3 + (y : Int) := by rw [IntKind.wrap_i64]; omega
     clear hp HT1 hy
     have HE : Aside (rs = .ok (0, 3 + y) t2) := hrs
     clear hrs
     go_enter Tryz.func147, Tryz.ntmps147
     go_wp2_with (first
      | (go_at_call 120; refine HT.out.mono ?_; rintro e w1 ⟨rfl, q1, q2⟩)
      | (go_at_call 72; refine (HQ.out _ q1 q2).mono ?_; rintro e w2 ⟨rfl, q3, q4⟩))
     go_ret2
     exact Fin.mk_ok HE.out rfl ⟨q3, HO.out _ _ q2 q4⟩
   ·rw [if_neg h17] at hrs
    have n17 : ¬ (x : Int) = 17 := by omega
    have m17 : ((x : Int) == 17) = false := by rw [beq_eq_false_iff_ne]; exact n17
    have p17 : (x == 17) = false := by rw [beq_eq_false_iff_ne]; exact h17
    by_cases h18 : x = 18
    ·rw [if_pos h18] at hrs
     subst h18
     cases hp : takeP bs 7 t1 with
     | no c =>
      rw [hp] at hrs
      have HQ : Aside (∀ w, RB w B r v bs t1 -> Only (fun k => k = r) W w -> Calls Tryz.prog 72 #[.pointer (some ⟨s, 0, none⟩), .int .i64 7] w fun e w' => e = .panicked (pan c) /\ Only (fun k => k = r) w w') := fun w q1 o => fin_no (HT1.out 7 t1 w (by decide) q1 o) hp
      have HE : Aside (rs = .no c) := hrs
      clear hp hrs HT1
      go_enter Tryz.func147, Tryz.ntmps147
      go_wp2_with (first
       | (go_at_call 120; refine HT.out.mono ?_; rintro e w1 ⟨rfl, q1, q2⟩)
       | (go_at_call 72; refine (HQ.out _ q1 q2).mono ?_; rintro e w2 ⟨rfl, q3⟩))
      exact ⟨rfl, Fin.mk_no HE.out rfl (HO.out _ _ q2 q3)⟩
     | ok y t2 =>
      rw [hp] at hrs
      simp only at hrs
      have hy := (takeP_ok hp).2.2.2
      have hyb : y < 128 := Nat.lt_of_lt_of_le hy (by decide)
      have HQ : Aside (∀ w, RB w B r v bs t1 -> Only (fun k => k = r) W w -> Calls Tryz.prog 72 #[.pointer (some ⟨s, 0, none⟩), .int .i64 7] w fun e w' => e = .returned (.int .i64 (y : Int)) /\ RB w' B r v bs t2 /\ Only (fun k => k = r) w w') := fun w q1 o => fin_ok (HT1.out 7 t1 w (by decide) q1 o) hp
      have wy : IntKind.i64.wrap (11 + (y : Int)) = 11 + (y : Int) := by rw [IntKind.wrap_i64]; omega
      clear hp HT1 hy
      have HE : Aside (rs = .ok (0, 11 + y) t2) := hrs
      clear hrs
      go_enter Tryz.func147, Tryz.ntmps147
      go_wp2_with (first
       | (go_at_call 120; refine HT.out.mono ?_; rintro e w1 ⟨rfl, q1, q2⟩)
       | (go_at_call 72; refine (HQ.out _ q1 q2).mono ?_; rintro e w2 ⟨rfl, q3, q4⟩))
      go_ret2
      exact Fin.mk_ok HE.out rfl ⟨q3, HO.out _ _ q2 q4⟩
    ·rw [if_neg h18] at hrs
     have n18 : ¬ (x : Int) = 18 := by omega
     have m18 : ((x : Int) == 18) = false := by rw [beq_eq_false_iff_ne]; exact n18
     have p18 : (x == 18) = false := by rw [beq_eq_false_iff_ne]; exact h18
     have HE : Aside (rs = .ok ((x : Int), 1) t1) := hrs
     clear hrs HT1
     go_enter Tryz.func147, Tryz.ntmps147
     go_wp2_with (first
      | (go_at_call 120; refine HT.out.mono ?_; rintro e w1 ⟨rfl, q1, q2⟩))
     go_ret2
     exact Fin.mk_ok HE.out rfl ⟨q1, q2⟩
end Go.Proofs.YthmbbpfgbpacnaaGreatDoor.Inf
namespace Go.Proofs.YthmbbpfgbpacnaaGreatDoor.Inf
open Go.RowKit Go.Shelf Go.Lib Mem Bit Huf Lz
theorem rowP_succ (d : List Int) (bs : List UInt8) (size f : Nat) (row : List Int) (t : Nat) : rowP d bs size (f + 1) row t = if size <= row.length then .ok row t else
  match runP d bs row t with
  | .no e => .no e
  | .ok vn u => if size < row.length + vn.2 then .no 30 else rowP d bs size f (row ++ List.replicate vn.2 vn.1) u := rfl
set_option maxRecDepth 100000 in
set_option maxHeartbeats 4000000 in
theorem row_any (W : World) (B s r b m : Nat) (v : Value) (d : List Int) (bs : List UInt8) (t size : Nat) (hc : W.cell? ⟨s, 0, none⟩ = some (.pointer (some ⟨r, 0, none⟩))) (hd : DecAt W B b m d) (hr : RB W B r v bs t) (hm : Masks W B) (hs : s ≠ r) (hbr : b ≠ r) (hmr : m ≠ r)
  (hdl : d.length <= 19) (hsz : size <= 400) :
  Calls Tryz.prog 127 #[.pointer (some ⟨s, 0, none⟩), .pointer (some ⟨b, 0, none⟩), .int .i64 (size : Int)] W (FinX (rowP d bs size (size + 1) [] t) (fun row u e w' => ∃ x, e = .returned x /\ w'.ownsRow W.heap.size 3 1 x row.length (iVs row) /\ RB w' B r v bs u /\ Only (fun k => k = r) W w') (fun w' => Only (fun k => k = r) W w')) := by
 obtain ⟨rs, hrs⟩ : ∃ rs, rs = rowP d bs size (size + 1) [] t := ⟨_, rfl⟩
 rw [<- hrs]
 have hrW := hr.lt
 have H0 : Aside (W.ownsRow W.heap.size 3 1 (.slice none 0 0) ([] : List Int).length (iVs []) /\ RB W B r v bs t /\ Only (fun k => k = r) W W /\ rowP d bs size (size + 1) [] t = rs /\ size - ([] : List Int).length < size + 1 /\ (∀ z ∈ ([] : List Int), 0 <= z /\ z <= 15) /\ ([] : List Int).length <= size) :=
  ⟨own_nilI W _, hr, Only.refl _ _, hrs.symm, by simp, fun z hz => (by cases hz), Nat.zero_le _⟩
 have HRUN : Aside (∀ (w : World) (u : Nat) (xv : Value) (row : List Int), Only (fun k => k = r) W w -> RB w B r v bs u -> w.ownsRow W.heap.size 3 1 xv row.length (iVs row) -> row.length <= 400 -> Calls Tryz.prog 147 #[.pointer (some ⟨s, 0, none⟩), .pointer (some ⟨b, 0, none⟩), xv] w (Fin (runP d bs row u) (fun vn => .tuple #[.int .i64 vn.1, .int .i64 (vn.2 : Int)]) (fun _ u w' => RB w' B r v bs u /\ Only (fun k => k = r) w w') (fun w' => Only (fun k => k = r) w w'))) := fun w u xv row o q1 q2 q3 =>
  run_any w B s r b m v xv d row bs u (o.cell hc hs) (hd.only o hbr hmr) q1 (hm.only o (fun k hk => by rw [hk]; exact hr.2.2.2.1)) hs hbr hmr (SrcI.of_own q2) (fun a n c e h => by
   subst e
   obtain ⟨g, rfl, hg, -⟩ := own_block (by
    have h1 := q2
    obtain ⟨ao, cap, e2, -, -, -⟩ := own_shape q2
    cases e2
    exact q2)
   simp only at h
   omega) hdl (by omega)
 have HDL : Aside (d.length <= 19 /\ ∀ k, v.ownBlock = some k -> k < W.heap.size) := ⟨hdl, fun k hk => (hr.2.1.lt k hk).2⟩
 have hszz : (size : Int) <= 400 := by omega
 clear hc hd hr hm hbr hmr hrs hdl
 go_enter Tryz.func127, Tryz.ntmps127
 go_upto_region 2 with fail
 go_loopg [7, 8, 9] (size + 1) (fun kx s7 s8 s9 wr => ∃ (f : Nat) (row : List Int) (u : Nat) (x : Value), x = s7 /\ f <= kx /\ Aside (wr.ownsRow W.heap.size 3 1 x row.length (iVs row) /\ RB wr B r v bs u /\ Only (fun k => k = r) W wr /\ rowP d bs size f row u = rs /\ size - row.length < f /\ (∀ z ∈ row, 0 <= z /\ z <= 15) /\ row.length <= size))
 case atStart => exact ⟨size + 1, [], t, _, rfl, Nat.le_refl _, H0.out⟩
 case round =>
  clear H0
  obtain ⟨f, row, u, x, rfl, hfk, HX⟩ := hrel
  obtain ⟨r1, r2, r3, r4, r5, r6, r7⟩ := HX.out
  obtain ⟨f, rfl⟩ : ∃ f', f = f' + 1 := ⟨f - 1, by omega⟩
  obtain ⟨ao, cap, hxv, -, -, -⟩ := own_shape r1
  subst hxv
  rw [rowP_succ] at r4
  by_cases hlt : row.length < size
  ·rw [if_neg (by omega)] at r4
   have hltz : (row.length : Int) < (size : Int) := by omega
   have HR := HRUN.out wr u _ row r3 r2 r1 (by omega)
   cases hp : runP d bs row u with
   | no c =>
    rw [hp] at r4
    have HT := Lib.hid (fin_no HR hp)
    have HE : Aside (rs = .no c /\ ∀ w, Only (fun k => k = r) wr w -> Only (fun k => k = r) W w) := ⟨r4.symm, fun w o => r3.trans o (fun i q => .inl q)⟩
    clear r1 r2 r3 r4 r5 r6 r7 HX HR hp
    go_wp2_with (go_at_call 147; refine HT.out.mono ?_; rintro e w1 ⟨rfl, q1⟩)
    exact ⟨rfl, FinX.mk_no HE.out.1 rfl (HE.out.2 _ q1)⟩
   | ok vn u1 =>
    rw [hp] at r4
    simp only at r4
    obtain ⟨g1, g2, g3, g4, g5, g6⟩ := runP_ok hp HDL.out.1 r6
    have HT := Lib.hid (fin_ok HR hp)
    obtain ⟨z, n⟩ := vn
    simp only at r4 g1 g2 g3 g4 HT
    have hsub : (size : Int) - (row.length : Int) = ((size - row.length : Nat) : Int) := by omega
    have hw1 : IntKind.i64.wrap ((size : Int) - (row.length : Int)) = ((size - row.length : Nat) : Int) := by rw [IntKind.wrap_i64]; omega
    by_cases hgt : size < row.length + n
    ·rw [if_pos hgt] at r4
     have hgz : (n : Int) > ((size - row.length : Nat) : Int) := by omega
     have hgz2 : (n : Int) > (size : Int) - (row.length : Int) := by omega
     have HE : Aside (rs = .no 30 /\ ∀ w, Only (fun k => k = r) wr w -> Only (fun k => k = r) W w) := ⟨r4.symm, fun w o => r3.trans o (fun i q => .inl q)⟩
     clear r1 r2 r3 r4 r5 r6 r7 HX HR hp hgt hsub hw1
     go_wp2_with (go_at_call 147; refine HT.out.mono ?_; rintro e w1 ⟨rfl, q0, q1⟩)
     exact ⟨rfl, FinX.mk_no HE.out.1 rfl (HE.out.2 _ q1)⟩
    ·rw [if_neg hgt] at r4
     have hgz2 : ¬ (n : Int) > (size : Int) - (row.length : Int) := by omega
     -- the world behind run: the row is there; its repeated length; the append
     have HAP : Aside (∀ w1, RB w1 B r v bs u1 -> Only (fun k => k = r) wr w1 -> ∀ w2 v2, w2.ownsRow (w1.alloc (.cells #[.int .i64 z] 3)).heap.size 3 1 v2 n (iVs (List.replicate n z)) -> Below (w1.alloc (.cells #[.int .i64 z] 3)).heap.size (w1.alloc (.cells #[.int .i64 z] 3)) w2 ->
       ∃ v3 W3, (Builtin.append_ #[111, 111] 111 #[.slice ao row.length cap, v2]).run Tryz.prog w2 = .ok v3 W3 /\ W3.ownsRow W.heap.size 3 1 v3 (row ++ List.replicate n z).length (iVs (row ++ List.replicate n z)) /\ RB W3 B r v bs u1 /\ Only (fun k => k = r) W W3) := fun w1 q1 q2 w2 v2 q3 q4 => by
      have hA := (Below.refl w1.heap.size w1).alloc (Nat.le_refl _) (.cells #[.int .i64 z] 3)
      have b2 : Below w1.heap.size w1 w2 := hA.trans (q4.mono hA.size)
      have o1 : w1.ownsRow W.heap.size 3 1 (.slice ao row.length cap) row.length (iVs row) := own_only r1 q2 (fun i hi e => by have := (r1.lt i hi).1; omega)
      have o2 := own_below o1 b2
      have hW1 : W.heap.size <= w1.heap.size := Nat.le_trans r3.size q2.size
      obtain ⟨v3, W3, h1, h2, h3, -⟩ := appI_any w2 W.heap.size _ v2 111 row (List.replicate n z) o2 (Nat.le_trans hW1 b2.size) (by
       have := SrcI.of_own (W := w2) (v := v2) (l := List.replicate n z) (by rw [List.length_replicate]; exact q3)
       exact this) (by rw [List.length_replicate]; omega)
      have ow : Only (fun k => (Value.slice ao row.length cap).ownBlock = some k) w2 W3 := only_grown h3 (fun k hk => hk)
      have HV := HDL.out.2
      refine ⟨v3, W3, h1, h2, ?_, ((r3.trans q2 (fun i q => .inl q)).trans (Only.of_below (S := fun _ => False) b2) (fun i q => q.elim)).trans ow (fun i q => .inr (r1.lt i q).1)⟩
      exact (q1.below b2).only ow (fun q => by have := (r1.lt _ q).1; omega) (fun k hk q => by have := (r1.lt _ q).1; have := HV k hk; omega)
     have HE : Aside (rowP d bs size f (row ++ List.replicate n z) u1 = rs /\ size - (row ++ List.replicate n z).length < f /\ (∀ y ∈ row ++ List.replicate n z, 0 <= y /\ y <= 15) /\ (row ++ List.replicate n z).length <= size) := by
      refine ⟨r4, by rw [List.length_append, List.length_replicate]; omega, fun y hy => ?_, by rw [List.length_append, List.length_replicate]; omega⟩
      rcases List.mem_append.1 hy with q | q
      ·exact r6 y q
      ·obtain ⟨_, rfl⟩ := List.mem_replicate.1 q
       exact ⟨g1, g2⟩
     have hn1000 : n <= 1000 := by omega
     clear r1 r2 r3 r4 r5 r6 r7 HX HR hp hgt hsub hw1 g1 g2 g4 g5 g6
     go_upto_region 6 with (go_at_call 147; refine HT.out.mono ?_; rintro e w1 ⟨rfl, q1, q2⟩)
     have HA1 := Lib.hid (HAP.out w1 q1 q2)
     have hcell : (w1.alloc (.cells #[.int .i64 z] 3)).cell? ⟨w1.heap.size, 0, none⟩ = some (.int .i64 z) := by rw [Lib.cell_of_heap (heap_alloc_new w1 _)]; rfl
     have HREP := Lib.hid (repeat_any (w1.alloc (.cells #[.int .i64 z] 3)) ⟨w1.heap.size, 0, none⟩ 1 n z hcell rfl g3 hn1000)
     clear q1 q2 HT HAP hcell
     go_wp2_with (first
      | (go_at_call 108; refine HREP.out.mono ?_; rintro e w2 ⟨v2, rfl, p1, p2⟩; obtain ⟨v3, W3, p3, p4⟩ := HA1.out w2 v2 p1 p2; have HP4 := Lib.hid p4; clear p1 p2 p4)
      | (at_builtin; refine Lib.wpList_append_run _ rfl _ _ _ _ rfl _ _ rfl rfl _ _ p3 ?_))
     go_roundg f
     case measure => omega
     case rel => exact ⟨f, _, u1, _, rfl, Nat.le_refl _, HP4.out.1, HP4.out.2.1, HP4.out.2.2, HE.out⟩
  ·have e : row.length = size := by omega
   rw [if_pos (by omega)] at r4
   have hltz : ¬ (row.length : Int) < (size : Int) := by omega
   have HE : Aside (rs = .ok row u /\ wr.ownsRow W.heap.size 3 1 (.slice ao row.length cap) row.length (iVs row) /\ RB wr B r v bs u /\ Only (fun k => k = r) W wr) := ⟨r4.symm, r1, r2, r3⟩
   clear r1 r2 r3 r4 r5 r6 r7 HX e
   go_wp2_with fail
   go_ret
   exact FinX.mk_ok HE.out.1 ⟨_, rfl, HE.out.2⟩
end Go.Proofs.YthmbbpfgbpacnaaGreatDoor.Inf

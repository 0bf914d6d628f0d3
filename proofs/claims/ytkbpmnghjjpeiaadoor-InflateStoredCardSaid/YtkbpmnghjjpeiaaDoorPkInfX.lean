/- Two rows that are added to in turn; the parts of the law InflateStored. -/
import Derived.Test.YtkbpmnghjjpeiaaDoorPkInfW
namespace Go.Proofs.YtkbpmnghjjpeiaaDoor.Inf
open Go.RowKit Go.Shelf Go.Lib Go.Proofs.YtkbpmnghjjpeiaaDoor.Mem Go.Proofs.YtkbpmnghjjpeiaaDoor.Bit Go.Proofs.YtkbpmnghjjpeiaaDoor.Huf Go.Proofs.YtkbpmnghjjpeiaaDoor.Lz

/-- Two rows of one's own, apart. -/
structure Two (W w : World) (u v : Value) (xs ys : List UInt8) : Prop where
  r : w.ownsRow W.heap.size 5 1 u xs.length (bVs xs)
  s : w.ownsRow W.heap.size 5 1 v ys.length (bVs ys)
  n : ∀ k, u.ownBlock = some k → v.ownBlock ≠ some k
  b : Below W.heap.size W w
theorem Two.start (W : World) : Two W W (.slice none 0 0) (.slice none 0 0) [] [] := ⟨⟨rfl, .inl ⟨rfl, rfl⟩⟩, ⟨rfl, .inl ⟨rfl, rfl⟩⟩, fun _ h => (by cases h), Below.refl _ _⟩
theorem Two.below {W w w' : World} {u v : Value} {xs ys : List UInt8} (h : Two W w u v xs ys) (hb : Below w.heap.size w w') : Two W w' u v xs ys := ⟨own_below h.r hb, own_below h.s hb, h.n, h.b.trans (hb.mono h.b.size)⟩
theorem Two.left {W w : World} {u v x : Value} {xs ys l : List UInt8} (h : Two W w u v xs ys) (hx : Mem.Src w x l) (hl : xs.length + l.length ≤ 140737488355328) :
    ∃ u' w', (Builtin.append_ #[22, 22] 22 #[u, x]).run Tryd.prog w = .ok u' w' ∧ Two W w' u' v (xs ++ l) ys := by
  obtain ⟨u', w', h1, h2, h3, h4⟩ := app_any w W.heap.size u x 22 xs l h.r h.b.size hx hl
  refine ⟨u', w', h1, h2, h.s.kept h3 ?_, fun k e e8 => ?_, h.b.trans (bel_grown h.r h3 h.b.size (Nat.le_refl _))⟩
  · cases e : v.ownBlock with
    | none => exact .inl rfl
    | some k => exact .inr (fun x => h.n k x.symm e)
  · exact h4.elim (fun x => h.n k (x ▸ e) e8) (fun x => by have := x k e; have := (h.s.lt k e8).2; omega)
theorem Two.right {W w : World} {u v x : Value} {xs ys l : List UInt8} (h : Two W w u v xs ys) (hx : Mem.Src w x l) (hl : ys.length + l.length ≤ 140737488355328) :
    ∃ v' w', (Builtin.append_ #[22, 22] 22 #[v, x]).run Tryd.prog w = .ok v' w' ∧ Two W w' u v' xs (ys ++ l) ∧ Below W.heap.size w w' := by
  obtain ⟨v', w', h1, h2, h3, h4⟩ := app_any w W.heap.size v x 22 ys l h.s h.b.size hx hl
  have hb := bel_grown h.s h3 h.b.size (Nat.le_refl _)
  refine ⟨v', w', h1, ⟨h.r.kept h3 ?_, h2, fun k e e8 => ?_, h.b.trans hb⟩, hb⟩
  · cases e : u.ownBlock with
    | none => exact .inl rfl
    | some k => exact .inr (fun x => h.n k e x.symm)
  · exact h4.elim (fun x => h.n k e (x ▸ e8)) (fun x => by have := x k e8; have := (h.r.lt k e).2; omega)

theorem flat_len (ys : List (List UInt8)) (h : ∀ x ∈ ys, x.length ≤ 30000) : ys.flatten.length ≤ ys.length * 30000 ∧ (ys.map stB).flatten.length ≤ ys.length * 30005 := by
  induction ys with
  | nil => simp
  | cons y ys ih =>
    have := ih (fun z hz => h z (List.mem_cons_of_mem _ hz))
    have := h y (List.mem_cons_self ..)
    simp only [List.map_cons, List.flatten_cons, List.length_append, List.length_cons, stB_len]
    omega
/-- The rows that count, each as far as it counts. -/
def cutR (os : List RowV) : List (List UInt8) := (os.take 20).map fun o => o.b.take 30000
theorem cutR_len (os : List RowV) : (cutR os).length = min 20 os.length := by unfold cutR; rw [List.length_map, List.length_take]
theorem cutR_all (os : List RowV) : ∀ x ∈ cutR os, x.length ≤ 30000 := fun x hx => by
  unfold cutR at hx
  obtain ⟨o, -, rfl⟩ := List.mem_map.1 hx
  rw [List.length_take]; omega
theorem cutR_get (os : List RowV) (i : Nat) (h : i < (cutR os).length) (h2 : i < os.length) : (cutR os)[i] = (os[i]).b.take 30000 := by
  have h3 := cutR_len os
  have e : (cutR os)[i]? = some ((os[i]).b.take 30000) := by
    unfold cutR
    rw [List.getElem?_map, List.getElem?_take, if_pos (by omega), List.getElem?_eq_getElem h2]
    rfl
  exact (List.getElem?_eq_some_iff.1 e).2
/-- What the first i rows come to. -/
def dN (xs : List (List UInt8)) (i : Nat) : List UInt8 := ((xs.take i).map stB).flatten
def oN (xs : List (List UInt8)) (i : Nat) : List UInt8 := (xs.take i).flatten
theorem dN_succ (xs : List (List UInt8)) (i : Nat) (h : i < xs.length) : dN xs (i + 1) = (dN xs i ++ (stB xs[i]).take 5) ++ xs[i] := by
  unfold dN
  rw [List.take_succ_eq_append_getElem h, List.map_append, List.flatten_append]
  simp [stB]
theorem oN_succ (xs : List (List UInt8)) (i : Nat) (h : i < xs.length) : oN xs (i + 1) = oN xs i ++ xs[i] := by
  unfold oN
  rw [List.take_succ_eq_append_getElem h, List.flatten_append]
  simp
theorem dN_len (xs : List (List UInt8)) (hx : ∀ x ∈ xs, x.length ≤ 30000) (hn : xs.length ≤ 20) (i : Nat) : (dN xs i).length ≤ 600100 ∧ (oN xs i).length ≤ 600000 := by
  obtain ⟨h1, h2⟩ := flat_len (xs.take i) (fun x h => hx x (List.mem_of_mem_take h))
  have : (xs.take i).length ≤ 20 := by rw [List.length_take]; omega
  unfold dN oN
  omega
/-- A block's head, as it lies. -/
theorem head_cells (n : Nat) (x : List UInt8) (hn : x.length = n) (h : n ≤ 30000) : Obj.cells (bVs ((stB x).take 5)).toArray 5 = Obj.cells #[.int .u8 0, .int .u8 ((n % 256 : Nat) : Int), .int .u8 ((n / 256 : Nat) : Int), .int .u8 ((255 - n % 256 : Nat) : Int), .int .u8 ((255 - n / 256 : Nat) : Int)] 5 := by
  subst hn
  have e : (stB x).take 5 = [0, UInt8.ofNat (x.length % 256), UInt8.ofNat (x.length / 256), UInt8.ofNat (255 - x.length % 256), UInt8.ofNat (255 - x.length / 256)] := by simp [stB]
  rw [e]
  simp only [bVs, bV, List.map_cons, List.map_nil]
  rw [ofNat_val (by omega), ofNat_val (by omega), ofNat_val (by omega), ofNat_val (by omega)]
  rfl
theorem head_src (W : World) (x : List UInt8) : Mem.Src (W.alloc (.cells (bVs ((stB x).take 5)).toArray 5)) (.slice (some ⟨W.heap.size, 0, none⟩) 5 5) ((stB x).take 5) := by
  have e : ((stB x).take 5).length = 5 := by rw [List.length_take, stB_len]; omega
  have := src_new W ((stB x).take 5)
  rwa [e] at this
end Go.Proofs.YtkbpmnghjjpeiaaDoor.Inf

/-
  lock's New and Ready.
-/
import Derived.Test.YtgcnbifgnaepnaaDoorLRun
import Derived.Test.YtgcnbifgnaepnaaDoorNV
set_option linter.unusedVariables false
set_option linter.unusedSimpArgs false
namespace Go.Proofs.YtgcnbifgnaepnaaDoor
open Go.RowKit Go.WideMaps Go.Maps

set_option maxHeartbeats 400000 in
set_option maxRecDepth 100000 in
theorem new_any (w : World) : Calls Tryd.prog 5 #[] w fun e w' => e = .returned (.pointer (some ⟨w.heap.size, 0, none⟩)) ∧ TB w' w.heap.size w.heap.size 0 [] ∧ Below w.heap.size w w' ∧ w.heap.size < w'.heap.size := by
  go_enter Tryd.func5, Tryd.ntmps5
  go_wp2_with fail
  go_ret
  refine ⟨rfl, ⟨none, 0, none, 0, fun _ => nilV, ?_⟩, (Below.refl _ _).alloc (Nat.le_refl _) _, by simp⟩
  exact ⟨Box.new w _ _, Nat.le_refl _, World.ownsRow_nil _ _ _ _, by simp, rfl, (fun b h => by cases h), by simp, by simp, (fun k => World.ownsRow_nil _ _ _ _), (fun j k h => .inl rfl), List.Pairwise.nil, by simp⟩

/-- the entry at an index, as it lies in memory -/
theorem TBx.at_ {w : World} {B g added : Nat} {left : List En} {lA : Option Addr} {lc : Nat} {m : Option Nat} {n : Nat} {f : ByteArray → Value} (h : TBx w B g added left lA lc m n f) {i : Nat} (hi : i < left.length) :
    ∃ b, lA = some ⟨b, 0, none⟩ ∧ b < w.heap.size ∧ w.cell? ⟨b, i * 2, none⟩ = some (.int .i64 (left[i].seq : Int)) ∧ w.cell? ⟨b, i * 2 + 1, none⟩ = some (kV left[i]) :=
  have hg := enCells_get left i left[i] (List.getElem?_eq_getElem hi)
  own_at h.row hi hg.1 hg.2
/-- what May answers -/
def mayV (left : List En) (s : Int) : Bool × Int := match left.find? fun e => decide ((e.seq : Int) = s) with
  | some e => (ruB left e, 0)
  | none => (false, 4)
theorem find_at {left : List En} (h : Asc left) {i : Nat} (hi : i < left.length) : left.find? (fun e => decide ((e.seq : Int) = (left[i].seq : Int))) = some left[i] := by
  cases hf : left.find? fun e => decide ((e.seq : Int) = (left[i].seq : Int)) with
  | none =>
    have := List.find?_eq_none.1 hf left[i] (List.getElem_mem hi)
    simp at this
  | some x =>
    have h1 := List.find?_some hf
    have h2 := List.mem_of_find?_eq_some hf
    have h3 : x.seq = left[i].seq := by have := of_decide_eq_true h1; omega
    rw [h.inj h2 (List.getElem_mem hi) h3]
theorem find_no {left : List En} {s : Int} (h : ∀ e ∈ left, (e.seq : Int) ≠ s) : left.find? (fun e => decide ((e.seq : Int) = s)) = none := by
  rw [List.find?_eq_none]
  intro x hx
  simpa using h x hx

/-- the numbers of the entries that may go on -/
def rdyL (left l : List En) : List Nat := (l.filter (ruB left)).map (·.seq)
theorem rdyL_take (left : List En) {l : List En} {k : Nat} (h : k < l.length) : rdyL left (l.take (k + 1)) = rdyL left (l.take k) ++ if ruB left l[k] then [l[k].seq] else [] := by
  unfold rdyL
  rw [List.take_succ_eq_append_getElem h, List.filter_append, List.map_append]
  congr 1
  cases hr : ruB left l[k] <;> simp [hr]
def RdyInv (w : World) (left : List En) (v i : Value) (wr : World) : Prop := ∃ (k : Nat) (A : Option Addr) (c : Nat), k ≤ left.length ∧ i = .int .i64 k ∧ v = .slice A (rdyL left (left.take k)).length c ∧ OR wr w.heap.size 3 A c (nV (rdyL left (left.take k))) ∧ Below w.heap.size w wr

set_option maxHeartbeats 1000000 in
set_option maxRecDepth 100000 in
theorem ready_any (g B added : Nat) (left : List En) (w : World) (h : TB w B g added left) :
    Calls Tryd.prog 15 #[.pointer (some ⟨g, 0, none⟩)] w (RetN w (rdyL left left)) := by
  have hlen : left.length ≤ 1000 := by obtain ⟨lA, lc, m, n, f, h⟩ := h; have := h.len; omega
  have hT := h
  obtain ⟨lA, lc, m, n, f, h⟩ := h
  have c1 := h.box.cell 1 (v := .slice lA left.length lc) rfl
  have hrow := h.row
  clear h
  go_enter Tryd.func15, Tryd.ntmps15
  go_wp2_with fail
  go_loopw [3, 11] (RdyInv w left) (fun _ i _ => left.length - (intOf i).toNat)
  case atStart => exact ⟨0, none, 0, Nat.zero_le _, rfl, rfl, OR.nil _ _ _, Below.refl _ _⟩
  case round =>
    obtain ⟨k, A, c, hk, rfl, rfl, hor, hbw⟩ := hrel
    by_cases hlt : k < left.length
    · have HT := hideP (rdyL_take left hlt)
      have hrl : (rdyL left (left.take k)).length ≤ 1000 := by
        have h1 := List.length_filter_le (ruB left) (left.take k)
        unfold rdyL; rw [List.length_map]; rw [List.length_take] at h1; omega
      have hg := enCells_get left k left[k] (List.getElem?_eq_getElem hlt)
      obtain ⟨b1, rfl, hbl, q1, q2⟩ := own_at (own_below hrow hbw) hlt hg.1 hg.2
      have hmem := List.getElem_mem hlt
      clear hrow hg
      generalize left[k] = e at HT q1 q2 hmem
      replace q2 : wr.cell? ⟨b1, k * 2 + 1, none⟩ = some (.slice e.A (uK e.d).length e.c) := q2
      have g1 : (0 : Int) ≤ (k : Int) := by omega
      have g2 : (k : Int) < (left.length : Int) := by omega
      have hb0 := (Below.refl wr.heap.size wr).alloc (Nat.le_refl _) (.cells #[.int .i64 (e.seq : Int), .slice e.A (uK e.d).length e.c] 63)
      have hTr := (hT.below hbw).below hb0
      have ho0 := hor.below hb0
      have hbw0 := hbw.trans (hb0.mono hbw.size)
      have r1 : (wr.alloc (.cells #[.int .i64 (e.seq : Int), .slice e.A (uK e.d).length e.c] 63)).cell? ⟨wr.heap.size, 0, none⟩ = some (.int .i64 (e.seq : Int)) := by simp
      have hlt0 : wr.heap.size < (wr.alloc (.cells #[.int .i64 (e.seq : Int), .slice e.A (uK e.d).length e.c] 63)).heap.size := by simp
      go_wp2_with fail
      generalize wr.alloc (.cells #[.int .i64 (e.seq : Int), .slice e.A (uK e.d).length e.c] 63) = w0 at hb0 hTr ho0 hbw0 r1 hlt0 ⊢
      generalize wr.heap.size = g0 at r1 hlt0 ⊢
      refine (runnable_any g B added left e hmem _ hTr).mono ?_
      rintro x w1 ⟨rfl, hb1⟩
      have r2 := (hb1.cell (p := ⟨g0, 0, none⟩) hlt0).trans r1
      have ho1 := ho0.below hb1
      have hbw1 := hbw0.trans (hb1.mono hbw0.size)
      clear hb0 hTr ho0 hbw0 r1 hor hmem
      cases hr : ruB left e
      · rw [hr] at HT
        simp only [Bool.false_eq_true, if_false, List.append_nil] at HT
        rw [← HT.out] at ho1 ⊢
        have HR := hideP hr
        clear hr HT
        go_wp2_with fail
        go_roundw
        case rel => exact ⟨k + 1, A, c, by omega, by go_num, rfl, ho1, hbw1⟩
        case measure => simp [intOf]; omega
      · rw [hr] at HT
        simp only [if_true] at HT
        obtain ⟨A7, c7, w7, hrun, hor7, hbel, hgr, _⟩ := app_row (P := Tryd.prog) Tryd.underlying32 intInfo rfl w1 w.heap.size 32 A c _ ho1 [.int .i64 (e.seq : Int)] (by simp [Value.oneCell']) (by rw [nV_length]; simp; omega) (by decide) hbw1.size
        have hb7 := hbel w.heap.size w (Nat.le_refl _) hbw1
        rw [show nV (rdyL left (left.take k)) ++ [Value.int .i64 (e.seq : Int)] = nV (rdyL left (left.take (k + 1))) by rw [HT.out, nV_append]; rfl, nV_length, nV_length] at hrun
        rw [show nV (rdyL left (left.take k)) ++ [Value.int .i64 (e.seq : Int)] = nV (rdyL left (left.take (k + 1))) by rw [HT.out, nV_append]; rfl] at hor7
        have HR := hideP hrun
        have HRR := hideP hr
        clear hrun hr hgr hbel HT
        go_wp2_with (at_builtin; refine Lib.wpList_append_run _ rfl _ _ _ _ rfl _ _ rfl rfl _ _ HR.out ?_)
        go_roundw
        case rel => exact ⟨k + 1, A7, c7, by omega, by go_num, rfl, hor7, hb7⟩
        case measure => simp [intOf]; omega
    · rw [List.take_of_length_le (by omega)] at hor ⊢
      go_wp2_with fail
      go_ret
      exact ⟨A, c, rfl, hor, hbw⟩
end Go.Proofs.YtgcnbifgnaepnaaDoor

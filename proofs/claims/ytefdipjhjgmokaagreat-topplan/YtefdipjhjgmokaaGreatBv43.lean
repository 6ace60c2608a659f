/-
  lock's runnable: may an entry go on?
  lock's New and Ready.
-/
import Derived.Test.YtefdipjhjgmokaaGreatBv42
import Derived.StillTailTactics
import Derived.Test.YtefdipjhjgmokaaGreatBv2
set_option linter.unusedVariables false
set_option linter.unusedSimpArgs false
namespace Go.Proofs.YtefdipjhjgmokaaGreat
open Go.RowKit Go.WideMaps Go.Maps

/-- a region whose operations but the last ones only read -/
theorem wp_still_drew {id : Nat} {Q : Exit → Act → World → Prop} {a : Act} {w : World} {l : List Oper} (n : Nat) (hB : Region.lexTailB .any l.toArray n = true)
    (h : wpStill Tryz.prog l.toArray w.drew (fun a' => wpList Tryz.prog l.toArray Q (l.drop n) a' w.drew) (l.take n) a) : (Code.region id l.toArray true).wp Tryz.prog Q a w := wp_region_still_tail n (by kernel_rfl) hB h
/-- the queue of a key as the table holds it -/
theorem TBx.look {w : World} {B g added : Nat} {left : List En} {lA : Option Addr} {lc : Nat} {m : Option Nat} {n : Nat} {f : ByteArray → Value} (h : TBx w B g added left lA lc m n f) (k : ByteArray) (hk : k.size ≤ maxLen) :
    ∃ A c, f k = .slice A (qOf left k).length c ∧ QS w B A c (qOf left k) ∧ (Instr.lookup 128 (.map m) (.string k) false).run Tryz.prog w = .ok (.slice A (qOf left k).length c) w := by
  obtain ⟨A, c, hv, _⟩ := own_parts (h.queue k)
  have hq := h.queue k
  rw [hv] at hq
  refine ⟨A, c, hv, hq, ?_⟩
  have hm := h.map
  cases m with
  | some b => rw [← hv]; exact MP.look hm k hk
  | none =>
    have : f = fun _ => nilV := hm
    rw [← hv, this]
    exact Maps.look_nil false law9 Tryz.underlying128 (zeroQ w) (keyOf_string_mk Tryz.underlying9 hk)

theorem uK_size {d : List Opr} (hd : chkD d = 0) {k : ByteArray} (hk : k ∈ uK d) : k.size ≤ maxLen := by
  have hkb : keyB k = true := by
    have hall := (chkD_zero.1 hd).2.2
    rcases uK_mem.1 hk with h | h
    · obtain ⟨o, ho, hk⟩ := List.mem_flatMap.1 h
      have hc := chkO_zero.1 (hall o ho)
      unfold rdO at hk
      split at hk
      · rw [List.mem_singleton.1 hk]; exact hc.2.2.1
      · split at hk
        · rename_i h3; rw [List.mem_singleton.1 hk]; exact (hc.2.2.2.1 (.inl h3)).1
        · split at hk
          · rw [List.mem_singleton.1 hk]; exact hc.2.2.1
          · split at hk
            · rename_i h5
              rcases List.mem_cons.1 hk with e | hk
              · rw [e]; exact (hc.2.2.2.1 (.inr h5)).1
              · rw [List.mem_singleton.1 hk]; exact hc.2.2.1
            · cases hk
    · obtain ⟨o, ho, hk⟩ := List.mem_flatMap.1 h
      have hc := chkO_zero.1 (hall o ho)
      unfold wrO at hk
      split at hk
      · cases hk
      · split at hk
        · rename_i h5
          rcases List.mem_cons.1 hk with e | hk
          · rw [e]; exact (hc.2.2.2.1 (.inr h5)).1
          · rw [List.mem_singleton.1 hk]; exact hc.2.2.1
        · rw [List.mem_singleton.1 hk]; exact hc.2.2.1
  simp [keyB] at hkb
  have := hkb.1.2
  unfold maxLen
  omega
theorem TBx.len {w : World} {B g added : Nat} {left : List En} {lA : Option Addr} {lc : Nat} {m : Option Nat} {n : Nat} {f : ByteArray → Value} (h : TBx w B g added left lA lc m n f) : left.length ≤ 120 := by
  have := h.num; have := h.most; omega

set_option maxHeartbeats 400000 in
set_option maxRecDepth 100000 in
theorem runnable1_any (b1 b2 g B added : Nat) (left : List En) (e : En) (k : ByteArray) (w : World) (h : TB w B g added left) (hk : k.size ≤ maxLen) (c1 : w.cell? ⟨b1, 0, none⟩ = some (.pointer (some ⟨g, 0, none⟩))) (c2 : w.cell? ⟨b2, 0, none⟩ = some (.int .i64 (e.seq : Int))) :
    Calls Tryz.prog 84 #[.string k, .pointer (some ⟨b1, 0, none⟩), .pointer (some ⟨b2, 0, none⟩)] w fun x w' => x = .returned (.bool (waB (qOf left k) e.seq)) ∧ Below w.heap.size w w' := by
  obtain ⟨lA, lc, m, n, f, h⟩ := h
  have d2 := h.box.cell 2 (v := .map m) rfl
  have hbd : Below w.heap.size w w.drew := (Below.refl _ _).drew
  obtain ⟨A, c, _, hq, hrun⟩ := (h.below hbd).look k hk
  have hlen := Nat.le_trans (qOf_len left k) h.len
  clear h
  generalize qOf left k = q at hq hrun hlen ⊢
  generalize e.seq = s at c2 ⊢
  replace c1 : w.drew.cell? ⟨b1, 0, none⟩ = some (.pointer (some ⟨g, 0, none⟩)) := c1
  replace c2 : w.drew.cell? ⟨b2, 0, none⟩ = some (.int .i64 (s : Int)) := c2
  replace d2 : w.drew.cell? ⟨g, 2, none⟩ = some (.map m) := d2
  go_enter Tryz.func84, Tryz.ntmps84
  go_wp2_with fail
  refine wp_still_drew 8 (by kernel_rfl) ?_
  generalize w.drew = w2 at hq hbd hrun c1 c2 d2 ⊢
  simp only [List.take_succ_cons, List.take_zero, List.drop_succ_cons, List.drop_zero]
  repeat still_step
  refine wpStill_nil ?_
  go_wp2_with fail
  refine (waits_any A c B s q _ hq (by omega)).mono ?_
  rintro e w1 ⟨rfl, hb⟩
  go_wp2_with fail
  go_ret
  exact ⟨rfl, hbd.trans (hb.mono hbd.size)⟩

set_option maxHeartbeats 400000 in
set_option maxRecDepth 100000 in
theorem rindexFunc_any (b1 b2 g B added : Nat) (left : List En) (e : En) (he : e ∈ left) (w : World) (h : TB w B g added left) (h1 : b1 < w.heap.size) (h2 : b2 < w.heap.size) (c1 : w.cell? ⟨b1, 0, none⟩ = some (.pointer (some ⟨g, 0, none⟩))) (c2 : w.cell? ⟨b2, 0, none⟩ = some (.int .i64 (e.seq : Int))) :
    Calls Tryz.prog 111 #[kV e, .func (.func 84) #[] #[.pointer (some ⟨b1, 0, none⟩), .pointer (some ⟨b2, 0, none⟩)]] w fun x w' => ∃ r : Int, x = .returned (.int .i64 r) ∧ decide (0 ≤ r) = (uK e.d).any (fun k => waB (qOf left k) e.seq) ∧ Below w.heap.size w w' := by
  have hvs : VS w e.A ((uK e.d).map Value.string) := by obtain ⟨lA, lc, m, n, f, h⟩ := h; exact (h.keys e he).vs
  have hgood : chkD e.d = 0 := by obtain ⟨lA, lc, m, n, f, h⟩ := h; exact (h.good e he).2
  have hsz := hideP (fun k (hk : k ∈ uK e.d) => uK_size hgood hk)
  have hl : (uK e.d).length ≤ 1000 := by have := uK_len e.d; have := (chkD_zero.1 hgood).2.1; omega
  clear hgood he
  have HP : ∃ p : ByteArray → Bool, p = fun k => waB (qOf left k) e.seq := ⟨_, rfl⟩
  obtain ⟨p, hp⟩ := HP
  rw [← hp]
  have HP := hideP hp
  clear hp
  unfold kV
  generalize uK e.d = ks at hvs hsz hl ⊢
  generalize e.A = A at hvs ⊢
  generalize e.c = c
  go_enter Tryz.func111, Tryz.ntmps111
  go_wp2_with fail
  go_loopw [8] (fun i wr => ∃ k : Nat, k ≤ ks.length ∧ i = .int .i64 k ∧ (ks.take k).any p = false ∧ Below w.heap.size w wr) (fun i _ => ks.length - (intOf i).toNat)
  case atStart => exact ⟨0, Nat.zero_le _, rfl, rfl, Below.refl _ _⟩
  case round =>
    obtain ⟨k, hk, rfl, hnot, hbw⟩ := hrel
    have HN := hideP hnot
    clear hnot
    by_cases hlt : k < ks.length
    · obtain ⟨b3, o3, rfl, hbl, q1⟩ := hvs.below hbw k (.string ks[k]) (by simp [hlt])
      have d1 := (hbw.cell (p := ⟨b1, 0, none⟩) h1).trans c1
      have d2 := (hbw.cell (p := ⟨b2, 0, none⟩) h2).trans c2
      have hT := h.below hbw
      have HT := hideP (show (ks.take (k + 1)).any p = ((ks.take k).any p || p ks[k]) by rw [List.take_succ_eq_append_getElem hlt, List.any_append]; simp)
      have HM := hideP (fun (h : p ks[k] = true) => show ks.any p = true from List.any_eq_true.2 ⟨ks[k], List.getElem_mem hlt, h⟩)
      have hs := hsz.out ks[k] (List.getElem_mem hlt)
      clear hvs c1 c2 h hsz
      generalize ks[k] = s at q1 HT HM hs
      have g1 : (0 : Int) ≤ (k : Int) := by omega
      have g2 : (k : Int) < (ks.length : Int) := by omega
      go_wp2_with fail
      refine (runnable1_any b1 b2 g B added left e s _ hT hs d1 d2).mono ?_
      rintro x w1 ⟨rfl, hb1⟩
      rw [show waB (qOf left s) e.seq = p s by rw [HP.out]]
      have hb2 := hbw.trans (hb1.mono hbw.size)
      clear hT
      generalize hy : p s = y at HT HM ⊢
      clear hy
      cases y
      · go_wp2_with fail
        go_roundw
        case rel => exact ⟨k + 1, by omega, by go_num, by rw [HT.out, HN.out]; rfl, hb2⟩
        case measure => simp [intOf]; omega
      · go_wp2_with fail
        go_ret
        exact ⟨k, rfl, by rw [show ks.any p = true from HM.out (by first | trivial | rfl)]; simp, hb2⟩
    · go_wp2_with fail
      go_ret
      exact ⟨-1, rfl, by have := HN.out; rw [List.take_of_length_le (by omega)] at this; rw [this]; rfl, hbw⟩

set_option maxHeartbeats 400000 in
set_option maxRecDepth 100000 in
theorem rcontainsFunc_any (b1 b2 g B added : Nat) (left : List En) (e : En) (he : e ∈ left) (w : World) (h : TB w B g added left) (h1 : b1 < w.heap.size) (h2 : b2 < w.heap.size) (c1 : w.cell? ⟨b1, 0, none⟩ = some (.pointer (some ⟨g, 0, none⟩))) (c2 : w.cell? ⟨b2, 0, none⟩ = some (.int .i64 (e.seq : Int))) :
    Calls Tryz.prog 83 #[kV e, .func (.func 84) #[] #[.pointer (some ⟨b1, 0, none⟩), .pointer (some ⟨b2, 0, none⟩)]] w fun x w' => x = .returned (.bool (!ruB left e)) ∧ Below w.heap.size w w' := by
  have HU := hideP (show (uK e.d).any (fun k => waB (qOf left k) e.seq) = !ruB left e by unfold ruB; rw [Bool.not_not])
  go_enter Tryz.func83, Tryz.ntmps83
  go_wp2_with fail
  refine (rindexFunc_any b1 b2 g B added left e he _ h h1 h2 c1 c2).mono ?_
  rintro x w' ⟨r, rfl, hr, hb1⟩
  rw [HU.out] at hr
  have HR := hideP hr
  clear hr HU
  go_wp2_with fail
  go_ret
  exact ⟨ret_bool HR.out, hb1⟩

set_option maxHeartbeats 400000 in
set_option maxRecDepth 100000 in
theorem runnable_any (g B added : Nat) (left : List En) (e : En) (he : e ∈ left) (w : World) (h : TB w B g added left) :
    Calls Tryz.prog 56 #[.pointer (some ⟨g, 0, none⟩), .agg #[.int .i64 (e.seq : Int), kV e]] w fun x w' => x = .returned (.bool (ruB left e)) ∧ Below w.heap.size w w' := by
  have hb0 := ((Below.refl w.heap.size w).alloc (Nat.le_refl _) (.cells #[.pointer (some ⟨g, 0, none⟩)] 81)).alloc (by simp) (.cells #[.int .i64 (e.seq : Int), kV e] 132)
  have hT := h.below hb0
  have r1 : ((w.alloc (.cells #[.pointer (some ⟨g, 0, none⟩)] 81)).alloc (.cells #[.int .i64 (e.seq : Int), kV e] 132)).cell? ⟨w.heap.size, 0, none⟩ = some (.pointer (some ⟨g, 0, none⟩)) := cell_alloc (by simp) (by simp) _
  have r2 : ((w.alloc (.cells #[.pointer (some ⟨g, 0, none⟩)] 81)).alloc (.cells #[.int .i64 (e.seq : Int), kV e] 132)).cell? ⟨w.heap.size + 1, 0, none⟩ = some (.int .i64 (e.seq : Int)) := by simp
  clear h
  go_enter Tryz.func56, Tryz.ntmps56
  go_wp2_with fail
  refine (rcontainsFunc_any w.heap.size (w.heap.size + 1) g B added left e he _ hT (by simp; omega) (by simp) r1 r2).mono ?_
  rintro x w' ⟨rfl, hb1⟩
  have hb2 := hb0.trans (hb1.mono hb0.size)
  cases hy : ruB left e
  · have HY := hideP hy
    clear hy
    go_wp2_with fail
    go_ret
    exact ⟨ret_bool HY.out.symm, hb2⟩
  · have HY := hideP hy
    clear hy
    go_wp2_with fail
    go_ret
    exact ⟨ret_bool HY.out.symm, hb2⟩
end Go.Proofs.YtefdipjhjgmokaaGreat

set_option linter.unusedVariables false
set_option linter.unusedSimpArgs false
namespace Go.Proofs.YtefdipjhjgmokaaGreat
open Go.RowKit Go.WideMaps Go.Maps

set_option maxHeartbeats 400000 in
set_option maxRecDepth 100000 in
theorem new_any (w : World) : Calls Tryz.prog 53 #[] w fun e w' => e = .returned (.pointer (some ⟨w.heap.size, 0, none⟩)) ∧ TB w' w.heap.size w.heap.size 0 [] ∧ Below w.heap.size w w' ∧ w.heap.size < w'.heap.size := by
  go_enter Tryz.func53, Tryz.ntmps53
  go_wp2_with fail
  go_ret
  refine ⟨rfl, ⟨none, 0, none, 0, fun _ => nilV, ?_⟩, (Below.refl _ _).alloc (Nat.le_refl _) _, by simp⟩
  exact ⟨Box.new w _ _, Nat.le_refl _, World.ownsRow_nil _ _ _ _, by simp, rfl, (fun b h => by cases h), by simp, by simp, (fun k => World.ownsRow_nil _ _ _ _), (fun j k h => .inl rfl), List.Pairwise.nil, by simp⟩

/-- the entry at an index, as it lies in memory -/
theorem TBx.at_ {w : World} {B g added : Nat} {left : List En} {lA : Option Addr} {lc : Nat} {m : Option Nat} {n : Nat} {f : ByteArray → Value} (h : TBx w B g added left lA lc m n f) {i : Nat} (hi : i < left.length) :
    ∃ b, lA = some ⟨b, 0, none⟩ ∧ b < w.heap.size ∧ w.cell? ⟨b, i * 2, none⟩ = some (.int .i64 (left[i].seq : Int)) ∧ w.cell? ⟨b, i * 2 + 1, none⟩ = some (kV left[i]) :=
  have hg := enCells_get left i left[i] (List.getElem?_eq_getElem hi)
  own_at h.row hi hg.1 hg.2
/-- what May answers -/
def mayV (left : List En) (s : Int) : Bool × Int := match left.find? fun e => decide ((e.seq : Int) = s) with
  | some e => (ruB left e, 0)
  | none => (false, 4)
theorem find_at {left : List En} (h : Asc left) {i : Nat} (hi : i < left.length) : left.find? (fun e => decide ((e.seq : Int) = (left[i].seq : Int))) = some left[i] := by
  cases hf : left.find? fun e => decide ((e.seq : Int) = (left[i].seq : Int)) with
  | none =>
    have := List.find?_eq_none.1 hf left[i] (List.getElem_mem hi)
    simp at this
  | some x =>
    have h1 := List.find?_some hf
    have h2 := List.mem_of_find?_eq_some hf
    have h3 : x.seq = left[i].seq := by have := of_decide_eq_true h1; omega
    rw [h.inj h2 (List.getElem_mem hi) h3]
theorem find_no {left : List En} {s : Int} (h : ∀ e ∈ left, (e.seq : Int) ≠ s) : left.find? (fun e => decide ((e.seq : Int) = s)) = none := by
  rw [List.find?_eq_none]
  intro x hx
  simpa using h x hx

/-- the numbers of the entries that may go on -/
def rdyL (left l : List En) : List Nat := (l.filter (ruB left)).map (·.seq)
theorem rdyL_take (left : List En) {l : List En} {k : Nat} (h : k < l.length) : rdyL left (l.take (k + 1)) = rdyL left (l.take k) ++ if ruB left l[k] then [l[k].seq] else [] := by
  unfold rdyL
  rw [List.take_succ_eq_append_getElem h, List.filter_append, List.map_append]
  congr 1
  cases hr : ruB left l[k] <;> simp [hr]
def RdyInv (w : World) (left : List En) (v i : Value) (wr : World) : Prop := ∃ (k : Nat) (A : Option Addr) (c : Nat), k ≤ left.length ∧ i = .int .i64 k ∧ v = .slice A (rdyL left (left.take k)).length c ∧ OR wr w.heap.size 3 A c (nV (rdyL left (left.take k))) ∧ Below w.heap.size w wr

set_option maxHeartbeats 1000000 in
set_option maxRecDepth 100000 in
theorem ready_any (g B added : Nat) (left : List En) (w : World) (h : TB w B g added left) :
    Calls Tryz.prog 29 #[.pointer (some ⟨g, 0, none⟩)] w (RetN w (rdyL left left)) := by
  have hlen : left.length ≤ 1000 := by obtain ⟨lA, lc, m, n, f, h⟩ := h; have := h.len; omega
  have hT := h
  obtain ⟨lA, lc, m, n, f, h⟩ := h
  have c1 := h.box.cell 1 (v := .slice lA left.length lc) rfl
  have hrow := h.row
  clear h
  go_enter Tryz.func29, Tryz.ntmps29
  go_wp2_with fail
  go_loopw [3, 11] (RdyInv w left) (fun _ i _ => left.length - (intOf i).toNat)
  case atStart => exact ⟨0, none, 0, Nat.zero_le _, rfl, rfl, OR.nil _ _ _, Below.refl _ _⟩
  case round =>
    obtain ⟨k, A, c, hk, rfl, rfl, hor, hbw⟩ := hrel
    by_cases hlt : k < left.length
    · have HT := hideP (rdyL_take left hlt)
      have hrl : (rdyL left (left.take k)).length ≤ 1000 := by
        have h1 := List.length_filter_le (ruB left) (left.take k)
        unfold rdyL; rw [List.length_map]; rw [List.length_take] at h1; omega
      have hg := enCells_get left k left[k] (List.getElem?_eq_getElem hlt)
      obtain ⟨b1, rfl, hbl, q1, q2⟩ := own_at (own_below hrow hbw) hlt hg.1 hg.2
      have hmem := List.getElem_mem hlt
      clear hrow hg
      generalize left[k] = e at HT q1 q2 hmem
      replace q2 : wr.cell? ⟨b1, k * 2 + 1, none⟩ = some (.slice e.A (uK e.d).length e.c) := q2
      have g1 : (0 : Int) ≤ (k : Int) := by omega
      have g2 : (k : Int) < (left.length : Int) := by omega
      have hb0 := (Below.refl wr.heap.size wr).alloc (Nat.le_refl _) (.cells #[.int .i64 (e.seq : Int), .slice e.A (uK e.d).length e.c] 132)
      have hTr := (hT.below hbw).below hb0
      have ho0 := hor.below hb0
      have hbw0 := hbw.trans (hb0.mono hbw.size)
      have r1 : (wr.alloc (.cells #[.int .i64 (e.seq : Int), .slice e.A (uK e.d).length e.c] 132)).cell? ⟨wr.heap.size, 0, none⟩ = some (.int .i64 (e.seq : Int)) := by simp
      have hlt0 : wr.heap.size < (wr.alloc (.cells #[.int .i64 (e.seq : Int), .slice e.A (uK e.d).length e.c] 132)).heap.size := by simp
      go_wp2_with fail
      generalize wr.alloc (.cells #[.int .i64 (e.seq : Int), .slice e.A (uK e.d).length e.c] 132) = w0 at hb0 hTr ho0 hbw0 r1 hlt0 ⊢
      generalize wr.heap.size = g0 at r1 hlt0 ⊢
      refine (runnable_any g B added left e hmem _ hTr).mono ?_
      rintro x w1 ⟨rfl, hb1⟩
      have r2 := (hb1.cell (p := ⟨g0, 0, none⟩) hlt0).trans r1
      have ho1 := ho0.below hb1
      have hbw1 := hbw0.trans (hb1.mono hbw0.size)
      clear hb0 hTr ho0 hbw0 r1 hor hmem
      cases hr : ruB left e
      · rw [hr] at HT
        simp only [Bool.false_eq_true, if_false, List.append_nil] at HT
        rw [← HT.out] at ho1 ⊢
        have HR := hideP hr
        clear hr HT
        go_wp2_with fail
        go_roundw
        case rel => exact ⟨k + 1, A, c, by omega, by go_num, rfl, ho1, hbw1⟩
        case measure => simp [intOf]; omega
      · rw [hr] at HT
        simp only [if_true] at HT
        obtain ⟨A7, c7, w7, hrun, hor7, hbel, hgr, _⟩ := app_row (P := Tryz.prog) Tryz.underlying22 intInfo rfl w1 w.heap.size 22 A c _ ho1 [.int .i64 (e.seq : Int)] (by simp [Value.oneCell']) (by rw [nV_length]; simp; omega) (by decide) hbw1.size
        have hb7 := hbel w.heap.size w (Nat.le_refl _) hbw1
        rw [show nV (rdyL left (left.take k)) ++ [Value.int .i64 (e.seq : Int)] = nV (rdyL left (left.take (k + 1))) by rw [HT.out, nV_append]; rfl, nV_length, nV_length] at hrun
        rw [show nV (rdyL left (left.take k)) ++ [Value.int .i64 (e.seq : Int)] = nV (rdyL left (left.take (k + 1))) by rw [HT.out, nV_append]; rfl] at hor7
        have HR := hideP hrun
        have HRR := hideP hr
        clear hrun hr hgr hbel HT
        go_wp2_with (at_builtin; refine Lib.wpList_append_run _ rfl _ _ _ _ rfl _ _ rfl rfl _ _ HR.out ?_)
        go_roundw
        case rel => exact ⟨k + 1, A7, c7, by omega, by go_num, rfl, hor7, hb7⟩
        case measure => simp [intOf]; omega
    · rw [List.take_of_length_le (by omega)] at hor ⊢
      go_wp2_with fail
      go_ret
      exact ⟨A, c, rfl, hor, hbw⟩
end Go.Proofs.YtefdipjhjgmokaaGreat

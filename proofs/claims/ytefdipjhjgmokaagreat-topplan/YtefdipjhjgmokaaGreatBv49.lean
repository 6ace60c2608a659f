/-
  lock's Add.
  Transactions that do not conflict (no program in it).
  Is a number in a list (no program in it).
-/
import Derived.Test.YtefdipjhjgmokaaGreatBv46
import Derived.Test.YtefdipjhjgmokaaGreatBv47
import Derived.Test.YtefdipjhjgmokaaGreatBv48
import Derived.Deep.RegionLaw
import Derived.Test.YtefdipjhjgmokaaGreatBv27
import Derived.Test.YtefdipjhjgmokaaGreatBv41
import Derived.Test.YtefdipjhjgmokaaGreatBv1
set_option linter.unusedVariables false
set_option linter.unusedSimpArgs false
namespace Go.Proofs.YtefdipjhjgmokaaGreat
open Go.RowKit Go.WideMaps Go.Maps

/-- what Add answers: a number and an error -/
def addV (added : Nat) (d : List Opr) : Nat × Int := if chkD d = 0 then (if added < 60 then (added, 0) else (0, 2)) else (0, chkD d)
/-- the table behind Add -/
def RetAdd (w : World) (B g added : Nat) (left : List En) (d : List Opr) (e : Ending) (w' : World) : Prop := e = .returned (.tuple #[.int .i64 ((addV added d).1 : Int), .int .i64 (addV added d).2]) ∧ Kp B w w' ∧
  ((addV added d).2 = 0 ∧ (∃ A c, TB w' B g (added + 1) (left ++ [⟨added, A, c, d⟩])) ∨ (addV added d).2 ≠ 0 ∧ TB w' B g added left)
/-- the queues while the keys of a new entry are added -/
def adQ (left : List En) (ks : List ByteArray) (s : Nat) (ws : List ByteArray) : ByteArray → List (Nat × Bool) := fun j => if inB j ks = true then qOf left j ++ [(s, inB j ws)] else qOf left j
theorem adQ_nil (left : List En) (s : Nat) (ws : List ByteArray) : adQ left [] s ws = qOf left := rfl
theorem adQ_put (left : List En) (ks : List ByteArray) (s : Nat) (ws : List ByteArray) (x : ByteArray) : adQ left (ks ++ [x]) s ws = putQ (adQ left ks s ws) x (qOf left x ++ [(s, inB x ws)]) := by
  funext j
  by_cases e : j = x
  · subst e; rw [putQ_same]; unfold adQ; rw [if_pos (inB_iff.2 (by simp))]
  · rw [putQ_other _ e]
    unfold adQ
    have : inB j (ks ++ [x]) = inB j ks := by rw [Bool.eq_iff_iff, inB_iff, inB_iff, List.mem_append]; simp [e]
    rw [this]
theorem adQ_all (left : List En) (d : List Opr) (s : Nat) (A : Option Addr) (c : Nat) : adQ left (uK d) s (keysOf (wrL d)) = qOf (left ++ [⟨s, A, c, d⟩]) := by
  funext k
  rw [qOf_append]
  unfold adQ
  have h1 : inB k (keysOf (wrL d)) = inB k (wrL d) := by rw [Bool.eq_iff_iff, inB_iff, inB_iff, keysOf_mem]
  by_cases h : inB k (uK d) = true
  · rw [if_pos h]; simp [qOf, h, cmOf, h1]
  · rw [if_neg h]; simp [qOf, h]
/-- append of one claim onto a queue of one's own -/
theorem app_claim (w : World) (B : Nat) (ty : TypeId) (A : Option Addr) (c : Nat) (q : List (Nat × Bool)) (h : QS w B A c q) (s : Nat) (z : Bool) (hl : q.length ≤ 1000) (hB : B ≤ w.heap.size) :
    ∃ A' c' w', (Builtin.append_ #[140, 140] ty #[.slice A q.length c, .slice (some ⟨w.heap.size, 0, none⟩) 1 1]).run Tryz.prog (w.alloc (.cells #[.int .i64 (s : Int), .bool z] 138)) = .ok (.slice A' (q ++ [(s, z)]).length c') w' ∧ QS w' B A' c' (q ++ [(s, z)]) ∧
      w.grownBy w' (A.map (·.block)) ∧ (A'.map (·.block) = A.map (·.block) ∨ ∀ r, A'.map (·.block) = some r → w.heap.size ≤ r) := by
  obtain ⟨i0, hi, hz0, hz1, hz2⟩ := info_parts cmInfo
  have hc : ∀ (j : Nat) (u : Value), (cmCells [(s, z)])[j]? = some u → (w.alloc (.cells (cmCells [(s, z)]).toArray 138)).cell? ((⟨w.heap.size, 0, none⟩ : Addr).add j) = some u := by
    intro j u hu
    rw [Addr.add_lit]
    simp only [World.cell?]
    rw [heap_alloc_new]
    simp [hu]
  have hown' : (w.alloc (.cells (cmCells [(s, z)]).toArray 138)).ownsRow B 138 2 (.slice A q.length c) q.length (cmCells q) := World.ownsRow.alloc h _
  obtain ⟨v', w', hrun, h2, h3, _, h5⟩ := run_append_own_at (P := Tryz.prog) (w.alloc (.cells (cmCells [(s, z)]).toArray 138)) B 140 ty 138 i0 _ 2 16 Tryz.underlying140 hi hz0 hz1 hz2 rfl (by decide) _ q.length _ hown' ⟨w.heap.size, 0, none⟩ 1 1 (cmCells [(s, z)]) rfl hc
    (cmCells_one _) (by unfold maxLen; omega) (by omega) (by simp; omega)
  rw [← cmCells_append, show q.length + 1 = (q ++ [(s, z)]).length by simp] at h2
  obtain ⟨A', c', rfl, _⟩ := own_parts h2
  have hob : ∀ (A : Option Addr) (n c : Nat), (Value.slice A n c).ownBlock = A.map (·.block) := fun A n c => by cases A <;> rfl
  rw [hob, hob] at h5
  rw [hob] at h3
  refine ⟨A', c', w', hrun, h2, ?_, ?_⟩
  · exact ⟨h3.os, h3.tape, h3.output, Nat.le_trans (by simp) h3.size, fun k hk hne => (h3.block k (by simp; omega) hne).trans (Below.heap_alloc _ _ _ hk)⟩
  · rcases h5 with h5 | h5
    · exact .inl h5
    · exact .inr fun r hr => by rw [h5] at hr; injection hr with hr; simp at hr; omega
/-- append of one entry onto the entries of one's own -/
theorem app_entry (w : World) (B : Nat) (ty : TypeId) (A : Option Addr) (c : Nat) (l : List En) (h : w.ownsRow B 132 2 (.slice A l.length c) l.length (enCells l)) (e : En) (hl : l.length ≤ 1000) (hB : B ≤ w.heap.size) :
    ∃ A' c' w', (Builtin.append_ #[127, 127] ty #[.slice A l.length c, .slice (some ⟨w.heap.size, 0, none⟩) 1 1]).run Tryz.prog (w.alloc (.cells #[.int .i64 (e.seq : Int), kV e] 132)) = .ok (.slice A' (l ++ [e]).length c') w' ∧ w'.ownsRow B 132 2 (.slice A' (l ++ [e]).length c') (l ++ [e]).length (enCells (l ++ [e])) ∧
      w.grownBy w' (A.map (·.block)) := by
  obtain ⟨i0, hi, hz0, hz1, hz2⟩ := info_parts enInfo
  have hc : ∀ (j : Nat) (u : Value), (enCells [e])[j]? = some u → (w.alloc (.cells (enCells [e]).toArray 132)).cell? ((⟨w.heap.size, 0, none⟩ : Addr).add j) = some u := by
    intro j u hu
    rw [Addr.add_lit]
    simp only [World.cell?]
    rw [heap_alloc_new]
    simp [hu]
  have hown' : (w.alloc (.cells (enCells [e]).toArray 132)).ownsRow B 132 2 (.slice A l.length c) l.length (enCells l) := World.ownsRow.alloc h _
  obtain ⟨v', w', hrun, h2, h3, _, h5⟩ := run_append_own_at (P := Tryz.prog) (w.alloc (.cells (enCells [e]).toArray 132)) B 127 ty 132 i0 _ 2 32 Tryz.underlying127 hi hz0 hz1 hz2 rfl (by decide) _ l.length _ hown' ⟨w.heap.size, 0, none⟩ 1 1 (enCells [e]) rfl hc
    (enCells_one _) (by unfold maxLen; omega) (by omega) (by simp; omega)
  rw [← enCells_append, show l.length + 1 = (l ++ [e]).length by simp] at h2
  obtain ⟨A', c', rfl, _⟩ := own_parts h2
  have hob : ∀ (A : Option Addr) (n c : Nat), (Value.slice A n c).ownBlock = A.map (·.block) := fun A n c => by cases A <;> rfl
  rw [hob] at h3
  refine ⟨A', c', w', hrun, h2, ?_⟩
  exact ⟨h3.os, h3.tape, h3.output, Nat.le_trans (by simp) h3.size, fun k hk hne => (h3.block k (by simp; omega) hne).trans (Below.heap_alloc _ _ _ hk)⟩
theorem step_append_runL {P : Program} (w : World) {ops : Array Oper} {o : Oper} {a : Act} {K : Act → World → Prop} {Q : Exit → Act → World → Prop} {E : Prop} (hgd : o.guard = none) (s x : Operand) (t tn : TypeId)
    (ho : o.op = .call { callee := .builtin .append, args := #[s, x], argTypes := #[t, tn] }) (vs vx : Value) (hs : a.eval s = vs) (hx : a.eval x = vx)
    (v' : Value) (w' : World) (hr : (Builtin.append_ #[t, tn] o.type #[vs, vx]).run P w = .ok v' w') (h : K (a.put o.dst v') w') :
    if Region.wanted o (yielded ops a.tmps) = true then Oper.wp P o a w K Q else E := by
  have hw : Region.wanted o (yielded ops a.tmps) = true := by simp [Region.wanted, hgd]
  rw [if_pos hw]
  exact Lib.wp_append_run w s x t tn ho vs vx hs hx v' w' hr h
/-- the map of queues is made -/
theorem TQ.made {w : World} {B g added : Nat} {left : List En} {lA : Option Addr} {lc n : Nat} {f : ByteArray → Value} {Q : ByteArray → List (Nat × Bool)} (h : TQ w B g added left lA lc none n f Q) (hB : B ≤ w.heap.size) :
    TQ ((w.alloc (.map #[] 0)).setCell ⟨g, 2, none⟩ (.map (some w.heap.size))) B g added left lA lc (some w.heap.size) 0 f Q ∧ Kp B w ((w.alloc (.map #[] 0)).setCell ⟨g, 2, none⟩ (.map (some w.heap.size))) := by
  have hb := (Below.refl w.heap.size w).alloc (Nat.le_refl _) (.map #[] 0)
  have h1 := h.below hb
  have hgs := grown_setCell (w.alloc (.map #[] 0)) ⟨g, 2, none⟩ (.map (some w.heap.size))
  refine ⟨⟨?_, h.low, h1.ne_box h1.row (by decide) _ _, fun e he => h1.ne_box (h1.keys e he) (by decide) _ _, ?_, fun b hb => by injection hb with hb; omega, fun k => h1.ne_box (h1.queue k) (by decide) _ _, h.apart, h.qlen⟩, ?_⟩
  · have := h1.box.set 2 (.map (some w.heap.size))
    simpa using this
  · have hf : f = fun _ => nilV := h.map
    have hm : MPO (w.alloc (.map #[] 0)) (some w.heap.size) 0 f := by rw [hf]; exact MP.made w
    exact hm.box hgs fun b hb => by injection hb with hb; subst hb; exact ⟨_, h1.box.ty⟩
  · exact (Kp.of_below hb hB).trans (Kp.of_grown hgs (Nat.le_trans hB hb.size) fun r hr => by injection hr with hr; subst hr; exact ⟨h.low, .inr (.inl h1.box.ty)⟩)
/-- while the keys are added -/
def AddInv (w2 : World) (B g added : Nat) (left : List En) (lA : Option Addr) (lc : Nat) (mb : Nat) (n0 : Nat) (ks : List ByteArray) (ws : List ByteArray) (i : Value) (wr : World) : Prop :=
  ∃ (k n : Nat) (f : ByteArray → Value), k ≤ ks.length ∧ i = .int .i64 k ∧ TQ wr B g added left lA lc (some mb) n f (adQ left (ks.take k) added ws) ∧ n ≤ n0 + k ∧ Kp B w2 wr

set_option maxHeartbeats 2000000 in
set_option maxRecDepth 100000 in
theorem add_any (g B added : Nat) (left : List En) (D : Option Addr) (cd : Nat) (d : List Opr) (w : World) (h : TB w B g added left) (hB : B ≤ w.heap.size) (hD : OS w w.heap.size D d) :
    Calls Tryz.prog 54 #[.pointer (some ⟨g, 0, none⟩), .agg #[.slice D d.length cd]] w (RetAdd w B g added left d) := by
  have hb0 := (Below.refl w.heap.size w).alloc (Nat.le_refl _) (.cells #[.slice D d.length cd] 32)
  have hT0 := h.below hb0
  have hD0 := hD.go hb0
  clear h hD
  by_cases hd : chkD d = 0
  · go_enter Tryz.func54, Tryz.ntmps54
    go_wp2_with fail
    refine (keys_ok D cd d _ hD0 hd).mono ?_
    rintro e w1 ⟨A1, c1, A2, c2, rfl, hTw, hb1⟩
    have hb2 := hb0.trans (hb1.mono hb0.size)
    have hT1 := hT0.below hb1
    clear hT0 hD0 hb0 hb1
    by_cases hadd : added < 60
    · have HV := hideP (show addV added d = (added, 0) by unfold addV; rw [if_pos hd, if_pos hadd])
      obtain ⟨lA, lc, m, n, f, hX⟩ := hT1
      have hgd := hideP hX
      have hll := hX.len
      have hnn : n ≤ 3840 := by have := hX.num; have := hX.most; omega
      have c0 := hX.box.cell 0 (v := .int .i64 (added : Int)) rfl
      have c3 := hX.box.cell 2 (v := .map m) rfl
      have z3 := hX.box.frozen 2
      have g1 : ¬ (60 : Int) ≤ (added : Int) := by omega
      have hB1 := Nat.le_trans hB hb2.size
      have hQ1 := hX.tq
      have v1 := hTw.o1
      have v2 := hTw.o2
      clear hX hTw
      have hk1 := Kp.of_below hb2 hB
      cases m
      case' none =>
        have hn1 : ∀ w, (binOp .eql 128 (.map none) (.map none)).run Tryz.prog w = .ok (.bool true) w := fun w => run_eql_map_nil w _ _ _ none Tryz.underlying128
        obtain ⟨hQ2, hk2⟩ := hQ1.made hB1
        have hmm := @run_makeMap Tryz.prog
        have c4 := cell_alloc hQ1.box.lt c3 (.map #[] 0)
        have z4 := (hQ1.box.alloc (.map #[] 0)).frozen 2
        have c5 := hQ2.box.cell 0 (v := .int .i64 (added : Int)) rfl
        go_wp2_with fail
        have u1 := v1.kp hk2 (by decide) (by decide) (by decide)
        have u2 := v2.kp hk2 (by decide) (by decide) (by decide)
        have hk3 := hk1.trans hk2
        clear c0 c3 z3 hQ1 v1 v2 hmm c4 z4 hn1 hk2 c5
        generalize (w1.alloc (.map #[] 0)).setCell ⟨g, 2, none⟩ (.map (some w1.heap.size)) = W at hQ2 u1 u2 hk3 ⊢
        obtain ⟨mb, n2, hQ3, hn3⟩ : ∃ mb n2, TQ W B g added left lA lc (some mb) n2 f (qOf left) ∧ n2 ≤ n := ⟨_, _, hQ2, Nat.zero_le _⟩
        clear hQ2
      case' some mb =>
        have hn1 : ∀ w, (binOp .eql 128 (.map (some mb)) (.map none)).run Tryz.prog w = .ok (.bool false) w := fun w => run_eql_map_nil w _ _ _ (some mb) Tryz.underlying128
        go_wp2_with fail
        have hQ2 := hQ1
        have u1 := v1
        have u2 := v2
        have hk3 := hk1
        clear c0 c3 z3 hQ1 v1 v2 hn1
        generalize w1 = W at hQ2 u1 u2 hk3 ⊢
        obtain ⟨mb, n2, hQ3, hn3⟩ : ∃ mb n2, TQ W B g added left lA lc (some mb) n2 f (qOf left) ∧ n2 ≤ n := ⟨_, _, hQ2, Nat.le_refl _⟩
        clear hQ2
      all_goals
        have hdl := (chkD_zero.1 hd).2.1
        have hks : ∀ k ∈ uK d, k.size ≤ maxLen := fun k hk => uK_size hd hk
        have hkl : (uK d).length ≤ 32 := by have := uK_len d; omega
        have hl1 : (keysOf (rdL d)).length ≤ 16 := by have := keysOf_len (rdL d); have := rdL_len d; omega
        have hl2 : (keysOf (wrL d)).length ≤ 16 := by have := keysOf_len (wrL d); have := wrL_len d; omega
        have hnd := uK_nodup d
        refine (union_any A1 A2 c1 c2 _ _ W u1.vs u2.vs (by omega)).mono ?_
        rintro e W2 ⟨A3, c3, rfl, hO3, hb3⟩
        replace hO3 : OR W2 W.heap.size 9 A3 c3 ((uK d).map Value.string) := hO3
        change (fun _ : Unit => _) ()
        have hQ4 := hQ3.below hb3
        have hBW := Nat.le_trans hB hk3.bel.size
        have hk4 := hk3.trans (Kp.of_below hb3 hBW)
        have u3 := u2.below hb3
        have hBW2 := Nat.le_trans hBW hb3.size
        have hkv := hO3.mono hBW
        clear hQ3 u1 u2 hk3 hb3 hO3
        rw [show keysOf (keysOf (rdL d) ++ keysOf (wrL d)) = uK d from rfl]
        have htq : TQ W2 B g added left lA lc (some mb) n2 f (adQ left ((uK d).take 0) added (keysOf (wrL d))) := by rw [List.take_zero, adQ_nil]; exact hQ4
        clear hQ4
        go_wp2_with fail
        go_loopw [45] (AddInv W2 B g added left lA lc mb n2 (uK d) (keysOf (wrL d))) (fun i _ => (uK d).length - (intOf i).toNat)
        case atStart => exact ⟨0, n2, f, Nat.zero_le _, rfl, htq, by omega, Kp.refl _ _⟩
        case round =>
          obtain ⟨k, n', f', hk, rfl, hQ, hn', hKp⟩ := hrel
          clear htq
          by_cases hlt : k < (uK d).length
          · have hxs := hks _ (List.getElem_mem hlt)
            have hnot : (uK d)[k] ∉ (uK d).take k := by
              have h7 : ((uK d).take k ++ (uK d)[k] :: (uK d).drop (k + 1)).Nodup := by rw [List.getElem_cons_drop, List.take_append_drop]; exact hnd
              rw [List.nodup_append] at h7
              exact fun h8 => h7.2.2 _ h8 _ List.mem_cons_self rfl
            have HQ0 := hideP (show adQ left ((uK d).take k) added (keysOf (wrL d)) (uK d)[k] = qOf left (uK d)[k] by unfold adQ; rw [if_neg (by rw [inB_iff]; exact hnot)])
            have HQ1 := hideP (show adQ left ((uK d).take (k + 1)) added (keysOf (wrL d)) = putQ (adQ left ((uK d).take k) added (keysOf (wrL d))) (uK d)[k] (qOf left (uK d)[k] ++ [(added, inB (uK d)[k] (keysOf (wrL d)))]) by rw [List.take_succ_eq_append_getElem hlt]; exact adQ_put _ _ _ _ _)
            obtain ⟨b3, o3, eA, hbl, q5⟩ := (hkv.kp hKp (by decide) (by decide) (by decide)).vs k (.string (uK d)[k]) (by simp [hlt])
            clear hnot hks hnd
            generalize (uK d)[k] = x at hxs HQ0 HQ1 q5
            have hbd : Below wr.heap.size wr wr.drew := (Below.refl _ _).drew
            have hQd := hQ.below hbd
            have hBd : B ≤ wr.drew.heap.size := Nat.le_trans hBW2 hKp.bel.size
            obtain ⟨A, c, hfx, hqs, hlook⟩ := hQd.look x hxs
            have hql : (qOf left x).length ≤ 120 := by have := qOf_len left x; omega
            have c5 := hQd.box.cell 2 (v := .map (some mb)) rfl
            rw [HQ0.out] at hqs hlook
            have hvw := ((u3.kp hKp (by decide) (by decide) (by decide)).below hbd).vs
            have hKd := hKp.trans (Kp.of_below (B := B) hbd (Nat.le_trans hBW2 hKp.bel.size))
            obtain ⟨A', c', w3, hrun, hq3, hg3, hloc⟩ := app_claim wr.drew B 140 A c _ hqs added (inB x (keysOf (wrL d))) (by omega) hBd
            have hob : (f' x).ownBlock = A.map (·.block) := by rw [hfx]; cases A <;> rfl
            have hob2 : ∀ m : Nat, (Value.slice A' m c').ownBlock = A'.map (·.block) := fun m => by cases A' <;> rfl
            have k3 := (hQd.read x hxs (by rw [hob]; exact hg3)).1
            obtain ⟨w4, hrun4, hQ4, hK4, hK5⟩ := hQd.set hBd (by omega) x hxs (.slice A' (qOf left x ++ [(added, inB x (keysOf (wrL d)))]).length c') (qOf left x ++ [(added, inB x (keysOf (wrL d)))]) (by rw [hob]; exact hg3) hq3 (by rw [hob, hob2]; exact hloc) (by simp; omega)
            rw [← HQ1.out] at hQ4
            have hKf := hKd.trans hK4
            have k4 := hQ4.box.cell 2 (v := .map (some mb)) rfl
            have c6 := cell_alloc hQd.box.lt c5 (.cells #[.int .i64 (added : Int), .bool (inB x (keysOf (wrL d)))] 138)
            have hb7 := (Below.refl wr.drew.heap.size wr.drew).alloc (Nat.le_refl _) (.cells #[.int .i64 (added : Int), .bool (inB x (keysOf (wrL d)))] 138)
            have hlook2 := MP.look (MP.keep (show MP wr.drew mb n' f' from hQd.map) (hb7.block mb (MP.lt (show MP wr.drew mb n' f' from hQd.map)))) x hxs
            rw [hfx, HQ0.out] at hlook2
            replace c6 : (wr.alloc (.cells #[.int .i64 (added : Int), .bool (inB x (keysOf (wrL d)))] 138)).drew.cell? ⟨g, 2, none⟩ = some (.map (some mb)) := c6
            replace hlook2 : (Instr.lookup 128 (.map (some mb)) (.string x) false).run Tryz.prog (wr.alloc (.cells #[.int .i64 (added : Int), .bool (inB x (keysOf (wrL d)))] 138)).drew = .ok (.slice A (qOf left x).length c) (wr.alloc (.cells #[.int .i64 (added : Int), .bool (inB x (keysOf (wrL d)))] 138)).drew := hlook2
            replace hrun : (Builtin.append_ #[140, 140] 140 #[.slice A (qOf left x).length c, .slice (some ⟨wr.heap.size, 0, none⟩) 1 1]).run Tryz.prog (wr.alloc (.cells #[.int .i64 (added : Int), .bool (inB x (keysOf (wrL d)))] 138)).drew = .ok (.slice A' (qOf left x ++ [(added, inB x (keysOf (wrL d)))]).length c') w3 := hrun
            have HSC := hideP (scontains_any A2 c2 (keysOf (wrL d)) x wr.drew hvw (by omega))
            have HR := hideP hrun
            clear hQ hKp hbd hQd hqs hob hob2 hK4 hK5 hKd hvw hq3 hg3 hloc hfx HQ0 HQ1 hrun hb7
            generalize hz : inB x (keysOf (wrL d)) = z at HSC HR hrun4 c6 hlook2 hQ4 k4
            clear hz
            generalize qOf left x = q at HR hrun4 hlook hlook2 hQ4 k4
            generalize (q ++ [(added, z)]).length = mq at HR hrun4 hQ4
            rw [eA]
            have g4 : (0 : Int) ≤ (k : Int) := by omega
            have g5 : (k : Int) < ((uK d).length : Int) := by omega
            go_wp2_with fail
            go_region_held3 (fun w' => w'.cell? ⟨g, 2, none⟩ = some (.map (some mb))) (with_reducible first | exact c5 | exact c6 | exact k3 | exact k4) (first
              | (refine step_append_runL _ rfl _ _ _ _ rfl _ _ rfl rfl _ _ HR.out ?_)
              | (go_at_call 82; refine HSC.out.mono ?_; rintro e2 w5 ⟨rfl, rfl⟩))
            all_goals
              go_wp2_with fail
              go_roundw
              case rel => exact ⟨k + 1, n' + 1, _, by omega, by go_num, hQ4, by omega, hKf⟩
              case measure => simp [intOf]; omega
          · have hkk : k = (uK d).length := by omega
            subst hkk
            rw [List.take_length, adQ_all left d added A3 c3] at hQ
            have hBr : B ≤ wr.heap.size := Nat.le_trans hBW2 hKp.bel.size
            have hkr := hkv.kp hKp (by decide) (by decide) (by decide)
            have hX := hgd.out
            obtain ⟨A', c', w3, hrun, ho3, hg3⟩ := app_entry wr B 127 lA lc left hQ.row ⟨added, A3, c3, d⟩ (by omega) hBr
            obtain ⟨hbx3, hQ5, hK5⟩ := hQ.left_ hBr (left ++ [⟨added, A3, c3, d⟩]) A' c' hg3 ho3 (fun e he => by
              rcases List.mem_append.1 he with he | he
              · exact hQ.keys e he
              · rw [List.mem_singleton.1 he]; exact hkr)
            have hB5 := Nat.le_trans hBr hK5.bel.size
            obtain ⟨hQ6, hK6⟩ := hQ5.count hB5
            have hKz := (hk4.trans hKp).trans (hK5.trans hK6)
            have hTB : TB ((w3.setCell ⟨g, 1, none⟩ (.slice A' (left ++ [⟨added, A3, c3, d⟩] : List En).length c')).setCell ⟨g, 0, none⟩ (.int .i64 ((added + 1 : Nat) : Int))) B g (added + 1) (left ++ [⟨added, A3, c3, d⟩]) :=
              ⟨_, _, _, _, _, hQ6.box, hQ6.low, hQ6.row, hQ6.keys, hQ6.map, hQ6.mlow, by have := hX.num; simp; omega, by omega, hQ6.queue, hQ6.apart, by
                have := hX.asc
                unfold Asc at *
                rw [List.pairwise_append]
                exact ⟨this, by simp, fun a ha b hb => by rw [List.mem_singleton.1 hb]; exact (hX.good a ha).1⟩, fun e he => by
                rcases List.mem_append.1 he with he | he
                · exact ⟨by have := (hX.good e he).1; omega, (hX.good e he).2⟩
                · rw [List.mem_singleton.1 he]; exact ⟨by simp, hd⟩⟩
            have HF := hideP (show RetAdd w B g added left d (.returned (.tuple #[.int .i64 (added : Int), .int .i64 0])) _ by
              unfold RetAdd
              rw [HV.out]
              exact ⟨rfl, hKz, .inl ⟨rfl, A3, c3, hTB⟩⟩)
            rw [show ((added + 1 : Nat) : Int) = (added : Int) + 1 by omega] at HF
            have c5 := hQ.box.cell 1 (v := .slice lA left.length lc) rfl
            have c6 := hbx3.cell 1 (v := .slice lA left.length lc) rfl
            have z6 := hbx3.frozen 1
            have c7 := hQ5.box.cell 0 (v := .int .i64 (added : Int)) rfl
            have z7 := hQ5.box.frozen 0
            replace hrun : (Builtin.append_ #[127, 127] 127 #[.slice lA left.length lc, .slice (some ⟨wr.heap.size, 0, none⟩) 1 1]).run Tryz.prog (wr.alloc (.cells #[.int .i64 (added : Int), .slice A3 (uK d).length c3] 132)) = .ok (.slice A' (left ++ [⟨added, A3, c3, d⟩] : List En).length c') w3 := hrun
            have HR := hideP hrun
            clear hQ hkr hX hrun ho3 hg3 hbx3 hQ5 hK5 hB5 hQ6 hK6 hKz hTB hKp hgd
            generalize (left ++ [⟨added, A3, c3, d⟩] : List En).length = ml at HR HF c7 z7
            go_wp2_with (at_builtin; refine Lib.wpList_append_run _ rfl _ _ _ _ rfl _ _ rfl rfl _ _ HR.out ?_)
            go_ret2
            exact HF.out
    · have HV := hideP (show addV added d = (0, 2) by unfold addV; rw [if_pos hd, if_neg hadd])
      have hT2 := hT1
      obtain ⟨lA, lc, m, n, f, hX⟩ := hT2
      have c0 := hX.box.cell 0 (v := .int .i64 (added : Int)) rfl
      have g1 : (60 : Int) ≤ (added : Int) := by omega
      clear hX hTw
      go_wp2_with fail
      go_ret2
      unfold RetAdd
      rw [HV.out]
      exact ⟨rfl, Kp.of_below hb2 hB, .inr ⟨by simp, hT1⟩⟩
  · have HV := hideP (show addV added d = (0, chkD d) by unfold addV; rw [if_neg hd])
    have HD := hideP hd
    have d0 : (chkD d != 0) = true := by simp [hd]
    go_enter Tryz.func54, Tryz.ntmps54
    go_wp2_with fail
    refine (keys_bad D cd d _ hD0 hd).mono ?_
    rintro e w1 ⟨rfl, hb1⟩
    have hb2 := hb0.trans (hb1.mono hb0.size)
    have hT1 := hT0.below hb1
    clear hT0 hD0 hd
    generalize chkD d = z at HV HD d0 ⊢
    go_wp2_with fail
    go_ret2
    unfold RetAdd
    rw [HV.out]
    exact ⟨rfl, Kp.of_below hb2 hB, .inr ⟨HD.out, hT1⟩⟩
end Go.Proofs.YtefdipjhjgmokaaGreat

set_option linter.unusedVariables false
set_option linter.unusedSimpArgs false
namespace Go.Proofs.YtefdipjhjgmokaaGreat

theorem comB_symm (xs ys : List ByteArray) : comB xs ys = comB ys xs := by
  rw [Bool.eq_iff_iff, comB_iff, comB_iff]; exact ⟨fun ⟨k, a, b⟩ => ⟨k, b, a⟩, fun ⟨k, a, b⟩ => ⟨k, b, a⟩⟩
theorem clB_symm (a b : List Opr) : clB a b = clB b a := by
  unfold clB
  rw [comB_symm (wrL a) (wrL b), comB_symm (wrL a) (rdL b), comB_symm (rdL a) (wrL b)]
  cases comB (wrL b) (wrL a) <;> cases comB (rdL b) (wrL a) <;> cases comB (wrL b) (rdL a) <;> rfl
theorem clB_free {a b : List Opr} (h : clB a b = false) : Free a b := by
  unfold clB at h
  have no : ∀ {xs ys : List ByteArray}, comB xs ys = false → ∀ k ∈ xs, k ∉ ys := fun h k h1 h2 => by
    rw [comB_iff.2 ⟨k, h1, h2⟩] at h; cases h
  cases h1 : comB (wrL a) (wrL b)
  · cases h2 : comB (wrL a) (rdL b)
    · cases h3 : comB (rdL a) (wrL b)
      · exact ⟨no h1, no h2, no h3⟩
      · simp [h1, h2, h3] at h
    · simp [h1, h2] at h
  · simp [h1] at h
end Go.Proofs.YtefdipjhjgmokaaGreat

set_option linter.unusedVariables false
set_option linter.unusedSimpArgs false
namespace Go.Proofs.YtefdipjhjgmokaaGreat

/-- is a number in a list? -/
def inI (z : Int) (l : List Int) : Bool := l.any fun x => decide (x = z)
theorem inI_iff {z : Int} {l : List Int} : inI z l = true ↔ z ∈ l := by simp [inI]
theorem inI_no {z : Int} {l : List Int} : inI z l = false ↔ z ∉ l := by rw [← Bool.not_eq_true, inI_iff]
end Go.Proofs.YtefdipjhjgmokaaGreat

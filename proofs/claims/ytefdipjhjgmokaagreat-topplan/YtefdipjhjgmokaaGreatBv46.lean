/-
  lock's Free.
  Who is left, by the transactions that were added and those that are gone (no program in it).
  Transactions plainly, rows of bools that are written (no body of the program in it).
-/
import Derived.Test.YtefdipjhjgmokaaGreatBv45
import Derived.Deep.RegionHeld3
import Derived.Test.YtefdipjhjgmokaaGreatBv37
set_option linter.unusedVariables false
set_option linter.unusedSimpArgs false
namespace Go.Proofs.YtefdipjhjgmokaaGreat
open Go.RowKit Go.WideMaps Go.Maps

/-- what Free answers -/
def freeV (left : List En) (s : Int) : Int := match left.find? fun e => decide ((e.seq : Int) = s) with
  | some e => if ruB left e then 0 else 6
  | none => 4
def RetFree (w : World) (B g added : Nat) (left : List En) (s : Int) (e : Ending) (w' : World) : Prop := e = .returned (.int .i64 (freeV left s)) ∧ TB w' B g added (if freeV left s = 0 then left.filter (fun e => !decide ((e.seq : Int) = s)) else left) ∧ Kp B w w'
/-- the queues while the keys of an entry are freed -/
def frQ (left : List En) (ks : List ByteArray) (s : Nat) : ByteArray → List (Nat × Bool) := fun j => if inB j ks = true then wo (qOf left j) s else qOf left j
theorem frQ_nil (left : List En) (s : Nat) : frQ left [] s = qOf left := rfl
theorem frQ_put (left : List En) (ks : List ByteArray) (s : Nat) (x : ByteArray) : frQ left (ks ++ [x]) s = putQ (frQ left ks s) x (wo (qOf left x) s) := by
  funext j
  by_cases e : j = x
  · subst e; rw [putQ_same]; unfold frQ; rw [if_pos (inB_iff.2 (by simp))]
  · rw [putQ_other _ e]
    unfold frQ
    have : inB j (ks ++ [x]) = inB j ks := by rw [Bool.eq_iff_iff, inB_iff, inB_iff, List.mem_append]; simp [e]
    rw [this]
theorem frQ_all {left : List En} (h : Asc left) {i : Nat} (hi : i < left.length) : frQ left (uK (left[i]).d) (left[i]).seq = qOf (left.eraseIdx i) := by
  funext k
  rw [qOf_eraseIdx h hi]
  rfl
theorem erase_filter {left : List En} (h : Asc left) {i : Nat} (hi : i < left.length) : left.filter (fun e => !decide ((e.seq : Int) = ((left[i]).seq : Int))) = left.eraseIdx i := by
  have hsplit : left = left.take i ++ left[i] :: left.drop (i + 1) := by rw [List.getElem_cons_drop]; exact (List.take_append_drop i left).symm
  have hp : (left.take i ++ left[i] :: left.drop (i + 1)).Pairwise fun a b => a.seq < b.seq := by rw [← hsplit]; exact h
  rw [List.pairwise_append] at hp
  obtain ⟨_, h2, h3⟩ := hp
  rw [List.eraseIdx_eq_take_drop_succ]
  have k1 : (left.take i).filter (fun e => !decide ((e.seq : Int) = ((left[i]).seq : Int))) = left.take i := List.filter_eq_self.2 fun x hx => by
    have := h3 x hx left[i] List.mem_cons_self
    rw [decide_eq_false (by omega)]; rfl
  have k2 : (left.drop (i + 1)).filter (fun e => !decide ((e.seq : Int) = ((left[i]).seq : Int))) = left.drop (i + 1) := List.filter_eq_self.2 fun x hx => by
    have := (List.pairwise_cons.1 h2).1 x hx
    rw [decide_eq_false (by omega)]; rfl
  have k3 : [left[i]].filter (fun e => !decide ((e.seq : Int) = ((left[i]).seq : Int))) = [] := by simp
  have : left.filter (fun e => !decide ((e.seq : Int) = ((left[i]).seq : Int))) = (left.take i ++ ([left[i]] ++ left.drop (i + 1))).filter (fun e => !decide ((e.seq : Int) = ((left[i]).seq : Int))) := by
    rw [List.singleton_append, ← hsplit]
  rw [this, List.filter_append, List.filter_append, k1, k2, k3, List.nil_append]
theorem Box.kp {B : Nat} {w w' : World} {g : Nat} {t : TypeId} {cs : Array Value} (h : Box w g t cs) (k : Kp B w w') (h1 : t ≠ 130) (h2 : t ≠ 132) (h3 : t ≠ 138) : Box w' g t cs :=
  h.keep (k.oth g t h.ty h1 h2 h3)
/-- while the keys are freed -/
def FreeInv (w2 : World) (B g added : Nat) (left : List En) (lA : Option Addr) (lc : Nat) (m : Option Nat) (n0 : Nat) (ks : List ByteArray) (s : Nat) (i : Value) (wr : World) : Prop :=
  ∃ (k n : Nat) (f : ByteArray → Value), k ≤ ks.length ∧ i = .int .i64 k ∧ TQ wr B g added left lA lc m n f (frQ left (ks.take k) s) ∧ n ≤ n0 + k ∧ Kp B w2 wr

set_option maxHeartbeats 2000000 in
set_option maxRecDepth 100000 in
theorem free_any (g B added : Nat) (left : List En) (s : Int) (w : World) (h : TB w B g added left) (hB : B ≤ w.heap.size) :
    Calls Tryz.prog 32 #[.pointer (some ⟨g, 0, none⟩), .int .i64 s] w (RetFree w B g added left s) := by
  have hlen : left.length ≤ 1000 := by obtain ⟨lA, lc, m, n, f, h⟩ := h; have := h.len; omega
  have hasc : Asc left := by obtain ⟨lA, lc, m, n, f, h⟩ := h; exact h.asc
  have hb0 := (Below.refl w.heap.size w).alloc (Nat.le_refl _) (.cells #[.int .i64 s] 3)
  have hT0 := h.below hb0
  have r0 := Box.new w 3 #[.int .i64 s]
  clear h
  go_enter Tryz.func32, Tryz.ntmps32
  go_wp2_with fail
  generalize w.alloc (.cells #[.int .i64 s] 3) = w0 at hb0 hT0 r0 ⊢
  refine (lfind_any g B added left s _ hT0 hlen).mono ?_
  rintro e w1 ⟨r, rfl, hr, hb1⟩
  have hb2 := hb0.trans (hb1.mono hb0.size)
  rcases hr with ⟨i, hi, rfl, hs⟩ | ⟨rfl, hno⟩
  · have hT1 := hT0.below hb1
    have r1 := r0.below hb1
    rw [← hs] at r1
    have hmem := List.getElem_mem hi
    have g1 : (0 : Int) ≤ (i : Int) := by omega
    have g2 : (i : Int) < (left.length : Int) := by omega
    have g3 : ¬ (i : Int) < 0 := by omega
    have HF := hideP (show freeV left s = if ruB left left[i] then 0 else 6 by unfold freeV; rw [← hs, find_at hasc hi])
    have HFI := hideP (show left.filter (fun e => !decide ((e.seq : Int) = s)) = left.eraseIdx i by rw [← hs]; exact erase_filter hasc hi)
    have HFQ := hideP (frQ_all hasc hi)
    have hT2 := hT1
    obtain ⟨lA, lc, m, n, f, hX⟩ := hT2
    have c1 := hX.box.cell 1 (v := .slice lA left.length lc) rfl
    obtain ⟨b, rfl, hlt, q1, q2⟩ := hX.at_ hi
    clear hT0 hb0 hb1 r0 hasc hs
    generalize left[i] = e at HF HFQ hmem q1 q2 r1
    replace q2 : w1.cell? ⟨b, i * 2 + 1, none⟩ = some (.slice e.A (uK e.d).length e.c) := q2
    go_wp2_with fail
    refine (runnable_any g B added left e hmem _ hT1).mono ?_
    rintro x w2 ⟨rfl, hb3⟩
    have hb4 := hb2.trans (hb3.mono hb2.size)
    have hT3 := hT1.below hb3
    have hX3 := hX.below hb3
    have r2 := r1.below hb3
    have c2 := hX3.box.cell 1 (v := .slice (some ⟨b, 0, none⟩) left.length lc) rfl
    have q3 := (hb3.cell (p := ⟨b, i * 2, none⟩) hlt).trans q1
    have q4 := (hb3.cell (p := ⟨b, i * 2 + 1, none⟩) hlt).trans q2
    clear hX hT1 q1 q2 c1 r1 hb2 hb3
    cases hru : ruB left e
    · rw [hru] at HF
      clear hru hX3
      go_wp2_with fail
      go_ret
      have h6 : freeV left s = 6 := HF.out
      unfold RetFree
      rw [h6]
      exact ⟨rfl, hT3, Kp.of_below hb4 hB⟩
    · rw [hru] at HF
      clear hru hT3
      have hgd := (hX3.good e hmem).2
      have hnn : n ≤ 3840 := by have := hX3.num; have := hX3.most; omega
      have hks : ∀ k ∈ uK e.d, k.size ≤ maxLen := fun k hk => uK_size hgd hk
      have hkl : (uK e.d).length ≤ 32 := by have := uK_len e.d; have := (chkD_zero.1 hgd).2.1; omega
      have hnd := uK_nodup e.d
      have hkv := (hX3.keys e hmem)
      have hTQ := hX3.tq
      have hfin := hideP hX3
      go_wp2_with fail
      go_loopw [34] (FreeInv w2 B g added left (some ⟨b, 0, none⟩) lc m n (uK e.d) e.seq) (fun i _ => (uK e.d).length - (intOf i).toNat)
      case atStart => exact ⟨0, n, f, Nat.zero_le _, rfl, by rw [List.take_zero, frQ_nil]; exact hTQ, by omega, Kp.refl _ _⟩
      case round =>
        obtain ⟨k, n', f', hk, rfl, hQ, hn', hKp⟩ := hrel
        clear hTQ hX3 c2 q3 q4
        by_cases hlt : k < (uK e.d).length
        · have hkm := List.getElem_mem hlt
          have hxs := hks _ hkm
          have hnot : (uK e.d)[k] ∉ (uK e.d).take k := by
            have h7 : ((uK e.d).take k ++ (uK e.d)[k] :: (uK e.d).drop (k + 1)).Nodup := by rw [List.getElem_cons_drop, List.take_append_drop]; exact hnd
            rw [List.nodup_append] at h7
            exact fun h8 => h7.2.2 _ h8 _ List.mem_cons_self rfl
          have HQ0 := hideP (show frQ left ((uK e.d).take k) e.seq (uK e.d)[k] = qOf left (uK e.d)[k] by unfold frQ; rw [if_neg (by rw [inB_iff]; exact hnot)])
          have HQ1 := hideP (show frQ left ((uK e.d).take (k + 1)) e.seq = putQ (frQ left ((uK e.d).take k) e.seq) (uK e.d)[k] (wo (qOf left (uK e.d)[k]) e.seq) by rw [List.take_succ_eq_append_getElem hlt]; exact frQ_put _ _ _ _)
          obtain ⟨mb, rfl⟩ : ∃ mb, m = some mb := by
            cases m with
            | some mb => exact ⟨mb, rfl⟩
            | none =>
              exfalso
              have h8 := hQ.queue (uK e.d)[k]
              have h9 : f' = fun _ => nilV := hQ.map
              rw [h9, HQ0.out] at h8
              have h10 : cmOf (uK e.d)[k] e ∈ qOf left (uK e.d)[k] := qOf_mem.2 ⟨e, hmem, hkm, rfl⟩
              rcases h8.2 with ⟨_, h11⟩ | ⟨_, _, _, h11, _⟩
              · rw [List.length_eq_zero_iff.1 h11] at h10; cases h10
              · cases h11
          obtain ⟨b3, o3, eA, hbl, q5⟩ := (hkv.kp hKp (by decide) (by decide) (by decide)).vs k (.string (uK e.d)[k]) (by simp [hlt])
          clear hkm hnot hks hnd
          generalize (uK e.d)[k] = x at hxs HQ0 HQ1 q5
          have hbd : Below wr.heap.size wr wr.drew := (Below.refl _ _).drew
          have hQd := hQ.below hbd
          obtain ⟨A, c, hfx, hqs, hlook⟩ := hQd.look x hxs
          have c3 := hQd.box.cell 2 (v := .map (some mb)) rfl
          have hsb := (r2.kp hKp (by decide) (by decide) (by decide)).below hbd
          have hKd := hKp.trans (Kp.of_below (B := B) hbd (Nat.le_trans (Nat.le_trans hB hb4.size) hKp.bel.size))
          have hql := hQd.qlen x
          have hBd : B ≤ wr.drew.heap.size := Nat.le_trans (Nat.le_trans hB hb4.size) hKp.bel.size
          have hne : ∀ g', A = some ⟨g', 0, none⟩ → g' ≠ w.heap.size := fun g' hA' e' => by
            subst hA'
            have h1 := own_ty hqs (b := g') rfl
            rw [e'] at h1
            exact absurd (h1.inj hsb.ty) (by decide)
          have hcs := hsb.cell 0 (v := .int .i64 (e.seq : Int)) rfl
          have hdel := hideP (deleteFunc_any w.heap.size e.seq A c B _ _ hsb.lt hne hcs hqs hql)
          have hob : (f' x).ownBlock = A.map (·.block) := by rw [hfx]; cases A <;> rfl
          have hrd := hideP (fun w3 (hg : wr.drew.grownBy w3 (A.map (·.block))) => hQd.read x hxs (by rw [hob]; exact hg))
          rw [hfx] at hrd
          have hset := hideP (fun w3 (hg : wr.drew.grownBy w3 (A.map (·.block))) (ho : QS w3 B A c (wo (frQ left ((uK e.d).take k) e.seq x) e.seq)) =>
            hQd.set hBd (by omega) x hxs (.slice A (wo (frQ left ((uK e.d).take k) e.seq x) e.seq).length c) (wo (frQ left ((uK e.d).take k) e.seq x) e.seq) (by rw [hob]; exact hg) ho (.inl (by rw [hob]; cases A <;> rfl)) (Nat.le_trans (List.length_filter_le _ _) hql))
          clear hQ hKp hbd hQd hqs hob hne hcs hsb
          rw [HQ0.out] at hdel hset hlook hrd
          rw [← HQ1.out] at hset
          have HQX := hideP (show frQ left ((uK e.d).take (k + 1)) e.seq x = wo (qOf left x) e.seq by rw [HQ1.out, putQ_same])
          generalize hq : wo (qOf left x) e.seq = q' at hdel hset HQX
          clear hq HQ0 HQ1
          generalize qOf left x = q at hdel hlook hrd
          rw [eA]
          have g4 : (0 : Int) ≤ (k : Int) := by omega
          have g5 : (k : Int) < ((uK e.d).length : Int) := by omega
          go_wp2_with fail
          go_region_held3 (fun w' => w'.cell? ⟨g, 2, none⟩ = some (.map (some mb))) (with_reducible first | exact c3 | exact k3 | exact k4) (first
            | (go_at_call 60; refine hdel.out.mono ?_; rintro e2 w3 ⟨rfl, hq3, hg3⟩; have k3 := (hrd.out w3 hg3).1; obtain ⟨w4, hrun4, hQ4, hK4, hK5⟩ := hset.out w3 hg3 hq3; clear hq3 hg3; have k4 := hQ4.box.cell 2 (v := .map (some mb)) rfl))
          have hlk : (Instr.lookup 128 (.map (some mb)) (.string x) false).run Tryz.prog w4 = .ok (.slice A q'.length c) w4 := by
            have h1 := MP.look (show MP w4 mb (n' + 1) _ from hQ4.map) x hxs
            rw [putF_same] at h1
            exact h1
          have hBd4 := Nat.le_trans hBd hK4.bel.size
          have hKf := hKd.trans hK4
          clear hset hdel hrd hlook hrun4 k3 hK5 hK4 hKd
          by_cases hz : q'.length = 0
          · have hq0 : q' = [] := List.length_eq_zero_iff.1 hz
            rw [hq0] at HQX
            obtain ⟨w5, hrun5, hQ5, hK6⟩ := hQ4.del hBd4 x hxs HQX.out 0
            have hKe := hKf.trans hK6
            have hz2 : ((q'.length : Int) == 0) = true := by simp [hz]
            clear hq0 hQ4 hKf hK6
            go_wp2_with fail
            go_roundw
            case rel => exact ⟨k + 1, n' + 1, _, by omega, by go_num, hQ5, by omega, hKe⟩
            case measure => simp [intOf]; omega
          · have hz2 : ((q'.length : Int) == 0) = false := by simp [hz]
            go_wp2_with fail
            go_roundw
            case rel => exact ⟨k + 1, n' + 1, _, by omega, by go_num, hQ4, by omega, hKf⟩
            case measure => simp [intOf]; omega
        · have hkk : k = (uK e.d).length := by omega
          subst hkk
          rw [List.take_length, HFQ.out] at hQ
          obtain ⟨n1, hn1⟩ : ∃ n1, left.length = n1 + 1 := ⟨left.length - 1, by omega⟩
          have hBr : B ≤ wr.heap.size := Nat.le_trans (Nat.le_trans hB hb4.size) hKp.bel.size
          have hdel := edelete_any (some ⟨b, 0, none⟩) lc B i n1 left wr hn1 (by omega) (by rw [← hn1]; exact hQ.row) (by omega)
          have hl2 : (left.eraseIdx i).length = n1 := by rw [List.length_eraseIdx_of_lt hi]; omega
          have hX := hfin.out
          have hfin2 := hideP (fun w5 (hg : wr.grownBy w5 (some b)) (ho : w5.ownsRow B 132 2 (.slice (some ⟨b, 0, none⟩) n1 lc) n1 (enCells (left.eraseIdx i))) =>
            hQ.left_ hBr (left.eraseIdx i) (some ⟨b, 0, none⟩) lc hg (by rw [hl2]; exact ho) (fun e he => hQ.keys e (List.mem_of_mem_eraseIdx he)))
          rw [hl2] at hfin2
          have HR := hideP (fun w6 (hT : TQ w6 B g added (left.eraseIdx i) (some ⟨b, 0, none⟩) lc m n' f' (qOf (left.eraseIdx i))) => show TB w6 B g added (left.eraseIdx i) from
            ⟨_, _, _, _, _, hT.box, hT.low, hT.row, hT.keys, hT.map, hT.mlow, by have := hX.num; rw [hl2]; omega, hX.most, hT.queue, hT.apart, List.Pairwise.sublist (List.eraseIdx_sublist _ _) hX.asc, fun e he => hX.good e (List.mem_of_mem_eraseIdx he)⟩)
          have c5 := hQ.box.cell 1 (v := .slice (some ⟨b, 0, none⟩) left.length lc) rfl
          clear hQ hX hfin
          go_wp2_with fail
          refine hdel.mono ?_
          rintro e2 w5 ⟨rfl, ho5, hg5⟩
          obtain ⟨hbx5, hT6, hK6⟩ := hfin2.out w5 hg5 ho5
          have c6 := hbx5.cell 1 (v := .slice (some ⟨b, 0, none⟩) left.length lc) rfl
          have z6 := hbx5.frozen 1
          have hKz := (Kp.of_below hb4 hB).trans (hKp.trans hK6)
          have hT7 := HR.out _ hT6
          clear hfin2 hdel HR hT6 hK6 hKp ho5 hg5
          go_wp2_with fail
          go_ret
          have h0 : freeV left s = 0 := by have := HF.out; simpa using this
          unfold RetFree
          rw [h0, HFI.out]
          exact ⟨rfl, hT7, hKz⟩
  · have HF := hideP (show freeV left s = 4 by unfold freeV; rw [find_no hno])
    have hT1 := hT0.below hb1
    clear hno hasc hT0 hb0
    go_wp2_with fail
    go_ret
    unfold RetFree
    rw [HF.out]
    exact ⟨rfl, hT1, Kp.of_below hb2 hB⟩
end Go.Proofs.YtefdipjhjgmokaaGreat

set_option linter.unusedVariables false
set_option linter.unusedSimpArgs false
namespace Go.Proofs.YtefdipjhjgmokaaGreat

/-- left lists those of dd that are not gone, in order -/
structure Lk (left : List En) (dd : List (List Opr)) (gone : Nat → Bool) : Prop where
  asc : Asc left
  mem : ∀ e ∈ left, e.seq < dd.length ∧ gone e.seq = false ∧ dd.getD e.seq [] = e.d
  full : ∀ i, i < dd.length → gone i = false → ∃ e ∈ left, e.seq = i
/-- does the k-th wait? -/
def wtB (dd : List (List Opr)) (gone : Nat → Bool) (k n : Nat) : Bool := (List.range n).any fun i => !gone i && clB (dd.getD i []) (dd.getD k [])
theorem wtB_zero (dd : List (List Opr)) (gone : Nat → Bool) (k : Nat) : wtB dd gone k 0 = false := rfl
theorem wtB_succ (dd : List (List Opr)) (gone : Nat → Bool) (k n : Nat) : wtB dd gone k (n + 1) = (wtB dd gone k n || (!gone n && clB (dd.getD n []) (dd.getD k []))) := by
  unfold wtB; rw [List.range_succ, List.any_append]; simp
theorem wtB_iff {dd : List (List Opr)} {gone : Nat → Bool} {k n : Nat} : wtB dd gone k n = false ↔ ∀ i, i < n → gone i = false → clB (dd.getD i []) (dd.getD k []) = false := by
  unfold wtB
  rw [List.any_eq_false]
  constructor
  · intro h i hi hg
    have := h i (List.mem_range.2 hi)
    rw [hg] at this
    simpa using this
  · intro h i hi
    have hi := List.mem_range.1 hi
    cases hg : gone i with
    | true => simp
    | false => rw [h i hi hg]; simp
section
variable {left : List En} {dd : List (List Opr)} {gone : Nat → Bool}
theorem Lk.nil (gone : Nat → Bool) : Lk [] [] gone := ⟨List.Pairwise.nil, by simp, by simp⟩
theorem Lk.add (h : Lk left dd gone) (hg : gone dd.length = false) (A : Option Addr) (c : Nat) (d : List Opr) : Lk (left ++ [⟨dd.length, A, c, d⟩]) (dd ++ [d]) gone := by
  refine ⟨?_, fun e he => ?_, fun i hi hgi => ?_⟩
  · unfold Asc
    rw [List.pairwise_append]
    exact ⟨h.asc, by simp, fun a ha b hb => by rw [List.mem_singleton.1 hb]; exact (h.mem a ha).1⟩
  · rcases List.mem_append.1 he with he | he
    · obtain ⟨h1, h2, h3⟩ := h.mem e he
      refine ⟨by simp; omega, h2, ?_⟩
      rw [← h3]
      simp [List.getD_eq_getElem?_getD, List.getElem?_append_left h1]
    · rw [List.mem_singleton.1 he]
      exact ⟨by simp, hg, by simp [List.getD_eq_getElem?_getD]⟩
  · rw [List.length_append, List.length_singleton] at hi
    by_cases hl : i < dd.length
    · obtain ⟨e, he, h1⟩ := h.full i hl hgi
      exact ⟨e, List.mem_append_left _ he, h1⟩
    · exact ⟨_, List.mem_append_right _ (List.mem_singleton.2 rfl), by simp only; omega⟩
theorem Lk.free (h : Lk left dd gone) (s : Nat) : Lk (left.filter (fun e => !decide ((e.seq : Int) = (s : Int)))) dd (fun i => gone i || decide (i = s)) := by
  refine ⟨h.asc.sublist List.filter_sublist, fun e he => ?_, fun i hi hgi => ?_⟩
  · obtain ⟨h0, hs⟩ := List.mem_filter.1 he
    obtain ⟨h1, h2, h3⟩ := h.mem e h0
    have hne : e.seq ≠ s := fun e' => by rw [e'] at hs; simp at hs
    exact ⟨h1, by simp [h2, hne], h3⟩
  · simp only [Bool.or_eq_false_iff] at hgi
    obtain ⟨e, he, h1⟩ := h.full i hi hgi.1
    have hne : i ≠ s := of_decide_eq_false hgi.2
    refine ⟨e, List.mem_filter.2 ⟨he, ?_⟩, h1⟩
    rw [decide_eq_false (by omega)]; rfl
theorem Lk.ru (h : Lk left dd gone) {e : En} (he : e ∈ left) : ruB left e = !wtB dd gone e.seq e.seq := by
  have hd := (h.mem e he).2.2
  rw [Bool.eq_iff_iff, ruB_iff h.asc he, Bool.not_eq_true', wtB_iff]
  constructor
  · intro hh i hi hg
    obtain ⟨x, hx, rfl⟩ := h.full i (by have := (h.mem e he).1; omega) hg
    rw [(h.mem x hx).2.2, hd]
    exact hh x hx hi
  · intro hh x hx hlt
    have := hh x.seq hlt (h.mem x hx).2.1
    rw [(h.mem x hx).2.2, hd] at this
    exact this
theorem Lk.find (h : Lk left dd gone) {k : Nat} (hk : k < dd.length) (hg : gone k = false) : ∃ e ∈ left, e.seq = k ∧ left.find? (fun e => decide ((e.seq : Int) = (k : Int))) = some e := by
  obtain ⟨e, he, rfl⟩ := h.full k hk hg
  obtain ⟨i, hi, rfl⟩ := List.getElem_of_mem he
  exact ⟨_, he, rfl, find_at h.asc hi⟩
theorem Lk.nofind (h : Lk left dd gone) {s : Int} (hs : s < 0 ∨ (dd.length : Int) ≤ s ∨ gone s.toNat = true) : left.find? (fun e => decide ((e.seq : Int) = s)) = none :=
  find_no fun e he e' => by
    obtain ⟨h1, h2, _⟩ := h.mem e he
    subst e'
    rcases hs with hs | hs | hs
    · omega
    · omega
    · rw [Int.toNat_natCast, h2] at hs; cases hs
theorem Lk.freeV_ (h : Lk left dd gone) {k : Nat} (hk : k < dd.length) : freeV left (k : Int) = if gone k = true then 4 else if wtB dd gone k k = true then 6 else 0 := by
  cases hg : gone k with
  | true =>
    unfold freeV
    rw [h.nofind (.inr (.inr (by rw [Int.toNat_natCast]; exact hg)))]
    rfl
  | false =>
    obtain ⟨e, he, hs, hf⟩ := h.find hk hg
    unfold freeV
    rw [hf]
    simp only
    rw [h.ru he, hs]
    cases wtB dd gone k k <;> rfl
theorem Lk.freeV_no (h : Lk left dd gone) {s : Int} (hs : s < 0 ∨ (dd.length : Int) ≤ s ∨ gone s.toNat = true) : freeV left s = 4 := by
  unfold freeV; rw [h.nofind hs]
theorem Lk.mayV_ (h : Lk left dd gone) {k : Nat} (hk : k < dd.length) (hg : gone k = false) : mayV left (k : Int) = (!wtB dd gone k k, 0) := by
  obtain ⟨e, he, hs, hf⟩ := h.find hk hg
  unfold mayV
  rw [hf]
  simp only
  rw [h.ru he, hs]
theorem Lk.mayV_no (h : Lk left dd gone) {s : Int} (hs : s < 0 ∨ (dd.length : Int) ≤ s ∨ gone s.toNat = true) : mayV left s = (false, 4) := by
  unfold mayV; rw [h.nofind hs]
/-- the numbers that are left -/
theorem Lk.seqs (h : Lk left dd gone) : left.map (·.seq) = (List.range dd.length).filter fun i => !gone i := by
  have s1 : (left.map (·.seq)).Pairwise (· < ·) := List.pairwise_map.2 h.asc
  have s2 : ((List.range dd.length).filter fun i => !gone i).Pairwise (· < ·) := List.Pairwise.sublist List.filter_sublist List.pairwise_lt_range
  refine (List.Perm.eq_of_pairwise (le := (· < ·)) (fun a b _ _ h1 h2 => absurd h1 (by omega)) s1 s2 ?_)
  refine (List.perm_ext_iff_of_nodup (s1.imp fun h => by omega) (s2.imp fun h => by omega)).2 fun i => ?_
  simp only [List.mem_map, List.mem_filter, List.mem_range, Bool.not_eq_true']
  constructor
  · rintro ⟨e, he, rfl⟩; exact ⟨(h.mem e he).1, (h.mem e he).2.1⟩
  · rintro ⟨h1, h2⟩; exact h.full i h1 h2
theorem Lk.len (h : Lk left dd gone) : left.length = ((List.range dd.length).filter fun i => !gone i).length := by rw [← h.seqs, List.length_map]
theorem Lk.rdy (h : Lk left dd gone) : rdyL left left = (List.range dd.length).filter fun i => !gone i && !wtB dd gone i i := by
  have h1 : rdyL left left = (left.map (·.seq)).filter fun i => !wtB dd gone i i := by
    unfold rdyL
    rw [List.filter_map]
    congr 1
    apply List.filter_congr
    intro e he
    exact h.ru he
  rw [h1, h.seqs, List.filter_filter]
  congr 1
  funext i
  exact Bool.and_comm _ _
end
end Go.Proofs.YtefdipjhjgmokaaGreat

set_option linter.unusedVariables false
set_option linter.unusedSimpArgs false
namespace Go.Proofs.YtefdipjhjgmokaaGreat
open Go.RowKit Go.WideMaps Go.Maps

theorem OR.ty_ {w : World} {B : Nat} {t : TypeId} {g c : Nat} {xs : List Value} (h : OR w B t (some ⟨g, 0, none⟩) c xs) : Ty w g t := own_ty h rfl
end Go.Proofs.YtefdipjhjgmokaaGreat

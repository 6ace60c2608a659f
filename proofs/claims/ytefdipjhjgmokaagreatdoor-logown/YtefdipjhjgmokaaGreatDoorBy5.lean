/-
  A Merge in memory: an input closes its batch (no body of the program in it).
  store.Key and store.Value: what they answer.
  shard.isOwner and Check: what they answer.
  deed.checkOp: what it answers.
-/
import Derived.Test.YtefdipjhjgmokaaGreatDoorBy4
import Derived.Test.YtefdipjhjgmokaaGreatDoorProg
import Derived.Test.YtefdipjhjgmokaaGreatDoorBy1
import Derived.WalkKit
import Derived.WalkSpells
import Derived.WalkLawsBesides
import Derived.Test.YtefdipjhjgmokaaGreatDoorBy2
set_option linter.unusedVariables false
set_option linter.unusedSimpArgs false
namespace Go.Proofs.YtefdipjhjgmokaaGreatDoor
open Go.RowKit

theorem batInfo : (Tryz.prog.info? 144).map (fun i => (i.zero, i.size, i.bytes)) = some (some (.slice none 0 0), 1, 24) := by kernel_rfl
section
variable {w w' : World} {B B' g : Nat} {tx : Tx} {AI : Option Addr} {cI : Nat} {ins : List In} {added : Nat}
set_option maxRecDepth 100000 in
/-- a batch is closed -/
theorem MG.close (h : MG w B g tx AI cI ins added) {i : Nat} {x : In} (hi : ins[i]? = some x) (hB : B ≤ w.heap.size) (hl : x.bs.length ≤ 100) (ty : TypeId) :
    ∃ A' c' w2 gi, (Builtin.append_ #[146, 146] ty #[inV x, .slice (some ⟨w.heap.size, 0, none⟩) 1 1]).run Tryz.prog (w.alloc (.cells #[.slice none 0 0] 144)) = .ok (.slice A' (x.bs ++ [bt0]).length c') w2 ∧ AI = some ⟨gi, 0, none⟩ ∧
      w2.cell? ⟨gi, i, none⟩ = some (inV x) ∧ w2.frozen? ⟨gi, i, none⟩ = false ∧
      MG (w2.setCell ⟨gi, i, none⟩ (.slice A' (x.bs ++ [bt0]).length c')) B g tx AI cI (ins.set i ⟨A', c', x.bs ++ [bt0]⟩) added ∧
      Fr (CF g AI ins) w (w2.setCell ⟨gi, i, none⟩ (.slice A' (x.bs ++ [bt0]).length c')) ∧
      (∀ q, CF g AI (ins.set i ⟨A', c', x.bs ++ [bt0]⟩) q → CF g AI ins q ∨ w.heap.size ≤ q) := by
  have hil : i < ins.length := (List.getElem?_eq_some_iff.1 hi).1
  obtain ⟨gi, hAI, hBi, hlti⟩ := h.row_ (by intro e; rw [e] at hil; simp at hil)
  obtain ⟨A', c', w2, hrun, hOR, hbel, hgr, h5⟩ := app_row (P := Tryz.prog) Tryz.underlying146 batInfo rfl w B ty x.A x.c _ (h.inp i x hi) [.slice none 0 0] (by simp [Value.oneCell']) (by simp; omega) (by decide) hB
  rw [show x.bs.map btV ++ [.slice none 0 0] = (x.bs ++ [bt0]).map btV by simp [btV, bt0]] at hrun hOR h5
  rw [List.length_map, List.length_map] at hrun
  rw [ownBlock_slice] at hgr
  rw [ownBlock_slice, ownBlock_slice] at h5
  have hal := (Below.refl w.heap.size w).alloc (Nat.le_refl _) (.cells #[.slice none 0 0] 144)
  have h1 := h.below hal
  subst hAI
  have hty : ∀ q, blk x.A = some q → Ty (w.alloc (.cells #[.slice none 0 0] 144)) q 144 := fun q hq => own_ty (h1.inp i x hi) (by rw [ownBlock_slice]; exact hq)
  have al2 : Aloof (w.alloc (.cells #[.slice none 0 0] 144)) (blk x.A) := fun q hq => ⟨_, hty q hq, by decide, by decide, by decide⟩
  have bx2 := h1.box.grown hgr (fun e => absurd (h1.box.ty.inj (hty g e.symm)) tx.nB)
  have row2 : OR w2 B 146 (some ⟨gi, 0, none⟩) cI (ins.map inV) := own_keep h1.row hgr fun q hq => ⟨_, hty q hq, by decide⟩
  have ti : Ty w2 gi 146 := own_ty row2 rfl
  have hs := row2.set_ (k := i) (by rw [List.length_map]; exact hil) (.slice A' (x.bs ++ [bt0]).length c')
  obtain ⟨v, hv⟩ : ∃ v, Value.slice A' (x.bs ++ [bt0]).length c' = v := ⟨_, rfl⟩
  rw [hv] at hs
  have gs := grown_set w2 gi i v
  have gne : g ≠ gi := fun e => absurd (bx2.ty.inj (e ▸ ti)) tx.nI
  have bx3 := bx2.grown gs (fun e => gne (by injection e))
  have al3 : Aloof w2 (some gi) := fun q hq => by injection hq with hq; subst hq; exact ⟨_, ti, by decide, by decide, by decide⟩
  have c1 : w2.cell? ⟨gi, i, none⟩ = some (inV x) := by
    obtain ⟨b', o', e, _, hc⟩ := row2.vs i (inV x) (by rw [List.getElem?_map, hi]; rfl)
    injection e with e
    injection e with e1 e2 _
    subst e1; subst e2
    rw [Nat.zero_add] at hc; exact hc
  have kEW : ∀ {A : Option Addr} {c : Nat} {l : List Em}, EW w B A c l → EW (w2.setCell ⟨gi, i, none⟩ v) B A c l := fun {A c l} hh => by
    have h0 := hh.below hal
    have n0 : blk A = none ∨ blk A ≠ blk x.A := by
      cases e : blk A with
      | none => exact .inl rfl
      | some q =>
        refine .inr fun e2 => ?_
        have t1 := own_ty h0.row (b := q) (by rw [ownBlock_slice]; exact e)
        exact absurd (t1.inj (hty q e2.symm)) (by decide)
    have s0 := h0.kept_ hgr al2 n0
    have n1 : blk A = none ∨ blk A ≠ some gi := by have := own_ne s0.row ti (by decide); rw [ownBlock_slice] at this; exact this
    exact s0.kept_ gs al3 n1
  have hset : ∀ (j : Nat) (z : In), (ins.set i ⟨A', c', x.bs ++ [bt0]⟩)[j]? = some z → (j = i ∧ z = ⟨A', c', x.bs ++ [bt0]⟩) ∨ (j ≠ i ∧ ins[j]? = some z) := by
    intro j z hz
    rw [List.getElem?_set] at hz
    by_cases e : i = j
    · subst e
      rw [if_pos rfl, if_pos hil] at hz
      injection hz with hz
      exact .inl ⟨rfl, hz.symm⟩
    · rw [if_neg e] at hz; exact .inr ⟨fun e2 => e e2.symm, hz⟩
  have hbs : ∀ (l : Nat) (a : Bt), (x.bs ++ [bt0])[l]? = some a → (x.bs[l]? = some a) ∨ a = bt0 := by
    intro l a ha
    rcases Nat.lt_or_ge l x.bs.length with hl' | hl'
    · rw [List.getElem?_append_left hl'] at ha; exact .inl ha
    · rw [List.getElem?_append_right hl'] at ha
      have hm := List.mem_of_getElem? ha
      simp at hm
      exact .inr hm
  -- every batch is an old one, or none
  have hall : ∀ (j : Nat) (z : In) (l : Nat) (a : Bt), (ins.set i ⟨A', c', x.bs ++ [bt0]⟩)[j]? = some z → z.bs[l]? = some a → (∃ y', ins[j]? = some y' ∧ y'.bs[l]? = some a) ∨ a = bt0 := by
    intro j z l a hz hl'
    rcases hset j z hz with ⟨rfl, rfl⟩ | ⟨hne, hz⟩
    · rcases hbs l a hl' with ha | ha
      · exact .inl ⟨x, hi, ha⟩
      · exact .inr ha
    · exact .inl ⟨z, hz, hl'⟩
  have hap' : ∀ (j : Nat) (y' : In), ins[j]? = some y' → j ≠ i → blk y'.A ≠ blk A' := by
    intro j y' hj hne e
    rcases h5 with e5 | e5
    · exact hne (h.apI j i y' x hj hi (e.trans e5))
    · obtain ⟨gy, hy, _, hlt⟩ := h.at_ hj
      rw [e5, hy] at e
      simp [blk] at e
      omega
  subst hv
  refine ⟨A', c', w2, gi, hrun, rfl, c1, row2.frozen_ i, ⟨?_, h.low, ?_, ?_, ?_, ?_, ?_, ?_, ?_⟩, ?_, ?_⟩
  · rw [List.length_set]; exact bx3
  · rw [List.map_set]; exact hs
  · intro j z hz
    rcases hset j z hz with ⟨rfl, rfl⟩ | ⟨hne, hz⟩
    · exact own_keep hOR gs fun q hq => by injection hq with hq; subst hq; exact ⟨_, ti, by decide⟩
    · have hne2 : blk z.A ≠ blk x.A := fun e => hne (h.apI j i z x hz hi e)
      have s1 : OR w2 B 144 z.A z.c (z.bs.map btV) := World.ownsRow.kept (h1.inp j z hz) hgr (.inr (by rw [ownBlock_slice]; exact hne2))
      exact own_keep s1 gs fun q hq => by injection hq with hq; subst hq; exact ⟨_, ti, by decide⟩
  · intro j z hz
    rcases hset j z hz with ⟨rfl, rfl⟩ | ⟨hne, hz⟩
    · simp
    · exact h.ne j z hz
  · intro j z l a hz hl'
    rcases hall j z l a hz hl' with ⟨y', hy', ha⟩ | rfl
    · exact kEW (h.bat j y' l a hy' ha)
    · exact EW.nil _ _
  · intro j j' z z' hz hz' e
    rcases hset j z hz with ⟨e1, e2⟩ | ⟨hne, hz2⟩
    · rcases hset j' z' hz' with ⟨e3, e4⟩ | ⟨hne', hz2'⟩
      · rw [e1, e3]
      · rw [e2] at e; exact absurd e.symm (hap' j' z' hz2' hne')
    · rcases hset j' z' hz' with ⟨e3, e4⟩ | ⟨hne', hz2'⟩
      · rw [e4] at e; exact absurd e (hap' j z hz2 hne)
      · exact h.apI j j' z z' hz2 hz2' e
  · intro j j' l l' z z' a a' hz hz' ha ha' hnn e
    rcases hall j z l a hz ha with ⟨y1, hy1, ha1⟩ | rfl
    · rcases hall j' z' l' a' hz' ha' with ⟨y2, hy2, ha2⟩ | rfl
      · exact h.apB j j' l l' y1 y2 a a' hy1 hy2 ha1 ha2 hnn e
      · exact absurd e hnn
    · exact absurd rfl hnn
  · intro j z l a hz hl'
    rcases hall j z l a hz hl' with ⟨y', hy', ha⟩ | rfl
    · exact h.good j y' l a hy' ha
    · intro e he; simp [bt0] at he
  · have f1 : Fr (CF g (some ⟨gi, 0, none⟩) ins) w w2 := (Fr.of_below hal).comp (Fr.of_grown hgr fun q hq => .inr (.inr ⟨i, _, hi, .inl hq⟩))
    exact f1.comp (Fr.of_set gi i _ (.inr (.inl rfl)))
  · intro q hq
    rcases hq with rfl | hq | ⟨j, z, hz, hq⟩
    · exact .inl (.inl rfl)
    · exact .inl (.inr (.inl hq))
    · rcases hset j z hz with ⟨e1, e2⟩ | ⟨hne, hz⟩
      · subst e2
        rcases hq with hq | ⟨l, a, ha, hq⟩
        · simp only at hq
          rcases h5 with e5 | e5
          · exact .inl (.inr (.inr ⟨i, _, hi, .inl (by rw [← e5]; exact hq)⟩))
          · rw [e5] at hq; injection hq with hq; exact .inr (by omega)
        · rcases hbs l a ha with ha | rfl
          · exact .inl (.inr (.inr ⟨i, _, hi, .inr ⟨l, a, ha, hq⟩⟩))
          · cases hq
      · exact .inl (.inr (.inr ⟨j, z, hz, hq⟩))
theorem MG.c0 (h : MG w B g tx AI cI ins added) : w.cell? ⟨g, 0, none⟩ = some (.slice AI ins.length cI) := h.box.cell 0 (tx.cs0 _ _)
theorem MG.c1 (h : MG w B g tx AI cI ins added) : w.cell? ⟨g, 1, none⟩ = some (.int .i64 (added : Int)) := h.box.cell 1 (tx.cs1 _ _)
theorem ob {A : Option Addr} {n c k : Nat} (h : (Value.slice A n c).ownBlock = some k) : blk A = some k := by rw [ownBlock_slice] at h; exact h
theorem bo {A : Option Addr} {k : Nat} (n c : Nat) (h : blk A = some k) : (Value.slice A n c).ownBlock = some k := by rw [ownBlock_slice]; exact h
/-- other blocks change -/
theorem MG.fr {F : Nat → Prop} (h : MG w B g tx AI cI ins added) (hf : Fr F w w') (hd : ∀ q, CF g AI ins q → ¬ F q) (o1 : Off F w 71) (o2 : Off F w 9) (o3 : Off F w 3) : MG w' B g tx AI cI ins added :=
  ⟨hf.box h.box (hd g (.inl rfl)), h.low, hf.own h.row fun k hk => hd k (.inr (.inl (ob hk))), fun i x hx => hf.own (h.inp i x hx) fun k hk => hd k (.inr (.inr ⟨i, x, hx, .inl (ob hk)⟩)), h.ne,
    fun i x k b hx hk => ⟨hf.own (h.bat i x k b hx hk).row fun q hq => hd q (.inr (.inr ⟨i, x, hx, .inr ⟨k, b, hk, ob hq⟩⟩)), fun e he => ⟨hf.own_ty ((h.bat i x k b hx hk).eo e he).ops o1, ⟨hf.own_ty ((h.bat i x k b hx hk).eo e he).map.cuts o2, hf.own_ty ((h.bat i x k b hx hk).eo e he).map.own o3⟩⟩, (h.bat i x k b hx hk).bd⟩, h.apI, h.apB, h.good⟩
/-- the types of those blocks -/
theorem MG.cf_ty (h : MG w B g tx AI cI ins added) {q : Nat} (hq : CF g AI ins q) : (Ty w q tx.T ∨ Ty w q 146 ∨ Ty w q 144 ∨ Ty w q 42) ∧ B ≤ q ∧ q < w.heap.size := by
  rcases hq with rfl | hq | ⟨i, x, hx, hq | ⟨l, b, hl, hq⟩⟩
  · exact ⟨.inl h.box.ty, h.low, h.box.lt⟩
  · exact ⟨.inr (.inl (own_ty h.row (bo _ _ hq))), World.ownsRow.lt h.row q (bo _ _ hq)⟩
  · exact ⟨.inr (.inr (.inl (own_ty (h.inp i x hx) (bo _ _ hq)))), World.ownsRow.lt (h.inp i x hx) q (bo _ _ hq)⟩
  · exact ⟨.inr (.inr (.inr (own_ty (h.bat i x l b hx hl).row (bo _ _ hq)))), World.ownsRow.lt (h.bat i x l b hx hl).row q (bo _ _ hq)⟩
theorem MG.off (h : MG w B g tx AI cI ins added) {t : TypeId} (h0 : t ≠ 51) (h1 : t ≠ 48) (h2 : t ≠ 146) (h3 : t ≠ 144) (h4 : t ≠ 42) : Off (CF g AI ins) w t := fun k hk _ => by
  rcases (h.cf_ty hk).1 with e | e | e | e
  · exact ⟨_, e, by rcases tx.ok with e | e <;> rw [e] <;> assumption⟩
  · exact ⟨_, e, h2⟩
  · exact ⟨_, e, h3⟩
  · exact ⟨_, e, h4⟩
/-- what is held, behind it -/
theorem ct_add {i k : Nat} {x : In} {b : Bt} (hi : ins[i]? = some x) (hk : x.bs[k]? = some b) (hkl : k = x.bs.length - 1) (A' : Option Addr) (c' : Nat) (y : Em) : ctM (ins.set i ⟨x.A, x.c, x.bs.set k ⟨A', c', b.es ++ [y]⟩⟩) = addM (ctM ins) i (entOf y) := by
  unfold addM ctM
  refine List.ext_getElem? fun j => ?_
  rw [List.getElem?_map, List.getElem?_set, List.getElem?_modify, List.getElem?_map]
  by_cases e : i = j
  · subst e
    rw [if_pos rfl, if_pos (List.getElem?_eq_some_iff.1 hi).1, hi]
    simp only [Option.map_some, if_true, Option.map_eq_map, Option.some.injEq]
    unfold ctI
    simp only [List.length_map]
    rw [← hkl]
    refine List.ext_getElem? fun l => ?_
    rw [List.getElem?_map, List.getElem?_set, List.getElem?_modify, List.getElem?_map]
    by_cases e : k = l
    · subst e
      rw [if_pos rfl, if_pos (List.getElem?_eq_some_iff.1 hk).1, hk]
      simp
    · simp [e]
  · simp [e]
theorem ct_close {i : Nat} {x : In} (hi : ins[i]? = some x) (A' : Option Addr) (c' : Nat) : ctM (ins.set i ⟨A', c', x.bs ++ [bt0]⟩) = closeM (ctM ins) i := by
  unfold closeM ctM
  refine List.ext_getElem? fun j => ?_
  rw [List.getElem?_map, List.getElem?_set, List.getElem?_modify, List.getElem?_map]
  by_cases e : i = j
  · subst e
    rw [if_pos rfl, if_pos (List.getElem?_eq_some_iff.1 hi).1, hi]
    simp [ctI, bt0]
  · simp [e]
end
end Go.Proofs.YtefdipjhjgmokaaGreatDoor

set_option linter.unusedVariables false
set_option linter.unusedSimpArgs false
namespace Go.Proofs.YtefdipjhjgmokaaGreatDoor
open Go.RowKit

set_option maxHeartbeats 400000 in
theorem value_any (n : Int) (w : World) :
    Calls Tryz.prog 132 #[.int .i64 n] w fun e w' => e = .returned (.bool (valB n)) ∧ w = w' := by
  by_cases h1 : -1000000000 ≤ n <;> by_cases h2 : n ≤ 1000000000
  all_goals
    go_enter Tryz.func132, Tryz.ntmps132
    go_wp2
    go_ret
    exact ⟨ret_bool (by simp [valB, h1, h2]), rfl⟩

set_option maxHeartbeats 400000 in
theorem key_any (s : ByteArray) (w : World) :
    Calls Tryz.prog 131 #[.string s] w fun e w' => e = .returned (.bool (keyB s)) ∧ w = w' := by
  by_cases h1 : 1 ≤ s.size
  · by_cases h2 : s.size ≤ 6
    · have d1 : decide ((s.size : Int) < 1) = false := by simp; omega
      have d2 : decide ((6 : Int) < (s.size : Int)) = false := by simp; omega
      go_enter Tryz.func131, Tryz.ntmps131
      go_wp2
      go_loop [14] (fun i => ∃ k : Nat, k ≤ s.size ∧ i = .int .i64 k ∧ (s.data.toList.take k).all lowB = true) (fun i => s.size - (intOf i).toNat)
      case atStart => exact ⟨0, Nat.zero_le _, rfl, rfl⟩
      case round =>
        obtain ⟨k, hk, rfl, hall⟩ := hrel
        have HA := hideP hall
        clear hall
        by_cases hlt : k < s.size
        · have hts := hideP (take_snoc s k hlt)
          by_cases ha : 97 ≤ (s[k].toNat : Int)
          · by_cases hz : (s[k].toNat : Int) ≤ 122
            · go_wp2
              go_round
              case rel => exact ⟨k + 1, by omega, by go_num, by rw [hts.out, List.all_append, HA.out]; simp [lowB, ha, hz]⟩
              case measure => simp [intOf]; omega
            · have hno := hideP (keyB_no (s := s) (x := s[k]) (Array.getElem_mem_toList _) (by simp [lowB, hz]))
              go_wp2
              go_ret
              exact ⟨ret_bool hno.out.symm, rfl⟩
          · have hno := hideP (keyB_no (s := s) (x := s[k]) (Array.getElem_mem_toList _) (by simp [lowB, ha]))
            go_wp2
            go_ret
            exact ⟨ret_bool hno.out.symm, rfl⟩
        · go_wp2
          go_ret
          exact ⟨ret_bool (by have := HA.out; rw [List.take_of_length_le (by simp; omega)] at this; simp [keyB, h1, h2, this]), rfl⟩
    · go_enter Tryz.func131, Tryz.ntmps131
      go_wp2
      go_ret
      exact ⟨ret_bool (by simp [keyB, h2]), rfl⟩
  · go_enter Tryz.func131, Tryz.ntmps131
    go_wp2
    go_ret
    exact ⟨ret_bool (by simp [keyB, h1]), rfl⟩
end Go.Proofs.YtefdipjhjgmokaaGreatDoor

set_option linter.unusedVariables false
set_option linter.unusedSimpArgs false
namespace Go.Proofs.YtefdipjhjgmokaaGreatDoor
open Go.RowKit

set_option maxHeartbeats 400000 in
theorem isown_any (n : Int) (w : World) :
    Calls Tryz.prog 165 #[.int .i64 n] w fun e w' => e = .returned (.bool (ownB n)) ∧ w = w' := by
  by_cases h1 : 0 ≤ n <;> by_cases h2 : n < 4
  all_goals
    go_enter Tryz.func165, Tryz.ntmps165
    go_wp2
    go_ret
    exact ⟨ret_bool (by have e : (n ≤ 3) = (n < 4) := propext (by omega); simp [ownB, h1, h2, e]), rfl⟩

theorem own_all_next {os : List Int} {k : Nat} (h : k < os.length) : (os.take (k + 1)).all ownB = ((os.take k).all ownB && ownB os[k]) := by
  rw [List.take_succ_eq_append_getElem h, List.all_append]; simp

set_option maxHeartbeats 1000000 in
set_option maxRecDepth 100000 in
theorem shcheck_any (m : Mp) (w : World) (hm : MS w m) (l2 : m.os.length ≤ 9223372036854775807) :
    Calls Tryz.prog 120 #[.agg #[.slice m.A m.cs.length m.ca, .slice m.O m.os.length m.co]] w fun e w' => e = .returned (.int .i64 (chkM m.cs m.os)) ∧ Below w.heap.size w w' := by
  have b0 := (Below.refl w.heap.size w).alloc (Nat.le_refl _) (.cells #[.slice m.A m.cs.length m.ca, .slice m.O m.os.length m.co] 34)
  have x0 := Box.new w 34 #[.slice m.A m.cs.length m.ca, .slice m.O m.os.length m.co]
  have hm1 := hm.below b0
  obtain ⟨A, ca, cs, O, co, os⟩ := m
  simp only at hm1 b0 x0 l2 ⊢
  have c0 := x0.cell 0 (v := .slice A cs.length ca) rfl
  have c1 := x0.cell 1 (v := .slice O os.length co) rfl
  have hlt := x0.lt
  clear hm
  go_enter Tryz.func120, Tryz.ntmps120
  by_cases h12 : 12 < cs.length
  · have g : (12 : Int) < (cs.length : Int) := by omega
    have HC := hideP (show chkM cs os = 2 by unfold chkM; rw [if_pos h12])
    clear h12
    go_wp2_with fail
    go_ret
    exact ⟨ret_int (by rw [HC.out]), b0⟩
  have g : ¬ (12 : Int) < (cs.length : Int) := by omega
  have pw : IntKind.i64.wrap ((cs.length : Int) + 1) = (cs.length : Int) + 1 := by simp only [IntKind.wrap_i64]; omega
  by_cases hl : os.length = cs.length + 1
  · have e1 : ((os.length : Int) != ((cs.length : Int) + 1)) = false := by simp; omega
    have HC := hideP (show chkM cs os = if cutsB ByteArray.empty cs = false then 3 else if os.all ownB = false then 1 else 0 by unfold chkM; rw [if_neg h12, if_neg (by simp [hl])])
    have HL := hideP hl
    clear hl h12
    go_wp2_with fail
    generalize w.alloc (.cells #[.slice A cs.length ca, .slice O os.length co] 34) = w1 at b0 x0 hm1 c0 c1 hlt ⊢
    have HB := hideP b0
    clear b0 x0
    generalize w.heap.size = g at c0 c1 hlt ⊢
    go_loopw [3, 23] (fun s i wr => ∃ (k : Nat) (bf : ByteArray), k ≤ cs.length ∧ i = .int .i64 k ∧ s = .string bf ∧ cutsB ByteArray.empty cs = cutsB bf (cs.drop k) ∧ w1 = wr) (fun _ i _ => cs.length - (intOf i).toNat)
    case atStart => exact ⟨0, ByteArray.empty, Nat.zero_le _, rfl, rfl, rfl, rfl⟩
    case round =>
      obtain ⟨k, bf, hk, rfl, rfl, hchk, rfl⟩ := hrel
      have HK := hideP hchk
      clear hchk
      by_cases hkl : k < cs.length
      · obtain ⟨b, o, e, hbl, q1⟩ := hm1.cuts k (.string cs[k]) (by simp [hkl])
        simp only at e
        subst e
        have HT := hideP (cutsB_next (last := bf) hkl)
        generalize cs[k] = c at q1 HT
        have g1 : (0 : Int) ≤ (k : Int) := by omega
        have g2 : (k : Int) < (cs.length : Int) := by omega
        go_wp2_with fail
        refine (key_any _ _).mono ?_
        rintro e w2 ⟨rfl, rfl⟩
        cases hkb : keyB c
        · have HKB := hideP hkb
          clear hkb
          go_wp2_with fail
          go_ret
          exact ⟨ret_int (by rw [HC.out, HK.out, HT.out, HKB.out]; rfl), HB.out⟩
        · have HKB := hideP hkb
          clear hkb
          cases hle : leB c bf
          · have HL2 := hideP (leB_no.1 hle)
            have d1 : Op.bytesLess c.toList bf.toList = false := by simp [leB] at hle; exact hle.1
            have d2 : (c.toList == bf.toList) = false := by simp [leB] at hle; simpa using hle.2
            clear hle
            go_wp2_with fail
            go_roundw
            case rel => exact ⟨k + 1, c, by omega, by go_num, rfl, by rw [HK.out, HT.out, HKB.out, HL2.out]; rfl, trivial⟩
            case measure => simp [intOf]; omega
          · have HL2 := hideP (leB_iff.1 hle)
            have d1 : (Op.bytesLess c.toList bf.toList || c.toList == bf.toList) = true := by simpa [leB] using hle
            clear hle
            go_wp2_with fail
            go_ret
            exact ⟨ret_int (by rw [HC.out, HK.out, HT.out, HL2.out]; simp), HB.out⟩
      · have HE := hideP (show cutsB ByteArray.empty cs = true by rw [HK.out, List.drop_of_length_le (by omega)]; rfl)
        have hi := hm1.own
        simp only at hi
        have hos : os.length ≤ 13 := by have := HL.out; omega
        clear hm1
        go_wp2_with fail
        go_loopw [40] (fun i wr => ∃ k : Nat, k ≤ os.length ∧ i = .int .i64 k ∧ (os.take k).all ownB = true ∧ w1 = wr) (fun i _ => os.length - (intOf i).toNat)
        case atStart => exact ⟨0, Nat.zero_le _, rfl, rfl, rfl⟩
        case round =>
          obtain ⟨j, hj, rfl, hown, rfl⟩ := hrel
          have HO := hideP hown
          clear hown
          by_cases hjl : j < os.length
          · obtain ⟨b, o, e, hbl, q1⟩ := hi j os[j] (by simp [hjl])
            subst e
            have HT := hideP (own_all_next hjl)
            have HM := hideP (fun (h : ownB os[j] = false) => show os.all ownB = false from by
              rw [List.all_eq_false]; exact ⟨os[j], List.getElem_mem hjl, by simp [h]⟩)
            generalize os[j] = c at q1 HT HM
            have g1 : (0 : Int) ≤ (j : Int) := by omega
            have g2 : (j : Int) < (os.length : Int) := by omega
            go_wp2_with fail
            refine (isown_any _ _).mono ?_
            rintro e w2 ⟨rfl, rfl⟩
            cases hin : ownB c
            · have HI := hideP hin
              clear hin
              go_wp2_with fail
              go_ret
              exact ⟨ret_int (by rw [HC.out, HE.out, HM.out HI.out]; rfl), HB.out⟩
            · have HI := hideP hin
              clear hin
              go_wp2_with fail
              go_roundw
              case rel => exact ⟨j + 1, by omega, by go_num, by rw [HT.out, HO.out, HI.out]; rfl, trivial⟩
              case measure => simp [intOf]; omega
          · have HA := hideP (show os.all ownB = true by have := HO.out; rwa [List.take_of_length_le (by omega)] at this)
            go_wp2_with fail
            go_ret
            exact ⟨ret_int (by rw [HC.out, HE.out, HA.out]; rfl), HB.out⟩
  · have e1 : ((os.length : Int) != ((cs.length : Int) + 1)) = true := by simp; omega
    have HC := hideP (show chkM cs os = 3 by unfold chkM; rw [if_neg h12, if_pos hl])
    clear hl h12
    go_wp2_with fail
    go_ret
    exact ⟨ret_int (by rw [HC.out]), b0⟩
end Go.Proofs.YtefdipjhjgmokaaGreatDoor

set_option linter.unusedVariables false
set_option linter.unusedSimpArgs false
namespace Go.Proofs.YtefdipjhjgmokaaGreatDoor
open Go.RowKit

set_option maxHeartbeats 1000000 in
theorem checkOp_any (o : Opr) (w : World) :
    Calls Tryz.prog 161 #[opV o] w fun e w' => e = .returned (.int .i64 (chkO o)) ∧ Below w.heap.size w w' := by
  obtain ⟨kd, key, src, n⟩ := o
  unfold opV
  have HB := (Below.refl w.heap.size w).alloc (Nat.le_refl _) (.cells #[.int .i64 kd, .string key, .string src, .int .i64 n] 71)
  by_cases h1 : kd < 1
  · go_enter Tryz.func161, Tryz.ntmps161
    go_wp2_with fail
    go_ret
    exact ⟨ret_int (by simp [chkO, h1]), HB⟩
  by_cases h2 : 5 < kd
  · go_enter Tryz.func161, Tryz.ntmps161
    go_wp2_with fail
    go_ret
    exact ⟨ret_int (by simp [chkO, h1, h2]), HB⟩
  cases hK : keyB key
  · go_enter Tryz.func161, Tryz.ntmps161
    go_wp2_with fail
    refine (key_any _ _).mono ?_
    rintro e w' ⟨rfl, rfl⟩
    go_wp2_with fail
    go_ret
    exact ⟨ret_int (by simp [chkO, h1, h2, hK]), HB⟩
  by_cases h3 : kd = 3 ∨ kd = 5
  · cases hS : keyB src
    · have hc : chkO ⟨kd, key, src, n⟩ = 3 := by simp [chkO, h1, h2, hK, hS, h3]
      have HC := hideP hc
      clear hc
      rcases h3 with rfl | rfl
      all_goals
        go_enter Tryz.func161, Tryz.ntmps161
        go_wp2_with fail
        refine (key_any _ _).mono ?_
        rintro e w' ⟨rfl, rfl⟩
        go_wp2_with fail
        refine (key_any _ _).mono ?_
        rintro e w' ⟨rfl, rfl⟩
        go_wp2_with fail
        go_ret
        exact ⟨ret_int HC.out.symm, HB⟩
    by_cases hE : src = key
    · have hc : chkO ⟨kd, key, src, n⟩ = 3 := by simp [chkO, h1, h2, hK, h3, hE]
      have HC := hideP hc
      clear hc
      have d1 : (src.toList == key.toList) = true := by simp [hE]
      clear hE
      rcases h3 with rfl | rfl
      all_goals
        go_enter Tryz.func161, Tryz.ntmps161
        go_wp2_with fail
        refine (key_any _ _).mono ?_
        rintro e w' ⟨rfl, rfl⟩
        go_wp2_with fail
        refine (key_any _ _).mono ?_
        rintro e w' ⟨rfl, rfl⟩
        go_wp2_with fail
        go_ret
        exact ⟨ret_int HC.out.symm, HB⟩
    have d1 := bytes_ne hE
    rcases h3 with rfl | rfl
    · have HC := hideP (show chkO ⟨3, key, src, n⟩ = 0 by simp [chkO, hK, hS, hE])
      clear hE
      go_enter Tryz.func161, Tryz.ntmps161
      go_wp2_with fail
      refine (key_any _ _).mono ?_
      rintro e w' ⟨rfl, rfl⟩
      go_wp2_with fail
      refine (key_any _ _).mono ?_
      rintro e w' ⟨rfl, rfl⟩
      go_wp2_with fail
      go_ret
      exact ⟨ret_int HC.out.symm, HB⟩
    cases hV : valB n
    · have HC := hideP (show chkO ⟨5, key, src, n⟩ = 1 by simp [chkO, hK, hS, hE, hV])
      clear hE
      go_enter Tryz.func161, Tryz.ntmps161
      go_wp2_with fail
      refine (key_any _ _).mono ?_
      rintro e w' ⟨rfl, rfl⟩
      go_wp2_with fail
      refine (key_any _ _).mono ?_
      rintro e w' ⟨rfl, rfl⟩
      go_wp2_with fail
      refine (value_any _ _).mono ?_
      rintro e w' ⟨rfl, rfl⟩
      go_wp2_with fail
      go_ret
      exact ⟨ret_int HC.out.symm, HB⟩
    by_cases hN : n < 0
    · have HC := hideP (show chkO ⟨5, key, src, n⟩ = 1 by simp [chkO, hK, hS, hE, hV, hN])
      clear hE
      go_enter Tryz.func161, Tryz.ntmps161
      go_wp2_with fail
      refine (key_any _ _).mono ?_
      rintro e w' ⟨rfl, rfl⟩
      go_wp2_with fail
      refine (key_any _ _).mono ?_
      rintro e w' ⟨rfl, rfl⟩
      go_wp2_with fail
      refine (value_any _ _).mono ?_
      rintro e w' ⟨rfl, rfl⟩
      go_wp2_with fail
      go_ret
      exact ⟨ret_int HC.out.symm, HB⟩
    · have HC := hideP (show chkO ⟨5, key, src, n⟩ = 0 by simp [chkO, hK, hS, hE, hV, hN])
      clear hE
      go_enter Tryz.func161, Tryz.ntmps161
      go_wp2_with fail
      refine (key_any _ _).mono ?_
      rintro e w' ⟨rfl, rfl⟩
      go_wp2_with fail
      refine (key_any _ _).mono ?_
      rintro e w' ⟨rfl, rfl⟩
      go_wp2_with fail
      refine (value_any _ _).mono ?_
      rintro e w' ⟨rfl, rfl⟩
      go_wp2_with fail
      go_ret
      exact ⟨ret_int HC.out.symm, HB⟩
  · have h4 : kd = 1 ∨ kd = 2 ∨ kd = 4 := by omega
    cases hV : valB n
    · have HC := hideP (show chkO ⟨kd, key, src, n⟩ = 1 by simp [chkO, h1, h2, hK, hV]; omega)
      clear h3
      rcases h4 with rfl | rfl | rfl
      all_goals
        go_enter Tryz.func161, Tryz.ntmps161
        go_wp2_with fail
        refine (key_any _ _).mono ?_
        rintro e w' ⟨rfl, rfl⟩
        go_wp2_with fail
        refine (value_any _ _).mono ?_
        rintro e w' ⟨rfl, rfl⟩
        go_wp2_with fail
        go_ret
        exact ⟨ret_int HC.out.symm, HB⟩
    · have HC := hideP (show chkO ⟨kd, key, src, n⟩ = 0 by simp [chkO, h1, h2, hK, hV]; omega)
      clear h3
      rcases h4 with rfl | rfl | rfl
      all_goals
        go_enter Tryz.func161, Tryz.ntmps161
        go_wp2_with fail
        refine (key_any _ _).mono ?_
        rintro e w' ⟨rfl, rfl⟩
        go_wp2_with fail
        refine (value_any _ _).mono ?_
        rintro e w' ⟨rfl, rfl⟩
        go_wp2_with fail
        go_ret
        exact ⟨ret_int HC.out.symm, HB⟩

end Go.Proofs.YtefdipjhjgmokaaGreatDoor

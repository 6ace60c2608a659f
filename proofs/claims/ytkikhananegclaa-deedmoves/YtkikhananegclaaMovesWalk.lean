/-
  rokeep.DeedMoves: the law answers true.
-/
import Derived.Test.YtkikhananegclaaWritesWalk
import Derived.Laws.OwnMore
set_option linter.unusedVariables false
set_option linter.unusedSimpArgs false
namespace Go.Proofs.Ytkikhananegclaa
open Go.RowKit

/-- what the law makes of an operation: a Move, unless it is a Need -/
def mvO (o : Opr) : Opr := if o.kind = 4 then o else ⟨5, o.key, if o.src = ByteArray.empty then kq else o.src, o.n⟩

theorem keysL_ne : ∀ k ∈ keysL, k ≠ ByteArray.empty := fun k hk e => by
  have := keysL_ok k hk
  rw [e] at this
  exact absurd this (by decide +kernel)
theorem mvO_ok {o : Opr} (h : GoodO o) : chkO (mvO o) = 0 ∧ ((mvO o).kind = 4 ∨ (mvO o).kind = 5) := by
  unfold mvO
  by_cases h4 : o.kind = 4
  · rw [if_pos h4]; exact ⟨h.chk, .inl h4⟩
  · rw [if_neg h4]
    refine ⟨chkO_zero.2 ⟨by simp only; omega, by simp only; omega, keysL_ok _ h.key, fun _ => ?_, fun _ => valB_iff.2 (by have := h.n; simp only; omega), fun _ => h.n.1⟩, .inr rfl⟩
    simp only
    by_cases he : o.src = ByteArray.empty
    · rw [if_pos he]; exact ⟨kq_ok, fun e => kq_not (e ▸ h.key)⟩
    · rw [if_neg he]
      have h35 : o.kind = 3 ∨ o.kind = 5 := by
        by_cases h35 : o.kind = 3 ∨ o.kind = 5
        · exact h35
        · exact absurd (h.nosrc h35) he
      exact ⟨(h.src h35).1.elim (keysL_ok _) (fun e => e ▸ kq_ok), (h.src h35).2⟩
/-- the first i operations turned -/
def mvL (d : List Opr) (i : Nat) : List Opr := (d.take i).map mvO ++ d.drop i
theorem mvL_len (d : List Opr) (i : Nat) : (mvL d i).length = d.length := by unfold mvL; simp; omega
theorem mvL_zero (d : List Opr) : mvL d 0 = d := by simp [mvL]
theorem set_same {l : List Opr} {i : Nat} {p : Opr} (h : l[i]? = some p) : l.set i p = l := by
  apply List.ext_getElem?
  intro k
  by_cases e : i = k
  · subst e; rw [List.getElem?_set_self (by rcases Nat.lt_or_ge i l.length with h' | h'; exact h'; rw [List.getElem?_eq_none h'] at h; cases h), h]
  · rw [List.getElem?_set_ne e]
theorem mvL_all (d : List Opr) {i : Nat} (h : d.length ≤ i) : mvL d i = d.map mvO := by unfold mvL; rw [List.take_of_length_le h, List.drop_of_length_le h]; simp
theorem mvL_get {d : List Opr} {i : Nat} (h : i < d.length) : (mvL d i)[i]? = some d[i] := by
  unfold mvL
  rw [List.getElem?_append_right (by simp; omega)]
  simp [h, Nat.min_eq_left (Nat.le_of_lt h)]
theorem mvL_next {d : List Opr} {i : Nat} (h : i < d.length) : (mvL d i).set i (mvO d[i]) = mvL d (i + 1) := by
  unfold mvL
  rw [List.set_append_right _ _ (by simp; omega), List.take_succ_eq_append_getElem h, List.map_append, List.append_assoc]
  congr 1
  simp only [List.length_map, List.length_take, Nat.min_eq_left (Nat.le_of_lt h), Nat.sub_self]
  rw [List.drop_eq_getElem_cons h]
  rfl
theorem opCells_set {l : List Opr} {i : Nat} {p : Opr} (h : l[i]? = some p) (k : Int) : (opCells l).set (i * 4) (.int .i64 k) = opCells (l.set i ⟨k, p.key, p.src, p.n⟩) := by
  induction l generalizing i with
  | nil => simp at h
  | cons q r ih =>
    cases i with
    | zero => simp at h; subst h; simp [opCells]
    | succ i => simp at h; have := ih h; rw [show (i + 1) * 4 = i * 4 + 1 + 1 + 1 + 1 by omega]; simp [opCells, this]
theorem opCells_set2 {l : List Opr} {i : Nat} {p : Opr} (h : l[i]? = some p) (s : ByteArray) : (opCells l).set (i * 4 + 2) (.string s) = opCells (l.set i ⟨p.kind, p.key, s, p.n⟩) := by
  induction l generalizing i with
  | nil => simp at h
  | cons q r ih =>
    cases i with
    | zero => simp at h; subst h; simp [opCells]
    | succ i => simp at h; have := ih h; rw [show (i + 1) * 4 + 2 = (i * 4 + 2) + 1 + 1 + 1 + 1 by omega]; simp [opCells, this]
theorem SV.other {w : World} {A : Option Addr} {c : Nat} {l : List Pr} (h : SV w A c l) {a : Addr} (hne : l ≠ [] → blk A ≠ some a.block) (v : Value) : SV (w.setCell a v) A c l := by
  refine ⟨fun i p hp => ?_, h.le, h.cap, h.none_, h.lit⟩
  obtain ⟨b, o, e, hlt, h1, h2⟩ := h.ps i p hp
  have hb : b ≠ a.block := fun e2 => hne (by rintro rfl; simp at hp) (by rw [e, ← e2]; rfl)
  have hk := Below.heap_setCell w a v b hb
  exact ⟨b, o, e, by simpa [World.setCell] using hlt, (World.cell?_of_block (w := w) hk).trans h1, (World.cell?_of_block (w := w) hk).trans h2⟩
theorem VS.other {w : World} {A : Option Addr} {vs : List Value} (h : VS w A vs) {a : Addr} (hne : blk A ≠ some a.block) (v : Value) : VS (w.setCell a v) A vs := fun i p hp => by
  obtain ⟨b, o, e, hlt, h1⟩ := h i p hp
  have hb : b ≠ a.block := fun e2 => hne (by rw [e, ← e2]; rfl)
  exact ⟨b, o, e, by simpa [World.setCell] using hlt, (World.cell?_of_block (w := w) (Below.heap_setCell w a v b hb)).trans h1⟩
theorem OO.other {w : World} {B : Nat} {D : Option Addr} {c : Nat} {d : List Opr} (h : OO w B D c d) {a : Addr} (hne : blk D ≠ some a.block) (v : Value) : OO (w.setCell a v) B D c d := ownsRow_setCell_other h (by rw [ownBlock_slice]; exact hne) v
/-- what is kept while the operations of the transaction at block g are turned -/
structure Keep (ds : List Dl) (Ad : Option Addr) (B N k g : Nat) (A : Option Addr) (c : Nat) (l : List Pr) (w wr : World) : Prop where
  sv : SV wr A c l
  vs : VS wr Ad (ds.map dlV)
  oo : ∀ x ∈ ds.drop (k + 1), OO wr B x.D x.c x.d
  be : Below w.heap.size w wr
  sz : N ≤ wr.heap.size
theorem Keep.set {ds : List Dl} {Ad : Option Addr} {B N k g : Nat} {A : Option Addr} {c : Nat} {l : List Pr} {w wr : World} (h : Keep ds Ad B N k g A c l w wr) (j : Nat) (v : Value) (h1 : l ≠ [] → blk A ≠ some g) (h2 : blk Ad ≠ some g) (h3 : ∀ x ∈ ds.drop (k + 1), blk x.D ≠ some g) (h4 : w.heap.size ≤ g) : Keep ds Ad B N k g A c l w (wr.setCell ⟨g, j, none⟩ v) :=
  ⟨h.sv.other h1 v, h.vs.other h2 v, fun x hx => (h.oo x hx).other (h3 x hx) v, h.be.setCell (p := ⟨g, j, none⟩) h4 v, by simpa [World.setCell] using h.sz⟩
theorem Keep.below {ds : List Dl} {Ad : Option Addr} {B N k g : Nat} {A : Option Addr} {c : Nat} {l : List Pr} {w wr w' : World} (h : Keep ds Ad B N k g A c l w wr) (hb : Below wr.heap.size wr w') : Keep ds Ad B N k g A c l w w' :=
  ⟨h.sv.below hb, h.vs.below hb, fun x hx => (h.oo x hx).below hb, h.be.trans (hb.mono h.be.size), Nat.le_trans h.sz hb.size⟩
/-- while the transactions are executed -/
def MvInv (w : World) (ds : List Dl) (Ad : Option Addr) (B N : Nat) (S : Int) (s i : Value) (wr : World) : Prop :=
  ∃ (k : Nat) (A : Option Addr) (c : Nat) (l : List Pr), k ≤ ds.length ∧ i = .int .i64 k ∧ s = .slice A l.length c ∧ Ok l ∧ sumI l = S ∧ (l ≠ [] → ∀ x ∈ ds, blk A ≠ blk x.D) ∧ SV wr A c l ∧ VS wr Ad (ds.map dlV) ∧ (∀ x ∈ ds.drop k, OO wr B x.D x.c x.d) ∧ Below w.heap.size w wr ∧ N ≤ wr.heap.size
/-- while the operations of one are turned -/
def TurnInv (w : World) (ds : List Dl) (Ad : Option Addr) (B N k g : Nat) (A : Option Addr) (c : Nat) (l : List Pr) (cx : Nat) (dx : List Opr) (bx : Nat) (i : Value) (wr : World) : Prop :=
  ∃ j : Nat, j ≤ dx.length ∧ i = .int .i64 j ∧ OO wr B (some ⟨g, 0, none⟩) cx (mvL dx j) ∧ Box wr bx 31 #[.slice (some ⟨g, 0, none⟩) dx.length cx] ∧ Keep ds Ad B N k g A c l w wr
theorem OO.setKind {w : World} {B g c : Nat} {d : List Opr} (h : OO w B (some ⟨g, 0, none⟩) c d) {i : Nat} {p : Opr} (hp : d[i]? = some p) (k : Int) : OO (w.setCell ⟨g, i * 4, none⟩ (.int .i64 k)) B (some ⟨g, 0, none⟩) c (d.set i ⟨k, p.key, p.src, p.n⟩) := by
  have := (World.ownsRow.stored h (i * 4) (.int .i64 k)).1
  rw [opCells_set hp] at this
  unfold OO
  rw [List.length_set]
  exact this
theorem OO.setSrc {w : World} {B g c : Nat} {d : List Opr} (h : OO w B (some ⟨g, 0, none⟩) c d) {i : Nat} {p : Opr} (hp : d[i]? = some p) (s : ByteArray) : OO (w.setCell ⟨g, i * 4 + 2, none⟩ (.string s)) B (some ⟨g, 0, none⟩) c (d.set i ⟨p.kind, p.key, s, p.n⟩) := by
  have := (World.ownsRow.stored h (i * 4 + 2) (.string s)).1
  rw [opCells_set2 hp] at this
  unfold OO
  rw [List.length_set]
  exact this

set_option maxHeartbeats 2000000 in
set_option maxRecDepth 100000 in
theorem moves_any (A A2 : Option Addr) (c c2 : Nat) (zs : List Int) (cs : List Cl) (w : World) (hA : IS w A zs) (hl : zs.length ≤ c) (hc : c ≤ 9223372036854775807) (hn : A = none → c = 0)
    (hL : LS w A2 cs) (hl2 : cs.length ≤ c2) (hc2 : c2 ≤ 9223372036854775807) (hn2 : A2 = none → c2 = 0) :
    Calls Try.prog 5 #[.slice A zs.length c, .slice A2 cs.length c2] w fun e w' => e = .returned (.bool true) ∧ Below w.heap.size w w' := by
  go_enter Try.func5, Try.ntmps5
  go_wp2_with fail
  refine (dbegun_any _).mono ?_
  rintro e w1 ⟨rfl, hb1⟩
  have hA1 := hA.below hb1
  have hL1 := hL.below hb1
  clear hA hL
  go_wp2_with fail
  refine (pairs_any A c zs _ hA1 hl hc hn).mono ?_
  rintro e w2 ⟨As, cs', s, rfl, hs, hsm, hb2⟩
  have hb3 := hb1.trans (hb2.mono hb1.size)
  have hL2 := hL1.below hb2
  have hok := hsm.ok
  clear hb1 hb2 hA1 hL1 hn hsm
  have hssm := hok.small
  go_wp2_with fail
  refine (total_ok As cs' s _ hs (by omega) hok).mono ?_
  rintro e w2' ⟨rfl, hb2'⟩
  have hb3' := hb3.trans (hb2'.mono hb3.size)
  have hL2' := hL2.below hb2'
  have hs' := hs.below hb2'
  clear hb3 hb2' hL2 hs
  go_wp2_with fail
  refine (deeds_any A2 c2 10 cs _ hL2' hl2 hc2 hn2 (by omega)).mono ?_
  rintro e w3 ⟨Ad, cd, ds, rfl, hD, hdl, hb4⟩
  have hb5 := hb3'.trans (hb4.mono hb3'.size)
  have hs3 := hs'.below hb4
  have hbx : w.heap.size ≤ w2'.heap.size := hb3'.size
  have hsp : (∀ x ∈ ds, OO w3 w2'.heap.size x.D x.c x.d) → s ≠ [] → ∀ x ∈ ds, blk As ≠ blk x.D := fun hoo hne x hx e => by
    cases s with
    | nil => exact hne rfl
    | cons p r =>
      obtain ⟨b, o, rfl, hlt, _⟩ := hs'.ps 0 p rfl
      have := ((hoo x hx).lt (k := b) (by rw [← e]; rfl)).1
      omega
  clear hb3' hb4 hs' hL2' hn2
  go_wp2_with fail
  have hbase : w.heap.size ≤ w2'.heap.size := by have := hb5; exact hbx
  clear hbx
  have hvs3 := hD.or.vs
  have hap := hD.ap
  have hpw := hD.pw
  have hgood := hD.good
  have hoo3 := hD.oo
  have hsep : s ≠ [] → ∀ x ∈ ds, blk As ≠ blk x.D := hsp hoo3
  have hfar : ∀ x ∈ ds, ∀ k, blk x.D = some k → k < w3.heap.size := fun x hx k hk => ((hoo3 x hx).lt hk).2
  clear hsp hD
  rw [sumW_eq hok]
  generalize hS : sumI s = S
  have HS := hideP hS
  clear hS
  go_loopw [5, 31] (MvInv w ds Ad w2'.heap.size w3.heap.size S) (fun _ i _ => ds.length - (intOf i).toNat)
  case atStart => exact ⟨0, As, cs', s, Nat.zero_le _, rfl, rfl, hok, HS.out, hsep, hs3, hvs3, by simpa using hoo3, hb5, Nat.le_refl _⟩
  case round =>
    obtain ⟨k, Ak, ck, lk, hk, rfl, rfl, hokk, hsum, hsepk, hsvk, hvsk, hook, hb, hwo⟩ := hrel
    obtain ⟨wo, rfl⟩ : ∃ wo, wo = wr := ⟨_, rfl⟩
    have HSUM := hideP hsum
    clear hsum hs3 hvs3 hoo3 hsep hb5 hok
    have hlk := hokk.small
    by_cases hlt : k < ds.length
    · obtain ⟨b, o, rfl, hbl, q1⟩ := hvsk k (dlV ds[k]) (by simp [hlt])
      have hmem := List.getElem_mem hlt
      have hgx := hgood _ hmem
      have hox := hook ds[k] (by rw [List.drop_eq_getElem_cons hlt]; exact List.mem_cons_self)
      have hoor : ∀ x ∈ ds.drop (k + 1), OO wo w2'.heap.size x.D x.c x.d := fun x hx => hook x (by rw [List.drop_eq_getElem_cons hlt]; exact List.mem_cons_of_mem _ hx)
      have hapx := hap _ hmem
      have hpwx : ∀ x ∈ ds.drop (k + 1), blk x.D ≠ blk (ds[k]).D := fun x hx => by
        obtain ⟨j, hj, rfl⟩ := List.mem_iff_getElem.1 hx
        rw [List.getElem_drop]
        rw [List.length_drop] at hj
        exact fun e => List.pairwise_iff_getElem.1 hpw k (k + 1 + j) hlt (by omega) (by omega) e.symm
      have hsepx : lk ≠ [] → blk Ak ≠ blk (ds[k]).D := fun h => hsepk h _ hmem
      generalize ds[k] = x at q1 hgx hox hapx hpwx hsepx
      obtain ⟨Dx, cx, dx⟩ := x
      simp only [dlV] at q1
      simp only at hgx hox hapx hpwx hsepx
      obtain ⟨g, hg⟩ := hox.some_ (by rintro rfl; simp at hgx)
      have hgl := hox.lt hg
      obtain ⟨gg, cap, hv, _, _⟩ := World.ownsRow.form hox (by omega)
      injection hv with e1 _ e3
      subst e1
      subst e3
      obtain rfl : gg = g := by simpa [blk] using hg
      rw [hg] at hapx hpwx hsepx
      clear hg hmem hook
      have hKe : Keep ds (some ⟨b, o, none⟩) w2'.heap.size w3.heap.size k gg Ak ck lk w (wo.alloc (.cells #[.slice (some ⟨gg, 0, none⟩) dx.length cx] 31)) := Keep.below ⟨hsvk, hvsk, hoor, hb, hwo⟩ ((Below.refl _ _).alloc (Nat.le_refl _) _)
      have hOx := hox.below ((Below.refl _ _).alloc (Nat.le_refl _) (.cells #[.slice (some ⟨gg, 0, none⟩) dx.length cx] 31))
      have hbx := Box.new wo 31 #[.slice (some ⟨gg, 0, none⟩) dx.length cx]
      go_wp2_with fail
      generalize wo.alloc (.cells #[.slice (some ⟨gg, 0, none⟩) dx.length cx] 31) = w5 at hKe hOx hbx ⊢
      have hdx8 : dx.length ≤ 4 := hgx.2.2
      have hgood2 := hideP hgx.1
      have h5g : w.heap.size ≤ gg := Nat.le_trans hbase hgl.1
      have hbx0 : wo.heap.size ≠ gg := by have := hgl.2; omega
      have hrow : ∀ x ∈ dx.map mvO, chkO x = 0 ∧ (x.kind = 4 ∨ x.kind = 5) := fun x hx => by
        obtain ⟨y, hy, rfl⟩ := List.mem_map.1 hx
        exact mvO_ok (hgx.1 y hy)
      have HROW := hideP hrow
      have hcd : chkD (dx.map mvO) = 0 := chkD_zero.2 ⟨by have := hgx.2.1; simpa using this, by simp; omega, fun x hx => (hrow x hx).1⟩
      clear hgx hrow hox hsvk hvsk hoor hb hgl
      obtain ⟨gb, hgb⟩ : ∃ gb, gb = wo.heap.size := ⟨_, rfl⟩
      rw [← hgb] at hbx hbx0 ⊢
      clear hgb
      go_loopw [38] (TurnInv w ds (some ⟨b, o, none⟩) w2'.heap.size w3.heap.size k gg Ak ck lk cx dx gb) (fun i _ => dx.length - (intOf i).toNat)
      case atStart => exact ⟨0, Nat.zero_le _, rfl, by rw [mvL_zero]; exact hOx, hbx, hKe⟩
      case round =>
        obtain ⟨j, hj, rfl, hOj, hbj, hKj⟩ := hrel
        have hcj := hbj.cell 0 (v := .slice (some ⟨gg, 0, none⟩) dx.length cx) rfl
        by_cases hjl : j < dx.length
        · have hget := mvL_get hjl
          have hnx := mvL_next hjl
          have hGO := hideP (hgood2.out _ (List.getElem_mem hjl))
          generalize dx[j] = p at hget hnx hGO
          obtain ⟨r1, r2, r3, r4⟩ := opCells_get _ j p hget
          have hln := mvL_len dx j
          have c1 := (World.ownsRow.cellAt hOj (j * 4) (by omega)).trans r1
          have c3 := (World.ownsRow.cellAt hOj (j * 4 + 2) (by omega)).trans r3
          have f1 := World.ownsRow.frozenAt hOj (j * 4)
          have f3 := World.ownsRow.frozenAt hOj (j * 4 + 2)
          have HNX := hideP hnx
          have HGET := hideP hget
          have g1 : (0 : Int) ≤ (j : Int) := by omega
          have g2 : (j : Int) < (dx.length : Int) := by omega
          clear r1 r2 r3 r4 hnx hget hln
          by_cases h4 : p.kind = 4
          · have HM := hideP (show mvL dx (j + 1) = mvL dx j by rw [← HNX.out, show mvO p = p by simp [mvO, h4]]; exact set_same HGET.out)
            have d4 : (p.kind != 4) = false := by simp [h4]
            clear h4
            go_wp2_with fail
            go_roundw
            case rel => exact ⟨j + 1, by omega, by go_num, by rw [HM.out]; exact hOj, hbj, hKj⟩
            case measure => simp [intOf]; omega
          · have d4 : (p.kind != 4) = true := by simp [h4]
            have hO1 := hOj.setKind HGET.out 5
            have hb1 := hbj.other (a := ⟨gg, j * 4, none⟩) (fun e => hbx0 e.symm) (.int .i64 5)
            have hK1 := hKj.set (j * 4) (.int .i64 5) hsepx (fun e => hapx e.symm) hpwx h5g
            by_cases he : p.src = ByteArray.empty
            · have HM := hideP (show (mvL dx j).set j ⟨5, p.key, kq, p.n⟩ = mvL dx (j + 1) by rw [← HNX.out]; simp [mvO, h4, he])
              have de : (p.src.toList == []) = true := by rw [he, ByteArray.toList_eq]; rfl
              have hset : ((mvL dx j).set j (⟨5, p.key, p.src, p.n⟩ : Opr))[j]? = some ⟨5, p.key, p.src, p.n⟩ := by
                rw [List.getElem?_set_self]; rw [mvL_len]; exact hjl
              have hO2 := hO1.setSrc hset kq
              rw [List.set_set] at hO2
              have hb2 := hb1.other (a := ⟨gg, j * 4 + 2, none⟩) (fun e => hbx0 e.symm) (.string kq)
              have hK2 := hK1.set (j * 4 + 2) (.string kq) hsepx (fun e => hapx e.symm) hpwx h5g
              simp only at hO2
              rw [HM.out] at hO2
              clear h4 he hset
              go_wp2_with fail
              go_roundw
              case rel => exact ⟨j + 1, by omega, by go_num, hO2, hb2, hK2⟩
              case measure => simp [intOf]; omega
            · have HM := hideP (show (mvL dx j).set j ⟨5, p.key, p.src, p.n⟩ = mvL dx (j + 1) by rw [← HNX.out]; simp [mvO, h4, he])
              have de : (p.src.toList == []) = false := by have := bytes_ne he; rw [ByteArray.toList_eq ByteArray.empty] at this; exact this
              rw [HM.out] at hO1
              clear h4 he
              go_wp2_with fail
              go_roundw
              case rel => exact ⟨j + 1, by omega, by go_num, hO1, hb1, hK1⟩
              case measure => simp [intOf]; omega
        · rw [mvL_all dx (by omega)] at hOj
          have hosj := hOj.os
          have hlen : (dx.map mvO).length = dx.length := by simp
          have hrun := rrun_ok Ak (some ⟨gg, 0, none⟩) ck cx lk (dx.map mvO) wr hKj.sv hokk hosj hcd
          rw [hlen] at hrun
          have hjl2 := Nat.le_refl dx.length
          go_wp2_with fail
          refine hrun.mono ?_
          rintro e w6 ⟨A6, c6, l6, rfl, hO6, hok6, hv6, hb6⟩
          have hsum6 := hideP ((sumW_eq hok6).trans ((doneV_total HROW.out hokk hok6 hv6).trans HSUM.out))
          have hK6 := hKj.below hb6
          have hs6 := hO6.sv
          have hsep6 : l6 ≠ [] → ∀ x ∈ ds, blk A6 ≠ blk x.D := fun hne x hx e => by
            cases l6 with
            | nil => exact hne rfl
            | cons p r =>
              obtain ⟨bb, oo, hAA, _, _⟩ := hs6.ps 0 p rfl
              have h1 := (World.ownsRow.lt hO6 bb (by rw [ownBlock_slice, hAA]; rfl)).1
              have h2 := hfar x hx bb (by rw [← e, hAA]; rfl)
              have h3 := hKj.sz
              omega
          have hl6 := hok6.small
          clear hv6 hO6 hrun
          generalize (doneV (valOf lk) (dx.map mvO)).2 = ok
          go_wp2_with fail
          refine (total_ok A6 c6 l6 _ hs6 (by omega) hok6).mono ?_
          rintro e w7 ⟨rfl, hb7⟩
          have hK7 := hK6.below hb7
          have hs7 := hs6.below hb7
          rw [hsum6.out]
          have dS : (S != S) = false := by simp
          have HS6 := hideP (show sumI l6 = S by rw [← sumW_eq hok6]; exact hsum6.out)
          clear hK6 hs6 hKj hsum6
          go_wp2_with fail
          go_roundw
          case rel => exact ⟨k + 1, A6, c6, l6, by omega, by go_num, rfl, hok6, HS6.out, hsep6, hs7, hK7.vs, hK7.oo, hK7.be, hK7.sz⟩
          case measure => simp [intOf]; omega
    · go_wp2_with fail
      go_ret
      exact ⟨rfl, hb⟩
end Go.Proofs.Ytkikhananegclaa
